/- Several texts in one: CtxV, CtxY, ItmI. -/
import Derived.Test.YtiaehpdgpjhecaaGreatPAL
import Derived.Test.YtiaehpdgpjhecaaGreatPAH
namespace Go.Proofs.YtiaehpdgpjhecaaGreat

section
open Go.RowKit

/-- What holds of a context's box and of a second box, whatever this holds. -/
def KB1v (w0 : World) (g : Nat) (x y : Value) (L : List (Value × List (Int × Int))) (W : World) : Prop :=
  Blk2 W g x y ∧ (∃ A n c B m d, Blk2 W (g + 1) (.slice A n c) (.slice B m d)) ∧ Below w0.heap.size w0 W ∧ ∀ p ∈ L, Holds W p.1 p.2
def KC1 (w0 : World) (g : Nat) (x y : Value) (L : List (Value × List (Int × Int))) (W : World) : Prop :=
  W.cell? ⟨g, 0, none⟩ = some x ∧ W.cell? ⟨g, 1, none⟩ = some y ∧ KB1v w0 g x y L W
section
variable {w0 W W' : World} {g : Nat} {x y : Value} {L : List (Value × List (Int × Int))}
theorem KC1.mk (h : KB1v w0 g x y L W) : KC1 w0 g x y L W := ⟨h.1.cell0, h.1.cell1, h⟩
theorem KC1.kb (h : KC1 w0 g x y L W) : KB1v w0 g x y L W := h.2.2
theorem KB1v.below (h : KB1v w0 g x y L W) (hb : Below W.heap.size W W') : KB1v w0 g x y L W' := by
  obtain ⟨h1, ⟨A, n, c, B, m, d, h3⟩, h4, h5⟩ := h
  exact ⟨h1.below hb, ⟨A, n, c, B, m, d, h3.below hb⟩, below_trans h4 hb, fun p hp => (h5 p hp).below hb⟩
theorem KC1.h {v : Value} {xs : List (Int × Int)} (h : KC1 w0 g x y L W) (hm : (v, xs) ∈ L) : Holds W v xs := h.kb.2.2.2 _ hm
theorem KC1.bel (h : KC1 w0 g x y L W) : Below w0.heap.size w0 W := h.kb.2.2.1
theorem KC1.below (h : KC1 w0 g x y L W) (hb : Below W.heap.size W W') : KC1 w0 g x y L W' := .mk (h.kb.below hb)
theorem KC1.drew (h : KC1 w0 g x y L W) : KC1 w0 g x y L W.drew := h.below (Below.refl _ W).drew
theorem KC1.store (h : KC1 w0 g x y L W) (hg : w0.heap.size ≤ g) (A : Option Addr) (n c : Nat) (B : Option Addr) (m d : Nat) : KC1 w0 g x y L ((W.setCell ⟨g + 1, 0, none⟩ (.slice A n c)).setCell ⟨g + 1, 1, none⟩ (.slice B m d)) := by
  obtain ⟨h1, ⟨A', n', c', B', m', d', h3⟩, h4, h5⟩ := h.kb
  refine .mk ⟨(h1.other (by omega) 0 _).other (by omega) 1 _, ⟨_, _, _, _, _, _, h3.set _ _⟩, below_set2 h4 (by omega) _ _, fun p hp => ?_⟩
  exact (h5 p hp).set2 h3 (by intro z; simp) (by intro z; simp)
theorem KC1.bound (h : KC1 w0 g x y L W) : g + 1 < W.heap.size ∧ w0.heap.size ≤ W.heap.size := by
  obtain ⟨A, n, c, B, m, d, h3⟩ := h.kb.2.1
  exact ⟨h3.lt, h.kb.2.2.1.size⟩
theorem KC1.second (h : KC1 w0 g x y L W) : ∃ A n c B m d, W.cell? ⟨g + 1, 0, none⟩ = some (.slice A n c) ∧ W.cell? ⟨g + 1, 1, none⟩ = some (.slice B m d) ∧ W.frozen? ⟨g + 1, 0, none⟩ = false ∧ W.frozen? ⟨g + 1, 1, none⟩ = false ∧ Blk2 W (g + 1) (.slice A n c) (.slice B m d) := by
  obtain ⟨A, n, c, B, m, d, h3⟩ := h.kb.2.1
  exact ⟨A, n, c, B, m, d, h3.cell0, h3.cell1, h3.frozen 0, h3.frozen 1, h3⟩
end

theorem dotUnion_h (v v' : Value) (xs ys zs : List (Int × Int)) (w : World) (h : Holds w v xs) (h' : Holds w v' ys) (hm : xs.length + ys.length ≤ 100000) (hz : setL (xs ++ ys) = zs) :
    Calls Tryz.prog 77 #[v, v'] w fun e w' => (∃ D d, e = .returned (.slice D zs.length d) ∧ Holds w' (.slice D zs.length d) zs) ∧ Below w.heap.size w w' := by
  obtain ⟨A, c, rfl, h1, h2, h3⟩ := h
  obtain ⟨A', c', rfl, h1', h2', h3'⟩ := h'
  refine (dotUnion A A' xs ys c c' w h1 h1' (by omega)).mono ?_
  rintro e w' ⟨v, he, hmn⟩
  rw [ordL_eq, hz] at hmn
  have hv0 := hmn.holds
  obtain ⟨D, d, rfl, _⟩ := hmn.holds
  exact ⟨⟨D, d, he, hv0⟩, hmn.2⟩
theorem okL_app {ls m : List (Int × Int)} : okL (setL (ls ++ m)) = (okL ls && okL m) := by
  rw [Bool.eq_iff_iff, Bool.and_eq_true, okL_iff, okL_iff, okL_iff]
  constructor
  · intro h
    exact ⟨fun p hp => h p (by rw [mem_setL]; simp [hp]), fun p hp => h p (by rw [mem_setL]; simp [hp])⟩
  · rintro ⟨h1, h2⟩ p hp
    rw [mem_setL, List.mem_append] at hp
    exact hp.elim (h1 p) (h2 p)
theorem valid_add {vs ls m : List (Int × Int)} (h : validC vs ls = true) : validC vs (setL (ls ++ m)) = okL m := by
  obtain ⟨h1, h2, h3⟩ := validC_iff.1 h
  unfold validC
  rw [h1, (isSetB_inc _).2 (inc_setL _), okL_app, (okL_iff ls).2 h3]
  simp

set_option maxRecDepth 100000 in
set_option maxHeartbeats 4000000 in
theorem ctxAdd (v x : Value) (vs ls m : List (Int × Int)) (w : World) (h : HoldsC w v vs ls) (hx : Holds w x m) (hm : vs.length + ls.length + m.length ≤ 3000) :
    Calls Tryz.prog 36 #[v, x] w fun e w' => CtxR (validC vs ls && okL m) (addC vs ls m).1 (addC vs ls m).2 w e w' := by
  obtain ⟨A, n, B, k, rfl, h1, h2⟩ := h
  have hal : Below w.heap.size w ((w.alloc (.cells #[.slice A vs.length n, .slice B ls.length k] 25)).alloc (.cells #[.slice none 0 0, .slice none 0 0] 25)) :=
    ((Below.refl _ w).alloc (Nat.le_refl _) _).alloc (by simp) _
  have K : KC1 w w.heap.size (.slice A vs.length n) (.slice B ls.length k) [(.slice A vs.length n, vs), (.slice B ls.length k, ls), (x, m)] ((w.alloc (.cells #[.slice A vs.length n, .slice B ls.length k] 25)).alloc (.cells #[.slice none 0 0, .slice none 0 0] 25)) := by
    refine .mk ⟨?_, ⟨none, 0, 0, none, 0, 0, ?_⟩, hal, ?_⟩
    · exact (heap_alloc_old _ _ (by simp)).trans (heap_alloc_new w _)
    · have h := heap_alloc_new (w.alloc (.cells #[.slice A vs.length n, .slice B ls.length k] 25)) (.cells #[.slice none 0 0, .slice none 0 0] 25)
      rwa [World.size_alloc] at h
    · intro p hp
      rcases List.mem_cons.1 hp with rfl | hp
      · exact h1.below hal
      · rcases List.mem_cons.1 hp with rfl | hp
        · exact h2.below hal
        · rcases List.mem_cons.1 hp with rfl | hp
          · exact hx.below hal
          · cases hp
  have KH := Lib.hid K
  have k0 := K.1
  have k1 := K.2.1
  have HM := Lib.hid hm
  clear h1 h2 hx hal K hm
  cases hv : validC vs ls with
  | false =>
    have HV := Lib.hid (ctxValid _ vs ls false _ (HoldsC.mk (KH.out.h (v := .slice A vs.length n) (xs := vs) (by simp)) (KH.out.h (v := .slice B ls.length k) (xs := ls) (by simp))) hv)
    clear hv
    go_enter Tryz.func36, Tryz.ntmps36
    go_wp2_with fail
    refine HV.out.mono ?_
    rintro e w1 ⟨rfl, hb1⟩
    have K1 := Lib.hid (KH.out.below hb1)
    obtain ⟨Ax, nx, cx, Bx, mx, dx, t0, t1, t2, t3, hB3⟩ := K1.out.second
    have HB3 := Lib.hid hB3
    clear hB3 hb1 k0 k1
    go_wp2_with fail
    have hs := HB3.out.set (.slice none 0 0) (.slice none 0 0)
    have s6 := hs.cell0
    have s7 := hs.cell1
    refine bodyPost_ret (v := .tuple #[.agg #[.slice none 0 0, .slice none 0 0], .int .i64 2]) (by simp [results, Tryz.results36, go_sem, s6, s7]) rfl ⟨⟨fun h => (by cases h), fun _ => rfl⟩, below_set2 K1.out.bel (by omega) _ _⟩
  | true =>
    have HV := Lib.hid (ctxValid _ vs ls true _ (HoldsC.mk (KH.out.h (v := .slice A vs.length n) (xs := vs) (by simp)) (KH.out.h (v := .slice B ls.length k) (xs := ls) (by simp))) hv)
    have hvz := valid_add (m := m) hv
    have hl := setL_len (ls ++ m)
    rw [List.length_append] at hl
    obtain ⟨zs, hzs⟩ : ∃ zs, setL (ls ++ m) = zs := ⟨_, rfl⟩
    obtain ⟨us, rs, hz⟩ : ∃ us rs, addC vs ls m = (us, rs) := ⟨_, _, rfl⟩
    have hz2 := hz
    unfold addC at hz2
    rw [hzs] at hvz hl hz2
    rw [hz, Bool.true_and]
    have HZS := Lib.hid hzs
    have HL := Lib.hid hl
    cases hok : okL m with
    | false =>
      rw [hok] at hvz
      have HC := Lib.hid fun v W (h : HoldsC W v vs zs) => ctxCompact_f v vs zs W h hvz (by have := HM.out; have := HL.out; omega)
      clear hv hvz hl hzs hz hz2 hok
      go_enter Tryz.func36, Tryz.ntmps36
      go_wp2_with fail
      refine HV.out.mono ?_
      rintro e w1 ⟨rfl, hb1⟩
      have K1 := KH.out.below hb1
      clear hb1 k0 k1
      go_wp2_with fail
      obtain ⟨q0, q1, q2⟩ := id K1
      go_region_held3 (fun W => W.cell? ⟨w.heap.size, 0, none⟩ = some (.slice A vs.length n) ∧ W.cell? ⟨w.heap.size, 1, none⟩ = some (.slice B ls.length k) ∧ KB1v w w.heap.size (.slice A vs.length n) (.slice B ls.length k) [(.slice A vs.length n, vs), (.slice B ls.length k, ls), (x, m)] W)
        (first
          | assumption
          | (exact KC1.drew (by assumption))
          | (exact KC1.store (by assumption) (Nat.le_refl _) _ _ _ _ _ _))
        (first
          | (go_at_call 77; refine (dotUnion_h _ _ ls m zs _ (KC1.h (by assumption) (by simp)) (KC1.h (by assumption) (by simp)) (by have := HM.out; omega) HZS.out).mono ?_
             rintro e wb ⟨⟨D4, d4, rfl, hv4⟩, hb1⟩
             have hS2 := KC1.below (by assumption) hb1
             clear hb1
             obtain ⟨s0, s1, s2⟩ := id hS2)
          | (go_at_call 76; refine (HC.out _ _ (HoldsC.mk (KC1.h (L := [(.slice A vs.length n, vs), (.slice B ls.length k, ls), (x, m)]) (by assumption) (by simp)) (by first | exact hv4 | exact hv4.drew))).mono ?_
             rintro e wc ⟨rfl, hb1⟩
             have hS3 := KC1.below (by assumption) hb1
             clear hb1
             obtain ⟨Ax, nx, cx, Bx, mx, dx, t0, t1, t2, t3, hB3⟩ := hS3.second
             obtain ⟨u0, u1, u2⟩ := id hS3))
      all_goals
        go_wp2_with fail
        have hs := hB3.set (.slice none 0 0) (.slice none 0 0)
        have s6 := hs.cell0
        have s7 := hs.cell1
        refine bodyPost_ret (v := .tuple #[.agg #[.slice none 0 0, .slice none 0 0], .int .i64 2]) (by simp [results, Tryz.results36, go_sem, s6, s7]) rfl ⟨⟨fun h => (by cases h), fun _ => rfl⟩, below_set2 hS3.bel (by omega) _ _⟩
    | true =>
      rw [hok] at hvz
      have HC := Lib.hid fun v W (h : HoldsC W v vs zs) => ctxCompact_t v vs zs us rs W h hvz (by have := HM.out; have := HL.out; omega) hz2
      clear hv hvz hl hzs hz hz2 hok
      go_enter Tryz.func36, Tryz.ntmps36
      go_wp2_with fail
      refine HV.out.mono ?_
      rintro e w1 ⟨rfl, hb1⟩
      have K1 := KH.out.below hb1
      clear hb1 k0 k1
      go_wp2_with fail
      obtain ⟨q0, q1, q2⟩ := id K1
      go_region_held3 (fun W => W.cell? ⟨w.heap.size, 0, none⟩ = some (.slice A vs.length n) ∧ W.cell? ⟨w.heap.size, 1, none⟩ = some (.slice B ls.length k) ∧ KB1v w w.heap.size (.slice A vs.length n) (.slice B ls.length k) [(.slice A vs.length n, vs), (.slice B ls.length k, ls), (x, m)] W)
        (first
          | assumption
          | (exact KC1.drew (by assumption))
          | (exact KC1.store (by assumption) (Nat.le_refl _) _ _ _ _ _ _))
        (first
          | (go_at_call 77; refine (dotUnion_h _ _ ls m zs _ (KC1.h (by assumption) (by simp)) (KC1.h (by assumption) (by simp)) (by have := HM.out; omega) HZS.out).mono ?_
             rintro e wb ⟨⟨D4, d4, rfl, hv4⟩, hb1⟩
             have hS2 := KC1.below (by assumption) hb1
             clear hb1
             obtain ⟨s0, s1, s2⟩ := id hS2)
          | (go_at_call 76; refine (HC.out _ _ (HoldsC.mk (KC1.h (L := [(.slice A vs.length n, vs), (.slice B ls.length k, ls), (x, m)]) (by assumption) (by simp)) (by first | exact hv4 | exact hv4.drew))).mono ?_
             rintro e wc ⟨⟨A5, n5, B5, m5, rfl, hv5, hv6⟩, hb1⟩
             have hsz5 := KC1.bound (w0 := w) (g := w.heap.size) (by assumption)
             have hS3 := KC1.below (by assumption) hb1
             clear hb1
             obtain ⟨Ax, nx, cx, Bx, mx, dx, t0, t1, t2, t3, hB3⟩ := hS3.second
             obtain ⟨u0, u1, u2⟩ := id hS3))
      all_goals
        go_wp2_with fail
        have hs := hB3.set (.slice A5 us.length n5) (.slice B5 rs.length m5)
        have s6 := hs.cell0
        have s7 := hs.cell1
        refine bodyPost_ret (v := .tuple #[.agg #[.slice A5 us.length n5, .slice B5 rs.length m5], .int .i64 0]) (by simp [results, Tryz.results36, go_sem, s6, s7]) rfl ⟨⟨fun _ => ⟨_, _, rfl, ?_, ?_⟩, fun h => (by cases h)⟩, below_set2 hS3.bel (by omega) _ _⟩
        · exact hv5.set2 (by omega) (by omega) hS3.bel (by omega) _ _
        · exact hv6.set2 (by omega) (by omega) hS3.bel (by omega) _ _

end

section
open Go.RowKit

/-- What a function value says of each dot, wherever what lay below base is as it was. -/
def Says (g : Nat) (lb : Array Value) (p : Int × Int → Bool) (base : Nat) (w0 : World) : Prop :=
  ∀ (r c : Int) (W : World), Below base w0 W → Calls Tryz.prog g (#[.agg #[.int .i64 r, .int .i64 c]] ++ lb) W fun e w' => e = .returned (.bool (p (r, c))) ∧ Below W.heap.size W w'

set_option maxHeartbeats 1000000 in
theorem indexFunc (lb : Array Value) (p : Int × Int → Bool) (base : Nat) (w0 : World) (A : Option Addr) (xs : List (Int × Int)) (cap : Nat) (w : World) (hp : Says 113 lb p base w0) (hbw : Below base w0 w) (hbs : base ≤ w.heap.size) (hx : DotsAt w A xs) (hm : xs.length ≤ 1000000) :
    Calls Tryz.prog 167 #[.slice A xs.length cap, .func (.func 113) #[] lb] w fun e w' =>
      ((∃ i : Nat, i < xs.length ∧ e = .returned (.int .i64 i) ∧ (∀ j q, j < i → xs[j]? = some q → p q = false) ∧ (∀ q, xs[i]? = some q → p q = true)) ∨ (e = .returned (.int .i64 (-1)) ∧ ∀ q ∈ xs, p q = false)) ∧ Below w.heap.size w w' := by
  have HP := Lib.hid hp; clear hp
  go_enter Tryz.func167, Tryz.ntmps167
  go_wp2
  go_loopw [5, 8] (fun _ i wr => ∃ m : Nat, m ≤ xs.length ∧ i = .int .i64 m ∧ Below w.heap.size w wr ∧ Hid (∀ j q, j < m → xs[j]? = some q → p q = false)) (fun _ i _ => xs.length - (intOf i).toNat)
  case atStart => exact ⟨0, by omega, rfl, Below.refl _ _, fun j q h => by omega⟩
  case round =>
    obtain ⟨m, hk2, rfl, hb, hs⟩ := hrel
    by_cases hlt : m < xs.length
    · obtain ⟨b, off, r, c, rfl, hbl, hx1, hc0, hc1⟩ := (hx.below hb).dot (j := m) hlt
      have hr := HP.out r c wr (hbw.trans (hb.mono hbs))
      have HX1 := Lib.hid hx1; clear hx1
      cases hq : p (r, c)
      · rw [hq] at hr
        have HR := Lib.hid hr; clear hr
        have HQ := Lib.hid hq; clear hq
        go_wp2_with fail
        refine HR.out.mono ?_
        rintro e w1 ⟨rfl, hb1⟩
        go_wp2
        go_roundw
        case rel =>
          refine ⟨m + 1, by omega, by go_num, hb.trans (hb1.mono hb.size), (show Hid _ from fun j q hj hq => ?_)⟩
          by_cases e : j = m
          · subst e; rw [HX1.out] at hq; cases hq; exact HQ.out
          · exact hs.out j q (by omega) hq
        case measure => simp [intOf]; omega
      · rw [hq] at hr
        have HR := Lib.hid hr; clear hr
        have HQ := Lib.hid hq; clear hq
        go_wp2_with fail
        refine HR.out.mono ?_
        rintro e w1 ⟨rfl, hb1⟩
        go_wp2
        go_ret
        exact ⟨.inl ⟨m, hlt, rfl, hs.out, fun q hq => by rw [HX1.out] at hq; cases hq; exact HQ.out⟩, hb.trans (hb1.mono hb.size)⟩
    · go_wp2
      go_ret
      refine ⟨.inr ⟨rfl, fun q hq => ?_⟩, hb⟩
      obtain ⟨j, hj⟩ := List.mem_iff_getElem?.1 hq
      have hjl : j < xs.length := by
        rcases Nat.lt_or_ge j xs.length with h | h
        · exact h
        · rw [List.getElem?_eq_none h] at hj; cases hj
      exact hs.out j q (by omega) hj

theorem grown_of_below {a w : World} (h : Below a.heap.size a w) (row : Option Nat) : a.grownBy w row := ⟨h.os, h.tape, h.output, h.size, fun i hi _ => h.block i hi⟩
theorem filter_take_step {p : Int × Int → Bool} {xs : List (Int × Int)} {j : Nat} {x : Int × Int} (hx : xs[j]? = some x) : (xs.take (j + 1)).filter (fun d => !p d) = if p x = true then (xs.take j).filter (fun d => !p d) else (xs.take j).filter (fun d => !p d) ++ [x] := by
  rw [take_snoc hx, List.filter_append]
  by_cases h : p x = true <;> simp [h]

set_option maxHeartbeats 1000000 in
theorem deleteFunc (lb : Array Value) (p : Int × Int → Bool) (base : Nat) (w0 : World) (v : Value) (xs : List (Int × Int)) (w : World) (hp : Says 113 lb p base w0) (hbw : Below base w0 w) (hbs : base ≤ w.heap.size)
    (h : w.ownsRow base 30 2 v xs.length (cellsOf encD xs)) (hm : xs.length ≤ 1000000) :
    Calls Tryz.prog 112 #[v, .func (.func 113) #[] lb] w fun e w' =>
      ∃ v', e = .returned v' ∧ w'.ownsRow base 30 2 v' (xs.filter fun d => !p d).length (cellsOf encD (xs.filter fun d => !p d)) ∧ w.grownBy w' v.ownBlock := by
  obtain ⟨A, cap, rfl, hc1, hc2, hx⟩ := SlAt.of_own encD_len h
  have hi := indexFunc lb p base w0 A xs cap w hp hbw hbs hx hm
  have HI := Lib.hid hi
  have H := Lib.hid h
  have HP := Lib.hid hp
  clear hi h hp
  unfold maxLen at hc2
  go_enter Tryz.func112, Tryz.ntmps112
  go_wp2_with fail
  refine HI.out.mono ?_
  rintro e w1 ⟨⟨i, hi1, rfl, hi2, hi3⟩ | ⟨rfl, hno⟩, hb1⟩
  · obtain ⟨g, cap', hv, hbg, hgl⟩ := H.out.form (by omega)
    injection hv with hA hn hcc
    subst hA
    have hne1 : ((i : Int) == -1) = false := by simp
    have ho1 : w1.ownsRow base 30 2 (.slice (some ⟨g, 0, none⟩) xs.length cap) xs.length (cellsOf encD xs) := H.out.kept (grown_of_below hb1 none) (by simp [Value.ownBlock])
    have hg1 : w.grownBy w1 (some g) := grown_of_below hb1 _
    obtain ⟨x, hxi⟩ : ∃ x, xs[i]? = some x := ⟨_, List.getElem?_eq_getElem hi1⟩
    have hpre : (xs.take i).filter (fun d => !p d) = xs.take i := by
      rw [List.filter_eq_self]
      intro q hq
      obtain ⟨j, hj⟩ := List.mem_iff_getElem?.1 hq
      rw [List.getElem?_take] at hj
      split at hj
      · simp [hi2 j q (by omega) hj]
      · cases hj
    have hst : ∃ P, (P : List (Int × Int)).length = i ∧ P = (xs.take (i + 1)).filter (fun d => !p d) ∧ P ++ xs.drop P.length = xs := by
      have hl : (xs.take i).length = i := by simp; omega
      refine ⟨xs.take i, hl, ?_, by rw [hl]; exact List.take_append_drop _ _⟩
      rw [filter_take_step hxi, if_pos (hi3 x hxi), hpre]
    have HST := Lib.hid hst
    have HO := Lib.hid ho1
    have HG := Lib.hid hg1
    clear hst ho1 hg1 hpre hi2 hi3 hxi hn hcc hx hb1 HI
    go_wp2
    go_loopw [5, 6, 7] (fun k j _ wr => ∃ (P : List (Int × Int)) (t : Nat), t ≤ xs.length ∧ P.length < t ∧ k = .int .i64 (P.length : Int) ∧ j = .int .i64 t ∧ Hid (P = (xs.take t).filter (fun d => !p d)) ∧
        Hid (wr.ownsRow base 30 2 (.slice (some ⟨g, 0, none⟩) xs.length cap) xs.length (cellsOf encD (P ++ xs.drop P.length))) ∧ Hid (w.grownBy wr (some g))) (fun _ j _ _ => xs.length - (intOf j).toNat)
    case atStart =>
      obtain ⟨P, h1, h2, h3⟩ := HST.out
      exact ⟨P, i + 1, by omega, by omega, by rw [h1], by go_num, h2, by rw [h3]; exact HO, HG⟩
    case round =>
      obtain ⟨P, t, hk1, hk3, rfl, rfl, hP, hown3, hgr3⟩ := hrel
      have hbwr : Below base w0 wr := hbw.grown hgr3.out hbs (fun k hk => by cases hk; exact hbg)
      have hbsr : base ≤ wr.heap.size := Nat.le_trans hbs hgr3.out.size
      by_cases hlt : t < xs.length
      · obtain ⟨⟨r, c⟩, hxt⟩ : ∃ x, xs[t]? = some x := ⟨_, List.getElem?_eq_getElem hlt⟩
        obtain ⟨⟨rp, cp⟩, hxp⟩ : ∃ x, xs[P.length]? = some x := ⟨_, List.getElem?_eq_getElem (by omega)⟩
        obtain ⟨l0, l1, _, _⟩ := own_dot hown3.out (j := t) ((get_tail (by omega)).trans hxt)
        have hfs := filter_take_step (p := p) hxt
        rw [← hP.out] at hfs
        have HXT := Lib.hid hxt; clear hxt
        have HXP := Lib.hid hxp; clear hxp
        cases hq : p (r, c)
        · rw [hq] at hfs
          simp only [Bool.false_eq_true, if_false] at hfs
          have HFS := Lib.hid hfs; clear hfs
          have hr := fun W hW => HP.out r c W hW
          rw [hq] at hr
          have HR := Lib.hid hr; clear hr hq
          go_wp2_with fail
          refine (HR.out _ (hbwr.alloc hbsr _)).mono ?_
          rintro e w2 ⟨rfl, hb2⟩
          have hb3 := below_trans ((Below.refl _ wr).alloc (Nat.le_refl _) _) hb2
          have d0 := (hb2.cell (p := ⟨wr.heap.size, 0, none⟩) (by simp)).trans (show _ = some (.int .i64 r) by simp [World.cell?_alloc_new])
          have d1 := (hb2.cell (p := ⟨wr.heap.size, 1, none⟩) (by simp)).trans (show _ = some (.int .i64 c) by simp [World.cell?_alloc_new])
          have ho2 : w2.ownsRow base 30 2 (.slice (some ⟨g, 0, none⟩) xs.length cap) xs.length (cellsOf encD (P ++ xs.drop P.length)) := hown3.out.kept (grown_of_below hb3 none) (by simp [Value.ownBlock])
          obtain ⟨l4, l5, l6, l7⟩ := own_dot ho2 (j := P.length) ((get_tail (by omega)).trans HXP.out)
          have hos := own_store (r := r) (c := c) ho2 (j := P.length) (by simp; omega)
          rw [set_tail (by omega)] at hos
          have hgg := grown_trans' (grown_trans' hgr3.out (grown_of_below hb3 (some g))) hos.2
          have HOS := Lib.hid hos.1
          have HGG := Lib.hid hgg
          clear hos hgg ho2 hb2 hb3 l0 l1
          go_wp2
          go_roundw
          case rel => exact ⟨P ++ [(r, c)], t + 1, by omega, by simp; omega, by simp, by go_num, HFS.out.symm, HOS, HGG⟩
          case measure => simp [intOf]; omega
        · rw [if_pos hq] at hfs
          have HFS := Lib.hid hfs; clear hfs
          have hr := fun W hW => HP.out r c W hW
          rw [hq] at hr
          have HR := Lib.hid hr; clear hr hq
          go_wp2_with fail
          refine (HR.out _ (hbwr.alloc hbsr _)).mono ?_
          rintro e w2 ⟨rfl, hb2⟩
          have hb3 := below_trans ((Below.refl _ wr).alloc (Nat.le_refl _) _) hb2
          have ho2 : w2.ownsRow base 30 2 (.slice (some ⟨g, 0, none⟩) xs.length cap) xs.length (cellsOf encD (P ++ xs.drop P.length)) := hown3.out.kept (grown_of_below hb3 none) (by simp [Value.ownBlock])
          have hgg := grown_trans' hgr3.out (grown_of_below hb3 (some g))
          have HO2 := Lib.hid ho2
          have HGG := Lib.hid hgg
          clear hgg ho2 hb2 hb3 l0 l1
          go_wp2
          go_roundw
          case rel => exact ⟨P, t + 1, by omega, by omega, rfl, by go_num, HFS.out.symm, HO2, HGG⟩
          case measure => simp [intOf]; omega
      · have hPx : P = xs.filter (fun d => !p d) := by rw [hP.out, List.take_of_length_le (by omega)]
        have hltP : P.length < xs.length := by omega
        obtain ⟨w', hcl, ho', hg'⟩ := run_clear_own (P := Tryz.prog) (z := .agg #[.int .i64 0, .int .i64 0]) (k := 2) Tryz.underlying22 Tryz.zeroValue30 rfl (by simp [Value.cells]; rfl) hown3.out hltP (cap - P.length)
        have hct : (cellsOf encD (P ++ xs.drop P.length)).take (P.length * 2) = cellsOf encD P := by
          rw [show cellsOf encD (P ++ xs.drop P.length) = cellsOf encD P ++ cellsOf encD (xs.drop P.length) by simp [cellsOf], ← cellsOf_length encD_len P, List.take_left]
        rw [hct] at ho'
        have hPc : P.length < cap := by omega
        have HPX := Lib.hid hPx
        have HO' := Lib.hid ho'
        have hgf := grown_trans' hgr3.out hg'
        clear hPx ho' hg' hct hown3 hgr3 hP HO HG HST
        go_wp2
        go_ret
        exact ⟨_, rfl, by rw [← HPX.out]; exact HO'.out, hgf⟩
  · have hf : xs.filter (fun d => !p d) = xs := by
      rw [List.filter_eq_self]
      intro q hq
      simp [hno q hq]
    have HF := Lib.hid hf
    have ho1 : w1.ownsRow base 30 2 (.slice A xs.length cap) xs.length (cellsOf encD xs) := H.out.kept (grown_of_below hb1 none) (by cases A <;> simp [Value.ownBlock])
    have HO := Lib.hid ho1
    have hg1 := grown_of_below hb1 (Value.slice A xs.length cap).ownBlock
    clear hf ho1 hno hx
    go_wp2
    go_ret
    exact ⟨_, rfl, by rw [HF.out]; exact HO.out, hg1⟩

/-- 'm[k]' where the operation is guarded, and the guard lets it by. -/
theorem wpList_lookup_own_g {H : Type} {P : Program} (w : World) {ops : Array Oper} {rest : List Oper} {o : Oper} {a : Act} {Q : Exit → Act → World → Prop}
    (hg : Region.wanted o (yielded ops a.tmps) = true) (m x : Operand) (t : TypeId) (hop : o.op = Op.lookup t m x false)
    (k e : TypeId) (q : IntKind) (K : Maps.Keyed P k) (ht : P.underlying t = some (.map k e)) (he : P.underlying e = some (.int q)) (hz : (zeroValue e).run P w = .ok (.int q 0) w) (b n : Nat) (D : DataW H)
    (hm : a.eval m = .map (some b)) (hown : w.ownsMap P k (plainElem P e) b n D) (key : Value) (kl : Lit) (hx : a.eval x = key) (hkey : keyOf P k key = some kl)
    (hK : ∀ c : Int, D.atKey kl (.lit (.int q 0)) = .lit (.int q c) → (Lit.int q c).wf = true → wpList P ops Q rest (a.put o.dst (.int q c)) w) :
    wpList P ops Q (o :: rest) a w := by
  refine wpList_step fun K' hK' => ?_
  rw [if_pos hg]
  obtain ⟨c, hrun, hat, hwc⟩ := hown.lookup_int K ht he hz hkey
  unfold Oper.wp
  simp [execOp, hop, hm, hx, hrun, Result.andThen]
  exact hK' _ _ (hK c hat hwc)

theorem hasC_set (vs ls : List (Int × Int)) (r c : Int) : hasC vs ls r c = (validD r c && (decide ((r, c) ∈ setL ls) || decide (c ≤ getV vs r))) := by
  rw [hasC_cases]
  unfold hasV
  have : decide ((r, c) ∈ setL ls) = decide ((r, c) ∈ ls) := by
    rw [decide_eq_decide]; exact mem_setL ls (r, c)
  rw [this]
  cases validD r c <;> cases decide (c ≤ getV vs r) <;> cases decide ((r, c) ∈ ls) <;> rfl

set_option maxRecDepth 100000 in
set_option maxHeartbeats 2000000 in
theorem missing1 (bo bi mb n : Nat) (A : Option Addr) (s vs : List (Int × Int)) (cap : Nat) (D : DataW Unit) (r c : Int) (w : World) (hx : DotsAt w A s) (hm : s.length ≤ 1000000) (hs : Inc s)
    (h0 : w.cell? ⟨bo, 0, none⟩ = some (.slice A s.length cap)) (h1 : w.cell? ⟨bi, 0, none⟩ = some (.map (some mb))) (ho : w.ownsMap Tryz.prog 3 (plainElem Tryz.prog 3) mb n D) (hD : GetF D (getV vs)) :
    Calls Tryz.prog 113 #[.agg #[.int .i64 r, .int .i64 c], .pointer (some ⟨bo, 0, none⟩), .pointer (some ⟨bi, 0, none⟩)] w fun e w' =>
      e = .returned (.bool (validD r c && (decide ((r, c) ∈ s) || decide (c ≤ getV vs r)))) ∧ Below w.heap.size w w' := by
  have l1 := World.block_lt_of_cell? w _ h0
  have l2 := World.block_lt_of_cell? w _ h1
  have hal : Below w.heap.size w (w.alloc (.cells #[.int .i64 r, .int .i64 c] 30)) := (Below.refl _ w).alloc (Nat.le_refl _) _
  have K := Lib.hid ((KX.nil w).box (.int .i64 r) (.int .i64 c) 30)
  have VD := fun W => dotValid r c W
  have HBS := fun W (hW : Below w.heap.size w W) => binarySearch A s cap r c W (hx.below hW) hm hs
  generalize hin : decide ((r, c) ∈ s) = inn at HBS ⊢
  have HB := Lib.hid HBS
  have HAL := Lib.hid hal
  have H1 := Lib.hid h1
  have HO := Lib.hid ho
  clear HBS hin hs hx hal
  cases hv : validD r c with
  | false =>
    rw [hv] at VD
    have HV := Lib.hid VD
    clear VD hv h1 ho
    cases inn
    all_goals
      go_enter Tryz.func113, Tryz.ntmps113
      go_wp2_with fail
      refine (HB.out _ HAL.out).mono ?_
      rintro e w1 ⟨⟨i, rfl⟩, hb1⟩
      have K1 := Lib.hid (K.out.below hb1)
      have k0 := K1.out.cell (a := ⟨w.heap.size, 0, none⟩) (v := .int .i64 r) (by simp)
      have k1 := K1.out.cell (a := ⟨w.heap.size, 1, none⟩) (v := .int .i64 c) (by simp)
      clear hb1
      go_wp2_with fail
      refine (HV.out _).mono ?_
      rintro e w2 ⟨rfl, hb2⟩
      have K2 := Lib.hid (K1.out.below hb2)
      clear hb2 k0 k1
      go_wp2
      go_ret
      exact ⟨rfl, K2.out.bel⟩
  | true =>
    rw [hv] at VD
    have HV := Lib.hid VD
    clear VD
    cases inn with
    | true =>
      clear hv h1 ho
      go_enter Tryz.func113, Tryz.ntmps113
      go_wp2_with fail
      refine (HB.out _ HAL.out).mono ?_
      rintro e w1 ⟨⟨i, rfl⟩, hb1⟩
      have K1 := Lib.hid (K.out.below hb1)
      have k0 := K1.out.cell (a := ⟨w.heap.size, 0, none⟩) (v := .int .i64 r) (by simp)
      have k1 := K1.out.cell (a := ⟨w.heap.size, 1, none⟩) (v := .int .i64 c) (by simp)
      clear hb1
      go_wp2_with fail
      refine (HV.out _).mono ?_
      rintro e w2 ⟨rfl, hb2⟩
      have K2 := Lib.hid (K1.out.below hb2)
      clear hb2 k0 k1
      go_wp2
      go_ret
      exact ⟨rfl, K2.out.bel⟩
    | false =>
      have hvb : 1 ≤ r ∧ r ≤ 65535 ∧ 1 ≤ c ∧ c ≤ 4294967295 := by simpa [validD] using hv
      have hkey : keyOf Tryz.prog 3 (.int .i64 r) = some (.int .i64 r) := Maps.keyOf_int_mk Tryz.underlying3 (WalkArith.wf_i64 (by omega))
      have hval := fun c0 h => hD.val (r := r) (c := c0) h
      generalize getV vs r = g at hval ⊢
      have HVAL := Lib.hid hval
      clear hval hv h1 ho
      by_cases hle : c ≤ g
      · have hd : (true && (false || decide (c ≤ g))) = true := by simp [hle]
        rw [hd]
        clear hd
        go_enter Tryz.func113, Tryz.ntmps113
        go_wp2_with fail
        refine (HB.out _ HAL.out).mono ?_
        rintro e w1 ⟨⟨i, rfl⟩, hb1⟩
        have K1 := Lib.hid (K.out.below hb1)
        have B1 := Lib.hid (below_trans HAL.out hb1)
        have k0 := K1.out.cell (a := ⟨w.heap.size, 0, none⟩) (v := .int .i64 r) (by simp)
        have k1 := K1.out.cell (a := ⟨w.heap.size, 1, none⟩) (v := .int .i64 c) (by simp)
        clear hb1
        go_wp2_with fail
        refine (HV.out _).mono ?_
        rintro e w2 ⟨rfl, hb2⟩
        have K2 := Lib.hid (K1.out.below hb2)
        have B2 := Lib.hid (below_trans B1.out hb2)
        clear hb2 k0 k1
        have k0 := K2.out.cell (a := ⟨w.heap.size, 0, none⟩) (v := .int .i64 r) (by simp)
        have k1 := K2.out.cell (a := ⟨w.heap.size, 1, none⟩) (v := .int .i64 c) (by simp)
        have k2 := (B2.out.cell (p := ⟨bi, 0, none⟩) l2).trans H1.out
        have HO2 := Lib.hid (HO.out.kept (grown_of_below2 B2.out none) (by simp))
        go_wp2_with (first
          | (at_lookup; refine wpList_lookup_own_g _ (by first | rfl | simp [Region.wanted, yielded]) _ _ mapT rfl 3 3 .i64 law3 Tryz.underlying133 Tryz.underlying3 (zero3 _) mb _ _ rfl HO2.out _ _ rfl hkey ?_; intro c0 hat hwc; obtain rfl := HVAL.out _ hat; clear hat hwc)
          | go_in)
        go_ret
        exact ⟨rfl, K2.out.bel⟩
      · have hd : (true && (false || decide (c ≤ g))) = false := by simp [hle]
        rw [hd]
        clear hd
        go_enter Tryz.func113, Tryz.ntmps113
        go_wp2_with fail
        refine (HB.out _ HAL.out).mono ?_
        rintro e w1 ⟨⟨i, rfl⟩, hb1⟩
        have K1 := Lib.hid (K.out.below hb1)
        have B1 := Lib.hid (below_trans HAL.out hb1)
        have k0 := K1.out.cell (a := ⟨w.heap.size, 0, none⟩) (v := .int .i64 r) (by simp)
        have k1 := K1.out.cell (a := ⟨w.heap.size, 1, none⟩) (v := .int .i64 c) (by simp)
        clear hb1
        go_wp2_with fail
        refine (HV.out _).mono ?_
        rintro e w2 ⟨rfl, hb2⟩
        have K2 := Lib.hid (K1.out.below hb2)
        have B2 := Lib.hid (below_trans B1.out hb2)
        clear hb2 k0 k1
        have k0 := K2.out.cell (a := ⟨w.heap.size, 0, none⟩) (v := .int .i64 r) (by simp)
        have k1 := K2.out.cell (a := ⟨w.heap.size, 1, none⟩) (v := .int .i64 c) (by simp)
        have k2 := (B2.out.cell (p := ⟨bi, 0, none⟩) l2).trans H1.out
        have HO2 := Lib.hid (HO.out.kept (grown_of_below2 B2.out none) (by simp))
        go_wp2_with (first
          | (at_lookup; refine wpList_lookup_own_g _ (by first | rfl | simp [Region.wanted, yielded]) _ _ mapT rfl 3 3 .i64 law3 Tryz.underlying133 Tryz.underlying3 (zero3 _) mb _ _ rfl HO2.out _ _ rfl hkey ?_; intro c0 hat hwc; obtain rfl := HVAL.out _ hat; clear hat hwc)
          | go_in)
        go_ret
        exact ⟨ret_bool (decide_eq_false (by omega)), K2.out.bel⟩

theorem Says.missing {bo bi mb n : Nat} {A : Option Addr} {s vs : List (Int × Int)} {cap : Nat} {D : DataW Unit} {w : World} (hx : DotsAt w A s) (hm : s.length ≤ 1000000) (hs : Inc s)
    (h0 : w.cell? ⟨bo, 0, none⟩ = some (.slice A s.length cap)) (h1 : w.cell? ⟨bi, 0, none⟩ = some (.map (some mb))) (ho : w.ownsMap Tryz.prog 3 (plainElem Tryz.prog 3) mb n D) (hD : GetF D (getV vs)) :
    Says 113 #[.pointer (some ⟨bo, 0, none⟩), .pointer (some ⟨bi, 0, none⟩)] (fun d => validD d.1 d.2 && (decide (d ∈ s) || decide (d.2 ≤ getV vs d.1))) w.heap.size w := fun r c W hW =>
  missing1 bo bi mb n A s vs cap D r c W (hx.below hW) hm hs ((hW.cell (p := ⟨bo, 0, none⟩) (World.block_lt_of_cell? w _ h0)).trans h0) ((hW.cell (p := ⟨bi, 0, none⟩) (World.block_lt_of_cell? w _ h1)).trans h1) (ho.kept (grown_of_below2 hW none) (by simp)) hD

end

section
open Go.RowKit

theorem own_it {w : World} {base g n cap : Nat} {e : TypeId} {ys : List ItV} (h : w.ownsRow base e 2 (.slice (some ⟨g, 0, none⟩) n cap) n (cellsOf encIt ys)) {j : Nat} {x : ItV} (hj : ys[j]? = some x) :
    w.cell? ⟨g, j * 2, none⟩ = some (.string ⟨x.nm.toArray⟩) ∧ w.cell? ⟨g, j * 2 + 1, none⟩ = some (.slice x.A x.ms.length x.c) ∧ w.frozen? ⟨g, j * 2, none⟩ = false ∧ w.frozen? ⟨g, j * 2 + 1, none⟩ = false := by
  have h0 := h.cells (g := g) rfl (j * 2) _ (cellsOf_at encIt_len ys j x 0 _ hj rfl)
  have h1 := h.cells (g := g) rfl (j * 2 + 1) _ (cellsOf_at encIt_len ys j x 1 _ hj rfl)
  rw [Addr_add] at h0 h1
  exact ⟨by simpa using h0, by simpa using h1, h.frozenAt _, h.frozenAt _⟩
/-- Items in a row of the call's own, and all that was there as it was. -/
def MineI (w w' : World) (v : Value) (xs : List ItV) : Prop := RowT w' w.heap.size v xs ∧ Below w.heap.size w w'
theorem MineI.holds {w w' : World} {v : Value} {xs : List ItV} (h : MineI w w' v xs) (hk : ∀ x ∈ xs, ItOK w x) : HoldsX w' v xs := HoldsX.of_own h.1 fun x hx => (hk x hx).below h.2

end

end Go.Proofs.YtiaehpdgpjhecaaGreat
