/- Several texts in one: CtxU, CtxG, CtxV. -/
import Derived.Test.YtiaehpdgpjhecaaGreatMAO
import Derived.Deep.CutBlock
namespace Go.Proofs.YtiaehpdgpjhecaaGreat

section
open Go.RowKit

theorem MineV.set2 {w W wc : World} {x : Value} {us : List (Int × Int)} {g : Nat} (h : MineV W wc x us) (hw : w.heap.size ≤ W.heap.size) (hg : g < W.heap.size) (hb : Below w.heap.size w wc) (hwg : w.heap.size ≤ g) (a b : Value) :
    MineV w ((wc.setCell ⟨g, 0, none⟩ a).setCell ⟨g, 1, none⟩ b) x us :=
  ⟨row_set2 (Joins.ownsRow_le h.1 hw) (fun e => by have := (h.1.lt _ e).1; omega) _ _, below_set2 hb hwg _ _⟩

theorem ctxCompact_t (v : Value) (vs ls us rs : List (Int × Int)) (w : World) (h : HoldsC w v vs ls) (hv : validC vs ls = true) (hm : vs.length + ls.length ≤ 3000) (hz : compactC vs ls = (us, rs)) :
    Calls Tryz.prog 76 #[v] w fun e w' => (∃ A n B m, e = .returned (.tuple #[.agg #[.slice A us.length n, .slice B rs.length m], .int .i64 0]) ∧ MineV w w' (.slice A us.length n) us ∧ MineV w w' (.slice B rs.length m) rs) ∧ Below w.heap.size w w' := by
  refine (ctxCompact v vs ls w h hm).mono ?_
  rintro e w' ⟨⟨h1, _⟩, hb⟩
  rw [hz] at h1
  obtain ⟨x, y, he, hx, hy⟩ := h1 hv
  have hx0 := hx
  have hy0 := hy
  obtain ⟨A, n, rfl, _⟩ := hx.holds
  obtain ⟨B, m, rfl, _⟩ := hy.holds
  exact ⟨⟨A, n, B, m, he, hx0, hy0⟩, hb⟩
theorem ctxCompact_f (v : Value) (vs ls : List (Int × Int)) (w : World) (h : HoldsC w v vs ls) (hv : validC vs ls = false) (hm : vs.length + ls.length ≤ 3000) :
    Calls Tryz.prog 76 #[v] w fun e w' => e = .returned (.tuple #[.agg #[.slice none 0 0, .slice none 0 0], .int .i64 2]) ∧ Below w.heap.size w w' :=
  (ctxCompact v vs ls w h hm).mono fun _ _ ⟨⟨_, h1⟩, hb⟩ => ⟨h1 hv, hb⟩

theorem compact_self_iff {vs ls us rs : List (Int × Int)} (h : validC vs ls = true) (hz : compactC vs ls = (us, rs)) : (decide (us = vs) && decide (rs = ls)) = compC vs ls := by
  rw [Bool.eq_iff_iff, Bool.and_eq_true, decide_eq_true_eq, decide_eq_true_eq]
  constructor
  · rintro ⟨rfl, rfl⟩
    have := compactC_comp h
    rwa [hz] at this
  · intro hc
    rw [compactC_self hc] at hz
    cases hz
    exact ⟨rfl, rfl⟩

set_option maxRecDepth 100000 in
set_option maxHeartbeats 2000000 in
theorem ctxIsCompact (v : Value) (vs ls : List (Int × Int)) (b : Bool) (w : World) (h : HoldsC w v vs ls) (hm : vs.length + ls.length ≤ 3000) (hb : compC vs ls = b) :
    Calls Tryz.prog 59 #[v] w fun e w' => e = .returned (.bool b) ∧ Below w.heap.size w w' := by
  obtain ⟨A, n, B, m, rfl, h1, h2⟩ := h
  have K := Lib.hid ((((KX.nil w).push h1).push h2).box (.slice A vs.length n) (.slice B ls.length m) 25)
  clear h1 h2
  obtain ⟨us, rs, hz⟩ : ∃ us rs, compactC vs ls = (us, rs) := ⟨_, _, rfl⟩
  cases hv : validC vs ls with
  | false =>
    have HB := Lib.hid (show false = b by rw [← hb]; unfold compC; rw [hv, Bool.and_false])
    have HC := Lib.hid fun W (h : HoldsC W (.agg #[.slice A vs.length n, .slice B ls.length m]) vs ls) => ctxCompact_f _ vs ls W h hv hm
    clear hv hb hz
    go_enter Tryz.func59, Tryz.ntmps59
    go_wp2_with fail
    refine (HC.out _ (HoldsC.mk (K.out.h (by simp)) (K.out.h (by simp)))).mono ?_
    rintro e w1 ⟨rfl, hb1⟩
    have K1 := Lib.hid ((K.out.below hb1).alloc (.cells #[.slice none 0 0, .slice none 0 0] 25))
    clear hb1
    go_wp2
    go_ret
    exact ⟨ret_bool HB.out, K1.out.bel⟩
  | true =>
    have HE := Lib.hid ((compact_self_iff hv hz).trans hb)
    have HC := Lib.hid fun W (h : HoldsC W (.agg #[.slice A vs.length n, .slice B ls.length m]) vs ls) => ctxCompact_t _ vs ls us rs W h hv hm hz
    clear hv hb hz
    go_enter Tryz.func59, Tryz.ntmps59
    go_wp2_with fail
    refine (HC.out _ (HoldsC.mk (K.out.h (by simp)) (K.out.h (by simp)))).mono ?_
    rintro e w1 ⟨⟨A1, n1, B1, m1, rfl, hx, hy⟩, hb1⟩
    have K0 := K.out.below hb1
    have K1 := Lib.hid (((K0.push hx.holds).push hy.holds).alloc (.cells #[.slice A1 us.length n1, .slice B1 rs.length m1] 25))
    have k0 := K1.out.cell (a := ⟨w.heap.size, 0, none⟩) (v := .slice A vs.length n) (by simp)
    have k1 := K1.out.cell (a := ⟨w.heap.size, 1, none⟩) (v := .slice B ls.length m) (by simp)
    clear hb1 hx hy K0
    go_wp2_with fail
    refine (ctxEqual _ _ us rs vs ls b _ (HoldsC.mk (K1.out.h (v := .slice A1 us.length n1) (xs := us) (by simp)) (K1.out.h (v := .slice B1 rs.length m1) (xs := rs) (by simp))) (HoldsC.mk (K1.out.h (v := .slice A vs.length n) (xs := vs) (by simp)) (K1.out.h (v := .slice B ls.length m) (xs := ls) (by simp))) HE.out).mono ?_
    rintro e w2 ⟨rfl, hb1⟩
    have K2 := Lib.hid (K1.out.below hb1)
    clear hb1
    go_wp2
    go_ret
    exact ⟨rfl, K2.out.bel⟩

end

section
open Go.RowKit

/-- What holds while the answer's block waits. -/
def KG (w0 : World) (g : Nat) (x y : Value) (L : List (Value × List (Int × Int))) (W : World) : Prop :=
  W.cell? ⟨g, 0, none⟩ = some x ∧ W.cell? ⟨g, 1, none⟩ = some y ∧ W.cell? ⟨g + 1, 0, none⟩ = some (.slice none 0 0) ∧ W.cell? ⟨g + 1, 1, none⟩ = some (.slice none 0 0) ∧ W.frozen? ⟨g + 1, 0, none⟩ = false ∧ W.frozen? ⟨g + 1, 1, none⟩ = false ∧
  Blk2 W g x y ∧ Blk2 W (g + 1) (.slice none 0 0) (.slice none 0 0) ∧ Below w0.heap.size w0 W ∧ ∀ p ∈ L, Holds W p.1 p.2
section
variable {w0 W W' : World} {g : Nat} {x y : Value} {L : List (Value × List (Int × Int))}
theorem KG.mk (h1 : Blk2 W g x y) (h2 : Blk2 W (g + 1) (.slice none 0 0) (.slice none 0 0)) (h3 : Below w0.heap.size w0 W) (h4 : ∀ p ∈ L, Holds W p.1 p.2) : KG w0 g x y L W :=
  ⟨h1.cell0, h1.cell1, h2.cell0, h2.cell1, h2.frozen 0, h2.frozen 1, h1, h2, h3, h4⟩
theorem KG.b1 (h : KG w0 g x y L W) : Blk2 W g x y := h.2.2.2.2.2.2.1
theorem KG.b2 (h : KG w0 g x y L W) : Blk2 W (g + 1) (.slice none 0 0) (.slice none 0 0) := h.2.2.2.2.2.2.2.1
theorem KG.bel (h : KG w0 g x y L W) : Below w0.heap.size w0 W := h.2.2.2.2.2.2.2.2.1
theorem KG.hs (h : KG w0 g x y L W) : ∀ p ∈ L, Holds W p.1 p.2 := h.2.2.2.2.2.2.2.2.2
theorem KG.h {v : Value} {xs : List (Int × Int)} (h : KG w0 g x y L W) (hm : (v, xs) ∈ L) : Holds W v xs := h.hs _ hm
theorem KG.below (h : KG w0 g x y L W) (hb : Below W.heap.size W W') : KG w0 g x y L W' := .mk (h.b1.below hb) (h.b2.below hb) (below_trans h.bel hb) fun p hp => (h.hs p hp).below hb
theorem KG.alloc (h : KG w0 g x y L W) (o : Obj) : KG w0 g x y L (W.alloc o) := h.below ((Below.refl _ W).alloc (Nat.le_refl _) o)
theorem KG.drew (h : KG w0 g x y L W) : KG w0 g x y L W.drew := h.below (Below.refl _ W).drew
end
theorem refUnion_h3 (v v' : Value) (xs ys zs : List (Int × Int)) (w : World) (h : Holds w v xs) (h' : Holds w v' ys) (hm : xs.length + ys.length ≤ 100000) (hz : setL (xs ++ ys) = zs) :
    Calls Tryz.prog 152 #[v, v'] w fun e w' => (∃ D d, e = .returned (.slice D zs.length d) ∧ Holds w' (.slice D zs.length d) zs) ∧ Below w.heap.size w w' := by
  obtain ⟨A, c, rfl, h1, h2, h3⟩ := h
  obtain ⟨A', c', rfl, h1', h2', h3'⟩ := h'
  subst hz
  refine (refUnion A A' xs ys c c' w h1 h1' hm).mono ?_
  rintro e w' ⟨⟨v, he, hv⟩, hb⟩
  have hv0 := hv
  obtain ⟨D, d, rfl, _⟩ := hv
  exact ⟨⟨D, d, he, hv0⟩, hb⟩
theorem ref3Compact_h (x y : Value) (vs ls us rs : List (Int × Int)) (w : World) (h : Holds w x vs) (h' : Holds w y ls) (hv : validC vs ls = true) (hm : vs.length + ls.length ≤ 3000) (hz : compactC vs ls = (us, rs)) :
    Calls Tryz.prog 151 #[.agg #[x, y]] w fun e w' => (∃ A n B m, e = .returned (.agg #[.slice A us.length n, .slice B rs.length m]) ∧ Holds w' (.slice A us.length n) us ∧ Holds w' (.slice B rs.length m) rs) ∧ Below w.heap.size w w' := by
  refine (ref3Compact _ vs ls w (HoldsC.mk h h') hv hm).mono ?_
  rintro e w' ⟨⟨v', he, hc⟩, hb⟩
  rw [hz] at hc
  obtain ⟨A, n, B, m, rfl, h1, h2⟩ := hc
  exact ⟨⟨A, n, B, m, he, h1, h2⟩, hb⟩

set_option maxRecDepth 100000 in
set_option maxHeartbeats 4000000 in
theorem ref3Add (v x : Value) (vs ls m us rs : List (Int × Int)) (w : World) (h : HoldsC w v vs ls) (hx : Holds w x m) (hv : validC vs ls = true) (hok : ∀ p ∈ m, validD p.1 p.2 = true) (hm : vs.length + ls.length + m.length ≤ 3000) (hz : addC vs ls m = (us, rs)) :
    Calls Tryz.prog 94 #[v, x] w fun e w' => (∃ v', e = .returned v' ∧ HoldsC w' v' us rs) ∧ Below w.heap.size w w' := by
  obtain ⟨A, n, B, k, rfl, h1, h2⟩ := h
  have hal : Below w.heap.size w ((w.alloc (.cells #[.slice A vs.length n, .slice B ls.length k] 25)).alloc (.cells #[.slice none 0 0, .slice none 0 0] 25)) :=
    ((Below.refl _ w).alloc (Nat.le_refl _) _).alloc (by simp) _
  have K : KG w w.heap.size (.slice A vs.length n) (.slice B ls.length k) [(.slice A vs.length n, vs), (.slice B ls.length k, ls), (x, m)] ((w.alloc (.cells #[.slice A vs.length n, .slice B ls.length k] 25)).alloc (.cells #[.slice none 0 0, .slice none 0 0] 25)) := by
    refine .mk ?_ ?_ hal ?_
    · exact (heap_alloc_old _ _ (by simp)).trans (heap_alloc_new w _)
    · have h := heap_alloc_new (w.alloc (.cells #[.slice A vs.length n, .slice B ls.length k] 25)) (.cells #[.slice none 0 0, .slice none 0 0] 25)
      rwa [World.size_alloc] at h
    · intro p hp
      rcases List.mem_cons.1 hp with rfl | hp
      · exact h1.below hal
      · rcases List.mem_cons.1 hp with rfl | hp
        · exact h2.below hal
        · rcases List.mem_cons.1 hp with rfl | hp
          · exact hx.below hal
          · cases hp
  have hl := setL_len (ls ++ m)
  rw [List.length_append] at hl
  obtain ⟨zs, hzs⟩ : ∃ zs, setL (ls ++ m) = zs := ⟨_, rfl⟩
  have hvz := addC_valid hv hok
  unfold addC at hz
  rw [hzs] at hl hvz hz
  have HZ := Lib.hid hz
  have HVZ := Lib.hid hvz
  have HZS := Lib.hid hzs
  have HM := Lib.hid hm
  have HL := Lib.hid hl
  clear h1 h2 hx hz hvz hzs hm hl hal hv hok
  go_enter Tryz.func94, Tryz.ntmps94
  go_wp2_with fail
  generalize (w.alloc (.cells #[.slice A vs.length n, .slice B ls.length k] 25)).alloc (.cells #[.slice none 0 0, .slice none 0 0] 25) = W0 at K ⊢
  have KD := K.drew
  obtain ⟨q0, q1, q2, q3, q4, q5, _⟩ := id KD
  clear K
  go_region_with (first
      | (go_at_call 152; refine (refUnion_h3 _ _ ls m zs _ (KG.h (by assumption) (by simp)) (KG.h (by assumption) (by simp)) (by have := HM.out; omega) HZS.out).mono ?_
         rintro e wa ⟨⟨D3, d3, rfl, hv3⟩, hb1⟩
         have hS1 := KG.below (by assumption) hb1
         clear hb1
         obtain ⟨r0, r1, r2, r3, r4, r5, _⟩ := id hS1)
      | (go_at_call 151; refine (ref3Compact_h _ _ vs zs us rs _ (KG.h (by assumption) (by simp)) (by first | exact hv3 | exact hv3.drew) HVZ.out (by have := HM.out; have := HL.out; omega) HZ.out).mono ?_
         rintro e wb ⟨⟨A4, n4, B4, m4, rfl, hv4, hv5⟩, hb1⟩
         have hS2 := KG.below (by assumption) hb1
         clear hb1
         obtain ⟨s0, s1, s2, s3, s4, s5, _⟩ := id hS2))
  all_goals
    go_wp2_with fail
    have hs := hS2.b2.set (.slice A4 us.length n4) (.slice B4 rs.length m4)
    have s6 := hs.cell0
    have s7 := hs.cell1
    refine bodyPost_ret (v := .agg #[.slice A4 us.length n4, .slice B4 rs.length m4]) (by simp [results, Tryz.results94, go_sem, s6, s7]) rfl ⟨⟨_, rfl, ?_⟩, below_set2 hS2.bel (by omega) _ _⟩
    exact HoldsC.mk (hv4.set2 hS2.b2 (by intro z; simp) (by intro z; simp)) (hv5.set2 hS2.b2 (by intro z; simp) (by intro z; simp))

end

section
open Go.RowKit

/-- What holds of a context's box and of a second box, whatever this holds. -/
def KB1v (w0 : World) (g : Nat) (x y : Value) (L : List (Value × List (Int × Int))) (W : World) : Prop :=
  Blk2 W g x y ∧ (∃ A n c B m d, Blk2 W (g + 1) (.slice A n c) (.slice B m d)) ∧ Below w0.heap.size w0 W ∧ ∀ p ∈ L, Holds W p.1 p.2
def KC1 (w0 : World) (g : Nat) (x y : Value) (L : List (Value × List (Int × Int))) (W : World) : Prop :=
  W.cell? ⟨g, 0, none⟩ = some x ∧ W.cell? ⟨g, 1, none⟩ = some y ∧ KB1v w0 g x y L W
section
variable {w0 W W' : World} {g : Nat} {x y : Value} {L : List (Value × List (Int × Int))}
theorem KC1.mk (h : KB1v w0 g x y L W) : KC1 w0 g x y L W := ⟨h.1.cell0, h.1.cell1, h⟩
theorem KC1.kb (h : KC1 w0 g x y L W) : KB1v w0 g x y L W := h.2.2
theorem KB1v.below (h : KB1v w0 g x y L W) (hb : Below W.heap.size W W') : KB1v w0 g x y L W' := by
  obtain ⟨h1, ⟨A, n, c, B, m, d, h3⟩, h4, h5⟩ := h
  exact ⟨h1.below hb, ⟨A, n, c, B, m, d, h3.below hb⟩, below_trans h4 hb, fun p hp => (h5 p hp).below hb⟩
theorem KC1.h {v : Value} {xs : List (Int × Int)} (h : KC1 w0 g x y L W) (hm : (v, xs) ∈ L) : Holds W v xs := h.kb.2.2.2 _ hm
theorem KC1.bel (h : KC1 w0 g x y L W) : Below w0.heap.size w0 W := h.kb.2.2.1
theorem KC1.below (h : KC1 w0 g x y L W) (hb : Below W.heap.size W W') : KC1 w0 g x y L W' := .mk (h.kb.below hb)
theorem KC1.drew (h : KC1 w0 g x y L W) : KC1 w0 g x y L W.drew := h.below (Below.refl _ W).drew
theorem KC1.store (h : KC1 w0 g x y L W) (hg : w0.heap.size ≤ g) (A : Option Addr) (n c : Nat) (B : Option Addr) (m d : Nat) : KC1 w0 g x y L ((W.setCell ⟨g + 1, 0, none⟩ (.slice A n c)).setCell ⟨g + 1, 1, none⟩ (.slice B m d)) := by
  obtain ⟨h1, ⟨A', n', c', B', m', d', h3⟩, h4, h5⟩ := h.kb
  refine .mk ⟨(h1.other (by omega) 0 _).other (by omega) 1 _, ⟨_, _, _, _, _, _, h3.set _ _⟩, below_set2 h4 (by omega) _ _, fun p hp => ?_⟩
  exact (h5 p hp).set2 h3 (by intro z; simp) (by intro z; simp)
theorem KC1.bound (h : KC1 w0 g x y L W) : g + 1 < W.heap.size ∧ w0.heap.size ≤ W.heap.size := by
  obtain ⟨A, n, c, B, m, d, h3⟩ := h.kb.2.1
  exact ⟨h3.lt, h.kb.2.2.1.size⟩
theorem KC1.second (h : KC1 w0 g x y L W) : ∃ A n c B m d, W.cell? ⟨g + 1, 0, none⟩ = some (.slice A n c) ∧ W.cell? ⟨g + 1, 1, none⟩ = some (.slice B m d) ∧ W.frozen? ⟨g + 1, 0, none⟩ = false ∧ W.frozen? ⟨g + 1, 1, none⟩ = false ∧ Blk2 W (g + 1) (.slice A n c) (.slice B m d) := by
  obtain ⟨A, n, c, B, m, d, h3⟩ := h.kb.2.1
  exact ⟨A, n, c, B, m, d, h3.cell0, h3.cell1, h3.frozen 0, h3.frozen 1, h3⟩
end

theorem dotUnion_h (v v' : Value) (xs ys zs : List (Int × Int)) (w : World) (h : Holds w v xs) (h' : Holds w v' ys) (hm : xs.length + ys.length ≤ 100000) (hz : setL (xs ++ ys) = zs) :
    Calls Tryz.prog 77 #[v, v'] w fun e w' => (∃ D d, e = .returned (.slice D zs.length d) ∧ Holds w' (.slice D zs.length d) zs) ∧ Below w.heap.size w w' := by
  obtain ⟨A, c, rfl, h1, h2, h3⟩ := h
  obtain ⟨A', c', rfl, h1', h2', h3'⟩ := h'
  refine (dotUnion A A' xs ys c c' w h1 h1' (by omega)).mono ?_
  rintro e w' ⟨v, he, hmn⟩
  rw [ordL_eq, hz] at hmn
  have hv0 := hmn.holds
  obtain ⟨D, d, rfl, _⟩ := hmn.holds
  exact ⟨⟨D, d, he, hv0⟩, hmn.2⟩
theorem okL_app {ls m : List (Int × Int)} : okL (setL (ls ++ m)) = (okL ls && okL m) := by
  rw [Bool.eq_iff_iff, Bool.and_eq_true, okL_iff, okL_iff, okL_iff]
  constructor
  · intro h
    exact ⟨fun p hp => h p (by rw [mem_setL]; simp [hp]), fun p hp => h p (by rw [mem_setL]; simp [hp])⟩
  · rintro ⟨h1, h2⟩ p hp
    rw [mem_setL, List.mem_append] at hp
    exact hp.elim (h1 p) (h2 p)
theorem valid_add {vs ls m : List (Int × Int)} (h : validC vs ls = true) : validC vs (setL (ls ++ m)) = okL m := by
  obtain ⟨h1, h2, h3⟩ := validC_iff.1 h
  unfold validC
  rw [h1, (isSetB_inc _).2 (inc_setL _), okL_app, (okL_iff ls).2 h3]
  simp

set_option maxRecDepth 100000 in
set_option maxHeartbeats 4000000 in
theorem ctxAdd (v x : Value) (vs ls m : List (Int × Int)) (w : World) (h : HoldsC w v vs ls) (hx : Holds w x m) (hm : vs.length + ls.length + m.length ≤ 3000) :
    Calls Tryz.prog 36 #[v, x] w fun e w' => CtxR (validC vs ls && okL m) (addC vs ls m).1 (addC vs ls m).2 w e w' := by
  obtain ⟨A, n, B, k, rfl, h1, h2⟩ := h
  have hal : Below w.heap.size w ((w.alloc (.cells #[.slice A vs.length n, .slice B ls.length k] 25)).alloc (.cells #[.slice none 0 0, .slice none 0 0] 25)) :=
    ((Below.refl _ w).alloc (Nat.le_refl _) _).alloc (by simp) _
  have K : KC1 w w.heap.size (.slice A vs.length n) (.slice B ls.length k) [(.slice A vs.length n, vs), (.slice B ls.length k, ls), (x, m)] ((w.alloc (.cells #[.slice A vs.length n, .slice B ls.length k] 25)).alloc (.cells #[.slice none 0 0, .slice none 0 0] 25)) := by
    refine .mk ⟨?_, ⟨none, 0, 0, none, 0, 0, ?_⟩, hal, ?_⟩
    · exact (heap_alloc_old _ _ (by simp)).trans (heap_alloc_new w _)
    · have h := heap_alloc_new (w.alloc (.cells #[.slice A vs.length n, .slice B ls.length k] 25)) (.cells #[.slice none 0 0, .slice none 0 0] 25)
      rwa [World.size_alloc] at h
    · intro p hp
      rcases List.mem_cons.1 hp with rfl | hp
      · exact h1.below hal
      · rcases List.mem_cons.1 hp with rfl | hp
        · exact h2.below hal
        · rcases List.mem_cons.1 hp with rfl | hp
          · exact hx.below hal
          · cases hp
  have KH := Lib.hid K
  have k0 := K.1
  have k1 := K.2.1
  have HM := Lib.hid hm
  clear h1 h2 hx hal K hm
  cases hv : validC vs ls with
  | false =>
    have HV := Lib.hid (ctxValid _ vs ls false _ (HoldsC.mk (KH.out.h (v := .slice A vs.length n) (xs := vs) (by simp)) (KH.out.h (v := .slice B ls.length k) (xs := ls) (by simp))) hv)
    clear hv
    go_enter Tryz.func36, Tryz.ntmps36
    go_wp2_with fail
    refine HV.out.mono ?_
    rintro e w1 ⟨rfl, hb1⟩
    have K1 := Lib.hid (KH.out.below hb1)
    obtain ⟨Ax, nx, cx, Bx, mx, dx, t0, t1, t2, t3, hB3⟩ := K1.out.second
    have HB3 := Lib.hid hB3
    clear hB3 hb1 k0 k1
    go_wp2_with fail
    have hs := HB3.out.set (.slice none 0 0) (.slice none 0 0)
    have s6 := hs.cell0
    have s7 := hs.cell1
    refine bodyPost_ret (v := .tuple #[.agg #[.slice none 0 0, .slice none 0 0], .int .i64 2]) (by simp [results, Tryz.results36, go_sem, s6, s7]) rfl ⟨⟨fun h => (by cases h), fun _ => rfl⟩, below_set2 K1.out.bel (by omega) _ _⟩
  | true =>
    have HV := Lib.hid (ctxValid _ vs ls true _ (HoldsC.mk (KH.out.h (v := .slice A vs.length n) (xs := vs) (by simp)) (KH.out.h (v := .slice B ls.length k) (xs := ls) (by simp))) hv)
    have hvz := valid_add (m := m) hv
    have hl := setL_len (ls ++ m)
    rw [List.length_append] at hl
    obtain ⟨zs, hzs⟩ : ∃ zs, setL (ls ++ m) = zs := ⟨_, rfl⟩
    obtain ⟨us, rs, hz⟩ : ∃ us rs, addC vs ls m = (us, rs) := ⟨_, _, rfl⟩
    have hz2 := hz
    unfold addC at hz2
    rw [hzs] at hvz hl hz2
    rw [hz, Bool.true_and]
    have HZS := Lib.hid hzs
    have HL := Lib.hid hl
    cases hok : okL m with
    | false =>
      rw [hok] at hvz
      have HC := Lib.hid fun v W (h : HoldsC W v vs zs) => ctxCompact_f v vs zs W h hvz (by have := HM.out; have := HL.out; omega)
      clear hv hvz hl hzs hz hz2 hok
      go_enter Tryz.func36, Tryz.ntmps36
      go_wp2_with fail
      refine HV.out.mono ?_
      rintro e w1 ⟨rfl, hb1⟩
      have K1 := KH.out.below hb1
      clear hb1 k0 k1
      go_wp2_with fail
      obtain ⟨q0, q1, q2⟩ := id K1
      go_region_held3 (fun W => W.cell? ⟨w.heap.size, 0, none⟩ = some (.slice A vs.length n) ∧ W.cell? ⟨w.heap.size, 1, none⟩ = some (.slice B ls.length k) ∧ KB1v w w.heap.size (.slice A vs.length n) (.slice B ls.length k) [(.slice A vs.length n, vs), (.slice B ls.length k, ls), (x, m)] W)
        (first
          | assumption
          | (exact KC1.drew (by assumption))
          | (exact KC1.store (by assumption) (Nat.le_refl _) _ _ _ _ _ _))
        (first
          | (go_at_call 77; refine (dotUnion_h _ _ ls m zs _ (KC1.h (by assumption) (by simp)) (KC1.h (by assumption) (by simp)) (by have := HM.out; omega) HZS.out).mono ?_
             rintro e wb ⟨⟨D4, d4, rfl, hv4⟩, hb1⟩
             have hS2 := KC1.below (by assumption) hb1
             clear hb1
             obtain ⟨s0, s1, s2⟩ := id hS2)
          | (go_at_call 76; refine (HC.out _ _ (HoldsC.mk (KC1.h (L := [(.slice A vs.length n, vs), (.slice B ls.length k, ls), (x, m)]) (by assumption) (by simp)) (by first | exact hv4 | exact hv4.drew))).mono ?_
             rintro e wc ⟨rfl, hb1⟩
             have hS3 := KC1.below (by assumption) hb1
             clear hb1
             obtain ⟨Ax, nx, cx, Bx, mx, dx, t0, t1, t2, t3, hB3⟩ := hS3.second
             obtain ⟨u0, u1, u2⟩ := id hS3))
      all_goals
        go_wp2_with fail
        have hs := hB3.set (.slice none 0 0) (.slice none 0 0)
        have s6 := hs.cell0
        have s7 := hs.cell1
        refine bodyPost_ret (v := .tuple #[.agg #[.slice none 0 0, .slice none 0 0], .int .i64 2]) (by simp [results, Tryz.results36, go_sem, s6, s7]) rfl ⟨⟨fun h => (by cases h), fun _ => rfl⟩, below_set2 hS3.bel (by omega) _ _⟩
    | true =>
      rw [hok] at hvz
      have HC := Lib.hid fun v W (h : HoldsC W v vs zs) => ctxCompact_t v vs zs us rs W h hvz (by have := HM.out; have := HL.out; omega) hz2
      clear hv hvz hl hzs hz hz2 hok
      go_enter Tryz.func36, Tryz.ntmps36
      go_wp2_with fail
      refine HV.out.mono ?_
      rintro e w1 ⟨rfl, hb1⟩
      have K1 := KH.out.below hb1
      clear hb1 k0 k1
      go_wp2_with fail
      obtain ⟨q0, q1, q2⟩ := id K1
      go_region_held3 (fun W => W.cell? ⟨w.heap.size, 0, none⟩ = some (.slice A vs.length n) ∧ W.cell? ⟨w.heap.size, 1, none⟩ = some (.slice B ls.length k) ∧ KB1v w w.heap.size (.slice A vs.length n) (.slice B ls.length k) [(.slice A vs.length n, vs), (.slice B ls.length k, ls), (x, m)] W)
        (first
          | assumption
          | (exact KC1.drew (by assumption))
          | (exact KC1.store (by assumption) (Nat.le_refl _) _ _ _ _ _ _))
        (first
          | (go_at_call 77; refine (dotUnion_h _ _ ls m zs _ (KC1.h (by assumption) (by simp)) (KC1.h (by assumption) (by simp)) (by have := HM.out; omega) HZS.out).mono ?_
             rintro e wb ⟨⟨D4, d4, rfl, hv4⟩, hb1⟩
             have hS2 := KC1.below (by assumption) hb1
             clear hb1
             obtain ⟨s0, s1, s2⟩ := id hS2)
          | (go_at_call 76; refine (HC.out _ _ (HoldsC.mk (KC1.h (L := [(.slice A vs.length n, vs), (.slice B ls.length k, ls), (x, m)]) (by assumption) (by simp)) (by first | exact hv4 | exact hv4.drew))).mono ?_
             rintro e wc ⟨⟨A5, n5, B5, m5, rfl, hv5, hv6⟩, hb1⟩
             have hsz5 := KC1.bound (w0 := w) (g := w.heap.size) (by assumption)
             have hS3 := KC1.below (by assumption) hb1
             clear hb1
             obtain ⟨Ax, nx, cx, Bx, mx, dx, t0, t1, t2, t3, hB3⟩ := hS3.second
             obtain ⟨u0, u1, u2⟩ := id hS3))
      all_goals
        go_wp2_with fail
        have hs := hB3.set (.slice A5 us.length n5) (.slice B5 rs.length m5)
        have s6 := hs.cell0
        have s7 := hs.cell1
        refine bodyPost_ret (v := .tuple #[.agg #[.slice A5 us.length n5, .slice B5 rs.length m5], .int .i64 0]) (by simp [results, Tryz.results36, go_sem, s6, s7]) rfl ⟨⟨fun _ => ⟨_, _, rfl, ?_, ?_⟩, fun h => (by cases h)⟩, below_set2 hS3.bel (by omega) _ _⟩
        · exact hv5.set2 (by omega) (by omega) hS3.bel (by omega) _ _
        · exact hv6.set2 (by omega) (by omega) hS3.bel (by omega) _ _

end

end Go.Proofs.YtiaehpdgpjhecaaGreat
