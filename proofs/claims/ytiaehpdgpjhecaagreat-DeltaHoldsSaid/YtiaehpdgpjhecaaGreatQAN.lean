/- Several texts in one: ItmI, ItmK, CtxI. -/
import Derived.Test.YtiaehpdgpjhecaaGreatQAH
import Derived.Test.YtiaehpdgpjhecaaGreatQAM
import Derived.Test.YtiaehpdgpjhecaaGreatQAE
namespace Go.Proofs.YtiaehpdgpjhecaaGreat

section
open Go.RowKit

theorem own_it {w : World} {base g n cap : Nat} {e : TypeId} {ys : List ItV} (h : w.ownsRow base e 2 (.slice (some ⟨g, 0, none⟩) n cap) n (cellsOf encIt ys)) {j : Nat} {x : ItV} (hj : ys[j]? = some x) :
    w.cell? ⟨g, j * 2, none⟩ = some (.string ⟨x.nm.toArray⟩) ∧ w.cell? ⟨g, j * 2 + 1, none⟩ = some (.slice x.A x.ms.length x.c) ∧ w.frozen? ⟨g, j * 2, none⟩ = false ∧ w.frozen? ⟨g, j * 2 + 1, none⟩ = false := by
  have h0 := h.cells (g := g) rfl (j * 2) _ (cellsOf_at encIt_len ys j x 0 _ hj rfl)
  have h1 := h.cells (g := g) rfl (j * 2 + 1) _ (cellsOf_at encIt_len ys j x 1 _ hj rfl)
  rw [Addr_add] at h0 h1
  exact ⟨by simpa using h0, by simpa using h1, h.frozenAt _, h.frozenAt _⟩
theorem cells_setI (ys : List ItV) (j : Nat) (x : ItV) (hj : j < ys.length) : ((cellsOf encIt ys).set (j * 2) (.string ⟨x.nm.toArray⟩)).set (j * 2 + 1) (.slice x.A x.ms.length x.c) = cellsOf encIt (ys.set j x) := by
  induction ys generalizing j with
  | nil => simp at hj
  | cons y l ih =>
    match j with
    | 0 => simp [cellsOf, encIt]
    | j + 1 =>
      have := ih j (by simpa using hj)
      simp only [cellsOf, List.flatMap_cons, List.set_cons_succ] at this ⊢
      rw [← this]
      rw [List.set_append_right _ _ (by simp [encIt]; omega), List.set_append_right _ _ (by simp [encIt]; omega)]
      simp only [encIt_len]
      rw [show (j + 1) * 2 - 2 = j * 2 by omega, show (j + 1) * 2 + 1 - 2 = j * 2 + 1 by omega]
theorem own_storeI {w : World} {base g n cap : Nat} {e : TypeId} {ys : List ItV} (h : w.ownsRow base e 2 (.slice (some ⟨g, 0, none⟩) n cap) n (cellsOf encIt ys)) {j : Nat} {x : ItV} (hj : j < ys.length) :
    ((w.setCell ⟨g, j * 2, none⟩ (.string ⟨x.nm.toArray⟩)).setCell ⟨g, j * 2 + 1, none⟩ (.slice x.A x.ms.length x.c)).ownsRow base e 2 (.slice (some ⟨g, 0, none⟩) n cap) n (cellsOf encIt (ys.set j x)) ∧
    w.grownBy ((w.setCell ⟨g, j * 2, none⟩ (.string ⟨x.nm.toArray⟩)).setCell ⟨g, j * 2 + 1, none⟩ (.slice x.A x.ms.length x.c)) (some g) := by
  obtain ⟨h1, g1⟩ := h.stored (j * 2) (.string ⟨x.nm.toArray⟩)
  obtain ⟨h2, g2⟩ := h1.stored (j * 2 + 1) (.slice x.A x.ms.length x.c)
  rw [cells_setI ys j x hj] at h2
  exact ⟨h2, ⟨g2.os.trans g1.os, g2.tape.trans g1.tape, g2.output.trans g1.output, Nat.le_trans g1.size g2.size, fun i hi hne => (g2.block i (Nat.lt_of_lt_of_le hi g1.size) hne).trans (g1.block i hi hne)⟩⟩
theorem filter_step9 {p : ItV → Bool} {xs : List ItV} {j : Nat} {x : ItV} (hx : xs[j]? = some x) : (xs.take (j + 1)).filter (fun d => !p d) = if p x = true then (xs.take j).filter (fun d => !p d) else (xs.take j).filter (fun d => !p d) ++ [x] := by
  rw [take_snoc hx, List.filter_append]
  by_cases h : p x = true <;> simp [h]

/-- What a function value says of each item, wherever what lay below base is as it was. -/
def SaysI (g : Nat) (lb : Array Value) (p : ItV → Bool) (base : Nat) (w0 : World) : Prop :=
  ∀ (x : ItV) (W : World), Below base w0 W → Calls Tryz.prog g (#[mkIt x] ++ lb) W fun e w' => e = .returned (.bool (p x)) ∧ Below W.heap.size W w'
theorem without1 (x : ItV) (nm : List UInt8) (b : Nat) (w : World) (h0 : w.cell? ⟨b, 0, none⟩ = some (.string ⟨nm.toArray⟩)) :
    Calls Tryz.prog 145 #[mkIt x, .pointer (some ⟨b, 0, none⟩)] w fun e w' => e = .returned (.bool (x.nm == nm)) ∧ Below w.heap.size w w' := by
  have hl := World.block_lt_of_cell? w _ h0
  have HB := Lib.hid ((Below.refl w.heap.size w).alloc (Nat.le_refl _) (.cells #[.string ⟨x.nm.toArray⟩, .slice x.A x.ms.length x.c] 50))
  obtain ⟨q, hq⟩ : ∃ q, (x.nm == nm) = q := ⟨_, rfl⟩
  rw [hq]
  go_enter Tryz.func145, Tryz.ntmps145
  go_wp2_with fail
  go_ret
  exact ⟨rfl, HB.out⟩
theorem SaysI.without1 {nm : List UInt8} {b : Nat} {w : World} (h0 : w.cell? ⟨b, 0, none⟩ = some (.string ⟨nm.toArray⟩)) :
    SaysI 145 #[.pointer (some ⟨b, 0, none⟩)] (fun x => x.nm == nm) w.heap.size w := fun x W hW =>
  YtiaehpdgpjhecaaGreat.without1 x nm b W ((hW.cell (p := ⟨b, 0, none⟩) (World.block_lt_of_cell? w _ h0)).trans h0)

set_option maxHeartbeats 1000000 in
theorem indexItems (lb : Array Value) (p : ItV → Bool) (base : Nat) (w0 : World) (A : Option Addr) (xs : List ItV) (cap : Nat) (w : World) (hp : SaysI 145 lb p base w0) (hbw : Below base w0 w) (hbs : base ≤ w.heap.size) (hx : ItemsAt w A xs) (hm : xs.length ≤ 1000000) :
    Calls Tryz.prog 194 #[.slice A xs.length cap, .func (.func 145) #[] lb] w fun e w' =>
      ((∃ i : Nat, i < xs.length ∧ e = .returned (.int .i64 i) ∧ (∀ j q, j < i → xs[j]? = some q → p q = false) ∧ (∀ q, xs[i]? = some q → p q = true)) ∨ (e = .returned (.int .i64 (-1)) ∧ ∀ q ∈ xs, p q = false)) ∧ Below w.heap.size w w' := by
  have HP := Lib.hid hp; clear hp
  go_enter Tryz.func194, Tryz.ntmps194
  go_wp2
  go_loopw [5, 8] (fun _ i wr => ∃ m : Nat, m ≤ xs.length ∧ i = .int .i64 m ∧ Below w.heap.size w wr ∧ Hid (∀ j q, j < m → xs[j]? = some q → p q = false)) (fun _ i _ => xs.length - (intOf i).toNat)
  case atStart => exact ⟨0, by omega, rfl, Below.refl _ _, fun j q h => by omega⟩
  case round =>
    obtain ⟨m, hk2, rfl, hb, hs⟩ := hrel
    by_cases hlt : m < xs.length
    · obtain ⟨b, off, x, rfl, hbl, hx1, _, hc0, hc1, hok⟩ := (hx.below hb).cells (j := m) hlt
      have hr := HP.out x wr (hbw.trans (hb.mono hbs))
      have HX1 := Lib.hid hx1; clear hx1
      cases hq : p x
      · rw [hq] at hr
        have HR := Lib.hid hr; clear hr
        have HQ := Lib.hid hq; clear hq
        go_wp2_with fail
        refine HR.out.mono ?_
        rintro e w1 ⟨rfl, hb1⟩
        go_wp2
        go_roundw
        case rel =>
          refine ⟨m + 1, by omega, by go_num, hb.trans (hb1.mono hb.size), (show Hid _ from fun j q hj hq => ?_)⟩
          by_cases e : j = m
          · subst e; rw [HX1.out] at hq; cases hq; exact HQ.out
          · exact hs.out j q (by omega) hq
        case measure => simp [intOf]; omega
      · rw [hq] at hr
        have HR := Lib.hid hr; clear hr
        have HQ := Lib.hid hq; clear hq
        go_wp2_with fail
        refine HR.out.mono ?_
        rintro e w1 ⟨rfl, hb1⟩
        go_wp2
        go_ret
        exact ⟨.inl ⟨m, hlt, rfl, hs.out, fun q hq => by rw [HX1.out] at hq; cases hq; exact HQ.out⟩, hb.trans (hb1.mono hb.size)⟩
    · go_wp2
      go_ret
      refine ⟨.inr ⟨rfl, fun q hq => ?_⟩, hb⟩
      obtain ⟨j, hj⟩ := List.mem_iff_getElem?.1 hq
      have hjl : j < xs.length := by
        rcases Nat.lt_or_ge j xs.length with h | h
        · exact h
        · rw [List.getElem?_eq_none h] at hj; cases hj
      exact hs.out j q (by omega) hj


set_option maxHeartbeats 1000000 in
theorem deleteItems (lb : Array Value) (p : ItV → Bool) (base : Nat) (w0 : World) (v : Value) (xs : List ItV) (w : World) (hp : SaysI 145 lb p base w0) (hbw : Below base w0 w) (hbs : base ≤ w.heap.size)
    (h : w.ownsRow base 50 2 v xs.length (cellsOf encIt xs)) (hko : ∀ x ∈ xs, ItOK w x) (hm : xs.length ≤ 1000000) :
    Calls Tryz.prog 143 #[v, .func (.func 145) #[] lb] w fun e w' =>
      ∃ v', e = .returned v' ∧ w'.ownsRow base 50 2 v' (xs.filter fun d => !p d).length (cellsOf encIt (xs.filter fun d => !p d)) ∧ w.grownBy w' v.ownBlock := by
  obtain ⟨A, cap, rfl, hc1, hc2, hx0⟩ := SlAt.of_own encIt_len h
  have hx : ItemsAt w A xs := ⟨hx0, hko⟩
  clear hko hx0
  have hi := indexItems lb p base w0 A xs cap w hp hbw hbs hx hm
  have HI := Lib.hid hi
  have H := Lib.hid h
  have HP := Lib.hid hp
  clear hi h hp
  unfold maxLen at hc2
  go_enter Tryz.func143, Tryz.ntmps143
  go_wp2_with fail
  refine HI.out.mono ?_
  rintro e w1 ⟨⟨i, hi1, rfl, hi2, hi3⟩ | ⟨rfl, hno⟩, hb1⟩
  · obtain ⟨g, cap', hv, hbg, hgl⟩ := H.out.form (by omega)
    injection hv with hA hn hcc
    subst hA
    have hne1 : ((i : Int) == -1) = false := by simp
    have ho1 : w1.ownsRow base 50 2 (.slice (some ⟨g, 0, none⟩) xs.length cap) xs.length (cellsOf encIt xs) := H.out.kept (grown_of_below hb1 none) (by simp [Value.ownBlock])
    have hg1 : w.grownBy w1 (some g) := grown_of_below hb1 _
    obtain ⟨xi, hxi⟩ : ∃ x, xs[i]? = some x := ⟨_, List.getElem?_eq_getElem hi1⟩
    have hpre : (xs.take i).filter (fun d => !p d) = xs.take i := by
      rw [List.filter_eq_self]
      intro q hq
      obtain ⟨j, hj⟩ := List.mem_iff_getElem?.1 hq
      rw [List.getElem?_take] at hj
      split at hj
      · simp [hi2 j q (by omega) hj]
      · cases hj
    have hst : ∃ P, (P : List ItV).length = i ∧ P = (xs.take (i + 1)).filter (fun d => !p d) ∧ P ++ xs.drop P.length = xs := by
      have hl : (xs.take i).length = i := by simp; omega
      refine ⟨xs.take i, hl, ?_, by rw [hl]; exact List.take_append_drop _ _⟩
      rw [filter_step9 hxi, if_pos (hi3 xi hxi), hpre]
    have HST := Lib.hid hst
    have HO := Lib.hid ho1
    have HG := Lib.hid hg1
    clear hst ho1 hg1 hpre hi2 hi3 hxi hn hcc hx hb1 HI
    go_wp2
    go_loopw [5, 6, 7] (fun k j _ wr => ∃ (P : List ItV) (t : Nat), t ≤ xs.length ∧ P.length < t ∧ k = .int .i64 (P.length : Int) ∧ j = .int .i64 t ∧ Hid (P = (xs.take t).filter (fun d => !p d)) ∧
        Hid (wr.ownsRow base 50 2 (.slice (some ⟨g, 0, none⟩) xs.length cap) xs.length (cellsOf encIt (P ++ xs.drop P.length))) ∧ Hid (w.grownBy wr (some g))) (fun _ j _ _ => xs.length - (intOf j).toNat)
    case atStart =>
      obtain ⟨P, h1, h2, h3⟩ := HST.out
      exact ⟨P, i + 1, by omega, by omega, by rw [h1], by go_num, h2, by rw [h3]; exact HO, HG⟩
    case round =>
      obtain ⟨P, t, hk1, hk3, rfl, rfl, hP, hown3, hgr3⟩ := hrel
      have hbwr : Below base w0 wr := hbw.grown hgr3.out hbs (fun k hk => by cases hk; exact hbg)
      have hbsr : base ≤ wr.heap.size := Nat.le_trans hbs hgr3.out.size
      by_cases hlt : t < xs.length
      · obtain ⟨x, hxt⟩ : ∃ x, xs[t]? = some x := ⟨_, List.getElem?_eq_getElem hlt⟩
        obtain ⟨xp, hxp⟩ : ∃ x, xs[P.length]? = some x := ⟨_, List.getElem?_eq_getElem (by omega)⟩
        obtain ⟨l0, l1, _, _⟩ := own_it hown3.out (j := t) ((get_tail (by omega)).trans hxt)
        have hfs := filter_step9 (p := p) hxt
        rw [← hP.out] at hfs
        have HXT := Lib.hid hxt; clear hxt
        have HXP := Lib.hid hxp; clear hxp
        cases hq : p x
        · rw [hq] at hfs
          simp only [Bool.false_eq_true, if_false] at hfs
          have HFS := Lib.hid hfs; clear hfs
          have hr := fun W hW => HP.out x W hW
          rw [hq] at hr
          have HR := Lib.hid hr; clear hr hq
          go_wp2_with fail
          refine (HR.out _ (hbwr.alloc hbsr _)).mono ?_
          rintro e w2 ⟨rfl, hb2⟩
          have hb3 := below_trans ((Below.refl _ wr).alloc (Nat.le_refl _) _) hb2
          have d0 := (hb2.cell (p := ⟨wr.heap.size, 0, none⟩) (by simp)).trans (show _ = some (.string ⟨x.nm.toArray⟩) by simp [World.cell?_alloc_new])
          have d1 := (hb2.cell (p := ⟨wr.heap.size, 1, none⟩) (by simp)).trans (show _ = some (.slice x.A x.ms.length x.c) by simp [World.cell?_alloc_new])
          have ho2 : w2.ownsRow base 50 2 (.slice (some ⟨g, 0, none⟩) xs.length cap) xs.length (cellsOf encIt (P ++ xs.drop P.length)) := hown3.out.kept (grown_of_below hb3 none) (by simp [Value.ownBlock])
          obtain ⟨l4, l5, l6, l7⟩ := own_it ho2 (j := P.length) ((get_tail (by omega)).trans HXP.out)
          have hos := own_storeI (x := x) ho2 (j := P.length) (by simp; omega)
          rw [set_tail (by omega)] at hos
          have hgg := grown_trans' (grown_trans' hgr3.out (grown_of_below hb3 (some g))) hos.2
          have HOS := Lib.hid hos.1
          have HGG := Lib.hid hgg
          clear hos hgg ho2 hb2 hb3 l0 l1
          go_wp2
          go_roundw
          case rel => exact ⟨P ++ [x], t + 1, by omega, by simp; omega, by simp, by go_num, HFS.out.symm, HOS, HGG⟩
          case measure => simp [intOf]; omega
        · rw [if_pos hq] at hfs
          have HFS := Lib.hid hfs; clear hfs
          have hr := fun W hW => HP.out x W hW
          rw [hq] at hr
          have HR := Lib.hid hr; clear hr hq
          go_wp2_with fail
          refine (HR.out _ (hbwr.alloc hbsr _)).mono ?_
          rintro e w2 ⟨rfl, hb2⟩
          have hb3 := below_trans ((Below.refl _ wr).alloc (Nat.le_refl _) _) hb2
          have ho2 : w2.ownsRow base 50 2 (.slice (some ⟨g, 0, none⟩) xs.length cap) xs.length (cellsOf encIt (P ++ xs.drop P.length)) := hown3.out.kept (grown_of_below hb3 none) (by simp [Value.ownBlock])
          have hgg := grown_trans' hgr3.out (grown_of_below hb3 (some g))
          have HO2 := Lib.hid ho2
          have HGG := Lib.hid hgg
          clear hgg ho2 hb2 hb3 l0 l1
          go_wp2
          go_roundw
          case rel => exact ⟨P, t + 1, by omega, by omega, rfl, by go_num, HFS.out.symm, HO2, HGG⟩
          case measure => simp [intOf]; omega
      · have hPx : P = xs.filter (fun d => !p d) := by rw [hP.out, List.take_of_length_le (by omega)]
        have hltP : P.length < xs.length := by omega
        obtain ⟨w', hcl, ho', hg'⟩ := run_clear_own (P := Tryz.prog) (z := .agg #[.string ⟨#[]⟩, .slice none 0 0]) (k := 2) Tryz.underlying26 Tryz.zeroValue50 rfl (by intro u hu; simp [Value.cells] at hu; rcases hu with rfl | rfl <;> rfl) hown3.out hltP (cap - P.length)
        have hct : (cellsOf encIt (P ++ xs.drop P.length)).take (P.length * 2) = cellsOf encIt P := by
          rw [show cellsOf encIt (P ++ xs.drop P.length) = cellsOf encIt P ++ cellsOf encIt (xs.drop P.length) by simp [cellsOf], ← cellsOf_length encIt_len P, List.take_left]
        rw [hct] at ho'
        have hPc : P.length < cap := by omega
        have HPX := Lib.hid hPx
        have HO' := Lib.hid ho'
        have hgf := grown_trans' hgr3.out hg'
        clear hPx ho' hg' hct hown3 hgr3 hP HO HG HST
        go_wp2
        go_ret
        exact ⟨_, rfl, by rw [← HPX.out]; exact HO'.out, hgf⟩
  · have hf : xs.filter (fun d => !p d) = xs := by
      rw [List.filter_eq_self]
      intro q hq
      simp [hno q hq]
    have HF := Lib.hid hf
    have ho1 : w1.ownsRow base 50 2 (.slice A xs.length cap) xs.length (cellsOf encIt xs) := H.out.kept (grown_of_below hb1 none) (by cases A <;> simp [Value.ownBlock])
    have HO := Lib.hid ho1
    have hg1 := grown_of_below hb1 (Value.slice A xs.length cap).ownBlock
    clear hf ho1 hno hx
    go_wp2
    go_ret
    exact ⟨_, rfl, by rw [HF.out]; exact HO.out, hg1⟩


/-- Items in a row of the call's own, and all that was there as it was. -/
def MineI (w w' : World) (v : Value) (xs : List ItV) : Prop := RowT w' w.heap.size v xs ∧ Below w.heap.size w w'
set_option maxHeartbeats 400000 in
theorem cloneItems (A : Option Addr) (xs : List ItV) (cap : Nat) (w : World) (hx : ItemsAt w A xs) (hm : xs.length ≤ 1000000) :
    Calls Tryz.prog 144 #[.slice A xs.length cap] w fun e w' => ∃ v, e = .returned v ∧ MineI w w' v xs := by
  obtain ⟨i0, hi0, hz0, hz1, hz2⟩ := info_parts infoIt
  have q22 : ∀ (w : World) (a : Option Addr) (n c n' c' : Nat), (binOp .eql 26 (.slice a n c) (.slice none n' c')).run Tryz.prog w = .ok (.bool a.isNone) w := fun w a n c n' c' => Lib.run_eql_slice_nil w _ _ a n c n' c' Tryz.underlying26
  match A with
  | none =>
    have h0 : xs = [] := by
      cases xs with
      | nil => rfl
      | cons x r => obtain ⟨_, _, h, _⟩ := hx.1 (by simp); cases h
    subst h0
    go_enter Tryz.func144, Tryz.ntmps144
    go_wp2
    go_ret
    exact ⟨_, rfl, World.ownsRow_nil _ _ _ _, Below.refl _ _⟩
  | some a =>
    have hx := hx.1
    go_enter Tryz.func144, Tryz.ntmps144
    go_wp2_with (at_builtin; refine wpList_append_sl _ encIt 2 rfl (.tmp 5) (.tmp 6) 26 rfl encIt_len (by omega) encIt_one w.heap.size 50 i0 _ 40 Tryz.underlying26 hi0 hz0 hz1 hz2 rfl _ [] rfl (World.ownsRow_made w #[] 0 (Nat.le_refl _) (Nat.zero_le _) (by simp)) (some a) _ cap xs rfl rfl (hx.below ((Below.refl _ w).alloc (Nat.le_refl _) _)) (by simp [maxLen]; omega) (by simp; omega) (by simp) ?_; intro v1 w1 hown1 hg1 hat1)
    rw [List.nil_append] at hown1
    have HO := Lib.hid hown1
    clear hown1
    go_wp2
    go_ret
    refine ⟨_, rfl, HO.out, ((Below.refl _ w).alloc (Nat.le_refl _) _).grown hg1 (by simp) ?_⟩
    intro k hk
    have e0 : some w.heap.size = some k := hk
    injection e0 with e
    omega
theorem MineI.holds {w w' : World} {v : Value} {xs : List ItV} (h : MineI w w' v xs) (hk : ∀ x ∈ xs, ItOK w x) : HoldsX w' v xs := HoldsX.of_own h.1 fun x hx => (hk x hx).below h.2

set_option maxHeartbeats 400000 in
theorem itWithout (A : Option Addr) (xs : List ItV) (cap : Nat) (nm : List UInt8) (w : World) (hx : ItemsAt w A xs) (hm : xs.length ≤ 1000000) :
    Calls Tryz.prog 80 #[.slice A xs.length cap, .string ⟨nm.toArray⟩] w fun e w' => ∃ v, e = .returned v ∧ MineI w w' v (remX xs nm) := by
  have HC := Lib.hid fun W h => cloneItems A xs cap W h hm
  have hb0 := (Below.refl w.heap.size w).alloc (Nat.le_refl _) (.cells #[.string ⟨nm.toArray⟩] 9)
  have hc0 : (w.alloc (.cells #[.string ⟨nm.toArray⟩] 9)).cell? ⟨w.heap.size, 0, none⟩ = some (.string ⟨nm.toArray⟩) := by simp [World.cell?_alloc_new]
  have HY := Lib.hid (SaysI.without1 hc0)
  have HB0 := Lib.hid hb0
  have HK := Lib.hid hx.2
  have HX := Lib.hid hx
  clear hb0 hx
  go_enter Tryz.func80, Tryz.ntmps80
  go_wp2_with fail
  generalize World.alloc w _ = w1 at *
  refine (HC.out _ (HX.out.below HB0.out)).mono ?_
  rintro e w2 ⟨v, rfl, h1⟩
  have hdel := deleteItems _ _ w1.heap.size w1 v xs w2 HY.out h1.2 h1.2.size h1.1 (fun x hx => ((HK.out x hx).below HB0.out).below h1.2) hm
  have HD := Lib.hid hdel
  have H1 := Lib.hid h1
  have HB1 := Lib.hid (below_trans HB0.out h1.2)
  clear hdel h1 hc0
  go_wp2_with fail
  refine HD.out.mono ?_
  rintro e w3 ⟨v3, rfl, ho3, hg3⟩
  have H3 := Lib.hid (show MineI w w3 v3 (remX xs nm) from ⟨Joins.ownsRow_le ho3 HB0.out.size, HB1.out.grown hg3 HB1.out.size fun k hk => Nat.le_trans HB0.out.size (H1.out.1.lt k hk).1⟩)
  clear ho3 hg3
  go_wp2_with fail
  go_ret
  exact ⟨_, rfl, H3.out⟩

end

section
open Go.RowKit

theorem beforeN_irrefl : ∀ a : List UInt8, beforeN a a = false
  | [] => rfl
  | a :: r => by rw [beforeN, if_pos rfl]; exact beforeN_irrefl r
theorem beforeN_trans : ∀ {a b c : List UInt8}, beforeN a b = true → beforeN b c = true → beforeN a c = true
  | [], [], _, h, _ => by simp [beforeN] at h
  | _ :: _, [], _, h, _ => by simp [beforeN] at h
  | _, _ :: _, [], _, h => by simp [beforeN] at h
  | [], _ :: _, _ :: _, _, _ => rfl
  | a :: r, b :: s, c :: t, h1, h2 => by
    rw [beforeN] at h1 h2 ⊢
    by_cases e1 : a = b
    · rw [if_pos e1] at h1
      subst e1
      by_cases e2 : a = c
      · rw [if_pos e2] at h2 ⊢
        exact beforeN_trans h1 h2
      · rw [if_neg e2] at h2 ⊢
        exact h2
    · rw [if_neg e1] at h1
      have h1' := of_decide_eq_true h1
      by_cases e2 : b = c
      · rw [if_pos e2] at h2
        subst e2
        rw [if_neg e1]; exact h1
      · rw [if_neg e2] at h2
        have h2' := of_decide_eq_true h2
        rw [if_neg (fun e => by subst e; omega)]
        exact decide_eq_true (by omega)
theorem beforeN_total : ∀ {a b : List UInt8}, beforeN a b = false → beforeN b a = false → a = b
  | [], [], _, _ => rfl
  | [], _ :: _, h, _ => by simp [beforeN] at h
  | _ :: _, [], _, h => by simp [beforeN] at h
  | a :: r, b :: s, h1, h2 => by
    rw [beforeN] at h1 h2
    by_cases e : a = b
    · subst e
      rw [if_pos rfl] at h1 h2
      rw [beforeN_total h1 h2]
    · rw [if_neg e] at h1
      rw [if_neg (fun k => e k.symm)] at h2
      have k1 := of_decide_eq_false h1
      have k2 := of_decide_eq_false h2
      exact absurd (UInt8.toNat_inj.1 (by omega)) e

/-- Names strictly increase. -/
def IncN (l : List It) : Prop := l.Pairwise fun x y => beforeN x.1 y.1 = true
/-- Items that are valid, said of all pairs. -/
def Good (l : List It) : Prop := (∀ x ∈ l, okI x = true) ∧ IncN l ∧ l.Pairwise fun x y => meetN x.2 y.2 = false

theorem IncN.of_next : ∀ {l : List It}, (∀ (j : Nat) (x y : It), l[j]? = some x → l[j + 1]? = some y → beforeN x.1 y.1 = true) → IncN l
  | [], _ => List.Pairwise.nil
  | [_], _ => List.pairwise_singleton _ _
  | a :: b :: r, h => by
    have ih : IncN (b :: r) := IncN.of_next fun j x y hx hy => h (j + 1) x y (by simpa using hx) (by simpa using hy)
    have h0 := h 0 a b rfl rfl
    refine List.pairwise_cons.2 ⟨fun z hz => ?_, ih⟩
    rcases List.mem_cons.1 hz with e | hz
    · subst e; exact h0
    · exact beforeN_trans h0 ((List.pairwise_cons.1 ih).1 z hz)
theorem IncN.get {l : List It} (h : IncN l) {i j : Nat} {x y : It} (hi : l[i]? = some x) (hj : l[j]? = some y) (hij : i < j) : beforeN x.1 y.1 = true := by
  obtain ⟨hil, rfl⟩ := List.getElem?_eq_some_iff.1 hi
  obtain ⟨hjl, rfl⟩ := List.getElem?_eq_some_iff.1 hj
  exact List.pairwise_iff_getElem.1 h i j hil hjl hij
theorem validL_good {l : List It} : validL l = true ↔ Good l := by
  rw [validL_iff]
  constructor
  · intro h
    have h' : ∀ (j : Nat) (x : It), l[j]? = some x → okI x = true ∧ behindAt l x j = true ∧ (List.range j).all (apartAt l x) = true := fun j x hx => by
      have := h j (List.getElem?_eq_some_iff.1 hx).1
      unfold okAt at this
      rw [hx] at this
      simpa [Bool.and_eq_true] using this
    refine ⟨fun x hx => ?_, IncN.of_next fun j x y hx hy => ?_, ?_⟩
    · obtain ⟨j, hj⟩ := List.mem_iff_getElem?.1 hx
      exact (h' j x hj).1
    · have := (h' (j + 1) y hy).2.1
      rwa [behindAt_succ rfl hx] at this
    · rw [List.pairwise_iff_getElem]
      intro i j hi hj hij
      have := (h' j l[j] (List.getElem?_eq_getElem hj)).2.2
      rw [List.all_eq_true] at this
      have := this i (List.mem_range.2 hij)
      unfold apartAt at this
      rw [List.getElem?_eq_getElem hi] at this
      simpa using this
  · rintro ⟨h1, h2, h3⟩ j hj
    unfold okAt
    rw [List.getElem?_eq_getElem hj]
    simp only [Bool.and_eq_true, List.all_eq_true, List.mem_range]
    refine ⟨h1 _ (List.getElem_mem hj), ?_, fun i hi => ?_⟩
    · cases j with
      | zero => rfl
      | succ n =>
        rw [behindAt_succ rfl (List.getElem?_eq_getElem (by omega))]
        exact h2.get (List.getElem?_eq_getElem (by omega)) (List.getElem?_eq_getElem hj) (Nat.lt_succ_self n)
    · unfold apartAt
      rw [List.getElem?_eq_getElem (by omega)]
      have := List.pairwise_iff_getElem.1 h3 i j (by omega) hj hi
      simp [this]
theorem good_nil : Good [] := ⟨by simp, List.Pairwise.nil, List.Pairwise.nil⟩
theorem Good.sub {l k : List It} (h : Good l) (hs : List.Sublist k l) : Good k := ⟨fun x hx => h.1 x (hs.subset hx), h.2.1.sublist hs, h.2.2.sublist hs⟩
theorem IncN.ext : ∀ {s t : List It}, IncN s → IncN t → (∀ d, d ∈ s ↔ d ∈ t) → s = t
  | [], [], _, _, _ => rfl
  | [], y :: t, _, _, h => by have := (h y).2 (by simp); simp at this
  | x :: s, [], _, _, h => by have := (h x).1 (by simp); simp at this
  | x :: s, y :: t, hs, ht, h => by
    have hs' := List.pairwise_cons.1 hs
    have ht' := List.pairwise_cons.1 ht
    have hxy : x = y := by
      have h1 := (h x).1 (by simp)
      have h2 := (h y).2 (by simp)
      rcases List.mem_cons.1 h1 with e | h1
      · exact e
      · rcases List.mem_cons.1 h2 with e | h2
        · exact e.symm
        · have a := beforeN_trans (ht'.1 x h1) (hs'.1 y h2)
          rw [beforeN_irrefl] at a; cases a
    subst hxy
    have : s = t := IncN.ext hs'.2 ht'.2 fun d => by
      have hd := h d
      simp only [List.mem_cons] at hd
      constructor
      · intro hm
        rcases hd.1 (.inr hm) with e | h'
        · subst e; have := hs'.1 d hm; rw [beforeN_irrefl] at this; cases this
        · exact h'
      · intro hm
        rcases hd.2 (.inr hm) with e | h'
        · subst e; have := ht'.1 d hm; rw [beforeN_irrefl] at this; cases this
        · exact h'
    rw [this]
theorem IncN.name {l : List It} (h : IncN l) {x y : It} (hx : x ∈ l) (hy : y ∈ l) (he : x.1 = y.1) : x = y := by
  obtain ⟨i, hi⟩ := List.mem_iff_getElem?.1 hx
  obtain ⟨j, hj⟩ := List.mem_iff_getElem?.1 hy
  rcases Nat.lt_trichotomy i j with k | k | k
  · have := h.get hi hj k; rw [he, beforeN_irrefl] at this; cases this
  · subst k; rw [hi] at hj; cases hj; rfl
  · have := h.get hj hi k; rw [he, beforeN_irrefl] at this; cases this

/-- Items without the one with a name; with one more. -/
def remN (l : List It) (nm : List UInt8) : List It := l.filter fun x => !(x.1 == nm)
def insN (l : List It) (x : It) : List It := l.takeWhile (fun y => beforeN y.1 x.1) ++ x :: l.dropWhile (fun y => beforeN y.1 x.1)
theorem its_remX (xs : List ItV) (nm : List UInt8) : its (remX xs nm) = remN (its xs) nm := by
  unfold remX remN its
  rw [List.filter_map]; rfl
theorem tw_map {α β : Type} (f : α → β) (p : β → Bool) : ∀ xs : List α, (xs.map f).takeWhile p = (xs.takeWhile fun x => p (f x)).map f ∧ (xs.map f).dropWhile p = (xs.dropWhile fun x => p (f x)).map f
  | [] => ⟨rfl, rfl⟩
  | x :: r => by
    obtain ⟨h1, h2⟩ := tw_map f p r
    simp only [List.map_cons, List.takeWhile_cons, List.dropWhile_cons]
    cases p (f x)
    · exact ⟨rfl, rfl⟩
    · exact ⟨by simp [h1], by simpa using h2⟩
theorem its_insX (xs : List ItV) (x : ItV) : its (insX xs x) = insN (its xs) x.it := by
  unfold insX insN its
  obtain ⟨h1, h2⟩ := tw_map ItV.it (fun y => beforeN y.1 x.it.1) xs
  rw [h1, h2, List.map_append, List.map_cons]; rfl
theorem mem_remN {l : List It} {nm : List UInt8} {x : It} : x ∈ remN l nm ↔ x ∈ l ∧ x.1 ≠ nm := by simp [remN]
theorem mem_insN {l : List It} {x y : It} : y ∈ insN l x ↔ y ∈ l ∨ y = x := by
  unfold insN
  have h : y ∈ l ↔ y ∈ l.takeWhile (fun y => beforeN y.1 x.1) ∨ y ∈ l.dropWhile (fun y => beforeN y.1 x.1) := by
    conv => lhs; rw [← List.takeWhile_append_dropWhile (p := fun y => beforeN y.1 x.1) (l := l)]
    exact List.mem_append
  rw [List.mem_append, List.mem_cons, h]
  constructor
  · rintro (h | h | h)
    · exact .inl (.inl h)
    · exact .inr h
    · exact .inl (.inr h)
  · rintro ((h | h) | h)
    · exact .inl h
    · exact .inr (.inr h)
    · exact .inr (.inl h)
theorem tw_all {α : Type} {p : α → Bool} : ∀ {l : List α} {x : α}, x ∈ l.takeWhile p → p x = true
  | [], x, h => by simp at h
  | a :: r, x, h => by
    rw [List.takeWhile_cons] at h
    by_cases ha : p a = true
    · rw [if_pos ha] at h
      rcases List.mem_cons.1 h with e | h
      · subst e; exact ha
      · exact tw_all h
    · rw [if_neg ha] at h; simp at h
theorem IncN.dw : ∀ {l : List It} (_ : IncN l) {nm : List UInt8} {z : It}, z ∈ l.dropWhile (fun y => beforeN y.1 nm) → beforeN z.1 nm = false
  | [], _, _, z, h => by simp at h
  | a :: r, hl, nm, z, h => by
    rw [List.dropWhile_cons] at h
    have hl' := List.pairwise_cons.1 hl
    by_cases ha : beforeN a.1 nm = true
    · rw [if_pos ha] at h
      exact IncN.dw hl'.2 h
    · rw [if_neg ha] at h
      rcases List.mem_cons.1 h with e | h
      · subst e; simpa using ha
      · cases hz : beforeN z.1 nm with
        | false => rfl
        | true => exact absurd (beforeN_trans (hl'.1 z h) hz) ha
theorem IncN.ins {l : List It} {x : It} (h : IncN l) (hn : ∀ y ∈ l, y.1 ≠ x.1) : IncN (insN l x) := by
  unfold insN
  have hd : ∀ z ∈ l.dropWhile (fun y => beforeN y.1 x.1), beforeN x.1 z.1 = true := fun z hz => by
    cases hb : beforeN x.1 z.1 with
    | true => rfl
    | false => exact absurd (beforeN_total (h.dw hz) hb) (hn z (List.dropWhile_subset _ hz))
  have ht : ∀ z ∈ l.takeWhile (fun y => beforeN y.1 x.1), beforeN z.1 x.1 = true := fun z hz => tw_all (p := fun y : It => beforeN y.1 x.1) hz
  refine List.pairwise_append.2 ⟨h.sublist (List.takeWhile_sublist _), List.pairwise_cons.2 ⟨hd, h.sublist (List.dropWhile_sublist _)⟩, fun a ha b hb => ?_⟩
  rcases List.mem_cons.1 hb with e | hb
  · subst e; exact ht a ha
  · exact beforeN_trans (ht a ha) (hd b hb)
theorem meetN_comm (a b : List Mk) : meetN a b = meetN b a := by
  rw [Bool.eq_iff_iff]
  simp only [meetN, hasD, List.any_eq_true, decide_eq_true_eq]
  constructor
  · rintro ⟨m, hm, k, hk, h1, h2⟩; exact ⟨k, hk, m, hm, h1.symm, h2.symm⟩
  · rintro ⟨m, hm, k, hk, h1, h2⟩; exact ⟨k, hk, m, hm, h1.symm, h2.symm⟩
theorem Good.apart {l : List It} (h : Good l) {x y : It} (hx : x ∈ l) (hy : y ∈ l) (hn : x.1 ≠ y.1) : meetN x.2 y.2 = false := by
  obtain ⟨i, hi⟩ := List.mem_iff_getElem?.1 hx
  obtain ⟨j, hj⟩ := List.mem_iff_getElem?.1 hy
  obtain ⟨hil, rfl⟩ := List.getElem?_eq_some_iff.1 hi
  obtain ⟨hjl, rfl⟩ := List.getElem?_eq_some_iff.1 hj
  rcases Nat.lt_trichotomy i j with k | k | k
  · exact List.pairwise_iff_getElem.1 h.2.2 i j hil hjl k
  · subst k; exact absurd rfl hn
  · rw [meetN_comm]; exact List.pairwise_iff_getElem.1 h.2.2 j i hjl hil k
/-- Good items: all are right, names increase, any two with other names lie apart. -/
theorem Good.of {l : List It} (h1 : ∀ x ∈ l, okI x = true) (h2 : IncN l) (h3 : ∀ x ∈ l, ∀ y ∈ l, x.1 ≠ y.1 → meetN x.2 y.2 = false) : Good l := by
  refine ⟨h1, h2, List.pairwise_iff_getElem.2 fun i j hi hj hij => h3 _ (List.getElem_mem hi) _ (List.getElem_mem hj) fun e => ?_⟩
  have := List.pairwise_iff_getElem.1 h2 i j hi hj hij
  rw [e, beforeN_irrefl] at this; cases this
theorem Good.rem {l : List It} (h : Good l) (nm : List UInt8) : Good (remN l nm) := h.sub List.filter_sublist
theorem Good.ins {l : List It} {x : It} (h : Good l) (hx : okI x = true) (hn : ∀ y ∈ l, y.1 ≠ x.1) (hm : (l.any fun y => meetN y.2 x.2) = false) : Good (insN l x) := by
  have hm' : ∀ y ∈ l, meetN y.2 x.2 = false := fun y hy => by
    rw [List.any_eq_false] at hm
    simpa using hm y hy
  refine Good.of (fun y hy => ?_) (h.2.1.ins hn) fun y hy z hz hne => ?_
  · rcases mem_insN.1 hy with k | k
    · exact h.1 y k
    · subst k; exact hx
  · rcases mem_insN.1 hy with k | k <;> rcases mem_insN.1 hz with k' | k'
    · exact h.apart k k' hne
    · subst k'; exact hm' y k
    · subst k; rw [meetN_comm]; exact hm' z k'
    · subst k k'; exact absurd rfl hne
theorem rem_names (l : List It) (nm : List UInt8) : ∀ y ∈ remN l nm, y.1 ≠ nm := fun _ hy => (mem_remN.1 hy).2
/-- All dots. -/
def allD (l : List It) : List (Int × Int) := l.flatMap fun x => dotsM x.2
theorem setL_join (a b : List (Int × Int)) : setL (setL a ++ b) = setL (a ++ b) := setL_congr fun d => by
  rw [List.mem_append, List.mem_append, mem_setL]
theorem dotsI_all (l : List It) : dotsI l = setL (allD l) := by
  have h : ∀ (l : List It) (s : List (Int × Int)), l.foldl (fun s x => setL (s ++ dotsM x.2)) (setL s) = setL (s ++ allD l) := fun l => by
    induction l with
    | nil => intro s; simp [allD]
    | cons x r ih =>
      intro s
      rw [List.foldl_cons, setL_join, ih]
      simp [allD, List.append_assoc]
  have := h l []
  rwa [List.nil_append, show setL ([] : List (Int × Int)) = [] from rfl] at this
theorem mem_dotsM {ms : List Mk} {r c : Int} : (r, c) ∈ dotsM ms ↔ hasD ms r c = true := by
  simp only [dotsM, hasD, List.mem_map, List.any_eq_true, decide_eq_true_eq, Prod.mk.injEq]
theorem insD_size (s : List (Int × Int)) (d : Int × Int) : (insD s d).length = if d ∈ s then s.length else s.length + 1 := by
  unfold insD
  by_cases h : d ∈ s
  · rw [if_pos h, if_pos h]
  · rw [if_neg h, if_neg h]
    have := congrArg List.length (List.takeWhile_append_dropWhile (p := fun y => ltD y d) (l := s))
    rw [List.length_append] at this
    rw [List.length_append, List.length_cons]; omega
theorem fold_size : ∀ (l s : List (Int × Int)), (l.foldl insD s).length = s.length + l.length ↔ l.Nodup ∧ ∀ d ∈ l, d ∉ s
  | [], s => by simp
  | d :: r, s => by
    have ih := fold_size r (insD s d)
    have hle := foldl_ins_len r (insD s d)
    have hz := insD_size s d
    rw [List.foldl_cons, List.length_cons, List.nodup_cons]
    by_cases h : d ∈ s
    · rw [if_pos h] at hz
      constructor
      · intro e; omega
      · rintro ⟨_, k⟩; exact absurd h (k d (by simp))
    · rw [if_neg h] at hz
      rw [hz] at ih
      rw [show s.length + (r.length + 1) = s.length + 1 + r.length by omega, ih]
      constructor
      · rintro ⟨k1, k2⟩
        have hdr : d ∉ r := fun e => (k2 d e) ((mem_insD s d d).2 (.inr rfl))
        refine ⟨⟨hdr, k1⟩, fun e he => ?_⟩
        rcases List.mem_cons.1 he with e' | he
        · subst e'; exact h
        · exact fun hs => k2 e he ((mem_insD s d e).2 (.inl hs))
      · rintro ⟨⟨k1, k2⟩, k3⟩
        refine ⟨k2, fun e he hs => ?_⟩
        rcases (mem_insD s d e).1 hs with h' | h'
        · exact k3 e (List.mem_cons_of_mem _ he) h'
        · subst h'; exact k1 he
theorem setL_size (l : List (Int × Int)) : (setL l).length = l.length ↔ l.Nodup := by
  have := fold_size l []
  rw [List.length_nil, Nat.zero_add] at this
  unfold setL
  rw [this]; simp
theorem okI_parts {x : It} (h : okI x = true) : itemN x.1 = true ∧ 0 < x.2.length ∧ x.2.all validM = true ∧ Inc (dotsM x.2) := by
  unfold okI at h
  simp only [Bool.and_eq_true, decide_eq_true_eq, isSetB_inc] at h
  exact ⟨h.1, h.2.1, h.2.2.1, h.2.2.2⟩
theorem meet_no {a b : List Mk} : meetN a b = false ↔ ∀ d ∈ dotsM a, ∀ e ∈ dotsM b, d ≠ e := by
  constructor
  · rintro h ⟨r, c⟩ hd e he rfl
    obtain ⟨m, hm, k⟩ := List.mem_map.1 hd
    simp only [meetN, List.any_eq_false] at h
    have := h m hm
    rw [mem_dotsM] at he
    injection k with k1 k2
    rw [k1, k2, he] at this
    simp at this
  · intro h
    simp only [meetN, List.any_eq_false]
    intro m hm hk
    exact h (m.r, m.c) (List.mem_map.2 ⟨m, hm, rfl⟩) (m.r, m.c) (mem_dotsM.2 hk) rfl
/-- How many marks all items have. -/
def cntM (l : List It) : Nat := (l.map fun x => x.2.length).sum
theorem allD_len (l : List It) : (allD l).length = cntM l := by
  unfold allD cntM
  rw [List.length_flatMap]
  congr 1
  exact List.map_congr_left fun x _ => dotsM_len x.2
theorem cntM_snoc (l : List It) (x : It) : cntM (l ++ [x]) = cntM l + x.2.length := by simp [cntM]
theorem good_count {l : List It} (h1 : ∀ x ∈ l, okI x = true) (h2 : IncN l) : (dotsI l).length = cntM l ↔ Good l := by
  rw [dotsI_all, ← allD_len, setL_size]
  unfold allD List.Nodup
  rw [List.pairwise_flatMap]
  constructor
  · rintro ⟨_, h⟩
    exact ⟨h1, h2, h.imp fun {a b} k => meet_no.2 k⟩
  · rintro ⟨_, _, h⟩
    exact ⟨fun x hx => inc_nodup (okI_parts (h1 x hx)).2.2.2, h.imp fun {a b} k => meet_no.1 k⟩
theorem both_nil {l : List It} {ms : List Mk} : bothL (dotsI l) (dotsM ms) = [] ↔ (l.any fun y => meetN y.2 ms) = false := by
  have hm : ∀ d, d ∈ bothL (dotsI l) (dotsM ms) ↔ d ∈ dotsI l ∧ d ∈ dotsM ms := fun d => by
    rw [← pickL_both]
    simp only [pickL, List.mem_filter, mem_ordL]
    by_cases h : d ∈ dotsM ms <;> simp [h]
  rw [List.eq_nil_iff_forall_not_mem, List.any_eq_false]
  constructor
  · intro h y hy
    rw [Bool.not_eq_true, meet_no]
    rintro d hd e he rfl
    refine h d ((hm d).2 ⟨?_, he⟩)
    rw [dotsI_all, mem_setL]
    exact List.mem_flatMap.2 ⟨y, hy, hd⟩
  · intro h d hd
    obtain ⟨k1, k2⟩ := (hm d).1 hd
    rw [dotsI_all, mem_setL] at k1
    obtain ⟨y, hy, hdy⟩ := List.mem_flatMap.1 k1
    have := h y hy
    rw [Bool.not_eq_true, meet_no] at this
    exact this d hdy d k2 rfl

end

section
open Go.RowKit

end

end Go.Proofs.YtiaehpdgpjhecaaGreat
