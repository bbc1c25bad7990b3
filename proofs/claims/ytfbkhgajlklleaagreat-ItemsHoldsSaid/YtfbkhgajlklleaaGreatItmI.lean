/- Package items: without (slices.Clone, slices.DeleteFunc at items). -/
import Derived.Test.YtfbkhgajlklleaaGreatItmG
import Derived.Test.YtfbkhgajlklleaaGreatDotM9
namespace Go.Proofs.YtfbkhgajlklleaaGreat
open Go.RowKit

theorem own_it {w : World} {base g n cap : Nat} {e : TypeId} {ys : List ItV} (h : w.ownsRow base e 2 (.slice (some ⟨g, 0, none⟩) n cap) n (cellsOf encIt ys)) {j : Nat} {x : ItV} (hj : ys[j]? = some x) :
    w.cell? ⟨g, j * 2, none⟩ = some (.string ⟨x.nm.toArray⟩) ∧ w.cell? ⟨g, j * 2 + 1, none⟩ = some (.slice x.A x.ms.length x.c) ∧ w.frozen? ⟨g, j * 2, none⟩ = false ∧ w.frozen? ⟨g, j * 2 + 1, none⟩ = false := by
  have h0 := h.cells (g := g) rfl (j * 2) _ (cellsOf_at encIt_len ys j x 0 _ hj rfl)
  have h1 := h.cells (g := g) rfl (j * 2 + 1) _ (cellsOf_at encIt_len ys j x 1 _ hj rfl)
  rw [Addr_add] at h0 h1
  exact ⟨by simpa using h0, by simpa using h1, h.frozenAt _, h.frozenAt _⟩
theorem cells_setI (ys : List ItV) (j : Nat) (x : ItV) (hj : j < ys.length) : ((cellsOf encIt ys).set (j * 2) (.string ⟨x.nm.toArray⟩)).set (j * 2 + 1) (.slice x.A x.ms.length x.c) = cellsOf encIt (ys.set j x) := by
  induction ys generalizing j with
  | nil => simp at hj
  | cons y l ih =>
    match j with
    | 0 => simp [cellsOf, encIt]
    | j + 1 =>
      have := ih j (by simpa using hj)
      simp only [cellsOf, List.flatMap_cons, List.set_cons_succ] at this ⊢
      rw [← this]
      rw [List.set_append_right _ _ (by simp [encIt]; omega), List.set_append_right _ _ (by simp [encIt]; omega)]
      simp only [encIt_len]
      rw [show (j + 1) * 2 - 2 = j * 2 by omega, show (j + 1) * 2 + 1 - 2 = j * 2 + 1 by omega]
theorem own_storeI {w : World} {base g n cap : Nat} {e : TypeId} {ys : List ItV} (h : w.ownsRow base e 2 (.slice (some ⟨g, 0, none⟩) n cap) n (cellsOf encIt ys)) {j : Nat} {x : ItV} (hj : j < ys.length) :
    ((w.setCell ⟨g, j * 2, none⟩ (.string ⟨x.nm.toArray⟩)).setCell ⟨g, j * 2 + 1, none⟩ (.slice x.A x.ms.length x.c)).ownsRow base e 2 (.slice (some ⟨g, 0, none⟩) n cap) n (cellsOf encIt (ys.set j x)) ∧
    w.grownBy ((w.setCell ⟨g, j * 2, none⟩ (.string ⟨x.nm.toArray⟩)).setCell ⟨g, j * 2 + 1, none⟩ (.slice x.A x.ms.length x.c)) (some g) := by
  obtain ⟨h1, g1⟩ := h.stored (j * 2) (.string ⟨x.nm.toArray⟩)
  obtain ⟨h2, g2⟩ := h1.stored (j * 2 + 1) (.slice x.A x.ms.length x.c)
  rw [cells_setI ys j x hj] at h2
  exact ⟨h2, ⟨g2.os.trans g1.os, g2.tape.trans g1.tape, g2.output.trans g1.output, Nat.le_trans g1.size g2.size, fun i hi hne => (g2.block i (Nat.lt_of_lt_of_le hi g1.size) hne).trans (g1.block i hi hne)⟩⟩
theorem filter_step9 {p : ItV → Bool} {xs : List ItV} {j : Nat} {x : ItV} (hx : xs[j]? = some x) : (xs.take (j + 1)).filter (fun d => !p d) = if p x = true then (xs.take j).filter (fun d => !p d) else (xs.take j).filter (fun d => !p d) ++ [x] := by
  rw [take_snoc hx, List.filter_append]
  by_cases h : p x = true <;> simp [h]

/-- What a function value says of each item, wherever what lay below base is as it was. -/
def SaysI (g : Nat) (lb : Array Value) (p : ItV → Bool) (base : Nat) (w0 : World) : Prop :=
  ∀ (x : ItV) (W : World), Below base w0 W → Calls Tryz.prog g (#[mkIt x] ++ lb) W fun e w' => e = .returned (.bool (p x)) ∧ Below W.heap.size W w'
theorem without1 (x : ItV) (nm : List UInt8) (b : Nat) (w : World) (h0 : w.cell? ⟨b, 0, none⟩ = some (.string ⟨nm.toArray⟩)) :
    Calls Tryz.prog 81 #[mkIt x, .pointer (some ⟨b, 0, none⟩)] w fun e w' => e = .returned (.bool (x.nm == nm)) ∧ Below w.heap.size w w' := by
  have hl := World.block_lt_of_cell? w _ h0
  have HB := Lib.hid ((Below.refl w.heap.size w).alloc (Nat.le_refl _) (.cells #[.string ⟨x.nm.toArray⟩, .slice x.A x.ms.length x.c] 34))
  obtain ⟨q, hq⟩ : ∃ q, (x.nm == nm) = q := ⟨_, rfl⟩
  rw [hq]
  go_enter Tryz.func81, Tryz.ntmps81
  go_wp2_with fail
  go_ret
  exact ⟨rfl, HB.out⟩
theorem SaysI.without1 {nm : List UInt8} {b : Nat} {w : World} (h0 : w.cell? ⟨b, 0, none⟩ = some (.string ⟨nm.toArray⟩)) :
    SaysI 81 #[.pointer (some ⟨b, 0, none⟩)] (fun x => x.nm == nm) w.heap.size w := fun x W hW =>
  YtfbkhgajlklleaaGreat.without1 x nm b W ((hW.cell (p := ⟨b, 0, none⟩) (World.block_lt_of_cell? w _ h0)).trans h0)

set_option maxHeartbeats 1000000 in
theorem indexItems (lb : Array Value) (p : ItV → Bool) (base : Nat) (w0 : World) (A : Option Addr) (xs : List ItV) (cap : Nat) (w : World) (hp : SaysI 81 lb p base w0) (hbw : Below base w0 w) (hbs : base ≤ w.heap.size) (hx : ItemsAt w A xs) (hm : xs.length ≤ 1000000) :
    Calls Tryz.prog 105 #[.slice A xs.length cap, .func (.func 81) #[] lb] w fun e w' =>
      ((∃ i : Nat, i < xs.length ∧ e = .returned (.int .i64 i) ∧ (∀ j q, j < i → xs[j]? = some q → p q = false) ∧ (∀ q, xs[i]? = some q → p q = true)) ∨ (e = .returned (.int .i64 (-1)) ∧ ∀ q ∈ xs, p q = false)) ∧ Below w.heap.size w w' := by
  have HP := Lib.hid hp; clear hp
  go_enter Tryz.func105, Tryz.ntmps105
  go_wp2
  go_loopw [5, 8] (fun _ i wr => ∃ m : Nat, m ≤ xs.length ∧ i = .int .i64 m ∧ Below w.heap.size w wr ∧ Hid (∀ j q, j < m → xs[j]? = some q → p q = false)) (fun _ i _ => xs.length - (intOf i).toNat)
  case atStart => exact ⟨0, by omega, rfl, Below.refl _ _, fun j q h => by omega⟩
  case round =>
    obtain ⟨m, hk2, rfl, hb, hs⟩ := hrel
    by_cases hlt : m < xs.length
    · obtain ⟨b, off, x, rfl, hbl, hx1, _, hc0, hc1, hok⟩ := (hx.below hb).cells (j := m) hlt
      have hr := HP.out x wr (hbw.trans (hb.mono hbs))
      have HX1 := Lib.hid hx1; clear hx1
      cases hq : p x
      · rw [hq] at hr
        have HR := Lib.hid hr; clear hr
        have HQ := Lib.hid hq; clear hq
        go_wp2_with fail
        refine HR.out.mono ?_
        rintro e w1 ⟨rfl, hb1⟩
        go_wp2
        go_roundw
        case rel =>
          refine ⟨m + 1, by omega, by go_num, hb.trans (hb1.mono hb.size), (show Hid _ from fun j q hj hq => ?_)⟩
          by_cases e : j = m
          · subst e; rw [HX1.out] at hq; cases hq; exact HQ.out
          · exact hs.out j q (by omega) hq
        case measure => simp [intOf]; omega
      · rw [hq] at hr
        have HR := Lib.hid hr; clear hr
        have HQ := Lib.hid hq; clear hq
        go_wp2_with fail
        refine HR.out.mono ?_
        rintro e w1 ⟨rfl, hb1⟩
        go_wp2
        go_ret
        exact ⟨.inl ⟨m, hlt, rfl, hs.out, fun q hq => by rw [HX1.out] at hq; cases hq; exact HQ.out⟩, hb.trans (hb1.mono hb.size)⟩
    · go_wp2
      go_ret
      refine ⟨.inr ⟨rfl, fun q hq => ?_⟩, hb⟩
      obtain ⟨j, hj⟩ := List.mem_iff_getElem?.1 hq
      have hjl : j < xs.length := by
        rcases Nat.lt_or_ge j xs.length with h | h
        · exact h
        · rw [List.getElem?_eq_none h] at hj; cases hj
      exact hs.out j q (by omega) hj


set_option maxHeartbeats 1000000 in
theorem deleteItems (lb : Array Value) (p : ItV → Bool) (base : Nat) (w0 : World) (v : Value) (xs : List ItV) (w : World) (hp : SaysI 81 lb p base w0) (hbw : Below base w0 w) (hbs : base ≤ w.heap.size)
    (h : w.ownsRow base 34 2 v xs.length (cellsOf encIt xs)) (hko : ∀ x ∈ xs, ItOK w x) (hm : xs.length ≤ 1000000) :
    Calls Tryz.prog 79 #[v, .func (.func 81) #[] lb] w fun e w' =>
      ∃ v', e = .returned v' ∧ w'.ownsRow base 34 2 v' (xs.filter fun d => !p d).length (cellsOf encIt (xs.filter fun d => !p d)) ∧ w.grownBy w' v.ownBlock := by
  obtain ⟨A, cap, rfl, hc1, hc2, hx0⟩ := SlAt.of_own encIt_len h
  have hx : ItemsAt w A xs := ⟨hx0, hko⟩
  clear hko hx0
  have hi := indexItems lb p base w0 A xs cap w hp hbw hbs hx hm
  have HI := Lib.hid hi
  have H := Lib.hid h
  have HP := Lib.hid hp
  clear hi h hp
  unfold maxLen at hc2
  go_enter Tryz.func79, Tryz.ntmps79
  go_wp2_with fail
  refine HI.out.mono ?_
  rintro e w1 ⟨⟨i, hi1, rfl, hi2, hi3⟩ | ⟨rfl, hno⟩, hb1⟩
  · obtain ⟨g, cap', hv, hbg, hgl⟩ := H.out.form (by omega)
    injection hv with hA hn hcc
    subst hA
    have hne1 : ((i : Int) == -1) = false := by simp
    have ho1 : w1.ownsRow base 34 2 (.slice (some ⟨g, 0, none⟩) xs.length cap) xs.length (cellsOf encIt xs) := H.out.kept (grown_of_below hb1 none) (by simp [Value.ownBlock])
    have hg1 : w.grownBy w1 (some g) := grown_of_below hb1 _
    obtain ⟨xi, hxi⟩ : ∃ x, xs[i]? = some x := ⟨_, List.getElem?_eq_getElem hi1⟩
    have hpre : (xs.take i).filter (fun d => !p d) = xs.take i := by
      rw [List.filter_eq_self]
      intro q hq
      obtain ⟨j, hj⟩ := List.mem_iff_getElem?.1 hq
      rw [List.getElem?_take] at hj
      split at hj
      · simp [hi2 j q (by omega) hj]
      · cases hj
    have hst : ∃ P, (P : List ItV).length = i ∧ P = (xs.take (i + 1)).filter (fun d => !p d) ∧ P ++ xs.drop P.length = xs := by
      have hl : (xs.take i).length = i := by simp; omega
      refine ⟨xs.take i, hl, ?_, by rw [hl]; exact List.take_append_drop _ _⟩
      rw [filter_step9 hxi, if_pos (hi3 xi hxi), hpre]
    have HST := Lib.hid hst
    have HO := Lib.hid ho1
    have HG := Lib.hid hg1
    clear hst ho1 hg1 hpre hi2 hi3 hxi hn hcc hx hb1 HI
    go_wp2
    go_loopw [5, 6, 7] (fun k j _ wr => ∃ (P : List ItV) (t : Nat), t ≤ xs.length ∧ P.length < t ∧ k = .int .i64 (P.length : Int) ∧ j = .int .i64 t ∧ Hid (P = (xs.take t).filter (fun d => !p d)) ∧
        Hid (wr.ownsRow base 34 2 (.slice (some ⟨g, 0, none⟩) xs.length cap) xs.length (cellsOf encIt (P ++ xs.drop P.length))) ∧ Hid (w.grownBy wr (some g))) (fun _ j _ _ => xs.length - (intOf j).toNat)
    case atStart =>
      obtain ⟨P, h1, h2, h3⟩ := HST.out
      exact ⟨P, i + 1, by omega, by omega, by rw [h1], by go_num, h2, by rw [h3]; exact HO, HG⟩
    case round =>
      obtain ⟨P, t, hk1, hk3, rfl, rfl, hP, hown3, hgr3⟩ := hrel
      have hbwr : Below base w0 wr := hbw.grown hgr3.out hbs (fun k hk => by cases hk; exact hbg)
      have hbsr : base ≤ wr.heap.size := Nat.le_trans hbs hgr3.out.size
      by_cases hlt : t < xs.length
      · obtain ⟨x, hxt⟩ : ∃ x, xs[t]? = some x := ⟨_, List.getElem?_eq_getElem hlt⟩
        obtain ⟨xp, hxp⟩ : ∃ x, xs[P.length]? = some x := ⟨_, List.getElem?_eq_getElem (by omega)⟩
        obtain ⟨l0, l1, _, _⟩ := own_it hown3.out (j := t) ((get_tail (by omega)).trans hxt)
        have hfs := filter_step9 (p := p) hxt
        rw [← hP.out] at hfs
        have HXT := Lib.hid hxt; clear hxt
        have HXP := Lib.hid hxp; clear hxp
        cases hq : p x
        · rw [hq] at hfs
          simp only [Bool.false_eq_true, if_false] at hfs
          have HFS := Lib.hid hfs; clear hfs
          have hr := fun W hW => HP.out x W hW
          rw [hq] at hr
          have HR := Lib.hid hr; clear hr hq
          go_wp2_with fail
          refine (HR.out _ (hbwr.alloc hbsr _)).mono ?_
          rintro e w2 ⟨rfl, hb2⟩
          have hb3 := below_trans ((Below.refl _ wr).alloc (Nat.le_refl _) _) hb2
          have d0 := (hb2.cell (p := ⟨wr.heap.size, 0, none⟩) (by simp)).trans (show _ = some (.string ⟨x.nm.toArray⟩) by simp [World.cell?_alloc_new])
          have d1 := (hb2.cell (p := ⟨wr.heap.size, 1, none⟩) (by simp)).trans (show _ = some (.slice x.A x.ms.length x.c) by simp [World.cell?_alloc_new])
          have ho2 : w2.ownsRow base 34 2 (.slice (some ⟨g, 0, none⟩) xs.length cap) xs.length (cellsOf encIt (P ++ xs.drop P.length)) := hown3.out.kept (grown_of_below hb3 none) (by simp [Value.ownBlock])
          obtain ⟨l4, l5, l6, l7⟩ := own_it ho2 (j := P.length) ((get_tail (by omega)).trans HXP.out)
          have hos := own_storeI (x := x) ho2 (j := P.length) (by simp; omega)
          rw [set_tail (by omega)] at hos
          have hgg := grown_trans' (grown_trans' hgr3.out (grown_of_below hb3 (some g))) hos.2
          have HOS := Lib.hid hos.1
          have HGG := Lib.hid hgg
          clear hos hgg ho2 hb2 hb3 l0 l1
          go_wp2
          go_roundw
          case rel => exact ⟨P ++ [x], t + 1, by omega, by simp; omega, by simp, by go_num, HFS.out.symm, HOS, HGG⟩
          case measure => simp [intOf]; omega
        · rw [if_pos hq] at hfs
          have HFS := Lib.hid hfs; clear hfs
          have hr := fun W hW => HP.out x W hW
          rw [hq] at hr
          have HR := Lib.hid hr; clear hr hq
          go_wp2_with fail
          refine (HR.out _ (hbwr.alloc hbsr _)).mono ?_
          rintro e w2 ⟨rfl, hb2⟩
          have hb3 := below_trans ((Below.refl _ wr).alloc (Nat.le_refl _) _) hb2
          have ho2 : w2.ownsRow base 34 2 (.slice (some ⟨g, 0, none⟩) xs.length cap) xs.length (cellsOf encIt (P ++ xs.drop P.length)) := hown3.out.kept (grown_of_below hb3 none) (by simp [Value.ownBlock])
          have hgg := grown_trans' hgr3.out (grown_of_below hb3 (some g))
          have HO2 := Lib.hid ho2
          have HGG := Lib.hid hgg
          clear hgg ho2 hb2 hb3 l0 l1
          go_wp2
          go_roundw
          case rel => exact ⟨P, t + 1, by omega, by omega, rfl, by go_num, HFS.out.symm, HO2, HGG⟩
          case measure => simp [intOf]; omega
      · have hPx : P = xs.filter (fun d => !p d) := by rw [hP.out, List.take_of_length_le (by omega)]
        have hltP : P.length < xs.length := by omega
        obtain ⟨w', hcl, ho', hg'⟩ := run_clear_own (P := Tryz.prog) (z := .agg #[.string ⟨#[]⟩, .slice none 0 0]) (k := 2) Tryz.underlying22 Tryz.zeroValue34 rfl (by intro u hu; simp [Value.cells] at hu; rcases hu with rfl | rfl <;> rfl) hown3.out hltP (cap - P.length)
        have hct : (cellsOf encIt (P ++ xs.drop P.length)).take (P.length * 2) = cellsOf encIt P := by
          rw [show cellsOf encIt (P ++ xs.drop P.length) = cellsOf encIt P ++ cellsOf encIt (xs.drop P.length) by simp [cellsOf], ← cellsOf_length encIt_len P, List.take_left]
        rw [hct] at ho'
        have hPc : P.length < cap := by omega
        have HPX := Lib.hid hPx
        have HO' := Lib.hid ho'
        have hgf := grown_trans' hgr3.out hg'
        clear hPx ho' hg' hct hown3 hgr3 hP HO HG HST
        go_wp2
        go_ret
        exact ⟨_, rfl, by rw [← HPX.out]; exact HO'.out, hgf⟩
  · have hf : xs.filter (fun d => !p d) = xs := by
      rw [List.filter_eq_self]
      intro q hq
      simp [hno q hq]
    have HF := Lib.hid hf
    have ho1 : w1.ownsRow base 34 2 (.slice A xs.length cap) xs.length (cellsOf encIt xs) := H.out.kept (grown_of_below hb1 none) (by cases A <;> simp [Value.ownBlock])
    have HO := Lib.hid ho1
    have hg1 := grown_of_below hb1 (Value.slice A xs.length cap).ownBlock
    clear hf ho1 hno hx
    go_wp2
    go_ret
    exact ⟨_, rfl, by rw [HF.out]; exact HO.out, hg1⟩


/-- Items in a row of the call's own, and all that was there as it was. -/
def MineI (w w' : World) (v : Value) (xs : List ItV) : Prop := RowT w' w.heap.size v xs ∧ Below w.heap.size w w'
set_option maxHeartbeats 400000 in
theorem cloneItems (A : Option Addr) (xs : List ItV) (cap : Nat) (w : World) (hx : ItemsAt w A xs) (hm : xs.length ≤ 1000000) :
    Calls Tryz.prog 80 #[.slice A xs.length cap] w fun e w' => ∃ v, e = .returned v ∧ MineI w w' v xs := by
  obtain ⟨i0, hi0, hz0, hz1, hz2⟩ := info_parts infoIt
  have q22 : ∀ (w : World) (a : Option Addr) (n c n' c' : Nat), (binOp .eql 22 (.slice a n c) (.slice none n' c')).run Tryz.prog w = .ok (.bool a.isNone) w := fun w a n c n' c' => Lib.run_eql_slice_nil w _ _ a n c n' c' Tryz.underlying22
  match A with
  | none =>
    have h0 : xs = [] := by
      cases xs with
      | nil => rfl
      | cons x r => obtain ⟨_, _, h, _⟩ := hx.1 (by simp); cases h
    subst h0
    go_enter Tryz.func80, Tryz.ntmps80
    go_wp2
    go_ret
    exact ⟨_, rfl, World.ownsRow_nil _ _ _ _, Below.refl _ _⟩
  | some a =>
    have hx := hx.1
    go_enter Tryz.func80, Tryz.ntmps80
    go_wp2_with (at_builtin; refine wpList_append_sl _ encIt 2 rfl (.tmp 5) (.tmp 6) 22 rfl encIt_len (by omega) encIt_one w.heap.size 34 i0 _ 40 Tryz.underlying22 hi0 hz0 hz1 hz2 rfl _ [] rfl (World.ownsRow_made w #[] 0 (Nat.le_refl _) (Nat.zero_le _) (by simp)) (some a) _ cap xs rfl rfl (hx.below ((Below.refl _ w).alloc (Nat.le_refl _) _)) (by simp [maxLen]; omega) (by simp; omega) (by simp) ?_; intro v1 w1 hown1 hg1 hat1)
    rw [List.nil_append] at hown1
    have HO := Lib.hid hown1
    clear hown1
    go_wp2
    go_ret
    refine ⟨_, rfl, HO.out, ((Below.refl _ w).alloc (Nat.le_refl _) _).grown hg1 (by simp) ?_⟩
    intro k hk
    have e0 : some w.heap.size = some k := hk
    injection e0 with e
    omega
theorem MineI.holds {w w' : World} {v : Value} {xs : List ItV} (h : MineI w w' v xs) (hk : ∀ x ∈ xs, ItOK w x) : HoldsX w' v xs := HoldsX.of_own h.1 fun x hx => (hk x hx).below h.2

set_option maxHeartbeats 400000 in
theorem itWithout (A : Option Addr) (xs : List ItV) (cap : Nat) (nm : List UInt8) (w : World) (hx : ItemsAt w A xs) (hm : xs.length ≤ 1000000) :
    Calls Tryz.prog 58 #[.slice A xs.length cap, .string ⟨nm.toArray⟩] w fun e w' => ∃ v, e = .returned v ∧ MineI w w' v (remX xs nm) := by
  have HC := Lib.hid fun W h => cloneItems A xs cap W h hm
  have hb0 := (Below.refl w.heap.size w).alloc (Nat.le_refl _) (.cells #[.string ⟨nm.toArray⟩] 9)
  have hc0 : (w.alloc (.cells #[.string ⟨nm.toArray⟩] 9)).cell? ⟨w.heap.size, 0, none⟩ = some (.string ⟨nm.toArray⟩) := by simp [World.cell?_alloc_new]
  have HY := Lib.hid (SaysI.without1 hc0)
  have HB0 := Lib.hid hb0
  have HK := Lib.hid hx.2
  have HX := Lib.hid hx
  clear hb0 hx
  go_enter Tryz.func58, Tryz.ntmps58
  go_wp2_with fail
  generalize World.alloc w _ = w1 at *
  refine (HC.out _ (HX.out.below HB0.out)).mono ?_
  rintro e w2 ⟨v, rfl, h1⟩
  have hdel := deleteItems _ _ w1.heap.size w1 v xs w2 HY.out h1.2 h1.2.size h1.1 (fun x hx => ((HK.out x hx).below HB0.out).below h1.2) hm
  have HD := Lib.hid hdel
  have H1 := Lib.hid h1
  have HB1 := Lib.hid (below_trans HB0.out h1.2)
  clear hdel h1 hc0
  go_wp2_with fail
  refine HD.out.mono ?_
  rintro e w3 ⟨v3, rfl, ho3, hg3⟩
  have H3 := Lib.hid (show MineI w w3 v3 (remX xs nm) from ⟨Joins.ownsRow_le ho3 HB0.out.size, HB1.out.grown hg3 HB1.out.size fun k hk => Nat.le_trans HB0.out.size (H1.out.1.lt k hk).1⟩)
  clear ho3 hg3
  go_wp2_with fail
  go_ret
  exact ⟨_, rfl, H3.out⟩

end Go.Proofs.YtfbkhgajlklleaaGreat
