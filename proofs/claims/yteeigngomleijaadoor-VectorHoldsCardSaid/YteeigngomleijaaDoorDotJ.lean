/- Package dot: pick. -/
import Derived.Test.YteeigngomleijaaDoorDotI
namespace Go.Proofs.YteeigngomleijaaDoor
open Go.RowKit

theorem bool_ne (a b : Bool) : (a != b) = (a != b) := rfl

set_option maxHeartbeats 1000000 in
theorem pick1 (bo bi : Nat) (A : Option Addr) (s : List (Int × Int)) (cap : Nat) (inn : Bool) (r c : Int) (w : World) (hx : DotsAt w A s) (hm : s.length ≤ 1000000) (hs : Inc s)
    (h0 : w.cell? ⟨bo, 0, none⟩ = some (.slice A s.length cap)) (h1 : w.cell? ⟨bi, 0, none⟩ = some (.bool inn)) :
    Calls Tryd.prog 74 #[.agg #[.int .i64 r, .int .i64 c], .pointer (some ⟨bo, 0, none⟩), .pointer (some ⟨bi, 0, none⟩)] w fun e w' => e = .returned (.bool (decide ((r, c) ∈ s) != inn)) ∧ Below w.heap.size w w' := by
  have hb := fun W hW => binarySearch A s cap r c W hW hm hs
  have l1 := World.block_lt_of_cell? w _ h0
  have l2 := World.block_lt_of_cell? w _ h1
  generalize decide ((r, c) ∈ s) = d at hb ⊢
  have HB := Lib.hid hb
  clear hb
  go_enter Tryd.func74, Tryd.ntmps74
  go_wp2_with fail
  refine (HB.out _ (hx.below ((Below.refl _ w).alloc (Nat.le_refl _) _))).mono ?_
  rintro e w1 ⟨⟨i, rfl⟩, hb1⟩
  have hbb := below_trans ((Below.refl _ w).alloc (Nat.le_refl _) _) hb1
  have k1 := (hbb.cell (p := ⟨bi, 0, none⟩) l2).trans h1
  clear h0 h1
  cases d <;> cases inn
  all_goals
    go_wp2
    go_ret
    exact ⟨rfl, hbb⟩

/-- What a function value says of each dot, wherever what lay below base is as it was. -/
def Says (g : Nat) (lb : Array Value) (p : Int × Int → Bool) (base : Nat) (w0 : World) : Prop :=
  ∀ (r c : Int) (W : World), Below base w0 W → Calls Tryd.prog g (#[.agg #[.int .i64 r, .int .i64 c]] ++ lb) W fun e w' => e = .returned (.bool (p (r, c))) ∧ Below W.heap.size W w'

theorem Says.pick1 {bo bi : Nat} {A : Option Addr} {s : List (Int × Int)} {cap : Nat} {inn : Bool} {w : World} (hx : DotsAt w A s) (hm : s.length ≤ 1000000) (hs : Inc s)
    (h0 : w.cell? ⟨bo, 0, none⟩ = some (.slice A s.length cap)) (h1 : w.cell? ⟨bi, 0, none⟩ = some (.bool inn)) :
    Says 74 #[.pointer (some ⟨bo, 0, none⟩), .pointer (some ⟨bi, 0, none⟩)] (fun d => decide (d ∈ s) != inn) w.heap.size w := fun r c W hW =>
  YteeigngomleijaaDoor.pick1 bo bi A s cap inn r c W (hx.below hW) hm hs ((hW.cell (p := ⟨bo, 0, none⟩) (World.block_lt_of_cell? w _ h0)).trans h0) ((hW.cell (p := ⟨bi, 0, none⟩) (World.block_lt_of_cell? w _ h1)).trans h1)

set_option maxHeartbeats 1000000 in
theorem indexFunc (lb : Array Value) (p : Int × Int → Bool) (base : Nat) (w0 : World) (A : Option Addr) (xs : List (Int × Int)) (cap : Nat) (w : World) (hp : Says 74 lb p base w0) (hbw : Below base w0 w) (hbs : base ≤ w.heap.size) (hx : DotsAt w A xs) (hm : xs.length ≤ 1000000) :
    Calls Tryd.prog 88 #[.slice A xs.length cap, .func (.func 74) #[] lb] w fun e w' =>
      ((∃ i : Nat, i < xs.length ∧ e = .returned (.int .i64 i) ∧ (∀ j q, j < i → xs[j]? = some q → p q = false) ∧ (∀ q, xs[i]? = some q → p q = true)) ∨ (e = .returned (.int .i64 (-1)) ∧ ∀ q ∈ xs, p q = false)) ∧ Below w.heap.size w w' := by
  have HP := Lib.hid hp; clear hp
  go_enter Tryd.func88, Tryd.ntmps88
  go_wp2
  go_loopw [5, 8] (fun _ i wr => ∃ m : Nat, m ≤ xs.length ∧ i = .int .i64 m ∧ Below w.heap.size w wr ∧ Hid (∀ j q, j < m → xs[j]? = some q → p q = false)) (fun _ i _ => xs.length - (intOf i).toNat)
  case atStart => exact ⟨0, by omega, rfl, Below.refl _ _, fun j q h => by omega⟩
  case round =>
    obtain ⟨m, hk2, rfl, hb, hs⟩ := hrel
    by_cases hlt : m < xs.length
    · obtain ⟨b, off, r, c, rfl, hbl, hx1, hc0, hc1⟩ := (hx.below hb).dot (j := m) hlt
      have hr := HP.out r c wr (hbw.trans (hb.mono hbs))
      have HX1 := Lib.hid hx1; clear hx1
      cases hq : p (r, c)
      · rw [hq] at hr
        have HR := Lib.hid hr; clear hr
        have HQ := Lib.hid hq; clear hq
        go_wp2_with fail
        refine HR.out.mono ?_
        rintro e w1 ⟨rfl, hb1⟩
        go_wp2
        go_roundw
        case rel =>
          refine ⟨m + 1, by omega, by go_num, hb.trans (hb1.mono hb.size), (show Hid _ from fun j q hj hq => ?_)⟩
          by_cases e : j = m
          · subst e; rw [HX1.out] at hq; cases hq; exact HQ.out
          · exact hs.out j q (by omega) hq
        case measure => simp [intOf]; omega
      · rw [hq] at hr
        have HR := Lib.hid hr; clear hr
        have HQ := Lib.hid hq; clear hq
        go_wp2_with fail
        refine HR.out.mono ?_
        rintro e w1 ⟨rfl, hb1⟩
        go_wp2
        go_ret
        exact ⟨.inl ⟨m, hlt, rfl, hs.out, fun q hq => by rw [HX1.out] at hq; cases hq; exact HQ.out⟩, hb.trans (hb1.mono hb.size)⟩
    · go_wp2
      go_ret
      refine ⟨.inr ⟨rfl, fun q hq => ?_⟩, hb⟩
      obtain ⟨j, hj⟩ := List.mem_iff_getElem?.1 hq
      have hjl : j < xs.length := by
        rcases Nat.lt_or_ge j xs.length with h | h
        · exact h
        · rw [List.getElem?_eq_none h] at hj; cases hj
      exact hs.out j q (by omega) hj

theorem grown_of_below {a w : World} (h : Below a.heap.size a w) (row : Option Nat) : a.grownBy w row := ⟨h.os, h.tape, h.output, h.size, fun i hi _ => h.block i hi⟩
theorem grown_alloc {a w : World} {row : Option Nat} (h : a.grownBy w row) (o : Obj) : a.grownBy (w.alloc o) row :=
  ⟨h.os, h.tape, h.output, Nat.le_trans h.size (by simp), fun i hi hne => (Below.heap_alloc w o i (Nat.lt_of_lt_of_le hi h.size)).trans (h.block i hi hne)⟩

theorem filter_take_step {p : Int × Int → Bool} {xs : List (Int × Int)} {j : Nat} {x : Int × Int} (hx : xs[j]? = some x) : (xs.take (j + 1)).filter (fun d => !p d) = if p x = true then (xs.take j).filter (fun d => !p d) else (xs.take j).filter (fun d => !p d) ++ [x] := by
  rw [take_snoc hx, List.filter_append]
  by_cases h : p x = true <;> simp [h]

set_option maxHeartbeats 1000000 in
theorem deleteFunc (lb : Array Value) (p : Int × Int → Bool) (base : Nat) (w0 : World) (v : Value) (xs : List (Int × Int)) (w : World) (hp : Says 74 lb p base w0) (hbw : Below base w0 w) (hbs : base ≤ w.heap.size)
    (h : w.ownsRow base 23 2 v xs.length (cellsOf encD xs)) (hm : xs.length ≤ 1000000) :
    Calls Tryd.prog 73 #[v, .func (.func 74) #[] lb] w fun e w' =>
      ∃ v', e = .returned v' ∧ w'.ownsRow base 23 2 v' (xs.filter fun d => !p d).length (cellsOf encD (xs.filter fun d => !p d)) ∧ w.grownBy w' v.ownBlock := by
  obtain ⟨A, cap, rfl, hc1, hc2, hx⟩ := SlAt.of_own encD_len h
  have hi := indexFunc lb p base w0 A xs cap w hp hbw hbs hx hm
  have HI := Lib.hid hi
  have H := Lib.hid h
  have HP := Lib.hid hp
  clear hi h hp
  unfold maxLen at hc2
  go_enter Tryd.func73, Tryd.ntmps73
  go_wp2_with fail
  refine HI.out.mono ?_
  rintro e w1 ⟨⟨i, hi1, rfl, hi2, hi3⟩ | ⟨rfl, hno⟩, hb1⟩
  · obtain ⟨g, cap', hv, hbg, hgl⟩ := H.out.form (by omega)
    injection hv with hA hn hcc
    subst hA
    have hne1 : ((i : Int) == -1) = false := by simp
    have ho1 : w1.ownsRow base 23 2 (.slice (some ⟨g, 0, none⟩) xs.length cap) xs.length (cellsOf encD xs) := H.out.kept (grown_of_below hb1 none) (by simp [Value.ownBlock])
    have hg1 : w.grownBy w1 (some g) := grown_of_below hb1 _
    obtain ⟨x, hxi⟩ : ∃ x, xs[i]? = some x := ⟨_, List.getElem?_eq_getElem hi1⟩
    have hpre : (xs.take i).filter (fun d => !p d) = xs.take i := by
      rw [List.filter_eq_self]
      intro q hq
      obtain ⟨j, hj⟩ := List.mem_iff_getElem?.1 hq
      rw [List.getElem?_take] at hj
      split at hj
      · simp [hi2 j q (by omega) hj]
      · cases hj
    have hst : ∃ P, (P : List (Int × Int)).length = i ∧ P = (xs.take (i + 1)).filter (fun d => !p d) ∧ P ++ xs.drop P.length = xs := by
      have hl : (xs.take i).length = i := by simp; omega
      refine ⟨xs.take i, hl, ?_, by rw [hl]; exact List.take_append_drop _ _⟩
      rw [filter_take_step hxi, if_pos (hi3 x hxi), hpre]
    have HST := Lib.hid hst
    have HO := Lib.hid ho1
    have HG := Lib.hid hg1
    clear hst ho1 hg1 hpre hi2 hi3 hxi hn hcc hx hb1 HI
    go_wp2
    go_loopw [5, 6, 7] (fun k j _ wr => ∃ (P : List (Int × Int)) (t : Nat), t ≤ xs.length ∧ P.length < t ∧ k = .int .i64 (P.length : Int) ∧ j = .int .i64 t ∧ Hid (P = (xs.take t).filter (fun d => !p d)) ∧
        Hid (wr.ownsRow base 23 2 (.slice (some ⟨g, 0, none⟩) xs.length cap) xs.length (cellsOf encD (P ++ xs.drop P.length))) ∧ Hid (w.grownBy wr (some g))) (fun _ j _ _ => xs.length - (intOf j).toNat)
    case atStart =>
      obtain ⟨P, h1, h2, h3⟩ := HST.out
      exact ⟨P, i + 1, by omega, by omega, by rw [h1], by go_num, h2, by rw [h3]; exact HO, HG⟩
    case round =>
      obtain ⟨P, t, hk1, hk3, rfl, rfl, hP, hown3, hgr3⟩ := hrel
      have hbwr : Below base w0 wr := hbw.grown hgr3.out hbs (fun k hk => by cases hk; exact hbg)
      have hbsr : base ≤ wr.heap.size := Nat.le_trans hbs hgr3.out.size
      by_cases hlt : t < xs.length
      · obtain ⟨⟨r, c⟩, hxt⟩ : ∃ x, xs[t]? = some x := ⟨_, List.getElem?_eq_getElem hlt⟩
        obtain ⟨⟨rp, cp⟩, hxp⟩ : ∃ x, xs[P.length]? = some x := ⟨_, List.getElem?_eq_getElem (by omega)⟩
        obtain ⟨l0, l1, _, _⟩ := own_dot hown3.out (j := t) ((get_tail (by omega)).trans hxt)
        have hfs := filter_take_step (p := p) hxt
        rw [← hP.out] at hfs
        have HXT := Lib.hid hxt; clear hxt
        have HXP := Lib.hid hxp; clear hxp
        cases hq : p (r, c)
        · rw [hq] at hfs
          simp only [Bool.false_eq_true, if_false] at hfs
          have HFS := Lib.hid hfs; clear hfs
          have hr := fun W hW => HP.out r c W hW
          rw [hq] at hr
          have HR := Lib.hid hr; clear hr hq
          go_wp2_with fail
          refine (HR.out _ (hbwr.alloc hbsr _)).mono ?_
          rintro e w2 ⟨rfl, hb2⟩
          have hb3 := below_trans ((Below.refl _ wr).alloc (Nat.le_refl _) _) hb2
          have d0 := (hb2.cell (p := ⟨wr.heap.size, 0, none⟩) (by simp)).trans (show _ = some (.int .i64 r) by simp [World.cell?_alloc_new])
          have d1 := (hb2.cell (p := ⟨wr.heap.size, 1, none⟩) (by simp)).trans (show _ = some (.int .i64 c) by simp [World.cell?_alloc_new])
          have ho2 : w2.ownsRow base 23 2 (.slice (some ⟨g, 0, none⟩) xs.length cap) xs.length (cellsOf encD (P ++ xs.drop P.length)) := hown3.out.kept (grown_of_below hb3 none) (by simp [Value.ownBlock])
          obtain ⟨l4, l5, l6, l7⟩ := own_dot ho2 (j := P.length) ((get_tail (by omega)).trans HXP.out)
          have hos := own_store (r := r) (c := c) ho2 (j := P.length) (by simp; omega)
          rw [set_tail (by omega)] at hos
          have hgg := grown_trans' (grown_trans' hgr3.out (grown_of_below hb3 (some g))) hos.2
          have HOS := Lib.hid hos.1
          have HGG := Lib.hid hgg
          clear hos hgg ho2 hb2 hb3 l0 l1
          go_wp2
          go_roundw
          case rel => exact ⟨P ++ [(r, c)], t + 1, by omega, by simp; omega, by simp, by go_num, HFS.out.symm, HOS, HGG⟩
          case measure => simp [intOf]; omega
        · rw [if_pos hq] at hfs
          have HFS := Lib.hid hfs; clear hfs
          have hr := fun W hW => HP.out r c W hW
          rw [hq] at hr
          have HR := Lib.hid hr; clear hr hq
          go_wp2_with fail
          refine (HR.out _ (hbwr.alloc hbsr _)).mono ?_
          rintro e w2 ⟨rfl, hb2⟩
          have hb3 := below_trans ((Below.refl _ wr).alloc (Nat.le_refl _) _) hb2
          have ho2 : w2.ownsRow base 23 2 (.slice (some ⟨g, 0, none⟩) xs.length cap) xs.length (cellsOf encD (P ++ xs.drop P.length)) := hown3.out.kept (grown_of_below hb3 none) (by simp [Value.ownBlock])
          have hgg := grown_trans' hgr3.out (grown_of_below hb3 (some g))
          have HO2 := Lib.hid ho2
          have HGG := Lib.hid hgg
          clear hgg ho2 hb2 hb3 l0 l1
          go_wp2
          go_roundw
          case rel => exact ⟨P, t + 1, by omega, by omega, rfl, by go_num, HFS.out.symm, HO2, HGG⟩
          case measure => simp [intOf]; omega
      · have hPx : P = xs.filter (fun d => !p d) := by rw [hP.out, List.take_of_length_le (by omega)]
        have hltP : P.length < xs.length := by omega
        obtain ⟨w', hcl, ho', hg'⟩ := run_clear_own (P := Tryd.prog) (z := .agg #[.int .i64 0, .int .i64 0]) (k := 2) Tryd.underlying33 Tryd.zeroValue23 rfl (by simp [Value.cells]; rfl) hown3.out hltP (cap - P.length)
        have hct : (cellsOf encD (P ++ xs.drop P.length)).take (P.length * 2) = cellsOf encD P := by
          rw [show cellsOf encD (P ++ xs.drop P.length) = cellsOf encD P ++ cellsOf encD (xs.drop P.length) by simp [cellsOf], ← cellsOf_length encD_len P, List.take_left]
        rw [hct] at ho'
        have hPc : P.length < cap := by omega
        have HPX := Lib.hid hPx
        have HO' := Lib.hid ho'
        have hgf := grown_trans' hgr3.out hg'
        clear hPx ho' hg' hct hown3 hgr3 hP HO HG HST
        go_wp2
        go_ret
        exact ⟨_, rfl, by rw [← HPX.out]; exact HO'.out, hgf⟩
  · have hf : xs.filter (fun d => !p d) = xs := by
      rw [List.filter_eq_self]
      intro q hq
      simp [hno q hq]
    have HF := Lib.hid hf
    have ho1 : w1.ownsRow base 23 2 (.slice A xs.length cap) xs.length (cellsOf encD xs) := H.out.kept (grown_of_below hb1 none) (by cases A <;> simp [Value.ownBlock])
    have HO := Lib.hid ho1
    have hg1 := grown_of_below hb1 (Value.slice A xs.length cap).ownBlock
    clear hf ho1 hno hx
    go_wp2
    go_ret
    exact ⟨_, rfl, by rw [HF.out]; exact HO.out, hg1⟩

end Go.Proofs.YteeigngomleijaaDoor
