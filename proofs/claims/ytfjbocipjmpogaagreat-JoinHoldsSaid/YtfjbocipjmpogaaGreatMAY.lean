/- Several texts in one: JoiD, CarE, ItmV, CarF. -/
import Derived.Test.YtfjbocipjmpogaaGreatMAX
import Derived.Test.YtfjbocipjmpogaaGreatMAP
import Derived.Test.YtfjbocipjmpogaaGreatMAR
import Derived.Test.YtfjbocipjmpogaaGreatMAW
namespace Go.Proofs.YtfjbocipjmpogaaGreat

section
open Go.RowKit

/-- What a function value says of each mark that is allowed, wherever what lay below base is as it was. -/
def SaysH (g : Nat) (lb : Array Value) (p : Hd → Bool) (ok : Hd → Prop) (base : Nat) (w0 : World) : Prop :=
  ∀ (x : Hd) (W : World), ok x → Below base w0 W → Calls Tryz.prog g (#[mkH x] ++ lb) W fun e w' => e = .returned (.bool (p x)) ∧ Below W.heap.size W w'
theorem filter_stepH {p : Hd → Bool} {xs : List Hd} {j : Nat} {x : Hd} (hx : xs[j]? = some x) : (xs.take (j + 1)).filter (fun d => !p d) = if p x = true then (xs.take j).filter (fun d => !p d) else (xs.take j).filter (fun d => !p d) ++ [x] := by
  rw [take_snoc hx, List.filter_append]
  by_cases h : p x = true <;> simp [h]

set_option maxHeartbeats 1000000 in
theorem indexHeld1 (lb : Array Value) (p : Hd → Bool) (ok : Hd → Prop) (base : Nat) (w0 : World) (A : Option Addr) (xs : List Hd) (cap : Nat) (w : World) (hp : SaysH 74 lb p ok base w0) (hok : ∀ x ∈ xs, ok x) (hbw : Below base w0 w) (hbs : base ≤ w.heap.size) (hx : HeldAt w A xs) (hm : xs.length ≤ 1000000) :
    Calls Tryz.prog 120 #[.slice A xs.length cap, .func (.func 74) #[] lb] w fun e w' =>
      ((∃ i : Nat, i < xs.length ∧ e = .returned (.int .i64 i) ∧ (∀ j q, j < i → xs[j]? = some q → p q = false) ∧ (∀ q, xs[i]? = some q → p q = true)) ∨ (e = .returned (.int .i64 (-1)) ∧ ∀ q ∈ xs, p q = false)) ∧ Below w.heap.size w w' := by
  have HP := Lib.hid hp
  have HK := Lib.hid hok
  clear hp hok
  go_enter Tryz.func120, Tryz.ntmps120
  go_wp2
  go_loopw [5, 8] (fun _ i wr => ∃ m : Nat, m ≤ xs.length ∧ i = .int .i64 m ∧ Below w.heap.size w wr ∧ Hid (∀ j q, j < m → xs[j]? = some q → p q = false)) (fun _ i _ => xs.length - (intOf i).toNat)
  case atStart => exact ⟨0, by omega, rfl, Below.refl _ _, fun j q h => by omega⟩
  case round =>
    obtain ⟨m, hk2, rfl, hb, hs⟩ := hrel
    by_cases hlt : m < xs.length
    · obtain ⟨b, off, x, rfl, hbl, hx1, hc0, hc1, hc2, hc3, hc4⟩ := (hx.below hb).held (j := m) hlt
      have hr := HP.out x wr (HK.out x (List.mem_of_getElem? hx1)) (hbw.trans (hb.mono hbs))
      have HX1 := Lib.hid hx1; clear hx1
      cases hq : p x
      · rw [hq] at hr
        have HR := Lib.hid hr; clear hr
        have HQ := Lib.hid hq; clear hq
        go_wp2_with fail
        refine HR.out.mono ?_
        rintro e w1 ⟨rfl, hb1⟩
        go_wp2
        go_roundw
        case rel =>
          refine ⟨m + 1, by omega, by go_num, hb.trans (hb1.mono hb.size), (show Hid _ from fun j q hj hq => ?_)⟩
          by_cases e : j = m
          · subst e; rw [HX1.out] at hq; cases hq; exact HQ.out
          · exact hs.out j q (by omega) hq
        case measure => simp [intOf]; omega
      · rw [hq] at hr
        have HR := Lib.hid hr; clear hr
        have HQ := Lib.hid hq; clear hq
        go_wp2_with fail
        refine HR.out.mono ?_
        rintro e w1 ⟨rfl, hb1⟩
        go_wp2
        go_ret
        exact ⟨.inl ⟨m, hlt, rfl, hs.out, fun q hq => by rw [HX1.out] at hq; cases hq; exact HQ.out⟩, hb.trans (hb1.mono hb.size)⟩
    · go_wp2
      go_ret
      refine ⟨.inr ⟨rfl, fun q hq => ?_⟩, hb⟩
      obtain ⟨j, hj⟩ := List.mem_iff_getElem?.1 hq
      have hjl : j < xs.length := by
        rcases Nat.lt_or_ge j xs.length with h | h
        · exact h
        · rw [List.getElem?_eq_none h] at hj; cases hj
      exact hs.out j q (by omega) hj

set_option maxHeartbeats 1000000 in
theorem indexHeld2 (lb : Array Value) (p : Hd → Bool) (ok : Hd → Prop) (base : Nat) (w0 : World) (A : Option Addr) (xs : List Hd) (cap : Nat) (w : World) (hp : SaysH 89 lb p ok base w0) (hok : ∀ x ∈ xs, ok x) (hbw : Below base w0 w) (hbs : base ≤ w.heap.size) (hx : HeldAt w A xs) (hm : xs.length ≤ 1000000) :
    Calls Tryz.prog 120 #[.slice A xs.length cap, .func (.func 89) #[] lb] w fun e w' =>
      ((∃ i : Nat, i < xs.length ∧ e = .returned (.int .i64 i) ∧ (∀ j q, j < i → xs[j]? = some q → p q = false) ∧ (∀ q, xs[i]? = some q → p q = true)) ∨ (e = .returned (.int .i64 (-1)) ∧ ∀ q ∈ xs, p q = false)) ∧ Below w.heap.size w w' := by
  have HP := Lib.hid hp
  have HK := Lib.hid hok
  clear hp hok
  go_enter Tryz.func120, Tryz.ntmps120
  go_wp2
  go_loopw [5, 8] (fun _ i wr => ∃ m : Nat, m ≤ xs.length ∧ i = .int .i64 m ∧ Below w.heap.size w wr ∧ Hid (∀ j q, j < m → xs[j]? = some q → p q = false)) (fun _ i _ => xs.length - (intOf i).toNat)
  case atStart => exact ⟨0, by omega, rfl, Below.refl _ _, fun j q h => by omega⟩
  case round =>
    obtain ⟨m, hk2, rfl, hb, hs⟩ := hrel
    by_cases hlt : m < xs.length
    · obtain ⟨b, off, x, rfl, hbl, hx1, hc0, hc1, hc2, hc3, hc4⟩ := (hx.below hb).held (j := m) hlt
      have hr := HP.out x wr (HK.out x (List.mem_of_getElem? hx1)) (hbw.trans (hb.mono hbs))
      have HX1 := Lib.hid hx1; clear hx1
      cases hq : p x
      · rw [hq] at hr
        have HR := Lib.hid hr; clear hr
        have HQ := Lib.hid hq; clear hq
        go_wp2_with fail
        refine HR.out.mono ?_
        rintro e w1 ⟨rfl, hb1⟩
        go_wp2
        go_roundw
        case rel =>
          refine ⟨m + 1, by omega, by go_num, hb.trans (hb1.mono hb.size), (show Hid _ from fun j q hj hq => ?_)⟩
          by_cases e : j = m
          · subst e; rw [HX1.out] at hq; cases hq; exact HQ.out
          · exact hs.out j q (by omega) hq
        case measure => simp [intOf]; omega
      · rw [hq] at hr
        have HR := Lib.hid hr; clear hr
        have HQ := Lib.hid hq; clear hq
        go_wp2_with fail
        refine HR.out.mono ?_
        rintro e w1 ⟨rfl, hb1⟩
        go_wp2
        go_ret
        exact ⟨.inl ⟨m, hlt, rfl, hs.out, fun q hq => by rw [HX1.out] at hq; cases hq; exact HQ.out⟩, hb.trans (hb1.mono hb.size)⟩
    · go_wp2
      go_ret
      refine ⟨.inr ⟨rfl, fun q hq => ?_⟩, hb⟩
      obtain ⟨j, hj⟩ := List.mem_iff_getElem?.1 hq
      have hjl : j < xs.length := by
        rcases Nat.lt_or_ge j xs.length with h | h
        · exact h
        · rw [List.getElem?_eq_none h] at hj; cases hj
      exact hs.out j q (by omega) hj

set_option maxHeartbeats 1000000 in
theorem containsHeldF (lb : Array Value) (p : Hd → Bool) (ok : Hd → Prop) (base : Nat) (w0 : World) (A : Option Addr) (xs : List Hd) (cap : Nat) (b : Bool) (w : World) (hp : SaysH 89 lb p ok base w0) (hok : ∀ x ∈ xs, ok x) (hbw : Below base w0 w) (hbs : base ≤ w.heap.size) (hx : HeldAt w A xs) (hm : xs.length ≤ 1000000) (hb : xs.any p = b) :
    Calls Tryz.prog 88 #[.slice A xs.length cap, .func (.func 89) #[] lb] w (OneB (.bool b) w) := by
  have HI := Lib.hid (indexHeld2 lb p ok base w0 A xs cap w hp hok hbw hbs hx hm)
  have HB := Lib.hid hb
  clear hp hok hx hb
  go_enter Tryz.func88, Tryz.ntmps88
  go_wp2_with fail
  refine HI.out.mono ?_
  rintro e w1 ⟨⟨i, hi1, rfl, hi2, hi3⟩ | ⟨rfl, hno⟩, hb1⟩
  · have hbt : true = b := by
      rw [← HB.out]
      symm
      rw [List.any_eq_true]
      exact ⟨xs[i], List.getElem_mem _, hi3 _ (List.getElem?_eq_getElem hi1)⟩
    have HT := Lib.hid hbt
    have i0 : (0 : Int) ≤ (i : Int) := by omega
    clear hbt hi2 hi3
    go_wp2
    go_ret
    exact OneB.bool HT.out hb1
  · have hbt : false = b := by
      rw [← HB.out]
      symm
      rw [List.any_eq_false]
      intro x hx
      rw [hno x hx]; simp
    have HT := Lib.hid hbt
    clear hbt hno
    go_wp2
    go_ret
    exact OneB.bool HT.out hb1

set_option maxRecDepth 100000 in
set_option maxHeartbeats 1000000 in
theorem deleteHeld (lb : Array Value) (p : Hd → Bool) (ok : Hd → Prop) (base : Nat) (w0 : World) (v : Value) (xs : List Hd) (w : World) (hp : SaysH 74 lb p ok base w0) (hok : ∀ x ∈ xs, ok x) (hbw : Below base w0 w) (hbs : base ≤ w.heap.size)
    (h : w.ownsRow base 67 5 v xs.length (cellsOf encH xs)) (hm : xs.length ≤ 1000000) :
    Calls Tryz.prog 72 #[v, .func (.func 74) #[] lb] w fun e w' =>
      ∃ v', e = .returned v' ∧ w'.ownsRow base 67 5 v' (xs.filter fun d => !p d).length (cellsOf encH (xs.filter fun d => !p d)) ∧ w.grownBy w' v.ownBlock := by
  obtain ⟨A, cap, rfl, hc1, hc2, hx0⟩ := SlAt.of_own encH_len h
  have hx : HeldAt w A xs := hx0
  clear hx0
  have hi := indexHeld1 lb p ok base w0 A xs cap w hp hok hbw hbs hx hm
  have HK := Lib.hid hok
  clear hok
  have HI := Lib.hid hi
  have H := Lib.hid h
  have HP := Lib.hid hp
  clear hi h hp
  unfold maxLen at hc2
  go_enter Tryz.func72, Tryz.ntmps72
  go_wp2_with fail
  refine HI.out.mono ?_
  rintro e w1 ⟨⟨i, hi1, rfl, hi2, hi3⟩ | ⟨rfl, hno⟩, hb1⟩
  · obtain ⟨g, cap', hv, hbg, hgl⟩ := H.out.form (by omega)
    injection hv with hA hn hcc
    subst hA
    have hne1 : ((i : Int) == -1) = false := by simp
    have ho1 : w1.ownsRow base 67 5 (.slice (some ⟨g, 0, none⟩) xs.length cap) xs.length (cellsOf encH xs) := H.out.kept (grown_of_below hb1 none) (by simp [Value.ownBlock])
    have hg1 : w.grownBy w1 (some g) := grown_of_below hb1 _
    obtain ⟨xi, hxi⟩ : ∃ x, xs[i]? = some x := ⟨_, List.getElem?_eq_getElem hi1⟩
    have hpre : (xs.take i).filter (fun d => !p d) = xs.take i := by
      rw [List.filter_eq_self]
      intro q hq
      obtain ⟨j, hj⟩ := List.mem_iff_getElem?.1 hq
      rw [List.getElem?_take] at hj
      split at hj
      · simp [hi2 j q (by omega) hj]
      · cases hj
    have hst : ∃ P, (P : List Hd).length = i ∧ P = (xs.take (i + 1)).filter (fun d => !p d) ∧ P ++ xs.drop P.length = xs := by
      have hl : (xs.take i).length = i := by simp; omega
      refine ⟨xs.take i, hl, ?_, by rw [hl]; exact List.take_append_drop _ _⟩
      rw [filter_stepH hxi, if_pos (hi3 xi hxi), hpre]
    have HST := Lib.hid hst
    have HO := Lib.hid ho1
    have HG := Lib.hid hg1
    clear hst ho1 hg1 hpre hi2 hi3 hxi hn hcc hx hb1 HI
    go_wp2
    go_loopw [5, 6, 7] (fun k j _ wr => ∃ (P : List Hd) (t : Nat), t ≤ xs.length ∧ P.length < t ∧ k = .int .i64 (P.length : Int) ∧ j = .int .i64 t ∧ Hid (P = (xs.take t).filter (fun d => !p d)) ∧
        Hid (wr.ownsRow base 67 5 (.slice (some ⟨g, 0, none⟩) xs.length cap) xs.length (cellsOf encH (P ++ xs.drop P.length))) ∧ Hid (w.grownBy wr (some g))) (fun _ j _ _ => xs.length - (intOf j).toNat)
    case atStart =>
      obtain ⟨P, h1, h2, h3⟩ := HST.out
      exact ⟨P, i + 1, by omega, by omega, by rw [h1], by go_num, h2, by rw [h3]; exact HO, HG⟩
    case round =>
      obtain ⟨P, t, hk1, hk3, rfl, rfl, hP, hown3, hgr3⟩ := hrel
      have hbwr : Below base w0 wr := hbw.grown hgr3.out hbs (fun k hk => by cases hk; exact hbg)
      have hbsr : base ≤ wr.heap.size := Nat.le_trans hbs hgr3.out.size
      by_cases hlt : t < xs.length
      · obtain ⟨x, hxt⟩ : ∃ x, xs[t]? = some x := ⟨_, List.getElem?_eq_getElem hlt⟩
        obtain ⟨xp, hxp⟩ : ∃ x, xs[P.length]? = some x := ⟨_, List.getElem?_eq_getElem (by omega)⟩
        obtain ⟨l0, l1, l2, l3, l4⟩ := own_held hown3.out (j := t) ((get_tail (by omega)).trans hxt)
        have hokx := HK.out x (List.mem_of_getElem? hxt)
        have hfs := filter_stepH (p := p) hxt
        rw [← hP.out] at hfs
        have HXT := Lib.hid hxt; clear hxt
        have HXP := Lib.hid hxp; clear hxp
        cases hq : p x
        · rw [hq] at hfs
          simp only [Bool.false_eq_true, if_false] at hfs
          have HFS := Lib.hid hfs; clear hfs
          have hr := fun W hW => HP.out x W hokx hW
          rw [hq] at hr
          have HR := Lib.hid hr; clear hr hq
          go_wp2_with fail
          refine (HR.out _ (hbwr.alloc hbsr _)).mono ?_
          rintro e w2 ⟨rfl, hb2⟩
          have hb3 := below_trans ((Below.refl _ wr).alloc (Nat.le_refl _) _) hb2
          have hbk := (BlkH.new wr x).below hb2
          have d0 := hbk.cell0
          have d1 := hbk.cell1
          have d2 := hbk.cell2
          have d3 := hbk.cell3
          have d4 := hbk.cell4
          have ho2 : w2.ownsRow base 67 5 (.slice (some ⟨g, 0, none⟩) xs.length cap) xs.length (cellsOf encH (P ++ xs.drop P.length)) := hown3.out.kept (grown_of_below hb3 none) (by simp [Value.ownBlock])
          obtain ⟨c0, c1, c2, c3, c4⟩ := own_held ho2 (j := P.length) ((get_tail (by omega)).trans HXP.out)
          have cf := own_froz ho2
          have hos := own_storeH (x := x) ho2 (j := P.length) (by simp; omega)
          rw [set_tail (by omega)] at hos
          have hgg := grown_trans' (grown_trans' hgr3.out (grown_of_below hb3 (some g))) hos.2
          have HOS := Lib.hid hos.1
          have HGG := Lib.hid hgg
          clear hos hgg ho2 hb2 hb3 hbk l0 l1 l2 l3 l4
          go_wp2
          go_roundw
          case rel => exact ⟨P ++ [x], t + 1, by omega, by simp; omega, by simp, by go_num, HFS.out.symm, HOS, HGG⟩
          case measure => simp [intOf]; omega
        · rw [if_pos hq] at hfs
          have HFS := Lib.hid hfs; clear hfs
          have hr := fun W hW => HP.out x W hokx hW
          rw [hq] at hr
          have HR := Lib.hid hr; clear hr hq
          go_wp2_with fail
          refine (HR.out _ (hbwr.alloc hbsr _)).mono ?_
          rintro e w2 ⟨rfl, hb2⟩
          have hb3 := below_trans ((Below.refl _ wr).alloc (Nat.le_refl _) _) hb2
          have ho2 : w2.ownsRow base 67 5 (.slice (some ⟨g, 0, none⟩) xs.length cap) xs.length (cellsOf encH (P ++ xs.drop P.length)) := hown3.out.kept (grown_of_below hb3 none) (by simp [Value.ownBlock])
          have hgg := grown_trans' hgr3.out (grown_of_below hb3 (some g))
          have HO2 := Lib.hid ho2
          have HGG := Lib.hid hgg
          clear hgg ho2 hb2 hb3 l0 l1 l2 l3 l4
          go_wp2
          go_roundw
          case rel => exact ⟨P, t + 1, by omega, by omega, rfl, by go_num, HFS.out.symm, HO2, HGG⟩
          case measure => simp [intOf]; omega
      · have hPx : P = xs.filter (fun d => !p d) := by rw [hP.out, List.take_of_length_le (by omega)]
        have hltP : P.length < xs.length := by omega
        obtain ⟨w', hcl, ho', hg'⟩ := run_clear_own (P := Tryz.prog) (z := .agg #[.string ⟨#[]⟩, .int .i64 0, .int .i64 0, .int .i64 0, .int .u64 0]) (k := 5) Tryz.underlying64 Tryz.zeroValue67 rfl (by intro u hu; simp [Value.cells] at hu; rcases hu with rfl | rfl | rfl <;> rfl) hown3.out hltP (cap - P.length)
        have hct : (cellsOf encH (P ++ xs.drop P.length)).take (P.length * 5) = cellsOf encH P := by
          rw [show cellsOf encH (P ++ xs.drop P.length) = cellsOf encH P ++ cellsOf encH (xs.drop P.length) by simp [cellsOf], ← cellsOf_length encH_len P, List.take_left]
        rw [hct] at ho'
        have hPc : P.length < cap := by omega
        have HPX := Lib.hid hPx
        have HO' := Lib.hid ho'
        have hgf := grown_trans' hgr3.out hg'
        clear hPx ho' hg' hct hown3 hgr3 hP HO HG HST
        go_wp2
        go_ret
        exact ⟨_, rfl, by rw [← HPX.out]; exact HO'.out, hgf⟩
  · have hf : xs.filter (fun d => !p d) = xs := by
      rw [List.filter_eq_self]
      intro q hq
      simp [hno q hq]
    have HF := Lib.hid hf
    have ho1 : w1.ownsRow base 67 5 (.slice A xs.length cap) xs.length (cellsOf encH xs) := H.out.kept (grown_of_below hb1 none) (by cases A <;> simp [Value.ownBlock])
    have HO := Lib.hid ho1
    have hg1 := grown_of_below hb1 (Value.slice A xs.length cap).ownBlock
    clear hf ho1 hno hx
    go_wp2
    go_ret
    exact ⟨_, rfl, by rw [HF.out]; exact HO.out, hg1⟩

end

section
open Go.RowKit

/-- How much of a cart the laws look at. -/
def lightI (x : ItV) : Bool := decide (x.nm.length ≤ 100) && decide (x.ms.length ≤ 10)
def lightK (c : CaV) : Bool := decide (c.vs.length ≤ 40) && (decide (c.ls.length ≤ 40) && (decide (c.xs.length ≤ 20) && c.xs.all lightI))
theorem lightK_fits {c : CaV} (h : lightK c = true) : FitsC c ∧ c.vs.length ≤ 40 ∧ c.ls.length ≤ 40 ∧ c.xs.length ≤ 20 ∧ ∀ x ∈ c.xs, x.nm.length ≤ 100 ∧ x.ms.length ≤ 10 := by
  simp only [lightK, lightI, Bool.and_eq_true, decide_eq_true_eq, List.all_eq_true] at h
  obtain ⟨h1, h2, h3, h4⟩ := h
  exact ⟨⟨by omega, by omega, by omega, fun x hx => by have := h4 x hx; omega⟩, h1, h2, h3, h4⟩

set_option maxRecDepth 100000 in
set_option maxHeartbeats 2000000 in
theorem lawLight10 (c : CaV) (b : Bool) (w : World) (hc : CaOK w c) (hb : lightK c = b) : Calls Tryz.prog 8 #[mkC c] w (OneB (.bool b) w) := by
  have K0 := Lib.hid (KB1.new w c hc)
  have HV := Lib.hid hb
  clear hc hb
  obtain ⟨V, nv, vs, L, nl, ls, I, ni, xs⟩ := c
  have HS := Lib.hid (show ∀ W, KB1 w ⟨V, nv, vs, L, nl, ls, I, ni, xs⟩ W → W.cell? ⟨w.heap.size, 0, none⟩ = some (.slice V vs.length nv) ∧ W.cell? ⟨w.heap.size, 1, none⟩ = some (.slice L ls.length nl) ∧ W.cell? ⟨w.heap.size, 2, none⟩ = some (.slice I xs.length ni) ∧ w.heap.size < W.heap.size ∧ ItemsAt W I xs from fun W h => ⟨h.sp.1, h.sp.2.1, h.sp.2.2.1, h.sp.2.2.2.1, h.items⟩)
  by_cases h1 : vs.length ≤ 40
  · have i1 : ¬ (40 : Int) < (vs.length : Int) := by omega
    by_cases h2 : ls.length ≤ 40
    · have i2 : ¬ (40 : Int) < (ls.length : Int) := by omega
      by_cases h3 : xs.length ≤ 20
      · have i3 : ¬ (20 : Int) < (xs.length : Int) := by omega
        have HE := Lib.hid (show xs.all lightI = b from by rw [← HV.out]; unfold lightK; simp only [decide_eq_true h1, decide_eq_true h2, decide_eq_true h3, Bool.true_and])
        clear HV h1 h2
        go_enter Tryz.func8, Tryz.ntmps8
        go_upto_region 1 with fail
        generalize World.alloc w _ = w2 at K0 ⊢
        obtain ⟨x0, x1, x2, xl, hit⟩ := HS.out w2 K0.out
        have HI := Lib.hid hit
        have K1 := Lib.hid K0.out.bel
        clear K0 HS hit
        go_wp2_with fail
        clear x0 x1 x2 xl
        go_loopw [4, 26] (fun _ i wr => ∃ k : Nat, k ≤ xs.length ∧ i = .int .i64 k ∧ Hid (Below w2.heap.size w2 wr) ∧ Hid (∀ (j : Nat) (y : ItV), j < k → xs[j]? = some y → lightI y = true)) (fun _ i _ => xs.length - (intOf i).toNat)
        case atStart => exact ⟨0, by omega, rfl, Lib.hid (Below.refl _ _), Lib.hid fun j y h => by omega⟩
        case round =>
          obtain ⟨k, hk, rfl, hB, hs⟩ := hrel
          by_cases hlt : k < xs.length
          · have i0 : (k : Int) < (xs.length : Int) := by omega
            obtain ⟨bb, off, x, rfl, hbl, hx1, _, hc0, hc1, hok⟩ := (HI.out.below hB.out).cells (j := k) hlt
            have HX1 := Lib.hid hx1
            have hsz := size_mk x.nm
            have HB2 := Lib.hid (below_trans hB.out ((Below.refl wr.heap.size wr).alloc (Nat.le_refl _) (.cells #[.string ⟨x.nm.toArray⟩, .slice x.A x.ms.length x.c] 49)))
            clear hx1 hok
            by_cases h1 : x.nm.length ≤ 100
            · have j1 : ¬ (100 : Int) < (x.nm.length : Int) := by omega
              by_cases h2 : x.ms.length ≤ 10
              · have j2 : ¬ (10 : Int) < (x.ms.length : Int) := by omega
                have HN := Lib.hid (step_true (p := lightI) hs.out HX1.out (by simp [lightI, h1, h2]))
                go_wp2_with fail
                go_roundw
                case rel => exact ⟨k + 1, by omega, by go_num, HB2, HN⟩
                case measure => simp [intOf]; omega
              · have j2 : (10 : Int) < (x.ms.length : Int) := by omega
                have HN := Lib.hid (show false = b from by rw [← HE.out]; exact (List.all_eq_false.2 ⟨x, List.mem_of_getElem? HX1.out, by simp [lightI, h2]⟩).symm)
                go_wp2_with fail
                go_ret
                exact OneB.bool HN.out (below_trans K1.out HB2.out)
            · have j1 : (100 : Int) < (x.nm.length : Int) := by omega
              have HN := Lib.hid (show false = b from by rw [← HE.out]; exact (List.all_eq_false.2 ⟨x, List.mem_of_getElem? HX1.out, by simp [lightI, h1]⟩).symm)
              go_wp2_with fail
              go_ret
              exact OneB.bool HN.out (below_trans K1.out HB2.out)
          · have i0 : ¬ (k : Int) < (xs.length : Int) := by omega
            obtain rfl : k = xs.length := by omega
            have HN := Lib.hid (show true = b from by
              rw [← HE.out]
              refine (List.all_eq_true.2 fun y hy => ?_).symm
              obtain ⟨j, hj⟩ := List.mem_iff_getElem?.1 hy
              exact hs.out j y (List.getElem?_eq_some_iff.1 hj).1 hj)
            clear hlt hs
            go_wp2_with fail
            go_ret
            exact OneB.bool HN.out (below_trans K1.out hB.out)
      · have i3 : (20 : Int) < (xs.length : Int) := by omega
        have HN := Lib.hid (show false = b from by rw [← HV.out]; unfold lightK; simp [h3])
        clear HV h1 h2 h3
        go_enter Tryz.func8, Tryz.ntmps8
        go_upto_region 1 with fail
        generalize World.alloc w _ = w2 at K0 ⊢
        obtain ⟨x0, x1, x2, xl, _⟩ := HS.out w2 K0.out
        have K1 := Lib.hid K0.out.bel
        clear K0 HS
        go_wp2_with fail
        go_ret
        exact OneB.bool HN.out K1.out
    · have i2 : (40 : Int) < (ls.length : Int) := by omega
      have HN := Lib.hid (show false = b from by rw [← HV.out]; unfold lightK; simp [h2])
      clear HV h1 h2
      go_enter Tryz.func8, Tryz.ntmps8
      go_upto_region 1 with fail
      generalize World.alloc w _ = w2 at K0 ⊢
      obtain ⟨x0, x1, x2, xl, _⟩ := HS.out w2 K0.out
      have K1 := Lib.hid K0.out.bel
      clear K0 HS
      go_wp2_with fail
      go_ret
      exact OneB.bool HN.out K1.out
  · have i1 : (40 : Int) < (vs.length : Int) := by omega
    have HN := Lib.hid (show false = b from by rw [← HV.out]; unfold lightK; simp [h1])
    clear HV h1
    go_enter Tryz.func8, Tryz.ntmps8
    go_upto_region 1 with fail
    generalize World.alloc w _ = w2 at K0 ⊢
    obtain ⟨x0, x1, x2, xl, _⟩ := HS.out w2 K0.out
    have K1 := Lib.hid K0.out.bel
    clear K0 HS
    go_wp2_with fail
    go_ret
    exact OneB.bool HN.out K1.out

end

section
open Go.RowKit

theorem RowT.form {W : World} {B : Nat} {v : Value} {xs : List ItV} (h : RowT W B v xs) (h0 : 0 < xs.length) :
    ∃ g c cur, v = .slice (some ⟨g, 0, none⟩) xs.length c ∧ B ≤ g ∧ W.heap[g]? = some (.cells cur 49 (0, 0)) := by
  rcases h.2 with ⟨_, h2⟩ | ⟨g, cap, cur, hv, hb, hg, _⟩
  · omega
  · exact ⟨g, cap, cur, hv, hb, hg⟩
theorem RowM.form {W : World} {B : Nat} {v : Value} {ms : List Mk} (h : RowM W B v ms) :
    (v = .slice none 0 0 ∧ ms = []) ∨ ∃ g c cur, v = .slice (some ⟨g, 0, none⟩) ms.length c ∧ B ≤ g ∧ W.heap[g]? = some (.cells cur 54 (0, 0)) := by
  rcases h.2 with ⟨h1, h2⟩ | ⟨g, cap, cur, hv, hb, hg, _⟩
  · exact .inl ⟨h1, List.eq_nil_of_length_eq_zero h2⟩
  · exact .inr ⟨g, cap, cur, hv, hb, hg⟩
/-- A block of items is no block of marks. -/
theorem RowM.ne {W : World} {B g : Nat} {v : Value} {ms : List Mk} {cur : Array Value} (h : RowM W B v ms) (hg : W.heap[g]? = some (.cells cur 49 (0, 0))) : v.ownBlock ≠ some g := by
  rcases RowM.form h with ⟨rfl, _⟩ | ⟨g', c, cur', rfl, _, hg'⟩
  · simp [Value.ownBlock]
  · intro e
    have e' : g' = g := by simpa [Value.ownBlock] using e
    subst e'
    rw [hg] at hg'
    injection hg' with h1
    injection h1 with _ h2 _
    exact absurd h2 (by decide)

/-- The name of one item in its row. -/
theorem cells_setN (ys : List ItV) (j : Nat) (s : List UInt8) (y : ItV) (hj : ys[j]? = some y) : (cellsOf encIt ys).set (j * 2) (.string ⟨s.toArray⟩) = cellsOf encIt (ys.set j { y with nm := s }) := by
  induction ys generalizing j with
  | nil => simp at hj
  | cons z l ih =>
    cases j with
    | zero =>
      obtain rfl : z = y := by simpa using hj
      rfl
    | succ n =>
      have hj' : l[n]? = some y := by simpa using hj
      rw [List.set_cons_succ, show cellsOf encIt (z :: l) = encIt z ++ cellsOf encIt l from rfl, show cellsOf encIt (z :: l.set n { y with nm := s }) = encIt z ++ cellsOf encIt (l.set n { y with nm := s }) from rfl, ← ih n hj', show (n + 1) * 2 = (encIt z).length + n * 2 by rw [encIt_len]; omega, List.set_append_right _ _ (by omega), show (encIt z).length + n * 2 - (encIt z).length = n * 2 by omega]
theorem spoName {W : World} {B g c n j : Nat} {xs : List ItV} {x : ItV} (h : OwnI W B (.slice (some ⟨g, 0, none⟩) n c) xs) (hn : xs.length = n) (hj : xs[j]? = some x) (s : List UInt8) :
    OwnI (W.setCell ⟨g, j * 2, none⟩ (.string ⟨s.toArray⟩)) B (.slice (some ⟨g, 0, none⟩) n c) (xs.set j { x with nm := s }) := by
  subst hn
  have hjl := (List.getElem?_eq_some_iff.1 hj).1
  obtain ⟨g', c', cur, hv, _, hg⟩ := h.1.form (by omega)
  have hgg : g = g' := by injection hv with h1; injection h1 with h1; injection h1
  subst hgg
  refine ⟨?_, fun y hy => ?_⟩
  · have h1 := (World.ownsRow.stored h.1 (j * 2) (.string ⟨s.toArray⟩)).1
    rw [cells_setN xs j s x hj] at h1
    show World.ownsRow _ _ _ _ _ (xs.set j { x with nm := s }).length _
    rw [List.length_set]
    exact h1
  · have hk : RowM W B (slV y) y.ms := by
      rcases List.mem_or_eq_of_mem_set hy with h' | h'
      · exact h.2 y h'
      · subst h'; exact h.2 x (List.mem_of_getElem? hj)
    exact ownsRow_setCell_other hk (a := ⟨g, j * 2, none⟩) (RowM.ne hk hg) _

/-- One mark with another quantity. -/
def setQ (ms : List Mk) (k : Nat) (q : Int) : List Mk := ms.modify k fun m => { m with q := q }
theorem setQ_len (ms : List Mk) (k : Nat) (q : Int) : (setQ ms k q).length = ms.length := by simp [setQ]
theorem cells_setQ : ∀ (ms : List Mk) (k : Nat) (q : Int), (cellsOf encM ms).set (k * 4 + 2) (.int .i64 q) = cellsOf encM (setQ ms k q)
  | [], k, q => by simp [setQ, cellsOf]
  | m :: r, 0, q => by rfl
  | m :: r, k + 1, q => by
    have ih := cells_setQ r k q
    have e : setQ (m :: r) (k + 1) q = m :: setQ r k q := by simp [setQ]
    rw [e, show cellsOf encM (m :: r) = encM m ++ cellsOf encM r from rfl, show cellsOf encM (m :: setQ r k q) = encM m ++ cellsOf encM (setQ r k q) from rfl, ← ih, show (k + 1) * 4 + 2 = (encM m).length + (k * 4 + 2) by rw [encM_len]; omega, List.set_append_right _ _ (by omega), show (encM m).length + (k * 4 + 2) - (encM m).length = k * 4 + 2 by omega]
/-- The item with one quantity changed, if its marks lie there. -/
def poke (h k : Nat) (q : Int) (y : ItV) : ItV := if y.A = some ⟨h, 0, none⟩ then { y with ms := setQ y.ms k q } else y
theorem poke_same (h k : Nat) (q : Int) (y : ItV) : (poke h k q y).nm = y.nm ∧ (poke h k q y).A = y.A ∧ (poke h k q y).c = y.c ∧ (poke h k q y).ms.length = y.ms.length := by
  unfold poke
  split
  · exact ⟨rfl, rfl, rfl, setQ_len _ _ _⟩
  · exact ⟨rfl, rfl, rfl, rfl⟩
theorem encIt_poke (h k : Nat) (q : Int) (y : ItV) : encIt (poke h k q y) = encIt y := by
  obtain ⟨h1, h2, h3, h4⟩ := poke_same h k q y
  unfold encIt
  rw [h1, h2, h3, h4]
theorem cells_poke (h k : Nat) (q : Int) (xs : List ItV) : cellsOf encIt (xs.map (poke h k q)) = cellsOf encIt xs := by
  unfold cellsOf
  rw [List.flatMap_map]
  exact congrArg List.flatten (List.map_congr_left fun y _ => encIt_poke h k q y)
theorem spoMark {W : World} {B g c n h k : Nat} {xs : List ItV} (hx : OwnI W B (.slice (some ⟨g, 0, none⟩) n c) xs) (hn : xs.length = n) (h0 : 0 < n) {cur : Array Value} (hh : W.heap[h]? = some (.cells cur 54 (0, 0))) (q : Int) :
    OwnI (W.setCell ⟨h, k * 4 + 2, none⟩ (.int .i64 q)) B (.slice (some ⟨g, 0, none⟩) n c) (xs.map (poke h k q)) := by
  subst hn
  obtain ⟨g', c', cur', hv, _, hg⟩ := hx.1.form h0
  have hgg : g = g' := by injection hv with h1; injection h1 with h1; injection h1
  subst hgg
  refine ⟨?_, fun y hy => ?_⟩
  · have hne : (Value.slice (some ⟨g, 0, none⟩) xs.length c).ownBlock ≠ some h := fun e => by
      have e' : g = h := by simpa [Value.ownBlock] using e
      subst e'
      rw [hg] at hh
      injection hh with h1
      injection h1 with _ h2 _
      exact absurd h2 (by decide)
    have h1 := ownsRow_setCell_other hx.1 (a := ⟨h, k * 4 + 2, none⟩) hne (.int .i64 q)
    show World.ownsRow _ _ _ _ _ (xs.map (poke h k q)).length _
    rw [List.length_map, cells_poke]
    exact h1
  · obtain ⟨z, hz, rfl⟩ := List.mem_map.1 hy
    have hk := hx.2 z hz
    by_cases he : z.A = some ⟨h, 0, none⟩
    · have e : poke h k q z = { z with ms := setQ z.ms k q } := by unfold poke; rw [if_pos he]
      have h1 : RowM W B (.slice (some ⟨h, 0, none⟩) z.ms.length z.c) z.ms := by rw [← he]; exact hk
      have h2 := (World.ownsRow.stored h1 (k * 4 + 2) (.int .i64 q)).1
      rw [cells_setQ] at h2
      rw [e]
      show World.ownsRow _ _ _ _ (.slice z.A (setQ z.ms k q).length z.c) (setQ z.ms k q).length _
      rw [setQ_len, he]
      exact h2
    · have e : poke h k q z = z := by unfold poke; rw [if_neg he]
      rw [e]
      refine ownsRow_setCell_other hk (a := ⟨h, k * 4 + 2, none⟩) (fun ek => ?_) _
      rcases RowM.form hk with ⟨e1, _⟩ | ⟨g2, c2, cur2, e1, _⟩
      · rw [e1] at ek; simp [Value.ownBlock] at ek
      · rw [e1] at ek
        have e2 : g2 = h := by simpa [Value.ownBlock] using ek
        subst e2
        injection e1 with e3
        exact he e3

/-- What was returned, as it is spoilt: the row of the items, names not too long. -/
structure Spo (W0 : World) (B g c n lim : Nat) (W : World) (xs : List ItV) : Prop where
  own : OwnI W B (.slice (some ⟨g, 0, none⟩) n c) xs
  len : xs.length = n
  nam : ∀ x ∈ xs, x.nm.length ≤ lim
  bel : Below B W0 W
section
variable {W0 W : World} {B g c n lim : Nat} {xs : List ItV}
theorem Spo.cells (h : Spo W0 B g c n lim W xs) {j : Nat} {x : ItV} (hj : xs[j]? = some x) : W.cell? ⟨g, j * 2, none⟩ = some (.string ⟨x.nm.toArray⟩) ∧ W.cell? ⟨g, j * 2 + 1, none⟩ = some (.slice x.A x.ms.length x.c) ∧ W.frozen? ⟨g, j * 2, none⟩ = false ∧ g < W.heap.size ∧ B ≤ g := by
  have ho := h.own.1
  rw [show RowT W B (.slice (some ⟨g, 0, none⟩) n c) xs = W.ownsRow B 49 2 (.slice (some ⟨g, 0, none⟩) n c) xs.length (cellsOf encIt xs) from rfl, h.len] at ho
  obtain ⟨a1, a2, a3, _⟩ := own_it ho hj
  have := ho.lt g rfl
  exact ⟨a1, a2, a3, this.2, this.1⟩
theorem Spo.name (h : Spo W0 B g c n lim W xs) {j : Nat} {x : ItV} (hj : xs[j]? = some x) (b : UInt8) : Spo W0 B g c n (lim + 1) (W.setCell ⟨g, j * 2, none⟩ (.string ⟨(x.nm ++ [b]).toArray⟩)) (xs.set j { x with nm := x.nm ++ [b] }) :=
  ⟨spoName h.own h.len hj _, by rw [List.length_set]; exact h.len, fun y hy => by
    rcases List.mem_or_eq_of_mem_set hy with h' | h'
    · have := h.nam y h'; omega
    · subst h'
      have := h.nam x (List.mem_of_getElem? hj)
      simp; omega, h.bel.setCell (p := ⟨g, j * 2, none⟩) (h.cells hj).2.2.2.2 _⟩
theorem Spo.marks (h : Spo W0 B g c n lim W xs) {j k : Nat} {x : ItV} (hj : xs[j]? = some x) (hk : k < x.ms.length) :
    ∃ b q, x.A = some ⟨b, 0, none⟩ ∧ W.cell? ⟨b, k * 4 + 2, none⟩ = some (.int .i64 q) ∧ W.frozen? ⟨b, k * 4 + 2, none⟩ = false ∧ b < W.heap.size ∧
      ∀ q', ∃ ys y, Spo W0 B g c n lim (W.setCell ⟨b, k * 4 + 2, none⟩ (.int .i64 q')) ys ∧ ys[j]? = some y ∧ y.A = x.A ∧ y.c = x.c ∧ y.ms.length = x.ms.length := by
  have hjl := (List.getElem?_eq_some_iff.1 hj).1
  have hr := h.own.2 x (List.mem_of_getElem? hj)
  rcases RowM.form hr with ⟨_, e2⟩ | ⟨b, c2, cur2, e1, hb, hg⟩
  · rw [e2] at hk; simp at hk
  · injection e1 with e3 _ e4
    have hr' : RowM W B (.slice (some ⟨b, 0, none⟩) x.ms.length x.c) x.ms := by rw [← e3]; exact hr
    have hc := hr'.cells (g := b) rfl (k * 4 + 2) (.int .i64 x.ms[k].q) (cellsOf_at encM_len x.ms k x.ms[k] 2 _ (List.getElem?_eq_getElem hk) rfl)
    rw [Addr_add, Nat.zero_add] at hc
    refine ⟨b, x.ms[k].q, e3, hc, hr'.frozenAt _, (Array.getElem?_eq_some_iff.1 hg).1, fun q' => ?_⟩
    obtain ⟨p1, p2, p3, p4⟩ := poke_same b k q' x
    refine ⟨xs.map (poke b k q'), poke b k q' x, ⟨spoMark h.own h.len (by rw [← h.len]; omega) hg q', by rw [List.length_map]; exact h.len, fun y hy => ?_, h.bel.setCell (p := ⟨b, k * 4 + 2, none⟩) hb _⟩, by rw [List.getElem?_map, hj]; rfl, p2, p3, p4⟩
    obtain ⟨z, hz, rfl⟩ := List.mem_map.1 hy
    rw [(poke_same b k q' z).1]
    exact h.nam z hz
end

end

section
open Go.RowKit

end

end Go.Proofs.YtfjbocipjmpogaaGreat
