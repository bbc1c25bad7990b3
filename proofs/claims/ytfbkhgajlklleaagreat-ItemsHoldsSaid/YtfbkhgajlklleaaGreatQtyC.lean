/- Lists of marks: which of them are valid, the newest one, the time after them; of the program and of its reference. -/
import Derived.Test.YtfbkhgajlklleaaGreatQtyB
import Derived.Deep.CutBlock
namespace Go.Proofs.YtfbkhgajlklleaaGreat
open Go.RowKit

set_option maxHeartbeats 1000000 in
theorem refMarks (A : Option Addr) (xs : List Mk) (cap : Nat) (w : World) (hx : MarksAt w A xs) (hm : xs.length ≤ maxLen) :
    Calls Tryz.prog 53 #[.slice A xs.length cap] w (OneB (.bool (xs.all validM)) w) := by
  unfold maxLen at hm
  go_enter Tryz.func53, Tryz.ntmps53
  go_wp2
  go_loopw [3] (fun i wr => ∃ m : Nat, m ≤ xs.length ∧ i = .int .i64 m ∧ Below w.heap.size w wr ∧ Hid (∀ (j : Nat) (y : Mk), j < m → xs[j]? = some y → validM y = true)) (fun i _ => xs.length - (intOf i).toNat)
  case atStart => exact ⟨0, by omega, rfl, Below.refl _ _, fun j p h => by omega⟩
  case round =>
    obtain ⟨m, hk2, rfl, hb, hs⟩ := hrel
    by_cases hlt : m < xs.length
    · obtain ⟨b, off, y, rfl, hbl, hx1, _, hc0, hc1, hc2, hc3⟩ := (hx.below hb).mark (j := m) hlt
      have hr := fun W => refMark y W
      cases hq : validM y
      · rw [hq] at hr
        have HR := Lib.hid hr
        have HV := Lib.hid (all_no hx1 hq)
        clear hr hq hx1
        go_wp2_with fail
        refine (HR.out _).mono ?_
        rintro e w1 ⟨rfl, hb1⟩
        clear hc0 hc1 hc2 hc3
        go_wp2
        go_ret
        exact OneB.bool HV.out.symm (hb.trans (hb1.mono hb.size))
      · rw [hq] at hr
        have HR := Lib.hid hr
        have HV := Lib.hid (step_all hs.out hx1 hq)
        clear hr hq hx1
        go_wp2_with fail
        refine (HR.out _).mono ?_
        rintro e w1 ⟨rfl, hb1⟩
        clear hc0 hc1 hc2 hc3
        go_wp2
        go_roundw
        case rel => exact ⟨m + 1, by omega, by go_num, hb.trans (hb1.mono hb.size), HV⟩
        case measure => simp [intOf]; omega
    · obtain rfl : m = xs.length := by omega
      have HV := Lib.hid (all_yes hs.out)
      go_wp2
      go_ret
      exact OneB.bool HV.out.symm hb

set_option maxHeartbeats 400000 in
theorem newest1 (m : Mk) (w : World) : Calls Tryz.prog 102 #[mkV m] w (OneB (.bool (!validM m)) w) := by
  have H := Lib.hid fun W => qtyMark m W
  go_enter Tryz.func102, Tryz.ntmps102
  go_wp2_with fail
  refine (H.out _).mono ?_
  rintro e w1 ⟨rfl, hb1⟩
  have HB := Lib.hid (below_trans ((Below.refl _ w).alloc (Nat.le_refl _) _) hb1)
  clear hb1
  go_wp2_with fail
  go_ret
  exact OneB.bool (by simp) HB.out

set_option maxHeartbeats 1000000 in
theorem indexMarks (A : Option Addr) (xs : List Mk) (cap : Nat) (w : World) (hx : MarksAt w A xs) (hm : xs.length ≤ maxLen) :
    Calls Tryz.prog 92 #[.slice A xs.length cap, .func (.func 102) #[] #[]] w fun e w' =>
      ((∃ i : Nat, e = .returned (.int .i64 i) ∧ xs.all validM = false) ∨ (e = .returned (.int .i64 (-1)) ∧ xs.all validM = true)) ∧ Below w.heap.size w w' := by
  unfold maxLen at hm
  go_enter Tryz.func92, Tryz.ntmps92
  go_wp2
  go_loopw [5, 8] (fun _ i wr => ∃ m : Nat, m ≤ xs.length ∧ i = .int .i64 m ∧ Below w.heap.size w wr ∧ Hid (∀ (j : Nat) (y : Mk), j < m → xs[j]? = some y → validM y = true)) (fun _ i _ => xs.length - (intOf i).toNat)
  case atStart => exact ⟨0, by omega, rfl, Below.refl _ _, fun j q h => by omega⟩
  case round =>
    obtain ⟨m, hk2, rfl, hb, hs⟩ := hrel
    by_cases hlt : m < xs.length
    · obtain ⟨b, off, y, rfl, hbl, hx1, _, hc0, hc1, hc2, hc3⟩ := (hx.below hb).mark (j := m) hlt
      have hr := fun W => newest1 y W
      cases hq : validM y
      · rw [hq] at hr
        have HR := Lib.hid hr
        have HV := Lib.hid (all_no hx1 hq)
        clear hr hq hx1
        go_wp2_with fail
        refine (HR.out _).mono ?_
        rintro e w1 ⟨rfl, hb1⟩
        clear hc0 hc1 hc2 hc3
        go_wp2
        go_ret
        exact ⟨.inl ⟨m, rfl, HV.out⟩, hb.trans (hb1.mono hb.size)⟩
      · rw [hq] at hr
        have HR := Lib.hid hr
        have HV := Lib.hid (step_all hs.out hx1 hq)
        clear hr hq hx1
        go_wp2_with fail
        refine (HR.out _).mono ?_
        rintro e w1 ⟨rfl, hb1⟩
        clear hc0 hc1 hc2 hc3
        go_wp2
        go_roundw
        case rel => exact ⟨m + 1, by omega, by go_num, hb.trans (hb1.mono hb.size), HV⟩
        case measure => simp [intOf]; omega
    · obtain rfl : m = xs.length := by omega
      have HV := Lib.hid (all_yes hs.out)
      go_wp2
      go_ret
      exact ⟨.inr ⟨rfl, HV.out⟩, hb⟩
set_option maxHeartbeats 400000 in
theorem containsMarks (A : Option Addr) (xs : List Mk) (cap : Nat) (w : World) (hx : MarksAt w A xs) (hm : xs.length ≤ maxLen) :
    Calls Tryz.prog 68 #[.slice A xs.length cap, .func (.func 102) #[] #[]] w (OneB (.bool (!xs.all validM)) w) := by
  have H := Lib.hid (indexMarks A xs cap w hx hm)
  go_enter Tryz.func68, Tryz.ntmps68
  go_wp2_with fail
  refine H.out.mono ?_
  rintro e w1 ⟨h, hb⟩
  have HB := Lib.hid hb
  clear hb
  rcases h with ⟨i, rfl, h⟩ | ⟨rfl, h⟩
  · have HV := Lib.hid h
    have i0 : (0 : Int) ≤ (i : Int) := by omega
    clear h
    go_wp2_with fail
    go_ret
    exact OneB.bool (by rw [HV.out]; rfl) HB.out
  · have HV := Lib.hid h
    clear h
    go_wp2_with fail
    go_ret
    exact OneB.bool (by rw [HV.out]; rfl) HB.out

end Go.Proofs.YtfbkhgajlklleaaGreat
