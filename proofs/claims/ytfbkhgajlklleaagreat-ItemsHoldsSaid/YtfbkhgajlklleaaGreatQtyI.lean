/- IsList of both, the reference's Same of marks. -/
import Derived.Test.YtfbkhgajlklleaaGreatQtyH
namespace Go.Proofs.YtfbkhgajlklleaaGreat
open Go.RowKit

theorem dotIsSet_h (v : Value) (xs : List (Int × Int)) (b : Bool) (w : World) (h : Holds w v xs) (hb : isSetB xs = b) : Calls Tryz.prog 91 #[v] w (OneB (.bool b) w) := by
  obtain ⟨A, n, rfl, h1, h2, h3⟩ := h
  subst hb
  exact dotIsSet A xs n w h1 (Nat.le_trans h2 h3)
theorem refIsSet_h (v : Value) (xs : List (Int × Int)) (b : Bool) (w : World) (h : Holds w v xs) (hb : isSetB xs = b) : Calls Tryz.prog 76 #[v] w (OneB (.bool b) w) := by
  obtain ⟨A, n, rfl, h1, h2, h3⟩ := h
  subst hb
  exact refIsSet A xs n w h1 (Nat.le_trans h2 h3)
theorem refSame_h (v v' : Value) (xs : List (Int × Int)) (w : World) (h : Holds w v xs) (h' : Holds w v' xs) : Calls Tryz.prog 21 #[v, v'] w (TrueB w) := by
  obtain ⟨A, n, rfl, h1, h2, h3⟩ := h
  obtain ⟨A', n', rfl, h1', h2', h3'⟩ := h'
  have := refSame A A' xs xs n n' w h1 h1' (Nat.le_trans h2 h3) (Nat.le_trans h2' h3')
  rw [show decide (xs = xs) = true by simp] at this
  exact this
theorem qtyIsList (A : Option Addr) (xs : List Mk) (cap : Nat) (b : Bool) (w : World) (hx : MarksAt w A xs) (hm : xs.length ≤ 100000) (hb : isSetB (dotsM xs) = b) :
    Calls Tryz.prog 67 #[.slice A xs.length cap] w (OneB (.bool b) w) := by
  have HD := Lib.hid (qtyDots A xs cap w hx hm)
  have HS := Lib.hid fun v W h => dotIsSet_h v (dotsM xs) b W h hb
  clear hx hm hb
  go_enter Tryz.func67, Tryz.ntmps67
  go_wp2_with fail
  refine HD.out.mono ?_
  rintro e w1 ⟨⟨v, rfl, hv⟩, hb1⟩
  have HV := Lib.hid hv
  have HB := Lib.hid hb1
  clear hv hb1
  go_wp2_with fail
  refine (HS.out _ _ HV.out).mono ?_
  rintro e w2 ⟨rfl, hb2⟩
  have HB2 := Lib.hid (below_trans HB.out hb2)
  clear hb2
  go_wp2_with fail
  go_ret
  exact ⟨rfl, HB2.out⟩
theorem refIsList (A : Option Addr) (xs : List Mk) (cap : Nat) (b : Bool) (w : World) (hx : MarksAt w A xs) (hm : xs.length ≤ 100000) (hb : isSetB (dotsM xs) = b) :
    Calls Tryz.prog 54 #[.slice A xs.length cap] w (OneB (.bool b) w) := by
  have HD := Lib.hid (refDots A xs cap w hx hm)
  have HS := Lib.hid fun v W h => refIsSet_h v (dotsM xs) b W h hb
  clear hx hm hb
  go_enter Tryz.func54, Tryz.ntmps54
  go_wp2_with fail
  refine HD.out.mono ?_
  rintro e w1 ⟨⟨v, rfl, hv⟩, hb1⟩
  have HV := Lib.hid hv
  have HB := Lib.hid hb1
  clear hv hb1
  go_wp2_with fail
  refine (HS.out _ _ HV.out).mono ?_
  rintro e w2 ⟨rfl, hb2⟩
  have HB2 := Lib.hid (below_trans HB.out hb2)
  clear hb2
  go_wp2_with fail
  go_ret
  exact ⟨rfl, HB2.out⟩

set_option maxHeartbeats 1000000 in
theorem refSameM (A B : Option Addr) (xs : List Mk) (cap cap' : Nat) (w : World) (hx : MarksAt w A xs) (hy : MarksAt w B xs) (hm : xs.length ≤ maxLen) :
    Calls Tryz.prog 45 #[.slice A xs.length cap, .slice B xs.length cap'] w (TrueB w) := by
  unfold maxLen at hm
  go_enter Tryz.func45, Tryz.ntmps45
  go_wp2_with fail
  go_loopw [5] (fun i wr => ∃ m : Nat, m ≤ xs.length ∧ i = .int .i64 m ∧ Below w.heap.size w wr) (fun i _ => xs.length - (intOf i).toNat)
  case atStart => exact ⟨0, by omega, rfl, Below.refl _ _⟩
  case round =>
    obtain ⟨m, hk2, rfl, hb⟩ := hrel
    by_cases hlt : m < xs.length
    · have i0 : (m : Int) < (xs.length : Int) := by omega
      obtain ⟨g, off, x, rfl, hbl, hx1, _, hc0, hc1, hc2, hc3⟩ := (hx.below hb).mark (j := m) hlt
      obtain ⟨g', off', x', rfl, hbl', hx2, _, hd0, hd1, hd2, hd3⟩ := (hy.below hb).mark (j := m) hlt
      obtain rfl : x = x' := by rw [hx1] at hx2; cases hx2; rfl
      have l0 := fun p => cell_far (p := p) hbl hc0
      have l1 := fun p => cell_far (p := p) hbl hc1
      have l2 := fun p => cell_far (p := p) hbl hc2
      have l3 := fun p => cell_far (p := p) hbl hc3
      have m0 := fun p => cell_far (p := p) hbl' hd0
      have m1 := fun p => cell_far (p := p) hbl' hd1
      have m2 := fun p => cell_far (p := p) hbl' hd2
      have m3 := fun p => cell_far (p := p) hbl' hd3
      clear hc0 hc1 hc2 hc3 hd0 hd1 hd2 hd3 hx1 hx2
      go_wp2_with fail
      refine wp_region_far (by kernel_rfl) (by kernel_rfl) ?_
      repeat (go_big_quiet_step ((fail)))
      refine wpQuiet_nil ?_
      rintro _ ⟨p, rfl⟩
      go_wp2_with fail
      go_roundw
      case rel => exact ⟨m + 1, by omega, by go_num, hb.trans ((below_far wr p).mono hb.size)⟩
      case measure => simp [intOf]; omega
    · obtain rfl : m = xs.length := by omega
      have i0 : ¬ (xs.length : Int) < (xs.length : Int) := by omega
      clear hlt hk2
      go_wp2_with fail
      go_ret
      exact ⟨rfl, hb⟩

end Go.Proofs.YtfbkhgajlklleaaGreat
