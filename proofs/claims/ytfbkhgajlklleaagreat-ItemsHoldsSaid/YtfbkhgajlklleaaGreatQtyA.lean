/- Quantities and marks: the small functions of package qty and of its reference. -/
import Derived.Test.YtfbkhgajlklleaaGreatGenA
import Derived.Test.YtfbkhgajlklleaaGreatQtyK
namespace Go.Proofs.YtfbkhgajlklleaaGreat
open Go.RowKit

/-- A mark as a value, and its four cells. -/
abbrev mkV (m : Mk) : Value := .agg #[.int .i64 m.r, .int .i64 m.c, .int .i64 m.q, .int .u64 (m.t : Int)]
abbrev encM (m : Mk) : List Value := [.int .i64 m.r, .int .i64 m.c, .int .i64 m.q, .int .u64 (m.t : Int)]
/-- Which marks are valid. -/
def validM (m : Mk) : Bool := validD m.r m.c && (qtyN m.q && decide (m.t ≠ 0))

set_option maxHeartbeats 400000 in
theorem qtyValid (q : Int) (w : World) : Calls Tryz.prog 94 #[.int .i64 q] w (One (.bool (qtyN q)) w) := by
  go_enter Tryz.func94, Tryz.ntmps94
  go_wp2
  all_goals
    go_ret
    refine One.bool _ ?_
    simp [qtyN, *]
    try omega
set_option maxHeartbeats 400000 in
theorem refQty (q : Int) (w : World) : Calls Tryz.prog 101 #[.int .i64 q] w (One (.bool (qtyN q)) w) := by
  go_enter Tryz.func101, Tryz.ntmps101
  go_wp2
  all_goals
    go_ret
    refine One.bool _ ?_
    simp [qtyN, *]
    try omega

set_option maxHeartbeats 400000 in
theorem qtyMark (m : Mk) (w : World) : Calls Tryz.prog 70 #[mkV m] w (OneB (.bool (validM m)) w) := by
  obtain ⟨r, c, q, t⟩ := m
  have h1 := fun W => dotValid r c W
  have h2 := fun W => qtyValid q W
  have hv : validM ⟨r, c, q, t⟩ = (validD r c && (qtyN q && decide (t ≠ 0))) := rfl
  generalize validM ⟨r, c, q, t⟩ = v at hv ⊢
  generalize validD r c = x at h1 hv
  generalize qtyN q = y at h2 hv
  have H1 := Lib.hid h1
  have H2 := Lib.hid h2
  have ht : ((t : Int) != 0) = decide (t ≠ 0) := by
    rw [Bool.eq_iff_iff]; simp
  generalize decide (t ≠ 0) = z at ht hv
  clear h1 h2
  cases x with
  | false =>
    obtain rfl : v = false := hv
    go_enter Tryz.func70, Tryz.ntmps70
    go_wp2_with fail
    refine (H1.out _).mono ?_
    rintro e w1 ⟨rfl, hb1⟩
    have HB := Lib.hid (below_trans ((Below.refl _ w).alloc (Nat.le_refl _) _) hb1)
    clear hb1
    go_wp2_with fail
    go_ret
    exact ⟨rfl, HB.out⟩
  | true =>
    cases y with
    | false =>
      obtain rfl : v = false := hv
      go_enter Tryz.func70, Tryz.ntmps70
      go_wp2_with fail
      refine (H1.out _).mono ?_
      rintro e w1 ⟨rfl, hb1⟩
      obtain ⟨hc1, hf1⟩ := bcell hb1
      have HB := Lib.hid (below_trans ((Below.refl _ w).alloc (Nat.le_refl _) _) hb1)
      clear hb1
      go_wp2_with fail
      refine (H2.out _).mono ?_
      rintro e w2 ⟨rfl, rfl⟩
      go_wp2_with fail
      go_ret
      exact ⟨rfl, HB.out⟩
    | true =>
      obtain rfl : v = z := hv
      go_enter Tryz.func70, Tryz.ntmps70
      go_wp2_with fail
      refine (H1.out _).mono ?_
      rintro e w1 ⟨rfl, hb1⟩
      obtain ⟨hc1, hf1⟩ := bcell hb1
      have HB := Lib.hid (below_trans ((Below.refl _ w).alloc (Nat.le_refl _) _) hb1)
      clear hb1
      go_wp2_with fail
      refine (H2.out _).mono ?_
      rintro e w2 ⟨rfl, rfl⟩
      go_wp2_with fail
      go_ret
      exact ⟨rfl, HB.out⟩
set_option maxHeartbeats 400000 in
theorem refMark (m : Mk) (w : World) : Calls Tryz.prog 75 #[mkV m] w (OneB (.bool (validM m)) w) := by
  obtain ⟨r, c, q, t⟩ := m
  have h1 := fun W => refValid r c W
  have h2 := fun W => refQty q W
  have hv : validM ⟨r, c, q, t⟩ = (validD r c && (qtyN q && decide (t ≠ 0))) := rfl
  generalize validM ⟨r, c, q, t⟩ = v at hv ⊢
  generalize validD r c = x at h1 hv
  generalize qtyN q = y at h2 hv
  have H1 := Lib.hid h1
  have H2 := Lib.hid h2
  have ht : ((t : Int) != 0) = decide (t ≠ 0) := by
    rw [Bool.eq_iff_iff]; simp
  generalize decide (t ≠ 0) = z at ht hv
  clear h1 h2
  cases x with
  | false =>
    obtain rfl : v = false := hv
    go_enter Tryz.func75, Tryz.ntmps75
    go_wp2_with fail
    refine (H1.out _).mono ?_
    rintro e w1 ⟨rfl, hb1⟩
    have HB := Lib.hid (below_trans ((Below.refl _ w).alloc (Nat.le_refl _) _) hb1)
    clear hb1
    go_wp2_with fail
    go_ret
    exact ⟨rfl, HB.out⟩
  | true =>
    cases y with
    | false =>
      obtain rfl : v = false := hv
      go_enter Tryz.func75, Tryz.ntmps75
      go_wp2_with fail
      refine (H1.out _).mono ?_
      rintro e w1 ⟨rfl, hb1⟩
      obtain ⟨hc1, hf1⟩ := bcell hb1
      have HB := Lib.hid (below_trans ((Below.refl _ w).alloc (Nat.le_refl _) _) hb1)
      clear hb1
      go_wp2_with fail
      refine (H2.out _).mono ?_
      rintro e w2 ⟨rfl, rfl⟩
      go_wp2_with fail
      go_ret
      exact ⟨rfl, HB.out⟩
    | true =>
      obtain rfl : v = z := hv
      go_enter Tryz.func75, Tryz.ntmps75
      go_wp2_with fail
      refine (H1.out _).mono ?_
      rintro e w1 ⟨rfl, hb1⟩
      obtain ⟨hc1, hf1⟩ := bcell hb1
      have HB := Lib.hid (below_trans ((Below.refl _ w).alloc (Nat.le_refl _) _) hb1)
      clear hb1
      go_wp2_with fail
      refine (H2.out _).mono ?_
      rintro e w2 ⟨rfl, rfl⟩
      go_wp2_with fail
      go_ret
      exact ⟨rfl, HB.out⟩

set_option maxHeartbeats 1000000 in
theorem qtyNewer (a b : Mk) (w : World) : Calls Tryz.prog 121 #[mkV a, mkV b] w (OneB (.bool (newerN a b)) w) := by
  obtain ⟨r, c, q, t⟩ := a
  obtain ⟨r', c', q', t'⟩ := b
  go_enter Tryz.func121, Tryz.ntmps121
  go_wp2
  all_goals
    go_ret
    refine OneB.bool ?_ (((Below.refl _ _).alloc (Nat.le_refl _) _).alloc (by simp) _)
    rw [Bool.eq_iff_iff, newerN_iff]
    simp at *
    try omega

set_option maxHeartbeats 1000000 in
theorem refNewer (a b : Mk) (w : World) : Calls Tryz.prog 78 #[mkV a, mkV b] w (OneB (.bool (newerN a b)) w) := by
  obtain ⟨r, c, q, t⟩ := a
  obtain ⟨r', c', q', t'⟩ := b
  go_enter Tryz.func78, Tryz.ntmps78
  go_wp2
  all_goals
    go_ret
    refine OneB.bool ?_ (((Below.refl _ _).alloc (Nat.le_refl _) _).alloc (by simp) _)
    rw [Bool.eq_iff_iff, newerN_iff]
    simp at *
    try omega

end Go.Proofs.YtfbkhgajlklleaaGreat
