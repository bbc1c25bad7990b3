/- Contracts of the small functions of package dot and of its reference. -/
import Derived.Test.YtfbkhgajlklleaaGreatRows
import Derived.Test.YtfbkhgajlklleaaGreatBase
import Derived.Sort.Grow
namespace Go.Proofs.YtfbkhgajlklleaaGreat
open Go.RowKit

/-- Which dots are valid. -/
def validD (r c : Int) : Bool := decide (1 ≤ r ∧ r ≤ 65535 ∧ 1 ≤ c ∧ c ≤ 4294967295)
/-- One dot comes before another one. -/
def lessD (r c r' c' : Int) : Bool := decide (c < c' ∨ c = c' ∧ r < r')
/-- The order of two dots. -/
def cmpD (r c r' c' : Int) : Int := if lessD r c r' c' then -1 else if lessD r' c' r c then 1 else 0
/-- The order of two numbers. -/
def cmpI (a b : Int) : Int := if a < b then -1 else if b < a then 1 else 0

theorem ret_bool {a b : Bool} (h : a = b) : Ending.returned (.bool a) = .returned (.bool b) := by rw [h]
theorem ret_int {k : IntKind} {a b : Int} (h : a = b) : Ending.returned (.int k a) = .returned (.int k b) := by rw [h]

set_option maxHeartbeats 400000 in
theorem dotValid (r c : Int) (w : World) :
    Calls Tryz.prog 93 #[.agg #[.int .i64 r, .int .i64 c]] w fun e w' => e = .returned (.bool (validD r c)) ∧ Below w.heap.size w w' := by
  go_enter Tryz.func93, Tryz.ntmps93
  go_wp2
  all_goals
    go_ret
    refine ⟨ret_bool ?_, (Below.refl _ _).alloc (Nat.le_refl _) _⟩
    rw [Bool.eq_iff_iff]
    simp [validD, *]
    try omega

set_option maxHeartbeats 400000 in
theorem refValid (r c : Int) (w : World) :
    Calls Tryz.prog 100 #[.agg #[.int .i64 r, .int .i64 c]] w fun e w' => e = .returned (.bool (validD r c)) ∧ Below w.heap.size w w' := by
  go_enter Tryz.func100, Tryz.ntmps100
  go_wp2
  all_goals
    go_ret
    refine ⟨ret_bool ?_, (Below.refl _ _).alloc (Nat.le_refl _) _⟩
    rw [Bool.eq_iff_iff]
    simp [validD, *]
    try omega

set_option maxHeartbeats 400000 in
theorem refLess (r c r' c' : Int) (w : World) :
    Calls Tryz.prog 99 #[.agg #[.int .i64 r, .int .i64 c], .agg #[.int .i64 r', .int .i64 c']] w fun e w' => e = .returned (.bool (lessD r c r' c')) ∧ Below w.heap.size w w' := by
  go_enter Tryz.func99, Tryz.ntmps99
  go_wp2
  all_goals
    go_ret
    refine ⟨ret_bool ?_, ((Below.refl _ _).alloc (Nat.le_refl _) _).alloc (by simp) _⟩
  · have h : (c != c') = true := by assumption
    simp [lessD] at h ⊢
    intro h'; exact absurd h' h
  · have h : (c != c') = false := by assumption
    simp at h
    simp [lessD, h]

set_option maxHeartbeats 400000 in
theorem cmpIsNaN (a : Int) (w : World) :
    Calls Tryz.prog 138 #[.int .i64 a] w fun e w' => e = .returned (.bool false) ∧ w = w' := by
  go_enter Tryz.func138, Tryz.ntmps138
  go_wp2
  go_ret
  simp

set_option maxHeartbeats 400000 in
theorem cmpCompare (a b : Int) (w : World) :
    Calls Tryz.prog 120 #[.int .i64 a, .int .i64 b] w fun e w' => e = .returned (.int .i64 (cmpI a b)) ∧ w = w' := by
  go_enter Tryz.func120, Tryz.ntmps120
  go_wp2_with (go_at_call 138; refine (cmpIsNaN _ _).mono ?_; rintro e w' ⟨rfl, rfl⟩)
  all_goals
    go_ret
    refine ⟨ret_int ?_, rfl⟩
  · have : a < b := by assumption
    simp [cmpI, this]
  · have h1 : b ≤ a := by assumption
    have h2 : b < a := by assumption
    simp [cmpI, h2, Int.not_lt.2 h1]
  · have h1 : b ≤ a := by assumption
    have h2 : a ≤ b := by assumption
    simp [cmpI, Int.not_lt.2 h1, Int.not_lt.2 h2]

/-- The first of two numbers that is not 0. -/
def orI (x y : Int) : Int := if x = 0 then y else x

set_option maxHeartbeats 400000 in
theorem cmpOr (b : Nat) (cap : Nat) (x y : Int) (w : World) (h0 : w.cell? ⟨b, 0, none⟩ = some (.int .i64 x)) (h1 : w.cell? ⟨b, 1, none⟩ = some (.int .i64 y)) :
    Calls Tryz.prog 119 #[.slice (some ⟨b, 0, none⟩) 2 cap] w fun e w' => e = .returned (.int .i64 (orI x y)) ∧ w = w' := by
  by_cases hx : x = 0
  · have hx' : (x != 0) = false := by simp [hx]
    by_cases hy : y = 0
    · have hy' : (y != 0) = false := by simp [hy]
      have HX := Lib.hid hx; clear hx
      have HY := Lib.hid hy; clear hy
      go_enter Tryz.func119, Tryz.ntmps119
      go_wp2
      refine wp_loop_rounds 3 ?_
      rw [rounds_succ]
      go_wp2
      rw [rounds_succ]
      go_wp2
      rw [rounds_succ]
      go_wp2
      go_ret
      exact ⟨by simp [orI, HX.out, HY.out], rfl⟩
    · have hy' : (y != 0) = true := by simp [hy]
      have HX := Lib.hid hx; clear hx
      have HY := Lib.hid hy; clear hy
      go_enter Tryz.func119, Tryz.ntmps119
      go_wp2
      refine wp_loop_rounds 2 ?_
      rw [rounds_succ]
      go_wp2
      rw [rounds_succ]
      go_wp2
      go_ret
      exact ⟨by simp [orI, HX.out], rfl⟩
  · have hx' : (x != 0) = true := by simp [hx]
    have HX := Lib.hid hx; clear hx
    go_enter Tryz.func119, Tryz.ntmps119
    go_wp2
    refine wp_loop_rounds 1 ?_
    rw [rounds_succ]
    go_wp2
    go_ret
    exact ⟨by simp [orI, HX.out], rfl⟩

theorem below_grow (w : World) (n : Nat) (os : Array Obj) : Below w.heap.size w (Sort.grow (w.drewN n) os) :=
  ⟨rfl, rfl, rfl, by simp, fun k hk => by rw [Sort.heap_grow_old _ _ (by exact hk)]; rfl⟩

theorem cmpD_or (r c r' c' : Int) : orI (cmpI c c') (cmpI r r') = cmpD r c r' c' := by
  unfold orI cmpI cmpD lessD
  by_cases h1 : c < c'
  · simp [h1]
  · by_cases h2 : c' < c
    · have : ¬ c = c' := by omega
      simp [h1, h2, this]
    · have : c = c' := by omega
      subst this
      simp

set_option maxHeartbeats 400000 in
theorem dotCompareG (r c r' c' : Int) (w : World) :
    Calls Tryz.prog 96 #[.agg #[.int .i64 r, .int .i64 c], .agg #[.int .i64 r', .int .i64 c']] w fun e w' => e = .returned (.int .i64 (cmpD r c r' c')) ∧ ∃ q os', w' = Sort.grow (w.drewN q) os' := by
  go_enter Tryz.func96, Tryz.ntmps96
  go_wp2
  go_region_held3 (fun w' => w'.cell? ⟨w.heap.size, 0, none⟩ = some (.int .i64 r) ∧ w'.cell? ⟨w.heap.size, 1, none⟩ = some (.int .i64 c) ∧ w'.cell? ⟨w.heap.size + 1, 0, none⟩ = some (.int .i64 r') ∧ w'.cell? ⟨w.heap.size + 1, 1, none⟩ = some (.int .i64 c')) (go_keep)
    (first
      | (go_at_call 120; refine (cmpCompare _ _ _).mono ?_; rintro e w' ⟨rfl, rfl⟩)
      | (go_at_call 119; refine (cmpOr _ _ (cmpI c c') (cmpI r r') _ (by go_simp) (by go_simp)).mono ?_; rintro e w' ⟨rfl, rfl⟩))
  go_wp2
  go_ret
  exact ⟨ret_int (cmpD_or r c r' c'), 1, _, by rw [Sort.alloc_eq_grow, Sort.alloc_eq_grow, Sort.alloc_eq_grow, Sort.grow_grow, Sort.grow_grow]; rfl⟩

theorem dotCompare (r c r' c' : Int) (w : World) :
    Calls Tryz.prog 96 #[.agg #[.int .i64 r, .int .i64 c], .agg #[.int .i64 r', .int .i64 c']] w fun e w' => e = .returned (.int .i64 (cmpD r c r' c')) ∧ Below w.heap.size w w' :=
  (dotCompareG r c r' c' w).mono fun _ _ ⟨he, q, os, hw⟩ => ⟨he, by rw [hw]; exact below_grow w q os⟩

end Go.Proofs.YtfbkhgajlklleaaGreat
