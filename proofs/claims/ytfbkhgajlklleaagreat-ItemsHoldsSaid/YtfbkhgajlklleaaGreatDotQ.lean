/- dot.Has. -/
import Derived.Test.YtfbkhgajlklleaaGreatDotM9
import Derived.Test.YtfbkhgajlklleaaGreatShelf
namespace Go.Proofs.YtfbkhgajlklleaaGreat
open Go.RowKit

theorem eqAtDot : EqlAt Tryz.prog 29 (fun x : Int × Int => .agg (encD x).toArray) (fun x y => x.1 == y.1 && x.2 == y.2) :=
  ⟨fun x y w => eqlDot x.1 x.2 y.1 y.2 w, GuardAt.agg _ (by kernel_rfl)⟩

set_option maxHeartbeats 400000 in
theorem indexNone (A : Option Addr) (cap : Nat) (r c : Int) (w : World) :
    Calls Tryz.prog 111 #[.slice A 0 cap, .agg #[.int .i64 r, .int .i64 c]] w fun e w' => e = .returned (.int .i64 (-1)) ∧ Below w.heap.size w w' := by
  go_enter Tryz.func111, Tryz.ntmps111
  go_wp2
  refine wp_loop_rounds 1 ?_
  rw [rounds_succ]
  go_wp2
  go_ret
  exact ⟨rfl, (Below.refl _ _).alloc (Nat.le_refl _) _⟩

set_option maxHeartbeats 400000 in
theorem containsNone (A : Option Addr) (cap : Nat) (r c : Int) (w : World) :
    Calls Tryz.prog 86 #[.slice A 0 cap, .agg #[.int .i64 r, .int .i64 c]] w fun e w' => e = .returned (.bool false) ∧ Below w.heap.size w w' := by
  have H := Lib.hid (indexNone A cap r c)
  go_enter Tryz.func86, Tryz.ntmps86
  go_wp2_with fail
  refine (H.out _).mono ?_
  rintro e w1 ⟨rfl, hb⟩
  have HB := Lib.hid (below_trans ((Below.refl _ w).alloc (Nat.le_refl _) _) hb)
  clear hb
  go_wp2
  go_ret
  exact ⟨rfl, HB.out⟩

theorem any_has (xs : List (Int × Int)) (r c : Int) : (xs.any fun y => (r, c).1 == y.1 && (r, c).2 == y.2) = decide ((r, c) ∈ xs) := by
  rw [Bool.eq_iff_iff]
  simp only [List.any_eq_true, Bool.and_eq_true, beq_iff_eq, decide_eq_true_eq]
  constructor
  · rintro ⟨⟨a, b⟩, h, h1, h2⟩
    have e1 : r = a := h1
    have e2 : c = b := h2
    subst e1; subst e2; exact h
  · exact fun h => ⟨_, h, rfl, rfl⟩

theorem containsDot (A : Option Addr) (xs : List (Int × Int)) (cap : Nat) (r c : Int) (w : World) (hx : DotsAt w A xs) (hm : xs.length ≤ maxLen) :
    Calls Tryz.prog 86 #[.slice A xs.length cap, .agg #[.int .i64 r, .int .i64 c]] w fun e w' => e = .returned (.bool (decide ((r, c) ∈ xs))) ∧ Below w.heap.size w w' := by
  unfold maxLen at hm
  rcases Nat.eq_zero_or_pos xs.length with h0 | h0
  · have : xs = [] := List.eq_nil_of_length_eq_zero h0
    subst this
    exact containsNone A cap r c w
  · obtain ⟨b, off, rfl, _, hc⟩ := hx h0
    have h := AnyQ.slices_Contains Tryz.containsDots 2 Tryz.isAgg29 Tryz.sizeOf29 encD encD_len _ eqAtDot b off xs.length cap xs (r, c) w (Nat.le_refl _) (by omega)
      (fun j hj i v hi => hc j xs[j]! (by rw [getElem!_pos xs j hj]; exact List.getElem?_eq_getElem hj) i v hi)
    rw [List.take_length, any_has] at h
    exact h

set_option maxHeartbeats 400000 in
theorem dotHas (A : Option Addr) (xs : List (Int × Int)) (cap : Nat) (r c : Int) (w : World) (hx : DotsAt w A xs) (hm : xs.length ≤ maxLen) :
    Calls Tryz.prog 64 #[.slice A xs.length cap, .agg #[.int .i64 r, .int .i64 c]] w fun e w' => e = .returned (.bool (decide ((r, c) ∈ xs))) ∧ Below w.heap.size w w' := by
  have H := Lib.hid fun W hW => containsDot A xs cap r c W (hx.below hW) hm
  go_enter Tryz.func64, Tryz.ntmps64
  go_wp2_with fail
  refine (H.out _ ((Below.refl _ w).alloc (Nat.le_refl _) _)).mono ?_
  rintro e w1 ⟨rfl, hb⟩
  have HB := Lib.hid (below_trans ((Below.refl _ w).alloc (Nat.le_refl _) _) hb)
  clear hb
  go_wp2
  go_ret
  exact ⟨rfl, HB.out⟩

theorem has_h (v : Value) (xs : List (Int × Int)) (r c : Int) (b : Bool) (w : World) (h : Holds w v xs) (hb : decide ((r, c) ∈ xs) = b) :
    Calls Tryz.prog 64 #[v, .agg #[.int .i64 r, .int .i64 c]] w fun e w' => e = .returned (.bool b) ∧ Below w.heap.size w w' := by
  obtain ⟨A, n, rfl, h1, h2, h3⟩ := h
  subst hb
  exact dotHas A xs n r c w h1 (Nat.le_trans h2 h3)
theorem refHas_h (v : Value) (xs : List (Int × Int)) (r c : Int) (b : Bool) (w : World) (h : Holds w v xs) (hb : decide ((r, c) ∈ xs) = b) :
    Calls Tryz.prog 98 #[v, .agg #[.int .i64 r, .int .i64 c]] w fun e w' => e = .returned (.bool b) ∧ Below w.heap.size w w' := by
  obtain ⟨A, n, rfl, h1, h2, h3⟩ := h
  subst hb
  exact refHas A xs n r c w h1 (Nat.le_trans h2 h3)
theorem refUnion_h (v v' : Value) (xs ys : List (Int × Int)) (w : World) (h : Holds w v xs) (h' : Holds w v' ys) (hm : xs.length + ys.length ≤ 1000) :
    Calls Tryz.prog 50 #[v, v'] w fun e w' => (∃ v', e = .returned v' ∧ Holds w' v' (setL (xs ++ ys))) ∧ Below w.heap.size w w' := by
  obtain ⟨A, n, rfl, h1, h2, h3⟩ := h
  obtain ⟨A', n', rfl, h1', h2', h3'⟩ := h'
  exact refUnion A A' xs ys n n' w h1 h1' (by omega)
end Go.Proofs.YtfbkhgajlklleaaGreat
