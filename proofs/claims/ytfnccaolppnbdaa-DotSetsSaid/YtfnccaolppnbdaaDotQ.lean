/- dot.Has. -/
import Derived.Test.YtfnccaolppnbdaaDotP
import Derived.Test.YtfnccaolppnbdaaShelf
namespace Go.Proofs.Ytfnccaolppnbdaa
open Go.RowKit

theorem eqAtDot : EqlAt Try.prog 23 (fun x : Int × Int => .agg (encD x).toArray) (fun x y => x.1 == y.1 && x.2 == y.2) :=
  ⟨fun x y w => eqlDot x.1 x.2 y.1 y.2 w, GuardAt.agg _ (by kernel_rfl)⟩

set_option maxHeartbeats 400000 in
theorem indexNone (A : Option Addr) (cap : Nat) (r c : Int) (w : World) :
    Calls Try.prog 39 #[.slice A 0 cap, .agg #[.int .i64 r, .int .i64 c]] w fun e w' => e = .returned (.int .i64 (-1)) ∧ Below w.heap.size w w' := by
  go_enter Try.func39, Try.ntmps39
  go_wp2
  refine wp_loop_rounds 1 ?_
  rw [rounds_succ]
  go_wp2
  go_ret
  exact ⟨rfl, (Below.refl _ _).alloc (Nat.le_refl _) _⟩

set_option maxHeartbeats 400000 in
theorem containsNone (A : Option Addr) (cap : Nat) (r c : Int) (w : World) :
    Calls Try.prog 31 #[.slice A 0 cap, .agg #[.int .i64 r, .int .i64 c]] w fun e w' => e = .returned (.bool false) ∧ Below w.heap.size w w' := by
  have H := Lib.hid (indexNone A cap r c)
  go_enter Try.func31, Try.ntmps31
  go_wp2_with fail
  refine (H.out _).mono ?_
  rintro e w1 ⟨rfl, hb⟩
  have HB := Lib.hid (below_trans ((Below.refl _ w).alloc (Nat.le_refl _) _) hb)
  clear hb
  go_wp2
  go_ret
  exact ⟨rfl, HB.out⟩

theorem any_has (xs : List (Int × Int)) (r c : Int) : (xs.any fun y => (r, c).1 == y.1 && (r, c).2 == y.2) = decide ((r, c) ∈ xs) := by
  rw [Bool.eq_iff_iff]
  simp only [List.any_eq_true, Bool.and_eq_true, beq_iff_eq, decide_eq_true_eq]
  constructor
  · rintro ⟨⟨a, b⟩, h, h1, h2⟩
    have e1 : r = a := h1
    have e2 : c = b := h2
    subst e1; subst e2; exact h
  · exact fun h => ⟨_, h, rfl, rfl⟩

theorem containsDot (A : Option Addr) (xs : List (Int × Int)) (cap : Nat) (r c : Int) (w : World) (hx : DotsAt w A xs) (hm : xs.length ≤ maxLen) :
    Calls Try.prog 31 #[.slice A xs.length cap, .agg #[.int .i64 r, .int .i64 c]] w fun e w' => e = .returned (.bool (decide ((r, c) ∈ xs))) ∧ Below w.heap.size w w' := by
  unfold maxLen at hm
  rcases Nat.eq_zero_or_pos xs.length with h0 | h0
  · have : xs = [] := List.eq_nil_of_length_eq_zero h0
    subst this
    exact containsNone A cap r c w
  · obtain ⟨b, off, rfl, _, hc⟩ := hx h0
    have h := AnyQ.slices_Contains Try.containsDots 2 Try.isAgg23 Try.sizeOf23 encD encD_len _ eqAtDot b off xs.length cap xs (r, c) w (Nat.le_refl _) (by omega)
      (fun j hj i v hi => hc j xs[j]! (by rw [getElem!_pos xs j hj]; exact List.getElem?_eq_getElem hj) i v hi)
    rw [List.take_length, any_has] at h
    exact h

set_option maxHeartbeats 400000 in
theorem dotHas (A : Option Addr) (xs : List (Int × Int)) (cap : Nat) (r c : Int) (w : World) (hx : DotsAt w A xs) (hm : xs.length ≤ maxLen) :
    Calls Try.prog 16 #[.slice A xs.length cap, .agg #[.int .i64 r, .int .i64 c]] w fun e w' => e = .returned (.bool (decide ((r, c) ∈ xs))) ∧ Below w.heap.size w w' := by
  have H := Lib.hid fun W hW => containsDot A xs cap r c W (hx.below hW) hm
  go_enter Try.func16, Try.ntmps16
  go_wp2_with fail
  refine (H.out _ ((Below.refl _ w).alloc (Nat.le_refl _) _)).mono ?_
  rintro e w1 ⟨rfl, hb⟩
  have HB := Lib.hid (below_trans ((Below.refl _ w).alloc (Nat.le_refl _) _) hb)
  clear hb
  go_wp2
  go_ret
  exact ⟨rfl, HB.out⟩

theorem has_h (v : Value) (xs : List (Int × Int)) (r c : Int) (b : Bool) (w : World) (h : Holds w v xs) (hb : decide ((r, c) ∈ xs) = b) :
    Calls Try.prog 16 #[v, .agg #[.int .i64 r, .int .i64 c]] w fun e w' => e = .returned (.bool b) ∧ Below w.heap.size w w' := by
  obtain ⟨A, n, rfl, h1, h2, h3⟩ := h
  subst hb
  exact dotHas A xs n r c w h1 (Nat.le_trans h2 h3)
theorem refHas_h (v : Value) (xs : List (Int × Int)) (r c : Int) (b : Bool) (w : World) (h : Holds w v xs) (hb : decide ((r, c) ∈ xs) = b) :
    Calls Try.prog 17 #[v, .agg #[.int .i64 r, .int .i64 c]] w fun e w' => e = .returned (.bool b) ∧ Below w.heap.size w w' := by
  obtain ⟨A, n, rfl, h1, h2, h3⟩ := h
  subst hb
  exact refHas A xs n r c w h1 (Nat.le_trans h2 h3)
theorem refIsSet_h (v : Value) (xs : List (Int × Int)) (b : Bool) (w : World) (h : Holds w v xs) (hb : isSetB xs = b) :
    Calls Try.prog 13 #[v] w fun e w' => e = .returned (.bool b) ∧ Below w.heap.size w w' := by
  obtain ⟨A, n, rfl, h1, h2, h3⟩ := h
  subst hb
  exact refIsSet A xs n w h1 (Nat.le_trans h2 h3)
theorem refSet_h (v : Value) (xs : List (Int × Int)) (w : World) (h : Holds w v xs) (hm : xs.length ≤ 1000) :
    Calls Try.prog 15 #[v] w fun e w' => (∃ v', e = .returned v' ∧ Holds w' v' (setL xs)) ∧ Below w.heap.size w w' := by
  obtain ⟨A, n, rfl, h1, h2, h3⟩ := h
  exact refSet A xs n w h1 (by omega)
theorem refUnion_h (v v' : Value) (xs ys : List (Int × Int)) (w : World) (h : Holds w v xs) (h' : Holds w v' ys) (hm : xs.length + ys.length ≤ 1000) :
    Calls Try.prog 19 #[v, v'] w fun e w' => (∃ v', e = .returned v' ∧ Holds w' v' (setL (xs ++ ys))) ∧ Below w.heap.size w w' := by
  obtain ⟨A, n, rfl, h1, h2, h3⟩ := h
  obtain ⟨A', n', rfl, h1', h2', h3'⟩ := h'
  exact refUnion A A' xs ys n n' w h1 h1' (by omega)
theorem refMinus_h (v v' : Value) (xs ys : List (Int × Int)) (w : World) (h : Holds w v xs) (h' : Holds w v' ys) (hm : xs.length + ys.length ≤ 1000) :
    Calls Try.prog 21 #[v, v'] w fun e w' => (∃ v', e = .returned v' ∧ Holds w' v' (setL (xs.filter fun d => !decide (d ∈ ys)))) ∧ Below w.heap.size w w' := by
  obtain ⟨A, n, rfl, h1, h2, h3⟩ := h
  obtain ⟨A', n', rfl, h1', h2', h3'⟩ := h'
  exact refMinus A A' xs ys n n' w h1 h1' (by omega)
theorem refBoth_h (v v' : Value) (xs ys : List (Int × Int)) (w : World) (h : Holds w v xs) (h' : Holds w v' ys) (hm : xs.length + ys.length ≤ 1000) :
    Calls Try.prog 23 #[v, v'] w fun e w' => (∃ v', e = .returned v' ∧ Holds w' v' (bothL xs ys)) ∧ Below w.heap.size w w' := by
  obtain ⟨A, n, rfl, h1, h2, h3⟩ := h
  obtain ⟨A', n', rfl, h1', h2', h3'⟩ := h'
  exact refBoth A A' xs ys n n' w h1 h1' (by omega)

end Go.Proofs.Ytfnccaolppnbdaa
