/- The law of the dots of two lists returns true, whatever the lists. -/
import Derived.Test.YtfnccaolppnbdaaDotQ
namespace Go.Proofs.Ytfnccaolppnbdaa
open Go.RowKit

/-- What holds from the copies on. -/
def KP (w0 : World) (A B : Option Addr) (v1 v2 : Value) (xs ys : List (Int × Int)) (c c' : Nat) (W : World) : Prop :=
  Below w0.heap.size w0 W ∧ Holds W (.slice A xs.length c) xs ∧ Holds W (.slice B ys.length c') ys ∧ Holds W v1 xs ∧ Holds W v2 ys
theorem KP.below {w0 : World} {A B : Option Addr} {v1 v2 : Value} {xs ys : List (Int × Int)} {c c' : Nat} {W W' : World} (h : KP w0 A B v1 v2 xs ys c c' W) (hb : Below W.heap.size W W') : KP w0 A B v1 v2 xs ys c c' W' :=
  ⟨below_trans h.1 hb, h.2.1.below hb, h.2.2.1.below hb, h.2.2.2.1.below hb, h.2.2.2.2.below hb⟩

set_option maxHeartbeats 2000000 in
theorem lawPairs (A B : Option Addr) (xs ys : List (Int × Int)) (c c' : Nat) (w : World) (hx : Holds w (.slice A xs.length c) xs) (hy : Holds w (.slice B ys.length c') ys) :
    Calls Try.prog 5 #[.slice A xs.length c, .slice B ys.length c'] w fun e w' => e = .returned (.bool true) ∧ Below w.heap.size w w' := by
  have KN := Lib.hid known1
  have LX : xs.length ≤ maxLen := by obtain ⟨_, _, h, _, h2, h3⟩ := hx; omega
  have LY : ys.length ≤ maxLen := by obtain ⟨_, _, h, _, h2, h3⟩ := hy; omega
  unfold maxLen at LX LY
  by_cases h1 : xs.length ≤ 60
  · by_cases h2 : ys.length ≤ 60
    · obtain ⟨_, _, eA, hxA, _, _⟩ := id hx
      cases eA
      obtain ⟨_, _, eB, hyB, _, _⟩ := id hy
      cases eB
      have HX := Lib.hid hx; clear hx
      have HY := Lib.hid hy; clear hy
      have HXA := Lib.hid hxA; clear hxA
      have HYB := Lib.hid hyB; clear hyB
      have L1 := Lib.hid h1
      have L2 := Lib.hid h2
      clear LX LY
      obtain ⟨i0, hi0, hz0, hz1, hz2⟩ := info_parts infoD
      have t1 : ¬ (60 < (xs.length : Int)) := by omega
      have t2 : ¬ (60 < (ys.length : Int)) := by omega
      clear h1 h2
      go_enter Try.func5, Try.ntmps5
      go_wp2_with (at_builtin; first
        | (refine wpList_append_sl (o := ⟨some 17, _, _, _, _, _⟩) _ encD 2 rfl (.const (.slice none 0 0)) (.tmp 16) 28 rfl encD_len (by omega) encD_one w.heap.size 23 i0 _ 16 Try.underlying28 hi0 hz0 hz1 hz2 rfl (.slice none 0 0) [] rfl (World.ownsRow_nil _ _ _ _) A _ c xs rfl rfl HXA.out (by simp [maxLen]; have := L1.out; omega) (by simp; have := L1.out; omega) (Nat.le_refl _) ?_
           intro v1 w1 hown1 hg1 hat1
           have hb1 : Below w.heap.size w w1 := (Below.refl _ w).grown hg1 (Nat.le_refl _) (fun k hk => by cases hk)
           rw [List.nil_append] at hown1
           have M1 := Lib.hid (show Mine w w1 v1 xs from ⟨hown1, hb1⟩)
           clear hown1 hg1 hat1 hb1)
        | (refine wpList_append_sl (o := ⟨some 19, _, _, _, _, _⟩) _ encD 2 rfl (.const (.slice none 0 0)) (.tmp 18) 28 rfl encD_len (by omega) encD_one w1.heap.size 23 i0 _ 16 Try.underlying28 hi0 hz0 hz1 hz2 rfl (.slice none 0 0) [] rfl (World.ownsRow_nil _ _ _ _) B _ c' ys rfl rfl (HYB.out.below M1.out.2) (by simp [maxLen]; have := L2.out; omega) (by simp; have := L2.out; omega) (Nat.le_refl _) ?_
           intro v2 w2 hown2 hg2 hat2
           have hb2 : Below w1.heap.size w1 w2 := (Below.refl _ w1).grown hg2 (Nat.le_refl _) (fun k hk => by cases hk)
           rw [List.nil_append] at hown2
           have M2 := Lib.hid (show Mine w1 w2 v2 ys from ⟨hown2, hb2⟩)
           clear hown2 hg2 hat2 hb2))
      have K : KP w A B v1 v2 xs ys c c' w2 := ⟨below_trans M1.out.2 M2.out.2, HX.out.below (below_trans M1.out.2 M2.out.2), HY.out.below (below_trans M1.out.2 M2.out.2), M1.out.holds.below M2.out.2, M2.out.holds⟩
      clear M1 M2
      go_wp2_with fail
      refine (union_h _ _ xs ys (setL (xs ++ ys)) _ K.2.2.2.1 K.2.2.2.2 (by have := L1.out; have := L2.out; omega) rfl).mono ?_
      rintro e wa1 ⟨⟨p1, rfl, P1⟩, hb⟩
      replace K := K.below hb
      clear hb
      go_wp2_with fail
      refine (refUnion_h _ _ xs ys _ K.2.1 K.2.2.1 (by have := L1.out; have := L2.out; omega)).mono ?_
      rintro e wb1 ⟨⟨q1, rfl, Q1⟩, hb⟩
      replace K := K.below hb
      replace P1 := P1.below hb
      clear hb
      go_wp2_with fail
      refine (same_h _ _ (setL (xs ++ ys)) (setL (xs ++ ys)) true _ P1 Q1 (by simp)).mono ?_
      rintro e wc1 ⟨rfl, hb⟩
      replace K := K.below hb
      clear hb P1 Q1
      go_wp2_with fail
      refine (minus_h _ _ xs ys (setL (xs.filter fun d => !decide (d ∈ ys))) _ K.2.2.2.1 K.2.2.2.2 (by have := L1.out; have := L2.out; omega) rfl).mono ?_
      rintro e wa2 ⟨⟨p2, rfl, P2⟩, hb⟩
      replace K := K.below hb
      clear hb
      go_wp2_with fail
      refine (refMinus_h _ _ xs ys _ K.2.1 K.2.2.1 (by have := L1.out; have := L2.out; omega)).mono ?_
      rintro e wb2 ⟨⟨q2, rfl, Q2⟩, hb⟩
      replace K := K.below hb
      replace P2 := P2.below hb
      clear hb
      go_wp2_with fail
      refine (same_h _ _ (setL (xs.filter fun d => !decide (d ∈ ys))) (setL (xs.filter fun d => !decide (d ∈ ys))) true _ P2 Q2 (by simp)).mono ?_
      rintro e wc2 ⟨rfl, hb⟩
      replace K := K.below hb
      clear hb P2 Q2
      go_wp2_with fail
      refine (both_h _ _ xs ys (bothL xs ys) _ K.2.2.2.1 K.2.2.2.2 (by have := L1.out; have := L2.out; omega) rfl).mono ?_
      rintro e wa3 ⟨⟨p3, rfl, P3⟩, hb⟩
      replace K := K.below hb
      clear hb
      go_wp2_with fail
      refine (refBoth_h _ _ xs ys _ K.2.1 K.2.2.1 (by have := L1.out; have := L2.out; omega)).mono ?_
      rintro e wb3 ⟨⟨q3, rfl, Q3⟩, hb⟩
      replace K := K.below hb
      replace P3 := P3.below hb
      clear hb
      go_wp2_with fail
      refine (same_h _ _ (bothL xs ys) (bothL xs ys) true _ P3 Q3 (by simp)).mono ?_
      rintro e wc3 ⟨rfl, hb⟩
      replace K := K.below hb
      clear hb P3 Q3
      go_wp2_with fail
      refine (same_h _ _ xs xs true _ K.2.2.2.1 K.2.1 (by simp)).mono ?_
      rintro e wd ⟨rfl, hb⟩
      replace K := K.below hb
      clear hb
      go_wp2_with fail
      refine (same_h _ _ ys ys true _ K.2.2.2.2 K.2.2.1 (by simp)).mono ?_
      rintro e we ⟨rfl, hb⟩
      replace K := K.below hb
      clear hb
      go_wp2_with fail
      refine (KN.out _).mono ?_
      rintro e wf ⟨rfl, hb⟩
      replace K := K.below hb
      clear hb
      go_wp2_with fail
      go_ret
      exact ⟨rfl, K.1⟩
    · have t1 : ¬ (60 < (xs.length : Int)) := by omega
      have t2 : 60 < (ys.length : Int) := by omega
      go_enter Try.func5, Try.ntmps5
      go_wp2_with (go_at_call 10; refine (KN.out _).mono ?_; rintro e w1 ⟨rfl, hb⟩)
      go_ret
      exact ⟨rfl, hb⟩
  · have t1 : 60 < (xs.length : Int) := by omega
    go_enter Try.func5, Try.ntmps5
    go_wp2_with (go_at_call 10; refine (KN.out _).mono ?_; rintro e w1 ⟨rfl, hb⟩)
    go_ret
    exact ⟨rfl, hb⟩

end Go.Proofs.Ytfnccaolppnbdaa
