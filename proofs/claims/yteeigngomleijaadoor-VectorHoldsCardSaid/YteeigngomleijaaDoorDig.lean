/- The reference's decimal digits, and strconv.Itoa: both are the decimal numeral. -/
import Derived.Test.YteeigngomleijaaDoorDotA
import Derived.Test.YteeigngomleijaaDoorShelf
import Derived.Lib.ItoaNum
import Derived.IntWalk
namespace Go.Proofs.YteeigngomleijaaDoor
open Go.RowKit

theorem digits_small (n : Nat) (h : n < 10) (w : World) :
    Calls Tryd.prog 49 #[.int .i64 (n : Int)] w fun e w' => e = .returned (.string ⟨(Lib.decDigits n).toArray⟩) ∧ Below w.heap.size w w' := by
  rw [Lib.decDigits_one h]
  have hc : n = 0 ∨ n = 1 ∨ n = 2 ∨ n = 3 ∨ n = 4 ∨ n = 5 ∨ n = 6 ∨ n = 7 ∨ n = 8 ∨ n = 9 := by omega
  clear h
  rcases hc with rfl | rfl | rfl | rfl | rfl | rfl | rfl | rfl | rfl | rfl
  all_goals
    go_enter Tryd.func49, Tryd.ntmps49
    go_wp2
    go_ret
    exact ⟨rfl, Below.refl _ _⟩

theorem digits_len (n : Nat) : (Lib.decDigits n).length ≤ n + 1 := by
  induction n using Nat.strongRecOn with
  | ind n ih =>
    by_cases h : n < 10
    · rw [Lib.decDigits_one h]; simp
    · rw [Lib.decDigits, dif_neg h, List.length_append]
      have := ih (n / 10) (by omega)
      simp only [List.length_singleton]
      omega

theorem refDigits (n : Nat) : n ≤ 9223372036854775807 → ∀ w : World,
    Calls Tryd.prog 49 #[.int .i64 (n : Int)] w fun e w' => e = .returned (.string ⟨(Lib.decDigits n).toArray⟩) ∧ Below w.heap.size w w' := by
  induction n using Nat.strongRecOn with
  | ind n ih =>
    intro hn w
    by_cases h : n < 10
    · exact digits_small n h w
    · have h1 := Lib.hid (ih (n / 10) (by omega) (by omega))
      have h2 := Lib.hid (digits_small (n % 10) (by omega))
      have hd : Lib.decDigits n = Lib.decDigits (n / 10) ++ Lib.decDigits (n % 10) := by
        rw [Lib.decDigits, dif_neg h, Lib.decDigits_one (i := n % 10) (by omega)]
      have hd2 : (⟨(Lib.decDigits n).toArray⟩ : ByteArray) = ⟨(Lib.decDigits (n / 10)).toArray⟩ ++ ⟨(Lib.decDigits (n % 10)).toArray⟩ := by
        rw [hd]; apply ByteArray.ext; simp
      have hz : ¬ (9223372036854775807 < (⟨(Lib.decDigits (n / 10)).toArray⟩ : ByteArray).size + (⟨(Lib.decDigits (n % 10)).toArray⟩ : ByteArray).size) := by
        have l1 := digits_len (n / 10)
        have l2 := digits_len (n % 10)
        simp only [ByteArray.size, List.size_toArray]
        omega
      generalize (⟨(Lib.decDigits (n / 10)).toArray⟩ : ByteArray) = s1 at h1 hd2 hz
      generalize (⟨(Lib.decDigits (n % 10)).toArray⟩ : ByteArray) = s2 at h2 hd2 hz
      generalize (⟨(Lib.decDigits n).toArray⟩ : ByteArray) = s0 at hd2 ⊢
      generalize hA : ((n / 10 : Nat) : Int) = A at h1
      generalize hB : ((n % 10 : Nat) : Int) = B at h2
      replace h1 := Lib.hid h1
      replace h2 := Lib.hid h2
      have HD := Lib.hid hd2
      clear hd2
      have HN := Lib.hid hn
      clear ih hd hn
      have ht : ¬ ((n : Int) < 10) := by omega
      have e1 : wrap64 ((n : Int) / 10) = A := by have := HN.out; unfold wrap64; omega
      have e2 : wrap64 ((n : Int) % 10) = B ∧ (n : Int) % 10 = B := by have := HN.out; unfold wrap64; omega
      replace e1 := Lib.hid e1
      replace e2 := Lib.hid e2
      clear h
      go_enter Tryd.func49, Tryd.ntmps49
      go_wp2_with fail
      rw [e1.out]
      refine (h1.out w).mono ?_
      rintro e w1 ⟨rfl, hb1⟩
      have HB1 := Lib.hid hb1; clear hb1
      go_wp2_with fail
      first | rw [e2.out.1] | rw [e2.out.2]
      refine (h2.out w1).mono ?_
      rintro e w2 ⟨rfl, hb2⟩
      have HB2 := Lib.hid hb2; clear hb2
      go_wp2_with fail
      go_ret
      refine ⟨?_, below_trans HB1.out HB2.out⟩
      rw [HD.out]; rfl


/-- strconv.Itoa of a number that is not negative. -/
theorem itoaNat (n : Nat) (hn : n ≤ 9223372036854775807) (w : World) (ht : Lib.TabIs Tryd.prog w "internal/strconv.uint64pow10" .u64 Lib.pow10Tab) :
    Calls Tryd.prog 57 #[.int .i64 (n : Int)] w fun e w' => e = .returned (.string ⟨(Lib.decDigits n).toArray⟩) ∧ Below w.heap.size w w' := by
  have h := Any.strconv_Itoa Tryd.laysItoa (n : Int) (by omega) (by omega) w ht
  refine Calls.mono (show Calls Tryd.prog 57 #[.int .i64 (n : Int)] w _ from h) ?_
  rintro e w' ⟨he, k, os, rfl⟩
  refine ⟨?_, below_grow _ _ _⟩
  rw [he]
  simp [Lib.itoa]

end Go.Proofs.YteeigngomleijaaDoor
