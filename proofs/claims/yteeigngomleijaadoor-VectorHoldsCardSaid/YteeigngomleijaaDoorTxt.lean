/- The text of a dot, in the program and in its reference. -/
import Derived.Test.YteeigngomleijaaDoorDig
import Derived.Test.YteeigngomleijaaDoorDotO
import Derived.Lib.SmallJoins
namespace Go.Proofs.YteeigngomleijaaDoor
open Go.RowKit

/-- The bytes of a dot's text. -/
def textL (r c : Nat) : List UInt8 := Lib.decDigits r ++ 46 :: Lib.decDigits c

/-- The table that Itoa reads lies as it was laid. -/
def TabOK (w : World) : Prop := Lib.TabIs Tryd.prog w "internal/strconv.uint64pow10" .u64 Lib.pow10Tab
theorem TabOK.below {w w' : World} (h : TabOK w) (hb : Below w.heap.size w w') : TabOK w' := by
  unfold TabOK at *
  obtain ⟨g, hg⟩ : ∃ g, Tryd.prog.globalNamed "internal/strconv.uint64pow10" = some g := ⟨1, by kernel_rfl⟩
  exact Go.Joins.tab_stays (w := w) hg h hb (Nat.le_refl _)

set_option maxHeartbeats 800000 in
theorem refText (r c : Nat) (w : World) (hr : r ≤ 4294967295) (hc : c ≤ 4294967295) :
    Calls Tryd.prog 13 #[.agg #[.int .i64 (r : Int), .int .i64 (c : Int)]] w fun e w' => e = .returned (.string ⟨(textL r c).toArray⟩) ∧ Below w.heap.size w w' := by
  have h1 := refDigits r (by omega)
  have h2 := refDigits c (by omega)
  have hd : (⟨(textL r c).toArray⟩ : ByteArray) = ⟨(Lib.decDigits r).toArray⟩ ++ ⟨#[46]⟩ ++ ⟨(Lib.decDigits c).toArray⟩ := by
    apply ByteArray.ext; simp [textL]
  have l1 : (⟨(Lib.decDigits r).toArray⟩ : ByteArray).size ≤ 5000000000 := by
    have := digits_len r
    simp only [ByteArray.size, List.size_toArray]; omega
  have l2 : (⟨(Lib.decDigits c).toArray⟩ : ByteArray).size ≤ 5000000000 := by
    have := digits_len c
    simp only [ByteArray.size, List.size_toArray]; omega
  generalize (⟨(Lib.decDigits r).toArray⟩ : ByteArray) = s1 at h1 hd l1
  generalize (⟨(Lib.decDigits c).toArray⟩ : ByteArray) = s2 at h2 hd l2
  generalize (⟨(textL r c).toArray⟩ : ByteArray) = s0 at hd ⊢
  generalize (r : Int) = R at h1 ⊢
  generalize (c : Int) = C at h2 ⊢
  have l3 : (s1 ++ (⟨#[46]⟩ : ByteArray)).size ≤ 5000000001 := by rw [ByteArray.size_append]; have : (⟨#[46]⟩ : ByteArray).size = 1 := rfl; omega
  have z1 : ¬ (9223372036854775807 < s1.size + (⟨#[46]⟩ : ByteArray).size) := by have : (⟨#[46]⟩ : ByteArray).size = 1 := rfl; omega
  have z2 : ¬ (9223372036854775807 < (s1 ++ (⟨#[46]⟩ : ByteArray)).size + s2.size) := by omega
  clear l1 l2 l3
  replace h1 := Lib.hid h1
  replace h2 := Lib.hid h2
  have HD := Lib.hid hd
  clear hd
  go_enter Tryd.func13, Tryd.ntmps13
  go_wp2_with fail
  have hal : Below w.heap.size w (w.alloc (.cells #[.int .i64 R, .int .i64 C] 23)) := (Below.refl _ w).alloc (Nat.le_refl _) _
  have k1 : ∀ p, (far (w.alloc (.cells #[.int .i64 R, .int .i64 C] 23)) p).cell? ⟨w.heap.size, 0, none⟩ = some (.int .i64 R) := fun p => cell_far (p := p) (by simp) (by go_simp)
  have k2 : ∀ p, (far (w.alloc (.cells #[.int .i64 R, .int .i64 C] 23)) p).cell? ⟨w.heap.size, 1, none⟩ = some (.int .i64 C) := fun p => cell_far (p := p) (by simp) (by go_simp)
  generalize (w.alloc (.cells #[.int .i64 R, .int .i64 C] 23)) = W at *
  refine wp_region_far (by kernel_rfl) (by kernel_rfl) ?_
  repeat (go_big_quiet_step ((first | (go_at_call 49; with_reducible first | exact far_of (h1.out _) | exact far_of (h2.out _)))))
  refine wpQuiet_nil ?_
  rintro _ ⟨p, rfl⟩
  go_wp2
  go_ret
  refine ⟨?_, below_trans hal (below_far _ _)⟩
  rw [HD.out]; rfl

/-- What Text returns. -/
def textV (r c : Int) : Value :=
  if validD r c then .tuple #[.string ⟨(textL r.toNat c.toNat).toArray⟩, .int .i64 0] else .tuple #[.string ⟨#[]⟩, .int .i64 2]

set_option maxHeartbeats 800000 in
theorem dotText (r c : Int) (w : World) (ht : TabOK w) :
    Calls Tryd.prog 23 #[.agg #[.int .i64 r, .int .i64 c]] w fun e w' => e = .returned (textV r c) ∧ Below w.heap.size w w' := by
  have V := dotValid r c
  cases hv : validD r c with
  | false =>
    have hT : textV r c = .tuple #[.string ⟨#[]⟩, .int .i64 2] := by simp [textV, hv]
    rw [hT]
    rw [hv] at V
    replace V := Lib.hid V
    clear hT hv
    go_enter Tryd.func23, Tryd.ntmps23
    go_wp2_with fail
    refine (V.out _).mono ?_
    rintro e w1 ⟨rfl, hb⟩
    have HB := Lib.hid (below_trans ((Below.refl _ w).alloc (Nat.le_refl _) _) hb)
    clear hb
    go_wp2
    go_ret2
    exact ⟨rfl, HB.out⟩
  | true =>
    have hR : 0 ≤ r ∧ r ≤ 65535 ∧ 0 ≤ c ∧ c ≤ 4294967295 := by
      simp [validD] at hv; omega
    obtain ⟨a, rfl⟩ : ∃ a : Nat, r = a := ⟨r.toNat, by omega⟩
    obtain ⟨b, rfl⟩ : ∃ b : Nat, c = b := ⟨c.toNat, by omega⟩
    have hT : textV (a : Int) (b : Int) = .tuple #[.string ⟨(textL a b).toArray⟩, .int .i64 0] := by simp [textV, hv]
    rw [hT]
    rw [hv] at V
    have h1 := fun W (hW : TabOK W) => itoaNat a (by omega) W hW
    have h2 := fun W (hW : TabOK W) => itoaNat b (by omega) W hW
    have hd : (⟨(textL a b).toArray⟩ : ByteArray) = ⟨(Lib.decDigits a).toArray⟩ ++ ⟨#[46]⟩ ++ ⟨(Lib.decDigits b).toArray⟩ := by
      apply ByteArray.ext; simp [textL]
    have l1 : (⟨(Lib.decDigits a).toArray⟩ : ByteArray).size ≤ 5000000000 := by
      have := digits_len a
      simp only [ByteArray.size, List.size_toArray]; omega
    have l2 : (⟨(Lib.decDigits b).toArray⟩ : ByteArray).size ≤ 5000000000 := by
      have := digits_len b
      simp only [ByteArray.size, List.size_toArray]; omega
    clear hT hv hR
    generalize (⟨(Lib.decDigits a).toArray⟩ : ByteArray) = s1 at h1 hd l1
    generalize (⟨(Lib.decDigits b).toArray⟩ : ByteArray) = s2 at h2 hd l2
    generalize (⟨(textL a b).toArray⟩ : ByteArray) = s0 at hd ⊢
    generalize (a : Int) = R at h1 V ⊢
    generalize (b : Int) = C at h2 V ⊢
    have l3 : (s1 ++ (⟨#[46]⟩ : ByteArray)).size ≤ 5000000001 := by rw [ByteArray.size_append]; have : (⟨#[46]⟩ : ByteArray).size = 1 := rfl; omega
    have z1 : ¬ (9223372036854775807 < s1.size + (⟨#[46]⟩ : ByteArray).size) := by have : (⟨#[46]⟩ : ByteArray).size = 1 := rfl; omega
    have z2 : ¬ (9223372036854775807 < (s1 ++ (⟨#[46]⟩ : ByteArray)).size + s2.size) := by omega
    clear l1 l2 l3
    replace h1 := Lib.hid h1
    replace h2 := Lib.hid h2
    replace V := Lib.hid V
    have HD := Lib.hid hd
    clear hd
    have HT := Lib.hid ht
    clear ht
    go_enter Tryd.func23, Tryd.ntmps23
    go_wp2_with fail
    refine (V.out _).mono ?_
    rintro e w1 ⟨rfl, hb⟩
    have hal := below_trans ((Below.refl _ w).alloc (Nat.le_refl _) (.cells #[.int .i64 R, .int .i64 C] 23)) hb
    have hz : w.heap.size < w1.heap.size := by have := hb.size; simp at this; omega
    have k1 : w1.cell? ⟨w.heap.size, 0, none⟩ = some (.int .i64 R) := (hb.cell (p := ⟨w.heap.size, 0, none⟩) (by simp)).trans (by go_simp)
    have k2 : w1.cell? ⟨w.heap.size, 1, none⟩ = some (.int .i64 C) := (hb.cell (p := ⟨w.heap.size, 1, none⟩) (by simp)).trans (by go_simp)
    have l1 := fun p => cell_far (p := p) (a := ⟨w.heap.size, 0, none⟩) hz k1
    have l2 := fun p => cell_far (p := p) (a := ⟨w.heap.size, 1, none⟩) hz k2
    have T := Lib.hid (fun p => (HT.out.below hal).below (below_far w1 p))
    clear k1 k2 hb
    have HAL := Lib.hid hal
    clear hal
    go_wp2_with fail
    refine wp_region_far (by kernel_rfl) (by kernel_rfl) ?_
    repeat (go_big_quiet_step ((first | (go_at_call 57; with_reducible first | exact far_of (h1.out _ (T.out _)) | exact far_of (h2.out _ (T.out _))))))
    refine wpQuiet_nil ?_
    rintro _ ⟨p, rfl⟩
    go_wp2
    go_ret2
    refine ⟨?_, below_trans HAL.out (below_far _ _)⟩
    rw [HD.out]; rfl

end Go.Proofs.YteeigngomleijaaDoor
