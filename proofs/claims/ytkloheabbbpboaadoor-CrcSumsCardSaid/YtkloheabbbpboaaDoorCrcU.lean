/- Text of the program and of the reference. -/
import Derived.Test.YtkloheabbbpboaaDoorCrcT
namespace Go.Proofs.YtkloheabbbpboaaDoor
open Go.RowKit

set_option maxHeartbeats 400000 in
theorem fmtUintI (U : Nat) (w : World) (h0 : 4294967296 ≤ U) (h1 : U < 8589934592) (ht : LaidOK w) :
    Calls Tryd.prog 18 #[.int .u64 (U : Int), .int .i64 16] w fun e w' => e = .returned (.string ⟨(hexL 9 U).toArray⟩) ∧ Below w.heap.size w w' := by
  have H := Lib.hid (fmtBits U w h0 h1 ht)
  clear ht
  go_enter Tryd.func18, Tryd.ntmps18
  go_wp2_with fail
  refine H.out.mono ?_
  rintro e w1 ⟨rfl, hb⟩
  have HB := Lib.hid hb
  clear hb
  go_wp2_with fail
  go_ret
  exact ⟨rfl, HB.out⟩
set_option maxHeartbeats 400000 in
theorem fmtUint (U : Nat) (w : World) (h0 : 4294967296 ≤ U) (h1 : U < 8589934592) (ht : LaidOK w) :
    Calls Tryd.prog 14 #[.int .u64 (U : Int), .int .i64 16] w fun e w' => e = .returned (.string ⟨(hexL 9 U).toArray⟩) ∧ Below w.heap.size w w' := by
  have H := Lib.hid (fmtUintI U w h0 h1 ht)
  clear ht
  go_enter Tryd.func14, Tryd.ntmps14
  go_wp2_with fail
  refine H.out.mono ?_
  rintro e w1 ⟨rfl, hb⟩
  have HB := Lib.hid hb
  clear hb
  go_wp2_with fail
  go_ret
  exact ⟨rfl, HB.out⟩

/-- The text of a check sum. -/
def txt (s : Nat) : ByteArray := ⟨(hexL 8 s).toArray⟩
theorem or_top (s : Nat) (h : s < 4294967296) : bits .or .u64 4294967296 (s : Int) = ((4294967296 + s : Nat) : Int) := by
  have h1 := u64_or 4294967296 (s : Int) (by omega) (by omega) (by omega) (by omega)
  rw [h1]
  congr 1
  have h2 := Nat.two_pow_add_eq_or_of_lt (b := s) (i := 32) h 1
  simpa using h2.symm
theorem txt_cut (s : Nat) (h : s < 4294967296) : (⟨(hexL 9 (4294967296 + s)).toArray⟩ : ByteArray).extract 1 9 = txt s := by
  have h1 : hexL 8 (4294967296 + s) = hexL 8 s := by
    rw [← hexL_mod 8 8 (4294967296 + s) (Nat.le_refl _)]
    congr 1
    show (4294967296 + s) % 4294967296 = s
    omega
  have h2 : hexL 9 (4294967296 + s) = hexD ((4294967296 + s) / 16 ^ 8 % 16) :: hexL 8 (4294967296 + s) := rfl
  rw [h2, h1]
  apply ByteArray.ext
  simp [txt, ByteArray.data_extract, hexL_len]
  rw [List.take_of_length_le (by rw [hexL_len]; exact Nat.le_refl _)]

set_option maxHeartbeats 400000 in
theorem crcText (s : Nat) (w : World) (hs : s < 4294967296) (ht : LaidOK w) :
    Calls Tryd.prog 9 #[.int .u32 (s : Int)] w fun e w' => e = .returned (.string (txt s)) ∧ Below w.heap.size w w' := by
  have H := Lib.hid (fmtUint (4294967296 + s) w (by omega) (by omega) ht)
  have e1 := or_top s hs
  have eW : IntKind.u64.wrap (s : Int) = (s : Int) := by simp [IntKind.wrap, IntKind.bits, IntKind.signed]; omega
  have HC := Lib.hid (txt_cut s hs)
  have hz : (⟨(hexL 9 (4294967296 + s)).toArray⟩ : ByteArray).size = 9 := by show (hexL 9 (4294967296 + s)).toArray.size = 9; rw [List.size_toArray, hexL_len]
  generalize (⟨(hexL 9 (4294967296 + s)).toArray⟩ : ByteArray) = t at *
  clear ht hs
  go_enter Tryd.func9, Tryd.ntmps9
  go_wp2_with fail
  refine H.out.mono ?_
  rintro e w1 ⟨rfl, hb⟩
  have HB := Lib.hid hb
  clear hb
  go_wp2_with fail
  go_ret
  exact ⟨congrArg (fun x => Ending.returned (Value.string x)) HC.out, HB.out⟩

/-- The reference's digits. -/
abbrev digs16 : ByteArray := ⟨#[48, 49, 50, 51, 52, 53, 54, 55, 56, 57, 97, 98, 99, 100, 101, 102]⟩
theorem digs16_all : ∀ d : Fin 16, digs16.extract d.val (d.val + 1) = ⟨#[hexD d.val]⟩ := by decide +kernel
theorem hexL_cons (j s q : Nat) (hq : q = s / 16 ^ j) : (⟨#[hexD (q % 16)]⟩ : ByteArray) ++ ⟨(hexL j s).toArray⟩ = ⟨(hexL (j + 1) s).toArray⟩ := by
  apply ByteArray.ext
  simp [hexL, hq]

end Go.Proofs.YtkloheabbbpboaaDoor
