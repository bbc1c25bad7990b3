/- The reference's Update and Sum. -/
import Derived.Test.YtkloheabbbpboaaDoorCrcA
namespace Go.Proofs.YtkloheabbbpboaaDoor
open Go.RowKit

theorem sub32 (n : Nat) (h : n < 4294967296) : IntKind.u32.wrap (4294967295 - (n : Int)) = ((invN n : Nat) : Int) := by
  simp [IntKind.wrap, IntKind.bits, IntKind.signed, invN]; omega

set_option maxHeartbeats 400000 in
theorem refUpdate (s : Nat) (A : Option Addr) (c : Nat) (xs : List UInt8) (w : World) (hs : s < 4294967296) (h : BytesAt w A xs) (hm : xs.length ≤ 100000000) :
    Calls Tryd.prog 8 #[.int .u32 (s : Int), .slice A xs.length c] w (One (.int .u32 ((updN s xs : Nat) : Int)) w) := by
  have e0 := sub32 s hs
  have HX := Lib.hid h
  clear h
  go_enter Tryd.func8, Tryd.ntmps8
  go_wp2_with fail
  go_loopw [5, 6] (fun m a wr => ∃ (k q : Nat), k ≤ xs.length ∧ a = .int .i64 k ∧ m = .int .u32 (q : Int) ∧ wr = w ∧ Hid (q < 4294967296 ∧ q = runN (invN s) (xs.take k))) (fun _ a _ => xs.length - (intOf a).toNat)
  case atStart => exact ⟨0, invN s, by omega, rfl, by rw [← e0], rfl, invN_lt s, rfl⟩
  case round =>
    obtain ⟨k, q, hk, rfl, rfl, rfl, HQ⟩ := hrel
    clear e0
    by_cases hlt : k < xs.length
    · have i0 : (k : Int) < (xs.length : Int) := by omega
      obtain ⟨b, off, rfl, hb, hc⟩ := HX.out (by omega)
      have hc0 := hc k _ (List.getElem?_eq_getElem hlt) 0 _ rfl
      have d0 : wr.cell? ⟨b, off + k, none⟩ = some (.int .u8 (xs[k]).toNat) := by simpa using hc0
      have HS := Lib.hid (show stepN q xs[k] < 4294967296 ∧ stepN q xs[k] = runN (invN s) (xs.take (k + 1)) from ⟨stepN_lt HQ.out.1, by rw [List.take_succ_eq_append_getElem hlt, runN_append, ← HQ.out.2]; rfl⟩)
      clear hc hc0
      go_wp2_with fail
      refine (refStep q xs[k] _ HQ.out.1).mono ?_
      rintro e w1 ⟨rfl, rfl⟩
      go_wp2_with fail
      go_roundw
      case rel => exact ⟨k + 1, _, by omega, by go_num, rfl, by trivial, HS⟩
      case measure => simp [intOf]; omega
    · obtain rfl : k = xs.length := by omega
      rw [List.take_length] at HQ
      have i0 : ¬ (xs.length : Int) < (xs.length : Int) := by omega
      have e1 := sub32 q HQ.out.1
      have HS := Lib.hid (show ((updN s xs : Nat) : Int) = ((invN q : Nat) : Int) from by rw [HQ.out.2]; rfl)
      clear hlt hk
      go_wp2_with fail
      go_ret
      exact One.int _ HS.out

set_option maxHeartbeats 400000 in
theorem refSum (A : Option Addr) (c : Nat) (xs : List UInt8) (w : World) (h : BytesAt w A xs) (hm : xs.length ≤ 100000000) :
    Calls Tryd.prog 6 #[.slice A xs.length c] w (One (.int .u32 ((updN 0 xs : Nat) : Int)) w) := by
  have HU := Lib.hid (refUpdate 0 A c xs w (by decide) h hm)
  clear h
  go_enter Tryd.func6, Tryd.ntmps6
  go_wp2_with fail
  refine HU.out.mono ?_
  rintro e w1 ⟨rfl, rfl⟩
  go_wp2_with fail
  go_ret
  exact ⟨rfl, rfl⟩

end Go.Proofs.YtkloheabbbpboaaDoor
