/- Package crc: bit, eight, Update, Sum; the reference's Step, Update, Sum, Join. -/
import Derived.Test.YtkloheabbbpboabDoorCrcH
import Derived.Test.YtkloheabbbpboabDoorCrcK
import Derived.Outline
namespace Go.Proofs.YtkloheabbbpboabDoor
open Go.RowKit

theorem xor32 (a b : Nat) (ha : a < 4294967296) (hb : b < 4294967296) : bits .xor .u32 (a : Int) (b : Int) = ((a ^^^ b : Nat) : Int) := u32_xor_nat a b ha hb
theorem inv32 (n : Nat) (h : n < 4294967296) : bits .xor .u32 IntKind.u32.max (n : Int) = ((invN n : Nat) : Int) := by
  rw [show IntKind.u32.max = ((4294967295 : Nat) : Int) from by decide, xor32 _ _ (by decide) h, inv_xor h]
theorem half32 (n : Nat) (h : n < 4294967296) : bits .xor .u32 ((n : Int) / 2) 3988292384 = ((n / 2 ^^^ 3988292384 : Nat) : Int) := by
  have e : (n : Int) / 2 = ((n / 2 : Nat) : Int) := by omega
  rw [e]
  exact xor32 (n / 2) 3988292384 (by omega) (by decide)
/-- One result that is known, nothing changed. -/
def One (v : Value) (w : World) (e : Ending) (w' : World) : Prop := e = .returned v ∧ w = w'
theorem One.int {k : IntKind} {a b : Int} (w : World) (h : a = b) : One (.int k a) w (.returned (.int k b)) w := by subst h; exact ⟨rfl, rfl⟩

set_option maxHeartbeats 400000 in
theorem crcBit (n : Nat) (w : World) (hn : n < 4294967296) :
    Calls Tryd.prog 22 #[.int .u32 (n : Int)] w (One (.int .u32 ((bitN n : Nat) : Int)) w) := by
  have m0 : (n : Int) / 2 % 4294967296 = (n : Int) / 2 := by omega
  by_cases h : n % 2 = 1
  · have z0 : ((n : Int) % 2 == 1) = true := by simp; omega
    have e := half32 n hn
    have HE := Lib.hid (show ((n / 2 ^^^ 3988292384 : Nat) : Int) = ((bitN n : Nat) : Int) from by unfold bitN; rw [if_pos h])
    clear h hn
    go_enter Tryd.func22, Tryd.ntmps22
    go_wp2_with fail
    go_ret
    exact One.int w HE.out.symm
  · have z0 : ((n : Int) % 2 == 1) = false := by simp; omega
    have HE := Lib.hid (show (n : Int) / 2 = ((bitN n : Nat) : Int) from by unfold bitN; rw [if_neg h]; omega)
    clear h hn
    go_enter Tryd.func22, Tryd.ntmps22
    go_wp2_with fail
    go_ret
    exact One.int w HE.out.symm

set_option maxHeartbeats 400000 in
theorem crcEight (n : Nat) (w : World) (hn : n < 4294967296) :
    Calls Tryd.prog 18 #[.int .u32 (n : Int)] w (One (.int .u32 ((bitsN 8 n : Nat) : Int)) w) := by
  have HN := Lib.hid hn
  clear hn
  go_enter Tryd.func18, Tryd.ntmps18
  go_wp2_with fail
  go_loopw [0, 3] (fun m a wr => ∃ (k q : Nat), k ≤ 8 ∧ a = .int .i64 k ∧ m = .int .u32 (q : Int) ∧ wr = w ∧ Hid (q < 4294967296 ∧ bitsN 8 n = bitsN (8 - k) q)) (fun _ a _ => 8 - (intOf a).toNat)
  case atStart => exact ⟨0, n, by omega, rfl, rfl, rfl, HN.out, rfl⟩
  case round =>
    obtain ⟨k, q, hk, rfl, rfl, rfl, HQ⟩ := hrel
    by_cases hlt : k < 8
    · have i0 : (k : Int) < 8 := by omega
      have HS := Lib.hid (show bitN q < 4294967296 ∧ bitsN 8 n = bitsN (8 - (k + 1)) (bitN q) from ⟨bitN_lt HQ.out.1, by rw [HQ.out.2, show 8 - k = (8 - (k + 1)) + 1 by omega]; rfl⟩)
      go_wp2_with fail
      refine (crcBit q _ HQ.out.1).mono ?_
      rintro e w1 ⟨rfl, rfl⟩
      go_wp2_with fail
      go_roundw
      case rel => exact ⟨k + 1, bitN q, by omega, by go_num, rfl, by trivial, HS.out⟩
      case measure => simp [intOf]; omega
    · obtain rfl : k = 8 := by omega
      have HS := Lib.hid (show ((bitsN 8 n : Nat) : Int) = (q : Int) from by rw [HQ.out.2]; rfl)
      clear hlt hk
      go_wp2_with fail
      go_ret
      exact One.int _ HS.out

set_option maxHeartbeats 400000 in
theorem crcUpdate (s : Nat) (A : Option Addr) (c : Nat) (xs : List UInt8) (w : World) (hs : s < 4294967296) (h : BytesAt w A xs) (hm : xs.length ≤ 100000000) :
    Calls Tryd.prog 11 #[.int .u32 (s : Int), .slice A xs.length c] w (One (.int .u32 ((updN s xs : Nat) : Int)) w) := by
  have e0 := inv32 s hs
  have HX := Lib.hid h
  clear h
  go_enter Tryd.func11, Tryd.ntmps11
  go_wp2_with fail
  go_loopw [5, 12] (fun m a wr => ∃ (k q : Nat), k ≤ xs.length ∧ a = .int .i64 k ∧ m = .int .u32 (q : Int) ∧ wr = w ∧ Hid (q < 4294967296 ∧ q = runN (invN s) (xs.take k))) (fun _ a _ => xs.length - (intOf a).toNat)
  case atStart => exact ⟨0, invN s, by omega, rfl, rfl, rfl, invN_lt s, rfl⟩
  case round =>
    obtain ⟨k, q, hk, rfl, rfl, rfl, HQ⟩ := hrel
    clear e0
    by_cases hlt : k < xs.length
    · have i0 : (k : Int) < (xs.length : Int) := by omega
      obtain ⟨b, off, rfl, hb, hc⟩ := HX.out (by omega)
      have hc0 := hc k _ (List.getElem?_eq_getElem hlt) 0 _ rfl
      have d0 : wr.cell? ⟨b, off + k, none⟩ = some (.int .u8 (xs[k]).toNat) := by simpa using hc0
      have h8 := toNat8 xs[k]
      have hx := xor32 q (xs[k]).toNat HQ.out.1 (by omega)
      have HS := Lib.hid (show bitsN 8 (q ^^^ (xs[k]).toNat) < 4294967296 ∧ bitsN 8 (q ^^^ (xs[k]).toNat) = runN (invN s) (xs.take (k + 1)) from ⟨stepN_lt HQ.out.1, by rw [List.take_succ_eq_append_getElem hlt, runN_append, ← HQ.out.2]; rfl⟩)
      have HL := Lib.hid (show q ^^^ (xs[k]).toNat < 4294967296 from xor_lt HQ.out.1 (by omega))
      have eW : IntKind.u32.wrap ((xs[k]).toNat : Int) = ((xs[k]).toNat : Int) := by simp [IntKind.wrap, IntKind.bits, IntKind.signed]; omega
      clear hc hc0
      generalize (xs[k]).toNat = y at *
      go_wp2_with fail
      refine (crcEight _ _ HL.out).mono ?_
      rintro e w1 ⟨rfl, rfl⟩
      go_wp2_with fail
      go_roundw
      case rel => exact ⟨k + 1, _, by omega, by go_num, rfl, by trivial, HS⟩
      case measure => simp [intOf]; omega
    · obtain rfl : k = xs.length := by omega
      rw [List.take_length] at HQ
      have i0 : ¬ (xs.length : Int) < (xs.length : Int) := by omega
      have e1 := inv32 q HQ.out.1
      have HS := Lib.hid (show ((updN s xs : Nat) : Int) = ((invN q : Nat) : Int) from by rw [HQ.out.2]; rfl)
      clear hlt hk
      go_wp2_with fail
      go_ret
      exact One.int _ HS.out

set_option maxHeartbeats 400000 in
theorem crcSum (A : Option Addr) (c : Nat) (xs : List UInt8) (w : World) (h : BytesAt w A xs) (hm : xs.length ≤ 100000000) :
    Calls Tryd.prog 10 #[.slice A xs.length c] w (One (.int .u32 ((updN 0 xs : Nat) : Int)) w) := by
  have HU := Lib.hid (crcUpdate 0 A c xs w (by decide) h hm)
  clear h
  go_enter Tryd.func10, Tryd.ntmps10
  go_wp2_with fail
  refine HU.out.mono ?_
  rintro e w1 ⟨rfl, rfl⟩
  go_wp2_with fail
  go_ret
  exact ⟨rfl, rfl⟩

set_option maxHeartbeats 400000 in
theorem refStep (n : Nat) (x : UInt8) (w : World) (hn : n < 4294967296) :
    Calls Tryd.prog 17 #[.int .u32 (n : Int), .int .u8 (x.toNat : Int)] w (One (.int .u32 ((stepN n x : Nat) : Int)) w) := by
  have h8 := toNat8 x
  have hx := xor32 n x.toNat hn (by omega)
  have eW : IntKind.u32.wrap (x.toNat : Int) = (x.toNat : Int) := by simp [IntKind.wrap, IntKind.bits, IntKind.signed]; omega
  have HL := Lib.hid (show n ^^^ x.toNat < 4294967296 from xor_lt hn (by omega))
  have HE := Lib.hid (show stepN n x = bitsN 8 (n ^^^ x.toNat) from rfl)
  generalize hy : x.toNat = y at *
  clear hy
  go_enter Tryd.func17, Tryd.ntmps17
  go_wp2_with fail
  go_loopw [0, 5] (fun m a wr => ∃ (k q : Nat), k ≤ 8 ∧ a = .int .i64 k ∧ m = .int .u32 (q : Int) ∧ wr = w ∧ Hid (q < 4294967296 ∧ bitsN 8 (n ^^^ y) = bitsN (8 - k) q)) (fun _ a _ => 8 - (intOf a).toNat)
  case atStart => exact ⟨0, _, by omega, rfl, rfl, rfl, HL.out, rfl⟩
  case round =>
    obtain ⟨k, q, hk, rfl, rfl, rfl, HQ⟩ := hrel
    clear hx eW
    by_cases hlt : k < 8
    · have i0 : (k : Int) < 8 := by omega
      have HS := Lib.hid (show bitN q < 4294967296 ∧ bitsN 8 (n ^^^ y) = bitsN (8 - (k + 1)) (bitN q) from ⟨bitN_lt HQ.out.1, by rw [HQ.out.2, show 8 - k = (8 - (k + 1)) + 1 by omega]; rfl⟩)
      have hq32 := HQ.out.1
      have m0 : (q : Int) / 2 % 4294967296 = (q : Int) / 2 := by omega
      by_cases h : q % 2 = 1
      · have z0 : ((q : Int) % 2 == 1) = true := by simp; omega
        have e := half32 q hq32
        have HE2 := Lib.hid (show ((q / 2 ^^^ 3988292384 : Nat) : Int) = ((bitN q : Nat) : Int) from by unfold bitN; rw [if_pos h])
        clear h hq32
        go_wp2_with fail
        go_roundw
        case rel => exact ⟨k + 1, bitN q, by omega, by go_num, by rw [← HE2.out], by trivial, HS.out⟩
        case measure => simp [intOf]; omega
      · have z0 : ((q : Int) % 2 == 1) = false := by simp; omega
        have HE2 := Lib.hid (show (q : Int) / 2 = ((bitN q : Nat) : Int) from by unfold bitN; rw [if_neg h]; omega)
        clear h hq32
        go_wp2_with fail
        go_roundw
        case rel => exact ⟨k + 1, bitN q, by omega, by go_num, by rw [← HE2.out], by trivial, HS.out⟩
        case measure => simp [intOf]; omega
    · obtain rfl : k = 8 := by omega
      have HS := Lib.hid (show ((stepN n x : Nat) : Int) = (q : Int) from by rw [HE.out, HQ.out.2]; rfl)
      clear hlt hk
      go_wp2_with fail
      go_ret
      exact One.int _ HS.out

set_option maxHeartbeats 400000 in
theorem refJoin (a b len : Nat) (w : World) (ha : a < 4294967296) (hb : b < 4294967296) (hl : len ≤ 100000000) :
    Calls Tryd.prog 9 #[.int .u32 (a : Int), .int .u32 (b : Int), .int .i64 (len : Int)] w (One (.int .u32 ((joinN a b len : Nat) : Int)) w) := by
  have HA := Lib.hid ha
  have HB := Lib.hid hb
  clear ha hb
  go_enter Tryd.func9, Tryd.ntmps9
  go_wp2_with fail
  go_loopw [0, 7] (fun m a0 wr => ∃ (k q : Nat), k ≤ len ∧ a0 = .int .i64 k ∧ m = .int .u32 (q : Int) ∧ wr = w ∧ Hid (q < 4294967296 ∧ q = bitsN (8 * k) a)) (fun _ a0 _ => len - (intOf a0).toNat)
  case atStart => exact ⟨0, a, by omega, rfl, rfl, rfl, HA.out, rfl⟩
  case round =>
    obtain ⟨k, q, hk, rfl, rfl, rfl, HQ⟩ := hrel
    by_cases hlt : k < len
    · have i0 : (k : Int) < (len : Int) := by omega
      have HS := Lib.hid (show stepN q 0 < 4294967296 ∧ stepN q 0 = bitsN (8 * (k + 1)) a from ⟨stepN_lt HQ.out.1, by
        show bitsN 8 (q ^^^ 0) = _
        rw [Nat.xor_zero, HQ.out.2, ← bitsN_add]; rfl⟩)
      have HZ := Lib.hid (refStep q 0 wr HQ.out.1)
      go_wp2_with fail
      refine HZ.out.mono ?_
      rintro e w1 ⟨rfl, rfl⟩
      go_wp2_with fail
      go_roundw
      case rel => exact ⟨k + 1, _, by omega, by go_num, rfl, by trivial, HS⟩
      case measure => simp [intOf]; omega
    · obtain rfl : k = len := by omega
      have i0 : ¬ (k : Int) < (k : Int) := by omega
      have e1 := xor32 q b HQ.out.1 HB.out
      have HS := Lib.hid (show ((joinN a b k : Nat) : Int) = ((q ^^^ b : Nat) : Int) from by rw [HQ.out.2]; rfl)
      clear hlt hk
      go_wp2_with fail
      go_ret
      exact One.int _ HS.out

end Go.Proofs.YtkloheabbbpboabDoor
