/- Package crc: Join. -/
import Derived.Test.YtkloheabbbpboabDoorCrcB
namespace Go.Proofs.YtkloheabbbpboabDoor
open Go.RowKit

/-- Two results that are known, nothing changed. -/
def Two (a b : Value) (w : World) (e : Ending) (w' : World) : Prop := e = .returned (.tuple #[a, b]) ∧ w = w'
theorem Two.int {k : IntKind} {a b : Int} {v : Value} (w : World) (h : a = b) : Two (.int k a) v w (.returned (.tuple #[.int k b, v])) w := by subst h; exact ⟨rfl, rfl⟩

theorem half64 (l : Nat) (h : l ≤ 16777216) : wrap64 ((l : Int) / 2) = (l : Int) / 2 := by unfold wrap64; omega
set_option maxHeartbeats 1000000 in
theorem crcJoin (a b len : Nat) (w : World) (ha : a < 4294967296) (hb : b < 4294967296) (hl : len ≤ 16777216) :
    Calls Tryd.prog 16 #[.int .u32 (a : Int), .int .u32 (b : Int), .int .i64 (len : Int)] w (Two (.int .u32 ((joinN a b len : Nat) : Int)) (.int .i64 0) w) := by
  have HA := Lib.hid ha
  have HB := Lib.hid hb
  have i0 : ¬ (16777216 : Int) < (len : Int) := by omega
  have i1 : ¬ (len : Int) < 0 := by omega
  have H8 := Lib.hid (crcEight 2147483648 w (by decide))
  clear ha hb
  go_enter Tryd.func16, Tryd.ntmps16
  go_wp2_with fail
  refine H8.out.mono ?_
  rintro e w1 ⟨rfl, rfl⟩
  clear i0 i1 H8
  obtain ⟨s8, hs8⟩ : ∃ s8, bitsN 8 2147483648 = s8 := ⟨_, rfl⟩
  rw [hs8]
  have HS8 := Lib.hid hs8
  clear hs8
  go_wp2_with fail
  go_loopg [0, 2, 8] len (fun g s0 s2 s8 wr => ∃ (q l s st : Nat), l = g ∧ s0 = .int .u32 (q : Int) ∧ s2 = .int .i64 (l : Int) ∧ s8 = .int .u32 (st : Int) ∧ wr = w ∧ Hid (l ≤ 16777216 ∧ q < 4294967296 ∧ st = bitsN s 2147483648 ∧ bitsN (8 * len) a = bitsN (s * l) q))
  case atStart => exact ⟨a, len, 8, s8, rfl, rfl, rfl, rfl, rfl, ⟨hl, HA.out, HS8.out.symm, rfl⟩⟩
  case round =>
    obtain ⟨q, l, s, st, hlg, rfl, rfl, rfl, rfl, HQ0⟩ := hrel
    have HQ := Lib.hid HQ0.out.2
    have HL2 := Lib.hid HQ0.out.1
    have HG := Lib.hid hlg
    clear HQ0 HS8 hlg
    have HST := Lib.hid (show st < 4294967296 from by rw [HQ.out.2.1]; exact bitsN_lt _ (by decide))
    by_cases h0 : l = 0
    · have i2 : ¬ (0 : Int) < (l : Int) := by omega
      have e1 := xor32 q b HQ.out.1 HB.out
      have HS := Lib.hid (show ((joinN a b len : Nat) : Int) = ((q ^^^ b : Nat) : Int) from by
        unfold joinN
        rw [HQ.out.2.2, h0, Nat.mul_zero]
        rfl)
      clear h0
      go_wp2_with fail
      go_ret2
      exact Two.int _ HS.out
    · have i2 : (0 : Int) < (l : Int) := by omega
      have e9 := half64 l HL2.out
      by_cases hodd : l % 2 = 1
      · have z0 : ((l : Int) % 2 == 1) = true := by simp; omega
        have HOD := Lib.hid hodd
        clear hodd h0
        go_wp2_with fail
        refine (crcTimesV q st _ HQ.out.1 HST.out).mono ?_
        rintro e w1 ⟨⟨m1, rfl, hm1⟩, rfl⟩
        have HM := Lib.hid (hm1.steps HQ.out.1 HQ.out.2.1)
        clear hm1
        go_wp2_with fail
        refine (crcTimesV st st _ HST.out HST.out).mono ?_
        rintro e w1 ⟨⟨m2, rfl, hm2⟩, rfl⟩
        have HSQ := Lib.hid (hm2.sq HQ.out.2.1)
        clear hm2
        go_wp2_with fail
        have HS := Lib.hid (show bitsN (8 * len) a = bitsN (2 * s * (l / 2)) m1 from by
          have e : s + 2 * s * (l / 2) = s * l := by
            obtain ⟨m, rfl⟩ : ∃ m, l = 2 * m + 1 := ⟨l / 2, by have := HOD.out; omega⟩
            rw [show (2 * m + 1) / 2 = m by omega, Nat.mul_add, Nat.mul_one, Nat.add_comm, ← Nat.mul_assoc, Nat.mul_comm s 2]
          rw [HM.out.2, ← bitsN_add, e]
          exact HQ.out.2.2)
        go_roundg (l / 2)
        case rel => exact ⟨m1, l / 2, 2 * s, m2, rfl, rfl, by simp [half64 l HL2.out], rfl, by trivial, ⟨by have := HL2.out; omega, HM.out.1, HSQ.out, HS.out⟩⟩
        case measure => have := HG.out; omega
      · have z0 : ((l : Int) % 2 == 1) = false := by simp; omega
        have HS := Lib.hid (show bitsN (8 * len) a = bitsN (2 * s * (l / 2)) q from by
          have e : 2 * s * (l / 2) = s * l := by
            obtain ⟨m, rfl⟩ : ∃ m, l = 2 * m := ⟨l / 2, by omega⟩
            rw [show 2 * m / 2 = m by omega, ← Nat.mul_assoc, Nat.mul_comm s 2]
          rw [e]
          exact HQ.out.2.2)
        clear hodd h0
        go_wp2_with fail
        refine (crcTimesV st st _ HST.out HST.out).mono ?_
        rintro e w1 ⟨⟨m2, rfl, hm2⟩, rfl⟩
        have HSQ := Lib.hid (hm2.sq HQ.out.2.1)
        clear hm2
        go_wp2_with fail
        go_roundg (l / 2)
        case rel => exact ⟨q, l / 2, 2 * s, m2, rfl, rfl, by simp [half64 l HL2.out], rfl, by trivial, ⟨by have := HL2.out; omega, HQ.out.1, HSQ.out, HS.out⟩⟩
        case measure => have := HG.out; omega

theorem crcJoinArg (a b len : Int) (w : World) (hl : len < 0 ∨ 16777216 < len) :
    Calls Tryd.prog 16 #[.int .u32 a, .int .u32 b, .int .i64 len] w (Two (.int .u32 0) (.int .i64 2) w) := by
  by_cases h0 : len < 0
  · clear hl
    go_enter Tryd.func16, Tryd.ntmps16
    go_wp2_with fail
    go_ret2
    exact ⟨rfl, rfl⟩
  · have i1 : 16777216 < len := by omega
    clear hl
    go_enter Tryd.func16, Tryd.ntmps16
    go_wp2_with fail
    go_ret2
    exact ⟨rfl, rfl⟩

end Go.Proofs.YtkloheabbbpboabDoor
