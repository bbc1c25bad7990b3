/- strings.Repeat of a nought, at most 15 times. -/
import Derived.Test.YtobkhoednecljaaDoorFloL
namespace Go.Proofs.YtobkhoednecljaaDoor
open Go.RowKit

theorem mul64One (c : Nat) (w : World) (h : c ≤ 15) : Calls Tryd.prog 69 #[.int .u64 1, .int .u64 (c : Int)] w (One (.tuple #[.int .u64 0, .int .u64 (c : Int)]) w) := by
  have q1 : bits .and .u64 1 4294967295 = 1 := by decide +kernel
  have q2 : bits .and .u64 0 4294967295 = 0 := by decide +kernel
  have q4 : (c : Int) / 4294967296 = 0 := by omega
  have q3 : bits .and .u64 (c : Int) 4294967295 = (c : Int) := by
    have e := u64_and_nat c 4294967295 (by omega) (by decide)
    have e2 : c &&& 4294967295 = c := by rw [Nat.and_two_pow_sub_one_eq_mod c 32]; omega
    rw [e2] at e; exact e
  go_enter Tryd.func69, Tryd.ntmps69
  go_wp2_with fail
  go_ret2
  exact ⟨rfl, rfl⟩
theorem mulOne (c : Nat) (w : World) (h : c ≤ 15) : Calls Tryd.prog 47 #[.int .u64 1, .int .u64 (c : Int)] w (One (.tuple #[.int .u64 0, .int .u64 (c : Int)]) w) := by
  have HM := Lib.hid fun W => mul64One c W h
  go_enter Tryd.func47, Tryd.ntmps47
  go_wp2_with fail
  refine (HM.out _).mono ?_
  rintro e w1 ⟨rfl, rfl⟩
  go_wp2_with fail
  go_ret2
  exact ⟨rfl, rfl⟩
/-- 64 noughts. -/
def zeros64 : ByteArray := ⟨#[48, 48, 48, 48, 48, 48, 48, 48, 48, 48, 48, 48, 48, 48, 48, 48, 48, 48, 48, 48, 48, 48, 48, 48, 48, 48, 48, 48, 48, 48, 48, 48, 48, 48, 48, 48, 48, 48, 48, 48, 48, 48, 48, 48, 48, 48, 48, 48, 48, 48, 48, 48, 48, 48, 48, 48, 48, 48, 48, 48, 48, 48, 48, 48]⟩
theorem prefixZ (Z : ByteArray) (w : World) (hz : Z.size = 64) (he : Z.extract 0 1 = ⟨#[48]⟩) : Calls Tryd.prog 48 #[.string Z, .string ⟨#[48]⟩] w (One (.bool true) w) := by
  go_enter Tryd.func48, Tryd.ntmps48
  go_wp2
  go_ret
  exact ⟨by rfl, rfl⟩
theorem prefixNo (Z : ByteArray) (w : World) (x : UInt8) (hz : Z.size = 128) (he : Z.extract 0 1 = ⟨#[x]⟩) (hx : (x == 48) = false) : Calls Tryd.prog 48 #[.string Z, .string ⟨#[48]⟩] w (One (.bool false) w) := by
  go_enter Tryd.func48, Tryd.ntmps48
  go_wp2
  go_ret
  exact ⟨by rfl, rfl⟩
theorem prefixOne (w : World) : Calls Tryd.prog 48 #[.string zeros64, .string ⟨#[48]⟩] w (One (.bool true) w) := prefixZ zeros64 w (by decide +kernel) (by decide +kernel)
theorem cutZeros (c : Nat) (h : c ≤ 15) : zeros64.extract 0 c = ⟨(List.replicate c 48).toArray⟩ := by
  have hc : c ∈ List.range 16 := by simp; omega
  have ha : ∀ c ∈ List.range 16, zeros64.extract 0 c = ⟨(List.replicate c 48).toArray⟩ := by decide +kernel
  exact ha c hc
set_option maxRecDepth 100000 in
set_option maxHeartbeats 1000000 in
theorem repeatZ (c : Nat) (w : World) (h : c ≤ 15) : Calls Tryd.prog 40 #[.string ⟨#[48]⟩, .int .i64 (c : Int)] w (One (.string ⟨(List.replicate c 48).toArray⟩) w) := by
  rcases Nat.lt_or_ge c 2 with h2 | h2
  · obtain rfl | rfl : c = 0 ∨ c = 1 := by omega
    · skip
      go_enter Tryd.func40, Tryd.ntmps40
      go_wp2_with fail
      go_ret
      exact ⟨rfl, rfl⟩
    · skip
      go_enter Tryd.func40, Tryd.ntmps40
      go_wp2_with fail
      go_ret
      exact ⟨rfl, rfl⟩
  · have HM := Lib.hid fun W => mulOne c W h
    have HP := Lib.hid fun W => prefixOne W
    have HC := Lib.hid (cutZeros c h)
    have hs : zeros64.size = 64 := by decide +kernel
    rw [zeros64] at HP HC
    go_enter Tryd.func40, Tryd.ntmps40
    go_wp2_with fail
    refine (HM.out _).mono ?_
    rintro e w1 ⟨rfl, rfl⟩
    go_wp2_with fail
    refine (prefixNo _ _ 32 (by decide +kernel) (by decide +kernel) rfl).mono ?_
    rintro e w1 ⟨rfl, rfl⟩
    go_wp2_with fail
    refine (prefixNo _ _ 45 (by decide +kernel) (by decide +kernel) rfl).mono ?_
    rintro e w1 ⟨rfl, rfl⟩
    go_wp2_with fail
    refine (HP.out _).mono ?_
    rintro e w1 ⟨rfl, rfl⟩
    go_wp2_with fail
    go_ret
    exact ⟨congrArg (fun s => Ending.returned (.string s)) HC.out, rfl⟩

end Go.Proofs.YtobkhoednecljaaDoor
