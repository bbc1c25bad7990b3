/- Package crc: times, Join. -/
import Derived.Test.YtkloheabbbpboaaDoorCrcA
import Derived.Deep.LoopGhost
namespace Go.Proofs.YtkloheabbbpboaaDoor
open Go.RowKit

theorem dvd_dbl {b k : Nat} (hk : k ≤ 31) (h : 2 ^ k ∣ b) : 2 ^ (k + 1) ∣ 2 * b % 4294967296 := by
  have h1 : 2 ^ (k + 1) ∣ 4294967296 := Nat.pow_dvd_pow (n := 32) 2 (by omega)
  refine (Nat.dvd_mod_iff h1).2 ?_
  obtain ⟨c, rfl⟩ := h
  exact ⟨c, by rw [Nat.pow_succ, ← Nat.mul_assoc, Nat.mul_comm 2 (2 ^ k)]⟩
theorem shl32 (b : Nat) : IntKind.u32.wrap ((b : Int) * 2) = ((2 * b % 4294967296 : Nat) : Int) := by
  simp [IntKind.wrap, IntKind.bits, IntKind.signed]; omega
theorem shlV (c : Nat) : Value.int .u32 (2 * (c : Int) % 4294967296) = Value.int .u32 ((2 * c % 4294967296 : Nat) : Int) := congrArg (Value.int .u32) (by omega)

set_option maxHeartbeats 1000000 in
theorem crcTimes (a b : Nat) (w : World) (ha : a < 4294967296) (hb : b < 4294967296) :
    Calls Tryd.prog 19 #[.int .u32 (a : Int), .int .u32 (b : Int)] w (One (.int .u32 ((mulN a b : Nat) : Int)) w) := by
  have HA := Lib.hid ha
  have HB := Lib.hid hb
  clear ha hb
  go_enter Tryd.func19, Tryd.ntmps19
  go_wp2_with fail
  go_loopg [0, 1, 5] 32 (fun g s0 s1 s5 wr => ∃ (q c p : Nat), s0 = .int .u32 (q : Int) ∧ s1 = .int .u32 (c : Int) ∧ s5 = .int .u32 (p : Int) ∧ wr = w ∧ Hid (g ≤ 32 ∧ q < 4294967296 ∧ c < 4294967296 ∧ p < 4294967296 ∧ 2 ^ (32 - g) ∣ c ∧ mulN a b = timN g p q c))
  case atStart => exact ⟨a, b, 0, rfl, rfl, rfl, rfl, ⟨Nat.le_refl _, HA.out, HB.out, by decide, by simp, rfl⟩⟩
  case round =>
    obtain ⟨q, c, p, rfl, rfl, rfl, rfl, HQ⟩ := hrel
    by_cases h0 : c = 0
    · subst h0
      have HS := Lib.hid (show ((mulN a b : Nat) : Int) = (p : Int) from by rw [HQ.out.2.2.2.2.2, timN_end])
      go_wp2_with fail
      go_ret
      exact One.int _ HS.out
    · have z0 : ((c : Int) != 0) = true := by simp; omega
      obtain ⟨g', hg⟩ : ∃ g', gk = g' + 1 := by
        rcases Nat.eq_zero_or_pos gk with h | h
        · have h1 := HQ.out.2.2.2.2.1
          rw [h] at h1
          have := Nat.le_of_dvd (by omega) h1
          have := HQ.out.2.2.1
          simp at *
          omega
        · exact ⟨gk - 1, by omega⟩
      subst hg
      have e1 := shl32 c
      by_cases hge : 2147483648 ≤ c
      · have i0 : (2147483648 : Int) ≤ (c : Int) := by omega
        have e2 := xor32 p q HQ.out.2.2.2.1 HQ.out.2.1
        have HS := Lib.hid (show g' ≤ 32 ∧ bitN q < 4294967296 ∧ 2 * c % 4294967296 < 4294967296 ∧ p ^^^ q < 4294967296 ∧ 2 ^ (32 - g') ∣ 2 * c % 4294967296 ∧ mulN a b = timN g' (p ^^^ q) (bitN q) (2 * c % 4294967296) from ⟨by have := HQ.out.1; omega, bitN_lt HQ.out.2.1, Nat.mod_lt _ (by decide), xor_lt HQ.out.2.2.2.1 HQ.out.2.1, by
          have h1 := HQ.out.1
          have h2 := dvd_dbl (by omega) HQ.out.2.2.2.2.1
          rwa [show 32 - (g' + 1) + 1 = 32 - g' by omega] at h2, by rw [HQ.out.2.2.2.2.2]; show timN g' _ _ _ = _; rw [if_pos hge]⟩)
        clear h0 hge
        go_wp2_with fail
        refine (crcBit q _ HQ.out.2.1).mono ?_
        rintro e w1 ⟨rfl, rfl⟩
        go_wp2_with fail
        go_roundg g'
        case rel => exact ⟨bitN q, 2 * c % 4294967296, p ^^^ q, rfl, shlV c, rfl, rfl, HS⟩
        case measure => omega
      · have i0 : ¬ (2147483648 : Int) ≤ (c : Int) := by omega
        have HS := Lib.hid (show g' ≤ 32 ∧ bitN q < 4294967296 ∧ 2 * c % 4294967296 < 4294967296 ∧ p < 4294967296 ∧ 2 ^ (32 - g') ∣ 2 * c % 4294967296 ∧ mulN a b = timN g' p (bitN q) (2 * c % 4294967296) from ⟨by have := HQ.out.1; omega, bitN_lt HQ.out.2.1, Nat.mod_lt _ (by decide), HQ.out.2.2.2.1, by
          have h1 := HQ.out.1
          have h2 := dvd_dbl (by omega) HQ.out.2.2.2.2.1
          rwa [show 32 - (g' + 1) + 1 = 32 - g' by omega] at h2, by rw [HQ.out.2.2.2.2.2]; show timN g' _ _ _ = _; rw [if_neg hge]⟩)
        clear h0 hge
        go_wp2_with fail
        refine (crcBit q _ HQ.out.2.1).mono ?_
        rintro e w1 ⟨rfl, rfl⟩
        go_wp2_with fail
        go_roundg g'
        case rel => exact ⟨bitN q, 2 * c % 4294967296, p, rfl, shlV c, rfl, rfl, HS⟩
        case measure => omega

/-- m is the product: the equation, kept from unfolding. -/
structure MulIs (a b m : Nat) : Prop where
  out : mulN a b = m
theorem crcTimesV (a b : Nat) (w : World) (ha : a < 4294967296) (hb : b < 4294967296) :
    Calls Tryd.prog 19 #[.int .u32 (a : Int), .int .u32 (b : Int)] w fun e w' => (∃ m : Nat, e = .returned (.int .u32 (m : Int)) ∧ MulIs a b m) ∧ w = w' :=
  (crcTimes a b w ha hb).mono fun _ _ h => ⟨⟨_, h.1, ⟨rfl⟩⟩, h.2⟩
theorem MulIs.sq {st s m : Nat} (k : MulIs st st m) (h : st = bitsN s 2147483648) : m = bitsN (2 * s) 2147483648 := by
  rw [← k.out, h, mulN_bits (bitsN_lt _ (by decide)), ← bitsN_add, Nat.two_mul]
theorem MulIs.steps {q st s m : Nat} (k : MulIs q st m) (hq : q < 4294967296) (h : st = bitsN s 2147483648) : m < 4294967296 ∧ m = bitsN s q := by
  rw [← k.out]
  exact ⟨mulN_lt hq, by rw [h, mulN_bits hq]⟩

end Go.Proofs.YtkloheabbbpboaaDoor
