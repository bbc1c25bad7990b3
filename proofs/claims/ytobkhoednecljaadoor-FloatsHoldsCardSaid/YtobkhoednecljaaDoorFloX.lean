/- Hexadecimal digits of 64 bits: plain facts. -/
import Derived.Test.YtobkhoednecljaaDoorCrcH
namespace Go.Proofs.YtobkhoednecljaaDoor
open Go.RowKit

/-- The digit of a number below 16. -/
def hexD (d : Nat) : UInt8 := if d < 10 then UInt8.ofNat (48 + d) else UInt8.ofNat (87 + d)
/-- The k lowest digits. -/
def hexL : Nat → Nat → List UInt8
  | 0, _ => []
  | k + 1, n => hexD (n / 16 ^ k % 16) :: hexL k n
theorem hexL_len (k n : Nat) : (hexL k n).length = k := by
  induction k with
  | zero => rfl
  | succ k ih => rw [hexL, List.length_cons, ih]
theorem hexL_mod (k j n : Nat) (h : k ≤ j) : hexL k (n % 16 ^ j) = hexL k n := by
  induction k with
  | zero => rfl
  | succ k ih =>
    rw [hexL, hexL, ih (by omega)]
    congr 2
    obtain ⟨m, rfl⟩ : ∃ m, j = k + 1 + m := ⟨j - (k + 1), by omega⟩
    rw [Nat.pow_add, Nat.pow_succ, Nat.mul_assoc, Nat.mod_mul_right_div_self, Nat.mod_mul_right_mod]
theorem hexD_lt (d : Nat) (h : d < 16) : (hexD d).toNat < 103 := by
  unfold hexD
  split <;> rw [ofNat_toNat (by omega)] <;> omega

theorem toNat8 (b : UInt8) : b.toNat < 256 := b.toBitVec.isLt
/-- The value of a digit. -/
def dv (b : UInt8) : Option Nat := if 48 ≤ b.toNat ∧ b.toNat ≤ 57 then some (b.toNat - 48) else if 97 ≤ b.toNat ∧ b.toNat ≤ 102 then some (b.toNat - 87) else none
theorem dv_hex : ∀ d : Fin 16, dv (hexD d.val) = some d.val := by decide +kernel
theorem hexD_dv : ∀ b : Fin 256, ∀ d : Fin 16, dv (UInt8.ofNat b.val) = some d.val → UInt8.ofNat b.val = hexD d.val := by decide +kernel
theorem dv_lt {b : UInt8} {d : Nat} (h : dv b = some d) : d < 16 := by
  unfold dv at h
  split at h
  · cases h; omega
  · split at h
    · cases h; omega
    · cases h
theorem dv_eq {b : UInt8} {d : Nat} (h : dv b = some d) : b = hexD d := by
  have h1 := hexD_dv ⟨b.toNat, toNat8 b⟩ ⟨d, dv_lt h⟩
  have e : UInt8.ofNat b.toNat = b := by simp
  simp only [e] at h1
  exact h1 h
/-- What hexadecimal digits read as. -/
def rdX : List UInt8 → Nat → Option Nat
  | [], acc => some acc
  | b :: r, acc => match dv b with
    | some d => rdX r (16 * acc + d)
    | none => none
theorem rdX_cons {b : UInt8} {r : List UInt8} {acc d : Nat} (h : dv b = some d) : rdX (b :: r) acc = rdX r (16 * acc + d) := by rw [rdX, h]
theorem rdX_bad {b : UInt8} {r : List UInt8} {acc : Nat} (h : dv b = none) : rdX (b :: r) acc = none := by rw [rdX, h]
theorem rdX_some {l : List UInt8} {acc v : Nat} (h : rdX l acc = some v) : l = hexL l.length v ∧ v / 16 ^ l.length = acc := by
  induction l generalizing acc with
  | nil => cases h; exact ⟨rfl, by simp⟩
  | cons b r ih =>
    unfold rdX at h
    cases hd : dv b with
    | none => rw [hd] at h; cases h
    | some d =>
      rw [hd] at h
      obtain ⟨h1, h2⟩ := ih h
      have h16 := dv_lt hd
      refine ⟨?_, ?_⟩
      · rw [List.length_cons, hexL, h2, show (16 * acc + d) % 16 = d by omega, ← h1, ← dv_eq hd]
      · rw [List.length_cons, Nat.pow_succ, ← Nat.div_div_eq_div_mul, h2]; omega
theorem rdX_hex (k n acc : Nat) : rdX (hexL k n) acc = some (acc * 16 ^ k + n % 16 ^ k) := by
  induction k generalizing acc with
  | zero => simp [hexL, rdX, Nat.mod_one]
  | succ k ih =>
    rw [hexL]
    unfold rdX
    rw [dv_hex ⟨n / 16 ^ k % 16, Nat.mod_lt _ (by decide)⟩]
    simp only []
    rw [ih]
    congr 1
    have h1 : n % 16 ^ (k + 1) = n / 16 ^ k % 16 * 16 ^ k + n % 16 ^ k := by
      rw [Nat.pow_succ, Nat.mod_mul, Nat.mul_comm (16 ^ k), Nat.add_comm]
    rw [h1, Nat.add_mul, Nat.pow_succ, Nat.mul_comm 16 acc, Nat.mul_assoc, Nat.mul_comm 16 (16 ^ k)]
    omega
/-- The value with a text, by its bits. -/
def prsF (l : List UInt8) : Option Nat := if l.length = 16 then rdX l 0 else none
theorem prsF_some {l : List UInt8} {v : Nat} (h : prsF l = some v) : v < 18446744073709551616 ∧ l = hexL 16 v := by
  unfold prsF at h
  split at h
  · rename_i h8
    obtain ⟨h1, h2⟩ := rdX_some h
    rw [h8] at h1 h2
    refine ⟨?_, h1⟩
    have : v / 18446744073709551616 = 0 := h2
    omega
  · cases h
theorem prsF_hex {n : Nat} (h : n < 18446744073709551616) : prsF (hexL 16 n) = some n := by
  unfold prsF
  rw [if_pos (hexL_len 16 n), rdX_hex, Nat.zero_mul, Nat.zero_add]
  exact congrArg some (Nat.mod_eq_of_lt h)
/-- The text of a value. -/
def txtF (s : Nat) : ByteArray := ⟨(hexL 16 s).toArray⟩

end Go.Proofs.YtobkhoednecljaaDoor
