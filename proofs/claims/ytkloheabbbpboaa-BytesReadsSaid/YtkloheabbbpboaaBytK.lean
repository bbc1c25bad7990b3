/- Plain facts about the bytes of numbers: writing, reading, and that both invert each other. -/
import Derived.KernelRfl
namespace Go.Proofs.Ytkloheabbbpboaa

/-- The bytes of a number: its groups of seven bits, the lowest one first. -/
def enc (n : Nat) : List UInt8 := if n < 128 then [UInt8.ofNat n] else UInt8.ofNat (n % 128 + 128) :: enc (n / 128)
termination_by n
decreasing_by omega

theorem enc_lt {n : Nat} (h : n < 128) : enc n = [UInt8.ofNat n] := by rw [enc, if_pos h]
theorem enc_ge {n : Nat} (h : 128 ≤ n) : enc n = UInt8.ofNat (n % 128 + 128) :: enc (n / 128) := by rw [enc, if_neg (by omega)]

/-- What is read of bytes, k of at most ten bytes to come, i looked at, acc the number so far: the number, how many bytes it has, an error. -/
def rdN : Nat → Nat → Nat → List UInt8 → Nat × Nat × Int
  | 0, _, _, _ => (0, 0, 12)
  | _ + 1, _, _, [] => (0, 0, 4)
  | k + 1, i, acc, b :: r =>
    if 128 ≤ b.toNat then rdN k (i + 1) (acc + b.toNat % 128 * 128 ^ i) r
    else if (b.toNat = 0 ∧ 0 < i) ∨ (1 < b.toNat ∧ i = 9) then (0, 0, 12)
    else (acc + b.toNat % 128 * 128 ^ i, i + 1, 0)
/-- What is read of bytes. -/
def rd (l : List UInt8) : Nat × Nat × Int := rdN 10 0 0 l
/-- The same with a maximum. -/
def rdM (l : List UInt8) (most : Nat) : Nat × Nat × Int := if (rd l).2.2 = 0 ∧ most < (rd l).1 then (0, 0, 3) else rd l
/-- A string that is read: its bytes, how many were read, an error. -/
def rdS (l : List UInt8) (most : Int) : List UInt8 × Nat × Int :=
  if (rd l).2.2 ≠ 0 then ([], 0, (rd l).2.2)
  else if most < 0 ∨ most < (rd l).1 then ([], 0, 5)
  else if l.length - (rd l).2.1 < (rd l).1 then ([], 0, 4)
  else ((l.drop (rd l).2.1).take (rd l).1, (rd l).2.1 + (rd l).1, 0)

theorem ofNat_toNat {n : Nat} (h : n < 256) : (UInt8.ofNat n).toNat = n := by simp [UInt8.toNat_ofNat']; omega
theorem toNat_lt (b : UInt8) : b.toNat < 256 := b.toBitVec.isLt
theorem ofNat_self (b : UInt8) : UInt8.ofNat b.toNat = b := by simp

theorem enc_pos (n : Nat) : 0 < (enc n).length := by rw [enc]; split <;> simp

/-- How many groups a number has, by a bound. -/
theorem enc_len_le : ∀ (k n : Nat), n < 128 ^ (k + 1) → (enc n).length ≤ k + 1
  | 0, n, h => by rw [enc_lt (by simpa using h)]; simp
  | k + 1, n, h => by
    by_cases hn : n < 128
    · rw [enc_lt hn]; simp
    · rw [enc_ge (by omega), List.length_cons]
      have := enc_len_le k (n / 128) (by rw [Nat.pow_succ] at h; omega)
      omega
theorem enc_len_ge : ∀ (k n : Nat), 128 ^ k ≤ n → k + 1 ≤ (enc n).length
  | 0, n, _ => enc_pos n
  | k + 1, n, h => by
    have h1 : 128 ≤ n := by
      have : 128 ^ 1 ≤ 128 ^ (k + 1) := Nat.pow_le_pow_right (by omega) (by omega)
      omega
    rw [enc_ge h1, List.length_cons]
    have := enc_len_ge k (n / 128) (by rw [Nat.pow_succ] at h; omega)
    omega
theorem enc_ten {n : Nat} (h : n < 18446744073709551616) : (enc n).length ≤ 10 := enc_len_le 9 n (by omega)

theorem rdN_succ_cons (k i acc : Nat) (b : UInt8) (r : List UInt8) : rdN (k + 1) i acc (b :: r) = if 128 ≤ b.toNat then rdN k (i + 1) (acc + b.toNat % 128 * 128 ^ i) r
    else if (b.toNat = 0 ∧ 0 < i) ∨ (1 < b.toNat ∧ i = 9) then (0, 0, 12) else (acc + b.toNat % 128 * 128 ^ i, i + 1, 0) := rfl

/-- What was written is read again. -/
theorem rdN_enc : ∀ (k i acc n : Nat) (rest : List UInt8), i + k = 9 → (i = 0 ∨ 0 < n) → n * 128 ^ i < 18446744073709551616 → rdN (k + 1) i acc (enc n ++ rest) = (acc + n * 128 ^ i, i + (enc n).length, 0)
  | k, i, acc, n, rest, hk, h0, hn => by
    by_cases h : n < 128
    · rw [enc_lt h]
      show rdN (k + 1) i acc (UInt8.ofNat n :: rest) = _
      rw [rdN_succ_cons, ofNat_toNat (by omega), if_neg (by omega), if_neg ?_, Nat.mod_eq_of_lt h]
      · rfl
      · rintro (⟨h1, h2⟩ | ⟨h1, h2⟩)
        · omega
        · subst h2; omega
    · match k, hk with
      | 0, hk =>
        obtain rfl : i = 9 := by omega
        omega
      | k + 1, hk =>
        have hi := rdN_enc k (i + 1) (acc + (n % 128 + 128) % 128 * 128 ^ i) (n / 128) rest (by omega) (.inr (by omega)) (by
          rw [Nat.pow_succ]
          have h1 : n / 128 * 128 ≤ n := Nat.div_mul_le_self n 128
          have h2 : n / 128 * (128 ^ i * 128) = n / 128 * 128 * 128 ^ i := by rw [Nat.mul_comm (128 ^ i) 128, Nat.mul_assoc]
          rw [h2]
          exact Nat.lt_of_le_of_lt (Nat.mul_le_mul_right _ h1) hn)
        rw [enc_ge (by omega), List.cons_append, rdN_succ_cons, ofNat_toNat (by omega), if_pos (by omega), hi, List.length_cons]
        have e : n % 128 * 128 ^ i + n / 128 * 128 ^ (i + 1) = n * 128 ^ i := by
          have h2 : n / 128 * 128 ^ (i + 1) = 128 * (n / 128) * 128 ^ i := by rw [Nat.pow_succ, Nat.mul_comm (128 ^ i) 128, ← Nat.mul_assoc, Nat.mul_comm (n / 128) 128]
          rw [h2, ← Nat.add_mul, Nat.mod_add_div]
        have e1 : (n % 128 + 128) % 128 = n % 128 := by omega
        rw [e1]
        simp only [Prod.mk.injEq]
        exact ⟨by rw [Nat.add_assoc, e], by omega, trivial⟩
theorem rd_enc {n : Nat} (h : n < 18446744073709551616) (rest : List UInt8) : rd (enc n ++ rest) = (n, (enc n).length, 0) := by
  unfold rd
  rw [rdN_enc 9 0 0 n rest (by omega) (.inl rfl) (by omega)]
  simp

/-- The beginning of the bytes of a number is too short. -/
theorem rdN_short : ∀ (j k i acc n : Nat), i + k = 9 → j < (enc n).length → j ≤ k → rdN (k + 1) i acc ((enc n).take j) = (0, 0, 4)
  | 0, k, i, acc, n, _, _, _ => rfl
  | j + 1, k, i, acc, n, hk, hj, hjk => by
    by_cases h : n < 128
    · rw [enc_lt h] at hj; simp at hj
    · rw [enc_ge (by omega)] at hj ⊢
      rw [List.length_cons] at hj
      match k, hk, hjk with
      | 0, _, hjk => omega
      | k + 1, hk, hjk =>
        rw [List.take_succ_cons, rdN_succ_cons, ofNat_toNat (by omega), if_pos (by omega)]
        exact rdN_short j k (i + 1) _ (n / 128) (by omega) (by omega) (by omega)
theorem rd_short {n j : Nat} (h : n < 18446744073709551616) (hj : j < (enc n).length) : rd ((enc n).take j) = (0, 0, 4) :=
  rdN_short j 9 0 0 n (by omega) hj (by have := enc_ten h; omega)

/-- The bytes of a number with one more group at the end, which is 0. -/
def encLong (n : Nat) : List UInt8 := if n < 128 then [UInt8.ofNat (n + 128), 0] else UInt8.ofNat (n % 128 + 128) :: encLong (n / 128)
termination_by n
decreasing_by omega
theorem rdN_long : ∀ (k i acc n : Nat), i + k = 9 → (enc n).length ≤ k + 1 → rdN (k + 1) i acc (encLong n) = (0, 0, 12)
  | k, i, acc, n, hk, hl => by
    by_cases h : n < 128
    · rw [encLong, if_pos h, rdN_succ_cons, ofNat_toNat (by omega), if_pos (by omega)]
      match k with
      | 0 => rfl
      | k + 1 => rw [rdN_succ_cons, if_neg (by decide), if_pos (.inl ⟨rfl, by omega⟩)]
    · rw [enc_ge (by omega), List.length_cons] at hl
      match k, hk, hl with
      | 0, _, hl => have := enc_pos (n / 128); omega
      | k + 1, hk, hl =>
        rw [encLong, if_neg h, rdN_succ_cons, ofNat_toNat (by omega), if_pos (by omega)]
        exact rdN_long k (i + 1) _ (n / 128) (by omega) (by omega)
theorem rd_long {n : Nat} (h : n < 18446744073709551616) : rd (encLong n) = (0, 0, 12) := rdN_long 9 0 0 n (by omega) (enc_ten h)

/-- What is read, written again, has just the bytes that were read. -/
theorem rdN_back : ∀ (k i acc : Nat) (l : List UInt8) (n z : Nat), i + k = 9 → rdN (k + 1) i acc l = (n, z, 0) →
    ∃ m, n = acc + m * 128 ^ i ∧ i < z ∧ z - i ≤ l.length ∧ (i = 0 ∨ 0 < m) ∧ m < 2 * 128 ^ k ∧ l.take (z - i) = enc m
  | k, i, acc, [], n, z, _, h => by simp [rdN] at h
  | k, i, acc, b :: r, n, z, hk, h => by
    rw [rdN_succ_cons] at h
    have hb := toNat_lt b
    split at h
    · rename_i hb1
      match k, hk with
      | 0, hk => simp [rdN] at h
      | k + 1, hk =>
        obtain ⟨m, h1, h2, h3, h4, h5, h6⟩ := rdN_back k (i + 1) _ r n z (by omega) h
        have hm : 0 < m := by omega
        refine ⟨b.toNat % 128 + 128 * m, ?_, by omega, by rw [List.length_cons]; omega, .inr (by omega), by rw [Nat.pow_succ]; omega, ?_⟩
        · rw [h1, Nat.add_mul, Nat.add_assoc]
          congr 2
          rw [Nat.pow_succ, Nat.mul_comm (128 ^ i) 128, ← Nat.mul_assoc, Nat.mul_comm m 128]
        · rw [show z - i = (z - (i + 1)) + 1 by omega, List.take_succ_cons, h6, enc_ge (n := b.toNat % 128 + 128 * m) (by omega)]
          congr 1
          · rw [show (b.toNat % 128 + 128 * m) % 128 + 128 = b.toNat by omega, ofNat_self]
          · congr 1; omega
    · split at h
      · simp at h
      · rename_i hb1 hb2
        simp only [Prod.mk.injEq] at h
        obtain ⟨h1, h2, _⟩ := h
        have hm : b.toNat % 128 = b.toNat := by omega
        rw [hm] at h1
        refine ⟨b.toNat, h1.symm, by omega, by rw [List.length_cons]; omega, ?_, ?_, ?_⟩
        · by_cases e : i = 0
          · exact .inl e
          · exact .inr (by omega)
        · match k, hk with
          | 0, hk => simp; omega
          | k + 1, _ => rw [Nat.pow_succ]; have : 0 < 128 ^ k := Nat.pow_pos (by omega); omega
        · rw [← h2, show i + 1 - i = 1 by omega, enc_lt (by omega), ofNat_self]; rfl
theorem rd_back {l : List UInt8} {n z : Nat} (h : rd l = (n, z, 0)) : n < 18446744073709551616 ∧ 0 < z ∧ z ≤ l.length ∧ l.take z = enc n := by
  obtain ⟨m, h1, h2, h3, _, h5, h6⟩ := rdN_back 9 0 0 l n z (by omega) h
  have e : n = m := by simpa using h1
  subst e
  exact ⟨by omega, h2, by omega, h6⟩
/-- With an error nothing is read. -/
theorem rdN_err : ∀ (k i acc : Nat) (l : List UInt8), (rdN k i acc l).2.2 ≠ 0 → (rdN k i acc l).1 = 0 ∧ (rdN k i acc l).2.1 = 0
  | 0, _, _, _, _ => ⟨rfl, rfl⟩
  | k + 1, _, _, [], _ => ⟨rfl, rfl⟩
  | k + 1, i, acc, b :: r, h => by
    rw [rdN_succ_cons] at h ⊢
    split
    · rename_i hb; rw [if_pos hb] at h; exact rdN_err k _ _ r h
    · rename_i hb
      rw [if_neg hb] at h
      split
      · exact ⟨rfl, rfl⟩
      · rename_i hb2; rw [if_neg hb2] at h; exact absurd rfl h
theorem rd_err {l : List UInt8} (h : (rd l).2.2 ≠ 0) : rd l = (0, 0, (rd l).2.2) := by
  obtain ⟨h1, h2⟩ := rdN_err 10 0 0 l h
  exact Prod.ext h1 (Prod.ext h2 rfl)
theorem rd_le {l : List UInt8} : (rd l).2.1 ≤ l.length := by
  by_cases h : (rd l).2.2 = 0
  · exact (rd_back (l := l) (n := (rd l).1) (z := (rd l).2.1) (Prod.ext rfl (Prod.ext rfl h))).2.2.1
  · rw [rd_err h]; simp
theorem rd_top (l : List UInt8) : (rd l).1 < 18446744073709551616 := by
  by_cases h : (rd l).2.2 = 0
  · exact (rd_back (l := l) (n := (rd l).1) (z := (rd l).2.1) (Prod.ext rfl (Prod.ext rfl h))).1
  · rw [rd_err h]; omega

end Go.Proofs.Ytkloheabbbpboaa
