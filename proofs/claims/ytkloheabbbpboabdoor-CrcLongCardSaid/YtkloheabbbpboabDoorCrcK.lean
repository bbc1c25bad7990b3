/- Plain facts about the check sums: steps of bits and bytes, their linearity, parts joined, one byte changed. -/
import Derived.KernelRfl
namespace Go.Proofs.YtkloheabbbpboabDoor

/-- The step of a bit. -/
def bitN (n : Nat) : Nat := if n % 2 = 1 then n / 2 ^^^ 3988292384 else n / 2
/-- Steps of bits. -/
def bitsN : Nat → Nat → Nat
  | 0, n => n
  | k + 1, n => bitsN k (bitN n)
/-- The step of a byte. -/
def stepN (n : Nat) (x : UInt8) : Nat := bitsN 8 (n ^^^ x.toNat)
/-- The steps of bytes. -/
def runN (n : Nat) (xs : List UInt8) : Nat := xs.foldl stepN n
/-- All bits inverted. -/
def invN (n : Nat) : Nat := 4294967295 - n
def updN (sum : Nat) (xs : List UInt8) : Nat := invN (runN (invN sum) xs)
def joinN (a b k : Nat) : Nat := bitsN (8 * k) a ^^^ b

theorem xor_lt {a b : Nat} (ha : a < 4294967296) (hb : b < 4294967296) : a ^^^ b < 4294967296 := Nat.xor_lt_two_pow (n := 32) ha hb
theorem bitN_lt {n : Nat} (h : n < 4294967296) : bitN n < 4294967296 := by
  unfold bitN
  split
  · exact xor_lt (by omega) (by omega)
  · omega
theorem bitsN_lt {n : Nat} (k : Nat) (h : n < 4294967296) : bitsN k n < 4294967296 := by
  induction k generalizing n with
  | zero => exact h
  | succ k ih => exact ih (bitN_lt h)
theorem bitN_zero : bitN 0 = 0 := rfl
theorem bitsN_zero (k : Nat) : bitsN k 0 = 0 := by
  induction k with
  | zero => rfl
  | succ k ih => exact ih
theorem bitsN_add (j k n : Nat) : bitsN (j + k) n = bitsN k (bitsN j n) := by
  induction j generalizing n with
  | zero => rw [Nat.zero_add]; rfl
  | succ j ih => rw [Nat.add_right_comm]; exact ih _
theorem bitsN_comm (k n : Nat) : bitsN k (bitN n) = bitN (bitsN k n) := by
  exact bitsN_add k 1 n

/-- Linearity. -/
theorem bitN_xor (a b : Nat) : bitN (a ^^^ b) = bitN a ^^^ bitN b := by
  have h2 : (a ^^^ b) / 2 = a / 2 ^^^ b / 2 := Nat.xor_div_two
  have hm : (a ^^^ b) % 2 = (a % 2) ^^^ (b % 2) := by
    have := Nat.xor_mod_two_pow (a := a) (b := b) (n := 1)
    simpa using this
  unfold bitN
  rw [h2, hm]
  have h0 : a % 2 = 0 ∨ a % 2 = 1 := by omega
  have h1 : b % 2 = 0 ∨ b % 2 = 1 := by omega
  rcases h0 with h0 | h0 <;> rcases h1 with h1 | h1 <;> rw [h0, h1]
  · rfl
  · rw [if_pos (by decide), if_neg (by decide), if_pos rfl, Nat.xor_assoc]
  · rw [if_pos (by decide), if_pos rfl, if_neg (by decide), Nat.xor_assoc, Nat.xor_assoc, Nat.xor_comm (b / 2)]
  · rw [if_neg (by decide), if_pos rfl, if_pos rfl]
    rw [Nat.xor_assoc, Nat.xor_comm (b / 2), ← Nat.xor_assoc 3988292384, Nat.xor_self, Nat.zero_xor]
theorem bitsN_xor (k a b : Nat) : bitsN k (a ^^^ b) = bitsN k a ^^^ bitsN k b := by
  induction k generalizing a b with
  | zero => rfl
  | succ k ih => show bitsN k (bitN _) = _; rw [bitN_xor]; exact ih _ _
theorem bitN_eq_zero {n : Nat} (h : n < 4294967296) (e : bitN n = 0) : n = 0 := by
  unfold bitN at e
  split at e
  · have h1 : n / 2 = 3988292384 := by
      have := congrArg (· ^^^ 3988292384) e
      simpa [Nat.xor_assoc] using this
    omega
  · omega
theorem xor_eq_zero {a b : Nat} (h : a ^^^ b = 0) : a = b := by
  have := congrArg (· ^^^ b) h
  simpa [Nat.xor_assoc] using this
theorem bitsN_inj {k a b : Nat} (ha : a < 4294967296) (hb : b < 4294967296) (e : bitsN k a = bitsN k b) : a = b := by
  have hz : ∀ (k n : Nat), n < 4294967296 → bitsN k n = 0 → n = 0 := by
    intro k
    induction k with
    | zero => exact fun n _ e => e
    | succ k ih => exact fun n hn e => bitN_eq_zero hn (ih _ (bitN_lt hn) e)
  have h := hz k (a ^^^ b) (xor_lt ha hb) (by rw [bitsN_xor, e, Nat.xor_self])
  exact xor_eq_zero h

theorem toNat8 (x : UInt8) : x.toNat < 256 := x.toBitVec.isLt
theorem stepN_lt {n : Nat} {x : UInt8} (h : n < 4294967296) : stepN n x < 4294967296 := bitsN_lt 8 (xor_lt h (by have := toNat8 x; omega))
theorem runN_lt {n : Nat} {xs : List UInt8} (h : n < 4294967296) : runN n xs < 4294967296 := by
  induction xs generalizing n with
  | nil => exact h
  | cons x r ih => exact ih (stepN_lt h)
theorem runN_append (n : Nat) (xs ys : List UInt8) : runN n (xs ++ ys) = runN (runN n xs) ys := by simp [runN, List.foldl_append]
/-- The steps of bytes are those of bits of 0, but for a fixed number. -/
theorem runN_xor (n m : Nat) (xs : List UInt8) : runN (n ^^^ m) xs = runN n xs ^^^ bitsN (8 * xs.length) m := by
  induction xs generalizing n m with
  | nil => rfl
  | cons x r ih =>
    show runN (stepN (n ^^^ m) x) r = _
    have e : stepN (n ^^^ m) x = stepN n x ^^^ bitsN 8 m := by
      unfold stepN
      rw [← bitsN_xor]
      congr 1
      rw [Nat.xor_assoc, Nat.xor_assoc, Nat.xor_comm m]
    rw [e, ih, ← bitsN_add, List.length_cons, show 8 + 8 * r.length = 8 * (r.length + 1) by omega]
    rfl
theorem inv_xor {n : Nat} (h : n < 4294967296) : invN n = 4294967295 ^^^ n := by
  unfold invN
  apply Nat.eq_of_testBit_eq
  intro i
  rw [Nat.testBit_xor, show 4294967295 = 2 ^ 32 - 1 from rfl, Nat.testBit_two_pow_sub_one, show 2 ^ 32 - 1 - n = 2 ^ 32 - (n + 1) by omega, Nat.testBit_two_pow_sub_succ h]
  by_cases hi : i < 32
  · simp [hi]
  · have : n.testBit i = false := Nat.testBit_lt_two_pow (Nat.lt_of_lt_of_le h (show 4294967296 ≤ 2 ^ i from Nat.pow_le_pow_right (n := 2) (show 0 < 2 by decide) (show 32 ≤ i by omega)))
    simp [hi, this]
theorem invN_lt (n : Nat) : invN n < 4294967296 := by unfold invN; omega
theorem invN_inv {n : Nat} (h : n < 4294967296) : invN (invN n) = n := by unfold invN; omega
theorem updN_lt (s : Nat) (xs : List UInt8) : updN s xs < 4294967296 := invN_lt _
/-- A check sum gone on with is the join. -/
theorem updN_join {s : Nat} (h : s < 4294967296) (xs : List UInt8) : updN s xs = joinN s (updN 0 xs) xs.length := by
  unfold updN joinN
  rw [inv_xor (runN_lt (invN_lt s)), inv_xor h, runN_xor, inv_xor (runN_lt (invN_lt 0)), inv_xor (n := 0) (by decide), Nat.xor_zero, ← Nat.xor_assoc, Nat.xor_comm]
theorem updN_append {s : Nat} (xs ys : List UInt8) : updN (updN s xs) ys = updN s (xs ++ ys) := by
  unfold updN
  rw [invN_inv (runN_lt (invN_lt s)), runN_append]
/-- One byte changed changes the check sum. -/
theorem runN_inj {n m : Nat} (xs : List UInt8) (hn : n < 4294967296) (hm : m < 4294967296) (e : runN n xs = runN m xs) : n = m := by
  have h := runN_xor n (n ^^^ m) xs
  rw [← Nat.xor_assoc, Nat.xor_self, Nat.zero_xor, ← e] at h
  have h2 : bitsN (8 * xs.length) (n ^^^ m) = 0 := by
    have := congrArg (runN n xs ^^^ ·) h
    simp only [Nat.xor_self, ← Nat.xor_assoc, Nat.zero_xor] at this
    exact this.symm
  exact xor_eq_zero (bitsN_inj (xor_lt hn hm) (by decide) (h2.trans (bitsN_zero _).symm))
theorem updN_set (xs : List UInt8) (j : Nat) (hj : j < xs.length) (b : UInt8) (hb : b ≠ xs[j]) : updN 0 (xs.set j b) ≠ updN 0 xs := by
  have e1 : xs = xs.take j ++ xs[j] :: xs.drop (j + 1) := by rw [← List.drop_eq_getElem_cons hj, List.take_append_drop]
  have e2 : xs.set j b = xs.take j ++ b :: xs.drop (j + 1) := by rw [List.set_eq_take_append_cons_drop, if_pos hj]
  intro h
  unfold updN at h
  have hl : ∀ ys : List UInt8, runN (invN 0) ys < 4294967296 := fun ys => runN_lt (invN_lt 0)
  have h1 : runN (invN 0) (xs.set j b) = runN (invN 0) xs := by
    have := hl (xs.set j b)
    have := hl xs
    unfold invN at h
    unfold invN at *
    omega
  rw [e2] at h1
  have h2 : runN (invN 0) (xs.take j ++ b :: xs.drop (j + 1)) = runN (invN 0) (xs.take j ++ xs[j] :: xs.drop (j + 1)) := h1.trans (congrArg _ e1)
  rw [runN_append, runN_append] at h2
  have hp : runN (invN 0) (xs.take j) < 4294967296 := runN_lt (invN_lt 0)
  have h3 := runN_inj (xs.drop (j + 1)) (stepN_lt hp) (stepN_lt hp) h2
  have h4 := bitsN_inj (xor_lt hp (by have := toNat8 b; omega)) (xor_lt hp (by have := toNat8 xs[j]; omega)) h3
  have h5 : b.toNat = (xs[j]).toNat := by
    have := congrArg (runN (invN 0) (xs.take j) ^^^ ·) h4
    simpa [← Nat.xor_assoc] using this
  exact hb (UInt8.toNat_inj.1 h5)

/-- The product of two numbers as polynomials, by k bits of the second one. -/
def timN : Nat → Nat → Nat → Nat → Nat
  | 0, p, _, _ => p
  | k + 1, p, a, b => timN k (if 2147483648 ≤ b then p ^^^ a else p) (bitN a) (2 * b % 4294967296)
theorem timN_end (k p a : Nat) : timN k p a 0 = p := by
  induction k generalizing a with
  | zero => rfl
  | succ k ih => exact ih _
theorem timN_p (k p a b : Nat) : timN k p a b = p ^^^ timN k 0 a b := by
  induction k generalizing p a b with
  | zero => exact (Nat.xor_zero p).symm
  | succ k ih =>
    show timN k _ _ _ = p ^^^ timN k _ _ _
    rw [ih, ih (if 2147483648 ≤ b then 0 ^^^ a else 0)]
    split
    · rw [Nat.zero_xor, Nat.xor_assoc]
    · rw [Nat.zero_xor]
theorem timN_lt {k p a b : Nat} (hp : p < 4294967296) (ha : a < 4294967296) : timN k p a b < 4294967296 := by
  induction k generalizing p a b with
  | zero => exact hp
  | succ k ih =>
    refine ih ?_ (bitN_lt ha)
    split
    · exact xor_lt hp ha
    · exact hp
theorem timN_xor (k a c b : Nat) : timN k 0 (a ^^^ c) b = timN k 0 a b ^^^ timN k 0 c b := by
  induction k generalizing a c b with
  | zero => simp [timN]
  | succ k ih =>
    show timN k _ _ _ = timN k _ _ _ ^^^ timN k _ _ _
    rw [bitN_xor, timN_p, timN_p k (if 2147483648 ≤ b then 0 ^^^ a else 0), timN_p k (if 2147483648 ≤ b then 0 ^^^ c else 0), ih]
    split
    · rw [Nat.zero_xor, Nat.zero_xor, Nat.zero_xor, Nat.xor_assoc, Nat.xor_assoc, ← Nat.xor_assoc c, Nat.xor_comm c (timN k 0 (bitN a) _), Nat.xor_assoc]
    · rw [Nat.zero_xor, Nat.zero_xor, Nat.zero_xor]
theorem timN_bit (k a b : Nat) : timN k 0 (bitN a) b = bitN (timN k 0 a b) := by
  induction k generalizing a b with
  | zero => simp [timN, bitN]
  | succ k ih =>
    show timN k _ _ _ = bitN (timN k _ _ _)
    rw [timN_p, timN_p k (if 2147483648 ≤ b then 0 ^^^ a else 0), bitN_xor, ih]
    split
    · rw [Nat.zero_xor, Nat.zero_xor]
    · rfl
theorem top_bit {b : Nat} (h : b < 4294967296) : (2147483648 ≤ b) ↔ b.testBit 31 = true := by
  rw [Nat.testBit_eq_decide_div_mod_eq]
  simp only [decide_eq_true_eq]
  omega
theorem dbl_xor (a b : Nat) : 2 * (a ^^^ b) % 4294967296 = (2 * a % 4294967296) ^^^ (2 * b % 4294967296) := by
  have h := Nat.xor_mod_two_pow (a := 2 * a) (b := 2 * b) (n := 32)
  have h2 : 2 * (a ^^^ b) = 2 * a ^^^ 2 * b := by
    have := Nat.shiftLeft_xor_distrib (a := a) (b := b) (i := 1)
    simpa [Nat.shiftLeft_eq, Nat.mul_comm] using this
  rw [h2]
  exact h
theorem timN_xorB (k a b c : Nat) (hb : b < 4294967296) (hc : c < 4294967296) : timN k 0 a (b ^^^ c) = timN k 0 a b ^^^ timN k 0 a c := by
  induction k generalizing a b c with
  | zero => simp [timN]
  | succ k ih =>
    show timN k _ _ _ = timN k _ _ _ ^^^ timN k _ _ _
    rw [dbl_xor, timN_p, timN_p k (if 2147483648 ≤ b then 0 ^^^ a else 0), timN_p k (if 2147483648 ≤ c then 0 ^^^ a else 0), ih _ _ _ (Nat.mod_lt _ (by decide)) (Nat.mod_lt _ (by decide))]
    have t := top_bit (xor_lt hb hc)
    rw [Nat.testBit_xor] at t
    have tb := top_bit hb
    have tc := top_bit hc
    generalize timN k 0 (bitN a) (2 * b % 4294967296) = x
    generalize timN k 0 (bitN a) (2 * c % 4294967296) = y
    cases h1 : b.testBit 31 <;> cases h2 : c.testBit 31 <;> rw [h1] at tb t <;> rw [h2] at tc t
    · rw [if_neg (by rw [t]; decide), if_neg (by rw [tb]; decide), if_neg (by rw [tc]; decide)]
      simp
    · rw [if_pos (by rw [t]; decide), if_neg (by rw [tb]; decide), if_pos (by rw [tc])]
      simp only [Nat.zero_xor]
      rw [← Nat.xor_assoc, Nat.xor_comm a x, Nat.xor_assoc]
    · rw [if_pos (by rw [t]; decide), if_pos (by rw [tb]), if_neg (by rw [tc]; decide)]
      simp only [Nat.zero_xor]
      rw [Nat.xor_assoc]
    · rw [if_neg (by rw [t]; decide), if_pos (by rw [tb]), if_pos (by rw [tc])]
      simp only [Nat.zero_xor]
      rw [Nat.xor_assoc a x, ← Nat.xor_assoc x a, Nat.xor_comm x a, Nat.xor_assoc a x, ← Nat.xor_assoc a a, Nat.xor_self, Nat.zero_xor]
/-- The last bit. -/
theorem timN_last (k a b : Nat) (hb : b < 4294967296) : timN (k + 1) 0 a b = timN k 0 a b ^^^ (if 2147483648 ≤ 2 ^ k * b % 4294967296 then bitsN k a else 0) := by
  induction k generalizing a b with
  | zero =>
    show (if 2147483648 ≤ b then 0 ^^^ a else 0) = 0 ^^^ (if 2147483648 ≤ 2 ^ 0 * b % 4294967296 then a else 0)
    rw [Nat.pow_zero, Nat.one_mul, Nat.mod_eq_of_lt hb, Nat.zero_xor, Nat.zero_xor]
  | succ k ih =>
    have h := ih (bitN a) (2 * b % 4294967296) (Nat.mod_lt _ (by decide))
    have e : 2 ^ k * (2 * b % 4294967296) % 4294967296 = 2 ^ (k + 1) * b % 4294967296 := by
      rw [Nat.mul_mod, Nat.mod_mod, ← Nat.mul_mod, ← Nat.mul_assoc, ← Nat.pow_succ]
    rw [e] at h
    show timN (k + 1) _ _ _ = timN k _ _ _ ^^^ _
    rw [timN_p, h, timN_p k (if 2147483648 ≤ b then 0 ^^^ a else 0), Nat.xor_assoc]
    rfl
/-- The product with b of 32 bits. -/
def mulN (a b : Nat) : Nat := timN 32 0 a b
theorem mulN_lt {a b : Nat} (ha : a < 4294967296) : mulN a b < 4294967296 := timN_lt (by decide) ha
theorem mulN_even (a c : Nat) (hc : 2 * c < 4294967296) : mulN a c = bitN (mulN a (2 * c)) := by
  have h := timN_last 31 a (2 * c) hc
  have e : 2 ^ 31 * (2 * c) % 4294967296 = 0 := by
    rw [← Nat.mul_assoc]
    exact Nat.mul_mod_right 4294967296 c
  rw [e, if_neg (by decide), Nat.xor_zero] at h
  unfold mulN
  rw [h, ← timN_bit]
  show timN 31 (if 2147483648 ≤ c then 0 ^^^ a else 0) (bitN a) (2 * c % 4294967296) = _
  rw [if_neg (by omega), Nat.mod_eq_of_lt hc]
theorem add_pow {n r : Nat} (h : r < 2 ^ n) : 2 ^ n + r = 2 ^ n ^^^ r := by
  apply Nat.eq_of_testBit_eq
  intro j
  rw [Nat.testBit_xor, Nat.testBit_two_pow]
  by_cases hj : j = n
  · subst hj
    rw [Nat.testBit_two_pow_add_eq, Nat.testBit_lt_two_pow h]
    simp
  · rw [show decide (n = j) = false by simp; omega]
    rcases Nat.lt_or_ge j n with hl | hg
    · rw [Nat.testBit_two_pow_add_gt hl]; simp
    · have hn : n < j := by omega
      rw [Nat.testBit_lt_two_pow (x := r) (Nat.lt_of_lt_of_le h (Nat.pow_le_pow_right (by decide) (by omega)))]
      rw [Nat.testBit_lt_two_pow]
      · rfl
      · have : 2 ^ (n + 1) ≤ 2 ^ j := Nat.pow_le_pow_right (by decide) hn
        rw [Nat.pow_succ] at this
        omega
/-- Two additive functions that agree at the bits agree. -/
theorem additive_eq (F G : Nat → Nat) (hF : ∀ a b, F (a ^^^ b) = F a ^^^ F b) (hG : ∀ a b, G (a ^^^ b) = G a ^^^ G b) (h : ∀ i, i < 32 → F (2 ^ i) = G (2 ^ i)) (n : Nat) : n ≤ 32 → ∀ a, a < 2 ^ n → F a = G a := by
  have hz : ∀ H : Nat → Nat, (∀ a b, H (a ^^^ b) = H a ^^^ H b) → H 0 = 0 := fun H hH => by
    have := hH 0 0
    rwa [Nat.xor_self, Nat.xor_self] at this
  induction n with
  | zero =>
    intro _ a ha
    obtain rfl : a = 0 := by simpa using ha
    rw [hz F hF, hz G hG]
  | succ n ih =>
    intro hn a ha
    by_cases hl : a < 2 ^ n
    · exact ih (by omega) a hl
    · rw [Nat.pow_succ] at ha
      obtain ⟨r, rfl⟩ : ∃ r, a = 2 ^ n + r := ⟨a - 2 ^ n, by omega⟩
      have hr : r < 2 ^ n := by omega
      rw [add_pow hr, hF, hG, h n (by omega), ih (by omega) r hr]
theorem mulN_top {a : Nat} (ha : a < 4294967296) : mulN a 3988292384 = bitsN 32 a :=
  additive_eq (fun a => mulN a 3988292384) (bitsN 32) (fun a b => timN_xor 32 a b _) (bitsN_xor 32) (fun i hi => (of_decide_eq_true (by decide +kernel : decide (∀ i : Fin 32, mulN (2 ^ i.val) 3988292384 = bitsN 32 (2 ^ i.val)) = true)) ⟨i, hi⟩) 32 (Nat.le_refl _) a ha
theorem mulN_one {a : Nat} (ha : a < 4294967296) : mulN a 1 = bitsN 31 a :=
  additive_eq (fun a => mulN a 1) (bitsN 31) (fun a b => timN_xor 32 a b _) (bitsN_xor 31) (fun i hi => (of_decide_eq_true (by decide +kernel : decide (∀ i : Fin 32, mulN (2 ^ i.val) 1 = bitsN 31 (2 ^ i.val)) = true)) ⟨i, hi⟩) 32 (Nat.le_refl _) a ha
theorem mulN_bit {a b : Nat} (ha : a < 4294967296) (hb : b < 4294967296) : mulN a (bitN b) = bitN (mulN a b) := by
  by_cases hp : b % 2 = 1
  · obtain ⟨c, rfl⟩ : ∃ c, b = 2 * c + 1 := ⟨b / 2, by omega⟩
    have e1 : 2 * c + 1 = (2 * c) ^^^ 1 := by
      apply Nat.eq_of_testBit_eq
      intro j
      rw [Nat.testBit_xor]
      match j with
      | 0 => simp
      | j + 1 => rw [Nat.testBit_succ, Nat.testBit_succ, Nat.testBit_succ, show (2 * c + 1) / 2 = c by omega, show 2 * c / 2 = c by omega]; simp
    have e2 : bitN (2 * c + 1) = c ^^^ 3988292384 := by
      unfold bitN
      rw [if_pos hp, show (2 * c + 1) / 2 = c by omega]
    rw [e2]
    have h1 : mulN a (c ^^^ 3988292384) = mulN a c ^^^ mulN a 3988292384 := timN_xorB 32 a c _ (by omega) (by omega)
    have h2 : mulN a (2 * c + 1) = mulN a (2 * c) ^^^ mulN a 1 := by rw [e1]; exact timN_xorB 32 a _ _ (by omega) (by omega)
    rw [h1, h2, bitN_xor, mulN_even a c (by omega), mulN_top ha, mulN_one ha, ← bitsN_comm]
    rfl
  · obtain ⟨c, rfl⟩ : ∃ c, b = 2 * c := ⟨b / 2, by omega⟩
    have e2 : bitN (2 * c) = c := by
      unfold bitN
      rw [if_neg hp]
      omega
    rw [e2]
    exact mulN_even a c hb
/-- Multiplied by what k steps make of one: k steps. -/
theorem mulN_bits {a : Nat} (ha : a < 4294967296) (k : Nat) : mulN a (bitsN k 2147483648) = bitsN k a := by
  induction k with
  | zero =>
    show timN 31 (0 ^^^ a) (bitN a) 0 = a
    rw [timN_end, Nat.zero_xor]
  | succ k ih =>
    show mulN a (bitsN k (bitN 2147483648)) = bitsN k (bitN a)
    rw [bitsN_comm, mulN_bit ha (bitsN_lt k (by decide)), ih, bitsN_comm]

end Go.Proofs.YtkloheabbbpboabDoor
