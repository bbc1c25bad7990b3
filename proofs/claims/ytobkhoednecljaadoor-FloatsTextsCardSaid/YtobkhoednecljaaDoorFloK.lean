/- Plain facts of package floats: keys, canonical values, the order of numbers, sums (of no seat's code). -/
import Derived.Test.YtobkhoednecljaaDoorBase
import Derived.Laws.FloatArith
namespace Go.Proofs.YtobkhoednecljaaDoor

/-- The key of a value by its bits; the bits of the value with a key. -/
def keyF (b : Nat) : Nat := if b < 9223372036854775808 then 9223372036854775808 + b else 18446744073709551615 - b
def ofF (k : Nat) : Nat := if 9223372036854775808 ≤ k then k - 9223372036854775808 else 18446744073709551615 - k
theorem keyF_lt {b : Nat} (h : b < 18446744073709551616) : keyF b < 18446744073709551616 := by unfold keyF; split <;> omega
theorem ofF_lt {k : Nat} (h : k < 18446744073709551616) : ofF k < 18446744073709551616 := by unfold ofF; split <;> omega
theorem of_keyF {b : Nat} (h : b < 18446744073709551616) : ofF (keyF b) = b := by
  unfold keyF ofF
  split <;> split <;> omega
theorem key_ofF {k : Nat} (h : k < 18446744073709551616) : keyF (ofF k) = k := by
  unfold keyF ofF
  split <;> split <;> omega
theorem keyF_inj {a b : Nat} (ha : a < 18446744073709551616) (hb : b < 18446744073709551616) (h : keyF a = keyF b) : a = b := by rw [← of_keyF ha, h, of_keyF hb]
def cmpF (a b : Nat) : Int := if keyF a < keyF b then -1 else if keyF b < keyF a then 1 else 0
theorem cmpF_self (a : Nat) : cmpF a a = 0 := by unfold cmpF; rw [if_neg (by omega), if_neg (by omega)]
theorem cmpF_swap (a b : Nat) : cmpF a b = -cmpF b a := by
  unfold cmpF
  split <;> split <;> first | rfl | omega
theorem cmpF_zero {a b : Nat} (ha : a < 18446744073709551616) (hb : b < 18446744073709551616) : cmpF a b = 0 ↔ a = b := by
  constructor
  · intro h
    unfold cmpF at h
    split at h
    · cases h
    · split at h
      · cases h
      · exact keyF_inj ha hb (by omega)
  · rintro rfl; exact cmpF_self a
/-- The canonical value. -/
abbrev nanF : Nat := 9221120237041090560
abbrev infF : Nat := 9218868437227405312
def isNanF (b : Nat) : Bool := decide (infF < b % 9223372036854775808)
def canonF (b : Nat) : Nat := if infF < b % 9223372036854775808 then nanF else if b % 9223372036854775808 = 0 then 0 else b
theorem canonF_lt {b : Nat} (h : b < 18446744073709551616) : canonF b < 18446744073709551616 := by unfold canonF; split <;> (try split) <;> first | omega | decide
theorem canonF_nan {b : Nat} (h : isNanF b = true) : canonF b = nanF := by unfold isNanF at h; unfold canonF; rw [if_pos (of_decide_eq_true h)]
theorem canonF_idem (b : Nat) : canonF (canonF b) = canonF b := by
  unfold canonF
  by_cases h1 : infF < b % 9223372036854775808
  · rw [if_pos h1]; rfl
  · rw [if_neg h1]
    by_cases h2 : b % 9223372036854775808 = 0
    · rw [if_pos h2]; rfl
    · rw [if_neg h2, if_neg h1, if_neg h2]
def sameF (a b : Nat) : Bool := decide (canonF a = canonF b)

/-- What a word stands for: how great it is, as a whole number of least units. -/
def magF (r : Nat) : Nat := if r < 4503599627370496 then r else (4503599627370496 + r % 4503599627370496) * 2 ^ (r / 4503599627370496 - 1)
theorem magF_succ (r : Nat) : magF r < magF (r + 1) := by
  unfold magF
  by_cases h1 : r + 1 < 4503599627370496
  · rw [if_pos (by omega), if_pos h1]; omega
  · rw [if_neg h1]
    by_cases h2 : r < 4503599627370496
    · obtain rfl : r = 4503599627370495 := by omega
      decide
    · rw [if_neg h2]
      by_cases h3 : (r + 1) % 4503599627370496 = 0
      · have e1 : (r + 1) / 4503599627370496 - 1 = (r / 4503599627370496 - 1) + 1 := by omega
        have e2 : r % 4503599627370496 = 4503599627370495 := by omega
        rw [e1, e2, h3, Nat.pow_succ]
        have hp : 0 < 2 ^ (r / 4503599627370496 - 1) := Nat.two_pow_pos _
        generalize 2 ^ (r / 4503599627370496 - 1) = p at *
        omega
      · have e1 : (r + 1) / 4503599627370496 = r / 4503599627370496 := by omega
        have e2 : (r + 1) % 4503599627370496 = r % 4503599627370496 + 1 := by omega
        rw [e1, e2]
        exact Nat.mul_lt_mul_of_pos_right (by omega) (Nat.two_pow_pos _)
theorem magF_lt {r s : Nat} (h : r < s) : magF r < magF s := by
  induction s with
  | zero => omega
  | succ s ih =>
    rcases Nat.lt_or_eq_of_le (Nat.le_of_lt_succ h) with h1 | h1
    · exact Nat.lt_trans (ih h1) (magF_succ s)
    · subst h1; exact magF_succ r
theorem magF_cmp (r s : Nat) : compare (magF r) (magF s) = compare r s := by
  rcases Nat.lt_trichotomy r s with h | h | h
  · rw [Nat.compare_eq_lt.2 h, Nat.compare_eq_lt.2 (magF_lt h)]
  · subst h; rw [Nat.compare_eq_eq.2 rfl, Nat.compare_eq_eq.2 rfl]
  · rw [Nat.compare_eq_gt.2 h, Nat.compare_eq_gt.2 (magF_lt h)]

theorem magF_pos {r s : Nat} (h : magF r < magF s) : r < s := by
  rcases Nat.lt_or_ge r s with h1 | h1
  · exact h1
  · rcases Nat.lt_or_eq_of_le h1 with h2 | h2
    · have := magF_lt h2; omega
    · subst h2; omega
def negF (b : Nat) : Bool := decide (9223372036854775808 ≤ b)
/-- The value, in least units. -/
def valF (b : Nat) : Int := if negF b = true then -(magF (b % 9223372036854775808) : Int) else (magF (b % 9223372036854775808) : Int)
theorem read_neg {b : Nat} (h : b < 18446744073709551616) : (b / Ieee.double.signWeight % 2 == 1) = negF b := by
  have e : Ieee.double.signWeight = 9223372036854775808 := by decide
  rw [e]
  unfold negF
  rw [Bool.eq_iff_iff]
  simp
  omega
theorem read_num {b : Nat} (h : b < 18446744073709551616) (hr : b % 9223372036854775808 < infF) : ∃ m p : Nat, Ieee.double.read b = .number (negF b) m (-1074 + (p : Int)) ∧ m * 2 ^ p = magF (b % 9223372036854775808) := by
  have e1 : Ieee.double.signWeight = 9223372036854775808 := by decide
  have e2 : Ieee.double.binade = 4503599627370496 := by decide
  have e3 : Ieee.double.infRung = infF := by decide
  have e4 : Ieee.double.leastPlace = -1074 := by decide
  unfold Ieee.Format.read
  rw [read_neg h, e1, e2, e3, e4]
  dsimp only
  generalize b % 9223372036854775808 = r at *
  by_cases h1 : r < 4503599627370496
  · rw [if_pos h1]
    exact ⟨r, 0, by simp, by unfold magF; rw [if_pos h1]; simp⟩
  · rw [if_neg h1, if_pos hr]
    exact ⟨4503599627370496 + r % 4503599627370496, r / 4503599627370496 - 1, rfl, by unfold magF; rw [if_neg h1]⟩
theorem read_inf {b : Nat} (h : b < 18446744073709551616) (hr : b % 9223372036854775808 = infF) : Ieee.double.read b = .infinity (negF b) := by
  have e1 : Ieee.double.signWeight = 9223372036854775808 := by decide
  have e2 : Ieee.double.binade = 4503599627370496 := by decide
  have e3 : Ieee.double.infRung = infF := by decide
  unfold Ieee.Format.read
  rw [read_neg h, e1, e2, e3]
  dsimp only
  rw [hr, if_neg (by decide), if_neg (by decide), if_pos rfl]
theorem read_nan {b : Nat} (hr : isNanF b = true) : ∃ s f, Ieee.double.read b = .nan s f := by
  have e1 : Ieee.double.signWeight = 9223372036854775808 := by decide
  have e2 : Ieee.double.binade = 4503599627370496 := by decide
  have e3 : Ieee.double.infRung = infF := by decide
  have hr := of_decide_eq_true hr
  unfold Ieee.Format.read
  rw [e1, e2, e3]
  dsimp only
  generalize b % 9223372036854775808 = r at *
  have h1 : ¬ r < 4503599627370496 := by unfold infF at hr; omega
  rw [if_neg h1, if_neg (by omega), if_neg (by omega)]
  exact ⟨_, _, rfl⟩
theorem signed_val (s : Bool) (m k : Nat) : Ieee.signed s m k = if s = true then -((m * 2 ^ k : Nat) : Int) else ((m * 2 ^ k : Nat) : Int) := by
  unfold Ieee.signed
  rw [Nat.shiftLeft_eq]
theorem icmp_lt {x y : Int} (h : x < y) : compare x y = .lt := by simp only [compare, compareOfLessAndEq, if_pos h]
theorem icmp_eq (x : Int) : compare x x = .eq := by simp [compare, compareOfLessAndEq]
theorem icmp_gt {x y : Int} (h : y < x) : compare x y = .gt := by
  have h1 : ¬ x < y := by omega
  have h2 : ¬ x = y := by omega
  simp only [compare, compareOfLessAndEq, if_neg h1, if_neg h2]
theorem compare_scale {x y : Int} {k : Nat} (hk : 0 < k) : compare (x * k) (y * k) = compare x y := by
  have hk' : (0 : Int) < (k : Int) := by omega
  rcases Int.lt_trichotomy x y with h | h | h
  · rw [icmp_lt h, icmp_lt (Int.mul_lt_mul_of_pos_right h hk')]
  · subst h; rw [icmp_eq _, icmp_eq _]
  · rw [icmp_gt h, icmp_gt (Int.mul_lt_mul_of_pos_right h hk')]
theorem signed_cmp (s t : Bool) (m n p q : Nat) : compare (Ieee.signed s m (p - min p q)) (Ieee.signed t n (q - min p q)) = compare (if s = true then -((m * 2 ^ p : Nat) : Int) else ((m * 2 ^ p : Nat) : Int)) (if t = true then -((n * 2 ^ q : Nat) : Int) else ((n * 2 ^ q : Nat) : Int)) := by
  rw [signed_val, signed_val]
  have hk : 0 < 2 ^ min p q := Nat.two_pow_pos _
  have e : ∀ (b : Bool) (a r : Nat), min p q ≤ r → (if b = true then -((a * 2 ^ r : Nat) : Int) else ((a * 2 ^ r : Nat) : Int)) = (if b = true then -((a * 2 ^ (r - min p q) : Nat) : Int) else ((a * 2 ^ (r - min p q) : Nat) : Int)) * ((2 ^ min p q : Nat) : Int) := fun b a r hr => by
    have h1 : 2 ^ r = 2 ^ (r - min p q) * 2 ^ min p q := by rw [← Nat.pow_add, Nat.sub_add_cancel hr]
    rw [h1, ← Nat.mul_assoc]
    cases b
    · simp
    · simp [Int.neg_mul]
  rw [e s m p (Nat.min_le_left _ _), e t n q (Nat.min_le_right _ _), compare_scale hk]
/-- How two values that are no NaN stand to each other. -/
theorem orderF {a b : Nat} (ha : a < 18446744073709551616) (hb : b < 18446744073709551616) (na : isNanF a = false) (nb : isNanF b = false) : Ieee.double.order a b = some (compare (valF a) (valF b)) := by
  have na := of_decide_eq_false na
  have nb := of_decide_eq_false nb
  unfold Ieee.Format.order
  by_cases h1 : a % 9223372036854775808 < infF
  · obtain ⟨m, p, e1, e2⟩ := read_num ha h1
    by_cases h2 : b % 9223372036854775808 < infF
    · obtain ⟨n, q, e3, e4⟩ := read_num hb h2
      rw [e1, e3]
      show some (compare _ _) = _
      have hb : min (-1074 + (p : Int)) (-1074 + (q : Int)) = -1074 + ((min p q : Nat) : Int) := by omega
      rw [hb, show (-1074 + (p : Int) - (-1074 + ((min p q : Nat) : Int))).toNat = p - min p q from by omega, show (-1074 + (q : Int) - (-1074 + ((min p q : Nat) : Int))).toNat = q - min p q from by omega, signed_cmp]
      unfold valF
      rw [e2, e4]
    · have h3 : b % 9223372036854775808 = infF := by omega
      rw [e1, read_inf hb h3]
      have hm := magF_lt h1
      unfold valF
      rw [h3]
      show some (if negF b = true then Ordering.gt else Ordering.lt) = _
      congr 1
      cases negF b <;> cases negF a <;> simp <;> symm <;> first | (apply icmp_lt; omega) | (apply icmp_gt; omega)
  · have h3 : a % 9223372036854775808 = infF := by omega
    by_cases h2 : b % 9223372036854775808 < infF
    · obtain ⟨n, q, e3, e4⟩ := read_num hb h2
      rw [e3, read_inf ha h3]
      have hm := magF_lt h2
      unfold valF
      rw [h3]
      show some (if negF a = true then Ordering.lt else Ordering.gt) = _
      congr 1
      cases negF b <;> cases negF a <;> simp <;> symm <;> first | (apply icmp_lt; omega) | (apply icmp_gt; omega)
    · have h4 : b % 9223372036854775808 = infF := by omega
      rw [read_inf ha h3, read_inf hb h4]
      have hp : 0 < magF infF := by have := magF_lt (show 0 < infF from by decide); omega
      unfold valF
      rw [h3, h4]
      show some (compare (negF b).toNat (negF a).toNat) = _
      generalize magF infF = M at *
      congr 1
      cases negF b <;> cases negF a <;> simp <;> symm <;> first | exact icmp_eq _ | (apply icmp_lt; omega) | (apply icmp_gt; omega)
theorem order_nanL {a b : Nat} (na : isNanF a = true) : Ieee.double.order a b = none := by
  obtain ⟨s, f, e⟩ := read_nan na
  unfold Ieee.Format.order
  rw [e]; rfl
theorem order_nanR {a b : Nat} (nb : isNanF b = true) : Ieee.double.order a b = none := by
  obtain ⟨s, f, e⟩ := read_nan nb
  unfold Ieee.Format.order
  rw [e]
  cases Ieee.double.read a <;> rfl
/-- A number that is less comes first. -/
theorem val_key {a b : Nat} (ha : a < 18446744073709551616) (hb : b < 18446744073709551616) (h : valF a < valF b) : keyF a < keyF b := by
  unfold valF negF at h
  unfold keyF
  by_cases h1 : 9223372036854775808 ≤ a
  · by_cases h2 : 9223372036854775808 ≤ b
    · rw [if_pos (by simpa using h1), if_pos (by simpa using h2)] at h
      have := magF_pos (show magF (b % 9223372036854775808) < magF (a % 9223372036854775808) from by omega)
      rw [if_neg (by omega), if_neg (by omega)]; omega
    · rw [if_neg (by omega), if_pos (by omega)]; omega
  · by_cases h2 : 9223372036854775808 ≤ b
    · rw [if_neg (by simpa using h1), if_pos (by simpa using h2)] at h
      omega
    · rw [if_neg (by simpa using h1), if_neg (by simpa using h2)] at h
      have := magF_pos (show magF (a % 9223372036854775808) < magF (b % 9223372036854775808) from by omega)
      rw [if_pos (by omega), if_pos (by omega)]; omega

end Go.Proofs.YtobkhoednecljaaDoor
