/- Plain facts about the hashes: one byte changed changes them; stripes, spread, order. -/
import Derived.KernelRfl
namespace Go.Proofs.YtmploibgmmeanaaDoor

/-- A hash's step, by its factor and modulus. -/
def hstep (f M n : Nat) (b : UInt8) : Nat := (n ^^^ b.toNat) * f % M
/-- A hash's steps. -/
def hrun (f M n : Nat) (xs : List UInt8) : Nat := xs.foldl (hstep f M) n
def h32 (xs : List UInt8) : Nat := hrun 16777619 4294967296 2166136261 xs
def h64 (xs : List UInt8) : Nat := hrun 1099511628211 18446744073709551616 14695981039346656037 xs
theorem hrun_append (f M n : Nat) (xs ys : List UInt8) : hrun f M n (xs ++ ys) = hrun f M (hrun f M n xs) ys := by simp [hrun, List.foldl_append]
theorem hstep_lt {f M n : Nat} {b : UInt8} (hM : 0 < M) : hstep f M n b < M := Nat.mod_lt _ hM
theorem hrun_lt {f M n : Nat} (hM : 0 < M) (h : n < M) (xs : List UInt8) : hrun f M n xs < M := by
  induction xs generalizing n with
  | nil => exact h
  | cons b r ih => exact ih (hstep_lt hM)
theorem h32_lt (xs : List UInt8) : h32 xs < 4294967296 := hrun_lt (by decide) (by decide) xs
theorem h64_lt (xs : List UInt8) : h64 xs < 18446744073709551616 := hrun_lt (by decide) (by decide) xs

/-- A factor with an inverse can be taken off. -/
theorem mul_inj {f g M a b : Nat} (hg : f * g % M = 1 % M) (ha : a < M) (hb : b < M) (e : a * f % M = b * f % M) : a = b := by
  have h : ∀ x, x < M → x * f % M * g % M = x := fun x hx => by
    rw [Nat.mul_mod, Nat.mod_mod, ← Nat.mul_mod, Nat.mul_assoc, Nat.mul_mod, hg, ← Nat.mul_mod, Nat.mul_one, Nat.mod_eq_of_lt hx]
  rw [← h a ha, ← h b hb, e]
theorem xor_byte_lt {k n : Nat} (hk : 8 ≤ k) (h : n < 2 ^ k) (b : UInt8) : n ^^^ b.toNat < 2 ^ k :=
  Nat.xor_lt_two_pow h (Nat.lt_of_lt_of_le b.toBitVec.isLt (Nat.pow_le_pow_right (by decide) hk))
theorem xor_right {a b c : Nat} (h : a ^^^ c = b ^^^ c) : a = b := by
  have := congrArg (· ^^^ c) h
  simpa [Nat.xor_assoc] using this
theorem xor_left' {a b c : Nat} (h : c ^^^ a = c ^^^ b) : a = b := by rw [Nat.xor_comm c, Nat.xor_comm c] at h; exact xor_right h
section
variable {f g k : Nat} (hk : 8 ≤ k) (hg : f * g % 2 ^ k = 1 % 2 ^ k)
include hk hg
theorem hstep_inj {n m : Nat} {b : UInt8} (hn : n < 2 ^ k) (hm : m < 2 ^ k) (e : hstep f (2 ^ k) n b = hstep f (2 ^ k) m b) : n = m :=
  xor_right (mul_inj hg (xor_byte_lt hk hn b) (xor_byte_lt hk hm b) e)
theorem hstep_ne {n : Nat} {b c : UInt8} (hn : n < 2 ^ k) (h : b ≠ c) : hstep f (2 ^ k) n b ≠ hstep f (2 ^ k) n c := fun e =>
  h (UInt8.toNat_inj.1 (xor_left' (mul_inj hg (xor_byte_lt hk hn b) (xor_byte_lt hk hn c) e)))
theorem hrun_inj {n m : Nat} (xs : List UInt8) (hn : n < 2 ^ k) (hm : m < 2 ^ k) (e : hrun f (2 ^ k) n xs = hrun f (2 ^ k) m xs) : n = m := by
  induction xs generalizing n m with
  | nil => exact e
  | cons b r ih => exact hstep_inj hk hg hn hm (ih (hstep_lt (Nat.pow_pos (by decide))) (hstep_lt (Nat.pow_pos (by decide))) e)
theorem hrun_set {n : Nat} (hn : n < 2 ^ k) (xs : List UInt8) (j : Nat) (hj : j < xs.length) (b : UInt8) (hb : b ≠ xs[j]) : hrun f (2 ^ k) n (xs.set j b) ≠ hrun f (2 ^ k) n xs := by
  have e1 : xs = xs.take j ++ xs[j] :: xs.drop (j + 1) := by rw [← List.drop_eq_getElem_cons hj, List.take_append_drop]
  have e2 : xs.set j b = xs.take j ++ b :: xs.drop (j + 1) := by rw [List.set_eq_take_append_cons_drop, if_pos hj]
  intro h
  rw [e2] at h
  have h2 : hrun f (2 ^ k) n (xs.take j ++ b :: xs.drop (j + 1)) = hrun f (2 ^ k) n (xs.take j ++ xs[j] :: xs.drop (j + 1)) := h.trans (congrArg _ e1)
  rw [hrun_append, hrun_append] at h2
  have hp : hrun f (2 ^ k) n (xs.take j) < 2 ^ k := hrun_lt (Nat.pow_pos (by decide)) hn _
  exact hstep_ne hk hg hp hb (hrun_inj hk hg (xs.drop (j + 1)) (hstep_lt (Nat.pow_pos (by decide))) (hstep_lt (Nat.pow_pos (by decide))) h2)
end
theorem h32_set (xs : List UInt8) (j : Nat) (hj : j < xs.length) (b : UInt8) (hb : b ≠ xs[j]) : h32 (xs.set j b) ≠ h32 xs :=
  hrun_set (f := 16777619) (g := 899433627) (k := 32) (by decide) (by decide) (by decide) xs j hj b hb
theorem h64_set (xs : List UInt8) (j : Nat) (hj : j < xs.length) (b : UInt8) (hb : b ≠ xs[j]) : h64 (xs.set j b) ≠ h64 xs :=
  hrun_set (f := 1099511628211) (g := 14886173955864302971) (k := 64) (by decide) (by decide) (by decide) xs j hj b hb

/-- The stripe of a key. -/
def stripeN (key : List UInt8) (n : Nat) : Nat := h32 key % n
theorem stripeN_lt (key : List UInt8) {n : Nat} (h : 0 < n) : stripeN key n < n := Nat.mod_lt _ h
/-- How many keys a stripe has. -/
def cntN (keys : List (List UInt8)) (n i : Nat) : Nat := keys.countP fun k => stripeN k n == i
def spreadN (keys : List (List UInt8)) (n : Nat) : List Nat := (List.range n).map (cntN keys n)
def orderN (keys : List (List UInt8)) (n : Nat) : List Nat := (List.range n).filter fun i => 0 < cntN keys n i
theorem spreadN_len (keys : List (List UInt8)) (n : Nat) : (spreadN keys n).length = n := by simp [spreadN]
theorem spreadN_get (keys : List (List UInt8)) (n i : Nat) (h : i < n) : (spreadN keys n)[i]? = some (cntN keys n i) := by simp [spreadN, h]
theorem cntN_nil (n i : Nat) : cntN [] n i = 0 := rfl
theorem cntN_cons (k : List UInt8) (r : List (List UInt8)) (n i : Nat) : cntN (k :: r) n i = cntN r n i + if stripeN k n = i then 1 else 0 := by
  unfold cntN
  rw [List.countP_cons]
  simp
theorem cntN_append (a b : List (List UInt8)) (n i : Nat) : cntN (a ++ b) n i = cntN a n i + cntN b n i := by simp [cntN, List.countP_append]
theorem sum_ite (n j : Nat) (h : j < n) (g : Nat → Nat) : ((List.range n).map fun i => g i + if j = i then 1 else 0).sum = ((List.range n).map g).sum + 1 := by
  induction n with
  | zero => omega
  | succ n ih =>
    rw [List.range_succ, List.map_append, List.map_append, List.sum_append, List.sum_append]
    simp only [List.map_cons, List.map_nil, List.sum_cons, List.sum_nil]
    by_cases hj : j = n
    · subst hj
      have e : ((List.range j).map fun i => g i + if j = i then 1 else 0) = (List.range j).map g := by
        apply List.map_congr_left
        intro i hi
        rw [if_neg (by have := List.mem_range.1 hi; omega), Nat.add_zero]
      rw [e, if_pos rfl]
      omega
    · rw [ih (by omega), if_neg hj]
      omega
theorem sum_zero (l : List Nat) : (l.map fun _ => 0).sum = 0 := by
  induction l with
  | nil => rfl
  | cons x r ih => rw [List.map_cons, List.sum_cons, ih]
/-- The numbers are together that of the keys. -/
theorem spreadN_sum (keys : List (List UInt8)) {n : Nat} (h : 0 < n) : (spreadN keys n).sum = keys.length := by
  induction keys with
  | nil =>
    unfold spreadN
    have : (List.range n).map (cntN [] n) = (List.range n).map fun _ => 0 := rfl
    rw [this]
    exact sum_zero _
  | cons k r ih =>
    have e : spreadN (k :: r) n = (List.range n).map fun i => cntN r n i + if stripeN k n = i then 1 else 0 := List.map_congr_left fun i _ => cntN_cons k r n i
    rw [e, sum_ite n (stripeN k n) (stripeN_lt k h), List.length_cons]
    unfold spreadN at ih
    rw [ih]
/-- A key's stripe has keys. -/
theorem cntN_pos {keys : List (List UInt8)} {k : List UInt8} (h : k ∈ keys) (n : Nat) : 0 < cntN keys n (stripeN k n) := by
  unfold cntN
  exact List.countP_pos_iff.2 ⟨k, h, by simp⟩
theorem cntN_le (keys : List (List UInt8)) (n i : Nat) : cntN keys n i ≤ keys.length := List.countP_le_length

end Go.Proofs.YtmploibgmmeanaaDoor
