/- The reference's Parse reads what Parse reads. -/
import Derived.Test.YteeigngomleijaaDoorPar
namespace Go.Proofs.YteeigngomleijaaDoor
open Go.RowKit

/-- One more digit, no further than 2^40. -/
def upD (n : Int) (c : UInt8) : Int := min 1099511627776 (10 * n + ((c.toNat : Int) - 48))
/-- The numbers of a text, one before and one behind a full stop. -/
def scanR : List UInt8 → Bool → Int → Int → Option (Int × Int)
  | [], _, a, b => some (a, b)
  | c :: r, k, a, b => if 48 ≤ c.toNat ∧ c.toNat ≤ 57 then (if k then scanR r k a (upD b c) else scanR r k (upD a c) b) else if c.toNat = 46 ∧ k = false then scanR r true a b else none
/-- What the reference reads. -/
def parseR (l : List UInt8) : Option (Int × Int) :=
  match scanR l false 0 0 with
  | none => none
  | some d => if validD d.1 d.2 = true ∧ textL d.1.toNat d.2.toNat = l then some d else none

theorem scan_digits (m : Nat) : ∀ (r : List UInt8) (k : Bool) (a b : Int), m ≤ 1099511627776 → (if k then b = 0 else a = 0) →
    scanR (Lib.decDigits m ++ r) k a b = if k then scanR r k a m else scanR r k m b := by
  induction m using Nat.strongRecOn with
  | ind m ih =>
    intro r k a b hm h0
    have step : ∀ (j d : Nat), d < 10 → 10 * j + d = m → upD (j : Int) (UInt8.ofNat (48 + d)) = m := by
      intro j d hd hk
      simp only [upD, digit_ofNat hd]
      omega
    by_cases h : m < 10
    · rw [Lib.decDigits_one h]
      have := step 0 m h (by omega)
      cases k with
      | false =>
        simp only [Bool.false_eq_true, if_false] at h0 ⊢
        subst h0
        simp only [List.singleton_append, scanR, digit_ofNat h]
        rw [if_pos (by omega), if_neg (by simp)]
        congr 1
      | true =>
        simp only [if_true] at h0 ⊢
        subst h0
        simp only [List.singleton_append, scanR, digit_ofNat h]
        rw [if_pos (by omega), if_pos trivial]
        congr 1
    · rw [Lib.decDigits, dif_neg h, List.append_assoc, ih (m / 10) (by omega) _ _ _ _ (by omega) h0]
      have hs := step (m / 10) (m % 10) (by omega) (by omega)
      cases k with
      | false =>
        simp only [Bool.false_eq_true, if_false, List.singleton_append, scanR, digit_ofNat (show m % 10 < 10 by omega)]
        rw [if_pos (by omega), hs]
      | true =>
        simp only [if_true, List.singleton_append, scanR, digit_ofNat (show m % 10 < 10 by omega)]
        rw [if_pos (by omega), hs]

theorem scan_text (r c : Nat) (hr : r ≤ 1099511627776) (hc : c ≤ 1099511627776) : scanR (textL r c) false 0 0 = some ((r : Int), (c : Int)) := by
  unfold textL
  rw [scan_digits r _ false 0 0 hr (by simp)]
  simp only [Bool.false_eq_true, if_false, scanR]
  rw [if_neg (by decide), if_pos (by decide)]
  have := scan_digits c [] true r 0 hc (by simp)
  rw [List.append_nil] at this
  rw [this]; simp [scanR]

theorem parseR_eq (l : List UInt8) : parseR l = parseL l := by
  cases hL : parseL l with
  | some d =>
    obtain ⟨r, c⟩ := d
    obtain ⟨hv, rfl⟩ := (parseL_iff l r c).1 hL
    have hb := hv
    simp [validD] at hb
    unfold parseR
    rw [scan_text _ _ (by omega) (by omega)]
    have e1 : ((r.toNat : Nat) : Int) = r := by omega
    have e2 : ((c.toNat : Nat) : Int) = c := by omega
    simp only [e1, e2]
    rw [if_pos ⟨hv, trivial⟩]
  | none =>
    unfold parseR
    cases hs : scanR l false 0 0 with
    | none => rfl
    | some d =>
      obtain ⟨r, c⟩ := d
      show (if validD r c = true ∧ textL r.toNat c.toNat = l then some (r, c) else none) = none
      rw [if_neg]
      rintro ⟨h1, h2⟩
      rw [(parseL_iff l r c).2 ⟨h1, h2.symm⟩] at hL
      cases hL

end Go.Proofs.YteeigngomleijaaDoor
