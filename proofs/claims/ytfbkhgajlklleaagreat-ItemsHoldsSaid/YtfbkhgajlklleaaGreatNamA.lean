/- The reference's Key, Item, Canon. -/
import Derived.Test.YtfbkhgajlklleaaGreatGenS
import Derived.Test.YtfbkhgajlklleaaGreatNamK
namespace Go.Proofs.YtfbkhgajlklleaaGreat
open Go.RowKit

theorem keyC_cases {y : Nat} : (keyC y = true ∧ (y = 45 ∨ y = 46 ∨ y = 47 ∨ y = 95 ∨ (48 ≤ y ∧ y ≤ 57) ∨ (97 ≤ y ∧ y ≤ 122))) ∨ (keyC y = false ∧ (y < 45 ∨ (57 < y ∧ y < 95) ∨ y = 96 ∨ 122 < y)) := by
  cases h : keyC y with
  | true =>
    refine .inl ⟨rfl, ?_⟩
    simp [keyC] at h
    omega
  | false =>
    refine .inr ⟨rfl, ?_⟩
    simp [keyC] at h
    omega

end Go.Proofs.YtfbkhgajlklleaaGreat
