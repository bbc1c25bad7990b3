/- Sums of both; the laws' sums, newest, next; the reference's Same. -/
import Derived.Test.YtfbkhgajlklleaaGreatQtyE
import Derived.Test.YtfbkhgajlklleaaGreatQtyF
namespace Go.Proofs.YtfbkhgajlklleaaGreat
open Go.RowKit

/-- A number's cell. -/
abbrev encZ (n : Int) : List Value := [.int .i64 n]
theorem encZ_len (x : Int) : (encZ x).length = 1 := rfl
theorem encZ_one (x : Int) : ∀ u ∈ encZ x, u.oneCell' = true := by intro u hu; simp at hu; subst hu; rfl
theorem infoZ : (Tryz.prog.info? 3).map (fun i => (i.zero, i.size, i.bytes)) = some (some (.int .i64 0), 1, 8) := by kernel_rfl
abbrev NumsAt (w : World) (A : Option Addr) (xs : List Int) : Prop := SlAt encZ 1 w A xs
/-- A slice of numbers that reads as a list. -/
def HoldsZ (w : World) (v : Value) (xs : List Int) : Prop := ∃ A c, v = .slice A xs.length c ∧ NumsAt w A xs ∧ xs.length ≤ c ∧ c ≤ maxLen
theorem HoldsZ.below {w w' : World} {v : Value} {xs : List Int} (h : HoldsZ w v xs) (hb : Below w.heap.size w w') : HoldsZ w' v xs := by
  obtain ⟨A, c, rfl, h1, h2, h3⟩ := h
  exact ⟨A, c, rfl, h1.below hb, h2, h3⟩
theorem HoldsZ.nil (w : World) : HoldsZ w (.slice none 0 0) [] := ⟨none, 0, rfl, SlAt.nil, by simp, by simp [maxLen]⟩

theorem totN_pos {l : List Int} {k : Nat} (h : ∀ (j : Nat) (x : Int), j < k → l[j]? = some x → qtyN x = true) : 0 ≤ totN (l.take k) ∧ totN (l.take k) ≤ 2147483647 * (k : Int) := by
  have ha : (l.take k).all qtyN = true := all_yes fun j x hj hx => by
    rw [List.getElem?_take] at hx
    split at hx
    · exact h j x (by assumption) hx
    · cases hx
  have := totN_bounds _ ha
  have h2 : (l.take k).length ≤ k := by rw [List.length_take]; omega
  omega

end Go.Proofs.YtfbkhgajlklleaaGreat
