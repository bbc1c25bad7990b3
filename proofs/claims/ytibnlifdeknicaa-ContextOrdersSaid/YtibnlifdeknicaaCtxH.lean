/- The reference of layer 3: towards Union. -/
import Derived.Test.YtibnlifdeknicaaCtxG
namespace Go.Proofs.Ytibnlifdeknicaa
open Go.RowKit

/-- What holds while the answer's block waits, of two contexts. -/
def KU (w0 : World) (g : Nat) (x y x' y' : Value) (L : List (Value × List (Int × Int))) (W : World) : Prop :=
  Blk2 W g x y ∧ Blk2 W (g + 1) x' y' ∧ Blk2 W (g + 1 + 1) (.slice none 0 0) (.slice none 0 0) ∧ Below w0.heap.size w0 W ∧ ∀ p ∈ L, Holds W p.1 p.2
section
variable {w0 W W' : World} {g : Nat} {x y x' y' : Value} {L : List (Value × List (Int × Int))}
theorem KU.h {v : Value} {xs : List (Int × Int)} (h : KU w0 g x y x' y' L W) (hm : (v, xs) ∈ L) : Holds W v xs := h.2.2.2.2 _ hm
theorem KU.below (h : KU w0 g x y x' y' L W) (hb : Below W.heap.size W W') : KU w0 g x y x' y' L W' := ⟨h.1.below hb, h.2.1.below hb, h.2.2.1.below hb, below_trans h.2.2.2.1 hb, fun p hp => (h.2.2.2.2 p hp).below hb⟩
theorem KU.drew (h : KU w0 g x y x' y' L W) : KU w0 g x y x' y' L W.drew := h.below (Below.refl _ W).drew
theorem KU.cells (h : KU w0 g x y x' y' L W) : W.cell? ⟨g, 0, none⟩ = some x ∧ W.cell? ⟨g, 1, none⟩ = some y ∧ W.cell? ⟨g + 1, 0, none⟩ = some x' ∧ W.cell? ⟨g + 1, 1, none⟩ = some y' ∧ W.cell? ⟨g + 1 + 1, 0, none⟩ = some (.slice none 0 0) ∧ W.cell? ⟨g + 1 + 1, 1, none⟩ = some (.slice none 0 0) ∧ W.frozen? ⟨g + 1 + 1, 0, none⟩ = false ∧ W.frozen? ⟨g + 1 + 1, 1, none⟩ = false :=
  ⟨h.1.cell0, h.1.cell1, h.2.1.cell0, h.2.1.cell1, h.2.2.1.cell0, h.2.2.1.cell1, h.2.2.1.frozen 0, h.2.2.1.frozen 1⟩
end
theorem ref2Merge_h3 (v v' : Value) (xs ys zs : List (Int × Int)) (w : World) (h : Holds w v xs) (h' : Holds w v' ys) (hm : xs.length + ys.length ≤ 100000) (hz : mergeV xs ys = zs) :
    Calls Try.prog 69 #[v, v'] w fun e w' => (∃ D d, e = .returned (.slice D zs.length d) ∧ Holds w' (.slice D zs.length d) zs) ∧ Below w.heap.size w w' := by
  obtain ⟨A, c, rfl, h1, h2, h3⟩ := h
  obtain ⟨A', c', rfl, h1', h2', h3'⟩ := h'
  subst hz
  refine (ref2Merge A A' xs ys c c' w ⟨A, c, rfl, h1, h2, h3⟩ h1' hm).mono ?_
  rintro e w' ⟨⟨v, he, hv⟩, hb⟩
  have hv0 := hv
  obtain ⟨D, d, rfl, _⟩ := hv
  exact ⟨⟨D, d, he, hv0⟩, hb⟩

end Go.Proofs.Ytibnlifdeknicaa
