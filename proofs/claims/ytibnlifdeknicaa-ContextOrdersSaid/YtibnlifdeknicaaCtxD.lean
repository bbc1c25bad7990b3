/- The reference of layer 3: Compact. -/
import Derived.Test.YtibnlifdeknicaaCtxC
namespace Go.Proofs.Ytibnlifdeknicaa
open Go.RowKit

/-- A block that holds a context. -/
def Blk2 (W : World) (g : Nat) (x y : Value) : Prop := W.heap[g]? = some (.cells #[x, y] 25 (0, 0))
theorem Blk2.lt {W : World} {g : Nat} {x y : Value} (h : Blk2 W g x y) : g < W.heap.size := (Array.getElem?_eq_some_iff.1 h).1
theorem Blk2.cell0 {W : World} {g : Nat} {x y : Value} (h : Blk2 W g x y) : W.cell? ⟨g, 0, none⟩ = some x := by simp [World.cell?, show W.heap[g]? = _ from h]
theorem Blk2.cell1 {W : World} {g : Nat} {x y : Value} (h : Blk2 W g x y) : W.cell? ⟨g, 1, none⟩ = some y := by simp [World.cell?, show W.heap[g]? = _ from h]
theorem Blk2.frozen {W : World} {g : Nat} {x y : Value} (h : Blk2 W g x y) (k : Nat) : W.frozen? ⟨g, k, none⟩ = false := by simp [World.frozen?, show W.heap[g]? = _ from h]
theorem Blk2.below {W W' : World} {g : Nat} {x y : Value} (h : Blk2 W g x y) (hb : Below W.heap.size W W') : Blk2 W' g x y := (hb.block g h.lt).trans h
theorem Blk2.kept {W W' : World} {row : Option Nat} {g : Nat} {x y : Value} (h : Blk2 W g x y) (hg : W.grownBy W' row) (hne : some g ≠ row) : Blk2 W' g x y := (hg.block g h.lt hne).trans h
theorem Blk2.set {W : World} {g : Nat} {x y : Value} (h : Blk2 W g x y) (x' y' : Value) : Blk2 ((W.setCell ⟨g, 0, none⟩ x').setCell ⟨g, 1, none⟩ y') g x' y' := by
  obtain ⟨hlt, hk⟩ := Array.getElem?_eq_some_iff.1 h
  have e1 : (W.setCell ⟨g, 0, none⟩ x').heap[g]? = some (.cells #[x', y] 25 (0, 0)) := by
    show (W.heap.modify g _)[g]? = _
    rw [Array.getElem?_eq_getElem (by rw [Array.size_modify]; exact hlt), Array.getElem_modify_self, hk]
    rfl
  obtain ⟨hlt2, hk2⟩ := Array.getElem?_eq_some_iff.1 e1
  show ((W.setCell ⟨g, 0, none⟩ x').heap.modify g _)[g]? = _
  rw [Array.getElem?_eq_getElem (by rw [Array.size_modify]; exact hlt2), Array.getElem_modify_self, hk2]
  rfl
theorem Blk2.other {W : World} {g g' : Nat} {x y : Value} (h : Blk2 W g x y) (hne : g ≠ g') (o : Nat) (z : Value) : Blk2 (W.setCell ⟨g', o, none⟩ z) g x y := (Below.heap_setCell W ⟨g', o, none⟩ z g hne).trans h
/-- A list of dots lies in no such block. -/
theorem Holds.off {W W' : World} {g : Nat} {x y v : Value} {xs : List (Int × Int)} (h : Holds W v xs) (hB : Blk2 W g x y) (hx : ∀ z, x ≠ .int .i64 z) (hy : ∀ z, y ≠ .int .i64 z)
    (hsz : W.heap.size ≤ W'.heap.size) (hk : ∀ k, k ≠ g → k < W.heap.size → W'.heap[k]? = W.heap[k]?) : Holds W' v xs := by
  obtain ⟨A, c, rfl, hat, h2, h3⟩ := h
  refine ⟨A, c, rfl, fun hn => ?_, h2, h3⟩
  obtain ⟨b, off, rfl, hb, hcell⟩ := hat hn
  have hne : b ≠ g := by
    intro e
    subst e
    obtain ⟨p, hp⟩ : ∃ p, xs[0]? = some p := ⟨_, List.getElem?_eq_getElem (by cases xs <;> simp_all)⟩
    have hc := hcell 0 p hp 0 (.int .i64 p.1) rfl
    simp only [World.cell?, show W.heap[b]? = _ from hB] at hc
    generalize off + 0 * 2 + 0 = k at hc
    match k with
    | 0 => simp at hc; exact hx _ hc
    | 1 => simp at hc; exact hy _ hc
    | k + 2 => simp at hc
  exact ⟨b, off, rfl, by omega, fun j p hj i u hu => (World.cell?_of_block (hk b hne hb)).trans (hcell j p hj i u hu)⟩

/-- No row of one's own lies where a list lies. -/
def Apart (xs : List (Int × Int)) (v r : Value) : Prop := 0 < xs.length → ∀ b off n c, v = .slice (some ⟨b, off, none⟩) n c → r.ownBlock ≠ some b
theorem Holds.apart {W W' : World} {v r : Value} {xs : List (Int × Int)} (h : Holds W v xs) (hg : W.grownBy W' r.ownBlock) (hd : Apart xs v r) : Holds W' v xs := by
  obtain ⟨A, c, rfl, hat, h2, h3⟩ := h
  refine ⟨A, c, rfl, fun hn => ?_, h2, h3⟩
  obtain ⟨b, off, rfl, hb, hcell⟩ := hat hn
  have hne := hd hn b off _ _ rfl
  exact ⟨b, off, rfl, Nat.lt_of_lt_of_le hb hg.size, fun j p hj i u hu => (World.cell?_of_block (hg.block b hb (fun e => hne e.symm))).trans (hcell j p hj i u hu)⟩
theorem Apart.nil (xs : List (Int × Int)) (v : Value) : Apart xs v (.slice none 0 0) := fun _ _ _ _ _ _ => by simp [Value.ownBlock]

/-- How long the cloud in a block is. -/
def lenB (g : Nat) (W : World) : Nat := match W.cell? ⟨g, 1, none⟩ with
  | some (.slice _ n _) => n
  | _ => 0
theorem Blk2.len {W : World} {g n c : Nat} {x : Value} {A : Option Addr} (h : Blk2 W g x (.slice A n c)) : lenB g W = n := by unfold lenB; rw [h.cell1]

end Go.Proofs.Ytibnlifdeknicaa
