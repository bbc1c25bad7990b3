/- Several texts in one: CanQ. -/
import Derived.Test.YtgdnibahiomneaaGreatMAV
namespace Go.Proofs.YtgdnibahiomneaaGreat

section
open Go.RowKit

structure LgI (w W : World) (b : Nat) (cl : Bool) (p q : Nat) (c : CaV) : Prop where
  bel : Below w.heap.size w W
  hb : w.heap.size ≤ b
  box : W.heap[b]? = some (.cells #[c.v, c.l, c.i] 28 (0, 0))
  rv : RowD14 W w.heap.size c.v c.vs
  rl : RowD14 W w.heap.size c.l c.ls
  nv : cl = true → c.v = .slice none 0 0
  nl : cl = false → c.l = .slice none 0 0
  ri : RowI14 W w.heap.size c.i c.xs
  rm : ∀ y ∈ c.xs, RowM14 W w.heap.size (slV14 y) y.ms
  lv : c.vs.length ≤ p
  ll : c.ls.length ≤ p
  li : c.xs.length ≤ q
  sm : ∀ y ∈ c.xs, y.nm.length ≤ 100 ∧ y.ms.length ≤ 1 ∧ ∀ m ∈ y.ms, m.t < 18446744073709551616
section
variable {w W W' : World} {b p q : Nat} {cl : Bool} {c : CaV}
theorem LgI.next (h : LgI w W b cl p q c) (hb : BelW W W') : LgI w W' b cl p q c :=
  ⟨below_trans h.bel hb, h.hb, heapKeep h.box hb, ownBelow h.rv hb, ownBelow h.rl hb, h.nv, h.nl, ownBelow h.ri hb, fun y hy => ownBelow (h.rm y hy) hb, h.lv, h.ll, h.li, h.sm⟩
theorem LgI.cells (h : LgI w W b cl p q c) : W.cell? ⟨b, 0, none⟩ = some c.v ∧ W.cell? ⟨b, 1, none⟩ = some c.l ∧ W.cell? ⟨b, 2, none⟩ = some c.i ∧ W.frozen? ⟨b, 0, none⟩ = false ∧ W.frozen? ⟨b, 1, none⟩ = false ∧ W.frozen? ⟨b, 2, none⟩ = false := by
  have h := h.box
  exact ⟨by simp [World.cell?, h], by simp [World.cell?, h], by simp [World.cell?, h], by simp [World.frozen?, h], by simp [World.frozen?, h], by simp [World.frozen?, h]⟩
theorem LgI.ok (h : LgI w W b cl p q c) : CaOK W c := by
  obtain ⟨X1, X2, X3, X4, X5, X6⟩ := SlAt.of_own encD_len h.rv
  obtain ⟨Y1, Y2, Y3, Y4, Y5, Y6⟩ := SlAt.of_own encD_len h.rl
  obtain ⟨Z1, Z2, Z3, Z4, Z5, Z6⟩ := SlAt.of_own encIt_len h.ri
  refine ⟨⟨X1, X2, X3, X6, X4, X5⟩, ⟨Y1, Y2, Y3, Y6, Y4, Y5⟩, ⟨Z1, Z2, Z3, ⟨Z6, fun y hy => ?_⟩, Z4, Z5⟩⟩
  obtain ⟨M1, M2, M3, M4, M5, M6⟩ := SlAt.of_own encM_len (h.rm y hy)
  injection M3 with e1 e2 e3
  exact ⟨e1 ▸ M6, e3 ▸ M4, e3 ▸ M5⟩
theorem LgI.fit (h : LgI w W b cl p q c) (hp : p ≤ 300) (hq : q ≤ 300) : Fit14 c.ca := by
  have h1 := h.lv
  have h2 := h.ll
  have h3 := h.li
  have h4 : ∀ x ∈ c.ca.2, x.1.length ≤ 100 ∧ x.2.length ≤ 1 ∧ ∀ m ∈ x.2, m.t < 18446744073709551616 := fun x hx => by
    obtain ⟨y, hy, rfl⟩ := List.mem_map.1 hx
    exact h.sm y hy
  have h5 : c.ca.2.length ≤ 300 := by simp [CaV.ca, its]; omega
  have h6 := dotsI_le14 c.ca.2
  have h7 := flat_le2 (f := fun x : It => x.2) (k := 1) (l := c.ca.2) fun x hx => (h4 x hx).2.1
  exact ⟨by show c.vs.length ≤ 400; omega, by show c.ls.length ≤ 400; omega, h5, by omega, fun x hx => ⟨(h4 x hx).1, by have := (h4 x hx).2.1; omega, (h4 x hx).2.2⟩⟩
theorem box_set {j : Nat} {x y z u : Value} (h : W.heap[b]? = some (.cells #[x, y, z] 28 (0, 0))) : (W.setCell ⟨b, j, none⟩ u).heap[b]? = some (.cells ((#[x, y, z] : Array Value).setIfInBounds j u) 28 (0, 0)) := heap_setCell_same W b j _ _ u h
/-- A dot more in the cloud. -/
theorem LgI.addL (h : LgI w W b true p q c) (d : Int × Int) {A : Option Addr} {n : Nat} (ho : RowD14 W' w.heap.size (.slice A (c.ls.length + 1) n) (c.ls ++ [d])) (hg : W.grownBy W' c.l.ownBlock) :
    LgI w (W'.setCell ⟨b, 1, none⟩ (.slice A (c.ls.length + 1) n)) b true (p + 1) q { c with L := A, nl := n, ls := c.ls ++ [d] } := by
  have hgc := Chg.of_grown hg (S := fun j => c.l.ownBlock = some j) (fun _ e => e)
  have hbx := hgc.box h.box (own_ne h.rl h.box (by decide))
  have hch : Chg (fun j => j = b) W' (W'.setCell ⟨b, 1, none⟩ (.slice A (c.ls.length + 1) n)) := Chg.of_set (S := fun j => j = b) ⟨b, 1, none⟩ _ rfl
  have kp : ∀ {e : TypeId} {kk m : Nat} {v : Value} {zs : List Value}, e ≠ 51 → e ≠ 28 → W.ownsRow w.heap.size e kk v m zs → (W'.setCell ⟨b, 1, none⟩ (.slice A (c.ls.length + 1) n)).ownsRow w.heap.size e kk v m zs := fun he he2 k => by
    have h5 := ownKeep k hgc (own_own h.rl k (Ne.symm he))
    exact ownKeep h5 hch (fun j hj e1 => own_ne h5 hbx (Ne.symm he2) (e1 ▸ hj))
  have hlen : (c.ls ++ [d]).length = c.ls.length + 1 := by simp
  have ho2 : World.ownsRow W' w.heap.size _ 2 (.slice A (c.ls.length + 1) n) (c.ls ++ [d]).length (cellsOf encD (c.ls ++ [d])) := ho
  rw [hlen] at ho2
  refine ⟨Below.setCell (p := ⟨b, 1, none⟩) (h.bel.grown hg h.bel.size (fun j hj => (World.ownsRow.lt h.rl j hj).1)) h.hb _, h.hb, ?_, ?_, ?_, h.nv, fun e => (by cases e), kp (by decide) (by decide) h.ri, fun y hy => kp (by decide) (by decide) (h.rm y hy), Nat.le_succ_of_le h.lv, ?_, h.li, h.sm⟩
  · show _ = some (Obj.cells #[c.v, .slice A (c.ls ++ [d]).length n, c.i] _ _)
    rw [box_set hbx, hlen]
    rfl
  · show World.ownsRow _ _ _ _ c.v _ _
    have h5 : W'.ownsRow w.heap.size 51 2 c.v c.vs.length (cellsOf encD c.vs) := ownKeep h.rv hgc (fun j hj => by rw [h.nv rfl] at hj; cases hj)
    exact ownKeep h5 hch (fun j hj e1 => own_ne h5 hbx (by decide) (e1 ▸ hj))
  · show World.ownsRow _ _ _ _ (.slice A (c.ls ++ [d]).length n) _ _
    rw [hlen]
    exact ownKeep ho2 hch (fun j hj e1 => own_ne ho2 hbx (by decide) (e1 ▸ hj))
  · show (c.ls ++ [d]).length ≤ p + 1
    have := h.ll
    omega
/-- A dot more in the vector. -/
theorem LgI.addV (h : LgI w W b false p q c) (d : Int × Int) {A : Option Addr} {n : Nat} (ho : RowD14 W' w.heap.size (.slice A (c.vs.length + 1) n) (c.vs ++ [d])) (hg : W.grownBy W' c.v.ownBlock) :
    LgI w (W'.setCell ⟨b, 0, none⟩ (.slice A (c.vs.length + 1) n)) b false (p + 1) q { c with V := A, nv := n, vs := c.vs ++ [d] } := by
  have hgc := Chg.of_grown hg (S := fun j => c.v.ownBlock = some j) (fun _ e => e)
  have hbx := hgc.box h.box (own_ne h.rv h.box (by decide))
  have hch : Chg (fun j => j = b) W' (W'.setCell ⟨b, 0, none⟩ (.slice A (c.vs.length + 1) n)) := Chg.of_set (S := fun j => j = b) ⟨b, 0, none⟩ _ rfl
  have kp : ∀ {e : TypeId} {kk m : Nat} {v : Value} {zs : List Value}, e ≠ 51 → e ≠ 28 → W.ownsRow w.heap.size e kk v m zs → (W'.setCell ⟨b, 0, none⟩ (.slice A (c.vs.length + 1) n)).ownsRow w.heap.size e kk v m zs := fun he he2 k => by
    have h5 := ownKeep k hgc (own_own h.rv k (Ne.symm he))
    exact ownKeep h5 hch (fun j hj e1 => own_ne h5 hbx (Ne.symm he2) (e1 ▸ hj))
  have hlen : (c.vs ++ [d]).length = c.vs.length + 1 := by simp
  have ho2 : World.ownsRow W' w.heap.size _ 2 (.slice A (c.vs.length + 1) n) (c.vs ++ [d]).length (cellsOf encD (c.vs ++ [d])) := ho
  rw [hlen] at ho2
  refine ⟨Below.setCell (p := ⟨b, 0, none⟩) (h.bel.grown hg h.bel.size (fun j hj => (World.ownsRow.lt h.rv j hj).1)) h.hb _, h.hb, ?_, ?_, ?_, fun e => (by cases e), h.nl, kp (by decide) (by decide) h.ri, fun y hy => kp (by decide) (by decide) (h.rm y hy), ?_, Nat.le_succ_of_le h.ll, h.li, h.sm⟩
  · show _ = some (Obj.cells #[.slice A (c.vs ++ [d]).length n, c.l, c.i] _ _)
    rw [box_set hbx, hlen]
    rfl
  · show World.ownsRow _ _ _ _ (.slice A (c.vs ++ [d]).length n) _ _
    rw [hlen]
    exact ownKeep ho2 hch (fun j hj e1 => own_ne ho2 hbx (by decide) (e1 ▸ hj))
  · show World.ownsRow _ _ _ _ c.l _ _
    have h5 : W'.ownsRow w.heap.size 51 2 c.l c.ls.length (cellsOf encD c.ls) := ownKeep h.rl hgc (fun j hj => by rw [h.nl rfl] at hj; cases hj)
    exact ownKeep h5 hch (fun j hj e1 => own_ne h5 hbx (by decide) (e1 ▸ hj))
  · show (c.vs ++ [d]).length ≤ p + 1
    have := h.lv
    omega
/-- An item more. -/
theorem LgI.addI (h : LgI w W b cl p q c) (y : ItV) {A : Option Addr} {n : Nat} (ho : RowI14 W' w.heap.size (.slice A (c.xs.length + 1) n) (c.xs ++ [y])) (hg : W.grownBy W' c.i.ownBlock) (hy : RowM14 W w.heap.size (slV14 y) y.ms)
    (hs : y.nm.length ≤ 100 ∧ y.ms.length ≤ 1 ∧ ∀ m ∈ y.ms, m.t < 18446744073709551616) :
    LgI w (W'.setCell ⟨b, 2, none⟩ (.slice A (c.xs.length + 1) n)) b cl p (q + 1) { c with I := A, ni := n, xs := c.xs ++ [y] } := by
  have hgc := Chg.of_grown hg (S := fun j => c.i.ownBlock = some j) (fun _ e => e)
  have hbx := hgc.box h.box (own_ne h.ri h.box (by decide))
  have hch : Chg (fun j => j = b) W' (W'.setCell ⟨b, 2, none⟩ (.slice A (c.xs.length + 1) n)) := Chg.of_set (S := fun j => j = b) ⟨b, 2, none⟩ _ rfl
  have kp : ∀ {e : TypeId} {kk m : Nat} {v : Value} {zs : List Value}, e ≠ 56 → e ≠ 28 → W.ownsRow w.heap.size e kk v m zs → (W'.setCell ⟨b, 2, none⟩ (.slice A (c.xs.length + 1) n)).ownsRow w.heap.size e kk v m zs := fun he he2 k => by
    have h5 := ownKeep k hgc (own_own h.ri k (Ne.symm he))
    exact ownKeep h5 hch (fun j hj e1 => own_ne h5 hbx (Ne.symm he2) (e1 ▸ hj))
  have hlen : (c.xs ++ [y]).length = c.xs.length + 1 := by simp
  have ho2 : World.ownsRow W' w.heap.size _ 2 (.slice A (c.xs.length + 1) n) (c.xs ++ [y]).length (cellsOf encIt (c.xs ++ [y])) := ho
  rw [hlen] at ho2
  refine ⟨Below.setCell (p := ⟨b, 2, none⟩) (h.bel.grown hg h.bel.size (fun j hj => (World.ownsRow.lt h.ri j hj).1)) h.hb _, h.hb, ?_, kp (by decide) (by decide) h.rv, kp (by decide) (by decide) h.rl, h.nv, h.nl, ?_, ?_, h.lv, h.ll, ?_, ?_⟩
  · show _ = some (Obj.cells #[c.v, c.l, .slice A (c.xs ++ [y]).length n] _ _)
    rw [box_set hbx, hlen]
    rfl
  · show World.ownsRow _ _ _ _ (.slice A (c.xs ++ [y]).length n) _ _
    rw [hlen]
    exact ownKeep ho2 hch (fun j hj e1 => own_ne ho2 hbx (by decide) (e1 ▸ hj))
  · intro z hz
    rcases List.mem_append.1 hz with k | k
    · exact kp (by decide) (by decide) (h.rm z k)
    · rw [List.mem_singleton] at k
      subst k
      exact kp (by decide) (by decide) hy
  · show (c.xs ++ [y]).length ≤ q + 1
    have := h.li
    omega
  · intro z hz
    rcases List.mem_append.1 hz with k | k
    · exact h.sm z k
    · rw [List.mem_singleton] at k
      subst k
      exact hs
end

end

end Go.Proofs.YtgdnibahiomneaaGreat
