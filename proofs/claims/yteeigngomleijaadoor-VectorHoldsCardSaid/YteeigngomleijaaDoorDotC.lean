/- The reference's sets: With, Union, Minus, Both, Set. -/
import Derived.Test.YteeigngomleijaaDoorDotB
import Derived.Test.YteeigngomleijaaDoorApp
import Derived.Deep.RegionHeld3
import Derived.Deep.CutBlock
namespace Go.Proofs.YteeigngomleijaaDoor
open Go.RowKit

abbrev ltD (p q : Int × Int) : Bool := lessD p.1 p.2 q.1 q.2

/-- A set with one more dot. -/
def insD (xs : List (Int × Int)) (d : Int × Int) : List (Int × Int) := if d ∈ xs then xs else xs.takeWhile (ltD · d) ++ d :: xs.dropWhile (ltD · d)

theorem takeWhile_at {xs : List (Int × Int)} {d : Int × Int} {m : Nat} (h : ∀ j p, j < m → xs[j]? = some p → ltD p d = true) (he : ∀ p, xs[m]? = some p → ltD p d = false) :
    xs.take m = xs.takeWhile (ltD · d) ∧ xs.drop m = xs.dropWhile (ltD · d) := by
  induction xs generalizing m with
  | nil => simp
  | cons x r ih =>
    match m with
    | 0 =>
      have := he x rfl
      simp [this]
    | m + 1 =>
      have h0 := h 0 x (by omega) rfl
      obtain ⟨h1, h2⟩ := ih (m := m) (fun j p hj hp => h (j + 1) p (by omega) (by simpa using hp)) (fun p hp => he p (by simpa using hp))
      simp [h0, h1, h2]

theorem infoD : (Tryd.prog.info? 23).map (fun i => (i.zero, i.size, i.bytes)) = some (some (.agg #[.int .i64 0, .int .i64 0]), 2, 16) := by kernel_rfl
theorem encD_len : ∀ d, (encD d).length = 2 := fun _ => rfl
theorem encD_one : ∀ d, ∀ u ∈ encD d, u.oneCell' = true := fun d u hu => by
  simp [encD] at hu; rcases hu with rfl | rfl <;> rfl

/-- What the last statement of With leans on in every order. -/
def KS (w : World) (r0 c0 : Int) (W : World) : Prop :=
  W.cell? ⟨w.heap.size, 0, none⟩ = some (.int .i64 r0) ∧ W.cell? ⟨w.heap.size, 1, none⟩ = some (.int .i64 c0) ∧ Below (w.heap.size + 1) (w.alloc (.cells #[.int .i64 r0, .int .i64 c0] 23)) W
theorem KS.of {w W : World} {r0 c0 : Int} (h : Below (w.heap.size + 1) (w.alloc (.cells #[.int .i64 r0, .int .i64 c0] 23)) W) : KS w r0 c0 W :=
  ⟨(h.cell (p := ⟨w.heap.size, 0, none⟩) (by simp)).trans (by simp [World.cell?_alloc_new]), (h.cell (p := ⟨w.heap.size, 1, none⟩) (by simp)).trans (by simp [World.cell?_alloc_new]), h⟩
theorem KS.size {w W : World} {r0 c0 : Int} (h : KS w r0 c0 W) : w.heap.size + 1 ≤ W.heap.size := by have := h.2.2.size; simpa using this
theorem KS.alloc {w W : World} {r0 c0 : Int} (h : KS w r0 c0 W) (o : Obj) : KS w r0 c0 (W.alloc o) := .of (h.2.2.alloc h.size o)
theorem KS.drew {w W : World} {r0 c0 : Int} (h : KS w r0 c0 W) : KS w r0 c0 W.drew := .of h.2.2.drew
theorem KS.grown {w W W' : World} {r0 c0 : Int} (h : KS w r0 c0 W) {row : Option Nat} (hg : W.grownBy W' row) (hr : ∀ k, row = some k → w.heap.size + 1 ≤ k) : KS w r0 c0 W' := .of (h.2.2.grown hg h.size hr)
theorem KS.below {w W : World} {r0 c0 : Int} (h : KS w r0 c0 W) : Below w.heap.size w W := ((Below.refl _ w).alloc (Nat.le_refl _) _).trans (h.2.2.mono (by omega))

theorem SlAt.take {α : Type} {enc : α → List Value} {k : Nat} {w : World} {A : Option Addr} {xs : List α} (h : SlAt enc k w A xs) (m : Nat) : SlAt enc k w A (xs.take m) := fun hn => by
  obtain ⟨b, off, rfl, hb, hc⟩ := h (by simp at hn; omega)
  refine ⟨b, off, rfl, hb, fun j x hx => hc j x ?_⟩
  rw [List.getElem?_take] at hx
  split at hx
  · exact hx
  · cases hx
theorem SlAt.cut {α : Type} {enc : α → List Value} {k : Nat} {w : World} {A : Option Addr} {xs : List α} (h : SlAt enc k w A xs) (m cap : Nat) (hc : xs.length ≤ cap) : SlAt enc k w (if cap = m then A else A.map (·.add (m * k))) (xs.drop m) := fun hn => by
  obtain ⟨b, off, rfl, hb, hcell⟩ := h (by simp at hn; omega)
  have hne : ¬ cap = m := by simp at hn; omega
  rw [if_neg hne]
  refine ⟨b, off + m * k, by simp [Addr_add], hb, fun j x hx i u hu => ?_⟩
  rw [List.getElem?_drop] at hx
  have := hcell (m + j) x hx i u hu
  rw [Nat.add_mul] at this
  rw [show off + m * k + j * k + i = off + (m * k + j * k) + i by omega]
  exact this
/-- One element in a new block. -/
theorem SlAt.one {α : Type} {enc : α → List Value} {k : Nat} {w : World} {g : Nat} {x : α} {t : TypeId} (h : w.heap[g]? = some (.cells (enc x).toArray t (0, 0))) : SlAt enc k w (some ⟨g, 0, none⟩) [x] := fun _ =>
  ⟨g, 0, rfl, (Array.getElem?_eq_some_iff.1 h).1, fun j y hy i u hu => by
    match j, hy with
    | 0, hy => simp at hy; subst hy; rw [cell_of_row w g _ _ t (0, 0) h]; simpa using hu⟩

/-- The set of a list. -/
def setL (xs : List (Int × Int)) : List (Int × Int) := xs.foldl insD []
theorem setL_snoc (xs : List (Int × Int)) (d : Int × Int) : setL (xs ++ [d]) = insD (setL xs) d := by simp [setL, List.foldl_append]
theorem insD_len (xs : List (Int × Int)) (d : Int × Int) : (insD xs d).length ≤ xs.length + 1 := by
  unfold insD
  split
  · omega
  · have := congrArg List.length (List.takeWhile_append_dropWhile (p := (ltD · d)) (l := xs))
    simp only [List.length_append, List.length_cons] at this ⊢
    omega
theorem foldl_ins_len : ∀ (l s : List (Int × Int)), (l.foldl insD s).length ≤ s.length + l.length
  | [], s => by simp
  | d :: l, s => by
    have h1 := foldl_ins_len l (insD s d)
    have h2 := insD_len s d
    simp only [List.foldl_cons, List.length_cons]; omega
theorem setL_len (xs : List (Int × Int)) : (setL xs).length ≤ xs.length := by
  have := foldl_ins_len xs []
  simpa [setL] using this
theorem take_snoc {α : Type} {xs : List α} {m : Nat} {x : α} (h : xs[m]? = some x) : xs.take (m + 1) = xs.take m ++ [x] := by
  rw [List.take_add_one, h]; rfl

/-- What a slot holds that reads as a list of dots. -/
def Holds (w : World) (v : Value) (xs : List (Int × Int)) : Prop := ∃ A c, v = .slice A xs.length c ∧ DotsAt w A xs ∧ xs.length ≤ c ∧ c ≤ maxLen
theorem Holds.below {w w' : World} {v : Value} {xs : List (Int × Int)} (h : Holds w v xs) (hb : Below w.heap.size w w') : Holds w' v xs := by
  obtain ⟨A, c, rfl, h1, h2, h3⟩ := h
  exact ⟨A, c, rfl, h1.below hb, h2, h3⟩
theorem Holds.nil (w : World) : Holds w (.slice none 0 0) [] := ⟨none, 0, rfl, SlAt.nil, by simp, by simp [maxLen]⟩

theorem filter_snoc_yes {α : Type} {p : α → Bool} {l : List α} {x : α} (h : p x = true) : (l ++ [x]).filter p = l.filter p ++ [x] := by simp [h]
theorem filter_snoc_no {α : Type} {p : α → Bool} {l : List α} {x : α} (h : p x = false) : (l ++ [x]).filter p = l.filter p := by simp [h]

/-- What Both of the reference is. -/
def bothL (xs ys : List (Int × Int)) : List (Int × Int) := setL (xs.filter fun d => !decide (d ∈ setL (xs.filter fun d => !decide (d ∈ ys))))

end Go.Proofs.YteeigngomleijaaDoor
