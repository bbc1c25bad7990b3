/- Several texts in one: QtyK, QtyA, QtyB, QtyC, QtyD, QtyE, QtyF, QtyG, QtyH, QtyI, CrcH, GenS. -/
import Derived.KernelRfl
import Derived.Test.YtpnemekkpifbaaaGreatMAA
import Derived.Deep.CutBlock
import Derived.WalkSpells
import Derived.IntWalk
import Derived.Lib.ConvBytes
import Derived.Lib.SlBytesRow
import Derived.Lib.BufferRead
import Derived.Laws.OwnMore
import Derived.Laws.BitsAllLaws
import Derived.Lib.SmallJoins
import Derived.Lib.AppendStr
import Derived.Outline
namespace Go.Proofs.YtpnemekkpifbaaaGreat

section

/-- A mark: replica and counter of its dot, quantity, time. -/
structure Mk where
  r : Int
  c : Int
  q : Int
  t : Nat
deriving DecidableEq
def Mk.zero : Mk := ⟨0, 0, 0, 0⟩
def qtyN (q : Int) : Bool := decide (1 ≤ q) && decide (q ≤ 2147483647)
def newerN (a b : Mk) : Bool :=
  if a.t = b.t then (if a.r = b.r then (if a.c = b.c then decide (b.q < a.q) else decide (b.c < a.c)) else decide (b.r < a.r)) else decide (b.t < a.t)
theorem newerN_iff (a b : Mk) : newerN a b = true ↔ b.t < a.t ∨ (a.t = b.t ∧ (b.r < a.r ∨ (a.r = b.r ∧ (b.c < a.c ∨ (a.c = b.c ∧ b.q < a.q))))) := by
  unfold newerN
  split
  · split
    · split <;> simp <;> omega
    · simp; omega
  · simp; omega
theorem newerN_total {a b : Mk} (h1 : newerN a b = false) (h2 : newerN b a = false) : a = b := by
  have k1 : ¬ (b.t < a.t ∨ (a.t = b.t ∧ (b.r < a.r ∨ (a.r = b.r ∧ (b.c < a.c ∨ (a.c = b.c ∧ b.q < a.q)))))) := fun h => by rw [(newerN_iff a b).2 h] at h1; cases h1
  have k2 : ¬ (a.t < b.t ∨ (b.t = a.t ∧ (a.r < b.r ∨ (b.r = a.r ∧ (a.c < b.c ∨ (b.c = a.c ∧ a.q < b.q)))))) := fun h => by rw [(newerN_iff b a).2 h] at h2; cases h2
  cases a; cases b
  simp only at k1 k2
  simp only [Mk.mk.injEq]
  omega
/-- What is in the list, and what nothing in it is newer than. -/
def IsMax (l : List Mk) (m : Mk) : Prop := m ∈ l ∧ ∀ x ∈ l, newerN x m = false
theorem IsMax.unique {l : List Mk} {a b : Mk} (h1 : IsMax l a) (h2 : IsMax l b) : a = b := newerN_total (h2.2 a h1.1) (h1.2 b h2.1)
theorem IsMax.same {l k : List Mk} {a b : Mk} (h : ∀ x, x ∈ l ↔ x ∈ k) (h1 : IsMax l a) (h2 : IsMax k b) : a = b :=
  h1.unique ⟨(h b).2 h2.1, fun x hx => h2.2 x ((h x).1 hx)⟩
/-- The greatest time is that of the newest mark. -/
theorem IsMax.time {l : List Mk} {m : Mk} (h : IsMax l m) : ∀ x ∈ l, x.t ≤ m.t := fun x hx => by
  rcases Nat.lt_or_ge m.t x.t with h1 | h1
  · have := h.2 x hx
    rw [(newerN_iff x m).2 (.inl h1)] at this
    cases this
  · exact h1
/-- What is found out in a loop over a list. -/
theorem all_yes {α : Type} {p : α → Bool} {xs : List α} (h : ∀ (j : Nat) (x : α), j < xs.length → xs[j]? = some x → p x = true) : xs.all p = true := by
  rw [List.all_eq_true]
  intro x hx
  obtain ⟨j, hj⟩ := List.mem_iff_getElem?.1 hx
  exact h j x (List.getElem?_eq_some_iff.1 hj).1 hj
theorem all_no {α : Type} {p : α → Bool} {xs : List α} {j : Nat} {x : α} (hx : xs[j]? = some x) (h : p x = false) : xs.all p = false := by
  cases e : xs.all p with
  | false => rfl
  | true => rw [List.all_eq_true] at e; have := e x (List.mem_of_getElem? hx); rw [h] at this; cases this
theorem step_all {α : Type} {p : α → Bool} {xs : List α} {m : Nat} {x : α} (h : ∀ (j : Nat) (y : α), j < m → xs[j]? = some y → p y = true) (hx : xs[m]? = some x) (hp : p x = true) : ∀ (j : Nat) (y : α), j < m + 1 → xs[j]? = some y → p y = true := fun j y hj hy => by
  by_cases e : j = m
  · subst e; rw [hx] at hy; cases hy; exact hp
  · exact h j y (by omega) hy
theorem take_step {α : Type} {xs : List α} {m : Nat} {x : α} (hx : xs[m]? = some x) : xs.take (m + 1) = xs.take m ++ [x] := by
  obtain ⟨h1, h2⟩ := List.getElem?_eq_some_iff.1 hx
  rw [List.take_succ_eq_append_getElem h1, h2]
section
variable {valid : Mk → Bool} {l : List Mk} {m : Mk}
end

section
variable {valid : Mk → Bool} {l : List Mk}
end

end

section
open Go.RowKit

/-- A mark as a value, and its four cells. -/
abbrev mkV (m : Mk) : Value := .agg #[.int .i64 m.r, .int .i64 m.c, .int .i64 m.q, .int .u64 (m.t : Int)]
abbrev encM (m : Mk) : List Value := [.int .i64 m.r, .int .i64 m.c, .int .i64 m.q, .int .u64 (m.t : Int)]
/-- Which marks are valid. -/
def validM (m : Mk) : Bool := validD m.r m.c && (qtyN m.q && decide (m.t ≠ 0))

set_option maxHeartbeats 400000 in
theorem qtyValid (q : Int) (w : World) : Calls Tryz.prog 107 #[.int .i64 q] w (One (.bool (qtyN q)) w) := by
  go_enter Tryz.func107, Tryz.ntmps107
  go_wp2
  all_goals
    go_ret
    refine One.bool _ ?_
    simp [qtyN, *]
    try omega
set_option maxHeartbeats 400000 in
theorem qtyMark (m : Mk) (w : World) : Calls Tryz.prog 86 #[mkV m] w (OneB (.bool (validM m)) w) := by
  obtain ⟨r, c, q, t⟩ := m
  have h1 := fun W => dotValid r c W
  have h2 := fun W => qtyValid q W
  have hv : validM ⟨r, c, q, t⟩ = (validD r c && (qtyN q && decide (t ≠ 0))) := rfl
  generalize validM ⟨r, c, q, t⟩ = v at hv ⊢
  generalize validD r c = x at h1 hv
  generalize qtyN q = y at h2 hv
  have H1 := Lib.hid h1
  have H2 := Lib.hid h2
  have ht : ((t : Int) != 0) = decide (t ≠ 0) := by
    rw [Bool.eq_iff_iff]; simp
  generalize decide (t ≠ 0) = z at ht hv
  clear h1 h2
  cases x with
  | false =>
    obtain rfl : v = false := hv
    go_enter Tryz.func86, Tryz.ntmps86
    go_wp2_with fail
    refine (H1.out _).mono ?_
    rintro e w1 ⟨rfl, hb1⟩
    have HB := Lib.hid (below_trans ((Below.refl _ w).alloc (Nat.le_refl _) _) hb1)
    clear hb1
    go_wp2_with fail
    go_ret
    exact ⟨rfl, HB.out⟩
  | true =>
    cases y with
    | false =>
      obtain rfl : v = false := hv
      go_enter Tryz.func86, Tryz.ntmps86
      go_wp2_with fail
      refine (H1.out _).mono ?_
      rintro e w1 ⟨rfl, hb1⟩
      obtain ⟨hc1, hf1⟩ := bcell hb1
      have HB := Lib.hid (below_trans ((Below.refl _ w).alloc (Nat.le_refl _) _) hb1)
      clear hb1
      go_wp2_with fail
      refine (H2.out _).mono ?_
      rintro e w2 ⟨rfl, rfl⟩
      go_wp2_with fail
      go_ret
      exact ⟨rfl, HB.out⟩
    | true =>
      obtain rfl : v = z := hv
      go_enter Tryz.func86, Tryz.ntmps86
      go_wp2_with fail
      refine (H1.out _).mono ?_
      rintro e w1 ⟨rfl, hb1⟩
      obtain ⟨hc1, hf1⟩ := bcell hb1
      have HB := Lib.hid (below_trans ((Below.refl _ w).alloc (Nat.le_refl _) _) hb1)
      clear hb1
      go_wp2_with fail
      refine (H2.out _).mono ?_
      rintro e w2 ⟨rfl, rfl⟩
      go_wp2_with fail
      go_ret
      exact ⟨rfl, HB.out⟩
end

section
open Go.RowKit

set_option maxHeartbeats 1000000 in
theorem eqInDot (d : Nat) (r c r' c' : Int) (w : World) : (Op.equalIn (d + 2) 52 (.agg #[.int .i64 r, .int .i64 c]) (.agg #[.int .i64 r', .int .i64 c'])).run Tryz.prog w = .ok (r == r' && c == c') w := by
  have hS : Tryz.prog.underlying 52 = some (.struct (Tryz.prog.fieldsOf 52)) := by kernel_rfl
  have hp : Tryz.prog.stoodInHeld 52 = false := by kernel_rfl
  rw [run_equalIn_agg w (d + 1) 52 _ _ hS hp]
  simp only [Program.fieldsOf, Tryz.underlying52]
  go_simp
  by_cases h1 : r = r' <;> by_cases h2 : c = c' <;> simp [h1, h2]
set_option maxHeartbeats 1000000 in
theorem eqInMark (d : Nat) (a b : Mk) (w : World) : (Op.equalIn (d + 3) 54 (mkV a) (mkV b)).run Tryz.prog w = .ok (decide (a = b)) w := by
  obtain ⟨r, c, q, t⟩ := a
  obtain ⟨r', c', q', t'⟩ := b
  have hS : Tryz.prog.underlying 54 = some (.struct (Tryz.prog.fieldsOf 54)) := by kernel_rfl
  have hp : Tryz.prog.stoodInHeld 54 = false := by kernel_rfl
  have hD := fun w => eqInDot d r c r' c' w
  rw [run_equalIn_agg w (d + 2) 54 _ _ hS hp]
  simp only [Program.fieldsOf, Tryz.underlying54]
  go_simp
  have ht : ((t : Int) = (t' : Int)) = (t = t') := by rw [Int.natCast_inj]
  simp only [ht]
  by_cases h1 : r = r' <;> by_cases h2 : c = c' <;> by_cases h3 : q = q' <;> by_cases h4 : t = t' <;> simp [h1, h2, h3, h4]
theorem neqMark (a b : Mk) (w : World) : (binOp .neq 54 (mkV a) (mkV b)).run Tryz.prog w = .ok (.bool (!decide (a = b))) w := by
  rw [run_neq_struct, show (10000 : Nat) = 9997 + 3 from rfl, eqInMark]; rfl
theorem encM_len (m : Mk) : (encM m).length = 4 := rfl
theorem encM_one (m : Mk) : ∀ u ∈ encM m, u.oneCell' = true := by
  intro u hu
  simp [encM] at hu
  rcases hu with rfl | rfl | rfl | rfl <;> rfl
theorem infoM : (Tryz.prog.info? 54).map (fun i => (i.zero, i.size, i.bytes)) = some (some (.agg #[.int .i64 0, .int .i64 0, .int .i64 0, .int .u64 0]), 4, 32) := by kernel_rfl
abbrev MarksAt (w : World) (A : Option Addr) (xs : List Mk) : Prop := SlAt encM 4 w A xs
/-- A slice of marks that reads as a list. -/
def HoldsM (w : World) (v : Value) (xs : List Mk) : Prop := ∃ A c, v = .slice A xs.length c ∧ MarksAt w A xs ∧ xs.length ≤ c ∧ c ≤ maxLen
theorem HoldsM.below {w w' : World} {v : Value} {xs : List Mk} (h : HoldsM w v xs) (hb : Below w.heap.size w w') : HoldsM w' v xs := by
  obtain ⟨A, c, rfl, h1, h2, h3⟩ := h
  exact ⟨A, c, rfl, h1.below hb, h2, h3⟩
theorem HoldsM.nil (w : World) : HoldsM w (.slice none 0 0) [] := ⟨none, 0, rfl, SlAt.nil, by simp, by simp [maxLen]⟩
theorem HoldsM.at {w : World} {A : Option Addr} {n c : Nat} {xs : List Mk} (h : HoldsM w (.slice A n c) xs) : n = xs.length ∧ MarksAt w A xs ∧ xs.length ≤ maxLen := by
  obtain ⟨_, _, e, h1, h2, h3⟩ := h
  cases e
  exact ⟨rfl, h1, by omega⟩
theorem SlAt.mark {w : World} {A : Option Addr} {xs : List Mk} (h : MarksAt w A xs) {j : Nat} (hj : j < xs.length) :
    ∃ b off, ∃ m : Mk, A = some ⟨b, off, none⟩ ∧ b < w.heap.size ∧ xs[j]? = some m ∧ xs[j] = m ∧ w.cell? ⟨b, off + j * 4, none⟩ = some (.int .i64 m.r) ∧ w.cell? ⟨b, off + j * 4 + 1, none⟩ = some (.int .i64 m.c) ∧ w.cell? ⟨b, off + j * 4 + 2, none⟩ = some (.int .i64 m.q) ∧ w.cell? ⟨b, off + j * 4 + 3, none⟩ = some (.int .u64 (m.t : Int)) := by
  obtain ⟨b, off, rfl, hb, hc⟩ := h (by omega)
  have hx := List.getElem?_eq_getElem hj
  exact ⟨b, off, xs[j], rfl, hb, hx, rfl, by simpa using hc j _ hx 0 _ rfl, hc j _ hx 1 _ rfl, hc j _ hx 2 _ rfl, hc j _ hx 3 _ rfl⟩

end

section
open Go.RowKit

end

section
open Go.RowKit

/-- A block that holds a mark. -/
def BlkM (W : World) (g : Nat) (m : Mk) : Prop := W.heap[g]? = some (.cells #[.int .i64 m.r, .int .i64 m.c, .int .i64 m.q, .int .u64 (m.t : Int)] 54 (0, 0))
/-- A mark is stored. -/
abbrev setM (W : World) (g : Nat) (m : Mk) : World := (((W.setCell ⟨g, 0, none⟩ (.int .i64 m.r)).setCell ⟨g, 1, none⟩ (.int .i64 m.c)).setCell ⟨g, 2, none⟩ (.int .i64 m.q)).setCell ⟨g, 3, none⟩ (.int .u64 (m.t : Int))
section
variable {W W' : World} {g : Nat} {m : Mk}
theorem BlkM.lt (h : BlkM W g m) : g < W.heap.size := (Array.getElem?_eq_some_iff.1 h).1
theorem BlkM.cell0 (h : BlkM W g m) : W.cell? ⟨g, 0, none⟩ = some (.int .i64 m.r) := by simp [World.cell?, show W.heap[g]? = _ from h]
theorem BlkM.cell1 (h : BlkM W g m) : W.cell? ⟨g, 1, none⟩ = some (.int .i64 m.c) := by simp [World.cell?, show W.heap[g]? = _ from h]
theorem BlkM.cell2 (h : BlkM W g m) : W.cell? ⟨g, 2, none⟩ = some (.int .i64 m.q) := by simp [World.cell?, show W.heap[g]? = _ from h]
theorem BlkM.frozen (h : BlkM W g m) (k : Nat) : W.frozen? ⟨g, k, none⟩ = false := by simp [World.frozen?, show W.heap[g]? = _ from h]
theorem BlkM.below (h : BlkM W g m) (hb : Below W.heap.size W W') : BlkM W' g m := (hb.block g h.lt).trans h
theorem BlkM.other (h : BlkM W g m) {g' : Nat} (hne : g ≠ g') (o : Nat) (z : Value) : BlkM (W.setCell ⟨g', o, none⟩ z) g m := (Below.heap_setCell W ⟨g', o, none⟩ z g hne).trans h
theorem BlkM.new (W : World) (m : Mk) : BlkM (W.alloc (.cells #[.int .i64 m.r, .int .i64 m.c, .int .i64 m.q, .int .u64 (m.t : Int)] 54)) W.heap.size m := heap_alloc_new W _
theorem block_set1 {cs : Array Value} {t : TypeId} {k : Nat} {x : Value} (h : W.heap[g]? = some (.cells cs t (0, 0))) : (W.setCell ⟨g, k, none⟩ x).heap[g]? = some (.cells (cs.setIfInBounds k x) t (0, 0)) := by
  obtain ⟨hlt, hk⟩ := Array.getElem?_eq_some_iff.1 h
  show (W.heap.modify g _)[g]? = _
  rw [Array.getElem?_eq_getElem (by rw [Array.size_modify]; exact hlt), Array.getElem_modify_self, hk]
  rfl
theorem BlkM.set (h : BlkM W g m) (m' : Mk) : BlkM (setM W g m') g m' := by
  have h4 := block_set1 (k := 3) (x := .int .u64 (m'.t : Int)) (block_set1 (k := 2) (x := .int .i64 m'.q) (block_set1 (k := 1) (x := .int .i64 m'.c) (block_set1 (k := 0) (x := .int .i64 m'.r) h)))
  have e : ((((#[.int .i64 m.r, .int .i64 m.c, .int .i64 m.q, .int .u64 (m.t : Int)] : Array Value).setIfInBounds 0 (.int .i64 m'.r)).setIfInBounds 1 (.int .i64 m'.c)).setIfInBounds 2 (.int .i64 m'.q)).setIfInBounds 3 (.int .u64 (m'.t : Int)) = #[.int .i64 m'.r, .int .i64 m'.c, .int .i64 m'.q, .int .u64 (m'.t : Int)] := by simp
  rw [e] at h4
  exact h4
end

end

section
open Go.RowKit

end

section
open Go.RowKit

end

section
open Go.RowKit

/-- A number's cell. -/
abbrev encZ (n : Int) : List Value := [.int .i64 n]
abbrev NumsAt (w : World) (A : Option Addr) (xs : List Int) : Prop := SlAt encZ 1 w A xs
/-- A slice of numbers that reads as a list. -/
def HoldsZ (w : World) (v : Value) (xs : List Int) : Prop := ∃ A c, v = .slice A xs.length c ∧ NumsAt w A xs ∧ xs.length ≤ c ∧ c ≤ maxLen
theorem HoldsZ.below {w w' : World} {v : Value} {xs : List Int} (h : HoldsZ w v xs) (hb : Below w.heap.size w w') : HoldsZ w' v xs := by
  obtain ⟨A, c, rfl, h1, h2, h3⟩ := h
  exact ⟨A, c, rfl, h1.below hb, h2, h3⟩
theorem HoldsZ.nil (w : World) : HoldsZ w (.slice none 0 0) [] := ⟨none, 0, rfl, SlAt.nil, by simp, by simp [maxLen]⟩

end

section
open Go.RowKit

/-- The dots of marks. -/
def dotsM (xs : List Mk) : List (Int × Int) := xs.map fun m => (m.r, m.c)
theorem dotsM_len (xs : List Mk) : (dotsM xs).length = xs.length := by simp [dotsM]
/-- The first k dots of marks, the other ones are zero: what lies in a made slice. -/
def dotsTo (xs : List Mk) (k : Nat) : List (Int × Int) := dotsM (xs.take k) ++ List.replicate (xs.length - k) (0, 0)
theorem dotsTo_len {xs : List Mk} {k : Nat} (hk : k ≤ xs.length) : (dotsTo xs k).length = xs.length := by
  simp [dotsTo, dotsM_len]; omega
theorem dotsTo_set {xs : List Mk} {k : Nat} {m : Mk} (hx : xs[k]? = some m) : (dotsTo xs k).set k (m.r, m.c) = dotsTo xs (k + 1) := by
  have hk := (List.getElem?_eq_some_iff.1 hx).1
  have e1 : (dotsM (xs.take k)).length = k := by rw [dotsM_len, List.length_take]; omega
  have e2 : xs.length - k = (xs.length - (k + 1)) + 1 := by omega
  unfold dotsTo
  rw [List.set_append, if_neg (by omega), e1, Nat.sub_self, e2, List.replicate_succ, List.set_cons_zero, take_step hx]
  simp [dotsM]
theorem cellsD_set2 (l : List (Int × Int)) (k : Nat) (d : Int × Int) (hk : k < l.length) : ((cellsOf encD l).set (k * 2) (.int .i64 d.1)).set (k * 2 + 1) (.int .i64 d.2) = cellsOf encD (l.set k d) := by
  induction l generalizing k with
  | nil => simp at hk
  | cons x r ih =>
    match k with
    | 0 => rfl
    | k + 1 =>
      have h := ih k (by simpa using hk)
      show ((encD x ++ cellsOf encD r).set _ _).set _ _ = encD x ++ cellsOf encD (r.set k d)
      rw [← h, List.set_append, if_neg (by simp; omega), List.set_append, if_neg (by simp; omega)]
      have a1 : (k + 1) * 2 - (encD x).length = k * 2 := by rw [encD_len]; omega
      have a2 : (k + 1) * 2 + 1 - (encD x).length = k * 2 + 1 := by rw [encD_len]; omega
      rw [a1, a2]

theorem cellsD_rep (n : Nat) : cellsOf encD (List.replicate n (0, 0)) = List.replicate (n * 2) (Value.int .i64 0) := by
  induction n with
  | zero => rfl
  | succ n ih =>
    rw [show (n + 1) * 2 = n * 2 + 1 + 1 by omega, List.replicate_succ, List.replicate_succ, List.replicate_succ, ← ih]
    rfl
theorem cellsD_made (n : Nat) : (madeCells (Value.agg #[.int .i64 0, .int .i64 0]).cells (n * 2)).toList = cellsOf encD (List.replicate n (0, 0)) := by
  rw [cellsD_rep]
  apply List.ext_getElem?
  intro j
  by_cases hj : j < n * 2
  · have h2 : j % 2 = 0 ∨ j % 2 = 1 := by omega
    rcases h2 with h | h <;> simp [madeCells, hj, Value.cells, h]
  · simp [madeCells, hj]
theorem dotsTo_zero (xs : List Mk) : dotsTo xs 0 = List.replicate xs.length (0, 0) := by simp [dotsTo, dotsM]
theorem dotsTo_all (xs : List Mk) : dotsTo xs xs.length = dotsM xs := by simp [dotsTo]
/-- Dots in a row of the call's own. -/
abbrev RowD (W : World) (g n : Nat) (xs : List (Int × Int)) : Prop := W.ownsRow g 52 2 (.slice (some ⟨g, 0, none⟩) n n) n (cellsOf encD xs)
theorem RowD.set {W : World} {g k : Nat} {xs : List Mk} {m : Mk} (h : RowD W g xs.length (dotsTo xs k)) (hx : xs[k]? = some m) :
    RowD ((W.setCell ⟨g, k * 2, none⟩ (.int .i64 m.r)).setCell ⟨g, k * 2 + 1, none⟩ (.int .i64 m.c)) g xs.length (dotsTo xs (k + 1)) ∧
      W.grownBy ((W.setCell ⟨g, k * 2, none⟩ (.int .i64 m.r)).setCell ⟨g, k * 2 + 1, none⟩ (.int .i64 m.c)) (some g) := by
  have hk := (List.getElem?_eq_some_iff.1 hx).1
  obtain ⟨a, b⟩ := h.stored (k * 2) (.int .i64 m.r)
  obtain ⟨a', b'⟩ := a.stored (k * 2 + 1) (.int .i64 m.c)
  have e := cellsD_set2 (dotsTo xs k) k (m.r, m.c) (by rw [dotsTo_len (by omega)]; exact hk)
  rw [dotsTo_set hx] at e
  refine ⟨?_, b.trans b'⟩
  show World.ownsRow _ g _ 2 _ _ (cellsOf encD (dotsTo xs (k + 1)))
  rw [← e]
  exact a'

theorem own_holds {W : World} {B : Nat} {v : Value} {ds : List (Int × Int)} (h : W.ownsRow B 52 2 v ds.length (cellsOf encD ds)) : Holds W v ds := by
  obtain ⟨A, c, rfl, h1, h2, h3⟩ := SlAt.of_own encD_len h
  exact ⟨A, c, rfl, h3, h1, h2⟩
set_option maxHeartbeats 2000000 in
theorem qtyDotsO (A : Option Addr) (xs : List Mk) (cap : Nat) (w : World) (hx : MarksAt w A xs) (hm : xs.length ≤ 100000) :
    Calls Tryz.prog 61 #[.slice A xs.length cap] w fun e w' => (∃ v, e = .returned v ∧ w'.ownsRow w.heap.size 52 2 v (dotsM xs).length (cellsOf encD (dotsM xs))) ∧ Below w.heap.size w w' := by
  obtain ⟨ti0, hi0, hz0, hz1, hz2⟩ := info_parts infoD
  have HX := Lib.hid hx
  clear hx
  go_enter Tryz.func61, Tryz.ntmps61
  go_wp2_with (refine wpList_make_full _ rfl (.tmp 7) (.tmp 7) 25 rfl w.heap.size 52 ti0 _ 2 Tryz.underlying25 hi0 hz0 hz1 .i64 .i64 _ _ xs.length rfl rfl rfl rfl (by rw [hz2]; omega) (by simp [maxLen]; omega) (Nat.le_refl _) ?_; intro w1 hown hg)
  have HO := Lib.hid (show RowD w1 w.heap.size xs.length (dotsTo xs 0) from by rw [cellsD_made, ← dotsTo_zero] at hown; exact hown)
  have HB := Lib.hid ((Below.refl w.heap.size w).grown hg (Nat.le_refl _) (fun _ h => by cases h))
  clear hown hg hi0 hz0 hz1 hz2
  go_loopw [4, 5, 11] (fun _ _ i wr => ∃ (k : Nat), k ≤ xs.length ∧ i = .int .i64 k ∧ Hid (RowD wr w.heap.size xs.length (dotsTo xs k)) ∧ Hid (Below w.heap.size w wr)) (fun _ _ i _ => xs.length - (intOf i).toNat)
  case atStart => exact ⟨0, by omega, rfl, HO, HB⟩
  case round =>
    clear HO HB
    obtain ⟨k, hk, rfl, HO, HB⟩ := hrel
    by_cases hlt : k < xs.length
    · have i0 : (k : Int) < (xs.length : Int) := by omega
      obtain ⟨g, off, y, rfl, hbl, hx1, _, hc0, hc1, hc2, hc3⟩ := (HX.out.below HB.out).mark (j := k) hlt
      have HS := Lib.hid (HO.out.set hx1)
      have d0 : ∃ u, wr.cell? ⟨w.heap.size, k * 2, none⟩ = some u := by
        rw [HO.out.cellAt (k * 2) (by omega)]
        exact ⟨_, List.getElem?_eq_getElem (by rw [cellsOf_length encD_len, dotsTo_len (by omega)]; omega)⟩
      have d1 : ∃ u, wr.cell? ⟨w.heap.size, k * 2 + 1, none⟩ = some u := by
        rw [HO.out.cellAt (k * 2 + 1) (by omega)]
        exact ⟨_, List.getElem?_eq_getElem (by rw [cellsOf_length encD_len, dotsTo_len (by omega)]; omega)⟩
      obtain ⟨u0, d0⟩ := d0
      obtain ⟨u1, d1⟩ := d1
      have f0 := HO.out.frozenAt (k * 2)
      have f1 := HO.out.frozenAt (k * 2 + 1)
      have hlw : w.heap.size < wr.heap.size := World.block_lt_of_cell? wr _ d0
      clear hx1
      go_wp2_with fail
      go_roundw
      case rel => exact ⟨k + 1, by omega, by go_num, HS.out.1.alloc _, (HB.out.grown HS.out.2 HB.out.size (fun _ h => by cases h; exact Nat.le_refl _)).alloc (by have := HB.out.size; simp; omega) _⟩
      case measure => simp [intOf]; omega
    · obtain rfl : k = xs.length := by omega
      rw [dotsTo_all] at HO
      have i0 : ¬ (xs.length : Int) < (xs.length : Int) := by omega
      clear hlt hk
      go_wp2_with fail
      go_ret
      exact ⟨⟨_, rfl, by rw [dotsM_len xs]; exact HO.out⟩, HB.out⟩
theorem qtyDots (A : Option Addr) (xs : List Mk) (cap : Nat) (w : World) (hx : MarksAt w A xs) (hm : xs.length ≤ 100000) :
    Calls Tryz.prog 61 #[.slice A xs.length cap] w fun e w' => (∃ v, e = .returned v ∧ Holds w' v (dotsM xs)) ∧ Below w.heap.size w w' :=
  (qtyDotsO A xs cap w hx hm).mono fun _ _ ⟨⟨v, h1, h2⟩, h3⟩ => ⟨⟨v, h1, own_holds h2⟩, h3⟩

end

section
open Go.RowKit

theorem dotIsSet_h (v : Value) (xs : List (Int × Int)) (b : Bool) (w : World) (h : Holds w v xs) (hb : isSetB xs = b) : Calls Tryz.prog 94 #[v] w (OneB (.bool b) w) := by
  obtain ⟨A, n, rfl, h1, h2, h3⟩ := h
  subst hb
  exact dotIsSet A xs n w h1 (Nat.le_trans h2 h3)
theorem qtyIsList (A : Option Addr) (xs : List Mk) (cap : Nat) (b : Bool) (w : World) (hx : MarksAt w A xs) (hm : xs.length ≤ 100000) (hb : isSetB (dotsM xs) = b) :
    Calls Tryz.prog 83 #[.slice A xs.length cap] w (OneB (.bool b) w) := by
  have HD := Lib.hid (qtyDots A xs cap w hx hm)
  have HS := Lib.hid fun v W h => dotIsSet_h v (dotsM xs) b W h hb
  clear hx hm hb
  go_enter Tryz.func83, Tryz.ntmps83
  go_wp2_with fail
  refine HD.out.mono ?_
  rintro e w1 ⟨⟨v, rfl, hv⟩, hb1⟩
  have HV := Lib.hid hv
  have HB := Lib.hid hb1
  clear hv hb1
  go_wp2_with fail
  refine (HS.out _ _ HV.out).mono ?_
  rintro e w2 ⟨rfl, hb2⟩
  have HB2 := Lib.hid (below_trans HB.out hb2)
  clear hb2
  go_wp2_with fail
  go_ret
  exact ⟨rfl, HB2.out⟩
end

section
open Go.RowKit

/-- A byte's cell. -/
abbrev encB (b : UInt8) : List Value := [.int .u8 b.toNat]
theorem encB_len (x : UInt8) : (encB x).length = 1 := rfl
theorem encB_one (x : UInt8) : ∀ u ∈ encB x, u.oneCell' = true := by intro u hu; simp at hu; subst hu; rfl
abbrev BytesAt (w : World) (A : Option Addr) (xs : List UInt8) : Prop := SlAt encB 1 w A xs
theorem infoB : (Tryz.prog.info? 5).map (fun i => (i.zero, i.size, i.bytes)) = some (some (.int .u8 0), 1, 1) := by kernel_rfl
/-- A slice of bytes that reads as a list. -/
def HoldsB (w : World) (v : Value) (xs : List UInt8) : Prop := ∃ A c, v = .slice A xs.length c ∧ BytesAt w A xs ∧ xs.length ≤ c ∧ c ≤ maxLen
theorem HoldsB.below {w w' : World} {v : Value} {xs : List UInt8} (h : HoldsB w v xs) (hb : Below w.heap.size w w') : HoldsB w' v xs := by
  obtain ⟨A, c, rfl, h1, h2, h3⟩ := h
  exact ⟨A, c, rfl, h1.below hb, h2, h3⟩
theorem HoldsB.nil (w : World) : HoldsB w (.slice none 0 0) [] := ⟨none, 0, rfl, SlAt.nil, by simp, by simp [maxLen]⟩
theorem HoldsB.of_own {w : World} {base : Nat} {v : Value} {xs : List UInt8} (h : w.ownsRow base 5 1 v xs.length (cellsOf encB xs)) : HoldsB w v xs := by
  obtain ⟨A, c, rfl, h1, h2, h3⟩ := SlAt.of_own encB_len h
  exact ⟨A, c, rfl, h3, h1, h2⟩

/-- A world that differs from another one in blocks of S alone, and in new ones. -/
structure Chg (S : Nat → Prop) (w w' : World) : Prop where
  os : w'.os = w.os
  tape : w'.tape = w.tape
  output : w'.output = w.output
  size : w.heap.size ≤ w'.heap.size
  block : ∀ k, k < w.heap.size → ¬ S k → w'.heap[k]? = w.heap[k]?
section
variable {S T : Nat → Prop} {a b c : World}
theorem Chg.refl (S : Nat → Prop) (w : World) : Chg S w w := ⟨rfl, rfl, rfl, Nat.le_refl _, fun _ _ _ => rfl⟩
theorem Chg.trans (h : Chg S a b) (k : Chg T b c) (ht : ∀ i, i < a.heap.size → T i → S i) : Chg S a c :=
  ⟨k.os.trans h.os, k.tape.trans h.tape, k.output.trans h.output, Nat.le_trans h.size k.size, fun i hi hn => (k.block i (Nat.lt_of_lt_of_le hi h.size) fun e => hn (ht i hi e)).trans (h.block i hi hn)⟩
theorem Chg.of_below (h : Below a.heap.size a b) : Chg S a b := ⟨h.os, h.tape, h.output, h.size, fun k hk _ => h.block k hk⟩
theorem Chg.of_grown {row : Option Nat} (h : a.grownBy b row) (hs : ∀ k, row = some k → S k) : Chg S a b := ⟨h.os, h.tape, h.output, h.size, fun k hk hn => h.block k hk fun e => hn (hs k e.symm)⟩
theorem Chg.of_set (p : Addr) (u : Value) (hp : S p.block) : Chg S a (a.setCell p u) := ⟨rfl, rfl, rfl, by simp, fun k _ hn => Below.heap_setCell a p u k fun e => hn (e ▸ hp)⟩
theorem Chg.mono (h : Chg S a b) (hs : ∀ k, k < a.heap.size → S k → T k) : Chg T a b := ⟨h.os, h.tape, h.output, h.size, fun k hk hn => h.block k hk fun e => hn (hs k hk e)⟩
theorem Chg.below (h : Chg S a b) {B : Nat} (hB : B ≤ a.heap.size) (hs : ∀ k, S k → B ≤ k) : Below B a b := ⟨h.os, h.tape, h.output, h.size, fun k hk => h.block k (by omega) fun e => by have := hs k e; omega⟩
theorem Chg.cell (h : Chg S a b) {p : Addr} {v : Value} (hc : a.cell? p = some v) (hn : ¬ S p.block) : b.cell? p = some v := (World.cell?_of_block (h.block p.block (World.block_lt_of_cell? a p hc) hn)).trans hc
theorem Chg.holds (h : Chg S a b) {v : Value} {xs : List UInt8} (hv : HoldsB a v xs) (hn : ∀ k, v.ownBlock = some k → ¬ S k) : HoldsB b v xs := by
  obtain ⟨A, c, rfl, h1, h2, h3⟩ := hv
  refine ⟨A, c, rfl, fun h0 => ?_, h2, h3⟩
  obtain ⟨g, off, rfl, hb, hc⟩ := h1 h0
  exact ⟨g, off, rfl, Nat.lt_of_lt_of_le hb h.size, fun j x hx i u hu => h.cell (hc j x hx i u hu) (hn g rfl)⟩
end

theorem bytesWorld_below (w : World) (s : ByteArray) : Below w.heap.size w (Lib.bytesWorld w 5 s) := by
  refine ⟨rfl, rfl, rfl, ?_, fun k hk => Lib.bytesWorld_at_old w _ s k hk⟩
  have h := Lib.bytesWorld_at_new w 5 s
  have := (Array.getElem?_eq_some_iff.1 h).1
  omega
theorem bytesWorld_at (w : World) (s : ByteArray) : BytesAt (Lib.bytesWorld w 5 s) (some ⟨w.heap.size, 0, none⟩) s.data.toList := fun _ => by
  have h := Lib.bytesWorld_at_new w 5 s
  refine ⟨w.heap.size, 0, rfl, (Array.getElem?_eq_some_iff.1 h).1, fun j x hx i u hu => ?_⟩
  match i, hu with
  | 0, hu =>
    have hu' : Value.int .u8 x.toNat = u := by simpa using hu
    subst hu'
    simp only [World.cell?, h]
    have hj : j < s.data.size := by
      have := (List.getElem?_eq_some_iff.1 hx).1
      simpa using this
    have hx' : s.data[j]? = some x := by rw [← Array.getElem?_toList]; exact hx
    simp [Lib.bytesCells, Array.getElem?_append, hx']
    intro hle
    have e2 : s.size = s.data.size := rfl
    omega
  | i + 1, hu => simp at hu
theorem own_keep {w w' : World} {B : Nat} {e : TypeId} {v : Value} {n : Nat} {xs : List Value} (h : w.ownsRow B e 1 v n xs) (hb : Below w.heap.size w w') : w'.ownsRow B e 1 v n xs := by
  refine ⟨h.1, ?_⟩
  rcases h.2 with hn | ⟨r, cap, cur, rfl, h1, hg, rest⟩
  · exact .inl hn
  · exact .inr ⟨r, cap, cur, rfl, h1, (hb.block r (Array.getElem?_eq_some_iff.1 hg).1).trans hg, rest⟩
theorem convB (w : World) (B : Option Addr) (d : Nat) (ys : List UInt8) (h : HoldsB w (.slice B ys.length d) ys) : (convert 22 9 (.slice B ys.length d)).run Tryz.prog w = .ok (.string ⟨ys.toArray⟩) w := by
  obtain ⟨A, c, e, hat, _, _⟩ := h
  cases e
  match B with
  | none =>
    have h0 : ys = [] := by
      cases ys with
      | nil => rfl
      | cons x r => obtain ⟨_, _, h, _⟩ := hat (by simp); cases h
    subst h0
    exact Lib.run_convert_nil_bytes w _ _ 5 d Tryz.underlying22 Tryz.underlying5 Tryz.underlying9
  | some a =>
    refine run_convert_bytes_back w _ _ 5 a d ys Tryz.underlying22 Tryz.underlying5 Tryz.underlying9 fun j hj => ?_
    obtain ⟨b, off, e, _, hc⟩ := hat (by omega)
    cases e
    have := hc j _ (List.getElem?_eq_getElem hj) 0 _ rfl
    rw [Addr_add]
    simpa using this

theorem HoldsB.lit (W : World) (l : List UInt8) (hl : l.length ≤ maxLen) : HoldsB (W.alloc (.cells (cellsOf encB l).toArray 5)) (.slice (some ⟨W.heap.size, 0, none⟩) l.length l.length) l := by
  have ho : (W.alloc (.cells (cellsOf encB l).toArray 5)).ownsRow W.heap.size 5 1 (.slice (some ⟨W.heap.size, 0, none⟩) l.length l.length) l.length (cellsOf encB l) := by
    refine ⟨by rw [cellsOf_length encB_len], .inr ⟨W.heap.size, l.length, (cellsOf encB l).toArray, rfl, Nat.le_refl _, heap_alloc_new W _, Nat.le_refl _, hl, ?_, ?_⟩⟩
    · rw [List.size_toArray, cellsOf_length encB_len]
    · rw [List.toList_toArray, List.take_of_length_le (by rw [cellsOf_length encB_len]; exact Nat.le_refl _)]
  exact HoldsB.of_own ho
theorem strCells_bytes (xs : List UInt8) : Lib.strCells ⟨xs.toArray⟩ = cellsOf encB xs := by
  show xs.map _ = _
  induction xs with
  | nil => rfl
  | cons x r ih => rw [List.map_cons, ih]; rfl

/-- A row of bytes of the call's own. -/
abbrev RowB (W : World) (B : Nat) (v : Value) (xs : List UInt8) : Prop := W.ownsRow B 5 1 v xs.length (cellsOf encB xs)
theorem RowB.chg {W W' : World} {B : Nat} {v : Value} {xs : List UInt8} {S : Nat → Prop} (h : RowB W B v xs) (hc : Chg S W W') (hn : ∀ k, v.ownBlock = some k → ¬ S k) : RowB W' B v xs := by
  refine ⟨h.1, ?_⟩
  rcases h.2 with hn' | ⟨r, cap, cur, rfl, hb, hg, rest⟩
  · exact .inl hn'
  · exact .inr ⟨r, cap, cur, rfl, hb, (hc.block r (Array.getElem?_eq_some_iff.1 hg).1 (hn r rfl)).trans hg, rest⟩
theorem RowB.below {W W' : World} {B : Nat} {v : Value} {xs : List UInt8} (h : RowB W B v xs) (hb : Below W.heap.size W W') : RowB W' B v xs := h.chg (S := fun _ => False) (.of_below hb) (fun _ _ => id)
theorem RowB.nil (W : World) (B : Nat) : RowB W B (.slice none 0 0) [] := World.ownsRow_nil _ _ _ _

end

section
open Go.RowKit

theorem toNat8 (b : UInt8) : b.toNat < 256 := b.toBitVec.isLt
theorem size_mk (l : List UInt8) : (ByteArray.mk l.toArray).size = l.length := by show l.toArray.size = _; simp
theorem app_mk (a b : List UInt8) : (ByteArray.mk a.toArray ++ ByteArray.mk b.toArray) = ByteArray.mk (a ++ b).toArray := by apply ByteArray.ext; simp

/-- A string's cell. -/
abbrev encS (l : List UInt8) : List Value := [.string ⟨l.toArray⟩]
theorem encS_len (x : List UInt8) : (encS x).length = 1 := rfl
abbrev StrsAt (w : World) (A : Option Addr) (xs : List (List UInt8)) : Prop := SlAt encS 1 w A xs
/-- A slice of strings that reads as a list. -/
def HoldsS (w : World) (v : Value) (xs : List (List UInt8)) : Prop := ∃ A c, v = .slice A xs.length c ∧ StrsAt w A xs ∧ xs.length ≤ c ∧ c ≤ maxLen
theorem HoldsS.below {w w' : World} {v : Value} {xs : List (List UInt8)} (h : HoldsS w v xs) (hb : Below w.heap.size w w') : HoldsS w' v xs := by
  obtain ⟨A, c, rfl, h1, h2, h3⟩ := h
  exact ⟨A, c, rfl, h1.below hb, h2, h3⟩
theorem HoldsS.nil (w : World) : HoldsS w (.slice none 0 0) [] := ⟨none, 0, rfl, SlAt.nil, by simp, by simp [maxLen]⟩
theorem HoldsS.at {w : World} {A : Option Addr} {c : Nat} {xs : List (List UInt8)} (h : HoldsS w (.slice A xs.length c) xs) : StrsAt w A xs := by
  obtain ⟨_, _, e, h1, _⟩ := h
  cases e
  exact h1
theorem HoldsS.max {w : World} {v : Value} {xs : List (List UInt8)} (h : HoldsS w v xs) : xs.length ≤ maxLen := by
  obtain ⟨_, _, _, _, h2, h3⟩ := h
  omega
/-- A row of strings of the call's own. -/
abbrev RowS (W : World) (B : Nat) (v : Value) (xs : List (List UInt8)) : Prop := W.ownsRow B 9 1 v xs.length (cellsOf encS xs)
theorem HoldsS.of_own {w : World} {B : Nat} {v : Value} {xs : List (List UInt8)} (h : RowS w B v xs) : HoldsS w v xs := by
  obtain ⟨A, c, rfl, h1, h2, h3⟩ := SlAt.of_own encS_len h
  exact ⟨A, c, rfl, h3, h1, h2⟩
theorem SlAt.lit {α : Type} {enc : α → List Value} (hk : ∀ x, (enc x).length = 1) (W : World) (t : TypeId) (xs : List α) (hm : xs.length ≤ maxLen) :
    SlAt enc 1 (W.alloc (.cells (cellsOf enc xs).toArray t)) (some ⟨W.heap.size, 0, none⟩) xs := by
  have hl : (cellsOf enc xs).length = xs.length := by rw [cellsOf_length hk, Nat.mul_one]
  have h := World.ownsRow_lit (base := 0) (e := t) (size := 1) W (cellsOf enc xs).toArray xs.length (Nat.zero_le _) hm (by rw [List.size_toArray, hl, Nat.mul_one])
  rw [List.toList_toArray] at h
  obtain ⟨A, c, e, _, _, h3⟩ := SlAt.of_own hk h
  injection e with e1 e2 e3
  rw [e1]
  exact h3
end

end Go.Proofs.YtpnemekkpifbaaaGreat
