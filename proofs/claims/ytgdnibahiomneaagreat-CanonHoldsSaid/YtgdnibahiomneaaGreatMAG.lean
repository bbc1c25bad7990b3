/- Several texts in one: VecB, CtxL, GenA, QtyK, QtyA, QtyB, QtyC, QtyD, QtyE, QtyF, QtyG, QtyH, QtyI, GenS, NamK, NamA. -/
import Derived.Test.YtgdnibahiomneaaGreatMAF
import Derived.Test.YtgdnibahiomneaaGreatMAB
import Derived.Outline
import Derived.WalkSpells
import Derived.IntWalk
import Derived.KernelRfl
import Derived.Deep.CutBlock
import Derived.Test.YtgdnibahiomneaaGreatMAC
namespace Go.Proofs.YtgdnibahiomneaaGreat

section
open Go.RowKit

theorem grown_of_below2 {a w : World} (h : Below a.heap.size a w) (row : Option Nat) : a.grownBy w row := ⟨h.os, h.tape, h.output, h.size, fun i hi _ => h.block i hi⟩

/-- The box of the dot, and a row of the call's own. -/
def RV (w : World) (r0 c0 : Int) (v : Value) (ys : List (Int × Int)) (W : World) : Prop :=
  KS w r0 c0 W ∧ W.ownsRow (w.heap.size + 1) 51 2 v ys.length (cellsOf encD ys)
section
variable {w : World} {r0 c0 : Int} {v : Value} {ys : List (Int × Int)} {W W' : World}
theorem RV.below (h : RV w r0 c0 v ys W) (hb : Below W.heap.size W W') : RV w r0 c0 v ys W' :=
  ⟨.of (h.1.2.2.trans (hb.mono h.1.size)), h.2.kept (grown_of_below2 hb none) (by cases v.ownBlock <;> simp)⟩
theorem RV.far (h : RV w r0 c0 v ys W) (p : FarBy) : RV w r0 c0 v ys (far W p) := h.below (below_far W p)
theorem RV.app (h : RV w r0 c0 v ys W) (o : Obj) {v1 : Value} {w1 : World} {zs : List (Int × Int)} (ho : w1.ownsRow (w.heap.size + 1) 51 2 v1 (ys ++ zs).length (cellsOf encD (ys ++ zs))) (hg : (W.alloc o).grownBy w1 v.ownBlock) : RV w r0 c0 v1 (ys ++ zs) w1 :=
  ⟨KS.grown (h.1.alloc o) hg (fun k hk => (h.2.lt k hk).1), ho⟩
theorem RV.cells (h : RV w r0 c0 v ys W) : W.cell? ⟨w.heap.size, 0, none⟩ = some (.int .i64 r0) ∧ W.cell? ⟨w.heap.size, 1, none⟩ = some (.int .i64 c0) ∧ w.heap.size < W.heap.size ∧ Below w.heap.size w W :=
  ⟨h.1.1, h.1.2.1, by have := h.1.size; omega, h.1.below⟩
end


/-- What a round reads, wherever what was there is as it was. -/
theorem RV.reads {w : World} {r0 c0 : Int} {v : Value} {ys : List (Int × Int)} {W : World} (h : RV w r0 c0 v ys W) {b o : Nat} {r c : Int} (hb : b < w.heap.size) (h0 : w.cell? ⟨b, o, none⟩ = some (.int .i64 r)) (h1 : w.cell? ⟨b, o + 1, none⟩ = some (.int .i64 c)) :
    ∀ p, (Go.Proofs.YtgdnibahiomneaaGreat.far W p).cell? ⟨w.heap.size, 0, none⟩ = some (.int .i64 r0) ∧ (Go.Proofs.YtgdnibahiomneaaGreat.far W p).cell? ⟨w.heap.size, 1, none⟩ = some (.int .i64 c0) ∧ (Go.Proofs.YtgdnibahiomneaaGreat.far W p).cell? ⟨b, o, none⟩ = some (.int .i64 r) ∧ (Go.Proofs.YtgdnibahiomneaaGreat.far W p).cell? ⟨b, o + 1, none⟩ = some (.int .i64 c) := fun p => by
  obtain ⟨k0, k1, kz, kb⟩ := h.cells
  have hz := kb.size
  exact ⟨cell_far (p := p) (a := ⟨w.heap.size, 0, none⟩) kz k0, cell_far (p := p) (a := ⟨w.heap.size, 1, none⟩) kz k1,
    cell_far (p := p) (a := ⟨b, o, none⟩) (by show b < _; omega) ((kb.cell (p := ⟨b, o, none⟩) hb).trans h0), cell_far (p := p) (a := ⟨b, o + 1, none⟩) (by show b < _; omega) ((kb.cell (p := ⟨b, o + 1, none⟩) hb).trans h1)⟩
/-- All dots are valid. -/
def ofOk (l : List (Int × Int)) : Bool := l.all fun p => validD p.1 p.2
end

section
open Go.RowKit

theorem inc_nodup {l : List (Int × Int)} (h : Inc l) : l.Nodup := List.Pairwise.imp (fun {a b} hab e => by subst e; rw [ltD_irrefl] at hab; cases hab) h
end

section
open Go.RowKit

/-- One result that is known, nothing changed. -/
def One (v : Value) (w : World) (e : Ending) (w' : World) : Prop := e = .returned v ∧ w = w'
/-- One result that is known, nothing changed of what was there. -/
def OneB (v : Value) (w : World) (e : Ending) (w' : World) : Prop := e = .returned v ∧ Below w.heap.size w w'
theorem OneB.int {k : IntKind} {a b : Int} {w w' : World} (h : a = b) (hb : Below w.heap.size w w') : OneB (.int k b) w (.returned (.int k a)) w' := by subst h; exact ⟨rfl, hb⟩
theorem One.int {k : IntKind} {a b : Int} (w : World) (h : a = b) : One (.int k b) w (.returned (.int k a)) w := by subst h; exact ⟨rfl, rfl⟩
theorem One.bool {a b : Bool} (w : World) (h : a = b) : One (.bool b) w (.returned (.bool a)) w := by subst h; exact ⟨rfl, rfl⟩
theorem OneB.bool {a b : Bool} {w w' : World} (h : a = b) (hb : Below w.heap.size w w') : OneB (.bool b) w (.returned (.bool a)) w' := by subst h; exact ⟨rfl, hb⟩
theorem OneB.pair {v v' u u' : Value} {w w' : World} (h : v = v') (k : u = u') (hb : Below w.heap.size w w') : OneB (.tuple #[v', u']) w (.returned (.tuple #[v, u])) w' := by subst h k; exact ⟨rfl, hb⟩
theorem One.below {v : Value} {w w' : World} {e : Ending} (h : One v w e w') : OneB v w e w' := by obtain ⟨rfl, rfl⟩ := h; exact ⟨rfl, Below.refl _ _⟩
theorem OneB.far {P : Program} {f : FuncId} {args : Array Value} {w : World} {p : FarBy} {v : Value}
    (h : Calls P f args (Go.Proofs.YtgdnibahiomneaaGreat.far w p) (OneB v (Go.Proofs.YtgdnibahiomneaaGreat.far w p))) :
    Calls P f args (Go.Proofs.YtgdnibahiomneaaGreat.far w p) fun e w'' => e = .returned v ∧ ∃ q : FarBy, w'' = Go.Proofs.YtgdnibahiomneaaGreat.far w q := far_of h
theorem One.far {P : Program} {f : FuncId} {args : Array Value} {w : World} {p : FarBy} {v : Value}
    (h : Calls P f args (Go.Proofs.YtgdnibahiomneaaGreat.far w p) (One v (Go.Proofs.YtgdnibahiomneaaGreat.far w p))) :
    Calls P f args (Go.Proofs.YtgdnibahiomneaaGreat.far w p) fun e w'' => e = .returned v ∧ ∃ q : FarBy, w'' = Go.Proofs.YtgdnibahiomneaaGreat.far w q := far_of_same h

theorem eqT {a b : Int} (h : a = b) : (a == b) = true := by simpa using h
theorem eqF {a b : Int} (h : a ≠ b) : (a == b) = false := by simpa using h
theorem SlAt.cell1 {α : Type} {f : α → Value} {w : World} {A : Option Addr} {xs : List α} (h : SlAt (fun x => [f x]) 1 w A xs) {j : Nat} (hj : j < xs.length) :
    ∃ b off, A = some ⟨b, off, none⟩ ∧ b < w.heap.size ∧ w.cell? ⟨b, off + j, none⟩ = some (f xs[j]) := by
  obtain ⟨b, off, rfl, hb, hc⟩ := h (by omega)
  exact ⟨b, off, rfl, hb, by simpa using hc j _ (List.getElem?_eq_getElem hj) 0 _ rfl⟩
end

section

/-- A mark: replica and counter of its dot, quantity, time. -/
structure Mk where
  r : Int
  c : Int
  q : Int
  t : Nat
deriving DecidableEq
def Mk.zero : Mk := ⟨0, 0, 0, 0⟩
def qtyN (q : Int) : Bool := decide (1 ≤ q) && decide (q ≤ 2147483647)
def newerN (a b : Mk) : Bool :=
  if a.t = b.t then (if a.r = b.r then (if a.c = b.c then decide (b.q < a.q) else decide (b.c < a.c)) else decide (b.r < a.r)) else decide (b.t < a.t)
theorem newerN_iff (a b : Mk) : newerN a b = true ↔ b.t < a.t ∨ (a.t = b.t ∧ (b.r < a.r ∨ (a.r = b.r ∧ (b.c < a.c ∨ (a.c = b.c ∧ b.q < a.q))))) := by
  unfold newerN
  split
  · split
    · split <;> simp <;> omega
    · simp; omega
  · simp; omega
theorem newerN_total {a b : Mk} (h1 : newerN a b = false) (h2 : newerN b a = false) : a = b := by
  have k1 : ¬ (b.t < a.t ∨ (a.t = b.t ∧ (b.r < a.r ∨ (a.r = b.r ∧ (b.c < a.c ∨ (a.c = b.c ∧ b.q < a.q)))))) := fun h => by rw [(newerN_iff a b).2 h] at h1; cases h1
  have k2 : ¬ (a.t < b.t ∨ (b.t = a.t ∧ (a.r < b.r ∨ (b.r = a.r ∧ (a.c < b.c ∨ (b.c = a.c ∧ a.q < b.q)))))) := fun h => by rw [(newerN_iff b a).2 h] at h2; cases h2
  cases a; cases b
  simp only at k1 k2
  simp only [Mk.mk.injEq]
  omega
/-- What is in the list, and what nothing in it is newer than. -/
def IsMax (l : List Mk) (m : Mk) : Prop := m ∈ l ∧ ∀ x ∈ l, newerN x m = false
theorem IsMax.unique {l : List Mk} {a b : Mk} (h1 : IsMax l a) (h2 : IsMax l b) : a = b := newerN_total (h2.2 a h1.1) (h1.2 b h2.1)
theorem IsMax.same {l k : List Mk} {a b : Mk} (h : ∀ x, x ∈ l ↔ x ∈ k) (h1 : IsMax l a) (h2 : IsMax k b) : a = b :=
  h1.unique ⟨(h b).2 h2.1, fun x hx => h2.2 x ((h x).1 hx)⟩
/-- The greatest time is that of the newest mark. -/
theorem IsMax.time {l : List Mk} {m : Mk} (h : IsMax l m) : ∀ x ∈ l, x.t ≤ m.t := fun x hx => by
  rcases Nat.lt_or_ge m.t x.t with h1 | h1
  · have := h.2 x hx
    rw [(newerN_iff x m).2 (.inl h1)] at this
    cases this
  · exact h1
/-- What is found out in a loop over a list. -/
theorem all_yes {α : Type} {p : α → Bool} {xs : List α} (h : ∀ (j : Nat) (x : α), j < xs.length → xs[j]? = some x → p x = true) : xs.all p = true := by
  rw [List.all_eq_true]
  intro x hx
  obtain ⟨j, hj⟩ := List.mem_iff_getElem?.1 hx
  exact h j x (List.getElem?_eq_some_iff.1 hj).1 hj
theorem all_no {α : Type} {p : α → Bool} {xs : List α} {j : Nat} {x : α} (hx : xs[j]? = some x) (h : p x = false) : xs.all p = false := by
  cases e : xs.all p with
  | false => rfl
  | true => rw [List.all_eq_true] at e; have := e x (List.mem_of_getElem? hx); rw [h] at this; cases this
theorem step_all {α : Type} {p : α → Bool} {xs : List α} {m : Nat} {x : α} (h : ∀ (j : Nat) (y : α), j < m → xs[j]? = some y → p y = true) (hx : xs[m]? = some x) (hp : p x = true) : ∀ (j : Nat) (y : α), j < m + 1 → xs[j]? = some y → p y = true := fun j y hj hy => by
  by_cases e : j = m
  · subst e; rw [hx] at hy; cases hy; exact hp
  · exact h j y (by omega) hy
theorem take_step {α : Type} {xs : List α} {m : Nat} {x : α} (hx : xs[m]? = some x) : xs.take (m + 1) = xs.take m ++ [x] := by
  obtain ⟨h1, h2⟩ := List.getElem?_eq_some_iff.1 hx
  rw [List.take_succ_eq_append_getElem h1, h2]
section
variable {valid : Mk → Bool} {l : List Mk} {m : Mk}
end

section
variable {valid : Mk → Bool} {l : List Mk}
end

end

section
open Go.RowKit

/-- A mark as a value, and its four cells. -/
abbrev mkV (m : Mk) : Value := .agg #[.int .i64 m.r, .int .i64 m.c, .int .i64 m.q, .int .u64 (m.t : Int)]
abbrev encM (m : Mk) : List Value := [.int .i64 m.r, .int .i64 m.c, .int .i64 m.q, .int .u64 (m.t : Int)]
/-- Which marks are valid. -/
def validM (m : Mk) : Bool := validD m.r m.c && (qtyN m.q && decide (m.t ≠ 0))

set_option maxHeartbeats 400000 in
theorem qtyValid (q : Int) (w : World) : Calls Tryz.prog 88 #[.int .i64 q] w (One (.bool (qtyN q)) w) := by
  go_enter Tryz.func88, Tryz.ntmps88
  go_wp2
  all_goals
    go_ret
    refine One.bool _ ?_
    simp [qtyN, *]
    try omega
set_option maxHeartbeats 400000 in
theorem qtyMark (m : Mk) (w : World) : Calls Tryz.prog 71 #[mkV m] w (OneB (.bool (validM m)) w) := by
  obtain ⟨r, c, q, t⟩ := m
  have h1 := fun W => dotValid r c W
  have h2 := fun W => qtyValid q W
  have hv : validM ⟨r, c, q, t⟩ = (validD r c && (qtyN q && decide (t ≠ 0))) := rfl
  generalize validM ⟨r, c, q, t⟩ = v at hv ⊢
  generalize validD r c = x at h1 hv
  generalize qtyN q = y at h2 hv
  have H1 := Lib.hid h1
  have H2 := Lib.hid h2
  have ht : ((t : Int) != 0) = decide (t ≠ 0) := by
    rw [Bool.eq_iff_iff]; simp
  generalize decide (t ≠ 0) = z at ht hv
  clear h1 h2
  cases x with
  | false =>
    obtain rfl : v = false := hv
    go_enter Tryz.func71, Tryz.ntmps71
    go_wp2_with fail
    refine (H1.out _).mono ?_
    rintro e w1 ⟨rfl, hb1⟩
    have HB := Lib.hid (below_trans ((Below.refl _ w).alloc (Nat.le_refl _) _) hb1)
    clear hb1
    go_wp2_with fail
    go_ret
    exact ⟨rfl, HB.out⟩
  | true =>
    cases y with
    | false =>
      obtain rfl : v = false := hv
      go_enter Tryz.func71, Tryz.ntmps71
      go_wp2_with fail
      refine (H1.out _).mono ?_
      rintro e w1 ⟨rfl, hb1⟩
      obtain ⟨hc1, hf1⟩ := bcell hb1
      have HB := Lib.hid (below_trans ((Below.refl _ w).alloc (Nat.le_refl _) _) hb1)
      clear hb1
      go_wp2_with fail
      refine (H2.out _).mono ?_
      rintro e w2 ⟨rfl, rfl⟩
      go_wp2_with fail
      go_ret
      exact ⟨rfl, HB.out⟩
    | true =>
      obtain rfl : v = z := hv
      go_enter Tryz.func71, Tryz.ntmps71
      go_wp2_with fail
      refine (H1.out _).mono ?_
      rintro e w1 ⟨rfl, hb1⟩
      obtain ⟨hc1, hf1⟩ := bcell hb1
      have HB := Lib.hid (below_trans ((Below.refl _ w).alloc (Nat.le_refl _) _) hb1)
      clear hb1
      go_wp2_with fail
      refine (H2.out _).mono ?_
      rintro e w2 ⟨rfl, rfl⟩
      go_wp2_with fail
      go_ret
      exact ⟨rfl, HB.out⟩
end

section
open Go.RowKit

set_option maxHeartbeats 1000000 in
theorem eqInDot (d : Nat) (r c r' c' : Int) (w : World) : (Op.equalIn (d + 2) 51 (.agg #[.int .i64 r, .int .i64 c]) (.agg #[.int .i64 r', .int .i64 c'])).run Tryz.prog w = .ok (r == r' && c == c') w := by
  have hS : Tryz.prog.underlying 51 = some (.struct (Tryz.prog.fieldsOf 51)) := by kernel_rfl
  have hp : Tryz.prog.stoodInHeld 51 = false := by kernel_rfl
  rw [run_equalIn_agg w (d + 1) 51 _ _ hS hp]
  simp only [Program.fieldsOf, Tryz.underlying51]
  go_simp
  by_cases h1 : r = r' <;> by_cases h2 : c = c' <;> simp [h1, h2]
set_option maxHeartbeats 1000000 in
theorem eqInMark (d : Nat) (a b : Mk) (w : World) : (Op.equalIn (d + 3) 53 (mkV a) (mkV b)).run Tryz.prog w = .ok (decide (a = b)) w := by
  obtain ⟨r, c, q, t⟩ := a
  obtain ⟨r', c', q', t'⟩ := b
  have hS : Tryz.prog.underlying 53 = some (.struct (Tryz.prog.fieldsOf 53)) := by kernel_rfl
  have hp : Tryz.prog.stoodInHeld 53 = false := by kernel_rfl
  have hD := fun w => eqInDot d r c r' c' w
  rw [run_equalIn_agg w (d + 2) 53 _ _ hS hp]
  simp only [Program.fieldsOf, Tryz.underlying53]
  go_simp
  have ht : ((t : Int) = (t' : Int)) = (t = t') := by rw [Int.natCast_inj]
  simp only [ht]
  by_cases h1 : r = r' <;> by_cases h2 : c = c' <;> by_cases h3 : q = q' <;> by_cases h4 : t = t' <;> simp [h1, h2, h3, h4]
theorem neqMark (a b : Mk) (w : World) : (binOp .neq 53 (mkV a) (mkV b)).run Tryz.prog w = .ok (.bool (!decide (a = b))) w := by
  rw [run_neq_struct, show (10000 : Nat) = 9997 + 3 from rfl, eqInMark]; rfl
theorem encM_len (m : Mk) : (encM m).length = 4 := rfl
theorem encM_one (m : Mk) : ∀ u ∈ encM m, u.oneCell' = true := by
  intro u hu
  simp [encM] at hu
  rcases hu with rfl | rfl | rfl | rfl <;> rfl
theorem infoM : (Tryz.prog.info? 53).map (fun i => (i.zero, i.size, i.bytes)) = some (some (.agg #[.int .i64 0, .int .i64 0, .int .i64 0, .int .u64 0]), 4, 32) := by kernel_rfl
abbrev MarksAt (w : World) (A : Option Addr) (xs : List Mk) : Prop := SlAt encM 4 w A xs
/-- A slice of marks that reads as a list. -/
def HoldsM (w : World) (v : Value) (xs : List Mk) : Prop := ∃ A c, v = .slice A xs.length c ∧ MarksAt w A xs ∧ xs.length ≤ c ∧ c ≤ maxLen
theorem HoldsM.below {w w' : World} {v : Value} {xs : List Mk} (h : HoldsM w v xs) (hb : Below w.heap.size w w') : HoldsM w' v xs := by
  obtain ⟨A, c, rfl, h1, h2, h3⟩ := h
  exact ⟨A, c, rfl, h1.below hb, h2, h3⟩
theorem HoldsM.nil (w : World) : HoldsM w (.slice none 0 0) [] := ⟨none, 0, rfl, SlAt.nil, by simp, by simp [maxLen]⟩
theorem HoldsM.at {w : World} {A : Option Addr} {n c : Nat} {xs : List Mk} (h : HoldsM w (.slice A n c) xs) : n = xs.length ∧ MarksAt w A xs ∧ xs.length ≤ maxLen := by
  obtain ⟨_, _, e, h1, h2, h3⟩ := h
  cases e
  exact ⟨rfl, h1, by omega⟩
theorem SlAt.mark {w : World} {A : Option Addr} {xs : List Mk} (h : MarksAt w A xs) {j : Nat} (hj : j < xs.length) :
    ∃ b off, ∃ m : Mk, A = some ⟨b, off, none⟩ ∧ b < w.heap.size ∧ xs[j]? = some m ∧ xs[j] = m ∧ w.cell? ⟨b, off + j * 4, none⟩ = some (.int .i64 m.r) ∧ w.cell? ⟨b, off + j * 4 + 1, none⟩ = some (.int .i64 m.c) ∧ w.cell? ⟨b, off + j * 4 + 2, none⟩ = some (.int .i64 m.q) ∧ w.cell? ⟨b, off + j * 4 + 3, none⟩ = some (.int .u64 (m.t : Int)) := by
  obtain ⟨b, off, rfl, hb, hc⟩ := h (by omega)
  have hx := List.getElem?_eq_getElem hj
  exact ⟨b, off, xs[j], rfl, hb, hx, rfl, by simpa using hc j _ hx 0 _ rfl, hc j _ hx 1 _ rfl, hc j _ hx 2 _ rfl, hc j _ hx 3 _ rfl⟩

end

section
open Go.RowKit

end

section
open Go.RowKit

/-- A block that holds a mark. -/
def BlkM (W : World) (g : Nat) (m : Mk) : Prop := W.heap[g]? = some (.cells #[.int .i64 m.r, .int .i64 m.c, .int .i64 m.q, .int .u64 (m.t : Int)] 53 (0, 0))
/-- A mark is stored. -/
abbrev setM (W : World) (g : Nat) (m : Mk) : World := (((W.setCell ⟨g, 0, none⟩ (.int .i64 m.r)).setCell ⟨g, 1, none⟩ (.int .i64 m.c)).setCell ⟨g, 2, none⟩ (.int .i64 m.q)).setCell ⟨g, 3, none⟩ (.int .u64 (m.t : Int))
section
variable {W W' : World} {g : Nat} {m : Mk}
theorem BlkM.lt (h : BlkM W g m) : g < W.heap.size := (Array.getElem?_eq_some_iff.1 h).1
theorem BlkM.cell0 (h : BlkM W g m) : W.cell? ⟨g, 0, none⟩ = some (.int .i64 m.r) := by simp [World.cell?, show W.heap[g]? = _ from h]
theorem BlkM.cell1 (h : BlkM W g m) : W.cell? ⟨g, 1, none⟩ = some (.int .i64 m.c) := by simp [World.cell?, show W.heap[g]? = _ from h]
theorem BlkM.cell2 (h : BlkM W g m) : W.cell? ⟨g, 2, none⟩ = some (.int .i64 m.q) := by simp [World.cell?, show W.heap[g]? = _ from h]
theorem BlkM.frozen (h : BlkM W g m) (k : Nat) : W.frozen? ⟨g, k, none⟩ = false := by simp [World.frozen?, show W.heap[g]? = _ from h]
theorem BlkM.below (h : BlkM W g m) (hb : Below W.heap.size W W') : BlkM W' g m := (hb.block g h.lt).trans h
theorem BlkM.other (h : BlkM W g m) {g' : Nat} (hne : g ≠ g') (o : Nat) (z : Value) : BlkM (W.setCell ⟨g', o, none⟩ z) g m := (Below.heap_setCell W ⟨g', o, none⟩ z g hne).trans h
theorem BlkM.new (W : World) (m : Mk) : BlkM (W.alloc (.cells #[.int .i64 m.r, .int .i64 m.c, .int .i64 m.q, .int .u64 (m.t : Int)] 53)) W.heap.size m := heap_alloc_new W _
theorem block_set1 {cs : Array Value} {t : TypeId} {k : Nat} {x : Value} (h : W.heap[g]? = some (.cells cs t (0, 0))) : (W.setCell ⟨g, k, none⟩ x).heap[g]? = some (.cells (cs.setIfInBounds k x) t (0, 0)) := by
  obtain ⟨hlt, hk⟩ := Array.getElem?_eq_some_iff.1 h
  show (W.heap.modify g _)[g]? = _
  rw [Array.getElem?_eq_getElem (by rw [Array.size_modify]; exact hlt), Array.getElem_modify_self, hk]
  rfl
theorem BlkM.set (h : BlkM W g m) (m' : Mk) : BlkM (setM W g m') g m' := by
  have h4 := block_set1 (k := 3) (x := .int .u64 (m'.t : Int)) (block_set1 (k := 2) (x := .int .i64 m'.q) (block_set1 (k := 1) (x := .int .i64 m'.c) (block_set1 (k := 0) (x := .int .i64 m'.r) h)))
  have e : ((((#[.int .i64 m.r, .int .i64 m.c, .int .i64 m.q, .int .u64 (m.t : Int)] : Array Value).setIfInBounds 0 (.int .i64 m'.r)).setIfInBounds 1 (.int .i64 m'.c)).setIfInBounds 2 (.int .i64 m'.q)).setIfInBounds 3 (.int .u64 (m'.t : Int)) = #[.int .i64 m'.r, .int .i64 m'.c, .int .i64 m'.q, .int .u64 (m'.t : Int)] := by simp
  rw [e] at h4
  exact h4
end

end

section
open Go.RowKit

end

section
open Go.RowKit

end

section
open Go.RowKit

/-- A number's cell. -/
abbrev encZ (n : Int) : List Value := [.int .i64 n]
abbrev NumsAt (w : World) (A : Option Addr) (xs : List Int) : Prop := SlAt encZ 1 w A xs
/-- A slice of numbers that reads as a list. -/
def HoldsZ (w : World) (v : Value) (xs : List Int) : Prop := ∃ A c, v = .slice A xs.length c ∧ NumsAt w A xs ∧ xs.length ≤ c ∧ c ≤ maxLen
theorem HoldsZ.below {w w' : World} {v : Value} {xs : List Int} (h : HoldsZ w v xs) (hb : Below w.heap.size w w') : HoldsZ w' v xs := by
  obtain ⟨A, c, rfl, h1, h2, h3⟩ := h
  exact ⟨A, c, rfl, h1.below hb, h2, h3⟩
theorem HoldsZ.nil (w : World) : HoldsZ w (.slice none 0 0) [] := ⟨none, 0, rfl, SlAt.nil, by simp, by simp [maxLen]⟩

end

section
open Go.RowKit

/-- The dots of marks. -/
def dotsM (xs : List Mk) : List (Int × Int) := xs.map fun m => (m.r, m.c)
theorem dotsM_len (xs : List Mk) : (dotsM xs).length = xs.length := by simp [dotsM]
/-- The first k dots of marks, the other ones are zero: what lies in a made slice. -/
def dotsTo (xs : List Mk) (k : Nat) : List (Int × Int) := dotsM (xs.take k) ++ List.replicate (xs.length - k) (0, 0)
theorem dotsTo_len {xs : List Mk} {k : Nat} (hk : k ≤ xs.length) : (dotsTo xs k).length = xs.length := by
  simp [dotsTo, dotsM_len]; omega
theorem dotsTo_set {xs : List Mk} {k : Nat} {m : Mk} (hx : xs[k]? = some m) : (dotsTo xs k).set k (m.r, m.c) = dotsTo xs (k + 1) := by
  have hk := (List.getElem?_eq_some_iff.1 hx).1
  have e1 : (dotsM (xs.take k)).length = k := by rw [dotsM_len, List.length_take]; omega
  have e2 : xs.length - k = (xs.length - (k + 1)) + 1 := by omega
  unfold dotsTo
  rw [List.set_append, if_neg (by omega), e1, Nat.sub_self, e2, List.replicate_succ, List.set_cons_zero, take_step hx]
  simp [dotsM]
theorem cellsD_set2 (l : List (Int × Int)) (k : Nat) (d : Int × Int) (hk : k < l.length) : ((cellsOf encD l).set (k * 2) (.int .i64 d.1)).set (k * 2 + 1) (.int .i64 d.2) = cellsOf encD (l.set k d) := by
  induction l generalizing k with
  | nil => simp at hk
  | cons x r ih =>
    match k with
    | 0 => rfl
    | k + 1 =>
      have h := ih k (by simpa using hk)
      show ((encD x ++ cellsOf encD r).set _ _).set _ _ = encD x ++ cellsOf encD (r.set k d)
      rw [← h, List.set_append, if_neg (by simp; omega), List.set_append, if_neg (by simp; omega)]
      have a1 : (k + 1) * 2 - (encD x).length = k * 2 := by rw [encD_len]; omega
      have a2 : (k + 1) * 2 + 1 - (encD x).length = k * 2 + 1 := by rw [encD_len]; omega
      rw [a1, a2]

theorem cellsD_rep (n : Nat) : cellsOf encD (List.replicate n (0, 0)) = List.replicate (n * 2) (Value.int .i64 0) := by
  induction n with
  | zero => rfl
  | succ n ih =>
    rw [show (n + 1) * 2 = n * 2 + 1 + 1 by omega, List.replicate_succ, List.replicate_succ, List.replicate_succ, ← ih]
    rfl
theorem cellsD_made (n : Nat) : (madeCells (Value.agg #[.int .i64 0, .int .i64 0]).cells (n * 2)).toList = cellsOf encD (List.replicate n (0, 0)) := by
  rw [cellsD_rep]
  apply List.ext_getElem?
  intro j
  by_cases hj : j < n * 2
  · have h2 : j % 2 = 0 ∨ j % 2 = 1 := by omega
    rcases h2 with h | h <;> simp [madeCells, hj, Value.cells, h]
  · simp [madeCells, hj]
theorem dotsTo_zero (xs : List Mk) : dotsTo xs 0 = List.replicate xs.length (0, 0) := by simp [dotsTo, dotsM]
theorem dotsTo_all (xs : List Mk) : dotsTo xs xs.length = dotsM xs := by simp [dotsTo]
/-- Dots in a row of the call's own. -/
abbrev RowD (W : World) (g n : Nat) (xs : List (Int × Int)) : Prop := W.ownsRow g 51 2 (.slice (some ⟨g, 0, none⟩) n n) n (cellsOf encD xs)
theorem RowD.set {W : World} {g k : Nat} {xs : List Mk} {m : Mk} (h : RowD W g xs.length (dotsTo xs k)) (hx : xs[k]? = some m) :
    RowD ((W.setCell ⟨g, k * 2, none⟩ (.int .i64 m.r)).setCell ⟨g, k * 2 + 1, none⟩ (.int .i64 m.c)) g xs.length (dotsTo xs (k + 1)) ∧
      W.grownBy ((W.setCell ⟨g, k * 2, none⟩ (.int .i64 m.r)).setCell ⟨g, k * 2 + 1, none⟩ (.int .i64 m.c)) (some g) := by
  have hk := (List.getElem?_eq_some_iff.1 hx).1
  obtain ⟨a, b⟩ := h.stored (k * 2) (.int .i64 m.r)
  obtain ⟨a', b'⟩ := a.stored (k * 2 + 1) (.int .i64 m.c)
  have e := cellsD_set2 (dotsTo xs k) k (m.r, m.c) (by rw [dotsTo_len (by omega)]; exact hk)
  rw [dotsTo_set hx] at e
  refine ⟨?_, b.trans b'⟩
  show World.ownsRow _ g _ 2 _ _ (cellsOf encD (dotsTo xs (k + 1)))
  rw [← e]
  exact a'

theorem own_holds {W : World} {B : Nat} {v : Value} {ds : List (Int × Int)} (h : W.ownsRow B 51 2 v ds.length (cellsOf encD ds)) : Holds W v ds := by
  obtain ⟨A, c, rfl, h1, h2, h3⟩ := SlAt.of_own encD_len h
  exact ⟨A, c, rfl, h3, h1, h2⟩
set_option maxHeartbeats 2000000 in
theorem qtyDotsO (A : Option Addr) (xs : List Mk) (cap : Nat) (w : World) (hx : MarksAt w A xs) (hm : xs.length ≤ 100000) :
    Calls Tryz.prog 54 #[.slice A xs.length cap] w fun e w' => (∃ v, e = .returned v ∧ w'.ownsRow w.heap.size 51 2 v (dotsM xs).length (cellsOf encD (dotsM xs))) ∧ Below w.heap.size w w' := by
  obtain ⟨ti0, hi0, hz0, hz1, hz2⟩ := info_parts infoD
  have HX := Lib.hid hx
  clear hx
  go_enter Tryz.func54, Tryz.ntmps54
  go_wp2_with (refine wpList_make_full _ rfl (.tmp 7) (.tmp 7) 22 rfl w.heap.size 51 ti0 _ 2 Tryz.underlying22 hi0 hz0 hz1 .i64 .i64 _ _ xs.length rfl rfl rfl rfl (by rw [hz2]; omega) (by simp [maxLen]; omega) (Nat.le_refl _) ?_; intro w1 hown hg)
  have HO := Lib.hid (show RowD w1 w.heap.size xs.length (dotsTo xs 0) from by rw [cellsD_made, ← dotsTo_zero] at hown; exact hown)
  have HB := Lib.hid ((Below.refl w.heap.size w).grown hg (Nat.le_refl _) (fun _ h => by cases h))
  clear hown hg hi0 hz0 hz1 hz2
  go_loopw [4, 5, 11] (fun _ _ i wr => ∃ (k : Nat), k ≤ xs.length ∧ i = .int .i64 k ∧ Hid (RowD wr w.heap.size xs.length (dotsTo xs k)) ∧ Hid (Below w.heap.size w wr)) (fun _ _ i _ => xs.length - (intOf i).toNat)
  case atStart => exact ⟨0, by omega, rfl, HO, HB⟩
  case round =>
    clear HO HB
    obtain ⟨k, hk, rfl, HO, HB⟩ := hrel
    by_cases hlt : k < xs.length
    · have i0 : (k : Int) < (xs.length : Int) := by omega
      obtain ⟨g, off, y, rfl, hbl, hx1, _, hc0, hc1, hc2, hc3⟩ := (HX.out.below HB.out).mark (j := k) hlt
      have HS := Lib.hid (HO.out.set hx1)
      have d0 : ∃ u, wr.cell? ⟨w.heap.size, k * 2, none⟩ = some u := by
        rw [HO.out.cellAt (k * 2) (by omega)]
        exact ⟨_, List.getElem?_eq_getElem (by rw [cellsOf_length encD_len, dotsTo_len (by omega)]; omega)⟩
      have d1 : ∃ u, wr.cell? ⟨w.heap.size, k * 2 + 1, none⟩ = some u := by
        rw [HO.out.cellAt (k * 2 + 1) (by omega)]
        exact ⟨_, List.getElem?_eq_getElem (by rw [cellsOf_length encD_len, dotsTo_len (by omega)]; omega)⟩
      obtain ⟨u0, d0⟩ := d0
      obtain ⟨u1, d1⟩ := d1
      have f0 := HO.out.frozenAt (k * 2)
      have f1 := HO.out.frozenAt (k * 2 + 1)
      have hlw : w.heap.size < wr.heap.size := World.block_lt_of_cell? wr _ d0
      clear hx1
      go_wp2_with fail
      go_roundw
      case rel => exact ⟨k + 1, by omega, by go_num, HS.out.1.alloc _, (HB.out.grown HS.out.2 HB.out.size (fun _ h => by cases h; exact Nat.le_refl _)).alloc (by have := HB.out.size; simp; omega) _⟩
      case measure => simp [intOf]; omega
    · obtain rfl : k = xs.length := by omega
      rw [dotsTo_all] at HO
      have i0 : ¬ (xs.length : Int) < (xs.length : Int) := by omega
      clear hlt hk
      go_wp2_with fail
      go_ret
      exact ⟨⟨_, rfl, by rw [dotsM_len xs]; exact HO.out⟩, HB.out⟩
theorem qtyDots (A : Option Addr) (xs : List Mk) (cap : Nat) (w : World) (hx : MarksAt w A xs) (hm : xs.length ≤ 100000) :
    Calls Tryz.prog 54 #[.slice A xs.length cap] w fun e w' => (∃ v, e = .returned v ∧ Holds w' v (dotsM xs)) ∧ Below w.heap.size w w' :=
  (qtyDotsO A xs cap w hx hm).mono fun _ _ ⟨⟨v, h1, h2⟩, h3⟩ => ⟨⟨v, h1, own_holds h2⟩, h3⟩

end

section
open Go.RowKit

theorem dotIsSet_h (v : Value) (xs : List (Int × Int)) (b : Bool) (w : World) (h : Holds w v xs) (hb : isSetB xs = b) : Calls Tryz.prog 61 #[v] w (OneB (.bool b) w) := by
  obtain ⟨A, n, rfl, h1, h2, h3⟩ := h
  subst hb
  exact dotIsSet A xs n w h1 (Nat.le_trans h2 h3)
theorem qtyIsList (A : Option Addr) (xs : List Mk) (cap : Nat) (b : Bool) (w : World) (hx : MarksAt w A xs) (hm : xs.length ≤ 100000) (hb : isSetB (dotsM xs) = b) :
    Calls Tryz.prog 68 #[.slice A xs.length cap] w (OneB (.bool b) w) := by
  have HD := Lib.hid (qtyDots A xs cap w hx hm)
  have HS := Lib.hid fun v W h => dotIsSet_h v (dotsM xs) b W h hb
  clear hx hm hb
  go_enter Tryz.func68, Tryz.ntmps68
  go_wp2_with fail
  refine HD.out.mono ?_
  rintro e w1 ⟨⟨v, rfl, hv⟩, hb1⟩
  have HV := Lib.hid hv
  have HB := Lib.hid hb1
  clear hv hb1
  go_wp2_with fail
  refine (HS.out _ _ HV.out).mono ?_
  rintro e w2 ⟨rfl, hb2⟩
  have HB2 := Lib.hid (below_trans HB.out hb2)
  clear hb2
  go_wp2_with fail
  go_ret
  exact ⟨rfl, HB2.out⟩
end

section
open Go.RowKit

theorem toNat8 (b : UInt8) : b.toNat < 256 := b.toBitVec.isLt
theorem size_mk (l : List UInt8) : (ByteArray.mk l.toArray).size = l.length := by show l.toArray.size = _; simp
/-- A string's cell. -/
abbrev encS (l : List UInt8) : List Value := [.string ⟨l.toArray⟩]
theorem encS_len (x : List UInt8) : (encS x).length = 1 := rfl
abbrev StrsAt (w : World) (A : Option Addr) (xs : List (List UInt8)) : Prop := SlAt encS 1 w A xs
/-- A slice of strings that reads as a list. -/
def HoldsS (w : World) (v : Value) (xs : List (List UInt8)) : Prop := ∃ A c, v = .slice A xs.length c ∧ StrsAt w A xs ∧ xs.length ≤ c ∧ c ≤ maxLen
theorem HoldsS.below {w w' : World} {v : Value} {xs : List (List UInt8)} (h : HoldsS w v xs) (hb : Below w.heap.size w w') : HoldsS w' v xs := by
  obtain ⟨A, c, rfl, h1, h2, h3⟩ := h
  exact ⟨A, c, rfl, h1.below hb, h2, h3⟩
theorem HoldsS.nil (w : World) : HoldsS w (.slice none 0 0) [] := ⟨none, 0, rfl, SlAt.nil, by simp, by simp [maxLen]⟩
theorem HoldsS.at {w : World} {A : Option Addr} {c : Nat} {xs : List (List UInt8)} (h : HoldsS w (.slice A xs.length c) xs) : StrsAt w A xs := by
  obtain ⟨_, _, e, h1, _⟩ := h
  cases e
  exact h1
theorem HoldsS.max {w : World} {v : Value} {xs : List (List UInt8)} (h : HoldsS w v xs) : xs.length ≤ maxLen := by
  obtain ⟨_, _, _, _, h2, h3⟩ := h
  omega
/-- A row of strings of the call's own. -/
abbrev RowS (W : World) (B : Nat) (v : Value) (xs : List (List UInt8)) : Prop := W.ownsRow B 9 1 v xs.length (cellsOf encS xs)
theorem HoldsS.of_own {w : World} {B : Nat} {v : Value} {xs : List (List UInt8)} (h : RowS w B v xs) : HoldsS w v xs := by
  obtain ⟨A, c, rfl, h1, h2, h3⟩ := SlAt.of_own encS_len h
  exact ⟨A, c, rfl, h3, h1, h2⟩
theorem SlAt.lit {α : Type} {enc : α → List Value} (hk : ∀ x, (enc x).length = 1) (W : World) (t : TypeId) (xs : List α) (hm : xs.length ≤ maxLen) :
    SlAt enc 1 (W.alloc (.cells (cellsOf enc xs).toArray t)) (some ⟨W.heap.size, 0, none⟩) xs := by
  have hl : (cellsOf enc xs).length = xs.length := by rw [cellsOf_length hk, Nat.mul_one]
  have h := World.ownsRow_lit (base := 0) (e := t) (size := 1) W (cellsOf enc xs).toArray xs.length (Nat.zero_le _) hm (by rw [List.size_toArray, hl, Nat.mul_one])
  rw [List.toList_toArray] at h
  obtain ⟨A, c, e, _, _, h3⟩ := SlAt.of_own hk h
  injection e with e1 e2 e3
  rw [e1]
  exact h3
end

section

/-- The names of items. -/
def itemN (s : List UInt8) : Bool :=
  decide (1 ≤ s.length) && decide (s.length ≤ 64) && s[0]? != some 32 && s[s.length - 1]? != some 32 && (s.all fun c => decide (32 ≤ c.toNat) && decide (c.toNat ≤ 126)) && (List.range s.length).all fun i => !(s[i]? == some 32 && s[i + 1]? == some 32)
structure ItemOK (s : List UInt8) : Prop where
  pos : 1 ≤ s.length
  short : s.length ≤ 64
  first : s[0]? ≠ some 32
  last : s[s.length - 1]? ≠ some 32
  bytes : ∀ c ∈ s, 32 ≤ c.toNat ∧ c.toNat ≤ 126
  single : ∀ i : Nat, s[i]? = some 32 → s[i + 1]? ≠ some 32
theorem itemN_iff (s : List UInt8) : itemN s = true ↔ ItemOK s := by
  unfold itemN
  simp only [Bool.and_eq_true, decide_eq_true_eq, bne_iff_ne, List.all_eq_true, List.mem_range, Bool.not_eq_true', Bool.and_eq_false_iff, beq_eq_false_iff_ne]
  constructor
  · rintro ⟨⟨⟨⟨⟨h1, h2⟩, h3⟩, h4⟩, h5⟩, h6⟩
    refine ⟨h1, h2, h3, h4, h5, fun i hi => ?_⟩
    have hl : i < s.length := by
      rcases Nat.lt_or_ge i s.length with h | h
      · exact h
      · rw [List.getElem?_eq_none h] at hi; cases hi
    rcases h6 i hl with h | h
    · exact absurd hi h
    · exact h
  · rintro ⟨h1, h2, h3, h4, h5, h6⟩
    refine ⟨⟨⟨⟨⟨h1, h2⟩, h3⟩, h4⟩, h5⟩, fun i _ => ?_⟩
    by_cases h : s[i]? = some 32
    · exact .inr (h6 i h)
    · exact .inl h
/-- The bytes that separate words. -/
def sepC (c : UInt8) : Bool := c.toNat == 9 || c.toNat == 10 || c.toNat == 13 || c.toNat == 32
/-- One byte more of a string that is made canonical: what there is so far, and whether a separator came last. -/
def canonF (st : List UInt8 × Bool) (c : UInt8) : List UInt8 × Bool :=
  if sepC c then (st.1, true) else (st.1 ++ (if st.2 && st.1 != [] then [32] else []) ++ [c], false)
def canonS (s : List UInt8) : List UInt8 × Bool := s.foldl canonF ([], false)
def canonN (s : List UInt8) : List UInt8 := (canonS s).1
theorem canonS_snoc (s : List UInt8) (c : UInt8) : canonS (s ++ [c]) = canonF (canonS s) c := by simp [canonS, List.foldl_append]
theorem canonF_len (st : List UInt8 × Bool) (c : UInt8) : (canonF st c).1.length ≤ st.1.length + 2 := by
  unfold canonF
  split
  · exact Nat.le_add_right _ _
  · simp only [List.length_append, List.length_singleton]
    split <;> simp <;> omega
theorem canonS_len (s : List UInt8) : (canonS s).1.length ≤ 2 * s.length := by
  suffices h : ∀ k, k ≤ s.length → (canonS (s.take k)).1.length ≤ 2 * k by
    have := h s.length (Nat.le_refl _)
    rwa [List.take_length] at this
  intro k
  induction k with
  | zero => intro _; simp [canonS]
  | succ k ih =>
    intro hk
    rw [List.take_succ_eq_append_getElem (by omega), canonS_snoc]
    have := canonF_len (canonS (s.take k)) s[k]
    have := ih (by omega)
    omega
theorem eq32 {c : UInt8} (h : c.toNat = 32) : c = 32 := UInt8.toNat_inj.1 h
/-- What making canonical has of the beginning of a name. -/
theorem canonS_item {s : List UInt8} (h : ItemOK s) (k : Nat) (hk : k < s.length) : canonS (s.take (k + 1)) = if s[k]? = some 32 then (s.take k, true) else (s.take (k + 1), false) := by
  induction k with
  | zero =>
    have h0 : s[0]? = some s[0] := List.getElem?_eq_getElem hk
    have hne : s[0]? ≠ some 32 := h.first
    rw [if_neg hne, List.take_succ_eq_append_getElem hk]
    have hc : s[0] ≠ 32 := fun e => hne (by rw [h0, e])
    have hb := h.bytes s[0] (List.getElem_mem hk)
    have hs : sepC s[0] = false := by
      have : s[0].toNat ≠ 32 := fun e => hc (eq32 e)
      simp [sepC]; omega
    simp [canonS, canonF, hs]
  | succ k ih =>
    have hk' : k < s.length := by omega
    rw [List.take_succ_eq_append_getElem hk, canonS_snoc, ih hk']
    have hk1 : s[k + 1]? = some s[k + 1] := List.getElem?_eq_getElem hk
    have hb := h.bytes s[k + 1] (List.getElem_mem hk)
    by_cases e1 : s[k]? = some 32
    · have hne : s[k + 1]? ≠ some 32 := h.single k e1
      have hc : s[k + 1].toNat ≠ 32 := fun e => hne (by rw [hk1, eq32 e])
      have hs : sepC s[k + 1] = false := by simp [sepC]; omega
      have hk0 : k ≠ 0 := fun e => by subst e; exact h.first e1
      have hne2 : s.take k ≠ [] := fun e => by
        have := congrArg List.length e
        rw [List.length_take, List.length_nil] at this
        omega
      rw [if_pos e1, if_neg hne]
      have hg : s[k] = 32 := by rw [List.getElem?_eq_getElem hk'] at e1; exact Option.some.inj e1
      unfold canonF
      rw [hs]
      simp only [Bool.true_and, Bool.false_eq_true, if_false]
      rw [if_pos (by simpa using hne2), List.take_succ_eq_append_getElem hk', hg]
    · rw [if_neg e1]
      by_cases e2 : s[k + 1]? = some 32
      · have hg : s[k + 1] = 32 := by rw [hk1] at e2; exact Option.some.inj e2
        rw [if_pos e2, hg]
        rfl
      · have hc : s[k + 1].toNat ≠ 32 := fun e => e2 (by rw [hk1, eq32 e])
        have hs : sepC s[k + 1] = false := by simp [sepC]; omega
        rw [if_neg e2]
        unfold canonF
        rw [hs]
        simp
/-- Canon of a name is the name. -/
theorem canonN_item {s : List UInt8} (h : ItemOK s) : canonN s = s := by
  have hp := h.pos
  have := canonS_item h (s.length - 1) (by omega)
  rw [show s.length - 1 + 1 = s.length by omega, List.take_length, if_neg h.last] at this
  unfold canonN
  rw [this]

end

section
open Go.RowKit

end

end Go.Proofs.YtgdnibahiomneaaGreat
