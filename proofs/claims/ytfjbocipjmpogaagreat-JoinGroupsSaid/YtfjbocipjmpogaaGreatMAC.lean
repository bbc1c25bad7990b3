/- Several texts in one: GenA, QtyK, QtyA, QtyB, QtyC, QtyD, QtyE, QtyF, QtyG, QtyH. -/
import Derived.Test.YtfjbocipjmpogaaGreatMAA
import Derived.Test.YtfjbocipjmpogaaGreatMAB
import Derived.Outline
import Derived.WalkSpells
import Derived.IntWalk
import Derived.KernelRfl
import Derived.Deep.CutBlock
namespace Go.Proofs.YtfjbocipjmpogaaGreat

section
open Go.RowKit

/-- One result that is known, nothing changed. -/
def One (v : Value) (w : World) (e : Ending) (w' : World) : Prop := e = .returned v ∧ w = w'
/-- One result that is known, nothing changed of what was there. -/
def OneB (v : Value) (w : World) (e : Ending) (w' : World) : Prop := e = .returned v ∧ Below w.heap.size w w'
theorem OneB.int {k : IntKind} {a b : Int} {w w' : World} (h : a = b) (hb : Below w.heap.size w w') : OneB (.int k b) w (.returned (.int k a)) w' := by subst h; exact ⟨rfl, hb⟩
theorem One.int {k : IntKind} {a b : Int} (w : World) (h : a = b) : One (.int k b) w (.returned (.int k a)) w := by subst h; exact ⟨rfl, rfl⟩
theorem One.bool {a b : Bool} (w : World) (h : a = b) : One (.bool b) w (.returned (.bool a)) w := by subst h; exact ⟨rfl, rfl⟩
theorem OneB.bool {a b : Bool} {w w' : World} (h : a = b) (hb : Below w.heap.size w w') : OneB (.bool b) w (.returned (.bool a)) w' := by subst h; exact ⟨rfl, hb⟩
theorem OneB.pair {v v' u u' : Value} {w w' : World} (h : v = v') (k : u = u') (hb : Below w.heap.size w w') : OneB (.tuple #[v', u']) w (.returned (.tuple #[v, u])) w' := by subst h k; exact ⟨rfl, hb⟩
theorem One.below {v : Value} {w w' : World} {e : Ending} (h : One v w e w') : OneB v w e w' := by obtain ⟨rfl, rfl⟩ := h; exact ⟨rfl, Below.refl _ _⟩
/-- True, nothing changed of what was there. -/
abbrev TrueB (w : World) : Ending → World → Prop := OneB (.bool true) w
theorem OneB.far {P : Program} {f : FuncId} {args : Array Value} {w : World} {p : FarBy} {v : Value}
    (h : Calls P f args (Go.Proofs.YtfjbocipjmpogaaGreat.far w p) (OneB v (Go.Proofs.YtfjbocipjmpogaaGreat.far w p))) :
    Calls P f args (Go.Proofs.YtfjbocipjmpogaaGreat.far w p) fun e w'' => e = .returned v ∧ ∃ q : FarBy, w'' = Go.Proofs.YtfjbocipjmpogaaGreat.far w q := far_of h
theorem One.far {P : Program} {f : FuncId} {args : Array Value} {w : World} {p : FarBy} {v : Value}
    (h : Calls P f args (Go.Proofs.YtfjbocipjmpogaaGreat.far w p) (One v (Go.Proofs.YtfjbocipjmpogaaGreat.far w p))) :
    Calls P f args (Go.Proofs.YtfjbocipjmpogaaGreat.far w p) fun e w'' => e = .returned v ∧ ∃ q : FarBy, w'' = Go.Proofs.YtfjbocipjmpogaaGreat.far w q := far_of_same h

theorem eqT {a b : Int} (h : a = b) : (a == b) = true := by simpa using h
theorem eqF {a b : Int} (h : a ≠ b) : (a == b) = false := by simpa using h
theorem neT {a b : Int} (h : a ≠ b) : (a != b) = true := by simpa using h
theorem neF {a b : Int} (h : a = b) : (a != b) = false := by simpa using h

theorem SlAt.cell1 {α : Type} {f : α → Value} {w : World} {A : Option Addr} {xs : List α} (h : SlAt (fun x => [f x]) 1 w A xs) {j : Nat} (hj : j < xs.length) :
    ∃ b off, A = some ⟨b, off, none⟩ ∧ b < w.heap.size ∧ w.cell? ⟨b, off + j, none⟩ = some (f xs[j]) := by
  obtain ⟨b, off, rfl, hb, hc⟩ := h (by omega)
  exact ⟨b, off, rfl, hb, by simpa using hc j _ (List.getElem?_eq_getElem hj) 0 _ rfl⟩
/-- A literal slice in a new block, at elements of k cells. -/
theorem SlAt.litK {α : Type} {enc : α → List Value} {k : Nat} (hk : ∀ x, (enc x).length = k) (W : World) (t : TypeId) (xs : List α) (hm : xs.length ≤ maxLen) :
    SlAt enc k (W.alloc (.cells (cellsOf enc xs).toArray t)) (some ⟨W.heap.size, 0, none⟩) xs := by
  have hl : (cellsOf enc xs).length = xs.length * k := cellsOf_length hk xs
  have h := World.ownsRow_lit (base := 0) (e := t) (size := k) W (cellsOf enc xs).toArray xs.length (Nat.zero_le _) hm (by rw [List.size_toArray, hl])
  rw [List.toList_toArray] at h
  obtain ⟨A, c, e, _, _, h3⟩ := SlAt.of_own hk h
  injection e with e1 e2 e3
  rw [e1]
  exact h3
theorem SlAt.litAt {α : Type} {enc : α → List Value} {k : Nat} (hk : ∀ x, (enc x).length = k) (W : World) (n : Nat) (hn : W.heap.size = n) (t : TypeId) (xs : List α) (hm : xs.length ≤ maxLen) :
    SlAt enc k (W.alloc (.cells (cellsOf enc xs).toArray t)) (some ⟨n, 0, none⟩) xs := by
  subst hn
  exact SlAt.litK hk W t xs hm

end

section

/-- A mark: replica and counter of its dot, quantity, time. -/
structure Mk where
  r : Int
  c : Int
  q : Int
  t : Nat
deriving DecidableEq
def Mk.zero : Mk := ⟨0, 0, 0, 0⟩
def qtyN (q : Int) : Bool := decide (1 ≤ q) && decide (q ≤ 2147483647)
def newerN (a b : Mk) : Bool :=
  if a.t = b.t then (if a.r = b.r then (if a.c = b.c then decide (b.q < a.q) else decide (b.c < a.c)) else decide (b.r < a.r)) else decide (b.t < a.t)
theorem newerN_iff (a b : Mk) : newerN a b = true ↔ b.t < a.t ∨ (a.t = b.t ∧ (b.r < a.r ∨ (a.r = b.r ∧ (b.c < a.c ∨ (a.c = b.c ∧ b.q < a.q))))) := by
  unfold newerN
  split
  · split
    · split <;> simp <;> omega
    · simp; omega
  · simp; omega
theorem newerN_irrefl (a : Mk) : newerN a a = false := by
  cases h : newerN a a with
  | false => rfl
  | true => rw [newerN_iff] at h; omega
theorem newerN_asymm {a b : Mk} (h : newerN a b = true) : newerN b a = false := by
  cases h2 : newerN b a with
  | false => rfl
  | true => rw [newerN_iff] at h h2; omega
theorem newerN_trans {a b c : Mk} (h1 : newerN a b = true) (h2 : newerN b c = true) : newerN a c = true := by
  rw [newerN_iff] at *; omega
theorem newerN_total {a b : Mk} (h1 : newerN a b = false) (h2 : newerN b a = false) : a = b := by
  have k1 : ¬ (b.t < a.t ∨ (a.t = b.t ∧ (b.r < a.r ∨ (a.r = b.r ∧ (b.c < a.c ∨ (a.c = b.c ∧ b.q < a.q)))))) := fun h => by rw [(newerN_iff a b).2 h] at h1; cases h1
  have k2 : ¬ (a.t < b.t ∨ (b.t = a.t ∧ (a.r < b.r ∨ (b.r = a.r ∧ (a.c < b.c ∨ (b.c = a.c ∧ a.q < b.q)))))) := fun h => by rw [(newerN_iff b a).2 h] at h2; cases h2
  cases a; cases b
  simp only at k1 k2
  simp only [Mk.mk.injEq]
  omega
theorem newerN_negtrans {a b c : Mk} (h1 : newerN a b = false) (h2 : newerN b c = false) : newerN a c = false := by
  cases h : newerN a c with
  | false => rfl
  | true =>
    have k1 : ¬ (b.t < a.t ∨ (a.t = b.t ∧ (b.r < a.r ∨ (a.r = b.r ∧ (b.c < a.c ∨ (a.c = b.c ∧ b.q < a.q)))))) := fun h => by rw [(newerN_iff a b).2 h] at h1; cases h1
    have k2 : ¬ (c.t < b.t ∨ (b.t = c.t ∧ (c.r < b.r ∨ (b.r = c.r ∧ (c.c < b.c ∨ (b.c = c.c ∧ c.q < b.q)))))) := fun h => by rw [(newerN_iff b c).2 h] at h2; cases h2
    rw [newerN_iff] at h; omega
/-- The order of two marks. -/
def cmpN (a b : Mk) : Int := if newerN a b then 1 else if newerN b a then -1 else 0
theorem cmpN_zero (a b : Mk) : cmpN a b = 0 ↔ a = b := by
  unfold cmpN
  constructor
  · intro h
    cases h1 : newerN a b with
    | true => rw [h1] at h; simp at h
    | false =>
      cases h2 : newerN b a with
      | true => rw [h1, h2] at h; simp at h
      | false => exact newerN_total h1 h2
  · rintro rfl; simp [newerN_irrefl]
theorem cmpN_neg (a b : Mk) : cmpN a b < 0 ↔ newerN b a = true := by
  unfold cmpN
  cases h1 : newerN a b with
  | true => rw [newerN_asymm h1]; simp
  | false => cases h2 : newerN b a <;> simp
theorem cmpN_one (a b : Mk) : cmpN a b = 1 ↔ newerN a b = true := by
  unfold cmpN
  cases h1 : newerN a b with
  | true => simp
  | false => cases h2 : newerN b a <;> simp
theorem cmpN_cases (a b : Mk) : cmpN a b = 1 ∨ cmpN a b = -1 ∨ cmpN a b = 0 := by
  unfold cmpN
  split
  · exact .inl rfl
  · split
    · exact .inr (.inl rfl)
    · exact .inr (.inr rfl)
/-- The newest of some marks. -/
def maxN (m : Mk) : List Mk → Mk
  | [] => m
  | x :: r => maxN (if newerN x m then x else m) r
/-- What is in the list, and what nothing in it is newer than. -/
def IsMax (l : List Mk) (m : Mk) : Prop := m ∈ l ∧ ∀ x ∈ l, newerN x m = false
theorem IsMax.unique {l : List Mk} {a b : Mk} (h1 : IsMax l a) (h2 : IsMax l b) : a = b := newerN_total (h2.2 a h1.1) (h1.2 b h2.1)
theorem IsMax.same {l k : List Mk} {a b : Mk} (h : ∀ x, x ∈ l ↔ x ∈ k) (h1 : IsMax l a) (h2 : IsMax k b) : a = b :=
  h1.unique ⟨(h b).2 h2.1, fun x hx => h2.2 x ((h x).1 hx)⟩
def newestN : List Mk → Option Mk
  | [] => none
  | m :: l => some (maxN m l)
/-- The greatest time is that of the newest mark. -/
theorem IsMax.time {l : List Mk} {m : Mk} (h : IsMax l m) : ∀ x ∈ l, x.t ≤ m.t := fun x hx => by
  rcases Nat.lt_or_ge m.t x.t with h1 | h1
  · have := h.2 x hx
    rw [(newerN_iff x m).2 (.inl h1)] at this
    cases this
  · exact h1
/-- What is found out in a loop over a list. -/
theorem all_yes {α : Type} {p : α → Bool} {xs : List α} (h : ∀ (j : Nat) (x : α), j < xs.length → xs[j]? = some x → p x = true) : xs.all p = true := by
  rw [List.all_eq_true]
  intro x hx
  obtain ⟨j, hj⟩ := List.mem_iff_getElem?.1 hx
  exact h j x (List.getElem?_eq_some_iff.1 hj).1 hj
theorem all_no {α : Type} {p : α → Bool} {xs : List α} {j : Nat} {x : α} (hx : xs[j]? = some x) (h : p x = false) : xs.all p = false := by
  cases e : xs.all p with
  | false => rfl
  | true => rw [List.all_eq_true] at e; have := e x (List.mem_of_getElem? hx); rw [h] at this; cases this
theorem step_all {α : Type} {p : α → Bool} {xs : List α} {m : Nat} {x : α} (h : ∀ (j : Nat) (y : α), j < m → xs[j]? = some y → p y = true) (hx : xs[m]? = some x) (hp : p x = true) : ∀ (j : Nat) (y : α), j < m + 1 → xs[j]? = some y → p y = true := fun j y hj hy => by
  by_cases e : j = m
  · subst e; rw [hx] at hy; cases hy; exact hp
  · exact h j y (by omega) hy
theorem take_step {α : Type} {xs : List α} {m : Nat} {x : α} (hx : xs[m]? = some x) : xs.take (m + 1) = xs.take m ++ [x] := by
  obtain ⟨h1, h2⟩ := List.getElem?_eq_some_iff.1 hx
  rw [List.take_succ_eq_append_getElem h1, h2]
section
variable {valid : Mk → Bool} {l : List Mk} {m : Mk}
end

/-- The newest one as the reference finds it. -/
def newR (l : List Mk) : Mk × Nat := match newestN l with
  | none => (Mk.zero, 9)
  | some m => (m, 0)
section
variable {valid : Mk → Bool} {l : List Mk}
theorem any_step {α : Type} {p : α → Bool} {xs : List α} {m : Nat} {x : α} (hx : xs[m]? = some x) : (xs.take (m + 1)).any p = ((xs.take m).any p || p x) := by
  rw [take_step hx, List.any_append]; simp
end

end

section
open Go.RowKit

/-- A mark as a value, and its four cells. -/
abbrev mkV (m : Mk) : Value := .agg #[.int .i64 m.r, .int .i64 m.c, .int .i64 m.q, .int .u64 (m.t : Int)]
abbrev encM (m : Mk) : List Value := [.int .i64 m.r, .int .i64 m.c, .int .i64 m.q, .int .u64 (m.t : Int)]
/-- Which marks are valid. -/
def validM (m : Mk) : Bool := validD m.r m.c && (qtyN m.q && decide (m.t ≠ 0))

set_option maxHeartbeats 400000 in
theorem qtyValid (q : Int) (w : World) : Calls Tryz.prog 166 #[.int .i64 q] w (One (.bool (qtyN q)) w) := by
  go_enter Tryz.func166, Tryz.ntmps166
  go_wp2
  all_goals
    go_ret
    refine One.bool _ ?_
    simp [qtyN, *]
    try omega
set_option maxHeartbeats 400000 in
theorem refQty (q : Int) (w : World) : Calls Tryz.prog 168 #[.int .i64 q] w (One (.bool (qtyN q)) w) := by
  go_enter Tryz.func168, Tryz.ntmps168
  go_wp2
  all_goals
    go_ret
    refine One.bool _ ?_
    simp [qtyN, *]
    try omega

set_option maxHeartbeats 400000 in
theorem qtyMark (m : Mk) (w : World) : Calls Tryz.prog 142 #[mkV m] w (OneB (.bool (validM m)) w) := by
  obtain ⟨r, c, q, t⟩ := m
  have h1 := fun W => dotValid r c W
  have h2 := fun W => qtyValid q W
  have hv : validM ⟨r, c, q, t⟩ = (validD r c && (qtyN q && decide (t ≠ 0))) := rfl
  generalize validM ⟨r, c, q, t⟩ = v at hv ⊢
  generalize validD r c = x at h1 hv
  generalize qtyN q = y at h2 hv
  have H1 := Lib.hid h1
  have H2 := Lib.hid h2
  have ht : ((t : Int) != 0) = decide (t ≠ 0) := by
    rw [Bool.eq_iff_iff]; simp
  generalize decide (t ≠ 0) = z at ht hv
  clear h1 h2
  cases x with
  | false =>
    obtain rfl : v = false := hv
    go_enter Tryz.func142, Tryz.ntmps142
    go_wp2_with fail
    refine (H1.out _).mono ?_
    rintro e w1 ⟨rfl, hb1⟩
    have HB := Lib.hid (below_trans ((Below.refl _ w).alloc (Nat.le_refl _) _) hb1)
    clear hb1
    go_wp2_with fail
    go_ret
    exact ⟨rfl, HB.out⟩
  | true =>
    cases y with
    | false =>
      obtain rfl : v = false := hv
      go_enter Tryz.func142, Tryz.ntmps142
      go_wp2_with fail
      refine (H1.out _).mono ?_
      rintro e w1 ⟨rfl, hb1⟩
      obtain ⟨hc1, hf1⟩ := bcell hb1
      have HB := Lib.hid (below_trans ((Below.refl _ w).alloc (Nat.le_refl _) _) hb1)
      clear hb1
      go_wp2_with fail
      refine (H2.out _).mono ?_
      rintro e w2 ⟨rfl, rfl⟩
      go_wp2_with fail
      go_ret
      exact ⟨rfl, HB.out⟩
    | true =>
      obtain rfl : v = z := hv
      go_enter Tryz.func142, Tryz.ntmps142
      go_wp2_with fail
      refine (H1.out _).mono ?_
      rintro e w1 ⟨rfl, hb1⟩
      obtain ⟨hc1, hf1⟩ := bcell hb1
      have HB := Lib.hid (below_trans ((Below.refl _ w).alloc (Nat.le_refl _) _) hb1)
      clear hb1
      go_wp2_with fail
      refine (H2.out _).mono ?_
      rintro e w2 ⟨rfl, rfl⟩
      go_wp2_with fail
      go_ret
      exact ⟨rfl, HB.out⟩
set_option maxHeartbeats 400000 in
theorem refMark (m : Mk) (w : World) : Calls Tryz.prog 149 #[mkV m] w (OneB (.bool (validM m)) w) := by
  obtain ⟨r, c, q, t⟩ := m
  have h1 := fun W => refValid r c W
  have h2 := fun W => refQty q W
  have hv : validM ⟨r, c, q, t⟩ = (validD r c && (qtyN q && decide (t ≠ 0))) := rfl
  generalize validM ⟨r, c, q, t⟩ = v at hv ⊢
  generalize validD r c = x at h1 hv
  generalize qtyN q = y at h2 hv
  have H1 := Lib.hid h1
  have H2 := Lib.hid h2
  have ht : ((t : Int) != 0) = decide (t ≠ 0) := by
    rw [Bool.eq_iff_iff]; simp
  generalize decide (t ≠ 0) = z at ht hv
  clear h1 h2
  cases x with
  | false =>
    obtain rfl : v = false := hv
    go_enter Tryz.func149, Tryz.ntmps149
    go_wp2_with fail
    refine (H1.out _).mono ?_
    rintro e w1 ⟨rfl, hb1⟩
    have HB := Lib.hid (below_trans ((Below.refl _ w).alloc (Nat.le_refl _) _) hb1)
    clear hb1
    go_wp2_with fail
    go_ret
    exact ⟨rfl, HB.out⟩
  | true =>
    cases y with
    | false =>
      obtain rfl : v = false := hv
      go_enter Tryz.func149, Tryz.ntmps149
      go_wp2_with fail
      refine (H1.out _).mono ?_
      rintro e w1 ⟨rfl, hb1⟩
      obtain ⟨hc1, hf1⟩ := bcell hb1
      have HB := Lib.hid (below_trans ((Below.refl _ w).alloc (Nat.le_refl _) _) hb1)
      clear hb1
      go_wp2_with fail
      refine (H2.out _).mono ?_
      rintro e w2 ⟨rfl, rfl⟩
      go_wp2_with fail
      go_ret
      exact ⟨rfl, HB.out⟩
    | true =>
      obtain rfl : v = z := hv
      go_enter Tryz.func149, Tryz.ntmps149
      go_wp2_with fail
      refine (H1.out _).mono ?_
      rintro e w1 ⟨rfl, hb1⟩
      obtain ⟨hc1, hf1⟩ := bcell hb1
      have HB := Lib.hid (below_trans ((Below.refl _ w).alloc (Nat.le_refl _) _) hb1)
      clear hb1
      go_wp2_with fail
      refine (H2.out _).mono ?_
      rintro e w2 ⟨rfl, rfl⟩
      go_wp2_with fail
      go_ret
      exact ⟨rfl, HB.out⟩

set_option maxHeartbeats 1000000 in
theorem refNewer (a b : Mk) (w : World) : Calls Tryz.prog 87 #[mkV a, mkV b] w (OneB (.bool (newerN a b)) w) := by
  obtain ⟨r, c, q, t⟩ := a
  obtain ⟨r', c', q', t'⟩ := b
  go_enter Tryz.func87, Tryz.ntmps87
  go_wp2
  all_goals
    go_ret
    refine OneB.bool ?_ (((Below.refl _ _).alloc (Nat.le_refl _) _).alloc (by simp) _)
    rw [Bool.eq_iff_iff, newerN_iff]
    simp at *
    try omega

end

section
open Go.RowKit

set_option maxHeartbeats 1000000 in
theorem eqInDot (d : Nat) (r c r' c' : Int) (w : World) : (Op.equalIn (d + 2) 51 (.agg #[.int .i64 r, .int .i64 c]) (.agg #[.int .i64 r', .int .i64 c'])).run Tryz.prog w = .ok (r == r' && c == c') w := by
  have hS : Tryz.prog.underlying 51 = some (.struct (Tryz.prog.fieldsOf 51)) := by kernel_rfl
  have hp : Tryz.prog.stoodInHeld 51 = false := by kernel_rfl
  rw [run_equalIn_agg w (d + 1) 51 _ _ hS hp]
  simp only [Program.fieldsOf, Tryz.underlying51]
  go_simp
  by_cases h1 : r = r' <;> by_cases h2 : c = c' <;> simp [h1, h2]
set_option maxHeartbeats 1000000 in
theorem eqInMark (d : Nat) (a b : Mk) (w : World) : (Op.equalIn (d + 3) 54 (mkV a) (mkV b)).run Tryz.prog w = .ok (decide (a = b)) w := by
  obtain ⟨r, c, q, t⟩ := a
  obtain ⟨r', c', q', t'⟩ := b
  have hS : Tryz.prog.underlying 54 = some (.struct (Tryz.prog.fieldsOf 54)) := by kernel_rfl
  have hp : Tryz.prog.stoodInHeld 54 = false := by kernel_rfl
  have hD := fun w => eqInDot d r c r' c' w
  rw [run_equalIn_agg w (d + 2) 54 _ _ hS hp]
  simp only [Program.fieldsOf, Tryz.underlying54]
  go_simp
  have ht : ((t : Int) = (t' : Int)) = (t = t') := by rw [Int.natCast_inj]
  simp only [ht]
  by_cases h1 : r = r' <;> by_cases h2 : c = c' <;> by_cases h3 : q = q' <;> by_cases h4 : t = t' <;> simp [h1, h2, h3, h4]
/-- '==' and '!=' of two marks. -/
theorem eqlMark (a b : Mk) (w : World) : (binOp .eql 54 (mkV a) (mkV b)).run Tryz.prog w = .ok (.bool (decide (a = b))) w := by
  rw [run_eql_struct, show (10000 : Nat) = 9997 + 3 from rfl, eqInMark]; rfl
theorem neqMark (a b : Mk) (w : World) : (binOp .neq 54 (mkV a) (mkV b)).run Tryz.prog w = .ok (.bool (!decide (a = b))) w := by
  rw [run_neq_struct, show (10000 : Nat) = 9997 + 3 from rfl, eqInMark]; rfl
theorem encM_len (m : Mk) : (encM m).length = 4 := rfl
theorem encM_one (m : Mk) : ∀ u ∈ encM m, u.oneCell' = true := by
  intro u hu
  simp [encM] at hu
  rcases hu with rfl | rfl | rfl | rfl <;> rfl
theorem infoM : (Tryz.prog.info? 54).map (fun i => (i.zero, i.size, i.bytes)) = some (some (.agg #[.int .i64 0, .int .i64 0, .int .i64 0, .int .u64 0]), 4, 32) := by kernel_rfl
abbrev MarksAt (w : World) (A : Option Addr) (xs : List Mk) : Prop := SlAt encM 4 w A xs
/-- A slice of marks that reads as a list. -/
def HoldsM (w : World) (v : Value) (xs : List Mk) : Prop := ∃ A c, v = .slice A xs.length c ∧ MarksAt w A xs ∧ xs.length ≤ c ∧ c ≤ maxLen
theorem HoldsM.below {w w' : World} {v : Value} {xs : List Mk} (h : HoldsM w v xs) (hb : Below w.heap.size w w') : HoldsM w' v xs := by
  obtain ⟨A, c, rfl, h1, h2, h3⟩ := h
  exact ⟨A, c, rfl, h1.below hb, h2, h3⟩
theorem HoldsM.nil (w : World) : HoldsM w (.slice none 0 0) [] := ⟨none, 0, rfl, SlAt.nil, by simp, by simp [maxLen]⟩
theorem HoldsM.at {w : World} {A : Option Addr} {n c : Nat} {xs : List Mk} (h : HoldsM w (.slice A n c) xs) : n = xs.length ∧ MarksAt w A xs ∧ xs.length ≤ maxLen := by
  obtain ⟨_, _, e, h1, h2, h3⟩ := h
  cases e
  exact ⟨rfl, h1, by omega⟩
theorem SlAt.mark {w : World} {A : Option Addr} {xs : List Mk} (h : MarksAt w A xs) {j : Nat} (hj : j < xs.length) :
    ∃ b off, ∃ m : Mk, A = some ⟨b, off, none⟩ ∧ b < w.heap.size ∧ xs[j]? = some m ∧ xs[j] = m ∧ w.cell? ⟨b, off + j * 4, none⟩ = some (.int .i64 m.r) ∧ w.cell? ⟨b, off + j * 4 + 1, none⟩ = some (.int .i64 m.c) ∧ w.cell? ⟨b, off + j * 4 + 2, none⟩ = some (.int .i64 m.q) ∧ w.cell? ⟨b, off + j * 4 + 3, none⟩ = some (.int .u64 (m.t : Int)) := by
  obtain ⟨b, off, rfl, hb, hc⟩ := h (by omega)
  have hx := List.getElem?_eq_getElem hj
  exact ⟨b, off, xs[j], rfl, hb, hx, rfl, by simpa using hc j _ hx 0 _ rfl, hc j _ hx 1 _ rfl, hc j _ hx 2 _ rfl, hc j _ hx 3 _ rfl⟩

end

section
open Go.RowKit

set_option maxHeartbeats 1000000 in
theorem refMarks (A : Option Addr) (xs : List Mk) (cap : Nat) (w : World) (hx : MarksAt w A xs) (hm : xs.length ≤ maxLen) :
    Calls Tryz.prog 106 #[.slice A xs.length cap] w (OneB (.bool (xs.all validM)) w) := by
  unfold maxLen at hm
  go_enter Tryz.func106, Tryz.ntmps106
  go_wp2
  go_loopw [3] (fun i wr => ∃ m : Nat, m ≤ xs.length ∧ i = .int .i64 m ∧ Below w.heap.size w wr ∧ Hid (∀ (j : Nat) (y : Mk), j < m → xs[j]? = some y → validM y = true)) (fun i _ => xs.length - (intOf i).toNat)
  case atStart => exact ⟨0, by omega, rfl, Below.refl _ _, fun j p h => by omega⟩
  case round =>
    obtain ⟨m, hk2, rfl, hb, hs⟩ := hrel
    by_cases hlt : m < xs.length
    · obtain ⟨b, off, y, rfl, hbl, hx1, _, hc0, hc1, hc2, hc3⟩ := (hx.below hb).mark (j := m) hlt
      have hr := fun W => refMark y W
      cases hq : validM y
      · rw [hq] at hr
        have HR := Lib.hid hr
        have HV := Lib.hid (all_no hx1 hq)
        clear hr hq hx1
        go_wp2_with fail
        refine (HR.out _).mono ?_
        rintro e w1 ⟨rfl, hb1⟩
        clear hc0 hc1 hc2 hc3
        go_wp2
        go_ret
        exact OneB.bool HV.out.symm (hb.trans (hb1.mono hb.size))
      · rw [hq] at hr
        have HR := Lib.hid hr
        have HV := Lib.hid (step_all hs.out hx1 hq)
        clear hr hq hx1
        go_wp2_with fail
        refine (HR.out _).mono ?_
        rintro e w1 ⟨rfl, hb1⟩
        clear hc0 hc1 hc2 hc3
        go_wp2
        go_roundw
        case rel => exact ⟨m + 1, by omega, by go_num, hb.trans (hb1.mono hb.size), HV⟩
        case measure => simp [intOf]; omega
    · obtain rfl : m = xs.length := by omega
      have HV := Lib.hid (all_yes hs.out)
      go_wp2
      go_ret
      exact OneB.bool HV.out.symm hb

end

section
open Go.RowKit

/-- A block that holds a mark. -/
def BlkM (W : World) (g : Nat) (m : Mk) : Prop := W.heap[g]? = some (.cells #[.int .i64 m.r, .int .i64 m.c, .int .i64 m.q, .int .u64 (m.t : Int)] 54 (0, 0))
/-- A mark is stored. -/
abbrev setM (W : World) (g : Nat) (m : Mk) : World := (((W.setCell ⟨g, 0, none⟩ (.int .i64 m.r)).setCell ⟨g, 1, none⟩ (.int .i64 m.c)).setCell ⟨g, 2, none⟩ (.int .i64 m.q)).setCell ⟨g, 3, none⟩ (.int .u64 (m.t : Int))
section
variable {W W' : World} {g : Nat} {m : Mk}
theorem BlkM.lt (h : BlkM W g m) : g < W.heap.size := (Array.getElem?_eq_some_iff.1 h).1
theorem BlkM.cell0 (h : BlkM W g m) : W.cell? ⟨g, 0, none⟩ = some (.int .i64 m.r) := by simp [World.cell?, show W.heap[g]? = _ from h]
theorem BlkM.cell1 (h : BlkM W g m) : W.cell? ⟨g, 1, none⟩ = some (.int .i64 m.c) := by simp [World.cell?, show W.heap[g]? = _ from h]
theorem BlkM.cell2 (h : BlkM W g m) : W.cell? ⟨g, 2, none⟩ = some (.int .i64 m.q) := by simp [World.cell?, show W.heap[g]? = _ from h]
theorem BlkM.cell3 (h : BlkM W g m) : W.cell? ⟨g, 3, none⟩ = some (.int .u64 (m.t : Int)) := by simp [World.cell?, show W.heap[g]? = _ from h]
theorem BlkM.frozen (h : BlkM W g m) (k : Nat) : W.frozen? ⟨g, k, none⟩ = false := by simp [World.frozen?, show W.heap[g]? = _ from h]
theorem BlkM.below (h : BlkM W g m) (hb : Below W.heap.size W W') : BlkM W' g m := (hb.block g h.lt).trans h
theorem BlkM.other (h : BlkM W g m) {g' : Nat} (hne : g ≠ g') (o : Nat) (z : Value) : BlkM (W.setCell ⟨g', o, none⟩ z) g m := (Below.heap_setCell W ⟨g', o, none⟩ z g hne).trans h
theorem BlkM.new (W : World) (m : Mk) : BlkM (W.alloc (.cells #[.int .i64 m.r, .int .i64 m.c, .int .i64 m.q, .int .u64 (m.t : Int)] 54)) W.heap.size m := heap_alloc_new W _
theorem block_set1 {cs : Array Value} {t : TypeId} {k : Nat} {x : Value} (h : W.heap[g]? = some (.cells cs t (0, 0))) : (W.setCell ⟨g, k, none⟩ x).heap[g]? = some (.cells (cs.setIfInBounds k x) t (0, 0)) := by
  obtain ⟨hlt, hk⟩ := Array.getElem?_eq_some_iff.1 h
  show (W.heap.modify g _)[g]? = _
  rw [Array.getElem?_eq_getElem (by rw [Array.size_modify]; exact hlt), Array.getElem_modify_self, hk]
  rfl
theorem BlkM.set (h : BlkM W g m) (m' : Mk) : BlkM (setM W g m') g m' := by
  have h4 := block_set1 (k := 3) (x := .int .u64 (m'.t : Int)) (block_set1 (k := 2) (x := .int .i64 m'.q) (block_set1 (k := 1) (x := .int .i64 m'.c) (block_set1 (k := 0) (x := .int .i64 m'.r) h)))
  have e : ((((#[.int .i64 m.r, .int .i64 m.c, .int .i64 m.q, .int .u64 (m.t : Int)] : Array Value).setIfInBounds 0 (.int .i64 m'.r)).setIfInBounds 1 (.int .i64 m'.c)).setIfInBounds 2 (.int .i64 m'.q)).setIfInBounds 3 (.int .u64 (m'.t : Int)) = #[.int .i64 m'.r, .int .i64 m'.c, .int .i64 m'.q, .int .u64 (m'.t : Int)] := by simp
  rw [e] at h4
  exact h4
theorem below_setM {w : World} {B : Nat} (h : Below B w W) (hg : B ≤ g) (m : Mk) : Below B w (setM W g m) :=
  (((h.setCell (p := ⟨g, 0, none⟩) hg _).setCell (p := ⟨g, 1, none⟩) hg _).setCell (p := ⟨g, 2, none⟩) hg _).setCell (p := ⟨g, 3, none⟩) hg _
end

end

section
open Go.RowKit

end

section
open Go.RowKit

end

section
open Go.RowKit

/-- A number's cell. -/
abbrev encZ (n : Int) : List Value := [.int .i64 n]
theorem encZ_len (x : Int) : (encZ x).length = 1 := rfl
abbrev NumsAt (w : World) (A : Option Addr) (xs : List Int) : Prop := SlAt encZ 1 w A xs
/-- A slice of numbers that reads as a list. -/
def HoldsZ (w : World) (v : Value) (xs : List Int) : Prop := ∃ A c, v = .slice A xs.length c ∧ NumsAt w A xs ∧ xs.length ≤ c ∧ c ≤ maxLen
theorem HoldsZ.below {w w' : World} {v : Value} {xs : List Int} (h : HoldsZ w v xs) (hb : Below w.heap.size w w') : HoldsZ w' v xs := by
  obtain ⟨A, c, rfl, h1, h2, h3⟩ := h
  exact ⟨A, c, rfl, h1.below hb, h2, h3⟩
theorem HoldsZ.nil (w : World) : HoldsZ w (.slice none 0 0) [] := ⟨none, 0, rfl, SlAt.nil, by simp, by simp [maxLen]⟩

end

section
open Go.RowKit

/-- The dots of marks. -/
def dotsM (xs : List Mk) : List (Int × Int) := xs.map fun m => (m.r, m.c)
theorem dotsM_len (xs : List Mk) : (dotsM xs).length = xs.length := by simp [dotsM]
/-- The first k dots of marks, the other ones are zero: what lies in a made slice. -/
def dotsTo (xs : List Mk) (k : Nat) : List (Int × Int) := dotsM (xs.take k) ++ List.replicate (xs.length - k) (0, 0)
theorem dotsTo_len {xs : List Mk} {k : Nat} (hk : k ≤ xs.length) : (dotsTo xs k).length = xs.length := by
  simp [dotsTo, dotsM_len]; omega
theorem dotsTo_set {xs : List Mk} {k : Nat} {m : Mk} (hx : xs[k]? = some m) : (dotsTo xs k).set k (m.r, m.c) = dotsTo xs (k + 1) := by
  have hk := (List.getElem?_eq_some_iff.1 hx).1
  have e1 : (dotsM (xs.take k)).length = k := by rw [dotsM_len, List.length_take]; omega
  have e2 : xs.length - k = (xs.length - (k + 1)) + 1 := by omega
  unfold dotsTo
  rw [List.set_append, if_neg (by omega), e1, Nat.sub_self, e2, List.replicate_succ, List.set_cons_zero, take_step hx]
  simp [dotsM]
theorem cellsD_set2 (l : List (Int × Int)) (k : Nat) (d : Int × Int) (hk : k < l.length) : ((cellsOf encD l).set (k * 2) (.int .i64 d.1)).set (k * 2 + 1) (.int .i64 d.2) = cellsOf encD (l.set k d) := by
  induction l generalizing k with
  | nil => simp at hk
  | cons x r ih =>
    match k with
    | 0 => rfl
    | k + 1 =>
      have h := ih k (by simpa using hk)
      show ((encD x ++ cellsOf encD r).set _ _).set _ _ = encD x ++ cellsOf encD (r.set k d)
      rw [← h, List.set_append, if_neg (by simp; omega), List.set_append, if_neg (by simp; omega)]
      have a1 : (k + 1) * 2 - (encD x).length = k * 2 := by rw [encD_len]; omega
      have a2 : (k + 1) * 2 + 1 - (encD x).length = k * 2 + 1 := by rw [encD_len]; omega
      rw [a1, a2]

set_option maxHeartbeats 2000000 in
theorem refDots (A : Option Addr) (xs : List Mk) (cap : Nat) (w : World) (hx : MarksAt w A xs) (hm : xs.length ≤ 100000) :
    Calls Tryz.prog 65 #[.slice A xs.length cap] w fun e w' => (∃ v, e = .returned v ∧ Holds w' v (dotsM xs)) ∧ Below w.heap.size w w' := by
  obtain ⟨ti0, hi0, hz0, hz1, hz2⟩ := info_parts infoD
  have HX := Lib.hid hx
  clear hx
  go_enter Tryz.func65, Tryz.ntmps65
  go_wp2_with fail
  go_loopw [3, 4] (fun s3 s4 wr => ∃ (k : Nat) (D : Option Addr) (d : Nat) (os : List (Int × Int)), k ≤ xs.length ∧ s3 = .slice D os.length d ∧ s4 = .int .i64 k ∧ Hid (os.length = k) ∧ Hid (dotsM (xs.take k) = os) ∧ Hid (wr.ownsRow w.heap.size 51 2 (.slice D os.length d) os.length (cellsOf encD os)) ∧ Hid (Below w.heap.size w wr)) (fun _ s4 _ => xs.length - (intOf s4).toNat)
  case atStart => exact ⟨0, none, 0, [], by omega, rfl, rfl, rfl, rfl, World.ownsRow_nil _ _ _ _, Below.refl _ _⟩
  case round =>
    obtain ⟨k, D, d, os, hk, rfl, rfl, hol, hos, HO, HB⟩ := hrel
    by_cases hlt : k < xs.length
    · have i0 : (k : Int) < (xs.length : Int) := by omega
      obtain ⟨g, off, y, rfl, hbl, hx1, _, hc0, hc1, hc2, hc3⟩ := (HX.out.below HB.out).mark (j := k) hlt
      have HE := Lib.hid (show dotsM (xs.take (k + 1)) = os ++ [(y.r, y.c)] from by rw [take_step hx1, ← hos.out]; simp [dotsM])
      clear hx1
      go_wp2_with (at_builtin; refine wpList_append_sl _ encD 2 rfl (.tmp 11) (.tmp 17) 22 rfl encD_len (by omega) encD_one w.heap.size 51 ti0 _ 16 Tryz.underlying22 hi0 hz0 hz1 hz2 rfl _ os rfl (HO.out.alloc _) _ 1 _ [(y.r, y.c)] rfl rfl (SlAt.litAt encD_len wr _ rfl _ [(y.r, y.c)] (by simp [maxLen])) (by simp [maxLen]; have := hol.out; omega) (by simp; have := hol.out; omega) (by have := HB.out.size; simp; omega) ?_; intro v1 w2 hown hg hat; have HB2 := Lib.hid ((HB.out.alloc HB.out.size _).grown hg (by have := HB.out.size; simp; omega) (fun k hk => (HO.out.lt k hk).1)); obtain ⟨D2, d2, rfl, _⟩ := SlAt.of_own encD_len hown; have HO2 := Lib.hid hown; clear hown hg hat)
      go_roundw
      case rel => exact ⟨k + 1, D2, d2, os ++ [(y.r, y.c)], by omega, by rw [List.length_append]; rfl, by go_num, (by have := hol.out; show Hid _; exact Lib.hid (by simp; omega)), HE, HO2, HB2⟩
      case measure => simp [intOf]; omega
    · obtain rfl : k = xs.length := by omega
      rw [List.take_length] at hos
      have i0 : ¬ (xs.length : Int) < (xs.length : Int) := by omega
      clear hlt hk
      go_wp2_with fail
      go_ret
      obtain ⟨A', c', e, h1, h2, h3⟩ := SlAt.of_own encD_len HO.out
      rw [hos.out]
      exact ⟨⟨_, rfl, ⟨A', c', e, h3, h1, h2⟩⟩, HB.out⟩

theorem cellsD_rep (n : Nat) : cellsOf encD (List.replicate n (0, 0)) = List.replicate (n * 2) (Value.int .i64 0) := by
  induction n with
  | zero => rfl
  | succ n ih =>
    rw [show (n + 1) * 2 = n * 2 + 1 + 1 by omega, List.replicate_succ, List.replicate_succ, List.replicate_succ, ← ih]
    rfl
theorem cellsD_made (n : Nat) : (madeCells (Value.agg #[.int .i64 0, .int .i64 0]).cells (n * 2)).toList = cellsOf encD (List.replicate n (0, 0)) := by
  rw [cellsD_rep]
  apply List.ext_getElem?
  intro j
  by_cases hj : j < n * 2
  · have h2 : j % 2 = 0 ∨ j % 2 = 1 := by omega
    rcases h2 with h | h <;> simp [madeCells, hj, Value.cells, h]
  · simp [madeCells, hj]
theorem dotsTo_zero (xs : List Mk) : dotsTo xs 0 = List.replicate xs.length (0, 0) := by simp [dotsTo, dotsM]
theorem dotsTo_all (xs : List Mk) : dotsTo xs xs.length = dotsM xs := by simp [dotsTo]
/-- Dots in a row of the call's own. -/
abbrev RowD (W : World) (g n : Nat) (xs : List (Int × Int)) : Prop := W.ownsRow g 51 2 (.slice (some ⟨g, 0, none⟩) n n) n (cellsOf encD xs)
theorem RowD.set {W : World} {g k : Nat} {xs : List Mk} {m : Mk} (h : RowD W g xs.length (dotsTo xs k)) (hx : xs[k]? = some m) :
    RowD ((W.setCell ⟨g, k * 2, none⟩ (.int .i64 m.r)).setCell ⟨g, k * 2 + 1, none⟩ (.int .i64 m.c)) g xs.length (dotsTo xs (k + 1)) ∧
      W.grownBy ((W.setCell ⟨g, k * 2, none⟩ (.int .i64 m.r)).setCell ⟨g, k * 2 + 1, none⟩ (.int .i64 m.c)) (some g) := by
  have hk := (List.getElem?_eq_some_iff.1 hx).1
  obtain ⟨a, b⟩ := h.stored (k * 2) (.int .i64 m.r)
  obtain ⟨a', b'⟩ := a.stored (k * 2 + 1) (.int .i64 m.c)
  have e := cellsD_set2 (dotsTo xs k) k (m.r, m.c) (by rw [dotsTo_len (by omega)]; exact hk)
  rw [dotsTo_set hx] at e
  refine ⟨?_, b.trans b'⟩
  show World.ownsRow _ g _ 2 _ _ (cellsOf encD (dotsTo xs (k + 1)))
  rw [← e]
  exact a'

set_option maxHeartbeats 2000000 in
theorem qtyDots (A : Option Addr) (xs : List Mk) (cap : Nat) (w : World) (hx : MarksAt w A xs) (hm : xs.length ≤ 100000) :
    Calls Tryz.prog 99 #[.slice A xs.length cap] w fun e w' => (∃ v, e = .returned v ∧ Holds w' v (dotsM xs)) ∧ Below w.heap.size w w' := by
  obtain ⟨ti0, hi0, hz0, hz1, hz2⟩ := info_parts infoD
  have HX := Lib.hid hx
  clear hx
  go_enter Tryz.func99, Tryz.ntmps99
  go_wp2_with (refine wpList_make_full _ rfl (.tmp 7) (.tmp 7) 22 rfl w.heap.size 51 ti0 _ 2 Tryz.underlying22 hi0 hz0 hz1 .i64 .i64 _ _ xs.length rfl rfl rfl rfl (by rw [hz2]; omega) (by simp [maxLen]; omega) (Nat.le_refl _) ?_; intro w1 hown hg)
  have HO := Lib.hid (show RowD w1 w.heap.size xs.length (dotsTo xs 0) from by rw [cellsD_made, ← dotsTo_zero] at hown; exact hown)
  have HB := Lib.hid ((Below.refl w.heap.size w).grown hg (Nat.le_refl _) (fun _ h => by cases h))
  clear hown hg hi0 hz0 hz1 hz2
  go_loopw [4, 5, 11] (fun _ _ i wr => ∃ (k : Nat), k ≤ xs.length ∧ i = .int .i64 k ∧ Hid (RowD wr w.heap.size xs.length (dotsTo xs k)) ∧ Hid (Below w.heap.size w wr)) (fun _ _ i _ => xs.length - (intOf i).toNat)
  case atStart => exact ⟨0, by omega, rfl, HO, HB⟩
  case round =>
    clear HO HB
    obtain ⟨k, hk, rfl, HO, HB⟩ := hrel
    by_cases hlt : k < xs.length
    · have i0 : (k : Int) < (xs.length : Int) := by omega
      obtain ⟨g, off, y, rfl, hbl, hx1, _, hc0, hc1, hc2, hc3⟩ := (HX.out.below HB.out).mark (j := k) hlt
      have HS := Lib.hid (HO.out.set hx1)
      have d0 : ∃ u, wr.cell? ⟨w.heap.size, k * 2, none⟩ = some u := by
        rw [HO.out.cellAt (k * 2) (by omega)]
        exact ⟨_, List.getElem?_eq_getElem (by rw [cellsOf_length encD_len, dotsTo_len (by omega)]; omega)⟩
      have d1 : ∃ u, wr.cell? ⟨w.heap.size, k * 2 + 1, none⟩ = some u := by
        rw [HO.out.cellAt (k * 2 + 1) (by omega)]
        exact ⟨_, List.getElem?_eq_getElem (by rw [cellsOf_length encD_len, dotsTo_len (by omega)]; omega)⟩
      obtain ⟨u0, d0⟩ := d0
      obtain ⟨u1, d1⟩ := d1
      have f0 := HO.out.frozenAt (k * 2)
      have f1 := HO.out.frozenAt (k * 2 + 1)
      have hlw : w.heap.size < wr.heap.size := World.block_lt_of_cell? wr _ d0
      clear hx1
      go_wp2_with fail
      go_roundw
      case rel => exact ⟨k + 1, by omega, by go_num, HS.out.1.alloc _, (HB.out.grown HS.out.2 HB.out.size (fun _ h => by cases h; exact Nat.le_refl _)).alloc (by have := HB.out.size; simp; omega) _⟩
      case measure => simp [intOf]; omega
    · obtain rfl : k = xs.length := by omega
      rw [dotsTo_all] at HO
      have i0 : ¬ (xs.length : Int) < (xs.length : Int) := by omega
      clear hlt hk
      go_wp2_with fail
      go_ret
      have ho := HO.out
      rw [← dotsM_len xs] at ho
      obtain ⟨A', c', e, h1, h2, h3⟩ := SlAt.of_own encD_len ho
      rw [dotsM_len xs] at e
      exact ⟨⟨_, rfl, ⟨A', c', by rw [dotsM_len xs]; exact e, h3, h1, h2⟩⟩, HB.out⟩

end

end Go.Proofs.YtfjbocipjmpogaaGreat
