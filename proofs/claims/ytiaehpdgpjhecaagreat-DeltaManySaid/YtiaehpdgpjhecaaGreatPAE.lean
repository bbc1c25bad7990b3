/- Several texts in one: GenA, QtyK, QtyA, QtyB, QtyC. -/
import Derived.Test.YtiaehpdgpjhecaaGreatPAA
import Derived.Test.YtiaehpdgpjhecaaGreatPAB
import Derived.Outline
import Derived.WalkSpells
import Derived.IntWalk
import Derived.KernelRfl
import Derived.Deep.CutBlock
namespace Go.Proofs.YtiaehpdgpjhecaaGreat

section
open Go.RowKit

/-- One result that is known, nothing changed. -/
def One (v : Value) (w : World) (e : Ending) (w' : World) : Prop := e = .returned v ∧ w = w'
/-- One result that is known, nothing changed of what was there. -/
def OneB (v : Value) (w : World) (e : Ending) (w' : World) : Prop := e = .returned v ∧ Below w.heap.size w w'
theorem OneB.int {k : IntKind} {a b : Int} {w w' : World} (h : a = b) (hb : Below w.heap.size w w') : OneB (.int k b) w (.returned (.int k a)) w' := by subst h; exact ⟨rfl, hb⟩
theorem One.int {k : IntKind} {a b : Int} (w : World) (h : a = b) : One (.int k b) w (.returned (.int k a)) w := by subst h; exact ⟨rfl, rfl⟩
theorem One.bool {a b : Bool} (w : World) (h : a = b) : One (.bool b) w (.returned (.bool a)) w := by subst h; exact ⟨rfl, rfl⟩
theorem OneB.bool {a b : Bool} {w w' : World} (h : a = b) (hb : Below w.heap.size w w') : OneB (.bool b) w (.returned (.bool a)) w' := by subst h; exact ⟨rfl, hb⟩
theorem OneB.pair {v v' u u' : Value} {w w' : World} (h : v = v') (k : u = u') (hb : Below w.heap.size w w') : OneB (.tuple #[v', u']) w (.returned (.tuple #[v, u])) w' := by subst h k; exact ⟨rfl, hb⟩
theorem One.below {v : Value} {w w' : World} {e : Ending} (h : One v w e w') : OneB v w e w' := by obtain ⟨rfl, rfl⟩ := h; exact ⟨rfl, Below.refl _ _⟩
/-- True, nothing changed of what was there. -/
abbrev TrueB (w : World) : Ending → World → Prop := OneB (.bool true) w
theorem OneB.far {P : Program} {f : FuncId} {args : Array Value} {w : World} {p : FarBy} {v : Value}
    (h : Calls P f args (Go.Proofs.YtiaehpdgpjhecaaGreat.far w p) (OneB v (Go.Proofs.YtiaehpdgpjhecaaGreat.far w p))) :
    Calls P f args (Go.Proofs.YtiaehpdgpjhecaaGreat.far w p) fun e w'' => e = .returned v ∧ ∃ q : FarBy, w'' = Go.Proofs.YtiaehpdgpjhecaaGreat.far w q := far_of h
theorem One.far {P : Program} {f : FuncId} {args : Array Value} {w : World} {p : FarBy} {v : Value}
    (h : Calls P f args (Go.Proofs.YtiaehpdgpjhecaaGreat.far w p) (One v (Go.Proofs.YtiaehpdgpjhecaaGreat.far w p))) :
    Calls P f args (Go.Proofs.YtiaehpdgpjhecaaGreat.far w p) fun e w'' => e = .returned v ∧ ∃ q : FarBy, w'' = Go.Proofs.YtiaehpdgpjhecaaGreat.far w q := far_of_same h

theorem eqT {a b : Int} (h : a = b) : (a == b) = true := by simpa using h
theorem eqF {a b : Int} (h : a ≠ b) : (a == b) = false := by simpa using h
theorem neT {a b : Int} (h : a ≠ b) : (a != b) = true := by simpa using h
theorem neF {a b : Int} (h : a = b) : (a != b) = false := by simpa using h

theorem SlAt.cell1 {α : Type} {f : α → Value} {w : World} {A : Option Addr} {xs : List α} (h : SlAt (fun x => [f x]) 1 w A xs) {j : Nat} (hj : j < xs.length) :
    ∃ b off, A = some ⟨b, off, none⟩ ∧ b < w.heap.size ∧ w.cell? ⟨b, off + j, none⟩ = some (f xs[j]) := by
  obtain ⟨b, off, rfl, hb, hc⟩ := h (by omega)
  exact ⟨b, off, rfl, hb, by simpa using hc j _ (List.getElem?_eq_getElem hj) 0 _ rfl⟩
/-- A literal slice in a new block, at elements of k cells. -/
theorem SlAt.litK {α : Type} {enc : α → List Value} {k : Nat} (hk : ∀ x, (enc x).length = k) (W : World) (t : TypeId) (xs : List α) (hm : xs.length ≤ maxLen) :
    SlAt enc k (W.alloc (.cells (cellsOf enc xs).toArray t)) (some ⟨W.heap.size, 0, none⟩) xs := by
  have hl : (cellsOf enc xs).length = xs.length * k := cellsOf_length hk xs
  have h := World.ownsRow_lit (base := 0) (e := t) (size := k) W (cellsOf enc xs).toArray xs.length (Nat.zero_le _) hm (by rw [List.size_toArray, hl])
  rw [List.toList_toArray] at h
  obtain ⟨A, c, e, _, _, h3⟩ := SlAt.of_own hk h
  injection e with e1 e2 e3
  rw [e1]
  exact h3
theorem SlAt.litAt {α : Type} {enc : α → List Value} {k : Nat} (hk : ∀ x, (enc x).length = k) (W : World) (n : Nat) (hn : W.heap.size = n) (t : TypeId) (xs : List α) (hm : xs.length ≤ maxLen) :
    SlAt enc k (W.alloc (.cells (cellsOf enc xs).toArray t)) (some ⟨n, 0, none⟩) xs := by
  subst hn
  exact SlAt.litK hk W t xs hm

end

section

/-- A mark: replica and counter of its dot, quantity, time. -/
structure Mk where
  r : Int
  c : Int
  q : Int
  t : Nat
deriving DecidableEq
def Mk.zero : Mk := ⟨0, 0, 0, 0⟩
def qtyN (q : Int) : Bool := decide (1 ≤ q) && decide (q ≤ 2147483647)
def newerN (a b : Mk) : Bool :=
  if a.t = b.t then (if a.r = b.r then (if a.c = b.c then decide (b.q < a.q) else decide (b.c < a.c)) else decide (b.r < a.r)) else decide (b.t < a.t)
theorem newerN_iff (a b : Mk) : newerN a b = true ↔ b.t < a.t ∨ (a.t = b.t ∧ (b.r < a.r ∨ (a.r = b.r ∧ (b.c < a.c ∨ (a.c = b.c ∧ b.q < a.q))))) := by
  unfold newerN
  split
  · split
    · split <;> simp <;> omega
    · simp; omega
  · simp; omega
theorem newerN_irrefl (a : Mk) : newerN a a = false := by
  cases h : newerN a a with
  | false => rfl
  | true => rw [newerN_iff] at h; omega
theorem newerN_asymm {a b : Mk} (h : newerN a b = true) : newerN b a = false := by
  cases h2 : newerN b a with
  | false => rfl
  | true => rw [newerN_iff] at h h2; omega
theorem newerN_total {a b : Mk} (h1 : newerN a b = false) (h2 : newerN b a = false) : a = b := by
  have k1 : ¬ (b.t < a.t ∨ (a.t = b.t ∧ (b.r < a.r ∨ (a.r = b.r ∧ (b.c < a.c ∨ (a.c = b.c ∧ b.q < a.q)))))) := fun h => by rw [(newerN_iff a b).2 h] at h1; cases h1
  have k2 : ¬ (a.t < b.t ∨ (b.t = a.t ∧ (a.r < b.r ∨ (b.r = a.r ∧ (a.c < b.c ∨ (b.c = a.c ∧ a.q < b.q)))))) := fun h => by rw [(newerN_iff b a).2 h] at h2; cases h2
  cases a; cases b
  simp only at k1 k2
  simp only [Mk.mk.injEq]
  omega
theorem newerN_negtrans {a b c : Mk} (h1 : newerN a b = false) (h2 : newerN b c = false) : newerN a c = false := by
  cases h : newerN a c with
  | false => rfl
  | true =>
    have k1 : ¬ (b.t < a.t ∨ (a.t = b.t ∧ (b.r < a.r ∨ (a.r = b.r ∧ (b.c < a.c ∨ (a.c = b.c ∧ b.q < a.q)))))) := fun h => by rw [(newerN_iff a b).2 h] at h1; cases h1
    have k2 : ¬ (c.t < b.t ∨ (b.t = c.t ∧ (c.r < b.r ∨ (b.r = c.r ∧ (c.c < b.c ∨ (b.c = c.c ∧ c.q < b.q)))))) := fun h => by rw [(newerN_iff b c).2 h] at h2; cases h2
    rw [newerN_iff] at h; omega
/-- The order of two marks. -/
def cmpN (a b : Mk) : Int := if newerN a b then 1 else if newerN b a then -1 else 0
theorem cmpN_zero (a b : Mk) : cmpN a b = 0 ↔ a = b := by
  unfold cmpN
  constructor
  · intro h
    cases h1 : newerN a b with
    | true => rw [h1] at h; simp at h
    | false =>
      cases h2 : newerN b a with
      | true => rw [h1, h2] at h; simp at h
      | false => exact newerN_total h1 h2
  · rintro rfl; simp [newerN_irrefl]
theorem cmpN_pos (a b : Mk) : 0 < cmpN a b ↔ newerN a b = true := by
  unfold cmpN
  cases h1 : newerN a b with
  | true => simp
  | false => cases h2 : newerN b a <;> simp
theorem cmpN_one (a b : Mk) : cmpN a b = 1 ↔ newerN a b = true := by
  unfold cmpN
  cases h1 : newerN a b with
  | true => simp
  | false => cases h2 : newerN b a <;> simp
theorem cmpN_cases (a b : Mk) : cmpN a b = 1 ∨ cmpN a b = -1 ∨ cmpN a b = 0 := by
  unfold cmpN
  split
  · exact .inl rfl
  · split
    · exact .inr (.inl rfl)
    · exact .inr (.inr rfl)
/-- The newest of some marks. -/
def maxN (m : Mk) : List Mk → Mk
  | [] => m
  | x :: r => maxN (if newerN x m then x else m) r
theorem maxN_mem (m : Mk) (l : List Mk) : maxN m l ∈ m :: l := by
  induction l generalizing m with
  | nil => simp [maxN]
  | cons x r ih =>
    unfold maxN
    by_cases hx : newerN x m = true
    · rw [if_pos hx]
      exact List.mem_cons_of_mem _ (ih x)
    · rw [if_neg hx]
      rcases List.mem_cons.1 (ih m) with h | h
      · rw [List.mem_cons]; exact .inl h
      · exact List.mem_cons_of_mem _ (List.mem_cons_of_mem _ h)
theorem maxN_not (m : Mk) (l : List Mk) : ∀ x ∈ m :: l, newerN x (maxN m l) = false := by
  induction l generalizing m with
  | nil => intro x hx; simp at hx; subst hx; exact newerN_irrefl _
  | cons y r ih =>
    intro x hx
    unfold maxN
    have h := ih (if newerN y m then y else m)
    by_cases hy : newerN y m = true
    · rw [if_pos hy] at h ⊢
      rcases List.mem_cons.1 hx with e | e
      · subst e
        exact newerN_negtrans (newerN_asymm hy) (h y (by simp))
      · exact h x e
    · rw [if_neg hy] at h ⊢
      have hy' : newerN y m = false := by simpa using hy
      rcases List.mem_cons.1 hx with e | e
      · subst e; exact h x (by simp)
      · rcases List.mem_cons.1 e with e | e
        · subst e; exact newerN_negtrans hy' (h m (by simp))
        · exact h x (List.mem_cons_of_mem _ e)
/-- What is in the list, and what nothing in it is newer than. -/
def IsMax (l : List Mk) (m : Mk) : Prop := m ∈ l ∧ ∀ x ∈ l, newerN x m = false
theorem IsMax.unique {l : List Mk} {a b : Mk} (h1 : IsMax l a) (h2 : IsMax l b) : a = b := newerN_total (h2.2 a h1.1) (h1.2 b h2.1)
theorem IsMax.same {l k : List Mk} {a b : Mk} (h : ∀ x, x ∈ l ↔ x ∈ k) (h1 : IsMax l a) (h2 : IsMax k b) : a = b :=
  h1.unique ⟨(h b).2 h2.1, fun x hx => h2.2 x ((h x).1 hx)⟩
def newestN : List Mk → Option Mk
  | [] => none
  | m :: l => some (maxN m l)
theorem newestN_max {l : List Mk} {m : Mk} (h : newestN l = some m) : IsMax l m := by
  match l with
  | [] => cases h
  | x :: r => cases h; exact ⟨maxN_mem x r, maxN_not x r⟩
/-- The greatest time is that of the newest mark. -/
theorem IsMax.time {l : List Mk} {m : Mk} (h : IsMax l m) : ∀ x ∈ l, x.t ≤ m.t := fun x hx => by
  rcases Nat.lt_or_ge m.t x.t with h1 | h1
  · have := h.2 x hx
    rw [(newerN_iff x m).2 (.inl h1)] at this
    cases this
  · exact h1
/-- What is found out in a loop over a list. -/
theorem all_yes {α : Type} {p : α → Bool} {xs : List α} (h : ∀ (j : Nat) (x : α), j < xs.length → xs[j]? = some x → p x = true) : xs.all p = true := by
  rw [List.all_eq_true]
  intro x hx
  obtain ⟨j, hj⟩ := List.mem_iff_getElem?.1 hx
  exact h j x (List.getElem?_eq_some_iff.1 hj).1 hj
theorem all_no {α : Type} {p : α → Bool} {xs : List α} {j : Nat} {x : α} (hx : xs[j]? = some x) (h : p x = false) : xs.all p = false := by
  cases e : xs.all p with
  | false => rfl
  | true => rw [List.all_eq_true] at e; have := e x (List.mem_of_getElem? hx); rw [h] at this; cases this
theorem step_all {α : Type} {p : α → Bool} {xs : List α} {m : Nat} {x : α} (h : ∀ (j : Nat) (y : α), j < m → xs[j]? = some y → p y = true) (hx : xs[m]? = some x) (hp : p x = true) : ∀ (j : Nat) (y : α), j < m + 1 → xs[j]? = some y → p y = true := fun j y hj hy => by
  by_cases e : j = m
  · subst e; rw [hx] at hy; cases hy; exact hp
  · exact h j y (by omega) hy
theorem take_step {α : Type} {xs : List α} {m : Nat} {x : α} (hx : xs[m]? = some x) : xs.take (m + 1) = xs.take m ++ [x] := by
  obtain ⟨h1, h2⟩ := List.getElem?_eq_some_iff.1 hx
  rw [List.take_succ_eq_append_getElem h1, h2]
theorem maxN_snoc (m : Mk) (l : List Mk) (x : Mk) : maxN m (l ++ [x]) = if newerN x (maxN m l) then x else maxN m l := by
  induction l generalizing m with
  | nil => rfl
  | cons y r ih => rw [List.cons_append]; exact ih _
theorem newestN_snoc {l : List Mk} {m : Mk} (h : newestN l = some m) (x : Mk) : newestN (l ++ [x]) = some (if newerN x m then x else m) := by
  match l with
  | [] => cases h
  | y :: r =>
    have e : maxN y r = m := Option.some.inj h
    rw [List.cons_append, newestN, maxN_snoc, e]
/-- The newest one and whether there is one. -/
def newestF (l : List Mk) : Mk × Bool := match newestN l with
  | none => (Mk.zero, false)
  | some m => (m, true)
theorem newestF_nil : newestF [] = (Mk.zero, false) := rfl
theorem newestF_first {l : List Mk} {v : Mk} (h : newestF l = (v, false)) (x : Mk) : newestF (l ++ [x]) = (x, true) := by
  match l with
  | [] => rfl
  | y :: r => simp [newestF, newestN] at h
theorem newestF_step {l : List Mk} {v : Mk} (h : newestF l = (v, true)) (x : Mk) : newestF (l ++ [x]) = (if newerN x v then x else v, true) := by
  match l with
  | [] => simp [newestF, newestN] at h
  | y :: r =>
    have e : newestN (y :: r) = some v := by
      have : (maxN y r, true) = (v, true) := h
      cases this; rfl
    simp only [newestF, newestN_snoc e]
theorem newestF_new {l : List Mk} {v x : Mk} (h : newestF l = (v, true)) (hx : newerN x v = true) : newestF (l ++ [x]) = (x, true) := by rw [newestF_step h, if_pos hx]
theorem newestF_old {l : List Mk} {v x : Mk} (h : newestF l = (v, true)) (hx : newerN x v = false) : newestF (l ++ [x]) = (v, true) := by rw [newestF_step h, if_neg (by simp [hx])]
theorem newestF_some {l : List Mk} {v : Mk} : newestF l = (v, true) ↔ newestN l = some v := by
  cases h : newestN l with
  | none => simp [newestF, h]
  | some m => simp [newestF, h]
theorem newestF_none {l : List Mk} {v : Mk} : newestF l = (v, false) ↔ l = [] ∧ v = Mk.zero := by
  cases l with
  | nil => simp [newestF, newestN, eq_comm]
  | cons y r => simp [newestF, newestN]

/-- The newest of some marks and the error, the time after them and the error. -/
def newV (valid : Mk → Bool) (l : List Mk) : Mk × Nat := if l.all valid then (match newestN l with
  | none => (Mk.zero, 9)
  | some m => (m, 0)) else (Mk.zero, 2)
def nextV (valid : Mk → Bool) (l : List Mk) : Nat × Nat := if l.all valid then (match newestN l with
  | none => (1, 0)
  | some m => if m.t = 18446744073709551615 then (0, 15) else (m.t + 1, 0)) else (0, 2)
section
variable {valid : Mk → Bool} {l : List Mk} {m : Mk}
theorem newV_bad (h : l.all valid = false) : newV valid l = (Mk.zero, 2) := by unfold newV; rw [h]; rfl
theorem newV_none (h : newestF l = (m, false)) : newV valid l = (m, 9) := by
  obtain ⟨rfl, rfl⟩ := newestF_none.1 h
  rfl
theorem newV_some (ha : l.all valid = true) (h : newestF l = (m, true)) : newV valid l = (m, 0) := by
  unfold newV; rw [ha, newestF_some.1 h]; rfl
theorem nextV_of (h : newV valid l = (m, 0)) : nextV valid l = if m.t = 18446744073709551615 then (0, 15) else (m.t + 1, 0) := by
  unfold newV at h
  unfold nextV
  cases ha : l.all valid with
  | false => rw [ha] at h; simp at h
  | true =>
    rw [ha, if_pos rfl] at h
    rw [if_pos rfl]
    cases hn : newestN l with
    | none => rw [hn] at h; simp at h
    | some x => rw [hn] at h; simp at h; subst h; rfl
theorem nextV_none (h : newV valid l = (m, 9)) : nextV valid l = (1, 0) := by
  unfold newV at h
  unfold nextV
  cases ha : l.all valid with
  | false => rw [ha] at h; simp at h
  | true =>
    rw [ha, if_pos rfl] at h
    rw [if_pos rfl]
    cases hn : newestN l with
    | none => rfl
    | some x => rw [hn] at h; simp at h
theorem nextV_two (h : newV valid l = (m, 2)) : nextV valid l = (0, 2) := by
  unfold newV at h
  unfold nextV
  cases ha : l.all valid with
  | false => rfl
  | true =>
    rw [ha, if_pos rfl] at h
    cases hn : newestN l with
    | none => rw [hn] at h; simp at h
    | some x => rw [hn] at h; simp at h
theorem newV_cases (valid : Mk → Bool) (l : List Mk) : (∃ m, newV valid l = (m, 0)) ∨ (newV valid l = (Mk.zero, 9)) ∨ (newV valid l = (Mk.zero, 2)) := by
  unfold newV
  split
  · split
    · exact .inr (.inl rfl)
    · exact .inl ⟨_, rfl⟩
  · exact .inr (.inr rfl)
end

/-- The newest one as the reference finds it. -/
def newR (l : List Mk) : Mk × Nat := match newestN l with
  | none => (Mk.zero, 9)
  | some m => (m, 0)
section
variable {valid : Mk → Bool} {l : List Mk}
end

end

section
open Go.RowKit

/-- A mark as a value, and its four cells. -/
abbrev mkV (m : Mk) : Value := .agg #[.int .i64 m.r, .int .i64 m.c, .int .i64 m.q, .int .u64 (m.t : Int)]
abbrev encM (m : Mk) : List Value := [.int .i64 m.r, .int .i64 m.c, .int .i64 m.q, .int .u64 (m.t : Int)]
/-- Which marks are valid. -/
def validM (m : Mk) : Bool := validD m.r m.c && (qtyN m.q && decide (m.t ≠ 0))

set_option maxHeartbeats 400000 in
theorem qtyValid (q : Int) (w : World) : Calls Tryz.prog 106 #[.int .i64 q] w (One (.bool (qtyN q)) w) := by
  go_enter Tryz.func106, Tryz.ntmps106
  go_wp2
  all_goals
    go_ret
    refine One.bool _ ?_
    simp [qtyN, *]
    try omega
set_option maxHeartbeats 400000 in
theorem qtyMark (m : Mk) (w : World) : Calls Tryz.prog 142 #[mkV m] w (OneB (.bool (validM m)) w) := by
  obtain ⟨r, c, q, t⟩ := m
  have h1 := fun W => dotValid r c W
  have h2 := fun W => qtyValid q W
  have hv : validM ⟨r, c, q, t⟩ = (validD r c && (qtyN q && decide (t ≠ 0))) := rfl
  generalize validM ⟨r, c, q, t⟩ = v at hv ⊢
  generalize validD r c = x at h1 hv
  generalize qtyN q = y at h2 hv
  have H1 := Lib.hid h1
  have H2 := Lib.hid h2
  have ht : ((t : Int) != 0) = decide (t ≠ 0) := by
    rw [Bool.eq_iff_iff]; simp
  generalize decide (t ≠ 0) = z at ht hv
  clear h1 h2
  cases x with
  | false =>
    obtain rfl : v = false := hv
    go_enter Tryz.func142, Tryz.ntmps142
    go_wp2_with fail
    refine (H1.out _).mono ?_
    rintro e w1 ⟨rfl, hb1⟩
    have HB := Lib.hid (below_trans ((Below.refl _ w).alloc (Nat.le_refl _) _) hb1)
    clear hb1
    go_wp2_with fail
    go_ret
    exact ⟨rfl, HB.out⟩
  | true =>
    cases y with
    | false =>
      obtain rfl : v = false := hv
      go_enter Tryz.func142, Tryz.ntmps142
      go_wp2_with fail
      refine (H1.out _).mono ?_
      rintro e w1 ⟨rfl, hb1⟩
      obtain ⟨hc1, hf1⟩ := bcell hb1
      have HB := Lib.hid (below_trans ((Below.refl _ w).alloc (Nat.le_refl _) _) hb1)
      clear hb1
      go_wp2_with fail
      refine (H2.out _).mono ?_
      rintro e w2 ⟨rfl, rfl⟩
      go_wp2_with fail
      go_ret
      exact ⟨rfl, HB.out⟩
    | true =>
      obtain rfl : v = z := hv
      go_enter Tryz.func142, Tryz.ntmps142
      go_wp2_with fail
      refine (H1.out _).mono ?_
      rintro e w1 ⟨rfl, hb1⟩
      obtain ⟨hc1, hf1⟩ := bcell hb1
      have HB := Lib.hid (below_trans ((Below.refl _ w).alloc (Nat.le_refl _) _) hb1)
      clear hb1
      go_wp2_with fail
      refine (H2.out _).mono ?_
      rintro e w2 ⟨rfl, rfl⟩
      go_wp2_with fail
      go_ret
      exact ⟨rfl, HB.out⟩
set_option maxHeartbeats 1000000 in
theorem qtyNewer (a b : Mk) (w : World) : Calls Tryz.prog 187 #[mkV a, mkV b] w (OneB (.bool (newerN a b)) w) := by
  obtain ⟨r, c, q, t⟩ := a
  obtain ⟨r', c', q', t'⟩ := b
  go_enter Tryz.func187, Tryz.ntmps187
  go_wp2
  all_goals
    go_ret
    refine OneB.bool ?_ (((Below.refl _ _).alloc (Nat.le_refl _) _).alloc (by simp) _)
    rw [Bool.eq_iff_iff, newerN_iff]
    simp at *
    try omega

end

section
open Go.RowKit

set_option maxHeartbeats 1000000 in
theorem eqInDot (d : Nat) (r c r' c' : Int) (w : World) : (Op.equalIn (d + 2) 30 (.agg #[.int .i64 r, .int .i64 c]) (.agg #[.int .i64 r', .int .i64 c'])).run Tryz.prog w = .ok (r == r' && c == c') w := by
  have hS : Tryz.prog.underlying 30 = some (.struct (Tryz.prog.fieldsOf 30)) := by kernel_rfl
  have hp : Tryz.prog.stoodInHeld 30 = false := by kernel_rfl
  rw [run_equalIn_agg w (d + 1) 30 _ _ hS hp]
  simp only [Program.fieldsOf, Tryz.underlying30]
  go_simp
  by_cases h1 : r = r' <;> by_cases h2 : c = c' <;> simp [h1, h2]
set_option maxHeartbeats 1000000 in
theorem eqInMark (d : Nat) (a b : Mk) (w : World) : (Op.equalIn (d + 3) 55 (mkV a) (mkV b)).run Tryz.prog w = .ok (decide (a = b)) w := by
  obtain ⟨r, c, q, t⟩ := a
  obtain ⟨r', c', q', t'⟩ := b
  have hS : Tryz.prog.underlying 55 = some (.struct (Tryz.prog.fieldsOf 55)) := by kernel_rfl
  have hp : Tryz.prog.stoodInHeld 55 = false := by kernel_rfl
  have hD := fun w => eqInDot d r c r' c' w
  rw [run_equalIn_agg w (d + 2) 55 _ _ hS hp]
  simp only [Program.fieldsOf, Tryz.underlying55]
  go_simp
  have ht : ((t : Int) = (t' : Int)) = (t = t') := by rw [Int.natCast_inj]
  simp only [ht]
  by_cases h1 : r = r' <;> by_cases h2 : c = c' <;> by_cases h3 : q = q' <;> by_cases h4 : t = t' <;> simp [h1, h2, h3, h4]
theorem neqMark (a b : Mk) (w : World) : (binOp .neq 55 (mkV a) (mkV b)).run Tryz.prog w = .ok (.bool (!decide (a = b))) w := by
  rw [run_neq_struct, show (10000 : Nat) = 9997 + 3 from rfl, eqInMark]; rfl
set_option maxHeartbeats 1000000 in
theorem qtyCompare (a b : Mk) (w : World) : Calls Tryz.prog 128 #[mkV a, mkV b] w (OneB (.int .i64 (cmpN a b)) w) := by
  obtain ⟨v, hv⟩ : ∃ v, cmpN a b = v := ⟨_, rfl⟩
  have hn := fun W => qtyNewer a b W
  have hc : v = if a = b then 0 else if newerN a b then 1 else -1 := by
    rw [← hv]
    by_cases h : a = b
    · rw [if_pos h, (cmpN_zero a b).2 h]
    · rw [if_neg h]
      cases h2 : newerN a b with
      | true => rw [(cmpN_one a b).2 h2]; rfl
      | false => 
        rcases cmpN_cases a b with k | k | k
        · rw [(cmpN_one a b).1 k] at h2; cases h2
        · rw [k]; rfl
        · exact absurd ((cmpN_zero a b).1 k) h
  rw [hv]
  generalize newerN a b = x at hn hc
  have HN := Lib.hid hn
  clear hn hv
  by_cases hab : a = b
  · rw [if_pos hab] at hc
    subst hc
    subst hab
    obtain ⟨r, c, q, t⟩ := a
    go_enter Tryz.func128, Tryz.ntmps128
    go_wp2_with fail
    go_ret
    exact ⟨rfl, ((Below.refl _ _).alloc (Nat.le_refl _) _).alloc (by simp) _⟩
  · rw [if_neg hab] at hc
    obtain ⟨r, c, q, t⟩ := a
    obtain ⟨r', c', q', t'⟩ := b
    have HC := Lib.hid hc
    clear hc
    by_cases h1 : r = r'
    · subst h1
      by_cases h2 : c = c'
      · subst h2
        by_cases h3 : q = q'
        · subst h3
          have h4 : ¬ (t : Int) = (t' : Int) := fun h => hab (by rw [Int.natCast_inj] at h; rw [h])
          clear hab
          cases x with
          | true =>
            go_enter Tryz.func128, Tryz.ntmps128
            go_wp2_with fail
            refine (HN.out _).mono ?_
            rintro e w1 ⟨rfl, hb1⟩
            have HB := Lib.hid (below_trans (((Below.refl _ w).alloc (Nat.le_refl _) _).alloc (by simp) _) hb1)
            clear hb1
            go_wp2_with fail
            go_ret
            exact ⟨by rw [HC.out]; rfl, HB.out⟩
          | false =>
            go_enter Tryz.func128, Tryz.ntmps128
            go_wp2_with fail
            refine (HN.out _).mono ?_
            rintro e w1 ⟨rfl, hb1⟩
            have HB := Lib.hid (below_trans (((Below.refl _ w).alloc (Nat.le_refl _) _).alloc (by simp) _) hb1)
            clear hb1
            go_wp2_with fail
            go_ret
            exact ⟨by rw [HC.out]; rfl, HB.out⟩
        · clear hab
          cases x with
          | true =>
            go_enter Tryz.func128, Tryz.ntmps128
            go_wp2_with fail
            refine (HN.out _).mono ?_
            rintro e w1 ⟨rfl, hb1⟩
            have HB := Lib.hid (below_trans (((Below.refl _ w).alloc (Nat.le_refl _) _).alloc (by simp) _) hb1)
            clear hb1
            go_wp2_with fail
            go_ret
            exact ⟨by rw [HC.out]; rfl, HB.out⟩
          | false =>
            go_enter Tryz.func128, Tryz.ntmps128
            go_wp2_with fail
            refine (HN.out _).mono ?_
            rintro e w1 ⟨rfl, hb1⟩
            have HB := Lib.hid (below_trans (((Below.refl _ w).alloc (Nat.le_refl _) _).alloc (by simp) _) hb1)
            clear hb1
            go_wp2_with fail
            go_ret
            exact ⟨by rw [HC.out]; rfl, HB.out⟩
      · clear hab
        cases x with
        | true =>
          go_enter Tryz.func128, Tryz.ntmps128
          go_wp2_with fail
          refine (HN.out _).mono ?_
          rintro e w1 ⟨rfl, hb1⟩
          have HB := Lib.hid (below_trans (((Below.refl _ w).alloc (Nat.le_refl _) _).alloc (by simp) _) hb1)
          clear hb1
          go_wp2_with fail
          go_ret
          exact ⟨by rw [HC.out]; rfl, HB.out⟩
        | false =>
          go_enter Tryz.func128, Tryz.ntmps128
          go_wp2_with fail
          refine (HN.out _).mono ?_
          rintro e w1 ⟨rfl, hb1⟩
          have HB := Lib.hid (below_trans (((Below.refl _ w).alloc (Nat.le_refl _) _).alloc (by simp) _) hb1)
          clear hb1
          go_wp2_with fail
          go_ret
          exact ⟨by rw [HC.out]; rfl, HB.out⟩
    · clear hab
      cases x with
      | true =>
        go_enter Tryz.func128, Tryz.ntmps128
        go_wp2_with fail
        refine (HN.out _).mono ?_
        rintro e w1 ⟨rfl, hb1⟩
        have HB := Lib.hid (below_trans (((Below.refl _ w).alloc (Nat.le_refl _) _).alloc (by simp) _) hb1)
        clear hb1
        go_wp2_with fail
        go_ret
        exact ⟨by rw [HC.out]; rfl, HB.out⟩
      | false =>
        go_enter Tryz.func128, Tryz.ntmps128
        go_wp2_with fail
        refine (HN.out _).mono ?_
        rintro e w1 ⟨rfl, hb1⟩
        have HB := Lib.hid (below_trans (((Below.refl _ w).alloc (Nat.le_refl _) _).alloc (by simp) _) hb1)
        clear hb1
        go_wp2_with fail
        go_ret
        exact ⟨by rw [HC.out]; rfl, HB.out⟩

theorem encM_len (m : Mk) : (encM m).length = 4 := rfl
theorem encM_one (m : Mk) : ∀ u ∈ encM m, u.oneCell' = true := by
  intro u hu
  simp [encM] at hu
  rcases hu with rfl | rfl | rfl | rfl <;> rfl
theorem infoM : (Tryz.prog.info? 55).map (fun i => (i.zero, i.size, i.bytes)) = some (some (.agg #[.int .i64 0, .int .i64 0, .int .i64 0, .int .u64 0]), 4, 32) := by kernel_rfl
abbrev MarksAt (w : World) (A : Option Addr) (xs : List Mk) : Prop := SlAt encM 4 w A xs
/-- A slice of marks that reads as a list. -/
def HoldsM (w : World) (v : Value) (xs : List Mk) : Prop := ∃ A c, v = .slice A xs.length c ∧ MarksAt w A xs ∧ xs.length ≤ c ∧ c ≤ maxLen
theorem HoldsM.below {w w' : World} {v : Value} {xs : List Mk} (h : HoldsM w v xs) (hb : Below w.heap.size w w') : HoldsM w' v xs := by
  obtain ⟨A, c, rfl, h1, h2, h3⟩ := h
  exact ⟨A, c, rfl, h1.below hb, h2, h3⟩
theorem HoldsM.nil (w : World) : HoldsM w (.slice none 0 0) [] := ⟨none, 0, rfl, SlAt.nil, by simp, by simp [maxLen]⟩
theorem HoldsM.at {w : World} {A : Option Addr} {n c : Nat} {xs : List Mk} (h : HoldsM w (.slice A n c) xs) : n = xs.length ∧ MarksAt w A xs ∧ xs.length ≤ maxLen := by
  obtain ⟨_, _, e, h1, h2, h3⟩ := h
  cases e
  exact ⟨rfl, h1, by omega⟩
theorem SlAt.mark {w : World} {A : Option Addr} {xs : List Mk} (h : MarksAt w A xs) {j : Nat} (hj : j < xs.length) :
    ∃ b off, ∃ m : Mk, A = some ⟨b, off, none⟩ ∧ b < w.heap.size ∧ xs[j]? = some m ∧ xs[j] = m ∧ w.cell? ⟨b, off + j * 4, none⟩ = some (.int .i64 m.r) ∧ w.cell? ⟨b, off + j * 4 + 1, none⟩ = some (.int .i64 m.c) ∧ w.cell? ⟨b, off + j * 4 + 2, none⟩ = some (.int .i64 m.q) ∧ w.cell? ⟨b, off + j * 4 + 3, none⟩ = some (.int .u64 (m.t : Int)) := by
  obtain ⟨b, off, rfl, hb, hc⟩ := h (by omega)
  have hx := List.getElem?_eq_getElem hj
  exact ⟨b, off, xs[j], rfl, hb, hx, rfl, by simpa using hc j _ hx 0 _ rfl, hc j _ hx 1 _ rfl, hc j _ hx 2 _ rfl, hc j _ hx 3 _ rfl⟩

end

section
open Go.RowKit

set_option maxHeartbeats 400000 in
theorem newest1 (m : Mk) (w : World) : Calls Tryz.prog 188 #[mkV m] w (OneB (.bool (!validM m)) w) := by
  have H := Lib.hid fun W => qtyMark m W
  go_enter Tryz.func188, Tryz.ntmps188
  go_wp2_with fail
  refine (H.out _).mono ?_
  rintro e w1 ⟨rfl, hb1⟩
  have HB := Lib.hid (below_trans ((Below.refl _ w).alloc (Nat.le_refl _) _) hb1)
  clear hb1
  go_wp2_with fail
  go_ret
  exact OneB.bool (by simp) HB.out

set_option maxHeartbeats 1000000 in
theorem indexMarks (A : Option Addr) (xs : List Mk) (cap : Nat) (w : World) (hx : MarksAt w A xs) (hm : xs.length ≤ maxLen) :
    Calls Tryz.prog 193 #[.slice A xs.length cap, .func (.func 188) #[] #[]] w fun e w' =>
      ((∃ i : Nat, e = .returned (.int .i64 i) ∧ xs.all validM = false) ∨ (e = .returned (.int .i64 (-1)) ∧ xs.all validM = true)) ∧ Below w.heap.size w w' := by
  unfold maxLen at hm
  go_enter Tryz.func193, Tryz.ntmps193
  go_wp2
  go_loopw [5, 8] (fun _ i wr => ∃ m : Nat, m ≤ xs.length ∧ i = .int .i64 m ∧ Below w.heap.size w wr ∧ Hid (∀ (j : Nat) (y : Mk), j < m → xs[j]? = some y → validM y = true)) (fun _ i _ => xs.length - (intOf i).toNat)
  case atStart => exact ⟨0, by omega, rfl, Below.refl _ _, fun j q h => by omega⟩
  case round =>
    obtain ⟨m, hk2, rfl, hb, hs⟩ := hrel
    by_cases hlt : m < xs.length
    · obtain ⟨b, off, y, rfl, hbl, hx1, _, hc0, hc1, hc2, hc3⟩ := (hx.below hb).mark (j := m) hlt
      have hr := fun W => newest1 y W
      cases hq : validM y
      · rw [hq] at hr
        have HR := Lib.hid hr
        have HV := Lib.hid (all_no hx1 hq)
        clear hr hq hx1
        go_wp2_with fail
        refine (HR.out _).mono ?_
        rintro e w1 ⟨rfl, hb1⟩
        clear hc0 hc1 hc2 hc3
        go_wp2
        go_ret
        exact ⟨.inl ⟨m, rfl, HV.out⟩, hb.trans (hb1.mono hb.size)⟩
      · rw [hq] at hr
        have HR := Lib.hid hr
        have HV := Lib.hid (step_all hs.out hx1 hq)
        clear hr hq hx1
        go_wp2_with fail
        refine (HR.out _).mono ?_
        rintro e w1 ⟨rfl, hb1⟩
        clear hc0 hc1 hc2 hc3
        go_wp2
        go_roundw
        case rel => exact ⟨m + 1, by omega, by go_num, hb.trans (hb1.mono hb.size), HV⟩
        case measure => simp [intOf]; omega
    · obtain rfl : m = xs.length := by omega
      have HV := Lib.hid (all_yes hs.out)
      go_wp2
      go_ret
      exact ⟨.inr ⟨rfl, HV.out⟩, hb⟩
set_option maxHeartbeats 400000 in
theorem containsMarks (A : Option Addr) (xs : List Mk) (cap : Nat) (w : World) (hx : MarksAt w A xs) (hm : xs.length ≤ maxLen) :
    Calls Tryz.prog 140 #[.slice A xs.length cap, .func (.func 188) #[] #[]] w (OneB (.bool (!xs.all validM)) w) := by
  have H := Lib.hid (indexMarks A xs cap w hx hm)
  go_enter Tryz.func140, Tryz.ntmps140
  go_wp2_with fail
  refine H.out.mono ?_
  rintro e w1 ⟨h, hb⟩
  have HB := Lib.hid hb
  clear hb
  rcases h with ⟨i, rfl, h⟩ | ⟨rfl, h⟩
  · have HV := Lib.hid h
    have i0 : (0 : Int) ≤ (i : Int) := by omega
    clear h
    go_wp2_with fail
    go_ret
    exact OneB.bool (by rw [HV.out]; rfl) HB.out
  · have HV := Lib.hid h
    clear h
    go_wp2_with fail
    go_ret
    exact OneB.bool (by rw [HV.out]; rfl) HB.out

end

end Go.Proofs.YtiaehpdgpjhecaaGreat
