/- Plain facts about quantities and marks: the order of marks, the newest, sums. -/
import Derived.KernelRfl
namespace Go.Proofs.YtfbkhgajlklleaaGreat

/-- A mark: replica and counter of its dot, quantity, time. -/
structure Mk where
  r : Int
  c : Int
  q : Int
  t : Nat
deriving DecidableEq
def Mk.zero : Mk := ⟨0, 0, 0, 0⟩
def qtyN (q : Int) : Bool := decide (1 ≤ q) && decide (q ≤ 2147483647)
def newerN (a b : Mk) : Bool :=
  if a.t = b.t then (if a.r = b.r then (if a.c = b.c then decide (b.q < a.q) else decide (b.c < a.c)) else decide (b.r < a.r)) else decide (b.t < a.t)
theorem newerN_iff (a b : Mk) : newerN a b = true ↔ b.t < a.t ∨ (a.t = b.t ∧ (b.r < a.r ∨ (a.r = b.r ∧ (b.c < a.c ∨ (a.c = b.c ∧ b.q < a.q))))) := by
  unfold newerN
  split
  · split
    · split <;> simp <;> omega
    · simp; omega
  · simp; omega
theorem newerN_irrefl (a : Mk) : newerN a a = false := by
  cases h : newerN a a with
  | false => rfl
  | true => rw [newerN_iff] at h; omega
theorem newerN_asymm {a b : Mk} (h : newerN a b = true) : newerN b a = false := by
  cases h2 : newerN b a with
  | false => rfl
  | true => rw [newerN_iff] at h h2; omega
theorem newerN_trans {a b c : Mk} (h1 : newerN a b = true) (h2 : newerN b c = true) : newerN a c = true := by
  rw [newerN_iff] at *; omega
theorem newerN_total {a b : Mk} (h1 : newerN a b = false) (h2 : newerN b a = false) : a = b := by
  have k1 : ¬ (b.t < a.t ∨ (a.t = b.t ∧ (b.r < a.r ∨ (a.r = b.r ∧ (b.c < a.c ∨ (a.c = b.c ∧ b.q < a.q)))))) := fun h => by rw [(newerN_iff a b).2 h] at h1; cases h1
  have k2 : ¬ (a.t < b.t ∨ (b.t = a.t ∧ (a.r < b.r ∨ (b.r = a.r ∧ (a.c < b.c ∨ (b.c = a.c ∧ a.q < b.q)))))) := fun h => by rw [(newerN_iff b a).2 h] at h2; cases h2
  cases a; cases b
  simp only at k1 k2
  simp only [Mk.mk.injEq]
  omega
theorem newerN_negtrans {a b c : Mk} (h1 : newerN a b = false) (h2 : newerN b c = false) : newerN a c = false := by
  cases h : newerN a c with
  | false => rfl
  | true =>
    have k1 : ¬ (b.t < a.t ∨ (a.t = b.t ∧ (b.r < a.r ∨ (a.r = b.r ∧ (b.c < a.c ∨ (a.c = b.c ∧ b.q < a.q)))))) := fun h => by rw [(newerN_iff a b).2 h] at h1; cases h1
    have k2 : ¬ (c.t < b.t ∨ (b.t = c.t ∧ (c.r < b.r ∨ (b.r = c.r ∧ (c.c < b.c ∨ (b.c = c.c ∧ c.q < b.q)))))) := fun h => by rw [(newerN_iff b c).2 h] at h2; cases h2
    rw [newerN_iff] at h; omega
/-- The order of two marks. -/
def cmpN (a b : Mk) : Int := if newerN a b then 1 else if newerN b a then -1 else 0
theorem cmpN_self (a : Mk) : cmpN a a = 0 := by simp [cmpN, newerN_irrefl]
theorem cmpN_swap (a b : Mk) : cmpN b a = -cmpN a b := by
  unfold cmpN
  cases h1 : newerN a b with
  | true => rw [newerN_asymm h1]; simp
  | false => cases h2 : newerN b a <;> simp
theorem cmpN_zero (a b : Mk) : cmpN a b = 0 ↔ a = b := by
  unfold cmpN
  constructor
  · intro h
    cases h1 : newerN a b with
    | true => rw [h1] at h; simp at h
    | false =>
      cases h2 : newerN b a with
      | true => rw [h1, h2] at h; simp at h
      | false => exact newerN_total h1 h2
  · rintro rfl; simp [newerN_irrefl]
theorem cmpN_neg (a b : Mk) : cmpN a b < 0 ↔ newerN b a = true := by
  unfold cmpN
  cases h1 : newerN a b with
  | true => rw [newerN_asymm h1]; simp
  | false => cases h2 : newerN b a <;> simp
theorem cmpN_pos (a b : Mk) : 0 < cmpN a b ↔ newerN a b = true := by
  unfold cmpN
  cases h1 : newerN a b with
  | true => simp
  | false => cases h2 : newerN b a <;> simp
theorem cmpN_one (a b : Mk) : cmpN a b = 1 ↔ newerN a b = true := by
  unfold cmpN
  cases h1 : newerN a b with
  | true => simp
  | false => cases h2 : newerN b a <;> simp
theorem cmpN_cases (a b : Mk) : cmpN a b = 1 ∨ cmpN a b = -1 ∨ cmpN a b = 0 := by
  unfold cmpN
  split
  · exact .inl rfl
  · split
    · exact .inr (.inl rfl)
    · exact .inr (.inr rfl)
theorem cmpN_trans_neg {a b c : Mk} (h1 : cmpN a b < 0) (h2 : cmpN b c < 0) : cmpN a c < 0 := by
  rw [cmpN_neg] at *; exact newerN_trans h2 h1
theorem cmpN_trans_pos {a b c : Mk} (h1 : 0 < cmpN a b) (h2 : 0 < cmpN b c) : 0 < cmpN a c := by
  rw [cmpN_pos] at *; exact newerN_trans h1 h2

/-- The newest of some marks. -/
def maxN (m : Mk) : List Mk → Mk
  | [] => m
  | x :: r => maxN (if newerN x m then x else m) r
theorem maxN_mem (m : Mk) (l : List Mk) : maxN m l ∈ m :: l := by
  induction l generalizing m with
  | nil => simp [maxN]
  | cons x r ih =>
    unfold maxN
    by_cases hx : newerN x m = true
    · rw [if_pos hx]
      exact List.mem_cons_of_mem _ (ih x)
    · rw [if_neg hx]
      rcases List.mem_cons.1 (ih m) with h | h
      · rw [List.mem_cons]; exact .inl h
      · exact List.mem_cons_of_mem _ (List.mem_cons_of_mem _ h)
theorem maxN_not (m : Mk) (l : List Mk) : ∀ x ∈ m :: l, newerN x (maxN m l) = false := by
  induction l generalizing m with
  | nil => intro x hx; simp at hx; subst hx; exact newerN_irrefl _
  | cons y r ih =>
    intro x hx
    unfold maxN
    have h := ih (if newerN y m then y else m)
    by_cases hy : newerN y m = true
    · rw [if_pos hy] at h ⊢
      rcases List.mem_cons.1 hx with e | e
      · subst e
        exact newerN_negtrans (newerN_asymm hy) (h y (by simp))
      · exact h x e
    · rw [if_neg hy] at h ⊢
      have hy' : newerN y m = false := by simpa using hy
      rcases List.mem_cons.1 hx with e | e
      · subst e; exact h x (by simp)
      · rcases List.mem_cons.1 e with e | e
        · subst e; exact newerN_negtrans hy' (h m (by simp))
        · exact h x (List.mem_cons_of_mem _ e)
/-- What is in the list, and what nothing in it is newer than. -/
def IsMax (l : List Mk) (m : Mk) : Prop := m ∈ l ∧ ∀ x ∈ l, newerN x m = false
theorem IsMax.unique {l : List Mk} {a b : Mk} (h1 : IsMax l a) (h2 : IsMax l b) : a = b := newerN_total (h2.2 a h1.1) (h1.2 b h2.1)
theorem IsMax.same {l k : List Mk} {a b : Mk} (h : ∀ x, x ∈ l ↔ x ∈ k) (h1 : IsMax l a) (h2 : IsMax k b) : a = b :=
  h1.unique ⟨(h b).2 h2.1, fun x hx => h2.2 x ((h x).1 hx)⟩
def newestN : List Mk → Option Mk
  | [] => none
  | m :: l => some (maxN m l)
theorem newestN_max {l : List Mk} {m : Mk} (h : newestN l = some m) : IsMax l m := by
  match l with
  | [] => cases h
  | x :: r => cases h; exact ⟨maxN_mem x r, maxN_not x r⟩
theorem newestN_of {l : List Mk} {m : Mk} (h : IsMax l m) : newestN l = some m := by
  match l with
  | [] => exact absurd h.1 (by simp)
  | x :: r => exact congrArg some ((newestN_max (l := x :: r) rfl).unique h)
theorem newestN_none {l : List Mk} : newestN l = none ↔ l = [] := by
  cases l <;> simp [newestN]
/-- The order in which marks are given does not matter. -/
theorem newestN_same {l k : List Mk} (h : ∀ x, x ∈ l ↔ x ∈ k) : newestN l = newestN k := by
  cases hl : newestN l with
  | none =>
    rw [newestN_none] at hl
    subst hl
    have : k = [] := by
      cases k with
      | nil => rfl
      | cons y r => exact absurd ((h y).2 (by simp)) (by simp)
    rw [this]; rfl
  | some m =>
    have h1 := newestN_max hl
    exact (newestN_of ⟨(h m).1 h1.1, fun x hx => h1.2 x ((h x).2 hx)⟩).symm
theorem newestN_turn (l : List Mk) (k : Nat) : newestN (l.drop k ++ l.take k) = newestN l :=
  newestN_same fun x => by
    rw [List.mem_append]
    conv => rhs; rw [← List.take_append_drop k l, List.mem_append]
    exact or_comm
/-- The greatest time is that of the newest mark. -/
theorem IsMax.time {l : List Mk} {m : Mk} (h : IsMax l m) : ∀ x ∈ l, x.t ≤ m.t := fun x hx => by
  rcases Nat.lt_or_ge m.t x.t with h1 | h1
  · have := h.2 x hx
    rw [(newerN_iff x m).2 (.inl h1)] at this
    cases this
  · exact h1
/-- A later time is newer. -/
theorem newerN_time {a b : Mk} (h : b.t < a.t) : newerN a b = true := (newerN_iff a b).2 (.inl h)

/-- The sum of some numbers, and the error. -/
def totN (l : List Int) : Int := l.foldr (· + ·) 0
def sumV (l : List Int) : Int × Nat := if l = [] then (0, 9) else if l.all qtyN && decide (totN l ≤ 2147483647) then (totN l, 0) else (0, 14)
theorem totN_append (a b : List Int) : totN (a ++ b) = totN a + totN b := by
  induction a with
  | nil => simp [totN]
  | cons x r ih =>
    have e : totN (x :: r ++ b) = x + totN (r ++ b) := rfl
    have e2 : totN (x :: r) = x + totN r := rfl
    rw [e, e2, ih, Int.add_assoc]
theorem totN_turn (l : List Int) (k : Nat) : totN (l.drop k ++ l.take k) = totN l := by
  rw [totN_append, Int.add_comm, ← totN_append, List.take_append_drop]
theorem sumV_turn (l : List Int) (k : Nat) : sumV (l.drop k ++ l.take k) = sumV l := by
  have h1 : (l.drop k ++ l.take k = []) ↔ l = [] := by
    constructor
    · intro h
      have := congrArg List.length h
      rw [List.length_append, List.length_drop, List.length_take, List.length_nil] at this
      exact List.eq_nil_of_length_eq_zero (by omega)
    · rintro rfl; simp
  have h2 : (l.drop k ++ l.take k).all qtyN = l.all qtyN := by
    conv => rhs; rw [← List.take_append_drop k l]
    rw [List.all_append, List.all_append, Bool.and_comm]
  unfold sumV
  rw [h2, totN_turn]
  by_cases h : l = []
  · rw [if_pos h, if_pos (h1.2 h)]
  · rw [if_neg h, if_neg fun e => h (h1.1 e)]
theorem totN_bounds (l : List Int) (h : l.all qtyN = true) : (l.length : Int) ≤ totN l ∧ totN l ≤ 2147483647 * l.length := by
  induction l with
  | nil => simp [totN]
  | cons x r ih =>
    rw [List.all_cons, Bool.and_eq_true] at h
    have hx : 1 ≤ x ∧ x ≤ 2147483647 := by simpa [qtyN] using h.1
    have := ih h.2
    have e : totN (x :: r) = x + totN r := rfl
    rw [e, List.length_cons]
    omega
/-- A sum is a quantity. -/
theorem sumV_qty {l : List Int} {n : Int} (h : sumV l = (n, 0)) : qtyN n = true := by
  unfold sumV at h
  split at h
  · cases h
  · rename_i hne
    split at h
    · rename_i hq
      rw [Bool.and_eq_true, decide_eq_true_eq] at hq
      have hb := totN_bounds l hq.1
      have hl : 0 < l.length := List.length_pos_iff.2 hne
      cases h
      simp [qtyN]
      omega
    · cases h

/-- What is found out in a loop over a list. -/
theorem all_yes {α : Type} {p : α → Bool} {xs : List α} (h : ∀ (j : Nat) (x : α), j < xs.length → xs[j]? = some x → p x = true) : xs.all p = true := by
  rw [List.all_eq_true]
  intro x hx
  obtain ⟨j, hj⟩ := List.mem_iff_getElem?.1 hx
  exact h j x (List.getElem?_eq_some_iff.1 hj).1 hj
theorem all_no {α : Type} {p : α → Bool} {xs : List α} {j : Nat} {x : α} (hx : xs[j]? = some x) (h : p x = false) : xs.all p = false := by
  cases e : xs.all p with
  | false => rfl
  | true => rw [List.all_eq_true] at e; have := e x (List.mem_of_getElem? hx); rw [h] at this; cases this
theorem step_all {α : Type} {p : α → Bool} {xs : List α} {m : Nat} {x : α} (h : ∀ (j : Nat) (y : α), j < m → xs[j]? = some y → p y = true) (hx : xs[m]? = some x) (hp : p x = true) : ∀ (j : Nat) (y : α), j < m + 1 → xs[j]? = some y → p y = true := fun j y hj hy => by
  by_cases e : j = m
  · subst e; rw [hx] at hy; cases hy; exact hp
  · exact h j y (by omega) hy
theorem take_step {α : Type} {xs : List α} {m : Nat} {x : α} (hx : xs[m]? = some x) : xs.take (m + 1) = xs.take m ++ [x] := by
  obtain ⟨h1, h2⟩ := List.getElem?_eq_some_iff.1 hx
  rw [List.take_succ_eq_append_getElem h1, h2]
theorem maxN_snoc (m : Mk) (l : List Mk) (x : Mk) : maxN m (l ++ [x]) = if newerN x (maxN m l) then x else maxN m l := by
  induction l generalizing m with
  | nil => rfl
  | cons y r ih => rw [List.cons_append]; exact ih _
theorem newestN_snoc {l : List Mk} {m : Mk} (h : newestN l = some m) (x : Mk) : newestN (l ++ [x]) = some (if newerN x m then x else m) := by
  match l with
  | [] => cases h
  | y :: r =>
    have e : maxN y r = m := Option.some.inj h
    rw [List.cons_append, newestN, maxN_snoc, e]
theorem totN_snoc (l : List Int) (x : Int) : totN (l ++ [x]) = totN l + x := by
  rw [totN_append]; simp [totN]
theorem totN_cons (x : Int) (l : List Int) : totN (x :: l) = x + totN l := rfl
/-- The sum: an invalid number; a part that is too great; none of these. -/
theorem sumV_bad {l : List Int} {j : Nat} {q : Int} (hx : l[j]? = some q) (h : qtyN q = false) : sumV l = (0, 14) := by
  have hn : l ≠ [] := by rintro rfl; simp at hx
  unfold sumV
  rw [if_neg hn, all_no hx h]; rfl
theorem totN_take {l : List Int} (h : l.all qtyN = true) (k : Nat) : totN (l.take k) ≤ totN l := by
  have h1 : totN (l.take k ++ l.drop k) = totN (l.take k) + totN (l.drop k) := totN_append _ _
  rw [List.take_append_drop] at h1
  have h2 : (l.drop k).all qtyN = true := by
    rw [List.all_eq_true] at h ⊢
    exact fun x hx => h x (List.mem_of_mem_drop hx)
  have := (totN_bounds _ h2).1
  omega
theorem sumV_great {l : List Int} {k : Nat} (h : 2147483647 < totN (l.take k)) : sumV l = (0, 14) := by
  have hn : l ≠ [] := by rintro rfl; simp [totN] at h
  unfold sumV
  rw [if_neg hn]
  cases e : l.all qtyN with
  | false => rfl
  | true =>
    have := totN_take e k
    have h2 : decide (totN l ≤ 2147483647) = false := by simp; omega
    rw [h2]; rfl
theorem sumV_ok {l : List Int} (hn : l ≠ []) (h : l.all qtyN = true) (hs : totN l ≤ 2147483647) : sumV l = (totN l, 0) := by
  unfold sumV
  rw [if_neg hn, h]
  simp [hs]

/-- The newest one and whether there is one. -/
def newestF (l : List Mk) : Mk × Bool := match newestN l with
  | none => (Mk.zero, false)
  | some m => (m, true)
theorem newestF_nil : newestF [] = (Mk.zero, false) := rfl
theorem newestF_first {l : List Mk} {v : Mk} (h : newestF l = (v, false)) (x : Mk) : newestF (l ++ [x]) = (x, true) := by
  match l with
  | [] => rfl
  | y :: r => simp [newestF, newestN] at h
theorem newestF_step {l : List Mk} {v : Mk} (h : newestF l = (v, true)) (x : Mk) : newestF (l ++ [x]) = (if newerN x v then x else v, true) := by
  match l with
  | [] => simp [newestF, newestN] at h
  | y :: r =>
    have e : newestN (y :: r) = some v := by
      have : (maxN y r, true) = (v, true) := h
      cases this; rfl
    simp only [newestF, newestN_snoc e]
theorem newestF_new {l : List Mk} {v x : Mk} (h : newestF l = (v, true)) (hx : newerN x v = true) : newestF (l ++ [x]) = (x, true) := by rw [newestF_step h, if_pos hx]
theorem newestF_old {l : List Mk} {v x : Mk} (h : newestF l = (v, true)) (hx : newerN x v = false) : newestF (l ++ [x]) = (v, true) := by rw [newestF_step h, if_neg (by simp [hx])]
theorem newestF_some {l : List Mk} {v : Mk} : newestF l = (v, true) ↔ newestN l = some v := by
  cases h : newestN l with
  | none => simp [newestF, h]
  | some m => simp [newestF, h]
theorem newestF_none {l : List Mk} {v : Mk} : newestF l = (v, false) ↔ l = [] ∧ v = Mk.zero := by
  cases l with
  | nil => simp [newestF, newestN, eq_comm]
  | cons y r => simp [newestF, newestN]

/-- The newest of some marks and the error, the time after them and the error. -/
def newV (valid : Mk → Bool) (l : List Mk) : Mk × Nat := if l.all valid then (match newestN l with
  | none => (Mk.zero, 9)
  | some m => (m, 0)) else (Mk.zero, 2)
def nextV (valid : Mk → Bool) (l : List Mk) : Nat × Nat := if l.all valid then (match newestN l with
  | none => (1, 0)
  | some m => if m.t = 18446744073709551615 then (0, 15) else (m.t + 1, 0)) else (0, 2)
section
variable {valid : Mk → Bool} {l : List Mk} {m : Mk}
theorem newV_bad (h : l.all valid = false) : newV valid l = (Mk.zero, 2) := by unfold newV; rw [h]; rfl
theorem newV_none (h : newestF l = (m, false)) : newV valid l = (m, 9) := by
  obtain ⟨rfl, rfl⟩ := newestF_none.1 h
  rfl
theorem newV_some (ha : l.all valid = true) (h : newestF l = (m, true)) : newV valid l = (m, 0) := by
  unfold newV; rw [ha, newestF_some.1 h]; rfl
theorem nextV_bad (h : l.all valid = false) : nextV valid l = (0, 2) := by unfold nextV; rw [h]; rfl
theorem nextV_of (h : newV valid l = (m, 0)) : nextV valid l = if m.t = 18446744073709551615 then (0, 15) else (m.t + 1, 0) := by
  unfold newV at h
  unfold nextV
  cases ha : l.all valid with
  | false => rw [ha] at h; simp at h
  | true =>
    rw [ha, if_pos rfl] at h
    rw [if_pos rfl]
    cases hn : newestN l with
    | none => rw [hn] at h; simp at h
    | some x => rw [hn] at h; simp at h; subst h; rfl
theorem nextV_none (h : newV valid l = (m, 9)) : nextV valid l = (1, 0) := by
  unfold newV at h
  unfold nextV
  cases ha : l.all valid with
  | false => rw [ha] at h; simp at h
  | true =>
    rw [ha, if_pos rfl] at h
    rw [if_pos rfl]
    cases hn : newestN l with
    | none => rfl
    | some x => rw [hn] at h; simp at h
theorem nextV_two (h : newV valid l = (m, 2)) : nextV valid l = (0, 2) := by
  unfold newV at h
  unfold nextV
  cases ha : l.all valid with
  | false => rfl
  | true =>
    rw [ha, if_pos rfl] at h
    cases hn : newestN l with
    | none => rw [hn] at h; simp at h
    | some x => rw [hn] at h; simp at h
theorem newV_cases (valid : Mk → Bool) (l : List Mk) : (∃ m, newV valid l = (m, 0)) ∨ (newV valid l = (Mk.zero, 9)) ∨ (newV valid l = (Mk.zero, 2)) := by
  unfold newV
  split
  · split
    · exact .inr (.inl rfl)
    · exact .inl ⟨_, rfl⟩
  · exact .inr (.inr rfl)
end

/-- The newest one as the reference finds it. -/
def newR (l : List Mk) : Mk × Nat := match newestN l with
  | none => (Mk.zero, 9)
  | some m => (m, 0)
def nextR (l : List Mk) : Nat × Nat := if (newR l).1.t = 18446744073709551615 then (0, 15) else ((newR l).1.t + 1, 0)
section
variable {valid : Mk → Bool} {l : List Mk}
theorem newV_R (h : l.all valid = true) : newV valid l = newR l := by unfold newV newR; rw [h]; rfl
theorem nextV_R (h : l.all valid = true) : nextV valid l = nextR l := by
  unfold nextV nextR newR
  rw [h, if_pos rfl]
  cases newestN l with
  | none => rfl
  | some m => rfl
theorem newR_found {i : Nat} {y : Mk} (hy : l[i]? = some y) (h : (l.any fun x => newerN x y) = false) : newR l = (y, 0) := by
  have : newestN l = some y := newestN_of ⟨List.mem_of_getElem? hy, fun x hx => by
    rw [List.any_eq_false] at h
    simpa using h x hx⟩
  unfold newR; rw [this]
theorem newR_end (h : ∀ (j : Nat) (y : Mk), j < l.length → l[j]? = some y → (l.any fun x => newerN x y) = true) : newR l = (Mk.zero, 9) := by
  cases hn : newestN l with
  | none => unfold newR; rw [hn]
  | some m =>
    have hm := newestN_max hn
    obtain ⟨j, hj⟩ := List.mem_iff_getElem?.1 hm.1
    have := h j m (List.getElem?_eq_some_iff.1 hj).1 hj
    rw [List.any_eq_true] at this
    obtain ⟨x, hx, h2⟩ := this
    rw [hm.2 x hx] at h2; cases h2
theorem any_step {α : Type} {p : α → Bool} {xs : List α} {m : Nat} {x : α} (hx : xs[m]? = some x) : (xs.take (m + 1)).any p = ((xs.take m).any p || p x) := by
  rw [take_step hx, List.any_append]; simp
theorem newR_mem {v : Mk} {n : Nat} (h : newR l = (v, n)) : v ∈ l ∨ v = Mk.zero := by
  unfold newR at h
  split at h
  · cases h; exact .inr rfl
  · rename_i h2; cases h; exact .inl (newestN_max h2).1
end

theorem all_turn {α : Type} (p : α → Bool) (l : List α) (k : Nat) : (l.drop k ++ l.take k).all p = l.all p := by
  conv => rhs; rw [← List.take_append_drop k l]
  rw [List.all_append, List.all_append, Bool.and_comm]
theorem newV_turn (valid : Mk → Bool) (l : List Mk) (k : Nat) : newV valid (l.drop k ++ l.take k) = newV valid l := by
  unfold newV; rw [all_turn, newestN_turn]
/-- The newest one and the time after it, against each of the marks. -/
theorem newV_combos {valid : Mk → Bool} {l : List Mk} {v : Mk} {n T f : Nat} (hne : l ≠ []) (hv : newV valid l = (v, n)) (hn : nextV valid l = (T, f)) :
    (n = 0 ∧ f = 0 ∧ (∀ o ∈ l, cmpN o v ≤ 0) ∧ ∀ o ∈ l, ∀ r c q, cmpN ⟨r, c, q, T⟩ o = 1) ∨ (n = 0 ∧ f = 15 ∧ ∀ o ∈ l, cmpN o v ≤ 0) ∨ (n = 2 ∧ f = 2) := by
  unfold newV at hv
  unfold nextV at hn
  cases ha : l.all valid with
  | false => rw [ha] at hv hn; simp at hv hn; exact .inr (.inr ⟨hv.2.symm, hn.2.symm⟩)
  | true =>
    rw [ha, if_pos rfl] at hv hn
    cases hw : newestN l with
    | none => exact absurd (newestN_none.1 hw) hne
    | some m =>
      rw [hw] at hv hn
      have hmx := newestN_max hw
      simp at hv hn
      obtain ⟨rfl, rfl⟩ := hv
      have hle : ∀ o ∈ l, cmpN o m ≤ 0 := fun o ho => by
        have := hmx.2 o ho
        have h2 : ¬ 0 < cmpN o m := fun h => by rw [cmpN_pos, this] at h; cases h
        omega
      by_cases ht : m.t = 18446744073709551615
      · rw [if_pos ht] at hn; cases hn; exact .inr (.inl ⟨rfl, rfl, hle⟩)
      · rw [if_neg ht] at hn; cases hn
        exact .inl ⟨rfl, rfl, hle, fun o ho r c q => by rw [cmpN_one]; exact newerN_time (by have := hmx.time o ho; simp; omega)⟩

end Go.Proofs.YtfbkhgajlklleaaGreat
