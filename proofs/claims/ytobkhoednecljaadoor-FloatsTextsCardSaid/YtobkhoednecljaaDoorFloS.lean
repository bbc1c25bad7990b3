/- Plain facts of package floats: values in order, sums (of no seat's code). -/
import Derived.Test.YtobkhoednecljaaDoorFloK
namespace Go.Proofs.YtobkhoednecljaaDoor

def leF (a b : Nat) : Prop := keyF a ≤ keyF b
def insF (s : List Nat) (x : Nat) : List Nat := s.takeWhile (fun y => decide (keyF y ≤ keyF x)) ++ x :: s.dropWhile (fun y => decide (keyF y ≤ keyF x))
def sortF (l : List Nat) : List Nat := l.foldl insF []
theorem insF_perm (s : List Nat) (x : Nat) : (insF s x).Perm (x :: s) := by
  unfold insF
  refine List.perm_middle.trans ?_
  rw [List.takeWhile_append_dropWhile]
theorem insF_len (s : List Nat) (x : Nat) : (insF s x).length = s.length + 1 := (insF_perm s x).length_eq
theorem take_le {s : List Nat} {x y : Nat} (h : y ∈ s.takeWhile (fun y => decide (keyF y ≤ keyF x))) : keyF y ≤ keyF x := by
  have := List.all_takeWhile (l := s) (p := fun y => decide (keyF y ≤ keyF x))
  simpa using List.all_eq_true.1 this y h
theorem drop_gt {s : List Nat} {x : Nat} (hs : s.Pairwise leF) : ∀ y ∈ s.dropWhile (fun y => decide (keyF y ≤ keyF x)), keyF x < keyF y := by
  induction s with
  | nil => intro y hy; simp at hy
  | cons a r ih =>
    intro y hy
    rw [List.pairwise_cons] at hs
    by_cases h : keyF a ≤ keyF x
    · rw [List.dropWhile_cons_of_pos (by simpa using h)] at hy
      exact ih hs.2 y hy
    · rw [List.dropWhile_cons_of_neg (by simpa using h)] at hy
      rcases List.mem_cons.1 hy with rfl | hy
      · omega
      · have : keyF a ≤ keyF y := hs.1 y hy
        omega
theorem insF_sorted {s : List Nat} {x : Nat} (hs : s.Pairwise leF) : (insF s x).Pairwise leF := by
  unfold insF
  refine List.pairwise_append.2 ⟨hs.sublist (List.takeWhile_sublist _), List.pairwise_cons.2 ⟨fun y hy => Nat.le_of_lt (drop_gt hs y hy), hs.sublist (List.dropWhile_sublist _)⟩, fun a ha b hb => ?_⟩
  have h1 := take_le ha
  rcases List.mem_cons.1 hb with rfl | hb
  · exact h1
  · exact Nat.le_trans h1 (Nat.le_of_lt (drop_gt hs b hb))
theorem fold_ins (l : List Nat) : ∀ s : List Nat, s.Pairwise leF → (l.foldl insF s).Pairwise leF ∧ (l.foldl insF s).Perm (s ++ l) := by
  induction l with
  | nil => intro s hs; exact ⟨hs, by simp⟩
  | cons a r ih =>
    intro s hs
    obtain ⟨h1, h2⟩ := ih (insF s a) (insF_sorted hs)
    refine ⟨h1, h2.trans ?_⟩
    exact ((insF_perm s a).append_right r).trans (List.perm_middle (l₁ := s) (l₂ := r) (a := a)).symm
theorem sortF_sorted (l : List Nat) : (sortF l).Pairwise leF := (fold_ins l [] List.Pairwise.nil).1
theorem sortF_perm (l : List Nat) : (sortF l).Perm l := (fold_ins l [] List.Pairwise.nil).2
theorem sortF_len (l : List Nat) : (sortF l).length = l.length := (sortF_perm l).length_eq
theorem sortF_mem {l : List Nat} {x : Nat} : x ∈ sortF l ↔ x ∈ l := (sortF_perm l).mem_iff
theorem sorted_eq {l s : List Nat} (hl : ∀ x ∈ l, x < 18446744073709551616) (hp : s.Perm l) (h1 : s.Pairwise leF) (h2 : l.Pairwise leF) : s = l :=
  hp.eq_of_pairwise (le := leF) (fun a b ha hb h h' => keyF_inj (hl a (hp.mem_iff.1 ha)) (hl b hb) (Nat.le_antisymm h h')) h1 h2
/-- Values in order are just those. -/
theorem sortF_unique {l s : List Nat} (hl : ∀ x ∈ l, x < 18446744073709551616) (hp : s.Perm l) (hs : s.Pairwise leF) : s = sortF l :=
  sorted_eq (fun x hx => hl x (sortF_mem.1 hx)) (hp.trans (sortF_perm l).symm) hs (sortF_sorted l)
theorem sortF_congr {l k : List Nat} (hl : ∀ x ∈ l, x < 18446744073709551616) (hp : l.Perm k) : sortF l = sortF k :=
  sortF_unique (fun x hx => hl x (hp.mem_iff.2 hx)) ((sortF_perm l).trans hp) (sortF_sorted l)
theorem sortF_self {l : List Nat} (hl : ∀ x ∈ l, x < 18446744073709551616) (hs : l.Pairwise leF) : sortF l = l := (sortF_unique hl (List.Perm.refl l) hs).symm

/-- Sums: none once a NaN has come of them. -/
def stepF (o : Option Nat) (y : Nat) : Option Nat := o.bind fun a => Ieee.double.add a y
def foldF (l : List Nat) : Option Nat := l.foldl stepF (some 0)
def outF (o : Option Nat) : Nat := match o with
  | none => nanF
  | some v => canonF v
def sumF (l : List Nat) : Nat := outF (foldF (sortF (l.map canonF)))
theorem add_nan {a y : Nat} (h : isNanF a = true) : Ieee.double.add a y = none := by
  obtain ⟨s, f, e⟩ := read_nan h
  unfold Ieee.Format.add
  rw [e]; rfl
theorem add_ltF {a y r : Nat} (h : Ieee.double.add a y = some r) : r < 18446744073709551616 := Ieee.Format.add_lt _ h
/-- What a sum is so far: the bits, or some NaN. -/
def RepF (o : Option Nat) (v : Nat) : Prop := v < 18446744073709551616 ∧ match o with
  | some a => v = a
  | none => isNanF v = true
theorem RepF.start : RepF (some 0) 0 := ⟨by decide, rfl⟩
theorem RepF.some {o : Option Nat} {v y r : Nat} (h : RepF o v) (ha : Ieee.double.add v y = some r) : RepF (stepF o y) r := by
  obtain ⟨_, h2⟩ := h
  match o, h2 with
  | .some a, h2 =>
    subst h2
    refine ⟨add_ltF ha, ?_⟩
    show match Ieee.double.add v y with
      | Option.some a => r = a
      | none => _
    rw [ha]
  | none, h2 => rw [add_nan h2] at ha; cases ha
theorem RepF.none {o : Option Nat} {v y r : Nat} (h : RepF o v) (ha : Ieee.double.add v y = .none) (hr : isNanF r = true) (hlt : r < 18446744073709551616) : RepF (stepF o y) r := by
  obtain ⟨_, h2⟩ := h
  refine ⟨hlt, ?_⟩
  match o, h2 with
  | .some a, h2 =>
    subst h2
    show match Ieee.double.add v y with
      | Option.some a => r = a
      | Option.none => isNanF r = true
    rw [ha]; exact hr
  | .none, _ => exact hr
theorem RepF.out {o : Option Nat} {v : Nat} (h : RepF o v) : canonF v = outF o := by
  obtain ⟨_, h2⟩ := h
  match o, h2 with
  | .some a, h2 => subst h2; rfl
  | .none, h2 => exact canonF_nan h2
/-- The bits of a NaN that the machine chooses. -/
theorem nan_cut (t : Nat) : isNanF (t % 2 * 9223372036854775808 + 9218868437227405312 + 1 + t / 2 % 4503599627370495) = true ∧ t % 2 * 9223372036854775808 + 9218868437227405312 + 1 + t / 2 % 4503599627370495 < 18446744073709551616 := by
  have h1 : t / 2 % 4503599627370495 < 4503599627370495 := Nat.mod_lt _ (by decide)
  have h2 : t % 2 < 2 := Nat.mod_lt _ (by decide)
  generalize t / 2 % 4503599627370495 = x at *
  generalize t % 2 = y at *
  refine ⟨decide_eq_true ?_, by omega⟩
  show 9218868437227405312 < _
  omega
theorem sumF_canon (l : List Nat) : canonF (sumF l) = sumF l := by
  unfold sumF outF
  split
  · decide
  · exact canonF_idem _
theorem canonF_ltL {l : List Nat} (hl : ∀ x ∈ l, x < 18446744073709551616) : ∀ x ∈ l.map canonF, x < 18446744073709551616 := fun x hx => by
  obtain ⟨y, hy, rfl⟩ := List.mem_map.1 hx
  exact canonF_lt (hl y hy)
/-- A sum depends neither on the order of the values nor on which of the same values they are. -/
theorem sumF_congr {l k : List Nat} (hl : ∀ x ∈ l, x < 18446744073709551616) (hp : (l.map canonF).Perm (k.map canonF)) : sumF l = sumF k := by
  unfold sumF
  rw [sortF_congr (canonF_ltL hl) hp]
theorem sumF_turn {l : List Nat} (hl : ∀ x ∈ l, x < 18446744073709551616) (k : Nat) : sumF (l.drop k ++ l.take k) = sumF l := by
  refine (sumF_congr hl ?_).symm
  have h : l.Perm (l.drop k ++ l.take k) := by
    refine List.Perm.trans ?_ List.perm_append_comm
    rw [List.take_append_drop]
  exact h.map _
theorem sumF_back {l : List Nat} (hl : ∀ x ∈ l, x < 18446744073709551616) (o : Nat) : sumF ((l.map fun x => if sameF x o = true then o else x).reverse) = sumF l := by
  refine (sumF_congr hl ?_).symm
  rw [List.map_reverse, List.map_map]
  have e : (canonF ∘ fun x => if sameF x o = true then o else x) = canonF := by
    funext x
    show canonF (if sameF x o = true then o else x) = canonF x
    split
    · rename_i h
      exact (of_decide_eq_true h).symm
    · rfl
  rw [e]
  exact (List.reverse_perm _).symm
theorem sumF_lt {l : List Nat} (_ : ∀ x ∈ l, x < 18446744073709551616) : sumF l < 18446744073709551616 := by
  unfold sumF outF
  split
  · decide
  · rename_i v hv
    have h : ∀ (m : List Nat) (o : Option Nat), (∀ a, o = some a → a < 18446744073709551616) → ∀ a, m.foldl stepF o = some a → a < 18446744073709551616 := by
      intro m
      induction m with
      | nil => intro o ho a ha; exact ho a ha
      | cons y r ih =>
        intro o ho a ha
        refine ih (stepF o y) (fun b hb => ?_) a ha
        cases o with
        | none => cases hb
        | some c => exact add_ltF hb
    exact canonF_lt (h _ _ (fun a ha => by cases ha; decide) v hv)

end Go.Proofs.YtobkhoednecljaaDoor
