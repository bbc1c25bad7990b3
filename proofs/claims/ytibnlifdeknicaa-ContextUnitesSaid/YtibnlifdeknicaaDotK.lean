/- Plain facts: what order makes of a list is its set; sets of two lists. -/
import Derived.Test.YtibnlifdeknicaaDotI
namespace Go.Proofs.Ytibnlifdeknicaa
open Go.RowKit

theorem ltD_trans {x y z : Int × Int} (h1 : ltD x y = true) (h2 : ltD y z = true) : ltD x z = true := swoD.trans x y z h1 h2
theorem ltD_tri (x y : Int × Int) : ltD x y = true ∨ x = y ∨ ltD y x = true := by
  cases h1 : ltD x y
  · cases h2 : ltD y x
    · exact .inr (.inl (ltD_total x y h1 h2))
    · exact .inr (.inr rfl)
  · exact .inl rfl

/-- Two increasing lists with the same elements are the same. -/
theorem Inc.ext : ∀ {s t : List (Int × Int)}, Inc s → Inc t → (∀ d, d ∈ s ↔ d ∈ t) → s = t
  | [], [], _, _, _ => rfl
  | [], y :: t, _, _, h => by have := (h y).2 (by simp); simp at this
  | x :: s, [], _, _, h => by have := (h x).1 (by simp); simp at this
  | x :: s, y :: t, hs, ht, h => by
    have hs' := List.pairwise_cons.1 hs
    have ht' := List.pairwise_cons.1 ht
    have hxy : x = y := by
      have h1 := (h x).1 (by simp)
      have h2 := (h y).2 (by simp)
      rcases List.mem_cons.1 h1 with e | h1
      · exact e
      · rcases List.mem_cons.1 h2 with e | h2
        · exact e.symm
        · have a := ltD_trans (ht'.1 x h1) (hs'.1 y h2)
          rw [ltD_irrefl] at a; cases a
    subst hxy
    have : s = t := Inc.ext hs'.2 ht'.2 fun d => by
      have hd := h d
      simp only [List.mem_cons] at hd
      constructor
      · intro hm
        rcases hd.1 (.inr hm) with e | h'
        · subst e; have := hs'.1 d hm; rw [ltD_irrefl] at this; cases this
        · exact h'
      · intro hm
        rcases hd.2 (.inr hm) with e | h'
        · subst e; have := ht'.1 d hm; rw [ltD_irrefl] at this; cases this
        · exact h'
    rw [this]

theorem mem_dd : ∀ (xs : List (Int × Int)) (d : Int × Int), d ∈ dd xs ↔ d ∈ xs
  | [], d => by simp [dd]
  | [_], d => by simp [dd]
  | x :: y :: r, d => by
    rw [dd]
    split
    · rename_i h; subst h; rw [mem_dd (x :: r) d]; simp
    · rw [List.mem_cons, mem_dd (y :: r) d, List.mem_cons (a := d) (b := x)]
theorem inc_dd : ∀ (xs : List (Int × Int)), xs.Pairwise (fun p q => ltD q p = false) → Inc (dd xs)
  | [], _ => by simp [dd, Inc]
  | [_], _ => by simp [dd, Inc]
  | x :: y :: r, h => by
    have h' := List.pairwise_cons.1 h
    have ih := inc_dd (y :: r) h'.2
    rw [dd]
    split
    · exact ih
    · rename_i hne
      refine List.pairwise_cons.2 ⟨fun d hd => ?_, ih⟩
      rw [mem_dd] at hd
      have hxy : ltD x y = true := by
        rcases ltD_tri x y with e | e | e
        · exact e
        · exact absurd e hne
        · have := h'.1 y (by simp); rw [e] at this; cases this
      rcases List.mem_cons.1 hd with e | hd
      · subst e; exact hxy
      · have h2 := (List.pairwise_cons.1 h'.2).1 d hd
        rcases ltD_tri y d with e | e | e
        · exact ltD_trans hxy e
        · subst e; exact hxy
        · rw [e] at h2; cases h2

theorem inc_ordL (xs : List (Int × Int)) : Inc (ordL xs) := by
  refine inc_dd _ ?_
  have := List.pairwise_mergeSort (le := fun x y => !ltD y x) (l := xs) (by
    intro a b c h1 h2
    simp only [Bool.not_eq_true'] at h1 h2 ⊢
    exact swoD.ntrans _ _ _ h2 h1) (by
    intro a b
    cases h1 : ltD a b
    · simp
    · cases h2 : ltD b a
      · simp
      · have := ltD_trans h1 h2; rw [ltD_irrefl] at this; cases this)
  exact this.imp (by intro a b h; simpa using h)
theorem mem_ordL (xs : List (Int × Int)) (d : Int × Int) : d ∈ ordL xs ↔ d ∈ xs := by
  rw [ordL, mem_dd, sortedL, List.mem_mergeSort]

theorem mem_insD (s : List (Int × Int)) (x d : Int × Int) : d ∈ insD s x ↔ d ∈ s ∨ d = x := by
  unfold insD
  split
  · rename_i h
    constructor
    · exact .inl
    · rintro (h' | rfl)
      · exact h'
      · exact h
  · have := congrArg (d ∈ ·) (List.takeWhile_append_dropWhile (p := (ltD · x)) (l := s))
    simp only [List.mem_append, eq_iff_iff] at this
    rw [List.mem_append, List.mem_cons, ← this]
    constructor
    · rintro (h | h | h)
      · exact .inl (.inl h)
      · exact .inr h
      · exact .inl (.inr h)
    · rintro ((h | h) | h)
      · exact .inl h
      · exact .inr (.inr h)
      · exact .inr (.inl h)
theorem mem_foldl_ins : ∀ (l s : List (Int × Int)) (d : Int × Int), d ∈ l.foldl insD s ↔ d ∈ s ∨ d ∈ l
  | [], s, d => by simp
  | x :: l, s, d => by
    rw [List.foldl_cons, mem_foldl_ins l, mem_insD, List.mem_cons, or_assoc]
theorem mem_setL (xs : List (Int × Int)) (d : Int × Int) : d ∈ setL xs ↔ d ∈ xs := by
  rw [setL, mem_foldl_ins]; simp

theorem inc_insD {s : List (Int × Int)} (hs : Inc s) (x : Int × Int) : Inc (insD s x) := by
  unfold insD
  split
  · exact hs
  · rename_i hx
    have hsplit := List.takeWhile_append_dropWhile (p := (ltD · x)) (l := s)
    have hs2 : Inc (s.takeWhile (ltD · x) ++ s.dropWhile (ltD · x)) := by rw [hsplit]; exact hs
    obtain ⟨h1, h2, h3⟩ := List.pairwise_append.1 hs2
    have hd : ∀ d ∈ s.dropWhile (ltD · x), ltD x d = true := by
      cases hdw : s.dropWhile (ltD · x) with
      | nil => intro d hd; simp at hd
      | cons y r =>
        have hy : ltD y x = false := by
          have := List.head?_dropWhile_not (ltD · x) s
          rw [hdw] at this
          simpa using this
        have hyx : ltD x y = true := by
          rcases ltD_tri x y with e | e | e
          · exact e
          · exact absurd (by rw [← hsplit, hdw, e]; simp) hx
          · rw [e] at hy; cases hy
        intro d hd
        rcases List.mem_cons.1 hd with e | hd
        · subst e; exact hyx
        · rw [hdw] at h2
          exact ltD_trans hyx ((List.pairwise_cons.1 h2).1 d hd)
    refine List.pairwise_append.2 ⟨h1, List.pairwise_cons.2 ⟨hd, h2⟩, fun a ha b hb => ?_⟩
    have hax : ltD a x = true := by
      have := List.all_takeWhile (p := (ltD · x)) (l := s)
      rw [List.all_eq_true] at this
      exact this a ha
    rcases List.mem_cons.1 hb with e | hb
    · subst e; exact hax
    · exact h3 a ha b hb
theorem inc_foldl : ∀ (l s : List (Int × Int)), Inc s → Inc (l.foldl insD s)
  | [], _, h => h
  | x :: l, s, h => inc_foldl l _ (inc_insD h x)
theorem inc_setL (xs : List (Int × Int)) : Inc (setL xs) := inc_foldl xs [] (by simp [Inc])

theorem ordL_eq (xs : List (Int × Int)) : ordL xs = setL xs := (inc_ordL xs).ext (inc_setL xs) fun d => by rw [mem_ordL, mem_setL]
theorem setL_of_inc {s : List (Int × Int)} (h : Inc s) : setL s = s := (inc_setL s).ext h fun d => mem_setL s d
theorem setL_congr {xs ys : List (Int × Int)} (h : ∀ d, d ∈ xs ↔ d ∈ ys) : setL xs = setL ys := (inc_setL xs).ext (inc_setL ys) fun d => by rw [mem_setL, mem_setL, h]
theorem Inc.filter {s : List (Int × Int)} (h : Inc s) (p : Int × Int → Bool) : Inc (s.filter p) := List.Pairwise.filter p h
theorem filter_setL (xs : List (Int × Int)) (p : Int × Int → Bool) : (setL xs).filter p = setL (xs.filter p) :=
  ((inc_setL xs).filter p).ext (inc_setL _) fun d => by rw [List.mem_filter, mem_setL, mem_setL, List.mem_filter]

theorem isSetL_iff_inc (s : List (Int × Int)) : isSetL s s.length ↔ Inc s := by
  constructor
  · induction s with
    | nil => intro _; simp [Inc]
    | cons x r ih =>
      intro h
      have hr : Inc r := ih fun j p q hj h1 h2 => h (j + 1) p q (by simp at hj ⊢; omega) (by simpa using h1) (by simpa using h2)
      refine List.pairwise_cons.2 ⟨?_, hr⟩
      cases r with
      | nil => intro d hd; simp at hd
      | cons y t =>
        have hxy : ltD x y = true := h 0 x y (by simp) rfl rfl
        intro d hd
        rcases List.mem_cons.1 hd with e | hd
        · subst e; exact hxy
        · exact ltD_trans hxy ((List.pairwise_cons.1 hr).1 d hd)
  · intro h j p q hj h1 h2
    exact h.get h1 h2 (by omega)
theorem isSetB_inc (s : List (Int × Int)) : isSetB s = true ↔ Inc s := (isSetB_iff s).trans (isSetL_iff_inc s)

/-- What Minus and Both of the program are. -/
def pickL (xs ys : List (Int × Int)) (inn : Bool) : List (Int × Int) := (ordL xs).filter fun d => !(decide (d ∈ ordL ys) != inn)
theorem pickL_minus (xs ys : List (Int × Int)) : pickL xs ys false = setL (xs.filter fun d => !decide (d ∈ ys)) := by
  unfold pickL
  rw [ordL_eq xs, filter_setL]
  congr 1
  refine List.filter_congr fun d _ => ?_
  simp [mem_ordL]
theorem pickL_both (xs ys : List (Int × Int)) : pickL xs ys true = bothL xs ys := by
  unfold pickL bothL
  rw [ordL_eq xs, filter_setL]
  refine setL_congr fun d => ?_
  simp only [List.mem_filter, mem_ordL, mem_setL]
  simp
  intro h h'
  exact absurd h h'

end Go.Proofs.Ytibnlifdeknicaa
