/- Plain facts about causal contexts: a vector and a cloud; the compact one with the same dots is unique. -/
import Derived.Test.YtibnlifdeknicaaVecK
import Derived.Test.YtibnlifdeknicaaDotK
namespace Go.Proofs.Ytibnlifdeknicaa
open Go.RowKit

/-- Whether all dots of a list are valid. -/
def okL (l : List (Int × Int)) : Bool := l.all fun p => validD p.1 p.2
theorem okL_iff (l : List (Int × Int)) : okL l = true ↔ ∀ p ∈ l, validD p.1 p.2 = true := by simp [okL, List.all_eq_true]
/-- Which contexts are valid. -/
def validC (v l : List (Int × Int)) : Bool := validV v && (isSetB l && okL l)
/-- Whether a dot is in a context. -/
def hasC (v l : List (Int × Int)) (r c : Int) : Bool := validD r c && (hasV v r c || decide ((r, c) ∈ l))
/-- Whether a dot of the cloud may leave it. -/
def goesC (v : List (Int × Int)) (d : Int × Int) : Bool := hasV v d.1 d.2 || (d.2 == getV v d.1 + 1)
/-- Which contexts are compact. -/
def compC (v l : List (Int × Int)) : Bool := l.all (fun d => !goesC v d) && validC v l
/-- One pass through the cloud. -/
def passC : List (Int × Int) → List (Int × Int) → List (Int × Int) → List (Int × Int) × List (Int × Int)
  | v, rest, [] => (v, rest)
  | v, rest, d :: l => if hasV v d.1 d.2 then passC v rest l else if d.2 = getV v d.1 + 1 then passC (raiseV v d) rest l else passC v (rest ++ [d]) l
/-- At most n passes. -/
def compN : Nat → List (Int × Int) → List (Int × Int) → List (Int × Int) × List (Int × Int)
  | 0, v, l => (v, l)
  | n + 1, v, l => if compC v l then (v, l) else compN n (passC v [] l).1 (passC v [] l).2
/-- The compact context with the same dots. -/
def compactC (v l : List (Int × Int)) : List (Int × Int) × List (Int × Int) := compN l.length v l

theorem validC_iff {v l : List (Int × Int)} : validC v l = true ↔ validV v = true ∧ Inc l ∧ ∀ p ∈ l, validD p.1 p.2 = true := by
  rw [validC, Bool.and_eq_true, Bool.and_eq_true, isSetB_inc, okL_iff]
theorem hasV_iff {v : List (Int × Int)} {r c : Int} : hasV v r c = true ↔ validD r c = true ∧ c ≤ getV v r := by simp [hasV]
theorem hasC_iff {v l : List (Int × Int)} {r c : Int} : hasC v l r c = true ↔ validD r c = true ∧ (hasV v r c = true ∨ (r, c) ∈ l) := by simp [hasC]
theorem compC_iff {v l : List (Int × Int)} : compC v l = true ↔ (∀ d ∈ l, goesC v d = false) ∧ validC v l = true := by simp [compC, List.all_eq_true]
theorem goesC_no {v : List (Int × Int)} {d : Int × Int} (h : goesC v d = false) : hasV v d.1 d.2 = false ∧ d.2 ≠ getV v d.1 + 1 := by simpa [goesC] using h

theorem pass_valid : ∀ {l v rest : List (Int × Int)}, validV v = true → (∀ p ∈ l, validD p.1 p.2 = true) → validV (passC v rest l).1 = true
  | [], _, _, h, _ => h
  | d :: l, v, rest, h, hl => by
    rw [passC]
    split
    · exact pass_valid h fun p hp => hl p (by simp [hp])
    · split
      · exact pass_valid (valid_raiseV h (hl d (by simp))) fun p hp => hl p (by simp [hp])
      · exact pass_valid h fun p hp => hl p (by simp [hp])
theorem pass_sub : ∀ (l v rest : List (Int × Int)), ∃ k, (passC v rest l).2 = rest ++ k ∧ k.Sublist l
  | [], v, rest => ⟨[], by simp [passC], List.Sublist.refl _⟩
  | d :: l, v, rest => by
    rw [passC]
    split
    · obtain ⟨k, h1, h2⟩ := pass_sub l v rest
      exact ⟨k, h1, h2.cons _⟩
    · split
      · obtain ⟨k, h1, h2⟩ := pass_sub l (raiseV v d) rest
        exact ⟨k, h1, h2.cons _⟩
      · obtain ⟨k, h1, h2⟩ := pass_sub l v (rest ++ [d])
        exact ⟨d :: k, by rw [h1]; simp, h2.cons_cons _⟩
theorem pass_len (l v rest : List (Int × Int)) : (passC v rest l).2.length ≤ rest.length + l.length := by
  obtain ⟨k, h1, h2⟩ := pass_sub l v rest
  rw [h1, List.length_append]
  have := h2.length_le
  omega
theorem pass_less : ∀ {l v rest : List (Int × Int)} {d : Int × Int}, d ∈ l → goesC v d = true → (passC v rest l).2.length < rest.length + l.length
  | [], _, _, _, h, _ => absurd h (by simp)
  | x :: l, v, rest, d, h, hg => by
    rw [passC]
    split
    · have := pass_len l v rest
      simp only [List.length_cons]; omega
    · split
      · have := pass_len l (raiseV v x) rest
        simp only [List.length_cons]; omega
      · rename_i h1 h2
        have hd : d ∈ l := by
          rcases List.mem_cons.1 h with rfl | h
          · simp [goesC, h1, h2] at hg
          · exact h
        have := pass_less (rest := rest ++ [x]) hd hg
        simp only [List.length_append, List.length_cons, List.length_nil] at this ⊢; omega
theorem raise_next {v : List (Int × Int)} {d : Int × Int} (hv : validV v = true) (hd : validD d.1 d.2 = true) (hn : d.2 = getV v d.1 + 1) (r c : Int) : hasV (raiseV v d) r c = true ↔ hasV v r c = true ∨ (r, c) = d := by
  rw [hasV_iff, hasV_iff, get_raiseV hv hd]
  constructor
  · rintro ⟨h1, h2⟩
    split at h2
    · rename_i e
      subst e
      rcases Int.lt_or_le (getV v d.1) c with h | h
      · right
        have : c = d.2 := by omega
        rw [this]
      · exact .inl ⟨h1, h⟩
    · exact .inl ⟨h1, h2⟩
  · rintro (⟨h1, h2⟩ | h)
    · refine ⟨h1, ?_⟩
      split <;> omega
    · cases h
      rw [if_pos rfl]
      exact ⟨hd, by omega⟩
theorem pass_has : ∀ {l v rest : List (Int × Int)}, validV v = true → (∀ p ∈ l, validD p.1 p.2 = true) → ∀ r c, ((hasV (passC v rest l).1 r c = true ∨ (r, c) ∈ (passC v rest l).2) ↔ (hasV v r c = true ∨ (r, c) ∈ rest ∨ (r, c) ∈ l))
  | [], v, rest, _, _, r, c => by simp [passC]
  | d :: l, v, rest, h, hl, r, c => by
    have hl' : ∀ p ∈ l, validD p.1 p.2 = true := fun p hp => hl p (by simp [hp])
    have hd := hl d (by simp)
    rw [passC]
    split
    · rename_i hh
      rw [pass_has h hl' r c, List.mem_cons]
      constructor
      · rintro (h1 | h1 | h1) <;> simp [h1]
      · rintro (h1 | h1 | h1 | h1)
        · exact .inl h1
        · exact .inr (.inl h1)
        · cases h1; exact .inl hh
        · exact .inr (.inr h1)
    · split
      · rename_i hh hn
        rw [pass_has (valid_raiseV h hd) hl' r c, raise_next h hd hn, List.mem_cons]
        constructor
        · rintro ((h1 | h1) | h1 | h1) <;> simp [h1]
        · rintro (h1 | h1 | h1 | h1) <;> simp [h1]
      · rw [pass_has h hl' r c, List.mem_append, List.mem_singleton, List.mem_cons]
        constructor
        · rintro (h1 | (h1 | h1) | h1) <;> simp [h1]
        · rintro (h1 | h1 | h1 | h1) <;> simp [h1]
theorem pass_validC {v l : List (Int × Int)} (h : validC v l = true) : validC (passC v [] l).1 (passC v [] l).2 = true := by
  obtain ⟨h1, h2, h3⟩ := validC_iff.1 h
  obtain ⟨k, e, hk⟩ := pass_sub l v []
  rw [List.nil_append] at e
  refine validC_iff.2 ⟨pass_valid h1 h3, ?_, ?_⟩
  · rw [e]; exact List.Pairwise.sublist hk h2
  · rw [e]; exact fun p hp => h3 p (hk.subset hp)
theorem pass_hasC {v l : List (Int × Int)} (h : validC v l = true) (r c : Int) : hasC (passC v [] l).1 (passC v [] l).2 r c = hasC v l r c := by
  obtain ⟨h1, h2, h3⟩ := validC_iff.1 h
  rw [Bool.eq_iff_iff, hasC_iff, hasC_iff, pass_has h1 h3]
  simp

theorem compN_valid : ∀ (n : Nat) {v l : List (Int × Int)}, validC v l = true → validC (compN n v l).1 (compN n v l).2 = true
  | 0, _, _, h => h
  | n + 1, v, l, h => by
    rw [compN]
    split
    · exact h
    · exact compN_valid n (pass_validC h)
theorem compN_has : ∀ (n : Nat) {v l : List (Int × Int)}, validC v l = true → ∀ r c, hasC (compN n v l).1 (compN n v l).2 r c = hasC v l r c
  | 0, _, _, _, _, _ => rfl
  | n + 1, v, l, h, r, c => by
    rw [compN]
    split
    · rfl
    · rw [compN_has n (pass_validC h), pass_hasC h]
theorem not_comp {v l : List (Int × Int)} (h : validC v l = true) (hc : compC v l = false) : ∃ d ∈ l, goesC v d = true := by
  rcases Classical.em (∃ d ∈ l, goesC v d = true) with h1 | h1
  · exact h1
  · have : compC v l = true := compC_iff.2 ⟨fun d hd => by
      cases e : goesC v d
      · rfl
      · exact absurd ⟨d, hd, e⟩ h1, h⟩
    rw [this] at hc; cases hc
theorem compN_comp : ∀ (n : Nat) {v l : List (Int × Int)}, validC v l = true → l.length ≤ n → compC (compN n v l).1 (compN n v l).2 = true
  | 0, v, l, h, hl => by
    have : l = [] := List.eq_nil_of_length_eq_zero (by omega)
    subst this
    exact compC_iff.2 ⟨(fun d hd => by cases hd), h⟩
  | n + 1, v, l, h, hl => by
    rw [compN]
    split
    · rename_i hc; exact hc
    · rename_i hc
      obtain ⟨d, hd, hg⟩ := not_comp h (Bool.eq_false_iff.2 hc)
      have := pass_less (rest := []) hd hg
      simp only [List.length_nil, Nat.zero_add] at this
      exact compN_comp n (pass_validC h) (by omega)
theorem compactC_comp {v l : List (Int × Int)} (h : validC v l = true) : compC (compactC v l).1 (compactC v l).2 = true := compN_comp _ h (Nat.le_refl _)
theorem compactC_valid {v l : List (Int × Int)} (h : validC v l = true) : validC (compactC v l).1 (compactC v l).2 = true := compN_valid _ h
theorem compactC_has {v l : List (Int × Int)} (h : validC v l = true) (r c : Int) : hasC (compactC v l).1 (compactC v l).2 r c = hasC v l r c := compN_has _ h r c

theorem comp_get_le {v l v' l' : List (Int × Int)} (h : compC v l = true) (h' : compC v' l' = true) (hh : ∀ r c, hasC v' l' r c = true → hasC v l r c = true) (r : Int) : getV v' r ≤ getV v r := by
  obtain ⟨h1, h2⟩ := compC_iff.1 h
  obtain ⟨_, h4⟩ := compC_iff.1 h'
  obtain ⟨hv, _, _⟩ := validC_iff.1 h2
  obtain ⟨hv', _, _⟩ := validC_iff.1 h4
  rcases Int.lt_or_le (getV v r) (getV v' r) with hlt | hle
  · exfalso
    have h0 := getV_nonneg ((validV_iff v).1 hv).1 r
    have hm := getV_of_pos (v := v') (r := r) (by omega)
    have hd := ((validV_iff v').1 hv').1 _ hm
    have hd2 : validD r (getV v r + 1) = true := by
      simp [validD] at hd ⊢
      omega
    have h3 := hh r (getV v r + 1) (hasC_iff.2 ⟨hd2, .inl (hasV_iff.2 ⟨hd2, by omega⟩)⟩)
    rcases (hasC_iff.1 h3).2 with h5 | h5
    · have := (hasV_iff.1 h5).2
      omega
    · exact (goesC_no (h1 _ h5)).2 rfl
  · exact hle
/-- Two compact contexts with the same dots are the same. -/
theorem comp_unique {v l v' l' : List (Int × Int)} (h : compC v l = true) (h' : compC v' l' = true) (hh : ∀ r c, hasC v l r c = hasC v' l' r c) : v = v' ∧ l = l' := by
  obtain ⟨h1, h2⟩ := compC_iff.1 h
  obtain ⟨h3, h4⟩ := compC_iff.1 h'
  obtain ⟨hv, hi, hl⟩ := validC_iff.1 h2
  obtain ⟨hv', hi', hl'⟩ := validC_iff.1 h4
  have e : v = v' := validV_ext hv hv' fun r => by
    have a := comp_get_le h h' (fun r c hx => by rw [hh]; exact hx) r
    have b := comp_get_le h' h (fun r c hx => by rw [← hh]; exact hx) r
    omega
  refine ⟨e, hi.ext hi' fun d => ?_⟩
  subst e
  have hd := hh d.1 d.2
  rw [Bool.eq_iff_iff, hasC_iff, hasC_iff] at hd
  constructor
  · intro hm
    rcases (hd.1 ⟨hl d hm, .inr hm⟩).2 with h5 | h5
    · rw [(goesC_no (h1 d hm)).1] at h5; cases h5
    · exact h5
  · intro hm
    rcases (hd.2 ⟨hl' d hm, .inr hm⟩).2 with h5 | h5
    · rw [(goesC_no (h3 d hm)).1] at h5; cases h5
    · exact h5
theorem compactC_self {v l : List (Int × Int)} (h : compC v l = true) : compactC v l = (v, l) := by
  unfold compactC
  cases l with
  | nil => rfl
  | cons x l => rw [List.length_cons, compN, if_pos h]
/-- Whatever compact context has the same dots is the one that compaction returns. -/
theorem compactC_eq {v l v' l' : List (Int × Int)} (h : validC v l = true) (h' : compC v' l' = true) (hh : ∀ r c, hasC v' l' r c = hasC v l r c) : compactC v l = (v', l') := by
  obtain ⟨e1, e2⟩ := comp_unique (compactC_comp h) h' fun r c => by rw [compactC_has h, hh]
  rw [← e1, ← e2]
/-- Two valid contexts have the same dots just if they have the same compact one. -/
theorem compact_iff {v l v' l' : List (Int × Int)} (h : validC v l = true) (h' : validC v' l' = true) : compactC v l = compactC v' l' ↔ ∀ r c, hasC v l r c = hasC v' l' r c := by
  constructor
  · intro e r c
    rw [← compactC_has h, ← compactC_has h', e]
  · intro hh
    have e := comp_unique (compactC_comp h) (compactC_comp h') fun r c => by rw [compactC_has h, compactC_has h', hh]
    exact Prod.ext e.1 e.2

/-- The cloud with more dots. -/
theorem validC_more {v l m : List (Int × Int)} (hv : validV v = true) (hl : ∀ p ∈ l, validD p.1 p.2 = true) (hm : ∀ p ∈ m, validD p.1 p.2 = true) : validC v (setL (l ++ m)) = true :=
  validC_iff.2 ⟨hv, inc_setL _, fun p hp => by
    rw [mem_setL, List.mem_append] at hp
    exact hp.elim (hl p) (hm p)⟩
/-- The compact context with some dots more, with the dots of two. -/
def addC (v l m : List (Int × Int)) : List (Int × Int) × List (Int × Int) := compactC v (setL (l ++ m))
def unionC (v l v' l' : List (Int × Int)) : List (Int × Int) × List (Int × Int) := compactC (mergeV v v') (setL (l ++ l'))
theorem addC_valid {v l m : List (Int × Int)} (h : validC v l = true) (hm : ∀ p ∈ m, validD p.1 p.2 = true) : validC v (setL (l ++ m)) = true :=
  validC_more (validC_iff.1 h).1 (validC_iff.1 h).2.2 hm
theorem addC_comp {v l m : List (Int × Int)} (h : validC v l = true) (hm : ∀ p ∈ m, validD p.1 p.2 = true) : compC (addC v l m).1 (addC v l m).2 = true := compactC_comp (addC_valid h hm)
theorem addC_has {v l m : List (Int × Int)} (h : validC v l = true) (hm : ∀ p ∈ m, validD p.1 p.2 = true) (r c : Int) : hasC (addC v l m).1 (addC v l m).2 r c = (hasC v l r c || decide ((r, c) ∈ m)) := by
  rw [addC, compactC_has (addC_valid h hm), Bool.eq_iff_iff, Bool.or_eq_true, hasC_iff, hasC_iff, mem_setL, List.mem_append, decide_eq_true_eq]
  constructor
  · rintro ⟨h1, h2 | h2 | h2⟩
    · exact .inl ⟨h1, .inl h2⟩
    · exact .inl ⟨h1, .inr h2⟩
    · exact .inr h2
  · rintro (⟨h1, h2 | h2⟩ | h2)
    · exact ⟨h1, .inl h2⟩
    · exact ⟨h1, .inr (.inl h2)⟩
    · exact ⟨hm _ h2, .inr (.inr h2)⟩
theorem unionC_valid {v l v' l' : List (Int × Int)} (h : validC v l = true) (h' : validC v' l' = true) : validC (mergeV v v') (setL (l ++ l')) = true :=
  validC_more (valid_merge (validC_iff.1 h).1 (validC_iff.1 h').1) (validC_iff.1 h).2.2 (validC_iff.1 h').2.2
theorem unionC_comp {v l v' l' : List (Int × Int)} (h : validC v l = true) (h' : validC v' l' = true) : compC (unionC v l v' l').1 (unionC v l v' l').2 = true := compactC_comp (unionC_valid h h')
theorem unionC_has {v l v' l' : List (Int × Int)} (h : validC v l = true) (h' : validC v' l' = true) (r c : Int) : hasC (unionC v l v' l').1 (unionC v l v' l').2 r c = (hasC v l r c || hasC v' l' r c) := by
  rw [unionC, compactC_has (unionC_valid h h'), Bool.eq_iff_iff, Bool.or_eq_true, hasC_iff, hasC_iff, hasC_iff, has_merge (validC_iff.1 h).1 (validC_iff.1 h').1, Bool.or_eq_true, mem_setL, List.mem_append]
  constructor
  · rintro ⟨h1, (h2 | h2) | h2 | h2⟩
    · exact .inl ⟨h1, .inl h2⟩
    · exact .inr ⟨h1, .inl h2⟩
    · exact .inl ⟨h1, .inr h2⟩
    · exact .inr ⟨h1, .inr h2⟩
  · rintro (⟨h1, h2 | h2⟩ | ⟨h1, h2 | h2⟩)
    · exact ⟨h1, .inl (.inl h2)⟩
    · exact ⟨h1, .inr (.inl h2)⟩
    · exact ⟨h1, .inl (.inr h2)⟩
    · exact ⟨h1, .inr (.inr h2)⟩
theorem unionC_comm {v l v' l' : List (Int × Int)} (h : validC v l = true) (h' : validC v' l' = true) : unionC v l v' l' = unionC v' l' v l := by
  have e := comp_unique (unionC_comp h h') (unionC_comp h' h) fun r c => by rw [unionC_has h h', unionC_has h' h, Bool.or_comm]
  exact Prod.ext e.1 e.2
theorem unionC_valid2 {v l v' l' : List (Int × Int)} (h : validC v l = true) (h' : validC v' l' = true) : validC (unionC v l v' l').1 (unionC v l v' l').2 = true := (compC_iff.1 (unionC_comp h h')).2
theorem addC_valid2 {v l m : List (Int × Int)} (h : validC v l = true) (hm : ∀ p ∈ m, validD p.1 p.2 = true) : validC (addC v l m).1 (addC v l m).2 = true := (compC_iff.1 (addC_comp h hm)).2
theorem unionC_assoc {v l v' l' v'' l'' : List (Int × Int)} (h : validC v l = true) (h' : validC v' l' = true) (h'' : validC v'' l'' = true) :
    unionC (unionC v l v' l').1 (unionC v l v' l').2 v'' l'' = unionC v l (unionC v' l' v'' l'').1 (unionC v' l' v'' l'').2 := by
  have e := comp_unique (unionC_comp (unionC_valid2 h h') h'') (unionC_comp h (unionC_valid2 h' h'')) fun r c => by
    rw [unionC_has (unionC_valid2 h h') h'', unionC_has h h', unionC_has h (unionC_valid2 h' h''), unionC_has h' h'', Bool.or_assoc]
  exact Prod.ext e.1 e.2
theorem addC_app {v l m m' : List (Int × Int)} (h : validC v l = true) (hm : ∀ p ∈ m, validD p.1 p.2 = true) (hm' : ∀ p ∈ m', validD p.1 p.2 = true) :
    addC (addC v l m).1 (addC v l m).2 m' = addC v l (m ++ m') := by
  have hmm : ∀ p ∈ m ++ m', validD p.1 p.2 = true := fun p hp => (List.mem_append.1 hp).elim (hm p) (hm' p)
  have e := comp_unique (addC_comp (addC_valid2 h hm) hm') (addC_comp h hmm) fun r c => by
    rw [addC_has (addC_valid2 h hm) hm', addC_has h hm, addC_has h hmm, Bool.or_assoc]
    congr 1
    rw [Bool.eq_iff_iff]
    simp
  exact Prod.ext e.1 e.2
/-- The order of the dots does not matter, nor how often each of them comes. -/
theorem addC_congr {v l m m' : List (Int × Int)} (h : ∀ d, d ∈ m ↔ d ∈ m') : addC v l m = addC v l m' := by
  unfold addC
  rw [setL_congr (xs := l ++ m) (ys := l ++ m') fun d => by rw [List.mem_append, List.mem_append, h]]
/-- Whether all dots of a valid context are in another one. -/
def withinC (v l v' l' : List (Int × Int)) : Bool := l.all (fun d => hasC (compactC v' l').1 (compactC v' l').2 d.1 d.2) && withinV v (compactC v' l').1
theorem withinC_iff {v l v' l' : List (Int × Int)} (h : validC v l = true) (h' : validC v' l' = true) : withinC v l v' l' = true ↔ ∀ r c, hasC v l r c = true → hasC v' l' r c = true := by
  obtain ⟨hv, _, hl⟩ := validC_iff.1 h
  obtain ⟨hcv, _, _⟩ := validC_iff.1 (compactC_valid h')
  have hc := (compC_iff.1 (compactC_comp h')).1
  rw [withinC, Bool.and_eq_true, List.all_eq_true, withinV_iff hv hcv]
  constructor
  · rintro ⟨h1, h2⟩ r c hh
    rw [← compactC_has h']
    obtain ⟨hd, h3 | h3⟩ := hasC_iff.1 hh
    · exact hasC_iff.2 ⟨hd, .inl (hasV_iff.2 ⟨hd, by have := (hasV_iff.1 h3).2; have := h2 r; omega⟩)⟩
    · exact h1 _ h3
  · intro hh
    refine ⟨fun d hd => ?_, fun r => ?_⟩
    · rw [compactC_has h']
      exact hh d.1 d.2 (hasC_iff.2 ⟨hl d hd, .inr hd⟩)
    · rcases Int.lt_or_le (getV (compactC v' l').1 r) (getV v r) with hlt | hle
      · exfalso
        have h0 := getV_nonneg ((validV_iff _).1 hcv).1 r
        have hm := getV_of_pos (v := v) (r := r) (by omega)
        have hd := ((validV_iff v).1 hv).1 _ hm
        have hd2 : validD r (getV (compactC v' l').1 r + 1) = true := by
          simp [validD] at hd ⊢
          omega
        have h3 := hh r _ (hasC_iff.2 ⟨hd2, .inl (hasV_iff.2 ⟨hd2, by omega⟩)⟩)
        rw [← compactC_has h'] at h3
        rcases (hasC_iff.1 h3).2 with h5 | h5
        · have := (hasV_iff.1 h5).2
          omega
        · exact (goesC_no (hc _ h5)).2 rfl
      · exact hle
/-- Those of some dots that are not in a context. -/
def missC (v l m : List (Int × Int)) : List (Int × Int) := setL (m.filter fun d => !hasC v l d.1 d.2)

end Go.Proofs.Ytibnlifdeknicaa
