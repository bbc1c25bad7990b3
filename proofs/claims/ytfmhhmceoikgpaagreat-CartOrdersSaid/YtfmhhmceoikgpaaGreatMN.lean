/- Several texts in one: VecK, VecA, VecB. -/
import Derived.Test.YtfmhhmceoikgpaaGreatMB
import Derived.Test.YtfmhhmceoikgpaaGreatMC
namespace Go.Proofs.YtfmhhmceoikgpaaGreat

section
open Go.RowKit

/-- Replicas strictly increase. -/
def IncR (v : List (Int × Int)) : Prop := v.Pairwise fun p q => p.1 < q.1
instance (v : List (Int × Int)) : Decidable (IncR v) := by unfold IncR; infer_instance
/-- Which vectors are valid. -/
def validV (v : List (Int × Int)) : Bool := v.all (fun p => validD p.1 p.2) && decide (IncR v)
/-- The counter of a replica. -/
def getV : List (Int × Int) → Int → Int
  | [], _ => 0
  | p :: v, r => if p.1 = r then p.2 else getV v r
/-- A dot is in a vector. -/
def hasV (v : List (Int × Int)) (r c : Int) : Bool := validD r c && decide (c ≤ getV v r)

theorem validV_iff (v : List (Int × Int)) : validV v = true ↔ (∀ p ∈ v, validD p.1 p.2 = true) ∧ IncR v := by
  simp [validV, List.all_eq_true]
theorem validD_pos {r c : Int} (h : validD r c = true) : 1 ≤ c := by simp [validD] at h; omega

theorem getV_none {v : List (Int × Int)} {r : Int} (h : ∀ p ∈ v, p.1 ≠ r) : getV v r = 0 := by
  induction v with
  | nil => rfl
  | cons p v ih =>
    rw [getV, if_neg (h p (by simp)), ih fun q hq => h q (by simp [hq])]
theorem getV_mem {v : List (Int × Int)} (hv : IncR v) {p : Int × Int} (hp : p ∈ v) : getV v p.1 = p.2 := by
  induction v with
  | nil => cases hp
  | cons q v ih =>
    have h := List.pairwise_cons.1 hv
    rcases List.mem_cons.1 hp with e | hp
    · subst e; rw [getV, if_pos rfl]
    · have := h.1 p hp
      rw [getV, if_neg (by omega), ih h.2 hp]
theorem getV_of_pos {v : List (Int × Int)} {r : Int} (h : getV v r ≠ 0) : (r, getV v r) ∈ v := by
  induction v with
  | nil => exact absurd rfl h
  | cons p v ih =>
    rw [getV] at h ⊢
    split at h
    · rename_i e
      rw [if_pos e]; subst e; simp
    · rename_i e
      rw [if_neg e]; exact List.mem_cons_of_mem _ (ih h)
theorem getV_nonneg {v : List (Int × Int)} (h : ∀ p ∈ v, validD p.1 p.2 = true) (r : Int) : 0 ≤ getV v r := by
  by_cases e : getV v r = 0
  · omega
  · have := validD_pos (h _ (getV_of_pos e)); simp at this; omega

theorem mem_iff_get {v : List (Int × Int)} (hv : validV v = true) (p : Int × Int) : p ∈ v ↔ getV v p.1 = p.2 ∧ p.2 ≠ 0 := by
  obtain ⟨h1, h2⟩ := (validV_iff v).1 hv
  constructor
  · intro h
    have := validD_pos (h1 p h)
    exact ⟨getV_mem h2 h, by omega⟩
  · rintro ⟨h, h0⟩
    have := getV_of_pos (v := v) (r := p.1) (by omega)
    rw [h] at this
    exact this

theorem IncR.ext : ∀ {s t : List (Int × Int)}, IncR s → IncR t → (∀ d, d ∈ s ↔ d ∈ t) → s = t
  | [], [], _, _, _ => rfl
  | [], y :: t, _, _, h => by have := (h y).2 (by simp); simp at this
  | x :: s, [], _, _, h => by have := (h x).1 (by simp); simp at this
  | x :: s, y :: t, hs, ht, h => by
    have hs' := List.pairwise_cons.1 hs
    have ht' := List.pairwise_cons.1 ht
    have hxy : x = y := by
      have h1 := (h x).1 (by simp)
      have h2 := (h y).2 (by simp)
      rcases List.mem_cons.1 h1 with e | h1
      · exact e
      · rcases List.mem_cons.1 h2 with e | h2
        · exact e.symm
        · have a := ht'.1 x h1
          have b := hs'.1 y h2
          omega
    subst hxy
    have : s = t := IncR.ext hs'.2 ht'.2 fun d => by
      have hd := h d
      simp only [List.mem_cons] at hd
      constructor
      · intro hm
        rcases hd.1 (.inr hm) with e | h'
        · subst e; have := hs'.1 d hm; omega
        · exact h'
      · intro hm
        rcases hd.2 (.inr hm) with e | h'
        · subst e; have := ht'.1 d hm; omega
        · exact h'
    rw [this]

/-- Two valid vectors with the same counters are the same. -/
theorem validV_ext {a b : List (Int × Int)} (ha : validV a = true) (hb : validV b = true) (h : ∀ r, getV a r = getV b r) : a = b :=
  ((validV_iff a).1 ha).2.ext ((validV_iff b).1 hb).2 fun d => by rw [mem_iff_get ha, mem_iff_get hb, h]

/-- What Raise of the reference makes of a vector which the dot is not in: from an element on, the dot laid in already or not. -/
def raiseL (d : Int × Int) : Bool → List (Int × Int) → List (Int × Int)
  | done, [] => if done then [] else [d]
  | done, x :: v => (if !done && decide (d.1 ≤ x.1) then [d] else []) ++ ((if x.1 != d.1 then [x] else []) ++ raiseL d (done || decide (d.1 ≤ x.1)) v)
/-- The vector with one more dot. -/
def raiseV (v : List (Int × Int)) (d : Int × Int) : List (Int × Int) := if hasV v d.1 d.2 then v else raiseL d false v

theorem raiseL_done (d : Int × Int) : ∀ v : List (Int × Int), raiseL d true v = v.filter fun x => x.1 != d.1
  | [] => rfl
  | x :: v => by
    rw [raiseL, List.filter_cons, Bool.true_or, raiseL_done d v]
    simp only [Bool.not_true, Bool.false_and, Bool.false_eq_true, if_false, List.nil_append]
    cases x.1 != d.1 <;> simp

theorem mem_raiseL {d : Int × Int} : ∀ {v : List (Int × Int)}, IncR v → ∀ p, p ∈ raiseL d false v ↔ p = d ∨ (p ∈ v ∧ p.1 ≠ d.1)
  | [], _, p => by simp [raiseL]
  | x :: v, h, p => by
    have h' := List.pairwise_cons.1 h
    rw [raiseL]
    by_cases hx : d.1 ≤ x.1
    · simp only [hx, decide_true, Bool.not_false, Bool.true_and, if_true, Bool.or_true, raiseL_done, List.mem_append, List.mem_filter, bne_iff_ne, List.mem_cons]
      by_cases e : x.1 = d.1
      · simp [e]
        constructor
        · rintro (h | ⟨h1, h2⟩)
          · exact .inl h
          · exact .inr ⟨.inr h1, h2⟩
        · rintro (h | ⟨h1 | h1, h2⟩)
          · exact .inl h
          · exact absurd (by rw [h1]; exact e) h2
          · exact .inr ⟨h1, h2⟩
      · simp [e]
        constructor
        · rintro (h | h | ⟨h1, h2⟩)
          · exact .inl h
          · exact .inr ⟨.inl h, by rw [h]; exact e⟩
          · exact .inr ⟨.inr h1, h2⟩
        · rintro (h | ⟨h1 | h1, h2⟩)
          · exact .inl h
          · exact .inr (.inl h1)
          · exact .inr (.inr ⟨h1, h2⟩)
    · have e : x.1 ≠ d.1 := by omega
      simp only [hx, decide_false, Bool.not_false, Bool.and_false, Bool.false_eq_true, if_false, Bool.or_false, List.nil_append, List.mem_append, mem_raiseL h'.2, List.mem_cons]
      simp [e]
      constructor
      · rintro (h | h | ⟨h1, h2⟩)
        · exact .inr ⟨.inl h, by rw [h]; exact e⟩
        · exact .inl h
        · exact .inr ⟨.inr h1, h2⟩
      · rintro (h | ⟨h1 | h1, h2⟩)
        · exact .inr (.inl h)
        · exact .inl h1
        · exact .inr (.inr ⟨h1, h2⟩)

theorem IncR.filter {s : List (Int × Int)} (h : IncR s) (p : Int × Int → Bool) : IncR (s.filter p) := List.Pairwise.filter p h
theorem incR_raiseL {d : Int × Int} : ∀ {v : List (Int × Int)}, IncR v → IncR (raiseL d false v)
  | [], _ => by simp [raiseL, IncR]
  | x :: v, h => by
    have h' := List.pairwise_cons.1 h
    rw [raiseL]
    by_cases hx : d.1 ≤ x.1
    · simp only [hx, decide_true, Bool.not_false, Bool.true_and, if_true, Bool.or_true, raiseL_done, List.singleton_append]
      have hf := IncR.filter h'.2 fun x => x.1 != d.1
      by_cases e : x.1 = d.1
      · simp only [e, bne_self_eq_false, Bool.false_eq_true, if_false, List.nil_append]
        refine List.pairwise_cons.2 ⟨fun p hp => ?_, hf⟩
        have := h'.1 p (List.mem_filter.1 hp).1
        omega
      · have e2 : (x.1 != d.1) = true := by simp [e]
        rw [e2]
        simp only [if_true, List.singleton_append]
        refine List.pairwise_cons.2 ⟨fun p hp => ?_, List.pairwise_cons.2 ⟨fun p hp => h'.1 p (List.mem_filter.1 hp).1, hf⟩⟩
        rcases List.mem_cons.1 hp with e3 | hp
        · subst e3; omega
        · have := h'.1 p (List.mem_filter.1 hp).1
          omega
    · have e2 : (x.1 != d.1) = true := by simp; omega
      simp only [hx, decide_false, Bool.not_false, Bool.and_false, Bool.false_eq_true, if_false, Bool.or_false, List.nil_append, e2, if_true, List.singleton_append]
      refine List.pairwise_cons.2 ⟨fun p hp => ?_, incR_raiseL h'.2⟩
      rcases (mem_raiseL h'.2 p).1 hp with e3 | ⟨h1, _⟩
      · subst e3; omega
      · exact h'.1 p h1

theorem valid_raiseV {v : List (Int × Int)} {d : Int × Int} (hv : validV v = true) (hd : validD d.1 d.2 = true) : validV (raiseV v d) = true := by
  unfold raiseV
  split
  · exact hv
  · obtain ⟨h1, h2⟩ := (validV_iff v).1 hv
    refine (validV_iff _).2 ⟨fun p hp => ?_, incR_raiseL h2⟩
    rcases (mem_raiseL h2 p).1 hp with e | ⟨h, _⟩
    · subst e; exact hd
    · exact h1 p h
theorem get_raiseV {v : List (Int × Int)} {d : Int × Int} (hv : validV v = true) (hd : validD d.1 d.2 = true) (r : Int) : getV (raiseV v d) r = if r = d.1 then max (getV v r) d.2 else getV v r := by
  obtain ⟨h1, h2⟩ := (validV_iff v).1 hv
  unfold raiseV
  split
  · rename_i h
    simp only [hasV, Bool.and_eq_true, decide_eq_true_eq] at h
    split
    · rename_i e; subst e; omega
    · rfl
  · rename_i h
    simp only [hasV, hd, Bool.true_and, decide_eq_true_eq] at h
    have hi := incR_raiseL (d := d) h2
    split
    · rename_i e; subst e
      have := getV_mem hi ((mem_raiseL h2 d).2 (.inl rfl))
      rw [this]; omega
    · rename_i e
      by_cases h0 : getV v r = 0
      · rw [h0]
        by_cases h3 : getV (raiseL d false v) r = 0
        · exact h3
        · rcases (mem_raiseL h2 _).1 (getV_of_pos h3) with h4 | ⟨h4, _⟩
          · exact absurd (congrArg Prod.fst h4) e
          · have h5 := getV_mem h2 h4
            simp only at h5
            omega
      · have h3 := (mem_raiseL (d := d) h2 (r, getV v r)).2 (.inr ⟨getV_of_pos h0, e⟩)
        exact getV_mem hi h3

/-- The greatest counter of a replica in a list of dots, n at least. -/
def maxC : List (Int × Int) → Int → Int → Int
  | [], _, n => n
  | d :: l, r, n => maxC l r (if d.1 = r then max n d.2 else n)

/-- The vector with all dots of a list more. -/
def mergeV (a b : List (Int × Int)) : List (Int × Int) := b.foldl raiseV a
theorem mergeV_snoc (a b : List (Int × Int)) (d : Int × Int) : mergeV a (b ++ [d]) = raiseV (mergeV a b) d := by simp [mergeV, List.foldl_append]
theorem valid_mergeV : ∀ {b a : List (Int × Int)}, validV a = true → (∀ p ∈ b, validD p.1 p.2 = true) → validV (mergeV a b) = true
  | [], _, h, _ => h
  | d :: b, a, h, hb => valid_mergeV (b := b) (valid_raiseV h (hb d (by simp))) fun p hp => hb p (by simp [hp])
theorem get_mergeV : ∀ {b a : List (Int × Int)}, validV a = true → (∀ p ∈ b, validD p.1 p.2 = true) → ∀ r, getV (mergeV a b) r = maxC b r (getV a r)
  | [], _, _, _, _ => rfl
  | d :: b, a, h, hb, r => by
    show getV (mergeV (raiseV a d) b) r = _
    rw [get_mergeV (b := b) (valid_raiseV h (hb d (by simp))) (fun p hp => hb p (by simp [hp])) r, get_raiseV h (hb d (by simp)), maxC]
    by_cases e : r = d.1
    · subst e; simp
    · rw [if_neg e, if_neg (Ne.symm e)]
theorem maxC_snoc : ∀ (l : List (Int × Int)) (d : Int × Int) (r n : Int), maxC (l ++ [d]) r n = if d.1 = r then max (maxC l r n) d.2 else maxC l r n
  | [], d, r, n => rfl
  | x :: l, d, r, n => by rw [List.cons_append, maxC, maxC, maxC_snoc l d r]
theorem maxC_ge : ∀ (l : List (Int × Int)) (r n : Int), n ≤ maxC l r n
  | [], _, _ => Int.le_refl _
  | d :: l, r, n => by
    rw [maxC]
    have := maxC_ge l r (if d.1 = r then max n d.2 else n)
    split at this <;> split <;> omega
theorem maxC_none : ∀ {l : List (Int × Int)} {r : Int} (n : Int), (∀ p ∈ l, p.1 ≠ r) → maxC l r n = n
  | [], _, _, _ => rfl
  | d :: l, r, n, h => by rw [maxC, if_neg (h d (by simp)), maxC_none n fun p hp => h p (by simp [hp])]
theorem maxC_get : ∀ {v : List (Int × Int)}, validV v = true → ∀ (r n : Int), 0 ≤ n → maxC v r n = max n (getV v r)
  | [], _, r, n, hn => by simp only [maxC, getV]; omega
  | d :: v, h, r, n, hn => by
    obtain ⟨h1, h2⟩ := (validV_iff _).1 h
    have h2' := List.pairwise_cons.1 h2
    have hv : validV v = true := (validV_iff v).2 ⟨fun p hp => h1 p (by simp [hp]), h2'.2⟩
    rw [maxC, getV]
    by_cases e : d.1 = r
    · rw [if_pos e, if_pos e]
      exact maxC_none _ fun p hp => by have := h2'.1 p hp; omega
    · rw [if_neg e, if_neg e, maxC_get hv r n hn]

/-- What Merge returns has of each replica the greater counter. -/
theorem get_merge {a b : List (Int × Int)} (ha : validV a = true) (hb : validV b = true) (r : Int) : getV (mergeV a b) r = max (getV a r) (getV b r) := by
  obtain ⟨h1, _⟩ := (validV_iff b).1 hb
  rw [get_mergeV ha h1, maxC_get hb r _ (getV_nonneg ((validV_iff a).1 ha).1 r)]
theorem valid_merge {a b : List (Int × Int)} (ha : validV a = true) (hb : validV b = true) : validV (mergeV a b) = true := valid_mergeV ha ((validV_iff b).1 hb).1
theorem merge_comm {a b : List (Int × Int)} (ha : validV a = true) (hb : validV b = true) : mergeV a b = mergeV b a :=
  validV_ext (valid_merge ha hb) (valid_merge hb ha) fun r => by rw [get_merge ha hb, get_merge hb ha]; omega
/-- The vector with some dots. -/
def ofV (l : List (Int × Int)) : List (Int × Int) := mergeV [] l
theorem valid_nil : validV [] = true := rfl
theorem valid_ofV {l : List (Int × Int)} (h : ∀ p ∈ l, validD p.1 p.2 = true) : validV (ofV l) = true := valid_mergeV valid_nil h
theorem get_ofV {l : List (Int × Int)} (h : ∀ p ∈ l, validD p.1 p.2 = true) (r : Int) : getV (ofV l) r = maxC l r 0 := get_mergeV valid_nil h r
/-- A list in the order of replicas, one dot for each, which has of each replica the greatest counter of l, is the vector of l. -/
theorem ofV_unique {l v : List (Int × Int)} (h : ∀ p ∈ l, validD p.1 p.2 = true) (hi : IncR v) (hm : ∀ p ∈ v, p.2 = maxC l p.1 0 ∧ ∃ q ∈ l, q.1 = p.1) (hk : ∀ q ∈ l, ∃ p ∈ v, p.1 = q.1) : v = ofV l := by
  have hpos : ∀ (l' : List (Int × Int)) (r n : Int), (∀ p ∈ l', validD p.1 p.2 = true) → 0 ≤ n → n ≤ 4294967295 → 0 ≤ maxC l' r n ∧ maxC l' r n ≤ 4294967295 := by
    intro l'
    induction l' with
    | nil => intro r n _ h0 h1; exact ⟨h0, h1⟩
    | cons d l' ih =>
      intro r n hv h0 h1
      rw [maxC]
      have hd := hv d (by simp)
      simp [validD] at hd
      exact ih r _ (fun p hp => hv p (by simp [hp])) (by split <;> omega) (by split <;> omega)
  have hge : ∀ (l' : List (Int × Int)) (r n : Int), (∃ q ∈ l', q.1 = r ∧ 1 ≤ q.2) → 1 ≤ maxC l' r n := by
    intro l'
    induction l' with
    | nil => rintro r n ⟨q, hq, _⟩; cases hq
    | cons d l' ih =>
      rintro r n ⟨q, hq, e, h1⟩
      rw [maxC]
      rcases List.mem_cons.1 hq with e2 | hq
      · subst e2
        rw [if_pos e]
        have := maxC_ge l' r (max n q.2)
        omega
      · exact ih r _ ⟨q, hq, e, h1⟩
  have hvv : validV v = true := by
    refine (validV_iff v).2 ⟨fun p hp => ?_, hi⟩
    obtain ⟨e, q, hq, e2⟩ := hm p hp
    have hq' := h q hq
    have h1 := hge l p.1 0 ⟨q, hq, e2, validD_pos hq'⟩
    have h2 := hpos l p.1 0 h (by omega) (by omega)
    simp [validD] at hq' ⊢
    omega
  refine validV_ext hvv (valid_ofV h) fun r => ?_
  rw [get_ofV h]
  by_cases hr : ∃ q ∈ l, q.1 = r
  · obtain ⟨q, hq, e⟩ := hr
    obtain ⟨p, hp, e2⟩ := hk q hq
    have := getV_mem hi hp
    rw [show r = p.1 by omega, this]
    exact (hm p hp).1
  · rw [maxC_none 0 fun p hp e => hr ⟨p, hp, e⟩, getV_none fun p hp e => ?_]
    obtain ⟨_, q, hq, e2⟩ := hm p hp
    exact hr ⟨q, hq, by omega⟩
end

section
open Go.RowKit

/-- The first k elements are valid, each of a greater replica than the one before. -/
def VOk (v : List (Int × Int)) (k : Nat) : Prop := ∀ j p, j < k → v[j]? = some p → validD p.1 p.2 = true ∧ ∀ i q, j = i + 1 → v[i]? = some q → q.1 < p.1
theorem VOk.step0 {v : List (Int × Int)} {p : Int × Int} (hp : v[0]? = some p) (h1 : validD p.1 p.2 = true) : VOk v 1 := fun j q hj hq => by
  obtain rfl : j = 0 := by omega
  rw [hp] at hq; cases hq
  exact ⟨h1, fun i q h => by omega⟩
theorem VOk.step {v : List (Int × Int)} {m : Nat} {p q : Int × Int} (h : VOk v (m + 1)) (hq : v[m]? = some q) (hp : v[m + 1]? = some p) (h1 : validD p.1 p.2 = true) (h2 : q.1 < p.1) : VOk v (m + 1 + 1) := fun j p' hj hp' => by
  by_cases e : j = m + 1
  · subst e
    rw [hp] at hp'; cases hp'
    refine ⟨h1, fun i q' hi hq' => ?_⟩
    obtain rfl : i = m := by omega
    rw [hq] at hq'; cases hq'
    exact h2
  · exact h j p' (by omega) hp'
theorem incR_of : ∀ {v : List (Int × Int)}, (∀ i q p, v[i]? = some q → v[i + 1]? = some p → q.1 < p.1) → IncR v
  | [], _ => by simp [IncR]
  | [_], _ => by simp [IncR]
  | x :: y :: v, h => by
    have hr : IncR (y :: v) := incR_of fun i q p h1 h2 => h (i + 1) q p (by simpa using h1) (by simpa using h2)
    have hxy := h 0 x y rfl rfl
    refine List.pairwise_cons.2 ⟨fun p hp => ?_, hr⟩
    rcases List.mem_cons.1 hp with e | hp
    · subst e; exact hxy
    · have := (List.pairwise_cons.1 hr).1 p hp; omega
theorem VOk.yes {v : List (Int × Int)} (h : VOk v v.length) : validV v = true := by
  refine (validV_iff v).2 ⟨fun p hp => ?_, incR_of fun i q p h1 h2 => ?_⟩
  · obtain ⟨j, hj⟩ := List.mem_iff_getElem?.1 hp
    exact (h j p (List.getElem?_eq_some_iff.1 hj).1 hj).1
  · exact (h (i + 1) p (List.getElem?_eq_some_iff.1 h2).1 h2).2 i q rfl h1
theorem validV_no1 {v : List (Int × Int)} {m : Nat} {p : Int × Int} (hp : v[m]? = some p) (h : validD p.1 p.2 = false) : validV v = false := by
  cases e : validV v
  · rfl
  · have := ((validV_iff v).1 e).1 p (List.mem_of_getElem? hp)
    rw [h] at this; cases this
theorem validV_no2 {v : List (Int × Int)} {m : Nat} {p q : Int × Int} (hq : v[m]? = some q) (hp : v[m + 1]? = some p) (h : ¬ q.1 < p.1) : validV v = false := by
  cases e : validV v
  · rfl
  · have hi := ((validV_iff v).1 e).2
    obtain ⟨h1, h2⟩ := List.getElem?_eq_some_iff.1 hq
    obtain ⟨h3, h4⟩ := List.getElem?_eq_some_iff.1 hp
    have := List.pairwise_iff_getElem.1 hi m (m + 1) h1 h3 (by omega)
    rw [h2, h4] at this
    exact absurd this h

set_option maxHeartbeats 1000000 in
theorem ref2Valid (A : Option Addr) (xs : List (Int × Int)) (cap : Nat) (w : World) (hx : DotsAt w A xs) (hm : xs.length ≤ maxLen) :
    Calls Tryz.prog 97 #[.slice A xs.length cap] w fun e w' => e = .returned (.bool (validV xs)) ∧ Below w.heap.size w w' := by
  unfold maxLen at hm
  go_enter Tryz.func97, Tryz.ntmps97
  go_wp2
  go_loopw [3] (fun i wr => ∃ m : Nat, m ≤ xs.length ∧ i = .int .i64 m ∧ Below w.heap.size w wr ∧ Hid (VOk xs m)) (fun i _ => xs.length - (intOf i).toNat)
  case atStart => exact ⟨0, by omega, rfl, Below.refl _ _, fun j p h => by omega⟩
  case round =>
    obtain ⟨m, hk2, rfl, hb, hs⟩ := hrel
    by_cases hlt : m < xs.length
    · obtain ⟨b, off, r, c, rfl, hbl, hx1, hc0, hc1⟩ := (hx.below hb).dot (j := m) hlt
      have hr := fun W => refValid r c W
      have l0 := fun p => cell_far (p := p) hbl hc0
      have l1 := fun p => cell_far (p := p) hbl hc1
      clear hc0 hc1
      have HX1 := Lib.hid hx1
      cases hq : validD r c
      · rw [hq] at hr
        have HR := Lib.hid hr; clear hr
        have HV := Lib.hid (validV_no1 hx1 hq); clear hq hx1
        go_wp2
        refine wp_region_far (by kernel_rfl) (by kernel_rfl) ?_
        repeat (go_big_quiet_step ((go_at_call 127; exact far_of (HR.out _))))
        refine wpQuiet_nil ?_
        rintro _ ⟨p, rfl⟩
        go_wp2
        go_ret
        exact ⟨ret_bool HV.out.symm, hb.trans ((below_far wr p).mono hb.size)⟩
      · rw [hq] at hr
        have HR := Lib.hid hr; clear hr
        have HQ := Lib.hid hq; clear hq
        cases m with
        | zero =>
          clear hx1
          simp only [Nat.zero_mul, Nat.add_zero] at l0 l1
          go_wp2
          refine wp_region_far (by kernel_rfl) (by kernel_rfl) ?_
          repeat (go_big_quiet_step ((go_at_call 127; exact far_of (HR.out _))))
          refine wpQuiet_nil ?_
          rintro _ ⟨p, rfl⟩
          go_wp2
          go_roundw
          case rel => exact ⟨1, by omega, by go_num, hb.trans ((below_far wr p).mono hb.size), VOk.step0 HX1.out HQ.out⟩
          case measure => simp [intOf]; omega
        | succ n =>
          obtain ⟨_, _, r', c', ho, _, hx2, hd0, hd1⟩ := (hx.below hb).dot (j := n) (by omega)
          cases ho
          have l2 := fun p => cell_far (p := p) hbl hd0
          have l3 := fun p => cell_far (p := p) hbl hd1
          have HX2 := Lib.hid hx2
          clear hd0 hd1
          by_cases hlt2 : r' < r
          · clear hx1 hx2
            go_wp2
            refine wp_region_far (by kernel_rfl) (by kernel_rfl) ?_
            repeat (go_big_quiet_step ((go_at_call 127; exact far_of (HR.out _))))
            refine wpQuiet_nil ?_
            rintro _ ⟨p, rfl⟩
            go_wp2
            go_roundw
            case rel => exact ⟨n + 1 + 1, by omega, by go_num, hb.trans ((below_far wr p).mono hb.size), hs.out.step HX2.out HX1.out HQ.out hlt2⟩
            case measure => simp [intOf]; omega
          · have HV := Lib.hid (validV_no2 hx2 hx1 hlt2)
            clear hx1 hx2
            go_wp2
            refine wp_region_far (by kernel_rfl) (by kernel_rfl) ?_
            repeat (go_big_quiet_step ((go_at_call 127; exact far_of (HR.out _))))
            refine wpQuiet_nil ?_
            rintro _ ⟨p, rfl⟩
            go_wp2
            go_ret
            exact ⟨ret_bool HV.out.symm, hb.trans ((below_far wr p).mono hb.size)⟩
    · have hv : validV xs = true := VOk.yes (by rw [show xs.length = m by omega]; exact hs.out)
      have HV := Lib.hid hv; clear hv
      go_wp2
      go_ret
      exact ⟨ret_bool HV.out.symm, hb⟩

set_option maxHeartbeats 1000000 in
theorem vecValid (A : Option Addr) (xs : List (Int × Int)) (cap : Nat) (w : World) (hx : DotsAt w A xs) (hm : xs.length ≤ maxLen) :
    Calls Tryz.prog 143 #[.slice A xs.length cap] w fun e w' => e = .returned (.bool (validV xs)) ∧ Below w.heap.size w w' := by
  unfold maxLen at hm
  go_enter Tryz.func143, Tryz.ntmps143
  go_wp2
  go_loopw [3, 4, 7] (fun _ _ i wr => ∃ m : Nat, m ≤ xs.length ∧ i = .int .i64 m ∧ Below w.heap.size w wr ∧ Hid (VOk xs m)) (fun _ _ i _ => xs.length - (intOf i).toNat)
  case atStart => exact ⟨0, by omega, rfl, Below.refl _ _, fun j p h => by omega⟩
  case round =>
    obtain ⟨m, hk2, rfl, hb0, hs⟩ := hrel
    by_cases hlt : m < xs.length
    · obtain ⟨b, off, r, c, rfl, hbl0, hx1, hc0, hc1⟩ := (hx.below hb0).dot (j := m) hlt
      have hr := fun W => dotValid r c W
      have HX1 := Lib.hid hx1
      have hal : Below wr.heap.size wr (wr.alloc (.cells #[.int .i64 r, .int .i64 c] 63)) := (Below.refl _ wr).alloc (Nat.le_refl _) _
      have g0 : (wr.alloc (.cells #[.int .i64 r, .int .i64 c] 63)).cell? ⟨wr.heap.size, 0, none⟩ = some (.int .i64 r) := by go_simp
      have g1 : (wr.alloc (.cells #[.int .i64 r, .int .i64 c] 63)).cell? ⟨wr.heap.size, 1, none⟩ = some (.int .i64 c) := by go_simp
      have gz : wr.heap.size < (wr.alloc (.cells #[.int .i64 r, .int .i64 c] 63)).heap.size := by simp
      have l4 := fun p => cell_far (p := p) (a := ⟨wr.heap.size, 0, none⟩) gz g0
      have l5 := fun p => cell_far (p := p) (a := ⟨wr.heap.size, 1, none⟩) gz g1
      have hb := hb0.trans (hal.mono hb0.size)
      have hz := hb.size
      cases hq : validD r c
      · rw [hq] at hr
        have HR := Lib.hid hr; clear hr
        have HV := Lib.hid (validV_no1 hx1 hq); clear hq hx1 g0 g1 gz
        go_wp2_with fail
        generalize wr.alloc (.cells #[.int .i64 r, .int .i64 c] 63) = W at *
        refine wp_region_far (by kernel_rfl) (by kernel_rfl) ?_
        repeat (go_big_quiet_step ((go_at_call 81; exact far_of (HR.out _))))
        refine wpQuiet_nil ?_
        rintro _ ⟨p, rfl⟩
        go_wp2
        go_ret
        exact ⟨ret_bool HV.out.symm, hb.trans ((below_far W p).mono hb.size)⟩
      · rw [hq] at hr
        have HR := Lib.hid hr; clear hr
        have HQ := Lib.hid hq; clear hq
        cases m with
        | zero =>
          clear hx1 g0 g1 gz
          simp only [Nat.zero_mul, Nat.add_zero] at hc0 hc1
          go_wp2_with fail
          generalize wr.alloc (.cells #[.int .i64 r, .int .i64 c] 63) = W at *
          refine wp_region_far (by kernel_rfl) (by kernel_rfl) ?_
          repeat (go_big_quiet_step ((go_at_call 81; exact far_of (HR.out _))))
          refine wpQuiet_nil ?_
          rintro _ ⟨p, rfl⟩
          go_wp2
          go_roundw
          case rel => exact ⟨1, by omega, by go_num, hb.trans ((below_far W p).mono hb.size), VOk.step0 HX1.out HQ.out⟩
          case measure => simp [intOf]; omega
        | succ n =>
          obtain ⟨_, _, r', c', ho, hbl2, hx2, hd0, hd1⟩ := (hx.below hb).dot (j := n) (by omega)
          cases ho
          have l2 := fun p => cell_far (p := p) hbl2 hd0
          have l3 := fun p => cell_far (p := p) hbl2 hd1
          have HX2 := Lib.hid hx2
          clear hd0 hd1 g0 g1 gz hbl2
          by_cases hlt2 : r' < r
          · clear hx1 hx2
            go_wp2_with fail
            generalize wr.alloc (.cells #[.int .i64 r, .int .i64 c] 63) = W at *
            refine wp_region_far (by kernel_rfl) (by kernel_rfl) ?_
            repeat (go_big_quiet_step ((go_at_call 81; exact far_of (HR.out _))))
            refine wpQuiet_nil ?_
            rintro _ ⟨p, rfl⟩
            go_wp2
            go_roundw
            case rel => exact ⟨n + 1 + 1, by omega, by go_num, hb.trans ((below_far W p).mono hb.size), hs.out.step HX2.out HX1.out HQ.out hlt2⟩
            case measure => simp [intOf]; omega
          · have HV := Lib.hid (validV_no2 hx2 hx1 hlt2)
            clear hx1 hx2
            go_wp2_with fail
            generalize wr.alloc (.cells #[.int .i64 r, .int .i64 c] 63) = W at *
            refine wp_region_far (by kernel_rfl) (by kernel_rfl) ?_
            repeat (go_big_quiet_step ((go_at_call 81; exact far_of (HR.out _))))
            refine wpQuiet_nil ?_
            rintro _ ⟨p, rfl⟩
            go_wp2
            go_ret
            exact ⟨ret_bool HV.out.symm, hb.trans ((below_far W p).mono hb.size)⟩
    · have hv : validV xs = true := VOk.yes (by rw [show xs.length = m by omega]; exact hs.out)
      have HV := Lib.hid hv; clear hv
      go_wp2
      go_ret
      exact ⟨ret_bool HV.out.symm, hb0⟩

set_option maxHeartbeats 1000000 in
theorem ref2Get (A : Option Addr) (xs : List (Int × Int)) (cap : Nat) (r0 : Int) (w : World) (hx : DotsAt w A xs) (hm : xs.length ≤ maxLen) :
    Calls Tryz.prog 85 #[.slice A xs.length cap, .int .i64 r0] w fun e w' => e = .returned (.int .i64 (getV xs r0)) ∧ Below w.heap.size w w' := by
  unfold maxLen at hm
  go_enter Tryz.func85, Tryz.ntmps85
  go_wp2
  go_loopw [5] (fun i wr => ∃ m : Nat, m ≤ xs.length ∧ i = .int .i64 m ∧ Below w.heap.size w wr ∧ Hid (getV xs r0 = getV (xs.drop m) r0)) (fun i _ => xs.length - (intOf i).toNat)
  case atStart => exact ⟨0, by omega, rfl, Below.refl _ _, by rw [List.drop_zero]; rfl⟩
  case round =>
    obtain ⟨m, hk2, rfl, hb, hs⟩ := hrel
    by_cases hlt : m < xs.length
    · obtain ⟨b, off, r, c, rfl, hbl, hx1, hc0, hc1⟩ := (hx.below hb).dot (j := m) hlt
      have hd : xs.drop m = (r, c) :: xs.drop (m + 1) := by
        obtain ⟨h1, h2⟩ := List.getElem?_eq_some_iff.1 hx1
        rw [← h2]; exact List.drop_eq_getElem_cons h1
      have hg := hs.out
      rw [hd, getV] at hg
      clear hd hx1
      by_cases hq : r = r0
      · rw [if_pos hq] at hg
        have HG := Lib.hid hg; clear hg
        subst hq
        go_wp2
        go_ret
        exact ⟨ret_int HG.out.symm, hb⟩
      · rw [if_neg hq] at hg
        have HG := Lib.hid hg; clear hg
        go_wp2
        go_roundw
        case rel => exact ⟨m + 1, by omega, by go_num, hb, HG⟩
        case measure => simp [intOf]; omega
    · have hg := hs.out
      rw [List.drop_eq_nil_of_le (by omega)] at hg
      have HG := Lib.hid (show getV xs r0 = 0 from hg); clear hg
      go_wp2
      go_ret
      exact ⟨ret_int HG.out.symm, hb⟩

theorem hasV_of {v : List (Int × Int)} {r c : Int} (h : validD r c = true) : hasV v r c = decide (c ≤ getV v r) := by unfold hasV; rw [h]; rfl

set_option maxHeartbeats 1000000 in
theorem ref2Has (A : Option Addr) (xs : List (Int × Int)) (cap : Nat) (r c : Int) (w : World) (hx : DotsAt w A xs) (hm : xs.length ≤ maxLen) :
    Calls Tryz.prog 84 #[.slice A xs.length cap, .agg #[.int .i64 r, .int .i64 c]] w fun e w' => e = .returned (.bool (hasV xs r c)) ∧ Below w.heap.size w w' := by
  have hr := fun W => refValid r c W
  have hal : Below w.heap.size w (w.alloc (.cells #[.int .i64 r, .int .i64 c] 63)) := (Below.refl _ w).alloc (Nat.le_refl _) _
  have g0 : (w.alloc (.cells #[.int .i64 r, .int .i64 c] 63)).cell? ⟨w.heap.size, 0, none⟩ = some (.int .i64 r) := by go_simp
  have g1 : (w.alloc (.cells #[.int .i64 r, .int .i64 c] 63)).cell? ⟨w.heap.size, 1, none⟩ = some (.int .i64 c) := by go_simp
  have gz : w.heap.size < (w.alloc (.cells #[.int .i64 r, .int .i64 c] 63)).heap.size := by simp
  have l4 := fun p => cell_far (p := p) (a := ⟨w.heap.size, 0, none⟩) gz g0
  have l5 := fun p => cell_far (p := p) (a := ⟨w.heap.size, 1, none⟩) gz g1
  have hg := fun p => ref2Get A xs cap r _ ((hx.below hal).far p) hm
  have HAL := Lib.hid hal
  clear g0 g1 gz hal
  cases hq : validD r c
  · rw [hq] at hr
    have HR := Lib.hid hr; clear hr
    have HV := Lib.hid (show hasV xs r c = false by unfold hasV; rw [hq]; rfl); clear hq hg
    go_enter Tryz.func84, Tryz.ntmps84
    go_wp2_with fail
    generalize w.alloc (.cells #[.int .i64 r, .int .i64 c] 63) = W at *
    refine wp_region_far (by kernel_rfl) (by kernel_rfl) ?_
    repeat (go_big_quiet_step ((go_at_call 127; exact far_of (HR.out _))))
    refine wpQuiet_nil ?_
    rintro _ ⟨p, rfl⟩
    go_wp2
    go_ret
    exact ⟨ret_bool HV.out.symm, below_trans HAL.out (below_far W p)⟩
  · rw [hq] at hr
    have HR := Lib.hid hr; clear hr
    have HV := Lib.hid (hasV_of (v := xs) hq); clear hq
    generalize getV xs r = g at hg HV
    have HG := Lib.hid hg; clear hg
    go_enter Tryz.func84, Tryz.ntmps84
    go_wp2_with fail
    generalize w.alloc (.cells #[.int .i64 r, .int .i64 c] 63) = W at *
    refine wp_region_far (by kernel_rfl) (by kernel_rfl) ?_
    repeat (go_big_quiet_step ((first | (go_at_call 127; exact far_of (HR.out _)) | (go_at_call 85; exact far_of (HG.out _)))))
    refine wpQuiet_nil ?_
    rintro _ ⟨p, rfl⟩
    go_wp2
    go_ret
    exact ⟨ret_bool HV.out.symm, below_trans HAL.out (below_far W p)⟩

end

section
open Go.RowKit

theorem raise_t_eq {d x : Int × Int} (h : x.1 = d.1) (v : List (Int × Int)) : raiseL d true (x :: v) = raiseL d true v := by rw [raiseL]; simp [h]
theorem raise_t_ne {d x : Int × Int} (h : ¬ x.1 = d.1) (v : List (Int × Int)) : raiseL d true (x :: v) = [x] ++ raiseL d true v := by rw [raiseL]; simp [h]
theorem raise_f_eq {d x : Int × Int} (h : x.1 = d.1) (v : List (Int × Int)) : raiseL d false (x :: v) = [d] ++ raiseL d true v := by rw [raiseL]; simp [h]
theorem raise_f_ne {d x : Int × Int} (h0 : d.1 ≤ x.1) (h : ¬ x.1 = d.1) (v : List (Int × Int)) : raiseL d false (x :: v) = [d] ++ ([x] ++ raiseL d true v) := by rw [raiseL]; simp [h, h0]
theorem raise_f_lt {d x : Int × Int} (h0 : ¬ d.1 ≤ x.1) (v : List (Int × Int)) : raiseL d false (x :: v) = [x] ++ raiseL d false v := by
  have h : ¬ x.1 = d.1 := by omega
  rw [raiseL]; simp [h, h0]
theorem raiseL_len (d : Int × Int) : ∀ (v : List (Int × Int)) (b : Bool), (raiseL d b v).length ≤ v.length + 1
  | [], b => by cases b <;> simp [raiseL]
  | x :: v, b => by
    have h1 := raiseL_len d v (b || decide (d.1 ≤ x.1))
    by_cases h0 : d.1 ≤ x.1
    · by_cases h : x.1 = d.1
      · cases b
        · rw [raise_f_eq h]
          have := raiseL_len d v true
          rw [raiseL_done] at this ⊢
          have := List.length_filter_le (fun x : Int × Int => x.1 != d.1) v
          simp; omega
        · rw [raise_t_eq h]; have := raiseL_len d v true; simp; omega
      · cases b
        · rw [raise_f_ne h0 h, raiseL_done]
          have := List.length_filter_le (fun x : Int × Int => x.1 != d.1) v
          simp; omega
        · rw [raise_t_ne h]; have := raiseL_len d v true; simp; omega
    · have h : ¬ x.1 = d.1 := by omega
      cases b
      · rw [raise_f_lt h0]; have := raiseL_len d v false; simp; omega
      · rw [raise_t_ne h]; have := raiseL_len d v true; simp; omega
theorem raiseV_len (v : List (Int × Int)) (d : Int × Int) : (raiseV v d).length ≤ v.length + 1 := by
  unfold raiseV
  split
  · omega
  · exact raiseL_len d v false
theorem grown_of_below2 {a w : World} (h : Below a.heap.size a w) (row : Option Nat) : a.grownBy w row := ⟨h.os, h.tape, h.output, h.size, fun i hi _ => h.block i hi⟩

/-- The box of the dot, and a row of the call's own. -/
def RV (w : World) (r0 c0 : Int) (v : Value) (ys : List (Int × Int)) (W : World) : Prop :=
  KS w r0 c0 W ∧ W.ownsRow (w.heap.size + 1) 63 2 v ys.length (cellsOf encD ys)
section
variable {w : World} {r0 c0 : Int} {v : Value} {ys : List (Int × Int)} {W W' : World}
theorem RV.below (h : RV w r0 c0 v ys W) (hb : Below W.heap.size W W') : RV w r0 c0 v ys W' :=
  ⟨.of (h.1.2.2.trans (hb.mono h.1.size)), h.2.kept (grown_of_below2 hb none) (by cases v.ownBlock <;> simp)⟩
theorem RV.far (h : RV w r0 c0 v ys W) (p : FarBy) : RV w r0 c0 v ys (far W p) := h.below (below_far W p)
theorem RV.app (h : RV w r0 c0 v ys W) (o : Obj) {v1 : Value} {w1 : World} {zs : List (Int × Int)} (ho : w1.ownsRow (w.heap.size + 1) 63 2 v1 (ys ++ zs).length (cellsOf encD (ys ++ zs))) (hg : (W.alloc o).grownBy w1 v.ownBlock) : RV w r0 c0 v1 (ys ++ zs) w1 :=
  ⟨KS.grown (h.1.alloc o) hg (fun k hk => (h.2.lt k hk).1), ho⟩
theorem RV.cells (h : RV w r0 c0 v ys W) : W.cell? ⟨w.heap.size, 0, none⟩ = some (.int .i64 r0) ∧ W.cell? ⟨w.heap.size, 1, none⟩ = some (.int .i64 c0) ∧ w.heap.size < W.heap.size ∧ Below w.heap.size w W :=
  ⟨h.1.1, h.1.2.1, by have := h.1.size; omega, h.1.below⟩
end


/-- What a round reads, wherever what was there is as it was. -/
theorem RV.reads {w : World} {r0 c0 : Int} {v : Value} {ys : List (Int × Int)} {W : World} (h : RV w r0 c0 v ys W) {b o : Nat} {r c : Int} (hb : b < w.heap.size) (h0 : w.cell? ⟨b, o, none⟩ = some (.int .i64 r)) (h1 : w.cell? ⟨b, o + 1, none⟩ = some (.int .i64 c)) :
    ∀ p, (Go.Proofs.YtfmhhmceoikgpaaGreat.far W p).cell? ⟨w.heap.size, 0, none⟩ = some (.int .i64 r0) ∧ (Go.Proofs.YtfmhhmceoikgpaaGreat.far W p).cell? ⟨w.heap.size, 1, none⟩ = some (.int .i64 c0) ∧ (Go.Proofs.YtfmhhmceoikgpaaGreat.far W p).cell? ⟨b, o, none⟩ = some (.int .i64 r) ∧ (Go.Proofs.YtfmhhmceoikgpaaGreat.far W p).cell? ⟨b, o + 1, none⟩ = some (.int .i64 c) := fun p => by
  obtain ⟨k0, k1, kz, kb⟩ := h.cells
  have hz := kb.size
  exact ⟨cell_far (p := p) (a := ⟨w.heap.size, 0, none⟩) kz k0, cell_far (p := p) (a := ⟨w.heap.size, 1, none⟩) kz k1,
    cell_far (p := p) (a := ⟨b, o, none⟩) (by show b < _; omega) ((kb.cell (p := ⟨b, o, none⟩) hb).trans h0), cell_far (p := p) (a := ⟨b, o + 1, none⟩) (by show b < _; omega) ((kb.cell (p := ⟨b, o + 1, none⟩) hb).trans h1)⟩
theorem RV.now {w : World} {r0 c0 : Int} {v : Value} {ys : List (Int × Int)} {W : World} (h : RV w r0 c0 v ys W) {b o : Nat} {r c : Int} (hb : b < w.heap.size) (h0 : w.cell? ⟨b, o, none⟩ = some (.int .i64 r)) (h1 : w.cell? ⟨b, o + 1, none⟩ = some (.int .i64 c)) :
    W.cell? ⟨w.heap.size, 0, none⟩ = some (.int .i64 r0) ∧ W.cell? ⟨w.heap.size, 1, none⟩ = some (.int .i64 c0) ∧ W.cell? ⟨b, o, none⟩ = some (.int .i64 r) ∧ W.cell? ⟨b, o + 1, none⟩ = some (.int .i64 c) := by
  have := h.reads hb h0 h1 ⟨W.drawn, #[]⟩
  rwa [far_self] at this

set_option maxRecDepth 100000 in
set_option maxHeartbeats 2000000 in
theorem ref2RaiseO (A : Option Addr) (xs : List (Int × Int)) (cap : Nat) (r0 c0 : Int) (w : World) (hx : DotsAt w A xs) (hm : xs.length ≤ 1000000) (hc : xs.length ≤ cap) (hcm : cap ≤ maxLen) (hin : hasV xs r0 c0 = false) :
    Calls Tryz.prog 131 #[.slice A xs.length cap, .agg #[.int .i64 r0, .int .i64 c0]] w fun e w' => (∃ v', e = .returned v' ∧ w'.ownsRow (w.heap.size + 1) 63 2 v' (raiseV xs (r0, c0)).length (cellsOf encD (raiseV xs (r0, c0)))) ∧ Below w.heap.size w w' := by
  obtain ⟨i0, hi0, hz0, hz1, hz2⟩ := info_parts infoD
  have hh := fun W hW => ref2Has A xs cap r0 c0 W hW (by simp only [maxLen]; omega)
  have hv : raiseV xs (r0, c0) = if hasV xs r0 c0 then xs else raiseL (r0, c0) false xs := rfl
  rw [hin] at hv
  simp only [Bool.false_eq_true, if_false] at hv
  simp only [hin] at hh
  have HH := Lib.hid hh
  have HV := Lib.hid hv
  have HM := Lib.hid hm
  clear hv hin hh
  unfold maxLen at hcm
  go_enter Tryz.func131, Tryz.ntmps131
  go_wp2_with fail
  refine (HH.out _ (hx.below ((Below.refl _ w).alloc (Nat.le_refl _) _))).mono ?_
  rintro e w1 ⟨rfl, hb1⟩
  have hb0 : Below (w.heap.size + 1) (w.alloc (.cells #[.int .i64 r0, .int .i64 c0] 63)) w1 := hb1.mono (by simp)
  clear hb1
  go_wp2_with fail
  go_loopw [5, 6, 7] (fun sv sd si wr => ∃ (m : Nat) (done : Bool) (ys : List (Int × Int)), m ≤ xs.length ∧ si = .int .i64 m ∧ sd = .bool done ∧ ys.length ≤ m + 1 ∧ (done = false → ys.length ≤ m) ∧ Hid (RV w r0 c0 sv ys wr) ∧ Hid (ys ++ raiseL (r0, c0) done (xs.drop m) = raiseL (r0, c0) false xs)) (fun _ _ i _ => xs.length - (intOf i).toNat)
  case atStart => exact ⟨0, false, [], by omega, rfl, rfl, by simp, by simp, ⟨KS.of hb0, World.ownsRow_nil _ _ _ _⟩, by simp [Hid]⟩
  case round =>
    obtain ⟨m, done, ys, hk2, rfl, rfl, hyl, hyd, hR, hE⟩ := hrel
    by_cases hlt : m < xs.length
    · obtain ⟨b, off, r, c, rfl, hbl, hx1, hc0, hc1⟩ := hx.dot (j := m) hlt
      have hd : xs.drop m = (r, c) :: xs.drop (m + 1) := by
        obtain ⟨h1, h2⟩ := List.getElem?_eq_some_iff.1 hx1
        rw [← h2]; exact List.drop_eq_getElem_cons h1
      have hE' := hE.out
      rw [hd] at hE'
      have H0 := Lib.hid hc0
      have H1 := Lib.hid hc1
      have rd := fun p => (hR.out.reads hbl hc0 hc1 p)
      have k0 := fun p => (rd p).1
      have l0 := fun p => (rd p).2.2.1
      clear hc0 hc1 hd hx1 hE rd
      cases done
      · replace hyd := hyd rfl
        by_cases hle : r0 ≤ r
        · by_cases hq : r = r0
          · rw [raise_f_eq (d := (r0, c0)) (x := (r, c)) hq, ← List.append_assoc] at hE'
            have HE := Lib.hid hE'; clear hE'
            go_wp2_with fail
            refine wp_region_far (by kernel_rfl) (by kernel_rfl) ?_
            repeat (go_big_quiet_step ((fail)))
            refine wpQuiet_nil ?_
            rintro _ ⟨p, rfl⟩
            have hR1 := Lib.hid (hR.out.far p)
            have rn := hR1.out.now hbl H0.out H1.out
            obtain ⟨n0, n1, n2, n3⟩ := rn
            clear k0 l0
            generalize far wr p = W1 at *
            go_wp2_with (at_builtin; (refine wpList_append_sl (o := ⟨some 33, _, _, _, _, _⟩) _ encD 2 rfl (.tmp 30) (.tmp 32) 23 rfl encD_len (by omega) encD_one (w.heap.size + 1) 63 i0 _ 16 Tryz.underlying23 hi0 hz0 hz1 hz2 rfl _ ys rfl (hR1.out.2.alloc _) _ 1 _ [(r0, c0)] rfl rfl (SlAt.one (heap_alloc_new _ _)) (by simp [maxLen]; have := HM.out; omega) (by simp; have := HM.out; omega) (by have := hR1.out.1.size; simp; omega) ?_; intro v1 w1 hown1 hg1 hat1; have R1 := Lib.hid (hR1.out.app _ hown1 hg1); clear hown1 hg1 hat1))
            have rd := fun p => (R1.out.reads hbl H0.out H1.out p)
            have k0 := fun p => (rd p).1
            have l0 := fun p => (rd p).2.2.1
            clear rd n0 n1 n2 n3
            refine wp_region_far (by kernel_rfl) (by kernel_rfl) ?_
            repeat (go_big_quiet_step ((fail)))
            refine wpQuiet_nil ?_
            rintro _ ⟨p, rfl⟩
            go_wp2
            go_roundw
            case rel => exact ⟨m + 1, true, ys ++ [(r0, c0)], by omega, by go_num, rfl, by simp; omega, by simp, R1.out.far _, HE⟩
            case measure => simp [intOf]; omega
          · rw [raise_f_ne (d := (r0, c0)) (x := (r, c)) hle hq, ← List.append_assoc, ← List.append_assoc] at hE'
            have HE := Lib.hid hE'; clear hE'
            go_wp2_with fail
            refine wp_region_far (by kernel_rfl) (by kernel_rfl) ?_
            repeat (go_big_quiet_step ((fail)))
            refine wpQuiet_nil ?_
            rintro _ ⟨p, rfl⟩
            have hR1 := Lib.hid (hR.out.far p)
            have rn := hR1.out.now hbl H0.out H1.out
            obtain ⟨n0, n1, n2, n3⟩ := rn
            clear k0 l0
            generalize far wr p = W1 at *
            go_wp2_with (at_builtin; (refine wpList_append_sl (o := ⟨some 33, _, _, _, _, _⟩) _ encD 2 rfl (.tmp 30) (.tmp 32) 23 rfl encD_len (by omega) encD_one (w.heap.size + 1) 63 i0 _ 16 Tryz.underlying23 hi0 hz0 hz1 hz2 rfl _ ys rfl (hR1.out.2.alloc _) _ 1 _ [(r0, c0)] rfl rfl (SlAt.one (heap_alloc_new _ _)) (by simp [maxLen]; have := HM.out; omega) (by simp; have := HM.out; omega) (by have := hR1.out.1.size; simp; omega) ?_; intro v1 w1 hown1 hg1 hat1; have R1 := Lib.hid (hR1.out.app _ hown1 hg1); clear hown1 hg1 hat1))
            have rd := fun p => (R1.out.reads hbl H0.out H1.out p)
            have k0 := fun p => (rd p).1
            have l0 := fun p => (rd p).2.2.1
            clear rd n0 n1 n2 n3
            refine wp_region_far (by kernel_rfl) (by kernel_rfl) ?_
            repeat (go_big_quiet_step ((fail)))
            refine wpQuiet_nil ?_
            rintro _ ⟨p, rfl⟩
            have hR2 := Lib.hid (R1.out.far p)
            have rn := hR2.out.now hbl H0.out H1.out
            obtain ⟨n0, n1, n2, n3⟩ := rn
            clear k0 l0
            generalize far w1 p = W2 at *
            go_wp2_with (at_builtin; (refine wpList_append_sl (o := ⟨some 48, _, _, _, _, _⟩) _ encD 2 rfl (.tmp 42) (.tmp 47) 23 rfl encD_len (by omega) encD_one (w.heap.size + 1) 63 i0 _ 16 Tryz.underlying23 hi0 hz0 hz1 hz2 rfl _ (ys ++ [(r0, c0)]) rfl (hR2.out.2.alloc _) _ 1 _ [(r, c)] rfl rfl (SlAt.one (heap_alloc_new _ _)) (by simp [maxLen]; have := HM.out; omega) (by simp; have := HM.out; omega) (by have := hR2.out.1.size; simp; omega) ?_; intro v2 w2 hown2 hg2 hat2; have R2 := Lib.hid (hR2.out.app _ hown2 hg2); clear hown2 hg2 hat2))
            go_roundw
            case rel => exact ⟨m + 1, true, ys ++ [(r0, c0)] ++ [(r, c)], by omega, by go_num, rfl, by simp; omega, by simp, R2, HE⟩
            case measure => simp [intOf]; omega
        · rw [raise_f_lt (d := (r0, c0)) (x := (r, c)) hle, ← List.append_assoc] at hE'
          have HE := Lib.hid hE'; clear hE'
          have hq : ¬ r = r0 := by omega
          go_wp2_with fail
          refine wp_region_far (by kernel_rfl) (by kernel_rfl) ?_
          repeat (go_big_quiet_step ((fail)))
          refine wpQuiet_nil ?_
          rintro _ ⟨p, rfl⟩
          have hR1 := Lib.hid (hR.out.far p)
          have rd := fun p => (hR1.out.reads hbl H0.out H1.out p)
          have k0 := fun p => (rd p).1
          have l0 := fun p => (rd p).2.2.1
          clear rd
          generalize far wr p = W1 at *
          go_wp2_with fail
          refine wp_region_far (by kernel_rfl) (by kernel_rfl) ?_
          repeat (go_big_quiet_step ((fail)))
          refine wpQuiet_nil ?_
          rintro _ ⟨p, rfl⟩
          have hR2 := Lib.hid (hR1.out.far p)
          have rn := hR2.out.now hbl H0.out H1.out
          obtain ⟨n0, n1, n2, n3⟩ := rn
          clear k0 l0
          generalize far W1 p = W2 at *
          go_wp2_with (at_builtin; (refine wpList_append_sl (o := ⟨some 48, _, _, _, _, _⟩) _ encD 2 rfl (.tmp 42) (.tmp 47) 23 rfl encD_len (by omega) encD_one (w.heap.size + 1) 63 i0 _ 16 Tryz.underlying23 hi0 hz0 hz1 hz2 rfl _ ys rfl (hR2.out.2.alloc _) _ 1 _ [(r, c)] rfl rfl (SlAt.one (heap_alloc_new _ _)) (by simp [maxLen]; have := HM.out; omega) (by simp; have := HM.out; omega) (by have := hR2.out.1.size; simp; omega) ?_; intro v3 w3 hown3 hg3 hat3; have R3 := Lib.hid (hR2.out.app _ hown3 hg3); clear hown3 hg3 hat3))
          go_roundw
          case rel => exact ⟨m + 1, false, ys ++ [(r, c)], by omega, by go_num, rfl, by simp; omega, by simp; omega, R3, HE⟩
          case measure => simp [intOf]; omega
      · by_cases hq : r = r0
        · rw [raise_t_eq (d := (r0, c0)) (x := (r, c)) hq] at hE'
          have HE := Lib.hid hE'; clear hE'
          go_wp2_with fail
          refine wp_region_far (by kernel_rfl) (by kernel_rfl) ?_
          repeat (go_big_quiet_step ((fail)))
          refine wpQuiet_nil ?_
          rintro _ ⟨p, rfl⟩
          have hR1 := Lib.hid (hR.out.far p)
          have rd := fun p => (hR1.out.reads hbl H0.out H1.out p)
          have k0 := fun p => (rd p).1
          have l0 := fun p => (rd p).2.2.1
          clear rd
          generalize far wr p = W1 at *
          go_wp2_with fail
          refine wp_region_far (by kernel_rfl) (by kernel_rfl) ?_
          repeat (go_big_quiet_step ((fail)))
          refine wpQuiet_nil ?_
          rintro _ ⟨p, rfl⟩
          go_wp2
          go_roundw
          case rel => exact ⟨m + 1, true, ys, by omega, by go_num, rfl, by omega, by simp, hR1.out.far _, HE⟩
          case measure => simp [intOf]; omega
        · rw [raise_t_ne (d := (r0, c0)) (x := (r, c)) hq, ← List.append_assoc] at hE'
          have HE := Lib.hid hE'; clear hE'
          go_wp2_with fail
          refine wp_region_far (by kernel_rfl) (by kernel_rfl) ?_
          repeat (go_big_quiet_step ((fail)))
          refine wpQuiet_nil ?_
          rintro _ ⟨p, rfl⟩
          have hR1 := Lib.hid (hR.out.far p)
          have rd := fun p => (hR1.out.reads hbl H0.out H1.out p)
          have k0 := fun p => (rd p).1
          have l0 := fun p => (rd p).2.2.1
          clear rd
          generalize far wr p = W1 at *
          go_wp2_with fail
          refine wp_region_far (by kernel_rfl) (by kernel_rfl) ?_
          repeat (go_big_quiet_step ((fail)))
          refine wpQuiet_nil ?_
          rintro _ ⟨p, rfl⟩
          have hR2 := Lib.hid (hR1.out.far p)
          have rn := hR2.out.now hbl H0.out H1.out
          obtain ⟨n0, n1, n2, n3⟩ := rn
          clear k0 l0
          generalize far W1 p = W2 at *
          go_wp2_with (at_builtin; (refine wpList_append_sl (o := ⟨some 48, _, _, _, _, _⟩) _ encD 2 rfl (.tmp 42) (.tmp 47) 23 rfl encD_len (by omega) encD_one (w.heap.size + 1) 63 i0 _ 16 Tryz.underlying23 hi0 hz0 hz1 hz2 rfl _ ys rfl (hR2.out.2.alloc _) _ 1 _ [(r, c)] rfl rfl (SlAt.one (heap_alloc_new _ _)) (by simp [maxLen]; have := HM.out; omega) (by simp; have := HM.out; omega) (by have := hR2.out.1.size; simp; omega) ?_; intro v3 w3 hown3 hg3 hat3; have R3 := Lib.hid (hR2.out.app _ hown3 hg3); clear hown3 hg3 hat3))
          go_roundw
          case rel => exact ⟨m + 1, true, ys ++ [(r, c)], by omega, by go_num, rfl, by simp; omega, by simp, R3, HE⟩
          case measure => simp [intOf]; omega
    · have hE' := hE.out
      rw [List.drop_eq_nil_of_le (by omega)] at hE'
      obtain ⟨k0, k1, kz, kb⟩ := hR.out.cells
      cases done
      · have HE := Lib.hid (show ys ++ [(r0, c0)] = raiseV xs (r0, c0) by rw [HV.out]; simpa [raiseL] using hE'); clear hE' hE
        clear kb
        go_wp2_with (at_builtin; (refine wpList_append_sl (o := ⟨some 54, _, _, _, _, _⟩) _ encD 2 rfl (.tmp 51) (.tmp 53) 23 rfl encD_len (by omega) encD_one (w.heap.size + 1) 63 i0 _ 16 Tryz.underlying23 hi0 hz0 hz1 hz2 rfl _ ys rfl (hR.out.2.alloc _) _ 1 _ [(r0, c0)] rfl rfl (SlAt.one (heap_alloc_new _ _)) (by simp [maxLen]; have := HM.out; omega) (by simp; have := HM.out; omega) (by have := hR.out.1.size; simp; omega) ?_; intro v4 w4 hown4 hg4 hat4; have R4 := Lib.hid (hR.out.app _ hown4 hg4); clear hown4 hg4 hat4))
        have hown := R4.out.2
        rw [HE.out] at hown
        obtain ⟨A', c', rfl, h1', h2', h3'⟩ := SlAt.of_own encD_len hown
        have HAT := Lib.hid hown
        clear hown h1' h2' h3' k0 k1
        go_wp2
        go_ret
        exact ⟨⟨_, rfl, HAT.out⟩, R4.out.cells.2.2.2⟩
      · have HE := Lib.hid (show ys = raiseV xs (r0, c0) by rw [HV.out]; simpa [raiseL] using hE'); clear hE' hE
        have hown := hR.out.2
        rw [HE.out] at hown
        obtain ⟨A', c', rfl, h1', h2', h3'⟩ := SlAt.of_own encD_len hown
        have HAT := Lib.hid hown
        clear hown h1' h2' h3' k0 k1
        go_wp2
        go_ret
        exact ⟨⟨_, rfl, HAT.out⟩, kb⟩

/-- All dots are valid. -/
def ofOk (l : List (Int × Int)) : Bool := l.all fun p => validD p.1 p.2
end

end Go.Proofs.YtfmhhmceoikgpaaGreat
