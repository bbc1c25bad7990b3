/- Plain facts about version vectors: the counter of a replica, the vector with one more dot, what two vectors have together, their order. -/
import Derived.Test.YtibnlifdeknicaaDotA
namespace Go.Proofs.Ytibnlifdeknicaa
open Go.RowKit

/-- Replicas strictly increase. -/
def IncR (v : List (Int × Int)) : Prop := v.Pairwise fun p q => p.1 < q.1
instance (v : List (Int × Int)) : Decidable (IncR v) := by unfold IncR; infer_instance
/-- Which vectors are valid. -/
def validV (v : List (Int × Int)) : Bool := v.all (fun p => validD p.1 p.2) && decide (IncR v)
/-- The counter of a replica. -/
def getV : List (Int × Int) → Int → Int
  | [], _ => 0
  | p :: v, r => if p.1 = r then p.2 else getV v r
/-- A dot is in a vector. -/
def hasV (v : List (Int × Int)) (r c : Int) : Bool := validD r c && decide (c ≤ getV v r)

theorem validV_iff (v : List (Int × Int)) : validV v = true ↔ (∀ p ∈ v, validD p.1 p.2 = true) ∧ IncR v := by
  simp [validV, List.all_eq_true]
theorem validD_pos {r c : Int} (h : validD r c = true) : 1 ≤ c := by simp [validD] at h; omega

theorem getV_none {v : List (Int × Int)} {r : Int} (h : ∀ p ∈ v, p.1 ≠ r) : getV v r = 0 := by
  induction v with
  | nil => rfl
  | cons p v ih =>
    rw [getV, if_neg (h p (by simp)), ih fun q hq => h q (by simp [hq])]
theorem getV_mem {v : List (Int × Int)} (hv : IncR v) {p : Int × Int} (hp : p ∈ v) : getV v p.1 = p.2 := by
  induction v with
  | nil => cases hp
  | cons q v ih =>
    have h := List.pairwise_cons.1 hv
    rcases List.mem_cons.1 hp with e | hp
    · subst e; rw [getV, if_pos rfl]
    · have := h.1 p hp
      rw [getV, if_neg (by omega), ih h.2 hp]
theorem getV_of_pos {v : List (Int × Int)} {r : Int} (h : getV v r ≠ 0) : (r, getV v r) ∈ v := by
  induction v with
  | nil => exact absurd rfl h
  | cons p v ih =>
    rw [getV] at h ⊢
    split at h
    · rename_i e
      rw [if_pos e]; subst e; simp
    · rename_i e
      rw [if_neg e]; exact List.mem_cons_of_mem _ (ih h)
theorem getV_nonneg {v : List (Int × Int)} (h : ∀ p ∈ v, validD p.1 p.2 = true) (r : Int) : 0 ≤ getV v r := by
  by_cases e : getV v r = 0
  · omega
  · have := validD_pos (h _ (getV_of_pos e)); simp at this; omega

theorem mem_iff_get {v : List (Int × Int)} (hv : validV v = true) (p : Int × Int) : p ∈ v ↔ getV v p.1 = p.2 ∧ p.2 ≠ 0 := by
  obtain ⟨h1, h2⟩ := (validV_iff v).1 hv
  constructor
  · intro h
    have := validD_pos (h1 p h)
    exact ⟨getV_mem h2 h, by omega⟩
  · rintro ⟨h, h0⟩
    have := getV_of_pos (v := v) (r := p.1) (by omega)
    rw [h] at this
    exact this

theorem IncR.ext : ∀ {s t : List (Int × Int)}, IncR s → IncR t → (∀ d, d ∈ s ↔ d ∈ t) → s = t
  | [], [], _, _, _ => rfl
  | [], y :: t, _, _, h => by have := (h y).2 (by simp); simp at this
  | x :: s, [], _, _, h => by have := (h x).1 (by simp); simp at this
  | x :: s, y :: t, hs, ht, h => by
    have hs' := List.pairwise_cons.1 hs
    have ht' := List.pairwise_cons.1 ht
    have hxy : x = y := by
      have h1 := (h x).1 (by simp)
      have h2 := (h y).2 (by simp)
      rcases List.mem_cons.1 h1 with e | h1
      · exact e
      · rcases List.mem_cons.1 h2 with e | h2
        · exact e.symm
        · have a := ht'.1 x h1
          have b := hs'.1 y h2
          omega
    subst hxy
    have : s = t := IncR.ext hs'.2 ht'.2 fun d => by
      have hd := h d
      simp only [List.mem_cons] at hd
      constructor
      · intro hm
        rcases hd.1 (.inr hm) with e | h'
        · subst e; have := hs'.1 d hm; omega
        · exact h'
      · intro hm
        rcases hd.2 (.inr hm) with e | h'
        · subst e; have := ht'.1 d hm; omega
        · exact h'
    rw [this]

/-- Two valid vectors with the same counters are the same. -/
theorem validV_ext {a b : List (Int × Int)} (ha : validV a = true) (hb : validV b = true) (h : ∀ r, getV a r = getV b r) : a = b :=
  ((validV_iff a).1 ha).2.ext ((validV_iff b).1 hb).2 fun d => by rw [mem_iff_get ha, mem_iff_get hb, h]

/-- What Raise of the reference makes of a vector which the dot is not in: from an element on, the dot laid in already or not. -/
def raiseL (d : Int × Int) : Bool → List (Int × Int) → List (Int × Int)
  | done, [] => if done then [] else [d]
  | done, x :: v => (if !done && decide (d.1 ≤ x.1) then [d] else []) ++ ((if x.1 != d.1 then [x] else []) ++ raiseL d (done || decide (d.1 ≤ x.1)) v)
/-- The vector with one more dot. -/
def raiseV (v : List (Int × Int)) (d : Int × Int) : List (Int × Int) := if hasV v d.1 d.2 then v else raiseL d false v

theorem raiseL_done (d : Int × Int) : ∀ v : List (Int × Int), raiseL d true v = v.filter fun x => x.1 != d.1
  | [] => rfl
  | x :: v => by
    rw [raiseL, List.filter_cons, Bool.true_or, raiseL_done d v]
    simp only [Bool.not_true, Bool.false_and, Bool.false_eq_true, if_false, List.nil_append]
    cases x.1 != d.1 <;> simp

theorem mem_raiseL {d : Int × Int} : ∀ {v : List (Int × Int)}, IncR v → ∀ p, p ∈ raiseL d false v ↔ p = d ∨ (p ∈ v ∧ p.1 ≠ d.1)
  | [], _, p => by simp [raiseL]
  | x :: v, h, p => by
    have h' := List.pairwise_cons.1 h
    rw [raiseL]
    by_cases hx : d.1 ≤ x.1
    · simp only [hx, decide_true, Bool.not_false, Bool.true_and, if_true, Bool.or_true, raiseL_done, List.mem_append, List.mem_singleton, List.mem_filter, bne_iff_ne, List.mem_cons]
      by_cases e : x.1 = d.1
      · simp [e]
        constructor
        · rintro (h | ⟨h1, h2⟩)
          · exact .inl h
          · exact .inr ⟨.inr h1, h2⟩
        · rintro (h | ⟨h1 | h1, h2⟩)
          · exact .inl h
          · exact absurd (by rw [h1]; exact e) h2
          · exact .inr ⟨h1, h2⟩
      · simp [e]
        constructor
        · rintro (h | h | ⟨h1, h2⟩)
          · exact .inl h
          · exact .inr ⟨.inl h, by rw [h]; exact e⟩
          · exact .inr ⟨.inr h1, h2⟩
        · rintro (h | ⟨h1 | h1, h2⟩)
          · exact .inl h
          · exact .inr (.inl h1)
          · exact .inr (.inr ⟨h1, h2⟩)
    · have e : x.1 ≠ d.1 := by omega
      simp only [hx, decide_false, Bool.not_false, Bool.and_false, Bool.false_eq_true, if_false, Bool.or_false, List.nil_append, List.mem_append, mem_raiseL h'.2, List.mem_cons]
      simp [e]
      constructor
      · rintro (h | h | ⟨h1, h2⟩)
        · exact .inr ⟨.inl h, by rw [h]; exact e⟩
        · exact .inl h
        · exact .inr ⟨.inr h1, h2⟩
      · rintro (h | ⟨h1 | h1, h2⟩)
        · exact .inr (.inl h)
        · exact .inl h1
        · exact .inr (.inr ⟨h1, h2⟩)

theorem IncR.filter {s : List (Int × Int)} (h : IncR s) (p : Int × Int → Bool) : IncR (s.filter p) := List.Pairwise.filter p h
theorem incR_raiseL {d : Int × Int} : ∀ {v : List (Int × Int)}, IncR v → IncR (raiseL d false v)
  | [], _ => by simp [raiseL, IncR]
  | x :: v, h => by
    have h' := List.pairwise_cons.1 h
    rw [raiseL]
    by_cases hx : d.1 ≤ x.1
    · simp only [hx, decide_true, Bool.not_false, Bool.true_and, if_true, Bool.or_true, raiseL_done, List.singleton_append]
      have hf := IncR.filter h'.2 fun x => x.1 != d.1
      by_cases e : x.1 = d.1
      · simp only [e, bne_self_eq_false, Bool.false_eq_true, if_false, List.nil_append]
        refine List.pairwise_cons.2 ⟨fun p hp => ?_, hf⟩
        have := h'.1 p (List.mem_filter.1 hp).1
        omega
      · have e2 : (x.1 != d.1) = true := by simp [e]
        rw [e2]
        simp only [if_true, List.singleton_append]
        refine List.pairwise_cons.2 ⟨fun p hp => ?_, List.pairwise_cons.2 ⟨fun p hp => h'.1 p (List.mem_filter.1 hp).1, hf⟩⟩
        rcases List.mem_cons.1 hp with e3 | hp
        · subst e3; omega
        · have := h'.1 p (List.mem_filter.1 hp).1
          omega
    · have e2 : (x.1 != d.1) = true := by simp; omega
      simp only [hx, decide_false, Bool.not_false, Bool.and_false, Bool.false_eq_true, if_false, Bool.or_false, List.nil_append, e2, if_true, List.singleton_append]
      refine List.pairwise_cons.2 ⟨fun p hp => ?_, incR_raiseL h'.2⟩
      rcases (mem_raiseL h'.2 p).1 hp with e3 | ⟨h1, _⟩
      · subst e3; omega
      · exact h'.1 p h1

theorem valid_raiseV {v : List (Int × Int)} {d : Int × Int} (hv : validV v = true) (hd : validD d.1 d.2 = true) : validV (raiseV v d) = true := by
  unfold raiseV
  split
  · exact hv
  · obtain ⟨h1, h2⟩ := (validV_iff v).1 hv
    refine (validV_iff _).2 ⟨fun p hp => ?_, incR_raiseL h2⟩
    rcases (mem_raiseL h2 p).1 hp with e | ⟨h, _⟩
    · subst e; exact hd
    · exact h1 p h
theorem get_raiseV {v : List (Int × Int)} {d : Int × Int} (hv : validV v = true) (hd : validD d.1 d.2 = true) (r : Int) : getV (raiseV v d) r = if r = d.1 then max (getV v r) d.2 else getV v r := by
  obtain ⟨h1, h2⟩ := (validV_iff v).1 hv
  unfold raiseV
  split
  · rename_i h
    simp only [hasV, Bool.and_eq_true, decide_eq_true_eq] at h
    split
    · rename_i e; subst e; omega
    · rfl
  · rename_i h
    simp only [hasV, hd, Bool.true_and, decide_eq_true_eq] at h
    have hi := incR_raiseL (d := d) h2
    split
    · rename_i e; subst e
      have := getV_mem hi ((mem_raiseL h2 d).2 (.inl rfl))
      rw [this]; omega
    · rename_i e
      by_cases h0 : getV v r = 0
      · rw [h0]
        by_cases h3 : getV (raiseL d false v) r = 0
        · exact h3
        · rcases (mem_raiseL h2 _).1 (getV_of_pos h3) with h4 | ⟨h4, _⟩
          · exact absurd (congrArg Prod.fst h4) e
          · have h5 := getV_mem h2 h4
            simp only at h5
            omega
      · have h3 := (mem_raiseL (d := d) h2 (r, getV v r)).2 (.inr ⟨getV_of_pos h0, e⟩)
        exact getV_mem hi h3

/-- The greatest counter of a replica in a list of dots, n at least. -/
def maxC : List (Int × Int) → Int → Int → Int
  | [], _, n => n
  | d :: l, r, n => maxC l r (if d.1 = r then max n d.2 else n)

/-- The vector with all dots of a list more. -/
def mergeV (a b : List (Int × Int)) : List (Int × Int) := b.foldl raiseV a
theorem mergeV_snoc (a b : List (Int × Int)) (d : Int × Int) : mergeV a (b ++ [d]) = raiseV (mergeV a b) d := by simp [mergeV, List.foldl_append]
theorem valid_mergeV : ∀ {b a : List (Int × Int)}, validV a = true → (∀ p ∈ b, validD p.1 p.2 = true) → validV (mergeV a b) = true
  | [], _, h, _ => h
  | d :: b, a, h, hb => valid_mergeV (b := b) (valid_raiseV h (hb d (by simp))) fun p hp => hb p (by simp [hp])
theorem get_mergeV : ∀ {b a : List (Int × Int)}, validV a = true → (∀ p ∈ b, validD p.1 p.2 = true) → ∀ r, getV (mergeV a b) r = maxC b r (getV a r)
  | [], _, _, _, _ => rfl
  | d :: b, a, h, hb, r => by
    show getV (mergeV (raiseV a d) b) r = _
    rw [get_mergeV (b := b) (valid_raiseV h (hb d (by simp))) (fun p hp => hb p (by simp [hp])) r, get_raiseV h (hb d (by simp)), maxC]
    by_cases e : r = d.1
    · subst e; simp
    · rw [if_neg e, if_neg (Ne.symm e)]
theorem maxC_snoc : ∀ (l : List (Int × Int)) (d : Int × Int) (r n : Int), maxC (l ++ [d]) r n = if d.1 = r then max (maxC l r n) d.2 else maxC l r n
  | [], d, r, n => rfl
  | x :: l, d, r, n => by rw [List.cons_append, maxC, maxC, maxC_snoc l d r]
theorem maxC_append : ∀ (l l' : List (Int × Int)) (r n : Int), maxC (l ++ l') r n = maxC l' r (maxC l r n)
  | [], _, _, _ => rfl
  | x :: l, l', r, n => by rw [List.cons_append, maxC, maxC, maxC_append l l' r]
theorem maxC_ge : ∀ (l : List (Int × Int)) (r n : Int), n ≤ maxC l r n
  | [], _, _ => Int.le_refl _
  | d :: l, r, n => by
    rw [maxC]
    have := maxC_ge l r (if d.1 = r then max n d.2 else n)
    split at this <;> split <;> omega
theorem maxC_none : ∀ {l : List (Int × Int)} {r : Int} (n : Int), (∀ p ∈ l, p.1 ≠ r) → maxC l r n = n
  | [], _, _, _ => rfl
  | d :: l, r, n, h => by rw [maxC, if_neg (h d (by simp)), maxC_none n fun p hp => h p (by simp [hp])]
theorem maxC_get : ∀ {v : List (Int × Int)}, validV v = true → ∀ (r n : Int), 0 ≤ n → maxC v r n = max n (getV v r)
  | [], _, r, n, hn => by simp only [maxC, getV]; omega
  | d :: v, h, r, n, hn => by
    obtain ⟨h1, h2⟩ := (validV_iff _).1 h
    have h2' := List.pairwise_cons.1 h2
    have hv : validV v = true := (validV_iff v).2 ⟨fun p hp => h1 p (by simp [hp]), h2'.2⟩
    rw [maxC, getV]
    by_cases e : d.1 = r
    · rw [if_pos e, if_pos e]
      exact maxC_none _ fun p hp => by have := h2'.1 p hp; omega
    · rw [if_neg e, if_neg e, maxC_get hv r n hn]

/-- What Merge returns has of each replica the greater counter. -/
theorem get_merge {a b : List (Int × Int)} (ha : validV a = true) (hb : validV b = true) (r : Int) : getV (mergeV a b) r = max (getV a r) (getV b r) := by
  obtain ⟨h1, _⟩ := (validV_iff b).1 hb
  rw [get_mergeV ha h1, maxC_get hb r _ (getV_nonneg ((validV_iff a).1 ha).1 r)]
theorem valid_merge {a b : List (Int × Int)} (ha : validV a = true) (hb : validV b = true) : validV (mergeV a b) = true := valid_mergeV ha ((validV_iff b).1 hb).1
theorem merge_comm {a b : List (Int × Int)} (ha : validV a = true) (hb : validV b = true) : mergeV a b = mergeV b a :=
  validV_ext (valid_merge ha hb) (valid_merge hb ha) fun r => by rw [get_merge ha hb, get_merge hb ha]; omega
theorem merge_assoc {a b c : List (Int × Int)} (ha : validV a = true) (hb : validV b = true) (hc : validV c = true) : mergeV (mergeV a b) c = mergeV a (mergeV b c) :=
  validV_ext (valid_merge (valid_merge ha hb) hc) (valid_merge ha (valid_merge hb hc)) fun r => by rw [get_merge (valid_merge ha hb) hc, get_merge ha hb, get_merge ha (valid_merge hb hc), get_merge hb hc]; omega
theorem merge_self {a : List (Int × Int)} (ha : validV a = true) : mergeV a a = a :=
  validV_ext (valid_merge ha ha) ha fun r => by rw [get_merge ha ha]; omega
theorem has_merge {a b : List (Int × Int)} (ha : validV a = true) (hb : validV b = true) (r c : Int) : hasV (mergeV a b) r c = (hasV a r c || hasV b r c) := by
  unfold hasV
  rw [get_merge ha hb, Bool.eq_iff_iff]
  cases validD r c <;> simp
  omega

/-- All dots of a valid vector are in another one. -/
def withinV (a b : List (Int × Int)) : Bool := a.all fun d => hasV b d.1 d.2
theorem withinV_iff {a b : List (Int × Int)} (ha : validV a = true) (hb : validV b = true) : withinV a b = true ↔ ∀ r, getV a r ≤ getV b r := by
  obtain ⟨h1, h2⟩ := (validV_iff a).1 ha
  simp only [withinV, List.all_eq_true, hasV, Bool.and_eq_true, decide_eq_true_eq]
  constructor
  · intro h r
    by_cases e : getV a r = 0
    · rw [e]; exact getV_nonneg ((validV_iff b).1 hb).1 r
    · exact (h _ (getV_of_pos e)).2
  · intro h p hp
    refine ⟨h1 p hp, ?_⟩
    have := h p.1
    rw [getV_mem h2 hp] at this
    exact this
/-- The order of two vectors. -/
def orderV (a b : List (Int × Int)) : Int :=
  if withinV a b then (if withinV b a then 0 else -1) else if withinV b a then 1 else 2
theorem order_merge {a b : List (Int × Int)} (ha : validV a = true) (hb : validV b = true) : orderV a (mergeV a b) = if a = mergeV a b then 0 else -1 := by
  have hm := valid_merge ha hb
  have h1 : withinV a (mergeV a b) = true := (withinV_iff ha hm).2 fun r => by rw [get_merge ha hb]; omega
  unfold orderV
  rw [h1]
  simp only [if_true]
  by_cases e : a = mergeV a b
  · rw [if_pos e, if_pos]
    rw [withinV_iff hm ha]
    intro r
    rw [← e]; exact Int.le_refl _
  · rw [if_neg e, if_neg]
    intro h2
    refine e (validV_ext ha hm fun r => ?_)
    have a1 := (withinV_iff ha hm).1 h1 r
    have a2 := (withinV_iff hm ha).1 h2 r
    omega

/-- The vector with some dots. -/
def ofV (l : List (Int × Int)) : List (Int × Int) := mergeV [] l
theorem valid_nil : validV [] = true := rfl
theorem valid_ofV {l : List (Int × Int)} (h : ∀ p ∈ l, validD p.1 p.2 = true) : validV (ofV l) = true := valid_mergeV valid_nil h
theorem get_ofV {l : List (Int × Int)} (h : ∀ p ∈ l, validD p.1 p.2 = true) (r : Int) : getV (ofV l) r = maxC l r 0 := get_mergeV valid_nil h r
/-- A list in the order of replicas, one dot for each, which has of each replica the greatest counter of l, is the vector of l. -/
theorem ofV_unique {l v : List (Int × Int)} (h : ∀ p ∈ l, validD p.1 p.2 = true) (hi : IncR v) (hm : ∀ p ∈ v, p.2 = maxC l p.1 0 ∧ ∃ q ∈ l, q.1 = p.1) (hk : ∀ q ∈ l, ∃ p ∈ v, p.1 = q.1) : v = ofV l := by
  have hpos : ∀ (l' : List (Int × Int)) (r n : Int), (∀ p ∈ l', validD p.1 p.2 = true) → 0 ≤ n → n ≤ 4294967295 → 0 ≤ maxC l' r n ∧ maxC l' r n ≤ 4294967295 := by
    intro l'
    induction l' with
    | nil => intro r n _ h0 h1; exact ⟨h0, h1⟩
    | cons d l' ih =>
      intro r n hv h0 h1
      rw [maxC]
      have hd := hv d (by simp)
      simp [validD] at hd
      exact ih r _ (fun p hp => hv p (by simp [hp])) (by split <;> omega) (by split <;> omega)
  have hge : ∀ (l' : List (Int × Int)) (r n : Int), (∃ q ∈ l', q.1 = r ∧ 1 ≤ q.2) → 1 ≤ maxC l' r n := by
    intro l'
    induction l' with
    | nil => rintro r n ⟨q, hq, _⟩; cases hq
    | cons d l' ih =>
      rintro r n ⟨q, hq, e, h1⟩
      rw [maxC]
      rcases List.mem_cons.1 hq with e2 | hq
      · subst e2
        rw [if_pos e]
        have := maxC_ge l' r (max n q.2)
        omega
      · exact ih r _ ⟨q, hq, e, h1⟩
  have hvv : validV v = true := by
    refine (validV_iff v).2 ⟨fun p hp => ?_, hi⟩
    obtain ⟨e, q, hq, e2⟩ := hm p hp
    have hq' := h q hq
    have h1 := hge l p.1 0 ⟨q, hq, e2, validD_pos hq'⟩
    have h2 := hpos l p.1 0 h (by omega) (by omega)
    simp [validD] at hq' ⊢
    omega
  refine validV_ext hvv (valid_ofV h) fun r => ?_
  rw [get_ofV h]
  by_cases hr : ∃ q ∈ l, q.1 = r
  · obtain ⟨q, hq, e⟩ := hr
    obtain ⟨p, hp, e2⟩ := hk q hq
    have := getV_mem hi hp
    rw [show r = p.1 by omega, this]
    exact (hm p hp).1
  · rw [maxC_none 0 fun p hp e => hr ⟨p, hp, e⟩, getV_none fun p hp e => ?_]
    obtain ⟨_, q, hq, e2⟩ := hm p hp
    exact hr ⟨q, hq, by omega⟩
theorem merge_of {a b : List (Int × Int)} (ha : validV a = true) (hb : validV b = true) : mergeV a b = ofV (a ++ b) := by
  obtain ⟨h1, _⟩ := (validV_iff a).1 ha
  obtain ⟨h2, _⟩ := (validV_iff b).1 hb
  have hl : ∀ p ∈ a ++ b, validD p.1 p.2 = true := fun p hp => by rcases List.mem_append.1 hp with h | h; exact h1 p h; exact h2 p h
  refine validV_ext (valid_merge ha hb) (valid_ofV hl) fun r => ?_
  rw [get_ofV hl, maxC_append, get_mergeV ha h2, maxC_get ha r 0 (by omega)]
  congr 1
  have := getV_nonneg h1 r
  omega
theorem raise_merge (v : List (Int × Int)) (d : Int × Int) : mergeV v [d] = raiseV v d := rfl
theorem valid_one (d : Int × Int) : validV [d] = validD d.1 d.2 := by simp [validV, IncR]

end Go.Proofs.Ytibnlifdeknicaa
