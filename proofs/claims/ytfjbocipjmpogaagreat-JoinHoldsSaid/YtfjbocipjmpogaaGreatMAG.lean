/- Several texts in one: VecK, Sort, DotD, DotE. -/
import Derived.Test.YtfjbocipjmpogaaGreatMAA
import Derived.Test.YtfjbocipjmpogaaGreatMAB
import Derived.Test.YtfjbocipjmpogaaGreatShelf
import Derived.Deep.AppendLies
namespace Go.Proofs.YtfjbocipjmpogaaGreat

section
open Go.RowKit

/-- Replicas strictly increase. -/
def IncR (v : List (Int × Int)) : Prop := v.Pairwise fun p q => p.1 < q.1
instance (v : List (Int × Int)) : Decidable (IncR v) := by unfold IncR; infer_instance
/-- Which vectors are valid. -/
def validV (v : List (Int × Int)) : Bool := v.all (fun p => validD p.1 p.2) && decide (IncR v)
/-- The counter of a replica. -/
def getV : List (Int × Int) → Int → Int
  | [], _ => 0
  | p :: v, r => if p.1 = r then p.2 else getV v r
/-- A dot is in a vector. -/
def hasV (v : List (Int × Int)) (r c : Int) : Bool := validD r c && decide (c ≤ getV v r)

theorem validV_iff (v : List (Int × Int)) : validV v = true ↔ (∀ p ∈ v, validD p.1 p.2 = true) ∧ IncR v := by
  simp [validV, List.all_eq_true]
theorem validD_pos {r c : Int} (h : validD r c = true) : 1 ≤ c := by simp [validD] at h; omega

theorem getV_none {v : List (Int × Int)} {r : Int} (h : ∀ p ∈ v, p.1 ≠ r) : getV v r = 0 := by
  induction v with
  | nil => rfl
  | cons p v ih =>
    rw [getV, if_neg (h p (by simp)), ih fun q hq => h q (by simp [hq])]
theorem getV_mem {v : List (Int × Int)} (hv : IncR v) {p : Int × Int} (hp : p ∈ v) : getV v p.1 = p.2 := by
  induction v with
  | nil => cases hp
  | cons q v ih =>
    have h := List.pairwise_cons.1 hv
    rcases List.mem_cons.1 hp with e | hp
    · subst e; rw [getV, if_pos rfl]
    · have := h.1 p hp
      rw [getV, if_neg (by omega), ih h.2 hp]
theorem getV_of_pos {v : List (Int × Int)} {r : Int} (h : getV v r ≠ 0) : (r, getV v r) ∈ v := by
  induction v with
  | nil => exact absurd rfl h
  | cons p v ih =>
    rw [getV] at h ⊢
    split at h
    · rename_i e
      rw [if_pos e]; subst e; simp
    · rename_i e
      rw [if_neg e]; exact List.mem_cons_of_mem _ (ih h)
theorem getV_nonneg {v : List (Int × Int)} (h : ∀ p ∈ v, validD p.1 p.2 = true) (r : Int) : 0 ≤ getV v r := by
  by_cases e : getV v r = 0
  · omega
  · have := validD_pos (h _ (getV_of_pos e)); simp at this; omega

theorem mem_iff_get {v : List (Int × Int)} (hv : validV v = true) (p : Int × Int) : p ∈ v ↔ getV v p.1 = p.2 ∧ p.2 ≠ 0 := by
  obtain ⟨h1, h2⟩ := (validV_iff v).1 hv
  constructor
  · intro h
    have := validD_pos (h1 p h)
    exact ⟨getV_mem h2 h, by omega⟩
  · rintro ⟨h, h0⟩
    have := getV_of_pos (v := v) (r := p.1) (by omega)
    rw [h] at this
    exact this

theorem IncR.ext : ∀ {s t : List (Int × Int)}, IncR s → IncR t → (∀ d, d ∈ s ↔ d ∈ t) → s = t
  | [], [], _, _, _ => rfl
  | [], y :: t, _, _, h => by have := (h y).2 (by simp); simp at this
  | x :: s, [], _, _, h => by have := (h x).1 (by simp); simp at this
  | x :: s, y :: t, hs, ht, h => by
    have hs' := List.pairwise_cons.1 hs
    have ht' := List.pairwise_cons.1 ht
    have hxy : x = y := by
      have h1 := (h x).1 (by simp)
      have h2 := (h y).2 (by simp)
      rcases List.mem_cons.1 h1 with e | h1
      · exact e
      · rcases List.mem_cons.1 h2 with e | h2
        · exact e.symm
        · have a := ht'.1 x h1
          have b := hs'.1 y h2
          omega
    subst hxy
    have : s = t := IncR.ext hs'.2 ht'.2 fun d => by
      have hd := h d
      simp only [List.mem_cons] at hd
      constructor
      · intro hm
        rcases hd.1 (.inr hm) with e | h'
        · subst e; have := hs'.1 d hm; omega
        · exact h'
      · intro hm
        rcases hd.2 (.inr hm) with e | h'
        · subst e; have := ht'.1 d hm; omega
        · exact h'
    rw [this]

/-- Two valid vectors with the same counters are the same. -/
theorem validV_ext {a b : List (Int × Int)} (ha : validV a = true) (hb : validV b = true) (h : ∀ r, getV a r = getV b r) : a = b :=
  ((validV_iff a).1 ha).2.ext ((validV_iff b).1 hb).2 fun d => by rw [mem_iff_get ha, mem_iff_get hb, h]

/-- What Raise of the reference makes of a vector which the dot is not in: from an element on, the dot laid in already or not. -/
def raiseL (d : Int × Int) : Bool → List (Int × Int) → List (Int × Int)
  | done, [] => if done then [] else [d]
  | done, x :: v => (if !done && decide (d.1 ≤ x.1) then [d] else []) ++ ((if x.1 != d.1 then [x] else []) ++ raiseL d (done || decide (d.1 ≤ x.1)) v)
/-- The vector with one more dot. -/
def raiseV (v : List (Int × Int)) (d : Int × Int) : List (Int × Int) := if hasV v d.1 d.2 then v else raiseL d false v

theorem raiseL_done (d : Int × Int) : ∀ v : List (Int × Int), raiseL d true v = v.filter fun x => x.1 != d.1
  | [] => rfl
  | x :: v => by
    rw [raiseL, List.filter_cons, Bool.true_or, raiseL_done d v]
    simp only [Bool.not_true, Bool.false_and, Bool.false_eq_true, if_false, List.nil_append]
    cases x.1 != d.1 <;> simp

theorem mem_raiseL {d : Int × Int} : ∀ {v : List (Int × Int)}, IncR v → ∀ p, p ∈ raiseL d false v ↔ p = d ∨ (p ∈ v ∧ p.1 ≠ d.1)
  | [], _, p => by simp [raiseL]
  | x :: v, h, p => by
    have h' := List.pairwise_cons.1 h
    rw [raiseL]
    by_cases hx : d.1 ≤ x.1
    · simp only [hx, decide_true, Bool.not_false, Bool.true_and, if_true, Bool.or_true, raiseL_done, List.mem_append, List.mem_filter, bne_iff_ne, List.mem_cons]
      by_cases e : x.1 = d.1
      · simp [e]
        constructor
        · rintro (h | ⟨h1, h2⟩)
          · exact .inl h
          · exact .inr ⟨.inr h1, h2⟩
        · rintro (h | ⟨h1 | h1, h2⟩)
          · exact .inl h
          · exact absurd (by rw [h1]; exact e) h2
          · exact .inr ⟨h1, h2⟩
      · simp [e]
        constructor
        · rintro (h | h | ⟨h1, h2⟩)
          · exact .inl h
          · exact .inr ⟨.inl h, by rw [h]; exact e⟩
          · exact .inr ⟨.inr h1, h2⟩
        · rintro (h | ⟨h1 | h1, h2⟩)
          · exact .inl h
          · exact .inr (.inl h1)
          · exact .inr (.inr ⟨h1, h2⟩)
    · have e : x.1 ≠ d.1 := by omega
      simp only [hx, decide_false, Bool.not_false, Bool.and_false, Bool.false_eq_true, if_false, Bool.or_false, List.nil_append, List.mem_append, mem_raiseL h'.2, List.mem_cons]
      simp [e]
      constructor
      · rintro (h | h | ⟨h1, h2⟩)
        · exact .inr ⟨.inl h, by rw [h]; exact e⟩
        · exact .inl h
        · exact .inr ⟨.inr h1, h2⟩
      · rintro (h | ⟨h1 | h1, h2⟩)
        · exact .inr (.inl h)
        · exact .inl h1
        · exact .inr (.inr ⟨h1, h2⟩)

theorem IncR.filter {s : List (Int × Int)} (h : IncR s) (p : Int × Int → Bool) : IncR (s.filter p) := List.Pairwise.filter p h
theorem incR_raiseL {d : Int × Int} : ∀ {v : List (Int × Int)}, IncR v → IncR (raiseL d false v)
  | [], _ => by simp [raiseL, IncR]
  | x :: v, h => by
    have h' := List.pairwise_cons.1 h
    rw [raiseL]
    by_cases hx : d.1 ≤ x.1
    · simp only [hx, decide_true, Bool.not_false, Bool.true_and, if_true, Bool.or_true, raiseL_done, List.singleton_append]
      have hf := IncR.filter h'.2 fun x => x.1 != d.1
      by_cases e : x.1 = d.1
      · simp only [e, bne_self_eq_false, Bool.false_eq_true, if_false, List.nil_append]
        refine List.pairwise_cons.2 ⟨fun p hp => ?_, hf⟩
        have := h'.1 p (List.mem_filter.1 hp).1
        omega
      · have e2 : (x.1 != d.1) = true := by simp [e]
        rw [e2]
        simp only [if_true, List.singleton_append]
        refine List.pairwise_cons.2 ⟨fun p hp => ?_, List.pairwise_cons.2 ⟨fun p hp => h'.1 p (List.mem_filter.1 hp).1, hf⟩⟩
        rcases List.mem_cons.1 hp with e3 | hp
        · subst e3; omega
        · have := h'.1 p (List.mem_filter.1 hp).1
          omega
    · have e2 : (x.1 != d.1) = true := by simp; omega
      simp only [hx, decide_false, Bool.not_false, Bool.and_false, Bool.false_eq_true, if_false, Bool.or_false, List.nil_append, e2, if_true, List.singleton_append]
      refine List.pairwise_cons.2 ⟨fun p hp => ?_, incR_raiseL h'.2⟩
      rcases (mem_raiseL h'.2 p).1 hp with e3 | ⟨h1, _⟩
      · subst e3; omega
      · exact h'.1 p h1

theorem valid_raiseV {v : List (Int × Int)} {d : Int × Int} (hv : validV v = true) (hd : validD d.1 d.2 = true) : validV (raiseV v d) = true := by
  unfold raiseV
  split
  · exact hv
  · obtain ⟨h1, h2⟩ := (validV_iff v).1 hv
    refine (validV_iff _).2 ⟨fun p hp => ?_, incR_raiseL h2⟩
    rcases (mem_raiseL h2 p).1 hp with e | ⟨h, _⟩
    · subst e; exact hd
    · exact h1 p h
theorem get_raiseV {v : List (Int × Int)} {d : Int × Int} (hv : validV v = true) (hd : validD d.1 d.2 = true) (r : Int) : getV (raiseV v d) r = if r = d.1 then max (getV v r) d.2 else getV v r := by
  obtain ⟨h1, h2⟩ := (validV_iff v).1 hv
  unfold raiseV
  split
  · rename_i h
    simp only [hasV, Bool.and_eq_true, decide_eq_true_eq] at h
    split
    · rename_i e; subst e; omega
    · rfl
  · rename_i h
    simp only [hasV, hd, Bool.true_and, decide_eq_true_eq] at h
    have hi := incR_raiseL (d := d) h2
    split
    · rename_i e; subst e
      have := getV_mem hi ((mem_raiseL h2 d).2 (.inl rfl))
      rw [this]; omega
    · rename_i e
      by_cases h0 : getV v r = 0
      · rw [h0]
        by_cases h3 : getV (raiseL d false v) r = 0
        · exact h3
        · rcases (mem_raiseL h2 _).1 (getV_of_pos h3) with h4 | ⟨h4, _⟩
          · exact absurd (congrArg Prod.fst h4) e
          · have h5 := getV_mem h2 h4
            simp only at h5
            omega
      · have h3 := (mem_raiseL (d := d) h2 (r, getV v r)).2 (.inr ⟨getV_of_pos h0, e⟩)
        exact getV_mem hi h3

/-- The greatest counter of a replica in a list of dots, n at least. -/
def maxC : List (Int × Int) → Int → Int → Int
  | [], _, n => n
  | d :: l, r, n => maxC l r (if d.1 = r then max n d.2 else n)

/-- The vector with all dots of a list more. -/
def mergeV (a b : List (Int × Int)) : List (Int × Int) := b.foldl raiseV a
theorem mergeV_snoc (a b : List (Int × Int)) (d : Int × Int) : mergeV a (b ++ [d]) = raiseV (mergeV a b) d := by simp [mergeV, List.foldl_append]
theorem valid_mergeV : ∀ {b a : List (Int × Int)}, validV a = true → (∀ p ∈ b, validD p.1 p.2 = true) → validV (mergeV a b) = true
  | [], _, h, _ => h
  | d :: b, a, h, hb => valid_mergeV (b := b) (valid_raiseV h (hb d (by simp))) fun p hp => hb p (by simp [hp])
theorem get_mergeV : ∀ {b a : List (Int × Int)}, validV a = true → (∀ p ∈ b, validD p.1 p.2 = true) → ∀ r, getV (mergeV a b) r = maxC b r (getV a r)
  | [], _, _, _, _ => rfl
  | d :: b, a, h, hb, r => by
    show getV (mergeV (raiseV a d) b) r = _
    rw [get_mergeV (b := b) (valid_raiseV h (hb d (by simp))) (fun p hp => hb p (by simp [hp])) r, get_raiseV h (hb d (by simp)), maxC]
    by_cases e : r = d.1
    · subst e; simp
    · rw [if_neg e, if_neg (Ne.symm e)]
theorem maxC_snoc : ∀ (l : List (Int × Int)) (d : Int × Int) (r n : Int), maxC (l ++ [d]) r n = if d.1 = r then max (maxC l r n) d.2 else maxC l r n
  | [], d, r, n => rfl
  | x :: l, d, r, n => by rw [List.cons_append, maxC, maxC, maxC_snoc l d r]
theorem maxC_append : ∀ (l l' : List (Int × Int)) (r n : Int), maxC (l ++ l') r n = maxC l' r (maxC l r n)
  | [], _, _, _ => rfl
  | x :: l, l', r, n => by rw [List.cons_append, maxC, maxC, maxC_append l l' r]
theorem maxC_ge : ∀ (l : List (Int × Int)) (r n : Int), n ≤ maxC l r n
  | [], _, _ => Int.le_refl _
  | d :: l, r, n => by
    rw [maxC]
    have := maxC_ge l r (if d.1 = r then max n d.2 else n)
    split at this <;> split <;> omega
theorem maxC_none : ∀ {l : List (Int × Int)} {r : Int} (n : Int), (∀ p ∈ l, p.1 ≠ r) → maxC l r n = n
  | [], _, _, _ => rfl
  | d :: l, r, n, h => by rw [maxC, if_neg (h d (by simp)), maxC_none n fun p hp => h p (by simp [hp])]
theorem maxC_get : ∀ {v : List (Int × Int)}, validV v = true → ∀ (r n : Int), 0 ≤ n → maxC v r n = max n (getV v r)
  | [], _, r, n, hn => by simp only [maxC, getV]; omega
  | d :: v, h, r, n, hn => by
    obtain ⟨h1, h2⟩ := (validV_iff _).1 h
    have h2' := List.pairwise_cons.1 h2
    have hv : validV v = true := (validV_iff v).2 ⟨fun p hp => h1 p (by simp [hp]), h2'.2⟩
    rw [maxC, getV]
    by_cases e : d.1 = r
    · rw [if_pos e, if_pos e]
      exact maxC_none _ fun p hp => by have := h2'.1 p hp; omega
    · rw [if_neg e, if_neg e, maxC_get hv r n hn]

/-- What Merge returns has of each replica the greater counter. -/
theorem get_merge {a b : List (Int × Int)} (ha : validV a = true) (hb : validV b = true) (r : Int) : getV (mergeV a b) r = max (getV a r) (getV b r) := by
  obtain ⟨h1, _⟩ := (validV_iff b).1 hb
  rw [get_mergeV ha h1, maxC_get hb r _ (getV_nonneg ((validV_iff a).1 ha).1 r)]
theorem valid_merge {a b : List (Int × Int)} (ha : validV a = true) (hb : validV b = true) : validV (mergeV a b) = true := valid_mergeV ha ((validV_iff b).1 hb).1
theorem merge_comm {a b : List (Int × Int)} (ha : validV a = true) (hb : validV b = true) : mergeV a b = mergeV b a :=
  validV_ext (valid_merge ha hb) (valid_merge hb ha) fun r => by rw [get_merge ha hb, get_merge hb ha]; omega
theorem has_merge {a b : List (Int × Int)} (ha : validV a = true) (hb : validV b = true) (r c : Int) : hasV (mergeV a b) r c = (hasV a r c || hasV b r c) := by
  unfold hasV
  rw [get_merge ha hb, Bool.eq_iff_iff]
  cases validD r c <;> simp
  omega

/-- The vector with some dots. -/
def ofV (l : List (Int × Int)) : List (Int × Int) := mergeV [] l
theorem valid_nil : validV [] = true := rfl
theorem valid_ofV {l : List (Int × Int)} (h : ∀ p ∈ l, validD p.1 p.2 = true) : validV (ofV l) = true := valid_mergeV valid_nil h
theorem get_ofV {l : List (Int × Int)} (h : ∀ p ∈ l, validD p.1 p.2 = true) (r : Int) : getV (ofV l) r = maxC l r 0 := get_mergeV valid_nil h r
/-- A list in the order of replicas, one dot for each, which has of each replica the greatest counter of l, is the vector of l. -/
theorem ofV_unique {l v : List (Int × Int)} (h : ∀ p ∈ l, validD p.1 p.2 = true) (hi : IncR v) (hm : ∀ p ∈ v, p.2 = maxC l p.1 0 ∧ ∃ q ∈ l, q.1 = p.1) (hk : ∀ q ∈ l, ∃ p ∈ v, p.1 = q.1) : v = ofV l := by
  have hpos : ∀ (l' : List (Int × Int)) (r n : Int), (∀ p ∈ l', validD p.1 p.2 = true) → 0 ≤ n → n ≤ 4294967295 → 0 ≤ maxC l' r n ∧ maxC l' r n ≤ 4294967295 := by
    intro l'
    induction l' with
    | nil => intro r n _ h0 h1; exact ⟨h0, h1⟩
    | cons d l' ih =>
      intro r n hv h0 h1
      rw [maxC]
      have hd := hv d (by simp)
      simp [validD] at hd
      exact ih r _ (fun p hp => hv p (by simp [hp])) (by split <;> omega) (by split <;> omega)
  have hge : ∀ (l' : List (Int × Int)) (r n : Int), (∃ q ∈ l', q.1 = r ∧ 1 ≤ q.2) → 1 ≤ maxC l' r n := by
    intro l'
    induction l' with
    | nil => rintro r n ⟨q, hq, _⟩; cases hq
    | cons d l' ih =>
      rintro r n ⟨q, hq, e, h1⟩
      rw [maxC]
      rcases List.mem_cons.1 hq with e2 | hq
      · subst e2
        rw [if_pos e]
        have := maxC_ge l' r (max n q.2)
        omega
      · exact ih r _ ⟨q, hq, e, h1⟩
  have hvv : validV v = true := by
    refine (validV_iff v).2 ⟨fun p hp => ?_, hi⟩
    obtain ⟨e, q, hq, e2⟩ := hm p hp
    have hq' := h q hq
    have h1 := hge l p.1 0 ⟨q, hq, e2, validD_pos hq'⟩
    have h2 := hpos l p.1 0 h (by omega) (by omega)
    simp [validD] at hq' ⊢
    omega
  refine validV_ext hvv (valid_ofV h) fun r => ?_
  rw [get_ofV h]
  by_cases hr : ∃ q ∈ l, q.1 = r
  · obtain ⟨q, hq, e⟩ := hr
    obtain ⟨p, hp, e2⟩ := hk q hq
    have := getV_mem hi hp
    rw [show r = p.1 by omega, this]
    exact (hm p hp).1
  · rw [maxC_none 0 fun p hp e => hr ⟨p, hp, e⟩, getV_none fun p hp e => ?_]
    obtain ⟨_, q, hq, e2⟩ := hm p hp
    exact hr ⟨q, hq, by omega⟩
theorem merge_of {a b : List (Int × Int)} (ha : validV a = true) (hb : validV b = true) : mergeV a b = ofV (a ++ b) := by
  obtain ⟨h1, _⟩ := (validV_iff a).1 ha
  obtain ⟨h2, _⟩ := (validV_iff b).1 hb
  have hl : ∀ p ∈ a ++ b, validD p.1 p.2 = true := fun p hp => by rcases List.mem_append.1 hp with h | h; exact h1 p h; exact h2 p h
  refine validV_ext (valid_merge ha hb) (valid_ofV hl) fun r => ?_
  rw [get_ofV hl, maxC_append, get_mergeV ha h2, maxC_get ha r 0 (by omega)]
  congr 1
  have := getV_nonneg h1 r
  omega
end

section
open Go.RowKit Go.Sort

section
variable {α : Type} [Inhabited α] {enc : α → List Value} {k : Nat}

theorem flatK_cells (hk : ∀ x, (enc x).length = k) (hk0 : 0 < k) (d : Array α) : (flatK enc k d).toList = cellsOf enc d.toList := by
  apply List.ext_getElem?
  intro t
  by_cases ht : t < d.size * k
  · have h1 : (flatK enc k d)[t]! = (enc d[t / k]!)[t % k]! := get_flatK enc k d t ht
    have hs : t < (flatK enc k d).size := by rw [size_flatK]; exact ht
    have hd : t / k < d.size := (Nat.div_lt_iff_lt_mul hk0).2 ht
    have hm : t % k < k := Nat.mod_lt _ hk0
    have h2 : (cellsOf enc d.toList)[t / k * k + t % k]? = some ((enc d[t / k]!)[t % k]!) := by
      refine cellsOf_at hk d.toList (t / k) d[t / k]! (t % k) _ (by simp [hd]) ?_
      have : t % k < (enc d[t / k]!).length := by rw [hk]; exact hm
      rw [List.getElem?_eq_getElem this]; simp [this]
    rw [Nat.div_add_mod'] at h2
    rw [h2, Array.getElem?_toList, Array.getElem?_eq_getElem hs]
    rw [getElem!_pos (flatK enc k d) t hs] at h1
    rw [h1]
  · rw [List.getElem?_eq_none (by simp; omega), List.getElem?_eq_none (by rw [cellsOf_length hk]; simp; omega)]

theorem holdsK_of_own (hk : ∀ x, (enc x).length = k) (hk0 : 0 < k) {w : World} {base g n cap : Nat} {e : TypeId} {xs : List α} (h : w.ownsRow base e k (.slice (some ⟨g, 0, none⟩) n cap) xs.length (cellsOf enc xs)) :
    HoldsK enc k w g 0 xs.toArray := by
  intro t ht
  have hrow := h.cells (g := g) rfl
  have hf : w.frozen? ⟨g, 0 + t, none⟩ = false := by
    rcases h.2 with ⟨h0, _⟩ | ⟨g', cap', cur, hv, _, hg, _⟩
    · cases h0
    · cases hv; simp [World.frozen?, hg]
  refine ⟨?_, hf⟩
  have hl : (flatK enc k xs.toArray).toList = cellsOf enc xs := by rw [flatK_cells hk hk0]
  have h1 : (cellsOf enc xs)[t]? = some (flatK enc k xs.toArray)[t]! := by
    rw [← hl, Array.getElem?_toList, Array.getElem?_eq_getElem ht, getElem!_pos (flatK enc k xs.toArray) t ht]
  have := hrow t _ h1
  rw [Addr_add] at this
  simpa using this

theorem own_of_sort (hk : ∀ x, (enc x).length = k) (hk0 : 0 < k) {w : World} {base g n cap m : Nat} {e : TypeId} {xs : List α} {d : Array α} {os : Array Obj} (h : w.ownsRow base e k (.slice (some ⟨g, 0, none⟩) n cap) xs.length (cellsOf enc xs)) (hd : d.size = xs.length) :
    (sortWorldK enc k w g 0 m d os).ownsRow base e k (.slice (some ⟨g, 0, none⟩) n cap) d.toList.length (cellsOf enc d.toList) ∧ w.grownBy (sortWorldK enc k w g 0 m d os) (some g) := by
  have hlen := h.1
  rcases h.2 with ⟨h0, _⟩ | ⟨g', cap', cur, hv, hb, hg, hn, hc, hs, ht⟩
  · cases h0
  · cases hv
    have hgl : g < w.heap.size := (Array.getElem?_eq_some_iff.1 hg).1
    have hsz : d.size * k ≤ cur.size := by rw [hs, hd]; exact Nat.mul_le_mul_right k hn
    constructor
    · refine ⟨cellsOf_length hk _, .inr ⟨g, cap, putCells id 0 (flatK enc k d) cur, by simp [hd], hb, ?_, by simp [hd]; exact hn, hc, by simpa [putCells] using hs, ?_⟩⟩
      · unfold sortWorldK
        rw [heap_grow_old _ _ (by simpa [putRowK, putRow, mapBlock] using hgl)]
        simp only [putRowK, putRow, mapBlock, Array.getElem?_modify]
        rw [if_pos trivial]
        show Option.map _ w.heap[g]? = _
        rw [hg]; rfl
      · rw [← flatK_cells hk hk0]
        apply List.ext_getElem?
        intro t
        rw [List.getElem?_take]
        by_cases hlt : t < d.size * k
        · rw [if_pos (by simpa using hlt)]
          have h1 : t < cur.size := by omega
          have h2 : t < (flatK enc k d).size := by simpa using hlt
          simp only [putCells, Array.getElem?_toList, Array.getElem?_mapIdx, Array.getElem?_eq_getElem h1, Option.map_some, Array.getElem?_eq_getElem h2, size_flatK]
          rw [if_pos ⟨Nat.zero_le _, by omega⟩, Nat.sub_zero, getElem!_pos (flatK enc k d) t h2]
          rfl
        · rw [if_neg (by simpa using hlt), List.getElem?_eq_none (by simp; omega)]
    · refine ⟨rfl, rfl, rfl, by simp [sortWorldK, putRowK, putRow, mapBlock], fun j hj hne => ?_⟩
      unfold sortWorldK
      rw [heap_grow_old _ _ (by simpa [putRowK, putRow, mapBlock] using hj)]
      simp only [putRowK, putRow, mapBlock, Array.getElem?_modify]
      rw [if_neg (by rintro rfl; exact hne rfl)]
      rfl
end

end

section
open Go.RowKit Go.Sort

theorem ltOf_cmpD : (ltOf fun p q : Int × Int => cmpD p.1 p.2 q.1 q.2) = ltD := by
  funext p q
  simp only [ltOf, cmpD, ltD]
  by_cases h : lessD p.1 p.2 q.1 q.2 = true
  · simp [h]
  · have h' : lessD p.1 p.2 q.1 q.2 = false := by simpa using h
    by_cases h2 : lessD q.1 q.2 p.1 p.2 = true <;> simp [h', h2]

theorem lessD_iff (a b c d : Int) : lessD a b c d = true ↔ (b < d ∨ b = d ∧ a < c) := by simp [lessD]
theorem swoD : SWO ltD where
  irrefl x := by simp [ltD, lessD]
  trans x y z h1 h2 := by rw [ltD, lessD_iff] at *; omega
  ntrans x y z h1 h2 := by
    rw [← Bool.not_eq_true, ltD, lessD_iff] at *; omega
theorem ltD_total (x y : Int × Int) (h1 : ltD x y = false) (h2 : ltD y x = false) : x = y := by
  rw [← Bool.not_eq_true, ltD, lessD_iff] at *
  apply Prod.ext <;> omega

/-- A list in order, equal ones side by side. -/
def sortedL (xs : List (Int × Int)) : List (Int × Int) := xs.mergeSort fun x y => !ltD y x

theorem cmpLays (blk off size : Nat) (w : World) : CmpLays Tryz.prog 76 #[] encD 2 (fun p q : Int × Int => cmpD p.1 p.2 q.1 q.2) blk off size w :=
  fun _ _ _ _ x y => dotCompareG x.1 x.2 y.1 y.2 _

theorem sortFunc (v : Value) (base : Nat) (xs : List (Int × Int)) (w : World) (h : w.ownsRow base 51 2 v xs.length (cellsOf encD xs)) (hm : xs.length ≤ 1000000) :
    Calls Tryz.prog 152 #[v, .func (.func 76) #[] #[]] w fun e w' => e = .returned (.tuple #[]) ∧ w'.ownsRow base 51 2 v (sortedL xs).length (cellsOf encD (sortedL xs)) ∧ w.grownBy w' v.ownBlock := by
  rcases Nat.eq_zero_or_pos xs.length with h0 | h0
  · have hn : xs = [] := List.eq_nil_of_length_eq_zero h0
    subst hn
    obtain ⟨A, c, rfl, _⟩ := SlAt.of_own encD_len h
    have hc := AnyF.slices_SortFunc_none (P := Tryz.prog) (ρ := Tryz.sortDots_ren) { Tryz.sortDots with } A c (.func (.func 76) #[] #[]) w
    refine Calls.mono (show Calls Tryz.prog 152 _ _ _ from hc) ?_
    rintro e w' ⟨he, rfl⟩
    exact ⟨he, by simpa [sortedL] using h, World.grownBy.refl _ _⟩
  · obtain ⟨g, cap, rfl, hb, hg⟩ := h.form h0
    have eg : ∀ args w, (callFunc 76 args).run Tryz.prog w = .ok (.enter 76 args) w := enters_of Tryz.func76 (by kernel_rfl) rfl
    have hc := AnyQ.slices_SortFunc_total Tryz.sortDots 2 Tryz.isAgg51 Tryz.sizeOf51 encD encD_len encD_one (fun p q : Int × Int => cmpD p.1 p.2 q.1 q.2) (by rw [ltOf_cmpD]; exact swoD) 76 #[] g 0 cap xs.toArray w eg (cmpLays g 0 _ w) (holdsK_of_own encD_len (by omega) h) hg (by simp; omega) (by rw [ltOf_cmpD]; exact ltD_total)
    have hc' : Calls Tryz.prog 152 #[.slice (some ⟨g, 0, none⟩) xs.length cap, .func (.func 76) #[] #[]] w _ := hc
    refine hc'.mono ?_
    rintro e w' ⟨he, n, os, rfl⟩
    obtain ⟨h1, h2⟩ := own_of_sort (m := n) (os := os) (d := (xs.toArray.toList.mergeSort fun x y => !(ltOf fun p q : Int × Int => cmpD p.1 p.2 q.1 q.2) y x).toArray) encD_len (by omega) h (by simp)
    refine ⟨he, ?_, h2⟩
    rw [ltOf_cmpD] at h1 ⊢
    exact h1

end

section
open Go.RowKit

/-- Of equal ones side by side one is left. -/
def dd : List (Int × Int) → List (Int × Int)
  | [] => []
  | [x] => [x]
  | x :: y :: r => if x = y then dd (y :: r) else x :: dd (y :: r)
theorem dd_head : ∀ (x : Int × Int) (r : List (Int × Int)), ∃ t, dd (x :: r) = x :: t
  | x, [] => ⟨[], rfl⟩
  | x, y :: r => by
    rw [dd]
    split
    · rename_i h; subst h; exact dd_head x r
    · exact ⟨_, rfl⟩
theorem dd_snoc : ∀ (l : List (Int × Int)) (y x : Int × Int), dd (l ++ [y, x]) = if y = x then dd (l ++ [y]) else dd (l ++ [y]) ++ [x]
  | [], y, x => by
    simp only [List.nil_append, dd]
    split
    · rename_i h; rw [h]
    · rfl
  | [a], y, x => by
    have h := dd_snoc [] y x
    simp only [List.nil_append] at h
    simp only [List.cons_append, List.nil_append]
    rw [dd, h]
    by_cases h1 : a = y <;> by_cases h2 : y = x <;> simp [h1, h2, dd]
  | a :: b :: l, y, x => by
    have h := dd_snoc (b :: l) y x
    simp only [List.cons_append] at h ⊢
    rw [dd, h, dd]
    by_cases h1 : a = b <;> by_cases h2 : y = x <;> simp [h1, h2]
theorem dd_same : ∀ (xs : List (Int × Int)), (∀ j p q, xs[j]? = some p → xs[j + 1]? = some q → p ≠ q) → dd xs = xs
  | [], _ => rfl
  | [_], _ => rfl
  | x :: y :: r, h => by
    rw [dd, if_neg (h 0 x y rfl rfl), dd_same (y :: r) (fun j p q h1 h2 => h (j + 1) p q (by simpa using h1) (by simpa using h2))]
theorem dd_len : ∀ (xs : List (Int × Int)), (dd xs).length ≤ xs.length
  | [] => by simp [dd]
  | [_] => by simp [dd]
  | x :: y :: r => by
    have := dd_len (y :: r)
    rw [dd]
    split <;> simp at this ⊢ <;> omega

theorem dd_step {xs : List (Int × Int)} {m : Nat} {y x : Int × Int} (hy : xs[m]? = some y) (hx : xs[m + 1]? = some x) : dd (xs.take (m + 2)) = if y = x then dd (xs.take (m + 1)) else dd (xs.take (m + 1)) ++ [x] := by
  rw [take_snoc hx, take_snoc hy, List.append_assoc]
  exact dd_snoc (xs.take m) y x

/-- The cells of an element of a row of the call's own. -/
theorem own_dot {w : World} {base g n cap : Nat} {e : TypeId} {ys : List (Int × Int)} (h : w.ownsRow base e 2 (.slice (some ⟨g, 0, none⟩) n cap) n (cellsOf encD ys)) {j : Nat} {r c : Int} (hj : ys[j]? = some (r, c)) :
    w.cell? ⟨g, j * 2, none⟩ = some (.int .i64 r) ∧ w.cell? ⟨g, j * 2 + 1, none⟩ = some (.int .i64 c) ∧ w.frozen? ⟨g, j * 2, none⟩ = false ∧ w.frozen? ⟨g, j * 2 + 1, none⟩ = false := by
  have h0 := h.cells (g := g) rfl (j * 2) _ (cellsOf_at encD_len ys j (r, c) 0 _ hj rfl)
  have h1 := h.cells (g := g) rfl (j * 2 + 1) _ (cellsOf_at encD_len ys j (r, c) 1 _ hj rfl)
  rw [Addr_add] at h0 h1
  exact ⟨by simpa using h0, by simpa using h1, h.frozenAt _, h.frozenAt _⟩

theorem cells_setD (ys : List (Int × Int)) (j : Nat) (r c : Int) (hj : j < ys.length) : ((cellsOf encD ys).set (j * 2) (.int .i64 r)).set (j * 2 + 1) (.int .i64 c) = cellsOf encD (ys.set j (r, c)) := by
  induction ys generalizing j with
  | nil => simp at hj
  | cons y l ih =>
    match j with
    | 0 => simp [cellsOf, encD]
    | j + 1 =>
      have := ih j (by simpa using hj)
      simp only [cellsOf, encD, List.flatMap_cons, List.set_cons_succ, List.cons_append, List.nil_append] at this ⊢
      rw [show (j + 1) * 2 = j * 2 + 1 + 1 by omega, show j * 2 + 1 + 1 + 1 = (j * 2 + 1) + 1 + 1 by omega]
      simp only [List.set_cons_succ]
      rw [this]

/-- One element is stored. -/
theorem own_store {w : World} {base g n cap : Nat} {e : TypeId} {ys : List (Int × Int)} (h : w.ownsRow base e 2 (.slice (some ⟨g, 0, none⟩) n cap) n (cellsOf encD ys)) {j : Nat} {r c : Int} (hj : j < ys.length) :
    ((w.setCell ⟨g, j * 2, none⟩ (.int .i64 r)).setCell ⟨g, j * 2 + 1, none⟩ (.int .i64 c)).ownsRow base e 2 (.slice (some ⟨g, 0, none⟩) n cap) n (cellsOf encD (ys.set j (r, c))) ∧
    w.grownBy ((w.setCell ⟨g, j * 2, none⟩ (.int .i64 r)).setCell ⟨g, j * 2 + 1, none⟩ (.int .i64 c)) (some g) := by
  obtain ⟨h1, g1⟩ := h.stored (j * 2) (.int .i64 r)
  obtain ⟨h2, g2⟩ := h1.stored (j * 2 + 1) (.int .i64 c)
  rw [cells_setD ys j r c hj] at h2
  exact ⟨h2, ⟨g2.os.trans g1.os, g2.tape.trans g1.tape, g2.output.trans g1.output, Nat.le_trans g1.size g2.size, fun i hi hne => (g2.block i (Nat.lt_of_lt_of_le hi g1.size) hne).trans (g1.block i hi hne)⟩⟩

/-- 'clear(s[m:])', s a row of the call's own. -/
theorem run_clear_own {P : Program} {w : World} {base g n cap m k : Nat} {e t : TypeId} {cs : List Value} {z : Value} (ht : P.underlying t = some (.slice e)) (hv : ∀ w, (zeroValue e).run P w = .ok z w) (hz : z.cells.size = k) (h1 : ∀ u ∈ z.cells.toList, u.oneCell' = true)
    (h : w.ownsRow base e k (.slice (some ⟨g, 0, none⟩) n cap) n cs) (hm : m < n) (c : Nat) :
    ∃ w', (∀ ty, (Builtin.clear_ #[t] ty #[.slice (some ⟨g, m * k, none⟩) (n - m) c]).run P w = .ok (.tuple #[]) w') ∧ w'.ownsRow base e k (.slice (some ⟨g, 0, none⟩) m cap) m (cs.take (m * k)) ∧ w.grownBy w' (some g) := by
  have hlen := h.1
  rcases h.2 with ⟨h0, _⟩ | ⟨g', cap', cur, hv', hb, hg, hn, hc, hs, htk⟩
  · cases h0
  · cases hv'
    have hzl : (Builtin.zeroCells z.cells (n - m)).toList.length = (n - m) * k := by simp [Builtin.zeroCells, hz]
    have hle : m * k + (n - m) * k ≤ cur.size := by
      rw [← Nat.add_mul, hs]; exact Nat.mul_le_mul_right k (by omega)
    have hmk : m * k ≤ n * k := Nat.mul_le_mul_right k (by omega)
    have hst := run_storeCells_at P g (m * k) e (Builtin.zeroCells z.cells (n - m)).toList 0 cur w hg (by simp only [Nat.add_zero]; rw [hzl]; exact hle) (by
      intro u hu
      simp only [Builtin.zeroCells, Array.toList_map, List.mem_map] at hu
      obtain ⟨i, hi, rfl⟩ := hu
      have hi' : i < (n - m) * z.cells.size := by simpa using hi
      have hk0 : 0 < z.cells.size := by
        rcases Nat.eq_zero_or_pos z.cells.size with h | h
        · rw [h] at hi'; omega
        · exact h
      refine h1 _ ?_
      rw [getElem!_pos z.cells _ (Nat.mod_lt _ hk0)]
      exact Array.getElem_mem_toList _)
    have hcs : (cur.toList.take (m * k + 0) ++ (Builtin.zeroCells z.cells (n - m)).toList ++ cur.toList.drop (m * k + 0 + (Builtin.zeroCells z.cells (n - m)).toList.length)).length = cur.size := by
      simp only [List.length_append, List.length_take, List.length_drop, hzl, Array.length_toList]; omega
    generalize hZ : (Builtin.zeroCells z.cells (n - m)).toList = Z at *
    refine ⟨w.setRow g (cur.toList.take (m * k + 0) ++ Z ++ cur.toList.drop (m * k + 0 + Z.length)).toArray, ?_, ⟨?_, .inr ⟨g, cap, _, rfl, hb, setRow_heap w g cur _ e (0, 0) hg, by omega, hc, ?_, ?_⟩⟩, ?_⟩
    · intro ty
      obtain ⟨q, hq⟩ : ∃ q, n - m = q + 1 := ⟨n - m - 1, by omega⟩
      rw [hq] at hZ ⊢
      simp only [Builtin.clear_]
      simp [run_underlying ht, hv, hZ, hst]
    · rw [List.length_take, hlen]; omega
    · rw [← hs, List.size_toArray, hcs]
    · rw [← htk, List.take_take, Nat.min_eq_left hmk]
      show List.take (m * k) (cur.toList.take (m * k + 0) ++ Z ++ _) = _
      rw [List.append_assoc, List.take_append_of_le_length (by simp; omega), List.take_take, Nat.add_zero, Nat.min_self]
    · refine ⟨rfl, rfl, rfl, by simp [World.setRow], fun i hi hne => ?_⟩
      simp only [World.setRow, Array.getElem?_modify]
      rw [if_neg (by rintro rfl; exact hne rfl)]

end

end Go.Proofs.YtfjbocipjmpogaaGreat
