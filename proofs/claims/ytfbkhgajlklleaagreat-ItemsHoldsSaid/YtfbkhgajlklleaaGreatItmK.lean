/- Plain facts of items: the order of names, which items are valid, one less, one more, all dots. -/
import Derived.Test.YtfbkhgajlklleaaGreatItmI
namespace Go.Proofs.YtfbkhgajlklleaaGreat
open Go.RowKit

theorem beforeN_irrefl : ∀ a : List UInt8, beforeN a a = false
  | [] => rfl
  | a :: r => by rw [beforeN, if_pos rfl]; exact beforeN_irrefl r
theorem beforeN_trans : ∀ {a b c : List UInt8}, beforeN a b = true → beforeN b c = true → beforeN a c = true
  | [], [], _, h, _ => by simp [beforeN] at h
  | _ :: _, [], _, h, _ => by simp [beforeN] at h
  | _, _ :: _, [], _, h => by simp [beforeN] at h
  | [], _ :: _, _ :: _, _, _ => rfl
  | a :: r, b :: s, c :: t, h1, h2 => by
    rw [beforeN] at h1 h2 ⊢
    by_cases e1 : a = b
    · rw [if_pos e1] at h1
      subst e1
      by_cases e2 : a = c
      · rw [if_pos e2] at h2 ⊢
        exact beforeN_trans h1 h2
      · rw [if_neg e2] at h2 ⊢
        exact h2
    · rw [if_neg e1] at h1
      have h1' := of_decide_eq_true h1
      by_cases e2 : b = c
      · rw [if_pos e2] at h2
        subst e2
        rw [if_neg e1]; exact h1
      · rw [if_neg e2] at h2
        have h2' := of_decide_eq_true h2
        rw [if_neg (fun e => by subst e; omega)]
        exact decide_eq_true (by omega)
theorem beforeN_total : ∀ {a b : List UInt8}, beforeN a b = false → beforeN b a = false → a = b
  | [], [], _, _ => rfl
  | [], _ :: _, h, _ => by simp [beforeN] at h
  | _ :: _, [], _, h => by simp [beforeN] at h
  | a :: r, b :: s, h1, h2 => by
    rw [beforeN] at h1 h2
    by_cases e : a = b
    · subst e
      rw [if_pos rfl] at h1 h2
      rw [beforeN_total h1 h2]
    · rw [if_neg e] at h1
      rw [if_neg (fun k => e k.symm)] at h2
      have k1 := of_decide_eq_false h1
      have k2 := of_decide_eq_false h2
      exact absurd (UInt8.toNat_inj.1 (by omega)) e

/-- Names strictly increase. -/
def IncN (l : List It) : Prop := l.Pairwise fun x y => beforeN x.1 y.1 = true
/-- Items that are valid, said of all pairs. -/
def Good (l : List It) : Prop := (∀ x ∈ l, okI x = true) ∧ IncN l ∧ l.Pairwise fun x y => meetN x.2 y.2 = false

theorem IncN.of_next : ∀ {l : List It}, (∀ (j : Nat) (x y : It), l[j]? = some x → l[j + 1]? = some y → beforeN x.1 y.1 = true) → IncN l
  | [], _ => List.Pairwise.nil
  | [_], _ => List.pairwise_singleton _ _
  | a :: b :: r, h => by
    have ih : IncN (b :: r) := IncN.of_next fun j x y hx hy => h (j + 1) x y (by simpa using hx) (by simpa using hy)
    have h0 := h 0 a b rfl rfl
    refine List.pairwise_cons.2 ⟨fun z hz => ?_, ih⟩
    rcases List.mem_cons.1 hz with e | hz
    · subst e; exact h0
    · exact beforeN_trans h0 ((List.pairwise_cons.1 ih).1 z hz)
theorem IncN.get {l : List It} (h : IncN l) {i j : Nat} {x y : It} (hi : l[i]? = some x) (hj : l[j]? = some y) (hij : i < j) : beforeN x.1 y.1 = true := by
  obtain ⟨hil, rfl⟩ := List.getElem?_eq_some_iff.1 hi
  obtain ⟨hjl, rfl⟩ := List.getElem?_eq_some_iff.1 hj
  exact List.pairwise_iff_getElem.1 h i j hil hjl hij
theorem validL_good {l : List It} : validL l = true ↔ Good l := by
  rw [validL_iff]
  constructor
  · intro h
    have h' : ∀ (j : Nat) (x : It), l[j]? = some x → okI x = true ∧ behindAt l x j = true ∧ (List.range j).all (apartAt l x) = true := fun j x hx => by
      have := h j (List.getElem?_eq_some_iff.1 hx).1
      unfold okAt at this
      rw [hx] at this
      simpa [Bool.and_eq_true] using this
    refine ⟨fun x hx => ?_, IncN.of_next fun j x y hx hy => ?_, ?_⟩
    · obtain ⟨j, hj⟩ := List.mem_iff_getElem?.1 hx
      exact (h' j x hj).1
    · have := (h' (j + 1) y hy).2.1
      rwa [behindAt_succ rfl hx] at this
    · rw [List.pairwise_iff_getElem]
      intro i j hi hj hij
      have := (h' j l[j] (List.getElem?_eq_getElem hj)).2.2
      rw [List.all_eq_true] at this
      have := this i (List.mem_range.2 hij)
      unfold apartAt at this
      rw [List.getElem?_eq_getElem hi] at this
      simpa using this
  · rintro ⟨h1, h2, h3⟩ j hj
    unfold okAt
    rw [List.getElem?_eq_getElem hj]
    simp only [Bool.and_eq_true, List.all_eq_true, List.mem_range]
    refine ⟨h1 _ (List.getElem_mem hj), ?_, fun i hi => ?_⟩
    · cases j with
      | zero => rfl
      | succ n =>
        rw [behindAt_succ rfl (List.getElem?_eq_getElem (by omega))]
        exact h2.get (List.getElem?_eq_getElem (by omega)) (List.getElem?_eq_getElem hj) (Nat.lt_succ_self n)
    · unfold apartAt
      rw [List.getElem?_eq_getElem (by omega)]
      have := List.pairwise_iff_getElem.1 h3 i j (by omega) hj hi
      simp [this]
theorem validL_eq {l k : List It} (h : Good l ↔ Good k) : validL l = validL k := by
  rw [Bool.eq_iff_iff, validL_good, validL_good, h]
theorem good_nil : Good [] := ⟨by simp, List.Pairwise.nil, List.Pairwise.nil⟩
theorem Good.sub {l k : List It} (h : Good l) (hs : List.Sublist k l) : Good k := ⟨fun x hx => h.1 x (hs.subset hx), h.2.1.sublist hs, h.2.2.sublist hs⟩
theorem IncN.ext : ∀ {s t : List It}, IncN s → IncN t → (∀ d, d ∈ s ↔ d ∈ t) → s = t
  | [], [], _, _, _ => rfl
  | [], y :: t, _, _, h => by have := (h y).2 (by simp); simp at this
  | x :: s, [], _, _, h => by have := (h x).1 (by simp); simp at this
  | x :: s, y :: t, hs, ht, h => by
    have hs' := List.pairwise_cons.1 hs
    have ht' := List.pairwise_cons.1 ht
    have hxy : x = y := by
      have h1 := (h x).1 (by simp)
      have h2 := (h y).2 (by simp)
      rcases List.mem_cons.1 h1 with e | h1
      · exact e
      · rcases List.mem_cons.1 h2 with e | h2
        · exact e.symm
        · have a := beforeN_trans (ht'.1 x h1) (hs'.1 y h2)
          rw [beforeN_irrefl] at a; cases a
    subst hxy
    have : s = t := IncN.ext hs'.2 ht'.2 fun d => by
      have hd := h d
      simp only [List.mem_cons] at hd
      constructor
      · intro hm
        rcases hd.1 (.inr hm) with e | h'
        · subst e; have := hs'.1 d hm; rw [beforeN_irrefl] at this; cases this
        · exact h'
      · intro hm
        rcases hd.2 (.inr hm) with e | h'
        · subst e; have := ht'.1 d hm; rw [beforeN_irrefl] at this; cases this
        · exact h'
    rw [this]
theorem IncN.name {l : List It} (h : IncN l) {x y : It} (hx : x ∈ l) (hy : y ∈ l) (he : x.1 = y.1) : x = y := by
  obtain ⟨i, hi⟩ := List.mem_iff_getElem?.1 hx
  obtain ⟨j, hj⟩ := List.mem_iff_getElem?.1 hy
  rcases Nat.lt_trichotomy i j with k | k | k
  · have := h.get hi hj k; rw [he, beforeN_irrefl] at this; cases this
  · subst k; rw [hi] at hj; cases hj; rfl
  · have := h.get hj hi k; rw [he, beforeN_irrefl] at this; cases this

/-- Items without the one with a name; with one more. -/
def remN (l : List It) (nm : List UInt8) : List It := l.filter fun x => !(x.1 == nm)
def insN (l : List It) (x : It) : List It := l.takeWhile (fun y => beforeN y.1 x.1) ++ x :: l.dropWhile (fun y => beforeN y.1 x.1)
theorem its_remX (xs : List ItV) (nm : List UInt8) : its (remX xs nm) = remN (its xs) nm := by
  unfold remX remN its
  rw [List.filter_map]; rfl
theorem tw_map {α β : Type} (f : α → β) (p : β → Bool) : ∀ xs : List α, (xs.map f).takeWhile p = (xs.takeWhile fun x => p (f x)).map f ∧ (xs.map f).dropWhile p = (xs.dropWhile fun x => p (f x)).map f
  | [] => ⟨rfl, rfl⟩
  | x :: r => by
    obtain ⟨h1, h2⟩ := tw_map f p r
    simp only [List.map_cons, List.takeWhile_cons, List.dropWhile_cons]
    cases p (f x)
    · exact ⟨rfl, rfl⟩
    · exact ⟨by simp [h1], by simpa using h2⟩
theorem its_insX (xs : List ItV) (x : ItV) : its (insX xs x) = insN (its xs) x.it := by
  unfold insX insN its
  obtain ⟨h1, h2⟩ := tw_map ItV.it (fun y => beforeN y.1 x.it.1) xs
  rw [h1, h2, List.map_append, List.map_cons]; rfl
theorem mem_remN {l : List It} {nm : List UInt8} {x : It} : x ∈ remN l nm ↔ x ∈ l ∧ x.1 ≠ nm := by simp [remN]
theorem mem_insN {l : List It} {x y : It} : y ∈ insN l x ↔ y ∈ l ∨ y = x := by
  unfold insN
  have h : y ∈ l ↔ y ∈ l.takeWhile (fun y => beforeN y.1 x.1) ∨ y ∈ l.dropWhile (fun y => beforeN y.1 x.1) := by
    conv => lhs; rw [← List.takeWhile_append_dropWhile (p := fun y => beforeN y.1 x.1) (l := l)]
    exact List.mem_append
  rw [List.mem_append, List.mem_cons, h]
  constructor
  · rintro (h | h | h)
    · exact .inl (.inl h)
    · exact .inr h
    · exact .inl (.inr h)
  · rintro ((h | h) | h)
    · exact .inl h
    · exact .inr (.inr h)
    · exact .inr (.inl h)
theorem tw_all {α : Type} {p : α → Bool} : ∀ {l : List α} {x : α}, x ∈ l.takeWhile p → p x = true
  | [], x, h => by simp at h
  | a :: r, x, h => by
    rw [List.takeWhile_cons] at h
    by_cases ha : p a = true
    · rw [if_pos ha] at h
      rcases List.mem_cons.1 h with e | h
      · subst e; exact ha
      · exact tw_all h
    · rw [if_neg ha] at h; simp at h
theorem IncN.dw : ∀ {l : List It} (_ : IncN l) {nm : List UInt8} {z : It}, z ∈ l.dropWhile (fun y => beforeN y.1 nm) → beforeN z.1 nm = false
  | [], _, _, z, h => by simp at h
  | a :: r, hl, nm, z, h => by
    rw [List.dropWhile_cons] at h
    have hl' := List.pairwise_cons.1 hl
    by_cases ha : beforeN a.1 nm = true
    · rw [if_pos ha] at h
      exact IncN.dw hl'.2 h
    · rw [if_neg ha] at h
      rcases List.mem_cons.1 h with e | h
      · subst e; simpa using ha
      · cases hz : beforeN z.1 nm with
        | false => rfl
        | true => exact absurd (beforeN_trans (hl'.1 z h) hz) ha
theorem IncN.ins {l : List It} {x : It} (h : IncN l) (hn : ∀ y ∈ l, y.1 ≠ x.1) : IncN (insN l x) := by
  unfold insN
  have hd : ∀ z ∈ l.dropWhile (fun y => beforeN y.1 x.1), beforeN x.1 z.1 = true := fun z hz => by
    cases hb : beforeN x.1 z.1 with
    | true => rfl
    | false => exact absurd (beforeN_total (h.dw hz) hb) (hn z (List.dropWhile_subset _ hz))
  have ht : ∀ z ∈ l.takeWhile (fun y => beforeN y.1 x.1), beforeN z.1 x.1 = true := fun z hz => tw_all (p := fun y : It => beforeN y.1 x.1) hz
  refine List.pairwise_append.2 ⟨h.sublist (List.takeWhile_sublist _), List.pairwise_cons.2 ⟨hd, h.sublist (List.dropWhile_sublist _)⟩, fun a ha b hb => ?_⟩
  rcases List.mem_cons.1 hb with e | hb
  · subst e; exact ht a ha
  · exact beforeN_trans (ht a ha) (hd b hb)
theorem insN_len (l : List It) (x : It) : (insN l x).length = l.length + 1 := by
  have := congrArg List.length (List.takeWhile_append_dropWhile (p := fun y : It => beforeN y.1 x.1) (l := l))
  rw [List.length_append] at this
  unfold insN
  rw [List.length_append, List.length_cons]; omega
theorem meetN_comm (a b : List Mk) : meetN a b = meetN b a := by
  rw [Bool.eq_iff_iff]
  simp only [meetN, hasD, List.any_eq_true, decide_eq_true_eq]
  constructor
  · rintro ⟨m, hm, k, hk, h1, h2⟩; exact ⟨k, hk, m, hm, h1.symm, h2.symm⟩
  · rintro ⟨m, hm, k, hk, h1, h2⟩; exact ⟨k, hk, m, hm, h1.symm, h2.symm⟩
theorem Good.apart {l : List It} (h : Good l) {x y : It} (hx : x ∈ l) (hy : y ∈ l) (hn : x.1 ≠ y.1) : meetN x.2 y.2 = false := by
  obtain ⟨i, hi⟩ := List.mem_iff_getElem?.1 hx
  obtain ⟨j, hj⟩ := List.mem_iff_getElem?.1 hy
  obtain ⟨hil, rfl⟩ := List.getElem?_eq_some_iff.1 hi
  obtain ⟨hjl, rfl⟩ := List.getElem?_eq_some_iff.1 hj
  rcases Nat.lt_trichotomy i j with k | k | k
  · exact List.pairwise_iff_getElem.1 h.2.2 i j hil hjl k
  · subst k; exact absurd rfl hn
  · rw [meetN_comm]; exact List.pairwise_iff_getElem.1 h.2.2 j i hjl hil k
/-- Good items: all are right, names increase, any two with other names lie apart. -/
theorem Good.of {l : List It} (h1 : ∀ x ∈ l, okI x = true) (h2 : IncN l) (h3 : ∀ x ∈ l, ∀ y ∈ l, x.1 ≠ y.1 → meetN x.2 y.2 = false) : Good l := by
  refine ⟨h1, h2, List.pairwise_iff_getElem.2 fun i j hi hj hij => h3 _ (List.getElem_mem hi) _ (List.getElem_mem hj) fun e => ?_⟩
  have := List.pairwise_iff_getElem.1 h2 i j hi hj hij
  rw [e, beforeN_irrefl] at this; cases this
theorem Good.rem {l : List It} (h : Good l) (nm : List UInt8) : Good (remN l nm) := h.sub List.filter_sublist
theorem Good.ins {l : List It} {x : It} (h : Good l) (hx : okI x = true) (hn : ∀ y ∈ l, y.1 ≠ x.1) (hm : (l.any fun y => meetN y.2 x.2) = false) : Good (insN l x) := by
  have hm' : ∀ y ∈ l, meetN y.2 x.2 = false := fun y hy => by
    rw [List.any_eq_false] at hm
    simpa using hm y hy
  refine Good.of (fun y hy => ?_) (h.2.1.ins hn) fun y hy z hz hne => ?_
  · rcases mem_insN.1 hy with k | k
    · exact h.1 y k
    · subst k; exact hx
  · rcases mem_insN.1 hy with k | k <;> rcases mem_insN.1 hz with k' | k'
    · exact h.apart k k' hne
    · subst k'; exact hm' y k
    · subst k; rw [meetN_comm]; exact hm' z k'
    · subst k k'; exact absurd rfl hne
theorem rem_ins {l : List It} {x : It} (hn : ∀ y ∈ l, y.1 ≠ x.1) : remN (insN l x) x.1 = l := by
  have h : ∀ k : List It, (∀ y ∈ k, y.1 ≠ x.1) → remN k x.1 = k := fun k hk => by
    unfold remN
    rw [List.filter_eq_self]
    intro y hy
    simp [hk y hy]
  unfold insN
  show (_ : List It).filter _ = _
  rw [List.filter_append, List.filter_cons]
  have e1 := h (l.takeWhile fun y => beforeN y.1 x.1) fun y hy => hn y (List.takeWhile_subset _ hy)
  have e2 := h (l.dropWhile fun y => beforeN y.1 x.1) fun y hy => hn y (List.dropWhile_subset _ hy)
  unfold remN at e1 e2
  rw [e1, e2, if_neg (by simp)]
  exact List.takeWhile_append_dropWhile
theorem rem_same {l : List It} {nm : List UInt8} (hn : ∀ y ∈ l, y.1 ≠ nm) : remN l nm = l := by
  unfold remN
  rw [List.filter_eq_self]
  intro y hy
  simp [hn y hy]
theorem rem_names (l : List It) (nm : List UInt8) : ∀ y ∈ remN l nm, y.1 ≠ nm := fun _ hy => (mem_remN.1 hy).2
theorem ins_rem {l : List It} {x : It} (h : IncN l) (hx : x ∈ l) : insN (remN l x.1) x = l := by
  refine IncN.ext (IncN.ins (h.sublist List.filter_sublist) (rem_names l x.1)) h fun d => ?_
  rw [mem_insN, mem_remN]
  constructor
  · rintro (k | k)
    · exact k.1
    · subst k; exact hx
  · intro hd
    by_cases e : d.1 = x.1
    · exact .inr (h.name hd hx e)
    · exact .inl ⟨hd, e⟩
theorem rem_len_one {l : List It} (h : IncN l) {x : It} (hx : x ∈ l) : (remN l x.1).length + 1 = l.length := by
  have := congrArg List.length (ins_rem h hx)
  rwa [insN_len] at this

/-- All dots. -/
def allD (l : List It) : List (Int × Int) := l.flatMap fun x => dotsM x.2
theorem setL_join (a b : List (Int × Int)) : setL (setL a ++ b) = setL (a ++ b) := setL_congr fun d => by
  rw [List.mem_append, List.mem_append, mem_setL]
theorem dotsI_all (l : List It) : dotsI l = setL (allD l) := by
  have h : ∀ (l : List It) (s : List (Int × Int)), l.foldl (fun s x => setL (s ++ dotsM x.2)) (setL s) = setL (s ++ allD l) := fun l => by
    induction l with
    | nil => intro s; simp [allD]
    | cons x r ih =>
      intro s
      rw [List.foldl_cons, setL_join, ih]
      simp [allD, List.append_assoc]
  have := h l []
  rwa [List.nil_append, show setL ([] : List (Int × Int)) = [] from rfl] at this
theorem mem_dotsM {ms : List Mk} {r c : Int} : (r, c) ∈ dotsM ms ↔ hasD ms r c = true := by
  simp only [dotsM, hasD, List.mem_map, List.any_eq_true, decide_eq_true_eq, Prod.mk.injEq]
theorem hasD_mem {ms : List Mk} {r c : Int} : decide ((r, c) ∈ dotsM ms) = hasD ms r c := by
  rw [Bool.eq_iff_iff, decide_eq_true_iff]; exact mem_dotsM
theorem insD_size (s : List (Int × Int)) (d : Int × Int) : (insD s d).length = if d ∈ s then s.length else s.length + 1 := by
  unfold insD
  by_cases h : d ∈ s
  · rw [if_pos h, if_pos h]
  · rw [if_neg h, if_neg h]
    have := congrArg List.length (List.takeWhile_append_dropWhile (p := fun y => ltD y d) (l := s))
    rw [List.length_append] at this
    rw [List.length_append, List.length_cons]; omega
theorem fold_size : ∀ (l s : List (Int × Int)), (l.foldl insD s).length = s.length + l.length ↔ l.Nodup ∧ ∀ d ∈ l, d ∉ s
  | [], s => by simp
  | d :: r, s => by
    have ih := fold_size r (insD s d)
    have hle := foldl_ins_len r (insD s d)
    have hz := insD_size s d
    rw [List.foldl_cons, List.length_cons, List.nodup_cons]
    by_cases h : d ∈ s
    · rw [if_pos h] at hz
      constructor
      · intro e; omega
      · rintro ⟨_, k⟩; exact absurd h (k d (by simp))
    · rw [if_neg h] at hz
      rw [hz] at ih
      rw [show s.length + (r.length + 1) = s.length + 1 + r.length by omega, ih]
      constructor
      · rintro ⟨k1, k2⟩
        have hdr : d ∉ r := fun e => (k2 d e) ((mem_insD s d d).2 (.inr rfl))
        refine ⟨⟨hdr, k1⟩, fun e he => ?_⟩
        rcases List.mem_cons.1 he with e' | he
        · subst e'; exact h
        · exact fun hs => k2 e he ((mem_insD s d e).2 (.inl hs))
      · rintro ⟨⟨k1, k2⟩, k3⟩
        refine ⟨k2, fun e he hs => ?_⟩
        rcases (mem_insD s d e).1 hs with h' | h'
        · exact k3 e (List.mem_cons_of_mem _ he) h'
        · subst h'; exact k1 he
theorem setL_size (l : List (Int × Int)) : (setL l).length = l.length ↔ l.Nodup := by
  have := fold_size l []
  rw [List.length_nil, Nat.zero_add] at this
  unfold setL
  rw [this]; simp
theorem okI_parts {x : It} (h : okI x = true) : itemN x.1 = true ∧ 0 < x.2.length ∧ x.2.all validM = true ∧ Inc (dotsM x.2) := by
  unfold okI at h
  simp only [Bool.and_eq_true, decide_eq_true_eq, isSetB_inc] at h
  exact ⟨h.1, h.2.1, h.2.2.1, h.2.2.2⟩
theorem inc_nodup {s : List (Int × Int)} (h : Inc s) : s.Nodup := List.Pairwise.imp (fun {a b} hab e => by subst e; rw [ltD_irrefl] at hab; cases hab) h
theorem meet_no {a b : List Mk} : meetN a b = false ↔ ∀ d ∈ dotsM a, ∀ e ∈ dotsM b, d ≠ e := by
  constructor
  · rintro h ⟨r, c⟩ hd e he rfl
    obtain ⟨m, hm, k⟩ := List.mem_map.1 hd
    simp only [meetN, List.any_eq_false] at h
    have := h m hm
    rw [mem_dotsM] at he
    injection k with k1 k2
    rw [k1, k2, he] at this
    simp at this
  · intro h
    simp only [meetN, List.any_eq_false]
    intro m hm hk
    exact h (m.r, m.c) (List.mem_map.2 ⟨m, hm, rfl⟩) (m.r, m.c) (mem_dotsM.2 hk) rfl
/-- How many marks all items have. -/
def cntM (l : List It) : Nat := (l.map fun x => x.2.length).sum
theorem allD_len (l : List It) : (allD l).length = cntM l := by
  unfold allD cntM
  rw [List.length_flatMap]
  congr 1
  exact List.map_congr_left fun x _ => dotsM_len x.2
theorem cntM_snoc (l : List It) (x : It) : cntM (l ++ [x]) = cntM l + x.2.length := by simp [cntM]
theorem good_count {l : List It} (h1 : ∀ x ∈ l, okI x = true) (h2 : IncN l) : (dotsI l).length = cntM l ↔ Good l := by
  rw [dotsI_all, ← allD_len, setL_size]
  unfold allD List.Nodup
  rw [List.pairwise_flatMap]
  constructor
  · rintro ⟨_, h⟩
    exact ⟨h1, h2, h.imp fun {a b} k => meet_no.2 k⟩
  · rintro ⟨_, _, h⟩
    exact ⟨fun x hx => inc_nodup (okI_parts (h1 x hx)).2.2.2, h.imp fun {a b} k => meet_no.1 k⟩
theorem both_nil {l : List It} {ms : List Mk} : bothL (dotsI l) (dotsM ms) = [] ↔ (l.any fun y => meetN y.2 ms) = false := by
  have hm : ∀ d, d ∈ bothL (dotsI l) (dotsM ms) ↔ d ∈ dotsI l ∧ d ∈ dotsM ms := fun d => by
    rw [← pickL_both]
    simp only [pickL, List.mem_filter, mem_ordL]
    by_cases h : d ∈ dotsM ms <;> simp [h]
  rw [List.eq_nil_iff_forall_not_mem, List.any_eq_false]
  constructor
  · intro h y hy
    rw [Bool.not_eq_true, meet_no]
    rintro d hd e he rfl
    refine h d ((hm d).2 ⟨?_, he⟩)
    rw [dotsI_all, mem_setL]
    exact List.mem_flatMap.2 ⟨y, hy, hd⟩
  · intro h d hd
    obtain ⟨k1, k2⟩ := (hm d).1 hd
    rw [dotsI_all, mem_setL] at k1
    obtain ⟨y, hy, hdy⟩ := List.mem_flatMap.1 k1
    have := h y hy
    rw [Bool.not_eq_true, meet_no] at this
    exact this d hdy d k2 rfl

end Go.Proofs.YtfbkhgajlklleaaGreat
