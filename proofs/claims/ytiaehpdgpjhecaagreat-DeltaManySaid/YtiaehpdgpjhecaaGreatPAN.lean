/- Several texts in one: ItmK, CtxI, CarA, CarK, CarB, CarC, CarD. -/
import Derived.Test.YtiaehpdgpjhecaaGreatPAD
import Derived.Test.YtiaehpdgpjhecaaGreatPAM
import Derived.Test.YtiaehpdgpjhecaaGreatPAH
import Derived.Test.YtiaehpdgpjhecaaGreatPAL
namespace Go.Proofs.YtiaehpdgpjhecaaGreat

section
open Go.RowKit

theorem beforeN_irrefl : ∀ a : List UInt8, beforeN a a = false
  | [] => rfl
  | a :: r => by rw [beforeN, if_pos rfl]; exact beforeN_irrefl r
theorem beforeN_trans : ∀ {a b c : List UInt8}, beforeN a b = true → beforeN b c = true → beforeN a c = true
  | [], [], _, h, _ => by simp [beforeN] at h
  | _ :: _, [], _, h, _ => by simp [beforeN] at h
  | _, _ :: _, [], _, h => by simp [beforeN] at h
  | [], _ :: _, _ :: _, _, _ => rfl
  | a :: r, b :: s, c :: t, h1, h2 => by
    rw [beforeN] at h1 h2 ⊢
    by_cases e1 : a = b
    · rw [if_pos e1] at h1
      subst e1
      by_cases e2 : a = c
      · rw [if_pos e2] at h2 ⊢
        exact beforeN_trans h1 h2
      · rw [if_neg e2] at h2 ⊢
        exact h2
    · rw [if_neg e1] at h1
      have h1' := of_decide_eq_true h1
      by_cases e2 : b = c
      · rw [if_pos e2] at h2
        subst e2
        rw [if_neg e1]; exact h1
      · rw [if_neg e2] at h2
        have h2' := of_decide_eq_true h2
        rw [if_neg (fun e => by subst e; omega)]
        exact decide_eq_true (by omega)
theorem beforeN_total : ∀ {a b : List UInt8}, beforeN a b = false → beforeN b a = false → a = b
  | [], [], _, _ => rfl
  | [], _ :: _, h, _ => by simp [beforeN] at h
  | _ :: _, [], _, h => by simp [beforeN] at h
  | a :: r, b :: s, h1, h2 => by
    rw [beforeN] at h1 h2
    by_cases e : a = b
    · subst e
      rw [if_pos rfl] at h1 h2
      rw [beforeN_total h1 h2]
    · rw [if_neg e] at h1
      rw [if_neg (fun k => e k.symm)] at h2
      have k1 := of_decide_eq_false h1
      have k2 := of_decide_eq_false h2
      exact absurd (UInt8.toNat_inj.1 (by omega)) e

/-- Names strictly increase. -/
def IncN (l : List It) : Prop := l.Pairwise fun x y => beforeN x.1 y.1 = true
/-- Items that are valid, said of all pairs. -/
def Good (l : List It) : Prop := (∀ x ∈ l, okI x = true) ∧ IncN l ∧ l.Pairwise fun x y => meetN x.2 y.2 = false

theorem IncN.of_next : ∀ {l : List It}, (∀ (j : Nat) (x y : It), l[j]? = some x → l[j + 1]? = some y → beforeN x.1 y.1 = true) → IncN l
  | [], _ => List.Pairwise.nil
  | [_], _ => List.pairwise_singleton _ _
  | a :: b :: r, h => by
    have ih : IncN (b :: r) := IncN.of_next fun j x y hx hy => h (j + 1) x y (by simpa using hx) (by simpa using hy)
    have h0 := h 0 a b rfl rfl
    refine List.pairwise_cons.2 ⟨fun z hz => ?_, ih⟩
    rcases List.mem_cons.1 hz with e | hz
    · subst e; exact h0
    · exact beforeN_trans h0 ((List.pairwise_cons.1 ih).1 z hz)
theorem IncN.get {l : List It} (h : IncN l) {i j : Nat} {x y : It} (hi : l[i]? = some x) (hj : l[j]? = some y) (hij : i < j) : beforeN x.1 y.1 = true := by
  obtain ⟨hil, rfl⟩ := List.getElem?_eq_some_iff.1 hi
  obtain ⟨hjl, rfl⟩ := List.getElem?_eq_some_iff.1 hj
  exact List.pairwise_iff_getElem.1 h i j hil hjl hij
theorem validL_good {l : List It} : validL l = true ↔ Good l := by
  rw [validL_iff]
  constructor
  · intro h
    have h' : ∀ (j : Nat) (x : It), l[j]? = some x → okI x = true ∧ behindAt l x j = true ∧ (List.range j).all (apartAt l x) = true := fun j x hx => by
      have := h j (List.getElem?_eq_some_iff.1 hx).1
      unfold okAt at this
      rw [hx] at this
      simpa [Bool.and_eq_true] using this
    refine ⟨fun x hx => ?_, IncN.of_next fun j x y hx hy => ?_, ?_⟩
    · obtain ⟨j, hj⟩ := List.mem_iff_getElem?.1 hx
      exact (h' j x hj).1
    · have := (h' (j + 1) y hy).2.1
      rwa [behindAt_succ rfl hx] at this
    · rw [List.pairwise_iff_getElem]
      intro i j hi hj hij
      have := (h' j l[j] (List.getElem?_eq_getElem hj)).2.2
      rw [List.all_eq_true] at this
      have := this i (List.mem_range.2 hij)
      unfold apartAt at this
      rw [List.getElem?_eq_getElem hi] at this
      simpa using this
  · rintro ⟨h1, h2, h3⟩ j hj
    unfold okAt
    rw [List.getElem?_eq_getElem hj]
    simp only [Bool.and_eq_true, List.all_eq_true, List.mem_range]
    refine ⟨h1 _ (List.getElem_mem hj), ?_, fun i hi => ?_⟩
    · cases j with
      | zero => rfl
      | succ n =>
        rw [behindAt_succ rfl (List.getElem?_eq_getElem (by omega))]
        exact h2.get (List.getElem?_eq_getElem (by omega)) (List.getElem?_eq_getElem hj) (Nat.lt_succ_self n)
    · unfold apartAt
      rw [List.getElem?_eq_getElem (by omega)]
      have := List.pairwise_iff_getElem.1 h3 i j (by omega) hj hi
      simp [this]
theorem good_nil : Good [] := ⟨by simp, List.Pairwise.nil, List.Pairwise.nil⟩
theorem Good.sub {l k : List It} (h : Good l) (hs : List.Sublist k l) : Good k := ⟨fun x hx => h.1 x (hs.subset hx), h.2.1.sublist hs, h.2.2.sublist hs⟩
theorem IncN.ext : ∀ {s t : List It}, IncN s → IncN t → (∀ d, d ∈ s ↔ d ∈ t) → s = t
  | [], [], _, _, _ => rfl
  | [], y :: t, _, _, h => by have := (h y).2 (by simp); simp at this
  | x :: s, [], _, _, h => by have := (h x).1 (by simp); simp at this
  | x :: s, y :: t, hs, ht, h => by
    have hs' := List.pairwise_cons.1 hs
    have ht' := List.pairwise_cons.1 ht
    have hxy : x = y := by
      have h1 := (h x).1 (by simp)
      have h2 := (h y).2 (by simp)
      rcases List.mem_cons.1 h1 with e | h1
      · exact e
      · rcases List.mem_cons.1 h2 with e | h2
        · exact e.symm
        · have a := beforeN_trans (ht'.1 x h1) (hs'.1 y h2)
          rw [beforeN_irrefl] at a; cases a
    subst hxy
    have : s = t := IncN.ext hs'.2 ht'.2 fun d => by
      have hd := h d
      simp only [List.mem_cons] at hd
      constructor
      · intro hm
        rcases hd.1 (.inr hm) with e | h'
        · subst e; have := hs'.1 d hm; rw [beforeN_irrefl] at this; cases this
        · exact h'
      · intro hm
        rcases hd.2 (.inr hm) with e | h'
        · subst e; have := ht'.1 d hm; rw [beforeN_irrefl] at this; cases this
        · exact h'
    rw [this]
theorem IncN.name {l : List It} (h : IncN l) {x y : It} (hx : x ∈ l) (hy : y ∈ l) (he : x.1 = y.1) : x = y := by
  obtain ⟨i, hi⟩ := List.mem_iff_getElem?.1 hx
  obtain ⟨j, hj⟩ := List.mem_iff_getElem?.1 hy
  rcases Nat.lt_trichotomy i j with k | k | k
  · have := h.get hi hj k; rw [he, beforeN_irrefl] at this; cases this
  · subst k; rw [hi] at hj; cases hj; rfl
  · have := h.get hj hi k; rw [he, beforeN_irrefl] at this; cases this

/-- Items without the one with a name; with one more. -/
def remN (l : List It) (nm : List UInt8) : List It := l.filter fun x => !(x.1 == nm)
def insN (l : List It) (x : It) : List It := l.takeWhile (fun y => beforeN y.1 x.1) ++ x :: l.dropWhile (fun y => beforeN y.1 x.1)
theorem mem_insN {l : List It} {x y : It} : y ∈ insN l x ↔ y ∈ l ∨ y = x := by
  unfold insN
  have h : y ∈ l ↔ y ∈ l.takeWhile (fun y => beforeN y.1 x.1) ∨ y ∈ l.dropWhile (fun y => beforeN y.1 x.1) := by
    conv => lhs; rw [← List.takeWhile_append_dropWhile (p := fun y => beforeN y.1 x.1) (l := l)]
    exact List.mem_append
  rw [List.mem_append, List.mem_cons, h]
  constructor
  · rintro (h | h | h)
    · exact .inl (.inl h)
    · exact .inr h
    · exact .inl (.inr h)
  · rintro ((h | h) | h)
    · exact .inl h
    · exact .inr (.inr h)
    · exact .inr (.inl h)
theorem tw_all {α : Type} {p : α → Bool} : ∀ {l : List α} {x : α}, x ∈ l.takeWhile p → p x = true
  | [], x, h => by simp at h
  | a :: r, x, h => by
    rw [List.takeWhile_cons] at h
    by_cases ha : p a = true
    · rw [if_pos ha] at h
      rcases List.mem_cons.1 h with e | h
      · subst e; exact ha
      · exact tw_all h
    · rw [if_neg ha] at h; simp at h
theorem IncN.dw : ∀ {l : List It} (_ : IncN l) {nm : List UInt8} {z : It}, z ∈ l.dropWhile (fun y => beforeN y.1 nm) → beforeN z.1 nm = false
  | [], _, _, z, h => by simp at h
  | a :: r, hl, nm, z, h => by
    rw [List.dropWhile_cons] at h
    have hl' := List.pairwise_cons.1 hl
    by_cases ha : beforeN a.1 nm = true
    · rw [if_pos ha] at h
      exact IncN.dw hl'.2 h
    · rw [if_neg ha] at h
      rcases List.mem_cons.1 h with e | h
      · subst e; simpa using ha
      · cases hz : beforeN z.1 nm with
        | false => rfl
        | true => exact absurd (beforeN_trans (hl'.1 z h) hz) ha
theorem IncN.ins {l : List It} {x : It} (h : IncN l) (hn : ∀ y ∈ l, y.1 ≠ x.1) : IncN (insN l x) := by
  unfold insN
  have hd : ∀ z ∈ l.dropWhile (fun y => beforeN y.1 x.1), beforeN x.1 z.1 = true := fun z hz => by
    cases hb : beforeN x.1 z.1 with
    | true => rfl
    | false => exact absurd (beforeN_total (h.dw hz) hb) (hn z (List.dropWhile_subset _ hz))
  have ht : ∀ z ∈ l.takeWhile (fun y => beforeN y.1 x.1), beforeN z.1 x.1 = true := fun z hz => tw_all (p := fun y : It => beforeN y.1 x.1) hz
  refine List.pairwise_append.2 ⟨h.sublist (List.takeWhile_sublist _), List.pairwise_cons.2 ⟨hd, h.sublist (List.dropWhile_sublist _)⟩, fun a ha b hb => ?_⟩
  rcases List.mem_cons.1 hb with e | hb
  · subst e; exact ht a ha
  · exact beforeN_trans (ht a ha) (hd b hb)
theorem meetN_comm (a b : List Mk) : meetN a b = meetN b a := by
  rw [Bool.eq_iff_iff]
  simp only [meetN, hasD, List.any_eq_true, decide_eq_true_eq]
  constructor
  · rintro ⟨m, hm, k, hk, h1, h2⟩; exact ⟨k, hk, m, hm, h1.symm, h2.symm⟩
  · rintro ⟨m, hm, k, hk, h1, h2⟩; exact ⟨k, hk, m, hm, h1.symm, h2.symm⟩
theorem Good.apart {l : List It} (h : Good l) {x y : It} (hx : x ∈ l) (hy : y ∈ l) (hn : x.1 ≠ y.1) : meetN x.2 y.2 = false := by
  obtain ⟨i, hi⟩ := List.mem_iff_getElem?.1 hx
  obtain ⟨j, hj⟩ := List.mem_iff_getElem?.1 hy
  obtain ⟨hil, rfl⟩ := List.getElem?_eq_some_iff.1 hi
  obtain ⟨hjl, rfl⟩ := List.getElem?_eq_some_iff.1 hj
  rcases Nat.lt_trichotomy i j with k | k | k
  · exact List.pairwise_iff_getElem.1 h.2.2 i j hil hjl k
  · subst k; exact absurd rfl hn
  · rw [meetN_comm]; exact List.pairwise_iff_getElem.1 h.2.2 j i hjl hil k
/-- Good items: all are right, names increase, any two with other names lie apart. -/
theorem Good.of {l : List It} (h1 : ∀ x ∈ l, okI x = true) (h2 : IncN l) (h3 : ∀ x ∈ l, ∀ y ∈ l, x.1 ≠ y.1 → meetN x.2 y.2 = false) : Good l := by
  refine ⟨h1, h2, List.pairwise_iff_getElem.2 fun i j hi hj hij => h3 _ (List.getElem_mem hi) _ (List.getElem_mem hj) fun e => ?_⟩
  have := List.pairwise_iff_getElem.1 h2 i j hi hj hij
  rw [e, beforeN_irrefl] at this; cases this
theorem Good.rem {l : List It} (h : Good l) (nm : List UInt8) : Good (remN l nm) := h.sub List.filter_sublist
theorem Good.ins {l : List It} {x : It} (h : Good l) (hx : okI x = true) (hn : ∀ y ∈ l, y.1 ≠ x.1) (hm : (l.any fun y => meetN y.2 x.2) = false) : Good (insN l x) := by
  have hm' : ∀ y ∈ l, meetN y.2 x.2 = false := fun y hy => by
    rw [List.any_eq_false] at hm
    simpa using hm y hy
  refine Good.of (fun y hy => ?_) (h.2.1.ins hn) fun y hy z hz hne => ?_
  · rcases mem_insN.1 hy with k | k
    · exact h.1 y k
    · subst k; exact hx
  · rcases mem_insN.1 hy with k | k <;> rcases mem_insN.1 hz with k' | k'
    · exact h.apart k k' hne
    · subst k'; exact hm' y k
    · subst k; rw [meetN_comm]; exact hm' z k'
    · subst k k'; exact absurd rfl hne
/-- All dots. -/
def allD (l : List It) : List (Int × Int) := l.flatMap fun x => dotsM x.2
theorem setL_join (a b : List (Int × Int)) : setL (setL a ++ b) = setL (a ++ b) := setL_congr fun d => by
  rw [List.mem_append, List.mem_append, mem_setL]
theorem dotsI_all (l : List It) : dotsI l = setL (allD l) := by
  have h : ∀ (l : List It) (s : List (Int × Int)), l.foldl (fun s x => setL (s ++ dotsM x.2)) (setL s) = setL (s ++ allD l) := fun l => by
    induction l with
    | nil => intro s; simp [allD]
    | cons x r ih =>
      intro s
      rw [List.foldl_cons, setL_join, ih]
      simp [allD, List.append_assoc]
  have := h l []
  rwa [List.nil_append, show setL ([] : List (Int × Int)) = [] from rfl] at this
theorem mem_dotsM {ms : List Mk} {r c : Int} : (r, c) ∈ dotsM ms ↔ hasD ms r c = true := by
  simp only [dotsM, hasD, List.mem_map, List.any_eq_true, decide_eq_true_eq, Prod.mk.injEq]
theorem insD_size (s : List (Int × Int)) (d : Int × Int) : (insD s d).length = if d ∈ s then s.length else s.length + 1 := by
  unfold insD
  by_cases h : d ∈ s
  · rw [if_pos h, if_pos h]
  · rw [if_neg h, if_neg h]
    have := congrArg List.length (List.takeWhile_append_dropWhile (p := fun y => ltD y d) (l := s))
    rw [List.length_append] at this
    rw [List.length_append, List.length_cons]; omega
theorem fold_size : ∀ (l s : List (Int × Int)), (l.foldl insD s).length = s.length + l.length ↔ l.Nodup ∧ ∀ d ∈ l, d ∉ s
  | [], s => by simp
  | d :: r, s => by
    have ih := fold_size r (insD s d)
    have hle := foldl_ins_len r (insD s d)
    have hz := insD_size s d
    rw [List.foldl_cons, List.length_cons, List.nodup_cons]
    by_cases h : d ∈ s
    · rw [if_pos h] at hz
      constructor
      · intro e; omega
      · rintro ⟨_, k⟩; exact absurd h (k d (by simp))
    · rw [if_neg h] at hz
      rw [hz] at ih
      rw [show s.length + (r.length + 1) = s.length + 1 + r.length by omega, ih]
      constructor
      · rintro ⟨k1, k2⟩
        have hdr : d ∉ r := fun e => (k2 d e) ((mem_insD s d d).2 (.inr rfl))
        refine ⟨⟨hdr, k1⟩, fun e he => ?_⟩
        rcases List.mem_cons.1 he with e' | he
        · subst e'; exact h
        · exact fun hs => k2 e he ((mem_insD s d e).2 (.inl hs))
      · rintro ⟨⟨k1, k2⟩, k3⟩
        refine ⟨k2, fun e he hs => ?_⟩
        rcases (mem_insD s d e).1 hs with h' | h'
        · exact k3 e (List.mem_cons_of_mem _ he) h'
        · subst h'; exact k1 he
theorem setL_size (l : List (Int × Int)) : (setL l).length = l.length ↔ l.Nodup := by
  have := fold_size l []
  rw [List.length_nil, Nat.zero_add] at this
  unfold setL
  rw [this]; simp
theorem okI_parts {x : It} (h : okI x = true) : itemN x.1 = true ∧ 0 < x.2.length ∧ x.2.all validM = true ∧ Inc (dotsM x.2) := by
  unfold okI at h
  simp only [Bool.and_eq_true, decide_eq_true_eq, isSetB_inc] at h
  exact ⟨h.1, h.2.1, h.2.2.1, h.2.2.2⟩
theorem meet_no {a b : List Mk} : meetN a b = false ↔ ∀ d ∈ dotsM a, ∀ e ∈ dotsM b, d ≠ e := by
  constructor
  · rintro h ⟨r, c⟩ hd e he rfl
    obtain ⟨m, hm, k⟩ := List.mem_map.1 hd
    simp only [meetN, List.any_eq_false] at h
    have := h m hm
    rw [mem_dotsM] at he
    injection k with k1 k2
    rw [k1, k2, he] at this
    simp at this
  · intro h
    simp only [meetN, List.any_eq_false]
    intro m hm hk
    exact h (m.r, m.c) (List.mem_map.2 ⟨m, hm, rfl⟩) (m.r, m.c) (mem_dotsM.2 hk) rfl
/-- How many marks all items have. -/
def cntM (l : List It) : Nat := (l.map fun x => x.2.length).sum
theorem allD_len (l : List It) : (allD l).length = cntM l := by
  unfold allD cntM
  rw [List.length_flatMap]
  congr 1
  exact List.map_congr_left fun x _ => dotsM_len x.2
theorem cntM_snoc (l : List It) (x : It) : cntM (l ++ [x]) = cntM l + x.2.length := by simp [cntM]
theorem good_count {l : List It} (h1 : ∀ x ∈ l, okI x = true) (h2 : IncN l) : (dotsI l).length = cntM l ↔ Good l := by
  rw [dotsI_all, ← allD_len, setL_size]
  unfold allD List.Nodup
  rw [List.pairwise_flatMap]
  constructor
  · rintro ⟨_, h⟩
    exact ⟨h1, h2, h.imp fun {a b} k => meet_no.2 k⟩
  · rintro ⟨_, _, h⟩
    exact ⟨fun x hx => inc_nodup (okI_parts (h1 x hx)).2.2.2, h.imp fun {a b} k => meet_no.1 k⟩
end

section
open Go.RowKit

end

section
open Go.RowKit

/-- A cart: the vector and the cloud of its context, its items. -/
abbrev Ca := (List (Int × Int) × List (Int × Int)) × List It
/-- A cart where it lies. -/
structure CaV where
  V : Option Addr
  nv : Nat
  vs : List (Int × Int)
  L : Option Addr
  nl : Nat
  ls : List (Int × Int)
  I : Option Addr
  ni : Nat
  xs : List ItV
def CaV.ca (c : CaV) : Ca := ((c.vs, c.ls), its c.xs)
/-- Its three slices. -/
abbrev CaV.v (c : CaV) : Value := .slice c.V c.vs.length c.nv
abbrev CaV.l (c : CaV) : Value := .slice c.L c.ls.length c.nl
abbrev CaV.i (c : CaV) : Value := .slice c.I c.xs.length c.ni
/-- A cart as a value: one flat row of three cells. -/
abbrev mkC (c : CaV) : Value := .agg #[c.v, c.l, c.i]
def CaOK (W : World) (c : CaV) : Prop := Holds W c.v c.vs ∧ Holds W c.l c.ls ∧ HoldsX W c.i c.xs
theorem CaOK.below {W W' : World} {c : CaV} (h : CaOK W c) (hb : Below W.heap.size W W') : CaOK W' c := ⟨h.1.below hb, h.2.1.below hb, h.2.2.below hb⟩
theorem CaOK.ctx {W : World} {c : CaV} (h : CaOK W c) : HoldsC W (.agg #[c.v, c.l]) c.vs c.ls := HoldsC.mk h.1 h.2.1
/-- A block that holds a cart. -/
def BlkC (W : World) (g : Nat) (c : CaV) : Prop := W.heap[g]? = some (.cells #[c.v, c.l, c.i] 28 (0, 0))
section
variable {W W' : World} {g : Nat} {c : CaV}
theorem BlkC.lt (h : BlkC W g c) : g < W.heap.size := (Array.getElem?_eq_some_iff.1 h).1
theorem BlkC.cell0 (h : BlkC W g c) : W.cell? ⟨g, 0, none⟩ = some c.v := by simp [World.cell?, show W.heap[g]? = _ from h]
theorem BlkC.cell1 (h : BlkC W g c) : W.cell? ⟨g, 1, none⟩ = some c.l := by simp [World.cell?, show W.heap[g]? = _ from h]
theorem BlkC.cell2 (h : BlkC W g c) : W.cell? ⟨g, 2, none⟩ = some c.i := by simp [World.cell?, show W.heap[g]? = _ from h]
theorem BlkC.frozen (h : BlkC W g c) (k : Nat) : W.frozen? ⟨g, k, none⟩ = false := by simp [World.frozen?, show W.heap[g]? = _ from h]
theorem BlkC.below (h : BlkC W g c) (hb : Below W.heap.size W W') : BlkC W' g c := (hb.block g h.lt).trans h
theorem BlkC.new (W : World) (c : CaV) : BlkC (W.alloc (.cells #[c.v, c.l, c.i] 28)) W.heap.size c := heap_alloc_new W _
end
/-- Carts in boxes, and nothing old has changed. -/
structure KK (w : World) (L : List (Nat × CaV)) (W : World) : Prop where
  box : ∀ p ∈ L, BlkC W p.1 p.2 ∧ CaOK W p.2
  bel : Below w.heap.size w W
section
variable {w W W' : World} {L : List (Nat × CaV)}
theorem KK.next (h : KK w L W) (hb : Below W.heap.size W W') : KK w L W' := ⟨fun p hp => ⟨(h.box p hp).1.below hb, (h.box p hp).2.below hb⟩, below_trans h.bel hb⟩
theorem KK.drew (h : KK w L W) : KK w L W.drew := h.next (Below.refl _ _).drew
theorem KK.far (h : KK w L W) (p : FarBy) : KK w L (Go.Proofs.YtiaehpdgpjhecaaGreat.far W p) := h.next (below_far W p)
theorem KK.alloc (h : KK w L W) (o : Obj) : KK w L (W.alloc o) := h.next ((Below.refl _ _).alloc (Nat.le_refl _) _)
theorem KK.blk (h : KK w L W) {g : Nat} {c : CaV} (hm : (g, c) ∈ L) : BlkC W g c := (h.box _ hm).1
theorem KK.ok (h : KK w L W) {g : Nat} {c : CaV} (hm : (g, c) ∈ L) : CaOK W c := (h.box _ hm).2
theorem KK.push (h : KK w L W) (c : CaV) (ho : CaOK W c) (n : Nat) (hn : W.heap.size = n) : KK w (L ++ [(n, c)]) (W.alloc (.cells #[c.v, c.l, c.i] 28)) := by
  subst hn
  have hb := (Below.refl W.heap.size W).alloc (Nat.le_refl _) (.cells #[c.v, c.l, c.i] 28)
  refine ⟨fun p hp => ?_, (h.next hb).bel⟩
  rcases List.mem_append.1 hp with k | k
  · exact (h.next hb).box p k
  · obtain rfl : p = (W.heap.size, c) := by simpa using k
    exact ⟨BlkC.new W c, ho.below hb⟩
theorem KK.new (w : World) (c : CaV) (ho : CaOK w c) : KK w [(w.heap.size, c)] (w.alloc (.cells #[c.v, c.l, c.i] 28)) :=
  KK.push (L := []) ⟨fun p hp => (by cases hp), Below.refl _ _⟩ c ho w.heap.size rfl
theorem KK.sp {g : Nat} {c : CaV} (h : KK w [(g, c)] W) : W.cell? ⟨g, 0, none⟩ = some c.v ∧ W.cell? ⟨g, 1, none⟩ = some c.l ∧ W.cell? ⟨g, 2, none⟩ = some c.i ∧ g < W.heap.size ∧ KK w [(g, c)] W :=
  ⟨(h.blk (by simp)).cell0, (h.blk (by simp)).cell1, (h.blk (by simp)).cell2, (h.blk (c := c) (by simp)).lt, h⟩
theorem KK.sp2 {g g' : Nat} {c d : CaV} (h : KK w [(g, c), (g', d)] W) : W.cell? ⟨g, 0, none⟩ = some c.v ∧ W.cell? ⟨g, 1, none⟩ = some c.l ∧ W.cell? ⟨g, 2, none⟩ = some c.i ∧ W.cell? ⟨g', 0, none⟩ = some d.v ∧ W.cell? ⟨g', 1, none⟩ = some d.l ∧ W.cell? ⟨g', 2, none⟩ = some d.i ∧ g < W.heap.size ∧ g' < W.heap.size ∧ KK w [(g, c), (g', d)] W :=
  ⟨(h.blk (c := c) (by simp)).cell0, (h.blk (c := c) (by simp)).cell1, (h.blk (c := c) (by simp)).cell2, (h.blk (c := d) (by simp)).cell0, (h.blk (c := d) (by simp)).cell1, (h.blk (c := d) (by simp)).cell2, (h.blk (c := c) (by simp)).lt, (h.blk (c := d) (by simp)).lt, h⟩
end

/-- Which carts are valid. -/
def validK (c : Ca) : Bool := compC c.1.1 c.1.2 && (validL c.2 && (missC c.1.1 c.1.2 (dotsI c.2)).isEmpty)

theorem refEqual_x (v u : Value) (xs ys : List ItV) (b : Bool) (w : World) (h : HoldsX w v xs) (k : HoldsX w u ys) (hm : xs.length ≤ 100000) (hm' : ys.length ≤ 100000) (hb : decide (its xs = its ys) = b) :
    Calls Tryz.prog 48 #[v, u] w (OneB (.bool b) w) := by
  obtain ⟨A, c, rfl, h1, _⟩ := h
  obtain ⟨A', c', rfl, h2, _⟩ := k
  subst hb
  exact refEqual9 A A' xs ys c c' w h1 h2 hm hm'
/-- When two carts are equal. -/
def sameC (c d : Ca) : Bool := (decide (c.1.1 = d.1.1) && decide (c.1.2 = d.1.2)) && decide (c.2 = d.2)
theorem sameC_iff {c d : Ca} : sameC c d = true ↔ c = d := by
  obtain ⟨⟨a, b⟩, e⟩ := c
  obtain ⟨⟨a', b'⟩, e'⟩ := d
  simp [sameC]

set_option maxHeartbeats 1000000 in
theorem refEqual10 (c d : CaV) (b : Bool) (w : World) (hc : CaOK w c) (hd : CaOK w d) (hm : c.xs.length ≤ 100000) (hm' : d.xs.length ≤ 100000) (hb : sameC c.ca d.ca = b) :
    Calls Tryz.prog 15 #[mkC c, mkC d] w (OneB (.bool b) w) := by
  have h1 := (Below.refl w.heap.size w).alloc (Nat.le_refl _) (.cells #[c.v, c.l, c.i] 28)
  have K0 := Lib.hid (KK.push (L := [(w.heap.size, c)]) (KK.new w c hc) d (hd.below h1) (w.heap.size + 1) (by simp))
  obtain ⟨p, hp⟩ : ∃ p, (decide (c.vs = d.vs) && decide (c.ls = d.ls)) = p := ⟨_, rfl⟩
  obtain ⟨q, hq⟩ : ∃ q, decide (its c.xs = its d.xs) = q := ⟨_, rfl⟩
  have HP := Lib.hid hp
  have HQ := Lib.hid hq
  have HE := Lib.hid (show (p && q) = b from by rw [← hp, ← hq, ← hb]; rfl)
  clear hp hq hb h1 hc hd
  go_enter Tryz.func15, Tryz.ntmps15
  go_wp2_with fail
  generalize World.alloc (World.alloc w _) _ = w2 at K0 ⊢
  obtain ⟨x0, x1, x2, y0, y1, y2, xl, yl, _⟩ := K0.out.sp2
  go_wp2_with fail
  refine (ref3Equal _ _ c.vs c.ls d.vs d.ls p w2 (K0.out.ok (g := w.heap.size) (by simp)).ctx (K0.out.ok (g := w.heap.size + 1) (by simp)).ctx HP.out).mono ?_
  rintro e w3 ⟨rfl, hb⟩
  have K1 := Lib.hid (K0.out.next hb)
  clear hb K0 x0 x1 x2 y0 y1 y2 xl yl
  obtain ⟨x0, x1, x2, y0, y1, y2, xl, yl, _⟩ := K1.out.sp2
  cases p with
  | false =>
    go_wp2_with fail
    go_ret
    exact OneB.bool (by rw [← HE.out]; rfl) K1.out.bel
  | true =>
    go_wp2_with fail
    refine (refEqual_x _ _ c.xs d.xs q w3 (K1.out.ok (g := w.heap.size) (by simp)).2.2 (K1.out.ok (g := w.heap.size + 1) (by simp)).2.2 hm hm' HQ.out).mono ?_
    rintro e w4 ⟨rfl, hb⟩
    have K2 := Lib.hid (K1.out.next hb).bel
    clear hb K1 x0 x1 x2 y0 y1 y2 xl yl
    go_wp2_with fail
    go_ret
    exact OneB.bool (by rw [← HE.out]; rfl) K2.out

end

section
open Go.RowKit

/-- Two lists in a strict order with the same elements are the same. -/
theorem strict_ext {α : Type} {r : α → α → Prop} (irr : ∀ x, ¬ r x x) (tr : ∀ x y z, r x y → r y z → r x z) : ∀ {s t : List α}, s.Pairwise r → t.Pairwise r → (∀ d, d ∈ s ↔ d ∈ t) → s = t
  | [], [], _, _, _ => rfl
  | [], y :: t, _, _, h => by have := (h y).2 (by simp); simp at this
  | x :: s, [], _, _, h => by have := (h x).1 (by simp); simp at this
  | x :: s, y :: t, hs, ht, h => by
    have hs' := List.pairwise_cons.1 hs
    have ht' := List.pairwise_cons.1 ht
    have hxy : x = y := by
      have h1 := (h x).1 (by simp)
      have h2 := (h y).2 (by simp)
      rcases List.mem_cons.1 h1 with e | h1
      · exact e
      · rcases List.mem_cons.1 h2 with e | h2
        · exact e.symm
        · exact absurd (tr _ _ _ (ht'.1 x h1) (hs'.1 y h2)) (irr y)
    subst hxy
    have : s = t := strict_ext irr tr hs'.2 ht'.2 fun d => by
      have hd := h d
      simp only [List.mem_cons] at hd
      constructor
      · intro hm
        rcases hd.1 (.inr hm) with e | h'
        · subst e; exact absurd (hs'.1 d hm) (irr d)
        · exact h'
      · intro hm
        rcases hd.2 (.inr hm) with e | h'
        · subst e; exact absurd (ht'.1 d hm) (irr d)
        · exact h'
    rw [this]

/-- A mark's dot; a mark behind those whose dots are not greater; marks in order. -/
abbrev dotM (m : Mk) : Int × Int := (m.r, m.c)
def insM (l : List Mk) (m : Mk) : List Mk := l.takeWhile (fun y => !ltD (dotM m) (dotM y)) ++ m :: l.dropWhile (fun y => !ltD (dotM m) (dotM y))
def sortM (l : List Mk) : List Mk := l.foldl insM []
theorem insM_perm (l : List Mk) (m : Mk) : (insM l m).Perm (m :: l) := by
  have h := List.takeWhile_append_dropWhile (p := fun y => !ltD (dotM m) (dotM y)) (l := l)
  conv => rhs; rw [← h]
  exact List.perm_middle
theorem fold_insM_perm : ∀ (l s : List Mk), (l.foldl insM s).Perm (s ++ l)
  | [], s => by simp
  | m :: r, s => by
    rw [List.foldl_cons]
    refine (fold_insM_perm r (insM s m)).trans ?_
    refine ((insM_perm s m).append_right r).trans ?_
    exact List.perm_middle.symm
theorem sortM_perm (l : List Mk) : (sortM l).Perm l := by
  have := fold_insM_perm l []
  rwa [List.nil_append] at this
/-- Marks in the order of their dots, equal ones behind each other. -/
def SortW (l : List Mk) : Prop := l.Pairwise fun a b => ltD (dotM b) (dotM a) = false
theorem ltD_asymm {x y : Int × Int} (h : ltD x y = true) : ltD y x = false := by
  cases k : ltD y x with
  | false => rfl
  | true => have := ltD_trans h k; rw [ltD_irrefl] at this; cases this
theorem ltD_ntrans {x y z : Int × Int} (h1 : ltD y x = false) (h2 : ltD z y = false) : ltD z x = false := by
  cases k : ltD z x with
  | false => rfl
  | true =>
    rcases ltD_tri y x with e | e | e
    · rw [e] at h1; cases h1
    · subst e; rw [k] at h2; cases h2
    · have := ltD_trans k e; rw [this] at h2; cases h2
theorem SortW.tail {l : List Mk} {m : Mk} (h : SortW l) {z : Mk} (hz : z ∈ l.dropWhile (fun y => !ltD (dotM m) (dotM y))) : ltD (dotM m) (dotM z) = true := by
  induction l with
  | nil => simp at hz
  | cons a r ih =>
    rw [List.dropWhile_cons] at hz
    have h' := List.pairwise_cons.1 h
    by_cases ha : (!ltD (dotM m) (dotM a)) = true
    · rw [if_pos ha] at hz
      exact ih h'.2 hz
    · rw [if_neg ha] at hz
      have ha' : ltD (dotM m) (dotM a) = true := by simpa using ha
      rcases List.mem_cons.1 hz with e | hz
      · subst e; exact ha'
      · cases k : ltD (dotM m) (dotM z) with
        | true => rfl
        | false =>
          have := ltD_ntrans (h'.1 z hz) k
          rw [ha'] at this; cases this
theorem SortW.ins {l : List Mk} (h : SortW l) (m : Mk) : SortW (insM l m) := by
  unfold insM
  have ht : ∀ z ∈ l.takeWhile (fun y => !ltD (dotM m) (dotM y)), ltD (dotM m) (dotM z) = false := fun z hz => by
    have := tw_all (p := fun y => !ltD (dotM m) (dotM y)) hz
    simpa using this
  refine List.pairwise_append.2 ⟨h.sublist (List.takeWhile_sublist _), List.pairwise_cons.2 ⟨fun z hz => ltD_asymm (h.tail hz), h.sublist (List.dropWhile_sublist _)⟩, fun a ha b hb => ?_⟩
  rcases List.mem_cons.1 hb with e | hb
  · subst e; exact ht a ha
  · have h1 := h.tail hb
    cases k : ltD (dotM b) (dotM a) with
    | false => rfl
    | true => have := ltD_trans h1 k; rw [ht a ha] at this; cases this
theorem incM_ext {s t : List Mk} (hs : Inc (dotsM s)) (ht : Inc (dotsM t)) (h : ∀ d, d ∈ s ↔ d ∈ t) : s = t := by
  unfold Inc dotsM at hs ht
  rw [List.pairwise_map] at hs ht
  exact strict_ext (r := fun a b : Mk => ltD (a.r, a.c) (b.r, b.c) = true) (fun x hx => by rw [ltD_irrefl] at hx; cases hx) (fun x y z h1 h2 => ltD_trans h1 h2) hs ht h
theorem meetN_mem {a b a' b' : List Mk} (ha : ∀ m, m ∈ a ↔ m ∈ a') (hb : ∀ m, m ∈ b ↔ m ∈ b') : meetN a b = meetN a' b' := by
  rw [Bool.eq_iff_iff]
  simp only [meetN, hasD, List.any_eq_true, ha, hb]
theorem meetN_sort (a b : List Mk) : meetN (sortM a) (sortM b) = meetN a b := meetN_mem (fun _ => (sortM_perm a).mem_iff) (fun _ => (sortM_perm b).mem_iff)

/-- An item whose marks are put in order; one more item, or none; items put in order. -/
abbrev ordI (x : It) : It := (x.1, sortM x.2)
def stepI (o : Option (List It)) (x : It) : Option (List It) := o.bind fun l => if okI (ordI x) = true ∧ (l.any fun z => z.1 == x.1) = false ∧ (l.any fun z => meetN z.2 (sortM x.2)) = false then some (insN l (ordI x)) else none
def canonI (xs : List It) : Option (List It) := xs.foldl stepI (some [])
/-- Items that are loose. -/
def LooseI (xs : List It) : Prop := (∀ x ∈ xs, okI (ordI x) = true) ∧ xs.Pairwise fun x y => x.1 ≠ y.1 ∧ meetN x.2 y.2 = false
/-- What was put in order so far. -/
structure OrdInv (pre : List It) (l : List It) : Prop where
  loose : LooseI pre
  good : Good l
  mem : ∀ z, z ∈ l ↔ ∃ x ∈ pre, z = ordI x
theorem stepI_none : ∀ xs : List It, xs.foldl stepI none = none
  | [] => rfl
  | _ :: r => stepI_none r
theorem loose_snoc {pre : List It} {x : It} : LooseI (pre ++ [x]) ↔ LooseI pre ∧ okI (ordI x) = true ∧ ∀ y ∈ pre, y.1 ≠ x.1 ∧ meetN y.2 x.2 = false := by
  unfold LooseI
  rw [List.pairwise_append]
  constructor
  · rintro ⟨h1, h2, _, h3⟩
    exact ⟨⟨fun y hy => h1 y (by simp [hy]), h2⟩, h1 x (by simp), fun y hy => h3 y hy x (by simp)⟩
  · rintro ⟨⟨h1, h2⟩, h3, h4⟩
    refine ⟨fun y hy => ?_, h2, List.pairwise_singleton _ _, fun a ha b hb => ?_⟩
    · rcases List.mem_append.1 hy with k | k
      · exact h1 y k
      · obtain rfl : y = x := by simpa using k
        exact h3
    · obtain rfl : b = x := by simpa using hb
      exact h4 a ha
theorem OrdInv.step {pre l : List It} {x : It} (h : OrdInv pre l) : (stepI (some l) x = none ∧ ¬ LooseI (pre ++ [x])) ∨ (stepI (some l) x = some (insN l (ordI x)) ∧ OrdInv (pre ++ [x]) (insN l (ordI x))) := by
  by_cases hc : okI (ordI x) = true ∧ (l.any fun z => z.1 == x.1) = false ∧ (l.any fun z => meetN z.2 (sortM x.2)) = false
  · refine .inr ⟨by unfold stepI; rw [Option.bind_some, if_pos hc], ?_⟩
    obtain ⟨h1, h2, h3⟩ := hc
    rw [List.any_eq_false] at h2
    have hn : ∀ y ∈ l, y.1 ≠ (ordI x).1 := fun y hy e => h2 y hy (by simp [e])
    refine ⟨loose_snoc.2 ⟨h.loose, h1, fun y hy => ?_⟩, h.good.ins h1 hn h3, fun z => ?_⟩
    · have hz := (h.mem (ordI y)).2 ⟨y, hy, rfl⟩
      rw [List.any_eq_false] at h3
      refine ⟨hn (ordI y) hz, ?_⟩
      have := h3 (ordI y) hz
      rw [Bool.not_eq_true, meetN_sort] at this
      exact this
    · rw [mem_insN, h.mem]
      constructor
      · rintro (⟨y, hy, e⟩ | e)
        · exact ⟨y, by simp [hy], e⟩
        · exact ⟨x, by simp, e⟩
      · rintro ⟨y, hy, e⟩
        rcases List.mem_append.1 hy with k | k
        · exact .inl ⟨y, k, e⟩
        · obtain rfl : y = x := by simpa using k
          exact .inr e
  · refine .inl ⟨by unfold stepI; rw [Option.bind_some, if_neg hc], fun hl => hc ?_⟩
    obtain ⟨_, h1, h2⟩ := loose_snoc.1 hl
    refine ⟨h1, ?_, ?_⟩
    · rw [List.any_eq_false]
      intro z hz e
      obtain ⟨y, hy, rfl⟩ := (h.mem z).1 hz
      exact (h2 y hy).1 (by simpa using e)
    · rw [List.any_eq_false]
      intro z hz
      obtain ⟨y, hy, rfl⟩ := (h.mem z).1 hz
      rw [Bool.not_eq_true, meetN_sort]
      exact (h2 y hy).2
theorem loose_left {pre xs : List It} (h : LooseI (pre ++ xs)) : LooseI pre := ⟨fun x hx => h.1 x (by simp [hx]), (List.pairwise_append.1 h.2).1⟩
theorem fold_ord : ∀ (xs : List It) {pre l : List It}, OrdInv pre l → (∃ k, xs.foldl stepI (some l) = some k ∧ OrdInv (pre ++ xs) k) ∨ (xs.foldl stepI (some l) = none ∧ ¬ LooseI (pre ++ xs))
  | [], pre, l, h => .inl ⟨l, rfl, by simpa using h⟩
  | x :: r, pre, l, h => by
    rw [List.foldl_cons]
    rcases h.step (x := x) with ⟨h1, h2⟩ | ⟨h1, h2⟩
    · rw [h1, stepI_none]
      exact .inr ⟨rfl, fun hl => h2 (loose_left (xs := r) (by simpa using hl))⟩
    · rw [h1]
      rcases fold_ord r h2 with ⟨k, e, hk⟩ | ⟨e, hk⟩
      · exact .inl ⟨k, e, by simpa using hk⟩
      · exact .inr ⟨e, fun hl => hk (by simpa using hl)⟩
theorem canonI_cases (xs : List It) : (∃ k, canonI xs = some k ∧ OrdInv xs k) ∨ (canonI xs = none ∧ ¬ LooseI xs) := by
  have h0 : OrdInv [] [] := ⟨⟨fun x hx => (by cases hx), List.Pairwise.nil⟩, good_nil, fun z => ⟨fun hz => (by cases hz), fun ⟨x, hx, _⟩ => (by cases hx)⟩⟩
  simpa [canonI] using fold_ord xs h0
theorem OrdInv.canon {xs k : List It} (h : OrdInv xs k) : canonI xs = some k := by
  rcases canonI_cases xs with ⟨k', e, hk⟩ | ⟨_, hn⟩
  · rw [e]
    congr 1
    exact IncN.ext hk.good.2.1 h.good.2.1 fun d => by rw [hk.mem, h.mem]
  · exact absurd h.loose hn
/-- The same items in another order, their marks in another order. -/
theorem OrdInv.other {xs ys k : List It} (h : OrdInv xs k) (hl : LooseI ys) (hm : ∀ z, (∃ y ∈ ys, z = ordI y) ↔ ∃ x ∈ xs, z = ordI x) : canonI ys = some k :=
  OrdInv.canon ⟨hl, h.good, fun z => by rw [h.mem, hm]⟩

theorem missC_nil {v l m : List (Int × Int)} : (missC v l m).isEmpty = true ↔ ∀ d ∈ m, hasC v l d.1 d.2 = true := by
  rw [List.isEmpty_iff]
  constructor
  · intro h d hd
    cases e : hasC v l d.1 d.2 with
    | true => rfl
    | false =>
      have hm : d ∈ missC v l m := by
        unfold missC
        rw [mem_setL, List.mem_filter]
        exact ⟨hd, by simp [e]⟩
      rw [h] at hm; cases hm
  · intro h
    rw [List.eq_nil_iff_forall_not_mem]
    intro d hd
    unfold missC at hd
    rw [mem_setL, List.mem_filter] at hd
    rw [h d hd.1] at hd
    simp at hd
theorem validK_iff {c : Ca} : validK c = true ↔ compC c.1.1 c.1.2 = true ∧ Good c.2 ∧ ∀ d ∈ dotsI c.2, hasC c.1.1 c.1.2 d.1 d.2 = true := by
  unfold validK
  rw [Bool.and_eq_true, Bool.and_eq_true, missC_nil, validL_good]
end

section
open Go.RowKit

end

section
open Go.RowKit

/-- A cart in its box, and nothing old has changed; it lies where it lay. -/
structure KB1 (w : World) (c : CaV) (W : World) : Prop where
  blk : BlkC W w.heap.size c
  bel : Below w.heap.size w W
  ok0 : CaOK w c
section
variable {w W W' : World} {c : CaV}
theorem KB1.new (w : World) (c : CaV) (ho : CaOK w c) : KB1 w c (w.alloc (.cells #[c.v, c.l, c.i] 28)) := ⟨BlkC.new w c, (Below.refl _ w).alloc (Nat.le_refl _) _, ho⟩
theorem KB1.ok (h : KB1 w c W) : CaOK W c := h.ok0.below h.bel
theorem KB1.next (h : KB1 w c W) (hb : Below W.heap.size W W') : KB1 w c W' := ⟨h.blk.below hb, below_trans h.bel hb, h.ok0⟩
theorem KB1.drew (h : KB1 w c W) : KB1 w c W.drew := h.next (Below.refl _ _).drew
theorem KB1.alloc (h : KB1 w c W) (o : Obj) : KB1 w c (W.alloc o) := h.next ((Below.refl _ _).alloc (Nat.le_refl _) _)
theorem KB1.size (h : KB1 w c W) : w.heap.size + 1 ≤ W.heap.size := h.blk.lt
theorem KB1.grown (h : KB1 w c W) {row : Option Nat} (hg : W.grownBy W' row) (hr : ∀ k, row = some k → w.heap.size + 1 ≤ k) : KB1 w c W' := by
  have hz := h.size
  exact ⟨(hg.block _ h.blk.lt (fun e => by have := hr _ e.symm; omega)).trans h.blk, h.bel.grown hg (by omega) (fun k hk => by have := hr k hk; omega), h.ok0⟩
theorem KB1.sp (h : KB1 w c W) : W.cell? ⟨w.heap.size, 0, none⟩ = some c.v ∧ W.cell? ⟨w.heap.size, 1, none⟩ = some c.l ∧ W.cell? ⟨w.heap.size, 2, none⟩ = some c.i ∧ w.heap.size < W.heap.size ∧ KB1 w c W := ⟨h.blk.cell0, h.blk.cell1, h.blk.cell2, h.blk.lt, h⟩
theorem KB1.items (h : KB1 w c W) : ItemsAt W c.I c.xs := by
  obtain ⟨A, n, e, h1, _⟩ := h.ok.2.2
  injection e with e1 e2 e3
  rw [e1]; exact h1
end

/-- All marks. -/
def marksX (xs : List ItV) : List Mk := xs.flatMap (·.ms)
theorem marksX_step {xs : List ItV} {k : Nat} {x : ItV} (h : xs[k]? = some x) : marksX (xs.take (k + 1)) = marksX (xs.take k) ++ x.ms := by unfold marksX; rw [take_step h]; simp
theorem marksX_len {xs : List ItV} (hf : ∀ x ∈ xs, x.ms.length ≤ 100) : (marksX xs).length ≤ 100 * xs.length := by
  induction xs with
  | nil => simp [marksX]
  | cons x r ih =>
    have h1 := ih fun y hy => hf y (List.mem_cons_of_mem _ hy)
    have h2 := hf x (by simp)
    unfold marksX at h1 ⊢
    rw [List.flatMap_cons, List.length_append, List.length_cons]; omega

end

section
open Go.RowKit

/-- The quantity of an item, or the error. -/
def qtyK (l : List It) (nm : List UInt8) : Int × Nat := match l.find? (fun y => y.1 == nm) with
  | some x => ((newR x.2).1.q, 0)
  | none => (0, 9)

/-- The dots of an item, or of all. -/
def dotsK (l : List It) (nm : List UInt8) : List (Int × Int) := if nm = [] then dotsI l else match l.find? (fun y => y.1 == nm) with
  | some x => dotsM x.2
  | none => []

end

end Go.Proofs.YtiaehpdgpjhecaaGreat
