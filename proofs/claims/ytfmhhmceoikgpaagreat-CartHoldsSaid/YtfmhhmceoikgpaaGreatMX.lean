/- Several texts in one: ItmI, ItmK, ItmL. -/
import Derived.Test.YtfmhhmceoikgpaaGreatMK
import Derived.Test.YtfmhhmceoikgpaaGreatMV
import Derived.Test.YtfmhhmceoikgpaaGreatMP
import Derived.Test.YtfmhhmceoikgpaaGreatME
namespace Go.Proofs.YtfmhhmceoikgpaaGreat

section
open Go.RowKit

theorem own_it {w : World} {base g n cap : Nat} {e : TypeId} {ys : List ItV} (h : w.ownsRow base e 2 (.slice (some ⟨g, 0, none⟩) n cap) n (cellsOf encIt ys)) {j : Nat} {x : ItV} (hj : ys[j]? = some x) :
    w.cell? ⟨g, j * 2, none⟩ = some (.string ⟨x.nm.toArray⟩) ∧ w.cell? ⟨g, j * 2 + 1, none⟩ = some (.slice x.A x.ms.length x.c) ∧ w.frozen? ⟨g, j * 2, none⟩ = false ∧ w.frozen? ⟨g, j * 2 + 1, none⟩ = false := by
  have h0 := h.cells (g := g) rfl (j * 2) _ (cellsOf_at encIt_len ys j x 0 _ hj rfl)
  have h1 := h.cells (g := g) rfl (j * 2 + 1) _ (cellsOf_at encIt_len ys j x 1 _ hj rfl)
  rw [Addr_add] at h0 h1
  exact ⟨by simpa using h0, by simpa using h1, h.frozenAt _, h.frozenAt _⟩
theorem cells_setI (ys : List ItV) (j : Nat) (x : ItV) (hj : j < ys.length) : ((cellsOf encIt ys).set (j * 2) (.string ⟨x.nm.toArray⟩)).set (j * 2 + 1) (.slice x.A x.ms.length x.c) = cellsOf encIt (ys.set j x) := by
  induction ys generalizing j with
  | nil => simp at hj
  | cons y l ih =>
    match j with
    | 0 => simp [cellsOf, encIt]
    | j + 1 =>
      have := ih j (by simpa using hj)
      simp only [cellsOf, List.flatMap_cons, List.set_cons_succ] at this ⊢
      rw [← this]
      rw [List.set_append_right _ _ (by simp [encIt]; omega), List.set_append_right _ _ (by simp [encIt]; omega)]
      simp only [encIt_len]
      rw [show (j + 1) * 2 - 2 = j * 2 by omega, show (j + 1) * 2 + 1 - 2 = j * 2 + 1 by omega]
theorem own_storeI {w : World} {base g n cap : Nat} {e : TypeId} {ys : List ItV} (h : w.ownsRow base e 2 (.slice (some ⟨g, 0, none⟩) n cap) n (cellsOf encIt ys)) {j : Nat} {x : ItV} (hj : j < ys.length) :
    ((w.setCell ⟨g, j * 2, none⟩ (.string ⟨x.nm.toArray⟩)).setCell ⟨g, j * 2 + 1, none⟩ (.slice x.A x.ms.length x.c)).ownsRow base e 2 (.slice (some ⟨g, 0, none⟩) n cap) n (cellsOf encIt (ys.set j x)) ∧
    w.grownBy ((w.setCell ⟨g, j * 2, none⟩ (.string ⟨x.nm.toArray⟩)).setCell ⟨g, j * 2 + 1, none⟩ (.slice x.A x.ms.length x.c)) (some g) := by
  obtain ⟨h1, g1⟩ := h.stored (j * 2) (.string ⟨x.nm.toArray⟩)
  obtain ⟨h2, g2⟩ := h1.stored (j * 2 + 1) (.slice x.A x.ms.length x.c)
  rw [cells_setI ys j x hj] at h2
  exact ⟨h2, ⟨g2.os.trans g1.os, g2.tape.trans g1.tape, g2.output.trans g1.output, Nat.le_trans g1.size g2.size, fun i hi hne => (g2.block i (Nat.lt_of_lt_of_le hi g1.size) hne).trans (g1.block i hi hne)⟩⟩
/-- Items in a row of the call's own, and all that was there as it was. -/
def MineI (w w' : World) (v : Value) (xs : List ItV) : Prop := RowT w' w.heap.size v xs ∧ Below w.heap.size w w'
theorem MineI.holds {w w' : World} {v : Value} {xs : List ItV} (h : MineI w w' v xs) (hk : ∀ x ∈ xs, ItOK w x) : HoldsX w' v xs := HoldsX.of_own h.1 fun x hx => (hk x hx).below h.2

end

section
open Go.RowKit

theorem beforeN_irrefl : ∀ a : List UInt8, beforeN a a = false
  | [] => rfl
  | a :: r => by rw [beforeN, if_pos rfl]; exact beforeN_irrefl r
theorem beforeN_trans : ∀ {a b c : List UInt8}, beforeN a b = true → beforeN b c = true → beforeN a c = true
  | [], [], _, h, _ => by simp [beforeN] at h
  | _ :: _, [], _, h, _ => by simp [beforeN] at h
  | _, _ :: _, [], _, h => by simp [beforeN] at h
  | [], _ :: _, _ :: _, _, _ => rfl
  | a :: r, b :: s, c :: t, h1, h2 => by
    rw [beforeN] at h1 h2 ⊢
    by_cases e1 : a = b
    · rw [if_pos e1] at h1
      subst e1
      by_cases e2 : a = c
      · rw [if_pos e2] at h2 ⊢
        exact beforeN_trans h1 h2
      · rw [if_neg e2] at h2 ⊢
        exact h2
    · rw [if_neg e1] at h1
      have h1' := of_decide_eq_true h1
      by_cases e2 : b = c
      · rw [if_pos e2] at h2
        subst e2
        rw [if_neg e1]; exact h1
      · rw [if_neg e2] at h2
        have h2' := of_decide_eq_true h2
        rw [if_neg (fun e => by subst e; omega)]
        exact decide_eq_true (by omega)
theorem beforeN_total : ∀ {a b : List UInt8}, beforeN a b = false → beforeN b a = false → a = b
  | [], [], _, _ => rfl
  | [], _ :: _, h, _ => by simp [beforeN] at h
  | _ :: _, [], _, h => by simp [beforeN] at h
  | a :: r, b :: s, h1, h2 => by
    rw [beforeN] at h1 h2
    by_cases e : a = b
    · subst e
      rw [if_pos rfl] at h1 h2
      rw [beforeN_total h1 h2]
    · rw [if_neg e] at h1
      rw [if_neg (fun k => e k.symm)] at h2
      have k1 := of_decide_eq_false h1
      have k2 := of_decide_eq_false h2
      exact absurd (UInt8.toNat_inj.1 (by omega)) e

/-- Names strictly increase. -/
def IncN (l : List It) : Prop := l.Pairwise fun x y => beforeN x.1 y.1 = true
/-- Items that are valid, said of all pairs. -/
def Good (l : List It) : Prop := (∀ x ∈ l, okI x = true) ∧ IncN l ∧ l.Pairwise fun x y => meetN x.2 y.2 = false

theorem IncN.of_next : ∀ {l : List It}, (∀ (j : Nat) (x y : It), l[j]? = some x → l[j + 1]? = some y → beforeN x.1 y.1 = true) → IncN l
  | [], _ => List.Pairwise.nil
  | [_], _ => List.pairwise_singleton _ _
  | a :: b :: r, h => by
    have ih : IncN (b :: r) := IncN.of_next fun j x y hx hy => h (j + 1) x y (by simpa using hx) (by simpa using hy)
    have h0 := h 0 a b rfl rfl
    refine List.pairwise_cons.2 ⟨fun z hz => ?_, ih⟩
    rcases List.mem_cons.1 hz with e | hz
    · subst e; exact h0
    · exact beforeN_trans h0 ((List.pairwise_cons.1 ih).1 z hz)
theorem IncN.get {l : List It} (h : IncN l) {i j : Nat} {x y : It} (hi : l[i]? = some x) (hj : l[j]? = some y) (hij : i < j) : beforeN x.1 y.1 = true := by
  obtain ⟨hil, rfl⟩ := List.getElem?_eq_some_iff.1 hi
  obtain ⟨hjl, rfl⟩ := List.getElem?_eq_some_iff.1 hj
  exact List.pairwise_iff_getElem.1 h i j hil hjl hij
theorem validL_good {l : List It} : validL l = true ↔ Good l := by
  rw [validL_iff]
  constructor
  · intro h
    have h' : ∀ (j : Nat) (x : It), l[j]? = some x → okI x = true ∧ behindAt l x j = true ∧ (List.range j).all (apartAt l x) = true := fun j x hx => by
      have := h j (List.getElem?_eq_some_iff.1 hx).1
      unfold okAt at this
      rw [hx] at this
      simpa [Bool.and_eq_true] using this
    refine ⟨fun x hx => ?_, IncN.of_next fun j x y hx hy => ?_, ?_⟩
    · obtain ⟨j, hj⟩ := List.mem_iff_getElem?.1 hx
      exact (h' j x hj).1
    · have := (h' (j + 1) y hy).2.1
      rwa [behindAt_succ rfl hx] at this
    · rw [List.pairwise_iff_getElem]
      intro i j hi hj hij
      have := (h' j l[j] (List.getElem?_eq_getElem hj)).2.2
      rw [List.all_eq_true] at this
      have := this i (List.mem_range.2 hij)
      unfold apartAt at this
      rw [List.getElem?_eq_getElem hi] at this
      simpa using this
  · rintro ⟨h1, h2, h3⟩ j hj
    unfold okAt
    rw [List.getElem?_eq_getElem hj]
    simp only [Bool.and_eq_true, List.all_eq_true, List.mem_range]
    refine ⟨h1 _ (List.getElem_mem hj), ?_, fun i hi => ?_⟩
    · cases j with
      | zero => rfl
      | succ n =>
        rw [behindAt_succ rfl (List.getElem?_eq_getElem (by omega))]
        exact h2.get (List.getElem?_eq_getElem (by omega)) (List.getElem?_eq_getElem hj) (Nat.lt_succ_self n)
    · unfold apartAt
      rw [List.getElem?_eq_getElem (by omega)]
      have := List.pairwise_iff_getElem.1 h3 i j (by omega) hj hi
      simp [this]
theorem good_nil : Good [] := ⟨by simp, List.Pairwise.nil, List.Pairwise.nil⟩
theorem Good.sub {l k : List It} (h : Good l) (hs : List.Sublist k l) : Good k := ⟨fun x hx => h.1 x (hs.subset hx), h.2.1.sublist hs, h.2.2.sublist hs⟩
theorem IncN.ext : ∀ {s t : List It}, IncN s → IncN t → (∀ d, d ∈ s ↔ d ∈ t) → s = t
  | [], [], _, _, _ => rfl
  | [], y :: t, _, _, h => by have := (h y).2 (by simp); simp at this
  | x :: s, [], _, _, h => by have := (h x).1 (by simp); simp at this
  | x :: s, y :: t, hs, ht, h => by
    have hs' := List.pairwise_cons.1 hs
    have ht' := List.pairwise_cons.1 ht
    have hxy : x = y := by
      have h1 := (h x).1 (by simp)
      have h2 := (h y).2 (by simp)
      rcases List.mem_cons.1 h1 with e | h1
      · exact e
      · rcases List.mem_cons.1 h2 with e | h2
        · exact e.symm
        · have a := beforeN_trans (ht'.1 x h1) (hs'.1 y h2)
          rw [beforeN_irrefl] at a; cases a
    subst hxy
    have : s = t := IncN.ext hs'.2 ht'.2 fun d => by
      have hd := h d
      simp only [List.mem_cons] at hd
      constructor
      · intro hm
        rcases hd.1 (.inr hm) with e | h'
        · subst e; have := hs'.1 d hm; rw [beforeN_irrefl] at this; cases this
        · exact h'
      · intro hm
        rcases hd.2 (.inr hm) with e | h'
        · subst e; have := ht'.1 d hm; rw [beforeN_irrefl] at this; cases this
        · exact h'
    rw [this]
theorem IncN.name {l : List It} (h : IncN l) {x y : It} (hx : x ∈ l) (hy : y ∈ l) (he : x.1 = y.1) : x = y := by
  obtain ⟨i, hi⟩ := List.mem_iff_getElem?.1 hx
  obtain ⟨j, hj⟩ := List.mem_iff_getElem?.1 hy
  rcases Nat.lt_trichotomy i j with k | k | k
  · have := h.get hi hj k; rw [he, beforeN_irrefl] at this; cases this
  · subst k; rw [hi] at hj; cases hj; rfl
  · have := h.get hj hi k; rw [he, beforeN_irrefl] at this; cases this

def insN (l : List It) (x : It) : List It := l.takeWhile (fun y => beforeN y.1 x.1) ++ x :: l.dropWhile (fun y => beforeN y.1 x.1)
theorem tw_map {α β : Type} (f : α → β) (p : β → Bool) : ∀ xs : List α, (xs.map f).takeWhile p = (xs.takeWhile fun x => p (f x)).map f ∧ (xs.map f).dropWhile p = (xs.dropWhile fun x => p (f x)).map f
  | [] => ⟨rfl, rfl⟩
  | x :: r => by
    obtain ⟨h1, h2⟩ := tw_map f p r
    simp only [List.map_cons, List.takeWhile_cons, List.dropWhile_cons]
    cases p (f x)
    · exact ⟨rfl, rfl⟩
    · exact ⟨by simp [h1], by simpa using h2⟩
theorem its_insX (xs : List ItV) (x : ItV) : its (insX xs x) = insN (its xs) x.it := by
  unfold insX insN its
  obtain ⟨h1, h2⟩ := tw_map ItV.it (fun y => beforeN y.1 x.it.1) xs
  rw [h1, h2, List.map_append, List.map_cons]; rfl
theorem mem_insN {l : List It} {x y : It} : y ∈ insN l x ↔ y ∈ l ∨ y = x := by
  unfold insN
  have h : y ∈ l ↔ y ∈ l.takeWhile (fun y => beforeN y.1 x.1) ∨ y ∈ l.dropWhile (fun y => beforeN y.1 x.1) := by
    conv => lhs; rw [← List.takeWhile_append_dropWhile (p := fun y => beforeN y.1 x.1) (l := l)]
    exact List.mem_append
  rw [List.mem_append, List.mem_cons, h]
  constructor
  · rintro (h | h | h)
    · exact .inl (.inl h)
    · exact .inr h
    · exact .inl (.inr h)
  · rintro ((h | h) | h)
    · exact .inl h
    · exact .inr (.inr h)
    · exact .inr (.inl h)
theorem tw_all {α : Type} {p : α → Bool} : ∀ {l : List α} {x : α}, x ∈ l.takeWhile p → p x = true
  | [], x, h => by simp at h
  | a :: r, x, h => by
    rw [List.takeWhile_cons] at h
    by_cases ha : p a = true
    · rw [if_pos ha] at h
      rcases List.mem_cons.1 h with e | h
      · subst e; exact ha
      · exact tw_all h
    · rw [if_neg ha] at h; simp at h
theorem IncN.dw : ∀ {l : List It} (_ : IncN l) {nm : List UInt8} {z : It}, z ∈ l.dropWhile (fun y => beforeN y.1 nm) → beforeN z.1 nm = false
  | [], _, _, z, h => by simp at h
  | a :: r, hl, nm, z, h => by
    rw [List.dropWhile_cons] at h
    have hl' := List.pairwise_cons.1 hl
    by_cases ha : beforeN a.1 nm = true
    · rw [if_pos ha] at h
      exact IncN.dw hl'.2 h
    · rw [if_neg ha] at h
      rcases List.mem_cons.1 h with e | h
      · subst e; simpa using ha
      · cases hz : beforeN z.1 nm with
        | false => rfl
        | true => exact absurd (beforeN_trans (hl'.1 z h) hz) ha
theorem IncN.ins {l : List It} {x : It} (h : IncN l) (hn : ∀ y ∈ l, y.1 ≠ x.1) : IncN (insN l x) := by
  unfold insN
  have hd : ∀ z ∈ l.dropWhile (fun y => beforeN y.1 x.1), beforeN x.1 z.1 = true := fun z hz => by
    cases hb : beforeN x.1 z.1 with
    | true => rfl
    | false => exact absurd (beforeN_total (h.dw hz) hb) (hn z (List.dropWhile_subset _ hz))
  have ht : ∀ z ∈ l.takeWhile (fun y => beforeN y.1 x.1), beforeN z.1 x.1 = true := fun z hz => tw_all (p := fun y : It => beforeN y.1 x.1) hz
  refine List.pairwise_append.2 ⟨h.sublist (List.takeWhile_sublist _), List.pairwise_cons.2 ⟨hd, h.sublist (List.dropWhile_sublist _)⟩, fun a ha b hb => ?_⟩
  rcases List.mem_cons.1 hb with e | hb
  · subst e; exact ht a ha
  · exact beforeN_trans (ht a ha) (hd b hb)
theorem meetN_comm (a b : List Mk) : meetN a b = meetN b a := by
  rw [Bool.eq_iff_iff]
  simp only [meetN, hasD, List.any_eq_true, decide_eq_true_eq]
  constructor
  · rintro ⟨m, hm, k, hk, h1, h2⟩; exact ⟨k, hk, m, hm, h1.symm, h2.symm⟩
  · rintro ⟨m, hm, k, hk, h1, h2⟩; exact ⟨k, hk, m, hm, h1.symm, h2.symm⟩
theorem Good.apart {l : List It} (h : Good l) {x y : It} (hx : x ∈ l) (hy : y ∈ l) (hn : x.1 ≠ y.1) : meetN x.2 y.2 = false := by
  obtain ⟨i, hi⟩ := List.mem_iff_getElem?.1 hx
  obtain ⟨j, hj⟩ := List.mem_iff_getElem?.1 hy
  obtain ⟨hil, rfl⟩ := List.getElem?_eq_some_iff.1 hi
  obtain ⟨hjl, rfl⟩ := List.getElem?_eq_some_iff.1 hj
  rcases Nat.lt_trichotomy i j with k | k | k
  · exact List.pairwise_iff_getElem.1 h.2.2 i j hil hjl k
  · subst k; exact absurd rfl hn
  · rw [meetN_comm]; exact List.pairwise_iff_getElem.1 h.2.2 j i hjl hil k
/-- Good items: all are right, names increase, any two with other names lie apart. -/
theorem Good.of {l : List It} (h1 : ∀ x ∈ l, okI x = true) (h2 : IncN l) (h3 : ∀ x ∈ l, ∀ y ∈ l, x.1 ≠ y.1 → meetN x.2 y.2 = false) : Good l := by
  refine ⟨h1, h2, List.pairwise_iff_getElem.2 fun i j hi hj hij => h3 _ (List.getElem_mem hi) _ (List.getElem_mem hj) fun e => ?_⟩
  have := List.pairwise_iff_getElem.1 h2 i j hi hj hij
  rw [e, beforeN_irrefl] at this; cases this
theorem Good.ins {l : List It} {x : It} (h : Good l) (hx : okI x = true) (hn : ∀ y ∈ l, y.1 ≠ x.1) (hm : (l.any fun y => meetN y.2 x.2) = false) : Good (insN l x) := by
  have hm' : ∀ y ∈ l, meetN y.2 x.2 = false := fun y hy => by
    rw [List.any_eq_false] at hm
    simpa using hm y hy
  refine Good.of (fun y hy => ?_) (h.2.1.ins hn) fun y hy z hz hne => ?_
  · rcases mem_insN.1 hy with k | k
    · exact h.1 y k
    · subst k; exact hx
  · rcases mem_insN.1 hy with k | k <;> rcases mem_insN.1 hz with k' | k'
    · exact h.apart k k' hne
    · subst k'; exact hm' y k
    · subst k; rw [meetN_comm]; exact hm' z k'
    · subst k k'; exact absurd rfl hne
/-- All dots. -/
def allD (l : List It) : List (Int × Int) := l.flatMap fun x => dotsM x.2
theorem setL_join (a b : List (Int × Int)) : setL (setL a ++ b) = setL (a ++ b) := setL_congr fun d => by
  rw [List.mem_append, List.mem_append, mem_setL]
theorem dotsI_all (l : List It) : dotsI l = setL (allD l) := by
  have h : ∀ (l : List It) (s : List (Int × Int)), l.foldl (fun s x => setL (s ++ dotsM x.2)) (setL s) = setL (s ++ allD l) := fun l => by
    induction l with
    | nil => intro s; simp [allD]
    | cons x r ih =>
      intro s
      rw [List.foldl_cons, setL_join, ih]
      simp [allD, List.append_assoc]
  have := h l []
  rwa [List.nil_append, show setL ([] : List (Int × Int)) = [] from rfl] at this
theorem mem_dotsM {ms : List Mk} {r c : Int} : (r, c) ∈ dotsM ms ↔ hasD ms r c = true := by
  simp only [dotsM, hasD, List.mem_map, List.any_eq_true, decide_eq_true_eq, Prod.mk.injEq]
theorem hasD_mem {ms : List Mk} {r c : Int} : decide ((r, c) ∈ dotsM ms) = hasD ms r c := by
  rw [Bool.eq_iff_iff, decide_eq_true_iff]; exact mem_dotsM
theorem insD_size (s : List (Int × Int)) (d : Int × Int) : (insD s d).length = if d ∈ s then s.length else s.length + 1 := by
  unfold insD
  by_cases h : d ∈ s
  · rw [if_pos h, if_pos h]
  · rw [if_neg h, if_neg h]
    have := congrArg List.length (List.takeWhile_append_dropWhile (p := fun y => ltD y d) (l := s))
    rw [List.length_append] at this
    rw [List.length_append, List.length_cons]; omega
theorem fold_size : ∀ (l s : List (Int × Int)), (l.foldl insD s).length = s.length + l.length ↔ l.Nodup ∧ ∀ d ∈ l, d ∉ s
  | [], s => by simp
  | d :: r, s => by
    have ih := fold_size r (insD s d)
    have hle := foldl_ins_len r (insD s d)
    have hz := insD_size s d
    rw [List.foldl_cons, List.length_cons, List.nodup_cons]
    by_cases h : d ∈ s
    · rw [if_pos h] at hz
      constructor
      · intro e; omega
      · rintro ⟨_, k⟩; exact absurd h (k d (by simp))
    · rw [if_neg h] at hz
      rw [hz] at ih
      rw [show s.length + (r.length + 1) = s.length + 1 + r.length by omega, ih]
      constructor
      · rintro ⟨k1, k2⟩
        have hdr : d ∉ r := fun e => (k2 d e) ((mem_insD s d d).2 (.inr rfl))
        refine ⟨⟨hdr, k1⟩, fun e he => ?_⟩
        rcases List.mem_cons.1 he with e' | he
        · subst e'; exact h
        · exact fun hs => k2 e he ((mem_insD s d e).2 (.inl hs))
      · rintro ⟨⟨k1, k2⟩, k3⟩
        refine ⟨k2, fun e he hs => ?_⟩
        rcases (mem_insD s d e).1 hs with h' | h'
        · exact k3 e (List.mem_cons_of_mem _ he) h'
        · subst h'; exact k1 he
theorem setL_size (l : List (Int × Int)) : (setL l).length = l.length ↔ l.Nodup := by
  have := fold_size l []
  rw [List.length_nil, Nat.zero_add] at this
  unfold setL
  rw [this]; simp
theorem okI_parts {x : It} (h : okI x = true) : itemN x.1 = true ∧ 0 < x.2.length ∧ x.2.all validM = true ∧ Inc (dotsM x.2) := by
  unfold okI at h
  simp only [Bool.and_eq_true, decide_eq_true_eq, isSetB_inc] at h
  exact ⟨h.1, h.2.1, h.2.2.1, h.2.2.2⟩
theorem meet_no {a b : List Mk} : meetN a b = false ↔ ∀ d ∈ dotsM a, ∀ e ∈ dotsM b, d ≠ e := by
  constructor
  · rintro h ⟨r, c⟩ hd e he rfl
    obtain ⟨m, hm, k⟩ := List.mem_map.1 hd
    simp only [meetN, List.any_eq_false] at h
    have := h m hm
    rw [mem_dotsM] at he
    injection k with k1 k2
    rw [k1, k2, he] at this
    simp at this
  · intro h
    simp only [meetN, List.any_eq_false]
    intro m hm hk
    exact h (m.r, m.c) (List.mem_map.2 ⟨m, hm, rfl⟩) (m.r, m.c) (mem_dotsM.2 hk) rfl
/-- How many marks all items have. -/
def cntM (l : List It) : Nat := (l.map fun x => x.2.length).sum
theorem allD_len (l : List It) : (allD l).length = cntM l := by
  unfold allD cntM
  rw [List.length_flatMap]
  congr 1
  exact List.map_congr_left fun x _ => dotsM_len x.2
theorem cntM_snoc (l : List It) (x : It) : cntM (l ++ [x]) = cntM l + x.2.length := by simp [cntM]
theorem good_count {l : List It} (h1 : ∀ x ∈ l, okI x = true) (h2 : IncN l) : (dotsI l).length = cntM l ↔ Good l := by
  rw [dotsI_all, ← allD_len, setL_size]
  unfold allD List.Nodup
  rw [List.pairwise_flatMap]
  constructor
  · rintro ⟨_, h⟩
    exact ⟨h1, h2, h.imp fun {a b} k => meet_no.2 k⟩
  · rintro ⟨_, _, h⟩
    exact ⟨fun x hx => inc_nodup (okI_parts (h1 x hx)).2.2.2, h.imp fun {a b} k => meet_no.1 k⟩
end

section
open Go.RowKit

set_option maxHeartbeats 2000000 in
theorem itValid (x : ItV) (b : Bool) (w : World) (hx : ItOK w x) (hn : x.nm.length ≤ 1000) (hm : x.ms.length ≤ 100000) (hb : okI x.it = b) :
    Calls Tryz.prog 83 #[mkIt x] w (OneB (.bool b) w) := by
  have hml := hx.len
  have HI := Lib.hid fun W => nmItem x.nm W (by omega)
  have HM := Lib.hid fun W (h : MarksAt W x.A x.ms) => containsMarksV x.A x.ms x.c W h hml
  have HL := Lib.hid fun W b (h : MarksAt W x.A x.ms) (hb : isSetB (dotsM x.ms) = b) => qtyIsList x.A x.ms x.c b W h hm hb
  have HX := Lib.hid hx.1
  have hb' : (itemN x.nm && (decide (0 < x.ms.length) && (x.ms.all validM && isSetB (dotsM x.ms)))) = b := hb
  have B0 := Lib.hid (BlkI.new w x)
  have HB := Lib.hid ((Below.refl w.heap.size w).alloc (Nat.le_refl _) (.cells #[.string ⟨x.nm.toArray⟩, .slice x.A x.ms.length x.c] 56))
  obtain ⟨p1, h1⟩ : ∃ p, itemN x.nm = p := ⟨_, rfl⟩
  obtain ⟨p2, h2⟩ : ∃ p, x.ms.all validM = p := ⟨_, rfl⟩
  obtain ⟨p3, h3⟩ : ∃ p, isSetB (dotsM x.ms) = p := ⟨_, rfl⟩
  rw [h1] at HI hb'
  rw [h2] at HM hb'
  rw [h3] at hb'
  have H3 := Lib.hid h3
  have hlw := B0.out.lt
  have c0 := B0.out.cell0
  have c1 := B0.out.cell1
  clear hb hx h1 h2 h3 hml
  cases p1 with
  | false =>
    obtain rfl : b = false := by simpa using hb'.symm
    clear hb'
    go_enter Tryz.func83, Tryz.ntmps83
    go_wp2_with fail
    refine (HI.out _).mono ?_
    rintro e w1 ⟨rfl, hb1⟩
    have HB1 := Lib.hid (below_trans HB.out hb1)
    clear hb1 c0 c1 hlw
    go_wp2_with fail
    go_ret
    exact ⟨rfl, HB1.out⟩
  | true =>
    by_cases h0 : 0 < x.ms.length
    · have i0 : ((x.ms.length : Int) == 0) = false := eqF (by omega)
      have hd : decide (0 < x.ms.length) = true := decide_eq_true h0
      rw [hd] at hb'
      clear h0 hd
      cases p3 with
      | false =>
        obtain rfl : b = false := by simpa using hb'.symm
        clear hb'
        go_enter Tryz.func83, Tryz.ntmps83
        go_wp2_with fail
        refine (HI.out _).mono ?_
        rintro e w1 ⟨rfl, hb1⟩
        have HB1 := Lib.hid (below_trans HB.out hb1)
        have B1 := Lib.hid (B0.out.below hb1)
        clear hb1 c0 c1 hlw
        have c0 := B1.out.cell0
        have c1 := B1.out.cell1
        go_wp2_with fail
        refine (HL.out _ _ (HX.out.below HB1.out) H3.out).mono ?_
        rintro e w2 ⟨rfl, hb2⟩
        have HB2 := Lib.hid (below_trans HB1.out hb2)
        clear hb2 c0 c1
        go_wp2_with fail
        go_ret
        exact ⟨rfl, HB2.out⟩
      | true =>
        obtain rfl : b = p2 := by simpa using hb'.symm
        clear hb'
        go_enter Tryz.func83, Tryz.ntmps83
        go_wp2_with fail
        refine (HI.out _).mono ?_
        rintro e w1 ⟨rfl, hb1⟩
        have HB1 := Lib.hid (below_trans HB.out hb1)
        have B1 := Lib.hid (B0.out.below hb1)
        clear hb1 c0 c1 hlw
        have c0 := B1.out.cell0
        have c1 := B1.out.cell1
        go_wp2_with fail
        refine (HL.out _ _ (HX.out.below HB1.out) H3.out).mono ?_
        rintro e w2 ⟨rfl, hb2⟩
        have HB2 := Lib.hid (below_trans HB1.out hb2)
        have B2 := Lib.hid (B1.out.below hb2)
        clear hb2 c0 c1
        have c0 := B2.out.cell0
        have c1 := B2.out.cell1
        go_wp2_with fail
        refine (HM.out _ (HX.out.below HB2.out)).mono ?_
        rintro e w3 ⟨rfl, hb3⟩
        have HB3 := Lib.hid (below_trans HB2.out hb3)
        clear hb3 c0 c1
        go_wp2_with fail
        go_ret
        exact OneB.bool (by simp) HB3.out
    · have i0 : ((x.ms.length : Int) == 0) = true := eqT (by omega)
      have hd : decide (0 < x.ms.length) = false := decide_eq_false (by omega)
      rw [hd] at hb'
      obtain rfl : b = false := by simpa using hb'.symm
      clear h0 hd hb'
      go_enter Tryz.func83, Tryz.ntmps83
      go_wp2_with fail
      refine (HI.out _).mono ?_
      rintro e w1 ⟨rfl, hb1⟩
      have HB1 := Lib.hid (below_trans HB.out hb1)
      have B1 := Lib.hid (B0.out.below hb1)
      clear hb1 c0 c1 hlw
      have c1 := B1.out.cell1
      go_wp2_with fail
      go_ret
      exact ⟨rfl, HB1.out⟩

/-- Marks in a row of the call's own; and all that was there as it was. -/
abbrev RowM (W : World) (B : Nat) (v : Value) (ms : List Mk) : Prop := W.ownsRow B 65 4 v ms.length (cellsOf encM ms)
def MineM (w w' : World) (v : Value) (ms : List Mk) : Prop := RowM w' w.heap.size v ms ∧ Below w.heap.size w w'
theorem RowM.at {W : World} {B : Nat} {v : Value} {ms : List Mk} (h : RowM W B v ms) : ∃ A c, v = .slice A ms.length c ∧ ms.length ≤ c ∧ c ≤ maxLen ∧ MarksAt W A ms := SlAt.of_own encM_len h
theorem RowM.below {W W' : World} {B : Nat} {v : Value} {ms : List Mk} (h : RowM W B v ms) (hb : Below W.heap.size W W') : RowM W' B v ms := by
  refine World.ownsRow.kept h (grown_of_below hb none) ?_
  obtain ⟨A, c, rfl, _⟩ := RowM.at h
  cases A <;> simp [Value.ownBlock]

set_option maxHeartbeats 400000 in
theorem cloneMarks (A : Option Addr) (xs : List Mk) (cap : Nat) (w : World) (hx : MarksAt w A xs) (hm : xs.length ≤ 1000000) :
    Calls Tryz.prog 129 #[.slice A xs.length cap] w fun e w' => ∃ v, e = .returned v ∧ MineM w w' v xs := by
  obtain ⟨i0, hi0, hz0, hz1, hz2⟩ := info_parts infoM
  have q22 : ∀ (w : World) (a : Option Addr) (n c n' c' : Nat), (binOp .eql 54 (.slice a n c) (.slice none n' c')).run Tryz.prog w = .ok (.bool a.isNone) w := fun w a n c n' c' => Lib.run_eql_slice_nil w _ _ a n c n' c' Tryz.underlying54
  match A with
  | none =>
    have h0 : xs = [] := by
      cases xs with
      | nil => rfl
      | cons x r => obtain ⟨_, _, h, _⟩ := hx (by simp); cases h
    subst h0
    go_enter Tryz.func129, Tryz.ntmps129
    go_wp2
    go_ret
    exact ⟨_, rfl, World.ownsRow_nil _ _ _ _, Below.refl _ _⟩
  | some a =>
    go_enter Tryz.func129, Tryz.ntmps129
    go_wp2_with (at_builtin; refine wpList_append_sl _ encM 4 rfl (.tmp 5) (.tmp 6) 54 rfl encM_len (by omega) encM_one w.heap.size 65 i0 _ 32 Tryz.underlying54 hi0 hz0 hz1 hz2 rfl _ [] rfl (World.ownsRow_made w #[] 0 (Nat.le_refl _) (Nat.zero_le _) (by simp)) (some a) _ cap xs rfl rfl (hx.below ((Below.refl _ w).alloc (Nat.le_refl _) _)) (by simp [maxLen]; omega) (by simp; omega) (by simp) ?_; intro v1 w1 hown1 hg1 hat1)
    rw [List.nil_append] at hown1
    have HO := Lib.hid hown1
    clear hown1
    go_wp2
    go_ret
    refine ⟨_, rfl, HO.out, ((Below.refl _ w).alloc (Nat.le_refl _) _).grown hg1 (by simp) ?_⟩
    intro k hk
    have e0 : some w.heap.size = some k := hk
    injection e0 with e
    omega

/-- A block of two cells that holds an item. -/
def Blk2I (W : World) (g : Nat) (u v : Value) : Prop := W.heap[g]? = some (.cells #[u, v] 56 (0, 0))
section
variable {W W' : World} {g : Nat} {u v : Value}
theorem Blk2I.lt (h : Blk2I W g u v) : g < W.heap.size := (Array.getElem?_eq_some_iff.1 h).1
theorem Blk2I.cell0 (h : Blk2I W g u v) : W.cell? ⟨g, 0, none⟩ = some u := by simp [World.cell?, show W.heap[g]? = _ from h]
theorem Blk2I.cell1 (h : Blk2I W g u v) : W.cell? ⟨g, 1, none⟩ = some v := by simp [World.cell?, show W.heap[g]? = _ from h]
theorem Blk2I.frozen (h : Blk2I W g u v) (k : Nat) : W.frozen? ⟨g, k, none⟩ = false := by simp [World.frozen?, show W.heap[g]? = _ from h]
theorem Blk2I.below (h : Blk2I W g u v) (hb : Below W.heap.size W W') : Blk2I W' g u v := (hb.block g h.lt).trans h
theorem Blk2I.set (h : Blk2I W g u v) (u' v' : Value) : Blk2I ((W.setCell ⟨g, 0, none⟩ u').setCell ⟨g, 1, none⟩ v') g u' v' := by
  have h2 := block_set1 (k := 1) (x := v') (block_set1 (k := 0) (x := u') h)
  have e : ((#[u, v] : Array Value).setIfInBounds 0 u').setIfInBounds 1 v' = #[u', v'] := by simp
  rw [e] at h2
  exact h2
theorem Blk2I.other (h : Blk2I W g u v) {g' : Nat} (hne : g ≠ g') (o : Nat) (z : Value) : Blk2I (W.setCell ⟨g', o, none⟩ z) g u v := (Below.heap_setCell W ⟨g', o, none⟩ z g hne).trans h
theorem below_set2I {w : World} {B : Nat} (h : Below B w W) (hg : B ≤ g) (u v : Value) : Below B w ((W.setCell ⟨g, 0, none⟩ u).setCell ⟨g, 1, none⟩ v) :=
  (h.setCell (p := ⟨g, 0, none⟩) hg _).setCell (p := ⟨g, 1, none⟩) hg _
theorem row_set2I {base n size : Nat} {e : TypeId} {r : Value} {xs : List Value} (h : W.ownsRow base e size r n xs) (hg : r.ownBlock ≠ some g) (u v : Value) : ((W.setCell ⟨g, 0, none⟩ u).setCell ⟨g, 1, none⟩ v).ownsRow base e size r n xs :=
  ownsRow_setCell_other (ownsRow_setCell_other h (a := ⟨g, 0, none⟩) hg u) (a := ⟨g, 1, none⟩) hg v
end

/-- The item in its block, the result's block behind it. -/
structure KC (w : World) (x : ItV) (W : World) : Prop where
  blk : BlkI W w.heap.size x
  res : ∃ s A n c, Blk2I W (w.heap.size + 1) (.string s) (.slice A n c)
  bel : Below w.heap.size w W
  ok0 : ItOK w x
section
variable {w W W' : World} {x : ItV}
theorem KC.ok (h : KC w x W) : ItOK W x := h.ok0.below h.bel
theorem KC.next (h : KC w x W) (hb : Below W.heap.size W W') : KC w x W' := by
  obtain ⟨s, A, n, c, hr⟩ := h.res
  exact ⟨h.blk.below hb, ⟨s, A, n, c, hr.below hb⟩, below_trans h.bel hb, h.ok0⟩
theorem KC.drew (h : KC w x W) : KC w x W.drew := h.next (Below.refl _ _).drew
theorem KC.store (h : KC w x W) (s : ByteArray) (A : Option Addr) (n c : Nat) : KC w x ((W.setCell ⟨w.heap.size + 1, 0, none⟩ (.string s)).setCell ⟨w.heap.size + 1, 1, none⟩ (.slice A n c)) := by
  obtain ⟨s', A', n', c', hr⟩ := h.res
  refine ⟨?_, ⟨s, A, n, c, hr.set _ _⟩, below_set2I h.bel (by omega) _ _, h.ok0⟩
  exact (Blk2I.other (Blk2I.other (show Blk2I W w.heap.size (.string ⟨x.nm.toArray⟩) (.slice x.A x.ms.length x.c) from h.blk) (by omega) 0 _) (by omega) 1 _)
theorem KC.second (h : KC w x W) : ∃ s A n c, W.cell? ⟨w.heap.size + 1, 0, none⟩ = some (.string s) ∧ W.cell? ⟨w.heap.size + 1, 1, none⟩ = some (.slice A n c) ∧ W.frozen? ⟨w.heap.size + 1, 0, none⟩ = false ∧ W.frozen? ⟨w.heap.size + 1, 1, none⟩ = false ∧ w.heap.size + 1 < W.heap.size ∧ Blk2I W (w.heap.size + 1) (.string s) (.slice A n c) := by
  obtain ⟨s, A, n, c, hr⟩ := h.res
  exact ⟨s, A, n, c, hr.cell0, hr.cell1, hr.frozen _, hr.frozen _, hr.lt, hr⟩
theorem KC.sp (h : KC w x W) : W.cell? ⟨w.heap.size, 0, none⟩ = some (.string ⟨x.nm.toArray⟩) ∧ W.cell? ⟨w.heap.size, 1, none⟩ = some (.slice x.A x.ms.length x.c) ∧ w.heap.size < W.heap.size ∧ KC w x W := ⟨h.blk.cell0, h.blk.cell1, h.blk.lt, h⟩
theorem KC.new (ho : ItOK w x) : KC w x ((w.alloc (.cells #[.string ⟨x.nm.toArray⟩, .slice x.A x.ms.length x.c] 56)).alloc (.cells #[.string ⟨#[]⟩, .slice none 0 0] 56)) := by
  refine ⟨(BlkI.new w x).below ((Below.refl _ _).alloc (Nat.le_refl _) _), ⟨⟨#[]⟩, none, 0, 0, ?_⟩, ((Below.refl _ w).alloc (Nat.le_refl _) _).alloc (by simp) _, ho⟩
  have h := heap_alloc_new (w.alloc (.cells #[.string ⟨x.nm.toArray⟩, .slice x.A x.ms.length x.c] 56)) (.cells #[.string ⟨#[]⟩, .slice none 0 0] 56)
  rwa [World.size_alloc] at h
end

/-- An item's marks as a value. -/
abbrev slV (x : ItV) : Value := .slice x.A x.ms.length x.c
set_option maxHeartbeats 4000000 in
theorem itClone (x : ItV) (w : World) (hx : ItOK w x) (hn : x.nm.length ≤ 1000000) (hm : x.ms.length ≤ 1000000) :
    Calls Tryz.prog 96 #[mkIt x] w fun e w' => ∃ y : ItV, e = .returned (mkIt y) ∧ y.it = x.it ∧ RowM w' w.heap.size (slV y) y.ms ∧ Below w.heap.size w w' := by
  have K0 := Lib.hid (KC.new hx)
  have HS := Lib.hid fun W => strClone x.nm W hn
  have HM := Lib.hid fun W (h : MarksAt W x.A x.ms) => cloneMarks x.A x.ms x.c W h hm
  clear hx hn hm
  go_enter Tryz.func96, Tryz.ntmps96
  go_wp2_with fail
  generalize World.alloc (World.alloc w _) _ = w1 at K0 ⊢
  have hS := K0.out
  have hS' := KC.sp K0.out
  clear K0
  obtain ⟨q0, q1, q2, _⟩ := id hS'
  obtain ⟨s0, A0, n0, c0, t0, t1, t2, t3, t4, hB3⟩ := hS.second
  go_region_held3 (fun W' => W'.cell? ⟨w.heap.size, 0, none⟩ = some (.string ⟨x.nm.toArray⟩) ∧ W'.cell? ⟨w.heap.size, 1, none⟩ = some (.slice x.A x.ms.length x.c) ∧ w.heap.size < W'.heap.size ∧ KC w x W')
    (first
      | assumption
      | (exact KC.sp (by assumption))
      | (exact KC.sp (KC.drew (by assumption)))
      | (exact KC.sp (KC.store (by assumption) _ _ _ _))
      | (exact KC.sp (KC.store (KC.drew (by assumption)) _ _ _ _)))
    (first
      | (go_at_call 68; refine (HS.out _).mono ?_
         rintro e wa ⟨rfl, hb1⟩
         have hS1 := KC.next (by first | assumption | exact KC.drew (by assumption)) hb1
         have hS1' := KC.sp hS1
         obtain ⟨u0, u1, u2, _⟩ := id hS1'
         obtain ⟨s1, A1, n1, c1, t0, t1, t2, t3, t4, hB3⟩ := hS1.second)
      | (go_at_call 129; refine (HM.out _ (KC.ok (by first | assumption | exact KC.drew (by assumption))).1).mono ?_
         rintro e wb ⟨v, rfl, hv, hb2⟩
         have hz2 := (show KC w x _ by first | assumption | exact KC.drew (by assumption)).second
         have hS2 := KC.next (by first | assumption | exact KC.drew (by assumption)) hb2
         have hS2' := KC.sp hS2
         obtain ⟨A2, c2, rfl, _⟩ := RowM.at hv
         obtain ⟨u0, u1, u2, _⟩ := id hS2'
         obtain ⟨s1, A1, n1, c1, t0, t1, t2, t3, t4, hB3⟩ := hS2.second))
  all_goals
    obtain ⟨_, _, _, _, _, _, _, _, z4, _⟩ := hz2
    have hs := hB3.set (.string ⟨x.nm.toArray⟩) (.slice A2 x.ms.length c2)
    have s6 := hs.cell0
    have s7 := hs.cell1
    have HE := Lib.hid (show ∃ y : ItV, Ending.returned (.agg #[.string ⟨x.nm.toArray⟩, .slice A2 x.ms.length c2]) = .returned (mkIt y) ∧ y.it = x.it ∧ RowM ((wb.setCell ⟨w.heap.size + 1, 0, none⟩ (.string ⟨x.nm.toArray⟩)).setCell ⟨w.heap.size + 1, 1, none⟩ (.slice A2 x.ms.length c2)) w.heap.size (slV y) y.ms ∧ Below w.heap.size w ((wb.setCell ⟨w.heap.size + 1, 0, none⟩ (.string ⟨x.nm.toArray⟩)).setCell ⟨w.heap.size + 1, 1, none⟩ (.slice A2 x.ms.length c2)) from
      ⟨⟨x.nm, A2, c2, x.ms⟩, rfl, rfl, row_set2I (Joins.ownsRow_le hv (by have := hS1.bel.size; omega)) (fun e => by have := (hv.lt _ e).1; omega) _ _, below_set2I hS2.bel (by omega) _ _⟩)
    clear hS1 hS1' hS2 hS2' hv hB3 hs
    go_wp2_with fail
    exact bodyPost_ret (v := .agg #[.string ⟨x.nm.toArray⟩, .slice A2 x.ms.length c2]) (by simp [results, Tryz.results96, go_sem, s6, s7]) rfl HE.out

end

end Go.Proofs.YtfmhhmceoikgpaaGreat
