/- Several texts in one: CarK, CarD, CarE, NamL. -/
import Derived.Test.YtpnemekkpifbaaaGreatMAK
import Derived.Test.YtpnemekkpifbaaaGreatMAC
import Derived.Lib.FieldsP
import Derived.Lib.Join
import Derived.Lib.TrimUEq
import Derived.Lib.SpaceUEq
namespace Go.Proofs.YtpnemekkpifbaaaGreat

section
open Go.RowKit

/-- Two lists in a strict order with the same elements are the same. -/
theorem strict_ext {α : Type} {r : α → α → Prop} (irr : ∀ x, ¬ r x x) (tr : ∀ x y z, r x y → r y z → r x z) : ∀ {s t : List α}, s.Pairwise r → t.Pairwise r → (∀ d, d ∈ s ↔ d ∈ t) → s = t
  | [], [], _, _, _ => rfl
  | [], y :: t, _, _, h => by have := (h y).2 (by simp); simp at this
  | x :: s, [], _, _, h => by have := (h x).1 (by simp); simp at this
  | x :: s, y :: t, hs, ht, h => by
    have hs' := List.pairwise_cons.1 hs
    have ht' := List.pairwise_cons.1 ht
    have hxy : x = y := by
      have h1 := (h x).1 (by simp)
      have h2 := (h y).2 (by simp)
      rcases List.mem_cons.1 h1 with e | h1
      · exact e
      · rcases List.mem_cons.1 h2 with e | h2
        · exact e.symm
        · exact absurd (tr _ _ _ (ht'.1 x h1) (hs'.1 y h2)) (irr y)
    subst hxy
    have : s = t := strict_ext irr tr hs'.2 ht'.2 fun d => by
      have hd := h d
      simp only [List.mem_cons] at hd
      constructor
      · intro hm
        rcases hd.1 (.inr hm) with e | h'
        · subst e; exact absurd (hs'.1 d hm) (irr d)
        · exact h'
      · intro hm
        rcases hd.2 (.inr hm) with e | h'
        · subst e; exact absurd (ht'.1 d hm) (irr d)
        · exact h'
    rw [this]

/-- A mark's dot; a mark behind those whose dots are not greater; marks in order. -/
abbrev dotM (m : Mk) : Int × Int := (m.r, m.c)
def insM (l : List Mk) (m : Mk) : List Mk := l.takeWhile (fun y => !ltD (dotM m) (dotM y)) ++ m :: l.dropWhile (fun y => !ltD (dotM m) (dotM y))
def sortM (l : List Mk) : List Mk := l.foldl insM []
theorem insM_perm (l : List Mk) (m : Mk) : (insM l m).Perm (m :: l) := by
  have h := List.takeWhile_append_dropWhile (p := fun y => !ltD (dotM m) (dotM y)) (l := l)
  conv => rhs; rw [← h]
  exact List.perm_middle
theorem fold_insM_perm : ∀ (l s : List Mk), (l.foldl insM s).Perm (s ++ l)
  | [], s => by simp
  | m :: r, s => by
    rw [List.foldl_cons]
    refine (fold_insM_perm r (insM s m)).trans ?_
    refine ((insM_perm s m).append_right r).trans ?_
    exact List.perm_middle.symm
theorem sortM_perm (l : List Mk) : (sortM l).Perm l := by
  have := fold_insM_perm l []
  rwa [List.nil_append] at this
/-- Marks in the order of their dots, equal ones behind each other. -/
def SortW (l : List Mk) : Prop := l.Pairwise fun a b => ltD (dotM b) (dotM a) = false
theorem ltD_asymm {x y : Int × Int} (h : ltD x y = true) : ltD y x = false := by
  cases k : ltD y x with
  | false => rfl
  | true => have := ltD_trans h k; rw [ltD_irrefl] at this; cases this
theorem ltD_ntrans {x y z : Int × Int} (h1 : ltD y x = false) (h2 : ltD z y = false) : ltD z x = false := by
  cases k : ltD z x with
  | false => rfl
  | true =>
    rcases ltD_tri y x with e | e | e
    · rw [e] at h1; cases h1
    · subst e; rw [k] at h2; cases h2
    · have := ltD_trans k e; rw [this] at h2; cases h2
theorem SortW.tail {l : List Mk} {m : Mk} (h : SortW l) {z : Mk} (hz : z ∈ l.dropWhile (fun y => !ltD (dotM m) (dotM y))) : ltD (dotM m) (dotM z) = true := by
  induction l with
  | nil => simp at hz
  | cons a r ih =>
    rw [List.dropWhile_cons] at hz
    have h' := List.pairwise_cons.1 h
    by_cases ha : (!ltD (dotM m) (dotM a)) = true
    · rw [if_pos ha] at hz
      exact ih h'.2 hz
    · rw [if_neg ha] at hz
      have ha' : ltD (dotM m) (dotM a) = true := by simpa using ha
      rcases List.mem_cons.1 hz with e | hz
      · subst e; exact ha'
      · cases k : ltD (dotM m) (dotM z) with
        | true => rfl
        | false =>
          have := ltD_ntrans (h'.1 z hz) k
          rw [ha'] at this; cases this
theorem SortW.ins {l : List Mk} (h : SortW l) (m : Mk) : SortW (insM l m) := by
  unfold insM
  have ht : ∀ z ∈ l.takeWhile (fun y => !ltD (dotM m) (dotM y)), ltD (dotM m) (dotM z) = false := fun z hz => by
    have := tw_all (p := fun y => !ltD (dotM m) (dotM y)) hz
    simpa using this
  refine List.pairwise_append.2 ⟨h.sublist (List.takeWhile_sublist _), List.pairwise_cons.2 ⟨fun z hz => ltD_asymm (h.tail hz), h.sublist (List.dropWhile_sublist _)⟩, fun a ha b hb => ?_⟩
  rcases List.mem_cons.1 hb with e | hb
  · subst e; exact ht a ha
  · have h1 := h.tail hb
    cases k : ltD (dotM b) (dotM a) with
    | false => rfl
    | true => have := ltD_trans h1 k; rw [ht a ha] at this; cases this
theorem sortW_fold : ∀ (l s : List Mk), SortW s → SortW (l.foldl insM s)
  | [], _, h => h
  | m :: r, s, h => sortW_fold r (insM s m) (h.ins m)
theorem sortW_sortM (l : List Mk) : SortW (sortM l) := sortW_fold l [] List.Pairwise.nil
theorem incM_iff {l : List Mk} : Inc (dotsM (sortM l)) ↔ (dotsM l).Nodup := by
  have hp : (dotsM (sortM l)).Perm (dotsM l) := (sortM_perm l).map _
  constructor
  · intro h; exact (inc_nodup h).perm hp
  · intro h
    have hn : (dotsM (sortM l)).Nodup := h.perm hp.symm
    have hw := sortW_sortM l
    unfold Inc dotsM
    unfold List.Nodup dotsM at hn
    rw [List.pairwise_map] at hn ⊢
    refine (hw.and hn).imp fun {a b} hab => ?_
    rcases ltD_tri (dotM a) (dotM b) with e | e | e
    · exact e
    · exact absurd e hab.2
    · have := hab.1
      rw [e] at this; cases this
theorem incM_ext {s t : List Mk} (hs : Inc (dotsM s)) (ht : Inc (dotsM t)) (h : ∀ d, d ∈ s ↔ d ∈ t) : s = t := by
  unfold Inc dotsM at hs ht
  rw [List.pairwise_map] at hs ht
  exact strict_ext (r := fun a b : Mk => ltD (a.r, a.c) (b.r, b.c) = true) (fun x hx => by rw [ltD_irrefl] at hx; cases hx) (fun x y z h1 h2 => ltD_trans h1 h2) hs ht h
theorem sortM_self {l : List Mk} (h : Inc (dotsM l)) : sortM l = l :=
  incM_ext (incM_iff.2 (inc_nodup h)) h fun _ => (sortM_perm l).mem_iff
theorem meetN_mem {a b a' b' : List Mk} (ha : ∀ m, m ∈ a ↔ m ∈ a') (hb : ∀ m, m ∈ b ↔ m ∈ b') : meetN a b = meetN a' b' := by
  rw [Bool.eq_iff_iff]
  simp only [meetN, hasD, List.any_eq_true, ha, hb]
theorem meetN_sort (a b : List Mk) : meetN (sortM a) (sortM b) = meetN a b := meetN_mem (fun _ => (sortM_perm a).mem_iff) (fun _ => (sortM_perm b).mem_iff)

/-- An item whose marks are put in order; one more item, or none; items put in order. -/
abbrev ordI (x : It) : It := (x.1, sortM x.2)
def stepI (o : Option (List It)) (x : It) : Option (List It) := o.bind fun l => if okI (ordI x) = true ∧ (l.any fun z => z.1 == x.1) = false ∧ (l.any fun z => meetN z.2 (sortM x.2)) = false then some (insN l (ordI x)) else none
def canonI (xs : List It) : Option (List It) := xs.foldl stepI (some [])
/-- Items that are loose. -/
def LooseI (xs : List It) : Prop := (∀ x ∈ xs, okI (ordI x) = true) ∧ xs.Pairwise fun x y => x.1 ≠ y.1 ∧ meetN x.2 y.2 = false
/-- What was put in order so far. -/
structure OrdInv (pre : List It) (l : List It) : Prop where
  loose : LooseI pre
  good : Good l
  mem : ∀ z, z ∈ l ↔ ∃ x ∈ pre, z = ordI x
theorem stepI_none : ∀ xs : List It, xs.foldl stepI none = none
  | [] => rfl
  | _ :: r => stepI_none r
theorem loose_snoc {pre : List It} {x : It} : LooseI (pre ++ [x]) ↔ LooseI pre ∧ okI (ordI x) = true ∧ ∀ y ∈ pre, y.1 ≠ x.1 ∧ meetN y.2 x.2 = false := by
  unfold LooseI
  rw [List.pairwise_append]
  constructor
  · rintro ⟨h1, h2, _, h3⟩
    exact ⟨⟨fun y hy => h1 y (by simp [hy]), h2⟩, h1 x (by simp), fun y hy => h3 y hy x (by simp)⟩
  · rintro ⟨⟨h1, h2⟩, h3, h4⟩
    refine ⟨fun y hy => ?_, h2, List.pairwise_singleton _ _, fun a ha b hb => ?_⟩
    · rcases List.mem_append.1 hy with k | k
      · exact h1 y k
      · obtain rfl : y = x := by simpa using k
        exact h3
    · obtain rfl : b = x := by simpa using hb
      exact h4 a ha
theorem OrdInv.step {pre l : List It} {x : It} (h : OrdInv pre l) : (stepI (some l) x = none ∧ ¬ LooseI (pre ++ [x])) ∨ (stepI (some l) x = some (insN l (ordI x)) ∧ OrdInv (pre ++ [x]) (insN l (ordI x))) := by
  by_cases hc : okI (ordI x) = true ∧ (l.any fun z => z.1 == x.1) = false ∧ (l.any fun z => meetN z.2 (sortM x.2)) = false
  · refine .inr ⟨by unfold stepI; rw [Option.bind_some, if_pos hc], ?_⟩
    obtain ⟨h1, h2, h3⟩ := hc
    rw [List.any_eq_false] at h2
    have hn : ∀ y ∈ l, y.1 ≠ (ordI x).1 := fun y hy e => h2 y hy (by simp [e])
    refine ⟨loose_snoc.2 ⟨h.loose, h1, fun y hy => ?_⟩, h.good.ins h1 hn h3, fun z => ?_⟩
    · have hz := (h.mem (ordI y)).2 ⟨y, hy, rfl⟩
      rw [List.any_eq_false] at h3
      refine ⟨hn (ordI y) hz, ?_⟩
      have := h3 (ordI y) hz
      rw [Bool.not_eq_true, meetN_sort] at this
      exact this
    · rw [mem_insN, h.mem]
      constructor
      · rintro (⟨y, hy, e⟩ | e)
        · exact ⟨y, by simp [hy], e⟩
        · exact ⟨x, by simp, e⟩
      · rintro ⟨y, hy, e⟩
        rcases List.mem_append.1 hy with k | k
        · exact .inl ⟨y, k, e⟩
        · obtain rfl : y = x := by simpa using k
          exact .inr e
  · refine .inl ⟨by unfold stepI; rw [Option.bind_some, if_neg hc], fun hl => hc ?_⟩
    obtain ⟨_, h1, h2⟩ := loose_snoc.1 hl
    refine ⟨h1, ?_, ?_⟩
    · rw [List.any_eq_false]
      intro z hz e
      obtain ⟨y, hy, rfl⟩ := (h.mem z).1 hz
      exact (h2 y hy).1 (by simpa using e)
    · rw [List.any_eq_false]
      intro z hz
      obtain ⟨y, hy, rfl⟩ := (h.mem z).1 hz
      rw [Bool.not_eq_true, meetN_sort]
      exact (h2 y hy).2
theorem loose_left {pre xs : List It} (h : LooseI (pre ++ xs)) : LooseI pre := ⟨fun x hx => h.1 x (by simp [hx]), (List.pairwise_append.1 h.2).1⟩
theorem fold_ord : ∀ (xs : List It) {pre l : List It}, OrdInv pre l → (∃ k, xs.foldl stepI (some l) = some k ∧ OrdInv (pre ++ xs) k) ∨ (xs.foldl stepI (some l) = none ∧ ¬ LooseI (pre ++ xs))
  | [], pre, l, h => .inl ⟨l, rfl, by simpa using h⟩
  | x :: r, pre, l, h => by
    rw [List.foldl_cons]
    rcases h.step (x := x) with ⟨h1, h2⟩ | ⟨h1, h2⟩
    · rw [h1, stepI_none]
      exact .inr ⟨rfl, fun hl => h2 (loose_left (xs := r) (by simpa using hl))⟩
    · rw [h1]
      rcases fold_ord r h2 with ⟨k, e, hk⟩ | ⟨e, hk⟩
      · exact .inl ⟨k, e, by simpa using hk⟩
      · exact .inr ⟨e, fun hl => hk (by simpa using hl)⟩
theorem canonI_cases (xs : List It) : (∃ k, canonI xs = some k ∧ OrdInv xs k) ∨ (canonI xs = none ∧ ¬ LooseI xs) := by
  have h0 : OrdInv [] [] := ⟨⟨fun x hx => (by cases hx), List.Pairwise.nil⟩, good_nil, fun z => ⟨fun hz => (by cases hz), fun ⟨x, hx, _⟩ => (by cases hx)⟩⟩
  simpa [canonI] using fold_ord xs h0
theorem OrdInv.canon {xs k : List It} (h : OrdInv xs k) : canonI xs = some k := by
  rcases canonI_cases xs with ⟨k', e, hk⟩ | ⟨_, hn⟩
  · rw [e]
    congr 1
    exact IncN.ext hk.good.2.1 h.good.2.1 fun d => by rw [hk.mem, h.mem]
  · exact absurd h.loose hn
theorem good_ord {x : It} (h : okI x = true) : ordI x = x := by
  have := (okI_parts h).2.2.2
  show (x.1, sortM x.2) = x
  rw [sortM_self this]
theorem OrdInv.self {xs : List It} (h : Good xs) : OrdInv xs xs := by
  refine ⟨⟨fun x hx => by rw [good_ord (h.1 x hx)]; exact h.1 x hx, ?_⟩, h, fun z => ?_⟩
  · refine (h.2.1.and h.2.2).imp fun {a b} hab => ⟨fun e => ?_, hab.2⟩
    have := hab.1
    rw [e, beforeN_irrefl] at this; cases this
  · constructor
    · intro hz; exact ⟨z, hz, (good_ord (h.1 z hz)).symm⟩
    · rintro ⟨x, hx, rfl⟩; rw [good_ord (h.1 x hx)]; exact hx
/-- The same items in another order, their marks in another order. -/
theorem OrdInv.other {xs ys k : List It} (h : OrdInv xs k) (hl : LooseI ys) (hm : ∀ z, (∃ y ∈ ys, z = ordI y) ↔ ∃ x ∈ xs, z = ordI x) : canonI ys = some k :=
  OrdInv.canon ⟨hl, h.good, fun z => by rw [h.mem, hm]⟩

theorem missC_nil {v l m : List (Int × Int)} : (missC v l m).isEmpty = true ↔ ∀ d ∈ m, hasC v l d.1 d.2 = true := by
  rw [List.isEmpty_iff]
  constructor
  · intro h d hd
    cases e : hasC v l d.1 d.2 with
    | true => rfl
    | false =>
      have hm : d ∈ missC v l m := by
        unfold missC
        rw [mem_setL, List.mem_filter]
        exact ⟨hd, by simp [e]⟩
      rw [h] at hm; cases hm
  · intro h
    rw [List.eq_nil_iff_forall_not_mem]
    intro d hd
    unfold missC at hd
    rw [mem_setL, List.mem_filter] at hd
    rw [h d hd.1] at hd
    simp at hd
theorem validK_iff {c : Ca} : validK c = true ↔ compC c.1.1 c.1.2 = true ∧ Good c.2 ∧ ∀ d ∈ dotsI c.2, hasC c.1.1 c.1.2 d.1 d.2 = true := by
  unfold validK
  rw [Bool.and_eq_true, Bool.and_eq_true, missC_nil, validL_good]
end

section
open Go.RowKit

end

section
open Go.RowKit

end

section

/-! ## What is made canonical -/
theorem sep_toNat (c : UInt8) : sepC c = true ↔ c.toNat = 9 ∨ c.toNat = 10 ∨ c.toNat = 13 ∨ c.toNat = 32 := by
  simp [sepC, or_assoc]
/-- No space at the ends, none behind another one. -/
structure Nice (l : List UInt8) : Prop where
  first : l[0]? ≠ some 32
  last : l[l.length - 1]? ≠ some 32
  single : ∀ i : Nat, l[i]? = some 32 → l[i + 1]? ≠ some 32
theorem Nice.nil : Nice [] := ⟨by simp, by simp, fun i h => by simp at h⟩
theorem Nice.snoc {l : List UInt8} (h : Nice l) {c : UInt8} (hc : c ≠ 32) : Nice (l ++ [c]) := by
  refine ⟨?_, ?_, ?_⟩
  · match l, h with
    | [], _ => simpa using hc
    | a :: r, h => simpa using h.first
  · simp only [List.length_append, List.length_singleton, Nat.add_sub_cancel, List.getElem?_append_right (Nat.le_refl _), Nat.sub_self]
    simpa using hc
  · intro i hi
    rcases Nat.lt_trichotomy (i + 1) l.length with h1 | h1 | h1
    · rw [List.getElem?_append_left (by omega)] at hi ⊢
      exact h.single i hi
    · rw [List.getElem?_append_left (by omega)] at hi
      rw [List.getElem?_append_right (by omega), h1, Nat.sub_self]
      have := h.last
      rw [← h1, Nat.add_sub_cancel] at this
      exact absurd hi this
    · rw [List.getElem?_append_right (by omega)]
      have : i + 1 - l.length ≠ 0 := by omega
      rw [List.getElem?_eq_none (by simp; omega)]
      simp
theorem Nice.snoc2 {l : List UInt8} (h : Nice l) (hl : l ≠ []) {c : UInt8} (hc : c ≠ 32) : Nice (l ++ [32] ++ [c]) := by
  have h0 : 0 < l.length := List.length_pos_iff.2 hl
  rw [List.append_assoc]
  refine ⟨?_, ?_, ?_⟩
  · rw [List.getElem?_append_left h0]; exact h.first
  · simp only [List.length_append, List.length_singleton]
    rw [List.getElem?_append_right (by omega), show l.length + (1 + 1) - 1 - l.length = 1 by omega]
    simpa using hc
  · intro i hi
    rcases Nat.lt_trichotomy (i + 1) l.length with h1 | h1 | h1
    · rw [List.getElem?_append_left (by omega)] at hi ⊢
      exact h.single i hi
    · rw [List.getElem?_append_left (by omega)] at hi
      have := h.last
      rw [← h1, Nat.add_sub_cancel] at this
      exact absurd hi this
    · rw [List.getElem?_append_right (by omega)] at hi ⊢
      rcases Nat.eq_or_lt_of_le (show l.length ≤ i by omega) with e | e
      · rw [show i + 1 - l.length = 1 by omega]
        simpa using hc
      · rw [List.getElem?_eq_none (by simp; omega)]
        simp
theorem canonF_nice {st : List UInt8 × Bool} (h : Nice st.1) (c : UInt8) : Nice (canonF st c).1 := by
  unfold canonF
  split
  · exact h
  · rename_i hs
    have hc : c ≠ 32 := fun e => by subst e; exact hs (by decide)
    simp only
    split
    · rename_i h2
      exact h.snoc2 (by simp at h2; exact h2.2) hc
    · rw [List.append_nil]; exact h.snoc hc
theorem canonS_nice (s : List UInt8) : Nice (canonS s).1 := by
  suffices h : ∀ k, k ≤ s.length → Nice (canonS (s.take k)).1 by
    have := h s.length (Nat.le_refl _)
    rwa [List.take_length] at this
  intro k
  induction k with
  | zero => intro _; simp [canonS, Nice.nil]
  | succ k ih =>
    intro hk
    rw [List.take_succ_eq_append_getElem (by omega), canonS_snoc]
    exact canonF_nice (ih (by omega)) _
def printC (c : UInt8) : Bool := decide (32 ≤ c.toNat) && decide (c.toNat ≤ 126)
/-- The names are what is short, of bytes that can be printed, and canonical. -/
theorem itemN_canon (s : List UInt8) : itemN s = ((decide (1 ≤ s.length) && decide (s.length ≤ 64) && s.all printC) && canonN s == s) := by
  have h1 : itemN s = true ↔ ((decide (1 ≤ s.length) && decide (s.length ≤ 64) && s.all printC) && canonN s == s) = true := by
    rw [itemN_iff]
    simp only [Bool.and_eq_true, decide_eq_true_eq, beq_iff_eq, List.all_eq_true, printC]
    constructor
    · intro h
      exact ⟨⟨⟨h.pos, h.short⟩, h.bytes⟩, canonN_item h⟩
    · rintro ⟨⟨⟨h1, h2⟩, h3⟩, h4⟩
      have hn := canonS_nice s
      have h4' : (canonS s).1 = s := h4
      rw [h4'] at hn
      exact ⟨h1, h2, hn.first, hn.last, h3, hn.single⟩
  cases h2 : itemN s with
  | true => exact (h1.1 h2).symm
  | false =>
    cases h3 : ((decide (1 ≤ s.length) && decide (s.length ≤ 64) && s.all printC) && canonN s == s) with
    | false => rfl
    | true => rw [h1.2 h3] at h2; cases h2

/-! ## Words by runes are words by bytes -/
/-- The runes that separate words. -/
def sepR (r : Nat) : Bool := r == 9 || r == 10 || r == 13 || r == 32
theorem join_snoc (A : List (List UInt8)) (x : List UInt8) : Lib.join (A ++ [x]) [32] = if A = [] then x else Lib.join A [32] ++ [32] ++ x := by
  match A with
  | [] => simp [Lib.join_one]
  | a :: r =>
    rw [if_neg (by simp), List.cons_append, Lib.join_cons, Lib.join_cons]
    simp [Lib.joinTail]
theorem join_ne {A : List (List UInt8)} (hA : A ≠ []) (h : ∀ x ∈ A, x ≠ []) : Lib.join A [32] ≠ [] := by
  match A, hA with
  | a :: r, _ =>
    rw [Lib.join_cons]
    have := h a (by simp)
    cases a with
    | nil => exact absurd rfl this
    | cons b t => simp
theorem fold_plain (bs : List UInt8) (hb : ∀ c ∈ bs, sepC c = false) (l : List UInt8) : bs.foldl canonF (l, false) = (l ++ bs, false) := by
  induction bs generalizing l with
  | nil => simp
  | cons c r ih =>
    rw [List.foldl_cons]
    have : canonF (l, false) c = (l ++ [c], false) := by
      unfold canonF
      rw [hb c (by simp)]
      simp
    rw [this, ih (fun c hc => hb c (by simp [hc]))]
    simp
theorem fold_word (c : UInt8) (r : List UInt8) (hb : ∀ x ∈ c :: r, sepC x = false) (l : List UInt8) (f : Bool) : (c :: r).foldl canonF (l, f) = (l ++ (if f && l != [] then [32] else []) ++ (c :: r), false) := by
  rw [List.foldl_cons]
  have : canonF (l, f) c = (l ++ (if f && l != [] then [32] else []) ++ [c], false) := by
    unfold canonF
    rw [hb c (by simp)]
    simp
  rw [this, fold_plain r (fun x hx => hb x (by simp [hx]))]
  simp
def piece (l : List UInt8) (x : Nat × Nat) : List UInt8 := (l.drop x.1).take (x.2 - x.1)
theorem piece_len (l : List UInt8) (a b : Nat) (h : b ≤ l.length) : (piece l (a, b)).length = b - a := by
  unfold piece
  rw [List.length_take, List.length_drop]
  simp only
  omega
theorem piece_grow (l : List UInt8) (a b k : Nat) (h : a ≤ b) : piece l (a, b + k) = piece l (a, b) ++ (l.drop b).take k := by
  unfold piece
  simp only
  rw [show b + k - a = (b - a) + k by omega, List.take_add, List.drop_drop, show a + (b - a) = b by omega]
def wordsAt (l : List UInt8) (acc : List (Nat × Nat)) : List (List UInt8) := acc.map (piece l)
/-- What the spans so far have to do with what is canonical so far. -/
structure SpanRel (l : List UInt8) (pos : Nat) (st : Option Nat) (acc : List (Nat × Nat)) : Prop where
  ne : ∀ x ∈ wordsAt l acc, x ≠ []
  opn : ∀ a, st = some a → a < pos ∧ canonS (l.take pos) = (Lib.join (wordsAt l acc ++ [piece l (a, pos)]) [32], false)
  shut : st = none → ∃ f, canonS (l.take pos) = (Lib.join (wordsAt l acc) [32], f) ∧ (f = true ∨ acc = [])
theorem canonS_take_add (l : List UInt8) (p k : Nat) : canonS (l.take (p + k)) = ((l.drop p).take k).foldl canonF (canonS (l.take p)) := by
  rw [List.take_add, canonS, canonS, List.foldl_append]
theorem wordsAt_snoc (l : List UInt8) (acc : List (Nat × Nat)) (x : Nat × Nat) : wordsAt l (acc ++ [x]) = wordsAt l acc ++ [piece l x] := by simp [wordsAt]
def accS (pos : Nat) (acc : List (Nat × Nat)) : Option Nat → List (Nat × Nat)
  | .some a => acc ++ [(a, pos)]
  | .none => acc
def stW (pos : Nat) : Option Nat → Option Nat
  | .some a => .some a
  | .none => .some pos
theorem SpanRel.sep {l : List UInt8} {pos : Nat} {st : Option Nat} {acc : List (Nat × Nat)} (h : SpanRel l pos st acc) (hp : pos < l.length) (hs : sepC l[pos] = true) :
    SpanRel l (pos + 1) none (accS pos acc st) := by
  have h1 : (l.drop pos).take 1 = [l[pos]] := by
    rw [List.drop_eq_getElem_cons hp]; rfl
  match st, h with
  | .some a, h =>
    obtain ⟨h2, h3⟩ := h.opn a rfl
    refine ⟨?_, fun _ e => (by cases e), fun _ => ⟨true, ?_, .inl rfl⟩⟩
    · intro x hx
      rw [show accS pos acc (some a) = acc ++ [(a, pos)] from rfl, wordsAt_snoc, List.mem_append] at hx
      rcases hx with hx | hx
      · exact h.ne x hx
      · simp at hx
        subst hx
        intro e
        have := piece_len l a pos (by omega)
        rw [e] at this
        simp at this
        omega
    · rw [canonS_take_add, h1, h3, show accS pos acc (some a) = acc ++ [(a, pos)] from rfl, wordsAt_snoc]
      simp [canonF, hs]
  | .none, h =>
    obtain ⟨f, h3, h4⟩ := h.shut rfl
    refine ⟨h.ne, fun _ e => (by cases e), fun _ => ⟨true, ?_, .inl rfl⟩⟩
    rw [canonS_take_add, h1, h3]
    simp [canonF, hs, accS]
theorem SpanRel.word {l : List UInt8} {pos n : Nat} {st : Option Nat} {acc : List (Nat × Nat)} (h : SpanRel l pos st acc) (hn : 1 ≤ n) (hp : pos + n ≤ l.length) (hs : ∀ c ∈ (l.drop pos).take n, sepC c = false) :
    SpanRel l (pos + n) (stW pos st) acc := by
  match st, h with
  | .some a, h =>
    obtain ⟨h2, h3⟩ := h.opn a rfl
    refine ⟨h.ne, fun b e => ?_, fun e => (by cases e)⟩
    cases e
    refine ⟨by omega, ?_⟩
    rw [canonS_take_add, h3, fold_plain _ hs, piece_grow l a pos n (by omega), join_snoc, join_snoc]
    split <;> simp
  | .none, h =>
    obtain ⟨f, h3, h4⟩ := h.shut rfl
    refine ⟨h.ne, fun b e => ?_, fun e => (by cases e)⟩
    cases e
    refine ⟨by omega, ?_⟩
    rw [canonS_take_add, h3]
    have hl : ((l.drop pos).take n).length = n := by rw [List.length_take, List.length_drop]; omega
    have e0 : piece l (pos, pos + n) = (l.drop pos).take n := by
      unfold piece
      simp only
      rw [show pos + n - pos = n by omega]
    rw [e0]
    match hm : (l.drop pos).take n, hl, hs with
    | [], hl, _ => simp at hl; omega
    | c :: r, _, hs =>
      rw [fold_word c r hs, join_snoc]
      by_cases ha : acc = []
      · subst ha
        simp [wordsAt, Lib.join_nil]
      · have hw : wordsAt l acc ≠ [] := by simpa [wordsAt] using ha
        have hf : f = true := h4.resolve_right ha
        have hj := join_ne hw h.ne
        rw [if_neg hw, hf]
        simp [hj]
/-- A rune: a byte below 128, or bytes none of which separates words. -/
theorem rune_step (l : List UInt8) (pos : Nat) (hp : pos < l.length) (r n : Nat) (hd : Utf8.decode ⟨l.toArray⟩ pos = (r, n)) :
    1 ≤ n ∧ pos + n ≤ l.length ∧ (sepR r = true → n = 1 ∧ sepC l[pos] = true) ∧ (sepR r = false → ∀ c ∈ (l.drop pos).take n, sepC c = false) := by
  have hlist : (ByteArray.mk l.toArray).data.toList = l := rfl
  have hN := Lib.decode_N ⟨l.toArray⟩ pos
  rw [hlist, hd] at hN
  have hg : ∀ k, pos + k < l.length → (l.getD (pos + k) 0) = (l.drop pos).getD k 0 := fun k _ => by simp [List.getD, List.getElem?_drop]
  have h0 : l.getD pos 0 = l[pos] := by simp [List.getD, hp]
  have hc := Lib.decodeN_conts (l.length - pos) (l.getD pos 0).toNat (l.getD (pos + 1) 0).toNat (l.getD (pos + 2) 0).toNat (l.getD (pos + 3) 0).toNat
  rw [← hN] at hc
  obtain ⟨c2, c3, c4, c5⟩ := hc
  simp only at c2 c3 c4 c5
  have w1 : 1 ≤ n := by
    have := Lib.width_pos ⟨l.toArray⟩ pos
    rw [hd] at this
    exact this
  have w2 : pos + n ≤ l.length := by omega
  have hmem : ∀ c ∈ (l.drop pos).take n, ∃ k, k < n ∧ c = l.getD (pos + k) 0 := by
    intro c hc
    obtain ⟨k, hk, e⟩ := List.getElem_of_mem hc
    rw [List.length_take, List.length_drop] at hk
    refine ⟨k, by omega, ?_⟩
    rw [← e, List.getElem_take, List.getElem_drop]
    simp [List.getD, show pos + k < l.length by omega]
  by_cases ha : l[pos].toNat < 128
  · have e : (r, n) = (l[pos].toNat, 1) := by
      rw [hN, h0]
      unfold Lib.decodeN
      rw [if_pos ha]
    cases e
    refine ⟨w1, w2, fun hs => ⟨rfl, by simpa [sepR, sepC] using hs⟩, fun hs c hc => ?_⟩
    obtain ⟨k, hk, rfl⟩ := hmem c hc
    obtain rfl : k = 0 := by omega
    rw [Nat.add_zero, h0]
    simpa [sepR, sepC] using hs
  · have hr : 128 ≤ r := by
      have e : r = (Lib.decodeN (l.length - pos) (l.getD pos 0).toNat (l.getD (pos + 1) 0).toNat (l.getD (pos + 2) 0).toNat (l.getD (pos + 3) 0).toNat).1 := by rw [← hN]
      rw [e, h0]
      unfold Lib.decodeN
      rw [if_neg ha]
      repeat' split
      all_goals (simp only; omega)
    refine ⟨w1, w2, fun hs => ?_, fun _ c hc => ?_⟩
    · simp [sepR] at hs
      omega
    · obtain ⟨k, hk, rfl⟩ := hmem c hc
      have : 128 ≤ (l.getD (pos + k) 0).toNat := by
        match k, hk with
        | 0, _ => rw [Nat.add_zero, h0]; omega
        | 1, hk => have := (c2 (by omega)).1; omega
        | 2, hk => have := (c3 (by omega)).1; omega
        | 3, hk => have := (c4 (by omega)).1; omega
        | k + 4, hk => omega
      cases e : sepC (l.getD (pos + k) 0) with
      | false => rfl
      | true => rw [sep_toNat] at e; omega
theorem spans_rel (l : List UInt8) : ∀ (f pos : Nat) (st : Option Nat) (acc : List (Nat × Nat)), l.length ≤ pos + f → pos ≤ l.length → SpanRel l pos st acc →
    SpanRel l l.length (Lib.spansFromP sepR ⟨l.toArray⟩ f pos st acc).2 (Lib.spansFromP sepR ⟨l.toArray⟩ f pos st acc).1
  | 0, pos, st, acc, h, hp, hr => by
    obtain rfl : pos = l.length := by omega
    exact hr
  | f + 1, pos, st, acc, h, hp, hr => by
    have hsz : (ByteArray.mk l.toArray).size = l.length := by show l.toArray.size = _; simp
    by_cases hlt : pos < l.length
    · obtain ⟨r, n, hd⟩ : ∃ r n, Utf8.decode ⟨l.toArray⟩ pos = (r, n) := ⟨_, _, rfl⟩
      obtain ⟨w1, w2, w3, w4⟩ := rune_step l pos hlt r n hd
      unfold Lib.spansFromP
      rw [if_pos (by rw [hsz]; exact hlt), hd]
      simp only
      by_cases hs : sepR r = true
      · obtain ⟨rfl, h2⟩ := w3 hs
        rw [if_pos hs]
        have h3 := hr.sep hlt h2
        match st, h3 with
        | some a, h3 => exact spans_rel l f _ _ _ (by omega) (by omega) h3
        | none, h3 => exact spans_rel l f _ _ _ (by omega) (by omega) h3
      · rw [if_neg hs]
        have h3 := hr.word w1 w2 (w4 (by simpa using hs))
        match st, h3 with
        | some a, h3 => exact spans_rel l f _ _ _ (by omega) (by omega) h3
        | none, h3 => exact spans_rel l f _ _ _ (by omega) (by omega) h3
    · obtain rfl : pos = l.length := by omega
      rw [Lib.spansFromP_end _ _ _ _ _ _ (by rw [hsz]; omega)]
      exact hr
theorem extract_piece (l : List UInt8) (a b : Nat) : ((ByteArray.mk l.toArray).extract a b).data.toList = piece l (a, b) := by
  unfold piece
  simp [List.extract]
/-- The words of FieldsFunc, joined by spaces, are what is canonical. -/
theorem words_canon (l : List UInt8) : Lib.join ((Lib.goFieldsP sepR ⟨l.toArray⟩).map (·.data.toList)) [32] = canonN l := by
  have hsz : (ByteArray.mk l.toArray).size = l.length := by show l.toArray.size = _; simp
  have h := spans_rel l l.length 0 none [] (by omega) (by omega) ⟨by simp [wordsAt], fun _ e => (by cases e), fun _ => ⟨false, by simp [canonS, wordsAt, Lib.join_nil], .inr rfl⟩⟩
  have e : (Lib.goFieldsP sepR ⟨l.toArray⟩).map (·.data.toList) = wordsAt l (Lib.spansOfP sepR ⟨l.toArray⟩) := by
    unfold Lib.goFieldsP wordsAt
    rw [List.map_map]
    refine List.map_congr_left fun x _ => ?_
    exact extract_piece l x.1 x.2
  rw [e]
  unfold Lib.spansOfP Lib.closeSpans
  rw [hsz]
  generalize Lib.spansFromP sepR ⟨l.toArray⟩ l.length 0 none [] = x at h
  obtain ⟨acc, st⟩ := x
  match st, h with
  | some a, h =>
    obtain ⟨_, h2⟩ := h.opn a rfl
    rw [List.take_length] at h2
    unfold canonN
    rw [h2, wordsAt_snoc]
  | none, h =>
    obtain ⟨f, h2, _⟩ := h.shut rfl
    rw [List.take_length] at h2
    unfold canonN
    rw [h2]
theorem words_len (l : List UInt8) : (Lib.goFieldsP sepR ⟨l.toArray⟩).length ≤ 2 * l.length + 1 := by
  have h := words_canon l
  have h2 := canonS_len l
  have h3 : (Lib.join ((Lib.goFieldsP sepR ⟨l.toArray⟩).map (·.data.toList)) [32]).length ≤ 2 * l.length := by rw [h]; exact h2
  match hm : Lib.goFieldsP sepR ⟨l.toArray⟩, h3 with
  | [], _ => simp
  | x :: r, h3 =>
    rw [List.map_cons, Lib.join_length] at h3
    simp at h3
    simp only [List.length_cons]
    omega

end

end Go.Proofs.YtpnemekkpifbaaaGreat
