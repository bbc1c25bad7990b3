/- Several texts in one: CtxK, CtxL, CtxA, CtxB. -/
import Derived.Test.YtfmhhmceoikgpaaGreatMN
import Derived.Test.YtfmhhmceoikgpaaGreatMM
namespace Go.Proofs.YtfmhhmceoikgpaaGreat

section
open Go.RowKit

/-- Whether all dots of a list are valid. -/
def okL (l : List (Int × Int)) : Bool := l.all fun p => validD p.1 p.2
theorem okL_iff (l : List (Int × Int)) : okL l = true ↔ ∀ p ∈ l, validD p.1 p.2 = true := by simp [okL, List.all_eq_true]
/-- Which contexts are valid. -/
def validC (v l : List (Int × Int)) : Bool := validV v && (isSetB l && okL l)
/-- Whether a dot is in a context. -/
def hasC (v l : List (Int × Int)) (r c : Int) : Bool := validD r c && (hasV v r c || decide ((r, c) ∈ l))
/-- Whether a dot of the cloud may leave it. -/
def goesC (v : List (Int × Int)) (d : Int × Int) : Bool := hasV v d.1 d.2 || (d.2 == getV v d.1 + 1)
/-- Which contexts are compact. -/
def compC (v l : List (Int × Int)) : Bool := l.all (fun d => !goesC v d) && validC v l
/-- One pass through the cloud. -/
def passC : List (Int × Int) → List (Int × Int) → List (Int × Int) → List (Int × Int) × List (Int × Int)
  | v, rest, [] => (v, rest)
  | v, rest, d :: l => if hasV v d.1 d.2 then passC v rest l else if d.2 = getV v d.1 + 1 then passC (raiseV v d) rest l else passC v (rest ++ [d]) l
/-- At most n passes. -/
def compN : Nat → List (Int × Int) → List (Int × Int) → List (Int × Int) × List (Int × Int)
  | 0, v, l => (v, l)
  | n + 1, v, l => if compC v l then (v, l) else compN n (passC v [] l).1 (passC v [] l).2
/-- The compact context with the same dots. -/
def compactC (v l : List (Int × Int)) : List (Int × Int) × List (Int × Int) := compN l.length v l

theorem validC_iff {v l : List (Int × Int)} : validC v l = true ↔ validV v = true ∧ Inc l ∧ ∀ p ∈ l, validD p.1 p.2 = true := by
  rw [validC, Bool.and_eq_true, Bool.and_eq_true, isSetB_inc, okL_iff]
theorem hasV_iff {v : List (Int × Int)} {r c : Int} : hasV v r c = true ↔ validD r c = true ∧ c ≤ getV v r := by simp [hasV]
theorem hasC_iff {v l : List (Int × Int)} {r c : Int} : hasC v l r c = true ↔ validD r c = true ∧ (hasV v r c = true ∨ (r, c) ∈ l) := by simp [hasC]
theorem compC_iff {v l : List (Int × Int)} : compC v l = true ↔ (∀ d ∈ l, goesC v d = false) ∧ validC v l = true := by simp [compC, List.all_eq_true]
theorem goesC_no {v : List (Int × Int)} {d : Int × Int} (h : goesC v d = false) : hasV v d.1 d.2 = false ∧ d.2 ≠ getV v d.1 + 1 := by simpa [goesC] using h

theorem pass_valid : ∀ {l v rest : List (Int × Int)}, validV v = true → (∀ p ∈ l, validD p.1 p.2 = true) → validV (passC v rest l).1 = true
  | [], _, _, h, _ => h
  | d :: l, v, rest, h, hl => by
    rw [passC]
    split
    · exact pass_valid h fun p hp => hl p (by simp [hp])
    · split
      · exact pass_valid (valid_raiseV h (hl d (by simp))) fun p hp => hl p (by simp [hp])
      · exact pass_valid h fun p hp => hl p (by simp [hp])
theorem pass_sub : ∀ (l v rest : List (Int × Int)), ∃ k, (passC v rest l).2 = rest ++ k ∧ k.Sublist l
  | [], v, rest => ⟨[], by simp [passC], List.Sublist.refl _⟩
  | d :: l, v, rest => by
    rw [passC]
    split
    · obtain ⟨k, h1, h2⟩ := pass_sub l v rest
      exact ⟨k, h1, h2.cons _⟩
    · split
      · obtain ⟨k, h1, h2⟩ := pass_sub l (raiseV v d) rest
        exact ⟨k, h1, h2.cons _⟩
      · obtain ⟨k, h1, h2⟩ := pass_sub l v (rest ++ [d])
        exact ⟨d :: k, by rw [h1]; simp, h2.cons_cons _⟩
theorem pass_len (l v rest : List (Int × Int)) : (passC v rest l).2.length ≤ rest.length + l.length := by
  obtain ⟨k, h1, h2⟩ := pass_sub l v rest
  rw [h1, List.length_append]
  have := h2.length_le
  omega
theorem pass_less : ∀ {l v rest : List (Int × Int)} {d : Int × Int}, d ∈ l → goesC v d = true → (passC v rest l).2.length < rest.length + l.length
  | [], _, _, _, h, _ => absurd h (by simp)
  | x :: l, v, rest, d, h, hg => by
    rw [passC]
    split
    · have := pass_len l v rest
      simp only [List.length_cons]; omega
    · split
      · have := pass_len l (raiseV v x) rest
        simp only [List.length_cons]; omega
      · rename_i h1 h2
        have hd : d ∈ l := by
          rcases List.mem_cons.1 h with rfl | h
          · simp [goesC, h1, h2] at hg
          · exact h
        have := pass_less (rest := rest ++ [x]) hd hg
        simp only [List.length_append, List.length_cons, List.length_nil] at this ⊢; omega
theorem raise_next {v : List (Int × Int)} {d : Int × Int} (hv : validV v = true) (hd : validD d.1 d.2 = true) (hn : d.2 = getV v d.1 + 1) (r c : Int) : hasV (raiseV v d) r c = true ↔ hasV v r c = true ∨ (r, c) = d := by
  rw [hasV_iff, hasV_iff, get_raiseV hv hd]
  constructor
  · rintro ⟨h1, h2⟩
    split at h2
    · rename_i e
      subst e
      rcases Int.lt_or_le (getV v d.1) c with h | h
      · right
        have : c = d.2 := by omega
        rw [this]
      · exact .inl ⟨h1, h⟩
    · exact .inl ⟨h1, h2⟩
  · rintro (⟨h1, h2⟩ | h)
    · refine ⟨h1, ?_⟩
      split <;> omega
    · cases h
      rw [if_pos rfl]
      exact ⟨hd, by omega⟩
theorem pass_has : ∀ {l v rest : List (Int × Int)}, validV v = true → (∀ p ∈ l, validD p.1 p.2 = true) → ∀ r c, ((hasV (passC v rest l).1 r c = true ∨ (r, c) ∈ (passC v rest l).2) ↔ (hasV v r c = true ∨ (r, c) ∈ rest ∨ (r, c) ∈ l))
  | [], v, rest, _, _, r, c => by simp [passC]
  | d :: l, v, rest, h, hl, r, c => by
    have hl' : ∀ p ∈ l, validD p.1 p.2 = true := fun p hp => hl p (by simp [hp])
    have hd := hl d (by simp)
    rw [passC]
    split
    · rename_i hh
      rw [pass_has h hl' r c, List.mem_cons]
      constructor
      · rintro (h1 | h1 | h1) <;> simp [h1]
      · rintro (h1 | h1 | h1 | h1)
        · exact .inl h1
        · exact .inr (.inl h1)
        · cases h1; exact .inl hh
        · exact .inr (.inr h1)
    · split
      · rename_i hh hn
        rw [pass_has (valid_raiseV h hd) hl' r c, raise_next h hd hn, List.mem_cons]
        constructor
        · rintro ((h1 | h1) | h1 | h1) <;> simp [h1]
        · rintro (h1 | h1 | h1 | h1) <;> simp [h1]
      · rw [pass_has h hl' r c, List.mem_append, List.mem_singleton, List.mem_cons]
        constructor
        · rintro (h1 | (h1 | h1) | h1) <;> simp [h1]
        · rintro (h1 | h1 | h1 | h1) <;> simp [h1]
theorem pass_validC {v l : List (Int × Int)} (h : validC v l = true) : validC (passC v [] l).1 (passC v [] l).2 = true := by
  obtain ⟨h1, h2, h3⟩ := validC_iff.1 h
  obtain ⟨k, e, hk⟩ := pass_sub l v []
  rw [List.nil_append] at e
  refine validC_iff.2 ⟨pass_valid h1 h3, ?_, ?_⟩
  · rw [e]; exact List.Pairwise.sublist hk h2
  · rw [e]; exact fun p hp => h3 p (hk.subset hp)
theorem pass_hasC {v l : List (Int × Int)} (h : validC v l = true) (r c : Int) : hasC (passC v [] l).1 (passC v [] l).2 r c = hasC v l r c := by
  obtain ⟨h1, h2, h3⟩ := validC_iff.1 h
  rw [Bool.eq_iff_iff, hasC_iff, hasC_iff, pass_has h1 h3]
  simp

theorem compN_has : ∀ (n : Nat) {v l : List (Int × Int)}, validC v l = true → ∀ r c, hasC (compN n v l).1 (compN n v l).2 r c = hasC v l r c
  | 0, _, _, _, _, _ => rfl
  | n + 1, v, l, h, r, c => by
    rw [compN]
    split
    · rfl
    · rw [compN_has n (pass_validC h), pass_hasC h]
theorem not_comp {v l : List (Int × Int)} (h : validC v l = true) (hc : compC v l = false) : ∃ d ∈ l, goesC v d = true := by
  rcases Classical.em (∃ d ∈ l, goesC v d = true) with h1 | h1
  · exact h1
  · have : compC v l = true := compC_iff.2 ⟨fun d hd => by
      cases e : goesC v d
      · rfl
      · exact absurd ⟨d, hd, e⟩ h1, h⟩
    rw [this] at hc; cases hc
theorem compN_comp : ∀ (n : Nat) {v l : List (Int × Int)}, validC v l = true → l.length ≤ n → compC (compN n v l).1 (compN n v l).2 = true
  | 0, v, l, h, hl => by
    have : l = [] := List.eq_nil_of_length_eq_zero (by omega)
    subst this
    exact compC_iff.2 ⟨(fun d hd => by cases hd), h⟩
  | n + 1, v, l, h, hl => by
    rw [compN]
    split
    · rename_i hc; exact hc
    · rename_i hc
      obtain ⟨d, hd, hg⟩ := not_comp h (Bool.eq_false_iff.2 hc)
      have := pass_less (rest := []) hd hg
      simp only [List.length_nil, Nat.zero_add] at this
      exact compN_comp n (pass_validC h) (by omega)
theorem compactC_comp {v l : List (Int × Int)} (h : validC v l = true) : compC (compactC v l).1 (compactC v l).2 = true := compN_comp _ h (Nat.le_refl _)
theorem compactC_has {v l : List (Int × Int)} (h : validC v l = true) (r c : Int) : hasC (compactC v l).1 (compactC v l).2 r c = hasC v l r c := compN_has _ h r c

theorem comp_get_le {v l v' l' : List (Int × Int)} (h : compC v l = true) (h' : compC v' l' = true) (hh : ∀ r c, hasC v' l' r c = true → hasC v l r c = true) (r : Int) : getV v' r ≤ getV v r := by
  obtain ⟨h1, h2⟩ := compC_iff.1 h
  obtain ⟨_, h4⟩ := compC_iff.1 h'
  obtain ⟨hv, _, _⟩ := validC_iff.1 h2
  obtain ⟨hv', _, _⟩ := validC_iff.1 h4
  rcases Int.lt_or_le (getV v r) (getV v' r) with hlt | hle
  · exfalso
    have h0 := getV_nonneg ((validV_iff v).1 hv).1 r
    have hm := getV_of_pos (v := v') (r := r) (by omega)
    have hd := ((validV_iff v').1 hv').1 _ hm
    have hd2 : validD r (getV v r + 1) = true := by
      simp [validD] at hd ⊢
      omega
    have h3 := hh r (getV v r + 1) (hasC_iff.2 ⟨hd2, .inl (hasV_iff.2 ⟨hd2, by omega⟩)⟩)
    rcases (hasC_iff.1 h3).2 with h5 | h5
    · have := (hasV_iff.1 h5).2
      omega
    · exact (goesC_no (h1 _ h5)).2 rfl
  · exact hle
/-- Two compact contexts with the same dots are the same. -/
theorem comp_unique {v l v' l' : List (Int × Int)} (h : compC v l = true) (h' : compC v' l' = true) (hh : ∀ r c, hasC v l r c = hasC v' l' r c) : v = v' ∧ l = l' := by
  obtain ⟨h1, h2⟩ := compC_iff.1 h
  obtain ⟨h3, h4⟩ := compC_iff.1 h'
  obtain ⟨hv, hi, hl⟩ := validC_iff.1 h2
  obtain ⟨hv', hi', hl'⟩ := validC_iff.1 h4
  have e : v = v' := validV_ext hv hv' fun r => by
    have a := comp_get_le h h' (fun r c hx => by rw [hh]; exact hx) r
    have b := comp_get_le h' h (fun r c hx => by rw [← hh]; exact hx) r
    omega
  refine ⟨e, hi.ext hi' fun d => ?_⟩
  subst e
  have hd := hh d.1 d.2
  rw [Bool.eq_iff_iff, hasC_iff, hasC_iff] at hd
  constructor
  · intro hm
    rcases (hd.1 ⟨hl d hm, .inr hm⟩).2 with h5 | h5
    · rw [(goesC_no (h1 d hm)).1] at h5; cases h5
    · exact h5
  · intro hm
    rcases (hd.2 ⟨hl' d hm, .inr hm⟩).2 with h5 | h5
    · rw [(goesC_no (h3 d hm)).1] at h5; cases h5
    · exact h5
theorem compactC_self {v l : List (Int × Int)} (h : compC v l = true) : compactC v l = (v, l) := by
  unfold compactC
  cases l with
  | nil => rfl
  | cons x l => rw [List.length_cons, compN, if_pos h]
/-- Whatever compact context has the same dots is the one that compaction returns. -/
theorem compactC_eq {v l v' l' : List (Int × Int)} (h : validC v l = true) (h' : compC v' l' = true) (hh : ∀ r c, hasC v' l' r c = hasC v l r c) : compactC v l = (v', l') := by
  obtain ⟨e1, e2⟩ := comp_unique (compactC_comp h) h' fun r c => by rw [compactC_has h, hh]
  rw [← e1, ← e2]
/-- The cloud with more dots. -/
theorem validC_more {v l m : List (Int × Int)} (hv : validV v = true) (hl : ∀ p ∈ l, validD p.1 p.2 = true) (hm : ∀ p ∈ m, validD p.1 p.2 = true) : validC v (setL (l ++ m)) = true :=
  validC_iff.2 ⟨hv, inc_setL _, fun p hp => by
    rw [mem_setL, List.mem_append] at hp
    exact hp.elim (hl p) (hm p)⟩
/-- The compact context with some dots more, with the dots of two. -/
def addC (v l m : List (Int × Int)) : List (Int × Int) × List (Int × Int) := compactC v (setL (l ++ m))
theorem addC_valid {v l m : List (Int × Int)} (h : validC v l = true) (hm : ∀ p ∈ m, validD p.1 p.2 = true) : validC v (setL (l ++ m)) = true :=
  validC_more (validC_iff.1 h).1 (validC_iff.1 h).2.2 hm
theorem addC_comp {v l m : List (Int × Int)} (h : validC v l = true) (hm : ∀ p ∈ m, validD p.1 p.2 = true) : compC (addC v l m).1 (addC v l m).2 = true := compactC_comp (addC_valid h hm)
theorem addC_has {v l m : List (Int × Int)} (h : validC v l = true) (hm : ∀ p ∈ m, validD p.1 p.2 = true) (r c : Int) : hasC (addC v l m).1 (addC v l m).2 r c = (hasC v l r c || decide ((r, c) ∈ m)) := by
  rw [addC, compactC_has (addC_valid h hm), Bool.eq_iff_iff, Bool.or_eq_true, hasC_iff, hasC_iff, mem_setL, List.mem_append, decide_eq_true_eq]
  constructor
  · rintro ⟨h1, h2 | h2 | h2⟩
    · exact .inl ⟨h1, .inl h2⟩
    · exact .inl ⟨h1, .inr h2⟩
    · exact .inr h2
  · rintro (⟨h1, h2 | h2⟩ | h2)
    · exact ⟨h1, .inl h2⟩
    · exact ⟨h1, .inr (.inl h2)⟩
    · exact ⟨hm _ h2, .inr (.inr h2)⟩
/-- The order of the dots does not matter, nor how often each of them comes. -/
theorem addC_congr {v l m m' : List (Int × Int)} (h : ∀ d, d ∈ m ↔ d ∈ m') : addC v l m = addC v l m' := by
  unfold addC
  rw [setL_congr (xs := l ++ m) (ys := l ++ m') fun d => by rw [List.mem_append, List.mem_append, h]]
/-- Those of some dots that are not in a context. -/
def missC (v l m : List (Int × Int)) : List (Int × Int) := setL (m.filter fun d => !hasC v l d.1 d.2)

end

section
open Go.RowKit

theorem inc_nodup {l : List (Int × Int)} (h : Inc l) : l.Nodup := List.Pairwise.imp (fun {a b} hab e => by subst e; rw [ltD_irrefl] at hab; cases hab) h
end

section
open Go.RowKit

/-- What holds all along: some cells, the heap as it lay, some lists of dots. -/
def KX (w0 : World) (C : List (Addr × Value)) (L : List (Value × List (Int × Int))) (W : World) : Prop :=
  (∀ p ∈ C, W.cell? p.1 = some p.2 ∧ p.1.block < W.heap.size) ∧ Below w0.heap.size w0 W ∧ ∀ p ∈ L, Holds W p.1 p.2
section
variable {w0 : World} {C : List (Addr × Value)} {L : List (Value × List (Int × Int))} {W W' : World}
theorem KX.below (h : KX w0 C L W) (hb : Below W.heap.size W W') : KX w0 C L W' :=
  ⟨fun p hp => ⟨(hb.cell (h.1 p hp).2).trans (h.1 p hp).1, Nat.lt_of_lt_of_le (h.1 p hp).2 hb.size⟩, below_trans h.2.1 hb, fun p hp => (h.2.2 p hp).below hb⟩
theorem KX.alloc (h : KX w0 C L W) (o : Obj) : KX w0 C L (W.alloc o) := h.below ((Below.refl _ W).alloc (Nat.le_refl _) o)
theorem KX.drew (h : KX w0 C L W) : KX w0 C L W.drew := h.below (Below.refl _ W).drew
theorem KX.far (h : KX w0 C L W) (p : FarBy) : KX w0 C L (Go.Proofs.YtfmhhmceoikgpaaGreat.far W p) := h.below (below_far W p)
theorem KX.bel (h : KX w0 C L W) : Below w0.heap.size w0 W := h.2.1
theorem KX.cell {a : Addr} {v : Value} (h : KX w0 C L W) (hm : (a, v) ∈ C) : W.cell? a = some v := (h.1 _ hm).1
theorem KX.lt {a : Addr} {v : Value} (h : KX w0 C L W) (hm : (a, v) ∈ C) : a.block < W.heap.size := (h.1 _ hm).2
theorem KX.h {v : Value} {xs : List (Int × Int)} (h : KX w0 C L W) (hm : (v, xs) ∈ L) : Holds W v xs := h.2.2 _ hm
theorem KX.push {v : Value} {xs : List (Int × Int)} (h : KX w0 C L W) (hv : Holds W v xs) : KX w0 C ((v, xs) :: L) W :=
  ⟨h.1, h.2.1, fun p hp => by
    rcases List.mem_cons.1 hp with rfl | hp
    · exact hv
    · exact h.2.2 p hp⟩
theorem KX.nil (W : World) : KX W [] [] W := ⟨(fun p hp => by cases hp), Below.refl _ _, (fun p hp => by cases hp)⟩
/-- A block of two cells is laid. -/
theorem KX.box (h : KX w0 C L W) (x y : Value) (t : TypeId) : KX w0 ((⟨W.heap.size, 0, none⟩, x) :: (⟨W.heap.size, 1, none⟩, y) :: C) L (W.alloc (.cells #[x, y] t)) := by
  have h2 := h.alloc (.cells #[x, y] t)
  refine ⟨fun p hp => ?_, h2.2.1, h2.2.2⟩
  rcases List.mem_cons.1 hp with rfl | hp
  · exact ⟨by go_simp, by simp⟩
  · rcases List.mem_cons.1 hp with rfl | hp
    · exact ⟨by go_simp, by simp⟩
    · exact h2.1 p hp
end

set_option maxHeartbeats 1000000 in
theorem ref3Dots (A : Option Addr) (xs : List (Int × Int)) (cap : Nat) (w : World) (hx : DotsAt w A xs) (hm : xs.length ≤ maxLen) :
    Calls Tryz.prog 99 #[.slice A xs.length cap] w fun e w' => e = .returned (.bool (okL xs)) ∧ Below w.heap.size w w' := by
  unfold maxLen at hm
  go_enter Tryz.func99, Tryz.ntmps99
  go_wp2
  go_loopw [3] (fun i wr => ∃ m : Nat, m ≤ xs.length ∧ i = .int .i64 m ∧ Below w.heap.size w wr ∧ Hid (∀ j p, j < m → xs[j]? = some p → validD p.1 p.2 = true)) (fun i _ => xs.length - (intOf i).toNat)
  case atStart => exact ⟨0, by omega, rfl, Below.refl _ _, fun j p h => by omega⟩
  case round =>
    obtain ⟨m, hk2, rfl, hb, hs⟩ := hrel
    by_cases hlt : m < xs.length
    · obtain ⟨b, off, r, c, rfl, hbl, hx1, hc0, hc1⟩ := (hx.below hb).dot (j := m) hlt
      have hr := fun W => refValid r c W
      cases hq : validD r c
      · rw [hq] at hr
        have HR := Lib.hid hr
        have HV := Lib.hid (show okL xs = false from by
          cases e : okL xs
          · rfl
          · have := (okL_iff xs).1 e (r, c) (List.mem_of_getElem? hx1)
            rw [hq] at this; cases this)
        clear hr hq hx1
        go_wp2_with fail
        refine (HR.out _).mono ?_
        rintro e w1 ⟨rfl, hb1⟩
        clear hc0 hc1
        go_wp2
        go_ret
        exact ⟨ret_bool HV.out.symm, hb.trans (hb1.mono hb.size)⟩
      · rw [hq] at hr
        have HR := Lib.hid hr
        have HV := Lib.hid (show ∀ j p, j < m + 1 → xs[j]? = some p → validD p.1 p.2 = true from fun j p hj hp => by
          by_cases e : j = m
          · subst e; rw [hx1] at hp; cases hp; exact hq
          · exact hs.out j p (by omega) hp)
        clear hr hq hx1
        go_wp2_with fail
        refine (HR.out _).mono ?_
        rintro e w1 ⟨rfl, hb1⟩
        clear hc0 hc1
        go_wp2
        go_roundw
        case rel => exact ⟨m + 1, by omega, by go_num, hb.trans (hb1.mono hb.size), HV⟩
        case measure => simp [intOf]; omega
    · have HV := Lib.hid (show okL xs = true from (okL_iff xs).2 fun p hp => by
        obtain ⟨j, hj⟩ := List.mem_iff_getElem?.1 hp
        have hl := (List.getElem?_eq_some_iff.1 hj).1
        exact hs.out j p (by omega) hj)
      go_wp2
      go_ret
      exact ⟨ret_bool HV.out.symm, hb⟩

theorem ref3Dots_h (v : Value) (xs : List (Int × Int)) (b : Bool) (w : World) (h : Holds w v xs) (hb : okL xs = b) :
    Calls Tryz.prog 99 #[v] w fun e w' => e = .returned (.bool b) ∧ Below w.heap.size w w' := by
  obtain ⟨A, c, rfl, h1, h2, h3⟩ := h
  subst hb
  exact ref3Dots A xs c w h1 (Nat.le_trans h2 h3)
theorem refIsSet_h3 (v : Value) (xs : List (Int × Int)) (b : Bool) (w : World) (h : Holds w v xs) (hb : isSetB xs = b) :
    Calls Tryz.prog 98 #[v] w fun e w' => e = .returned (.bool b) ∧ Below w.heap.size w w' := by
  obtain ⟨A, c, rfl, h1, h2, h3⟩ := h
  subst hb
  exact refIsSet A xs c w h1 (Nat.le_trans h2 h3)
theorem ref2Valid_h3 (v : Value) (xs : List (Int × Int)) (b : Bool) (w : World) (h : Holds w v xs) (hb : validV xs = b) :
    Calls Tryz.prog 97 #[v] w fun e w' => e = .returned (.bool b) ∧ Below w.heap.size w w' := by
  obtain ⟨A, c, rfl, h1, h2, h3⟩ := h
  subst hb
  exact ref2Valid A xs c w h1 (Nat.le_trans h2 h3)
theorem same_h3 (v v' : Value) (xs ys : List (Int × Int)) (b : Bool) (w : World) (h : Holds w v xs) (h' : Holds w v' ys) (hb : decide (xs = ys) = b) :
    Calls Tryz.prog 30 #[v, v'] w fun e w' => e = .returned (.bool b) ∧ Below w.heap.size w w' := by
  obtain ⟨A, c, rfl, h1, h2, h3⟩ := h
  obtain ⟨A', c', rfl, h1', h2', h3'⟩ := h'
  subst hb
  exact refSame A A' xs ys c c' w h1 h1' (Nat.le_trans h2 h3) (Nat.le_trans h2' h3')

/-- A context that is handed in. -/
def HoldsC (W : World) (v : Value) (vs ls : List (Int × Int)) : Prop := ∃ A n B m, v = .agg #[.slice A vs.length n, .slice B ls.length m] ∧ Holds W (.slice A vs.length n) vs ∧ Holds W (.slice B ls.length m) ls
theorem HoldsC.below {W W' : World} {v : Value} {vs ls : List (Int × Int)} (h : HoldsC W v vs ls) (hb : Below W.heap.size W W') : HoldsC W' v vs ls := by
  obtain ⟨A, n, B, m, rfl, h1, h2⟩ := h
  exact ⟨A, n, B, m, rfl, h1.below hb, h2.below hb⟩
theorem HoldsC.mk {W : World} {x y : Value} {vs ls : List (Int × Int)} (h : Holds W x vs) (h' : Holds W y ls) : HoldsC W (.agg #[x, y]) vs ls := by
  have h0 := h
  have h0' := h'
  obtain ⟨A, n, rfl, _⟩ := h
  obtain ⟨B, m, rfl, _⟩ := h'
  exact ⟨A, n, B, m, rfl, h0, h0'⟩

set_option maxHeartbeats 1000000 in
theorem ref3Valid (v : Value) (vs ls : List (Int × Int)) (b : Bool) (w : World) (h : HoldsC w v vs ls) (hb : validC vs ls = b) :
    Calls Tryz.prog 51 #[v] w fun e w' => e = .returned (.bool b) ∧ Below w.heap.size w w' := by
  obtain ⟨A, n, B, m, rfl, h1, h2⟩ := h
  have K := Lib.hid ((((KX.nil w).push h1).push h2).box (.slice A vs.length n) (.slice B ls.length m) 25)
  clear h1 h2
  unfold validC at hb
  cases hv : validV vs with
  | false =>
    rw [hv] at hb
    have HB := Lib.hid (show false = b from hb)
    have HV := Lib.hid fun v W (h : Holds W v vs) => ref2Valid_h3 v vs false W h hv
    clear hb hv
    go_enter Tryz.func51, Tryz.ntmps51
    go_wp2_with fail
    refine (HV.out _ _ (K.out.h (by simp))).mono ?_
    rintro e w1 ⟨rfl, hb1⟩
    have K1 := Lib.hid (K.out.below hb1)
    clear hb1
    go_wp2
    go_ret
    exact ⟨ret_bool HB.out, K1.out.bel⟩
  | true =>
    have HV := Lib.hid fun v W (h : Holds W v vs) => ref2Valid_h3 v vs true W h hv
    rw [hv] at hb
    cases hs : isSetB ls with
    | false =>
      rw [hs] at hb
      have HB := Lib.hid (show false = b from hb)
      have HS := Lib.hid fun v W (h : Holds W v ls) => refIsSet_h3 v ls false W h hs
      clear hb hv hs
      go_enter Tryz.func51, Tryz.ntmps51
      go_wp2_with fail
      refine (HV.out _ _ (K.out.h (by simp))).mono ?_
      rintro e w1 ⟨rfl, hb1⟩
      have K1 := Lib.hid (K.out.below hb1)
      have k2 := K1.out.cell (a := ⟨w.heap.size, 1, none⟩) (v := .slice B ls.length m) (by simp)
      clear hb1
      go_wp2_with fail
      refine (HS.out _ _ (K1.out.h (by simp))).mono ?_
      rintro e w2 ⟨rfl, hb1⟩
      have K2 := Lib.hid (K1.out.below hb1)
      clear hb1 k2
      go_wp2
      go_ret
      exact ⟨ret_bool HB.out, K2.out.bel⟩
    | true =>
      have HS := Lib.hid fun v W (h : Holds W v ls) => refIsSet_h3 v ls true W h hs
      rw [hs] at hb
      have HB := Lib.hid (show okL ls = b from hb)
      have HD := Lib.hid fun v W (h : Holds W v ls) => ref3Dots_h v ls b W h HB.out
      clear hb hv hs
      go_enter Tryz.func51, Tryz.ntmps51
      go_wp2_with fail
      refine (HV.out _ _ (K.out.h (by simp))).mono ?_
      rintro e w1 ⟨rfl, hb1⟩
      have K1 := Lib.hid (K.out.below hb1)
      have k2 := K1.out.cell (a := ⟨w.heap.size, 1, none⟩) (v := .slice B ls.length m) (by simp)
      clear hb1
      go_wp2_with fail
      refine (HS.out _ _ (K1.out.h (by simp))).mono ?_
      rintro e w2 ⟨rfl, hb1⟩
      have K2 := Lib.hid (K1.out.below hb1)
      clear k2
      have k2 := K2.out.cell (a := ⟨w.heap.size, 1, none⟩) (v := .slice B ls.length m) (by simp)
      clear hb1
      go_wp2_with fail
      refine (HD.out _ _ (K2.out.h (by simp))).mono ?_
      rintro e w3 ⟨rfl, hb1⟩
      have K3 := Lib.hid (K2.out.below hb1)
      clear hb1 k2
      go_wp2
      go_ret
      exact ⟨rfl, K3.out.bel⟩

set_option maxHeartbeats 1000000 in
theorem ref3Equal (v v' : Value) (vs ls vs' ls' : List (Int × Int)) (b : Bool) (w : World) (h : HoldsC w v vs ls) (h' : HoldsC w v' vs' ls') (hb : (decide (vs = vs') && decide (ls = ls')) = b) :
    Calls Tryz.prog 46 #[v, v'] w fun e w' => e = .returned (.bool b) ∧ Below w.heap.size w w' := by
  obtain ⟨A, n, B, m, rfl, h1, h2⟩ := h
  obtain ⟨A', n', B', m', rfl, h1', h2'⟩ := h'
  have K := ((((((KX.nil w).push h1).push h2).push h1').push h2').box (.slice A vs.length n) (.slice B ls.length m) 25).box (.slice A' vs'.length n') (.slice B' ls'.length m') 25
  rw [World.size_alloc] at K
  have K := Lib.hid K
  clear h1 h2 h1' h2'
  cases hv : decide (vs = vs') with
  | false =>
    rw [hv] at hb
    have HB := Lib.hid (show false = b from hb)
    have HV := Lib.hid fun v v' W (h : Holds W v vs) (h' : Holds W v' vs') => same_h3 v v' vs vs' false W h h' hv
    clear hb hv
    go_enter Tryz.func46, Tryz.ntmps46
    go_wp2_with fail
    refine (HV.out _ _ _ (K.out.h (by simp)) (K.out.h (by simp))).mono ?_
    rintro e w1 ⟨rfl, hb1⟩
    have K1 := Lib.hid (K.out.below hb1)
    clear hb1
    go_wp2
    go_ret
    exact ⟨ret_bool HB.out, K1.out.bel⟩
  | true =>
    have HV := Lib.hid fun v v' W (h : Holds W v vs) (h' : Holds W v' vs') => same_h3 v v' vs vs' true W h h' hv
    rw [hv, Bool.true_and] at hb
    have HS := Lib.hid fun v v' W (h : Holds W v ls) (h' : Holds W v' ls') => same_h3 v v' ls ls' b W h h' hb
    clear hb hv
    go_enter Tryz.func46, Tryz.ntmps46
    go_wp2_with fail
    refine (HV.out _ _ _ (K.out.h (by simp)) (K.out.h (by simp))).mono ?_
    rintro e w1 ⟨rfl, hb1⟩
    have K1 := Lib.hid (K.out.below hb1)
    have k2 := K1.out.cell (a := ⟨w.heap.size, 1, none⟩) (v := .slice B ls.length m) (by simp)
    have k3 := K1.out.cell (a := ⟨w.heap.size + 1, 1, none⟩) (v := .slice B' ls'.length m') (by simp)
    clear hb1
    go_wp2_with fail
    refine (HS.out _ _ _ (K1.out.h (by simp)) (K1.out.h (by simp))).mono ?_
    rintro e w2 ⟨rfl, hb1⟩
    have K2 := Lib.hid (K1.out.below hb1)
    clear hb1 k2 k3
    go_wp2
    go_ret
    exact ⟨rfl, K2.out.bel⟩

end

section
open Go.RowKit

/-- As the reference reckons it, in 64 bits. -/
def goesW (v : List (Int × Int)) (d : Int × Int) : Bool := hasV v d.1 d.2 || (d.2 == wrap64 (getV v d.1 + 1))
theorem getV_top {v : List (Int × Int)} (h : validV v = true) (r : Int) : 0 ≤ getV v r ∧ getV v r ≤ 4294967295 := by
  have h0 := getV_nonneg ((validV_iff v).1 h).1 r
  by_cases e : getV v r = 0
  · omega
  · have hd := ((validV_iff v).1 h).1 _ (getV_of_pos e)
    simp [validD] at hd
    omega
theorem goesW_eq {v : List (Int × Int)} (h : validV v = true) (d : Int × Int) : goesW v d = goesC v d := by
  unfold goesW goesC
  have := getV_top h d.1
  rw [show wrap64 (getV v d.1 + 1) = getV v d.1 + 1 by unfold wrap64; omega]
theorem compC_no {vs ls : List (Int × Int)} {d : Int × Int} (hd : d ∈ ls) (hg : goesW vs d = true) : compC vs ls = false := by
  cases e : compC vs ls
  · rfl
  · obtain ⟨h1, h2⟩ := compC_iff.1 e
    have := h1 d hd
    rw [← goesW_eq (validC_iff.1 h2).1, hg] at this; cases this
theorem compC_all {vs ls : List (Int × Int)} (h : ∀ d ∈ ls, goesW vs d = false) : compC vs ls = validC vs ls := by
  cases e : validC vs ls
  · unfold compC; rw [e, Bool.and_false]
  · exact compC_iff.2 ⟨fun d hd => by rw [← goesW_eq (validC_iff.1 e).1]; exact h d hd, e⟩

theorem KX.drop2 {w0 W : World} {a b : Addr × Value} {C : List (Addr × Value)} {L : List (Value × List (Int × Int))} (h : KX w0 (a :: b :: C) L W) : KX w0 C L W := ⟨fun p hp => h.1 p (by simp [hp]), h.2.1, h.2.2⟩

set_option maxRecDepth 100000 in
set_option maxHeartbeats 2000000 in
theorem ref3IsCompact (v : Value) (vs ls : List (Int × Int)) (b : Bool) (w : World) (h : HoldsC w v vs ls) (hb : compC vs ls = b) :
    Calls Tryz.prog 40 #[v] w fun e w' => e = .returned (.bool b) ∧ Below w.heap.size w w' := by
  obtain ⟨A, n, B, m0, rfl, h1, h2⟩ := h
  have LA : vs.length ≤ maxLen := by obtain ⟨_, _, h, _, h2, h3⟩ := h1; omega
  have LB : ls.length ≤ maxLen := by obtain ⟨_, _, h, _, h2, h3⟩ := h2; omega
  have K := Lib.hid ((((KX.nil w).push h1).push h2).box (.slice A vs.length n) (.slice B ls.length m0) 25)
  have LA2 := Lib.hid LA
  unfold maxLen at LA LB
  have HB := Lib.hid hb
  clear h1 h2 hb
  go_enter Tryz.func40, Tryz.ntmps40
  go_wp2_with fail
  go_loopw [3] (fun i wr => ∃ m : Nat, m ≤ ls.length ∧ i = .int .i64 m ∧ Hid (KX w [(⟨w.heap.size, 0, none⟩, .slice A vs.length n), (⟨w.heap.size, 1, none⟩, .slice B ls.length m0)] [(.slice B ls.length m0, ls), (.slice A vs.length n, vs)] wr) ∧ Hid (∀ j p, j < m → ls[j]? = some p → goesW vs p = false)) (fun i _ => ls.length - (intOf i).toNat)
  case atStart => exact ⟨0, by omega, rfl, K, fun j p h => by omega⟩
  case round =>
    obtain ⟨m, hk2, rfl, hK, hs⟩ := hrel
    have c0 := hK.out.cell (a := ⟨w.heap.size, 0, none⟩) (v := .slice A vs.length n) (by simp)
    have c1 := hK.out.cell (a := ⟨w.heap.size, 1, none⟩) (v := .slice B ls.length m0) (by simp)
    by_cases hlt : m < ls.length
    · have hx : DotsAt wr B ls := by
        obtain ⟨A', c', e, h, _⟩ := hK.out.h (v := .slice B ls.length m0) (xs := ls) (by simp)
        cases e; exact h
      obtain ⟨bb, off, r, c, rfl, hbl, hx1, hc0, hc1⟩ := hx.dot (j := m) hlt
      have hva : DotsAt wr A vs := by
        obtain ⟨A', c', e, h, _⟩ := hK.out.h (v := .slice A vs.length n) (xs := vs) (by simp)
        cases e; exact h
      have KW := hK.out.box (.int .i64 r) (.int .i64 c) 63
      have hal : Below wr.heap.size wr (wr.alloc (.cells #[.int .i64 r, .int .i64 c] 63)) := (Below.refl _ wr).alloc (Nat.le_refl _) _
      have l0 := fun p => (KW.far p).cell (a := ⟨w.heap.size, 0, none⟩) (v := .slice A vs.length n) (by simp)
      have l2 := fun p => (KW.far p).cell (a := ⟨wr.heap.size, 0, none⟩) (v := .int .i64 r) (by simp)
      have l3 := fun p => (KW.far p).cell (a := ⟨wr.heap.size, 1, none⟩) (v := .int .i64 c) (by simp)
      have HH := fun p => ref2Has A vs n r c _ ((hva.below hal).far p) LA2.out
      have HG := fun p => ref2Get A vs n r _ ((hva.below hal).far p) LA2.out
      have HK := Lib.hid KW
      clear KW hx hva hal
      obtain ⟨bh, hbh⟩ : ∃ bh, hasV vs r c = bh := ⟨_, rfl⟩
      obtain ⟨g, hg⟩ : ∃ g, getV vs r = g := ⟨_, rfl⟩
      simp only [hbh] at HH
      simp only [hg] at HG
      have hgo : goesW vs (r, c) = (bh || (c == wrap64 (g + 1))) := by unfold goesW; rw [hbh, hg]
      have HH := Lib.hid HH
      have HG := Lib.hid HG
      cases bh with
      | true =>
        have HN := Lib.hid (show b = false from by rw [← HB.out]; exact compC_no (List.mem_of_getElem? hx1) (by rw [hgo]; rfl))
        clear hbh hg hgo hx1
        go_wp2_with fail
        generalize wr.alloc (.cells #[.int .i64 r, .int .i64 c] 63) = W at *
        refine wp_region_far (by kernel_rfl) (by kernel_rfl) ?_
        repeat (go_big_quiet_step ((first | (go_at_call 84; exact far_of (HH.out _)) | (go_at_call 85; exact far_of (HG.out _)))))
        refine wpQuiet_nil ?_
        rintro _ ⟨p, rfl⟩
        go_wp2
        go_ret
        exact ⟨ret_bool HN.out.symm, (HK.out.far p).bel⟩
      | false =>
        cases hn : (c == wrap64 (g + 1)) with
        | true =>
          have HN := Lib.hid (show b = false from by rw [← HB.out]; exact compC_no (List.mem_of_getElem? hx1) (by rw [hgo, hn]; rfl))
          clear hbh hg hgo hx1
          go_wp2_with fail
          generalize wr.alloc (.cells #[.int .i64 r, .int .i64 c] 63) = W at *
          refine wp_region_far (by kernel_rfl) (by kernel_rfl) ?_
          repeat (go_big_quiet_step ((first | (go_at_call 84; exact far_of (HH.out _)) | (go_at_call 85; exact far_of (HG.out _)))))
          refine wpQuiet_nil ?_
          rintro _ ⟨p, rfl⟩
          go_wp2
          go_ret
          exact ⟨ret_bool HN.out.symm, (HK.out.far p).bel⟩
        | false =>
          have hn2 : ¬ c = wrap64 (g + 1) := by simpa using hn
          have HN := Lib.hid (show ∀ j p, j < m + 1 → ls[j]? = some p → goesW vs p = false from fun j p hj hp => by
            by_cases e : j = m
            · subst e; rw [hx1] at hp; cases hp; rw [hgo, hn]; rfl
            · exact hs.out j p (by omega) hp)
          clear hbh hg hgo hx1
          go_wp2_with fail
          generalize hW : wr.alloc (.cells #[.int .i64 r, .int .i64 c] 63) = W at *
          refine wp_region_far (by kernel_rfl) (by kernel_rfl) ?_
          repeat (go_big_quiet_step ((first | (go_at_call 84; exact far_of (HH.out _)) | (go_at_call 85; exact far_of (HG.out _)))))
          refine wpQuiet_nil ?_
          rintro _ ⟨p, rfl⟩
          have KF := Lib.hid ((HK.out.far p).drop2)
          go_wp2
          go_roundw
          case rel => exact ⟨m + 1, by omega, by go_num, KF, HN⟩
          case measure => simp [intOf]; omega
    · have hall := Lib.hid (show compC vs ls = validC vs ls from compC_all fun d hd => by
        obtain ⟨j, hj⟩ := List.mem_iff_getElem?.1 hd
        have hl := (List.getElem?_eq_some_iff.1 hj).1
        exact hs.out j d (by omega) hj)
      have HV := Lib.hid (ref3Valid _ vs ls b wr (HoldsC.mk (hK.out.h (v := .slice A vs.length n) (xs := vs) (by simp)) (hK.out.h (v := .slice B ls.length m0) (xs := ls) (by simp))) (by rw [← hall.out]; exact HB.out))
      go_wp2_with fail
      refine HV.out.mono ?_
      rintro e w1 ⟨rfl, hb1⟩
      have K2 := Lib.hid (hK.out.below hb1)
      clear hb1
      go_wp2
      go_ret
      exact ⟨rfl, K2.out.bel⟩

end

end Go.Proofs.YtfmhhmceoikgpaaGreat
