/- Several texts in one: RegL, DotA, DotB, App, DotC. -/
import Derived.Test.YtgdnibahiomneaaGreatMAA
import Derived.Test.YtgdnibahiomneaaGreatRows
import Derived.Sort.Grow
import Derived.Maps.AppendAt
import Derived.Deep.RegionHeld3
import Derived.Deep.CutBlock
namespace Go.Proofs.YtgdnibahiomneaaGreat

section
open Go.RowKit

/-- G: what holds all along, by what is there and by the frame; Φ: what each value says. -/
structure RegT where
  G : (Nat → Bool) → Act → World → Prop
  Φ : Nat → Value → World → Prop
structure InvT (ops : Array Oper) (a0 : Act) (S : RegT) (L : Nat → Bool) (a : Act) (w : World) : Prop where
  size : a.tmps.size = a0.tmps.size
  defs : a.defers = a0.defers
  old : ∀ t, (∀ j, dstOf ops j ≠ some t) → a.tmps[t]? = a0.tmps[t]?
  clo : ∀ j o, ops[j]? = some o → L j = true → ∀ e ∈ o.after, Region.binds .any e = true → L e.on = true
  glob : S.G L a w
  val : ∀ j d, L j = true → dstOf ops j = some d → S.Φ j (a.eval (.tmp d)) w
def KeepsT (S : RegT) (L : Nat → Bool) (w w' : World) : Prop := ∀ j v, L j = true → S.Φ j v w → S.Φ j v w'
section
variable {P : Program} {ops : Array Oper} {Q : Exit → Act → World → Prop} {a0 : Act} {w0 : World}
def StepT (P : Program) (ops : Array Oper) (Q : Exit → Act → World → Prop) (a0 : Act) (S : RegT) (k : Nat) (o : Oper) : Prop :=
  ∀ L a w, InvT ops a0 S L a w → L k = false → (∀ e ∈ o.after, Region.binds .any e = true → L e.on = true) →
    wpOp P ops Q k (fun a' w' => ∃ v, a' = a.put o.dst v ∧ KeepsT S L w w' ∧ S.G (moreL L k) (a.put o.dst v) w' ∧ (o.dst ≠ none → S.Φ k v w')) a w
def StepsT (P : Program) (ops : Array Oper) (Q : Exit → Act → World → Prop) (a0 : Act) (S : RegT) : Nat → List Oper → Prop
  | _, [] => True
  | k, o :: l => StepT P ops Q a0 S k o ∧ StepsT P ops Q a0 S (k + 1) l
theorem StepsT.get {S : RegT} : ∀ {l : List Oper} {k : Nat}, StepsT P ops Q a0 S k l → ∀ {i : Nat} {o : Oper}, l[i]? = some o → StepT P ops Q a0 S (k + i) o
  | [], _, _, i, o, h => by simp at h
  | x :: l, k, ⟨h1, h2⟩, 0, o, h => by
    obtain rfl : x = o := by simpa using h
    exact h1
  | x :: l, k, ⟨h1, h2⟩, i + 1, o, h => by
    have := StepsT.get h2 (i := i) (by simpa using h)
    rw [show k + (i + 1) = k + 1 + i by omega]
    exact this
theorem wp_region_T {id : Nat} {S : RegT} {l : List Oper} (hm : P.follows .mixedOrders = true) (ht : topoB l.toArray = true) (hap : apartB l.toArray = true)
    (hsz : ∀ j d, dstOf l.toArray j = some d → d < a0.tmps.size) (hG0 : S.G (fun _ => false) a0 w0.drew)
    (hst : StepsT P l.toArray Q a0 S 0 l)
    (hf : ∀ a w L, (∀ j, j < l.toArray.size → L j = true) → InvT l.toArray a0 S L a w → Q .normal a w) : (Code.region id l.toArray true).wp P Q a0 w0 := by
  refine wp_region_inv (I := InvT l.toArray a0 S) hm ht ⟨rfl, rfl, fun _ _ => rfl, fun _ _ _ h => (by cases h), hG0, fun _ _ h => (by cases h)⟩ ?_ fun L a w hI hL => hf a w L hL hI
  intro k o ho L a w hI hLk hd
  have hstep := hst.get (i := k) (by simpa using ho) L a w hI (by rw [Nat.zero_add]; exact hLk) hd
  rw [Nat.zero_add] at hstep
  have hdk : dstOf l.toArray k = o.dst := by unfold dstOf; rw [ho]; rfl
  refine wpOp_mono ?_ hstep
  rintro a' w' ⟨v, rfl, hbel, hG, hv⟩
  have hclo := moreL_clo ho hI.clo hd
  have hev : ∀ j t, j ≠ k → dstOf l.toArray j = some t → (a.put o.dst v).eval (.tmp t) = a.eval (.tmp t) := fun j t hjk hj => by
    cases hdo : o.dst with
    | none => rfl
    | some d =>
      refine eval_put_ne fun e => hjk ?_
      subst e
      exact apart_spec hap hj (hdk.trans hdo)
  have hLm : ∀ j, moreL L k j = true → j = k ∨ (j ≠ k ∧ L j = true) := fun j hj => by
    by_cases e : j = k
    · exact .inl e
    · refine .inr ⟨e, ?_⟩
      simpa [moreL, e] using hj
  refine ⟨?_, ?_, fun t ht' => ?_, hclo, hG, fun j d hj hjd => ?_⟩
  · rw [← hI.size]; cases o.dst <;> simp [Act.put]
  · rw [← hI.defs]; cases o.dst <;> rfl
  · rw [← hI.old t ht']
    cases hdo : o.dst with
    | none => rfl
    | some d =>
      have hne : d ≠ t := fun e => ht' k (by rw [hdk, hdo, e])
      simp [Act.put, hne]
  · rcases hLm j hj with rfl | ⟨hjk, hL⟩
    · rw [hdk] at hjd
      rw [hjd, eval_put_eq (by rw [hI.size]; exact hsz j d (hdk.trans hjd))]
      exact hv (by rw [hjd]; simp)
    · rw [hev j d hjk hjd]
      exact hbel j _ hL (hI.val j d hL hjd)
/-- The frame behind the region, written out. -/
theorem InvT.frame {S : RegT} {L : Nat → Bool} {a : Act} {w : World} {l : List Oper} (h : InvT l.toArray a0 S L a w) :
    a = ⟨(l.filterMap (·.dst)).foldl (fun t d => t.setIfInBounds d (a.eval (.tmp d))) a0.tmps, a0.defers⟩ := by
  have h' : InvR l.toArray a0 ⟨fun _ => none, fun _ _ => True, fun _ _ => True, fun _ _ _ => True, fun _ _ _ => True⟩ L a w :=
    ⟨h.size, h.defs, h.old, h.clo, trivial, fun _ _ _ _ => trivial, fun _ _ _ _ h => (by cases h), fun _ _ _ _ _ _ h => (by cases h)⟩
  exact h'.frame
theorem InvT.at {S : RegT} {L : Nat → Bool} {a : Act} {w : World} {l : List Oper} (h : InvT l.toArray a0 S L a w) (t : Tmp) (ht : (l.all fun o => !(o.dst == some t)) = true) : a.tmps[t]?.getD undef = a0.eval (.tmp t) := by
  have h' : InvR l.toArray a0 ⟨fun _ => none, fun _ _ => True, fun _ _ => True, fun _ _ _ => True, fun _ _ _ => True⟩ L a w :=
    ⟨h.size, h.defs, h.old, h.clo, trivial, fun _ _ _ _ => trivial, fun _ _ _ _ h => (by cases h), fun _ _ _ _ _ _ h => (by cases h)⟩
  exact h'.at t ht
theorem InvT.get {S : RegT} {L : Nat → Bool} {a : Act} {w : World} (h : InvT ops a0 S L a w) (j d : Nat) (hL : L j = true) (hd : dstOf ops j = some d) : ∃ v, a.tmps[d]?.getD undef = v ∧ S.Φ j v w :=
  ⟨_, rfl, by rw [← eval_tmp]; exact h.val j d hL hd⟩
theorem InvT.wants {S : RegT} {L : Nat → Bool} {a : Act} {w : World} (h : InvT ops a0 S L a w) {o : Oper} {j d : Nat} {b : Bool} (hg : o.guard = some (j, b)) (hL : L j = true) (hd : dstOf ops j = some d) (hv : ∀ v, S.Φ j v w → v = .bool b) : Region.wanted o (yielded ops a.tmps) = true := wanted_at hg hd (hv _ (h.val j d hL hd))
theorem InvT.before {S : RegT} {k : Nat} {L : Nat → Bool} {a : Act} {w : World} (h : InvT ops a0 S L a w) {j : Nat} {o : Oper} (ho : ops[j]? = some o) (hw : waitsB o k = true) (hk : L k = false) : L j = false := by
  cases hj : L j with
  | false => rfl
  | true =>
    have := waits_spec (h.clo j o ho hj) k hw
    rw [hk] at this; cases this
section
variable {S : RegT} {k : Nat} {o : Oper}
theorem StepT.val (ho : ops[k]? = some o)
    (h : ∀ L a w, InvT ops a0 S L a w → L k = false → (∀ j, waitsB o j = true → L j = true) → Region.wanted o (yielded ops a.tmps) = true ∧ ∃ v w', (execOp a.eval o).run P w = .ok (.value v) w' ∧ KeepsT S L w w' ∧ S.G (moreL L k) (a.put o.dst v) w' ∧ S.Φ k v w') : StepT P ops Q a0 S k o := by
  intro L a w hI hk hd
  obtain ⟨hw, v, w', hr, hbel, hg, hv⟩ := h L a w hI hk (waits_spec hd)
  exact wpOp_val ho hw hr ⟨v, rfl, hbel, hg, fun _ => hv⟩
theorem StepT.skip (ho : ops[k]? = some o) (hdst : o.dst = none)
    (h : ∀ L a w, InvT ops a0 S L a w → L k = false → (∀ j, waitsB o j = true → L j = true) → Region.wanted o (yielded ops a.tmps) = true ∧ ∃ w', (execOp a.eval o).run P w = .ok .skip w' ∧ KeepsT S L w w' ∧ S.G (moreL L k) (a.put none undef) w') : StepT P ops Q a0 S k o := by
  intro L a w hI hk hd
  obtain ⟨hw, w', hr, hbel, hg⟩ := h L a w hI hk (waits_spec hd)
  exact wpOp_skip ho hw hr ⟨undef, rfl, hbel, by rw [hdst]; exact hg, fun h => absurd hdst h⟩
theorem StepT.call (ho : ops[k]? = some o)
    (h : ∀ L a w, InvT ops a0 S L a w → L k = false → (∀ j, waitsB o j = true → L j = true) → Region.wanted o (yielded ops a.tmps) = true ∧ ∃ f args, (execOp a.eval o).run P w = .ok (.enter f args) w ∧ Calls P f args w fun e w' => ∃ v, e = .returned v ∧ KeepsT S L w w' ∧ S.G (moreL L k) (a.put o.dst v) w' ∧ S.Φ k v w') : StepT P ops Q a0 S k o := by
  intro L a w hI hk hd
  obtain ⟨hw, f, args, hr, hc⟩ := h L a w hI hk (waits_spec hd)
  refine wpOp_call ho hw hr (hc.mono ?_)
  rintro e w' ⟨v, he, hbel, hg, hv⟩
  exact ⟨v, he, v, rfl, hbel, hg, fun _ => hv⟩
end
end

end

section
open Go.RowKit

/-- Which dots are valid. -/
def validD (r c : Int) : Bool := decide (1 ≤ r ∧ r ≤ 65535 ∧ 1 ≤ c ∧ c ≤ 4294967295)
/-- One dot comes before another one. -/
def lessD (r c r' c' : Int) : Bool := decide (c < c' ∨ c = c' ∧ r < r')
/-- The order of two dots. -/
def cmpD (r c r' c' : Int) : Int := if lessD r c r' c' then -1 else if lessD r' c' r c then 1 else 0
/-- The order of two numbers. -/
def cmpI (a b : Int) : Int := if a < b then -1 else if b < a then 1 else 0

theorem ret_bool {a b : Bool} (h : a = b) : Ending.returned (.bool a) = .returned (.bool b) := by rw [h]
theorem ret_int {k : IntKind} {a b : Int} (h : a = b) : Ending.returned (.int k a) = .returned (.int k b) := by rw [h]

set_option maxHeartbeats 400000 in
theorem dotValid (r c : Int) (w : World) :
    Calls Tryz.prog 53 #[.agg #[.int .i64 r, .int .i64 c]] w fun e w' => e = .returned (.bool (validD r c)) ∧ Below w.heap.size w w' := by
  go_enter Tryz.func53, Tryz.ntmps53
  go_wp2
  all_goals
    go_ret
    refine ⟨ret_bool ?_, (Below.refl _ _).alloc (Nat.le_refl _) _⟩
    rw [Bool.eq_iff_iff]
    simp [validD, *]
    try omega

set_option maxHeartbeats 400000 in
theorem cmpIsNaN (a : Int) (w : World) :
    Calls Tryz.prog 91 #[.int .i64 a] w fun e w' => e = .returned (.bool false) ∧ w = w' := by
  go_enter Tryz.func91, Tryz.ntmps91
  go_wp2
  go_ret
  simp

set_option maxHeartbeats 400000 in
theorem cmpCompare (a b : Int) (w : World) :
    Calls Tryz.prog 76 #[.int .i64 a, .int .i64 b] w fun e w' => e = .returned (.int .i64 (cmpI a b)) ∧ w = w' := by
  go_enter Tryz.func76, Tryz.ntmps76
  go_wp2_with (go_at_call 91; refine (cmpIsNaN _ _).mono ?_; rintro e w' ⟨rfl, rfl⟩)
  all_goals
    go_ret
    refine ⟨ret_int ?_, rfl⟩
  · have : a < b := by assumption
    simp [cmpI, this]
  · have h1 : b ≤ a := by assumption
    have h2 : b < a := by assumption
    simp [cmpI, h2, Int.not_lt.2 h1]
  · have h1 : b ≤ a := by assumption
    have h2 : a ≤ b := by assumption
    simp [cmpI, Int.not_lt.2 h1, Int.not_lt.2 h2]

/-- The first of two numbers that is not 0. -/
def orI (x y : Int) : Int := if x = 0 then y else x

set_option maxHeartbeats 400000 in
theorem cmpOr (b : Nat) (cap : Nat) (x y : Int) (w : World) (h0 : w.cell? ⟨b, 0, none⟩ = some (.int .i64 x)) (h1 : w.cell? ⟨b, 1, none⟩ = some (.int .i64 y)) :
    Calls Tryz.prog 75 #[.slice (some ⟨b, 0, none⟩) 2 cap] w fun e w' => e = .returned (.int .i64 (orI x y)) ∧ w = w' := by
  by_cases hx : x = 0
  · have hx' : (x != 0) = false := by simp [hx]
    by_cases hy : y = 0
    · have hy' : (y != 0) = false := by simp [hy]
      have HX := Lib.hid hx; clear hx
      have HY := Lib.hid hy; clear hy
      go_enter Tryz.func75, Tryz.ntmps75
      go_wp2
      refine wp_loop_rounds 3 ?_
      rw [rounds_succ]
      go_wp2
      rw [rounds_succ]
      go_wp2
      rw [rounds_succ]
      go_wp2
      go_ret
      exact ⟨by simp [orI, HX.out, HY.out], rfl⟩
    · have hy' : (y != 0) = true := by simp [hy]
      have HX := Lib.hid hx; clear hx
      have HY := Lib.hid hy; clear hy
      go_enter Tryz.func75, Tryz.ntmps75
      go_wp2
      refine wp_loop_rounds 2 ?_
      rw [rounds_succ]
      go_wp2
      rw [rounds_succ]
      go_wp2
      go_ret
      exact ⟨by simp [orI, HX.out], rfl⟩
  · have hx' : (x != 0) = true := by simp [hx]
    have HX := Lib.hid hx; clear hx
    go_enter Tryz.func75, Tryz.ntmps75
    go_wp2
    refine wp_loop_rounds 1 ?_
    rw [rounds_succ]
    go_wp2
    go_ret
    exact ⟨by simp [orI, HX.out], rfl⟩

theorem below_grow (w : World) (n : Nat) (os : Array Obj) : Below w.heap.size w (Sort.grow (w.drewN n) os) :=
  ⟨rfl, rfl, rfl, by simp, fun k hk => by rw [Sort.heap_grow_old _ _ (by exact hk)]; rfl⟩

theorem cmpD_or (r c r' c' : Int) : orI (cmpI c c') (cmpI r r') = cmpD r c r' c' := by
  unfold orI cmpI cmpD lessD
  by_cases h1 : c < c'
  · simp [h1]
  · by_cases h2 : c' < c
    · have : ¬ c = c' := by omega
      simp [h1, h2, this]
    · have : c = c' := by omega
      subst this
      simp

set_option maxHeartbeats 400000 in
theorem dotCompareG (r c r' c' : Int) (w : World) :
    Calls Tryz.prog 52 #[.agg #[.int .i64 r, .int .i64 c], .agg #[.int .i64 r', .int .i64 c']] w fun e w' => e = .returned (.int .i64 (cmpD r c r' c')) ∧ ∃ q os', w' = Sort.grow (w.drewN q) os' := by
  go_enter Tryz.func52, Tryz.ntmps52
  go_wp2
  go_region_held3 (fun w' => w'.cell? ⟨w.heap.size, 0, none⟩ = some (.int .i64 r) ∧ w'.cell? ⟨w.heap.size, 1, none⟩ = some (.int .i64 c) ∧ w'.cell? ⟨w.heap.size + 1, 0, none⟩ = some (.int .i64 r') ∧ w'.cell? ⟨w.heap.size + 1, 1, none⟩ = some (.int .i64 c')) (go_keep)
    (first
      | (go_at_call 76; refine (cmpCompare _ _ _).mono ?_; rintro e w' ⟨rfl, rfl⟩)
      | (go_at_call 75; refine (cmpOr _ _ (cmpI c c') (cmpI r r') _ (by go_simp) (by go_simp)).mono ?_; rintro e w' ⟨rfl, rfl⟩))
  go_wp2
  go_ret
  exact ⟨ret_int (cmpD_or r c r' c'), 1, _, by rw [Sort.alloc_eq_grow, Sort.alloc_eq_grow, Sort.alloc_eq_grow, Sort.grow_grow, Sort.grow_grow]; rfl⟩

theorem dotCompare (r c r' c' : Int) (w : World) :
    Calls Tryz.prog 52 #[.agg #[.int .i64 r, .int .i64 c], .agg #[.int .i64 r', .int .i64 c']] w fun e w' => e = .returned (.int .i64 (cmpD r c r' c')) ∧ Below w.heap.size w w' :=
  (dotCompareG r c r' c' w).mono fun _ _ ⟨he, q, os, hw⟩ => ⟨he, by rw [hw]; exact below_grow w q os⟩

end

section
open Go.RowKit

/-- A list in increasing order, each dot once: each one is before the next one. -/
def isSetL (xs : List (Int × Int)) (k : Nat) : Prop := ∀ j p q, j + 1 < k → xs[j]? = some p → xs[j + 1]? = some q → lessD p.1 p.2 q.1 q.2 = true

theorem isSetL_step {xs : List (Int × Int)} {m : Nat} {p q : Int × Int} (h : isSetL xs (m + 1)) (hp : xs[m]? = some p) (hq : xs[m + 1]? = some q) (hl : lessD p.1 p.2 q.1 q.2 = true) : isSetL xs (m + 1 + 1) := by
  intro j p' q' hj h1 h2
  by_cases e : j = m
  · subst e
    rw [hp] at h1; rw [hq] at h2
    cases h1; cases h2
    exact hl
  · exact h j p' q' (by omega) h1 h2
theorem isSetL_no {xs : List (Int × Int)} {m : Nat} {p q : Int × Int} (hm : m + 1 < xs.length) (hp : xs[m]? = some p) (hq : xs[m + 1]? = some q) (hl : lessD p.1 p.2 q.1 q.2 = false) : ¬ isSetL xs xs.length := fun h => by
  have := h m p q hm hp hq
  rw [hl] at this; cases this

/-- Whether a list is a set. -/
def isSetB : List (Int × Int) → Bool
  | [] => true
  | [_] => true
  | p :: q :: r => lessD p.1 p.2 q.1 q.2 && isSetB (q :: r)
theorem isSetB_iff : ∀ xs : List (Int × Int), isSetB xs = true ↔ isSetL xs xs.length
  | [] => ⟨fun _ j p q h => by simp at h, fun _ => rfl⟩
  | [_] => ⟨fun _ j p q h => by simp at h, fun _ => rfl⟩
  | p :: q :: r => by
    rw [isSetB, Bool.and_eq_true, isSetB_iff (q :: r)]
    constructor
    · rintro ⟨h1, h2⟩ j p' q' hj h3 h4
      match j with
      | 0 => simp at h3 h4; subst h3; subst h4; exact h1
      | j + 1 => exact h2 j p' q' (by simp at hj ⊢; omega) (by simpa using h3) (by simpa using h4)
    · intro h
      exact ⟨h 0 p q (by simp) rfl rfl, fun j p' q' hj h3 h4 => h (j + 1) p' q' (by simp at hj ⊢; omega) (by simpa using h3) (by simpa using h4)⟩
theorem isSetB_yes {xs : List (Int × Int)} (h : isSetL xs xs.length) : isSetB xs = true := (isSetB_iff xs).2 h
theorem isSetB_no {xs : List (Int × Int)} (h : ¬ isSetL xs xs.length) : isSetB xs = false := by
  cases e : isSetB xs
  · rfl
  · exact absurd ((isSetB_iff xs).1 e) h

set_option maxHeartbeats 400000 in
theorem dotIsSet (A : Option Addr) (xs : List (Int × Int)) (cap : Nat) (w : World) (hx : DotsAt w A xs) (hm : xs.length ≤ maxLen) :
    Calls Tryz.prog 61 #[.slice A xs.length cap] w fun e w' => e = .returned (.bool (isSetB xs)) ∧ Below w.heap.size w w' := by
  unfold maxLen at hm
  go_enter Tryz.func61, Tryz.ntmps61
  go_wp2
  go_loopw [3] (fun i wr => ∃ m : Nat, m + 1 ≤ max xs.length 1 ∧ i = .int .i64 ((m : Int) + 1) ∧ Below w.heap.size w wr ∧ Hid (isSetL xs (m + 1))) (fun i _ => xs.length - (intOf i).toNat)
  case atStart => exact ⟨0, by omega, rfl, Below.refl _ _, fun j p q h => by omega⟩
  case round =>
    obtain ⟨m, hk2, rfl, hb, hs⟩ := hrel
    by_cases hlt : m + 1 < xs.length
    · obtain ⟨b, off, r, c, rfl, hbl, hx1, hc0, hc1⟩ := (hx.below hb).dot (j := m) (by omega)
      obtain ⟨_, _, r', c', ho, _, hx2, hd0, hd1⟩ := (hx.below hb).dot (j := m + 1) hlt
      cases ho
      have hr := fun W => dotCompare r c r' c' W
      have l0 := fun p => cell_far (p := p) hbl hc0
      have l1 := fun p => cell_far (p := p) hbl hc1
      have l2 := fun p => cell_far (p := p) hbl hd0
      have l3 := fun p => cell_far (p := p) hbl hd1
      clear hc0 hc1 hd0 hd1
      have HX1 := Lib.hid hx1; clear hx1
      have HX2 := Lib.hid hx2; clear hx2
      have hv : (lessD r c r' c' = true ∧ cmpD r c r' c' < 0) ∨ (lessD r c r' c' = false ∧ 0 ≤ cmpD r c r' c') := by
        unfold cmpD; cases lessD r c r' c' <;> simp; split <;> simp
      generalize cmpD r c r' c' = v at hr hv
      have HR := Lib.hid hr; clear hr
      rcases hv with ⟨hq, hv⟩ | ⟨hq, hv⟩
      · have HQ := Lib.hid hq; clear hq
        go_wp2
        refine wp_region_far (by kernel_rfl) (by kernel_rfl) ?_
        repeat (go_big_quiet_step ((go_at_call 52; exact far_of (HR.out _))))
        refine wpQuiet_nil ?_
        rintro _ ⟨p, rfl⟩
        go_wp2
        go_roundw
        case rel => exact ⟨m + 1, by omega, by go_num, hb.trans ((below_far wr p).mono hb.size), isSetL_step hs.out HX1.out HX2.out HQ.out⟩
        case measure => simp [intOf]; omega
      · have HQ := Lib.hid hq; clear hq
        go_wp2
        refine wp_region_far (by kernel_rfl) (by kernel_rfl) ?_
        repeat (go_big_quiet_step ((go_at_call 52; exact far_of (HR.out _))))
        refine wpQuiet_nil ?_
        rintro _ ⟨p, rfl⟩
        go_wp2
        go_ret
        exact ⟨ret_bool (isSetB_no (isSetL_no hlt HX1.out HX2.out HQ.out)).symm, hb.trans ((below_far wr p).mono hb.size)⟩
    · go_wp2
      go_ret
      refine ⟨ret_bool (isSetB_yes ?_).symm, hb⟩
      intro j p q hj
      exact hs.out j p q (by omega)

theorem neqDot : ∀ (r c r' c' : Int) (w : World), (binOp .neq 51 (.agg #[.int .i64 r, .int .i64 c]) (.agg #[.int .i64 r', .int .i64 c'])).run Tryz.prog w = .ok (.bool (!(r == r' && c == c'))) w := by
  intro r c r' c' w
  have hS : Tryz.prog.underlying 51 = some (.struct (Tryz.prog.fieldsOf 51)) := by kernel_rfl
  have hp : Tryz.prog.stoodInHeld 51 = false := by kernel_rfl
  rw [run_neq_struct, show (10000 : Nat) = 9999 + 1 from rfl, run_equalIn_agg w 9999 51 _ _ hS hp]
  simp only [Program.fieldsOf, Tryz.underlying51]
  go_simp
  by_cases h1 : r = r' <;> by_cases h2 : c = c' <;> simp [h1, h2]

/-- The first k elements of both lists are the same. -/
def SameTo (xs ys : List (Int × Int)) (k : Nat) : Prop := ∀ j, j < k → xs[j]? = ys[j]?

end

section
open Go.RowKit

/-- The cells of a list of elements. -/
abbrev cellsOf {α : Type} (enc : α → List Value) (xs : List α) : List Value := xs.flatMap enc

theorem cellsOf_length {α : Type} {enc : α → List Value} {k : Nat} (hk : ∀ x, (enc x).length = k) (xs : List α) : (cellsOf enc xs).length = xs.length * k := by
  induction xs with
  | nil => simp
  | cons x r ih => simp only [cellsOf, List.flatMap_cons, List.length_append, hk, List.length_cons] at ih ⊢; rw [ih, Nat.add_mul]; omega

theorem cellsOf_get {α : Type} {enc : α → List Value} {k : Nat} (hk : ∀ x, (enc x).length = k) (hk0 : 0 < k) : ∀ (xs : List α) (t : Nat) (u : Value), (cellsOf enc xs)[t]? = some u → ∃ x, xs[t / k]? = some x ∧ (enc x)[t % k]? = some u
  | [], t, u, h => by simp at h
  | x :: r, t, u, h => by
    simp only [cellsOf, List.flatMap_cons] at h
    by_cases ht : t < k
    · rw [List.getElem?_append_left (by rw [hk]; exact ht)] at h
      rw [Nat.div_eq_of_lt ht, Nat.mod_eq_of_lt ht]
      exact ⟨x, rfl, h⟩
    · rw [List.getElem?_append_right (by rw [hk]; omega), hk] at h
      obtain ⟨y, h1, h2⟩ := cellsOf_get hk hk0 r (t - k) u h
      have e1 : t / k = (t - k) / k + 1 := by rw [Nat.div_eq_sub_div hk0 (by omega)]
      have e2 : t % k = (t - k) % k := by rw [Nat.mod_eq_sub_mod (by omega)]
      rw [e1, e2]
      exact ⟨y, by simpa using h1, h2⟩
theorem cellsOf_at {α : Type} {enc : α → List Value} {k : Nat} (hk : ∀ x, (enc x).length = k) : ∀ (xs : List α) (j : Nat) (x : α) (i : Nat) (u : Value), xs[j]? = some x → (enc x)[i]? = some u → (cellsOf enc xs)[j * k + i]? = some u
  | [], j, x, i, u, h, _ => by simp at h
  | y :: r, 0, x, i, u, h, hu => by
    simp at h; subst h
    have hi : i < (enc y).length := by
      rcases Nat.lt_or_ge i (enc y).length with h | h
      · exact h
      · rw [List.getElem?_eq_none h] at hu; cases hu
    simp only [cellsOf, List.flatMap_cons, Nat.zero_mul, Nat.zero_add]
    rw [List.getElem?_append_left hi]; exact hu
  | y :: r, j + 1, x, i, u, h, hu => by
    simp only [cellsOf, List.flatMap_cons]
    rw [List.getElem?_append_right (by rw [hk, Nat.add_mul]; omega), hk]
    have := cellsOf_at hk r j x i u (by simpa using h) hu
    rw [show (j + 1) * k + i - k = j * k + i by rw [Nat.add_mul]; omega]
    exact this

theorem Addr_add (b off t : Nat) : (⟨b, off, none⟩ : Addr).add t = ⟨b, off + t, none⟩ := by
  unfold Addr.add; split
  · subst_vars; rfl
  · rfl

/-- A slice that reads as a list has its cells in a row. -/
theorem SlAt.row {α : Type} {enc : α → List Value} {k : Nat} {w : World} {xs : List α} (hk : ∀ x, (enc x).length = k) (hk0 : 0 < k) {a : Addr} (h : SlAt enc k w (some a) xs) :
    ∀ t u, (cellsOf enc xs)[t]? = some u → w.cell? (a.add t) = some u := by
  intro t u hu
  obtain ⟨x, h1, h2⟩ := cellsOf_get hk hk0 xs t u hu
  have hn : 0 < xs.length := by
    rcases Nat.eq_zero_or_pos xs.length with h | h
    · rw [List.getElem?_eq_none (by rw [h]; exact Nat.zero_le _)] at h1; cases h1
    · exact h
  obtain ⟨b, off, e, _, hc⟩ := h hn
  cases e
  rw [Addr_add]
  have := hc (t / k) x h1 (t % k) u h2
  rw [Nat.add_assoc, Nat.div_add_mod'] at this
  exact this

/-- What a call owns reads as a list. -/
theorem SlAt.of_own {α : Type} {enc : α → List Value} {k : Nat} (hk : ∀ x, (enc x).length = k) {w : World} {base : Nat} {e : TypeId} {v : Value} {xs : List α} (h : w.ownsRow base e k v xs.length (cellsOf enc xs)) :
    ∃ A c, v = .slice A xs.length c ∧ xs.length ≤ c ∧ c ≤ maxLen ∧ SlAt enc k w A xs := by
  obtain ⟨h1, h2⟩ := h
  rcases h2 with ⟨rfl, h0⟩ | ⟨g, cap, cur, rfl, hb, hg, hn, hc, hs, ht⟩
  · refine ⟨none, 0, by rw [h0], by omega, by simp [maxLen], fun h => by omega⟩
  · refine ⟨_, _, rfl, hn, hc, fun hp => ⟨g, 0, rfl, (Array.getElem?_eq_some_iff.1 hg).1, fun j x hx i u hu => ?_⟩⟩
    have hcl := cellsOf_at hk xs j x i u hx hu
    rw [← ht, List.getElem?_take] at hcl
    rw [Nat.zero_add, cell_of_row w g _ cur e (0, 0) hg]
    split at hcl
    · simpa using hcl
    · cases hcl

section
variable {P : Program} (w : World) {α : Type} (enc : α → List Value) (k : Nat)

theorem run_append_nothing (base : Nat) (t ty e : TypeId) (i : TypeInfo) (ht : P.underlying t = some (.slice e)) (hi : P.info? e = some i)
    (v : Value) (n : Nat) (cs : List Value) (hown : w.ownsRow base e k v n cs) (c : Nat) : (Builtin.append_ #[t, t] ty #[v, .slice none 0 c]).run P w = .ok v w := by
  rcases hown.2 with ⟨rfl, rfl⟩ | ⟨g, cap, cur, rfl, _, _, hnc, _⟩ <;>
    simp [Builtin.append_, run_underlying ht, sizeOf, typeInfo, hi, Builtin.lenOf, Builtin.firstCells]
  simp [hnc, storeCells]

theorem run_append_sl (hk : ∀ x, (enc x).length = k) (hk0 : 0 < k) (h1 : ∀ x, ∀ u ∈ enc x, u.oneCell' = true)
    (base : Nat) (t ty e : TypeId) (i : TypeInfo) (z : Value) (bytes : Nat) (ht : P.underlying t = some (.slice e)) (hi : P.info? e = some i) (hz : i.zero = some z)
    (hsize : i.size = k) (hby : i.bytes = bytes) (hzs : z.cells.size = k)
    (v : Value) (ys : List α) (hown : w.ownsRow base e k v ys.length (cellsOf enc ys))
    (A : Option Addr) (c : Nat) (xs : List α) (hx : SlAt enc k w A xs)
    (h63 : ys.length + xs.length ≤ maxLen) (hbytes : (ys.length + xs.length) * bytes ≤ 140737488355328) (hbase : base ≤ w.heap.size) :
    ∃ v' w', (Builtin.append_ #[t, t] ty #[v, .slice A xs.length c]).run P w = .ok v' w' ∧ w'.ownsRow base e k v' (ys ++ xs).length (cellsOf enc (ys ++ xs)) ∧ w.grownBy w' v.ownBlock ∧ (v'.ownBlock = v.ownBlock ∨ v'.ownBlock = some w.heap.size) := by
  have he : cellsOf enc (ys ++ xs) = cellsOf enc ys ++ cellsOf enc xs := by simp [cellsOf]
  rw [he, List.length_append]
  match A with
  | none =>
    have h0 : xs = [] := by
      cases xs with
      | nil => rfl
      | cons x r => obtain ⟨_, _, h, _⟩ := hx (by simp); cases h
    subst h0
    exact ⟨v, w, run_append_nothing w k base t ty e i ht hi v _ _ hown c, by simpa using hown, World.grownBy.refl w _, .inl rfl⟩
  | some a =>
    obtain ⟨v', w', hr, h2, h3, _, h5⟩ := run_append_own_at (P := P) w base t ty e i z k bytes ht hi hz hsize hby hzs hk0 v ys.length (cellsOf enc ys) hown a xs.length c (cellsOf enc xs)
      (cellsOf_length hk xs) (hx.row hk hk0) (fun u hu => by obtain ⟨x, _, h⟩ := List.mem_flatMap.1 hu; exact h1 x u h) h63 hbytes hbase
    exact ⟨v', w', hr, h2, h3, h5⟩

theorem wp_append_sl {o : Oper} {a : Act} {K : Act → World → Prop} {Q : Exit → Act → World → Prop} (s x : Operand) (t : TypeId)
    (ho : o.op = .call { callee := .builtin .append, args := #[s, x], argTypes := #[t, t] })
    (hk : ∀ x, (enc x).length = k) (hk0 : 0 < k) (h1 : ∀ x, ∀ u ∈ enc x, u.oneCell' = true)
    (base : Nat) (e : TypeId) (i : TypeInfo) (z : Value) (bytes : Nat) (ht : P.underlying t = some (.slice e)) (hi : P.info? e = some i) (hz : i.zero = some z)
    (hsize : i.size = k) (hby : i.bytes = bytes) (hzs : z.cells.size = k)
    (v : Value) (ys : List α) (hs : a.eval s = v) (hown : w.ownsRow base e k v ys.length (cellsOf enc ys))
    (A : Option Addr) (n c : Nat) (xs : List α) (hxv : a.eval x = .slice A n c) (hn : n = xs.length) (hx : SlAt enc k w A xs)
    (h63 : ys.length + xs.length ≤ maxLen) (hbytes : (ys.length + xs.length) * bytes ≤ 140737488355328) (hbase : base ≤ w.heap.size)
    (h : ∀ v' w', w'.ownsRow base e k v' (ys ++ xs).length (cellsOf enc (ys ++ xs)) → w.grownBy w' v.ownBlock → (v'.ownBlock = v.ownBlock ∨ v'.ownBlock = some w.heap.size) → K (a.put o.dst v') w') : o.wp P a w K Q := by
  subst hn
  obtain ⟨v', w', hrun, h2, h3, h4⟩ := run_append_sl (P := P) w enc k hk hk0 h1 base t o.type e i z bytes ht hi hz hsize hby hzs v ys hown A c xs hx h63 hbytes hbase
  unfold Oper.wp execOp
  simp only [ho, resolve, invoke, builtin, Sem.run_bind, Sem.run_pure, Result.andThen_ok, List.map_toArray, List.map_cons, List.map_nil, hs, hxv, hrun]
  exact h v' w' h2 h3 h4

theorem wpList_append_sl {ops : Array Oper} {rest : List Oper} {o : Oper} {a : Act} {Q : Exit → Act → World → Prop} (hgd : o.guard = none) (s x : Operand) (t : TypeId)
    (ho : o.op = .call { callee := .builtin .append, args := #[s, x], argTypes := #[t, t] })
    (hk : ∀ x, (enc x).length = k) (hk0 : 0 < k) (h1 : ∀ x, ∀ u ∈ enc x, u.oneCell' = true)
    (base : Nat) (e : TypeId) (i : TypeInfo) (z : Value) (bytes : Nat) (ht : P.underlying t = some (.slice e)) (hi : P.info? e = some i) (hz : i.zero = some z)
    (hsize : i.size = k) (hby : i.bytes = bytes) (hzs : z.cells.size = k)
    (v : Value) (ys : List α) (hs : a.eval s = v) (hown : w.ownsRow base e k v ys.length (cellsOf enc ys))
    (A : Option Addr) (n c : Nat) (xs : List α) (hxv : a.eval x = .slice A n c) (hn : n = xs.length) (hx : SlAt enc k w A xs)
    (h63 : ys.length + xs.length ≤ maxLen) (hbytes : (ys.length + xs.length) * bytes ≤ 140737488355328) (hbase : base ≤ w.heap.size)
    (h : ∀ v' w', w'.ownsRow base e k v' (ys ++ xs).length (cellsOf enc (ys ++ xs)) → w.grownBy w' v.ownBlock → (v'.ownBlock = v.ownBlock ∨ v'.ownBlock = some w.heap.size) → wpList P ops Q rest (a.put o.dst v') w') : wpList P ops Q (o :: rest) a w :=
  wpList_plain hgd fun _ hK => wp_append_sl w enc k s x t ho hk hk0 h1 base e i z bytes ht hi hz hsize hby hzs v ys hs hown A n c xs hxv hn hx h63 hbytes hbase fun v' w' h2 h3 h4 => hK _ _ (h v' w' h2 h3 h4)

end

end

section
open Go.RowKit

abbrev ltD (p q : Int × Int) : Bool := lessD p.1 p.2 q.1 q.2

/-- A set with one more dot. -/
def insD (xs : List (Int × Int)) (d : Int × Int) : List (Int × Int) := if d ∈ xs then xs else xs.takeWhile (ltD · d) ++ d :: xs.dropWhile (ltD · d)

theorem infoD : (Tryz.prog.info? 51).map (fun i => (i.zero, i.size, i.bytes)) = some (some (.agg #[.int .i64 0, .int .i64 0]), 2, 16) := by kernel_rfl
theorem encD_len : ∀ d, (encD d).length = 2 := fun _ => rfl
theorem encD_one : ∀ d, ∀ u ∈ encD d, u.oneCell' = true := fun d u hu => by
  simp [encD] at hu; rcases hu with rfl | rfl <;> rfl

/-- What the last statement of With leans on in every order. -/
def KS (w : World) (r0 c0 : Int) (W : World) : Prop :=
  W.cell? ⟨w.heap.size, 0, none⟩ = some (.int .i64 r0) ∧ W.cell? ⟨w.heap.size, 1, none⟩ = some (.int .i64 c0) ∧ Below (w.heap.size + 1) (w.alloc (.cells #[.int .i64 r0, .int .i64 c0] 51)) W
theorem KS.of {w W : World} {r0 c0 : Int} (h : Below (w.heap.size + 1) (w.alloc (.cells #[.int .i64 r0, .int .i64 c0] 51)) W) : KS w r0 c0 W :=
  ⟨(h.cell (p := ⟨w.heap.size, 0, none⟩) (by simp)).trans (by simp [World.cell?_alloc_new]), (h.cell (p := ⟨w.heap.size, 1, none⟩) (by simp)).trans (by simp [World.cell?_alloc_new]), h⟩
theorem KS.size {w W : World} {r0 c0 : Int} (h : KS w r0 c0 W) : w.heap.size + 1 ≤ W.heap.size := by have := h.2.2.size; simpa using this
theorem KS.alloc {w W : World} {r0 c0 : Int} (h : KS w r0 c0 W) (o : Obj) : KS w r0 c0 (W.alloc o) := .of (h.2.2.alloc h.size o)
theorem KS.drew {w W : World} {r0 c0 : Int} (h : KS w r0 c0 W) : KS w r0 c0 W.drew := .of h.2.2.drew
theorem KS.grown {w W W' : World} {r0 c0 : Int} (h : KS w r0 c0 W) {row : Option Nat} (hg : W.grownBy W' row) (hr : ∀ k, row = some k → w.heap.size + 1 ≤ k) : KS w r0 c0 W' := .of (h.2.2.grown hg h.size hr)
theorem KS.below {w W : World} {r0 c0 : Int} (h : KS w r0 c0 W) : Below w.heap.size w W := ((Below.refl _ w).alloc (Nat.le_refl _) _).trans (h.2.2.mono (by omega))

theorem SlAt.take {α : Type} {enc : α → List Value} {k : Nat} {w : World} {A : Option Addr} {xs : List α} (h : SlAt enc k w A xs) (m : Nat) : SlAt enc k w A (xs.take m) := fun hn => by
  obtain ⟨b, off, rfl, hb, hc⟩ := h (by simp at hn; omega)
  refine ⟨b, off, rfl, hb, fun j x hx => hc j x ?_⟩
  rw [List.getElem?_take] at hx
  split at hx
  · exact hx
  · cases hx
/-- One element in a new block. -/
theorem SlAt.one {α : Type} {enc : α → List Value} {k : Nat} {w : World} {g : Nat} {x : α} {t : TypeId} (h : w.heap[g]? = some (.cells (enc x).toArray t (0, 0))) : SlAt enc k w (some ⟨g, 0, none⟩) [x] := fun _ =>
  ⟨g, 0, rfl, (Array.getElem?_eq_some_iff.1 h).1, fun j y hy i u hu => by
    match j, hy with
    | 0, hy => simp at hy; subst hy; rw [cell_of_row w g _ _ t (0, 0) h]; simpa using hu⟩

/-- The set of a list. -/
def setL (xs : List (Int × Int)) : List (Int × Int) := xs.foldl insD []
theorem insD_len (xs : List (Int × Int)) (d : Int × Int) : (insD xs d).length ≤ xs.length + 1 := by
  unfold insD
  split
  · omega
  · have := congrArg List.length (List.takeWhile_append_dropWhile (p := (ltD · d)) (l := xs))
    simp only [List.length_append, List.length_cons] at this ⊢
    omega
theorem foldl_ins_len : ∀ (l s : List (Int × Int)), (l.foldl insD s).length ≤ s.length + l.length
  | [], s => by simp
  | d :: l, s => by
    have h1 := foldl_ins_len l (insD s d)
    have h2 := insD_len s d
    simp only [List.foldl_cons, List.length_cons]; omega
theorem setL_len (xs : List (Int × Int)) : (setL xs).length ≤ xs.length := by
  have := foldl_ins_len xs []
  simpa [setL] using this
theorem take_snoc {α : Type} {xs : List α} {m : Nat} {x : α} (h : xs[m]? = some x) : xs.take (m + 1) = xs.take m ++ [x] := by
  rw [List.take_add_one, h]; rfl

/-- What a slot holds that reads as a list of dots. -/
def Holds (w : World) (v : Value) (xs : List (Int × Int)) : Prop := ∃ A c, v = .slice A xs.length c ∧ DotsAt w A xs ∧ xs.length ≤ c ∧ c ≤ maxLen
theorem Holds.below {w w' : World} {v : Value} {xs : List (Int × Int)} (h : Holds w v xs) (hb : Below w.heap.size w w') : Holds w' v xs := by
  obtain ⟨A, c, rfl, h1, h2, h3⟩ := h
  exact ⟨A, c, rfl, h1.below hb, h2, h3⟩
theorem Holds.nil (w : World) : Holds w (.slice none 0 0) [] := ⟨none, 0, rfl, SlAt.nil, by simp, by simp [maxLen]⟩

end

end Go.Proofs.YtgdnibahiomneaaGreat
