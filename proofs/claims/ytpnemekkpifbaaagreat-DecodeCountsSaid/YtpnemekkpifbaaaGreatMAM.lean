/- Several texts in one: Reg, RegL. -/
import Derived.Test.YtpnemekkpifbaaaGreatMAA
namespace Go.Proofs.YtpnemekkpifbaaaGreat

section
open Go.RowKit

/-- The slot that an operation writes. -/
def dstOf (ops : Array Oper) (j : Nat) : Option Tmp := (ops[j]?).bind (·.dst)
/-- Each operation waits for earlier ones alone; no two write one slot. -/
def topoB (ops : Array Oper) : Bool := (List.range ops.size).all fun i => ((ops[i]?).map fun o => o.after.all fun e => !(Region.binds .any e) || decide (e.on < i)).getD true
def apartB (ops : Array Oper) : Bool := (List.range ops.size).all fun i => (List.range ops.size).all fun j => decide (i = j) || (match dstOf ops i with
  | none => true
  | some d => !(dstOf ops j == some d))
theorem topo_spec {ops : Array Oper} (h : topoB ops = true) {i : Nat} {o : Oper} (ho : ops[i]? = some o) {e : Edge} (he : e ∈ o.after) (hb : Region.binds .any e = true) : e.on < i := by
  have hi : i < ops.size := (Array.getElem?_eq_some_iff.1 ho).1
  have h1 := List.all_eq_true.1 h i (List.mem_range.2 hi)
  rw [ho] at h1
  have h2 : o.after.all (fun e => !(Region.binds .any e) || decide (e.on < i)) = true := h1
  rw [Array.all_eq_true_iff_forall_mem] at h2
  have h3 := h2 e he
  rw [hb] at h3
  simpa using h3
theorem apart_spec {ops : Array Oper} (h : apartB ops = true) {i j : Nat} {d : Tmp} (hi : dstOf ops i = some d) (hj : dstOf ops j = some d) : i = j := by
  have lt : ∀ {k}, dstOf ops k = some d → k < ops.size := fun {k} hk => by
    unfold dstOf at hk
    cases hk' : ops[k]? with
    | none => rw [hk'] at hk; cases hk
    | some o => exact (Array.getElem?_eq_some_iff.1 hk').1
  have h1 := List.all_eq_true.1 (List.all_eq_true.1 h i (List.mem_range.2 (lt hi))) j (List.mem_range.2 (lt hj))
  rw [hi, hj] at h1
  simpa using h1

section
variable {P : Program} {ops : Array Oper} {Q : Exit → Act → World → Prop} {a0 : Act} {w0 : World}

/-- One more is there. -/
def moreL (L : Nat → Bool) (k : Nat) : Nat → Bool := fun j => decide (j = k) || L j
theorem cnt_set : ∀ (l : List Bool) (i : Nat), l[i]? = some false → (l.set i true).count false + 1 = l.count false
  | [], i, h => by simp at h
  | b :: l, 0, h => by
    have hb : b = false := by simpa using h
    subst hb; simp
  | b :: l, i + 1, h => by
    have := cnt_set l i (by simpa using h)
    simp only [List.set_cons_succ, List.count_cons]; omega
theorem wpAny_inv {I : (Nat → Bool) → Act → World → Prop} (ht : topoB ops = true)
    (hs : ∀ k o, ops[k]? = some o → ∀ L a w, I L a w → L k = false → (∀ e ∈ o.after, Region.binds .any e = true → L e.on = true) → wpOp P ops Q k (I (moreL L k)) a w)
    (hf : ∀ L a w, I L a w → (∀ j, j < ops.size → L j = true) → Q .normal a w) :
    ∀ (fuel : Nat) (listed : Array Bool) (a : Act) (w : World), listed.size = ops.size → listed.toList.count false ≤ fuel → I (fun j => listed.getD j false) a w → wpAny P .any ops Q fuel listed a w := by
  have hdone : ∀ (listed : Array Bool) a w, listed.size = ops.size → I (fun j => listed.getD j false) a w → Region.ready .any ops listed = [] → Q .normal a w := by
    intro listed a w hsz hI hr
    refine hf _ a w hI fun j => ?_
    induction j using Nat.strongRecOn with
    | _ j ih =>
      intro hj
      cases hl : listed.getD j false with
      | true => rfl
      | false =>
        exfalso
        obtain ⟨o, ho⟩ : ∃ o, ops[j]? = some o := ⟨_, Array.getElem?_eq_getElem hj⟩
        have hm : j ∈ Region.ready .any ops listed := by
          rw [mem_ready]
          refine ⟨?_, o, ho, fun e he hbe => ?_⟩
          · have : j < listed.size := by omega
            simp only [Array.getD, this, dif_pos] at hl ⊢
            exact hl
          · have h1 := topo_spec ht ho he hbe
            exact ih e.on h1 (by omega)
        rw [hr] at hm; cases hm
  intro fuel
  induction fuel with
  | zero =>
    intro listed a w hsz hc hI
    have hr : Region.ready .any ops listed = [] := by
      rw [List.eq_nil_iff_forall_not_mem]
      intro i hi
      obtain ⟨h1, o, ho, _⟩ := mem_ready.1 hi
      have hlt : i < listed.size := by rw [hsz]; exact (Array.getElem?_eq_some_iff.1 ho).1
      have h2 : listed.toList[i]? = some false := by
        simp only [Array.getD, hlt, dif_pos] at h1
        rw [Array.getElem?_toList, Array.getElem?_eq_getElem hlt]
        exact congrArg some h1
      have := cnt_set _ i h2
      omega
    exact ⟨hr, hdone listed a w hsz hI hr⟩
  | succ fuel ih =>
    intro listed a w hsz hc hI
    refine ⟨fun hr => hdone listed a w hsz hI hr, fun i hi => ?_⟩
    obtain ⟨h1, o, ho, hd⟩ := mem_ready.1 hi
    have hlt : i < listed.size := by rw [hsz]; exact (Array.getElem?_eq_some_iff.1 ho).1
    have hf2 : listed.getD i false = false := by
      simp only [Array.getD, hlt, dif_pos] at h1 ⊢
      exact h1
    have h2 : listed.toList[i]? = some false := by
      simp only [Array.getD, hlt, dif_pos] at h1
      rw [Array.getElem?_toList, Array.getElem?_eq_getElem hlt]
      exact congrArg some h1
    refine wpOp_mono (fun a' w' h => ih (listed.setIfInBounds i true) a' w' (by simpa using hsz) ?_ ?_) (hs i o ho _ a w hI hf2 hd)
    · have := cnt_set _ i h2
      rw [Array.toList_setIfInBounds]
      omega
    · have e : moreL (fun j => listed.getD j false) i = fun j => (listed.setIfInBounds i true).getD j false := by
        funext j
        unfold moreL
        by_cases hji : j = i
        · subst hji
          simp [Array.getD, hlt]
        · show (decide (j = i) || listed.getD j false) = (listed.setIfInBounds i true).getD j false
          rw [Array.getD_eq_getD_getElem?, Array.getD_eq_getD_getElem?, Array.getElem?_setIfInBounds_ne (Ne.symm hji)]
          simp [hji]
      rw [← e]; exact h
theorem wp_region_inv {id : Nat} {I : (Nat → Bool) → Act → World → Prop} (hm : P.follows .mixedOrders = true) (ht : topoB ops = true) (h0 : I (fun _ => false) a0 w0.drew)
    (hs : ∀ k o, ops[k]? = some o → ∀ L a w, I L a w → L k = false → (∀ e ∈ o.after, Region.binds .any e = true → L e.on = true) → wpOp P ops Q k (I (moreL L k)) a w)
    (hf : ∀ L a w, I L a w → (∀ j, j < ops.size → L j = true) → Q .normal a w) : (Code.region id ops true).wp P Q a0 w0 := by
  refine wp_region_any hm (wpAny_inv ht hs hf _ _ _ _ (by simp) (by simp) ?_)
  have e : (fun j => (Array.replicate ops.size false).getD j false) = fun _ => false := by
    funext j
    simp [Array.getD]
  rw [e]; exact h0

/-- Only block b has changed. -/
structure OnlyB (b : Nat) (w w' : World) : Prop where
  os : w'.os = w.os
  tape : w'.tape = w.tape
  output : w'.output = w.output
  size : w'.heap.size = w.heap.size
  block : ∀ k, k ≠ b → w'.heap[k]? = w.heap[k]?
theorem OnlyB.setCell (w : World) (b o : Nat) (v : Value) : OnlyB b w (w.setCell ⟨b, o, none⟩ v) := ⟨rfl, rfl, rfl, by simp [World.setCell], fun k hk => Below.heap_setCell w ⟨b, o, none⟩ v k hk⟩
theorem OnlyB.trans {b : Nat} {w w' w'' : World} (h : OnlyB b w w') (k : OnlyB b w' w'') : OnlyB b w w'' := ⟨k.os.trans h.os, k.tape.trans h.tape, k.output.trans h.output, k.size.trans h.size, fun j hj => (k.block j hj).trans (h.block j hj)⟩
theorem OnlyB.grown {b : Nat} {w w' : World} (h : OnlyB b w w') : w.grownBy w' (some b) := ⟨h.os, h.tape, h.output, Nat.le_of_eq h.size.symm, fun k _ hk => h.block k (fun e => hk (by rw [e]))⟩
abbrev ptr0 (b : Nat) : Value := .pointer (some ⟨b, 0, none⟩)

/-- How a region is looked at. bx: which box a store fills (by the operation that makes it); Rel: what an operation may do to the world; G: what holds all along, by what is there; Φ: what each value that is there says; Ψ: what a box that was filled says. -/
structure RegS where
  bx : Nat → Option Nat
  Rel : World → World → Prop
  G : (Nat → Bool) → World → Prop
  Φ : Nat → Value → World → Prop
  Ψ : Nat → Value → World → Prop
/-- What holds while the region runs. -/
structure InvR (ops : Array Oper) (a0 : Act) (S : RegS) (L : Nat → Bool) (a : Act) (w : World) : Prop where
  size : a.tmps.size = a0.tmps.size
  defs : a.defers = a0.defers
  old : ∀ t, (∀ j, dstOf ops j ≠ some t) → a.tmps[t]? = a0.tmps[t]?
  clo : ∀ j o, ops[j]? = some o → L j = true → ∀ e ∈ o.after, Region.binds .any e = true → L e.on = true
  glob : S.G L w
  val : ∀ j d, L j = true → dstOf ops j = some d → S.Φ j (a.eval (.tmp d)) w
  box : ∀ j k d, L j = true → S.bx j = some k → dstOf ops k = some d → L k = true ∧ S.Ψ j (a.eval (.tmp d)) w
  dis : ∀ j j' k k' d d', S.bx j = some k → S.bx j' = some k' → k ≠ k' → dstOf ops k = some d → dstOf ops k' = some d' → L k = true → L k' = true → a.eval (.tmp d) ≠ a.eval (.tmp d')

/-- What is known of the values that are there stays. -/
def KeepsR (S : RegS) (L : Nat → Bool) (w w' : World) : Prop := (∀ j v, L j = true → S.Φ j v w → S.Φ j v w') ∧ ∀ j v, L j = true → S.Ψ j v w → S.Ψ j v w'
/-- What is to be shown of one operation. -/
def StepR (P : Program) (ops : Array Oper) (Q : Exit → Act → World → Prop) (a0 : Act) (S : RegS) (k : Nat) (o : Oper) : Prop :=
  ∀ L a w, InvR ops a0 S L a w → L k = false → (∀ e ∈ o.after, Region.binds .any e = true → L e.on = true) →
    match S.bx k with
    | none => wpOp P ops Q k (fun a' w' => ∃ v, a' = a.put o.dst v ∧ KeepsR S L w w' ∧ S.G (moreL L k) w' ∧ (o.dst ≠ none → S.Φ k v w') ∧ ((∃ j, S.bx j = some k) → ∃ b, v = ptr0 b ∧ w.heap.size ≤ b)) a w
    | some al => wpOp P ops Q k (fun a' w' => a' = a ∧ ∃ b d, dstOf ops al = some d ∧ L al = true ∧ a.eval (.tmp d) = ptr0 b ∧ OnlyB b w w' ∧ S.G (moreL L k) w' ∧ S.Ψ k (ptr0 b) w') a w
def StepsR (P : Program) (ops : Array Oper) (Q : Exit → Act → World → Prop) (a0 : Act) (S : RegS) : Nat → List Oper → Prop
  | _, [] => True
  | k, o :: l => StepR P ops Q a0 S k o ∧ StepsR P ops Q a0 S (k + 1) l
theorem StepsR.get {S : RegS} : ∀ {l : List Oper} {k : Nat}, StepsR P ops Q a0 S k l → ∀ {i : Nat} {o : Oper}, l[i]? = some o → StepR P ops Q a0 S (k + i) o
  | [], _, _, i, o, h => by simp at h
  | x :: l, k, ⟨h1, h2⟩, 0, o, h => by
    obtain rfl : x = o := by simpa using h
    exact h1
  | x :: l, k, ⟨h1, h2⟩, i + 1, o, h => by
    have := StepsR.get h2 (i := i) (by simpa using h)
    rw [show k + (i + 1) = k + 1 + i by omega]
    exact this

theorem moreL_clo {L : Nat → Bool} {k : Nat} {o : Oper} (ho : ops[k]? = some o) (hc : ∀ j o, ops[j]? = some o → L j = true → ∀ e ∈ o.after, Region.binds .any e = true → L e.on = true) (hd : ∀ e ∈ o.after, Region.binds .any e = true → L e.on = true) :
    ∀ j o', ops[j]? = some o' → moreL L k j = true → ∀ e ∈ o'.after, Region.binds .any e = true → moreL L k e.on = true := by
  intro j o' ho' hj e he hb
  have h1 : L e.on = true := by
    by_cases hjk : j = k
    · subst hjk
      rw [ho] at ho'
      cases ho'
      exact hd e he hb
    · exact hc j o' ho' (by simpa [moreL, hjk] using hj) e he hb
  unfold moreL; rw [h1]; simp
theorem eval_put_ne {a : Act} {d t : Tmp} {v : Value} (h : d ≠ t) : (a.put (some d) v).eval (.tmp t) = a.eval (.tmp t) := by
  show (a.tmps.setIfInBounds d v).getD t undef = a.tmps.getD t undef
  rw [Array.getD_eq_getD_getElem?, Array.getD_eq_getD_getElem?, Array.getElem?_setIfInBounds_ne h]
theorem eval_put_eq {a : Act} {d : Tmp} {v : Value} (h : d < a.tmps.size) : (a.put (some d) v).eval (.tmp d) = v := by
  simp [Act.put, Act.eval, Array.getD, h]

theorem wp_region_R {id : Nat} {S : RegS} {l : List Oper} (hm : P.follows .mixedOrders = true) (ht : topoB l.toArray = true) (hap : apartB l.toArray = true)
    (hsz : ∀ j d, dstOf l.toArray j = some d → d < a0.tmps.size) (hbd : ∀ j k, S.bx j = some k → dstOf l.toArray j = none) (hbi : ∀ j j' k, S.bx j = some k → S.bx j' = some k → j = j')
    (hG0 : S.G (fun _ => false) w0.drew)
    (hbx : ∀ j k v w, S.bx j = some k → S.Φ k v w → ∃ b, v = ptr0 b ∧ b < w.heap.size)
    (hΦs : ∀ L j v w w' m k b, S.G L w → S.bx m = some k → S.Φ k (ptr0 b) w → OnlyB b w w' → S.Ψ m (ptr0 b) w' → S.Φ j v w → S.Φ j v w')
    (hΨs : ∀ L j v w w' m k b, S.G L w → S.bx m = some k → S.Φ k (ptr0 b) w → OnlyB b w w' → v ≠ ptr0 b → S.Ψ j v w → S.Ψ j v w')
    (hst : StepsR P l.toArray Q a0 S 0 l)
    (hf : ∀ a w, (∀ L, (∀ j, j < l.toArray.size → L j = true) → InvR l.toArray a0 S L a w → Q .normal a w)) : (Code.region id l.toArray true).wp P Q a0 w0 := by
  refine wp_region_inv (I := InvR l.toArray a0 S) hm ht ⟨rfl, rfl, fun _ _ => rfl, fun _ _ _ h => (by cases h), hG0, fun _ _ h => (by cases h), fun _ _ _ h => (by cases h), fun _ _ _ _ _ _ _ _ _ _ _ h => (by cases h)⟩ ?_ fun L a w hI hL => hf a w L hL hI
  intro k o ho L a w hI hLk hd
  have hstep := hst.get (i := k) (by simpa using ho) L a w hI (by rw [Nat.zero_add]; exact hLk) hd
  rw [Nat.zero_add] at hstep
  have hdk : dstOf l.toArray k = o.dst := by unfold dstOf; rw [ho]; rfl
  cases hb : S.bx k with
  | none =>
    rw [hb] at hstep
    refine wpOp_mono ?_ hstep
    rintro a' w' ⟨v, rfl, hbel, hG, hv, hfr⟩
    have hclo := moreL_clo ho hI.clo hd
    have hev : ∀ j t, j ≠ k → dstOf l.toArray j = some t → (a.put o.dst v).eval (.tmp t) = a.eval (.tmp t) := fun j t hjk hj => by
      cases hdo : o.dst with
      | none => rfl
      | some d =>
        refine eval_put_ne fun e => hjk ?_
        subst e
        exact apart_spec hap hj (hdk.trans hdo)
    have hLm : ∀ j, moreL L k j = true → j = k ∨ (j ≠ k ∧ L j = true) := fun j hj => by
      by_cases e : j = k
      · exact .inl e
      · refine .inr ⟨e, ?_⟩
        simpa [moreL, e] using hj
    refine ⟨?_, ?_, fun t ht' => ?_, hclo, hG, fun j d hj hjd => ?_, fun j m d hj hjm hmd => ?_, fun j j' m m' d d' hjm hjm' hne hmd hmd' hLm1 hLm2 => ?_⟩
    · rw [← hI.size]; cases o.dst <;> simp [Act.put]
    · rw [← hI.defs]; cases o.dst <;> rfl
    · rw [← hI.old t ht']
      cases hdo : o.dst with
      | none => rfl
      | some d =>
        have hne : d ≠ t := fun e => ht' k (by rw [hdk, hdo, e])
        simp [Act.put, hne]
    · rcases hLm j hj with rfl | ⟨hjk, hL⟩
      · rw [hdk] at hjd
        rw [hjd, eval_put_eq (by rw [hI.size]; exact hsz j d (hdk.trans hjd))]
        exact hv (by rw [hjd]; simp)
      · rw [hev j d hjk hjd]
        exact hbel.1 j _ hL (hI.val j d hL hjd)
    · rcases hLm j hj with rfl | ⟨hjk, hL⟩
      · rw [hb] at hjm; cases hjm
      · obtain ⟨hLm', hps⟩ := hI.box j m d hL hjm hmd
        have hmk : m ≠ k := fun e => by rw [e, hLk] at hLm'; cases hLm'
        rw [hev m d hmk hmd]
        exact ⟨by unfold moreL; rw [hLm']; simp, hbel.2 j _ hL hps⟩
    · rcases hLm m hLm1 with rfl | ⟨hmk, hL1⟩
      · rcases hLm m' hLm2 with rfl | ⟨hmk', hL2⟩
        · exact absurd rfl hne
        · obtain ⟨b, rfl, hbb⟩ := hfr ⟨j, hjm⟩
          rw [hdk] at hmd
          rw [hmd, eval_put_eq (by rw [hI.size]; exact hsz m d (hdk.trans hmd))]
          rw [← hmd, hev m' d' hmk' hmd']
          obtain ⟨b', e', hb'⟩ := hbx j' m' _ w hjm' (hI.val m' d' hL2 hmd')
          rw [e']
          intro e
          have : b = b' := by injection e with e; injection e with e; injection e
          omega
      · rcases hLm m' hLm2 with rfl | ⟨hmk', hL2⟩
        · obtain ⟨b, rfl, hbb⟩ := hfr ⟨j', hjm'⟩
          rw [hdk] at hmd'
          rw [hmd', eval_put_eq (by rw [hI.size]; exact hsz m' d' (hdk.trans hmd'))]
          rw [← hmd', hev m d hmk hmd]
          obtain ⟨b', e', hb'⟩ := hbx j m _ w hjm (hI.val m d hL1 hmd)
          rw [e']
          intro e
          have : b' = b := by injection e with e; injection e with e; injection e
          omega
        · rw [hev m d hmk hmd, hev m' d' hmk' hmd']
          exact hI.dis j j' m m' d d' hjm hjm' hne hmd hmd' hL1 hL2
  | some al =>
    rw [hb] at hstep
    refine wpOp_mono ?_ hstep
    rintro a' w' ⟨rfl, b, d0, hd0, hLal, he, honly, hG, hps⟩
    have hLm : ∀ j, moreL L k j = true → j = k ∨ (j ≠ k ∧ L j = true) := fun j hj => by
      by_cases e : j = k
      · exact .inl e
      · refine .inr ⟨e, ?_⟩
        simpa [moreL, e] using hj
    have hnk : dstOf l.toArray k = none := hbd k al hb
    have hal := hI.val al d0 hLal hd0
    rw [he] at hal
    refine ⟨hI.size, hI.defs, hI.old, moreL_clo ho hI.clo hd, hG, fun j d hj hjd => ?_, fun j m d hj hjm hmd => ?_, fun j j' m m' d d' hjm hjm' hne hmd hmd' hLm1 hLm2 => ?_⟩
    · rcases hLm j hj with rfl | ⟨_, hL⟩
      · rw [hnk] at hjd; cases hjd
      · exact hΦs L j _ w w' k al b hI.glob hb hal honly hps (hI.val j d hL hjd)
    · rcases hLm j hj with rfl | ⟨hjk, hL⟩
      · rw [hb] at hjm
        injection hjm with hjm
        subst hjm
        rw [hd0] at hmd
        injection hmd with hmd
        subst hmd
        rw [he]
        exact ⟨by unfold moreL; rw [hLal]; simp, hps⟩
      · obtain ⟨hLm', hps'⟩ := hI.box j m d hL hjm hmd
        refine ⟨by unfold moreL; rw [hLm']; simp, ?_⟩
        by_cases hma : m = al
        · subst hma
          rw [hd0] at hmd
          injection hmd with hmd
          subst hmd
          exact absurd (hbi j k m hjm hb) hjk
        · refine hΨs L j _ w w' k al b hI.glob hb hal honly (fun e => ?_) hps'
          exact hI.dis j k m al d d0 hjm hb hma hmd hd0 hLm' hLal (by rw [e, he])
    · have l1 : ∀ {m d}, moreL L k m = true → dstOf l.toArray m = some d → L m = true := fun {m d} h1 h2 => by
        rcases hLm m h1 with rfl | ⟨_, h⟩
        · rw [hnk] at h2; cases h2
        · exact h
      exact hI.dis j j' m m' d d' hjm hjm' hne hmd hmd' (l1 hLm1 hmd) (l1 hLm2 hmd')
theorem foldl_set_get {f : Tmp → Value} {t : Nat} : ∀ (ds : List Tmp) (arr : Array Value), (ds.foldl (fun t d => t.setIfInBounds d (f d)) arr).size = arr.size ∧ (ds.foldl (fun t d => t.setIfInBounds d (f d)) arr)[t]? = if t ∈ ds ∧ t < arr.size then some (f t) else arr[t]?
  | [], arr => by simp
  | d :: ds, arr => by
    obtain ⟨h1, h2⟩ := foldl_set_get ds (arr.setIfInBounds d (f d))
    refine ⟨by rw [List.foldl_cons, h1]; simp, ?_⟩
    rw [List.foldl_cons, h2]
    by_cases ht : t < arr.size
    · by_cases hm : t ∈ ds
      · simp [ht, hm]
      · by_cases hd : d = t
        · subst hd; simp [ht, hm]
        · have hd2 : ¬ t = d := fun e => hd e.symm
          simp only [Array.size_setIfInBounds, List.mem_cons, hm, hd2, or_self, false_and, if_false]
          exact Array.getElem?_setIfInBounds_ne hd
    · simp only [Array.size_setIfInBounds, ht, and_false, if_false]
      rw [Array.getElem?_eq_none (by simp; omega), Array.getElem?_eq_none (by omega)]
/-- The frame behind the region, written out. -/
theorem InvR.frame {S : RegS} {L : Nat → Bool} {a : Act} {w : World} {l : List Oper} (h : InvR l.toArray a0 S L a w) :
    a = ⟨(l.filterMap (·.dst)).foldl (fun t d => t.setIfInBounds d (a.eval (.tmp d))) a0.tmps, a0.defers⟩ := by
  obtain ⟨tm, df⟩ := a
  have hd := h.defs
  dsimp only at hd
  subst hd
  congr 1
  apply Array.ext_getElem?
  intro t
  rw [(foldl_set_get (t := t) (f := fun d => Act.eval ⟨tm, a0.defers⟩ (.tmp d)) (l.filterMap (·.dst)) a0.tmps).2]
  have hs := h.size
  dsimp only at hs
  split
  · rename_i hc
    have : t < tm.size := by omega
    show _ = some (tm.getD t undef)
    simp [Array.getD, this]
  · rename_i hc
    by_cases ht : t ∈ l.filterMap (·.dst)
    · have : ¬ t < a0.tmps.size := fun k => hc ⟨ht, k⟩
      rw [Array.getElem?_eq_none (by omega), Array.getElem?_eq_none (by omega)]
    · refine h.old t fun j hj => ht ?_
      unfold dstOf at hj
      cases ho : l.toArray[j]? with
      | none => rw [ho] at hj; cases hj
      | some o =>
        rw [ho] at hj
        exact List.mem_filterMap.2 ⟨o, List.mem_of_getElem? (by simpa using ho), hj⟩
theorem InvR.slot {S : RegS} {L : Nat → Bool} {a : Act} {w : World} {l : List Oper} (h : InvR l.toArray a0 S L a w) {t : Tmp} (ht : (l.all fun o => !(o.dst == some t)) = true) : a.eval (.tmp t) = a0.eval (.tmp t) := by
  have := h.old t fun j hj => by
    unfold dstOf at hj
    cases ho : l.toArray[j]? with
    | none => rw [ho] at hj; cases hj
    | some o =>
      rw [ho] at hj
      have h1 := List.all_eq_true.1 ht o (List.mem_of_getElem? (by simpa using ho))
      have h2 : o.dst = some t := hj
      rw [h2] at h1
      simp at h1
  show a.tmps.getD t undef = a0.tmps.getD t undef
  rw [Array.getD_eq_getD_getElem?, Array.getD_eq_getD_getElem?, this]

theorem eval_tmp (a : Act) (t : Nat) : a.eval (.tmp t) = a.tmps[t]?.getD undef := by
  show a.tmps.getD t undef = _
  rw [Array.getD_eq_getD_getElem?]
theorem InvR.at {S : RegS} {L : Nat → Bool} {a : Act} {w : World} {l : List Oper} (h : InvR l.toArray a0 S L a w) (t : Tmp) (ht : (l.all fun o => !(o.dst == some t)) = true) : a.tmps[t]?.getD undef = a0.eval (.tmp t) := by
  rw [← eval_tmp]; exact h.slot ht
theorem InvR.get {S : RegS} {L : Nat → Bool} {a : Act} {w : World} (h : InvR ops a0 S L a w) (j d : Nat) (hL : L j = true) (hd : dstOf ops j = some d) : ∃ v, a.tmps[d]?.getD undef = v ∧ S.Φ j v w :=
  ⟨_, rfl, by rw [← eval_tmp]; exact h.val j d hL hd⟩
theorem dst_small {l : List Oper} {n : Nat} (h : (l.all fun o => match o.dst with
  | some d => decide (d < n)
  | none => true) = true) : ∀ j d, dstOf l.toArray j = some d → d < n := by
  intro j d hj
  unfold dstOf at hj
  cases ho : l.toArray[j]? with
  | none => rw [ho] at hj; cases hj
  | some o =>
    rw [ho] at hj
    have h1 := List.all_eq_true.1 h o (List.mem_of_getElem? (by simpa using ho))
    have h2 : o.dst = some d := hj
    rw [h2] at h1
    exact of_decide_eq_true h1
theorem wpOp_val {k : Nat} {o : Oper} {K : Act → World → Prop} {a : Act} {w w' : World} {v : Value} (ho : ops[k]? = some o) (hw : Region.wanted o (yielded ops a.tmps) = true) (hr : (execOp a.eval o).run P w = .ok (.value v) w') (hK : K (a.put o.dst v) w') : wpOp P ops Q k K a w := by
  refine wpOp_step ho fun K' hK' => ?_
  rw [if_pos hw]
  unfold Oper.wp
  rw [hr]
  exact hK' _ _ hK
theorem wpOp_skip {k : Nat} {o : Oper} {K : Act → World → Prop} {a : Act} {w w' : World} (ho : ops[k]? = some o) (hw : Region.wanted o (yielded ops a.tmps) = true) (hr : (execOp a.eval o).run P w = .ok .skip w') (hK : K (a.put o.dst undef) w') : wpOp P ops Q k K a w := by
  refine wpOp_step ho fun K' hK' => ?_
  rw [if_pos hw]
  unfold Oper.wp
  rw [hr]
  exact hK' _ _ hK
theorem wpOp_call {k : Nat} {o : Oper} {K : Act → World → Prop} {a : Act} {w w' : World} {f : FuncId} {args : Array Value} (ho : ops[k]? = some o) (hw : Region.wanted o (yielded ops a.tmps) = true) (hr : (execOp a.eval o).run P w = .ok (.enter f args) w') (hc : Calls P f args w' fun e w'' => ∃ v, e = .returned v ∧ K (a.put o.dst v) w'') : wpOp P ops Q k K a w := by
  refine wpOp_step ho fun K' hK' => ?_
  rw [if_pos hw]
  unfold Oper.wp
  rw [hr]
  refine Calls.mono hc ?_
  rintro e w'' ⟨v, rfl, h⟩
  exact hK' _ _ h
section
variable {S : RegS} {k : Nat} {o : Oper}
/-- Which operations one waits for. -/
def waitsB (o : Oper) (j : Nat) : Bool := o.after.toList.any fun e => decide (e.on = j) && Region.binds .any e
theorem waits_spec {L : Nat → Bool} (hd : ∀ e ∈ o.after, Region.binds .any e = true → L e.on = true) (j : Nat) (h : waitsB o j = true) : L j = true := by
  unfold waitsB at h
  rw [List.any_eq_true] at h
  obtain ⟨e, he, h1⟩ := h
  simp only [Bool.and_eq_true, decide_eq_true_eq] at h1
  rw [← h1.1]; exact hd e (by simpa using he) h1.2
theorem StepR.madeL (ho : ops[k]? = some o) (hb : S.bx k = none) (hnb : ∀ j, S.bx j ≠ some k)
    (h : ∀ L a w, InvR ops a0 S L a w → L k = false → (∀ j, waitsB o j = true → L j = true) → Region.wanted o (yielded ops a.tmps) = true ∧ ∃ v w', (execOp a.eval o).run P w = .ok (.value v) w' ∧ KeepsR S L w w' ∧ S.G (moreL L k) w' ∧ S.Φ k v w') : StepR P ops Q a0 S k o := by
  intro L a w hI hk hd
  rw [hb]
  obtain ⟨hw, v, w', hr, hbel, hg, hv⟩ := h L a w hI hk (waits_spec hd)
  exact wpOp_val ho hw hr ⟨v, rfl, hbel, hg, fun _ => hv, fun ⟨j, hj⟩ => absurd hj (hnb j)⟩
theorem StepR.made (ho : ops[k]? = some o) (hb : S.bx k = none) (hnb : ∀ j, S.bx j ≠ some k) (hG : ∀ L w w', S.G L w → S.Rel w w' → KeepsR S L w w' ∧ S.G (moreL L k) w')
    (h : ∀ L a w, InvR ops a0 S L a w → L k = false → (∀ j, waitsB o j = true → L j = true) → Region.wanted o (yielded ops a.tmps) = true ∧ ∃ v w', (execOp a.eval o).run P w = .ok (.value v) w' ∧ S.Rel w w' ∧ S.Φ k v w') : StepR P ops Q a0 S k o :=
  StepR.madeL ho hb hnb fun L a w hI hk hd => by
    obtain ⟨hw, v, w', hr, hbel, hv⟩ := h L a w hI hk hd
    exact ⟨hw, v, w', hr, (hG L w w' hI.glob hbel).1, (hG L w w' hI.glob hbel).2, hv⟩
theorem StepR.pure (ho : ops[k]? = some o) (hb : S.bx k = none) (hnb : ∀ j, S.bx j ≠ some k) (hR : ∀ w, S.Rel w w) (hG : ∀ L w w', S.G L w → S.Rel w w' → KeepsR S L w w' ∧ S.G (moreL L k) w')
    (h : ∀ L a w, InvR ops a0 S L a w → L k = false → (∀ j, waitsB o j = true → L j = true) → Region.wanted o (yielded ops a.tmps) = true ∧ ∃ v, (execOp a.eval o).run P w = .ok (.value v) w ∧ S.Φ k v w) : StepR P ops Q a0 S k o :=
  StepR.made ho hb hnb hG fun L a w hI hk hd => by
    obtain ⟨hw, v, hr, hv⟩ := h L a w hI hk hd
    exact ⟨hw, v, w, hr, hR w, hv⟩
theorem StepR.call (ho : ops[k]? = some o) (hb : S.bx k = none) (hnb : ∀ j, S.bx j ≠ some k) (hG : ∀ L w w', S.G L w → S.Rel w w' → KeepsR S L w w' ∧ S.G (moreL L k) w')
    (h : ∀ L a w, InvR ops a0 S L a w → L k = false → (∀ j, waitsB o j = true → L j = true) → Region.wanted o (yielded ops a.tmps) = true ∧ ∃ f args, (execOp a.eval o).run P w = .ok (.enter f args) w ∧ Calls P f args w fun e w' => ∃ v, e = .returned v ∧ S.Rel w w' ∧ S.Φ k v w') : StepR P ops Q a0 S k o := by
  intro L a w hI hk hd
  rw [hb]
  obtain ⟨hw, f, args, hr, hc⟩ := h L a w hI hk (waits_spec hd)
  refine wpOp_call ho hw hr (hc.mono ?_)
  rintro e w' ⟨v, he, hbel, hv⟩
  exact ⟨v, he, v, rfl, (hG L w w' hI.glob hbel).1, (hG L w w' hI.glob hbel).2, fun _ => hv, fun ⟨j, hj⟩ => absurd hj (hnb j)⟩
theorem StepR.boxed (ho : ops[k]? = some o) (hb : S.bx k = none) (hR : ∀ w o, S.Rel w (w.alloc o)) (hG : ∀ L w w', S.G L w → S.Rel w w' → KeepsR S L w w' ∧ S.G (moreL L k) w')
    (h : ∀ L a w, InvR ops a0 S L a w → Region.wanted o (yielded ops a.tmps) = true ∧ ∃ ob, (execOp a.eval o).run P w = .ok (.value (ptr0 w.heap.size)) (w.alloc ob) ∧ S.Φ k (ptr0 w.heap.size) (w.alloc ob)) : StepR P ops Q a0 S k o := by
  intro L a w hI _ hd
  rw [hb]
  obtain ⟨hw, ob, hr, hv⟩ := h L a w hI
  exact wpOp_val ho hw hr ⟨_, rfl, (hG L w _ hI.glob (hR w ob)).1, (hG L w _ hI.glob (hR w ob)).2, fun _ => hv, fun _ => ⟨_, rfl, Nat.le_refl _⟩⟩
theorem StepR.store {al : Nat} (ho : ops[k]? = some o) (hb : S.bx k = some al) (hdst : o.dst = none)
    (h : ∀ L a w, InvR ops a0 S L a w → (∀ j, waitsB o j = true → L j = true) → Region.wanted o (yielded ops a.tmps) = true ∧ ∃ b d w', dstOf ops al = some d ∧ L al = true ∧ a.eval (.tmp d) = ptr0 b ∧ (execOp a.eval o).run P w = .ok .skip w' ∧ OnlyB b w w' ∧ S.G (moreL L k) w' ∧ S.Ψ k (ptr0 b) w') : StepR P ops Q a0 S k o := by
  intro L a w hI _ hd
  rw [hb]
  obtain ⟨hw, b, d, w', h1, h2, h3, hr, h4, h5, h6⟩ := h L a w hI (waits_spec hd)
  refine wpOp_skip ho hw hr ⟨?_, b, d, h1, h2, h3, h4, h5, h6⟩
  rw [hdst]; rfl
/-- An operation for which another one waits comes before it. -/
theorem InvR.before {L : Nat → Bool} {a : Act} {w : World} (h : InvR ops a0 S L a w) {j : Nat} {o : Oper} (ho : ops[j]? = some o) (hw : waitsB o k = true) (hk : L k = false) : L j = false := by
  cases hj : L j with
  | false => rfl
  | true =>
    have := waits_spec (h.clo j o ho hj) k hw
    rw [hk] at this; cases this
end
abbrev BelW (w w' : World) : Prop := Below w.heap.size w w'
theorem wanted_at {o : Oper} {j d : Nat} {b : Bool} {a : Act} (hg : o.guard = some (j, b)) (hd : dstOf ops j = some d) (he : a.eval (.tmp d) = .bool b) : Region.wanted o (yielded ops a.tmps) = true := by
  have h1 : a.tmps[d]? = some (.bool b) := by
    have h2 : a.tmps.getD d undef = .bool b := he
    rw [Array.getD_eq_getD_getElem?] at h2
    cases h3 : a.tmps[d]? with
    | none => rw [h3] at h2; simp [undef] at h2
    | some v => rw [h3] at h2; simp at h2; rw [h2]
  unfold dstOf at hd
  unfold Region.wanted
  rw [hg]
  show (yielded ops a.tmps j == some b) = true
  unfold yielded
  rw [hd]
  simp [h1]
end

end

section
open Go.RowKit

/-- G: what holds all along, by what is there and by the frame; Φ: what each value says. -/
structure RegT where
  G : (Nat → Bool) → Act → World → Prop
  Φ : Nat → Value → World → Prop
structure InvT (ops : Array Oper) (a0 : Act) (S : RegT) (L : Nat → Bool) (a : Act) (w : World) : Prop where
  size : a.tmps.size = a0.tmps.size
  defs : a.defers = a0.defers
  old : ∀ t, (∀ j, dstOf ops j ≠ some t) → a.tmps[t]? = a0.tmps[t]?
  clo : ∀ j o, ops[j]? = some o → L j = true → ∀ e ∈ o.after, Region.binds .any e = true → L e.on = true
  glob : S.G L a w
  val : ∀ j d, L j = true → dstOf ops j = some d → S.Φ j (a.eval (.tmp d)) w
def KeepsT (S : RegT) (L : Nat → Bool) (w w' : World) : Prop := ∀ j v, L j = true → S.Φ j v w → S.Φ j v w'
section
variable {P : Program} {ops : Array Oper} {Q : Exit → Act → World → Prop} {a0 : Act} {w0 : World}
def StepT (P : Program) (ops : Array Oper) (Q : Exit → Act → World → Prop) (a0 : Act) (S : RegT) (k : Nat) (o : Oper) : Prop :=
  ∀ L a w, InvT ops a0 S L a w → L k = false → (∀ e ∈ o.after, Region.binds .any e = true → L e.on = true) →
    wpOp P ops Q k (fun a' w' => ∃ v, a' = a.put o.dst v ∧ KeepsT S L w w' ∧ S.G (moreL L k) (a.put o.dst v) w' ∧ (o.dst ≠ none → S.Φ k v w')) a w
def StepsT (P : Program) (ops : Array Oper) (Q : Exit → Act → World → Prop) (a0 : Act) (S : RegT) : Nat → List Oper → Prop
  | _, [] => True
  | k, o :: l => StepT P ops Q a0 S k o ∧ StepsT P ops Q a0 S (k + 1) l
theorem StepsT.get {S : RegT} : ∀ {l : List Oper} {k : Nat}, StepsT P ops Q a0 S k l → ∀ {i : Nat} {o : Oper}, l[i]? = some o → StepT P ops Q a0 S (k + i) o
  | [], _, _, i, o, h => by simp at h
  | x :: l, k, ⟨h1, h2⟩, 0, o, h => by
    obtain rfl : x = o := by simpa using h
    exact h1
  | x :: l, k, ⟨h1, h2⟩, i + 1, o, h => by
    have := StepsT.get h2 (i := i) (by simpa using h)
    rw [show k + (i + 1) = k + 1 + i by omega]
    exact this
theorem wp_region_T {id : Nat} {S : RegT} {l : List Oper} (hm : P.follows .mixedOrders = true) (ht : topoB l.toArray = true) (hap : apartB l.toArray = true)
    (hsz : ∀ j d, dstOf l.toArray j = some d → d < a0.tmps.size) (hG0 : S.G (fun _ => false) a0 w0.drew)
    (hst : StepsT P l.toArray Q a0 S 0 l)
    (hf : ∀ a w L, (∀ j, j < l.toArray.size → L j = true) → InvT l.toArray a0 S L a w → Q .normal a w) : (Code.region id l.toArray true).wp P Q a0 w0 := by
  refine wp_region_inv (I := InvT l.toArray a0 S) hm ht ⟨rfl, rfl, fun _ _ => rfl, fun _ _ _ h => (by cases h), hG0, fun _ _ h => (by cases h)⟩ ?_ fun L a w hI hL => hf a w L hL hI
  intro k o ho L a w hI hLk hd
  have hstep := hst.get (i := k) (by simpa using ho) L a w hI (by rw [Nat.zero_add]; exact hLk) hd
  rw [Nat.zero_add] at hstep
  have hdk : dstOf l.toArray k = o.dst := by unfold dstOf; rw [ho]; rfl
  refine wpOp_mono ?_ hstep
  rintro a' w' ⟨v, rfl, hbel, hG, hv⟩
  have hclo := moreL_clo ho hI.clo hd
  have hev : ∀ j t, j ≠ k → dstOf l.toArray j = some t → (a.put o.dst v).eval (.tmp t) = a.eval (.tmp t) := fun j t hjk hj => by
    cases hdo : o.dst with
    | none => rfl
    | some d =>
      refine eval_put_ne fun e => hjk ?_
      subst e
      exact apart_spec hap hj (hdk.trans hdo)
  have hLm : ∀ j, moreL L k j = true → j = k ∨ (j ≠ k ∧ L j = true) := fun j hj => by
    by_cases e : j = k
    · exact .inl e
    · refine .inr ⟨e, ?_⟩
      simpa [moreL, e] using hj
  refine ⟨?_, ?_, fun t ht' => ?_, hclo, hG, fun j d hj hjd => ?_⟩
  · rw [← hI.size]; cases o.dst <;> simp [Act.put]
  · rw [← hI.defs]; cases o.dst <;> rfl
  · rw [← hI.old t ht']
    cases hdo : o.dst with
    | none => rfl
    | some d =>
      have hne : d ≠ t := fun e => ht' k (by rw [hdk, hdo, e])
      simp [Act.put, hne]
  · rcases hLm j hj with rfl | ⟨hjk, hL⟩
    · rw [hdk] at hjd
      rw [hjd, eval_put_eq (by rw [hI.size]; exact hsz j d (hdk.trans hjd))]
      exact hv (by rw [hjd]; simp)
    · rw [hev j d hjk hjd]
      exact hbel j _ hL (hI.val j d hL hjd)
/-- The frame behind the region, written out. -/
theorem InvT.frame {S : RegT} {L : Nat → Bool} {a : Act} {w : World} {l : List Oper} (h : InvT l.toArray a0 S L a w) :
    a = ⟨(l.filterMap (·.dst)).foldl (fun t d => t.setIfInBounds d (a.eval (.tmp d))) a0.tmps, a0.defers⟩ := by
  have h' : InvR l.toArray a0 ⟨fun _ => none, fun _ _ => True, fun _ _ => True, fun _ _ _ => True, fun _ _ _ => True⟩ L a w :=
    ⟨h.size, h.defs, h.old, h.clo, trivial, fun _ _ _ _ => trivial, fun _ _ _ _ h => (by cases h), fun _ _ _ _ _ _ h => (by cases h)⟩
  exact h'.frame
theorem InvT.at {S : RegT} {L : Nat → Bool} {a : Act} {w : World} {l : List Oper} (h : InvT l.toArray a0 S L a w) (t : Tmp) (ht : (l.all fun o => !(o.dst == some t)) = true) : a.tmps[t]?.getD undef = a0.eval (.tmp t) := by
  have h' : InvR l.toArray a0 ⟨fun _ => none, fun _ _ => True, fun _ _ => True, fun _ _ _ => True, fun _ _ _ => True⟩ L a w :=
    ⟨h.size, h.defs, h.old, h.clo, trivial, fun _ _ _ _ => trivial, fun _ _ _ _ h => (by cases h), fun _ _ _ _ _ _ h => (by cases h)⟩
  exact h'.at t ht
theorem InvT.get {S : RegT} {L : Nat → Bool} {a : Act} {w : World} (h : InvT ops a0 S L a w) (j d : Nat) (hL : L j = true) (hd : dstOf ops j = some d) : ∃ v, a.tmps[d]?.getD undef = v ∧ S.Φ j v w :=
  ⟨_, rfl, by rw [← eval_tmp]; exact h.val j d hL hd⟩
theorem InvT.wants {S : RegT} {L : Nat → Bool} {a : Act} {w : World} (h : InvT ops a0 S L a w) {o : Oper} {j d : Nat} {b : Bool} (hg : o.guard = some (j, b)) (hL : L j = true) (hd : dstOf ops j = some d) (hv : ∀ v, S.Φ j v w → v = .bool b) : Region.wanted o (yielded ops a.tmps) = true := wanted_at hg hd (hv _ (h.val j d hL hd))
theorem InvT.before {S : RegT} {k : Nat} {L : Nat → Bool} {a : Act} {w : World} (h : InvT ops a0 S L a w) {j : Nat} {o : Oper} (ho : ops[j]? = some o) (hw : waitsB o k = true) (hk : L k = false) : L j = false := by
  cases hj : L j with
  | false => rfl
  | true =>
    have := waits_spec (h.clo j o ho hj) k hw
    rw [hk] at this; cases this
section
variable {S : RegT} {k : Nat} {o : Oper}
theorem StepT.val (ho : ops[k]? = some o)
    (h : ∀ L a w, InvT ops a0 S L a w → L k = false → (∀ j, waitsB o j = true → L j = true) → Region.wanted o (yielded ops a.tmps) = true ∧ ∃ v w', (execOp a.eval o).run P w = .ok (.value v) w' ∧ KeepsT S L w w' ∧ S.G (moreL L k) (a.put o.dst v) w' ∧ S.Φ k v w') : StepT P ops Q a0 S k o := by
  intro L a w hI hk hd
  obtain ⟨hw, v, w', hr, hbel, hg, hv⟩ := h L a w hI hk (waits_spec hd)
  exact wpOp_val ho hw hr ⟨v, rfl, hbel, hg, fun _ => hv⟩
theorem StepT.skip (ho : ops[k]? = some o) (hdst : o.dst = none)
    (h : ∀ L a w, InvT ops a0 S L a w → L k = false → (∀ j, waitsB o j = true → L j = true) → Region.wanted o (yielded ops a.tmps) = true ∧ ∃ w', (execOp a.eval o).run P w = .ok .skip w' ∧ KeepsT S L w w' ∧ S.G (moreL L k) (a.put none undef) w') : StepT P ops Q a0 S k o := by
  intro L a w hI hk hd
  obtain ⟨hw, w', hr, hbel, hg⟩ := h L a w hI hk (waits_spec hd)
  exact wpOp_skip ho hw hr ⟨undef, rfl, hbel, by rw [hdst]; exact hg, fun h => absurd hdst h⟩
theorem StepT.call (ho : ops[k]? = some o)
    (h : ∀ L a w, InvT ops a0 S L a w → L k = false → (∀ j, waitsB o j = true → L j = true) → Region.wanted o (yielded ops a.tmps) = true ∧ ∃ f args, (execOp a.eval o).run P w = .ok (.enter f args) w ∧ Calls P f args w fun e w' => ∃ v, e = .returned v ∧ KeepsT S L w w' ∧ S.G (moreL L k) (a.put o.dst v) w' ∧ S.Φ k v w') : StepT P ops Q a0 S k o := by
  intro L a w hI hk hd
  obtain ⟨hw, f, args, hr, hc⟩ := h L a w hI hk (waits_spec hd)
  refine wpOp_call ho hw hr (hc.mono ?_)
  rintro e w' ⟨v, he, hbel, hg, hv⟩
  exact ⟨v, he, v, rfl, hbel, hg, fun _ => hv⟩
end
end

end

end Go.Proofs.YtpnemekkpifbaaaGreat
