/- Several texts in one: RegL, GonG, DelB, DelC, CarQ, CarT, CarU. -/
import Derived.Test.YtiaehpdgpjhecaaGreatQAZ
import Derived.Test.YtiaehpdgpjhecaaGreatQBD
import Derived.Test.YtiaehpdgpjhecaaGreatQAU
import Derived.Test.YtiaehpdgpjhecaaGreatQAO
import Derived.Test.YtiaehpdgpjhecaaGreatQAV
import Derived.Test.YtiaehpdgpjhecaaGreatQAS
import Derived.Test.YtiaehpdgpjhecaaGreatQAW
import Derived.Test.YtiaehpdgpjhecaaGreatQAY
namespace Go.Proofs.YtiaehpdgpjhecaaGreat

section
open Go.RowKit

/-- G: what holds all along, by what is there and by the frame; Φ: what each value says. -/
structure RegT where
  G : (Nat → Bool) → Act → World → Prop
  Φ : Nat → Value → World → Prop
structure InvT (ops : Array Oper) (a0 : Act) (S : RegT) (L : Nat → Bool) (a : Act) (w : World) : Prop where
  size : a.tmps.size = a0.tmps.size
  defs : a.defers = a0.defers
  old : ∀ t, (∀ j, dstOf ops j ≠ some t) → a.tmps[t]? = a0.tmps[t]?
  clo : ∀ j o, ops[j]? = some o → L j = true → ∀ e ∈ o.after, Region.binds .any e = true → L e.on = true
  glob : S.G L a w
  val : ∀ j d, L j = true → dstOf ops j = some d → S.Φ j (a.eval (.tmp d)) w
def KeepsT (S : RegT) (L : Nat → Bool) (w w' : World) : Prop := ∀ j v, L j = true → S.Φ j v w → S.Φ j v w'
section
variable {P : Program} {ops : Array Oper} {Q : Exit → Act → World → Prop} {a0 : Act} {w0 : World}
def StepT (P : Program) (ops : Array Oper) (Q : Exit → Act → World → Prop) (a0 : Act) (S : RegT) (k : Nat) (o : Oper) : Prop :=
  ∀ L a w, InvT ops a0 S L a w → L k = false → (∀ e ∈ o.after, Region.binds .any e = true → L e.on = true) →
    wpOp P ops Q k (fun a' w' => ∃ v, a' = a.put o.dst v ∧ KeepsT S L w w' ∧ S.G (moreL L k) (a.put o.dst v) w' ∧ (o.dst ≠ none → S.Φ k v w')) a w
def StepsT (P : Program) (ops : Array Oper) (Q : Exit → Act → World → Prop) (a0 : Act) (S : RegT) : Nat → List Oper → Prop
  | _, [] => True
  | k, o :: l => StepT P ops Q a0 S k o ∧ StepsT P ops Q a0 S (k + 1) l
theorem StepsT.get {S : RegT} : ∀ {l : List Oper} {k : Nat}, StepsT P ops Q a0 S k l → ∀ {i : Nat} {o : Oper}, l[i]? = some o → StepT P ops Q a0 S (k + i) o
  | [], _, _, i, o, h => by simp at h
  | x :: l, k, ⟨h1, h2⟩, 0, o, h => by
    obtain rfl : x = o := by simpa using h
    exact h1
  | x :: l, k, ⟨h1, h2⟩, i + 1, o, h => by
    have := StepsT.get h2 (i := i) (by simpa using h)
    rw [show k + (i + 1) = k + 1 + i by omega]
    exact this
theorem wp_region_T {id : Nat} {S : RegT} {l : List Oper} (hm : P.follows .mixedOrders = true) (ht : topoB l.toArray = true) (hap : apartB l.toArray = true)
    (hsz : ∀ j d, dstOf l.toArray j = some d → d < a0.tmps.size) (hG0 : S.G (fun _ => false) a0 w0.drew)
    (hst : StepsT P l.toArray Q a0 S 0 l)
    (hf : ∀ a w L, (∀ j, j < l.toArray.size → L j = true) → InvT l.toArray a0 S L a w → Q .normal a w) : (Code.region id l.toArray true).wp P Q a0 w0 := by
  refine wp_region_inv (I := InvT l.toArray a0 S) hm ht ⟨rfl, rfl, fun _ _ => rfl, fun _ _ _ h => (by cases h), hG0, fun _ _ h => (by cases h)⟩ ?_ fun L a w hI hL => hf a w L hL hI
  intro k o ho L a w hI hLk hd
  have hstep := hst.get (i := k) (by simpa using ho) L a w hI (by rw [Nat.zero_add]; exact hLk) hd
  rw [Nat.zero_add] at hstep
  have hdk : dstOf l.toArray k = o.dst := by unfold dstOf; rw [ho]; rfl
  refine wpOp_mono ?_ hstep
  rintro a' w' ⟨v, rfl, hbel, hG, hv⟩
  have hclo := moreL_clo ho hI.clo hd
  have hev : ∀ j t, j ≠ k → dstOf l.toArray j = some t → (a.put o.dst v).eval (.tmp t) = a.eval (.tmp t) := fun j t hjk hj => by
    cases hdo : o.dst with
    | none => rfl
    | some d =>
      refine eval_put_ne fun e => hjk ?_
      subst e
      exact apart_spec hap hj (hdk.trans hdo)
  have hLm : ∀ j, moreL L k j = true → j = k ∨ (j ≠ k ∧ L j = true) := fun j hj => by
    by_cases e : j = k
    · exact .inl e
    · refine .inr ⟨e, ?_⟩
      simpa [moreL, e] using hj
  refine ⟨?_, ?_, fun t ht' => ?_, hclo, hG, fun j d hj hjd => ?_⟩
  · rw [← hI.size]; cases o.dst <;> simp [Act.put]
  · rw [← hI.defs]; cases o.dst <;> rfl
  · rw [← hI.old t ht']
    cases hdo : o.dst with
    | none => rfl
    | some d =>
      have hne : d ≠ t := fun e => ht' k (by rw [hdk, hdo, e])
      simp [Act.put, hne]
  · rcases hLm j hj with rfl | ⟨hjk, hL⟩
    · rw [hdk] at hjd
      rw [hjd, eval_put_eq (by rw [hI.size]; exact hsz j d (hdk.trans hjd))]
      exact hv (by rw [hjd]; simp)
    · rw [hev j d hjk hjd]
      exact hbel j _ hL (hI.val j d hL hjd)
/-- The frame behind the region, written out. -/
theorem InvT.frame {S : RegT} {L : Nat → Bool} {a : Act} {w : World} {l : List Oper} (h : InvT l.toArray a0 S L a w) :
    a = ⟨(l.filterMap (·.dst)).foldl (fun t d => t.setIfInBounds d (a.eval (.tmp d))) a0.tmps, a0.defers⟩ := by
  have h' : InvR l.toArray a0 ⟨fun _ => none, fun _ _ => True, fun _ _ => True, fun _ _ _ => True, fun _ _ _ => True⟩ L a w :=
    ⟨h.size, h.defs, h.old, h.clo, trivial, fun _ _ _ _ => trivial, fun _ _ _ _ h => (by cases h), fun _ _ _ _ _ _ h => (by cases h)⟩
  exact h'.frame
theorem InvT.at {S : RegT} {L : Nat → Bool} {a : Act} {w : World} {l : List Oper} (h : InvT l.toArray a0 S L a w) (t : Tmp) (ht : (l.all fun o => !(o.dst == some t)) = true) : a.tmps[t]?.getD undef = a0.eval (.tmp t) := by
  have h' : InvR l.toArray a0 ⟨fun _ => none, fun _ _ => True, fun _ _ => True, fun _ _ _ => True, fun _ _ _ => True⟩ L a w :=
    ⟨h.size, h.defs, h.old, h.clo, trivial, fun _ _ _ _ => trivial, fun _ _ _ _ h => (by cases h), fun _ _ _ _ _ _ h => (by cases h)⟩
  exact h'.at t ht
theorem InvT.get {S : RegT} {L : Nat → Bool} {a : Act} {w : World} (h : InvT ops a0 S L a w) (j d : Nat) (hL : L j = true) (hd : dstOf ops j = some d) : ∃ v, a.tmps[d]?.getD undef = v ∧ S.Φ j v w :=
  ⟨_, rfl, by rw [← eval_tmp]; exact h.val j d hL hd⟩
theorem InvT.wants {S : RegT} {L : Nat → Bool} {a : Act} {w : World} (h : InvT ops a0 S L a w) {o : Oper} {j d : Nat} {b : Bool} (hg : o.guard = some (j, b)) (hL : L j = true) (hd : dstOf ops j = some d) (hv : ∀ v, S.Φ j v w → v = .bool b) : Region.wanted o (yielded ops a.tmps) = true := wanted_at hg hd (hv _ (h.val j d hL hd))
theorem InvT.before {S : RegT} {k : Nat} {L : Nat → Bool} {a : Act} {w : World} (h : InvT ops a0 S L a w) {j : Nat} {o : Oper} (ho : ops[j]? = some o) (hw : waitsB o k = true) (hk : L k = false) : L j = false := by
  cases hj : L j with
  | false => rfl
  | true =>
    have := waits_spec (h.clo j o ho hj) k hw
    rw [hk] at this; cases this
section
variable {S : RegT} {k : Nat} {o : Oper}
theorem StepT.val (ho : ops[k]? = some o)
    (h : ∀ L a w, InvT ops a0 S L a w → L k = false → (∀ j, waitsB o j = true → L j = true) → Region.wanted o (yielded ops a.tmps) = true ∧ ∃ v w', (execOp a.eval o).run P w = .ok (.value v) w' ∧ KeepsT S L w w' ∧ S.G (moreL L k) (a.put o.dst v) w' ∧ S.Φ k v w') : StepT P ops Q a0 S k o := by
  intro L a w hI hk hd
  obtain ⟨hw, v, w', hr, hbel, hg, hv⟩ := h L a w hI hk (waits_spec hd)
  exact wpOp_val ho hw hr ⟨v, rfl, hbel, hg, fun _ => hv⟩
theorem StepT.skip (ho : ops[k]? = some o) (hdst : o.dst = none)
    (h : ∀ L a w, InvT ops a0 S L a w → L k = false → (∀ j, waitsB o j = true → L j = true) → Region.wanted o (yielded ops a.tmps) = true ∧ ∃ w', (execOp a.eval o).run P w = .ok .skip w' ∧ KeepsT S L w w' ∧ S.G (moreL L k) (a.put none undef) w') : StepT P ops Q a0 S k o := by
  intro L a w hI hk hd
  obtain ⟨hw, w', hr, hbel, hg⟩ := h L a w hI hk (waits_spec hd)
  exact wpOp_skip ho hw hr ⟨undef, rfl, hbel, by rw [hdst]; exact hg, fun h => absurd hdst h⟩
theorem StepT.call (ho : ops[k]? = some o)
    (h : ∀ L a w, InvT ops a0 S L a w → L k = false → (∀ j, waitsB o j = true → L j = true) → Region.wanted o (yielded ops a.tmps) = true ∧ ∃ f args, (execOp a.eval o).run P w = .ok (.enter f args) w ∧ Calls P f args w fun e w' => ∃ v, e = .returned v ∧ KeepsT S L w w' ∧ S.G (moreL L k) (a.put o.dst v) w' ∧ S.Φ k v w') : StepT P ops Q a0 S k o := by
  intro L a w hI hk hd
  obtain ⟨hw, f, args, hr, hc⟩ := h L a w hI hk (waits_spec hd)
  refine wpOp_call ho hw hr (hc.mono ?_)
  rintro e w' ⟨v, he, hbel, hg, hv⟩
  exact ⟨v, he, v, rfl, hbel, hg, fun _ => hv⟩
end
end

end

section
open Go.RowKit

/-- Which operations and slots: the row that is appended to (i1, tA), the row that is read (i2, tB), the append (ia, tR), the call (ic, tC), the box (ib, tX), the store (st). -/
structure Gx where
  (i1 i2 ia ic ib st tA tB tR tC tX n : Nat)
structure Gx.ok (x : Gx) : Prop where
  i12 : x.i1 ≠ x.i2
  i1a : x.i1 ≠ x.ia
  i1c : x.i1 ≠ x.ic
  i1b : x.i1 ≠ x.ib
  i1s : x.i1 ≠ x.st
  i2a : x.i2 ≠ x.ia
  i2c : x.i2 ≠ x.ic
  i2b : x.i2 ≠ x.ib
  i2s : x.i2 ≠ x.st
  iac : x.ia ≠ x.ic
  iab : x.ia ≠ x.ib
  ias : x.ia ≠ x.st
  icb : x.ic ≠ x.ib
  ics : x.ic ≠ x.st
  ibs : x.ib ≠ x.st
  tAB : x.tA ≠ x.tB
  tAR : x.tA ≠ x.tR
  tAC : x.tA ≠ x.tC
  tAX : x.tA ≠ x.tX
  tBR : x.tB ≠ x.tR
  tBC : x.tB ≠ x.tC
  tBX : x.tB ≠ x.tX
  tRC : x.tR ≠ x.tC
  tRX : x.tR ≠ x.tX
  tCX : x.tC ≠ x.tX
  nA : x.tA < x.n
  nB : x.tB < x.n
  nR : x.tR < x.n
  nC : x.tC < x.n
  nX : x.tX < x.n
section
variable {E : World} {l1 l2 : List (Int × Int)} {X : Ca} {x : Gx}
theorem moreL_ne {L : Nat → Bool} {k j : Nat} (h : j ≠ k) : moreL L k j = L j := by unfold moreL; simp [h]
theorem moreL_eq {L : Nat → Bool} {k : Nat} : moreL L k k = true := by unfold moreL; simp
theorem put_sz (a : Act) (d : Option Tmp) (v : Value) : (a.put d v).tmps.size = a.tmps.size := by cases d <;> simp [Act.put]
variable (ok : x.ok)
include ok
end

end

section
open Go.RowKit

/-- A cart and a dot in boxes, the box of the result. -/
structure KPt (w : World) (c : CaV) (r s : Int) (W : World) : Prop where
  k : KFr w c r s W
  res : BlkC W (w.heap.size + 2) zC
section
variable {w W W' : World} {c : CaV} {r s : Int}
theorem KPt.next (h : KPt w c r s W) (hb : Below W.heap.size W W') : KPt w c r s W' := ⟨h.k.next hb, h.res.below hb⟩
theorem KPt.sp (h : KPt w c r s W) : W.cell? ⟨w.heap.size, 0, none⟩ = some c.v ∧ W.cell? ⟨w.heap.size, 1, none⟩ = some c.l ∧ W.cell? ⟨w.heap.size, 2, none⟩ = some c.i ∧ W.cell? ⟨w.heap.size + 1, 0, none⟩ = some (.int .i64 r) ∧ W.cell? ⟨w.heap.size + 1, 1, none⟩ = some (.int .i64 s) ∧ w.heap.size < W.heap.size ∧ w.heap.size + 1 < W.heap.size := h.k.sp
theorem KPt.ok (h : KPt w c r s W) : CaOK W c := h.k.ok
theorem KPt.bel (h : KPt w c r s W) : Below w.heap.size w W := h.k.bel
theorem KPt.new (w : World) (c : CaV) (r s : Int) (hc : CaOK w c) : KPt w c r s (((w.alloc (.cells #[c.v, c.l, c.i] 28)).alloc (.cells #[.int .i64 r, .int .i64 s] 30)).alloc (.cells #[zC.v, zC.l, zC.i] 28)) := by
  have h := BlkC.new ((w.alloc (.cells #[c.v, c.l, c.i] 28)).alloc (.cells #[.int .i64 r, .int .i64 s] 30)) zC
  rw [World.size_alloc, World.size_alloc] at h
  exact ⟨(KFr.new w c r s hc).next ((Below.refl _ _).alloc (Nat.le_refl _) _), h⟩
end
/-- A cart in its box, the box of the result. -/
structure KRm (w : World) (c : CaV) (W : World) : Prop where
  cart : BlkC W w.heap.size c
  ok : CaOK W c
  res : BlkC W (w.heap.size + 1) zC
  bel : Below w.heap.size w W
section
variable {w W W' : World} {c : CaV}
theorem KRm.next (h : KRm w c W) (hb : Below W.heap.size W W') : KRm w c W' := ⟨h.cart.below hb, h.ok.below hb, h.res.below hb, below_trans h.bel hb⟩
theorem KRm.sp (h : KRm w c W) : W.cell? ⟨w.heap.size, 0, none⟩ = some c.v ∧ W.cell? ⟨w.heap.size, 1, none⟩ = some c.l ∧ W.cell? ⟨w.heap.size, 2, none⟩ = some c.i ∧ w.heap.size < W.heap.size := ⟨h.cart.cell0, h.cart.cell1, h.cart.cell2, h.cart.lt⟩
theorem KRm.new (w : World) (c : CaV) (hc : CaOK w c) : KRm w c ((w.alloc (.cells #[c.v, c.l, c.i] 28)).alloc (.cells #[zC.v, zC.l, zC.i] 28)) := by
  have h1 := (Below.refl w.heap.size w).alloc (Nat.le_refl _) (.cells #[c.v, c.l, c.i] 28)
  have h2 := (Below.refl _ (w.alloc (.cells #[c.v, c.l, c.i] 28))).alloc (Nat.le_refl _) (.cells #[zC.v, zC.l, zC.i] 28)
  have h := BlkC.new (w.alloc (.cells #[c.v, c.l, c.i] 28)) zC
  rw [World.size_alloc] at h
  exact ⟨(BlkC.new w c).below h2, (hc.below h1).below h2, h, below_trans h1 h2⟩
end
theorem own_lit (W : World) (r s : Int) : RowC (W.alloc (.cells #[.int .i64 r, .int .i64 s] 30)) W.heap.size (.slice (some ⟨W.heap.size, 0, none⟩) 1 1) [(r, s)] :=
  ⟨rfl, .inr ⟨W.heap.size, 1, #[.int .i64 r, .int .i64 s], rfl, Nat.le_refl _, heap_alloc_new W _, Nat.le_refl _, by simp [maxLen], rfl, rfl⟩⟩
end

section
open Go.RowKit

/-- The contracts of package delta. -/
structure FitsD (c : CaV) : Prop where
  k : FitsK c
  dots : (dotsI (its c.xs)).length ≤ 2900
  time : ∀ m ∈ marksX c.xs, m.t < 18446744073709551616
abbrev AddOK : Prop := ∀ (c : CaV) (r s : Int) (nm : List UInt8) (q : Int) (W : World), CaOK W c → FitsD c → nm.length ≤ 1000 → Calls Tryz.prog 28 #[mkC c, .agg #[.int .i64 r, .int .i64 s], .string ⟨nm.toArray⟩, .int .i64 q] W (MadeD (putD c.ca (r, s) nm q false) (putE c.ca (r, s) nm q false) W)
abbrev SetOK : Prop := ∀ (c : CaV) (r s : Int) (nm : List UInt8) (q : Int) (W : World), CaOK W c → FitsD c → nm.length ≤ 1000 → Calls Tryz.prog 29 #[mkC c, .agg #[.int .i64 r, .int .i64 s], .string ⟨nm.toArray⟩, .int .i64 q] W (MadeD (putD c.ca (r, s) nm q true) (putE c.ca (r, s) nm q true) W)
abbrev RemOK : Prop := ∀ (c : CaV) (nm : List UInt8) (W : World), CaOK W c → FitsD c → nm.length ≤ 1000 → Calls Tryz.prog 31 #[mkC c, .string ⟨nm.toArray⟩] W (MadeD (remD c.ca nm) (remE c.ca nm) W)
abbrev CleOK : Prop := ∀ (c : CaV) (W : World), CaOK W c → FitsD c → Calls Tryz.prog 32 #[mkC c] W (MadeD (cleD c.ca) (cleE c.ca) W)
abbrev EmpOK : Prop := ∀ (c : CaV) (b : Bool) (W : World), CaOK W c → c.xs.length ≤ 100000 → emptyK c.ca = b → Calls Tryz.prog 20 #[mkC c] W (OneB (.bool b) W)
abbrev FreOK : Prop := ∀ (c : CaV) (r s : Int) (b : Bool) (W : World), CaOK W c → FitsD c → freshK c.ca (r, s) = b → Calls Tryz.prog 22 #[mkC c, .agg #[.int .i64 r, .int .i64 s]] W (OneB (.bool b) W)
structure DelOK : Prop where
  add : AddOK
  set : SetOK
  rem : RemOK
  cle : CleOK
  emp : EmpOK
  fre : FreOK

/-- A cart and a dot in boxes, another cart in its box. -/
structure KAd (w : World) (c t : CaV) (r s : Int) (W : World) : Prop where
  k : KFr w c r s W
  tb : BlkC W (w.heap.size + 2) t
  tok : CaOK W t
section
variable {w W W' : World} {c t : CaV} {r s : Int}
theorem KAd.next (h : KAd w c t r s W) (hb : Below W.heap.size W W') : KAd w c t r s W' := ⟨h.k.next hb, h.tb.below hb, h.tok.below hb⟩
theorem KAd.new (w : World) (c t : CaV) (r s : Int) (hc : CaOK w c) (ht : CaOK w t) : KAd w c t r s (((w.alloc (.cells #[c.v, c.l, c.i] 28)).alloc (.cells #[.int .i64 r, .int .i64 s] 30)).alloc (.cells #[t.v, t.l, t.i] 28)) := by
  have h0 := KFr.new w c r s hc
  have h := BlkC.new ((w.alloc (.cells #[c.v, c.l, c.i] 28)).alloc (.cells #[.int .i64 r, .int .i64 s] 30)) t
  rw [World.size_alloc, World.size_alloc] at h
  have hal := (Below.refl _ ((w.alloc (.cells #[c.v, c.l, c.i] 28)).alloc (.cells #[.int .i64 r, .int .i64 s] 30))).alloc (Nat.le_refl _) (.cells #[t.v, t.l, t.i] 28)
  exact ⟨h0.next hal, h, (ht.below h0.bel).below hal⟩
theorem KAd.sp (h : KAd w c t r s W) : W.cell? ⟨w.heap.size + 2, 0, none⟩ = some t.v ∧ W.cell? ⟨w.heap.size + 2, 1, none⟩ = some t.l ∧ W.cell? ⟨w.heap.size + 2, 2, none⟩ = some t.i ∧ w.heap.size + 2 < W.heap.size := ⟨h.tb.cell0, h.tb.cell1, h.tb.cell2, h.tb.lt⟩
end

set_option maxRecDepth 100000 in
set_option maxHeartbeats 4000000 in
theorem lawAdds12 (HO : AddOK) (c t : CaV) (r s : Int) (nm : List UInt8) (q k : Int) (b : Bool) (w : World) (hc : CaOK w c) (ht : CaOK w t) (htl : t.xs.length ≤ 100000) (hf : FitsD c) (hl : nm.length ≤ 1000) (hb : (sameC (putD c.ca (r, s) nm q false) t.ca && ((putE c.ca (r, s) nm q false : Int) == k)) = b) :
    Calls Tryz.prog 13 #[mkC c, .agg #[.int .i64 r, .int .i64 s], .string ⟨nm.toArray⟩, .int .i64 q, mkC t, .int .i64 k] w (OneB (.bool b) w) := by
  have K0 := Lib.hid (KAd.new w c t r s hc ht)
  have HJ := Lib.hid fun W (h : CaOK W c) => HO c r s nm q W h hf hl
  have HZL := Lib.hid (show ∀ z : CaV, z.ca = putD c.ca (r, s) nm q false → z.xs.length ≤ 100000 from fun z hz => by
    have h1 : (its z.xs).length ≤ 1 := by
      have h2 := congrArg (fun a : Ca => a.2.length) hz
      have h3 : (putD c.ca (r, s) nm q false).2.length ≤ 1 := putD_len _ _ _ _ _
      exact Nat.le_trans (Nat.le_of_eq h2) h3
    rw [its_len] at h1; omega)
  generalize putD c.ca (r, s) nm q false = v at *
  generalize putE c.ca (r, s) nm q false = e0 at *
  obtain ⟨p, hp⟩ : ∃ p, sameC v t.ca = p := ⟨_, rfl⟩
  rw [hp] at hb
  have HQ := Lib.hid fun (z : CaV) W (hz : z.ca = v) (h : CaOK W z) (h' : CaOK W t) => refEqual10 z t p W h h' (HZL.out z hz) htl (by rw [hz]; exact hp)
  clear hc ht htl hf hl hp HZL HO
  go_enter Tryz.func13, Tryz.ntmps13
  go_wp2_with fail
  generalize World.alloc (World.alloc (World.alloc w _) _) _ = w2 at K0 ⊢
  obtain ⟨x0, x1, x2, x3, x4, xl, xm⟩ := K0.out.k.sp
  go_wp2_with fail
  refine (HJ.out w2 K0.out.k.ok).mono ?_
  rintro e w3 ⟨⟨z, rfl, hz, ho⟩, hb3⟩
  have K1 := Lib.hid (K0.out.next hb3)
  have HZ := Lib.hid hz
  have HO1 := Lib.hid ho
  clear hz ho hb3 K0 HJ x0 x1 x2 x3 x4 xl xm
  obtain ⟨x6, x7, x8, xl⟩ := K1.out.sp
  have hal := (Below.refl w3.heap.size w3).alloc (Nat.le_refl _) (.cells #[z.v, z.l, z.i] 28)
  have K2 := Lib.hid (K1.out.next hal)
  have HO2 := Lib.hid (HO1.out.below hal)
  clear hal HO1
  go_wp2_with fail
  refine (HQ.out z _ HZ.out HO2.out K2.out.tok).mono ?_
  rintro e w4 ⟨rfl, hb4⟩
  have HB := Lib.hid (below_trans K2.out.k.bel hb4)
  clear hb4 K1 K2 x6 x7 x8 xl HO2
  cases p with
  | false =>
    obtain rfl : false = b := by simpa using hb
    go_wp2_with fail
    go_ret
    exact ⟨rfl, HB.out⟩
  | true =>
    have HE := Lib.hid (show ((e0 : Int) == k) = b from by simpa using hb)
    clear hb
    go_wp2_with fail
    go_ret
    exact OneB.bool HE.out HB.out

set_option maxRecDepth 100000 in
set_option maxHeartbeats 4000000 in
theorem lawSets12 (HO : SetOK) (c t : CaV) (r s : Int) (nm : List UInt8) (q k : Int) (b : Bool) (w : World) (hc : CaOK w c) (ht : CaOK w t) (htl : t.xs.length ≤ 100000) (hf : FitsD c) (hl : nm.length ≤ 1000) (hb : (sameC (putD c.ca (r, s) nm q true) t.ca && ((putE c.ca (r, s) nm q true : Int) == k)) = b) :
    Calls Tryz.prog 14 #[mkC c, .agg #[.int .i64 r, .int .i64 s], .string ⟨nm.toArray⟩, .int .i64 q, mkC t, .int .i64 k] w (OneB (.bool b) w) := by
  have K0 := Lib.hid (KAd.new w c t r s hc ht)
  have HJ := Lib.hid fun W (h : CaOK W c) => HO c r s nm q W h hf hl
  have HZL := Lib.hid (show ∀ z : CaV, z.ca = putD c.ca (r, s) nm q true → z.xs.length ≤ 100000 from fun z hz => by
    have h1 : (its z.xs).length ≤ 1 := by
      have h2 := congrArg (fun a : Ca => a.2.length) hz
      have h3 : (putD c.ca (r, s) nm q true).2.length ≤ 1 := putD_len _ _ _ _ _
      exact Nat.le_trans (Nat.le_of_eq h2) h3
    rw [its_len] at h1; omega)
  generalize putD c.ca (r, s) nm q true = v at *
  generalize putE c.ca (r, s) nm q true = e0 at *
  obtain ⟨p, hp⟩ : ∃ p, sameC v t.ca = p := ⟨_, rfl⟩
  rw [hp] at hb
  have HQ := Lib.hid fun (z : CaV) W (hz : z.ca = v) (h : CaOK W z) (h' : CaOK W t) => refEqual10 z t p W h h' (HZL.out z hz) htl (by rw [hz]; exact hp)
  clear hc ht htl hf hl hp HZL HO
  go_enter Tryz.func14, Tryz.ntmps14
  go_wp2_with fail
  generalize World.alloc (World.alloc (World.alloc w _) _) _ = w2 at K0 ⊢
  obtain ⟨x0, x1, x2, x3, x4, xl, xm⟩ := K0.out.k.sp
  go_wp2_with fail
  refine (HJ.out w2 K0.out.k.ok).mono ?_
  rintro e w3 ⟨⟨z, rfl, hz, ho⟩, hb3⟩
  have K1 := Lib.hid (K0.out.next hb3)
  have HZ := Lib.hid hz
  have HO1 := Lib.hid ho
  clear hz ho hb3 K0 HJ x0 x1 x2 x3 x4 xl xm
  obtain ⟨x6, x7, x8, xl⟩ := K1.out.sp
  have hal := (Below.refl w3.heap.size w3).alloc (Nat.le_refl _) (.cells #[z.v, z.l, z.i] 28)
  have K2 := Lib.hid (K1.out.next hal)
  have HO2 := Lib.hid (HO1.out.below hal)
  clear hal HO1
  go_wp2_with fail
  refine (HQ.out z _ HZ.out HO2.out K2.out.tok).mono ?_
  rintro e w4 ⟨rfl, hb4⟩
  have HB := Lib.hid (below_trans K2.out.k.bel hb4)
  clear hb4 K1 K2 x6 x7 x8 xl HO2
  cases p with
  | false =>
    obtain rfl : false = b := by simpa using hb
    go_wp2_with fail
    go_ret
    exact ⟨rfl, HB.out⟩
  | true =>
    have HE := Lib.hid (show ((e0 : Int) == k) = b from by simpa using hb)
    clear hb
    go_wp2_with fail
    go_ret
    exact OneB.bool HE.out HB.out

set_option maxRecDepth 100000 in
set_option maxHeartbeats 4000000 in
theorem lawRemoves12 (HO : RemOK) (c t : CaV) (nm : List UInt8) (k : Int) (b : Bool) (w : World) (hc : CaOK w c) (ht : CaOK w t) (htl : t.xs.length ≤ 100000) (hf : FitsD c) (hl : nm.length ≤ 1000) (hb : (sameC (remD c.ca nm) t.ca && ((remE c.ca nm : Int) == k)) = b) :
    Calls Tryz.prog 18 #[mkC c, .string ⟨nm.toArray⟩, mkC t, .int .i64 k] w (OneB (.bool b) w) := by
  have hb1 := (Below.refl w.heap.size w).alloc (Nat.le_refl _) (.cells #[c.v, c.l, c.i] 28)
  have K0 := Lib.hid (show KK w [(w.heap.size, c), (w.heap.size + 1, t)] _ from KK.push (L := [(w.heap.size, c)]) (KK.new w c hc) t (ht.below hb1) (w.heap.size + 1) (by simp))
  have HJ := Lib.hid fun W (h : CaOK W c) => HO c nm W h hf hl
  have HZL := Lib.hid (show ∀ z : CaV, z.ca = remD c.ca nm → z.xs.length ≤ 100000 from fun z hz => by
    have h2 : (its z.xs).length = (remD c.ca nm).2.length := congrArg (fun a : Ca => a.2.length) hz
    rw [its_len, show (remD c.ca nm).2 = [] from by unfold remD; split <;> rfl] at h2
    have h3 : z.xs.length = 0 := h2
    omega)
  generalize remD c.ca nm = v at *
  generalize remE c.ca nm = e0 at *
  obtain ⟨p, hp⟩ : ∃ p, sameC v t.ca = p := ⟨_, rfl⟩
  rw [hp] at hb
  have HQ := Lib.hid fun (z : CaV) W (hz : z.ca = v) (h : CaOK W z) (h' : CaOK W t) => refEqual10 z t p W h h' (HZL.out z hz) htl (by rw [hz]; exact hp)
  clear hc ht htl hf hp HZL HO hb1
  go_enter Tryz.func18, Tryz.ntmps18
  go_wp2_with fail
  generalize World.alloc (World.alloc w _) _ = w2 at K0 ⊢
  obtain ⟨x0, x1, x2, _, _, _, xl, _, _⟩ := K0.out.sp2
  go_wp2_with fail
  refine (HJ.out w2 (K0.out.ok (g := w.heap.size) (by simp))).mono ?_
  rintro e w3 ⟨⟨z, rfl, hz, ho⟩, hb3⟩
  have K1 := Lib.hid (K0.out.next hb3)
  have K2 := Lib.hid (KK.push (K0.out.next hb3) z ho _ rfl)
  have HZ := Lib.hid hz
  clear hz ho hb3 K0 HJ x0 x1 x2 xl
  obtain ⟨_, _, _, x6, x7, x8, _, xl, _⟩ := K1.out.sp2
  go_wp2_with fail
  refine (HQ.out z _ HZ.out (K2.out.ok (g := w3.heap.size) (by simp)) (K2.out.ok (g := w.heap.size + 1) (by simp))).mono ?_
  rintro e w4 ⟨rfl, hb4⟩
  have HB := Lib.hid (below_trans K2.out.bel hb4)
  clear hb4 K1 K2 x6 x7 x8 xl
  cases p with
  | false =>
    obtain rfl : false = b := by simpa using hb
    go_wp2_with fail
    go_ret
    exact ⟨rfl, HB.out⟩
  | true =>
    have HE := Lib.hid (show ((e0 : Int) == k) = b from by simpa using hb)
    clear hb
    go_wp2_with fail
    go_ret
    exact OneB.bool HE.out HB.out

set_option maxRecDepth 100000 in
set_option maxHeartbeats 4000000 in
theorem lawClears12 (HO : CleOK) (c t : CaV) (k : Int) (b : Bool) (w : World) (hc : CaOK w c) (ht : CaOK w t) (htl : t.xs.length ≤ 100000) (hf : FitsD c) (hb : (sameC (cleD c.ca) t.ca && ((cleE c.ca : Int) == k)) = b) :
    Calls Tryz.prog 19 #[mkC c, mkC t, .int .i64 k] w (OneB (.bool b) w) := by
  have hb1 := (Below.refl w.heap.size w).alloc (Nat.le_refl _) (.cells #[c.v, c.l, c.i] 28)
  have K0 := Lib.hid (show KK w [(w.heap.size, c), (w.heap.size + 1, t)] _ from KK.push (L := [(w.heap.size, c)]) (KK.new w c hc) t (ht.below hb1) (w.heap.size + 1) (by simp))
  have HJ := Lib.hid fun W (h : CaOK W c) => HO c W h hf
  have HZL := Lib.hid (show ∀ z : CaV, z.ca = cleD c.ca → z.xs.length ≤ 100000 from fun z hz => by
    have h2 : (its z.xs).length = (cleD c.ca).2.length := congrArg (fun a : Ca => a.2.length) hz
    rw [its_len, show (cleD c.ca).2 = [] from by unfold cleD; split <;> rfl] at h2
    have h3 : z.xs.length = 0 := h2
    omega)
  generalize cleD c.ca = v at *
  generalize cleE c.ca = e0 at *
  obtain ⟨p, hp⟩ : ∃ p, sameC v t.ca = p := ⟨_, rfl⟩
  rw [hp] at hb
  have HQ := Lib.hid fun (z : CaV) W (hz : z.ca = v) (h : CaOK W z) (h' : CaOK W t) => refEqual10 z t p W h h' (HZL.out z hz) htl (by rw [hz]; exact hp)
  clear hc ht htl hf hp HZL HO hb1
  go_enter Tryz.func19, Tryz.ntmps19
  go_wp2_with fail
  generalize World.alloc (World.alloc w _) _ = w2 at K0 ⊢
  obtain ⟨x0, x1, x2, _, _, _, xl, _, _⟩ := K0.out.sp2
  go_wp2_with fail
  refine (HJ.out w2 (K0.out.ok (g := w.heap.size) (by simp))).mono ?_
  rintro e w3 ⟨⟨z, rfl, hz, ho⟩, hb3⟩
  have K1 := Lib.hid (K0.out.next hb3)
  have K2 := Lib.hid (KK.push (K0.out.next hb3) z ho _ rfl)
  have HZ := Lib.hid hz
  clear hz ho hb3 K0 HJ x0 x1 x2 xl
  obtain ⟨_, _, _, x6, x7, x8, _, xl, _⟩ := K1.out.sp2
  go_wp2_with fail
  refine (HQ.out z _ HZ.out (K2.out.ok (g := w3.heap.size) (by simp)) (K2.out.ok (g := w.heap.size + 1) (by simp))).mono ?_
  rintro e w4 ⟨rfl, hb4⟩
  have HB := Lib.hid (below_trans K2.out.bel hb4)
  clear hb4 K1 K2 x6 x7 x8 xl
  cases p with
  | false =>
    obtain rfl : false = b := by simpa using hb
    go_wp2_with fail
    go_ret
    exact ⟨rfl, HB.out⟩
  | true =>
    have HE := Lib.hid (show ((e0 : Int) == k) = b from by simpa using hb)
    clear hb
    go_wp2_with fail
    go_ret
    exact OneB.bool HE.out HB.out

theorem lawAt12 (r c : Int) (w : World) : Calls Tryz.prog 25 #[.int .i64 r, .int .i64 c] w (OneB (.agg #[.int .i64 r, .int .i64 c]) w) := by
  have hn := heap_alloc_new w (.cells #[.int .i64 r, .int .i64 c] 30)
  have c0 : (w.alloc (.cells #[.int .i64 r, .int .i64 c] 30)).cell? ⟨w.heap.size, 0, none⟩ = some (.int .i64 r) := by simp only [World.cell?, hn]; rfl
  have c1 : (w.alloc (.cells #[.int .i64 r, .int .i64 c] 30)).cell? ⟨w.heap.size, 1, none⟩ = some (.int .i64 c) := by simp only [World.cell?, hn]; rfl
  have HB := Lib.hid ((Below.refl w.heap.size w).alloc (Nat.le_refl _) (.cells #[.int .i64 r, .int .i64 c] 30))
  clear hn
  go_enter Tryz.func25, Tryz.ntmps25
  go_wp2_with fail
  exact bodyPost_ret (v := .agg #[.int .i64 r, .int .i64 c]) (by simp [results, Tryz.results25, go_sem, c0, c1]) rfl ⟨rfl, HB.out⟩

end

section
open Go.RowKit

end

section
open Go.RowKit

/-- No two items share a row of marks. -/
def ApartI (ys : List ItV) : Prop := ys.Pairwise fun a b => ∀ g, (slV a).ownBlock = some g → (slV b).ownBlock ≠ some g
theorem ApartI.snoc {ys : List ItV} {y : ItV} {W W' : World} {B B' : Nat} (h : ApartI ys) (hr : ∀ z ∈ ys, RowM W B (slV z) z.ms ∧ (slV z).ownBlock ≠ some B) (hy : RowM W' B' (slV y) y.ms) (hs : W.heap.size ≤ B') : ApartI (ys ++ [y]) := by
  unfold ApartI
  rw [List.pairwise_append]
  refine ⟨h, List.pairwise_singleton _ _, fun a ha b hb g e1 e2 => ?_⟩
  obtain rfl : b = y := by simpa using hb
  have h1 := ((hr a ha).1.lt g e1).2
  have h2 := (hy.lt g e2).1
  omega

/-- A box of two cells that was there ahead of a step; written. -/
theorem box2_kept {W Wb : World} {n : Nat} {a b : Value} {t : TypeId} (hb : Below W.heap.size W Wb) (hn : W.heap[n]? = some (.cells #[a, b] t (0, 0))) :
    Wb.heap[n]? = some (.cells #[a, b] t (0, 0)) ∧ Wb.cell? ⟨n, 0, none⟩ = some a ∧ Wb.cell? ⟨n, 1, none⟩ = some b ∧ Wb.frozen? ⟨n, 0, none⟩ = false ∧ Wb.frozen? ⟨n, 1, none⟩ = false ∧ n < Wb.heap.size := by
  have h := (hb.block n (Array.getElem?_eq_some_iff.1 hn).1).trans hn
  exact ⟨h, by simp [World.cell?, h], by simp [World.cell?, h], by simp [World.frozen?, h], by simp [World.frozen?, h], (Array.getElem?_eq_some_iff.1 h).1⟩
theorem box2_filled {W : World} {n : Nat} {a b : Value} {t : TypeId} (h : W.heap[n]? = some (.cells #[a, b] t (0, 0))) (u v : Value) : ((W.setCell ⟨n, 0, none⟩ u).setCell ⟨n, 1, none⟩ v).heap[n]? = some (.cells #[u, v] t (0, 0)) := by
  have e1 : (W.setCell ⟨n, 0, none⟩ u).heap[n]? = some (.cells #[u, b] t (0, 0)) := by
    show (W.heap.modify n _)[n]? = _
    rw [Array.getElem?_modify, if_pos rfl, h]
    rfl
  show ((W.setCell ⟨n, 0, none⟩ u).heap.modify n _)[n]? = _
  rw [Array.getElem?_modify, if_pos rfl, e1]
  rfl
theorem row_set2c {W : World} {B k m n : Nat} {e t : TypeId} {x u v : Value} {xs : List Value} {cur : Array Value} {z : Nat × Nat} (h : W.ownsRow B e k x m xs) (hg : W.heap[n]? = some (.cells cur t z)) (ht : t ≠ e) : ((W.setCell ⟨n, 0, none⟩ u).setCell ⟨n, 1, none⟩ v).ownsRow B e k x m xs :=
  have hn := row_ne h hg ht
  ownsRow_setCell_other (a := ⟨n, 1, none⟩) (ownsRow_setCell_other (a := ⟨n, 0, none⟩) h hn u) hn v
/-- The context that is being made: its box, its rows. -/
structure KSc (w : World) (c : CaV) (g : Nat) (v l : Value) (W : World) : Prop where
  kr : KR w c W
  out : W.heap[g]? = some (.cells #[v, l] 25 (0, 0))
  gb : w.heap.size + 1 < g
  rv : RowC W w.heap.size v c.vs
  rl : RowC W w.heap.size l c.ls
theorem KSc.new {w W : World} {c : CaV} {v l : Value} (h : KR w c W) (hv : RowC W w.heap.size v c.vs) (hl : RowC W w.heap.size l c.ls) : KSc w c W.heap.size v l (W.alloc (.cells #[v, l] 25)) :=
  have hb := (Below.refl W.heap.size W).alloc (Nat.le_refl _) (.cells #[v, l] 25)
  ⟨h.alloc _, heap_alloc_new W _, h.lt, hv.below hb, hl.below hb⟩
theorem KSc.set {w W : World} {c : CaV} {v l a b : Value} {g : Nat} (h : KR w c W) (hg : W.heap[g]? = some (.cells #[a, b] 25 (0, 0))) (hgg : w.heap.size + 1 < g) (hv : RowC W w.heap.size v c.vs) (hl : RowC W w.heap.size l c.ls) : KSc w c g v l ((W.setCell ⟨g, 0, none⟩ v).setCell ⟨g, 1, none⟩ l) :=
  ⟨h.set2 hgg _ _, box2_filled hg _ _, hgg, row_set2c hv hg (by decide), row_set2c hl hg (by decide)⟩
theorem KSc.next {w W W' : World} {c : CaV} {g : Nat} {v l : Value} (h : KSc w c g v l W) (hb : Below W.heap.size W W') : KSc w c g v l W' := ⟨h.kr.next hb, (hb.block g (Array.getElem?_eq_some_iff.1 h.out).1).trans h.out, h.gb, h.rv.below hb, h.rl.below hb⟩
theorem KSc.sp {w W : World} {c : CaV} {g : Nat} {v l : Value} (h : KSc w c g v l W) : W.cell? ⟨w.heap.size, 2, none⟩ = some c.i ∧ W.cell? ⟨g, 0, none⟩ = some v ∧ W.cell? ⟨g, 1, none⟩ = some l ∧ w.heap.size < W.heap.size ∧ g < W.heap.size := by
  obtain ⟨_, s0, s1, f0, f1, hgl⟩ := box2_kept (Below.refl _ W) h.out
  exact ⟨h.kr.sp.2.2.1, s0, s1, h.kr.sp.2.2.2.1, hgl⟩
theorem KR.items {w W : World} {c : CaV} (h : KR w c W) : HoldsX W c.i c.xs := h.kb.ok.2.2
end

section
open Go.RowKit

theorem ownBlock_or (v : Value) : v.ownBlock = none ∨ v.ownBlock ≠ none := by cases v.ownBlock <;> simp
theorem row_below {W W' : World} {B k n : Nat} {e : TypeId} {v : Value} {xs : List Value} (h : W.ownsRow B e k v n xs) (hb : Below W.heap.size W W') : W'.ownsRow B e k v n xs :=
  h.kept (grown_of_below hb none) (ownBlock_or v)
theorem keep_typed {W W' : World} {B B' k k' n n' : Nat} {e e' : TypeId} {v v' : Value} {xs xs' : List Value} (h : W.ownsRow B e k v n xs) (h' : W.ownsRow B' e' k' v' n' xs') (ht : e ≠ e') (hg : W.grownBy W' v'.ownBlock) : W'.ownsRow B e k v n xs := by
  refine h.kept hg ?_
  rcases h'.2 with ⟨e1, _⟩ | ⟨g, cap, cur, e1, _, hgg, _⟩
  · subst e1; exact ownBlock_or v
  · right; subst e1; exact row_ne h hgg (Ne.symm ht)
theorem blk_typed {W W' : World} {B' k' n' N : Nat} {e' t : TypeId} {v' : Value} {xs' : List Value} {cur : Array Value} {z : Nat × Nat} (h : W.heap[N]? = some (.cells cur t z)) (h' : W.ownsRow B' e' k' v' n' xs') (ht : t ≠ e') (hg : W.grownBy W' v'.ownBlock) : W'.heap[N]? = some (.cells cur t z) :=
  (hg.block N (Array.getElem?_eq_some_iff.1 h).1 (fun e => row_ne h' h ht e.symm)).trans h
theorem KR.far {w W W' : World} {c : CaV} {row : Option Nat} (h : KR w c W) (hg : W.grownBy W' row) (hr : ∀ k, row = some k → w.heap.size + 1 < k) : KR w c W' :=
  ⟨h.kb.grown hg (fun k hk => by have := hr k hk; omega), (hg.block _ h.lt (fun e => by have := hr _ e.symm; omega)).trans h.res⟩

/-- The state of Canon's loop: the list and its rows of marks, the names and the dots so far. -/
structure KL (w : World) (c : CaV) (B : Nat) (A : Option Addr) (d : Nat) (ys : List ItV) (u v : Value) (ns : List (List UInt8)) (ds : List (Int × Int)) (W : World) : Prop where
  kr : KR w c W
  own : OwnI W B (.slice A ys.length d) ys
  ap : ApartI ys
  rs : RowS W B u ns
  rd : RowC W B v ds
  hB : w.heap.size + 1 < B
  bB : B ≤ W.heap.size
section
variable {w W W' : World} {c : CaV} {B d : Nat} {A : Option Addr} {ys : List ItV} {u v : Value} {ns : List (List UInt8)} {ds : List (Int × Int)}
theorem KL.next (h : KL w c B A d ys u v ns ds W) (hb : Below W.heap.size W W') : KL w c B A d ys u v ns ds W' :=
  ⟨h.kr.next hb, h.own.below hb, h.ap, row_below h.rs hb, row_below h.rd hb, h.hB, Nat.le_trans h.bB hb.size⟩
theorem KL.alloc (h : KL w c B A d ys u v ns ds W) (o : Obj) : KL w c B A d ys u v ns ds (W.alloc o) := h.next ((Below.refl _ _).alloc (Nat.le_refl _) _)
theorem ApartI.ne (h : ApartI ys) {j k : Nat} {y z : ItV} (hj : ys[j]? = some z) (hk : ys[k]? = some y) (hne : j ≠ k) : (slV z).ownBlock = none ∨ (slV z).ownBlock ≠ (slV y).ownBlock := by
  obtain ⟨hj', ej⟩ := List.getElem?_eq_some_iff.1 hj
  obtain ⟨hk', ek⟩ := List.getElem?_eq_some_iff.1 hk
  unfold ApartI at h
  rw [List.pairwise_iff_getElem] at h
  cases e : (slV z).ownBlock with
  | none => exact .inl rfl
  | some g =>
    right
    rcases Nat.lt_or_ge j k with hlt | hge
    · have := h j k hj' hk' hlt g (by rw [ej]; exact e)
      rw [ek] at this
      exact fun e2 => this e2.symm
    · have hlt : k < j := by omega
      intro e2
      have := h k j hk' hj' hlt g (by rw [ek]; exact e2.symm)
      rw [ej] at this
      exact this e
theorem ApartI.map (h : ApartI ys) {zs : List ItV} (he : zs.map (fun y => (slV y).ownBlock) = ys.map (fun y => (slV y).ownBlock)) : ApartI zs := by
  unfold ApartI at h ⊢
  have h1 : (ys.map fun y => (slV y).ownBlock).Pairwise fun a b => ∀ g, a = some g → b ≠ some g := by rw [List.pairwise_map]; exact h
  rw [← he, List.pairwise_map] at h1
  exact h1
theorem KL.names (h : KL w c B A d ys u v ns ds W) {u' : Value} {ns' : List (List UInt8)} (hg : W.grownBy W' u.ownBlock) (hr : RowS W' B u' ns') : KL w c B A d ys u' v ns' ds W' :=
  ⟨h.kr.far hg fun j hj => by have := (h.rs.lt j hj).1; have := h.hB; omega, ⟨keep_typed h.own.1 h.rs (by decide) hg, fun z hz => keep_typed (h.own.2 z hz) h.rs (by decide) hg⟩, h.ap, hr, keep_typed h.rd h.rs (by decide) hg, h.hB, Nat.le_trans h.bB hg.size⟩
theorem KL.dots (h : KL w c B A d ys u v ns ds W) {v' : Value} {ds' : List (Int × Int)} (hg : W.grownBy W' v.ownBlock) (hr : RowC W' B v' ds') : KL w c B A d ys u v' ns ds' W' :=
  ⟨h.kr.far hg fun j hj => by have := (h.rd.lt j hj).1; have := h.hB; omega, ⟨keep_typed h.own.1 h.rd (by decide) hg, fun z hz => keep_typed (h.own.2 z hz) h.rd (by decide) hg⟩, h.ap, keep_typed h.rs h.rd (by decide) hg, hr, h.hB, Nat.le_trans h.bB hg.size⟩
theorem KL.items (h : KL w c B A d ys u v ns ds W) : ItemsAt W A ys := by
  obtain ⟨A', m, e, h1, _⟩ := h.own.holds
  injection e with e1 e2 e3
  rw [e1]; exact h1
end

end

end Go.Proofs.YtiaehpdgpjhecaaGreat
