/- Several texts in one: JoiL0, RegL. -/
import Derived.Test.YtfjbocipjmpogaaGreatMBM
import Derived.Test.YtfjbocipjmpogaaGreatMAW
import Derived.Test.YtfjbocipjmpogaaGreatMBN
import Derived.Test.YtfjbocipjmpogaaGreatMBA
namespace Go.Proofs.YtfjbocipjmpogaaGreat

section
open Go.RowKit

/-- The chapter's examples hold. -/
abbrev KnownJ : Prop := ∀ W, Calls Tryz.prog 9 #[] W (TrueB W)
theorem sameJ_self (a : Ca) : sameC a a = true := sameC_iff.2 rfl
theorem KK.cells4 {w W : World} {L : List (Nat × CaV)} (h : KK w L W) {g : Nat} {c : CaV} (hm : (g, c) ∈ L) : W.cell? ⟨g, 0, none⟩ = some c.v ∧ W.cell? ⟨g, 1, none⟩ = some c.l ∧ W.cell? ⟨g, 2, none⟩ = some c.i ∧ g < W.heap.size := ⟨(h.blk hm).cell0, (h.blk hm).cell1, (h.blk hm).cell2, (h.blk hm).lt⟩
theorem of_caJ {c k : CaV} (h : k.ca = c.ca) : k.vs = c.vs ∧ k.ls = c.ls ∧ its k.xs = its c.xs := by
  have h1 := congrArg (fun a : Ca => a.1.1) h
  have h2 := congrArg (fun a : Ca => a.1.2) h
  have h3 := congrArg (fun a : Ca => a.2) h
  exact ⟨h1, h2, h3⟩
theorem row_ofJ {W : World} {B : Nat} {v : Value} {a b : List (Int × Int)} (h : RowC W B v b) (e : a = b) : RowC W B v a := by subst e; exact h
/-- A light cart is of size one. -/
theorem lightK_size {c : CaV} (h : lightK c = true) : SizeK 1 c.ca := by
  obtain ⟨_, h1, h2, h3, h4⟩ := lightK_fits h
  have hone : ∀ x ∈ c.ca.2, x.1.length ≤ 100 ∧ x.2.length ≤ 10 := fun x hx => by
    obtain ⟨y, hy, rfl⟩ := List.mem_map.1 hx
    exact h4 y hy
  have hn : c.ca.2.length ≤ 20 := by rw [ca_x, its_len]; exact h3
  refine ⟨by show c.vs.length + c.ls.length ≤ 80 * 1; omega, by omega, ?_, fun x hx => by have := hone x hx; omega⟩
  have : ∀ l : List It, (∀ x ∈ l, x.2.length ≤ 10) → cntM l ≤ 10 * l.length := fun l => by
    induction l with
    | nil => intro _; simp [cntM]
    | cons x r ih =>
      intro hx
      have h1 := ih fun y hy => hx y (List.mem_cons_of_mem _ hy)
      have h2 := hx x (by simp)
      have e : cntM (x :: r) = x.2.length + cntM r := by simp [cntM]
      rw [e, List.length_cons]; omega
  have := this c.ca.2 fun x hx => (hone x hx).2
  omega
theorem SizeK.k {c : CaV} {n : Nat} (h : SizeK n c.ca) (hn : n ≤ 7) : FitsK c := (FitsP.of h h hn hn).kc
theorem SizeK.fits {c : CaV} {n : Nat} (h : SizeK n c.ca) (hn : n ≤ 7) : Fits c.xs := (h.k hn).1
theorem SizeK.small {c : CaV} {n : Nat} (h : SizeK n c.ca) (hn : n ≤ 7) : c.xs.length ≤ 100000 := by have := CaV.num h; omega
theorem SizeK.cc {c : CaV} (h : SizeK 1 c.ca) : FitsC c := ⟨by have := h.dots; rw [ca_v, ca_l] at this; omega, by have := h.dots; rw [ca_v, ca_l] at this; omega, h.fits (by omega)⟩
/-- The contracts that the laws ask, with what they need in one place. -/
theorem valid_j (c : CaV) (b : Bool) (n : Nat) (w : World) (hc : CaOK w c) (hs : SizeK n c.ca) (hn : n ≤ 7) (hb : validK c.ca = b) : Calls Tryz.prog 23 #[mkC c] w (OneB (.bool b) w) := caValid c b w hc (hs.k hn) hb
theorem rvalid_j (c : CaV) (b : Bool) (n : Nat) (w : World) (hc : CaOK w c) (hs : SizeK n c.ca) (hn : n ≤ 7) (hb : validK c.ca = b) : Calls Tryz.prog 10 #[mkC c] w (OneB (.bool b) w) := refValid10 c b w hc (hs.fits hn) hb
theorem equal_j (c d : CaV) (b : Bool) (n m : Nat) (w : World) (hc : CaOK w c) (hd : CaOK w d) (hs : SizeK n c.ca) (hs' : SizeK m d.ca) (hn : n ≤ 7) (hm : m ≤ 7) (hb : sameC c.ca d.ca = b) : Calls Tryz.prog 14 #[mkC c, mkC d] w (OneB (.bool b) w) := refEqual10 c d b w hc hd (hs.small hn) (hs'.small hm) hb
/-- Join of valid carts. -/
theorem join_j (c d : CaV) (n m : Nat) (w : World) (hc : CaOK w c) (hd : CaOK w d) (hn : SizeK n c.ca) (hm : SizeK m d.ca) (h1 : n ≤ 7) (h2 : m ≤ 7) (hv : validK c.ca = true) (hv' : validK d.ca = true) :
    Calls Tryz.prog 13 #[mkC c, mkC d] w (MadeE (joinK c.ca d.ca) 0 w) := by
  have ho : okJ c.ca d.ca = true := okJ_iff.2 ⟨hv, hv'⟩
  have := joJoin c d n m w hc hd hn hm h1 h2
  rwa [joinV_t ho, joinE_t ho] at this
/-- joins, asked of valid carts. -/
theorem joins_j (c d t : CaV) (n m : Nat) (w : World) (hc : CaOK w c) (hd : CaOK w d) (ht : CaOK w t) (hn : SizeK n c.ca) (hm : SizeK m d.ca) (h1 : n ≤ 7) (h2 : m ≤ 7) (hv : validK c.ca = true) (hv' : validK d.ca = true) (he : joinK c.ca d.ca = t.ca) :
    Calls Tryz.prog 11 #[mkC c, mkC d, mkC t, .int .i64 0] w (TrueB w) := by
  have ho : okJ c.ca d.ca = true := okJ_iff.2 ⟨hv, hv'⟩
  have hz := joinK_size hv hv' hn hm
  rw [he] at hz
  exact lawJoins11 c d t 0 n m true w hc hd ht (by have := CaV.num hz; omega) hn hm h1 h2 (by rw [joinV_t ho, joinE_t ho, he, sameJ_self]; rfl)
theorem joins_bad (c d t : CaV) (n m : Nat) (w : World) (hc : CaOK w c) (hd : CaOK w d) (ht : CaOK w t) (hn : SizeK n c.ca) (hm : SizeK m d.ca) (h1 : n ≤ 7) (h2 : m ≤ 7) (ho : okJ c.ca d.ca = false) (hz : t.ca = zeroK) :
    Calls Tryz.prog 11 #[mkC c, mkC d, mkC t, .int .i64 2] w (TrueB w) := by
  have hl : t.xs.length = 0 := by
    have := congrArg (fun a : Ca => a.2.length) hz
    rw [show t.ca.2.length = t.xs.length from its_len t.xs] at this
    exact this
  exact lawJoins11 c d t 2 n m true w hc hd ht (by omega) hn hm h1 h2 (by rw [joinV_f ho, joinE_f ho, hz, sameJ_self]; rfl)
theorem within_j (c d : CaV) (u : Bool) (n m : Nat) (w : World) (hc : CaOK w c) (hd : CaOK w d) (hn : SizeK n c.ca) (hm : SizeK m d.ca) (h1 : n ≤ 7) (h2 : m ≤ 7) (hv : validK c.ca = true) (hv' : validK d.ca = true) (he : withinK c.ca d.ca = u) :
    Calls Tryz.prog 19 #[mkC c, mkC d, .bool u, .int .i64 0] w (TrueB w) := by
  have ho : okJ c.ca d.ca = true := okJ_iff.2 ⟨hv, hv'⟩
  exact lawWithin11 c d u 0 n m true w hc hd hn hm h1 h2 (by unfold withinJ; rw [ho, joinE_t ho, he]; simp)
theorem fits_j (c d : CaV) (u : Bool) (n m : Nat) (w : World) (hc : CaOK w c) (hd : CaOK w d) (hn : SizeK n c.ca) (hm : SizeK m d.ca) (h1 : n ≤ 7) (h2 : m ≤ 7) (hv : validK c.ca = true) (hv' : validK d.ca = true) (he : fitsB c.ca d.ca = u) :
    Calls Tryz.prog 20 #[mkC c, mkC d, .bool u, .int .i64 0] w (TrueB w) := by
  have ho : okJ c.ca d.ca = true := okJ_iff.2 ⟨hv, hv'⟩
  exact lawFits11 c d u 0 n m true w hc hd hn hm h1 h2 (by unfold fitsV; rw [ho, joinE_t ho, he]; simp)
theorem within_bad (c d : CaV) (n m : Nat) (w : World) (hc : CaOK w c) (hd : CaOK w d) (hn : SizeK n c.ca) (hm : SizeK m d.ca) (h1 : n ≤ 7) (h2 : m ≤ 7) (ho : okJ c.ca d.ca = false) :
    Calls Tryz.prog 19 #[mkC c, mkC d, .bool false, .int .i64 2] w (TrueB w) :=
  lawWithin11 c d false 2 n m true w hc hd hn hm h1 h2 (by unfold withinJ; rw [ho, joinE_f ho]; rfl)
theorem fits_bad (c d : CaV) (n m : Nat) (w : World) (hc : CaOK w c) (hd : CaOK w d) (hn : SizeK n c.ca) (hm : SizeK m d.ca) (h1 : n ≤ 7) (h2 : m ≤ 7) (ho : okJ c.ca d.ca = false) :
    Calls Tryz.prog 20 #[mkC c, mkC d, .bool false, .int .i64 2] w (TrueB w) :=
  lawFits11 c d false 2 n m true w hc hd hn hm h1 h2 (by unfold fitsV; rw [ho, joinE_f ho]; rfl)
/-- all, asked of valid carts. -/
theorem all_j (A : Option Addr) (cs : List CaV) (cap : Nat) (t : CaV) (w : World) (hx : CartsAt w A cs) (hcap : cs.length ≤ cap) (hcm : cap ≤ maxLen) (h7 : cs.length ≤ 7) (hs : ∀ c ∈ cs, SizeK 1 c.ca ∧ validK c.ca = true) (ht : CaOK w t) (htl : t.xs.length ≤ 100000) (he : allK (cs.map (·.ca)) = t.ca) :
    Calls Tryz.prog 17 #[.slice A cs.length cap, mkC t, .int .i64 0] w (TrueB w) := by
  have ho : okA (cs.map (·.ca)) = true := okA_iff.2 fun x hx => by
    obtain ⟨c, hc, rfl⟩ := List.mem_map.1 hx
    exact (hs c hc).2
  exact lawAll11 A cs cap t 0 true w hx hcap hcm h7 (fun c hc => (hs c hc).1) ht htl (by rw [allV_t ho, allE_t ho, he, sameJ_self]; rfl)
theorem all_bad (A : Option Addr) (cs : List CaV) (cap : Nat) (t : CaV) (w : World) (hx : CartsAt w A cs) (hcap : cs.length ≤ cap) (hcm : cap ≤ maxLen) (h7 : cs.length ≤ 7) (hs : ∀ c ∈ cs, SizeK 1 c.ca) (ht : CaOK w t) (hz : t.ca = zeroK) (ho : okA (cs.map (·.ca)) = false) :
    Calls Tryz.prog 17 #[.slice A cs.length cap, mkC t, .int .i64 2] w (TrueB w) := by
  have hl : t.xs.length = 0 := by
    have := congrArg (fun a : Ca => a.2.length) hz
    rw [show t.ca.2.length = t.xs.length from its_len t.xs] at this
    exact this
  exact lawAll11 A cs cap t 2 true w hx hcap hcm h7 hs ht (by omega) (by rw [allV_f ho, allE_f ho, hz, sameJ_self]; rfl)

end

section
open Go.RowKit

/-- G: what holds all along, by what is there and by the frame; Φ: what each value says. -/
structure RegT where
  G : (Nat → Bool) → Act → World → Prop
  Φ : Nat → Value → World → Prop
structure InvT (ops : Array Oper) (a0 : Act) (S : RegT) (L : Nat → Bool) (a : Act) (w : World) : Prop where
  size : a.tmps.size = a0.tmps.size
  defs : a.defers = a0.defers
  old : ∀ t, (∀ j, dstOf ops j ≠ some t) → a.tmps[t]? = a0.tmps[t]?
  clo : ∀ j o, ops[j]? = some o → L j = true → ∀ e ∈ o.after, Region.binds .any e = true → L e.on = true
  glob : S.G L a w
  val : ∀ j d, L j = true → dstOf ops j = some d → S.Φ j (a.eval (.tmp d)) w
def KeepsT (S : RegT) (L : Nat → Bool) (w w' : World) : Prop := ∀ j v, L j = true → S.Φ j v w → S.Φ j v w'
section
variable {P : Program} {ops : Array Oper} {Q : Exit → Act → World → Prop} {a0 : Act} {w0 : World}
def StepT (P : Program) (ops : Array Oper) (Q : Exit → Act → World → Prop) (a0 : Act) (S : RegT) (k : Nat) (o : Oper) : Prop :=
  ∀ L a w, InvT ops a0 S L a w → L k = false → (∀ e ∈ o.after, Region.binds .any e = true → L e.on = true) →
    wpOp P ops Q k (fun a' w' => ∃ v, a' = a.put o.dst v ∧ KeepsT S L w w' ∧ S.G (moreL L k) (a.put o.dst v) w' ∧ (o.dst ≠ none → S.Φ k v w')) a w
def StepsT (P : Program) (ops : Array Oper) (Q : Exit → Act → World → Prop) (a0 : Act) (S : RegT) : Nat → List Oper → Prop
  | _, [] => True
  | k, o :: l => StepT P ops Q a0 S k o ∧ StepsT P ops Q a0 S (k + 1) l
theorem StepsT.get {S : RegT} : ∀ {l : List Oper} {k : Nat}, StepsT P ops Q a0 S k l → ∀ {i : Nat} {o : Oper}, l[i]? = some o → StepT P ops Q a0 S (k + i) o
  | [], _, _, i, o, h => by simp at h
  | x :: l, k, ⟨h1, h2⟩, 0, o, h => by
    obtain rfl : x = o := by simpa using h
    exact h1
  | x :: l, k, ⟨h1, h2⟩, i + 1, o, h => by
    have := StepsT.get h2 (i := i) (by simpa using h)
    rw [show k + (i + 1) = k + 1 + i by omega]
    exact this
theorem wp_region_T {id : Nat} {S : RegT} {l : List Oper} (hm : P.follows .mixedOrders = true) (ht : topoB l.toArray = true) (hap : apartB l.toArray = true)
    (hsz : ∀ j d, dstOf l.toArray j = some d → d < a0.tmps.size) (hG0 : S.G (fun _ => false) a0 w0.drew)
    (hst : StepsT P l.toArray Q a0 S 0 l)
    (hf : ∀ a w L, (∀ j, j < l.toArray.size → L j = true) → InvT l.toArray a0 S L a w → Q .normal a w) : (Code.region id l.toArray true).wp P Q a0 w0 := by
  refine wp_region_inv (I := InvT l.toArray a0 S) hm ht ⟨rfl, rfl, fun _ _ => rfl, fun _ _ _ h => (by cases h), hG0, fun _ _ h => (by cases h)⟩ ?_ fun L a w hI hL => hf a w L hL hI
  intro k o ho L a w hI hLk hd
  have hstep := hst.get (i := k) (by simpa using ho) L a w hI (by rw [Nat.zero_add]; exact hLk) hd
  rw [Nat.zero_add] at hstep
  have hdk : dstOf l.toArray k = o.dst := by unfold dstOf; rw [ho]; rfl
  refine wpOp_mono ?_ hstep
  rintro a' w' ⟨v, rfl, hbel, hG, hv⟩
  have hclo := moreL_clo ho hI.clo hd
  have hev : ∀ j t, j ≠ k → dstOf l.toArray j = some t → (a.put o.dst v).eval (.tmp t) = a.eval (.tmp t) := fun j t hjk hj => by
    cases hdo : o.dst with
    | none => rfl
    | some d =>
      refine eval_put_ne fun e => hjk ?_
      subst e
      exact apart_spec hap hj (hdk.trans hdo)
  have hLm : ∀ j, moreL L k j = true → j = k ∨ (j ≠ k ∧ L j = true) := fun j hj => by
    by_cases e : j = k
    · exact .inl e
    · refine .inr ⟨e, ?_⟩
      simpa [moreL, e] using hj
  refine ⟨?_, ?_, fun t ht' => ?_, hclo, hG, fun j d hj hjd => ?_⟩
  · rw [← hI.size]; cases o.dst <;> simp [Act.put]
  · rw [← hI.defs]; cases o.dst <;> rfl
  · rw [← hI.old t ht']
    cases hdo : o.dst with
    | none => rfl
    | some d =>
      have hne : d ≠ t := fun e => ht' k (by rw [hdk, hdo, e])
      simp [Act.put, hne]
  · rcases hLm j hj with rfl | ⟨hjk, hL⟩
    · rw [hdk] at hjd
      rw [hjd, eval_put_eq (by rw [hI.size]; exact hsz j d (hdk.trans hjd))]
      exact hv (by rw [hjd]; simp)
    · rw [hev j d hjk hjd]
      exact hbel j _ hL (hI.val j d hL hjd)
/-- The frame behind the region, written out. -/
theorem InvT.frame {S : RegT} {L : Nat → Bool} {a : Act} {w : World} {l : List Oper} (h : InvT l.toArray a0 S L a w) :
    a = ⟨(l.filterMap (·.dst)).foldl (fun t d => t.setIfInBounds d (a.eval (.tmp d))) a0.tmps, a0.defers⟩ := by
  have h' : InvR l.toArray a0 ⟨fun _ => none, fun _ _ => True, fun _ _ => True, fun _ _ _ => True, fun _ _ _ => True⟩ L a w :=
    ⟨h.size, h.defs, h.old, h.clo, trivial, fun _ _ _ _ => trivial, fun _ _ _ _ h => (by cases h), fun _ _ _ _ _ _ h => (by cases h)⟩
  exact h'.frame
theorem InvT.at {S : RegT} {L : Nat → Bool} {a : Act} {w : World} {l : List Oper} (h : InvT l.toArray a0 S L a w) (t : Tmp) (ht : (l.all fun o => !(o.dst == some t)) = true) : a.tmps[t]?.getD undef = a0.eval (.tmp t) := by
  have h' : InvR l.toArray a0 ⟨fun _ => none, fun _ _ => True, fun _ _ => True, fun _ _ _ => True, fun _ _ _ => True⟩ L a w :=
    ⟨h.size, h.defs, h.old, h.clo, trivial, fun _ _ _ _ => trivial, fun _ _ _ _ h => (by cases h), fun _ _ _ _ _ _ h => (by cases h)⟩
  exact h'.at t ht
theorem InvT.get {S : RegT} {L : Nat → Bool} {a : Act} {w : World} (h : InvT ops a0 S L a w) (j d : Nat) (hL : L j = true) (hd : dstOf ops j = some d) : ∃ v, a.tmps[d]?.getD undef = v ∧ S.Φ j v w :=
  ⟨_, rfl, by rw [← eval_tmp]; exact h.val j d hL hd⟩
theorem InvT.wants {S : RegT} {L : Nat → Bool} {a : Act} {w : World} (h : InvT ops a0 S L a w) {o : Oper} {j d : Nat} {b : Bool} (hg : o.guard = some (j, b)) (hL : L j = true) (hd : dstOf ops j = some d) (hv : ∀ v, S.Φ j v w → v = .bool b) : Region.wanted o (yielded ops a.tmps) = true := wanted_at hg hd (hv _ (h.val j d hL hd))
theorem InvT.before {S : RegT} {k : Nat} {L : Nat → Bool} {a : Act} {w : World} (h : InvT ops a0 S L a w) {j : Nat} {o : Oper} (ho : ops[j]? = some o) (hw : waitsB o k = true) (hk : L k = false) : L j = false := by
  cases hj : L j with
  | false => rfl
  | true =>
    have := waits_spec (h.clo j o ho hj) k hw
    rw [hk] at this; cases this
section
variable {S : RegT} {k : Nat} {o : Oper}
theorem StepT.val (ho : ops[k]? = some o)
    (h : ∀ L a w, InvT ops a0 S L a w → L k = false → (∀ j, waitsB o j = true → L j = true) → Region.wanted o (yielded ops a.tmps) = true ∧ ∃ v w', (execOp a.eval o).run P w = .ok (.value v) w' ∧ KeepsT S L w w' ∧ S.G (moreL L k) (a.put o.dst v) w' ∧ S.Φ k v w') : StepT P ops Q a0 S k o := by
  intro L a w hI hk hd
  obtain ⟨hw, v, w', hr, hbel, hg, hv⟩ := h L a w hI hk (waits_spec hd)
  exact wpOp_val ho hw hr ⟨v, rfl, hbel, hg, fun _ => hv⟩
theorem StepT.call (ho : ops[k]? = some o)
    (h : ∀ L a w, InvT ops a0 S L a w → L k = false → (∀ j, waitsB o j = true → L j = true) → Region.wanted o (yielded ops a.tmps) = true ∧ ∃ f args, (execOp a.eval o).run P w = .ok (.enter f args) w ∧ Calls P f args w fun e w' => ∃ v, e = .returned v ∧ KeepsT S L w w' ∧ S.G (moreL L k) (a.put o.dst v) w' ∧ S.Φ k v w') : StepT P ops Q a0 S k o := by
  intro L a w hI hk hd
  obtain ⟨hw, f, args, hr, hc⟩ := h L a w hI hk (waits_spec hd)
  refine wpOp_call ho hw hr (hc.mono ?_)
  rintro e w' ⟨v, he, hbel, hg, hv⟩
  exact ⟨v, he, v, rfl, hbel, hg, fun _ => hv⟩
end
end

end

end Go.Proofs.YtfjbocipjmpogaaGreat
