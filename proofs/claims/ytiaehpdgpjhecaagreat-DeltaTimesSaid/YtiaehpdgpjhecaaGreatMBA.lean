/- Several texts in one: DelA, RegL, GonG. -/
import Derived.Test.YtiaehpdgpjhecaaGreatMAV
import Derived.Test.YtiaehpdgpjhecaaGreatMAR
import Derived.Test.YtiaehpdgpjhecaaGreatMAS
import Derived.Test.YtiaehpdgpjhecaaGreatMAL
import Derived.Test.YtiaehpdgpjhecaaGreatMAP
import Derived.Test.YtiaehpdgpjhecaaGreatMAI
import Derived.Test.YtiaehpdgpjhecaaGreatMAW
import Derived.Test.YtiaehpdgpjhecaaGreatMAZ
import Derived.Test.YtiaehpdgpjhecaaGreatMAY
namespace Go.Proofs.YtiaehpdgpjhecaaGreat

section
open Go.RowKit

/-- A cart and a dot in boxes. -/
structure KFr (w : World) (c : CaV) (r s : Int) (W : World) : Prop where
  cart : BlkC W w.heap.size c
  ok : CaOK W c
  dot : W.heap[w.heap.size + 1]? = some (.cells #[.int .i64 r, .int .i64 s] 30 (0, 0))
  bel : Below w.heap.size w W
section
variable {w W W' : World} {c : CaV} {r s : Int}
theorem KFr.next (h : KFr w c r s W) (hb : Below W.heap.size W W') : KFr w c r s W' := ⟨h.cart.below hb, h.ok.below hb, (hb.block _ (Array.getElem?_eq_some_iff.1 h.dot).1).trans h.dot, below_trans h.bel hb⟩
theorem KFr.sp (h : KFr w c r s W) : W.cell? ⟨w.heap.size, 0, none⟩ = some c.v ∧ W.cell? ⟨w.heap.size, 1, none⟩ = some c.l ∧ W.cell? ⟨w.heap.size, 2, none⟩ = some c.i ∧ W.cell? ⟨w.heap.size + 1, 0, none⟩ = some (.int .i64 r) ∧ W.cell? ⟨w.heap.size + 1, 1, none⟩ = some (.int .i64 s) ∧ w.heap.size < W.heap.size ∧ w.heap.size + 1 < W.heap.size :=
  ⟨h.cart.cell0, h.cart.cell1, h.cart.cell2, by simp [World.cell?, h.dot], by simp [World.cell?, h.dot], h.cart.lt, (Array.getElem?_eq_some_iff.1 h.dot).1⟩
theorem KFr.new (w : World) (c : CaV) (r s : Int) (hc : CaOK w c) : KFr w c r s ((w.alloc (.cells #[c.v, c.l, c.i] 28)).alloc (.cells #[.int .i64 r, .int .i64 s] 30)) := by
  have h1 := (Below.refl w.heap.size w).alloc (Nat.le_refl _) (.cells #[c.v, c.l, c.i] 28)
  have h2 := (Below.refl _ (w.alloc (.cells #[c.v, c.l, c.i] 28))).alloc (Nat.le_refl _) (.cells #[.int .i64 r, .int .i64 s] 30)
  have d := heap_alloc_new (w.alloc (.cells #[c.v, c.l, c.i] 28)) (.cells #[.int .i64 r, .int .i64 s] 30)
  rw [World.size_alloc] at d
  exact ⟨(BlkC.new w c).below h2, (hc.below h1).below h2, d, below_trans h1 h2⟩
end

set_option maxHeartbeats 2000000 in
theorem refFresh12 (c : CaV) (r s : Int) (b : Bool) (w : World) (hc : CaOK w c) (hf : Fits c.xs) (hb : freshK c.ca (r, s) = b) :
    Calls Tryz.prog 23 #[mkC c, .agg #[.int .i64 r, .int .i64 s]] w (OneB (.bool b) w) := by
  have K0 := Lib.hid (KFr.new w c r s hc)
  obtain ⟨v, hv⟩ : ∃ v, validK c.ca = v := ⟨_, rfl⟩
  obtain ⟨g, hg⟩ : ∃ g, validD r s = g := ⟨_, rfl⟩
  obtain ⟨k, hk⟩ : ∃ k, hasC c.vs c.ls r s = k := ⟨_, rfl⟩
  have HV := Lib.hid hv
  have HG := Lib.hid hg
  have HK := Lib.hid hk
  have HF := Lib.hid hf
  have HB := Lib.hid (show (v && (g && !k)) = b from by
    rw [← hb, ← hv, ← hg, ← hk]; rfl)
  clear hc hf hb hv hg hk
  cases v with
  | false =>
    obtain rfl : false = b := HB.out
    go_enter Tryz.func23, Tryz.ntmps23
    go_upto_region 1 with fail
    generalize World.alloc (World.alloc w _) _ = w2 at K0 ⊢
    obtain ⟨x0, x1, x2, x3, x4, xl, xm⟩ := K0.out.sp
    go_wp2_with fail
    refine (refValid10 c false w2 K0.out.ok HF.out HV.out).mono ?_
    rintro e w3 ⟨rfl, hb⟩
    have KB := Lib.hid (K0.out.next hb).bel
    clear hb K0 x0 x1 x2 x3 x4 xl xm
    go_wp2_with fail
    go_ret
    exact OneB.bool rfl KB.out
  | true =>
    cases g with
    | false =>
      obtain rfl : false = b := HB.out
      go_enter Tryz.func23, Tryz.ntmps23
      go_upto_region 1 with fail
      generalize World.alloc (World.alloc w _) _ = w2 at K0 ⊢
      obtain ⟨x0, x1, x2, x3, x4, xl, xm⟩ := K0.out.sp
      go_wp2_with fail
      refine (refValid10 c true w2 K0.out.ok HF.out HV.out).mono ?_
      rintro e w3 ⟨rfl, hb⟩
      have K1 := Lib.hid (K0.out.next hb)
      clear hb K0 x0 x1 x2 x3 x4 xl xm
      obtain ⟨x0, x1, x2, x3, x4, xl, xm⟩ := K1.out.sp
      go_wp2_with fail
      refine (refValid r s w3).mono ?_
      rintro e w4 ⟨he, hb⟩
      obtain rfl : e = .returned (.bool false) := he.trans (by rw [HG.out])
      have KB := Lib.hid (K1.out.next hb).bel
      clear hb he K1 x0 x1 x2 x3 x4 xl xm
      go_wp2_with fail
      go_ret
      exact OneB.bool rfl KB.out
    | true =>
      cases k
      all_goals
        have HB2 := Lib.hid HB.out
        clear HB
        go_enter Tryz.func23, Tryz.ntmps23
        go_upto_region 1 with fail
        generalize World.alloc (World.alloc w _) _ = w2 at K0 ⊢
        obtain ⟨x0, x1, x2, x3, x4, xl, xm⟩ := K0.out.sp
        go_wp2_with fail
        refine (refValid10 c true w2 K0.out.ok HF.out HV.out).mono ?_
        rintro e w3 ⟨rfl, hb⟩
        have K1 := Lib.hid (K0.out.next hb)
        clear hb K0 x0 x1 x2 x3 x4 xl xm
        obtain ⟨x0, x1, x2, x3, x4, xl, xm⟩ := K1.out.sp
        go_wp2_with fail
        refine (refValid r s w3).mono ?_
        rintro e w4 ⟨he, hb⟩
        obtain rfl : e = .returned (.bool true) := he.trans (by rw [HG.out])
        have K2 := Lib.hid (K1.out.next hb)
        clear hb he K1 x0 x1 x2 x3 x4 xl xm
        obtain ⟨x0, x1, x2, x3, x4, xl, xm⟩ := K2.out.sp
        go_wp2_with fail
        refine (ref3Has (.agg #[c.v, c.l]) c.vs c.ls r s _ w4 K2.out.ok.ctx HK.out).mono ?_
        rintro e w5 ⟨rfl, hb⟩
        have KB := Lib.hid (K2.out.next hb).bel
        clear hb K2 x0 x1 x2 x3 x4 xl xm
        go_wp2_with fail
        go_ret
        exact OneB.bool HB2.out KB.out

/-- A cart that a call has made. -/
def MadeG (x : Ca) (w : World) (e : Ending) (w' : World) : Prop := (∃ z : CaV, e = .returned (mkC z) ∧ z.ca = x ∧ CaOK w' z) ∧ Below w.heap.size w w'
theorem ctx_form {W : World} {v : Value} {us rs : List (Int × Int)} (h : HoldsC W v us rs) : ∃ A n B k, v = .agg #[.slice A us.length n, .slice B rs.length k] ∧ Holds W (.slice A us.length n) us ∧ Holds W (.slice B rs.length k) rs := by
  obtain ⟨A, n, B, k, rfl, h1, h2⟩ := h
  exact ⟨A, n, B, k, rfl, h1, h2⟩

/-- A cart that a call has made, with an error. -/
def MadeD (x : Ca) (k : Int) (w : World) (e : Ending) (w' : World) : Prop := (∃ z : CaV, e = .returned (.tuple #[mkC z, .int .i64 k]) ∧ z.ca = x ∧ CaOK w' z) ∧ Below w.heap.size w w'
theorem time_R {c : CaV} (h : validK c.ca = true) : nextR (marksX c.xs) = timeC c.ca := by
  unfold timeC
  rw [if_pos h, show c.ca.2.flatMap (·.2) = marksX c.xs from marksX_its c.xs]
  refine (nextV_R (List.all_eq_true.2 fun m hm => ?_)).symm
  obtain ⟨x, hx, hxm⟩ := List.mem_flatMap.1 hm
  have hg := (validK_iff.1 h).2.1
  exact List.all_eq_true.1 (okI_parts (hg.1 x.it (List.mem_map.2 ⟨x, hx, rfl⟩))).2.2.1 m hxm
theorem dotsK_le {c : CaV} {nm : List UInt8} {n : Nat} (hf : Fits c.xs) (h2 : (dotsI (its c.xs)).length ≤ n) (hn : 100 ≤ n) : (dotsK (its c.xs) nm).length ≤ n := by
  by_cases hnm : nm = []
  · unfold dotsK
    rw [if_pos hnm]; omega
  · unfold dotsK
    rw [if_neg hnm]
    split
    · rename_i x hx
      have h3 : x ∈ its c.xs := List.mem_of_find?_eq_some hx
      obtain ⟨y, hy, rfl⟩ := List.mem_map.1 h3
      have := (hf.2 y hy).2
      show (dotsM y.ms).length ≤ n
      rw [dotsM_len]; omega
    · simp
theorem dotsK_size {c : CaV} {nm : List UInt8} (hf : FitsK c) : (dotsK (its c.xs) nm).length ≤ 3000 := dotsK_le hf.1 (by have := hf.2; omega) (by omega)
set_option maxHeartbeats 2000000 in
theorem refGone12 (v : Value) (l : List (Int × Int)) (w : World) (h : Holds w v l) (hv : ∀ p ∈ l, validD p.1 p.2 = true) (hm : l.length ≤ 3000) :
    Calls Tryz.prog 46 #[v] w (MadeG (goneD l) w) := by
  obtain ⟨us, rs, hz⟩ : ∃ a b, addC [] [] l = (a, b) := ⟨_, _, rfl⟩
  obtain ⟨A, n, rfl, h1⟩ := h
  have HA := Lib.hid fun W (h : Holds W (.slice A l.length n) l) => ref3Add (.agg #[.slice none 0 0, .slice none 0 0]) (.slice A l.length n) [] [] l us rs W (HoldsC.mk (Holds.nil W) (Holds.nil W)) h (by decide) hv (by simpa using hm) hz
  have HG := Lib.hid (show goneD l = ((us, rs), []) from by unfold goneD; rw [hz])
  have hb1 := (Below.refl w.heap.size w).alloc (Nat.le_refl _) (.cells #[zC.v, zC.l, zC.i] 28)
  have HH := Lib.hid (show Holds (w.alloc (.cells #[zC.v, zC.l, zC.i] 28)) (.slice A l.length n) l from Holds.below ⟨A, n, rfl, h1⟩ hb1)
  have HB := Lib.hid hb1
  have HR := Lib.hid (BlkC.new w zC)
  clear h1 hv hm hz hb1
  go_enter Tryz.func46, Tryz.ntmps46
  go_wp2_with fail
  refine (HA.out _ HH.out).mono ?_
  rintro e w3 ⟨⟨x, rfl, hctx⟩, hb⟩
  obtain ⟨B, nv, D, nl, rfl, hv, hl⟩ := ctx_form hctx
  have HV := Lib.hid hv
  have HL := Lib.hid hl
  have HB3 := Lib.hid (below_trans HB.out hb)
  have HR3 := Lib.hid (HR.out.below hb)
  clear hctx hv hl hb HB HR HH HA
  obtain ⟨z0, z1, z2, f0, f1, f2⟩ := results_zero HR3.out
  have hrl := HR3.out.lt
  have HFA := Lib.hid (fill_cells HR3.out (.slice B us.length nv) (.slice D rs.length nl) (.slice none 0 0))
  have hok : CaOK w3 ⟨B, nv, us, D, nl, rs, none, 0, []⟩ := ⟨HV.out, HL.out, HoldsX.nil _⟩
  obtain ⟨_, _, t3⟩ := store_cart HR3.out hok
  have HOK := Lib.hid t3
  have KB := Lib.hid (below_fill HB3.out (Nat.le_refl _) (.slice B us.length nv) (.slice D rs.length nl) (.slice none 0 0))
  clear hok t3
  go_wp2_with fail
  obtain ⟨s0, s1, s2⟩ := HFA.out
  exact bodyPost_ret (v := .agg #[.slice B us.length nv, .slice D rs.length nl, .slice none 0 0]) (by simp [results, Tryz.results46, go_sem, s0, s1, s2]) rfl ⟨⟨⟨B, nv, us, D, nl, rs, none, 0, []⟩, rfl, HG.out.symm, HOK.out⟩, KB.out⟩

set_option maxHeartbeats 2000000 in
theorem refEmpty12 (c : CaV) (b : Bool) (w : World) (hc : CaOK w c) (hb : emptyK c.ca = b) :
    Calls Tryz.prog 21 #[mkC c] w (OneB (.bool b) w) := by
  have K0 := Lib.hid (KB1.new w c hc)
  obtain ⟨V, nv, vs, L, nl, ls, I, ni, xs⟩ := c
  have HB := Lib.hid (show (vs.isEmpty && (ls.isEmpty && (its xs).isEmpty)) = b from hb)
  have HS := Lib.hid (show ∀ W, KB1 w ⟨V, nv, vs, L, nl, ls, I, ni, xs⟩ W → W.cell? ⟨w.heap.size, 0, none⟩ = some (.slice V vs.length nv) ∧ W.cell? ⟨w.heap.size, 1, none⟩ = some (.slice L ls.length nl) ∧ W.cell? ⟨w.heap.size, 2, none⟩ = some (.slice I xs.length ni) ∧ w.heap.size < W.heap.size from fun W h => ⟨h.sp.1, h.sp.2.1, h.sp.2.2.1, h.sp.2.2.2.1⟩)
  clear hc hb
  by_cases h1 : vs.length = 0
  · have i1 : ((vs.length : Int) == 0) = true := eqT (by omega)
    by_cases h2 : ls.length = 0
    · have i2 : ((ls.length : Int) == 0) = true := eqT (by omega)
      by_cases h3 : xs.length = 0
      · have i3 : ((xs.length : Int) == 0) = true := eqT (by omega)
        have HN := Lib.hid (show true = b from by
          rw [← HB.out, List.length_eq_zero_iff.1 h1, List.length_eq_zero_iff.1 h2, List.length_eq_zero_iff.1 h3]; rfl)
        clear h1 h2 h3 HB
        go_enter Tryz.func21, Tryz.ntmps21
        go_upto_region 1 with fail
        generalize World.alloc w _ = w2 at K0 ⊢
        obtain ⟨x0, x1, x2, xl⟩ := HS.out w2 K0.out
        have KB := Lib.hid K0.out.bel
        clear K0
        go_wp2_with fail
        go_ret
        exact OneB.bool HN.out KB.out
      · have i3 : ((xs.length : Int) == 0) = false := eqF (by omega)
        have HN := Lib.hid (show false = b from by
          rw [← HB.out]
          cases xs with
          | nil => exact absurd rfl h3
          | cons a r => simp [its])
        clear h1 h2 h3 HB
        go_enter Tryz.func21, Tryz.ntmps21
        go_upto_region 1 with fail
        generalize World.alloc w _ = w2 at K0 ⊢
        obtain ⟨x0, x1, x2, xl⟩ := HS.out w2 K0.out
        have KB := Lib.hid K0.out.bel
        clear K0
        go_wp2_with fail
        go_ret
        exact OneB.bool HN.out KB.out
    · have i2 : ((ls.length : Int) == 0) = false := eqF (by omega)
      have HN := Lib.hid (show false = b from by
        rw [← HB.out]
        cases ls with
        | nil => exact absurd rfl h2
        | cons a r => simp)
      clear h1 h2 HB
      go_enter Tryz.func21, Tryz.ntmps21
      go_upto_region 1 with fail
      generalize World.alloc w _ = w2 at K0 ⊢
      obtain ⟨x0, x1, x2, xl⟩ := HS.out w2 K0.out
      have KB := Lib.hid K0.out.bel
      clear K0
      go_wp2_with fail
      go_ret
      exact OneB.bool HN.out KB.out
  · have i1 : ((vs.length : Int) == 0) = false := eqF (by omega)
    have HN := Lib.hid (show false = b from by
      rw [← HB.out]
      cases vs with
      | nil => exact absurd rfl h1
      | cons a r => simp)
    clear h1 HB
    go_enter Tryz.func21, Tryz.ntmps21
    go_upto_region 1 with fail
    generalize World.alloc w _ = w2 at K0 ⊢
    obtain ⟨x0, x1, x2, xl⟩ := HS.out w2 K0.out
    have KB := Lib.hid K0.out.bel
    clear K0
    go_wp2_with fail
    go_ret
    exact OneB.bool HN.out KB.out

end

section
open Go.RowKit

/-- G: what holds all along, by what is there and by the frame; Φ: what each value says. -/
structure RegT where
  G : (Nat → Bool) → Act → World → Prop
  Φ : Nat → Value → World → Prop
structure InvT (ops : Array Oper) (a0 : Act) (S : RegT) (L : Nat → Bool) (a : Act) (w : World) : Prop where
  size : a.tmps.size = a0.tmps.size
  defs : a.defers = a0.defers
  old : ∀ t, (∀ j, dstOf ops j ≠ some t) → a.tmps[t]? = a0.tmps[t]?
  clo : ∀ j o, ops[j]? = some o → L j = true → ∀ e ∈ o.after, Region.binds .any e = true → L e.on = true
  glob : S.G L a w
  val : ∀ j d, L j = true → dstOf ops j = some d → S.Φ j (a.eval (.tmp d)) w
def KeepsT (S : RegT) (L : Nat → Bool) (w w' : World) : Prop := ∀ j v, L j = true → S.Φ j v w → S.Φ j v w'
section
variable {P : Program} {ops : Array Oper} {Q : Exit → Act → World → Prop} {a0 : Act} {w0 : World}
def StepT (P : Program) (ops : Array Oper) (Q : Exit → Act → World → Prop) (a0 : Act) (S : RegT) (k : Nat) (o : Oper) : Prop :=
  ∀ L a w, InvT ops a0 S L a w → L k = false → (∀ e ∈ o.after, Region.binds .any e = true → L e.on = true) →
    wpOp P ops Q k (fun a' w' => ∃ v, a' = a.put o.dst v ∧ KeepsT S L w w' ∧ S.G (moreL L k) (a.put o.dst v) w' ∧ (o.dst ≠ none → S.Φ k v w')) a w
def StepsT (P : Program) (ops : Array Oper) (Q : Exit → Act → World → Prop) (a0 : Act) (S : RegT) : Nat → List Oper → Prop
  | _, [] => True
  | k, o :: l => StepT P ops Q a0 S k o ∧ StepsT P ops Q a0 S (k + 1) l
theorem StepsT.get {S : RegT} : ∀ {l : List Oper} {k : Nat}, StepsT P ops Q a0 S k l → ∀ {i : Nat} {o : Oper}, l[i]? = some o → StepT P ops Q a0 S (k + i) o
  | [], _, _, i, o, h => by simp at h
  | x :: l, k, ⟨h1, h2⟩, 0, o, h => by
    obtain rfl : x = o := by simpa using h
    exact h1
  | x :: l, k, ⟨h1, h2⟩, i + 1, o, h => by
    have := StepsT.get h2 (i := i) (by simpa using h)
    rw [show k + (i + 1) = k + 1 + i by omega]
    exact this
theorem wp_region_T {id : Nat} {S : RegT} {l : List Oper} (hm : P.follows .mixedOrders = true) (ht : topoB l.toArray = true) (hap : apartB l.toArray = true)
    (hsz : ∀ j d, dstOf l.toArray j = some d → d < a0.tmps.size) (hG0 : S.G (fun _ => false) a0 w0.drew)
    (hst : StepsT P l.toArray Q a0 S 0 l)
    (hf : ∀ a w L, (∀ j, j < l.toArray.size → L j = true) → InvT l.toArray a0 S L a w → Q .normal a w) : (Code.region id l.toArray true).wp P Q a0 w0 := by
  refine wp_region_inv (I := InvT l.toArray a0 S) hm ht ⟨rfl, rfl, fun _ _ => rfl, fun _ _ _ h => (by cases h), hG0, fun _ _ h => (by cases h)⟩ ?_ fun L a w hI hL => hf a w L hL hI
  intro k o ho L a w hI hLk hd
  have hstep := hst.get (i := k) (by simpa using ho) L a w hI (by rw [Nat.zero_add]; exact hLk) hd
  rw [Nat.zero_add] at hstep
  have hdk : dstOf l.toArray k = o.dst := by unfold dstOf; rw [ho]; rfl
  refine wpOp_mono ?_ hstep
  rintro a' w' ⟨v, rfl, hbel, hG, hv⟩
  have hclo := moreL_clo ho hI.clo hd
  have hev : ∀ j t, j ≠ k → dstOf l.toArray j = some t → (a.put o.dst v).eval (.tmp t) = a.eval (.tmp t) := fun j t hjk hj => by
    cases hdo : o.dst with
    | none => rfl
    | some d =>
      refine eval_put_ne fun e => hjk ?_
      subst e
      exact apart_spec hap hj (hdk.trans hdo)
  have hLm : ∀ j, moreL L k j = true → j = k ∨ (j ≠ k ∧ L j = true) := fun j hj => by
    by_cases e : j = k
    · exact .inl e
    · refine .inr ⟨e, ?_⟩
      simpa [moreL, e] using hj
  refine ⟨?_, ?_, fun t ht' => ?_, hclo, hG, fun j d hj hjd => ?_⟩
  · rw [← hI.size]; cases o.dst <;> simp [Act.put]
  · rw [← hI.defs]; cases o.dst <;> rfl
  · rw [← hI.old t ht']
    cases hdo : o.dst with
    | none => rfl
    | some d =>
      have hne : d ≠ t := fun e => ht' k (by rw [hdk, hdo, e])
      simp [Act.put, hne]
  · rcases hLm j hj with rfl | ⟨hjk, hL⟩
    · rw [hdk] at hjd
      rw [hjd, eval_put_eq (by rw [hI.size]; exact hsz j d (hdk.trans hjd))]
      exact hv (by rw [hjd]; simp)
    · rw [hev j d hjk hjd]
      exact hbel j _ hL (hI.val j d hL hjd)
/-- The frame behind the region, written out. -/
theorem InvT.frame {S : RegT} {L : Nat → Bool} {a : Act} {w : World} {l : List Oper} (h : InvT l.toArray a0 S L a w) :
    a = ⟨(l.filterMap (·.dst)).foldl (fun t d => t.setIfInBounds d (a.eval (.tmp d))) a0.tmps, a0.defers⟩ := by
  have h' : InvR l.toArray a0 ⟨fun _ => none, fun _ _ => True, fun _ _ => True, fun _ _ _ => True, fun _ _ _ => True⟩ L a w :=
    ⟨h.size, h.defs, h.old, h.clo, trivial, fun _ _ _ _ => trivial, fun _ _ _ _ h => (by cases h), fun _ _ _ _ _ _ h => (by cases h)⟩
  exact h'.frame
theorem InvT.at {S : RegT} {L : Nat → Bool} {a : Act} {w : World} {l : List Oper} (h : InvT l.toArray a0 S L a w) (t : Tmp) (ht : (l.all fun o => !(o.dst == some t)) = true) : a.tmps[t]?.getD undef = a0.eval (.tmp t) := by
  have h' : InvR l.toArray a0 ⟨fun _ => none, fun _ _ => True, fun _ _ => True, fun _ _ _ => True, fun _ _ _ => True⟩ L a w :=
    ⟨h.size, h.defs, h.old, h.clo, trivial, fun _ _ _ _ => trivial, fun _ _ _ _ h => (by cases h), fun _ _ _ _ _ _ h => (by cases h)⟩
  exact h'.at t ht
theorem InvT.get {S : RegT} {L : Nat → Bool} {a : Act} {w : World} (h : InvT ops a0 S L a w) (j d : Nat) (hL : L j = true) (hd : dstOf ops j = some d) : ∃ v, a.tmps[d]?.getD undef = v ∧ S.Φ j v w :=
  ⟨_, rfl, by rw [← eval_tmp]; exact h.val j d hL hd⟩
theorem InvT.wants {S : RegT} {L : Nat → Bool} {a : Act} {w : World} (h : InvT ops a0 S L a w) {o : Oper} {j d : Nat} {b : Bool} (hg : o.guard = some (j, b)) (hL : L j = true) (hd : dstOf ops j = some d) (hv : ∀ v, S.Φ j v w → v = .bool b) : Region.wanted o (yielded ops a.tmps) = true := wanted_at hg hd (hv _ (h.val j d hL hd))
theorem InvT.before {S : RegT} {k : Nat} {L : Nat → Bool} {a : Act} {w : World} (h : InvT ops a0 S L a w) {j : Nat} {o : Oper} (ho : ops[j]? = some o) (hw : waitsB o k = true) (hk : L k = false) : L j = false := by
  cases hj : L j with
  | false => rfl
  | true =>
    have := waits_spec (h.clo j o ho hj) k hw
    rw [hk] at this; cases this
section
variable {S : RegT} {k : Nat} {o : Oper}
theorem StepT.val (ho : ops[k]? = some o)
    (h : ∀ L a w, InvT ops a0 S L a w → L k = false → (∀ j, waitsB o j = true → L j = true) → Region.wanted o (yielded ops a.tmps) = true ∧ ∃ v w', (execOp a.eval o).run P w = .ok (.value v) w' ∧ KeepsT S L w w' ∧ S.G (moreL L k) (a.put o.dst v) w' ∧ S.Φ k v w') : StepT P ops Q a0 S k o := by
  intro L a w hI hk hd
  obtain ⟨hw, v, w', hr, hbel, hg, hv⟩ := h L a w hI hk (waits_spec hd)
  exact wpOp_val ho hw hr ⟨v, rfl, hbel, hg, fun _ => hv⟩
theorem StepT.skip (ho : ops[k]? = some o) (hdst : o.dst = none)
    (h : ∀ L a w, InvT ops a0 S L a w → L k = false → (∀ j, waitsB o j = true → L j = true) → Region.wanted o (yielded ops a.tmps) = true ∧ ∃ w', (execOp a.eval o).run P w = .ok .skip w' ∧ KeepsT S L w w' ∧ S.G (moreL L k) (a.put none undef) w') : StepT P ops Q a0 S k o := by
  intro L a w hI hk hd
  obtain ⟨hw, w', hr, hbel, hg⟩ := h L a w hI hk (waits_spec hd)
  exact wpOp_skip ho hw hr ⟨undef, rfl, hbel, by rw [hdst]; exact hg, fun h => absurd hdst h⟩
theorem StepT.call (ho : ops[k]? = some o)
    (h : ∀ L a w, InvT ops a0 S L a w → L k = false → (∀ j, waitsB o j = true → L j = true) → Region.wanted o (yielded ops a.tmps) = true ∧ ∃ f args, (execOp a.eval o).run P w = .ok (.enter f args) w ∧ Calls P f args w fun e w' => ∃ v, e = .returned v ∧ KeepsT S L w w' ∧ S.G (moreL L k) (a.put o.dst v) w' ∧ S.Φ k v w') : StepT P ops Q a0 S k o := by
  intro L a w hI hk hd
  obtain ⟨hw, f, args, hr, hc⟩ := h L a w hI hk (waits_spec hd)
  refine wpOp_call ho hw hr (hc.mono ?_)
  rintro e w' ⟨v, he, hbel, hg, hv⟩
  exact ⟨v, he, v, rfl, hbel, hg, fun _ => hv⟩
end
end

end

section
open Go.RowKit

/-- Which operations and slots: the row that is appended to (i1, tA), the row that is read (i2, tB), the append (ia, tR), the call (ic, tC), the box (ib, tX), the store (st). -/
structure Gx where
  (i1 i2 ia ic ib st tA tB tR tC tX n : Nat)
structure Gx.ok (x : Gx) : Prop where
  i12 : x.i1 ≠ x.i2
  i1a : x.i1 ≠ x.ia
  i1c : x.i1 ≠ x.ic
  i1b : x.i1 ≠ x.ib
  i1s : x.i1 ≠ x.st
  i2a : x.i2 ≠ x.ia
  i2c : x.i2 ≠ x.ic
  i2b : x.i2 ≠ x.ib
  i2s : x.i2 ≠ x.st
  iac : x.ia ≠ x.ic
  iab : x.ia ≠ x.ib
  ias : x.ia ≠ x.st
  icb : x.ic ≠ x.ib
  ics : x.ic ≠ x.st
  ibs : x.ib ≠ x.st
  tAB : x.tA ≠ x.tB
  tAR : x.tA ≠ x.tR
  tAC : x.tA ≠ x.tC
  tAX : x.tA ≠ x.tX
  tBR : x.tB ≠ x.tR
  tBC : x.tB ≠ x.tC
  tBX : x.tB ≠ x.tX
  tRC : x.tR ≠ x.tC
  tRX : x.tR ≠ x.tX
  tCX : x.tC ≠ x.tX
  nA : x.tA < x.n
  nB : x.tB < x.n
  nR : x.tR < x.n
  nC : x.tC < x.n
  nX : x.tX < x.n
def gonG (E : World) (l1 l2 : List (Int × Int)) (X : Ca) (x : Gx) (L : Nat → Bool) (a : Act) (W : World) : Prop :=
  Below E.heap.size E W ∧ a.tmps.size = x.n ∧
  (L x.i1 = true → L x.ia = false → RowC W E.heap.size (a.eval (.tmp x.tA)) l1) ∧
  (L x.i2 = true → L x.ia = false → Holds W (a.eval (.tmp x.tB)) l2) ∧
  (L x.ia = true → L x.ic = false → Holds W (a.eval (.tmp x.tR)) (l1 ++ l2)) ∧
  (L x.ic = true → L x.st = false → ∃ z : CaV, a.eval (.tmp x.tC) = mkC z ∧ z.ca = X ∧ CaOK W z) ∧
  (L x.ib = true → ∃ b, a.eval (.tmp x.tX) = ptr0 b ∧ E.heap.size ≤ b ∧ b < W.heap.size ∧ (L x.st = false → BlkC W b zC) ∧ (L x.i1 = true → L x.ia = false → (a.eval (.tmp x.tA)).ownBlock ≠ some b) ∧ (L x.st = true → ∃ z : CaV, BlkC W b z ∧ z.ca = X ∧ CaOK W z))
section
variable {E : World} {l1 l2 : List (Int × Int)} {X : Ca} {x : Gx}
theorem moreL_ne {L : Nat → Bool} {k j : Nat} (h : j ≠ k) : moreL L k j = L j := by unfold moreL; simp [h]
theorem moreL_eq {L : Nat → Bool} {k : Nat} : moreL L k k = true := by unfold moreL; simp
theorem put_sz (a : Act) (d : Option Tmp) (v : Value) : (a.put d v).tmps.size = a.tmps.size := by cases d <;> simp [Act.put]
/-- Another operation. -/
theorem gon_keep {L : Nat → Bool} {a : Act} {W W' : World} (hG : gonG E l1 l2 X x L a W) (hb : BelW W W') (k : Nat) (d : Option Tmp) (v : Value) (hk : k ≠ x.i1 ∧ k ≠ x.i2 ∧ k ≠ x.ia ∧ k ≠ x.ic ∧ k ≠ x.ib ∧ k ≠ x.st) (hd : d ≠ some x.tA ∧ d ≠ some x.tB ∧ d ≠ some x.tR ∧ d ≠ some x.tC ∧ d ≠ some x.tX) : gonG E l1 l2 X x (moreL L k) (a.put d v) W' := by
  obtain ⟨g0, gn, g1, g2, g3, g4, g5⟩ := hG
  have ev : ∀ t, d ≠ some t → (a.put d v).eval (.tmp t) = a.eval (.tmp t) := fun t ht => by
    cases d with
    | none => rfl
    | some d => exact eval_put_ne (fun e => ht (by rw [e]))
  unfold gonG
  rw [moreL_ne (Ne.symm hk.1), moreL_ne (Ne.symm hk.2.1), moreL_ne (Ne.symm hk.2.2.1), moreL_ne (Ne.symm hk.2.2.2.1), moreL_ne (Ne.symm hk.2.2.2.2.1), moreL_ne (Ne.symm hk.2.2.2.2.2), ev _ hd.1, ev _ hd.2.1, ev _ hd.2.2.1, ev _ hd.2.2.2.1, ev _ hd.2.2.2.2]
  refine ⟨below_trans g0 hb, (put_sz _ _ _).trans gn, fun h h' => RowC.below (g1 h h') hb, fun h h' => (g2 h h').below hb, fun h h' => (g3 h h').below hb, fun h h' => ?_, fun h => ?_⟩
  · obtain ⟨z, e1, e2, e3⟩ := g4 h h'
    exact ⟨z, e1, e2, e3.below hb⟩
  · obtain ⟨b, e1, e2, e3, e4, e5, e6⟩ := g5 h
    exact ⟨b, e1, e2, Nat.lt_of_lt_of_le e3 hb.size, fun h => (e4 h).below hb, e5, fun h => by
      obtain ⟨z, q1, q2, q3⟩ := e6 h
      exact ⟨z, q1.below hb, q2, q3.below hb⟩⟩
variable (ok : x.ok)
include ok
/-- The row that is appended to. -/
theorem gon_one {L : Nat → Bool} {a : Act} {W W' : World} {v : Value} (hG : gonG E l1 l2 X x L a W) (hb : BelW W W') (ha : L x.ia = false) (hs : L x.st = false) (hr : RowC W' W.heap.size v l1) : gonG E l1 l2 X x (moreL L x.i1) (a.put (some x.tA) v) W' := by
  obtain ⟨g0, gn, g1, g2, g3, g4, g5⟩ := hG
  unfold gonG
  rw [moreL_eq, moreL_ne (Ne.symm ok.i12), moreL_ne (Ne.symm ok.i1a), moreL_ne (Ne.symm ok.i1c), moreL_ne (Ne.symm ok.i1b), moreL_ne (Ne.symm ok.i1s), eval_put_eq (by rw [gn]; exact ok.nA), eval_put_ne ok.tAB, eval_put_ne ok.tAR, eval_put_ne ok.tAC, eval_put_ne ok.tAX]
  refine ⟨below_trans g0 hb, (put_sz _ _ _).trans gn, fun _ _ => Go.Joins.ownsRow_le hr g0.size, fun h h' => (g2 h h').below hb, fun h => (by rw [ha] at h; cases h), fun h h' => ?_, fun h => ?_⟩
  · obtain ⟨z, e1, e2, e3⟩ := g4 h h'
    exact ⟨z, e1, e2, e3.below hb⟩
  · obtain ⟨b, e1, e2, e3, e4, _, _⟩ := g5 h
    exact ⟨b, e1, e2, Nat.lt_of_lt_of_le e3 hb.size, fun h => (e4 h).below hb, fun _ _ e => by have := (hr.lt b e).1; omega, fun h => by rw [hs] at h; cases h⟩
/-- The row that is read. -/
theorem gon_two {L : Nat → Bool} {a : Act} {W W' : World} {v : Value} (hG : gonG E l1 l2 X x L a W) (hb : BelW W W') (ha : L x.ia = false) (hr : Holds W' v l2) : gonG E l1 l2 X x (moreL L x.i2) (a.put (some x.tB) v) W' := by
  obtain ⟨g0, gn, g1, g2, g3, g4, g5⟩ := hG
  unfold gonG
  rw [moreL_eq, moreL_ne ok.i12, moreL_ne (Ne.symm ok.i2a), moreL_ne (Ne.symm ok.i2c), moreL_ne (Ne.symm ok.i2b), moreL_ne (Ne.symm ok.i2s), eval_put_eq (by rw [gn]; exact ok.nB), eval_put_ne (Ne.symm ok.tAB), eval_put_ne ok.tBR, eval_put_ne ok.tBC, eval_put_ne ok.tBX]
  refine ⟨below_trans g0 hb, (put_sz _ _ _).trans gn, fun h h' => RowC.below (g1 h h') hb, fun _ _ => hr, fun h => (by rw [ha] at h; cases h), fun h h' => ?_, fun h => ?_⟩
  · obtain ⟨z, e1, e2, e3⟩ := g4 h h'
    exact ⟨z, e1, e2, e3.below hb⟩
  · obtain ⟨b, e1, e2, e3, e4, e5, e6⟩ := g5 h
    exact ⟨b, e1, e2, Nat.lt_of_lt_of_le e3 hb.size, fun h => (e4 h).below hb, e5, fun h => by
      obtain ⟨z, q1, q2, q3⟩ := e6 h
      exact ⟨z, q1.below hb, q2, q3.below hb⟩⟩
/-- The append. -/
theorem gon_app {L : Nat → Bool} {a : Act} {W W' : World} {v' : Value} (hG : gonG E l1 l2 X x L a W) (h1 : L x.i1 = true) (ha : L x.ia = false) (hc : L x.ic = false) (hs : L x.st = false) (hown : RowC W' E.heap.size v' (l1 ++ l2)) (hg : W.grownBy W' (a.eval (.tmp x.tA)).ownBlock) : gonG E l1 l2 X x (moreL L x.ia) (a.put (some x.tR) v') W' := by
  obtain ⟨g0, gn, g1, g2, g3, g4, g5⟩ := hG
  have hr := g1 h1 ha
  unfold gonG
  rw [moreL_eq, moreL_ne ok.i1a, moreL_ne ok.i2a, moreL_ne (Ne.symm ok.iac), moreL_ne (Ne.symm ok.iab), moreL_ne (Ne.symm ok.ias), eval_put_eq (by rw [gn]; exact ok.nR), eval_put_ne (Ne.symm ok.tAR), eval_put_ne (Ne.symm ok.tBR), eval_put_ne ok.tRC, eval_put_ne ok.tRX]
  refine ⟨g0.grown hg g0.size (fun k hk => (hr.lt k hk).1), (put_sz _ _ _).trans gn, fun _ h => (by cases h), fun _ h => (by cases h), fun _ _ => hown.holds, fun h => (by rw [hc] at h; cases h), fun h => ?_⟩
  obtain ⟨b, e1, e2, e3, e4, e5, _⟩ := g5 h
  have hne := e5 h1 ha
  exact ⟨b, e1, e2, Nat.lt_of_lt_of_le e3 hg.size, fun h => (hg.block b e3 (fun e => hne e.symm)).trans (e4 h), fun _ h => (by cases h), fun h => by rw [hs] at h; cases h⟩
/-- The call that makes the cart. -/
theorem gon_call {L : Nat → Bool} {a : Act} {W W' : World} {v : Value} (hG : gonG E l1 l2 X x L a W) (hb : BelW W W') (ha : L x.ia = true) (hs : L x.st = false) (hz : ∃ z : CaV, v = mkC z ∧ z.ca = X ∧ CaOK W' z) : gonG E l1 l2 X x (moreL L x.ic) (a.put (some x.tC) v) W' := by
  obtain ⟨g0, gn, g1, g2, g3, g4, g5⟩ := hG
  unfold gonG
  rw [moreL_eq, moreL_ne ok.i1c, moreL_ne ok.i2c, moreL_ne ok.iac, moreL_ne (Ne.symm ok.icb), moreL_ne (Ne.symm ok.ics), eval_put_eq (by rw [gn]; exact ok.nC), eval_put_ne (Ne.symm ok.tAC), eval_put_ne (Ne.symm ok.tBC), eval_put_ne (Ne.symm ok.tRC), eval_put_ne ok.tCX]
  refine ⟨below_trans g0 hb, (put_sz _ _ _).trans gn, fun _ h => (by rw [ha] at h; cases h), fun _ h => (by rw [ha] at h; cases h), fun _ h => (by cases h), fun _ _ => hz, fun h => ?_⟩
  obtain ⟨b, e1, e2, e3, e4, _, _⟩ := g5 h
  exact ⟨b, e1, e2, Nat.lt_of_lt_of_le e3 hb.size, fun h => (e4 h).below hb, fun _ h => (by rw [ha] at h; cases h), fun h => by rw [hs] at h; cases h⟩
/-- The box. -/
theorem gon_box {L : Nat → Bool} {a : Act} {W : World} (hG : gonG E l1 l2 X x L a W) (hs : L x.st = false) : gonG E l1 l2 X x (moreL L x.ib) (a.put (some x.tX) (ptr0 W.heap.size)) (W.alloc (.cells #[.slice none 0 0, .slice none 0 0, .slice none 0 0] 28)) := by
  obtain ⟨g0, gn, g1, g2, g3, g4, g5⟩ := hG
  have hb : BelW W (W.alloc (.cells #[.slice none 0 0, .slice none 0 0, .slice none 0 0] 28)) := (Below.refl _ W).alloc (Nat.le_refl _) _
  unfold gonG
  rw [moreL_eq, moreL_ne ok.i1b, moreL_ne ok.i2b, moreL_ne ok.iab, moreL_ne ok.icb, moreL_ne (Ne.symm ok.ibs), eval_put_eq (by rw [gn]; exact ok.nX), eval_put_ne (Ne.symm ok.tAX), eval_put_ne (Ne.symm ok.tBX), eval_put_ne (Ne.symm ok.tRX), eval_put_ne (Ne.symm ok.tCX)]
  refine ⟨below_trans g0 hb, (put_sz _ _ _).trans gn, fun h h' => RowC.below (g1 h h') hb, fun h h' => (g2 h h').below hb, fun h h' => (g3 h h').below hb, fun h h' => ?_, fun _ => ⟨W.heap.size, rfl, g0.size, by simp, fun _ => BlkC.new W zC, fun h h' e => ?_, fun h => by rw [hs] at h; cases h⟩⟩
  · obtain ⟨z, e1, e2, e3⟩ := g4 h h'
    exact ⟨z, e1, e2, e3.below hb⟩
  · have := ((g1 h h').lt _ e).2; omega
/-- The store. -/
theorem gon_store {L : Nat → Bool} {a : Act} {W : World} {b : Nat} {z : CaV} (hG : gonG E l1 l2 X x L a W) (hia : L x.ia = true) (hic : L x.ic = true) (hib : L x.ib = true) (hs : L x.st = false) (hb : a.eval (.tmp x.tX) = ptr0 b) (_ : a.eval (.tmp x.tC) = mkC z) (hzx : z.ca = X) (hzo : CaOK W z) (v : Value) : gonG E l1 l2 X x (moreL L x.st) (a.put none v) (((W.setCell ⟨b, 0, none⟩ z.v).setCell ⟨b, 1, none⟩ z.l).setCell ⟨b, 2, none⟩ z.i) := by
  obtain ⟨g0, gn, g1, g2, g3, g4, g5⟩ := hG
  obtain ⟨b', e1, e2, e3, e4, _, _⟩ := g5 hib
  have ebb : b' = b := by rw [hb] at e1; injection e1 with e; injection e with e; injection e with e; exact e.symm
  subst ebb
  obtain ⟨t1, t2, t3⟩ := store_cart (e4 hs) hzo
  unfold gonG
  rw [moreL_eq, moreL_ne ok.i1s, moreL_ne ok.i2s, moreL_ne ok.ias, moreL_ne ok.ics, moreL_ne ok.ibs]
  exact ⟨below_fill g0 e2 _ _ _, gn, fun _ h => (by rw [hia] at h; cases h), fun _ h => (by rw [hia] at h; cases h), fun _ h => (by rw [hic] at h; cases h), fun _ h => (by cases h), fun _ => ⟨b', hb, e2, by simpa using e3, fun h => (by cases h), fun _ h => (by rw [hia] at h; cases h), fun _ => ⟨z, t2, hzx, t3⟩⟩⟩
end

end

end Go.Proofs.YtiaehpdgpjhecaaGreat
