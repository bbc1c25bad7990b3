/- Several texts in one: SpG, DelA, RegL, GonG, DelB. -/
import Derived.Test.YtiaehpdgpjhecaaGreatNBC
import Derived.Test.YtiaehpdgpjhecaaGreatNAY
import Derived.Test.YtiaehpdgpjhecaaGreatNAT
import Derived.Test.YtiaehpdgpjhecaaGreatNAF
import Derived.Test.YtiaehpdgpjhecaaGreatNAS
import Derived.Test.YtiaehpdgpjhecaaGreatNAN
import Derived.Test.YtiaehpdgpjhecaaGreatNAO
import Derived.Test.YtiaehpdgpjhecaaGreatNAH
import Derived.Test.YtiaehpdgpjhecaaGreatNAL
import Derived.Test.YtiaehpdgpjhecaaGreatNAG
namespace Go.Proofs.YtiaehpdgpjhecaaGreat

section
open Go.RowKit

/-- A value that is no slice. -/
def NoSl (u : Value) : Prop := ∀ A n c, u ≠ .slice A n c
/-- Rows are read as before where a box of slices is written. -/
theorem slices3 (V L I : Option Addr) (nv nl ni a b e : Nat) : ∀ u ∈ [Value.slice V a nv, Value.slice L b nl, Value.slice I e ni], ∃ A n c, u = .slice A n c := by
  intro u hu
  simp at hu
  rcases hu with rfl | rfl | rfl <;> exact ⟨_, _, _, rfl⟩
/-- Rows are read as before where only a box of slices changes. -/
theorem SlAt.off_only {α : Type} {enc : α → List Value} {k g : Nat} {W W' : World} {A : Option Addr} {xs : List α} {t : TypeId} {z : Nat × Nat} {cur : List Value} (h : SlAt enc k W A xs) (h0 : ∀ x, ∃ u, (enc x)[0]? = some u ∧ NoSl u)
    (hg : W.heap[g]? = some (.cells cur.toArray t z)) (hc : ∀ u ∈ cur, ∃ A n c, u = .slice A n c) (hs : W.heap.size ≤ W'.heap.size) (hk : ∀ b, b ≠ g → W'.heap[b]? = W.heap[b]?) : SlAt enc k W' A xs := fun hn => by
  obtain ⟨b, off, rfl, hlt, hcc⟩ := h hn
  have hbg : b ≠ g := by
    rintro rfl
    obtain ⟨u, hu, hne⟩ := h0 xs[0]
    have := hcc 0 _ (List.getElem?_eq_getElem hn) 0 u hu
    simp only [World.cell?, hg] at this
    have hm : u ∈ cur := by
      have h1 : cur.toArray[off + 0 * k + 0]? = some u := this
      rw [List.getElem?_toArray] at h1
      exact List.mem_of_getElem? h1
    obtain ⟨A, n, c, e⟩ := hc u hm
    exact hne A n c e
  exact ⟨b, off, rfl, Nat.lt_of_lt_of_le hlt hs, fun j x hx i u hu => by
    have := hcc j x hx i u hu
    unfold World.cell? at this ⊢
    rw [hk b hbg]; exact this⟩
theorem CaOK.off_only {g : Nat} {W W' : World} {c d : CaV} (h : CaOK W c) (hg : BlkC W g d) (hs : W.heap.size ≤ W'.heap.size) (hk : ∀ b, b ≠ g → W'.heap[b]? = W.heap[b]?) : CaOK W' c := by
  have hc := slices3 d.V d.L d.I d.nv d.nl d.ni d.vs.length d.ls.length d.xs.length
  have hg' : W.heap[g]? = some (.cells ([d.v, d.l, d.i] : List Value).toArray 28 (0, 0)) := hg
  have hd : ∀ {v : Value} {l : List (Int × Int)}, Holds W v l → Holds W' v l := fun {v l} ⟨A, n, e, h1, h2⟩ => ⟨A, n, e, SlAt.off_only h1 (fun x => ⟨_, rfl, fun _ _ _ e => by cases e⟩) hg' hc hs hk, h2⟩
  obtain ⟨h1, h2, A, n, e, h3, h4⟩ := h
  exact ⟨hd h1, hd h2, A, n, e, ⟨SlAt.off_only h3.1 (fun x => ⟨_, rfl, fun _ _ _ e => by cases e⟩) hg' hc hs hk, fun x hx => ⟨SlAt.off_only (h3.2 x hx).1 (fun y => ⟨_, rfl, fun _ _ _ e => by cases e⟩) hg' hc hs hk, (h3.2 x hx).2⟩⟩, h4⟩

theorem CaOK.items {W : World} {c : CaV} (h : CaOK W c) : ItemsAt W c.I c.xs := by
  obtain ⟨A, c', e, h1, _⟩ := h.2.2
  injection e with e1 _ _
  rw [e1]; exact h1


/-- What one value says. -/
inductive Sp where
  | eq (u : Value)
  | cart (x : Ca)
  | nums (l : List Int)
  | marks (l : List Mk)
  | carts (l : List Ca)
  | cbox
  | mbox
  | any
def Sp.holds (n : Nat) : Sp → Value → World → Prop
  | .eq u, v, _ => v = u
  | .cart x, v, W => ∃ z : CaV, v = mkC z ∧ z.ca = x ∧ CaOK W z
  | .nums l, v, W => ∃ q, v = .slice (some ⟨q, 0, none⟩) l.length l.length ∧ NumsAt W (some ⟨q, 0, none⟩) l
  | .marks l, v, W => ∃ A c, v = .slice A l.length c ∧ MarksAt W A l ∧ l.length ≤ c ∧ c ≤ maxLen
  | .carts l, v, W => ∃ A cap, ∃ cs : List CaV, v = .slice A cs.length cap ∧ CartsAt W A cs ∧ cs.map (·.ca) = l ∧ cs.length ≤ cap ∧ cap ≤ maxLen
  | .cbox, v, W => ∃ b, ∃ d : CaV, v = ptr0 b ∧ n ≤ b ∧ BlkC W b d
  | .mbox, v, W => ∃ b, ∃ m : Mk, v = ptr0 b ∧ n ≤ b ∧ BlkM W b m
  | .any, _, _ => True
theorem Sp.below {n : Nat} {s : Sp} {v : Value} {W W' : World} (h : s.holds n v W) (hb : Below W.heap.size W W') : s.holds n v W' := by
  match s, h with
  | .eq _, h => exact h
  | .cart _, ⟨z, h1, h2, h3⟩ => exact ⟨z, h1, h2, h3.below hb⟩
  | .nums _, ⟨q, h1, h2⟩ => exact ⟨q, h1, h2.below hb⟩
  | .marks _, ⟨A, c, h1, h2, h3⟩ => exact ⟨A, c, h1, h2.below hb, h3⟩
  | .carts _, ⟨A, c, cs, h1, h2, h3⟩ => exact ⟨A, c, cs, h1, h2.below hb, h3⟩
  | .cbox, ⟨b, d, h1, h2, h3⟩ => exact ⟨b, d, h1, h2, h3.below hb⟩
  | .mbox, ⟨b, m, h1, h2, h3⟩ => exact ⟨b, m, h1, h2, h3.below hb⟩
  | .any, _ => exact trivial
/-- No carts in a row: then a store into a cart's box leaves it. -/
def Sp.calm : Sp → Bool
  | .carts _ => false
  | .mbox => false
  | _ => true
theorem Sp.only {n b : Nat} {s : Sp} {v : Value} {W W' : World} {d d' : CaV} (h : s.holds n v W) (hs : s.calm = true) (hg : BlkC W b d) (hg' : BlkC W' b d') (ho : OnlyB b W W') : s.holds n v W' := by
  have hc := slices3 d.V d.L d.I d.nv d.nl d.ni d.vs.length d.ls.length d.xs.length
  have hg2 : W.heap[b]? = some (.cells ([d.v, d.l, d.i] : List Value).toArray 28 (0, 0)) := hg
  match s, h with
  | .eq _, h => exact h
  | .cart _, ⟨z, h1, h2, h3⟩ => exact ⟨z, h1, h2, h3.off_only hg (Nat.le_of_eq ho.size.symm) ho.block⟩
  | .nums _, ⟨q, h1, h2⟩ => exact ⟨q, h1, SlAt.off_only h2 (fun x => ⟨_, rfl, fun _ _ _ e => by cases e⟩) hg2 hc (Nat.le_of_eq ho.size.symm) ho.block⟩
  | .marks _, ⟨A, c, h1, h2, h3⟩ => exact ⟨A, c, h1, SlAt.off_only h2 (fun x => ⟨_, rfl, fun _ _ _ e => by cases e⟩) hg2 hc (Nat.le_of_eq ho.size.symm) ho.block, h3⟩
  | .cbox, ⟨g, z, h1, h2, h3⟩ =>
    by_cases hgb : g = b
    · subst hgb; exact ⟨_, d', h1, h2, hg'⟩
    · exact ⟨g, z, h1, h2, (ho.block g hgb).trans h3⟩
  | .any, _ => exact trivial
/-- What a box that was filled says. -/
inductive Sq where
  | cart (x : Ca)
  | mark (m : Mk)
  | none
def Sq.holds : Sq → Value → World → Prop
  | .cart x, v, W => ∃ b, ∃ z : CaV, v = ptr0 b ∧ BlkC W b z ∧ z.ca = x ∧ CaOK W z
  | .mark m, v, W => ∃ b, v = ptr0 b ∧ BlkM W b m
  | .none, _, _ => True
theorem Sq.below {s : Sq} {v : Value} {W W' : World} (h : s.holds v W) (hb : Below W.heap.size W W') : s.holds v W' := by
  match s, h with
  | .cart _, ⟨b, z, h1, h2, h3, h4⟩ => exact ⟨b, z, h1, h2.below hb, h3, h4.below hb⟩
  | .mark _, ⟨b, h1, h2⟩ => exact ⟨b, h1, h2.below hb⟩
  | .none, _ => exact trivial
def Sq.calm : Sq → Bool
  | .mark _ => false
  | _ => true
theorem Sq.only {b : Nat} {s : Sq} {v : Value} {W W' : World} {d : CaV} (h : s.holds v W) (hs : s.calm = true) (hv : v ≠ ptr0 b) (hg : BlkC W b d) (ho : OnlyB b W W') : s.holds v W' := by
  match s, h with
  | .cart _, ⟨g, z, h1, h2, h3, h4⟩ => exact ⟨g, z, h1, (ho.block g (fun e => hv (by rw [h1, e]))).trans h2, h3, h4.off_only hg (Nat.le_of_eq ho.size.symm) ho.block⟩
  | .none, _ => exact trivial

section
variable {P : Program} {Q : Exit → Act → World → Prop} {a0 : Act} {w0 : World} {id : Nat} {l : List Oper} {sp : Nat → Sp} {sq : Nat → Sq} {bx : Nat → Option Nat}
end
section
variable {P : Program} {Q : Exit → Act → World → Prop} {a0 : Act} {w0 : World} {id : Nat} {l : List Oper} {sp : Nat → Sp} {sq : Nat → Sq} {bx : Nat → Option Nat}
end
theorem InvR.wants {ops : Array Oper} {a0 : Act} {S : RegS} {L : Nat → Bool} {a : Act} {w : World} (h : InvR ops a0 S L a w) {o : Oper} {j d : Nat} {b : Bool} (hg : o.guard = some (j, b)) (hL : L j = true) (hd : dstOf ops j = some d) (hv : ∀ v, S.Φ j v w → v = .bool b) : Region.wanted o (yielded ops a.tmps) = true := wanted_at hg hd (hv _ (h.val j d hL hd))
/-- A cart put into its box. -/
theorem store_cart {W : World} {b : Nat} {d z : CaV} (hB : BlkC W b d) (ho : CaOK W z) : OnlyB b W (((W.setCell ⟨b, 0, none⟩ z.v).setCell ⟨b, 1, none⟩ z.l).setCell ⟨b, 2, none⟩ z.i) ∧ BlkC (((W.setCell ⟨b, 0, none⟩ z.v).setCell ⟨b, 1, none⟩ z.l).setCell ⟨b, 2, none⟩ z.i) b z ∧ CaOK (((W.setCell ⟨b, 0, none⟩ z.v).setCell ⟨b, 1, none⟩ z.l).setCell ⟨b, 2, none⟩ z.i) z :=
  ⟨((OnlyB.setCell W b 0 _).trans (OnlyB.setCell _ b 1 _)).trans (OnlyB.setCell _ b 2 _), BlkC.fill hB _ _ _, ho.off_only hB (by simp) (fun k hk => set3_other W b k _ _ _ hk)⟩

/-- Carts and marks in boxes. -/
structure KB (w : World) (L : List (Nat × CaV)) (M : List (Nat × Mk)) (W : World) : Prop where
  kk : KK w L W
  mm : ∀ p ∈ M, BlkM W p.1 p.2
section
variable {w W W' : World} {L : List (Nat × CaV)} {M : List (Nat × Mk)}
theorem KB.next (h : KB w L M W) (hb : Below W.heap.size W W') : KB w L M W' := ⟨h.kk.next hb, fun p hp => (h.mm p hp).below hb⟩
theorem KB.ca (h : KB w L M W) {g : Nat} {c : CaV} (hm : (g, c) ∈ L) : W.cell? ⟨g, 0, none⟩ = some c.v ∧ W.cell? ⟨g, 1, none⟩ = some c.l ∧ W.cell? ⟨g, 2, none⟩ = some c.i ∧ g < W.heap.size := ⟨(h.kk.blk hm).cell0, (h.kk.blk hm).cell1, (h.kk.blk hm).cell2, (h.kk.blk hm).lt⟩
theorem KB.ok (h : KB w L M W) {g : Nat} {c : CaV} (hm : (g, c) ∈ L) : CaOK W c := h.kk.ok hm
end

end

section
open Go.RowKit

/-- A cart and a dot in boxes. -/
structure KFr (w : World) (c : CaV) (r s : Int) (W : World) : Prop where
  cart : BlkC W w.heap.size c
  ok : CaOK W c
  dot : W.heap[w.heap.size + 1]? = some (.cells #[.int .i64 r, .int .i64 s] 30 (0, 0))
  bel : Below w.heap.size w W
section
variable {w W W' : World} {c : CaV} {r s : Int}
theorem KFr.next (h : KFr w c r s W) (hb : Below W.heap.size W W') : KFr w c r s W' := ⟨h.cart.below hb, h.ok.below hb, (hb.block _ (Array.getElem?_eq_some_iff.1 h.dot).1).trans h.dot, below_trans h.bel hb⟩
theorem KFr.sp (h : KFr w c r s W) : W.cell? ⟨w.heap.size, 0, none⟩ = some c.v ∧ W.cell? ⟨w.heap.size, 1, none⟩ = some c.l ∧ W.cell? ⟨w.heap.size, 2, none⟩ = some c.i ∧ W.cell? ⟨w.heap.size + 1, 0, none⟩ = some (.int .i64 r) ∧ W.cell? ⟨w.heap.size + 1, 1, none⟩ = some (.int .i64 s) ∧ w.heap.size < W.heap.size ∧ w.heap.size + 1 < W.heap.size :=
  ⟨h.cart.cell0, h.cart.cell1, h.cart.cell2, by simp [World.cell?, h.dot], by simp [World.cell?, h.dot], h.cart.lt, (Array.getElem?_eq_some_iff.1 h.dot).1⟩
theorem KFr.new (w : World) (c : CaV) (r s : Int) (hc : CaOK w c) : KFr w c r s ((w.alloc (.cells #[c.v, c.l, c.i] 28)).alloc (.cells #[.int .i64 r, .int .i64 s] 30)) := by
  have h1 := (Below.refl w.heap.size w).alloc (Nat.le_refl _) (.cells #[c.v, c.l, c.i] 28)
  have h2 := (Below.refl _ (w.alloc (.cells #[c.v, c.l, c.i] 28))).alloc (Nat.le_refl _) (.cells #[.int .i64 r, .int .i64 s] 30)
  have d := heap_alloc_new (w.alloc (.cells #[c.v, c.l, c.i] 28)) (.cells #[.int .i64 r, .int .i64 s] 30)
  rw [World.size_alloc] at d
  exact ⟨(BlkC.new w c).below h2, (hc.below h1).below h2, d, below_trans h1 h2⟩
end

/-- A cart that a call has made, with an error. -/
def MadeD (x : Ca) (k : Int) (w : World) (e : Ending) (w' : World) : Prop := (∃ z : CaV, e = .returned (.tuple #[mkC z, .int .i64 k]) ∧ z.ca = x ∧ CaOK w' z) ∧ Below w.heap.size w w'
theorem dotsK_le {c : CaV} {nm : List UInt8} {n : Nat} (hf : Fits c.xs) (h2 : (dotsI (its c.xs)).length ≤ n) (hn : 100 ≤ n) : (dotsK (its c.xs) nm).length ≤ n := by
  by_cases hnm : nm = []
  · unfold dotsK
    rw [if_pos hnm]; omega
  · unfold dotsK
    rw [if_neg hnm]
    split
    · rename_i x hx
      have h3 : x ∈ its c.xs := List.mem_of_find?_eq_some hx
      obtain ⟨y, hy, rfl⟩ := List.mem_map.1 h3
      have := (hf.2 y hy).2
      show (dotsM y.ms).length ≤ n
      rw [dotsM_len]; omega
    · simp
theorem dotsK_size {c : CaV} {nm : List UInt8} (hf : FitsK c) : (dotsK (its c.xs) nm).length ≤ 3000 := dotsK_le hf.1 (by have := hf.2; omega) (by omega)
end

section
open Go.RowKit

/-- G: what holds all along, by what is there and by the frame; Φ: what each value says. -/
structure RegT where
  G : (Nat → Bool) → Act → World → Prop
  Φ : Nat → Value → World → Prop
structure InvT (ops : Array Oper) (a0 : Act) (S : RegT) (L : Nat → Bool) (a : Act) (w : World) : Prop where
  size : a.tmps.size = a0.tmps.size
  defs : a.defers = a0.defers
  old : ∀ t, (∀ j, dstOf ops j ≠ some t) → a.tmps[t]? = a0.tmps[t]?
  clo : ∀ j o, ops[j]? = some o → L j = true → ∀ e ∈ o.after, Region.binds .any e = true → L e.on = true
  glob : S.G L a w
  val : ∀ j d, L j = true → dstOf ops j = some d → S.Φ j (a.eval (.tmp d)) w
def KeepsT (S : RegT) (L : Nat → Bool) (w w' : World) : Prop := ∀ j v, L j = true → S.Φ j v w → S.Φ j v w'
section
variable {P : Program} {ops : Array Oper} {Q : Exit → Act → World → Prop} {a0 : Act} {w0 : World}
def StepT (P : Program) (ops : Array Oper) (Q : Exit → Act → World → Prop) (a0 : Act) (S : RegT) (k : Nat) (o : Oper) : Prop :=
  ∀ L a w, InvT ops a0 S L a w → L k = false → (∀ e ∈ o.after, Region.binds .any e = true → L e.on = true) →
    wpOp P ops Q k (fun a' w' => ∃ v, a' = a.put o.dst v ∧ KeepsT S L w w' ∧ S.G (moreL L k) (a.put o.dst v) w' ∧ (o.dst ≠ none → S.Φ k v w')) a w
def StepsT (P : Program) (ops : Array Oper) (Q : Exit → Act → World → Prop) (a0 : Act) (S : RegT) : Nat → List Oper → Prop
  | _, [] => True
  | k, o :: l => StepT P ops Q a0 S k o ∧ StepsT P ops Q a0 S (k + 1) l
theorem StepsT.get {S : RegT} : ∀ {l : List Oper} {k : Nat}, StepsT P ops Q a0 S k l → ∀ {i : Nat} {o : Oper}, l[i]? = some o → StepT P ops Q a0 S (k + i) o
  | [], _, _, i, o, h => by simp at h
  | x :: l, k, ⟨h1, h2⟩, 0, o, h => by
    obtain rfl : x = o := by simpa using h
    exact h1
  | x :: l, k, ⟨h1, h2⟩, i + 1, o, h => by
    have := StepsT.get h2 (i := i) (by simpa using h)
    rw [show k + (i + 1) = k + 1 + i by omega]
    exact this
theorem wp_region_T {id : Nat} {S : RegT} {l : List Oper} (hm : P.follows .mixedOrders = true) (ht : topoB l.toArray = true) (hap : apartB l.toArray = true)
    (hsz : ∀ j d, dstOf l.toArray j = some d → d < a0.tmps.size) (hG0 : S.G (fun _ => false) a0 w0.drew)
    (hst : StepsT P l.toArray Q a0 S 0 l)
    (hf : ∀ a w L, (∀ j, j < l.toArray.size → L j = true) → InvT l.toArray a0 S L a w → Q .normal a w) : (Code.region id l.toArray true).wp P Q a0 w0 := by
  refine wp_region_inv (I := InvT l.toArray a0 S) hm ht ⟨rfl, rfl, fun _ _ => rfl, fun _ _ _ h => (by cases h), hG0, fun _ _ h => (by cases h)⟩ ?_ fun L a w hI hL => hf a w L hL hI
  intro k o ho L a w hI hLk hd
  have hstep := hst.get (i := k) (by simpa using ho) L a w hI (by rw [Nat.zero_add]; exact hLk) hd
  rw [Nat.zero_add] at hstep
  have hdk : dstOf l.toArray k = o.dst := by unfold dstOf; rw [ho]; rfl
  refine wpOp_mono ?_ hstep
  rintro a' w' ⟨v, rfl, hbel, hG, hv⟩
  have hclo := moreL_clo ho hI.clo hd
  have hev : ∀ j t, j ≠ k → dstOf l.toArray j = some t → (a.put o.dst v).eval (.tmp t) = a.eval (.tmp t) := fun j t hjk hj => by
    cases hdo : o.dst with
    | none => rfl
    | some d =>
      refine eval_put_ne fun e => hjk ?_
      subst e
      exact apart_spec hap hj (hdk.trans hdo)
  have hLm : ∀ j, moreL L k j = true → j = k ∨ (j ≠ k ∧ L j = true) := fun j hj => by
    by_cases e : j = k
    · exact .inl e
    · refine .inr ⟨e, ?_⟩
      simpa [moreL, e] using hj
  refine ⟨?_, ?_, fun t ht' => ?_, hclo, hG, fun j d hj hjd => ?_⟩
  · rw [← hI.size]; cases o.dst <;> simp [Act.put]
  · rw [← hI.defs]; cases o.dst <;> rfl
  · rw [← hI.old t ht']
    cases hdo : o.dst with
    | none => rfl
    | some d =>
      have hne : d ≠ t := fun e => ht' k (by rw [hdk, hdo, e])
      simp [Act.put, hne]
  · rcases hLm j hj with rfl | ⟨hjk, hL⟩
    · rw [hdk] at hjd
      rw [hjd, eval_put_eq (by rw [hI.size]; exact hsz j d (hdk.trans hjd))]
      exact hv (by rw [hjd]; simp)
    · rw [hev j d hjk hjd]
      exact hbel j _ hL (hI.val j d hL hjd)
/-- The frame behind the region, written out. -/
theorem InvT.frame {S : RegT} {L : Nat → Bool} {a : Act} {w : World} {l : List Oper} (h : InvT l.toArray a0 S L a w) :
    a = ⟨(l.filterMap (·.dst)).foldl (fun t d => t.setIfInBounds d (a.eval (.tmp d))) a0.tmps, a0.defers⟩ := by
  have h' : InvR l.toArray a0 ⟨fun _ => none, fun _ _ => True, fun _ _ => True, fun _ _ _ => True, fun _ _ _ => True⟩ L a w :=
    ⟨h.size, h.defs, h.old, h.clo, trivial, fun _ _ _ _ => trivial, fun _ _ _ _ h => (by cases h), fun _ _ _ _ _ _ h => (by cases h)⟩
  exact h'.frame
theorem InvT.at {S : RegT} {L : Nat → Bool} {a : Act} {w : World} {l : List Oper} (h : InvT l.toArray a0 S L a w) (t : Tmp) (ht : (l.all fun o => !(o.dst == some t)) = true) : a.tmps[t]?.getD undef = a0.eval (.tmp t) := by
  have h' : InvR l.toArray a0 ⟨fun _ => none, fun _ _ => True, fun _ _ => True, fun _ _ _ => True, fun _ _ _ => True⟩ L a w :=
    ⟨h.size, h.defs, h.old, h.clo, trivial, fun _ _ _ _ => trivial, fun _ _ _ _ h => (by cases h), fun _ _ _ _ _ _ h => (by cases h)⟩
  exact h'.at t ht
theorem InvT.get {S : RegT} {L : Nat → Bool} {a : Act} {w : World} (h : InvT ops a0 S L a w) (j d : Nat) (hL : L j = true) (hd : dstOf ops j = some d) : ∃ v, a.tmps[d]?.getD undef = v ∧ S.Φ j v w :=
  ⟨_, rfl, by rw [← eval_tmp]; exact h.val j d hL hd⟩
theorem InvT.wants {S : RegT} {L : Nat → Bool} {a : Act} {w : World} (h : InvT ops a0 S L a w) {o : Oper} {j d : Nat} {b : Bool} (hg : o.guard = some (j, b)) (hL : L j = true) (hd : dstOf ops j = some d) (hv : ∀ v, S.Φ j v w → v = .bool b) : Region.wanted o (yielded ops a.tmps) = true := wanted_at hg hd (hv _ (h.val j d hL hd))
theorem InvT.before {S : RegT} {k : Nat} {L : Nat → Bool} {a : Act} {w : World} (h : InvT ops a0 S L a w) {j : Nat} {o : Oper} (ho : ops[j]? = some o) (hw : waitsB o k = true) (hk : L k = false) : L j = false := by
  cases hj : L j with
  | false => rfl
  | true =>
    have := waits_spec (h.clo j o ho hj) k hw
    rw [hk] at this; cases this
section
variable {S : RegT} {k : Nat} {o : Oper}
theorem StepT.val (ho : ops[k]? = some o)
    (h : ∀ L a w, InvT ops a0 S L a w → L k = false → (∀ j, waitsB o j = true → L j = true) → Region.wanted o (yielded ops a.tmps) = true ∧ ∃ v w', (execOp a.eval o).run P w = .ok (.value v) w' ∧ KeepsT S L w w' ∧ S.G (moreL L k) (a.put o.dst v) w' ∧ S.Φ k v w') : StepT P ops Q a0 S k o := by
  intro L a w hI hk hd
  obtain ⟨hw, v, w', hr, hbel, hg, hv⟩ := h L a w hI hk (waits_spec hd)
  exact wpOp_val ho hw hr ⟨v, rfl, hbel, hg, fun _ => hv⟩
theorem StepT.skip (ho : ops[k]? = some o) (hdst : o.dst = none)
    (h : ∀ L a w, InvT ops a0 S L a w → L k = false → (∀ j, waitsB o j = true → L j = true) → Region.wanted o (yielded ops a.tmps) = true ∧ ∃ w', (execOp a.eval o).run P w = .ok .skip w' ∧ KeepsT S L w w' ∧ S.G (moreL L k) (a.put none undef) w') : StepT P ops Q a0 S k o := by
  intro L a w hI hk hd
  obtain ⟨hw, w', hr, hbel, hg⟩ := h L a w hI hk (waits_spec hd)
  exact wpOp_skip ho hw hr ⟨undef, rfl, hbel, by rw [hdst]; exact hg, fun h => absurd hdst h⟩
theorem StepT.call (ho : ops[k]? = some o)
    (h : ∀ L a w, InvT ops a0 S L a w → L k = false → (∀ j, waitsB o j = true → L j = true) → Region.wanted o (yielded ops a.tmps) = true ∧ ∃ f args, (execOp a.eval o).run P w = .ok (.enter f args) w ∧ Calls P f args w fun e w' => ∃ v, e = .returned v ∧ KeepsT S L w w' ∧ S.G (moreL L k) (a.put o.dst v) w' ∧ S.Φ k v w') : StepT P ops Q a0 S k o := by
  intro L a w hI hk hd
  obtain ⟨hw, f, args, hr, hc⟩ := h L a w hI hk (waits_spec hd)
  refine wpOp_call ho hw hr (hc.mono ?_)
  rintro e w' ⟨v, he, hbel, hg, hv⟩
  exact ⟨v, he, v, rfl, hbel, hg, fun _ => hv⟩
end
end

end

section
open Go.RowKit

/-- Which operations and slots: the row that is appended to (i1, tA), the row that is read (i2, tB), the append (ia, tR), the call (ic, tC), the box (ib, tX), the store (st). -/
structure Gx where
  (i1 i2 ia ic ib st tA tB tR tC tX n : Nat)
structure Gx.ok (x : Gx) : Prop where
  i12 : x.i1 ≠ x.i2
  i1a : x.i1 ≠ x.ia
  i1c : x.i1 ≠ x.ic
  i1b : x.i1 ≠ x.ib
  i1s : x.i1 ≠ x.st
  i2a : x.i2 ≠ x.ia
  i2c : x.i2 ≠ x.ic
  i2b : x.i2 ≠ x.ib
  i2s : x.i2 ≠ x.st
  iac : x.ia ≠ x.ic
  iab : x.ia ≠ x.ib
  ias : x.ia ≠ x.st
  icb : x.ic ≠ x.ib
  ics : x.ic ≠ x.st
  ibs : x.ib ≠ x.st
  tAB : x.tA ≠ x.tB
  tAR : x.tA ≠ x.tR
  tAC : x.tA ≠ x.tC
  tAX : x.tA ≠ x.tX
  tBR : x.tB ≠ x.tR
  tBC : x.tB ≠ x.tC
  tBX : x.tB ≠ x.tX
  tRC : x.tR ≠ x.tC
  tRX : x.tR ≠ x.tX
  tCX : x.tC ≠ x.tX
  nA : x.tA < x.n
  nB : x.tB < x.n
  nR : x.tR < x.n
  nC : x.tC < x.n
  nX : x.tX < x.n
section
variable {E : World} {l1 l2 : List (Int × Int)} {X : Ca} {x : Gx}
theorem moreL_ne {L : Nat → Bool} {k j : Nat} (h : j ≠ k) : moreL L k j = L j := by unfold moreL; simp [h]
theorem moreL_eq {L : Nat → Bool} {k : Nat} : moreL L k k = true := by unfold moreL; simp
theorem put_sz (a : Act) (d : Option Tmp) (v : Value) : (a.put d v).tmps.size = a.tmps.size := by cases d <;> simp [Act.put]
variable (ok : x.ok)
include ok
end

end

section
open Go.RowKit

/-- A cart and a dot in boxes, the box of the result. -/
structure KPt (w : World) (c : CaV) (r s : Int) (W : World) : Prop where
  k : KFr w c r s W
  res : BlkC W (w.heap.size + 2) zC
section
variable {w W W' : World} {c : CaV} {r s : Int}
theorem KPt.next (h : KPt w c r s W) (hb : Below W.heap.size W W') : KPt w c r s W' := ⟨h.k.next hb, h.res.below hb⟩
theorem KPt.sp (h : KPt w c r s W) : W.cell? ⟨w.heap.size, 0, none⟩ = some c.v ∧ W.cell? ⟨w.heap.size, 1, none⟩ = some c.l ∧ W.cell? ⟨w.heap.size, 2, none⟩ = some c.i ∧ W.cell? ⟨w.heap.size + 1, 0, none⟩ = some (.int .i64 r) ∧ W.cell? ⟨w.heap.size + 1, 1, none⟩ = some (.int .i64 s) ∧ w.heap.size < W.heap.size ∧ w.heap.size + 1 < W.heap.size := h.k.sp
theorem KPt.ok (h : KPt w c r s W) : CaOK W c := h.k.ok
theorem KPt.bel (h : KPt w c r s W) : Below w.heap.size w W := h.k.bel
theorem KPt.new (w : World) (c : CaV) (r s : Int) (hc : CaOK w c) : KPt w c r s (((w.alloc (.cells #[c.v, c.l, c.i] 28)).alloc (.cells #[.int .i64 r, .int .i64 s] 30)).alloc (.cells #[zC.v, zC.l, zC.i] 28)) := by
  have h := BlkC.new ((w.alloc (.cells #[c.v, c.l, c.i] 28)).alloc (.cells #[.int .i64 r, .int .i64 s] 30)) zC
  rw [World.size_alloc, World.size_alloc] at h
  exact ⟨(KFr.new w c r s hc).next ((Below.refl _ _).alloc (Nat.le_refl _) _), h⟩
end
/-- A cart in its box, the box of the result. -/
structure KRm (w : World) (c : CaV) (W : World) : Prop where
  cart : BlkC W w.heap.size c
  ok : CaOK W c
  res : BlkC W (w.heap.size + 1) zC
  bel : Below w.heap.size w W
section
variable {w W W' : World} {c : CaV}
theorem KRm.next (h : KRm w c W) (hb : Below W.heap.size W W') : KRm w c W' := ⟨h.cart.below hb, h.ok.below hb, h.res.below hb, below_trans h.bel hb⟩
theorem KRm.sp (h : KRm w c W) : W.cell? ⟨w.heap.size, 0, none⟩ = some c.v ∧ W.cell? ⟨w.heap.size, 1, none⟩ = some c.l ∧ W.cell? ⟨w.heap.size, 2, none⟩ = some c.i ∧ w.heap.size < W.heap.size := ⟨h.cart.cell0, h.cart.cell1, h.cart.cell2, h.cart.lt⟩
theorem KRm.new (w : World) (c : CaV) (hc : CaOK w c) : KRm w c ((w.alloc (.cells #[c.v, c.l, c.i] 28)).alloc (.cells #[zC.v, zC.l, zC.i] 28)) := by
  have h1 := (Below.refl w.heap.size w).alloc (Nat.le_refl _) (.cells #[c.v, c.l, c.i] 28)
  have h2 := (Below.refl _ (w.alloc (.cells #[c.v, c.l, c.i] 28))).alloc (Nat.le_refl _) (.cells #[zC.v, zC.l, zC.i] 28)
  have h := BlkC.new (w.alloc (.cells #[c.v, c.l, c.i] 28)) zC
  rw [World.size_alloc] at h
  exact ⟨(BlkC.new w c).below h2, (hc.below h1).below h2, h, below_trans h1 h2⟩
end
theorem own_lit (W : World) (r s : Int) : RowC (W.alloc (.cells #[.int .i64 r, .int .i64 s] 30)) W.heap.size (.slice (some ⟨W.heap.size, 0, none⟩) 1 1) [(r, s)] :=
  ⟨rfl, .inr ⟨W.heap.size, 1, #[.int .i64 r, .int .i64 s], rfl, Nat.le_refl _, heap_alloc_new W _, Nat.le_refl _, by simp [maxLen], rfl, rfl⟩⟩
end

end Go.Proofs.YtiaehpdgpjhecaaGreat
