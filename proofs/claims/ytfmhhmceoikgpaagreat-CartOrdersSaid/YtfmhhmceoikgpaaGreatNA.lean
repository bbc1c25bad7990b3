/- Several texts in one: CarA, CarB, CarC. -/
import Derived.Test.YtfmhhmceoikgpaaGreatMX
import Derived.Test.YtfmhhmceoikgpaaGreatMR
namespace Go.Proofs.YtfmhhmceoikgpaaGreat

section
open Go.RowKit

/-- A cart: the vector and the cloud of its context, its items. -/
abbrev Ca := (List (Int × Int) × List (Int × Int)) × List It
/-- A cart where it lies. -/
structure CaV where
  V : Option Addr
  nv : Nat
  vs : List (Int × Int)
  L : Option Addr
  nl : Nat
  ls : List (Int × Int)
  I : Option Addr
  ni : Nat
  xs : List ItV
def CaV.ca (c : CaV) : Ca := ((c.vs, c.ls), its c.xs)
/-- Its three slices. -/
abbrev CaV.v (c : CaV) : Value := .slice c.V c.vs.length c.nv
abbrev CaV.l (c : CaV) : Value := .slice c.L c.ls.length c.nl
abbrev CaV.i (c : CaV) : Value := .slice c.I c.xs.length c.ni
/-- A cart as a value: one flat row of three cells. -/
abbrev mkC (c : CaV) : Value := .agg #[c.v, c.l, c.i]
def CaOK (W : World) (c : CaV) : Prop := Holds W c.v c.vs ∧ Holds W c.l c.ls ∧ HoldsX W c.i c.xs
theorem CaOK.below {W W' : World} {c : CaV} (h : CaOK W c) (hb : Below W.heap.size W W') : CaOK W' c := ⟨h.1.below hb, h.2.1.below hb, h.2.2.below hb⟩
theorem CaOK.ctx {W : World} {c : CaV} (h : CaOK W c) : HoldsC W (.agg #[c.v, c.l]) c.vs c.ls := HoldsC.mk h.1 h.2.1
/-- A block that holds a cart. -/
def BlkC (W : World) (g : Nat) (c : CaV) : Prop := W.heap[g]? = some (.cells #[c.v, c.l, c.i] 28 (0, 0))
section
variable {W W' : World} {g : Nat} {c : CaV}
theorem BlkC.lt (h : BlkC W g c) : g < W.heap.size := (Array.getElem?_eq_some_iff.1 h).1
theorem BlkC.cell0 (h : BlkC W g c) : W.cell? ⟨g, 0, none⟩ = some c.v := by simp [World.cell?, show W.heap[g]? = _ from h]
theorem BlkC.cell1 (h : BlkC W g c) : W.cell? ⟨g, 1, none⟩ = some c.l := by simp [World.cell?, show W.heap[g]? = _ from h]
theorem BlkC.cell2 (h : BlkC W g c) : W.cell? ⟨g, 2, none⟩ = some c.i := by simp [World.cell?, show W.heap[g]? = _ from h]
theorem BlkC.frozen (h : BlkC W g c) (k : Nat) : W.frozen? ⟨g, k, none⟩ = false := by simp [World.frozen?, show W.heap[g]? = _ from h]
theorem BlkC.below (h : BlkC W g c) (hb : Below W.heap.size W W') : BlkC W' g c := (hb.block g h.lt).trans h
theorem BlkC.new (W : World) (c : CaV) : BlkC (W.alloc (.cells #[c.v, c.l, c.i] 28)) W.heap.size c := heap_alloc_new W _
end
/-- Carts in boxes, and nothing old has changed. -/
structure KK (w : World) (L : List (Nat × CaV)) (W : World) : Prop where
  box : ∀ p ∈ L, BlkC W p.1 p.2 ∧ CaOK W p.2
  bel : Below w.heap.size w W
section
variable {w W W' : World} {L : List (Nat × CaV)}
theorem KK.next (h : KK w L W) (hb : Below W.heap.size W W') : KK w L W' := ⟨fun p hp => ⟨(h.box p hp).1.below hb, (h.box p hp).2.below hb⟩, below_trans h.bel hb⟩
theorem KK.drew (h : KK w L W) : KK w L W.drew := h.next (Below.refl _ _).drew
theorem KK.far (h : KK w L W) (p : FarBy) : KK w L (Go.Proofs.YtfmhhmceoikgpaaGreat.far W p) := h.next (below_far W p)
theorem KK.alloc (h : KK w L W) (o : Obj) : KK w L (W.alloc o) := h.next ((Below.refl _ _).alloc (Nat.le_refl _) _)
theorem KK.blk (h : KK w L W) {g : Nat} {c : CaV} (hm : (g, c) ∈ L) : BlkC W g c := (h.box _ hm).1
theorem KK.ok (h : KK w L W) {g : Nat} {c : CaV} (hm : (g, c) ∈ L) : CaOK W c := (h.box _ hm).2
theorem KK.push (h : KK w L W) (c : CaV) (ho : CaOK W c) (n : Nat) (hn : W.heap.size = n) : KK w (L ++ [(n, c)]) (W.alloc (.cells #[c.v, c.l, c.i] 28)) := by
  subst hn
  have hb := (Below.refl W.heap.size W).alloc (Nat.le_refl _) (.cells #[c.v, c.l, c.i] 28)
  refine ⟨fun p hp => ?_, (h.next hb).bel⟩
  rcases List.mem_append.1 hp with k | k
  · exact (h.next hb).box p k
  · obtain rfl : p = (W.heap.size, c) := by simpa using k
    exact ⟨BlkC.new W c, ho.below hb⟩
theorem KK.new (w : World) (c : CaV) (ho : CaOK w c) : KK w [(w.heap.size, c)] (w.alloc (.cells #[c.v, c.l, c.i] 28)) :=
  KK.push (L := []) ⟨fun p hp => (by cases hp), Below.refl _ _⟩ c ho w.heap.size rfl
theorem KK.sp {g : Nat} {c : CaV} (h : KK w [(g, c)] W) : W.cell? ⟨g, 0, none⟩ = some c.v ∧ W.cell? ⟨g, 1, none⟩ = some c.l ∧ W.cell? ⟨g, 2, none⟩ = some c.i ∧ g < W.heap.size ∧ KK w [(g, c)] W :=
  ⟨(h.blk (by simp)).cell0, (h.blk (by simp)).cell1, (h.blk (by simp)).cell2, (h.blk (c := c) (by simp)).lt, h⟩
theorem KK.sp2 {g g' : Nat} {c d : CaV} (h : KK w [(g, c), (g', d)] W) : W.cell? ⟨g, 0, none⟩ = some c.v ∧ W.cell? ⟨g, 1, none⟩ = some c.l ∧ W.cell? ⟨g, 2, none⟩ = some c.i ∧ W.cell? ⟨g', 0, none⟩ = some d.v ∧ W.cell? ⟨g', 1, none⟩ = some d.l ∧ W.cell? ⟨g', 2, none⟩ = some d.i ∧ g < W.heap.size ∧ g' < W.heap.size ∧ KK w [(g, c), (g', d)] W :=
  ⟨(h.blk (c := c) (by simp)).cell0, (h.blk (c := c) (by simp)).cell1, (h.blk (c := c) (by simp)).cell2, (h.blk (c := d) (by simp)).cell0, (h.blk (c := d) (by simp)).cell1, (h.blk (c := d) (by simp)).cell2, (h.blk (c := c) (by simp)).lt, (h.blk (c := d) (by simp)).lt, h⟩
end

/-- Not too much: dots, items. -/
def FitsC (c : CaV) : Prop := c.vs.length ≤ 400 ∧ c.ls.length ≤ 400 ∧ Fits c.xs
/-- Which carts are valid. -/
def validK (c : Ca) : Bool := compC c.1.1 c.1.2 && (validL c.2 && (missC c.1.1 c.1.2 (dotsI c.2)).isEmpty)

theorem refEqual_x (v u : Value) (xs ys : List ItV) (b : Bool) (w : World) (h : HoldsX w v xs) (k : HoldsX w u ys) (hm : xs.length ≤ 100000) (hm' : ys.length ≤ 100000) (hb : decide (its xs = its ys) = b) :
    Calls Tryz.prog 47 #[v, u] w (OneB (.bool b) w) := by
  obtain ⟨A, c, rfl, h1, _⟩ := h
  obtain ⟨A', c', rfl, h2, _⟩ := k
  subst hb
  exact refEqual9 A A' xs ys c c' w h1 h2 hm hm'
theorem refValid_x (v : Value) (xs : List ItV) (b : Bool) (w : World) (h : HoldsX w v xs) (hf : Fits xs) (hb : validL (its xs) = b) : Calls Tryz.prog 41 #[v] w (OneB (.bool b) w) := by
  obtain ⟨A, c, rfl, h1, _⟩ := h
  subst hb
  exact refValid9 A xs c w h1 hf
theorem refDots_x (v : Value) (xs : List ItV) (w : World) (h : HoldsX w v xs) (hf : Fits xs) : Calls Tryz.prog 43 #[v] w fun e w' => (∃ v, e = .returned v ∧ Holds w' v (dotsI (its xs))) ∧ Below w.heap.size w w' := by
  obtain ⟨A, c, rfl, h1, _⟩ := h
  exact refDots9 A xs c w h1 hf

/-- When two carts are equal. -/
def sameC (c d : Ca) : Bool := (decide (c.1.1 = d.1.1) && decide (c.1.2 = d.1.2)) && decide (c.2 = d.2)
theorem sameC_iff {c d : Ca} : sameC c d = true ↔ c = d := by
  obtain ⟨⟨a, b⟩, e⟩ := c
  obtain ⟨⟨a', b'⟩, e'⟩ := d
  simp [sameC]

set_option maxHeartbeats 1000000 in
theorem refEqual10 (c d : CaV) (b : Bool) (w : World) (hc : CaOK w c) (hd : CaOK w d) (hm : c.xs.length ≤ 100000) (hm' : d.xs.length ≤ 100000) (hb : sameC c.ca d.ca = b) :
    Calls Tryz.prog 13 #[mkC c, mkC d] w (OneB (.bool b) w) := by
  have h1 := (Below.refl w.heap.size w).alloc (Nat.le_refl _) (.cells #[c.v, c.l, c.i] 28)
  have K0 := Lib.hid (KK.push (L := [(w.heap.size, c)]) (KK.new w c hc) d (hd.below h1) (w.heap.size + 1) (by simp))
  obtain ⟨p, hp⟩ : ∃ p, (decide (c.vs = d.vs) && decide (c.ls = d.ls)) = p := ⟨_, rfl⟩
  obtain ⟨q, hq⟩ : ∃ q, decide (its c.xs = its d.xs) = q := ⟨_, rfl⟩
  have HP := Lib.hid hp
  have HQ := Lib.hid hq
  have HE := Lib.hid (show (p && q) = b from by rw [← hp, ← hq, ← hb]; rfl)
  clear hp hq hb h1 hc hd
  go_enter Tryz.func13, Tryz.ntmps13
  go_wp2_with fail
  generalize World.alloc (World.alloc w _) _ = w2 at K0 ⊢
  obtain ⟨x0, x1, x2, y0, y1, y2, xl, yl, _⟩ := K0.out.sp2
  go_wp2_with fail
  refine (ref3Equal _ _ c.vs c.ls d.vs d.ls p w2 (K0.out.ok (g := w.heap.size) (by simp)).ctx (K0.out.ok (g := w.heap.size + 1) (by simp)).ctx HP.out).mono ?_
  rintro e w3 ⟨rfl, hb⟩
  have K1 := Lib.hid (K0.out.next hb)
  clear hb K0 x0 x1 x2 y0 y1 y2 xl yl
  obtain ⟨x0, x1, x2, y0, y1, y2, xl, yl, _⟩ := K1.out.sp2
  cases p with
  | false =>
    go_wp2_with fail
    go_ret
    exact OneB.bool (by rw [← HE.out]; rfl) K1.out.bel
  | true =>
    go_wp2_with fail
    refine (refEqual_x _ _ c.xs d.xs q w3 (K1.out.ok (g := w.heap.size) (by simp)).2.2 (K1.out.ok (g := w.heap.size + 1) (by simp)).2.2 hm hm' HQ.out).mono ?_
    rintro e w4 ⟨rfl, hb⟩
    have K2 := Lib.hid (K1.out.next hb).bel
    clear hb K1 x0 x1 x2 y0 y1 y2 xl yl
    go_wp2_with fail
    go_ret
    exact OneB.bool (by rw [← HE.out]; rfl) K2.out

end

section
open Go.RowKit

theorem dotsI_small {xs : List ItV} (hf : Fits xs) : (dotsI (its xs)).length ≤ 10000 := by
  have h := dotsI_len (its xs) fun y hy => by
    obtain ⟨z, hz, rfl⟩ := List.mem_map.1 hy
    exact (hf.2 z hz).2
  have := hf.1
  rw [its_len] at h; omega

set_option maxRecDepth 100000 in
set_option maxHeartbeats 4000000 in
theorem refValid10 (c : CaV) (b : Bool) (w : World) (hc : CaOK w c) (hf : Fits c.xs) (hb : validK c.ca = b) :
    Calls Tryz.prog 11 #[mkC c] w (OneB (.bool b) w) := by
  have K0 := Lib.hid (KK.new w c hc)
  obtain ⟨p, hp⟩ : ∃ p, compC c.vs c.ls = p := ⟨_, rfl⟩
  obtain ⟨q, hq⟩ : ∃ q, validL (its c.xs) = q := ⟨_, rfl⟩
  obtain ⟨mm, hmm⟩ : ∃ mm, missC c.vs c.ls (dotsI (its c.xs)) = mm := ⟨_, rfl⟩
  have HP := Lib.hid hp
  have HQ := Lib.hid hq
  have HM := Lib.hid hmm
  have HF := Lib.hid hf
  have HD := Lib.hid (dotsI_small hf)
  have HE := Lib.hid (show (p && (q && mm.isEmpty)) = b from by rw [← hp, ← hq, ← hmm, ← hb]; rfl)
  clear hp hq hmm hb hc hf
  cases p with
  | false =>
    obtain rfl : b = false := HE.out.symm
    go_enter Tryz.func11, Tryz.ntmps11
    go_wp2_with fail
    generalize w.heap.size = g at K0 ⊢
    generalize World.alloc w _ = w2 at K0 ⊢
    obtain ⟨x0, x1, x2, xl, _⟩ := K0.out.sp
    have l0 := fun p => cell_far (p := p) xl x0
    have l1 := fun p => cell_far (p := p) xl x1
    have l2 := fun p => cell_far (p := p) xl x2
    have HC := Lib.hid fun p => ref3IsCompact _ c.vs c.ls false (far w2 p) ((K0.out.far p).ok (g := g) (c := c) (by simp)).ctx HP.out
    go_wp2_with fail
    refine wp_region_far (by kernel_rfl) (by kernel_rfl) ?_
    repeat (go_big_quiet_step ((go_at_call 40; exact OneB.far (HC.out _))))
    refine wpQuiet_nil ?_
    rintro _ ⟨p, rfl⟩
    go_wp2_with fail
    go_ret
    exact OneB.bool rfl (K0.out.far p).bel
  | true =>
    cases q with
    | false =>
      obtain rfl : b = false := HE.out.symm
      go_enter Tryz.func11, Tryz.ntmps11
      go_wp2_with fail
      generalize w.heap.size = g at K0 ⊢
      generalize World.alloc w _ = w2 at K0 ⊢
      obtain ⟨x0, x1, x2, xl, _⟩ := K0.out.sp
      have l0 := fun p => cell_far (p := p) xl x0
      have l1 := fun p => cell_far (p := p) xl x1
      have l2 := fun p => cell_far (p := p) xl x2
      have HC := Lib.hid fun p => ref3IsCompact _ c.vs c.ls true (far w2 p) ((K0.out.far p).ok (g := g) (c := c) (by simp)).ctx HP.out
      have HV := Lib.hid fun p => refValid_x _ c.xs false (far w2 p) ((K0.out.far p).ok (g := g) (c := c) (by simp)).2.2 HF.out HQ.out
      go_wp2_with fail
      refine wp_region_far (by kernel_rfl) (by kernel_rfl) ?_
      repeat (go_big_quiet_step ((first | (go_at_call 40; exact OneB.far (HC.out _)) | (go_at_call 41; exact OneB.far (HV.out _)))))
      refine wpQuiet_nil ?_
      rintro _ ⟨p, rfl⟩
      go_wp2_with fail
      go_ret
      exact OneB.bool rfl (K0.out.far p).bel
    | true =>
      have HE2 := Lib.hid (show mm.isEmpty = b from by rw [← HE.out]; rfl)
      clear HE
      go_enter Tryz.func11, Tryz.ntmps11
      go_wp2_with fail
      generalize w.heap.size = g at K0 ⊢
      generalize World.alloc w _ = w2 at K0 ⊢
      have hS := K0.out
      have hS' := hS.sp
      clear K0
      go_wp2_with fail
      go_region_held3 (fun W => W.cell? ⟨g, 0, none⟩ = some c.v ∧ W.cell? ⟨g, 1, none⟩ = some c.l ∧ W.cell? ⟨g, 2, none⟩ = some c.i ∧ g < W.heap.size ∧ KK w [(g, c)] W)
        (first
          | assumption
          | (exact KK.sp (by assumption))
          | (exact KK.sp (KK.drew (by assumption))))
        (first
          | (go_at_call 40; refine (ref3IsCompact _ c.vs c.ls true _ (KK.ok (g := g) (c := c) (by first | assumption | exact KK.drew (by assumption)) (by simp)).ctx HP.out).mono ?_
             rintro e wa ⟨rfl, hb1⟩
             have hS1 := KK.next (by first | assumption | exact KK.drew (by assumption)) hb1
             have hS1' := hS1.sp)
          | (go_at_call 41; refine (refValid_x _ c.xs true _ (KK.ok (g := g) (c := c) (by first | assumption | exact KK.drew (by assumption)) (by simp)).2.2 HF.out HQ.out).mono ?_
             rintro e wb ⟨rfl, hb2⟩
             have hS2 := KK.next (by first | assumption | exact KK.drew (by assumption)) hb2
             have hS2' := hS2.sp)
          | (go_at_call 43; refine (refDots_x _ c.xs _ (KK.ok (g := g) (c := c) (by first | assumption | exact KK.drew (by assumption)) (by simp)).2.2 HF.out).mono ?_
             rintro e wc ⟨⟨v1, rfl, hv1⟩, hb3⟩
             have hS3 := KK.next (by first | assumption | exact KK.drew (by assumption)) hb3
             have hS3' := hS3.sp
             obtain ⟨D, dc, rfl, _⟩ := id hv1)
          | (go_at_call 42; refine (ref3Missing _ D dc c.vs c.ls (dotsI (its c.xs)) _ (KK.ok (g := g) (c := c) (by first | assumption | exact KK.drew (by assumption)) (by simp)).ctx (by first | exact hv1 | exact hv1.below (Below.refl _ _).drew) (by have := HD.out; omega)).mono ?_
             rintro e wd ⟨⟨v2, rfl, hv2⟩, hb4⟩
             rw [HM.out] at hv2
             have hS4 := KK.next (by first | assumption | exact KK.drew (by assumption)) hb4
             have hS4' := hS4.sp
             obtain ⟨E, ec, rfl, _⟩ := id hv2))
      all_goals
        have KF := Lib.hid hS4.bel
        clear hS hS' hS1 hS1' hS2 hS2' hS3 hS3' hS4 hS4' hv1 hv2 hb1 hb2 hb3 hb4
        go_wp2_with fail
        go_ret
        exact OneB.bool (by
          rw [← HE2.out]
          cases mm with
          | nil => simp
          | cons _ _ => simp; omega) KF.out

end

section
open Go.RowKit

/-- A cart in its box, and nothing old has changed; it lies where it lay. -/
structure KB1 (w : World) (c : CaV) (W : World) : Prop where
  blk : BlkC W w.heap.size c
  bel : Below w.heap.size w W
  ok0 : CaOK w c
section
variable {w W W' : World} {c : CaV}
theorem KB1.new (w : World) (c : CaV) (ho : CaOK w c) : KB1 w c (w.alloc (.cells #[c.v, c.l, c.i] 28)) := ⟨BlkC.new w c, (Below.refl _ w).alloc (Nat.le_refl _) _, ho⟩
theorem KB1.ok (h : KB1 w c W) : CaOK W c := h.ok0.below h.bel
theorem KB1.next (h : KB1 w c W) (hb : Below W.heap.size W W') : KB1 w c W' := ⟨h.blk.below hb, below_trans h.bel hb, h.ok0⟩
theorem KB1.drew (h : KB1 w c W) : KB1 w c W.drew := h.next (Below.refl _ _).drew
theorem KB1.alloc (h : KB1 w c W) (o : Obj) : KB1 w c (W.alloc o) := h.next ((Below.refl _ _).alloc (Nat.le_refl _) _)
theorem KB1.size (h : KB1 w c W) : w.heap.size + 1 ≤ W.heap.size := h.blk.lt
theorem KB1.grown (h : KB1 w c W) {row : Option Nat} (hg : W.grownBy W' row) (hr : ∀ k, row = some k → w.heap.size + 1 ≤ k) : KB1 w c W' := by
  have hz := h.size
  exact ⟨(hg.block _ h.blk.lt (fun e => by have := hr _ e.symm; omega)).trans h.blk, h.bel.grown hg (by omega) (fun k hk => by have := hr k hk; omega), h.ok0⟩
theorem KB1.sp (h : KB1 w c W) : W.cell? ⟨w.heap.size, 0, none⟩ = some c.v ∧ W.cell? ⟨w.heap.size, 1, none⟩ = some c.l ∧ W.cell? ⟨w.heap.size, 2, none⟩ = some c.i ∧ w.heap.size < W.heap.size ∧ KB1 w c W := ⟨h.blk.cell0, h.blk.cell1, h.blk.cell2, h.blk.lt, h⟩
theorem KB1.items (h : KB1 w c W) : ItemsAt W c.I c.xs := by
  obtain ⟨A, n, e, h1, _⟩ := h.ok.2.2
  injection e with e1 e2 e3
  rw [e1]; exact h1
end

theorem map_take1 {xs : List ItV} {k : Nat} {x : ItV} {α : Type} (f : ItV → α) (h : xs[k]? = some x) : (xs.take (k + 1)).map f = (xs.take k).map f ++ [f x] := by rw [take_step h]; simp

set_option maxHeartbeats 2000000 in
theorem refNames10 (c : CaV) (w : World) (hc : CaOK w c) (hm : c.xs.length ≤ 100000) :
    Calls Tryz.prog 28 #[mkC c] w fun e w' => (∃ v, e = .returned v ∧ HoldsS w' v (c.xs.map (·.nm))) ∧ Below w.heap.size w w' := by
  obtain ⟨ti0, hi0, hz0, hz1, hz2⟩ := info_parts infoS
  have K0 := Lib.hid (KB1.new w c hc)
  clear hc
  go_enter Tryz.func28, Tryz.ntmps28
  go_wp2_with fail
  generalize World.alloc w _ = w2 at K0 ⊢
  go_loopw [3, 4] (fun v i wr => ∃ k : Nat, k ≤ c.xs.length ∧ i = .int .i64 k ∧ Hid (RowS wr (w.heap.size + 1) v ((c.xs.take k).map (·.nm))) ∧ Hid (KB1 w c wr)) (fun _ i _ => c.xs.length - (intOf i).toNat)
  case atStart => exact ⟨0, by omega, rfl, Lib.hid (World.ownsRow_nil _ _ _ _), K0⟩
  case round =>
    clear K0
    obtain ⟨k, hk, rfl, hr, K⟩ := hrel
    obtain ⟨x0, x1, x2, xl, _⟩ := K.out.sp
    by_cases hlt : k < c.xs.length
    · have i0 : (k : Int) < (c.xs.length : Int) := by omega
      obtain ⟨b, off, x, hI, hbl, hx1, _, hc0, hc1, hok⟩ := K.out.items.cells (j := k) hlt
      change wr.cell? _ = some (.slice c.I c.xs.length c.ni) at x2
      rw [hI] at x2
      have HS := Lib.hid (map_take1 (·.nm) hx1)
      have hl : ((c.xs.take k).map (·.nm)).length = k := by rw [List.length_map, List.length_take]; omega
      clear hx1 hok hI
      obtain ⟨D, d, rfl, _, _, _⟩ := SlAt.of_own encS_len hr.out
      generalize (c.xs.take k).map (·.nm) = ns at hr hl HS ⊢
      go_wp2_with (at_builtin; refine wpList_append_sl _ encS 1 rfl (.tmp 12) (.tmp 19) 41 rfl encS_len (by omega) encS_one (w.heap.size + 1) 9 ti0 _ 16 Tryz.underlying41 hi0 hz0 hz1 hz2 rfl _ ns rfl (hr.out.alloc _) _ 1 _ [x.nm] rfl rfl (SlAt.one (t := 9) (heap_alloc_new wr _)) (by simp [maxLen]; omega) (by simp; omega) (by have := K.out.size; simp; omega) ?_; intro v1 w1 hown hg hat; have KG := Lib.hid ((K.out.alloc _).grown hg (fun k hk => (hr.out.lt k hk).1)); have HO := Lib.hid hown; clear hown hg hat)
      go_roundw
      case rel => exact ⟨k + 1, by omega, by go_num, by rw [HS.out]; exact HO, KG⟩
      case measure => simp [intOf]; omega
    · have i0 : ¬ (k : Int) < (c.xs.length : Int) := by omega
      obtain rfl : k = c.xs.length := by omega
      rw [List.take_length] at hr
      have hh := HoldsS.of_own hr.out
      have HB := Lib.hid K.out.bel
      obtain ⟨D, d, rfl, _, _, _⟩ := SlAt.of_own encS_len hr.out
      rw [List.length_map] at hh
      rw [List.length_map]
      have HH := Lib.hid hh
      clear hlt K hr hh
      go_wp2_with fail
      go_ret
      exact ⟨⟨.slice D c.xs.length d, rfl, HH.out⟩, HB.out⟩

/-- All marks. -/
def marksX (xs : List ItV) : List Mk := xs.flatMap (·.ms)
theorem marksX_step {xs : List ItV} {k : Nat} {x : ItV} (h : xs[k]? = some x) : marksX (xs.take (k + 1)) = marksX (xs.take k) ++ x.ms := by unfold marksX; rw [take_step h]; simp
theorem marksX_len {xs : List ItV} (hf : ∀ x ∈ xs, x.ms.length ≤ 100) : (marksX xs).length ≤ 100 * xs.length := by
  induction xs with
  | nil => simp [marksX]
  | cons x r ih =>
    have h1 := ih fun y hy => hf y (List.mem_cons_of_mem _ hy)
    have h2 := hf x (by simp)
    unfold marksX at h1 ⊢
    rw [List.flatMap_cons, List.length_append, List.length_cons]; omega

set_option maxHeartbeats 2000000 in
theorem refMarks10 (c : CaV) (w : World) (hc : CaOK w c) (hf : Fits c.xs) :
    Calls Tryz.prog 74 #[mkC c] w fun e w' => (∃ A n, e = .returned (.slice A (marksX c.xs).length n) ∧ MarksAt w' A (marksX c.xs)) ∧ Below w.heap.size w w' := by
  obtain ⟨ti0, hi0, hz0, hz1, hz2⟩ := info_parts infoM
  have hm := hf.1
  have HF := Lib.hid hf
  have K0 := Lib.hid (KB1.new w c hc)
  clear hc hf
  go_enter Tryz.func74, Tryz.ntmps74
  go_wp2_with fail
  generalize World.alloc w _ = w2 at K0 ⊢
  go_loopw [3, 4] (fun v i wr => ∃ k : Nat, k ≤ c.xs.length ∧ i = .int .i64 k ∧ Hid (wr.ownsRow (w.heap.size + 1) 65 4 v (marksX (c.xs.take k)).length (cellsOf encM (marksX (c.xs.take k)))) ∧ Hid (KB1 w c wr)) (fun _ i _ => c.xs.length - (intOf i).toNat)
  case atStart => exact ⟨0, by omega, rfl, Lib.hid (World.ownsRow_nil _ _ _ _), K0⟩
  case round =>
    clear K0
    obtain ⟨k, hk, rfl, hr, K⟩ := hrel
    obtain ⟨x0, x1, x2, xl, _⟩ := K.out.sp
    by_cases hlt : k < c.xs.length
    · have i0 : (k : Int) < (c.xs.length : Int) := by omega
      obtain ⟨b, off, x, hI, hbl, hx1, _, hc0, hc1, hok⟩ := K.out.items.cells (j := k) hlt
      change wr.cell? _ = some (.slice c.I c.xs.length c.ni) at x2
      rw [hI] at x2
      have HS := Lib.hid (marksX_step hx1)
      have hx100 := (HF.out.2 x (List.mem_of_getElem? hx1)).2
      have hl : (marksX (c.xs.take k)).length ≤ 10000 := by
        have h1 := marksX_len (xs := c.xs.take k) fun y hy => (HF.out.2 y (List.mem_of_mem_take hy)).2
        rw [List.length_take] at h1; omega
      have HOK := Lib.hid hok
      clear hx1 hok hI
      obtain ⟨D, d, rfl, _, _, _⟩ := SlAt.of_own encM_len hr.out
      generalize marksX (c.xs.take k) = ns at hr hl HS ⊢
      go_wp2_with (at_builtin; refine wpList_append_sl _ encM 4 rfl (.tmp 12) (.tmp 18) 54 rfl encM_len (by omega) encM_one (w.heap.size + 1) 65 ti0 _ 32 Tryz.underlying54 hi0 hz0 hz1 hz2 rfl _ ns rfl hr.out _ _ _ x.ms rfl rfl HOK.out.1 (by simp [maxLen]; omega) (by omega) (by have := K.out.size; omega) ?_; intro v1 w1 hown hg hat; have KG := Lib.hid (K.out.grown hg (fun k hk => (hr.out.lt k hk).1)); have HO := Lib.hid hown; clear hown hg hat)
      go_roundw
      case rel => exact ⟨k + 1, by omega, by go_num, by rw [HS.out]; exact HO, KG⟩
      case measure => simp [intOf]; omega
    · have i0 : ¬ (k : Int) < (c.xs.length : Int) := by omega
      obtain rfl : k = c.xs.length := by omega
      rw [List.take_length] at hr
      have HB := Lib.hid K.out.bel
      obtain ⟨D, d, rfl, _, _, hat⟩ := SlAt.of_own encM_len hr.out
      have HAT := Lib.hid hat
      clear hlt K hr hat
      go_wp2_with fail
      go_ret
      exact ⟨⟨D, ⟨d, rfl⟩, HAT.out⟩, HB.out⟩

/-- The quantity of an item that is right. -/
theorem newR_small {x : It} (h : okI x = true) {m : Mk} {n : Nat} (hr : newR x.2 = (m, n)) : 0 ≤ m.q ∧ m.q ≤ 2147483647 := by
  rcases newR_mem hr with k | k
  · have hv := (okI_parts h).2.2.1
    rw [List.all_eq_true] at hv
    have := hv m k
    simp only [validM, qtyN, Bool.and_eq_true, decide_eq_true_eq] at this
    omega
  · subst k; decide
/-- The sum of all quantities. -/
def unitsN (l : List It) : Int := (l.map fun x => (newR x.2).1.q).sum
theorem unitsN_step {l : List It} {k : Nat} {x : It} (h : l[k]? = some x) : unitsN (l.take (k + 1)) = unitsN (l.take k) + (newR x.2).1.q := by unfold unitsN; rw [take_step h]; simp
theorem unitsN_small {l : List It} (h : ∀ x ∈ l, okI x = true) : 0 ≤ unitsN l ∧ unitsN l ≤ 2147483647 * l.length := by
  induction l with
  | nil => simp [unitsN]
  | cons x r ih =>
    have h1 := ih fun y hy => h y (List.mem_cons_of_mem _ hy)
    have h2 := newR_small (h x (by simp)) (m := (newR x.2).1) (n := (newR x.2).2) rfl
    unfold unitsN at h1 ⊢
    rw [List.map_cons, List.sum_cons, List.length_cons]
    push_cast
    omega

set_option maxHeartbeats 2000000 in
theorem refUnits10 (c : CaV) (w : World) (hc : CaOK w c) (hm : c.xs.length ≤ 100) (hv : ∀ x ∈ its c.xs, okI x = true) :
    Calls Tryz.prog 29 #[mkC c] w (OneB (.int .i64 (unitsN (its c.xs))) w) := by
  have K0 := Lib.hid (KB1.new w c hc)
  have HV := Lib.hid hv
  clear hc hv
  go_enter Tryz.func29, Tryz.ntmps29
  go_wp2_with fail
  generalize World.alloc w _ = w2 at K0 ⊢
  go_loopw [3, 4] (fun v i wr => ∃ (k : Nat) (s : Int), k ≤ c.xs.length ∧ i = .int .i64 k ∧ v = .int .i64 s ∧ Hid (s = unitsN ((its c.xs).take k)) ∧ Hid (KB1 w c wr)) (fun _ i _ => c.xs.length - (intOf i).toNat)
  case atStart => exact ⟨0, 0, by omega, rfl, rfl, Lib.hid rfl, K0⟩
  case round =>
    clear K0
    obtain ⟨k, s, hk, rfl, rfl, hs, K⟩ := hrel
    obtain ⟨x0, x1, x2, xl, _⟩ := K.out.sp
    by_cases hlt : k < c.xs.length
    · have i0 : (k : Int) < (c.xs.length : Int) := by omega
      obtain ⟨b, off, x, hI, hbl, hx1, _, hc0, hc1, hok⟩ := K.out.items.cells (j := k) hlt
      change wr.cell? _ = some (.slice c.I c.xs.length c.ni) at x2
      rw [hI] at x2
      have hxi := its_at hx1
      obtain ⟨m, n, hmn⟩ : ∃ m n, newR x.ms = (m, n) := ⟨_, _, rfl⟩
      have HQ := Lib.hid (refQty9 x m n wr hok hmn)
      have hq := newR_small (HV.out x.it (List.mem_of_getElem? hxi)) hmn
      have hs2 := unitsN_small (l := (its c.xs).take k) fun y hy => HV.out y (List.mem_of_mem_take hy)
      have HN := Lib.hid (show s + m.q = unitsN ((its c.xs).take (k + 1)) from by
        rw [unitsN_step hxi, ← hs.out, show x.it.2 = x.ms from rfl, hmn])
      rw [← hs.out, List.length_take] at hs2
      have hs3 : 0 ≤ s ∧ s ≤ 2147483647 * 100 := by
        refine ⟨hs2.1, Int.le_trans hs2.2 ?_⟩
        have : ((min k (its c.xs).length : Nat) : Int) ≤ 100 := by omega
        omega
      obtain ⟨q, hqq⟩ : ∃ q, m.q = q := ⟨_, rfl⟩
      rw [hqq] at HQ hq HN
      obtain ⟨q1, q2⟩ := hq
      obtain ⟨s1, s2⟩ := hs3
      clear hx1 hok hI hxi hmn hs2 hqq hs
      go_wp2_with fail
      refine HQ.out.mono ?_
      rintro e w1 ⟨rfl, hb⟩
      have KG := Lib.hid (K.out.next hb)
      clear hb HQ K x0 x1 x2 xl hc0 hc1 hbl
      go_wp2_with fail
      go_roundw
      case rel => exact ⟨k + 1, s + q, by omega, by go_num, by go_num, HN, KG⟩
      case measure => simp [intOf]; omega
    · have i0 : ¬ (k : Int) < (c.xs.length : Int) := by omega
      obtain rfl : k = c.xs.length := by omega
      have HB := Lib.hid K.out.bel
      have HE := Lib.hid (show s = unitsN (its c.xs) from by
        have := hs.out
        rwa [show (its c.xs).take c.xs.length = its c.xs from by rw [← its_len c.xs, List.take_length]] at this)
      clear hlt K hs
      go_wp2_with fail
      go_ret
      exact OneB.int HE.out HB.out

end

end Go.Proofs.YtfmhhmceoikgpaaGreat
