/- Several texts in one: CtxZ, CarN, CanI. -/
import Derived.Test.YtpnemekkpifbaaaGreatMAJ
import Derived.Test.YtpnemekkpifbaaaGreatMAK
import Derived.Test.YtpnemekkpifbaaaGreatMAW
import Derived.Test.YtpnemekkpifbaaaGreatMAS
namespace Go.Proofs.YtpnemekkpifbaaaGreat

section
open Go.RowKit

/-- What holds while Missing's boxes are laid. -/
def KM (w : World) (x y : Value) (W : World) : Prop := Below (w.heap.size + 1) (w.alloc (.cells #[x, y] 28)) W
section
variable {w W W' : World} {x y : Value}
theorem KM.cells (h : KM w x y W) : W.cell? ⟨w.heap.size, 0, none⟩ = some x ∧ W.cell? ⟨w.heap.size, 1, none⟩ = some y := by
  have hb : Blk2 (w.alloc (.cells #[x, y] 28)) w.heap.size x y := heap_alloc_new w _
  exact ⟨(h.cell (p := ⟨w.heap.size, 0, none⟩) (by simp)).trans hb.cell0, (h.cell (p := ⟨w.heap.size, 1, none⟩) (by simp)).trans hb.cell1⟩
theorem KM.size (h : KM w x y W) : w.heap.size + 1 ≤ W.heap.size := by have := Below.size h; simpa using this
theorem KM.below (h : KM w x y W) (hb : Below W.heap.size W W') : KM w x y W' := Below.trans h (hb.mono h.size)
theorem KM.drew (h : KM w x y W) : KM w x y W.drew := h.below (Below.refl _ W).drew
theorem KM.alloc (h : KM w x y W) (o : Obj) : KM w x y (W.alloc o) := h.below ((Below.refl _ W).alloc (Nat.le_refl _) o)
theorem KM.store (h : KM w x y W) {b : Nat} (hb : w.heap.size + 1 ≤ b) (u : Value) : KM w x y (W.setCell ⟨b, 0, none⟩ u) := Below.setCell (p := ⟨b, 0, none⟩) h hb u
theorem KM.bel (h : KM w x y W) : Below w.heap.size w W := ((Below.refl _ w).alloc (Nat.le_refl _) _).trans (Below.mono h (by omega))
end

def KMS (w : World) (x y : Value) (W : World) : Prop := W.cell? ⟨w.heap.size, 0, none⟩ = some x ∧ W.cell? ⟨w.heap.size, 1, none⟩ = some y ∧ KM w x y W
section
variable {w W W' : World} {x y : Value}
theorem KMS.of (h : KM w x y W) : KMS w x y W := ⟨h.cells.1, h.cells.2, h⟩
theorem KMS.km (h : KMS w x y W) : KM w x y W := h.2.2
theorem KMS.drew (h : KMS w x y W) : KMS w x y W.drew := .of h.km.drew
theorem KMS.alloc (h : KMS w x y W) (o : Obj) : KMS w x y (W.alloc o) := .of (h.km.alloc o)
theorem KMS.store (h : KMS w x y W) {b : Nat} (hb : w.heap.size + 1 ≤ b) (u : Value) : KMS w x y (W.setCell ⟨b, 0, none⟩ u) := .of (h.km.store hb u)
theorem KMS.below (h : KMS w x y W) (hb : Below W.heap.size W W') : KMS w x y W' := .of (h.km.below hb)
theorem Boxed.newAt {b : Nat} {t : TypeId} {v : Value} (h : b = W.heap.size) : Boxed (W.alloc (.cells #[v] t)) b t v := by subst h; exact Boxed.new W t v
theorem Boxed.below {b : Nat} {t : TypeId} {v : Value} (h : Boxed W b t v) (hb : Below W.heap.size W W') : Boxed W' b t v := (hb.block b h.lt).trans h
end

theorem lt_two (a : Nat) : a < a + 1 + 1 := by omega
theorem heap_drew (W : World) : W.drew.heap = W.heap := rfl
theorem cell_other {W : World} {a b : Addr} {u v : Value} (h : W.cell? a = some u) (hne : a.block ≠ b.block) : (W.setCell b v).cell? a = some u := (World.cell?_of_block (Below.heap_setCell W b v a.block hne)).trans h
theorem dots_of_row {W : World} {B n c : Nat} {A : Option Addr} {xs : List (Int × Int)} (h : W.ownsRow B 52 2 (.slice A n c) xs.length (cellsOf encD xs)) : DotsAt W A xs := by
  obtain ⟨A', c', e, _, _, hd⟩ := SlAt.of_own encD_len h
  cases e
  exact hd
/-- What the first region leaves. -/
def MisR (w : World) (vs ls : List (Int × Int)) (n : Nat) (p q : Value) (W : World) : Prop :=
  ∃ b5 b6 mb A cap, ∃ D : DataW Unit, p = .pointer (some ⟨b5, 0, none⟩) ∧ q = .pointer (some ⟨b6, 0, none⟩) ∧ W.cell? ⟨b5, 0, none⟩ = some (.map (some mb)) ∧ W.cell? ⟨b6, 0, none⟩ = some (.slice A (ordL ls).length cap) ∧
    DotsAt W A (ordL ls) ∧ W.ownsMap Tryz.prog 3 (plainElem Tryz.prog 3) mb n D ∧ GetF D (getV vs) ∧ Below w.heap.size w W
set_option maxRecDepth 100000 in
set_option maxHeartbeats 8000000 in
theorem ctxMissing (v : Value) (X : Option Addr) (cx : Nat) (zs : List WD) (ls m : List (Int × Int)) (w : World) (h : HoldsC w v (zs.map (·.1)) ls) (hx : Holds w (.slice X m.length cx) m) (hm : zs.length + ls.length + m.length ≤ 90000) :
    Calls Tryz.prog 33 #[v, .slice X m.length cx] w fun e w' => (∃ v', e = .returned v' ∧ MineV w w' v' (missC (zs.map (·.1)) ls m)) ∧ Below w.heap.size w w' := by
  obtain ⟨A, n, B, k0, rfl, h1, h2⟩ := h
  have K : KM w (.slice A zs.length n) (.slice B ls.length k0) (w.alloc (.cells #[.slice A zs.length n, .slice B ls.length k0] 28)) := Below.refl _ _
  have h1' : Holds w (.slice A zs.length n) (zs.map (·.1)) := by simpa using h1
  have HC := Lib.hid fun W (hW : KMS w (.slice A zs.length n) (.slice B ls.length k0) W) => ctxCounters A n zs W (h1'.below hW.km.bel) (by omega)
  have HS := Lib.hid fun W (hW : KMS w (.slice A zs.length n) (.slice B ls.length k0) W) => dotSet B ls k0 W (by obtain ⟨A', c', e, h, _⟩ := h2.below hW.km.bel; cases e; exact h) (by omega)
  have hl : (zs.map (·.1)).length = zs.length := by simp
  rw [hl]
  clear h1 h1' h2 hl
  go_enter Tryz.func33, Tryz.ntmps33
  go_wp2_with fail
  go_cut [5, 6] (fun p q wx => MisR w (zs.map (·.1)) ls zs.length p q wx)
  case first =>
    have KK := KMS.of K
    have hsw := KK.km.size
    generalize w.alloc (.cells #[.slice A zs.length n, .slice B ls.length k0] 28) = W0 at KK hsw ⊢
    clear K
    obtain ⟨q0, q1, q2⟩ := id KK
    go_region_held3 (fun W => W.cell? ⟨w.heap.size, 0, none⟩ = some (.slice A zs.length n) ∧ W.cell? ⟨w.heap.size, 1, none⟩ = some (.slice B ls.length k0) ∧ KM w (.slice A zs.length n) (.slice B ls.length k0) W)
      (first
        | assumption
        | (exact KMS.drew (by assumption))
        | (show KMS w (.slice A zs.length n) (.slice B ls.length k0) _
           repeat (first
             | assumption
             | refine KMS.drew ?_
             | refine KMS.alloc ?_ _
             | refine KMS.store ?_ (by first | omega | (simp; omega)) _)))
      (first
        | (go_at_call 54; refine (HC.out _ (by assumption)).mono ?_
           rintro e wa ⟨mb, D, rfl, hmb, hb9, hmap, hget⟩
           have hS9 := KMS.below (by assumption) hb9
           have hsz9 := hS9.km.size
           have hmb2 := hmb
           try simp only [heap_drew, World.size_alloc] at hmb2
           have hml := hmap.lt
           obtain ⟨hc9, hf9⟩ := bcell hb9
           have zs9 := hb9.size
           try simp only [heap_drew, World.size_alloc] at zs9
           try (have z0 : W0.heap.size + 2 ≤ wa.heap.size := zs9)
           try (have z0 : W0.heap.size + 1 ≤ wa.heap.size := zs9)
           have z0' : W0.heap.size ≤ wa.heap.size := by first | exact zs9 | omega
           clear zs9
           have p0 := hc9 W0.heap.size 0
           have p0f := hf9 W0.heap.size 0
           have p1 := hc9 (W0.heap.size + 1) 0
           have p1f := hf9 (W0.heap.size + 1) 0
           try simp [lt_two, heap_drew] at p0
           try simp [lt_two, heap_drew] at p0f
           try simp [heap_drew] at p1
           try simp [heap_drew] at p1f
           try (have n0 : ¬ W0.heap.size = wa.heap.size := by omega)
           try (have n1 : ¬ W0.heap.size + 1 = wa.heap.size := by omega)
           clear hc9 hf9)
        | (go_at_call 55; refine (HS.out _ (by assumption)).mono ?_
           rintro e wb ⟨v12, rfl, hmine⟩
           have hb12 := hmine.2
           have hv12 := hmine.holds
           have hS12 := KMS.below (by assumption) hb12
           have hrow : wb.ownsRow w.heap.size 52 2 v12 (ordL ls).length (cellsOf encD (ordL ls)) := Joins.ownsRow_le hmine.1 (by (try simp only [World.size_alloc]); omega)
           have hlt12 := hmine.1.lt
           try simp only [World.size_alloc] at hlt12
           have hmap12 : wb.ownsMap Tryz.prog 3 (plainElem Tryz.prog 3) mb zs.length D := World.ownsMap.kept (by repeat (first | exact hmap | refine World.ownsMap.alloc ?_ _)) (grown_of_below2 hb12 none) (by simp)
           have hsz12 := hS12.km.size
           obtain ⟨hc12, hf12⟩ := bcell hb12
           have zs12 := hb12.size
           try simp only [World.size_alloc] at zs12
           try (have y0 : wa.heap.size + 2 ≤ wb.heap.size := zs12)
           try (have y0 : wa.heap.size + 1 ≤ wb.heap.size := zs12)
           have y0' : wa.heap.size ≤ wb.heap.size := by first | exact zs12 | omega
           clear zs12
           have p2 := hc12 wa.heap.size 0
           have p2f := hf12 wa.heap.size 0
           have p3 := hc12 (wa.heap.size + 1) 0
           have p3f := hf12 (wa.heap.size + 1) 0
           have e4 : W0.heap.size < wa.heap.size → W0.heap.size < wa.heap.size + 1 := by omega
           have p4 := hc12 W0.heap.size 0
           have p4f := hf12 W0.heap.size 0
           have p5 := hc12 (W0.heap.size + 1) 0
           have p5f := hf12 (W0.heap.size + 1) 0
           try simp [lt_two] at p2
           try simp [lt_two] at p2f
           try simp [] at p3
           try simp [] at p3f
           have c4 : W0.heap.size < wa.heap.size + 1 := by omega
           first
             | (have z0s : W0.heap.size < wa.heap.size := by omega
                simp [c4, z0s, p0, p0f] at p4 p4f)
             | skip
           first
             | (have z1s : W0.heap.size + 1 < wa.heap.size := by omega
                have c5 : W0.heap.size + 1 < wa.heap.size + 1 := by omega
                simp [c5, z1s, p1, p1f] at p5 p5f)
             | skip
           clear e4 c4
           try (have m0 : ¬ W0.heap.size = wb.heap.size := by omega)
           try (have m1 : ¬ W0.heap.size + 1 = wb.heap.size := by omega)
           try (have m2 : ¬ wa.heap.size = wb.heap.size := by omega)
           try (have m3 : ¬ wa.heap.size + 1 = wb.heap.size := by omega)
           try (have m4 : ¬ wb.heap.size = W0.heap.size := by omega)
           try (have m5 : ¬ wb.heap.size = W0.heap.size + 1 := by omega)
           try (have m6 : ¬ wb.heap.size = wa.heap.size := by omega)
           try (have m7 : ¬ wb.heap.size = wa.heap.size + 1 := by omega)
           try (have m8 : wa.heap.size < wb.heap.size := by omega)
           try (have m9 : wa.heap.size + 1 < wb.heap.size := by omega)
           try (have ma : W0.heap.size < wb.heap.size := by omega)
           try (have mb2 : W0.heap.size + 1 < wb.heap.size := by omega)
           clear hc12 hf12
           obtain ⟨A12, c12, rfl, _⟩ := id hv12))
    all_goals
      have hF := KMS.km (x := .slice A zs.length n) (y := .slice B ls.length k0) (by assumption)
      go_wp2_with fail
      go_meet
      refine ⟨_, _, mb, A12, c12, D, rfl, rfl, ?_, ?_, ?_, ?_, hget, hF.bel⟩
      · first
          | (go_simp; done)
          | exact World.cell?_setCell_same _ _ _ (by assumption)
          | exact World.cell?_setCell_same _ _ _ (cell_other (by assumption) (by simp))
          | exact cell_other (World.cell?_setCell_same _ _ _ (by assumption)) (by simp)
      · first
          | (go_simp; done)
          | exact World.cell?_setCell_same _ _ _ (by assumption)
          | exact World.cell?_setCell_same _ _ _ (cell_other (by assumption) (by simp))
      · refine dots_of_row (B := w.heap.size) (n := (ordL ls).length) (c := c12) ?_
        repeat (first
          | exact hrow
          | refine World.ownsRow.alloc ?_ _
          | refine ownsRow_setCell_other ?_ (fun e => by have h9 := (hlt12 _ e).1; dsimp only at h9; omega) _)
      · repeat (first
          | exact hmap12
          | refine World.ownsMap.alloc ?_ _
          | refine World.ownsMap.kept ?_ (grownBy_setCell' _ _ _) (by intro e; injection e; omega))
  case rest =>
    obtain ⟨b5, b6, mb, A12, c12, D, rfl, rfl, k5, k6, hd, hmap, hget, hbel⟩ := hcut
    have hlo := ordL_len ls
    have hlm := ordL_len m
    have hsay := Says.missing (vs := zs.map (·.1)) hd (by omega) (inc_ordL ls) k6 k5 hmap hget
    have hset := fun W (hW : Below w.heap.size w W) => dotSet X m cx W (by obtain ⟨A', c', e, h, _⟩ := hx.below hW; cases e; exact h) (by omega)
    have HY := Lib.hid hsay
    have HT := Lib.hid hset
    have HB := Lib.hid hbel
    have hmis : (ordL m).filter (fun d => !(validD d.1 d.2 && (decide (d ∈ ordL ls) || decide (d.2 ≤ getV (zs.map (·.1)) d.1)))) = missC (zs.map (·.1)) ls m := by
      unfold missC
      rw [ordL_eq, ← filter_setL]
      congr 1
      funext d
      rw [hasC_set]
      first | rfl | (rw [ordL_eq])
    have HMIS := Lib.hid hmis
    clear hsay hset hbel hmis k5 k6 hd hmap hget hx
    go_wp2_with fail
    refine (HT.out _ HB.out).mono ?_
    rintro e w3 ⟨v2, rfl, h2⟩
    have hdel := deleteFunc _ _ _ _ v2 (ordL m) w3 HY.out h2.2 h2.2.size h2.1 (by omega)
    rw [HMIS.out] at hdel
    have HD := Lib.hid hdel
    have H2 := Lib.hid h2
    clear hdel h2
    go_wp2_with fail
    refine HD.out.mono ?_
    rintro e w4 ⟨v4, rfl, ho4, hg4⟩
    have H4 := Lib.hid (show MineV w w4 v4 (missC (zs.map (·.1)) ls m) from MineV.base HB.out (show MineV _ w4 v4 (missC (zs.map (·.1)) ls m) from H2.out.step ho4 hg4))
    clear ho4 hg4
    go_wp2
    go_ret
    exact ⟨⟨_, rfl, H4.out⟩, H4.out.2⟩

end

section
open Go.RowKit

/-- Not too much for package context. -/
def FitsK (c : CaV) : Prop := Fits c.xs ∧ c.vs.length + c.ls.length + (dotsI (its c.xs)).length ≤ 90000
theorem compC_valid {vs ls : List (Int × Int)} (h : compC vs ls = true) : ∀ d ∈ vs, validD d.1 d.2 = true := ((validV_iff vs).1 (validC_iff.1 (compC_iff.1 h).2).1).1
theorem ctxIsCompact_o (v : Value) (vs ls : List (Int × Int)) (b : Bool) (w : World) (h : HoldsC w v vs ls) (hm : vs.length + ls.length ≤ 90000) (hb : compC vs ls = b) :
    Calls Tryz.prog 23 #[v] w (OneB (.bool b) w) := ctxIsCompact v vs ls b w h hm hb
theorem ctxMissing_v (v : Value) (X : Option Addr) (cx : Nat) (vs ls m : List (Int × Int)) (w : World) (h : HoldsC w v vs ls) (hx : Holds w (.slice X m.length cx) m) (hm : vs.length + ls.length + m.length ≤ 90000) (hv : ∀ d ∈ vs, validD d.1 d.2 = true) :
    Calls Tryz.prog 33 #[v, .slice X m.length cx] w fun e w' => (∃ v', e = .returned v' ∧ Holds w' v' (missC vs ls m)) ∧ Below w.heap.size w w' := by
  obtain ⟨zs, rfl⟩ := wf_list hv
  refine (ctxMissing v X cx zs ls m w h hx (by simpa using hm)).mono ?_
  rintro e w' ⟨⟨v', rfl, h1⟩, hb⟩
  exact ⟨⟨v', rfl, h1.holds⟩, hb⟩

set_option maxRecDepth 100000 in
set_option maxHeartbeats 4000000 in
theorem caValid (c : CaV) (b : Bool) (w : World) (hc : CaOK w c) (hf : FitsK c) (hb : validK c.ca = b) :
    Calls Tryz.prog 17 #[mkC c] w (OneB (.bool b) w) := by
  have K0 := Lib.hid (KK.new w c hc)
  obtain ⟨p, hp⟩ : ∃ p, compC c.vs c.ls = p := ⟨_, rfl⟩
  obtain ⟨q, hq⟩ : ∃ q, validL (its c.xs) = q := ⟨_, rfl⟩
  obtain ⟨mm, hmm⟩ : ∃ mm, missC c.vs c.ls (dotsI (its c.xs)) = mm := ⟨_, rfl⟩
  have HP := Lib.hid hp
  have HQ := Lib.hid hq
  have HM := Lib.hid hmm
  have HF := Lib.hid hf.1
  have HN := Lib.hid hf.2
  have HW := Lib.hid (show p = true → ∀ d ∈ c.vs, validD d.1 d.2 = true from fun e => compC_valid (by rw [hp, e]))
  have HE := Lib.hid (show (p && (q && mm.isEmpty)) = b from by rw [← hp, ← hq, ← hmm, ← hb]; rfl)
  clear hp hq hmm hb hc hf
  cases p with
  | false =>
    obtain rfl : b = false := HE.out.symm
    go_enter Tryz.func17, Tryz.ntmps17
    go_wp2_with fail
    generalize w.heap.size = g at K0 ⊢
    generalize World.alloc w _ = w2 at K0 ⊢
    obtain ⟨x0, x1, x2, xl, _⟩ := K0.out.sp
    have l0 := fun p => cell_far (p := p) xl x0
    have l1 := fun p => cell_far (p := p) xl x1
    have l2 := fun p => cell_far (p := p) xl x2
    have HC := Lib.hid fun p => ctxIsCompact_o _ c.vs c.ls false (far w2 p) ((K0.out.far p).ok (g := g) (c := c) (by simp)).ctx (by have := HN.out; omega) HP.out
    go_wp2_with fail
    refine wp_region_far (by kernel_rfl) (by kernel_rfl) ?_
    repeat (go_big_quiet_step ((go_at_call 23; exact OneB.far (HC.out _))))
    refine wpQuiet_nil ?_
    rintro _ ⟨p, rfl⟩
    go_wp2_with fail
    go_ret
    exact OneB.bool rfl (K0.out.far p).bel
  | true =>
    cases q with
    | false =>
      obtain rfl : b = false := HE.out.symm
      go_enter Tryz.func17, Tryz.ntmps17
      go_wp2_with fail
      generalize w.heap.size = g at K0 ⊢
      generalize World.alloc w _ = w2 at K0 ⊢
      obtain ⟨x0, x1, x2, xl, _⟩ := K0.out.sp
      have l0 := fun p => cell_far (p := p) xl x0
      have l1 := fun p => cell_far (p := p) xl x1
      have l2 := fun p => cell_far (p := p) xl x2
      have HC := Lib.hid fun p => ctxIsCompact_o _ c.vs c.ls true (far w2 p) ((K0.out.far p).ok (g := g) (c := c) (by simp)).ctx (by have := HN.out; omega) HP.out
      have HV := Lib.hid fun p => itValid_h _ c.xs false (far w2 p) ((K0.out.far p).ok (g := g) (c := c) (by simp)).2.2 HF.out HQ.out
      go_wp2_with fail
      refine wp_region_far (by kernel_rfl) (by kernel_rfl) ?_
      repeat (go_big_quiet_step ((first | (go_at_call 23; exact OneB.far (HC.out _)) | (go_at_call 32; exact OneB.far (HV.out _)))))
      refine wpQuiet_nil ?_
      rintro _ ⟨p, rfl⟩
      go_wp2_with fail
      go_ret
      exact OneB.bool rfl (K0.out.far p).bel
    | true =>
      have HE2 := Lib.hid (show mm.isEmpty = b from by rw [← HE.out]; rfl)
      clear HE
      go_enter Tryz.func17, Tryz.ntmps17
      go_wp2_with fail
      generalize w.heap.size = g at K0 ⊢
      generalize World.alloc w _ = w2 at K0 ⊢
      have hS := K0.out
      have hS' := hS.sp
      clear K0
      go_wp2_with fail
      go_region_held3 (fun W => W.cell? ⟨g, 0, none⟩ = some c.v ∧ W.cell? ⟨g, 1, none⟩ = some c.l ∧ W.cell? ⟨g, 2, none⟩ = some c.i ∧ g < W.heap.size ∧ KK w [(g, c)] W)
        (first
          | assumption
          | (exact KK.sp (by assumption))
          | (exact KK.sp (KK.drew (by assumption))))
        (first
          | (go_at_call 23; refine (ctxIsCompact_o _ c.vs c.ls true _ (KK.ok (g := g) (c := c) (by first | assumption | exact KK.drew (by assumption)) (by simp)).ctx (by have := HN.out; omega) HP.out).mono ?_
             rintro e wa ⟨rfl, hb1⟩
             have hS1 := KK.next (by first | assumption | exact KK.drew (by assumption)) hb1
             have hS1' := hS1.sp)
          | (go_at_call 32; refine (itValid_h _ c.xs true _ (KK.ok (g := g) (c := c) (by first | assumption | exact KK.drew (by assumption)) (by simp)).2.2 HF.out HQ.out).mono ?_
             rintro e wb ⟨rfl, hb2⟩
             have hS2 := KK.next (by first | assumption | exact KK.drew (by assumption)) hb2
             have hS2' := hS2.sp)
          | (go_at_call 34; refine (itDots_h _ c.xs _ (KK.ok (g := g) (c := c) (by first | assumption | exact KK.drew (by assumption)) (by simp)).2.2 HF.out).mono ?_
             rintro e wc ⟨⟨v1, rfl, hv1⟩, hb3⟩
             have hS3 := KK.next (by first | assumption | exact KK.drew (by assumption)) hb3
             have hS3' := hS3.sp
             obtain ⟨D, dc, rfl, _⟩ := id hv1)
          | (go_at_call 33; refine (ctxMissing_v _ D dc c.vs c.ls (dotsI (its c.xs)) _ (KK.ok (g := g) (c := c) (by first | assumption | exact KK.drew (by assumption)) (by simp)).ctx (by first | exact hv1 | exact hv1.below (Below.refl _ _).drew) HN.out (HW.out (by first | rfl | trivial))).mono ?_
             rintro e wd ⟨⟨v2, rfl, hv2⟩, hb4⟩
             rw [HM.out] at hv2
             have hS4 := KK.next (by first | assumption | exact KK.drew (by assumption)) hb4
             have hS4' := hS4.sp
             obtain ⟨E, ec, rfl, _⟩ := id hv2))
      all_goals
        have KF := Lib.hid hS4.bel
        clear hS hS' hS1 hS1' hS2 hS2' hS3 hS3' hS4 hS4' hv1 hv2 hb1 hb2 hb3 hb4
        go_wp2_with fail
        go_ret
        exact OneB.bool (by
          rw [← HE2.out]
          cases mm with
          | nil => simp
          | cons _ _ => simp; omega) KF.out

end

section
open Go.RowKit

/-- Times of 64 bits. -/
def TimC (c : Ca) : Prop := ∀ x ∈ c.2, ∀ m ∈ x.2, m.t < 18446744073709551616
end

end Go.Proofs.YtpnemekkpifbaaaGreat
