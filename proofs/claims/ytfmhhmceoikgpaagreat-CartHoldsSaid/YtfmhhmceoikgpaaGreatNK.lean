/- Several texts in one: CarY3, CarW1. -/
import Derived.Test.YtfmhhmceoikgpaaGreatNJ
namespace Go.Proofs.YtfmhhmceoikgpaaGreat

section
open Go.RowKit

/-- The lists agree up to m. -/
def SameToS {α : Type} (xs ys : List α) (m : Nat) : Prop := ∀ j, j < m → xs[j]? = ys[j]?

set_option maxHeartbeats 1000000 in
theorem refSameS (A B : Option Addr) (xs ys : List (List UInt8)) (cap cap' : Nat) (w : World) (hx : StrsAt w A xs) (hy : StrsAt w B ys) (hm : xs.length ≤ 100000) (_ : ys.length ≤ 100000) :
    Calls Tryz.prog 27 #[.slice A xs.length cap, .slice B ys.length cap'] w (OneB (.bool (decide (xs = ys))) w) := by
  by_cases hl : xs.length = ys.length
  · have hl' : ((xs.length : Int) != (ys.length : Int)) = false := by simp [hl]
    have HL := Lib.hid hl; clear hl
    go_enter Tryz.func27, Tryz.ntmps27
    go_wp2_with fail
    go_loopw [5] (fun i wr => ∃ m : Nat, m ≤ xs.length ∧ i = .int .i64 m ∧ Below w.heap.size w wr ∧ Hid (SameToS xs ys m)) (fun i _ => xs.length - (intOf i).toNat)
    case atStart => exact ⟨0, by omega, rfl, Below.refl _ _, fun j h => by omega⟩
    case round =>
      obtain ⟨m, hk2, rfl, hb, hs⟩ := hrel
      by_cases hlt : m < xs.length
      · have hlt2 : m < ys.length := by have := HL.out; omega
        have i0 : (m : Int) < (xs.length : Int) := by omega
        obtain ⟨b, off, rfl, hbl, hc0⟩ := (SlAt.cell1 (f := fun l : List UInt8 => Value.string ⟨l.toArray⟩) (hx.below hb) (j := m) (by omega))
        obtain ⟨b', off', rfl, hbl', hd0⟩ := (SlAt.cell1 (f := fun l : List UInt8 => Value.string ⟨l.toArray⟩) (hy.below hb) (j := m) (by omega))
        have l0 := fun p => cell_far (p := p) hbl hc0
        have l2 := fun p => cell_far (p := p) hbl' hd0
        have HX := Lib.hid (List.getElem?_eq_getElem hlt)
        have HY := Lib.hid (List.getElem?_eq_getElem hlt2)
        clear hc0 hd0
        generalize xs[m] = x at *
        generalize ys[m] = y at *
        by_cases hq : x = y
        · subst hq
          go_wp2_with fail
          refine wp_region_far (by kernel_rfl) (by kernel_rfl) ?_
          repeat (go_big_quiet_step ((fail)))
          refine wpQuiet_nil ?_
          rintro _ ⟨p, rfl⟩
          go_wp2_with fail
          go_roundw
          case rel =>
            refine ⟨m + 1, by omega, by go_num, hb.trans ((below_far wr p).mono hb.size), (show Hid _ from fun j hj => ?_)⟩
            by_cases e : j = m
            · subst e; rw [HX.out, HY.out]
            · exact hs.out j (by omega)
          case measure => simp [intOf]; omega
        · have hne : ¬ xs = ys := fun e => by
            have h1 := HX.out
            have h2 := HY.out
            rw [e, h2] at h1
            cases h1
            exact hq rfl
          have HN := Lib.hid hne; clear hne
          have hq' : (x == y) = false := by rw [beq_eq_false_iff_ne]; exact hq
          clear hq
          go_wp2_with fail
          refine wp_region_far (by kernel_rfl) (by kernel_rfl) ?_
          repeat (go_big_quiet_step ((fail)))
          refine wpQuiet_nil ?_
          rintro _ ⟨p, rfl⟩
          go_wp2_with fail
          go_ret
          exact ⟨ret_bool (by simp [HN.out]), hb.trans ((below_far wr p).mono hb.size)⟩
      · have i0 : ¬ (m : Int) < (xs.length : Int) := by omega
        go_wp2_with fail
        go_ret
        refine ⟨ret_bool ?_, hb⟩
        have : xs = ys := List.ext_getElem? fun j => by
          by_cases e : j < m
          · exact hs.out j e
          · have := HL.out
            rw [List.getElem?_eq_none (by omega), List.getElem?_eq_none (by omega)]
        simp [this]
  · have hl' : ((xs.length : Int) != (ys.length : Int)) = true := neT (by omega)
    have HL := Lib.hid hl; clear hl
    go_enter Tryz.func27, Tryz.ntmps27
    go_wp2_with fail
    go_ret
    refine ⟨ret_bool ?_, Below.refl _ _⟩
    have : ¬ xs = ys := fun e => HL.out (by rw [e])
    simp [this]

theorem refSameS_h (v v' : Value) (xs ys : List (List UInt8)) (b : Bool) (w : World) (h : HoldsS w v xs) (h' : HoldsS w v' ys) (hm : xs.length ≤ 100000) (hm' : ys.length ≤ 100000) (hb : decide (xs = ys) = b) :
    Calls Tryz.prog 27 #[v, v'] w (OneB (.bool b) w) := by
  obtain ⟨A, c, rfl, h1, _⟩ := h
  obtain ⟨A', c', rfl, h1', _⟩ := h'
  subst hb
  exact refSameS A A' xs ys c c' w h1 h1' hm hm'

/-- What the program returns for a valid cart is what the reference returns. -/
theorem newR_ok {x : It} (h : okI x = true) : qtyI x = ((newR x.2).1.q, 0) := by
  obtain ⟨_, h0, hv, _⟩ := okI_parts h
  unfold qtyI
  rw [if_pos h, newV_R hv]
  unfold newR
  cases hn : newestN x.2 with
  | none => rw [newestN_none] at hn; rw [hn] at h0; simp at h0
  | some m => rfl
section
variable {c : Ca} (h : validK c = true)
include h
theorem qtyC_valid (nm : List UInt8) : qtyC c nm = qtyK c.2 nm := by
  have hg := (validK_iff.1 h).2.1
  unfold qtyC qtyK findV
  rw [if_pos h]
  cases hf : c.2.find? (fun x => x.1 == nm) with
  | none => rfl
  | some x => exact newR_ok (hg.1 x (List.mem_of_find?_eq_some hf))
theorem unitsC_valid : unitsC c = unitsN c.2 := by
  have hg := (validK_iff.1 h).2.1
  unfold unitsC sumQ unitsN
  rw [if_pos h]
  exact congrArg List.sum (List.map_congr_left fun x hx => by rw [newR_ok (hg.1 x hx)])
theorem timeC_valid : timeC c = nextR (c.2.flatMap (·.2)) := by
  have hg := (validK_iff.1 h).2.1
  unfold timeC
  rw [if_pos h]
  refine nextV_R ?_
  rw [List.all_eq_true]
  intro m hm
  obtain ⟨x, hx, hmx⟩ := List.mem_flatMap.1 hm
  have hv := (okI_parts (hg.1 x hx)).2.2.1
  rw [List.all_eq_true] at hv
  exact hv m hmx
theorem dotsC_valid (nm : List UInt8) : dotsC c nm = dotsK c.2 nm := by unfold dotsC; rw [if_pos h]
theorem namesC_valid : namesC c = c.2.map (·.1) := by unfold namesC; rw [if_pos h]
end
section
variable {c : Ca} (h : validK c = false)
include h
theorem qtyC_bad (nm : List UInt8) : qtyC c nm = (0, 2) := by unfold qtyC; rw [if_neg (by simp [h])]
theorem unitsC_bad : unitsC c = 0 := by unfold unitsC; rw [if_neg (by simp [h])]
theorem timeC_bad : timeC c = (0, 2) := by unfold timeC; rw [if_neg (by simp [h])]
theorem dotsC_bad (nm : List UInt8) : dotsC c nm = [] := by unfold dotsC; rw [if_neg (by simp [h])]
theorem namesC_bad : namesC c = [] := by unfold namesC; rw [if_neg (by simp [h])]
end

set_option maxRecDepth 100000 in
set_option maxHeartbeats 8000000 in
theorem lawLooks10 (KN : KnownOK) (c : CaV) (nm : List UInt8) (w : World) (hc : CaOK w c) (ht : ∀ m ∈ marksX c.xs, m.t < 18446744073709551616) :
    Calls Tryz.prog 5 #[mkC c, .string ⟨nm.toArray⟩] w (TrueB w) := by
  have K0 := Lib.hid (KK.new w c hc)
  have HKN := Lib.hid KN
  have hsz := size_mk nm
  obtain ⟨lc, hlc⟩ : ∃ lc, lightK c = lc := ⟨_, rfl⟩
  have HLC := Lib.hid hlc
  have HT := Lib.hid ht
  clear hc hlc KN ht
  cases lc with
  | false =>
    go_enter Tryz.func5, Tryz.ntmps5
    go_upto_region 1 with fail
    generalize World.alloc w _ = w2 at K0 ⊢
    obtain ⟨x0, x1, x2, xl, _⟩ := K0.out.sp
    go_wp2_with fail
    refine (lawLight10 c false w2 (K0.out.ok (g := w.heap.size) (by simp)) HLC.out).mono ?_
    rintro e w3 ⟨rfl, hb⟩
    have KB := Lib.hid (K0.out.next hb).bel
    clear hb K0 x0 x1 x2 xl
    go_wp2_with fail
    refine (HKN.out _).mono ?_
    rintro e wk ⟨rfl, hb⟩
    have KC := Lib.hid (below_trans KB.out hb)
    clear hb KB
    go_wp2_with fail
    go_ret
    exact OneB.bool rfl KC.out
  | true =>
    have HS := Lib.hid (lightK_small HLC.out)
    by_cases hn : 100 < nm.length
    · have i0 : (100 : Int) < (nm.length : Int) := by omega
      go_enter Tryz.func5, Tryz.ntmps5
      go_upto_region 1 with fail
      generalize World.alloc w _ = w2 at K0 ⊢
      obtain ⟨x0, x1, x2, xl, _⟩ := K0.out.sp
      go_wp2_with fail
      refine (lawLight10 c true w2 (K0.out.ok (g := w.heap.size) (by simp)) HLC.out).mono ?_
      rintro e w3 ⟨rfl, hb⟩
      have KB := Lib.hid (K0.out.next hb).bel
      clear hb K0 x0 x1 x2 xl
      go_wp2_with fail
      refine (HKN.out _).mono ?_
      rintro e wk ⟨rfl, hb⟩
      have KC := Lib.hid (below_trans KB.out hb)
      clear hb KB
      go_wp2_with fail
      go_ret
      exact OneB.bool rfl KC.out
    · have i0 : ¬ (100 : Int) < (nm.length : Int) := by omega
      obtain ⟨v, hv⟩ : ∃ v, validK c.ca = v := ⟨_, rfl⟩
      have HV := Lib.hid hv
      clear hv
      cases v with
      | false =>
        go_enter Tryz.func5, Tryz.ntmps5
        go_upto_region 1 with fail
        generalize World.alloc w _ = w2 at K0 ⊢
        obtain ⟨x0, x1, x2, xl, _⟩ := K0.out.sp
        go_wp2_with fail
        refine (lawLight10 c true w2 (K0.out.ok (g := w.heap.size) (by simp)) HLC.out).mono ?_
        rintro e w3 ⟨rfl, hb⟩
        have K1 := Lib.hid (K0.out.next hb)
        clear hb K0 x0 x1 x2 xl
        obtain ⟨x0, x1, x2, xl, _⟩ := K1.out.sp
        go_wp2_with fail
        refine (refValid10 c false w3 (K1.out.ok (g := w.heap.size) (by simp)) HS.out.fits HV.out).mono ?_
        rintro e w4 ⟨rfl, hb⟩
        have K2 := Lib.hid (K1.out.next hb)
        clear hb K1 x0 x1 x2 xl
        obtain ⟨x0, x1, x2, xl, _⟩ := K2.out.sp
        go_wp2_with fail
        refine (lawHas10 c nm 0 2 w4 (K2.out.ok (g := w.heap.size) (by simp)) HS.out (qtyC_bad HV.out nm)).mono ?_
        rintro e w5 ⟨rfl, hb⟩
        have K3 := Lib.hid (K2.out.next hb)
        clear hb K2 x0 x1 x2 xl
        obtain ⟨x0, x1, x2, xl, _⟩ := K3.out.sp
        go_wp2_with fail
        refine (caNames c [] w5 (K3.out.ok (g := w.heap.size) (by simp)) HS.out.k (namesC_bad HV.out)).mono ?_
        rintro e w6 ⟨⟨v1, rfl, hv1⟩, hb⟩
        obtain ⟨A1, c1, rfl, _⟩ := hv1
        have K4 := Lib.hid (K3.out.next hb)
        clear hb K3 x0 x1 x2 xl
        obtain ⟨x0, x1, x2, xl, _⟩ := K4.out.sp
        go_wp2_with fail
        refine (caUnits c 0 w6 (K4.out.ok (g := w.heap.size) (by simp)) HS.out.k (unitsC_bad HV.out)).mono ?_
        rintro e w7 ⟨rfl, hb⟩
        have K5 := Lib.hid (K4.out.next hb)
        clear hb K4 x0 x1 x2 xl
        obtain ⟨x0, x1, x2, xl, _⟩ := K5.out.sp
        go_wp2_with fail
        refine (caDots c nm [] w7 (K5.out.ok (g := w.heap.size) (by simp)) HS.out.k (dotsC_bad HV.out nm)).mono ?_
        rintro e w8 ⟨⟨v2, rfl, hv2⟩, hb⟩
        obtain ⟨A2, c2, rfl, _⟩ := hv2
        have K6 := Lib.hid (K5.out.next hb)
        clear hb K5 x0 x1 x2 xl
        obtain ⟨x0, x1, x2, xl, _⟩ := K6.out.sp
        go_wp2_with fail
        refine (caDots c [] [] w8 (K6.out.ok (g := w.heap.size) (by simp)) HS.out.k (dotsC_bad HV.out [])).mono ?_
        rintro e w9 ⟨⟨v3, rfl, hv3⟩, hb⟩
        obtain ⟨A3, c3, rfl, _⟩ := hv3
        have K7 := Lib.hid (K6.out.next hb)
        clear hb K6 x0 x1 x2 xl
        obtain ⟨x0, x1, x2, xl, _⟩ := K7.out.sp
        go_wp2_with fail
        refine (lawTime10 c 0 2 w9 (K7.out.ok (g := w.heap.size) (by simp)) HS.out HT.out (timeC_bad HV.out)).mono ?_
        rintro e w10 ⟨rfl, hb⟩
        have KB := Lib.hid (K7.out.next hb).bel
        clear hb K7 x0 x1 x2 xl
        go_wp2_with fail
        refine (HKN.out _).mono ?_
        rintro e wk ⟨rfl, hb⟩
        have KC := Lib.hid (below_trans KB.out hb)
        clear hb KB
        go_wp2_with fail
        go_ret
        exact OneB.bool rfl KC.out
      | true =>
        obtain ⟨q, n, hq⟩ : ∃ q n, qtyK (its c.xs) nm = (q, n) := ⟨_, _, rfl⟩
        obtain ⟨t, n', htt⟩ : ∃ t n', nextR (marksX c.xs) = (t, n') := ⟨_, _, rfl⟩
        have hgood := (validK_iff.1 HV.out).2.1
        have HQ := Lib.hid hq
        have HTT := Lib.hid htt
        have HQC := Lib.hid (show qtyC c.ca nm = (q, n) from by rw [qtyC_valid HV.out]; exact hq)
        have HTC := Lib.hid (show timeC c.ca = (t, n') from by rw [timeC_valid HV.out, show c.ca.2.flatMap (·.2) = marksX c.xs from marksX_its c.xs]; exact htt)
        have HNC := Lib.hid (show namesC c.ca = c.xs.map (·.nm) from by rw [namesC_valid HV.out]; simp [CaV.ca, its, List.map_map]; intro a _; rfl)
        have HUC := Lib.hid (show unitsC c.ca = unitsN (its c.xs) from unitsC_valid HV.out)
        have HDC := Lib.hid (show ∀ m, dotsC c.ca m = dotsK (its c.xs) m from fun m => dotsC_valid HV.out m)
        have hxl : (c.xs.map (·.nm)).length ≤ 100000 := by rw [List.length_map]; have := HS.out.items.1; omega
        have HXL := Lib.hid hxl
        have C1 := Lib.hid fun W (h : CaOK W c) => lawHas10 c nm q n W h HS.out HQC.out
        have C2 := Lib.hid fun W (h : CaOK W c) => lawTime10 c t n' W h HS.out HT.out HTC.out
        have C3 := Lib.hid fun W (h : CaOK W c) => caNames c (c.xs.map (·.nm)) W h HS.out.k HNC.out
        have C4 := Lib.hid fun W (h : CaOK W c) => refNames10 c W h (by have := HS.out.items.1; omega)
        have C5 := Lib.hid fun W (h : CaOK W c) => caUnits c (unitsN (its c.xs)) W h HS.out.k HUC.out
        have C6 := Lib.hid fun W (h : CaOK W c) => refUnits10 c W h (by have := HS.out.items.1; omega) hgood.1
        have C7 := Lib.hid fun W (h : CaOK W c) => caDots c nm (dotsK (its c.xs) nm) W h HS.out.k (HDC.out nm)
        have C8 := Lib.hid fun W (h : CaOK W c) => refDots10 c nm W h HS.out.fits
        have C9 := Lib.hid fun W (h : CaOK W c) => show Calls Tryz.prog 23 #[mkC c, .string { data := #[] }] W fun e w' => (∃ v, e = .returned v ∧ Holds w' v (dotsK (its c.xs) [])) ∧ Below W.heap.size W w' from caDots c [] (dotsK (its c.xs) []) W h HS.out.k (HDC.out [])
        have C10 := Lib.hid fun W (h : CaOK W c) => show Calls Tryz.prog 31 #[mkC c, .string { data := #[] }] W fun e w' => (∃ v, e = .returned v ∧ Holds w' v (dotsK (its c.xs) [])) ∧ Below W.heap.size W w' from refDots10 c [] W h HS.out.fits
        clear hq htt hgood hxl
        generalize unitsN (its c.xs) = u at C5 C6
        generalize c.xs.map (·.nm) = ns at C3 C4 HXL HNC
        generalize dotsK (its c.xs) nm = da at C7 C8
        generalize dotsK (its c.xs) [] = db at C9 C10
        go_enter Tryz.func5, Tryz.ntmps5
        go_upto_region 1 with fail
        generalize w.heap.size = g at K0 ⊢
        generalize World.alloc w _ = w2 at K0 ⊢
        obtain ⟨x0, x1, x2, xl, _⟩ := K0.out.sp
        go_wp2_with fail
        refine (lawLight10 c true w2 (K0.out.ok (g := g) (by simp)) HLC.out).mono ?_
        rintro e w3 ⟨rfl, hb⟩
        have K1 := Lib.hid (K0.out.next hb)
        clear hb K0 x0 x1 x2 xl
        obtain ⟨x0, x1, x2, xl, _⟩ := K1.out.sp
        go_wp2_with fail
        refine (refValid10 c true w3 (K1.out.ok (g := g) (by simp)) HS.out.fits HV.out).mono ?_
        rintro e w4 ⟨rfl, hb⟩
        have K2 := Lib.hid (K1.out.next hb)
        clear hb K1 x0 x1 x2 xl
        obtain ⟨x0, x1, x2, xl, _⟩ := K2.out.sp
        go_wp2_with fail
        refine (refQty10 c nm q n w4 (K2.out.ok (g := g) (by simp)) (by have := HS.out.items.1; omega) HQ.out).mono ?_
        rintro e w5 ⟨rfl, hb⟩
        have K3 := Lib.hid (K2.out.next hb)
        clear hb K2 x0 x1 x2 xl
        obtain ⟨x0, x1, x2, xl, _⟩ := K3.out.sp
        go_wp2_with fail
        refine (refTime10 c t n' w5 (K3.out.ok (g := g) (by simp)) HS.out.fits HT.out HTT.out).mono ?_
        rintro e w6 ⟨rfl, hb⟩
        have K4 := Lib.hid (K3.out.next hb)
        clear hb K3 x0 x1 x2 xl
        have hS := K4.out
        have hS' := hS.sp
        clear K4
        go_wp2_with fail
        go_region_held3 (fun W => W.cell? ⟨g, 0, none⟩ = some c.v ∧ W.cell? ⟨g, 1, none⟩ = some c.l ∧ W.cell? ⟨g, 2, none⟩ = some c.i ∧ g < W.heap.size ∧ KK w [(g, c)] W)
          (first
            | assumption
            | (exact KK.sp (by assumption))
            | (exact KK.sp (KK.drew (by assumption))))
          (first
            | (go_at_call 20; refine (C1.out _ (KK.ok (g := g) (c := c) (by first | assumption | exact KK.drew (by assumption)) (by simp))).mono ?_
               rintro e wa ⟨rfl, hb1⟩
               have hS1 := KK.next (by first | assumption | exact KK.drew (by assumption)) hb1
               have hS1' := hS1.sp)
            | (go_at_call 24; refine (C2.out _ (KK.ok (g := g) (c := c) (by first | assumption | exact KK.drew (by assumption)) (by simp))).mono ?_
               rintro e wb ⟨rfl, hb2⟩
               have hS2 := KK.next (by first | assumption | exact KK.drew (by assumption)) hb2
               have hS2' := hS2.sp)
            | (go_at_call 21; refine (C3.out _ (KK.ok (g := g) (c := c) (by first | assumption | exact KK.drew (by assumption)) (by simp))).mono ?_
               rintro e wc ⟨⟨v1, rfl, hv1⟩, hb3⟩
               have hS3 := KK.next (by first | assumption | exact KK.drew (by assumption)) hb3
               have hS3' := hS3.sp)
            | (go_at_call 28; refine (C4.out _ (KK.ok (g := g) (c := c) (by first | assumption | exact KK.drew (by assumption)) (by simp))).mono ?_
               rintro e wd ⟨⟨v2, rfl, hv2⟩, hb4⟩
               have hv1' := HoldsS.below (show HoldsS _ v1 ns from by first | exact hv1 | exact hv1.below (Below.refl _ _).drew) hb4
               have hS4 := KK.next (by first | assumption | exact KK.drew (by assumption)) hb4
               have hS4' := hS4.sp)
            | (go_at_call 27; refine (refSameS_h _ _ ns ns true _ (by first | exact hv1' | exact hv1'.below (Below.refl _ _).drew) (by first | exact hv2 | exact hv2.below (Below.refl _ _).drew) HXL.out HXL.out (by simp)).mono ?_
               rintro e we ⟨rfl, hb5⟩
               have hS5 := KK.next (by first | assumption | exact KK.drew (by assumption)) hb5
               have hS5' := hS5.sp)
            | (go_at_call 22; refine (C5.out _ (KK.ok (g := g) (c := c) (by first | assumption | exact KK.drew (by assumption)) (by simp))).mono ?_
               rintro e wf ⟨rfl, hb6⟩
               have hS6 := KK.next (by first | assumption | exact KK.drew (by assumption)) hb6
               have hS6' := hS6.sp)
            | (go_at_call 29; refine (C6.out _ (KK.ok (g := g) (c := c) (by first | assumption | exact KK.drew (by assumption)) (by simp))).mono ?_
               rintro e wg ⟨rfl, hb7⟩
               have hS7 := KK.next (by first | assumption | exact KK.drew (by assumption)) hb7
               have hS7' := hS7.sp))
        all_goals
          clear hS hS' hS1 hS1' hS2 hS2' hS3 hS3' hS4 hS4' hS5 hS5' hS6 hS6' hS7' hv1 hv1' hv2 hb1 hb2 hb3 hb4 hb5 hb6 hb7
          have hS := hS7
          have hS' := hS.sp
          clear hS7
          go_wp2_with fail
          go_region_held3 (fun W => W.cell? ⟨g, 0, none⟩ = some c.v ∧ W.cell? ⟨g, 1, none⟩ = some c.l ∧ W.cell? ⟨g, 2, none⟩ = some c.i ∧ g < W.heap.size ∧ KK w [(g, c)] W)
            (first
              | assumption
              | (exact KK.sp (by assumption))
              | (exact KK.sp (KK.drew (by assumption))))
            (first
              | (go_at_call 23; with_reducible first
                  | (refine (C7.out _ (KK.ok (g := g) (c := c) (by first | assumption | exact KK.drew (by assumption)) (by simp))).mono ?_
                     rintro e wa ⟨⟨v1, rfl, hv1⟩, hb1⟩
                     have hS1 := KK.next (by first | assumption | exact KK.drew (by assumption)) hb1
                     have hS1' := hS1.sp)
                  | (refine (C9.out _ (KK.ok (g := g) (c := c) (by first | assumption | exact KK.drew (by assumption)) (by simp))).mono ?_
                     rintro e wd ⟨⟨v3, rfl, hv3⟩, hb4⟩
                     have hS4 := KK.next (by first | assumption | exact KK.drew (by assumption)) hb4
                     have hS4' := hS4.sp))
              | (go_at_call 31; with_reducible first
                  | (refine (C8.out _ (KK.ok (g := g) (c := c) (by first | assumption | exact KK.drew (by assumption)) (by simp))).mono ?_
                     rintro e wb ⟨⟨v2, rfl, hv2⟩, hb2⟩
                     have hv1' := Holds.below (show Holds _ v1 da from by first | exact hv1 | exact hv1.below (Below.refl _ _).drew) hb2
                     have hS2 := KK.next (by first | assumption | exact KK.drew (by assumption)) hb2
                     have hS2' := hS2.sp)
                  | (refine (C10.out _ (KK.ok (g := g) (c := c) (by first | assumption | exact KK.drew (by assumption)) (by simp))).mono ?_
                     rintro e we ⟨⟨v4, rfl, hv4⟩, hb5⟩
                     have hv3' := Holds.below (show Holds _ v3 db from by first | exact hv3 | exact hv3.below (Below.refl _ _).drew) hb5
                     have hS5 := KK.next (by first | assumption | exact KK.drew (by assumption)) hb5
                     have hS5' := hS5.sp))
              | (go_at_call 30; with_reducible first
                  | (refine (same_h3 _ _ db db true _ (by first | exact hv3' | exact hv3'.below (Below.refl _ _).drew) (by first | exact hv4 | exact hv4.below (Below.refl _ _).drew) (by simp)).mono ?_
                     rintro e wf ⟨rfl, hb6⟩
                     have hS6 := KK.next (by first | assumption | exact KK.drew (by assumption)) hb6
                     have hS6' := hS6.sp)
                  | (refine (same_h3 _ _ da da true _ (by first | exact hv1' | exact hv1'.below (Below.refl _ _).drew) (by first | exact hv2 | exact hv2.below (Below.refl _ _).drew) (by simp)).mono ?_
                     rintro e wc ⟨rfl, hb3⟩
                     have hS3 := KK.next (by first | assumption | exact KK.drew (by assumption)) hb3
                     have hS3' := hS3.sp))
              | (go_at_call 9; refine (HKN.out _).mono ?_
                 rintro e wg ⟨rfl, hb7⟩
                 have hS7 := KK.next (by first | assumption | exact KK.drew (by assumption)) hb7
                 have hS7' := hS7.sp))
          all_goals
            have KF := Lib.hid hS7.bel
            clear hS hS' hS1 hS1' hS2 hS2' hS3 hS3' hS4 hS4' hS5 hS5' hS6 hS6' hS7 hS7' hv1 hv1' hv2 hv3 hv3' hv4 hb1 hb2 hb3 hb4 hb5 hb6 hb7
            go_wp2_with fail
            go_ret
            exact OneB.bool rfl KF.out

end

section
open Go.RowKit

abbrev nTea : List UInt8 := [84, 101, 97]
abbrev nNut : List UInt8 := [78, 117, 116]
abbrev nOil : List UInt8 := [79, 105, 108]
abbrev eNut : It := (nNut, [⟨2, 1, 7, 4⟩])
abbrev eTea : It := (nTea, [⟨1, 1, 5, 3⟩])
abbrev eTeaY : It := (nTea, [⟨1, 2, 2, 9⟩, ⟨1, 1, 5, 3⟩])
abbrev eTeaZ : It := (nTea, [⟨1, 1, 5, 3⟩, ⟨1, 2, 2, 9⟩])
abbrev cX : Ca := (([(1, 1), (2, 1)], []), [eNut, eTea])
abbrev cY : Ca := (([], []), [eTeaY, eNut])
abbrev cZ : Ca := (([(1, 2), (2, 1)], []), [eNut, eTeaZ])
abbrev cO : Ca := (([], []), [])
abbrev cX1 : Ca := (([(1, 1)], []), [eNut, eTea])
abbrev cX2 : Ca := (([(1, 1)], [(2, 1)]), [eNut, eTea])
theorem p1 : validK cX = true := by decide
theorem p2 : validK cY = false := by decide
theorem p3 : validK cO = true := by decide
theorem p4 : validK cX1 = false := by decide
theorem p5 : validK cX2 = false := by decide
theorem p6 : canonK cY = some cZ := by decide
theorem p7 : qtyC cX nTea = (5, 0) := by decide
theorem p8 : qtyC cZ nTea = (2, 0) := by decide
theorem p9 : qtyC cX nOil = (0, 9) := by decide
theorem p10 : qtyC cY nTea = (0, 2) := by decide
theorem p11 : namesC cX = [nNut, nTea] := by decide
theorem p12 : unitsC cX = 12 := by decide
theorem p13 : unitsC cZ = 9 := by decide
theorem p14 : dotsC cX nTea = [(1, 1)] := by decide
theorem p15 : dotsC cX nOil = [] := by decide
theorem p16 : dotsC cX [] = [(1, 1), (2, 1)] := by decide
theorem p17 : timeC cX = (5, 0) := by decide
theorem p18 : timeC cO = (1, 0) := by decide
theorem q1 : smallK cX := ⟨by decide, by decide, by decide⟩
theorem q2 : smallK cY := ⟨by decide, by decide, by decide⟩
theorem q3 : smallK cZ := ⟨by decide, by decide, by decide⟩
theorem q4 : smallK cO := ⟨by decide, by decide, by decide⟩
theorem q5 : smallK cX1 := ⟨by decide, by decide, by decide⟩
theorem q6 : smallK cX2 := ⟨by decide, by decide, by decide⟩

end

end Go.Proofs.YtfmhhmceoikgpaaGreat
