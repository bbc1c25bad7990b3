/- The law CartHolds, from what known() is. -/
import Derived.Test.YtfmhhmceoikgpaaGreatNK
namespace Go.Proofs.YtfmhhmceoikgpaaGreat
open Go.RowKit

theorem sumQ_take {l : List It} {j : Nat} {x : It} (h : l[j]? = some x) : sumQ (l.take (j + 1)) = sumQ (l.take j) + (qtyI x).1 := by rw [take_step h, sumQ_snoc]
theorem names_at {l : List It} {j : Nat} {x : It} (h : l[j]? = some x) : (l.map (·.1))[j]? = some x.1 := by rw [List.getElem?_map, h]; rfl
theorem units_valid {d : Ca} (h : validK d = true) : unitsC d = sumQ d.2 := by unfold unitsC; rw [if_pos h]
theorem HoldsS.form {W : World} {v : Value} {ns : List (List UInt8)} (h : HoldsS W v ns) : ∃ D e, v = .slice D ns.length e ∧ HoldsS W (.slice D ns.length e) ns := by
  obtain ⟨D, e, rfl, h1⟩ := h
  exact ⟨D, e, rfl, D, e, rfl, h1⟩
theorem Holds.form {W : World} {v : Value} {ds : List (Int × Int)} (h : Holds W v ds) : ∃ D e, v = .slice D ds.length e ∧ Holds W (.slice D ds.length e) ds := by
  obtain ⟨D, e, rfl, h1⟩ := h
  exact ⟨D, e, rfl, D, e, rfl, h1⟩

theorem KK.sub {w W : World} {L L' : List (Nat × CaV)} (h : KK w L W) (hs : ∀ p ∈ L', p ∈ L) : KK w L' W := ⟨fun p hp => h.box p (hs p hp), h.bel⟩

set_option maxRecDepth 100000 in
set_option maxHeartbeats 8000000 in
theorem lawHolds10 (KN : KnownOK) (c : CaV) (w : World) (hc : CaOK w c) :
    Calls Tryz.prog 7 #[mkC c] w (TrueB w) := by
  have K0 := Lib.hid (KK.new w c hc)
  have HKN := Lib.hid KN
  obtain ⟨lc, hlc⟩ : ∃ lc, lightK c = lc := ⟨_, rfl⟩
  have HLC := Lib.hid hlc
  clear hc hlc KN
  cases lc with
  | false =>
    go_enter Tryz.func7, Tryz.ntmps7
    go_upto_region 1 with fail
    generalize World.alloc w _ = w2 at K0 ⊢
    obtain ⟨x0, x1, x2, xl, _⟩ := K0.out.sp
    go_wp2_with fail
    refine (lawLight10 c false w2 (K0.out.ok (g := w.heap.size) (by simp)) HLC.out).mono ?_
    rintro e w3 ⟨rfl, hb⟩
    have KB := Lib.hid (K0.out.next hb).bel
    clear hb K0 x0 x1 x2 xl
    go_wp2_with fail
    refine (HKN.out _).mono ?_
    rintro e wk ⟨rfl, hb⟩
    have KC := Lib.hid (below_trans KB.out hb)
    clear hb KB
    go_wp2_with fail
    go_ret
    exact OneB.bool rfl KC.out
  | true =>
    have HS := Lib.hid (lightK_small HLC.out)
    have hl := lightK_fits HLC.out
    obtain ⟨r, hr⟩ : ∃ r, canonK c.ca = r := ⟨_, rfl⟩
    have HR := Lib.hid hr
    have HSD := Lib.hid (show ∀ d, r = some d → smallK d ∧ validK d = true from fun d hd => by
      subst hd
      exact ⟨canonK_small hr HS.out.1 HS.out.2.1 (by show c.vs.length + c.ls.length ≤ 80; omega), canonK_valid hr⟩)
    obtain ⟨vc, hvc⟩ : ∃ vc, validK c.ca = vc := ⟨_, rfl⟩
    have HVC := Lib.hid hvc
    have HSF := Lib.hid (show vc = true → r = some c.ca from fun h => by rw [← hr]; exact canonK_self (by rw [hvc, h]))
    clear hr hl hvc
    go_enter Tryz.func7, Tryz.ntmps7
    go_upto_region 1 with fail
    generalize World.alloc w _ = w2 at K0 ⊢
    obtain ⟨x0, x1, x2, xl, _⟩ := K0.out.sp
    go_wp2_with fail
    refine (lawLight10 c true w2 (K0.out.ok (g := w.heap.size) (by simp)) HLC.out).mono ?_
    rintro e w3 ⟨rfl, hb⟩
    have K1 := Lib.hid (K0.out.next hb)
    clear hb K0 x0 x1 x2 xl
    obtain ⟨x0, x1, x2, xl, _⟩ := K1.out.sp
    go_wp2_with fail
    refine (caCanon c r w3 (K1.out.ok (g := w.heap.size) (by simp)) HS.out.n HR.out).mono ?_
    rintro e w4 ⟨hcr, hb⟩
    cases r with
    | none =>
      obtain rfl := hcr
      cases vc with
      | true => have := HSF.out rfl; cases this
      | false =>
        have KN4 := Lib.hid (K1.out.next hb)
        have K2 := Lib.hid ((K1.out.next hb).alloc (.cells #[.slice none 0 0, .slice none 0 0, .slice none 0 0] 28))
        clear hb K1 x0 x1 x2 xl
        obtain ⟨x0, x1, x2, xl, _⟩ := KN4.out.sp
        clear KN4
        go_wp2_with fail
        refine (caValid c false _ (K2.out.ok (g := w.heap.size) (by simp)) HS.out.k HVC.out).mono ?_
        rintro e w5 ⟨rfl, hb⟩
        have KB := Lib.hid (K2.out.next hb).bel
        clear hb K2 x0 x1 x2 xl
        go_wp2_with fail
        refine (HKN.out _).mono ?_
        rintro e wk ⟨rfl, hb⟩
        have KC := Lib.hid (below_trans KB.out hb)
        clear hb KB
        go_wp2_with fail
        go_ret
        exact OneB.bool rfl KC.out
    | some d =>
      obtain ⟨k, rfl, hk, rv, rl, ri⟩ := hcr
      have hok : CaOK w4 k := CaOK.of_rows rv rl ri
      have KN4 := Lib.hid (K1.out.next hb)
      have K2 := Lib.hid (KK.push (L := [(w.heap.size, c)]) (K1.out.next hb) k hok w4.heap.size rfl)
      have HK := Lib.hid hk
      have HSK := Lib.hid (show smallK k.ca from by rw [hk]; exact (HSD.out d rfl).1)
      have HVK := Lib.hid (show validK k.ca = true from by rw [hk]; exact (HSD.out d rfl).2)
      clear hb hok rv rl ri hk K1 x0 x1 x2 xl
      obtain ⟨x0, x1, x2, xl, _⟩ := KN4.out.sp
      clear KN4
      go_upto_region 6 with fail
      obtain ⟨gk, hgk⟩ : ∃ g, w4.heap.size = g := ⟨_, rfl⟩
      rw [hgk] at K2 ⊢
      clear hgk x0 x1 x2 xl
      generalize World.alloc w4 _ = w5 at K2 ⊢
      have K2 := Lib.hid (show KK w [(w.heap.size, c), (gk, k)] w5 from K2.out)
      obtain ⟨ns, hns⟩ : ∃ ns, (its k.xs).map (·.1) = ns := ⟨_, rfl⟩
      have HNS := Lib.hid hns
      have HNC := Lib.hid (show namesC k.ca = ns from by rw [namesC_valid HVK.out]; exact hns)
      have hnl : ns.length = k.xs.length := by rw [← hns, List.length_map, its_len]
      have HNL := Lib.hid hnl
      have HG := Lib.hid (show Good (its k.xs) from (validK_iff.1 HVK.out).2.1)
      have hkl : k.xs.length ≤ 80 := by have := HSK.out.items.1; omega
      clear hns hnl
      go_cut [46] (fun s wx => s = .bool false ∧ Hid (KK w [(w.heap.size, c), (gk, k)] wx))
      case first =>
        obtain ⟨x0, x1, x2, xl⟩ := K2.out.cells (g := w.heap.size) (c := c) (by simp)
        obtain ⟨y0, y1, y2, yl⟩ := K2.out.cells (g := gk) (c := k) (by simp)
        go_wp2_with fail
        refine (caValid k true _ (K2.out.ok (g := gk) (by simp)) HSK.out.k HVK.out).mono ?_
        rintro e w6 ⟨rfl, hb⟩
        have K3 := Lib.hid (K2.out.next hb)
        clear hb K2 x0 x1 x2 xl y0 y1 y2 yl
        obtain ⟨x0, x1, x2, xl⟩ := K3.out.cells (g := w.heap.size) (c := c) (by simp)
        obtain ⟨y0, y1, y2, yl⟩ := K3.out.cells (g := gk) (c := k) (by simp)
        go_wp2_with fail
        refine (lawCanon10 k k 0 _ (K3.out.ok (g := gk) (by simp)) (K3.out.ok (g := gk) (by simp)) HSK.out (by omega) (.inl ⟨canonK_self HVK.out, rfl⟩)).mono ?_
        rintro e w7 ⟨rfl, hb⟩
        have K4 := Lib.hid (K3.out.next hb)
        clear hb K3 x0 x1 x2 xl y0 y1 y2 yl
        obtain ⟨x0, x1, x2, xl⟩ := K4.out.cells (g := w.heap.size) (c := c) (by simp)
        obtain ⟨y0, y1, y2, yl⟩ := K4.out.cells (g := gk) (c := k) (by simp)
        go_wp2_with fail
        refine (caValid c vc _ (K4.out.ok (g := w.heap.size) (by simp)) HS.out.k HVC.out).mono ?_
        rintro e w8 ⟨rfl, hb⟩
        have K5 := Lib.hid (K4.out.next hb)
        clear hb K4 x0 x1 x2 xl y0 y1 y2 yl
        obtain ⟨x0, x1, x2, xl⟩ := K5.out.cells (g := w.heap.size) (c := c) (by simp)
        obtain ⟨y0, y1, y2, yl⟩ := K5.out.cells (g := gk) (c := k) (by simp)
        cases vc with
        | false =>
          go_wp2_with fail
          go_meet
          exact ⟨by rfl, K5⟩
        | true =>
          have hd : d = c.ca := Option.some.inj (HSF.out rfl)
          have HE := Lib.hid (show sameC k.ca c.ca = true from sameC_iff.2 (HK.out.trans hd))
          clear hd
          have hcl : c.xs.length ≤ 80 := by have := HS.out.items.1; omega
          go_wp2_with fail
          refine (refEqual10 k c true _ (K5.out.ok (g := gk) (by simp)) (K5.out.ok (g := w.heap.size) (by simp)) (by omega) (by omega) HE.out).mono ?_
          rintro e w9 ⟨rfl, hb⟩
          have K6 := Lib.hid (K5.out.next hb)
          clear hb K5 x0 x1 x2 xl y0 y1 y2 yl
          go_wp2_with fail
          go_meet
          exact ⟨by rfl, K6⟩
      case rest =>
      clear K2
      obtain ⟨rfl, K6⟩ := hcut
      have K6 := Lib.hid (show KK w [(w.heap.size, c), (gk, k)] wc from K6.out)
      obtain ⟨x0, x1, x2, xl⟩ := K6.out.cells (g := w.heap.size) (c := c) (by simp)
      obtain ⟨y0, y1, y2, yl⟩ := K6.out.cells (g := gk) (c := k) (by simp)
      go_wp2_with fail
      refine (caNames k ns _ (K6.out.ok (g := gk) (by simp)) HSK.out.k HNC.out).mono ?_
      rintro e w10 ⟨⟨v, rfl, hv⟩, hb⟩
      obtain ⟨D, ne, rfl, hv⟩ := hv.form
      have K7 := Lib.hid (K6.out.next hb)
      have HV7 := Lib.hid hv
      clear hb hv K6 x0 x1 x2 xl y0 y1 y2 yl
      go_wp2_with fail
      go_loopw [5, 8, 9, 10, 51, 55, 59, 60] (fun s5 _ _ _ i _ _ _ wr => ∃ j : Nat, j ≤ ns.length ∧ i = .int .i64 j ∧ s5 = .int .i64 (sumQ ((its k.xs).take j)) ∧ Hid (KK w [(w.heap.size, c), (gk, k)] wr) ∧ Hid (HoldsS wr (.slice D ns.length ne) ns)) (fun _ _ _ _ i _ _ _ _ => ns.length - (intOf i).toNat)
      case atStart => exact ⟨0, by omega, rfl, rfl, K7, HV7⟩
      case round =>
        clear K7 HV7
        obtain ⟨j, hj, rfl, rfl, K, HV⟩ := hrel
        by_cases hlt : j < ns.length
        · have i0 : (j : Int) < (ns.length : Int) := by omega
          obtain ⟨x, hx⟩ : ∃ x, (its k.xs)[j]? = some x := ⟨_, List.getElem?_eq_getElem (by rw [its_len, ← HNL.out]; exact hlt)⟩
          obtain ⟨b, off, rfl, hbl, hc0⟩ := SlAt.cell1 (f := fun l : List UInt8 => Value.string ⟨l.toArray⟩) HV.out.at hlt
          have hnx : ns[j] = x.1 := by
            have h1 : ns[j]? = some x.1 := by rw [← HNS.out]; exact names_at hx
            rw [List.getElem?_eq_getElem hlt] at h1
            exact Option.some.inj h1
          rw [hnx] at hc0
          have hok := HG.out.1 x (List.mem_of_getElem? hx)
          have hq1 := newest_pos hok
          have hqs := qtyI_small x
          have hsm := sumQ_small ((its k.xs).take j)
          have hl2 : ((its k.xs).take j).length ≤ 100 := by
            rw [List.length_take, its_len]
            omega
          have hqe := newR_ok hok
          rw [hqe] at hqs
          have HQ := Lib.hid (show qtyC k.ca x.1 = ((newR x.2).1.q, 0) from by rw [qtyC_valid HVK.out]; exact HG.out.qty hx)
          have HNQ := Lib.hid (show sumQ ((its k.xs).take (j + 1)) = sumQ ((its k.xs).take j) + (newR x.2).1.q from by rw [sumQ_take hx, hqe])
          have hgd := HG.out.dots hx
          have HD := Lib.hid (show dotsC k.ca x.1 = dotsM x.2 from by rw [dotsC_valid HVK.out]; exact hgd.1)
          have hdl := hgd.2
          have hdn : (((dotsM x.2).length : Int) == 0) = false := eqF (by omega)
          have hnl : ns.length ≤ 80 := by rw [HNL.out]; exact hkl
          generalize (newR x.2).1.q = q at *
          generalize dotsM x.2 = ds at *
          generalize sumQ ((its k.xs).take j) = s at *
          generalize ((its k.xs).take j).length = lk at *
          clear hx hnx hok hqe hgd
          obtain ⟨y0, y1, y2, yl⟩ := K.out.cells (g := gk) (c := k) (by simp)
          go_wp2_with fail
          refine (caQty k x.1 q 0 _ (K.out.ok (g := gk) (by simp)) HSK.out.k HQ.out).mono ?_
          rintro e w11 ⟨rfl, hb⟩
          have K8 := Lib.hid (K.out.next hb)
          have HV8 := Lib.hid (HV.out.below hb)
          clear hb K HV hc0 hbl y0 y1 y2 yl
          obtain ⟨y0, y1, y2, yl⟩ := K8.out.cells (g := gk) (c := k) (by simp)
          go_wp2_with fail
          refine (caDots k x.1 ds _ (K8.out.ok (g := gk) (by simp)) HSK.out.k HD.out).mono ?_
          rintro e w12 ⟨⟨v, rfl, hv⟩, hb⟩
          obtain ⟨E, de, rfl, _⟩ := hv.form
          have K9 := Lib.hid (K8.out.next hb)
          have HV9 := Lib.hid (HV8.out.below hb)
          clear hb hv K8 HV8 y0 y1 y2 yl
          go_wp2_with fail
          go_roundw
          case rel => exact ⟨j + 1, by omega, by go_num, by rw [HNQ.out], K9, HV9⟩
          case measure => simp [intOf]; omega
        · have i0 : ¬ (j : Int) < (ns.length : Int) := by omega
          obtain rfl : j = ns.length := by omega
          obtain ⟨u, hu⟩ : ∃ u, sumQ ((its k.xs).take ns.length) = u := ⟨_, rfl⟩
          have HU := Lib.hid (show unitsC k.ca = u from by
            rw [units_valid HVK.out, ← hu, HNL.out, ← its_len k.xs, List.take_length]; rfl)
          rw [hu]
          have hun : ((ns.length : Int) == (k.xs.length : Int)) = true := eqT (by rw [HNL.out])
          have HD := Lib.hid (show dotsC k.ca [] = dotsI (its k.xs) from by rw [dotsC_valid HVK.out]; unfold dotsK; rw [if_pos rfl]; rfl)
          have HM := Lib.hid (show missC k.vs k.ls (dotsI (its k.xs)) = [] from validK_miss HVK.out)
          have HW := Lib.hid (show ∀ d ∈ k.vs, validD d.1 d.2 = true from compC_valid (validK_iff.1 HVK.out).1)
          have HN := Lib.hid (show k.vs.length + k.ls.length + (dotsI (its k.xs)).length ≤ 1000 from HSK.out.k.2)
          have C1 := Lib.hid fun W (h : CaOK W k) => caUnits k u W h HSK.out.k HU.out
          have C2 := Lib.hid fun W (h : CaOK W k) => show Calls Tryz.prog 23 #[mkC k, .string { data := #[] }] W fun e w' => (∃ v, e = .returned v ∧ Holds w' v (dotsI (its k.xs))) ∧ Below W.heap.size W w' from caDots k [] (dotsI (its k.xs)) W h HSK.out.k HD.out
          have hS := KK.sub (L' := [(gk, k)]) K.out (by simp)
          have hS' := hS.sp
          clear hu K HV
          go_wp2_with fail
          go_region_held3 (fun W => W.cell? ⟨gk, 0, none⟩ = some k.v ∧ W.cell? ⟨gk, 1, none⟩ = some k.l ∧ W.cell? ⟨gk, 2, none⟩ = some (.slice k.I k.xs.length k.ni) ∧ gk < W.heap.size ∧ KK w [(gk, k)] W)
            (first
              | assumption
              | (exact KK.sp (by assumption))
              | (exact KK.sp (KK.drew (by assumption))))
            (first
              | (go_at_call 22; refine (C1.out _ (KK.ok (g := gk) (c := k) (by first | assumption | exact KK.drew (by assumption)) (by simp))).mono ?_
                 rintro e wa ⟨rfl, hb1⟩
                 have hS1 := KK.next (by first | assumption | exact KK.drew (by assumption)) hb1
                 have hS1' := hS1.sp)
              | (go_at_call 23; refine (C2.out _ (KK.ok (g := gk) (c := k) (by first | assumption | exact KK.drew (by assumption)) (by simp))).mono ?_
                 rintro e wb ⟨⟨v1, rfl, hv1⟩, hb2⟩
                 have hS2 := KK.next (by first | assumption | exact KK.drew (by assumption)) hb2
                 have hS2' := hS2.sp
                 obtain ⟨E, ec, rfl, _⟩ := id hv1)
              | (go_at_call 33; refine (ctxMissing_v _ E ec k.vs k.ls (dotsI (its k.xs)) _ (KK.ok (g := gk) (c := k) (by first | assumption | exact KK.drew (by assumption)) (by simp)).ctx (by first | exact hv1 | exact hv1.below (Below.refl _ _).drew) HN.out HW.out).mono ?_
                 rintro e wd ⟨⟨v2, rfl, hv2⟩, hb3⟩
                 rw [HM.out] at hv2
                 have hS3 := KK.next (by first | assumption | exact KK.drew (by assumption)) hb3
                 have hS3' := hS3.sp
                 obtain ⟨F, fc, rfl, _⟩ := id hv2)
              | (go_at_call 9; refine (HKN.out _).mono ?_
                 rintro e wg ⟨rfl, hb4⟩
                 have hS4 := KK.next (by first | assumption | exact KK.drew (by assumption)) hb4
                 have hS4' := hS4.sp))
          all_goals
            have KF := Lib.hid hS4.bel
            clear hS hS' hS1 hS1' hS2 hS2' hS3 hS3' hS4 hS4' hv1 hv2 hb1 hb2 hb3 hb4
            go_wp2_with fail
            go_ret
            exact OneB.bool rfl KF.out

end Go.Proofs.YtfmhhmceoikgpaaGreat
