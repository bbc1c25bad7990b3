/- Several texts in one: CanL. -/
import Derived.Test.YtgdnibahiomneaaGreatMAR
namespace Go.Proofs.YtgdnibahiomneaaGreat

section
open Go.RowKit

theorem KK3.sp {w W : World} {g g' g'' : Nat} {c d t : CaV} (h : KK w [(g, c), (g', d), (g'', t)] W) : W.cell? ⟨g, 0, none⟩ = some c.v ∧ W.cell? ⟨g, 1, none⟩ = some c.l ∧ W.cell? ⟨g, 2, none⟩ = some c.i ∧ W.cell? ⟨g', 0, none⟩ = some d.v ∧ W.cell? ⟨g', 1, none⟩ = some d.l ∧ W.cell? ⟨g', 2, none⟩ = some d.i ∧ W.cell? ⟨g'', 0, none⟩ = some t.v ∧ W.cell? ⟨g'', 1, none⟩ = some t.l ∧ W.cell? ⟨g'', 2, none⟩ = some t.i ∧ g < W.heap.size ∧ g' < W.heap.size ∧ g'' < W.heap.size :=
  ⟨(h.blk (c := c) (by simp)).cell0, (h.blk (c := c) (by simp)).cell1, (h.blk (c := c) (by simp)).cell2, (h.blk (c := d) (by simp)).cell0, (h.blk (c := d) (by simp)).cell1, (h.blk (c := d) (by simp)).cell2, (h.blk (c := t) (by simp)).cell0, (h.blk (c := t) (by simp)).cell1, (h.blk (c := t) (by simp)).cell2, (h.blk (c := c) (by simp)).lt, (h.blk (c := d) (by simp)).lt, (h.blk (c := t) (by simp)).lt⟩
theorem okD_of {d : Int × Int} (h : validD d.1 d.2 = true) : okD d := by
  unfold validD at h
  have := of_decide_eq_true h
  exact ⟨⟨by omega, by omega⟩, ⟨by omega, by omega⟩⟩
theorem okMk_of {m : Mk} (h : validM m = true) (ht : m.t < 18446744073709551616) : okMk m := by
  unfold validM qtyN at h
  simp only [Bool.and_eq_true, decide_eq_true_eq] at h
  obtain ⟨h1, ⟨h2, h3⟩, _⟩ := h
  have h4 := okD_of (d := (m.r, m.c)) h1
  exact ⟨h4.1, h4.2, ⟨by omega, by omega⟩, ht⟩
/-- The numbers of a valid cart have no sign and 64 bits. -/
theorem okCa_of {c : Ca} (hv : validK c = true) (hf : Fit14 c) : okCa c := by
  obtain ⟨f1, f2, f3, _, f4⟩ := hf
  unfold validK at hv
  simp only [Bool.and_eq_true] at hv
  obtain ⟨h1, h2, _⟩ := hv
  obtain ⟨h3, _, h4⟩ := validC_iff.1 (compC_iff.1 h1).2
  have h5 := ((validV_iff c.1.1).1 h3).1
  have h6 := (validL_good.1 h2).1
  refine ⟨⟨⟨by omega, fun d hd => okD_of (h5 d hd)⟩, ⟨by omega, fun d hd => okD_of (h4 d hd)⟩⟩, by omega, fun x hx => ⟨by have := (f4 x hx).1; omega, by have := (f4 x hx).2.1; omega, fun m hm => ?_⟩⟩
  have h7 := h6 x hx
  unfold okI at h7
  simp only [Bool.and_eq_true] at h7
  exact okMk_of (List.all_eq_true.1 h7.2.2.1 m hm) ((f4 x hx).2.2 m hm)
theorem HoldsB.take {W : World} {A : Option Addr} {n k : Nat} {xs : List UInt8} (h : HoldsB W (.slice A xs.length n) xs) (hk : k ≤ xs.length) : HoldsB W (.slice A k n) (xs.take k) := by
  obtain ⟨A', c', e, h1, h2, h3⟩ := h
  cases e
  refine ⟨A, n, by rw [List.length_take, Nat.min_eq_left hk], fun h0 => ?_, by rw [List.length_take]; omega, h3⟩
  obtain ⟨b, off, e, hb, hc⟩ := h1 (by rw [List.length_take] at h0; omega)
  refine ⟨b, off, e, hb, fun j x hj i u hi => hc j x ?_ i u hi⟩
  rw [List.getElem?_take] at hj
  split at hj
  · exact hj
  · cases hj

set_option maxRecDepth 100000 in
set_option maxHeartbeats 4000000 in
theorem lawHolds_14 (a b c : CaV) (w : World) (hf : CanOK w) (hk : Known14 w) (ha : CaOK w a) (hb : CaOK w b) (hc : CaOK w c) (ta : TimC a.ca) (tb : TimC b.ca) (tc : TimC c.ca) :
    Calls Tryz.prog 7 #[mkC a, mkC b, mkC c] w (OneB (.bool true) w) := by
  have HF := Lib.hid hf
  have HKN := Lib.hid hk
  have h1 : Below w.heap.size w (w.alloc (.cells #[a.v, a.l, a.i] 28)) := (Below.refl _ w).alloc (Nat.le_refl _) _
  have h2 : Below w.heap.size w ((w.alloc (.cells #[a.v, a.l, a.i] 28)).alloc (.cells #[b.v, b.l, b.i] 28)) := h1.alloc (by simp) _
  have HK := Lib.hid (KK.push (KK.push (L := [(w.heap.size, a)]) (KK.new w a ha) b (hb.below h1) (w.heap.size + 1) (by simp)) c (hc.below h2) (w.heap.size + 2) (by simp))
  replace HK := Lib.hid (show KK w [(w.heap.size, a), (w.heap.size + 1, b), (w.heap.size + 2, c)] _ from HK.out)
  obtain ⟨sa, hsa⟩ : ∃ p, small14 a.ca = p := ⟨_, rfl⟩
  have HSa := Lib.hid fun (W : World) (h : CaOK W a) => refSmall14 a sa W h hsa
  have HFa := Lib.hid fun (h : sa = true) => small_fit (by rw [hsa, h]) ta
  obtain ⟨sb, hsb⟩ : ∃ p, small14 b.ca = p := ⟨_, rfl⟩
  have HSb := Lib.hid fun (W : World) (h : CaOK W b) => refSmall14 b sb W h hsb
  have HFb := Lib.hid fun (h : sb = true) => small_fit (by rw [hsb, h]) tb
  obtain ⟨sc, hsc⟩ : ∃ p, small14 c.ca = p := ⟨_, rfl⟩
  have HSc := Lib.hid fun (W : World) (h : CaOK W c) => refSmall14 c sc W h hsc
  have HFc := Lib.hid fun (h : sc = true) => small_fit (by rw [hsc, h]) tc
  have HNS := Lib.hid (show sa = true → a.xs.length ≤ 20 ∧ ∀ x ∈ a.xs, x.ms.length ≤ 20 from fun h => by
    obtain ⟨_, _, k1, k2⟩ := small_iff.1 (hsa.trans h)
    exact ⟨by simpa [CaV.ca, its] using k1, fun x hx => (k2 x.it (List.mem_map_of_mem hx)).1⟩)
  have HNT := Lib.hid (show sb = true → b.xs.length ≤ 20 from fun h => by
    obtain ⟨_, _, k1, _⟩ := small_iff.1 (hsb.trans h)
    simpa [CaV.ca, its] using k1)
  clear hf hk h1 h2 ha hb hc ta tb tc hsa hsb hsc
  go_enter Tryz.func7, Tryz.ntmps7
  go_wp2_with fail
  rw [show w.heap.size + 1 + 1 = w.heap.size + 2 from rfl]
  generalize World.alloc (World.alloc (World.alloc w _) _) _ = w2 at HK ⊢
  obtain ⟨x0, x1, x2, y0, y1, y2, z0, z1, z2, xl, yl, zl⟩ := KK3.sp HK.out
  go_wp2_with fail
  refine (HSa.out _ (HK.out.ok (g := w.heap.size) (by simp))).mono ?_
  rintro e9 wsa ⟨rfl, hb⟩
  clear x0 x1 x2 y0 y1 y2 z0 z1 z2 xl yl zl
  replace HK := Lib.hid (HK.out.next hb)
  clear hb
  cases sa with
  | false =>
    go_wp2_with fail
    refine (HKN.out _ HK.out.bel).mono ?_
    rintro e9 w9 ⟨rfl, hb⟩
    replace HK := Lib.hid (HK.out.next hb)
    clear hb
    go_wp2_with fail
    go_ret
    exact ⟨rfl, HK.out.bel⟩
  | true =>
    obtain ⟨x0, x1, x2, y0, y1, y2, z0, z1, z2, xl, yl, zl⟩ := KK3.sp HK.out
    go_wp2_with fail
    refine (HSb.out _ (HK.out.ok (g := w.heap.size + 1) (by simp))).mono ?_
    rintro e9 wsb ⟨rfl, hb⟩
    clear x0 x1 x2 y0 y1 y2 z0 z1 z2 xl yl zl
    replace HK := Lib.hid (HK.out.next hb)
    clear hb
    cases sb with
    | false =>
      go_wp2_with fail
      refine (HKN.out _ HK.out.bel).mono ?_
      rintro e9 w9 ⟨rfl, hb⟩
      replace HK := Lib.hid (HK.out.next hb)
      clear hb
      go_wp2_with fail
      go_ret
      exact ⟨rfl, HK.out.bel⟩
    | true =>
      obtain ⟨x0, x1, x2, y0, y1, y2, z0, z1, z2, xl, yl, zl⟩ := KK3.sp HK.out
      go_wp2_with fail
      refine (HSc.out _ (HK.out.ok (g := w.heap.size + 2) (by simp))).mono ?_
      rintro e9 wsc ⟨rfl, hb⟩
      clear x0 x1 x2 y0 y1 y2 z0 z1 z2 xl yl zl
      replace HK := Lib.hid (HK.out.next hb)
      clear hb
      cases sc with
      | false =>
        go_wp2_with fail
        refine (HKN.out _ HK.out.bel).mono ?_
        rintro e9 w9 ⟨rfl, hb⟩
        replace HK := Lib.hid (HK.out.next hb)
        clear hb
        go_wp2_with fail
        go_ret
        exact ⟨rfl, HK.out.bel⟩
      | true =>
        have fa := HFa.out (by simp)
        have fb := HFb.out (by simp)
        have fc := HFc.out (by simp)
        have hns := HNS.out (by simp)
        have hnt := HNT.out (by simp)
        obtain ⟨va, hva⟩ : ∃ v, validK a.ca = v := ⟨_, rfl⟩
        have HVa := Lib.hid fun (W : World) (hB : Below w.heap.size w W) (h : CaOK W a) => (show Calls Tryz.prog 14 #[mkC a] W (OneB (.bool va) W) from hva ▸ HF.out.val a W hB h fa)
        have HWa := Lib.hid hva
        obtain ⟨vb, hvb⟩ : ∃ v, validK b.ca = v := ⟨_, rfl⟩
        have HVb := Lib.hid fun (W : World) (hB : Below w.heap.size w W) (h : CaOK W b) => (show Calls Tryz.prog 14 #[mkC b] W (OneB (.bool vb) W) from hvb ▸ HF.out.val b W hB h fb)
        have HWb := Lib.hid hvb
        obtain ⟨vc, hvc⟩ : ∃ v, validK c.ca = v := ⟨_, rfl⟩
        have HVc := Lib.hid fun (W : World) (hB : Below w.heap.size w W) (h : CaOK W c) => (show Calls Tryz.prog 14 #[mkC c] W (OneB (.bool vc) W) from hvc ▸ HF.out.val c W hB h fc)
        have HWc := Lib.hid hvc
        have HFA := Lib.hid fa
        have HFB := Lib.hid fb
        have HFC := Lib.hid fc
        have HLA := Lib.hid hns
        have HLB := Lib.hid hnt
        clear fa fb fc hva hvb hvc hns hnt HSa HSb HSc HFa HFb HFc HNS HNT
        obtain ⟨x0, x1, x2, y0, y1, y2, z0, z1, z2, xl, yl, zl⟩ := KK3.sp HK.out
        go_wp2_with fail
        refine (HVa.out _ HK.out.bel (HK.out.ok (g := w.heap.size) (by simp))).mono ?_
        rintro e9 wva ⟨rfl, hb⟩
        clear x0 x1 x2 y0 y1 y2 z0 z1 z2 xl yl zl
        replace HK := Lib.hid (HK.out.next hb)
        clear hb
        cases va with
        | false =>
          go_wp2_with fail
          refine (HKN.out _ HK.out.bel).mono ?_
          rintro e9 w9 ⟨rfl, hb⟩
          replace HK := Lib.hid (HK.out.next hb)
          clear hb
          go_wp2_with fail
          go_ret
          exact ⟨rfl, HK.out.bel⟩
        | true =>
          obtain ⟨x0, x1, x2, y0, y1, y2, z0, z1, z2, xl, yl, zl⟩ := KK3.sp HK.out
          go_wp2_with fail
          refine (HVb.out _ HK.out.bel (HK.out.ok (g := w.heap.size + 1) (by simp))).mono ?_
          rintro e9 wvb ⟨rfl, hb⟩
          clear x0 x1 x2 y0 y1 y2 z0 z1 z2 xl yl zl
          replace HK := Lib.hid (HK.out.next hb)
          clear hb
          cases vb with
          | false =>
            go_wp2_with fail
            refine (HKN.out _ HK.out.bel).mono ?_
            rintro e9 w9 ⟨rfl, hb⟩
            replace HK := Lib.hid (HK.out.next hb)
            clear hb
            go_wp2_with fail
            go_ret
            exact ⟨rfl, HK.out.bel⟩
          | true =>
            obtain ⟨x0, x1, x2, y0, y1, y2, z0, z1, z2, xl, yl, zl⟩ := KK3.sp HK.out
            go_wp2_with fail
            refine (HVc.out _ HK.out.bel (HK.out.ok (g := w.heap.size + 2) (by simp))).mono ?_
            rintro e9 wvc ⟨rfl, hb⟩
            clear x0 x1 x2 y0 y1 y2 z0 z1 z2 xl yl zl
            replace HK := Lib.hid (HK.out.next hb)
            clear hb
            cases vc with
            | false =>
              go_wp2_with fail
              refine (HKN.out _ HK.out.bel).mono ?_
              rintro e9 w9 ⟨rfl, hb⟩
              replace HK := Lib.hid (HK.out.next hb)
              clear hb
              go_wp2_with fail
              go_ret
              exact ⟨rfl, HK.out.bel⟩
            | true =>
              clear HVa HVb HVc
              have hoka := okCa_of HWa.out HFA.out
              have hokb := okCa_of HWb.out HFB.out
              have hea : encV a.ca = byC a.ca := by unfold encV; rw [if_pos HWa.out]
              have heb : encV b.ca = byC b.ca := by unfold encV; rw [if_pos HWb.out]
              have HE1 := Lib.hid fun (W : World) (hB : Below w.heap.size w W) (h : CaOK W a) => HF.out.enc a W hB h HFA.out
              have HE2 := Lib.hid fun (W : World) (hB : Below w.heap.size w W) (h : CaOK W b) => HF.out.enc b W hB h HFB.out
              have hcmp : ∀ (p q : Ca), validK p = true → validK q = true → cmpV14 p q = ordB (byC p) (byC q) := fun p q h1 h2 => by unfold cmpV14; rw [h1, h2, if_pos (show (true && true) = true from rfl)]
              have HC1 := Lib.hid fun (W : World) (hB : Below w.heap.size w W) (h1 : CaOK W a) (h2 : CaOK W b) => HF.out.cmp a b W hB h1 h2 HFA.out HFB.out
              have HC2 := Lib.hid fun (W : World) (hB : Below w.heap.size w W) (h1 : CaOK W b) (h2 : CaOK W c) => HF.out.cmp b c W hB h1 h2 HFB.out HFC.out
              have HC3 := Lib.hid fun (W : World) (hB : Below w.heap.size w W) (h1 : CaOK W a) (h2 : CaOK W c) => HF.out.cmp a c W hB h1 h2 HFA.out HFC.out
              have HC4 := Lib.hid fun (W : World) (hB : Below w.heap.size w W) (h1 : CaOK W b) (h2 : CaOK W a) => HF.out.cmp b a W hB h1 h2 HFB.out HFA.out
              rw [hea, HWa.out] at HE1
              rw [heb, HWb.out] at HE2
              rw [hcmp _ _ HWa.out HWb.out, HWa.out, HWb.out] at HC1
              rw [hcmp _ _ HWb.out HWc.out, HWb.out, HWc.out] at HC2
              rw [hcmp _ _ HWa.out HWc.out, HWa.out, HWc.out] at HC3
              rw [hcmp _ _ HWb.out HWa.out, ordB_swap, HWa.out, HWb.out] at HC4
              rw [show errV true = 0 from rfl] at HE1 HE2
              rw [show errV (true && true) = 0 from rfl] at HC1 HC2 HC3 HC4
              obtain ⟨s, hs⟩ : ∃ s, sameC a.ca b.ca = s := ⟨_, rfl⟩
              have HSM := Lib.hid fun (W : World) (h1 : CaOK W a) (h2 : CaOK W b) => refSame14 a b s W h1 h2 (by have := HLA.out.1; omega) (by have := HLB.out; omega) (fun x hx => by have := HLA.out.2 x hx; omega) hs
              have h3 := byC_three a.ca
              have h3b := byC_three b.ca
              have hla := byC_len HFA.out
              have hlb := byC_len HFB.out
              have hse : (byC a.ca == byC b.ca) = s := by
                rw [← hs]
                by_cases e : a.ca = b.ca
                · rw [sameC_iff.2 e, e]; simp
                · have h1 : sameC a.ca b.ca = false := by
                    cases h : sameC a.ca b.ca with
                    | false => rfl
                    | true => exact absurd (sameC_iff.1 h) e
                  rw [h1]
                  exact beq_eq_false_iff_ne.2 fun h => e (byC_inj hoka hokb h)
              have hb1 : (byC b.ca).length > (byC a.ca).length → ((byC b.ca).take (byC a.ca).length == byC a.ca) = false := fun hl => beq_eq_false_iff_ne.2 fun h => by
                have h4 := byC_begin hoka hokb (x := (byC b.ca).drop (byC a.ca).length) (by rw [← h, List.length_take, Nat.min_eq_left (by omega), List.take_append_drop])
                have h5 := congrArg List.length h4
                rw [List.length_drop] at h5
                simp at h5
                omega
              have hb2 : (byC a.ca).length > (byC b.ca).length → ((byC a.ca).take (byC b.ca).length == byC b.ca) = false := fun hl => beq_eq_false_iff_ne.2 fun h => by
                have h4 := byC_begin hokb hoka (x := (byC a.ca).drop (byC b.ca).length) (by rw [← h, List.length_take, Nat.min_eq_left (by omega), List.take_append_drop])
                have h5 := congrArg List.length h4
                rw [List.length_drop] at h5
                simp at h5
                omega
              have hz : (ordB (byC a.ca) (byC b.ca) == 0) = s := by
                rw [← hse]
                by_cases e : byC a.ca = byC b.ca
                · rw [e, ordB_self]; simp
                · have h1 : ordB (byC a.ca) (byC b.ca) ≠ 0 := fun h => e (ordB_zero h)
                  rw [beq_eq_false_iff_ne.2 h1, beq_eq_false_iff_ne.2 e]
              have t1 : ordB (byC a.ca) (byC b.ca) ≤ 0 → ordB (byC b.ca) (byC c.ca) ≤ 0 → ordB (byC a.ca) (byC c.ca) ≤ 0 := ordB_trans
              have t2 : 0 ≤ ordB (byC a.ca) (byC b.ca) → 0 ≤ ordB (byC b.ca) (byC c.ca) → 0 ≤ ordB (byC a.ca) (byC c.ca) := fun h1 h2 => by
                have h4 := @ordB_trans (byC c.ca) (byC b.ca) (byC a.ca) (by rw [ordB_swap]; omega) (by rw [ordB_swap]; omega)
                rw [ordB_swap] at h4
                omega
              have g1 := ordB_range (byC a.ca) (byC b.ca)
              have g2 := ordB_range (byC b.ca) (byC c.ca)
              have g3 := ordB_range (byC a.ca) (byC c.ca)
              clear hs hoka hokb hea heb hcmp
              generalize ordB (byC a.ca) (byC b.ca) = k at HC1 HC4 hz t1 t2 g1
              generalize ordB (byC b.ca) (byC c.ca) = l at HC2 t1 t2 g2
              generalize ordB (byC a.ca) (byC c.ca) = m at HC3 t1 t2 g3
              have HT := Lib.hid (And.intro hz (And.intro t1 (And.intro t2 (And.intro g1 (And.intro g2 g3)))))
              clear hz t1 t2 g1 g2 g3
              generalize byC a.ca = xs at HE1 h3 hla hse hb1 hb2
              generalize byC b.ca = ys at HE2 h3b hlb hse hb1 hb2
              clear HWa HWb HWc HFA HFB HFC HLA HLB HF
              obtain ⟨x0, x1, x2, y0, y1, y2, z0, z1, z2, xl, yl, zl⟩ := KK3.sp HK.out
              go_wp2_with fail
              refine (HE1.out _ HK.out.bel (HK.out.ok (g := w.heap.size) (by simp))).mono ?_
              rintro e9 we1 ⟨⟨A1, n1, rfl, hr⟩, hb⟩
              clear x0 x1 x2 y0 y1 y2 z0 z1 z2 xl yl zl
              replace HK := Lib.hid (HK.out.next hb)
              have HX := Lib.hid (HoldsB.of_own hr)
              clear hb hr
              obtain ⟨x0, x1, x2, y0, y1, y2, z0, z1, z2, xl, yl, zl⟩ := KK3.sp HK.out
              go_wp2_with fail
              refine (HE2.out _ HK.out.bel (HK.out.ok (g := w.heap.size + 1) (by simp))).mono ?_
              rintro e9 we2 ⟨⟨A2, n2, rfl, hr⟩, hb⟩
              clear x0 x1 x2 y0 y1 y2 z0 z1 z2 xl yl zl
              replace HK := Lib.hid (HK.out.next hb)
              replace HX := Lib.hid (HX.out.below hb)
              have HY := Lib.hid (HoldsB.of_own hr)
              clear hb hr
              have i3 : ¬ (xs.length : Int) < 3 := by omega
              have i3d : decide ((xs.length : Int) < 3) = false := by simpa using i3
              have d1 := fun p => convB (far we2 p) A1 n1 xs (HX.out.below (below_far we2 p))
              have d2 := fun p => convB (far we2 p) A2 n2 ys (HY.out.below (below_far we2 p))
              have HKF := Lib.hid fun (p : FarBy) => HK.out.far p
              have HSMF := Lib.hid fun (p : FarBy) => HSM.out (far we2 p) ((HKF.out p).ok (g := w.heap.size) (by simp)) ((HKF.out p).ok (g := w.heap.size + 1) (by simp))
              obtain ⟨x0, x1, x2, y0, y1, y2, z0, z1, z2, xl, yl, zl⟩ := KK3.sp HK.out
              have l0 := fun p => cell_far (p := p) (a := ⟨w.heap.size, 0, none⟩) xl x0
              have l1 := fun p => cell_far (p := p) (a := ⟨w.heap.size, 1, none⟩) xl x1
              have l2 := fun p => cell_far (p := p) (a := ⟨w.heap.size, 2, none⟩) xl x2
              have m0 := fun p => cell_far (p := p) (a := ⟨w.heap.size + 1, 0, none⟩) yl y0
              have m1 := fun p => cell_far (p := p) (a := ⟨w.heap.size + 1, 1, none⟩) yl y1
              have m2 := fun p => cell_far (p := p) (a := ⟨w.heap.size + 1, 2, none⟩) yl y2
              have HB1 := Lib.hid hb1
              have HB2 := Lib.hid hb2
              clear x0 x1 x2 y0 y1 y2 z0 z1 z2 xl yl zl
              have HL3 := Lib.hid (And.intro h3 h3b)
              clear hb1 hb2 h3b
              clear HE1 HE2
              go_wp2_with fail
              refine wp_region_far (by kernel_rfl) (by kernel_rfl) ?_
              repeat (go_big_quiet_step ((go_at_call 16; exact OneB.far (HSMF.out _))))
              refine wpQuiet_nil ?_
              rintro _ ⟨p, rfl⟩
              replace HX := Lib.hid (HX.out.below (below_far we2 p))
              replace HY := Lib.hid (HY.out.below (below_far we2 p))
              replace HK := Lib.hid (HK.out.far p)
              clear d1 d2 HKF HSMF l0 l1 l2 m0 m1 m2
              generalize far we2 p = w5 at HX HY HK ⊢
              go_wp2_with fail
              obtain ⟨b1, o1, rfl⟩ : ∃ b o, A1 = some ⟨b, o, none⟩ := by
                obtain ⟨A', c', e, h1, _, _⟩ := HX.out
                cases e
                obtain ⟨b, o, rfl, _⟩ := h1 (by omega)
                exact ⟨b, o, rfl⟩
              obtain ⟨b2, o2, rfl⟩ : ∃ b o, A2 = some ⟨b, o, none⟩ := by
                obtain ⟨A', c', e, h1, _, _⟩ := HY.out
                cases e
                obtain ⟨b, o, rfl, _⟩ := h1 (by have := HL3.out; omega)
                exact ⟨b, o, rfl⟩
              have hxn : xs.length ≤ n1 := by obtain ⟨A', c', e, _, h2, _⟩ := HX.out; cases e; exact h2
              have hyn : ys.length ≤ n2 := by obtain ⟨A', c', e, _, h2, _⟩ := HY.out; cases e; exact h2
              go_upto_region 7 with fail
              go_cut [109] from 78 to 109 (fun v wx => v = .bool false ∧ Hid (KK w [(w.heap.size, a), (w.heap.size + 1, b), (w.heap.size + 2, c)] wx))
              case first =>
                rcases Nat.lt_trichotomy xs.length ys.length with hlt | hlt | hlt
                · have j1 : (xs.length : Int) < (ys.length : Int) := by omega
                  have j1d : decide ((xs.length : Int) < (ys.length : Int)) = true := by simpa using hlt
                  have j2d : decide ((ys.length : Int) < (xs.length : Int)) = false := by simp; omega
                  have j2n : ¬ (ys.length : Int) < (xs.length : Int) := by omega
                  have j2k : decide (ys.length < xs.length) = false := by simp; omega
                  have j2m : ¬ ys.length < xs.length := by omega
                  have hte := HB1.out hlt
                  have hsl := HY.out.take (k := xs.length) (by omega)
                  obtain ⟨ts, hts⟩ : ∃ ts, ys.take xs.length = ts := ⟨_, rfl⟩
                  rw [hts] at hte hsl
                  have htl : ts.length = xs.length := by rw [← hts, List.length_take]; omega
                  have d1 := fun p => convB (far w5 p) (some ⟨b1, o1, none⟩) n1 xs (HX.out.below (below_far w5 p))
                  have d3 := fun p => convB (far w5 p) (some ⟨b2, o2, none⟩) n2 ts (by rw [htl]; exact hsl.below (below_far w5 p))
                  rw [htl] at d3
                  have hxy : xs.length ≤ n2 := by omega
                  clear hlt hts htl hsl
                  refine wp_region_far (by kernel_rfl) (by kernel_rfl) ?_
                  repeat (go_big_quiet_step ((fail)))
                  refine wpQuiet_nil ?_
                  rintro _ ⟨p, rfl⟩
                  go_wp2_with fail
                  go_meet
                  exact ⟨rfl, HK.out.far p⟩
                · have hl2 : ys.length = xs.length := hlt.symm
                  clear hlt
                  simp only [hl2] at *
                  clear hl2 HY
                  refine wp_region_far (by kernel_rfl) (by kernel_rfl) ?_
                  repeat (go_big_quiet_step ((fail)))
                  refine wpQuiet_nil ?_
                  rintro _ ⟨p, rfl⟩
                  go_wp2_with fail
                  go_meet
                  exact ⟨rfl, HK.out.far p⟩
                · have j2 : (ys.length : Int) < (xs.length : Int) := by omega
                  have j1d : decide ((xs.length : Int) < (ys.length : Int)) = false := by simp; omega
                  have j1n : ¬ (xs.length : Int) < (ys.length : Int) := by omega
                  have j1k : decide (xs.length < ys.length) = false := by simp; omega
                  have j1m : ¬ xs.length < ys.length := by omega
                  have j2d : decide ((ys.length : Int) < (xs.length : Int)) = true := by simpa using hlt
                  have hte := HB2.out hlt
                  have hsl := HX.out.take (k := ys.length) (by omega)
                  obtain ⟨ts, hts⟩ : ∃ ts, xs.take ys.length = ts := ⟨_, rfl⟩
                  rw [hts] at hte hsl
                  have htl : ts.length = ys.length := by rw [← hts, List.length_take]; omega
                  have d2 := fun p => convB (far w5 p) (some ⟨b2, o2, none⟩) n2 ys (HY.out.below (below_far w5 p))
                  have d3 := fun p => convB (far w5 p) (some ⟨b1, o1, none⟩) n1 ts (by rw [htl]; exact hsl.below (below_far w5 p))
                  rw [htl] at d3
                  have hxy : ys.length ≤ n1 := by omega
                  clear hlt hts htl hsl
                  refine wp_region_far (by kernel_rfl) (by kernel_rfl) ?_
                  repeat (go_big_quiet_step ((fail)))
                  refine wpQuiet_nil ?_
                  rintro _ ⟨p, rfl⟩
                  go_wp2_with fail
                  go_meet
                  exact ⟨rfl, HK.out.far p⟩
              case rest =>
                obtain ⟨rfl, HK7⟩ := hcut
                clear HK HX HY HB1 HB2
                have HK := HK7
                clear HK7
                obtain ⟨x0, x1, x2, y0, y1, y2, z0, z1, z2, xl, yl, zl⟩ := KK3.sp HK.out
                go_wp2_with fail
                refine (HC1.out _ HK.out.bel (HK.out.ok (g := w.heap.size) (by simp)) (HK.out.ok (g := w.heap.size + 1) (by simp))).mono ?_
                rintro e9 wc0 ⟨rfl, hb⟩
                clear x0 x1 x2 y0 y1 y2 z0 z1 z2 xl yl zl
                replace HK := Lib.hid (HK.out.next hb)
                clear hb
                obtain ⟨x0, x1, x2, y0, y1, y2, z0, z1, z2, xl, yl, zl⟩ := KK3.sp HK.out
                go_wp2_with fail
                refine (HC2.out _ HK.out.bel (HK.out.ok (g := w.heap.size + 1) (by simp)) (HK.out.ok (g := w.heap.size + 2) (by simp))).mono ?_
                rintro e9 wc1 ⟨rfl, hb⟩
                clear x0 x1 x2 y0 y1 y2 z0 z1 z2 xl yl zl
                replace HK := Lib.hid (HK.out.next hb)
                clear hb
                obtain ⟨x0, x1, x2, y0, y1, y2, z0, z1, z2, xl, yl, zl⟩ := KK3.sp HK.out
                go_wp2_with fail
                refine (HC3.out _ HK.out.bel (HK.out.ok (g := w.heap.size) (by simp)) (HK.out.ok (g := w.heap.size + 2) (by simp))).mono ?_
                rintro e9 wc2 ⟨rfl, hb⟩
                clear x0 x1 x2 y0 y1 y2 z0 z1 z2 xl yl zl
                replace HK := Lib.hid (HK.out.next hb)
                clear hb
                obtain ⟨x0, x1, x2, y0, y1, y2, z0, z1, z2, xl, yl, zl⟩ := KK3.sp HK.out
                go_wp2_with fail
                refine (HC4.out _ HK.out.bel (HK.out.ok (g := w.heap.size + 1) (by simp)) (HK.out.ok (g := w.heap.size) (by simp))).mono ?_
                rintro e9 wc3 ⟨rfl, hb⟩
                clear x0 x1 x2 y0 y1 y2 z0 z1 z2 xl yl zl
                replace HK := Lib.hid (HK.out.next hb)
                clear hb
                clear HC1 HC2 HC3 HC4
                obtain ⟨hz, t1, t2, g1, g2, g3⟩ := HT.out
                have HSQ := Lib.hid fun (W : World) (h : KK w [(w.heap.size, a), (w.heap.size + 1, b), (w.heap.size + 2, c)] W) => HSM.out W (h.ok (g := w.heap.size) (by simp)) (h.ok (g := w.heap.size + 1) (by simp))
                rcases g1 with rfl | rfl | rfl <;> rcases g2 with rfl | rfl | rfl <;> rcases g3 with rfl | rfl | rfl <;> first
                  | (exfalso; omega)
                  | (simp at hz
                     subst hz
                     clear t1 t2 HT
                     obtain ⟨x0, x1, x2, y0, y1, y2, z0, z1, z2, xl, yl, zl⟩ := KK3.sp HK.out
                     go_wp2_with fail
                     refine (HSQ.out _ HK.out).mono ?_
                     rintro e9 w7 ⟨rfl, hb⟩
                     clear x0 x1 x2 y0 y1 y2 z0 z1 z2 xl yl zl
                     have HK8 := Lib.hid (HK.out.next hb)
                     clear hb
                     go_wp2_with fail
                     refine (HKN.out _ HK8.out.bel).mono ?_
                     rintro e9 w8 ⟨rfl, hb⟩
                     have HK9 := Lib.hid (HK8.out.next hb)
                     clear hb
                     go_wp2_with fail
                     go_ret
                     exact ⟨rfl, HK9.out.bel⟩)

end

end Go.Proofs.YtgdnibahiomneaaGreat
