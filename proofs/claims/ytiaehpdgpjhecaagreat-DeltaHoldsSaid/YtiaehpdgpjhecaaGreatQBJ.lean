/- Several texts in one: DelGA. -/
import Derived.Test.YtiaehpdgpjhecaaGreatQBI
namespace Go.Proofs.YtiaehpdgpjhecaaGreat

section
open Go.RowKit

set_option maxRecDepth 100000 in
set_option maxHeartbeats 8000000 in
theorem delPutAdd (c : CaV) (r s : Int) (nm : List UInt8) (q : Int) (b : Bool) (gc gn : Nat) (w : World) (hc : CaOK w c) (hf : FitsD c) (hl : nm.length ≤ 1000) (HM : ∀ W, Below w.heap.size w W → Calls Tryz.prog 55 #[.pointer (some ⟨gc, 0, none⟩), .pointer (some ⟨gn, 0, none⟩)] W (OneB (.bool b) W))
    (hb : freshK c.ca (r, s) = true → itemN nm = true → qtyN q = true → putE c.ca (r, s) nm q false = if b = true then (timeC c.ca).2 else 13) :
    Calls Tryz.prog 57 #[mkC c, .agg #[.int .i64 r, .int .i64 s], .string ⟨nm.toArray⟩, .int .i64 q, .agg #[.func (.func 55) #[] #[.pointer (some ⟨gc, 0, none⟩), .pointer (some ⟨gn, 0, none⟩)], .int .i64 13]] w (MadeD (putD c.ca (r, s) nm q false) (putE c.ca (r, s) nm q false) w) := by
  obtain ⟨td0, hid, hzd0, hzd1, hzd2⟩ := info_parts infoD
  have K0 := Lib.hid (KPd.new w c r s (.func (.func 55) #[] #[.pointer (some ⟨gc, 0, none⟩), .pointer (some ⟨gn, 0, none⟩)]) 13 hc)
  have HF := Lib.hid hf
  obtain ⟨f, hf2⟩ : ∃ f, freshK c.ca (r, s) = f := ⟨_, rfl⟩
  obtain ⟨i, hi⟩ : ∃ i, itemN nm = i := ⟨_, rfl⟩
  obtain ⟨g, hg⟩ : ∃ g, qtyN q = g := ⟨_, rfl⟩
  have HFR := Lib.hid hf2
  have HI := Lib.hid hi
  have HQ := Lib.hid hg
  have HNL := Lib.hid hl
  have HMM := Lib.hid HM
  have HBB := Lib.hid hb
  have HIT := Lib.hid fun W => (show Calls Tryz.prog 63 #[.string ⟨nm.toArray⟩] W (OneB (.bool i) W) from hi ▸ nmItem nm W (by omega))
  have HQT := Lib.hid fun W => (show Calls Tryz.prog 106 #[.int .i64 q] W (One (.bool g) W) from hg ▸ qtyValid q W)
  have HDN := Lib.hid (dotsK_le (nm := nm) hf.k.1 hf.dots (by omega))
  clear hc hf hl hf2 hi hg HM hb
  cases f with
  | false =>
    have HE : putE c.ca (r, s) nm q false = 2 := putE_f2 HFR.out
    rw [HE]
    have HZ := Lib.hid (show putD c.ca (r, s) nm q false = zC.ca from putD_f (by rw [HE]; decide))
    clear HE
    go_enter Tryz.func57, Tryz.ntmps57
    go_upto_region 1 with fail
    generalize World.alloc (World.alloc (World.alloc (World.alloc w _) _) _) _ = w2 at K0 ⊢
    obtain ⟨x0, x1, x2, x3, x4, x5, x6, xl, xm, xn⟩ := K0.out.sp
    go_wp2_with fail
    refine (delFresh c r s false _ K0.out.ok HF.out.k HFR.out).mono ?_
    rintro e w3 ⟨rfl, hb⟩
    have K1 := Lib.hid (K0.out.next hb)
    clear hb K0 x0 x1 x2 x3 x4 x5 x6 xl xm xn
    obtain ⟨x0, x1, x2, x3, x4, x5, x6, xl, xm, xn⟩ := K1.out.sp
    clear x0 x1 x2 x3 x4 x5 x6 xl xm xn
    obtain ⟨z0, z1, z2, f0, f1, f2⟩ := results_zero K1.out.res
    have hrl := K1.out.res.lt
    have HFA := Lib.hid (fill_cells K1.out.res (.slice none 0 0) (.slice none 0 0) (.slice none 0 0))
    have KB := Lib.hid (below_fill K1.out.bel (Nat.le_add_right _ 3) (.slice none 0 0) (.slice none 0 0) (.slice none 0 0))
    clear K1
    go_wp2_with fail
    obtain ⟨s0, s1, s2⟩ := HFA.out
    exact bodyPost_ret (v := .tuple #[mkC zC, .int .i64 2]) (by simp [results, Tryz.results57, go_sem, s0, s1, s2]) rfl ⟨⟨zC, rfl, HZ.out.symm, zC_ok _⟩, KB.out⟩
  | true =>
    cases i with
    | false =>
      have HE : putE c.ca (r, s) nm q false = 2 := putE_i2 HFR.out HI.out
      rw [HE]
      have HZ := Lib.hid (show putD c.ca (r, s) nm q false = zC.ca from putD_f (by rw [HE]; decide))
      clear HE
      go_enter Tryz.func57, Tryz.ntmps57
      go_upto_region 1 with fail
      generalize World.alloc (World.alloc (World.alloc (World.alloc w _) _) _) _ = w2 at K0 ⊢
      obtain ⟨x0, x1, x2, x3, x4, x5, x6, xl, xm, xn⟩ := K0.out.sp
      go_wp2_with fail
      refine (delFresh c r s true _ K0.out.ok HF.out.k HFR.out).mono ?_
      rintro e w3 ⟨rfl, hb⟩
      have K1 := Lib.hid (K0.out.next hb)
      clear hb K0 x0 x1 x2 x3 x4 x5 x6 xl xm xn
      obtain ⟨x0, x1, x2, x3, x4, x5, x6, xl, xm, xn⟩ := K1.out.sp
      go_wp2_with fail
      refine (HIT.out _).mono ?_
      rintro e w4 ⟨rfl, hb⟩
      have K2 := Lib.hid (K1.out.next hb)
      clear hb K1 x0 x1 x2 x3 x4 x5 x6 xl xm xn
      obtain ⟨x0, x1, x2, x3, x4, x5, x6, xl, xm, xn⟩ := K2.out.sp
      clear x0 x1 x2 x3 x4 x5 x6 xl xm xn
      obtain ⟨z0, z1, z2, f0, f1, f2⟩ := results_zero K2.out.res
      have hrl := K2.out.res.lt
      have HFA := Lib.hid (fill_cells K2.out.res (.slice none 0 0) (.slice none 0 0) (.slice none 0 0))
      have KB := Lib.hid (below_fill K2.out.bel (Nat.le_add_right _ 3) (.slice none 0 0) (.slice none 0 0) (.slice none 0 0))
      clear K2
      go_wp2_with fail
      obtain ⟨s0, s1, s2⟩ := HFA.out
      exact bodyPost_ret (v := .tuple #[mkC zC, .int .i64 2]) (by simp [results, Tryz.results57, go_sem, s0, s1, s2]) rfl ⟨⟨zC, rfl, HZ.out.symm, zC_ok _⟩, KB.out⟩
    | true =>
      cases g with
      | false =>
        have HE : putE c.ca (r, s) nm q false = 14 := putE_q14 HFR.out HI.out HQ.out
        rw [HE]
        have HZ := Lib.hid (show putD c.ca (r, s) nm q false = zC.ca from putD_f (by rw [HE]; decide))
        clear HE
        go_enter Tryz.func57, Tryz.ntmps57
        go_upto_region 1 with fail
        generalize World.alloc (World.alloc (World.alloc (World.alloc w _) _) _) _ = w2 at K0 ⊢
        obtain ⟨x0, x1, x2, x3, x4, x5, x6, xl, xm, xn⟩ := K0.out.sp
        go_wp2_with fail
        refine (delFresh c r s true _ K0.out.ok HF.out.k HFR.out).mono ?_
        rintro e w3 ⟨rfl, hb⟩
        have K1 := Lib.hid (K0.out.next hb)
        clear hb K0 x0 x1 x2 x3 x4 x5 x6 xl xm xn
        obtain ⟨x0, x1, x2, x3, x4, x5, x6, xl, xm, xn⟩ := K1.out.sp
        go_wp2_with fail
        refine (HIT.out _).mono ?_
        rintro e w4 ⟨rfl, hb⟩
        have K2 := Lib.hid (K1.out.next hb)
        clear hb K1 x0 x1 x2 x3 x4 x5 x6 xl xm xn
        obtain ⟨x0, x1, x2, x3, x4, x5, x6, xl, xm, xn⟩ := K2.out.sp
        go_wp2_with fail
        refine (HQT.out _).mono ?_
        rintro e w5 ⟨rfl, rfl⟩
        clear x0 x1 x2 x3 x4 x5 x6 xl xm xn
        obtain ⟨z0, z1, z2, f0, f1, f2⟩ := results_zero K2.out.res
        have hrl := K2.out.res.lt
        have HFA := Lib.hid (fill_cells K2.out.res (.slice none 0 0) (.slice none 0 0) (.slice none 0 0))
        have KB := Lib.hid (below_fill K2.out.bel (Nat.le_add_right _ 3) (.slice none 0 0) (.slice none 0 0) (.slice none 0 0))
        clear K2
        go_wp2_with fail
        obtain ⟨s0, s1, s2⟩ := HFA.out
        exact bodyPost_ret (v := .tuple #[mkC zC, .int .i64 14]) (by simp [results, Tryz.results57, go_sem, s0, s1, s2]) rfl ⟨⟨zC, rfl, HZ.out.symm, zC_ok _⟩, KB.out⟩
      | true =>
        have HPE := Lib.hid (HBB.out HFR.out HI.out HQ.out)
        clear HBB
        cases b with
        | false =>
          have HE : putE c.ca (r, s) nm q false = 13 := HPE.out
          rw [HE]
          have HZ := Lib.hid (show putD c.ca (r, s) nm q false = zC.ca from putD_f (by rw [HE]; decide))
          clear HE
          clear HPE
          go_enter Tryz.func57, Tryz.ntmps57
          go_upto_region 1 with fail
          generalize World.alloc (World.alloc (World.alloc (World.alloc w _) _) _) _ = w2 at K0 ⊢
          obtain ⟨x0, x1, x2, x3, x4, x5, x6, xl, xm, xn⟩ := K0.out.sp
          go_wp2_with fail
          refine (delFresh c r s true _ K0.out.ok HF.out.k HFR.out).mono ?_
          rintro e w3 ⟨rfl, hb⟩
          have K1 := Lib.hid (K0.out.next hb)
          clear hb K0 x0 x1 x2 x3 x4 x5 x6 xl xm xn
          obtain ⟨x0, x1, x2, x3, x4, x5, x6, xl, xm, xn⟩ := K1.out.sp
          go_wp2_with fail
          refine (HIT.out _).mono ?_
          rintro e w4 ⟨rfl, hb⟩
          have K2 := Lib.hid (K1.out.next hb)
          clear hb K1 x0 x1 x2 x3 x4 x5 x6 xl xm xn
          obtain ⟨x0, x1, x2, x3, x4, x5, x6, xl, xm, xn⟩ := K2.out.sp
          go_wp2_with fail
          refine (HQT.out _).mono ?_
          rintro e w5 ⟨rfl, rfl⟩
          go_wp2_with fail
          refine (HMM.out _ K2.out.bel).mono ?_
          rintro e w6 ⟨rfl, hb⟩
          have K3 := Lib.hid (K2.out.next hb)
          clear hb K2 x0 x1 x2 x3 x4 x5 x6 xl xm xn
          obtain ⟨x0, x1, x2, x3, x4, x5, x6, xl, xm, xn⟩ := K3.out.sp
          obtain ⟨z0, z1, z2, f0, f1, f2⟩ := results_zero K3.out.res
          have hrl := K3.out.res.lt
          have HFA := Lib.hid (fill_cells K3.out.res (.slice none 0 0) (.slice none 0 0) (.slice none 0 0))
          have KB := Lib.hid (below_fill K3.out.bel (Nat.le_add_right _ 3) (.slice none 0 0) (.slice none 0 0) (.slice none 0 0))
          clear K3
          go_upto_region 6 with fail
          go_region
          go_wp2_with fail
          obtain ⟨s0, s1, s2⟩ := HFA.out
          exact bodyPost_ret (v := .tuple #[mkC zC, .int .i64 13]) (by simp [results, Tryz.results57, go_sem, s0, s1, s2]) rfl ⟨⟨zC, rfl, HZ.out.symm, zC_ok _⟩, KB.out.drew⟩
        | true =>
          have HVD := Lib.hid (fresh_iff.1 HFR.out)
          obtain ⟨t, n, htn⟩ : ∃ t n, timeC c.ca = (t, n) := ⟨_, _, rfl⟩
          have HTN := Lib.hid htn
          have HPN := Lib.hid (show putE c.ca (r, s) nm q false = n from HPE.out.trans (by rw [htn]; rfl))
          have HDT := Lib.hid fun W (h : CaOK W c) => caDotsO c nm (dotsK (its c.xs) nm) W h HF.out.k (dotsC_t HVD.out.1 nm)
          have HTC := Lib.hid fun W (h : CaOK W c) => caTime c t n W h HF.out.k HF.out.time htn
          clear htn HPE
          go_enter Tryz.func57, Tryz.ntmps57
          go_upto_region 1 with fail
          generalize World.alloc (World.alloc (World.alloc (World.alloc w _) _) _) _ = w2 at K0 ⊢
          obtain ⟨x0, x1, x2, x3, x4, x5, x6, xl, xm, xn⟩ := K0.out.sp
          go_wp2_with fail
          refine (delFresh c r s true _ K0.out.ok HF.out.k HFR.out).mono ?_
          rintro e w3 ⟨rfl, hb⟩
          have K1 := Lib.hid (K0.out.next hb)
          clear hb K0 x0 x1 x2 x3 x4 x5 x6 xl xm xn
          obtain ⟨x0, x1, x2, x3, x4, x5, x6, xl, xm, xn⟩ := K1.out.sp
          go_wp2_with fail
          refine (HIT.out _).mono ?_
          rintro e w4 ⟨rfl, hb⟩
          have K2 := Lib.hid (K1.out.next hb)
          clear hb K1 x0 x1 x2 x3 x4 x5 x6 xl xm xn
          obtain ⟨x0, x1, x2, x3, x4, x5, x6, xl, xm, xn⟩ := K2.out.sp
          go_wp2_with fail
          refine (HQT.out _).mono ?_
          rintro e w5 ⟨rfl, rfl⟩
          go_wp2_with fail
          refine (HMM.out _ K2.out.bel).mono ?_
          rintro e w6 ⟨rfl, hb⟩
          have K3 := Lib.hid (K2.out.next hb)
          clear hb K2 x0 x1 x2 x3 x4 x5 x6 xl xm xn
          obtain ⟨x0, x1, x2, x3, x4, x5, x6, xl, xm, xn⟩ := K3.out.sp
          go_wp2_with fail
          refine (HTC.out _ K3.out.ok).mono ?_
          rintro e w7 ⟨rfl, hb⟩
          have K4 := Lib.hid (K3.out.next hb)
          clear hb K3 x0 x1 x2 x3 x4 x5 x6 xl xm xn
          obtain ⟨x0, x1, x2, x3, x4, x5, x6, xl, xm, xn⟩ := K4.out.sp
          rw [HPN.out]
          by_cases hn : n = 0
          · subst hn
            have hzr := fun p => (show p ∈ dotsK (its c.xs) nm ++ [(r, s)] ↔ p ∈ (r, s) :: dotsK (its c.xs) nm from by rw [List.mem_append, List.mem_singleton, List.mem_cons]; exact Or.comm)
            have HZ := Lib.hid (show putD c.ca (r, s) nm q false = (addC [] [] (dotsK (its c.xs) nm ++ [(r, s)]), [(nm, [(⟨r, s, q, t⟩ : Mk)])]) from by
              rw [putD_t HPN.out, HTN.out, dotsC_t HVD.out.1]
              exact (delta_congr (d := (r, s)) (q := q) (t := t) (nm := nm) hzr).symm)
            have HDV := Lib.hid (show ∀ p ∈ dotsK (its c.xs) nm ++ [(r, s)], validD p.1 p.2 = true from fun p hp => by
              rcases List.mem_append.1 hp with hp | hp
              · exact dotsC_valid (c := c.ca) HVD.out.1 (nm := nm) p (by rw [dotsC_t HVD.out.1]; exact hp)
              · obtain rfl : p = (r, s) := by simpa using hp
                exact HVD.out.2.1)
            clear hzr
            have hdl : (dotsK (its c.xs) nm).length ≤ 2900 := HDN.out
            generalize dotsK (its c.xs) nm = ds at *
            have HDL := Lib.hid hdl
            obtain ⟨us, rs, hur⟩ : ∃ us rs, addC [] [] (ds ++ [(r, s)]) = (us, rs) := ⟨_, _, rfl⟩
            rw [hur] at HZ
            have HOF := Lib.hid fun (v : Value) (W : World) (h : Holds W v (ds ++ [(r, s)])) => (show Calls Tryz.prog 108 #[v] W (CtxR true us rs W) from by
              have h1 := ctxOf v (ds ++ [(r, s)]) W h (by simp; have := HDL.out; omega)
              rw [(okL_iff _).2 HDV.out, hur] at h1
              exact h1)
            clear hur
            go_upto_region 10 with fail
            clear x0 x1 x2 x3 x4 x5 x6 xl xm xn
            refine wp_region_T (S := ⟨gonO w7 ds [(r, s)] us rs doX, doP c nm r s us rs⟩) (by kernel_rfl) (by kernel_rfl) (by kernel_rfl) (dst_small (n := 72) (by kernel_rfl)) ⟨(Below.refl _ _).drew, by rfl, fun h => (by cases h), fun h => (by cases h), fun h => (by cases h), fun h => (by cases h)⟩ ?_ ?_
            · have hkb : ∀ {W W' : World} {L : Nat → Bool}, BelW W W' → KeepsT ⟨gonO w7 ds [(r, s)] us rs doX, doP c nm r s us rs⟩ L W W' := fun hb j v _ h => doP_turn h fun _ _ _ h => h.below hb
              refine ⟨?_, ?_, ?_, ?_, ?_, ?_, ?_, ?_, ?_, ?_, ?_, ?_, ?_, trivial⟩
              · refine StepT.val rfl fun L a W hI hk hd => ?_
                have e5 : a.tmps[5]?.getD undef = .pointer (some ⟨w.heap.size, 0, none⟩) := hI.at 5 (by kernel_rfl)
                obtain ⟨c0, c1, c2, _⟩ := (K4.out.next hI.glob.1).sp
                exact ⟨rfl, mkC c, W, by go_simp, hkb (Below.refl _ W), gonO_keep hI.glob (Below.refl _ W) 0 _ _ (by decide) (by decide), rfl⟩
              · refine StepT.val rfl fun L a W hI hk hd => ?_
                have e2 : a.tmps[2]?.getD undef = .string ⟨nm.toArray⟩ := hI.at 2 (by kernel_rfl)
                exact ⟨rfl, .string ⟨nm.toArray⟩, W, by go_simp, hkb (Below.refl _ W), gonO_keep hI.glob (Below.refl _ W) 1 _ _ (by decide) (by decide), rfl⟩
              · refine StepT.call rfl fun L a W hI hk hd => ?_
                obtain ⟨_, e50, rfl⟩ := hI.get 0 50 (hd 0 rfl) rfl
                obtain ⟨_, e51, rfl⟩ := hI.get 1 51 (hd 1 rfl) rfl
                have h5 : L 5 = false := hI.before (j := 5) (o := _) rfl (k := 2) rfl hk
                have h6 : L 6 = false := hI.before (j := 6) (o := _) rfl (k := 5) rfl h5
                have h7 : L 7 = false := hI.before (j := 7) (o := _) rfl (k := 6) rfl h6
                have h8 : L 8 = false := hI.before (j := 8) (o := _) rfl (k := 7) rfl h7
                have h11 : L 11 = false := hI.before (j := 11) (o := _) rfl (k := 8) rfl h8
                refine ⟨rfl, 65, #[mkC c, .string ⟨nm.toArray⟩], by go_simp, (HDT.out W (K4.out.next hI.glob.1).ok).mono ?_⟩
                rintro e W' ⟨⟨v, rfl, hv⟩, hb⟩
                exact ⟨v, rfl, hkb hb, gonO_one doX_ok hI.glob hb h5 h11 hv, trivial⟩
              · refine StepT.val rfl fun L a W hI hk hd => ?_
                have e6 : a.tmps[6]?.getD undef = .pointer (some ⟨w.heap.size + 1, 0, none⟩) := hI.at 6 (by kernel_rfl)
                obtain ⟨_, _, _, c3, c4, _⟩ := (K4.out.next hI.glob.1).sp
                exact ⟨rfl, .agg #[.int .i64 r, .int .i64 s], W, by go_simp, hkb (Below.refl _ W), gonO_keep hI.glob (Below.refl _ W) 3 _ _ (by decide) (by decide), rfl⟩
              · refine StepT.val rfl fun L a W hI hk hd => ?_
                obtain ⟨_, e53, rfl⟩ := hI.get 3 53 (hd 3 rfl) rfl
                have h5 : L 5 = false := hI.before (j := 5) (o := _) rfl (k := 4) rfl hk
                exact ⟨rfl, .slice (some ⟨W.heap.size, 0, none⟩) 1 1, W.alloc (.cells #[.int .i64 r, .int .i64 s] 30), by go_simp, hkb ((Below.refl _ W).alloc (Nat.le_refl _) _), gonO_two doX_ok hI.glob ((Below.refl _ W).alloc (Nat.le_refl _) _) h5 (own_lit W r s).holds, trivial⟩
              · refine StepT.val rfl fun L a W hI hk hd => ?_
                have h2 : L 2 = true := hd 2 rfl
                have h4 : L 4 = true := hd 4 rfl
                have h6 : L 6 = false := hI.before (j := 6) (o := _) rfl (k := 5) rfl hk
                have h7 : L 7 = false := hI.before (j := 7) (o := _) rfl (k := 6) rfl h6
                have h8 : L 8 = false := hI.before (j := 8) (o := _) rfl (k := 7) rfl h7
                have h11 : L 11 = false := hI.before (j := 11) (o := _) rfl (k := 8) rfl h8
                have hown0 := hI.glob.2.2.1 h2 hk
                obtain ⟨A2, n2, e54, hat2, hn2, hm2⟩ := hI.glob.2.2.2.1 h4 hk
                obtain ⟨v', W', hrun, hown, hgr, _⟩ := run_append_sl (P := Tryz.prog) W encD 2 encD_len (by omega) encD_one w7.heap.size 22 22 30 td0 _ 16 Tryz.underlying22 hid hzd0 hzd1 hzd2 rfl (a.eval (.tmp 52)) ds hown0 A2 n2 [(r, s)] hat2 (by simp [maxLen]; omega) (by simp; omega) hI.glob.1.size
                have hrun2 : (Builtin.append_ #[22, 22] 22 #[a.eval (.tmp 52), .slice A2 1 n2]).run Tryz.prog W = .ok v' W' := hrun
                have hs2 : a.eval (.tmp 54) = .slice A2 1 n2 := e54
                refine ⟨rfl, v', W', ?_, fun j v hj h => doP_turn h (by rintro (rfl | rfl | rfl) <;> exfalso <;> simp_all), gonO_app doX_ok hI.glob h2 hk h11 hown hgr, trivial⟩
                unfold execOp
                simp only [resolve, invoke, builtin, Sem.run_bind, Sem.run_pure, Result.andThen_ok, List.map_toArray, List.map_cons, List.map_nil, hs2, hrun2]
              · refine StepT.call rfl fun L a W hI hk hd => ?_
                have h5 : L 5 = true := hd 5 rfl
                have h7 : L 7 = false := hI.before (j := 7) (o := _) rfl (k := 6) rfl hk
                have h8 : L 8 = false := hI.before (j := 8) (o := _) rfl (k := 7) rfl h7
                have h11 : L 11 = false := hI.before (j := 11) (o := _) rfl (k := 8) rfl h8
                have hh : Holds W (a.eval (.tmp 55)) (ds ++ [(r, s)]) := hI.glob.2.2.2.2.1 h5 hk
                obtain ⟨A3, n3, e55, _⟩ := id hh
                rw [e55] at hh
                have hcall := HOF.out _ W hh
                have e55' : a.tmps[55]?.getD undef = .slice A3 (ds ++ [(r, s)]).length n3 := by rw [← eval_tmp]; exact e55
                generalize (ds ++ [(r, s)]).length = k3 at *
                refine ⟨rfl, 108, #[.slice A3 k3 n3], by go_simp, hcall.mono ?_⟩
                intro e W' hr
                obtain ⟨⟨A, n, B, m, rfl, hv, hl⟩, hb⟩ := CtxR.t hr
                exact ⟨_, rfl, hkb hb, gonO_call doX_ok hI.glob hb h5 h11, A, n, B, m, rfl, hv.holds, hl.holds⟩
              · refine StepT.val rfl fun L a W hI hk hd => ?_
                obtain ⟨_, e56, A, n, B, m, rfl, hv, hl⟩ := hI.get 6 56 (hd 6 rfl) rfl
                exact ⟨rfl, _, W, by go_simp, hkb (Below.refl _ W), gonO_keep hI.glob (Below.refl _ W) 7 _ _ (by decide) (by decide), A, n, B, m, rfl, hv, hl⟩
              · refine StepT.val rfl fun L a W hI hk hd => ?_
                obtain ⟨_, e49, A, n, B, m, rfl, hv, hl⟩ := hI.get 7 49 (hd 7 rfl) rfl
                exact ⟨rfl, .agg #[.slice A us.length n, .slice B rs.length m], W, by go_simp, hkb (Below.refl _ W), gonO_keep hI.glob (Below.refl _ W) 8 _ _ (by decide) (by decide), A, n, B, m, rfl, hv, hl⟩
              · refine StepT.val rfl fun L a W hI hk hd => ?_
                obtain ⟨_, e49, A, n, B, m, rfl, hv, hl⟩ := hI.get 7 49 (hd 7 rfl) rfl
                exact ⟨rfl, .int .i64 0, W, by go_simp, hkb (Below.refl _ W), gonO_keep hI.glob (Below.refl _ W) 9 _ _ (by decide) (by decide), rfl⟩
              · refine StepT.val rfl fun L a W hI hk hd => ?_
                have h11 : L 11 = false := hI.before (j := 11) (o := _) rfl (k := 10) rfl hk
                exact ⟨rfl, ptr0 W.heap.size, W.alloc (.cells #[.slice none 0 0, .slice none 0 0] 25), by go_simp, hkb ((Below.refl _ W).alloc (Nat.le_refl _) _), gonO_box doX_ok hI.glob h11, trivial⟩
              · refine StepT.skip rfl rfl fun L a W hI hk hd => ?_
                have h8 : L 8 = true := hd 8 rfl
                have h10 : L 10 = true := hd 10 rfl
                have h7 : L 7 = true := waits_spec (hI.clo 8 _ rfl h8) 7 rfl
                have h6 : L 6 = true := waits_spec (hI.clo 7 _ rfl h7) 6 rfl
                have h5 : L 5 = true := waits_spec (hI.clo 6 _ rfl h6) 5 rfl
                obtain ⟨_, e57, A, n, B, m, rfl, hv, hl⟩ := hI.get 8 57 h8 rfl
                obtain ⟨b, e14, _, _, hb3, _, _⟩ := hI.glob.2.2.2.2.2 h10
                have hB := hb3 hk
                have hgs := gonO_store doX_ok hI.glob h5 h6 h10 hk e14 hv hl undef
                have e14' : a.tmps[14]?.getD undef = ptr0 b := by rw [← eval_tmp]; exact e14
                have fz0 := hB.frozen 0
                have fz1 := hB.frozen 1
                have q0 := hB.cell0
                have q1 := hB.cell1
                refine ⟨rfl, _, ?_, fun j v _ h => doP_turn h fun _ u l hu => hu.off hB (fun _ h => by cases h) (fun _ h => by cases h) (by simp) (fun j hj _ => (Below.heap_setCell _ ⟨b, 1, none⟩ _ j hj).trans (Below.heap_setCell _ ⟨b, 0, none⟩ _ j hj)), hgs⟩
                clear hgs hB e14 hv hl
                go_simp
              · refine StepT.val rfl fun L a W hI hk hd => ?_
                obtain ⟨_, e58, rfl⟩ := hI.get 9 58 (hd 9 rfl) rfl
                exact ⟨rfl, .int .i64 0, W, by go_simp, hkb (Below.refl _ W), gonO_keep hI.glob (Below.refl _ W) 12 _ _ (by decide) (by decide), rfl⟩
            · intro a W L hL hI
              obtain ⟨b, e14, hb1, hb2, _, _, hb6⟩ := hI.glob.2.2.2.2.2 (hL 10 (by decide))
              obtain ⟨A, nA, B, nB, hB, hA1, hA2⟩ := hb6 (hL 11 (by decide))
              have e14' : a.eval (.tmp 14) = ptr0 b := e14
              have e13 : a.eval (.tmp 13) = .int .i64 0 := by
                obtain ⟨_, e, rfl⟩ := hI.get 12 13 (hL 12 (by decide)) rfl
                rw [eval_tmp]; exact e
              have K6 := Lib.hid (K4.out.next hI.glob.1)
              have hbne : b ≠ w.heap.size + 3 := by
                have := K4.out.res.lt
                omega
              rw [hI.frame]
              simp only [List.filterMap, List.foldl]
              rw [e14', e13]
              generalize a.eval (.tmp 49) = v49
              generalize a.eval (.tmp 50) = v50
              generalize a.eval (.tmp 51) = v51
              generalize a.eval (.tmp 52) = v52
              generalize a.eval (.tmp 53) = v53
              generalize a.eval (.tmp 54) = v54
              generalize a.eval (.tmp 55) = v55
              generalize a.eval (.tmp 56) = v56
              generalize a.eval (.tmp 57) = v57
              generalize a.eval (.tmp 58) = v58
              have HX := Lib.hid (show Blk2 W b (.slice A us.length nA) (.slice B rs.length nB) ∧ Holds W (.slice A us.length nA) us ∧ Holds W (.slice B rs.length nB) rs from ⟨hB, hA1, hA2⟩)
              have HNE := Lib.hid hbne
              clear hI hL e14 e14' e13 hB hA1 hA2 hb6 hb1 hb2 hbne K4 HDT HTC HMM HOF
              simp only [List.setIfInBounds_toArray, List.set_cons_succ, List.set_cons_zero]
              obtain ⟨_, _, _, x3, x4, _, _, xl, xm, _⟩ := K6.out.sp
              go_upto_region 12 with fail
              have hal := (Below.refl W.heap.size W).alloc (Nat.le_refl _) (.cells #[.int .i64 r, .int .i64 s, .int .i64 q, .int .u64 (t : Int)] 55)
              have hG0 : fiG w (w.heap.size + 3) b W.heap.size (.slice A us.length nA) (.slice B rs.length nB) us rs ⟨r, s, q, t⟩ ((us, rs), [(nm, [(⟨r, s, q, t⟩ : Mk)])]) (fun _ => false) (W.alloc (.cells #[.int .i64 r, .int .i64 s, .int .i64 q, .int .u64 (t : Int)] 55)).drew :=
                ⟨(below_trans K6.out.bel hal).drew, fun _ => ⟨(K6.out.res.below hal).below (Below.refl _ _).drew, (HX.out.1.below hal).below (Below.refl _ _).drew, (BlkM.new W ⟨r, s, q, t⟩).below (Below.refl _ _).drew, (HX.out.2.1.below hal).below (Below.refl _ _).drew, (HX.out.2.2.below hal).below (Below.refl _ _).drew⟩, fun h => (by cases h)⟩
              clear hal x3 x4 xl xm K6 HX
              generalize W.heap.size = gm at *
              generalize World.alloc W _ = W1 at *
              refine wp_region_T (S := ⟨fun L _ W => fiG w (w.heap.size + 3) b gm (.slice A us.length nA) (.slice B rs.length nB) us rs ⟨r, s, q, t⟩ ((us, rs), [(nm, [(⟨r, s, q, t⟩ : Mk)])]) L W, fiP ((us, rs), [(nm, [(⟨r, s, q, t⟩ : Mk)])]) (.agg #[.slice A us.length nA, .slice B rs.length nB]) nm ⟨r, s, q, t⟩⟩) (by kernel_rfl) (by kernel_rfl) (by kernel_rfl) (dst_small (n := 72) (by kernel_rfl)) hG0 ?_ ?_
              · clear hG0
                have hkb : ∀ {W W' : World} {L : Nat → Bool}, BelW W W' → KeepsT ⟨fun L _ W => fiG w (w.heap.size + 3) b gm (.slice A us.length nA) (.slice B rs.length nB) us rs ⟨r, s, q, t⟩ ((us, rs), [(nm, [(⟨r, s, q, t⟩ : Mk)])]) L W, fiP ((us, rs), [(nm, [(⟨r, s, q, t⟩ : Mk)])]) (.agg #[.slice A us.length nA, .slice B rs.length nB]) nm ⟨r, s, q, t⟩⟩ L W W' := fun hb j v _ h => fiP_keep h hb
                refine ⟨?_, ?_, ?_, ?_, ?_, ?_, ?_, ?_, ?_, ?_, ?_, trivial⟩
                · refine StepT.val rfl fun L a W hI hk hd => ?_
                  have h7 : L 7 = false := hI.before (j := 7) (o := _) rfl (k := 0) rfl hk
                  have h9 : L 9 = false := hI.before (j := 9) (o := _) rfl (k := 7) rfl h7
                  have e14 : a.tmps[14]?.getD undef = .pointer (some ⟨b, 0, none⟩) := hI.at 14 (by kernel_rfl)
                  have hB := (hI.glob.2.1 h9).2.1
                  have c0 := hB.cell0
                  have c1 := hB.cell1
                  exact ⟨rfl, .agg #[.slice A us.length nA, .slice B rs.length nB], W, by go_simp, hkb (Below.refl _ W), fiG_keep hI.glob (Below.refl _ W) 0 (by decide), rfl⟩
                · refine StepT.val rfl fun L a W hI hk hd => ?_
                  have e2 : a.tmps[2]?.getD undef = .string ⟨nm.toArray⟩ := hI.at 2 (by kernel_rfl)
                  exact ⟨rfl, .string ⟨nm.toArray⟩, W, by go_simp, hkb (Below.refl _ W), fiG_keep hI.glob (Below.refl _ W) 1 (by decide), rfl⟩
                · refine StepT.call rfl fun L a W hI hk hd => ?_
                  obtain ⟨_, e64, rfl⟩ := hI.get 1 64 (hd 1 rfl) rfl
                  refine ⟨rfl, 109, #[.string ⟨nm.toArray⟩], by go_simp, (strClone nm W (by have := HNL.out; omega)).mono ?_⟩
                  rintro e W' ⟨rfl, hb⟩
                  exact ⟨_, rfl, hkb hb, fiG_keep hI.glob hb 2 (by decide), rfl⟩
                · refine StepT.val rfl fun L a W hI hk hd => ?_
                  have h4 : L 4 = false := hI.before (j := 4) (o := _) rfl (k := 3) rfl hk
                  have h5 : L 5 = false := hI.before (j := 5) (o := _) rfl (k := 4) rfl h4
                  have h6 : L 6 = false := hI.before (j := 6) (o := _) rfl (k := 5) rfl h5
                  have h7 : L 7 = false := hI.before (j := 7) (o := _) rfl (k := 6) rfl h6
                  have h9 : L 9 = false := hI.before (j := 9) (o := _) rfl (k := 7) rfl h7
                  have e15 : a.tmps[15]?.getD undef = .pointer (some ⟨gm, 0, none⟩) := hI.at 15 (by kernel_rfl)
                  have hB := (hI.glob.2.1 h9).2.2.1
                  have c0 := hB.cell0
                  have c1 := hB.cell1
                  have c2 := hB.cell2
                  have c3 := hB.cell3
                  exact ⟨rfl, mkV ⟨r, s, q, t⟩, W, by go_simp, hkb (Below.refl _ W), fiG_keep hI.glob (Below.refl _ W) 3 (by decide), rfl⟩
                · refine StepT.val rfl fun L a W hI hk hd => ?_
                  obtain ⟨_, e66, rfl⟩ := hI.get 3 66 (hd 3 rfl) rfl
                  exact ⟨rfl, .slice (some ⟨W.heap.size, 0, none⟩) 1 1, W.alloc (.cells #[.int .i64 r, .int .i64 s, .int .i64 q, .int .u64 (t : Int)] 55), by go_simp, hkb ((Below.refl _ W).alloc (Nat.le_refl _) _), fiG_keep hI.glob ((Below.refl _ W).alloc (Nat.le_refl _) _) 4 (by decide), W.heap.size, rfl, SlAt.one (enc := encM) (x := ⟨r, s, q, t⟩) (heap_alloc_new W _)⟩
                · refine StepT.val rfl fun L a W hI hk hd => ?_
                  obtain ⟨_, e65, rfl⟩ := hI.get 2 65 (hd 2 rfl) rfl
                  obtain ⟨_, e67, g, rfl, hm⟩ := hI.get 4 67 (hd 4 rfl) rfl
                  exact ⟨rfl, .agg #[.string ⟨nm.toArray⟩, .slice (some ⟨g, 0, none⟩) 1 1], W, by go_simp, hkb (Below.refl _ W), fiG_keep hI.glob (Below.refl _ W) 5 (by decide), g, rfl, hm⟩
                · refine StepT.val rfl fun L a W hI hk hd => ?_
                  obtain ⟨_, e68, g, rfl, hm⟩ := hI.get 5 68 (hd 5 rfl) rfl
                  exact ⟨rfl, .slice (some ⟨W.heap.size, 0, none⟩) 1 1, W.alloc (.cells #[.string ⟨nm.toArray⟩, .slice (some ⟨g, 0, none⟩) 1 1] 50), by go_simp, hkb ((Below.refl _ W).alloc (Nat.le_refl _) _), fiG_keep hI.glob ((Below.refl _ W).alloc (Nat.le_refl _) _) 6 (by decide), W.heap.size, g, rfl, one_item hm⟩
                · refine StepT.val rfl fun L a W hI hk hd => ?_
                  obtain ⟨_, e63, rfl⟩ := hI.get 0 63 (hd 0 rfl) rfl
                  obtain ⟨_, e69, p, g, rfl, hx⟩ := hI.get 6 69 (hd 6 rfl) rfl
                  have h9 : L 9 = false := hI.before (j := 9) (o := _) rfl (k := 7) rfl hk
                  have hu := (hI.glob.2.1 h9).2.2.2
                  exact ⟨rfl, mkC ⟨A, nA, us, B, nB, rs, some ⟨p, 0, none⟩, 1, [⟨nm, some ⟨g, 0, none⟩, 1, [⟨r, s, q, t⟩]⟩]⟩, W, by go_simp, hkb (Below.refl _ W), fiG_keep hI.glob (Below.refl _ W) 7 (by decide), _, rfl, rfl, hu.1, hu.2, some ⟨p, 0, none⟩, 1, rfl, hx, by simp, by simp [maxLen]⟩
                · refine StepT.val rfl fun L a W hI hk hd => ?_
                  have e13 : a.tmps[13]?.getD undef = .int .i64 0 := hI.at 13 (by kernel_rfl)
                  exact ⟨rfl, .int .i64 0, W, by go_simp, hkb (Below.refl _ W), fiG_keep hI.glob (Below.refl _ W) 8 (by decide), rfl⟩
                · refine StepT.skip rfl rfl fun L a W hI hk hd => ?_
                  obtain ⟨_, e70, z, rfl, hz, ho⟩ := hI.get 7 70 (hd 7 rfl) rfl
                  have e10 : a.tmps[10]?.getD undef = .pointer (some ⟨w.heap.size + 3, 0, none⟩) := hI.at 10 (by kernel_rfl)
                  have hB := (hI.glob.2.1 hk).1
                  obtain ⟨t1, t2, t3⟩ := store_cart hB ho
                  obtain ⟨fz0, fz1, fz2⟩ := BlkC.frozens hB
                  have q0 := hB.cell0
                  have q1 := hB.cell1
                  have q2 := hB.cell2
                  refine ⟨rfl, _, ?_, fun j v _ h => fiP_turn h (fun _ _ h => marks_off h hB (Nat.le_of_eq t1.size.symm) t1.block) (fun _ _ h => items_off h hB (Nat.le_of_eq t1.size.symm) t1.block) (fun _ h => h.off_only hB (Nat.le_of_eq t1.size.symm) t1.block), below_fill hI.glob.1 (Nat.le_add_right _ 3) _ _ _, fun h => (by rw [moreL_eq] at h; cases h), fun _ => ⟨z, t2, hz, t3⟩⟩
                  clear t1 t2 t3 hB ho hz
                  go_simp
                · refine StepT.val rfl fun L a W hI hk hd => ?_
                  obtain ⟨_, e71, rfl⟩ := hI.get 8 71 (hd 8 rfl) rfl
                  exact ⟨rfl, .int .i64 0, W, by go_simp, hkb (Below.refl _ W), fiG_keep hI.glob (Below.refl _ W) 10 (by decide), rfl⟩
              · intro a W L hL hI
                obtain ⟨z, hB, hz, ho⟩ := hI.glob.2.2 (hL 9 (by decide))
                have e11 : a.eval (.tmp 11) = .int .i64 0 := by
                  obtain ⟨_, e, rfl⟩ := hI.get 10 11 (hL 10 (by decide)) rfl
                  rw [eval_tmp]; exact e
                have HFIN := Lib.hid (show BlkC W (w.heap.size + 3) z ∧ z.ca = ((us, rs), [(nm, [(⟨r, s, q, t⟩ : Mk)])]) ∧ CaOK W z ∧ Below w.heap.size w W from ⟨hB, hz, ho, hI.glob.1⟩)
                rw [hI.frame]
                simp only [List.filterMap, List.foldl]
                rw [e11]
                generalize a.eval (.tmp 63) = v63
                generalize a.eval (.tmp 64) = v64
                generalize a.eval (.tmp 65) = v65
                generalize a.eval (.tmp 66) = v66
                generalize a.eval (.tmp 67) = v67
                generalize a.eval (.tmp 68) = v68
                generalize a.eval (.tmp 69) = v69
                generalize a.eval (.tmp 70) = v70
                generalize a.eval (.tmp 71) = v71
                clear hI hL e11 hB hz ho hG0
                simp only [List.setIfInBounds_toArray, List.set_cons_succ, List.set_cons_zero]
                go_wp2_with fail
                have s0 := HFIN.out.1.cell0
                have s1 := HFIN.out.1.cell1
                have s2 := HFIN.out.1.cell2
                exact bodyPost_ret (v := .tuple #[mkC z, .int .i64 0]) (by simp [results, Tryz.results57, go_sem, s0, s1, s2]) rfl ⟨⟨z, by rw [HPN.out]; rfl, by rw [HZ.out]; exact HFIN.out.2.1, HFIN.out.2.2.1⟩, HFIN.out.2.2.2⟩
          · have HZ := Lib.hid (show putD c.ca (r, s) nm q false = zC.ca from putD_f (by rw [HPN.out]; exact hn))
            have hnz : ¬ (n : Int) = 0 := by omega
            obtain ⟨z0, z1, z2, f0, f1, f2⟩ := results_zero K4.out.res
            have hrl := K4.out.res.lt
            have HFA := Lib.hid (fill_cells K4.out.res (.slice none 0 0) (.slice none 0 0) (.slice none 0 0))
            have KB := Lib.hid (below_fill K4.out.bel (Nat.le_add_right _ 3) (.slice none 0 0) (.slice none 0 0) (.slice none 0 0))
            clear K4
            go_wp2_with fail
            obtain ⟨s0, s1, s2⟩ := HFA.out
            exact bodyPost_ret (v := .tuple #[mkC zC, .int .i64 n]) (by simp [results, Tryz.results57, go_sem, s0, s1, s2]) rfl ⟨⟨zC, by rw [HPN.out], HZ.out.symm, zC_ok _⟩, KB.out⟩

set_option maxRecDepth 100000 in
set_option maxHeartbeats 8000000 in
theorem delAdd (c : CaV) (r s : Int) (nm : List UInt8) (q : Int) (w : World) (hc : CaOK w c) (hf : FitsD c) (hl : nm.length ≤ 1000) :
    Calls Tryz.prog 28 #[mkC c, .agg #[.int .i64 r, .int .i64 s], .string ⟨nm.toArray⟩, .int .i64 q] w (MadeD (putD c.ca (r, s) nm q false) (putE c.ca (r, s) nm q false) w) := by
  have K0 := Lib.hid (KAs.new w c r s nm hc)
  obtain ⟨b, hb⟩ : ∃ b, (decide (c.xs.length < 256) || decide (0 < (dotsC c.ca nm).length)) = b := ⟨_, rfl⟩
  have HP := Lib.hid fun W (h : KAs w c r s nm W) => delPutAdd c r s nm q b w.heap.size (w.heap.size + 2) W h.k.ok hf hl (fun W' hW => by
    have h' := h.next hW
    exact delRoom c nm b w.heap.size (w.heap.size + 2) W' h'.k.cart h'.k.ok h'.nb hf.k hb) (fun h1 h2 h3 => putE_add h1 h2 h3 (b := b) (by rw [← hb, ← has_there (fresh_iff.1 h1).1 (item_ne h2), ca_x, its_len]))
  clear hc hf hl hb
  generalize putD c.ca (r, s) nm q false = X at *
  generalize putE c.ca (r, s) nm q false = n at *
  go_enter Tryz.func28, Tryz.ntmps28
  go_upto_region 1 with fail
  generalize World.alloc (World.alloc (World.alloc (World.alloc w _) _) _) _ = w2 at K0 ⊢
  obtain ⟨x0, x1, x2, x3, x4, x5, xl, xm, xn⟩ := K0.out.sp
  go_wp2_with fail
  refine (HP.out w2 K0.out).mono ?_
  rintro e w3 ⟨⟨z, rfl, hz, ho⟩, hb⟩
  have K1 := Lib.hid (K0.out.next hb)
  have HZ := Lib.hid hz
  clear hb hz K0 x0 x1 x2 x3 x4 x5 xl xm xn HP
  obtain ⟨z0, z1, z2, f0, f1, f2⟩ := results_zero K1.out.res
  have hrl := K1.out.res.lt
  have HFA := Lib.hid (fill_cells K1.out.res z.v z.l z.i)
  have KB := Lib.hid (below_fill K1.out.k.bel (Nat.le_add_right _ 3) z.v z.l z.i)
  obtain ⟨_, _, t3⟩ := store_cart K1.out.res ho
  have HOK := Lib.hid t3
  clear K1 ho t3
  go_wp2_with fail
  obtain ⟨s0, s1, s2⟩ := HFA.out
  exact bodyPost_ret (v := .tuple #[mkC z, .int .i64 n]) (by simp [results, Tryz.results28, go_sem, s0, s1, s2]) rfl ⟨⟨z, rfl, HZ.out, HOK.out⟩, KB.out⟩

end

end Go.Proofs.YtiaehpdgpjhecaaGreat
