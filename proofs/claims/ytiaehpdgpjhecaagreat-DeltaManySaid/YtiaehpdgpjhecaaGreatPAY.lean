/- Several texts in one: DelF, GonO. -/
import Derived.Test.YtiaehpdgpjhecaaGreatPAV
import Derived.Test.YtiaehpdgpjhecaaGreatPAU
import Derived.Test.YtiaehpdgpjhecaaGreatPAJ
import Derived.Test.YtiaehpdgpjhecaaGreatPAP
namespace Go.Proofs.YtiaehpdgpjhecaaGreat

section
open Go.RowKit

theorem has_there {c : Ca} {nm : List UInt8} (hv : validK c = true) (hn : nm ≠ []) : decide (0 < (dotsC c nm).length) = thereN c nm := by
  rw [dotsC_t hv]
  unfold dotsK thereN
  rw [if_neg hn]
  cases hf : c.2.find? (fun x => x.1 == nm) with
  | none =>
    have e : c.2.any (fun x => x.1 == nm) = false := by
      rw [List.any_eq_false]
      intro x hx
      have := List.find?_eq_none.1 hf x hx
      simpa using this
    rw [e]; rfl
  | some x =>
    have hx := List.mem_of_find?_eq_some hf
    have hp : (x.1 == nm) = true := List.find?_some (p := fun y : It => y.1 == nm) hf
    have e : c.2.any (fun x => x.1 == nm) = true := List.any_eq_true.2 ⟨x, hx, hp⟩
    rw [e]
    have h2 := (okI_parts ((validK_iff.1 hv).2.1.1 x hx)).2.1
    show decide (0 < (dotsM x.2).length) = true
    rw [dotsM_len]; simpa using h2
theorem dotsC_size {c : CaV} {nm : List UInt8} (hf : FitsK c) : (dotsC c.ca nm).length ≤ 3000 := by
  unfold dotsC
  split
  · exact dotsK_size hf
  · simp

set_option maxHeartbeats 2000000 in
theorem delGone (v : Value) (l : List (Int × Int)) (w : World) (h : Holds w v l) (hv : ∀ p ∈ l, validD p.1 p.2 = true) (hm : l.length ≤ 3000) :
    Calls Tryz.prog 64 #[v] w (MadeD (goneD l) 0 w) := by
  obtain ⟨us, rs, hz⟩ : ∃ a b, addC [] [] l = (a, b) := ⟨_, _, rfl⟩
  have hb1 := (Below.refl w.heap.size w).alloc (Nat.le_refl _) (.cells #[zC.v, zC.l, zC.i] 28)
  have HA := ctxOf v l _ (h.below hb1) hm
  rw [(okL_iff l).2 hv, hz] at HA
  have HA := Lib.hid HA
  have HG := Lib.hid (show goneD l = ((us, rs), []) from by unfold goneD; rw [hz])
  have HB := Lib.hid hb1
  have HR := Lib.hid (BlkC.new w zC)
  obtain ⟨A, n, rfl, _⟩ := h
  generalize l.length = k at *
  clear hv hm hz hb1
  go_enter Tryz.func64, Tryz.ntmps64
  go_wp2_with fail
  refine HA.out.mono ?_
  rintro e w3 hr
  obtain ⟨⟨B, nv, D, nl, rfl, hv, hl⟩, hb⟩ := CtxR.t hr
  have hal := (Below.refl w3.heap.size w3).alloc (Nat.le_refl _) (.cells #[.slice B us.length nv, .slice D rs.length nl] 25)
  have HB3 := Lib.hid (below_trans HB.out (below_trans hb hal))
  have HR3 := Lib.hid ((HR.out.below hb).below hal)
  have hok : CaOK (w3.alloc (.cells #[.slice B us.length nv, .slice D rs.length nl] 25)) ⟨B, nv, us, D, nl, rs, none, 0, []⟩ := ⟨hv.holds.below hal, hl.holds.below hal, HoldsX.nil _⟩
  clear hr hv hl hb hal HB HR HA
  obtain ⟨z0, z1, z2, f0, f1, f2⟩ := results_zero HR3.out
  have hrl := HR3.out.lt
  have HFA := Lib.hid (fill_cells HR3.out (.slice B us.length nv) (.slice D rs.length nl) (.slice none 0 0))
  obtain ⟨_, _, t3⟩ := store_cart HR3.out hok
  have HOK := Lib.hid t3
  have KB := Lib.hid (below_fill HB3.out (Nat.le_refl _) (.slice B us.length nv) (.slice D rs.length nl) (.slice none 0 0))
  clear hok t3
  go_wp2_with fail
  obtain ⟨s0, s1, s2⟩ := HFA.out
  exact bodyPost_ret (v := .tuple #[.agg #[.slice B us.length nv, .slice D rs.length nl, .slice none 0 0], .int .i64 0]) (by simp [results, Tryz.results64, go_sem, s0, s1, s2]) rfl ⟨⟨⟨B, nv, us, D, nl, rs, none, 0, []⟩, rfl, HG.out.symm, HOK.out⟩, KB.out⟩

set_option maxHeartbeats 2000000 in
theorem delHas (c : CaV) (nm : List UInt8) (b : Bool) (w : World) (hc : CaOK w c) (hf : FitsK c) (hb : decide (0 < (dotsC c.ca nm).length) = b) :
    Calls Tryz.prog 56 #[mkC c, .string ⟨nm.toArray⟩] w (OneB (.bool b) w) := by
  have K0 := Lib.hid (KB1.new w c hc)
  have HD := Lib.hid fun W (h : CaOK W c) => caDots c nm _ W h hf rfl
  generalize dotsC c.ca nm = ds at *
  have HB := Lib.hid hb
  clear hc hf hb
  go_enter Tryz.func56, Tryz.ntmps56
  go_upto_region 1 with fail
  generalize World.alloc w _ = w2 at K0 ⊢
  obtain ⟨x0, x1, x2, xl, _⟩ := K0.out.sp
  go_wp2_with fail
  refine (HD.out _ K0.out.ok).mono ?_
  rintro e w3 ⟨⟨v, rfl, hv⟩, hb⟩
  have KB := Lib.hid (K0.out.next hb).bel
  obtain ⟨A, n, rfl, _⟩ := hv
  clear hb K0 x0 x1 x2 xl HD
  generalize ds.length = k at *
  go_wp2_with fail
  go_ret
  exact OneB.bool HB.out KB.out

theorem empty_same (c : Ca) : sameC c zC.ca = emptyK c := by
  rw [Bool.eq_iff_iff, sameC_iff]
  obtain ⟨⟨v, l⟩, i⟩ := c
  unfold emptyK
  show ((v, l), i) = (([], []), []) ↔ _
  cases v <;> cases l <;> cases i <;> simp
set_option maxHeartbeats 2000000 in
theorem delEmpty (c : CaV) (b : Bool) (w : World) (hc : CaOK w c) (hm : c.xs.length ≤ 100000) (hb : emptyK c.ca = b) :
    Calls Tryz.prog 20 #[mkC c] w (OneB (.bool b) w) := by
  have K0 := Lib.hid (KB1.new w c hc)
  have HE := Lib.hid fun W (h : CaOK W c) => caEqual c zC b W h (zC_ok W) hm (by decide) ((empty_same c.ca).trans hb)
  clear hc hm hb
  go_enter Tryz.func20, Tryz.ntmps20
  go_upto_region 1 with fail
  generalize World.alloc w _ = w2 at K0 ⊢
  obtain ⟨x0, x1, x2, xl, _⟩ := K0.out.sp
  go_wp2_with fail
  refine (HE.out _ K0.out.ok).mono ?_
  rintro e w3 ⟨rfl, hb⟩
  have KB := Lib.hid (K0.out.next hb).bel
  clear hb K0 x0 x1 x2 xl HE
  go_wp2_with fail
  go_ret
  exact OneB.bool rfl KB.out

set_option maxHeartbeats 2000000 in
theorem delFresh (c : CaV) (r s : Int) (b : Bool) (w : World) (hc : CaOK w c) (hf : FitsK c) (hb : freshK c.ca (r, s) = b) :
    Calls Tryz.prog 22 #[mkC c, .agg #[.int .i64 r, .int .i64 s]] w (OneB (.bool b) w) := by
  have K0 := Lib.hid (KFr.new w c r s hc)
  obtain ⟨v, hv⟩ : ∃ v, validK c.ca = v := ⟨_, rfl⟩
  obtain ⟨g, hg⟩ : ∃ g, validD r s = g := ⟨_, rfl⟩
  obtain ⟨k, hk⟩ : ∃ k, hasC c.vs c.ls r s = k := ⟨_, rfl⟩
  have HV := Lib.hid fun W (h : CaOK W c) => caValid c v W h hf hv
  have HG := Lib.hid hg
  have HK := Lib.hid hk
  have HB := Lib.hid (show (v && (g && !k)) = b from by
    rw [← hb, ← hv, ← hg, ← hk]; rfl)
  clear hc hf hb hv hg hk
  cases v with
  | false =>
    obtain rfl : false = b := HB.out
    go_enter Tryz.func22, Tryz.ntmps22
    go_upto_region 1 with fail
    generalize World.alloc (World.alloc w _) _ = w2 at K0 ⊢
    obtain ⟨x0, x1, x2, x3, x4, xl, xm⟩ := K0.out.sp
    go_wp2_with fail
    refine (HV.out w2 K0.out.ok).mono ?_
    rintro e w3 ⟨rfl, hb⟩
    have KB := Lib.hid (K0.out.next hb).bel
    clear hb K0 x0 x1 x2 x3 x4 xl xm
    go_wp2_with fail
    go_ret
    exact OneB.bool rfl KB.out
  | true =>
    cases g with
    | false =>
      obtain rfl : false = b := HB.out
      go_enter Tryz.func22, Tryz.ntmps22
      go_upto_region 1 with fail
      generalize World.alloc (World.alloc w _) _ = w2 at K0 ⊢
      obtain ⟨x0, x1, x2, x3, x4, xl, xm⟩ := K0.out.sp
      go_wp2_with fail
      refine (HV.out w2 K0.out.ok).mono ?_
      rintro e w3 ⟨rfl, hb⟩
      have K1 := Lib.hid (K0.out.next hb)
      clear hb K0 x0 x1 x2 x3 x4 xl xm
      obtain ⟨x0, x1, x2, x3, x4, xl, xm⟩ := K1.out.sp
      go_wp2_with fail
      refine (dotValid r s w3).mono ?_
      rintro e w4 ⟨he, hb⟩
      obtain rfl : e = .returned (.bool false) := he.trans (by rw [HG.out])
      have KB := Lib.hid (K1.out.next hb).bel
      clear hb he K1 x0 x1 x2 x3 x4 xl xm
      go_wp2_with fail
      go_ret
      exact OneB.bool rfl KB.out
    | true =>
      cases k
      all_goals
        have HB2 := Lib.hid HB.out
        clear HB
        go_enter Tryz.func22, Tryz.ntmps22
        go_upto_region 1 with fail
        generalize World.alloc (World.alloc w _) _ = w2 at K0 ⊢
        obtain ⟨x0, x1, x2, x3, x4, xl, xm⟩ := K0.out.sp
        go_wp2_with fail
        refine (HV.out w2 K0.out.ok).mono ?_
        rintro e w3 ⟨rfl, hb⟩
        have K1 := Lib.hid (K0.out.next hb)
        clear hb K0 x0 x1 x2 x3 x4 xl xm
        obtain ⟨x0, x1, x2, x3, x4, xl, xm⟩ := K1.out.sp
        go_wp2_with fail
        refine (dotValid r s w3).mono ?_
        rintro e w4 ⟨he, hb⟩
        obtain rfl : e = .returned (.bool true) := he.trans (by rw [HG.out])
        have K2 := Lib.hid (K1.out.next hb)
        clear hb he K1 x0 x1 x2 x3 x4 xl xm
        obtain ⟨x0, x1, x2, x3, x4, xl, xm⟩ := K2.out.sp
        go_wp2_with fail
        refine (ctxHas (.agg #[c.v, c.l]) c.vs c.ls r s _ w4 K2.out.ok.ctx HK.out).mono ?_
        rintro e w5 ⟨rfl, hb⟩
        have KB := Lib.hid (K2.out.next hb).bel
        clear hb K2 x0 x1 x2 x3 x4 xl xm
        go_wp2_with fail
        go_ret
        exact OneB.bool HB2.out KB.out

set_option maxRecDepth 100000 in
set_option maxHeartbeats 8000000 in
theorem delClear (c : CaV) (w : World) (hc : CaOK w c) (hf : FitsK c) : Calls Tryz.prog 32 #[mkC c] w (MadeD (cleD c.ca) (cleE c.ca) w) := by
  have K0 := Lib.hid (KRm.new w c hc)
  obtain ⟨v, hv⟩ : ∃ v, validK c.ca = v := ⟨_, rfl⟩
  have HV := Lib.hid hv
  have HCV := Lib.hid fun W (h : CaOK W c) => caValid c v W h hf hv
  have HD := Lib.hid fun W (h : CaOK W c) => caDots c [] _ W h hf rfl
  have HDL := Lib.hid (dotsC_size (nm := []) hf)
  clear hc hf hv
  cases v with
  | false =>
    have HE : cleE c.ca = 2 := by unfold cleE; rw [HV.out]; rfl
    rw [HE]
    have HZ := Lib.hid (show cleD c.ca = zC.ca from cleD_f (by rw [HE]; decide))
    clear HE
    go_enter Tryz.func32, Tryz.ntmps32
    go_upto_region 1 with fail
    generalize World.alloc (World.alloc w _) _ = w2 at K0 ⊢
    obtain ⟨x0, x1, x2, xl⟩ := K0.out.sp
    go_wp2_with fail
    refine (HCV.out w2 K0.out.ok).mono ?_
    rintro e w3 ⟨rfl, hb⟩
    have K1 := Lib.hid (K0.out.next hb)
    clear hb K0 x0 x1 x2 xl
    obtain ⟨z0, z1, z2, f0, f1, f2⟩ := results_zero K1.out.res
    have hrl := K1.out.res.lt
    have HFA := Lib.hid (fill_cells K1.out.res (.slice none 0 0) (.slice none 0 0) (.slice none 0 0))
    have KB := Lib.hid (below_fill K1.out.bel (Nat.le_add_right _ 1) (.slice none 0 0) (.slice none 0 0) (.slice none 0 0))
    clear K1
    go_wp2_with fail
    obtain ⟨s0, s1, s2⟩ := HFA.out
    exact bodyPost_ret (v := .tuple #[mkC zC, .int .i64 2]) (by simp [results, Tryz.results32, go_sem, s0, s1, s2]) rfl ⟨⟨zC, rfl, HZ.out.symm, zC_ok _⟩, KB.out⟩
  | true =>
    have HE : cleE c.ca = 0 := by unfold cleE; rw [HV.out]; rfl
    rw [HE]
    have HZ := Lib.hid (show cleD c.ca = goneD (dotsC c.ca []) from cleD_t HE)
    have HDV := Lib.hid (show ∀ p ∈ dotsC c.ca [], validD p.1 p.2 = true from fun p hp => dotsC_valid (c := c.ca) HV.out (nm := []) p hp)
    clear HE
    generalize dotsC c.ca [] = ds at *
    go_enter Tryz.func32, Tryz.ntmps32
    go_upto_region 1 with fail
    generalize World.alloc (World.alloc w _) _ = w2 at K0 ⊢
    obtain ⟨x0, x1, x2, xl⟩ := K0.out.sp
    go_wp2_with fail
    refine (HCV.out w2 K0.out.ok).mono ?_
    rintro e w3 ⟨rfl, hb⟩
    have K1 := Lib.hid (K0.out.next hb)
    clear hb K0 x0 x1 x2 xl
    obtain ⟨x0, x1, x2, xl⟩ := K1.out.sp
    go_wp2_with fail
    refine (HD.out w3 K1.out.ok).mono ?_
    rintro e w4 ⟨⟨u, rfl, hu⟩, hb⟩
    have K2 := Lib.hid (K1.out.next hb)
    have HU := Lib.hid hu
    clear hb hu K1 x0 x1 x2 xl
    go_wp2_with fail
    refine (delGone u _ _ HU.out HDV.out HDL.out).mono ?_
    rintro e w5 ⟨⟨z, rfl, hz, ho⟩, hb⟩
    have K3 := Lib.hid (K2.out.next hb)
    have HZZ := Lib.hid hz
    clear hb hz K2 HU
    obtain ⟨z0, z1, z2, f0, f1, f2⟩ := results_zero K3.out.res
    have hrl := K3.out.res.lt
    have HFA := Lib.hid (fill_cells K3.out.res z.v z.l z.i)
    have KB := Lib.hid (below_fill K3.out.bel (Nat.le_add_right _ 1) z.v z.l z.i)
    obtain ⟨_, _, t3⟩ := store_cart K3.out.res ho
    have HOK := Lib.hid t3
    clear K3 ho t3
    go_wp2_with fail
    obtain ⟨s0, s1, s2⟩ := HFA.out
    exact bodyPost_ret (v := .tuple #[mkC z, .int .i64 0]) (by simp [results, Tryz.results32, go_sem, s0, s1, s2]) rfl ⟨⟨z, rfl, by rw [HZZ.out, HZ.out], HOK.out⟩, KB.out⟩

set_option maxRecDepth 100000 in
set_option maxHeartbeats 8000000 in
theorem delRemove (c : CaV) (nm : List UInt8) (w : World) (hc : CaOK w c) (hf : FitsK c) (hl : nm.length ≤ 1000) : Calls Tryz.prog 31 #[mkC c, .string ⟨nm.toArray⟩] w (MadeD (remD c.ca nm) (remE c.ca nm) w) := by
  have K0 := Lib.hid (KRm.new w c hc)
  obtain ⟨v, hv⟩ : ∃ v, validK c.ca = v := ⟨_, rfl⟩
  obtain ⟨i, hi⟩ : ∃ i, itemN nm = i := ⟨_, rfl⟩
  obtain ⟨t, ht⟩ : ∃ t, decide (0 < (dotsC c.ca nm).length) = t := ⟨_, rfl⟩
  have HV := Lib.hid hv
  have HI := Lib.hid hi
  have HTH := Lib.hid (show v = true → i = true → thereN c.ca nm = t from fun h h' => (has_there (hv.trans h) (item_ne (hi.trans h'))).symm.trans ht)
  have HCV := Lib.hid fun W (h : CaOK W c) => caValid c v W h hf hv
  have HIT := Lib.hid fun W => (show Calls Tryz.prog 63 #[.string ⟨nm.toArray⟩] W (OneB (.bool i) W) from hi ▸ nmItem nm W (by omega))
  have HHS := Lib.hid fun W (h : CaOK W c) => delHas c nm t W h hf ht
  have HD := Lib.hid fun W (h : CaOK W c) => caDots c nm _ W h hf rfl
  have HDL := Lib.hid (dotsC_size (nm := nm) hf)
  clear hc hf hv hi ht hl
  cases v with
  | false =>
    have HE : remE c.ca nm = 2 := by unfold remE; rw [HV.out]; rfl
    rw [HE]
    have HZ := Lib.hid (show remD c.ca nm = zC.ca from remD_f (by rw [HE]; decide))
    clear HE HTH
    go_enter Tryz.func31, Tryz.ntmps31
    go_upto_region 1 with fail
    generalize World.alloc (World.alloc w _) _ = w2 at K0 ⊢
    obtain ⟨x0, x1, x2, xl⟩ := K0.out.sp
    go_wp2_with fail
    refine (HCV.out w2 K0.out.ok).mono ?_
    rintro e w3 ⟨rfl, hb⟩
    have K1 := Lib.hid (K0.out.next hb)
    clear hb K0 x0 x1 x2 xl
    obtain ⟨z0, z1, z2, f0, f1, f2⟩ := results_zero K1.out.res
    have hrl := K1.out.res.lt
    have HFA := Lib.hid (fill_cells K1.out.res (.slice none 0 0) (.slice none 0 0) (.slice none 0 0))
    have KB := Lib.hid (below_fill K1.out.bel (Nat.le_add_right _ 1) (.slice none 0 0) (.slice none 0 0) (.slice none 0 0))
    clear K1
    go_wp2_with fail
    obtain ⟨s0, s1, s2⟩ := HFA.out
    exact bodyPost_ret (v := .tuple #[mkC zC, .int .i64 2]) (by simp [results, Tryz.results31, go_sem, s0, s1, s2]) rfl ⟨⟨zC, rfl, HZ.out.symm, zC_ok _⟩, KB.out⟩
  | true =>
    cases i with
    | false =>
      have HE : remE c.ca nm = 2 := by unfold remE; rw [HV.out, HI.out]; rfl
      rw [HE]
      have HZ := Lib.hid (show remD c.ca nm = zC.ca from remD_f (by rw [HE]; decide))
      clear HE HTH
      go_enter Tryz.func31, Tryz.ntmps31
      go_upto_region 1 with fail
      generalize World.alloc (World.alloc w _) _ = w2 at K0 ⊢
      obtain ⟨x0, x1, x2, xl⟩ := K0.out.sp
      go_wp2_with fail
      refine (HCV.out w2 K0.out.ok).mono ?_
      rintro e w3 ⟨rfl, hb⟩
      have K1 := Lib.hid (K0.out.next hb)
      clear hb K0 x0 x1 x2 xl
      go_wp2_with fail
      refine (HIT.out w3).mono ?_
      rintro e w4 ⟨rfl, hb⟩
      have K2 := Lib.hid (K1.out.next hb)
      clear hb K1
      obtain ⟨z0, z1, z2, f0, f1, f2⟩ := results_zero K2.out.res
      have hrl := K2.out.res.lt
      have HFA := Lib.hid (fill_cells K2.out.res (.slice none 0 0) (.slice none 0 0) (.slice none 0 0))
      have KB := Lib.hid (below_fill K2.out.bel (Nat.le_add_right _ 1) (.slice none 0 0) (.slice none 0 0) (.slice none 0 0))
      clear K2
      go_wp2_with fail
      obtain ⟨s0, s1, s2⟩ := HFA.out
      exact bodyPost_ret (v := .tuple #[mkC zC, .int .i64 2]) (by simp [results, Tryz.results31, go_sem, s0, s1, s2]) rfl ⟨⟨zC, rfl, HZ.out.symm, zC_ok _⟩, KB.out⟩
    | true =>
      cases t with
      | false =>
        have HE : remE c.ca nm = 9 := by
          unfold remE
          rw [HV.out, HI.out, HTH.out rfl rfl]; rfl
        rw [HE]
        have HZ := Lib.hid (show remD c.ca nm = zC.ca from remD_f (by rw [HE]; decide))
        clear HE HTH
        go_enter Tryz.func31, Tryz.ntmps31
        go_upto_region 1 with fail
        generalize World.alloc (World.alloc w _) _ = w2 at K0 ⊢
        obtain ⟨x0, x1, x2, xl⟩ := K0.out.sp
        go_wp2_with fail
        refine (HCV.out w2 K0.out.ok).mono ?_
        rintro e w3 ⟨rfl, hb⟩
        have K1 := Lib.hid (K0.out.next hb)
        clear hb K0 x0 x1 x2 xl
        go_wp2_with fail
        refine (HIT.out w3).mono ?_
        rintro e w4 ⟨rfl, hb⟩
        have K2 := Lib.hid (K1.out.next hb)
        clear hb K1
        obtain ⟨x0, x1, x2, xl⟩ := K2.out.sp
        go_wp2_with fail
        refine (HHS.out w4 K2.out.ok).mono ?_
        rintro e w5 ⟨rfl, hb⟩
        have K3 := Lib.hid (K2.out.next hb)
        clear hb K2 x0 x1 x2 xl
        obtain ⟨z0, z1, z2, f0, f1, f2⟩ := results_zero K3.out.res
        have hrl := K3.out.res.lt
        have HFA := Lib.hid (fill_cells K3.out.res (.slice none 0 0) (.slice none 0 0) (.slice none 0 0))
        have KB := Lib.hid (below_fill K3.out.bel (Nat.le_add_right _ 1) (.slice none 0 0) (.slice none 0 0) (.slice none 0 0))
        clear K3
        go_wp2_with fail
        obtain ⟨s0, s1, s2⟩ := HFA.out
        exact bodyPost_ret (v := .tuple #[mkC zC, .int .i64 9]) (by simp [results, Tryz.results31, go_sem, s0, s1, s2]) rfl ⟨⟨zC, rfl, HZ.out.symm, zC_ok _⟩, KB.out⟩
      | true =>
        have HE : remE c.ca nm = 0 := by
          unfold remE
          rw [HV.out, HI.out, HTH.out rfl rfl]; rfl
        rw [HE]
        have HZ := Lib.hid (show remD c.ca nm = goneD (dotsC c.ca nm) from remD_t HE)
        have HDV := Lib.hid (show ∀ p ∈ dotsC c.ca nm, validD p.1 p.2 = true from fun p hp => dotsC_valid (c := c.ca) HV.out (nm := nm) p hp)
        clear HE HTH
        generalize dotsC c.ca nm = ds at *
        go_enter Tryz.func31, Tryz.ntmps31
        go_upto_region 1 with fail
        generalize World.alloc (World.alloc w _) _ = w2 at K0 ⊢
        obtain ⟨x0, x1, x2, xl⟩ := K0.out.sp
        go_wp2_with fail
        refine (HCV.out w2 K0.out.ok).mono ?_
        rintro e w3 ⟨rfl, hb⟩
        have K1 := Lib.hid (K0.out.next hb)
        clear hb K0 x0 x1 x2 xl
        go_wp2_with fail
        refine (HIT.out w3).mono ?_
        rintro e w4 ⟨rfl, hb⟩
        have K2 := Lib.hid (K1.out.next hb)
        clear hb K1
        obtain ⟨x0, x1, x2, xl⟩ := K2.out.sp
        go_wp2_with fail
        refine (HHS.out w4 K2.out.ok).mono ?_
        rintro e w5 ⟨rfl, hb⟩
        have K3 := Lib.hid (K2.out.next hb)
        clear hb K2 x0 x1 x2 xl
        obtain ⟨x0, x1, x2, xl⟩ := K3.out.sp
        go_wp2_with fail
        refine (HD.out w5 K3.out.ok).mono ?_
        rintro e w6 ⟨⟨u, rfl, hu⟩, hb⟩
        have K4 := Lib.hid (K3.out.next hb)
        have HU := Lib.hid hu
        clear hb hu K3 x0 x1 x2 xl
        go_wp2_with fail
        refine (delGone u _ _ HU.out HDV.out HDL.out).mono ?_
        rintro e w7 ⟨⟨z, rfl, hz, ho⟩, hb⟩
        have K5 := Lib.hid (K4.out.next hb)
        have HZZ := Lib.hid hz
        clear hb hz K4 HU
        obtain ⟨z0, z1, z2, f0, f1, f2⟩ := results_zero K5.out.res
        have hrl := K5.out.res.lt
        have HFA := Lib.hid (fill_cells K5.out.res z.v z.l z.i)
        have KB := Lib.hid (below_fill K5.out.bel (Nat.le_add_right _ 1) z.v z.l z.i)
        obtain ⟨_, _, t3⟩ := store_cart K5.out.res ho
        have HOK := Lib.hid t3
        clear K5 ho t3
        go_wp2_with fail
        obtain ⟨s0, s1, s2⟩ := HFA.out
        exact bodyPost_ret (v := .tuple #[mkC z, .int .i64 0]) (by simp [results, Tryz.results31, go_sem, s0, s1, s2]) rfl ⟨⟨z, rfl, by rw [HZZ.out, HZ.out], HOK.out⟩, KB.out⟩

end

section
open Go.RowKit

/-- A context in its box. -/
def BoxO (W : World) (b : Nat) (us rs : List (Int × Int)) : Prop := ∃ A n B k, Blk2 W b (.slice A us.length n) (.slice B rs.length k) ∧ Holds W (.slice A us.length n) us ∧ Holds W (.slice B rs.length k) rs
theorem BoxO.below {W W' : World} {b : Nat} {us rs : List (Int × Int)} (h : BoxO W b us rs) (hb : BelW W W') : BoxO W' b us rs := by
  obtain ⟨A, n, B, k, h1, h2, h3⟩ := h
  exact ⟨A, n, B, k, h1.below hb, h2.below hb, h3.below hb⟩
def gonO (E : World) (l1 l2 us rs : List (Int × Int)) (x : Gx) (L : Nat → Bool) (a : Act) (W : World) : Prop :=
  Below E.heap.size E W ∧ a.tmps.size = x.n ∧
  (L x.i1 = true → L x.ia = false → RowC W E.heap.size (a.eval (.tmp x.tA)) l1) ∧
  (L x.i2 = true → L x.ia = false → Holds W (a.eval (.tmp x.tB)) l2) ∧
  (L x.ia = true → L x.ic = false → Holds W (a.eval (.tmp x.tR)) (l1 ++ l2)) ∧
  (L x.ib = true → ∃ b, a.eval (.tmp x.tX) = ptr0 b ∧ E.heap.size ≤ b ∧ b < W.heap.size ∧ (L x.st = false → Blk2 W b (.slice none 0 0) (.slice none 0 0)) ∧ (L x.i1 = true → L x.ia = false → (a.eval (.tmp x.tA)).ownBlock ≠ some b) ∧ (L x.st = true → BoxO W b us rs))
section
variable {E : World} {l1 l2 us rs : List (Int × Int)} {x : Gx}
/-- Another operation. -/
theorem gonO_keep {L : Nat → Bool} {a : Act} {W W' : World} (hG : gonO E l1 l2 us rs x L a W) (hb : BelW W W') (k : Nat) (d : Option Tmp) (v : Value) (hk : k ≠ x.i1 ∧ k ≠ x.i2 ∧ k ≠ x.ia ∧ k ≠ x.ic ∧ k ≠ x.ib ∧ k ≠ x.st) (hd : d ≠ some x.tA ∧ d ≠ some x.tB ∧ d ≠ some x.tR ∧ d ≠ some x.tX) : gonO E l1 l2 us rs x (moreL L k) (a.put d v) W' := by
  obtain ⟨g0, gn, g1, g2, g3, g5⟩ := hG
  have ev : ∀ t, d ≠ some t → (a.put d v).eval (.tmp t) = a.eval (.tmp t) := fun t ht => by
    cases d with
    | none => rfl
    | some d => exact eval_put_ne (fun e => ht (by rw [e]))
  unfold gonO
  rw [moreL_ne (Ne.symm hk.1), moreL_ne (Ne.symm hk.2.1), moreL_ne (Ne.symm hk.2.2.1), moreL_ne (Ne.symm hk.2.2.2.1), moreL_ne (Ne.symm hk.2.2.2.2.1), moreL_ne (Ne.symm hk.2.2.2.2.2), ev _ hd.1, ev _ hd.2.1, ev _ hd.2.2.1, ev _ hd.2.2.2]
  refine ⟨below_trans g0 hb, (put_sz _ _ _).trans gn, fun h h' => RowC.below (g1 h h') hb, fun h h' => (g2 h h').below hb, fun h h' => (g3 h h').below hb, fun h => ?_⟩
  obtain ⟨b, e1, e2, e3, e4, e5, e6⟩ := g5 h
  exact ⟨b, e1, e2, Nat.lt_of_lt_of_le e3 hb.size, fun h => (e4 h).below hb, e5, fun h => (e6 h).below hb⟩
variable (ok : x.ok)
include ok
/-- The row that is appended to. -/
theorem gonO_one {L : Nat → Bool} {a : Act} {W W' : World} {v : Value} (hG : gonO E l1 l2 us rs x L a W) (hb : BelW W W') (ha : L x.ia = false) (hs : L x.st = false) (hr : RowC W' W.heap.size v l1) : gonO E l1 l2 us rs x (moreL L x.i1) (a.put (some x.tA) v) W' := by
  obtain ⟨g0, gn, g1, g2, g3, g5⟩ := hG
  unfold gonO
  rw [moreL_eq, moreL_ne (Ne.symm ok.i12), moreL_ne (Ne.symm ok.i1a), moreL_ne (Ne.symm ok.i1c), moreL_ne (Ne.symm ok.i1b), moreL_ne (Ne.symm ok.i1s), eval_put_eq (by rw [gn]; exact ok.nA), eval_put_ne ok.tAB, eval_put_ne ok.tAR, eval_put_ne ok.tAX]
  refine ⟨below_trans g0 hb, (put_sz _ _ _).trans gn, fun _ _ => Go.Joins.ownsRow_le hr g0.size, fun h h' => (g2 h h').below hb, fun h => (by rw [ha] at h; cases h), fun h => ?_⟩
  obtain ⟨b, e1, e2, e3, e4, _, _⟩ := g5 h
  exact ⟨b, e1, e2, Nat.lt_of_lt_of_le e3 hb.size, fun h => (e4 h).below hb, fun _ _ e => by have := (hr.lt b e).1; omega, fun h => by rw [hs] at h; cases h⟩
/-- The row that is read. -/
theorem gonO_two {L : Nat → Bool} {a : Act} {W W' : World} {v : Value} (hG : gonO E l1 l2 us rs x L a W) (hb : BelW W W') (ha : L x.ia = false) (hr : Holds W' v l2) : gonO E l1 l2 us rs x (moreL L x.i2) (a.put (some x.tB) v) W' := by
  obtain ⟨g0, gn, g1, g2, g3, g5⟩ := hG
  unfold gonO
  rw [moreL_eq, moreL_ne ok.i12, moreL_ne (Ne.symm ok.i2a), moreL_ne (Ne.symm ok.i2c), moreL_ne (Ne.symm ok.i2b), moreL_ne (Ne.symm ok.i2s), eval_put_eq (by rw [gn]; exact ok.nB), eval_put_ne (Ne.symm ok.tAB), eval_put_ne ok.tBR, eval_put_ne ok.tBX]
  refine ⟨below_trans g0 hb, (put_sz _ _ _).trans gn, fun h h' => RowC.below (g1 h h') hb, fun _ _ => hr, fun h => (by rw [ha] at h; cases h), fun h => ?_⟩
  obtain ⟨b, e1, e2, e3, e4, e5, e6⟩ := g5 h
  exact ⟨b, e1, e2, Nat.lt_of_lt_of_le e3 hb.size, fun h => (e4 h).below hb, e5, fun h => (e6 h).below hb⟩
/-- The append. -/
theorem gonO_app {L : Nat → Bool} {a : Act} {W W' : World} {v' : Value} (hG : gonO E l1 l2 us rs x L a W) (h1 : L x.i1 = true) (ha : L x.ia = false) (hs : L x.st = false) (hown : RowC W' E.heap.size v' (l1 ++ l2)) (hg : W.grownBy W' (a.eval (.tmp x.tA)).ownBlock) : gonO E l1 l2 us rs x (moreL L x.ia) (a.put (some x.tR) v') W' := by
  obtain ⟨g0, gn, g1, g2, g3, g5⟩ := hG
  have hr := g1 h1 ha
  unfold gonO
  rw [moreL_eq, moreL_ne ok.i1a, moreL_ne ok.i2a, moreL_ne (Ne.symm ok.iac), moreL_ne (Ne.symm ok.iab), moreL_ne (Ne.symm ok.ias), eval_put_eq (by rw [gn]; exact ok.nR), eval_put_ne (Ne.symm ok.tAR), eval_put_ne (Ne.symm ok.tBR), eval_put_ne ok.tRX]
  refine ⟨g0.grown hg g0.size (fun k hk => (hr.lt k hk).1), (put_sz _ _ _).trans gn, fun _ h => (by cases h), fun _ h => (by cases h), fun _ _ => hown.holds, fun h => ?_⟩
  obtain ⟨b, e1, e2, e3, e4, e5, _⟩ := g5 h
  have hne := e5 h1 ha
  exact ⟨b, e1, e2, Nat.lt_of_lt_of_le e3 hg.size, fun h => (e4 h).kept hg (fun e => hne e.symm), fun _ h => (by cases h), fun h => by rw [hs] at h; cases h⟩
/-- The call that makes the context. -/
theorem gonO_call {L : Nat → Bool} {a : Act} {W W' : World} {v : Value} (hG : gonO E l1 l2 us rs x L a W) (hb : BelW W W') (ha : L x.ia = true) (hs : L x.st = false) : gonO E l1 l2 us rs x (moreL L x.ic) (a.put (some x.tC) v) W' := by
  obtain ⟨g0, gn, g1, g2, g3, g5⟩ := hG
  unfold gonO
  rw [moreL_eq, moreL_ne ok.i1c, moreL_ne ok.i2c, moreL_ne ok.iac, moreL_ne (Ne.symm ok.icb), moreL_ne (Ne.symm ok.ics), eval_put_ne (Ne.symm ok.tAC), eval_put_ne (Ne.symm ok.tBC), eval_put_ne (Ne.symm ok.tRC), eval_put_ne ok.tCX]
  refine ⟨below_trans g0 hb, (put_sz _ _ _).trans gn, fun _ h => (by rw [ha] at h; cases h), fun _ h => (by rw [ha] at h; cases h), fun _ h => (by cases h), fun h => ?_⟩
  obtain ⟨b, e1, e2, e3, e4, _, _⟩ := g5 h
  exact ⟨b, e1, e2, Nat.lt_of_lt_of_le e3 hb.size, fun h => (e4 h).below hb, fun _ h => (by rw [ha] at h; cases h), fun h => by rw [hs] at h; cases h⟩
/-- The box. -/
theorem gonO_box {L : Nat → Bool} {a : Act} {W : World} (hG : gonO E l1 l2 us rs x L a W) (hs : L x.st = false) : gonO E l1 l2 us rs x (moreL L x.ib) (a.put (some x.tX) (ptr0 W.heap.size)) (W.alloc (.cells #[.slice none 0 0, .slice none 0 0] 25)) := by
  obtain ⟨g0, gn, g1, g2, g3, g5⟩ := hG
  have hb : BelW W (W.alloc (.cells #[.slice none 0 0, .slice none 0 0] 25)) := (Below.refl _ W).alloc (Nat.le_refl _) _
  unfold gonO
  rw [moreL_eq, moreL_ne ok.i1b, moreL_ne ok.i2b, moreL_ne ok.iab, moreL_ne ok.icb, moreL_ne (Ne.symm ok.ibs), eval_put_eq (by rw [gn]; exact ok.nX), eval_put_ne (Ne.symm ok.tAX), eval_put_ne (Ne.symm ok.tBX), eval_put_ne (Ne.symm ok.tRX)]
  refine ⟨below_trans g0 hb, (put_sz _ _ _).trans gn, fun h h' => RowC.below (g1 h h') hb, fun h h' => (g2 h h').below hb, fun h h' => (g3 h h').below hb, fun _ => ⟨W.heap.size, rfl, g0.size, by simp, fun _ => heap_alloc_new W _, fun h h' e => ?_, fun h => by rw [hs] at h; cases h⟩⟩
  have := ((g1 h h').lt _ e).2; omega
/-- The store. -/
theorem gonO_store {L : Nat → Bool} {a : Act} {W : World} {b : Nat} {A B : Option Addr} {n k : Nat} (hG : gonO E l1 l2 us rs x L a W) (hia : L x.ia = true) (hic : L x.ic = true) (hib : L x.ib = true) (hs : L x.st = false) (hb : a.eval (.tmp x.tX) = ptr0 b) (h1 : Holds W (.slice A us.length n) us) (h2 : Holds W (.slice B rs.length k) rs) (v : Value) : gonO E l1 l2 us rs x (moreL L x.st) (a.put none v) ((W.setCell ⟨b, 0, none⟩ (.slice A us.length n)).setCell ⟨b, 1, none⟩ (.slice B rs.length k)) := by
  obtain ⟨g0, gn, g1, g2, g3, g5⟩ := hG
  obtain ⟨b', e1, e2, e3, e4, _, _⟩ := g5 hib
  have ebb : b' = b := by rw [hb] at e1; injection e1 with e; injection e with e; injection e with e; exact e.symm
  subst ebb
  have hB := e4 hs
  have hk : ∀ j, j ≠ b' → j < W.heap.size → ((W.setCell ⟨b', 0, none⟩ (.slice A us.length n)).setCell ⟨b', 1, none⟩ (.slice B rs.length k)).heap[j]? = W.heap[j]? := fun j hj _ => (Below.heap_setCell _ ⟨b', 1, none⟩ _ j hj).trans (Below.heap_setCell _ ⟨b', 0, none⟩ _ j hj)
  have o1 := h1.off hB (fun _ h => by cases h) (fun _ h => by cases h) (by simp) hk
  have o2 := h2.off hB (fun _ h => by cases h) (fun _ h => by cases h) (by simp) hk
  unfold gonO
  rw [moreL_eq, moreL_ne ok.i1s, moreL_ne ok.i2s, moreL_ne ok.ias, moreL_ne ok.ics, moreL_ne ok.ibs]
  exact ⟨below_set2 g0 e2 _ _, gn, fun _ h => (by rw [hia] at h; cases h), fun _ h => (by rw [hia] at h; cases h), fun _ h => (by rw [hic] at h; cases h), fun _ => ⟨b', hb, e2, by simpa using e3, fun h => (by cases h), fun _ h => (by rw [hia] at h; cases h), fun _ => ⟨A, n, B, k, hB.set _ _, o1, o2⟩⟩⟩
end

/-- What the values of put's region say. -/
def doP (c : CaV) (nm : List UInt8) (r s : Int) (us rs : List (Int × Int)) : Nat → Value → World → Prop
  | 0, v, _ => v = mkC c
  | 1, v, _ => v = .string ⟨nm.toArray⟩
  | 3, v, _ => v = .agg #[.int .i64 r, .int .i64 s]
  | 6, v, W => ∃ A n B k, v = .tuple #[.agg #[.slice A us.length n, .slice B rs.length k], .int .i64 0] ∧ Holds W (.slice A us.length n) us ∧ Holds W (.slice B rs.length k) rs
  | 7, v, W => ∃ A n B k, v = .tuple #[.agg #[.slice A us.length n, .slice B rs.length k], .int .i64 0] ∧ Holds W (.slice A us.length n) us ∧ Holds W (.slice B rs.length k) rs
  | 8, v, W => ∃ A n B k, v = .agg #[.slice A us.length n, .slice B rs.length k] ∧ Holds W (.slice A us.length n) us ∧ Holds W (.slice B rs.length k) rs
  | 9, v, _ => v = .int .i64 0
  | 12, v, _ => v = .int .i64 0
  | _, _, _ => True
section
variable {c : CaV} {nm : List UInt8} {r s : Int} {us rs : List (Int × Int)} {v : Value} {W W' : World}
theorem doP_turn {j : Nat} (h : doP c nm r s us rs j v W) (hk : j = 6 ∨ j = 7 ∨ j = 8 → ∀ u l, Holds W u l → Holds W' u l) : doP c nm r s us rs j v W' := by
  match j, h with
  | 0, h => exact h
  | 1, h => exact h
  | 2, _ => exact trivial
  | 3, h => exact h
  | 4, _ => exact trivial
  | 5, _ => exact trivial
  | 6, ⟨A, n, B, k, e, h1, h2⟩ => exact ⟨A, n, B, k, e, hk (.inl rfl) _ _ h1, hk (.inl rfl) _ _ h2⟩
  | 7, ⟨A, n, B, k, e, h1, h2⟩ => exact ⟨A, n, B, k, e, hk (.inr (.inl rfl)) _ _ h1, hk (.inr (.inl rfl)) _ _ h2⟩
  | 8, ⟨A, n, B, k, e, h1, h2⟩ => exact ⟨A, n, B, k, e, hk (.inr (.inr rfl)) _ _ h1, hk (.inr (.inr rfl)) _ _ h2⟩
  | 9, h => exact h
  | 10, _ => exact trivial
  | 11, _ => exact trivial
  | 12, h => exact h
  | j + 13, _ => exact trivial
end
abbrev doX : Gx := ⟨2, 4, 5, 6, 10, 11, 52, 54, 55, 56, 14, 72⟩
theorem doX_ok : doX.ok := by constructor <;> decide

end

end Go.Proofs.YtiaehpdgpjhecaaGreat
