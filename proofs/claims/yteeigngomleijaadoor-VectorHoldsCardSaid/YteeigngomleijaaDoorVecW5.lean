/- The theorem of stage 2: the law returns true. -/
import Derived.Test.YteeigngomleijaaDoorVecW4
namespace Go.Proofs.YteeigngomleijaaDoor
open Go.RowKit

theorem vecOrder_ok (v v' : Value) (xs ys : List (Int × Int)) (n : Int) (w : World) (h : Holds w v xs) (h' : Holds w v' ys) (hm : xs.length + ys.length ≤ 100000) (hva : validV xs = true) (hvb : validV ys = true) (hn : orderV xs ys = n) :
    Calls Tryd.prog 46 #[v, v'] w fun e w' => e = .returned (.tuple #[.int .i64 n, .int .i64 0]) ∧ Below w.heap.size w w' := by
  obtain ⟨A, c, rfl, h1, h2, h3⟩ := h
  obtain ⟨A', c', rfl, h1', h2', h3'⟩ := h'
  subst hn
  exact (vecOrder A A' xs ys c c' w ⟨A, c, rfl, h1, h2, h3⟩ ⟨A', c', rfl, h1', h2', h3'⟩ hm).mono fun e w' h => ⟨h.1.1 (by rw [hva, hvb]; rfl), h.2⟩
theorem vecText_ok (v : Value) (xs : List (Int × Int)) (s : ByteArray) (w : World) (h : Holds w v xs) (hm : xs.length ≤ 100000) (ht : TabOK w) (hv : validV xs = true) (hs : s = ⟨(textVL xs).toArray⟩) :
    Calls Tryd.prog 47 #[v] w fun e w' => e = .returned (.tuple #[.string s, .int .i64 0]) ∧ Below w.heap.size w w' := by
  obtain ⟨A, c, rfl, h1, h2, h3⟩ := h
  subst hs
  have h := vecText A xs c w ⟨A, c, rfl, h1, h2, h3⟩ hm ht
  rwa [textVV, if_pos hv] at h
theorem isB_ok {zs ys : List (Int × Int)} (h : zs = ys) : isB (merP true zs) ys 0 = true := by simp [isB, merP, h]

set_option maxRecDepth 100000 in
set_option maxHeartbeats 2000000 in
theorem lawVectorHolds (A B C : Option Addr) (xs ys zs : List (Int × Int)) (c c' c'' : Nat) (r0 c0 : Int) (w : World) (hx : Holds w (.slice A xs.length c) xs) (hy : Holds w (.slice B ys.length c') ys) (hz : Holds w (.slice C zs.length c'') zs) (ht : TabOK w) :
    Calls Tryd.prog 9 #[.slice A xs.length c, .slice B ys.length c', .slice C zs.length c'', .agg #[.int .i64 r0, .int .i64 c0]] w fun e w' => e = .returned (.bool true) ∧ Below w.heap.size w w' := by
  have LX : xs.length ≤ maxLen := by obtain ⟨_, _, h, _, h2, h3⟩ := hx; omega
  have LY : ys.length ≤ maxLen := by obtain ⟨_, _, h, _, h2, h3⟩ := hy; omega
  have LZ : zs.length ≤ maxLen := by obtain ⟨_, _, h, _, h2, h3⟩ := hz; omega
  unfold maxLen at LX LY LZ
  have KN := Lib.hid fun W (h : TabOK W) => known2 W h
  have hal : Below w.heap.size w (w.alloc (.cells #[.int .i64 r0, .int .i64 c0] 23)) := (Below.refl _ w).alloc (Nat.le_refl _) _
  have K : KV w w.heap.size r0 c0 [(.slice A xs.length c, xs), (.slice B ys.length c', ys), (.slice C zs.length c'', zs)] (w.alloc (.cells #[.int .i64 r0, .int .i64 c0] 23)) :=
    ⟨by go_simp, by go_simp, by simp, hal, ht.below hal, fun p hp => by
      rcases List.mem_cons.1 hp with rfl | hp
      · exact hx.below hal
      · rcases List.mem_cons.1 hp with rfl | hp
        · exact hy.below hal
        · rcases List.mem_cons.1 hp with rfl | hp
          · exact hz.below hal
          · cases hp⟩
  have K0 := Lib.hid K
  clear hal hx hy hz ht K
  by_cases h1 : xs.length ≤ 40
  · have t1 : ¬ (40 < (xs.length : Int)) := by omega
    by_cases h2 : ys.length ≤ 40
    · have t2 : ¬ (40 < (ys.length : Int)) := by omega
      by_cases h3 : zs.length ≤ 40
      · have t3 : ¬ (40 < (zs.length : Int)) := by omega
        have L1 := Lib.hid h1
        have L2 := Lib.hid h2
        have L3 := Lib.hid h3
        clear h1 h2 h3 LX LY LZ
        cases hva : validV xs with
        | false =>
          have HV := Lib.hid fun v W (h : Holds W v xs) => vecValid_h v xs false W h hva
          clear hva
          go_enter Tryd.func9, Tryd.ntmps9
          go_wp2_with fail
          refine (HV.out _ _ (K0.out.h (by simp))).mono ?_
          rintro e w1 ⟨rfl, hb⟩
          have K1 := Lib.hid (K0.out.below hb)
          clear hb
          go_wp2_with fail
          refine (KN.out _ K1.out.tab).mono ?_
          rintro e w4 ⟨rfl, hb⟩
          have K4 := Lib.hid (K1.out.below hb)
          clear hb
          go_wp2_with fail
          go_ret
          exact ⟨rfl, K4.out.bel⟩
        | true =>
        have HV := Lib.hid fun v W (h : Holds W v xs) => vecValid_h v xs true W h hva
        cases hvb : validV ys with
        | false =>
          have HV2 := Lib.hid fun v W (h : Holds W v ys) => vecValid_h v ys false W h hvb
          clear hva hvb
          go_enter Tryd.func9, Tryd.ntmps9
          go_wp2_with fail
          refine (HV.out _ _ (K0.out.h (by simp))).mono ?_
          rintro e w1 ⟨rfl, hb⟩
          have K1 := Lib.hid (K0.out.below hb)
          clear hb
          go_wp2_with fail
          refine (HV2.out _ _ (K1.out.h (by simp))).mono ?_
          rintro e w2 ⟨rfl, hb⟩
          have K2 := Lib.hid (K1.out.below hb)
          clear hb
          go_wp2_with fail
          refine (KN.out _ K2.out.tab).mono ?_
          rintro e w4 ⟨rfl, hb⟩
          have K4 := Lib.hid (K2.out.below hb)
          clear hb
          go_wp2_with fail
          go_ret
          exact ⟨rfl, K4.out.bel⟩
        | true =>
        have HV2 := Lib.hid fun v W (h : Holds W v ys) => vecValid_h v ys true W h hvb
        cases hvc : validV zs with
        | false =>
          have HV3 := Lib.hid fun v W (h : Holds W v zs) => vecValid_h v zs false W h hvc
          clear hva hvb hvc
          go_enter Tryd.func9, Tryd.ntmps9
          go_wp2_with fail
          refine (HV.out _ _ (K0.out.h (by simp))).mono ?_
          rintro e w1 ⟨rfl, hb⟩
          have K1 := Lib.hid (K0.out.below hb)
          clear hb
          go_wp2_with fail
          refine (HV2.out _ _ (K1.out.h (by simp))).mono ?_
          rintro e w2 ⟨rfl, hb⟩
          have K2 := Lib.hid (K1.out.below hb)
          clear hb
          go_wp2_with fail
          refine (HV3.out _ _ (K2.out.h (by simp))).mono ?_
          rintro e w3 ⟨rfl, hb⟩
          have K3 := Lib.hid (K2.out.below hb)
          clear hb
          go_wp2_with fail
          refine (KN.out _ K3.out.tab).mono ?_
          rintro e w4 ⟨rfl, hb⟩
          have K4 := Lib.hid (K3.out.below hb)
          clear hb
          go_wp2_with fail
          go_ret
          exact ⟨rfl, K4.out.bel⟩
        | true =>
        have HV3 := Lib.hid fun v W (h : Holds W v zs) => vecValid_h v zs true W h hvc
        have hvm := valid_merge hva hvb
        have hvn := valid_merge hvb hvc
        have hc := merge_comm hvb hva
        have hs := merge_self hva
        have ha := merge_assoc hva hvb hvc
        have hh := has_merge hva hvb r0 c0
        have ho := order_merge hva hvb
        have l1 := mergeV_len ys xs
        have l2 := mergeV_len zs ys
        have l3 := mergeV_len zs (mergeV xs ys)
        obtain ⟨mm, hmm⟩ : ∃ mm, mergeV xs ys = mm := ⟨_, rfl⟩
        obtain ⟨nn, hnn⟩ : ∃ nn, mergeV ys zs = nn := ⟨_, rfl⟩
        rw [hmm] at hvm hc ha hh ho l1 l3
        rw [hnn] at hvn ha l2
        obtain ⟨aa, haa⟩ : ∃ aa, mergeV mm zs = aa := ⟨_, rfl⟩
        rw [haa] at ha l3
        have hk1 := L1.out
        have hk2 := L2.out
        have hk3 := L3.out
        have HM1 := Lib.hid fun v v' W (h : Holds W v xs) (h' : Holds W v' ys) => vecMerge_ok v v' xs ys mm W h h' (by omega) hva hvb hmm
        have HM2 := Lib.hid fun v v' W (h : Holds W v ys) (h' : Holds W v' zs) => vecMerge_ok v v' ys zs nn W h h' (by omega) hvb hvc hnn
        have HM3 := Lib.hid fun v v' W (h : Holds W v mm) (h' : Holds W v' zs) => vecMerge_ok v v' mm zs aa W h h' (by omega) hvm hvc haa
        have HB1 := Lib.hid fun v v' v'' W (h : Holds W v ys) (h' : Holds W v' xs) (h'' : Holds W v'' mm) => lawMerged v v' v'' ys xs mm 0 true W h h' h'' (by omega) (by rw [hva, hvb]; exact isB_ok hc)
        have HB2 := Lib.hid fun v v' v'' W (h : Holds W v xs) (h' : Holds W v' xs) (h'' : Holds W v'' xs) => lawMerged v v' v'' xs xs xs 0 true W h h' h'' (by omega) (by rw [hva]; exact isB_ok hs)
        have HB3 := Lib.hid fun v v' v'' W (h : Holds W v xs) (h' : Holds W v' nn) (h'' : Holds W v'' aa) => lawMerged v v' v'' xs nn aa 0 true W h h' h'' (by omega) (by rw [hva, hvn]; exact isB_ok ha.symm)
        have HV4 := Lib.hid fun v W (h : Holds W v mm) => vecValid_h v mm true W h hvm
        obtain ⟨tx, htx⟩ : ∃ tx : ByteArray, tx = ⟨(textVL xs).toArray⟩ := ⟨_, rfl⟩
        have HTX := Lib.hid fun v W (h : Holds W v xs) (ht : TabOK W) => vecText_ok v xs tx W h (by omega) ht hva htx
        have hts : tx.size ≤ 1000 := by
          have h1 := joinT_short (v := xs) ((validV_iff xs).1 hva).1
          rw [htx]
          simp only [ByteArray.size, List.size_toArray]
          unfold textVL
          split
          · simp
          · omega
        have hpt : isB (parP (parseVL tx.data.toList)) xs 0 = true := by
          rw [htx]
          simp only
          rw [parse_text hva]
          simp [isB, parP]
        have HPT := Lib.hid fun v W (h : Holds W v xs) => lawParses2 tx v xs 0 true W h hts hpt
        have HHM := fun v W (h : Holds W v mm) => vecHas_h v mm r0 c0 _ W h hh
        have HOR := fun v v' W (h : Holds W v xs) (h' : Holds W v' mm) => vecOrder_ok v v' xs mm _ W h h' (by omega) hva hvm ho
        have HSM := fun v v' W (h : Holds W v xs) (h' : Holds W v' mm) => same_h v v' xs mm _ W h h' rfl
        have HHX := fun v W (h : Holds W v xs) => vecHas_h v xs r0 c0 _ W h rfl
        have HHY := fun v W (h : Holds W v ys) => vecHas_h v ys r0 c0 _ W h rfl
        obtain ⟨bs, hbs⟩ : ∃ bs, decide (xs = mm) = bs := ⟨_, rfl⟩
        obtain ⟨bx, hbx⟩ : ∃ bx, hasV xs r0 c0 = bx := ⟨_, rfl⟩
        obtain ⟨bY, hbY⟩ : ∃ bY, hasV ys r0 c0 = bY := ⟨_, rfl⟩
        have hnv : (if xs = mm then (0 : Int) else -1) = if bs then 0 else -1 := by
          rw [← hbs]; by_cases e : xs = mm <;> simp [e]
        rw [hnv] at HOR
        simp only [hbs] at HSM
        rw [hbx, hbY] at HHM
        simp only [hbx] at HHX
        simp only [hbY] at HHY
        have HOR := Lib.hid HOR
        have HSM := Lib.hid HSM
        have HHM := Lib.hid HHM
        have HHX := Lib.hid HHX
        have HHY := Lib.hid HHY
        have LM := Lib.hid (show mm.length ≤ 80 by omega)
        clear hva hvb hvc hvm hvn hc hs ha hh ho l1 l2 l3 hmm hnn haa hk1 hk2 hk3 htx hts hpt hbs hbx hbY hnv
        go_enter Tryd.func9, Tryd.ntmps9
        go_wp2_with fail
        refine (HV.out _ _ (K0.out.h (by simp))).mono ?_
        rintro e w1 ⟨rfl, hb⟩
        have K1 := Lib.hid (K0.out.below hb)
        clear hb
        go_wp2_with fail
        refine (HV2.out _ _ (K1.out.h (by simp))).mono ?_
        rintro e w2 ⟨rfl, hb⟩
        have K2 := Lib.hid (K1.out.below hb)
        clear hb
        go_wp2_with fail
        refine (HV3.out _ _ (K2.out.h (by simp))).mono ?_
        rintro e w3 ⟨rfl, hb⟩
        have K3 := Lib.hid (K2.out.below hb)
        clear hb
        go_wp2_with fail
        refine (HM1.out _ _ _ (K3.out.h (by simp)) (K3.out.h (by simp))).mono ?_
        rintro e w4 ⟨vm, rfl, hmv⟩
        have K4 := Lib.hid ((K3.out.below hmv.2).push hmv.holds)
        clear hmv
        go_wp2_with fail
        refine (HM2.out _ _ _ (K4.out.h (by simp)) (K4.out.h (by simp))).mono ?_
        rintro e w5 ⟨vn, rfl, hmv⟩
        have K5 := Lib.hid ((K4.out.below hmv.2).push hmv.holds)
        clear hmv
        go_wp2_with fail
        refine (HB1.out _ _ _ _ (K5.out.h (by simp)) (K5.out.h (by simp)) (K5.out.h (by simp))).mono ?_
        rintro e w6 ⟨rfl, hb⟩
        have K6 := Lib.hid (K5.out.below hb)
        clear hb
        go_wp2_with fail
        refine (HB2.out _ _ _ _ (K6.out.h (by simp)) (K6.out.h (by simp)) (K6.out.h (by simp))).mono ?_
        rintro e w7 ⟨rfl, hb⟩
        have K7 := Lib.hid (K6.out.below hb)
        clear hb
        go_wp2_with fail
        refine (HV4.out _ _ (K7.out.h (by simp))).mono ?_
        rintro e w8 ⟨rfl, hb⟩
        have K8 := Lib.hid (K7.out.below hb)
        clear hb
        go_wp2_with fail
        refine (HM3.out _ _ _ (K8.out.h (by simp)) (K8.out.h (by simp))).mono ?_
        rintro e w9 ⟨va, rfl, hmv⟩
        have K9 := Lib.hid ((K8.out.below hmv.2).push hmv.holds)
        clear hmv
        go_wp2_with fail
        refine (HB3.out _ _ _ _ (K9.out.h (by simp)) (K9.out.h (by simp)) (K9.out.h (by simp))).mono ?_
        rintro e w10 ⟨rfl, hb⟩
        have K10 := Lib.hid (K9.out.below hb)
        clear hb
        go_wp2_with fail
        refine (HOR.out _ _ _ (K10.out.h (by simp)) (K10.out.h (by simp))).mono ?_
        rintro e w11 ⟨rfl, hb⟩
        have K11 := Lib.hid (K10.out.below hb)
        clear hb
        clear K0 K1 K2 K3 K4 K5 K6 K7 K8 K9 K10
        have gz := K11.out.2.2.1
        have l4 := fun p => cell_far (p := p) (a := ⟨w.heap.size, 0, none⟩) gz K11.out.1
        have l5 := fun p => cell_far (p := p) (a := ⟨w.heap.size, 1, none⟩) gz K11.out.2.1
        have S1 := Lib.hid fun p => HSM.out _ _ _ ((K11.out.h (v := .slice A xs.length c) (xs := xs) (by simp)).below (below_far w11 p)) ((K11.out.h (v := vm) (xs := mm) (by simp)).below (below_far w11 p))
        have S2 := Lib.hid fun p => HHM.out _ _ ((K11.out.h (v := vm) (xs := mm) (by simp)).below (below_far w11 p))
        have S3 := Lib.hid fun p => HHX.out _ _ ((K11.out.h (v := .slice A xs.length c) (xs := xs) (by simp)).below (below_far w11 p))
        have S4 := Lib.hid fun p => HHY.out _ _ ((K11.out.h (v := .slice B ys.length c') (xs := ys) (by simp)).below (below_far w11 p))
        clear gz
        cases bs <;> cases bx <;> cases bY
        all_goals
          simp only [Bool.false_eq_true, if_false, if_true, Bool.or_true, Bool.or_false, Bool.true_or, Bool.false_or, Bool.or_self] at S2
          simp only [Bool.false_eq_true, if_false, if_true, ↓reduceIte]
          go_wp2_with fail
          refine wp_region_far (by kernel_rfl) (by kernel_rfl) ?_
          repeat (go_big_quiet_step ((first | (go_at_call 19; exact far_of (S1.out _)) | (go_at_call 30; with_reducible first | exact far_of (S2.out _) | exact far_of (S3.out _) | exact far_of (S4.out _)))))
          refine wpQuiet_nil ?_
          rintro _ ⟨p, rfl⟩
          have K12 := Lib.hid (K11.out.below (below_far w11 p))
          go_wp2_with fail
          refine (HTX.out _ _ (K12.out.h (by simp)) K12.out.tab).mono ?_
          rintro e w13 ⟨rfl, hb⟩
          have K13 := Lib.hid (K12.out.below hb)
          clear hb
          go_wp2_with fail
          refine (HPT.out _ _ (K13.out.h (by simp))).mono ?_
          rintro e w14 ⟨rfl, hb⟩
          have K14 := Lib.hid (K13.out.below hb)
          clear hb
          go_wp2_with fail
          refine (KN.out _ K14.out.tab).mono ?_
          rintro e w15 ⟨rfl, hb⟩
          have K15 := Lib.hid (K14.out.below hb)
          clear hb
          go_wp2_with fail
          go_ret
          exact ⟨rfl, K15.out.bel⟩
      · have t3 : 40 < (zs.length : Int) := by omega
        go_enter Tryd.func9, Tryd.ntmps9
        go_wp2_with (go_at_call 25; refine (KN.out _ K0.out.tab).mono ?_; rintro e w1 ⟨rfl, hb⟩)
        go_ret
        exact ⟨rfl, below_trans K0.out.bel hb⟩
    · have t2 : 40 < (ys.length : Int) := by omega
      go_enter Tryd.func9, Tryd.ntmps9
      go_wp2_with (go_at_call 25; refine (KN.out _ K0.out.tab).mono ?_; rintro e w1 ⟨rfl, hb⟩)
      go_ret
      exact ⟨rfl, below_trans K0.out.bel hb⟩
  · have t1 : 40 < (xs.length : Int) := by omega
    go_enter Tryd.func9, Tryd.ntmps9
    go_wp2_with (go_at_call 25; refine (KN.out _ K0.out.tab).mono ?_; rintro e w1 ⟨rfl, hb⟩)
    go_ret
    exact ⟨rfl, below_trans K0.out.bel hb⟩

end Go.Proofs.YteeigngomleijaaDoor
