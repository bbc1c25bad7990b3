/- Several texts in one: DelW. -/
import Derived.Test.YtiaehpdgpjhecaaGreatMBL
namespace Go.Proofs.YtiaehpdgpjhecaaGreat

section
open Go.RowKit

def kt6R (cC : CaV) : Nat → Sr
  | 0 => .eq (mkC cC)
  | 1 => .eq (.agg #[.int .i64 1, .int .i64 3])
  | 2 => .eq (mkC zC)
  | 3 => .eq (.bool true)
  | 4 => .eq (.bool true)
  | 5 => .eq (mkC cC)
  | 6 => .eq (.agg #[.int .i64 1, .int .i64 3])
  | 7 => .eq (mkC zC)
  | 8 => .eq (.bool true)
  | 9 => .eq (.bool true)
  | 10 => .eq (.bool true)
  | 11 => .eq (mkC cC)
  | 12 => .eq (.agg #[.int .i64 1, .int .i64 3])
  | 13 => .eq (mkC zC)
  | 14 => .eq (.bool true)
  | 15 => .eq (.bool true)
  | 16 => .eq (.bool true)
  | 17 => .eq (.bool true)
  | 18 => .eq (.bool true)
  | 19 => .eq (.bool true)
  | _ => .any
def kt7R (cC : CaV) (X1 : Ca) : Nat → Sr
  | 0 => .eq (mkC cC)
  | 1 => .eq (.agg #[.int .i64 1, .int .i64 3])
  | 2 => .cartE X1 0
  | 3 => .cartE X1 0
  | 4 => .cart X1
  | 5 => .eq (.int .i64 0)
  | 6 => .cbox
  | 8 => .eq (.int .i64 0)
  | _ => .any
def kt8R (cC : CaV) (X2 : Ca) : Nat → Sr
  | 0 => .eq (mkC cC)
  | 1 => .eq (.agg #[.int .i64 1, .int .i64 3])
  | 2 => .cartE X2 0
  | 3 => .cartE X2 0
  | 4 => .cart X2
  | 5 => .eq (.int .i64 0)
  | 6 => .cbox
  | 8 => .eq (.int .i64 0)
  | _ => .any
def kt7B : Nat → Option Nat
  | 7 => some 6
  | _ => none
def kt7Q (X : Ca) : Nat → Sq
  | 7 => .cart X
  | _ => .none
theorem kt7B_in {j k : Nat} (h : kt7B j = some k) : j = 7 ∧ k = 6 := by
  unfold kt7B at h
  split at h
  · cases h; exact ⟨rfl, rfl⟩
  · cases h
theorem kt7Q_calm (X : Ca) (j : Nat) : (kt7Q X j).calm = true := by unfold kt7Q; split <;> rfl
def kt8B : Nat → Option Nat
  | 7 => some 6
  | _ => none
def kt8Q (X : Ca) : Nat → Sq
  | 7 => .cart X
  | _ => .none
theorem kt8B_in {j k : Nat} (h : kt8B j = some k) : j = 7 ∧ k = 6 := by
  unfold kt8B at h
  split at h
  · cases h; exact ⟨rfl, rfl⟩
  · cases h
theorem kt8Q_calm (X : Ca) (j : Nat) : (kt8Q X j).calm = true := by unfold kt8Q; split <;> rfl

set_option maxRecDepth 100000 in
set_option maxHeartbeats 16000000 in
theorem lawDeltaTimes12 (KN : KnownD) (HDO : DelOK) (a b : Nat) (w0 : World) (ha : a < 18446744073709551616) (hb : b < 18446744073709551616) :
    Calls Tryz.prog 6 #[.int .u64 (a : Int), .int .u64 (b : Int)] w0 (TrueB w0) := by
  have DO := Lib.hid HDO
  have HKN := Lib.hid KN
  clear HDO KN
  by_cases ha0 : a = 0
  · subst ha0
    have i0 : ((((0 : Nat) : Int) == 0)) = true := rfl
    go_enter Tryz.func6, Tryz.ntmps6
    go_wp2_with fail
    refine (HKN.out _).mono ?_
    rintro e w1 ⟨rfl, hb⟩
    go_wp2_with fail
    go_ret
    exact OneB.bool rfl hb
  by_cases hb0 : b = 0
  · subst hb0
    have i0 : ((a : Int) == 0) = false := eqF (by omega)
    go_enter Tryz.func6, Tryz.ntmps6
    go_wp2_with fail
    refine (HKN.out _).mono ?_
    rintro e w1 ⟨rfl, hb⟩
    go_wp2_with fail
    go_ret
    exact OneB.bool rfl hb
  have i0 : ((a : Int) == 0) = false := eqF (by omega)
  have i1 : ((b : Int) == 0) = false := eqF (by omega)
  have HA := Lib.hid ha0
  have HB := Lib.hid hb0
  have HAL := Lib.hid ha
  have HBL := Lib.hid hb
  have K0 := Lib.hid (KSr.new w0)
  clear ha0 hb0 ha hb
  go_enter Tryz.func6, Tryz.ntmps6
  go_wp2_with fail
  refine (lawAt12 1 2 _).mono ?_
  rintro e w1 ⟨rfl, hb⟩
  have K1 := Lib.hid (K0.out.next hb)
  clear hb K0
  have hal := (Below.refl w1.heap.size w1).alloc (Nat.le_refl _) (.cells #[.int .i64 1, .int .i64 2] 30)
  have K2 := Lib.hid (K1.out.next hal)
  have HD1 := Lib.hid (sr_row (sr_dots1 (N := 0) w1 (1, 2)))
  clear hal K1
  go_wp2_with fail
  refine (con11 _ (1, 2) _ HD1.out).mono ?_
  rintro e w2 ⟨⟨A1, n1, B1, m1, rfl, hc⟩, hb⟩
  have K3 := Lib.hid (K2.out.next hb)
  have HC1 := Lib.hid (show (Sr.ctx [(1, 2)] []).holds 0 (.agg #[.slice A1 1 n1, .slice B1 0 m1]) w2 from hc)
  clear hb K2 hc HD1
  go_wp2_with fail
  refine (lawMark12 1 1 5 a _).mono ?_
  rintro e w3 ⟨rfl, hb⟩
  have K4 := Lib.hid (K3.out.next hb)
  replace HC1 := Lib.hid (Sr.below HC1.out hb)
  clear hb K3
  have hal := (Below.refl w3.heap.size w3).alloc (Nat.le_refl _) (.cells #[.int .i64 1, .int .i64 1, .int .i64 5, .int .u64 ((a : Nat) : Int)] 55)
  have K5 := Lib.hid (K4.out.next hal)
  replace HC1 := Lib.hid (Sr.below HC1.out hal)
  have HM1 := Lib.hid (sr_mrow (sr_marks1 (N := 0) w3 ⟨1, 1, 5, a⟩))
  clear hal K4
  go_wp2_with fail
  refine (lawItem12 [97] _ 1 [⟨1, 1, 5, a⟩] _ HM1.out (by simp) (by simp [maxLen])).mono ?_
  rintro e w4 ⟨⟨y1, rfl, hy, ho⟩, hb⟩
  have K6 := Lib.hid (K5.out.next hb)
  replace HC1 := Lib.hid (Sr.below HC1.out hb)
  have HY1 := Lib.hid (ho)
  clear hb K5 ho HM1
  have HT1 := Lib.hid hy
  clear hy
  go_wp2_with fail
  refine (lawMark12 1 2 5 b _).mono ?_
  rintro e w5 ⟨rfl, hb⟩
  have K7 := Lib.hid (K6.out.next hb)
  replace HC1 := Lib.hid (Sr.below HC1.out hb)
  replace HY1 := Lib.hid (HY1.out.below hb)
  clear hb K6
  have hal := (Below.refl w5.heap.size w5).alloc (Nat.le_refl _) (.cells #[.int .i64 1, .int .i64 2, .int .i64 5, .int .u64 ((b : Nat) : Int)] 55)
  have K8 := Lib.hid (K7.out.next hal)
  replace HC1 := Lib.hid (Sr.below HC1.out hal)
  replace HY1 := Lib.hid (HY1.out.below hal)
  have HM2 := Lib.hid (sr_mrow (sr_marks1 (N := 0) w5 ⟨1, 2, 5, b⟩))
  clear hal K7
  go_wp2_with fail
  refine (lawItem12 [98] _ 1 [⟨1, 2, 5, b⟩] _ HM2.out (by simp) (by simp [maxLen])).mono ?_
  rintro e w6 ⟨⟨y2, rfl, hy, ho⟩, hb⟩
  have K9 := Lib.hid (K8.out.next hb)
  replace HC1 := Lib.hid (Sr.below HC1.out hb)
  replace HY1 := Lib.hid (HY1.out.below hb)
  have HY2 := Lib.hid (ho)
  clear hb K8 ho HM2
  have HT2 := Lib.hid hy
  clear hy
  have hx := sr_items2 (N := 0) w6 y1 y2 HY1.out HY2.out
  rw [HT1.out, HT2.out] at hx
  have hal := (Below.refl w6.heap.size w6).alloc (Nat.le_refl _) (.cells #[.string ⟨y1.nm.toArray⟩, .slice y1.A y1.ms.length y1.c, .string ⟨y2.nm.toArray⟩, .slice y2.A y2.ms.length y2.c] 50)
  have K10 := Lib.hid (K9.out.next hal)
  replace HC1 := Lib.hid (Sr.below HC1.out hal)
  clear hal K9
  obtain ⟨cC, hcC, EcC, OcC⟩ := sr_cart HC1.out hx
  replace EcC := Lib.hid EcC
  clear hx HC1 HY1 HT1 HY2 HT2
  have h := K10.out.cart cC OcC
  rw [World.size_alloc] at h
  rw [show (#[cC.v, cC.l, cC.i] : Array Value) = #[.slice A1 1 n1, .slice B1 0 m1, .slice (some ⟨w6.heap.size, 0, none⟩) 2 2] from by injection hcC with h; exact h.symm] at h
  have K11 := Lib.hid h
  clear h hcC OcC K10
  go_upto_region 4 with fail
  generalize World.alloc (World.alloc w6 _) _ = wE at K11 ⊢
  generalize w6.heap.size + 1 = gC at K11 ⊢
  have HMI := Lib.hid (show max (a : Int) (b : Int) = ((max a b : Nat) : Int) from by omega)
  have HML := Lib.hid (show max a b < 18446744073709551616 from by have := HAL.out; have := HBL.out; omega)
  go_upto_region 5 with fail
  rw [HMI.out]
  have HM1 := Lib.hid fun h => kt1 HA.out HB.out (a := a) (b := b) h
  have HM2 := Lib.hid fun h => kt2 HA.out HB.out (a := a) (b := b) h
  have HM3 := Lib.hid (kt3 HA.out HB.out (a := a) (b := b))
  have HM4 := Lib.hid fun h => kt4 HA.out HB.out (a := a) (b := b) h
  have HM5 := Lib.hid fun h => kt5 HA.out HB.out (a := a) (b := b) h
  have HFT := Lib.hid (show FitsD cC from fitsD_kT EcC.out HAL.out HBL.out)
  clear HMI
  generalize max a b = M at *
  by_cases hM : M = 18446744073709551615
  · subst hM
    go_upto_region 6 with fail
    have KK0 : ∀ V, Below wE.heap.size wE V → KSr w0 [(gC, cC)] [] [] V := fun V hb => K11.out.next hb
    have hnb : ∀ {k : Nat}, ∀ j, (fun _ : Nat => (none : Option Nat)) j ≠ some k := fun j h => by cases h
    have hkp : ∀ (q : Nat) (L : Nat → Bool) (W W' : World), Below wE.heap.size wE W → BelW W W' → KeepsR (srS wE (kt6R cC)) L W W' ∧ Below wE.heap.size wE W' := fun _ _ _ _ h hb => sr_keep h hb
    refine wp_region_sr (sr := (kt6R cC)) (by kernel_rfl) (by kernel_rfl) (by kernel_rfl) (dst_small (n := 121) (by kernel_rfl)) ?_ ?_
    · refine ⟨?_, ?_, ?_, ?_, ?_, ?_, ?_, ?_, ?_, ?_, ?_, ?_, ?_, ?_, ?_, ?_, ?_, ?_, ?_, ?_, trivial⟩
      · refine StepR.pure rfl rfl hnb (fun W => Below.refl _ W) (hkp 0) fun L a W hI hk hd => ?_
        have e5 : a.tmps[5]?.getD undef = .pointer (some ⟨gC, 0, none⟩) := hI.at 5 (by kernel_rfl)
        obtain ⟨c0, c1, c2, _⟩ := (KK0 W hI.glob).ca (g := gC) (c := cC) (by simp)
        exact ⟨rfl, mkC cC, by go_simp, rfl⟩
      · refine StepR.call rfl rfl hnb (hkp 1) fun L a W hI hk hd => ?_
        refine ⟨rfl, 25, #[.int .i64 1, .int .i64 3], by go_simp, (lawAt12 1 3 W).mono ?_⟩
        rintro e W' ⟨rfl, hb⟩
        exact ⟨_, rfl, hb, rfl⟩
      · refine StepR.pure rfl rfl hnb (fun W => Below.refl _ W) (hkp 2) fun L a W hI hk hd => ?_
        exact ⟨rfl, mkC zC, by go_simp, rfl⟩
      · refine StepR.call rfl rfl hnb (hkp 3) fun L a W hI hk hd => ?_
        obtain ⟨_, e38, rfl⟩ := hI.get 0 38 (hd 0 rfl) rfl
        obtain ⟨_, e39, rfl⟩ := hI.get 1 39 (hd 1 rfl) rfl
        obtain ⟨_, e40, rfl⟩ := hI.get 2 40 (hd 2 rfl) rfl
        refine ⟨rfl, 13, #[mkC cC, .agg #[.int .i64 1, .int .i64 3], .string ⟨#[97]⟩, .int .i64 1, mkC zC, .int .i64 15], by go_simp, (adds_l DO.out 1 3 [97] 1 15 W (HM1.out rfl) EcC.out rfl HFT.out (by decide) (by decide) ((KK0 W hI.glob).ok (g := gC) (c := cC) (by simp)) (zC_ok W)).mono ?_⟩
        rintro e W' ⟨rfl, hb⟩
        exact ⟨_, rfl, hb, rfl⟩
      · refine StepR.pure rfl rfl hnb (fun W => Below.refl _ W) (hkp 4) fun L a W hI hk hd => ?_
        obtain ⟨_, e41, rfl⟩ := hI.get 3 41 (hd 3 rfl) rfl
        exact ⟨rfl, .bool true, by go_simp, rfl⟩
      · refine StepR.pure rfl rfl hnb (fun W => Below.refl _ W) (hkp 5) fun L a W hI hk hd => ?_
        have e5 : a.tmps[5]?.getD undef = .pointer (some ⟨gC, 0, none⟩) := hI.at 5 (by kernel_rfl)
        obtain ⟨c0, c1, c2, _⟩ := (KK0 W hI.glob).ca (g := gC) (c := cC) (by simp)
        exact ⟨hI.wants rfl (hd 4 rfl) rfl (fun _ h => h), mkC cC, by go_simp, rfl⟩
      · refine StepR.call rfl rfl hnb (hkp 6) fun L a W hI hk hd => ?_
        refine ⟨hI.wants rfl (hd 4 rfl) rfl (fun _ h => h), 25, #[.int .i64 1, .int .i64 3], by go_simp, (lawAt12 1 3 W).mono ?_⟩
        rintro e W' ⟨rfl, hb⟩
        exact ⟨_, rfl, hb, rfl⟩
      · refine StepR.pure rfl rfl hnb (fun W => Below.refl _ W) (hkp 7) fun L a W hI hk hd => ?_
        exact ⟨hI.wants rfl (hd 4 rfl) rfl (fun _ h => h), mkC zC, by go_simp, rfl⟩
      · refine StepR.call rfl rfl hnb (hkp 8) fun L a W hI hk hd => ?_
        obtain ⟨_, e43, rfl⟩ := hI.get 5 43 (hd 5 rfl) rfl
        obtain ⟨_, e44, rfl⟩ := hI.get 6 44 (hd 6 rfl) rfl
        obtain ⟨_, e45, rfl⟩ := hI.get 7 45 (hd 7 rfl) rfl
        refine ⟨hI.wants rfl (hd 4 rfl) rfl (fun _ h => h), 14, #[mkC cC, .agg #[.int .i64 1, .int .i64 3], .string ⟨#[98]⟩, .int .i64 1, mkC zC, .int .i64 15], by go_simp, (sets_l DO.out 1 3 [98] 1 15 W (HM2.out rfl) EcC.out rfl HFT.out (by decide) (by decide) ((KK0 W hI.glob).ok (g := gC) (c := cC) (by simp)) (zC_ok W)).mono ?_⟩
        rintro e W' ⟨rfl, hb⟩
        exact ⟨_, rfl, hb, rfl⟩
      · refine StepR.pure rfl rfl hnb (fun W => Below.refl _ W) (hkp 9) fun L a W hI hk hd => ?_
        obtain ⟨_, e42, rfl⟩ := hI.get 4 42 (hd 4 rfl) rfl
        obtain ⟨_, e46, rfl⟩ := hI.get 8 46 (hd 8 rfl) rfl
        exact ⟨rfl, .bool true, by go_simp, rfl⟩
      · refine StepR.pure rfl rfl hnb (fun W => Below.refl _ W) (hkp 10) fun L a W hI hk hd => ?_
        obtain ⟨_, e47, rfl⟩ := hI.get 9 47 (hd 9 rfl) rfl
        exact ⟨rfl, .bool true, by go_simp, rfl⟩
      · refine StepR.pure rfl rfl hnb (fun W => Below.refl _ W) (hkp 11) fun L a W hI hk hd => ?_
        have e5 : a.tmps[5]?.getD undef = .pointer (some ⟨gC, 0, none⟩) := hI.at 5 (by kernel_rfl)
        obtain ⟨c0, c1, c2, _⟩ := (KK0 W hI.glob).ca (g := gC) (c := cC) (by simp)
        exact ⟨hI.wants rfl (hd 10 rfl) rfl (fun _ h => h), mkC cC, by go_simp, rfl⟩
      · refine StepR.call rfl rfl hnb (hkp 12) fun L a W hI hk hd => ?_
        refine ⟨hI.wants rfl (hd 10 rfl) rfl (fun _ h => h), 25, #[.int .i64 1, .int .i64 3], by go_simp, (lawAt12 1 3 W).mono ?_⟩
        rintro e W' ⟨rfl, hb⟩
        exact ⟨_, rfl, hb, rfl⟩
      · refine StepR.pure rfl rfl hnb (fun W => Below.refl _ W) (hkp 13) fun L a W hI hk hd => ?_
        exact ⟨hI.wants rfl (hd 10 rfl) rfl (fun _ h => h), mkC zC, by go_simp, rfl⟩
      · refine StepR.call rfl rfl hnb (hkp 14) fun L a W hI hk hd => ?_
        obtain ⟨_, e49, rfl⟩ := hI.get 11 49 (hd 11 rfl) rfl
        obtain ⟨_, e50, rfl⟩ := hI.get 12 50 (hd 12 rfl) rfl
        obtain ⟨_, e51, rfl⟩ := hI.get 13 51 (hd 13 rfl) rfl
        refine ⟨hI.wants rfl (hd 10 rfl) rfl (fun _ h => h), 14, #[mkC cC, .agg #[.int .i64 1, .int .i64 3], .string ⟨#[99]⟩, .int .i64 1, mkC zC, .int .i64 9], by go_simp, (sets_l DO.out 1 3 [99] 1 9 W HM3.out EcC.out rfl HFT.out (by decide) (by decide) ((KK0 W hI.glob).ok (g := gC) (c := cC) (by simp)) (zC_ok W)).mono ?_⟩
        rintro e W' ⟨rfl, hb⟩
        exact ⟨_, rfl, hb, rfl⟩
      · refine StepR.pure rfl rfl hnb (fun W => Below.refl _ W) (hkp 15) fun L a W hI hk hd => ?_
        obtain ⟨_, e48, rfl⟩ := hI.get 10 48 (hd 10 rfl) rfl
        obtain ⟨_, e52, rfl⟩ := hI.get 14 52 (hd 14 rfl) rfl
        exact ⟨rfl, .bool true, by go_simp, rfl⟩
      · refine StepR.pure rfl rfl hnb (fun W => Below.refl _ W) (hkp 16) fun L a W hI hk hd => ?_
        obtain ⟨_, e53, rfl⟩ := hI.get 15 53 (hd 15 rfl) rfl
        exact ⟨rfl, .bool true, by go_simp, rfl⟩
      · refine StepR.call rfl rfl hnb (hkp 17) fun L a W hI hk hd => ?_
        refine ⟨hI.wants rfl (hd 16 rfl) rfl (fun _ h => h), 10, #[], by go_simp, (HKN.out W).mono ?_⟩
        rintro e W' ⟨rfl, hb⟩
        exact ⟨_, rfl, hb, rfl⟩
      · refine StepR.pure rfl rfl hnb (fun W => Below.refl _ W) (hkp 18) fun L a W hI hk hd => ?_
        obtain ⟨_, e54, rfl⟩ := hI.get 16 54 (hd 16 rfl) rfl
        obtain ⟨_, e55, rfl⟩ := hI.get 17 55 (hd 17 rfl) rfl
        exact ⟨rfl, .bool true, by go_simp, rfl⟩
      · refine StepR.pure rfl rfl hnb (fun W => Below.refl _ W) (hkp 19) fun L a W hI hk hd => ?_
        obtain ⟨_, e56, rfl⟩ := hI.get 18 56 (hd 18 rfl) rfl
        exact ⟨rfl, .bool true, by go_simp, rfl⟩
    · intro a wEx L hL hI
      have k4 : a.eval (.tmp 4) = .bool true := by
        obtain ⟨_, e4, rfl⟩ := hI.get 19 4 (hL 19 (by decide)) rfl
        rw [eval_tmp]; exact e4
      have KwEx := Lib.hid (KK0 wEx hI.glob)
      rw [hI.frame]
      simp only [List.filterMap, List.foldl]
      rw [k4]
      generalize a.eval (.tmp 38) = v38
      generalize a.eval (.tmp 39) = v39
      generalize a.eval (.tmp 40) = v40
      generalize a.eval (.tmp 41) = v41
      generalize a.eval (.tmp 42) = v42
      generalize a.eval (.tmp 43) = v43
      generalize a.eval (.tmp 44) = v44
      generalize a.eval (.tmp 45) = v45
      generalize a.eval (.tmp 46) = v46
      generalize a.eval (.tmp 47) = v47
      generalize a.eval (.tmp 48) = v48
      generalize a.eval (.tmp 49) = v49
      generalize a.eval (.tmp 50) = v50
      generalize a.eval (.tmp 51) = v51
      generalize a.eval (.tmp 52) = v52
      generalize a.eval (.tmp 53) = v53
      generalize a.eval (.tmp 54) = v54
      generalize a.eval (.tmp 55) = v55
      generalize a.eval (.tmp 56) = v56
      clear hL hI KK0 hkp k4 K11
      simp only [List.setIfInBounds_toArray, List.set_cons_succ, List.set_cons_zero]
      go_wp2_with fail
      go_ret
      exact OneB.bool rfl KwEx.out.kk.bel
  · obtain ⟨N, hN⟩ : ∃ N, M + 1 = N := ⟨_, rfl⟩
    have hml := HML.out
    have iN : (M : Int) + 1 = (N : Int) := by omega
    have hN1 : N < 18446744073709551616 := by omega
    have iz : ((N : Int) == 0) = false := eqF (by omega)
    have HE1 := HM4.out hM
    have HE2' := HM5.out hM
    rw [hN] at HE1 HE2'
    obtain ⟨X2, hX2⟩ : ∃ X, putD (kT a b) (1, 3) [98] 1 true = X := ⟨_, rfl⟩
    rw [hX2] at HE2'
    have HX2 := Lib.hid HE2'.2
    have HE2 := Lib.hid (show putE (kT a b) (1, 3) [98] 1 true = 0 ∧ putD (kT a b) (1, 3) [98] 1 true = X2 from ⟨HE2'.1, hX2⟩)
    have HE1 := Lib.hid HE1
    obtain ⟨X1, hX1⟩ : ∃ X : Ca, (([], [(1, 3)]), [([122], [(⟨1, 3, 1, N⟩ : Mk)])]) = X := ⟨_, rfl⟩
    rw [hX1] at HE1
    have HX1 := Lib.hid hX1
    clear HE2' hX2 hX1 hN HM1 HM2 HM3 HM4 HM5 HML hM hml
    go_upto_region 7 with fail
    have KK0 : ∀ V, Below wE.heap.size wE V → KSr w0 [(gC, cC)] [] [] V := fun V hb => K11.out.next hb
    have hkp : ∀ (q : Nat) (L : Nat → Bool) (W W' : World), Below wE.heap.size wE W → BelW W W' → KeepsR (ssS wE kt7B (kt7R cC X1) (kt7Q X1)) L W W' ∧ Below wE.heap.size wE W' := fun _ _ _ _ h hb => ss_keep h hb
    refine wp_region_ss (bx := kt7B) (sr := kt7R cC X1) (sq := kt7Q X1) (by kernel_rfl) (by kernel_rfl) (by kernel_rfl) (dst_small (n := 121) (by kernel_rfl)) (fun j k h => by obtain ⟨rfl, rfl⟩ := kt7B_in h; rfl) (fun j j' k h h' => by have := kt7B_in h; have := kt7B_in h'; omega) (fun j k h => by obtain ⟨rfl, rfl⟩ := kt7B_in h; exact ⟨rfl, _, rfl⟩) (kt7Q_calm _) ?_ ?_
    · refine ⟨?_, ?_, ?_, ?_, ?_, ?_, ?_, ?_, ?_, trivial⟩
      · refine StepR.pure rfl rfl (fun j h => by have := kt7B_in h; omega) (fun W => Below.refl _ W) (hkp 0) fun L a W hI hk hd => ?_
        have e5 : a.tmps[5]?.getD undef = .pointer (some ⟨gC, 0, none⟩) := hI.at 5 (by kernel_rfl)
        obtain ⟨c0, c1, c2, _⟩ := (KK0 W hI.glob).ca (g := gC) (c := cC) (by simp)
        exact ⟨rfl, mkC cC, by go_simp, rfl⟩
      · refine StepR.call rfl rfl (fun j h => by have := kt7B_in h; omega) (hkp 1) fun L a W hI hk hd => ?_
        refine ⟨rfl, 25, #[.int .i64 1, .int .i64 3], by go_simp, (lawAt12 1 3 W).mono ?_⟩
        rintro e W' ⟨rfl, hb⟩
        exact ⟨_, rfl, hb, rfl⟩
      · refine StepR.call rfl rfl (fun j h => by have := kt7B_in h; omega) (hkp 2) fun L a W hI hk hd => ?_
        obtain ⟨_, e58, rfl⟩ := hI.get 0 58 (hd 0 rfl) rfl
        obtain ⟨_, e59, rfl⟩ := hI.get 1 59 (hd 1 rfl) rfl
        refine ⟨rfl, 28, #[mkC cC, .agg #[.int .i64 1, .int .i64 3], .string ⟨#[122]⟩, .int .i64 1], by go_simp, (add_l DO.out 1 3 [122] 1 W HE1.out.1 HE1.out.2 EcC.out HFT.out (by decide) ((KK0 W hI.glob).ok (g := gC) (c := cC) (by simp))).mono ?_⟩
        rintro e W' ⟨⟨z, rfl, hz, ho⟩, hb⟩
        exact ⟨_, rfl, hb, z, rfl, hz, ho⟩
      · refine StepR.pure rfl rfl (fun j h => by have := kt7B_in h; omega) (fun W => Below.refl _ W) (hkp 3) fun L a W hI hk hd => ?_
        obtain ⟨_, e60, z60, rfl, i60, h60⟩ := hI.get 2 60 (hd 2 rfl) rfl
        exact ⟨rfl, .tuple #[mkC z60, .int .i64 0], by go_simp, z60, rfl, i60, h60⟩
      · refine StepR.pure rfl rfl (fun j h => by have := kt7B_in h; omega) (fun W => Below.refl _ W) (hkp 4) fun L a W hI hk hd => ?_
        obtain ⟨_, e57, z57, rfl, i57, h57⟩ := hI.get 3 57 (hd 3 rfl) rfl
        exact ⟨rfl, mkC z57, by go_simp, z57, rfl, i57, h57⟩
      · refine StepR.pure rfl rfl (fun j h => by have := kt7B_in h; omega) (fun W => Below.refl _ W) (hkp 5) fun L a W hI hk hd => ?_
        obtain ⟨_, e57, z57, rfl, i57, h57⟩ := hI.get 3 57 (hd 3 rfl) rfl
        exact ⟨rfl, .int .i64 0, by go_simp, rfl⟩
      · refine StepR.boxed rfl rfl (fun W o => (Below.refl _ W).alloc (Nat.le_refl _) o) (hkp 6) fun L a W hI => ?_
        exact ⟨rfl, .cells #[.slice none 0 0, .slice none 0 0, .slice none 0 0] 28, by go_simp, W.heap.size, zC, rfl, hI.glob.size, BlkC.new W zC⟩
      · refine StepR.store rfl rfl rfl fun L a W hI hd => ?_
        obtain ⟨_, e7, b7, d7, rfl, n7, B7⟩ := hI.get 6 7 (hd 6 rfl) rfl
        obtain ⟨_, e61, z61, rfl, i61, h61⟩ := hI.get 4 61 (hd 4 rfl) rfl
        obtain ⟨t1, t2, t3⟩ := store_cart B7 h61
        obtain ⟨fz0, fz1, fz2⟩ := BlkC.frozens B7
        have x0 := B7.cell0
        have x1 := B7.cell1
        have x2 := B7.cell2
        refine ⟨rfl, b7, 7, _, rfl, hd 6 rfl, by rw [eval_tmp]; exact e7, ?_, t1, below_fill hI.glob n7 _ _ _, b7, z61, rfl, t2, i61, t3⟩
        clear t1 t2 t3 B7
        go_simp
        try rfl
      · refine StepR.pure rfl rfl (fun j h => by have := kt7B_in h; omega) (fun W => Below.refl _ W) (hkp 8) fun L a W hI hk hd => ?_
        obtain ⟨_, e62, rfl⟩ := hI.get 5 62 (hd 5 rfl) rfl
        exact ⟨rfl, .int .i64 0, by go_simp, rfl⟩
    · intro a wEx L hL hI
      have ke : a.eval (.tmp 8) = .int .i64 0 := by
        obtain ⟨_, e, rfl⟩ := hI.get 8 8 (hL 8 (by decide)) rfl
        rw [eval_tmp]; exact e
      obtain ⟨gX, cX, eb, hBz, hz, hoz⟩ := (hI.box 7 6 7 (hL 7 (by decide)) rfl rfl).2
      have KwEx := Lib.hid ((KK0 wEx hI.glob).add hBz hoz)
      have EcX := Lib.hid (show cX.ca = X1 from hz)
      rw [hI.frame]
      simp only [List.filterMap, List.foldl]
      rw [ke, eb]
      generalize a.eval (.tmp 58) = v58
      generalize a.eval (.tmp 59) = v59
      generalize a.eval (.tmp 60) = v60
      generalize a.eval (.tmp 57) = v57
      generalize a.eval (.tmp 61) = v61
      generalize a.eval (.tmp 62) = v62
      clear hL hI KK0 hkp ke eb hBz hz hoz K11
      simp only [List.setIfInBounds_toArray, List.set_cons_succ, List.set_cons_zero]
      go_upto_region 8 with fail
      have KK0 : ∀ V, Below wEx.heap.size wEx V → KSr w0 [(gC, cC), (gX, cX)] [] [] V := fun V hb => KwEx.out.next hb
      have hkp : ∀ (q : Nat) (L : Nat → Bool) (W W' : World), Below wEx.heap.size wEx W → BelW W W' → KeepsR (ssS wEx kt8B (kt8R cC X2) (kt8Q X2)) L W W' ∧ Below wEx.heap.size wEx W' := fun _ _ _ _ h hb => ss_keep h hb
      refine wp_region_ss (bx := kt8B) (sr := kt8R cC X2) (sq := kt8Q X2) (by kernel_rfl) (by kernel_rfl) (by kernel_rfl) (dst_small (n := 121) (by kernel_rfl)) (fun j k h => by obtain ⟨rfl, rfl⟩ := kt8B_in h; rfl) (fun j j' k h h' => by have := kt8B_in h; have := kt8B_in h'; omega) (fun j k h => by obtain ⟨rfl, rfl⟩ := kt8B_in h; exact ⟨rfl, _, rfl⟩) (kt8Q_calm _) ?_ ?_
      · refine ⟨?_, ?_, ?_, ?_, ?_, ?_, ?_, ?_, ?_, trivial⟩
        · refine StepR.pure rfl rfl (fun j h => by have := kt8B_in h; omega) (fun W => Below.refl _ W) (hkp 0) fun L a W hI hk hd => ?_
          have e5 : a.tmps[5]?.getD undef = .pointer (some ⟨gC, 0, none⟩) := hI.at 5 (by kernel_rfl)
          obtain ⟨c0, c1, c2, _⟩ := (KK0 W hI.glob).ca (g := gC) (c := cC) (by simp)
          exact ⟨rfl, mkC cC, by go_simp, rfl⟩
        · refine StepR.call rfl rfl (fun j h => by have := kt8B_in h; omega) (hkp 1) fun L a W hI hk hd => ?_
          refine ⟨rfl, 25, #[.int .i64 1, .int .i64 3], by go_simp, (lawAt12 1 3 W).mono ?_⟩
          rintro e W' ⟨rfl, hb⟩
          exact ⟨_, rfl, hb, rfl⟩
        · refine StepR.call rfl rfl (fun j h => by have := kt8B_in h; omega) (hkp 2) fun L a W hI hk hd => ?_
          obtain ⟨_, e64, rfl⟩ := hI.get 0 64 (hd 0 rfl) rfl
          obtain ⟨_, e65, rfl⟩ := hI.get 1 65 (hd 1 rfl) rfl
          refine ⟨rfl, 29, #[mkC cC, .agg #[.int .i64 1, .int .i64 3], .string ⟨#[98]⟩, .int .i64 1], by go_simp, (set_l DO.out 1 3 [98] 1 W HE2.out.1 HE2.out.2 EcC.out HFT.out (by decide) ((KK0 W hI.glob).ok (g := gC) (c := cC) (by simp))).mono ?_⟩
          rintro e W' ⟨⟨z, rfl, hz, ho⟩, hb⟩
          exact ⟨_, rfl, hb, z, rfl, hz, ho⟩
        · refine StepR.pure rfl rfl (fun j h => by have := kt8B_in h; omega) (fun W => Below.refl _ W) (hkp 3) fun L a W hI hk hd => ?_
          obtain ⟨_, e66, z66, rfl, i66, h66⟩ := hI.get 2 66 (hd 2 rfl) rfl
          exact ⟨rfl, .tuple #[mkC z66, .int .i64 0], by go_simp, z66, rfl, i66, h66⟩
        · refine StepR.pure rfl rfl (fun j h => by have := kt8B_in h; omega) (fun W => Below.refl _ W) (hkp 4) fun L a W hI hk hd => ?_
          obtain ⟨_, e63, z63, rfl, i63, h63⟩ := hI.get 3 63 (hd 3 rfl) rfl
          exact ⟨rfl, mkC z63, by go_simp, z63, rfl, i63, h63⟩
        · refine StepR.pure rfl rfl (fun j h => by have := kt8B_in h; omega) (fun W => Below.refl _ W) (hkp 5) fun L a W hI hk hd => ?_
          obtain ⟨_, e63, z63, rfl, i63, h63⟩ := hI.get 3 63 (hd 3 rfl) rfl
          exact ⟨rfl, .int .i64 0, by go_simp, rfl⟩
        · refine StepR.boxed rfl rfl (fun W o => (Below.refl _ W).alloc (Nat.le_refl _) o) (hkp 6) fun L a W hI => ?_
          exact ⟨rfl, .cells #[.slice none 0 0, .slice none 0 0, .slice none 0 0] 28, by go_simp, W.heap.size, zC, rfl, hI.glob.size, BlkC.new W zC⟩
        · refine StepR.store rfl rfl rfl fun L a W hI hd => ?_
          obtain ⟨_, e9, b9, d9, rfl, n9, B9⟩ := hI.get 6 9 (hd 6 rfl) rfl
          obtain ⟨_, e67, z67, rfl, i67, h67⟩ := hI.get 4 67 (hd 4 rfl) rfl
          obtain ⟨t1, t2, t3⟩ := store_cart B9 h67
          obtain ⟨fz0, fz1, fz2⟩ := BlkC.frozens B9
          have x0 := B9.cell0
          have x1 := B9.cell1
          have x2 := B9.cell2
          refine ⟨rfl, b9, 9, _, rfl, hd 6 rfl, by rw [eval_tmp]; exact e9, ?_, t1, below_fill hI.glob n9 _ _ _, b9, z67, rfl, t2, i67, t3⟩
          clear t1 t2 t3 B9
          go_simp
          try rfl
        · refine StepR.pure rfl rfl (fun j h => by have := kt8B_in h; omega) (fun W => Below.refl _ W) (hkp 8) fun L a W hI hk hd => ?_
          obtain ⟨_, e68, rfl⟩ := hI.get 5 68 (hd 5 rfl) rfl
          exact ⟨rfl, .int .i64 0, by go_simp, rfl⟩
      · intro a wExx L hL hI
        have ke : a.eval (.tmp 10) = .int .i64 0 := by
          obtain ⟨_, e, rfl⟩ := hI.get 8 10 (hL 8 (by decide)) rfl
          rw [eval_tmp]; exact e
        obtain ⟨gY, cY, eb, hBz, hz, hoz⟩ := (hI.box 7 6 9 (hL 7 (by decide)) rfl rfl).2
        have KwExx := Lib.hid ((KK0 wExx hI.glob).add hBz hoz)
        have EcY := Lib.hid (show cY.ca = X2 from hz)
        rw [hI.frame]
        simp only [List.filterMap, List.foldl]
        rw [ke, eb]
        generalize a.eval (.tmp 64) = v64
        generalize a.eval (.tmp 65) = v65
        generalize a.eval (.tmp 66) = v66
        generalize a.eval (.tmp 63) = v63
        generalize a.eval (.tmp 67) = v67
        generalize a.eval (.tmp 68) = v68
        clear hL hI KK0 hkp ke eb hBz hz hoz KwEx
        simp only [List.setIfInBounds_toArray, List.set_cons_succ, List.set_cons_zero]
        go_upto_region 9 with fail
        obtain ⟨w30, hw30⟩ : ∃ W, wExx = W := ⟨_, rfl⟩
        rw [hw30] at KwExx ⊢
        have K0 := Lib.hid KwExx.out
        clear KwExx hw30
        go_wp2_with fail
        refine (lawAt12 1 3 _).mono ?_
        rintro e w31 ⟨rfl, hb⟩
        have K1 := Lib.hid (K0.out.next hb)
        clear hb K0
        have hal := (Below.refl w31.heap.size w31).alloc (Nat.le_refl _) (.cells #[.int .i64 1, .int .i64 3] 30)
        have K2 := Lib.hid (K1.out.next hal)
        have HD3 := Lib.hid (sr_row (sr_dots1 (N := 0) w31 (1, 3)))
        clear hal K1
        go_wp2_with fail
        refine (con01 _ (1, 3) _ HD3.out).mono ?_
        rintro e w32 ⟨⟨A3, n3, B3, m3, rfl, hc⟩, hb⟩
        have K3 := Lib.hid (K2.out.next hb)
        have HC3 := Lib.hid (show (Sr.ctx [] [(1, 3)]).holds 0 (.agg #[.slice A3 0 n3, .slice B3 1 m3]) w32 from hc)
        clear hb K2 hc HD3
        go_wp2_with fail
        refine (lawMark12 1 3 1 N _).mono ?_
        rintro e w33 ⟨rfl, hb⟩
        have K4 := Lib.hid (K3.out.next hb)
        replace HC3 := Lib.hid (Sr.below HC3.out hb)
        clear hb K3
        have hal := (Below.refl w33.heap.size w33).alloc (Nat.le_refl _) (.cells #[.int .i64 1, .int .i64 3, .int .i64 1, .int .u64 ((N : Nat) : Int)] 55)
        have K5 := Lib.hid (K4.out.next hal)
        replace HC3 := Lib.hid (Sr.below HC3.out hal)
        have HM3 := Lib.hid (sr_mrow (sr_marks1 (N := 0) w33 ⟨1, 3, 1, N⟩))
        clear hal K4
        go_wp2_with fail
        refine (lawItem12 [122] _ 1 [⟨1, 3, 1, N⟩] _ HM3.out (by simp) (by simp [maxLen])).mono ?_
        rintro e w34 ⟨⟨y3, rfl, hy, ho⟩, hb⟩
        have K6 := Lib.hid (K5.out.next hb)
        replace HC3 := Lib.hid (Sr.below HC3.out hb)
        have HY3 := Lib.hid (ho)
        clear hb K5 ho HM3
        have HT3 := Lib.hid hy
        clear hy
        have hx := sr_items1 (N := 0) w34 y3 HY3.out
        rw [HT3.out] at hx
        have hal := (Below.refl w34.heap.size w34).alloc (Nat.le_refl _) (.cells #[.string ⟨y3.nm.toArray⟩, .slice y3.A y3.ms.length y3.c] 50)
        have K7 := Lib.hid (K6.out.next hal)
        replace HC3 := Lib.hid (Sr.below HC3.out hal)
        clear hal K6
        obtain ⟨cT, hcT, EcT, OcT⟩ := sr_cart HC3.out hx
        replace EcT := Lib.hid EcT
        clear hx HC3 HY3 HT3
        have h := K7.out.cart cT OcT
        rw [World.size_alloc] at h
        rw [show (#[cT.v, cT.l, cT.i] : Array Value) = #[.slice A3 0 n3, .slice B3 1 m3, .slice (some ⟨w34.heap.size, 0, none⟩) 1 1] from by injection hcT with h; exact h.symm] at h
        have K8 := Lib.hid h
        clear h hcT OcT K7
        go_upto_region 10 with fail
        generalize World.alloc (World.alloc w34 _) _ = wF at K8 ⊢
        generalize w34.heap.size + 1 = gT at K8 ⊢
        obtain ⟨x0, x1, x2, xl⟩ := K8.out.ca (g := gX) (c := cX) (by simp)
        obtain ⟨y0, y1, y2, yl⟩ := K8.out.ca (g := gT) (c := cT) (by simp)
        go_wp2_with fail
        refine (refEqual10 cX cT true _ (K8.out.ok (g := gX) (c := cX) (by simp)) (K8.out.ok (g := gT) (c := cT) (by simp)) (small_of EcX.out (by rw [← HX1.out]; simp)) (small_of EcT.out (by simp)) (sameC_iff.2 (by rw [EcX.out, EcT.out, HX1.out]))).mono ?_
        rintro e wG ⟨rfl, hb⟩
        have KG := Lib.hid (K8.out.next hb)
        clear hb K8 x0 x1 x2 xl y0 y1 y2 yl
        have hoY := KG.out.ok (g := gY) (c := cY) (by simp)
        obtain ⟨g1, o1, g2, o2, cap, hi, hc1, hc2⟩ := one_mark (by rw [EcY.out]; exact HX2.out) hoY
        obtain ⟨_, _, x2, xl⟩ := KG.out.ca (g := gY) (c := cY) (by simp)
        rw [hi] at x2
        clear hoY hi
        go_wp2_with fail
        refine (HKN.out _).mono ?_
        rintro e wH ⟨rfl, hb⟩
        have KB := Lib.hid (below_trans KG.out.kk.bel hb)
        clear hb KG x2 xl hc1 hc2
        go_wp2_with fail
        go_ret
        exact OneB.bool rfl KB.out


end

end Go.Proofs.YtiaehpdgpjhecaaGreat
