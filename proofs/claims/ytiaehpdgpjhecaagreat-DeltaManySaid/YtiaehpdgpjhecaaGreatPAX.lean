/- Several texts in one: DelO. -/
import Derived.Test.YtiaehpdgpjhecaaGreatPAW
namespace Go.Proofs.YtiaehpdgpjhecaaGreat

section
open Go.RowKit

def kn3R (_ cC : CaV) : Nat → Sr
  | 0 => .eq (mkC cC)
  | 1 => .eq (.agg #[.int .i64 1, .int .i64 3])
  | 2 => .eq (.agg #[.int .i64 1, .int .i64 3])
  | 3 => .dots [(1, 3)]
  | 4 => .ctx [(1, 3)] []
  | 5 => .eq (mkV ⟨1, 3, 4, 10⟩)
  | 6 => .marks [⟨1, 3, 4, 10⟩]
  | 7 => .item ([84, 101, 97], [⟨1, 3, 4, 10⟩])
  | 8 => .items [([84, 101, 97], [⟨1, 3, 4, 10⟩])]
  | 9 => .cart (([(1, 3)], []), [([84, 101, 97], [⟨1, 3, 4, 10⟩])])
  | 10 => .eq (.bool true)
  | 11 => .eq (.bool false)
  | 12 => .eq (.bool false)
  | 13 => .eq (mkC cC)
  | 14 => .eq (.agg #[.int .i64 1, .int .i64 4])
  | 15 => .eq (.agg #[.int .i64 1, .int .i64 4])
  | 16 => .dots [(1, 4)]
  | 17 => .ctx [] [(1, 4)]
  | 18 => .eq (mkV ⟨1, 4, 1, 10⟩)
  | 19 => .marks [⟨1, 4, 1, 10⟩]
  | 20 => .item ([79, 105, 108], [⟨1, 4, 1, 10⟩])
  | 21 => .items [([79, 105, 108], [⟨1, 4, 1, 10⟩])]
  | 22 => .cart (([], [(1, 4)]), [([79, 105, 108], [⟨1, 4, 1, 10⟩])])
  | 23 => .eq (.bool true)
  | 24 => .eq (.bool false)
  | 25 => .eq (.bool false)
  | _ => .any
def kn5R (cZ cC : CaV) : Nat → Sr
  | 0 => .eq (mkC cC)
  | 1 => .eq (.agg #[.int .i64 2, .int .i64 2])
  | 2 => .eq (.agg #[.int .i64 2, .int .i64 2])
  | 3 => .dots [(2, 2)]
  | 4 => .ctx [(2, 2)] []
  | 5 => .eq (mkV ⟨2, 2, 8, 10⟩)
  | 6 => .marks [⟨2, 2, 8, 10⟩]
  | 7 => .item ([78, 117, 116], [⟨2, 2, 8, 10⟩])
  | 8 => .items [([78, 117, 116], [⟨2, 2, 8, 10⟩])]
  | 9 => .cart (([(2, 2)], []), [([78, 117, 116], [⟨2, 2, 8, 10⟩])])
  | 10 => .eq (.bool true)
  | 11 => .eq (.bool false)
  | 12 => .eq (.bool false)
  | 13 => .eq (mkC cC)
  | 14 => .eq (.agg #[.int .i64 1, .int .i64 2])
  | 15 => .dots [(1, 2)]
  | 16 => .ctx [(1, 2)] []
  | 17 => .cart (([(1, 2)], []), [])
  | 18 => .eq (.bool true)
  | 19 => .eq (.bool false)
  | 20 => .eq (.bool false)
  | 21 => .eq (.bool false)
  | 22 => .eq (mkC cC)
  | 23 => .eq (.agg #[.int .i64 1, .int .i64 2])
  | 24 => .eq (.agg #[.int .i64 2, .int .i64 1])
  | 25 => .dots [(1, 2), (2, 1)]
  | 26 => .ctx [(1, 2), (2, 1)] []
  | 27 => .cart (([(1, 2), (2, 1)], []), [])
  | 28 => .eq (.bool true)
  | 29 => .eq (.bool false)
  | 30 => .eq (.bool false)
  | 31 => .eq (.bool false)
  | 32 => .eq (mkC cZ)
  | 33 => .eq (mkC cZ)
  | 34 => .eq (.bool true)
  | 35 => .eq (.bool false)
  | 36 => .eq (.bool false)
  | _ => .any
def kn7R (cZ cC : CaV) : Nat → Sr
  | 0 => .eq (mkC cC)
  | 1 => .eq (.agg #[.int .i64 1, .int .i64 2])
  | 2 => .eq (mkC cZ)
  | 3 => .eq (.bool true)
  | 4 => .eq (.bool false)
  | 5 => .eq (.bool false)
  | 6 => .eq (mkC cC)
  | 7 => .eq (.agg #[.int .i64 1, .int .i64 3])
  | 8 => .eq (mkC cZ)
  | 9 => .eq (.bool true)
  | 10 => .eq (.bool false)
  | 11 => .eq (.bool false)
  | 12 => .eq (.bool false)
  | 13 => .eq (mkC cC)
  | 14 => .eq (.agg #[.int .i64 1, .int .i64 3])
  | 15 => .eq (mkC cZ)
  | 16 => .eq (.bool true)
  | 17 => .eq (.bool false)
  | 18 => .eq (.bool false)
  | 19 => .eq (.bool false)
  | 20 => .eq (mkC cC)
  | 21 => .eq (.agg #[.int .i64 1, .int .i64 3])
  | 22 => .eq (mkC cZ)
  | 23 => .eq (.bool true)
  | 24 => .eq (.bool false)
  | 25 => .eq (.bool false)
  | 26 => .eq (.bool false)
  | 27 => .eq (mkC cC)
  | 28 => .eq (.agg #[.int .i64 1, .int .i64 3])
  | 29 => .eq (mkC cZ)
  | 30 => .eq (.bool true)
  | 31 => .eq (.bool false)
  | 32 => .eq (.bool false)
  | 33 => .eq (.bool false)
  | 34 => .eq (mkC cC)
  | 35 => .eq (mkC cZ)
  | 36 => .eq (.bool true)
  | 37 => .eq (.bool false)
  | 38 => .eq (.bool false)
  | _ => .any
def kn10R (_ cC cX : CaV) : Nat → Sr
  | 0 => .eq (mkC cC)
  | 1 => .eq (.agg #[.int .i64 1, .int .i64 3])
  | 2 => .eq (.bool true)
  | 3 => .eq (.bool true)
  | 4 => .eq (mkC cC)
  | 5 => .eq (.agg #[.int .i64 2, .int .i64 1])
  | 6 => .eq (.bool false)
  | 7 => .eq (.bool true)
  | 8 => .eq (.bool true)
  | 9 => .eq (.bool true)
  | 10 => .eq (mkC cC)
  | 11 => .eq (.agg #[.int .i64 0, .int .i64 1])
  | 12 => .eq (.bool false)
  | 13 => .eq (.bool true)
  | 14 => .eq (.bool true)
  | 15 => .eq (.bool true)
  | 16 => .eq (mkC cC)
  | 17 => .eq (.bool false)
  | 18 => .eq (.bool true)
  | 19 => .eq (.bool true)
  | 20 => .eq (.bool true)
  | 21 => .eq (mkC cX)
  | 22 => .eq (.bool true)
  | 23 => .eq (.bool true)
  | 24 => .eq (.bool true)
  | 25 => .eq (.int .i64 0)
  | 26 => .eq (.bool true)
  | 27 => .eq (.bool true)
  | 28 => .eq (.bool true)
  | _ => .any

set_option maxRecDepth 100000 in
set_option maxHeartbeats 16000000 in
theorem known12 (HDO : DelOK) : KnownD := by
  intro w
  have DO := Lib.hid HDO
  have hb1 := (Below.refl w.heap.size w).alloc (Nat.le_refl _) (.cells #[zC.v, zC.l, zC.i] 28)
  have K0 := Lib.hid (show KSr w [(w.heap.size, zC)] [] [] (w.alloc (.cells #[.slice none 0 0, .slice none 0 0, .slice none 0 0] 28)) from (KSr.new w).cart zC (zC_ok w))
  clear HDO hb1
  go_enter Tryz.func10, Tryz.ntmps10
  go_upto_region 2 with fail
  generalize World.alloc w _ = w1 at K0 ⊢
  obtain ⟨gZ, hgZ⟩ : ∃ g, w.heap.size = g := ⟨_, rfl⟩
  rw [hgZ] at K0
  simp only [hgZ]
  obtain ⟨cZ, hcZ⟩ : ∃ c, zC = c := ⟨_, rfl⟩
  have EcZ := Lib.hid (show cZ.ca = kZ from by rw [← hcZ]; rfl)
  rw [hcZ] at K0
  clear hgZ hcZ
  go_wp2_with fail
  refine (lawAt12 1 2 _).mono ?_
  rintro e w2 ⟨rfl, hb⟩
  have K1 := Lib.hid (K0.out.next hb)
  clear hb K0
  go_wp2_with fail
  refine (lawAt12 2 1 _).mono ?_
  rintro e w3 ⟨rfl, hb⟩
  have K2 := Lib.hid (K1.out.next hb)
  clear hb K1
  have hal := (Below.refl w3.heap.size w3).alloc (Nat.le_refl _) (.cells #[.int .i64 1, .int .i64 2, .int .i64 2, .int .i64 1] 30)
  have K3 := Lib.hid (K2.out.next hal)
  have HD1 := Lib.hid (sr_row (sr_dots2 (N := 0) w3 (1, 2) (2, 1)))
  clear hal K2
  go_wp2_with fail
  refine (con22 _ (1, 2) (2, 1) _ HD1.out).mono ?_
  rintro e w4 ⟨⟨A1, n1, B1, m1, rfl, hc⟩, hb⟩
  have K4 := Lib.hid (K3.out.next hb)
  have HC1 := Lib.hid (show (Sr.ctx [(1, 2), (2, 1)] []).holds 0 (.agg #[.slice A1 2 n1, .slice B1 0 m1]) w4 from hc)
  clear hb K3 hc HD1
  go_wp2_with fail
  refine (lawMark12 2 1 7 4 _).mono ?_
  rintro e w5 ⟨rfl, hb⟩
  have K5 := Lib.hid (K4.out.next hb)
  replace HC1 := Lib.hid (Sr.below HC1.out hb)
  clear hb K4
  have hal := (Below.refl w5.heap.size w5).alloc (Nat.le_refl _) (.cells #[.int .i64 2, .int .i64 1, .int .i64 7, .int .u64 4] 55)
  have K6 := Lib.hid (K5.out.next hal)
  replace HC1 := Lib.hid (Sr.below HC1.out hal)
  have HM1 := Lib.hid (sr_mrow (sr_marks1 (N := 0) w5 ⟨2, 1, 7, 4⟩))
  clear hal K5
  go_wp2_with fail
  refine (lawItem12 nNut _ 1 [⟨2, 1, 7, 4⟩] _ HM1.out (by simp) (by simp [maxLen])).mono ?_
  rintro e w6 ⟨⟨y1, rfl, hy, ho⟩, hb⟩
  have K7 := Lib.hid (K6.out.next hb)
  replace HC1 := Lib.hid (Sr.below HC1.out hb)
  have HY1 := Lib.hid (ho)
  clear hb K6 ho HM1
  have HT1 := Lib.hid hy
  clear hy
  go_wp2_with fail
  refine (lawMark12 1 1 5 3 _).mono ?_
  rintro e w7 ⟨rfl, hb⟩
  have K8 := Lib.hid (K7.out.next hb)
  replace HC1 := Lib.hid (Sr.below HC1.out hb)
  replace HY1 := Lib.hid (HY1.out.below hb)
  clear hb K7
  go_wp2_with fail
  refine (lawMark12 1 2 2 9 _).mono ?_
  rintro e w8 ⟨rfl, hb⟩
  have K9 := Lib.hid (K8.out.next hb)
  replace HC1 := Lib.hid (Sr.below HC1.out hb)
  replace HY1 := Lib.hid (HY1.out.below hb)
  clear hb K8
  have hal := (Below.refl w8.heap.size w8).alloc (Nat.le_refl _) (.cells #[.int .i64 1, .int .i64 1, .int .i64 5, .int .u64 3, .int .i64 1, .int .i64 2, .int .i64 2, .int .u64 9] 55)
  have K10 := Lib.hid (K9.out.next hal)
  replace HC1 := Lib.hid (Sr.below HC1.out hal)
  replace HY1 := Lib.hid (HY1.out.below hal)
  have HM2 := Lib.hid (sr_mrow (sr_marks2 (N := 0) w8 ⟨1, 1, 5, 3⟩ ⟨1, 2, 2, 9⟩))
  clear hal K9
  go_wp2_with fail
  refine (lawItem12 nTea _ 2 [⟨1, 1, 5, 3⟩, ⟨1, 2, 2, 9⟩] _ HM2.out (by simp) (by simp [maxLen])).mono ?_
  rintro e w9 ⟨⟨y2, rfl, hy, ho⟩, hb⟩
  have K11 := Lib.hid (K10.out.next hb)
  replace HC1 := Lib.hid (Sr.below HC1.out hb)
  replace HY1 := Lib.hid (HY1.out.below hb)
  have HY2 := Lib.hid (ho)
  clear hb K10 ho HM2
  have HT2 := Lib.hid hy
  clear hy
  have hx := sr_items2 (N := 0) w9 y1 y2 HY1.out HY2.out
  rw [HT1.out, HT2.out] at hx
  have hal := (Below.refl w9.heap.size w9).alloc (Nat.le_refl _) (.cells #[.string ⟨y1.nm.toArray⟩, .slice y1.A y1.ms.length y1.c, .string ⟨y2.nm.toArray⟩, .slice y2.A y2.ms.length y2.c] 50)
  have K12 := Lib.hid (K11.out.next hal)
  replace HC1 := Lib.hid (Sr.below HC1.out hal)
  clear hal K11
  obtain ⟨cC, hcC, EcC, OcC⟩ := sr_cart HC1.out hx
  replace EcC := Lib.hid EcC
  clear hx HC1 HY1 HT1 HY2 HT2
  have h := K12.out.cart cC OcC
  rw [World.size_alloc] at h
  rw [show (#[cC.v, cC.l, cC.i] : Array Value) = #[.slice A1 2 n1, .slice B1 0 m1, .slice (some ⟨w9.heap.size, 0, none⟩) 2 2] from by injection hcC with h; exact h.symm] at h
  have K13 := Lib.hid h
  clear h hcC OcC K12
  go_upto_region 3 with fail
  generalize World.alloc (World.alloc w9 _) _ = wE at K13 ⊢
  generalize w9.heap.size + 1 = gC at K13 ⊢
  go_upto_region 3 with fail
  have KK0 : ∀ V, Below wE.heap.size wE V → KSr w [(gZ, cZ), (gC, cC)] [] [] V := fun V hb => K13.out.next hb
  have hnb : ∀ {k : Nat}, ∀ j, (fun _ : Nat => (none : Option Nat)) j ≠ some k := fun j h => by cases h
  have hkp : ∀ (q : Nat) (L : Nat → Bool) (W W' : World), Below wE.heap.size wE W → BelW W W' → KeepsR (srS wE (kn3R cZ cC)) L W W' ∧ Below wE.heap.size wE W' := fun _ _ _ _ h hb => sr_keep h hb
  refine wp_region_sr (sr := (kn3R cZ cC)) (by kernel_rfl) (by kernel_rfl) (by kernel_rfl) (dst_small (n := 154) (by kernel_rfl)) ?_ ?_
  · refine ⟨?_, ?_, ?_, ?_, ?_, ?_, ?_, ?_, ?_, ?_, ?_, ?_, ?_, ?_, ?_, ?_, ?_, ?_, ?_, ?_, ?_, ?_, ?_, ?_, ?_, ?_, trivial⟩
    · refine StepR.pure rfl rfl hnb (fun W => Below.refl _ W) (hkp 0) fun L a W hI hk hd => ?_
      have e2 : a.tmps[2]?.getD undef = .pointer (some ⟨gC, 0, none⟩) := hI.at 2 (by kernel_rfl)
      obtain ⟨c0, c1, c2, _⟩ := (KK0 W hI.glob).ca (g := gC) (c := cC) (by simp)
      exact ⟨rfl, mkC cC, by go_simp, rfl⟩
    · refine StepR.call rfl rfl hnb (hkp 1) fun L a W hI hk hd => ?_
      refine ⟨rfl, 25, #[.int .i64 1, .int .i64 3], by go_simp, (lawAt12 1 3 W).mono ?_⟩
      rintro e W' ⟨rfl, hb⟩
      exact ⟨_, rfl, hb, rfl⟩
    · refine StepR.call rfl rfl hnb (hkp 2) fun L a W hI hk hd => ?_
      refine ⟨rfl, 25, #[.int .i64 1, .int .i64 3], by go_simp, (lawAt12 1 3 W).mono ?_⟩
      rintro e W' ⟨rfl, hb⟩
      exact ⟨_, rfl, hb, rfl⟩
    · refine StepR.made rfl rfl hnb (hkp 3) fun L a W hI hk hd => ?_
      obtain ⟨_, e21, rfl⟩ := hI.get 2 21 (hd 2 rfl) rfl
      exact ⟨rfl, .slice (some ⟨W.heap.size, 0, none⟩) 1 1, W.alloc (.cells #[.int .i64 1, .int .i64 3] 30), by go_simp, (Below.refl _ W).alloc (Nat.le_refl _) _, sr_dots1 (N := 0) W (1, 3)⟩
    · refine StepR.call rfl rfl hnb (hkp 4) fun L a W hI hk hd => ?_
      obtain ⟨_, e22, g22, rfl, h22⟩ := hI.get 3 22 (hd 3 rfl) rfl
      refine ⟨rfl, 24, #[.int .i64 1, .slice (some ⟨g22, 0, none⟩) 1 1], by go_simp, (con11 g22 (1, 3) W h22).mono ?_⟩
      rintro e W' ⟨⟨A, n, B, m, rfl, hc⟩, hb⟩
      exact ⟨_, rfl, hb, hc⟩
    · refine StepR.call rfl rfl hnb (hkp 5) fun L a W hI hk hd => ?_
      refine ⟨rfl, 27, #[.int .i64 1, .int .i64 3, .int .i64 4, .int .u64 10], by go_simp, (lawMark12 1 3 4 10 W).mono ?_⟩
      rintro e W' ⟨rfl, hb⟩
      exact ⟨_, rfl, hb, rfl⟩
    · refine StepR.made rfl rfl hnb (hkp 6) fun L a W hI hk hd => ?_
      obtain ⟨_, e24, rfl⟩ := hI.get 5 24 (hd 5 rfl) rfl
      exact ⟨rfl, .slice (some ⟨W.heap.size, 0, none⟩) 1 1, W.alloc (.cells #[.int .i64 1, .int .i64 3, .int .i64 4, .int .u64 10] 55), by go_simp, (Below.refl _ W).alloc (Nat.le_refl _) _, sr_marks1 (N := 0) W ⟨1, 3, 4, 10⟩⟩
    · refine StepR.call rfl rfl hnb (hkp 7) fun L a W hI hk hd => ?_
      obtain ⟨_, e25, A25, n25, rfl, h25, i25, j25⟩ := hI.get 6 25 (hd 6 rfl) rfl
      refine ⟨rfl, 26, #[.string ⟨#[84, 101, 97]⟩, .slice A25 1 n25], by go_simp, (lawItem12 [84, 101, 97] A25 n25 [⟨1, 3, 4, 10⟩] W h25 i25 j25).mono ?_⟩
      rintro e W' ⟨⟨y, rfl, hy, ho⟩, hb⟩
      exact ⟨_, rfl, hb, y, rfl, hy, ho⟩
    · refine StepR.made rfl rfl hnb (hkp 8) fun L a W hI hk hd => ?_
      obtain ⟨_, e26, y26, rfl, i26, h26⟩ := hI.get 7 26 (hd 7 rfl) rfl
      exact ⟨rfl, .slice (some ⟨W.heap.size, 0, none⟩) 1 1, W.alloc (.cells #[.string ⟨y26.nm.toArray⟩, .slice y26.A y26.ms.length y26.c] 50), by go_simp, (Below.refl _ W).alloc (Nat.le_refl _) _, (by have h := sr_items1 (N := 0) W y26 h26; rw [i26] at h; exact h)⟩
    · refine StepR.pure rfl rfl hnb (fun W => Below.refl _ W) (hkp 9) fun L a W hI hk hd => ?_
      obtain ⟨_, e23, A23, n23, B23, m23, rfl, h23, k23⟩ := hI.get 4 23 (hd 4 rfl) rfl
      obtain ⟨_, e27, x27, h27, i27⟩ := hI.get 8 27 (hd 8 rfl) rfl
      obtain ⟨A27, n27, rfl, _⟩ := id h27
      exact ⟨rfl, .agg #[.slice A23 1 n23, .slice B23 0 m23, .slice A27 x27.length n27], by go_simp, sr_cart (N := 0) ⟨A23, n23, B23, m23, rfl, h23, k23⟩ ⟨x27, h27, i27⟩⟩
    · refine StepR.call rfl rfl hnb (hkp 10) fun L a W hI hk hd => ?_
      obtain ⟨_, e19, rfl⟩ := hI.get 0 19 (hd 0 rfl) rfl
      obtain ⟨_, e20, rfl⟩ := hI.get 1 20 (hd 1 rfl) rfl
      obtain ⟨_, e28, z28, rfl, i28, h28⟩ := hI.get 9 28 (hd 9 rfl) rfl
      refine ⟨rfl, 13, #[mkC cC, .agg #[.int .i64 1, .int .i64 3], .string ⟨#[84, 101, 97]⟩, .int .i64 4, mkC z28, .int .i64 0], by go_simp, (adds_l DO.out 1 3 [84, 101, 97] 4 0 W kd1 EcC.out i28 (fitsC_kC EcC.out) (by decide) (by decide) ((KK0 W hI.glob).ok (g := gC) (c := cC) (by simp)) h28).mono ?_⟩
      rintro e W' ⟨rfl, hb⟩
      exact ⟨_, rfl, hb, rfl⟩
    · refine StepR.pure rfl rfl hnb (fun W => Below.refl _ W) (hkp 11) fun L a W hI hk hd => ?_
      obtain ⟨_, e29, rfl⟩ := hI.get 10 29 (hd 10 rfl) rfl
      exact ⟨rfl, .bool false, by go_simp, rfl⟩
    · refine StepR.pure rfl rfl hnb (fun W => Below.refl _ W) (hkp 12) fun L a W hI hk hd => ?_
      obtain ⟨_, e30, rfl⟩ := hI.get 11 30 (hd 11 rfl) rfl
      exact ⟨rfl, .bool false, by go_simp, rfl⟩
    · refine StepR.pure rfl rfl hnb (fun W => Below.refl _ W) (hkp 13) fun L a W hI hk hd => ?_
      have e2 : a.tmps[2]?.getD undef = .pointer (some ⟨gC, 0, none⟩) := hI.at 2 (by kernel_rfl)
      obtain ⟨c0, c1, c2, _⟩ := (KK0 W hI.glob).ca (g := gC) (c := cC) (by simp)
      exact ⟨hI.wants rfl (hd 12 rfl) rfl (fun _ h => h), mkC cC, by go_simp, rfl⟩
    · refine StepR.call rfl rfl hnb (hkp 14) fun L a W hI hk hd => ?_
      refine ⟨hI.wants rfl (hd 12 rfl) rfl (fun _ h => h), 25, #[.int .i64 1, .int .i64 4], by go_simp, (lawAt12 1 4 W).mono ?_⟩
      rintro e W' ⟨rfl, hb⟩
      exact ⟨_, rfl, hb, rfl⟩
    · refine StepR.call rfl rfl hnb (hkp 15) fun L a W hI hk hd => ?_
      refine ⟨hI.wants rfl (hd 12 rfl) rfl (fun _ h => h), 25, #[.int .i64 1, .int .i64 4], by go_simp, (lawAt12 1 4 W).mono ?_⟩
      rintro e W' ⟨rfl, hb⟩
      exact ⟨_, rfl, hb, rfl⟩
    · refine StepR.made rfl rfl hnb (hkp 16) fun L a W hI hk hd => ?_
      obtain ⟨_, e34, rfl⟩ := hI.get 15 34 (hd 15 rfl) rfl
      exact ⟨hI.wants rfl (hd 12 rfl) rfl (fun _ h => h), .slice (some ⟨W.heap.size, 0, none⟩) 1 1, W.alloc (.cells #[.int .i64 1, .int .i64 4] 30), by go_simp, (Below.refl _ W).alloc (Nat.le_refl _) _, sr_dots1 (N := 0) W (1, 4)⟩
    · refine StepR.call rfl rfl hnb (hkp 17) fun L a W hI hk hd => ?_
      obtain ⟨_, e35, g35, rfl, h35⟩ := hI.get 16 35 (hd 16 rfl) rfl
      refine ⟨hI.wants rfl (hd 12 rfl) rfl (fun _ h => h), 24, #[.int .i64 0, .slice (some ⟨g35, 0, none⟩) 1 1], by go_simp, (con01 g35 (1, 4) W h35).mono ?_⟩
      rintro e W' ⟨⟨A, n, B, m, rfl, hc⟩, hb⟩
      exact ⟨_, rfl, hb, hc⟩
    · refine StepR.call rfl rfl hnb (hkp 18) fun L a W hI hk hd => ?_
      refine ⟨hI.wants rfl (hd 12 rfl) rfl (fun _ h => h), 27, #[.int .i64 1, .int .i64 4, .int .i64 1, .int .u64 10], by go_simp, (lawMark12 1 4 1 10 W).mono ?_⟩
      rintro e W' ⟨rfl, hb⟩
      exact ⟨_, rfl, hb, rfl⟩
    · refine StepR.made rfl rfl hnb (hkp 19) fun L a W hI hk hd => ?_
      obtain ⟨_, e37, rfl⟩ := hI.get 18 37 (hd 18 rfl) rfl
      exact ⟨hI.wants rfl (hd 12 rfl) rfl (fun _ h => h), .slice (some ⟨W.heap.size, 0, none⟩) 1 1, W.alloc (.cells #[.int .i64 1, .int .i64 4, .int .i64 1, .int .u64 10] 55), by go_simp, (Below.refl _ W).alloc (Nat.le_refl _) _, sr_marks1 (N := 0) W ⟨1, 4, 1, 10⟩⟩
    · refine StepR.call rfl rfl hnb (hkp 20) fun L a W hI hk hd => ?_
      obtain ⟨_, e38, A38, n38, rfl, h38, i38, j38⟩ := hI.get 19 38 (hd 19 rfl) rfl
      refine ⟨hI.wants rfl (hd 12 rfl) rfl (fun _ h => h), 26, #[.string ⟨#[79, 105, 108]⟩, .slice A38 1 n38], by go_simp, (lawItem12 [79, 105, 108] A38 n38 [⟨1, 4, 1, 10⟩] W h38 i38 j38).mono ?_⟩
      rintro e W' ⟨⟨y, rfl, hy, ho⟩, hb⟩
      exact ⟨_, rfl, hb, y, rfl, hy, ho⟩
    · refine StepR.made rfl rfl hnb (hkp 21) fun L a W hI hk hd => ?_
      obtain ⟨_, e39, y39, rfl, i39, h39⟩ := hI.get 20 39 (hd 20 rfl) rfl
      exact ⟨hI.wants rfl (hd 12 rfl) rfl (fun _ h => h), .slice (some ⟨W.heap.size, 0, none⟩) 1 1, W.alloc (.cells #[.string ⟨y39.nm.toArray⟩, .slice y39.A y39.ms.length y39.c] 50), by go_simp, (Below.refl _ W).alloc (Nat.le_refl _) _, (by have h := sr_items1 (N := 0) W y39 h39; rw [i39] at h; exact h)⟩
    · refine StepR.pure rfl rfl hnb (fun W => Below.refl _ W) (hkp 22) fun L a W hI hk hd => ?_
      obtain ⟨_, e36, A36, n36, B36, m36, rfl, h36, k36⟩ := hI.get 17 36 (hd 17 rfl) rfl
      obtain ⟨_, e40, x40, h40, i40⟩ := hI.get 21 40 (hd 21 rfl) rfl
      obtain ⟨A40, n40, rfl, _⟩ := id h40
      exact ⟨hI.wants rfl (hd 12 rfl) rfl (fun _ h => h), .agg #[.slice A36 0 n36, .slice B36 1 m36, .slice A40 x40.length n40], by go_simp, sr_cart (N := 0) ⟨A36, n36, B36, m36, rfl, h36, k36⟩ ⟨x40, h40, i40⟩⟩
    · refine StepR.call rfl rfl hnb (hkp 23) fun L a W hI hk hd => ?_
      obtain ⟨_, e32, rfl⟩ := hI.get 13 32 (hd 13 rfl) rfl
      obtain ⟨_, e33, rfl⟩ := hI.get 14 33 (hd 14 rfl) rfl
      obtain ⟨_, e41, z41, rfl, i41, h41⟩ := hI.get 22 41 (hd 22 rfl) rfl
      refine ⟨hI.wants rfl (hd 12 rfl) rfl (fun _ h => h), 13, #[mkC cC, .agg #[.int .i64 1, .int .i64 4], .string ⟨#[79, 105, 108]⟩, .int .i64 1, mkC z41, .int .i64 0], by go_simp, (adds_l DO.out 1 4 [79, 105, 108] 1 0 W kd2 EcC.out i41 (fitsC_kC EcC.out) (by decide) (by decide) ((KK0 W hI.glob).ok (g := gC) (c := cC) (by simp)) h41).mono ?_⟩
      rintro e W' ⟨rfl, hb⟩
      exact ⟨_, rfl, hb, rfl⟩
    · refine StepR.pure rfl rfl hnb (fun W => Below.refl _ W) (hkp 24) fun L a W hI hk hd => ?_
      obtain ⟨_, e42, rfl⟩ := hI.get 23 42 (hd 23 rfl) rfl
      exact ⟨hI.wants rfl (hd 12 rfl) rfl (fun _ h => h), .bool false, by go_simp, rfl⟩
    · refine StepR.pure rfl rfl hnb (fun W => Below.refl _ W) (hkp 25) fun L a W hI hk hd => ?_
      obtain ⟨_, e31, rfl⟩ := hI.get 12 31 (hd 12 rfl) rfl
      obtain ⟨_, e43, rfl⟩ := hI.get 24 43 (hd 24 rfl) rfl
      exact ⟨rfl, .bool false, by go_simp, rfl⟩
  · intro a wEx L hL hI
    have k44 : a.eval (.tmp 44) = .bool false := by
      obtain ⟨_, e44, rfl⟩ := hI.get 25 44 (hL 25 (by decide)) rfl
      rw [eval_tmp]; exact e44
    have KwEx := Lib.hid (KK0 wEx hI.glob)
    rw [hI.frame]
    simp only [List.filterMap, List.foldl]
    rw [k44]
    generalize a.eval (.tmp 19) = v19
    generalize a.eval (.tmp 20) = v20
    generalize a.eval (.tmp 21) = v21
    generalize a.eval (.tmp 22) = v22
    generalize a.eval (.tmp 23) = v23
    generalize a.eval (.tmp 24) = v24
    generalize a.eval (.tmp 25) = v25
    generalize a.eval (.tmp 26) = v26
    generalize a.eval (.tmp 27) = v27
    generalize a.eval (.tmp 28) = v28
    generalize a.eval (.tmp 29) = v29
    generalize a.eval (.tmp 30) = v30
    generalize a.eval (.tmp 31) = v31
    generalize a.eval (.tmp 32) = v32
    generalize a.eval (.tmp 33) = v33
    generalize a.eval (.tmp 34) = v34
    generalize a.eval (.tmp 35) = v35
    generalize a.eval (.tmp 36) = v36
    generalize a.eval (.tmp 37) = v37
    generalize a.eval (.tmp 38) = v38
    generalize a.eval (.tmp 39) = v39
    generalize a.eval (.tmp 40) = v40
    generalize a.eval (.tmp 41) = v41
    generalize a.eval (.tmp 42) = v42
    generalize a.eval (.tmp 43) = v43
    clear hL hI KK0 hkp k44 K13
    simp only [List.setIfInBounds_toArray, List.set_cons_succ, List.set_cons_zero]
    go_upto_region 5 with fail
    have KK0 : ∀ V, Below wEx.heap.size wEx V → KSr w [(gZ, cZ), (gC, cC)] [] [] V := fun V hb => KwEx.out.next hb
    have hnb : ∀ {k : Nat}, ∀ j, (fun _ : Nat => (none : Option Nat)) j ≠ some k := fun j h => by cases h
    have hkp : ∀ (q : Nat) (L : Nat → Bool) (W W' : World), Below wEx.heap.size wEx W → BelW W W' → KeepsR (srS wEx (kn5R cZ cC)) L W W' ∧ Below wEx.heap.size wEx W' := fun _ _ _ _ h hb => sr_keep h hb
    refine wp_region_sr (sr := (kn5R cZ cC)) (by kernel_rfl) (by kernel_rfl) (by kernel_rfl) (dst_small (n := 154) (by kernel_rfl)) ?_ ?_
    · refine ⟨?_, ?_, ?_, ?_, ?_, ?_, ?_, ?_, ?_, ?_, ?_, ?_, ?_, ?_, ?_, ?_, ?_, ?_, ?_, ?_, ?_, ?_, ?_, ?_, ?_, ?_, ?_, ?_, ?_, ?_, ?_, ?_, ?_, ?_, ?_, ?_, ?_, trivial⟩
      · refine StepR.pure rfl rfl hnb (fun W => Below.refl _ W) (hkp 0) fun L a W hI hk hd => ?_
        have e2 : a.tmps[2]?.getD undef = .pointer (some ⟨gC, 0, none⟩) := hI.at 2 (by kernel_rfl)
        obtain ⟨c0, c1, c2, _⟩ := (KK0 W hI.glob).ca (g := gC) (c := cC) (by simp)
        exact ⟨rfl, mkC cC, by go_simp, rfl⟩
      · refine StepR.call rfl rfl hnb (hkp 1) fun L a W hI hk hd => ?_
        refine ⟨rfl, 25, #[.int .i64 2, .int .i64 2], by go_simp, (lawAt12 2 2 W).mono ?_⟩
        rintro e W' ⟨rfl, hb⟩
        exact ⟨_, rfl, hb, rfl⟩
      · refine StepR.call rfl rfl hnb (hkp 2) fun L a W hI hk hd => ?_
        refine ⟨rfl, 25, #[.int .i64 2, .int .i64 2], by go_simp, (lawAt12 2 2 W).mono ?_⟩
        rintro e W' ⟨rfl, hb⟩
        exact ⟨_, rfl, hb, rfl⟩
      · refine StepR.made rfl rfl hnb (hkp 3) fun L a W hI hk hd => ?_
        obtain ⟨_, e47, rfl⟩ := hI.get 2 47 (hd 2 rfl) rfl
        exact ⟨rfl, .slice (some ⟨W.heap.size, 0, none⟩) 1 1, W.alloc (.cells #[.int .i64 2, .int .i64 2] 30), by go_simp, (Below.refl _ W).alloc (Nat.le_refl _) _, sr_dots1 (N := 0) W (2, 2)⟩
      · refine StepR.call rfl rfl hnb (hkp 4) fun L a W hI hk hd => ?_
        obtain ⟨_, e48, g48, rfl, h48⟩ := hI.get 3 48 (hd 3 rfl) rfl
        refine ⟨rfl, 24, #[.int .i64 1, .slice (some ⟨g48, 0, none⟩) 1 1], by go_simp, (con11 g48 (2, 2) W h48).mono ?_⟩
        rintro e W' ⟨⟨A, n, B, m, rfl, hc⟩, hb⟩
        exact ⟨_, rfl, hb, hc⟩
      · refine StepR.call rfl rfl hnb (hkp 5) fun L a W hI hk hd => ?_
        refine ⟨rfl, 27, #[.int .i64 2, .int .i64 2, .int .i64 8, .int .u64 10], by go_simp, (lawMark12 2 2 8 10 W).mono ?_⟩
        rintro e W' ⟨rfl, hb⟩
        exact ⟨_, rfl, hb, rfl⟩
      · refine StepR.made rfl rfl hnb (hkp 6) fun L a W hI hk hd => ?_
        obtain ⟨_, e50, rfl⟩ := hI.get 5 50 (hd 5 rfl) rfl
        exact ⟨rfl, .slice (some ⟨W.heap.size, 0, none⟩) 1 1, W.alloc (.cells #[.int .i64 2, .int .i64 2, .int .i64 8, .int .u64 10] 55), by go_simp, (Below.refl _ W).alloc (Nat.le_refl _) _, sr_marks1 (N := 0) W ⟨2, 2, 8, 10⟩⟩
      · refine StepR.call rfl rfl hnb (hkp 7) fun L a W hI hk hd => ?_
        obtain ⟨_, e51, A51, n51, rfl, h51, i51, j51⟩ := hI.get 6 51 (hd 6 rfl) rfl
        refine ⟨rfl, 26, #[.string ⟨#[78, 117, 116]⟩, .slice A51 1 n51], by go_simp, (lawItem12 [78, 117, 116] A51 n51 [⟨2, 2, 8, 10⟩] W h51 i51 j51).mono ?_⟩
        rintro e W' ⟨⟨y, rfl, hy, ho⟩, hb⟩
        exact ⟨_, rfl, hb, y, rfl, hy, ho⟩
      · refine StepR.made rfl rfl hnb (hkp 8) fun L a W hI hk hd => ?_
        obtain ⟨_, e52, y52, rfl, i52, h52⟩ := hI.get 7 52 (hd 7 rfl) rfl
        exact ⟨rfl, .slice (some ⟨W.heap.size, 0, none⟩) 1 1, W.alloc (.cells #[.string ⟨y52.nm.toArray⟩, .slice y52.A y52.ms.length y52.c] 50), by go_simp, (Below.refl _ W).alloc (Nat.le_refl _) _, (by have h := sr_items1 (N := 0) W y52 h52; rw [i52] at h; exact h)⟩
      · refine StepR.pure rfl rfl hnb (fun W => Below.refl _ W) (hkp 9) fun L a W hI hk hd => ?_
        obtain ⟨_, e49, A49, n49, B49, m49, rfl, h49, k49⟩ := hI.get 4 49 (hd 4 rfl) rfl
        obtain ⟨_, e53, x53, h53, i53⟩ := hI.get 8 53 (hd 8 rfl) rfl
        obtain ⟨A53, n53, rfl, _⟩ := id h53
        exact ⟨rfl, .agg #[.slice A49 1 n49, .slice B49 0 m49, .slice A53 x53.length n53], by go_simp, sr_cart (N := 0) ⟨A49, n49, B49, m49, rfl, h49, k49⟩ ⟨x53, h53, i53⟩⟩
      · refine StepR.call rfl rfl hnb (hkp 10) fun L a W hI hk hd => ?_
        obtain ⟨_, e45, rfl⟩ := hI.get 0 45 (hd 0 rfl) rfl
        obtain ⟨_, e46, rfl⟩ := hI.get 1 46 (hd 1 rfl) rfl
        obtain ⟨_, e54, z54, rfl, i54, h54⟩ := hI.get 9 54 (hd 9 rfl) rfl
        refine ⟨rfl, 14, #[mkC cC, .agg #[.int .i64 2, .int .i64 2], .string ⟨#[78, 117, 116]⟩, .int .i64 8, mkC z54, .int .i64 0], by go_simp, (sets_l DO.out 2 2 [78, 117, 116] 8 0 W kd3 EcC.out i54 (fitsC_kC EcC.out) (by decide) (by decide) ((KK0 W hI.glob).ok (g := gC) (c := cC) (by simp)) h54).mono ?_⟩
        rintro e W' ⟨rfl, hb⟩
        exact ⟨_, rfl, hb, rfl⟩
      · refine StepR.pure rfl rfl hnb (fun W => Below.refl _ W) (hkp 11) fun L a W hI hk hd => ?_
        obtain ⟨_, e55, rfl⟩ := hI.get 10 55 (hd 10 rfl) rfl
        exact ⟨rfl, .bool false, by go_simp, rfl⟩
      · refine StepR.pure rfl rfl hnb (fun W => Below.refl _ W) (hkp 12) fun L a W hI hk hd => ?_
        obtain ⟨_, e56, rfl⟩ := hI.get 11 56 (hd 11 rfl) rfl
        exact ⟨rfl, .bool false, by go_simp, rfl⟩
      · refine StepR.pure rfl rfl hnb (fun W => Below.refl _ W) (hkp 13) fun L a W hI hk hd => ?_
        have e2 : a.tmps[2]?.getD undef = .pointer (some ⟨gC, 0, none⟩) := hI.at 2 (by kernel_rfl)
        obtain ⟨c0, c1, c2, _⟩ := (KK0 W hI.glob).ca (g := gC) (c := cC) (by simp)
        exact ⟨hI.wants rfl (hd 12 rfl) rfl (fun _ h => h), mkC cC, by go_simp, rfl⟩
      · refine StepR.call rfl rfl hnb (hkp 14) fun L a W hI hk hd => ?_
        refine ⟨hI.wants rfl (hd 12 rfl) rfl (fun _ h => h), 25, #[.int .i64 1, .int .i64 2], by go_simp, (lawAt12 1 2 W).mono ?_⟩
        rintro e W' ⟨rfl, hb⟩
        exact ⟨_, rfl, hb, rfl⟩
      · refine StepR.made rfl rfl hnb (hkp 15) fun L a W hI hk hd => ?_
        obtain ⟨_, e59, rfl⟩ := hI.get 14 59 (hd 14 rfl) rfl
        exact ⟨hI.wants rfl (hd 12 rfl) rfl (fun _ h => h), .slice (some ⟨W.heap.size, 0, none⟩) 1 1, W.alloc (.cells #[.int .i64 1, .int .i64 2] 30), by go_simp, (Below.refl _ W).alloc (Nat.le_refl _) _, sr_dots1 (N := 0) W (1, 2)⟩
      · refine StepR.call rfl rfl hnb (hkp 16) fun L a W hI hk hd => ?_
        obtain ⟨_, e60, g60, rfl, h60⟩ := hI.get 15 60 (hd 15 rfl) rfl
        refine ⟨hI.wants rfl (hd 12 rfl) rfl (fun _ h => h), 24, #[.int .i64 1, .slice (some ⟨g60, 0, none⟩) 1 1], by go_simp, (con11 g60 (1, 2) W h60).mono ?_⟩
        rintro e W' ⟨⟨A, n, B, m, rfl, hc⟩, hb⟩
        exact ⟨_, rfl, hb, hc⟩
      · refine StepR.pure rfl rfl hnb (fun W => Below.refl _ W) (hkp 17) fun L a W hI hk hd => ?_
        obtain ⟨_, e61, A61, n61, B61, m61, rfl, h61, k61⟩ := hI.get 16 61 (hd 16 rfl) rfl
        exact ⟨hI.wants rfl (hd 12 rfl) rfl (fun _ h => h), .agg #[.slice A61 1 n61, .slice B61 0 m61, .slice none 0 0], by go_simp, sr_cart0 (N := 0) ⟨A61, n61, B61, m61, rfl, h61, k61⟩⟩
      · refine StepR.call rfl rfl hnb (hkp 18) fun L a W hI hk hd => ?_
        obtain ⟨_, e58, rfl⟩ := hI.get 13 58 (hd 13 rfl) rfl
        obtain ⟨_, e62, z62, rfl, i62, h62⟩ := hI.get 17 62 (hd 17 rfl) rfl
        refine ⟨hI.wants rfl (hd 12 rfl) rfl (fun _ h => h), 18, #[mkC cC, .string ⟨#[84, 101, 97]⟩, mkC z62, .int .i64 0], by go_simp, (removes_l DO.out [84, 101, 97] 0 W kd4 EcC.out i62 (fitsC_kC EcC.out) (by decide) (by decide) ((KK0 W hI.glob).ok (g := gC) (c := cC) (by simp)) h62).mono ?_⟩
        rintro e W' ⟨rfl, hb⟩
        exact ⟨_, rfl, hb, rfl⟩
      · refine StepR.pure rfl rfl hnb (fun W => Below.refl _ W) (hkp 19) fun L a W hI hk hd => ?_
        obtain ⟨_, e63, rfl⟩ := hI.get 18 63 (hd 18 rfl) rfl
        exact ⟨hI.wants rfl (hd 12 rfl) rfl (fun _ h => h), .bool false, by go_simp, rfl⟩
      · refine StepR.pure rfl rfl hnb (fun W => Below.refl _ W) (hkp 20) fun L a W hI hk hd => ?_
        obtain ⟨_, e57, rfl⟩ := hI.get 12 57 (hd 12 rfl) rfl
        obtain ⟨_, e64, rfl⟩ := hI.get 19 64 (hd 19 rfl) rfl
        exact ⟨rfl, .bool false, by go_simp, rfl⟩
      · refine StepR.pure rfl rfl hnb (fun W => Below.refl _ W) (hkp 21) fun L a W hI hk hd => ?_
        obtain ⟨_, e65, rfl⟩ := hI.get 20 65 (hd 20 rfl) rfl
        exact ⟨rfl, .bool false, by go_simp, rfl⟩
      · refine StepR.pure rfl rfl hnb (fun W => Below.refl _ W) (hkp 22) fun L a W hI hk hd => ?_
        have e2 : a.tmps[2]?.getD undef = .pointer (some ⟨gC, 0, none⟩) := hI.at 2 (by kernel_rfl)
        obtain ⟨c0, c1, c2, _⟩ := (KK0 W hI.glob).ca (g := gC) (c := cC) (by simp)
        exact ⟨hI.wants rfl (hd 21 rfl) rfl (fun _ h => h), mkC cC, by go_simp, rfl⟩
      · refine StepR.call rfl rfl hnb (hkp 23) fun L a W hI hk hd => ?_
        refine ⟨hI.wants rfl (hd 21 rfl) rfl (fun _ h => h), 25, #[.int .i64 1, .int .i64 2], by go_simp, (lawAt12 1 2 W).mono ?_⟩
        rintro e W' ⟨rfl, hb⟩
        exact ⟨_, rfl, hb, rfl⟩
      · refine StepR.call rfl rfl hnb (hkp 24) fun L a W hI hk hd => ?_
        refine ⟨hI.wants rfl (hd 21 rfl) rfl (fun _ h => h), 25, #[.int .i64 2, .int .i64 1], by go_simp, (lawAt12 2 1 W).mono ?_⟩
        rintro e W' ⟨rfl, hb⟩
        exact ⟨_, rfl, hb, rfl⟩
      · refine StepR.made rfl rfl hnb (hkp 25) fun L a W hI hk hd => ?_
        obtain ⟨_, e68, rfl⟩ := hI.get 23 68 (hd 23 rfl) rfl
        obtain ⟨_, e69, rfl⟩ := hI.get 24 69 (hd 24 rfl) rfl
        exact ⟨hI.wants rfl (hd 21 rfl) rfl (fun _ h => h), .slice (some ⟨W.heap.size, 0, none⟩) 2 2, W.alloc (.cells #[.int .i64 1, .int .i64 2, .int .i64 2, .int .i64 1] 30), by go_simp, (Below.refl _ W).alloc (Nat.le_refl _) _, sr_dots2 (N := 0) W (1, 2) (2, 1)⟩
      · refine StepR.call rfl rfl hnb (hkp 26) fun L a W hI hk hd => ?_
        obtain ⟨_, e70, g70, rfl, h70⟩ := hI.get 25 70 (hd 25 rfl) rfl
        refine ⟨hI.wants rfl (hd 21 rfl) rfl (fun _ h => h), 24, #[.int .i64 2, .slice (some ⟨g70, 0, none⟩) 2 2], by go_simp, (con22 g70 (1, 2) (2, 1) W h70).mono ?_⟩
        rintro e W' ⟨⟨A, n, B, m, rfl, hc⟩, hb⟩
        exact ⟨_, rfl, hb, hc⟩
      · refine StepR.pure rfl rfl hnb (fun W => Below.refl _ W) (hkp 27) fun L a W hI hk hd => ?_
        obtain ⟨_, e71, A71, n71, B71, m71, rfl, h71, k71⟩ := hI.get 26 71 (hd 26 rfl) rfl
        exact ⟨hI.wants rfl (hd 21 rfl) rfl (fun _ h => h), .agg #[.slice A71 2 n71, .slice B71 0 m71, .slice none 0 0], by go_simp, sr_cart0 (N := 0) ⟨A71, n71, B71, m71, rfl, h71, k71⟩⟩
      · refine StepR.call rfl rfl hnb (hkp 28) fun L a W hI hk hd => ?_
        obtain ⟨_, e67, rfl⟩ := hI.get 22 67 (hd 22 rfl) rfl
        obtain ⟨_, e72, z72, rfl, i72, h72⟩ := hI.get 27 72 (hd 27 rfl) rfl
        refine ⟨hI.wants rfl (hd 21 rfl) rfl (fun _ h => h), 19, #[mkC cC, mkC z72, .int .i64 0], by go_simp, (clears_l DO.out 0 W kd5 EcC.out i72 (fitsC_kC EcC.out) (by decide) ((KK0 W hI.glob).ok (g := gC) (c := cC) (by simp)) h72).mono ?_⟩
        rintro e W' ⟨rfl, hb⟩
        exact ⟨_, rfl, hb, rfl⟩
      · refine StepR.pure rfl rfl hnb (fun W => Below.refl _ W) (hkp 29) fun L a W hI hk hd => ?_
        obtain ⟨_, e73, rfl⟩ := hI.get 28 73 (hd 28 rfl) rfl
        exact ⟨hI.wants rfl (hd 21 rfl) rfl (fun _ h => h), .bool false, by go_simp, rfl⟩
      · refine StepR.pure rfl rfl hnb (fun W => Below.refl _ W) (hkp 30) fun L a W hI hk hd => ?_
        obtain ⟨_, e66, rfl⟩ := hI.get 21 66 (hd 21 rfl) rfl
        obtain ⟨_, e74, rfl⟩ := hI.get 29 74 (hd 29 rfl) rfl
        exact ⟨rfl, .bool false, by go_simp, rfl⟩
      · refine StepR.pure rfl rfl hnb (fun W => Below.refl _ W) (hkp 31) fun L a W hI hk hd => ?_
        obtain ⟨_, e75, rfl⟩ := hI.get 30 75 (hd 30 rfl) rfl
        exact ⟨rfl, .bool false, by go_simp, rfl⟩
      · refine StepR.pure rfl rfl hnb (fun W => Below.refl _ W) (hkp 32) fun L a W hI hk hd => ?_
        have e1 : a.tmps[1]?.getD undef = .pointer (some ⟨gZ, 0, none⟩) := hI.at 1 (by kernel_rfl)
        obtain ⟨c0, c1, c2, _⟩ := (KK0 W hI.glob).ca (g := gZ) (c := cZ) (by simp)
        exact ⟨hI.wants rfl (hd 31 rfl) rfl (fun _ h => h), mkC cZ, by go_simp, rfl⟩
      · refine StepR.pure rfl rfl hnb (fun W => Below.refl _ W) (hkp 33) fun L a W hI hk hd => ?_
        have e1 : a.tmps[1]?.getD undef = .pointer (some ⟨gZ, 0, none⟩) := hI.at 1 (by kernel_rfl)
        obtain ⟨c0, c1, c2, _⟩ := (KK0 W hI.glob).ca (g := gZ) (c := cZ) (by simp)
        exact ⟨hI.wants rfl (hd 31 rfl) rfl (fun _ h => h), mkC cZ, by go_simp, rfl⟩
      · refine StepR.call rfl rfl hnb (hkp 34) fun L a W hI hk hd => ?_
        obtain ⟨_, e77, rfl⟩ := hI.get 32 77 (hd 32 rfl) rfl
        obtain ⟨_, e78, rfl⟩ := hI.get 33 78 (hd 33 rfl) rfl
        refine ⟨hI.wants rfl (hd 31 rfl) rfl (fun _ h => h), 19, #[mkC cZ, mkC cZ, .int .i64 0], by go_simp, (clears_l DO.out 0 W kd6 EcZ.out EcZ.out (fitsC_kZ EcZ.out) (by decide) ((KK0 W hI.glob).ok (g := gZ) (c := cZ) (by simp)) ((KK0 W hI.glob).ok (g := gZ) (c := cZ) (by simp))).mono ?_⟩
        rintro e W' ⟨rfl, hb⟩
        exact ⟨_, rfl, hb, rfl⟩
      · refine StepR.pure rfl rfl hnb (fun W => Below.refl _ W) (hkp 35) fun L a W hI hk hd => ?_
        obtain ⟨_, e79, rfl⟩ := hI.get 34 79 (hd 34 rfl) rfl
        exact ⟨hI.wants rfl (hd 31 rfl) rfl (fun _ h => h), .bool false, by go_simp, rfl⟩
      · refine StepR.pure rfl rfl hnb (fun W => Below.refl _ W) (hkp 36) fun L a W hI hk hd => ?_
        obtain ⟨_, e76, rfl⟩ := hI.get 31 76 (hd 31 rfl) rfl
        obtain ⟨_, e80, rfl⟩ := hI.get 35 80 (hd 35 rfl) rfl
        exact ⟨rfl, .bool false, by go_simp, rfl⟩
    · intro a wExx L hL hI
      have k81 : a.eval (.tmp 81) = .bool false := by
        obtain ⟨_, e81, rfl⟩ := hI.get 36 81 (hL 36 (by decide)) rfl
        rw [eval_tmp]; exact e81
      have KwExx := Lib.hid (KK0 wExx hI.glob)
      rw [hI.frame]
      simp only [List.filterMap, List.foldl]
      rw [k81]
      generalize a.eval (.tmp 45) = v45
      generalize a.eval (.tmp 46) = v46
      generalize a.eval (.tmp 47) = v47
      generalize a.eval (.tmp 48) = v48
      generalize a.eval (.tmp 49) = v49
      generalize a.eval (.tmp 50) = v50
      generalize a.eval (.tmp 51) = v51
      generalize a.eval (.tmp 52) = v52
      generalize a.eval (.tmp 53) = v53
      generalize a.eval (.tmp 54) = v54
      generalize a.eval (.tmp 55) = v55
      generalize a.eval (.tmp 56) = v56
      generalize a.eval (.tmp 57) = v57
      generalize a.eval (.tmp 58) = v58
      generalize a.eval (.tmp 59) = v59
      generalize a.eval (.tmp 60) = v60
      generalize a.eval (.tmp 61) = v61
      generalize a.eval (.tmp 62) = v62
      generalize a.eval (.tmp 63) = v63
      generalize a.eval (.tmp 64) = v64
      generalize a.eval (.tmp 65) = v65
      generalize a.eval (.tmp 66) = v66
      generalize a.eval (.tmp 67) = v67
      generalize a.eval (.tmp 68) = v68
      generalize a.eval (.tmp 69) = v69
      generalize a.eval (.tmp 70) = v70
      generalize a.eval (.tmp 71) = v71
      generalize a.eval (.tmp 72) = v72
      generalize a.eval (.tmp 73) = v73
      generalize a.eval (.tmp 74) = v74
      generalize a.eval (.tmp 75) = v75
      generalize a.eval (.tmp 76) = v76
      generalize a.eval (.tmp 77) = v77
      generalize a.eval (.tmp 78) = v78
      generalize a.eval (.tmp 79) = v79
      generalize a.eval (.tmp 80) = v80
      clear hL hI KK0 hkp k81 KwEx
      simp only [List.setIfInBounds_toArray, List.set_cons_succ, List.set_cons_zero]
      go_upto_region 7 with fail
      have KK0 : ∀ V, Below wExx.heap.size wExx V → KSr w [(gZ, cZ), (gC, cC)] [] [] V := fun V hb => KwExx.out.next hb
      have hnb : ∀ {k : Nat}, ∀ j, (fun _ : Nat => (none : Option Nat)) j ≠ some k := fun j h => by cases h
      have hkp : ∀ (q : Nat) (L : Nat → Bool) (W W' : World), Below wExx.heap.size wExx W → BelW W W' → KeepsR (srS wExx (kn7R cZ cC)) L W W' ∧ Below wExx.heap.size wExx W' := fun _ _ _ _ h hb => sr_keep h hb
      refine wp_region_sr (sr := (kn7R cZ cC)) (by kernel_rfl) (by kernel_rfl) (by kernel_rfl) (dst_small (n := 154) (by kernel_rfl)) ?_ ?_
      · refine ⟨?_, ?_, ?_, ?_, ?_, ?_, ?_, ?_, ?_, ?_, ?_, ?_, ?_, ?_, ?_, ?_, ?_, ?_, ?_, ?_, ?_, ?_, ?_, ?_, ?_, ?_, ?_, ?_, ?_, ?_, ?_, ?_, ?_, ?_, ?_, ?_, ?_, ?_, ?_, trivial⟩
        · refine StepR.pure rfl rfl hnb (fun W => Below.refl _ W) (hkp 0) fun L a W hI hk hd => ?_
          have e2 : a.tmps[2]?.getD undef = .pointer (some ⟨gC, 0, none⟩) := hI.at 2 (by kernel_rfl)
          obtain ⟨c0, c1, c2, _⟩ := (KK0 W hI.glob).ca (g := gC) (c := cC) (by simp)
          exact ⟨rfl, mkC cC, by go_simp, rfl⟩
        · refine StepR.call rfl rfl hnb (hkp 1) fun L a W hI hk hd => ?_
          refine ⟨rfl, 25, #[.int .i64 1, .int .i64 2], by go_simp, (lawAt12 1 2 W).mono ?_⟩
          rintro e W' ⟨rfl, hb⟩
          exact ⟨_, rfl, hb, rfl⟩
        · refine StepR.pure rfl rfl hnb (fun W => Below.refl _ W) (hkp 2) fun L a W hI hk hd => ?_
          have e1 : a.tmps[1]?.getD undef = .pointer (some ⟨gZ, 0, none⟩) := hI.at 1 (by kernel_rfl)
          obtain ⟨c0, c1, c2, _⟩ := (KK0 W hI.glob).ca (g := gZ) (c := cZ) (by simp)
          exact ⟨rfl, mkC cZ, by go_simp, rfl⟩
        · refine StepR.call rfl rfl hnb (hkp 3) fun L a W hI hk hd => ?_
          obtain ⟨_, e82, rfl⟩ := hI.get 0 82 (hd 0 rfl) rfl
          obtain ⟨_, e83, rfl⟩ := hI.get 1 83 (hd 1 rfl) rfl
          obtain ⟨_, e84, rfl⟩ := hI.get 2 84 (hd 2 rfl) rfl
          refine ⟨rfl, 13, #[mkC cC, .agg #[.int .i64 1, .int .i64 2], .string ⟨#[79, 105, 108]⟩, .int .i64 1, mkC cZ, .int .i64 2], by go_simp, (adds_l DO.out 1 2 [79, 105, 108] 1 2 W kd7 EcC.out EcZ.out (fitsC_kC EcC.out) (by decide) (by decide) ((KK0 W hI.glob).ok (g := gC) (c := cC) (by simp)) ((KK0 W hI.glob).ok (g := gZ) (c := cZ) (by simp))).mono ?_⟩
          rintro e W' ⟨rfl, hb⟩
          exact ⟨_, rfl, hb, rfl⟩
        · refine StepR.pure rfl rfl hnb (fun W => Below.refl _ W) (hkp 4) fun L a W hI hk hd => ?_
          obtain ⟨_, e85, rfl⟩ := hI.get 3 85 (hd 3 rfl) rfl
          exact ⟨rfl, .bool false, by go_simp, rfl⟩
        · refine StepR.pure rfl rfl hnb (fun W => Below.refl _ W) (hkp 5) fun L a W hI hk hd => ?_
          obtain ⟨_, e86, rfl⟩ := hI.get 4 86 (hd 4 rfl) rfl
          exact ⟨rfl, .bool false, by go_simp, rfl⟩
        · refine StepR.pure rfl rfl hnb (fun W => Below.refl _ W) (hkp 6) fun L a W hI hk hd => ?_
          have e2 : a.tmps[2]?.getD undef = .pointer (some ⟨gC, 0, none⟩) := hI.at 2 (by kernel_rfl)
          obtain ⟨c0, c1, c2, _⟩ := (KK0 W hI.glob).ca (g := gC) (c := cC) (by simp)
          exact ⟨hI.wants rfl (hd 5 rfl) rfl (fun _ h => h), mkC cC, by go_simp, rfl⟩
        · refine StepR.call rfl rfl hnb (hkp 7) fun L a W hI hk hd => ?_
          refine ⟨hI.wants rfl (hd 5 rfl) rfl (fun _ h => h), 25, #[.int .i64 1, .int .i64 3], by go_simp, (lawAt12 1 3 W).mono ?_⟩
          rintro e W' ⟨rfl, hb⟩
          exact ⟨_, rfl, hb, rfl⟩
        · refine StepR.pure rfl rfl hnb (fun W => Below.refl _ W) (hkp 8) fun L a W hI hk hd => ?_
          have e1 : a.tmps[1]?.getD undef = .pointer (some ⟨gZ, 0, none⟩) := hI.at 1 (by kernel_rfl)
          obtain ⟨c0, c1, c2, _⟩ := (KK0 W hI.glob).ca (g := gZ) (c := cZ) (by simp)
          exact ⟨hI.wants rfl (hd 5 rfl) rfl (fun _ h => h), mkC cZ, by go_simp, rfl⟩
        · refine StepR.call rfl rfl hnb (hkp 9) fun L a W hI hk hd => ?_
          obtain ⟨_, e88, rfl⟩ := hI.get 6 88 (hd 6 rfl) rfl
          obtain ⟨_, e89, rfl⟩ := hI.get 7 89 (hd 7 rfl) rfl
          obtain ⟨_, e90, rfl⟩ := hI.get 8 90 (hd 8 rfl) rfl
          refine ⟨hI.wants rfl (hd 5 rfl) rfl (fun _ h => h), 13, #[mkC cC, .agg #[.int .i64 1, .int .i64 3], .string ⟨#[]⟩, .int .i64 0, mkC cZ, .int .i64 2], by go_simp, (adds_l DO.out 1 3 [] 0 2 W kd8 EcC.out EcZ.out (fitsC_kC EcC.out) (by decide) (by decide) ((KK0 W hI.glob).ok (g := gC) (c := cC) (by simp)) ((KK0 W hI.glob).ok (g := gZ) (c := cZ) (by simp))).mono ?_⟩
          rintro e W' ⟨rfl, hb⟩
          exact ⟨_, rfl, hb, rfl⟩
        · refine StepR.pure rfl rfl hnb (fun W => Below.refl _ W) (hkp 10) fun L a W hI hk hd => ?_
          obtain ⟨_, e91, rfl⟩ := hI.get 9 91 (hd 9 rfl) rfl
          exact ⟨hI.wants rfl (hd 5 rfl) rfl (fun _ h => h), .bool false, by go_simp, rfl⟩
        · refine StepR.pure rfl rfl hnb (fun W => Below.refl _ W) (hkp 11) fun L a W hI hk hd => ?_
          obtain ⟨_, e87, rfl⟩ := hI.get 5 87 (hd 5 rfl) rfl
          obtain ⟨_, e92, rfl⟩ := hI.get 10 92 (hd 10 rfl) rfl
          exact ⟨rfl, .bool false, by go_simp, rfl⟩
        · refine StepR.pure rfl rfl hnb (fun W => Below.refl _ W) (hkp 12) fun L a W hI hk hd => ?_
          obtain ⟨_, e93, rfl⟩ := hI.get 11 93 (hd 11 rfl) rfl
          exact ⟨rfl, .bool false, by go_simp, rfl⟩
        · refine StepR.pure rfl rfl hnb (fun W => Below.refl _ W) (hkp 13) fun L a W hI hk hd => ?_
          have e2 : a.tmps[2]?.getD undef = .pointer (some ⟨gC, 0, none⟩) := hI.at 2 (by kernel_rfl)
          obtain ⟨c0, c1, c2, _⟩ := (KK0 W hI.glob).ca (g := gC) (c := cC) (by simp)
          exact ⟨hI.wants rfl (hd 12 rfl) rfl (fun _ h => h), mkC cC, by go_simp, rfl⟩
        · refine StepR.call rfl rfl hnb (hkp 14) fun L a W hI hk hd => ?_
          refine ⟨hI.wants rfl (hd 12 rfl) rfl (fun _ h => h), 25, #[.int .i64 1, .int .i64 3], by go_simp, (lawAt12 1 3 W).mono ?_⟩
          rintro e W' ⟨rfl, hb⟩
          exact ⟨_, rfl, hb, rfl⟩
        · refine StepR.pure rfl rfl hnb (fun W => Below.refl _ W) (hkp 15) fun L a W hI hk hd => ?_
          have e1 : a.tmps[1]?.getD undef = .pointer (some ⟨gZ, 0, none⟩) := hI.at 1 (by kernel_rfl)
          obtain ⟨c0, c1, c2, _⟩ := (KK0 W hI.glob).ca (g := gZ) (c := cZ) (by simp)
          exact ⟨hI.wants rfl (hd 12 rfl) rfl (fun _ h => h), mkC cZ, by go_simp, rfl⟩
        · refine StepR.call rfl rfl hnb (hkp 16) fun L a W hI hk hd => ?_
          obtain ⟨_, e95, rfl⟩ := hI.get 13 95 (hd 13 rfl) rfl
          obtain ⟨_, e96, rfl⟩ := hI.get 14 96 (hd 14 rfl) rfl
          obtain ⟨_, e97, rfl⟩ := hI.get 15 97 (hd 15 rfl) rfl
          refine ⟨hI.wants rfl (hd 12 rfl) rfl (fun _ h => h), 13, #[mkC cC, .agg #[.int .i64 1, .int .i64 3], .string ⟨#[79, 105, 108]⟩, .int .i64 0, mkC cZ, .int .i64 14], by go_simp, (adds_l DO.out 1 3 [79, 105, 108] 0 14 W kd9 EcC.out EcZ.out (fitsC_kC EcC.out) (by decide) (by decide) ((KK0 W hI.glob).ok (g := gC) (c := cC) (by simp)) ((KK0 W hI.glob).ok (g := gZ) (c := cZ) (by simp))).mono ?_⟩
          rintro e W' ⟨rfl, hb⟩
          exact ⟨_, rfl, hb, rfl⟩
        · refine StepR.pure rfl rfl hnb (fun W => Below.refl _ W) (hkp 17) fun L a W hI hk hd => ?_
          obtain ⟨_, e98, rfl⟩ := hI.get 16 98 (hd 16 rfl) rfl
          exact ⟨hI.wants rfl (hd 12 rfl) rfl (fun _ h => h), .bool false, by go_simp, rfl⟩
        · refine StepR.pure rfl rfl hnb (fun W => Below.refl _ W) (hkp 18) fun L a W hI hk hd => ?_
          obtain ⟨_, e94, rfl⟩ := hI.get 12 94 (hd 12 rfl) rfl
          obtain ⟨_, e99, rfl⟩ := hI.get 17 99 (hd 17 rfl) rfl
          exact ⟨rfl, .bool false, by go_simp, rfl⟩
        · refine StepR.pure rfl rfl hnb (fun W => Below.refl _ W) (hkp 19) fun L a W hI hk hd => ?_
          obtain ⟨_, e100, rfl⟩ := hI.get 18 100 (hd 18 rfl) rfl
          exact ⟨rfl, .bool false, by go_simp, rfl⟩
        · refine StepR.pure rfl rfl hnb (fun W => Below.refl _ W) (hkp 20) fun L a W hI hk hd => ?_
          have e2 : a.tmps[2]?.getD undef = .pointer (some ⟨gC, 0, none⟩) := hI.at 2 (by kernel_rfl)
          obtain ⟨c0, c1, c2, _⟩ := (KK0 W hI.glob).ca (g := gC) (c := cC) (by simp)
          exact ⟨hI.wants rfl (hd 19 rfl) rfl (fun _ h => h), mkC cC, by go_simp, rfl⟩
        · refine StepR.call rfl rfl hnb (hkp 21) fun L a W hI hk hd => ?_
          refine ⟨hI.wants rfl (hd 19 rfl) rfl (fun _ h => h), 25, #[.int .i64 1, .int .i64 3], by go_simp, (lawAt12 1 3 W).mono ?_⟩
          rintro e W' ⟨rfl, hb⟩
          exact ⟨_, rfl, hb, rfl⟩
        · refine StepR.pure rfl rfl hnb (fun W => Below.refl _ W) (hkp 22) fun L a W hI hk hd => ?_
          have e1 : a.tmps[1]?.getD undef = .pointer (some ⟨gZ, 0, none⟩) := hI.at 1 (by kernel_rfl)
          obtain ⟨c0, c1, c2, _⟩ := (KK0 W hI.glob).ca (g := gZ) (c := cZ) (by simp)
          exact ⟨hI.wants rfl (hd 19 rfl) rfl (fun _ h => h), mkC cZ, by go_simp, rfl⟩
        · refine StepR.call rfl rfl hnb (hkp 23) fun L a W hI hk hd => ?_
          obtain ⟨_, e102, rfl⟩ := hI.get 20 102 (hd 20 rfl) rfl
          obtain ⟨_, e103, rfl⟩ := hI.get 21 103 (hd 21 rfl) rfl
          obtain ⟨_, e104, rfl⟩ := hI.get 22 104 (hd 22 rfl) rfl
          refine ⟨hI.wants rfl (hd 19 rfl) rfl (fun _ h => h), 14, #[mkC cC, .agg #[.int .i64 1, .int .i64 3], .string ⟨#[79, 105, 108]⟩, .int .i64 0, mkC cZ, .int .i64 14], by go_simp, (sets_l DO.out 1 3 [79, 105, 108] 0 14 W kd10 EcC.out EcZ.out (fitsC_kC EcC.out) (by decide) (by decide) ((KK0 W hI.glob).ok (g := gC) (c := cC) (by simp)) ((KK0 W hI.glob).ok (g := gZ) (c := cZ) (by simp))).mono ?_⟩
          rintro e W' ⟨rfl, hb⟩
          exact ⟨_, rfl, hb, rfl⟩
        · refine StepR.pure rfl rfl hnb (fun W => Below.refl _ W) (hkp 24) fun L a W hI hk hd => ?_
          obtain ⟨_, e105, rfl⟩ := hI.get 23 105 (hd 23 rfl) rfl
          exact ⟨hI.wants rfl (hd 19 rfl) rfl (fun _ h => h), .bool false, by go_simp, rfl⟩
        · refine StepR.pure rfl rfl hnb (fun W => Below.refl _ W) (hkp 25) fun L a W hI hk hd => ?_
          obtain ⟨_, e101, rfl⟩ := hI.get 19 101 (hd 19 rfl) rfl
          obtain ⟨_, e106, rfl⟩ := hI.get 24 106 (hd 24 rfl) rfl
          exact ⟨rfl, .bool false, by go_simp, rfl⟩
        · refine StepR.pure rfl rfl hnb (fun W => Below.refl _ W) (hkp 26) fun L a W hI hk hd => ?_
          obtain ⟨_, e107, rfl⟩ := hI.get 25 107 (hd 25 rfl) rfl
          exact ⟨rfl, .bool false, by go_simp, rfl⟩
        · refine StepR.pure rfl rfl hnb (fun W => Below.refl _ W) (hkp 27) fun L a W hI hk hd => ?_
          have e2 : a.tmps[2]?.getD undef = .pointer (some ⟨gC, 0, none⟩) := hI.at 2 (by kernel_rfl)
          obtain ⟨c0, c1, c2, _⟩ := (KK0 W hI.glob).ca (g := gC) (c := cC) (by simp)
          exact ⟨hI.wants rfl (hd 26 rfl) rfl (fun _ h => h), mkC cC, by go_simp, rfl⟩
        · refine StepR.call rfl rfl hnb (hkp 28) fun L a W hI hk hd => ?_
          refine ⟨hI.wants rfl (hd 26 rfl) rfl (fun _ h => h), 25, #[.int .i64 1, .int .i64 3], by go_simp, (lawAt12 1 3 W).mono ?_⟩
          rintro e W' ⟨rfl, hb⟩
          exact ⟨_, rfl, hb, rfl⟩
        · refine StepR.pure rfl rfl hnb (fun W => Below.refl _ W) (hkp 29) fun L a W hI hk hd => ?_
          have e1 : a.tmps[1]?.getD undef = .pointer (some ⟨gZ, 0, none⟩) := hI.at 1 (by kernel_rfl)
          obtain ⟨c0, c1, c2, _⟩ := (KK0 W hI.glob).ca (g := gZ) (c := cZ) (by simp)
          exact ⟨hI.wants rfl (hd 26 rfl) rfl (fun _ h => h), mkC cZ, by go_simp, rfl⟩
        · refine StepR.call rfl rfl hnb (hkp 30) fun L a W hI hk hd => ?_
          obtain ⟨_, e109, rfl⟩ := hI.get 27 109 (hd 27 rfl) rfl
          obtain ⟨_, e110, rfl⟩ := hI.get 28 110 (hd 28 rfl) rfl
          obtain ⟨_, e111, rfl⟩ := hI.get 29 111 (hd 29 rfl) rfl
          refine ⟨hI.wants rfl (hd 26 rfl) rfl (fun _ h => h), 14, #[mkC cC, .agg #[.int .i64 1, .int .i64 3], .string ⟨#[79, 105, 108]⟩, .int .i64 1, mkC cZ, .int .i64 9], by go_simp, (sets_l DO.out 1 3 [79, 105, 108] 1 9 W kd11 EcC.out EcZ.out (fitsC_kC EcC.out) (by decide) (by decide) ((KK0 W hI.glob).ok (g := gC) (c := cC) (by simp)) ((KK0 W hI.glob).ok (g := gZ) (c := cZ) (by simp))).mono ?_⟩
          rintro e W' ⟨rfl, hb⟩
          exact ⟨_, rfl, hb, rfl⟩
        · refine StepR.pure rfl rfl hnb (fun W => Below.refl _ W) (hkp 31) fun L a W hI hk hd => ?_
          obtain ⟨_, e112, rfl⟩ := hI.get 30 112 (hd 30 rfl) rfl
          exact ⟨hI.wants rfl (hd 26 rfl) rfl (fun _ h => h), .bool false, by go_simp, rfl⟩
        · refine StepR.pure rfl rfl hnb (fun W => Below.refl _ W) (hkp 32) fun L a W hI hk hd => ?_
          obtain ⟨_, e108, rfl⟩ := hI.get 26 108 (hd 26 rfl) rfl
          obtain ⟨_, e113, rfl⟩ := hI.get 31 113 (hd 31 rfl) rfl
          exact ⟨rfl, .bool false, by go_simp, rfl⟩
        · refine StepR.pure rfl rfl hnb (fun W => Below.refl _ W) (hkp 33) fun L a W hI hk hd => ?_
          obtain ⟨_, e114, rfl⟩ := hI.get 32 114 (hd 32 rfl) rfl
          exact ⟨rfl, .bool false, by go_simp, rfl⟩
        · refine StepR.pure rfl rfl hnb (fun W => Below.refl _ W) (hkp 34) fun L a W hI hk hd => ?_
          have e2 : a.tmps[2]?.getD undef = .pointer (some ⟨gC, 0, none⟩) := hI.at 2 (by kernel_rfl)
          obtain ⟨c0, c1, c2, _⟩ := (KK0 W hI.glob).ca (g := gC) (c := cC) (by simp)
          exact ⟨hI.wants rfl (hd 33 rfl) rfl (fun _ h => h), mkC cC, by go_simp, rfl⟩
        · refine StepR.pure rfl rfl hnb (fun W => Below.refl _ W) (hkp 35) fun L a W hI hk hd => ?_
          have e1 : a.tmps[1]?.getD undef = .pointer (some ⟨gZ, 0, none⟩) := hI.at 1 (by kernel_rfl)
          obtain ⟨c0, c1, c2, _⟩ := (KK0 W hI.glob).ca (g := gZ) (c := cZ) (by simp)
          exact ⟨hI.wants rfl (hd 33 rfl) rfl (fun _ h => h), mkC cZ, by go_simp, rfl⟩
        · refine StepR.call rfl rfl hnb (hkp 36) fun L a W hI hk hd => ?_
          obtain ⟨_, e116, rfl⟩ := hI.get 34 116 (hd 34 rfl) rfl
          obtain ⟨_, e117, rfl⟩ := hI.get 35 117 (hd 35 rfl) rfl
          refine ⟨hI.wants rfl (hd 33 rfl) rfl (fun _ h => h), 18, #[mkC cC, .string ⟨#[79, 105, 108]⟩, mkC cZ, .int .i64 9], by go_simp, (removes_l DO.out [79, 105, 108] 9 W kd12 EcC.out EcZ.out (fitsC_kC EcC.out) (by decide) (by decide) ((KK0 W hI.glob).ok (g := gC) (c := cC) (by simp)) ((KK0 W hI.glob).ok (g := gZ) (c := cZ) (by simp))).mono ?_⟩
          rintro e W' ⟨rfl, hb⟩
          exact ⟨_, rfl, hb, rfl⟩
        · refine StepR.pure rfl rfl hnb (fun W => Below.refl _ W) (hkp 37) fun L a W hI hk hd => ?_
          obtain ⟨_, e118, rfl⟩ := hI.get 36 118 (hd 36 rfl) rfl
          exact ⟨hI.wants rfl (hd 33 rfl) rfl (fun _ h => h), .bool false, by go_simp, rfl⟩
        · refine StepR.pure rfl rfl hnb (fun W => Below.refl _ W) (hkp 38) fun L a W hI hk hd => ?_
          obtain ⟨_, e115, rfl⟩ := hI.get 33 115 (hd 33 rfl) rfl
          obtain ⟨_, e119, rfl⟩ := hI.get 37 119 (hd 37 rfl) rfl
          exact ⟨rfl, .bool false, by go_simp, rfl⟩
      · intro a wExxx L hL hI
        have k120 : a.eval (.tmp 120) = .bool false := by
          obtain ⟨_, e120, rfl⟩ := hI.get 38 120 (hL 38 (by decide)) rfl
          rw [eval_tmp]; exact e120
        have KwExxx := Lib.hid (KK0 wExxx hI.glob)
        rw [hI.frame]
        simp only [List.filterMap, List.foldl]
        rw [k120]
        generalize a.eval (.tmp 82) = v82
        generalize a.eval (.tmp 83) = v83
        generalize a.eval (.tmp 84) = v84
        generalize a.eval (.tmp 85) = v85
        generalize a.eval (.tmp 86) = v86
        generalize a.eval (.tmp 87) = v87
        generalize a.eval (.tmp 88) = v88
        generalize a.eval (.tmp 89) = v89
        generalize a.eval (.tmp 90) = v90
        generalize a.eval (.tmp 91) = v91
        generalize a.eval (.tmp 92) = v92
        generalize a.eval (.tmp 93) = v93
        generalize a.eval (.tmp 94) = v94
        generalize a.eval (.tmp 95) = v95
        generalize a.eval (.tmp 96) = v96
        generalize a.eval (.tmp 97) = v97
        generalize a.eval (.tmp 98) = v98
        generalize a.eval (.tmp 99) = v99
        generalize a.eval (.tmp 100) = v100
        generalize a.eval (.tmp 101) = v101
        generalize a.eval (.tmp 102) = v102
        generalize a.eval (.tmp 103) = v103
        generalize a.eval (.tmp 104) = v104
        generalize a.eval (.tmp 105) = v105
        generalize a.eval (.tmp 106) = v106
        generalize a.eval (.tmp 107) = v107
        generalize a.eval (.tmp 108) = v108
        generalize a.eval (.tmp 109) = v109
        generalize a.eval (.tmp 110) = v110
        generalize a.eval (.tmp 111) = v111
        generalize a.eval (.tmp 112) = v112
        generalize a.eval (.tmp 113) = v113
        generalize a.eval (.tmp 114) = v114
        generalize a.eval (.tmp 115) = v115
        generalize a.eval (.tmp 116) = v116
        generalize a.eval (.tmp 117) = v117
        generalize a.eval (.tmp 118) = v118
        generalize a.eval (.tmp 119) = v119
        clear hL hI KK0 hkp k120 KwExx
        simp only [List.setIfInBounds_toArray, List.set_cons_succ, List.set_cons_zero]
        go_upto_region 9 with fail
        obtain ⟨x0, x1, x2, xl⟩ := KwExxx.out.ca (g := gZ) (c := cZ) (by simp)
        go_wp2_with fail
        refine (DO.out.cle cZ _ (KwExxx.out.ok (g := gZ) (c := cZ) (by simp)) (fitsC_kZ EcZ.out)).mono ?_
        rintro e w20 ⟨⟨cX, rfl, hX, oX⟩, hb⟩
        rw [EcZ.out] at hX
        have EcX := Lib.hid (hX.trans kd13.1)
        have KX := Lib.hid ((KwExxx.out.next hb).cart cX oX)
        rw [show (cleE cZ.ca : Int) = 0 from by rw [EcZ.out]; exact congrArg _ kd13.2]
        clear hb hX oX KwExxx x0 x1 x2 xl
        go_upto_region 10 with fail
        generalize World.alloc w20 _ = w21 at KX ⊢
        generalize w20.heap.size = gX at KX ⊢
        go_upto_region 10 with fail
        have KK0 : ∀ V, Below w21.heap.size w21 V → KSr w [(gZ, cZ), (gC, cC), (gX, cX)] [] [] V := fun V hb => KX.out.next hb
        have hnb : ∀ {k : Nat}, ∀ j, (fun _ : Nat => (none : Option Nat)) j ≠ some k := fun j h => by cases h
        have hkp : ∀ (q : Nat) (L : Nat → Bool) (W W' : World), Below w21.heap.size w21 W → BelW W W' → KeepsR (srS w21 (kn10R cZ cC cX)) L W W' ∧ Below w21.heap.size w21 W' := fun _ _ _ _ h hb => sr_keep h hb
        refine wp_region_sr (sr := (kn10R cZ cC cX)) (by kernel_rfl) (by kernel_rfl) (by kernel_rfl) (dst_small (n := 154) (by kernel_rfl)) ?_ ?_
        · refine ⟨?_, ?_, ?_, ?_, ?_, ?_, ?_, ?_, ?_, ?_, ?_, ?_, ?_, ?_, ?_, ?_, ?_, ?_, ?_, ?_, ?_, ?_, ?_, ?_, ?_, ?_, ?_, ?_, ?_, trivial⟩
          · refine StepR.pure rfl rfl hnb (fun W => Below.refl _ W) (hkp 0) fun L a W hI hk hd => ?_
            have e2 : a.tmps[2]?.getD undef = .pointer (some ⟨gC, 0, none⟩) := hI.at 2 (by kernel_rfl)
            obtain ⟨c0, c1, c2, _⟩ := (KK0 W hI.glob).ca (g := gC) (c := cC) (by simp)
            exact ⟨rfl, mkC cC, by go_simp, rfl⟩
          · refine StepR.call rfl rfl hnb (hkp 1) fun L a W hI hk hd => ?_
            refine ⟨rfl, 25, #[.int .i64 1, .int .i64 3], by go_simp, (lawAt12 1 3 W).mono ?_⟩
            rintro e W' ⟨rfl, hb⟩
            exact ⟨_, rfl, hb, rfl⟩
          · refine StepR.call rfl rfl hnb (hkp 2) fun L a W hI hk hd => ?_
            obtain ⟨_, e126, rfl⟩ := hI.get 0 126 (hd 0 rfl) rfl
            obtain ⟨_, e127, rfl⟩ := hI.get 1 127 (hd 1 rfl) rfl
            refine ⟨rfl, 22, #[mkC cC, .agg #[.int .i64 1, .int .i64 3]], by go_simp, (DO.out.fre cC 1 3 true W ((KK0 W hI.glob).ok (g := gC) (c := cC) (by simp)) (fitsC_kC EcC.out) (by rw [EcC.out]; exact kd14.1)).mono ?_⟩
            rintro e W' ⟨rfl, hb⟩
            exact ⟨_, rfl, hb, rfl⟩
          · refine StepR.pure rfl rfl hnb (fun W => Below.refl _ W) (hkp 3) fun L a W hI hk hd => ?_
            obtain ⟨_, e128, rfl⟩ := hI.get 2 128 (hd 2 rfl) rfl
            exact ⟨rfl, .bool true, by go_simp, rfl⟩
          · refine StepR.pure rfl rfl hnb (fun W => Below.refl _ W) (hkp 4) fun L a W hI hk hd => ?_
            have e2 : a.tmps[2]?.getD undef = .pointer (some ⟨gC, 0, none⟩) := hI.at 2 (by kernel_rfl)
            obtain ⟨c0, c1, c2, _⟩ := (KK0 W hI.glob).ca (g := gC) (c := cC) (by simp)
            exact ⟨hI.wants rfl (hd 3 rfl) rfl (fun _ h => h), mkC cC, by go_simp, rfl⟩
          · refine StepR.call rfl rfl hnb (hkp 5) fun L a W hI hk hd => ?_
            refine ⟨hI.wants rfl (hd 3 rfl) rfl (fun _ h => h), 25, #[.int .i64 2, .int .i64 1], by go_simp, (lawAt12 2 1 W).mono ?_⟩
            rintro e W' ⟨rfl, hb⟩
            exact ⟨_, rfl, hb, rfl⟩
          · refine StepR.call rfl rfl hnb (hkp 6) fun L a W hI hk hd => ?_
            obtain ⟨_, e130, rfl⟩ := hI.get 4 130 (hd 4 rfl) rfl
            obtain ⟨_, e131, rfl⟩ := hI.get 5 131 (hd 5 rfl) rfl
            refine ⟨hI.wants rfl (hd 3 rfl) rfl (fun _ h => h), 22, #[mkC cC, .agg #[.int .i64 2, .int .i64 1]], by go_simp, (DO.out.fre cC 2 1 false W ((KK0 W hI.glob).ok (g := gC) (c := cC) (by simp)) (fitsC_kC EcC.out) (by rw [EcC.out]; exact kd14.2.1)).mono ?_⟩
            rintro e W' ⟨rfl, hb⟩
            exact ⟨_, rfl, hb, rfl⟩
          · refine StepR.pure rfl rfl hnb (fun W => Below.refl _ W) (hkp 7) fun L a W hI hk hd => ?_
            obtain ⟨_, e132, rfl⟩ := hI.get 6 132 (hd 6 rfl) rfl
            exact ⟨hI.wants rfl (hd 3 rfl) rfl (fun _ h => h), .bool true, by go_simp, rfl⟩
          · refine StepR.pure rfl rfl hnb (fun W => Below.refl _ W) (hkp 8) fun L a W hI hk hd => ?_
            obtain ⟨_, e129, rfl⟩ := hI.get 3 129 (hd 3 rfl) rfl
            obtain ⟨_, e133, rfl⟩ := hI.get 7 133 (hd 7 rfl) rfl
            exact ⟨rfl, .bool true, by go_simp, rfl⟩
          · refine StepR.pure rfl rfl hnb (fun W => Below.refl _ W) (hkp 9) fun L a W hI hk hd => ?_
            obtain ⟨_, e134, rfl⟩ := hI.get 8 134 (hd 8 rfl) rfl
            exact ⟨rfl, .bool true, by go_simp, rfl⟩
          · refine StepR.pure rfl rfl hnb (fun W => Below.refl _ W) (hkp 10) fun L a W hI hk hd => ?_
            have e2 : a.tmps[2]?.getD undef = .pointer (some ⟨gC, 0, none⟩) := hI.at 2 (by kernel_rfl)
            obtain ⟨c0, c1, c2, _⟩ := (KK0 W hI.glob).ca (g := gC) (c := cC) (by simp)
            exact ⟨hI.wants rfl (hd 9 rfl) rfl (fun _ h => h), mkC cC, by go_simp, rfl⟩
          · refine StepR.call rfl rfl hnb (hkp 11) fun L a W hI hk hd => ?_
            refine ⟨hI.wants rfl (hd 9 rfl) rfl (fun _ h => h), 25, #[.int .i64 0, .int .i64 1], by go_simp, (lawAt12 0 1 W).mono ?_⟩
            rintro e W' ⟨rfl, hb⟩
            exact ⟨_, rfl, hb, rfl⟩
          · refine StepR.call rfl rfl hnb (hkp 12) fun L a W hI hk hd => ?_
            obtain ⟨_, e136, rfl⟩ := hI.get 10 136 (hd 10 rfl) rfl
            obtain ⟨_, e137, rfl⟩ := hI.get 11 137 (hd 11 rfl) rfl
            refine ⟨hI.wants rfl (hd 9 rfl) rfl (fun _ h => h), 22, #[mkC cC, .agg #[.int .i64 0, .int .i64 1]], by go_simp, (DO.out.fre cC 0 1 false W ((KK0 W hI.glob).ok (g := gC) (c := cC) (by simp)) (fitsC_kC EcC.out) (by rw [EcC.out]; exact kd14.2.2.1)).mono ?_⟩
            rintro e W' ⟨rfl, hb⟩
            exact ⟨_, rfl, hb, rfl⟩
          · refine StepR.pure rfl rfl hnb (fun W => Below.refl _ W) (hkp 13) fun L a W hI hk hd => ?_
            obtain ⟨_, e138, rfl⟩ := hI.get 12 138 (hd 12 rfl) rfl
            exact ⟨hI.wants rfl (hd 9 rfl) rfl (fun _ h => h), .bool true, by go_simp, rfl⟩
          · refine StepR.pure rfl rfl hnb (fun W => Below.refl _ W) (hkp 14) fun L a W hI hk hd => ?_
            obtain ⟨_, e135, rfl⟩ := hI.get 9 135 (hd 9 rfl) rfl
            obtain ⟨_, e139, rfl⟩ := hI.get 13 139 (hd 13 rfl) rfl
            exact ⟨rfl, .bool true, by go_simp, rfl⟩
          · refine StepR.pure rfl rfl hnb (fun W => Below.refl _ W) (hkp 15) fun L a W hI hk hd => ?_
            obtain ⟨_, e140, rfl⟩ := hI.get 14 140 (hd 14 rfl) rfl
            exact ⟨rfl, .bool true, by go_simp, rfl⟩
          · refine StepR.pure rfl rfl hnb (fun W => Below.refl _ W) (hkp 16) fun L a W hI hk hd => ?_
            have e2 : a.tmps[2]?.getD undef = .pointer (some ⟨gC, 0, none⟩) := hI.at 2 (by kernel_rfl)
            obtain ⟨c0, c1, c2, _⟩ := (KK0 W hI.glob).ca (g := gC) (c := cC) (by simp)
            exact ⟨hI.wants rfl (hd 15 rfl) rfl (fun _ h => h), mkC cC, by go_simp, rfl⟩
          · refine StepR.call rfl rfl hnb (hkp 17) fun L a W hI hk hd => ?_
            obtain ⟨_, e142, rfl⟩ := hI.get 16 142 (hd 16 rfl) rfl
            refine ⟨hI.wants rfl (hd 15 rfl) rfl (fun _ h => h), 20, #[mkC cC], by go_simp, (DO.out.emp cC false W ((KK0 W hI.glob).ok (g := gC) (c := cC) (by simp)) (small_of EcC.out (by decide)) (by rw [EcC.out]; exact kd14.2.2.2.1)).mono ?_⟩
            rintro e W' ⟨rfl, hb⟩
            exact ⟨_, rfl, hb, rfl⟩
          · refine StepR.pure rfl rfl hnb (fun W => Below.refl _ W) (hkp 18) fun L a W hI hk hd => ?_
            obtain ⟨_, e143, rfl⟩ := hI.get 17 143 (hd 17 rfl) rfl
            exact ⟨hI.wants rfl (hd 15 rfl) rfl (fun _ h => h), .bool true, by go_simp, rfl⟩
          · refine StepR.pure rfl rfl hnb (fun W => Below.refl _ W) (hkp 19) fun L a W hI hk hd => ?_
            obtain ⟨_, e141, rfl⟩ := hI.get 15 141 (hd 15 rfl) rfl
            obtain ⟨_, e144, rfl⟩ := hI.get 18 144 (hd 18 rfl) rfl
            exact ⟨rfl, .bool true, by go_simp, rfl⟩
          · refine StepR.pure rfl rfl hnb (fun W => Below.refl _ W) (hkp 20) fun L a W hI hk hd => ?_
            obtain ⟨_, e145, rfl⟩ := hI.get 19 145 (hd 19 rfl) rfl
            exact ⟨rfl, .bool true, by go_simp, rfl⟩
          · refine StepR.pure rfl rfl hnb (fun W => Below.refl _ W) (hkp 21) fun L a W hI hk hd => ?_
            have e3 : a.tmps[3]?.getD undef = .pointer (some ⟨gX, 0, none⟩) := hI.at 3 (by kernel_rfl)
            obtain ⟨c0, c1, c2, _⟩ := (KK0 W hI.glob).ca (g := gX) (c := cX) (by simp)
            exact ⟨hI.wants rfl (hd 20 rfl) rfl (fun _ h => h), mkC cX, by go_simp, rfl⟩
          · refine StepR.call rfl rfl hnb (hkp 22) fun L a W hI hk hd => ?_
            obtain ⟨_, e147, rfl⟩ := hI.get 21 147 (hd 21 rfl) rfl
            refine ⟨hI.wants rfl (hd 20 rfl) rfl (fun _ h => h), 20, #[mkC cX], by go_simp, (DO.out.emp cX true W ((KK0 W hI.glob).ok (g := gX) (c := cX) (by simp)) (small_of EcX.out (by decide)) (by rw [EcX.out]; exact kd14.2.2.2.2)).mono ?_⟩
            rintro e W' ⟨rfl, hb⟩
            exact ⟨_, rfl, hb, rfl⟩
          · refine StepR.pure rfl rfl hnb (fun W => Below.refl _ W) (hkp 23) fun L a W hI hk hd => ?_
            obtain ⟨_, e146, rfl⟩ := hI.get 20 146 (hd 20 rfl) rfl
            obtain ⟨_, e148, rfl⟩ := hI.get 22 148 (hd 22 rfl) rfl
            exact ⟨rfl, .bool true, by go_simp, rfl⟩
          · refine StepR.pure rfl rfl hnb (fun W => Below.refl _ W) (hkp 24) fun L a W hI hk hd => ?_
            obtain ⟨_, e149, rfl⟩ := hI.get 23 149 (hd 23 rfl) rfl
            exact ⟨rfl, .bool true, by go_simp, rfl⟩
          · refine StepR.pure rfl rfl hnb (fun W => Below.refl _ W) (hkp 25) fun L a W hI hk hd => ?_
            have e4 : a.tmps[4]?.getD undef = .int .i64 0 := hI.at 4 (by kernel_rfl)
            exact ⟨hI.wants rfl (hd 24 rfl) rfl (fun _ h => h), .int .i64 0, by go_simp, rfl⟩
          · refine StepR.pure rfl rfl hnb (fun W => Below.refl _ W) (hkp 26) fun L a W hI hk hd => ?_
            obtain ⟨_, e151, rfl⟩ := hI.get 25 151 (hd 25 rfl) rfl
            exact ⟨hI.wants rfl (hd 24 rfl) rfl (fun _ h => h), .bool true, by go_simp, rfl⟩
          · refine StepR.pure rfl rfl hnb (fun W => Below.refl _ W) (hkp 27) fun L a W hI hk hd => ?_
            obtain ⟨_, e150, rfl⟩ := hI.get 24 150 (hd 24 rfl) rfl
            obtain ⟨_, e152, rfl⟩ := hI.get 26 152 (hd 26 rfl) rfl
            exact ⟨rfl, .bool true, by go_simp, rfl⟩
          · refine StepR.pure rfl rfl hnb (fun W => Below.refl _ W) (hkp 28) fun L a W hI hk hd => ?_
            obtain ⟨_, e153, rfl⟩ := hI.get 27 153 (hd 27 rfl) rfl
            exact ⟨rfl, .bool true, by go_simp, rfl⟩
        · intro a w21x L hL hI
          have k0 : a.eval (.tmp 0) = .bool true := by
            obtain ⟨_, e0, rfl⟩ := hI.get 28 0 (hL 28 (by decide)) rfl
            rw [eval_tmp]; exact e0
          have Kw21x := Lib.hid (KK0 w21x hI.glob)
          rw [hI.frame]
          simp only [List.filterMap, List.foldl]
          rw [k0]
          generalize a.eval (.tmp 126) = v126
          generalize a.eval (.tmp 127) = v127
          generalize a.eval (.tmp 128) = v128
          generalize a.eval (.tmp 129) = v129
          generalize a.eval (.tmp 130) = v130
          generalize a.eval (.tmp 131) = v131
          generalize a.eval (.tmp 132) = v132
          generalize a.eval (.tmp 133) = v133
          generalize a.eval (.tmp 134) = v134
          generalize a.eval (.tmp 135) = v135
          generalize a.eval (.tmp 136) = v136
          generalize a.eval (.tmp 137) = v137
          generalize a.eval (.tmp 138) = v138
          generalize a.eval (.tmp 139) = v139
          generalize a.eval (.tmp 140) = v140
          generalize a.eval (.tmp 141) = v141
          generalize a.eval (.tmp 142) = v142
          generalize a.eval (.tmp 143) = v143
          generalize a.eval (.tmp 144) = v144
          generalize a.eval (.tmp 145) = v145
          generalize a.eval (.tmp 146) = v146
          generalize a.eval (.tmp 147) = v147
          generalize a.eval (.tmp 148) = v148
          generalize a.eval (.tmp 149) = v149
          generalize a.eval (.tmp 150) = v150
          generalize a.eval (.tmp 151) = v151
          generalize a.eval (.tmp 152) = v152
          generalize a.eval (.tmp 153) = v153
          clear hL hI KK0 hkp k0 KX
          simp only [List.setIfInBounds_toArray, List.set_cons_succ, List.set_cons_zero]
          go_wp2_with fail
          go_ret
          exact OneB.bool rfl Kw21x.out.kk.bel


end

end Go.Proofs.YtiaehpdgpjhecaaGreat
