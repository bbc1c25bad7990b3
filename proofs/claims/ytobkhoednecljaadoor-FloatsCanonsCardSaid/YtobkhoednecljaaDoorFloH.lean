/- The law's examples, from package floats' contracts. -/
import Derived.Test.YtobkhoednecljaaDoorFloG
namespace Go.Proofs.YtobkhoednecljaaDoor
open Go.RowKit

theorem litG (W : World) (l : List Nat) : NumsG (W.alloc (.cells (cellsOf encG l).toArray 23)) (some ⟨W.heap.size, 0, none⟩) l := by
  have ho : (W.alloc (.cells (cellsOf encG l).toArray 23)).heap[W.heap.size]? = some (.cells (cellsOf encG l).toArray 23) := heap_alloc_new W _
  intro hn
  refine ⟨W.heap.size, 0, rfl, by simp, fun j x hx i u hu => ?_⟩
  have h := cellsOf_at encG_len l j x i u hx hu
  rw [World.cell?]
  simp only [ho, Nat.zero_add]
  simpa using h
theorem refSame13_t (A B : Option Addr) (xs : List Nat) (cap cap' : Nat) (w : World) (hx : NumsU w A xs) (hy : NumsU w B xs) (hm : xs.length ≤ 100000) :
    Calls Tryd.prog 23 #[.slice A xs.length cap, .slice B xs.length cap'] w (OneB (.bool true) w) := by
  have h := refSame13 A B xs xs cap cap' w hx hy hm hm
  rwa [decide_eq_true rfl] at h
theorem mathInf1 (w : World) : Calls Tryd.prog 43 #[.int .i64 1] w (One (.float .f64 9218868437227405312) w) := by
  have hd := fun W => (show (callFunc 33 #[.int .u64 9218868437227405312]).run Tryd.prog W = .ok (.value (.float .f64 9218868437227405312)) W from run_fromBits 9218868437227405312 W)
  go_enter Tryd.func43, Tryd.ntmps43
  go_wp2_with fail
  go_ret
  exact ⟨rfl, rfl⟩
theorem mathInfM (w : World) : Calls Tryd.prog 43 #[.int .i64 (-1)] w (One (.float .f64 18442240474082181120) w) := by
  have hd := fun W => (show (callFunc 33 #[.int .u64 18442240474082181120]).run Tryd.prog W = .ok (.value (.float .f64 18442240474082181120)) W from run_fromBits 18442240474082181120 W)
  go_enter Tryd.func43, Tryd.ntmps43
  go_wp2_with fail
  go_ret
  exact ⟨rfl, rfl⟩
theorem lawInf1 (w : World) : Calls Tryd.prog 36 #[.int .i64 1] w (One (.float .f64 9218868437227405312) w) := by
  go_enter Tryd.func36, Tryd.ntmps36
  go_wp2_with fail
  refine (mathInf1 _).mono ?_
  rintro e y ⟨rfl, rfl⟩
  go_wp2_with fail
  go_ret
  exact ⟨rfl, rfl⟩
theorem lawInfM (w : World) : Calls Tryd.prog 36 #[.int .i64 (-1)] w (One (.float .f64 18442240474082181120) w) := by
  go_enter Tryd.func36, Tryd.ntmps36
  go_wp2_with fail
  refine (mathInfM _).mono ?_
  rintro e y ⟨rfl, rfl⟩
  go_wp2_with fail
  go_ret
  exact ⟨rfl, rfl⟩

set_option maxRecDepth 100000 in
set_option maxHeartbeats 4000000 in
theorem known13_w (w : World) (hf : FloOK w) :
    Calls Tryd.prog 17 #[] w (OneB (.bool true) w) := by
  have HF := Lib.hid hf
  have HB := Lib.hid (Below.refl w.heap.size w)
  clear hf
  have H1 := Lib.hid (show ∀ W, Below w.heap.size w W → Calls Tryd.prog 28 #[.float .f64 0] W (OneB (.string ⟨#[48, 48, 48, 48, 48, 48, 48, 48, 48, 48, 48, 48, 48, 48, 48, 48]⟩) W) from fun W hW => by have h := HF.out.txt 0 W hW (by decide); rwa [show txtF 0 = ⟨#[48, 48, 48, 48, 48, 48, 48, 48, 48, 48, 48, 48, 48, 48, 48, 48]⟩ from by decide +kernel] at h)
  have H2 := Lib.hid (show ∀ W, Below w.heap.size w W → Calls Tryd.prog 28 #[.float .f64 9223372036854775808] W (OneB (.string ⟨#[56, 48, 48, 48, 48, 48, 48, 48, 48, 48, 48, 48, 48, 48, 48, 48]⟩) W) from fun W hW => by have h := HF.out.txt 9223372036854775808 W hW (by decide); rwa [show txtF 9223372036854775808 = ⟨#[56, 48, 48, 48, 48, 48, 48, 48, 48, 48, 48, 48, 48, 48, 48, 48]⟩ from by decide +kernel] at h)
  have H3 := Lib.hid (show ∀ W, Below w.heap.size w W → Calls Tryd.prog 28 #[.float .f64 4607182418800017408] W (OneB (.string ⟨#[51, 102, 102, 48, 48, 48, 48, 48, 48, 48, 48, 48, 48, 48, 48, 48]⟩) W) from fun W hW => by have h := HF.out.txt 4607182418800017408 W hW (by decide); rwa [show txtF 4607182418800017408 = ⟨#[51, 102, 102, 48, 48, 48, 48, 48, 48, 48, 48, 48, 48, 48, 48, 48]⟩ from by decide +kernel] at h)
  have H4 := Lib.hid (show ∀ W, Below w.heap.size w W → Calls Tryd.prog 28 #[.float .f64 13835058055282163712] W (OneB (.string ⟨#[99, 48, 48, 48, 48, 48, 48, 48, 48, 48, 48, 48, 48, 48, 48, 48]⟩) W) from fun W hW => by have h := HF.out.txt 13835058055282163712 W hW (by decide); rwa [show txtF 13835058055282163712 = ⟨#[99, 48, 48, 48, 48, 48, 48, 48, 48, 48, 48, 48, 48, 48, 48, 48]⟩ from by decide +kernel] at h)
  have H5 := Lib.hid (show ∀ W, Below w.heap.size w W → Calls Tryd.prog 28 #[.float .f64 9218868437227405312] W (OneB (.string ⟨#[55, 102, 102, 48, 48, 48, 48, 48, 48, 48, 48, 48, 48, 48, 48, 48]⟩) W) from fun W hW => by have h := HF.out.txt 9218868437227405312 W hW (by decide); rwa [show txtF 9218868437227405312 = ⟨#[55, 102, 102, 48, 48, 48, 48, 48, 48, 48, 48, 48, 48, 48, 48, 48]⟩ from by decide +kernel] at h)
  have H6 := Lib.hid (show ∀ W, Below w.heap.size w W → Calls Tryd.prog 28 #[.float .f64 4591870180066957722] W (OneB (.string ⟨#[51, 102, 98, 57, 57, 57, 57, 57, 57, 57, 57, 57, 57, 57, 57, 97]⟩) W) from fun W hW => by have h := HF.out.txt 4591870180066957722 W hW (by decide); rwa [show txtF 4591870180066957722 = ⟨#[51, 102, 98, 57, 57, 57, 57, 57, 57, 57, 57, 57, 57, 57, 57, 97]⟩ from by decide +kernel] at h)
  have H7 := Lib.hid (show ∀ W, Below w.heap.size w W → Calls Tryd.prog 10 #[.float .f64 0] W (OneB (.int .u64 9223372036854775808) W) from fun W hW => by have h := HF.out.key 0 W hW (by decide); rwa [show ((keyF 0 : Nat) : Int) = 9223372036854775808 from by decide +kernel] at h)
  have H8 := Lib.hid (show ∀ W, Below w.heap.size w W → Calls Tryd.prog 10 #[.float .f64 9223372036854775808] W (OneB (.int .u64 9223372036854775807) W) from fun W hW => by have h := HF.out.key 9223372036854775808 W hW (by decide); rwa [show ((keyF 9223372036854775808 : Nat) : Int) = 9223372036854775807 from by decide +kernel] at h)
  have H9 := Lib.hid (show ∀ W, Below w.heap.size w W → Calls Tryd.prog 13 #[.int .u64 0] W (OneB (.float .f64 18446744073709551615) W) from fun W hW => by have h := HF.out.inv 0 W hW (by decide); rwa [show ofF 0 = 18446744073709551615 from by decide +kernel] at h)
  have H10 := Lib.hid (show ∀ W, Below w.heap.size w W → Calls Tryd.prog 15 #[.float .f64 9223372036854775808, .float .f64 0] W (OneB (.int .i64 (-1)) W) from fun W hW => by have h := HF.out.cmp 9223372036854775808 0 W hW (by decide) (by decide); rwa [show cmpF 9223372036854775808 0 = (-1) from by decide +kernel] at h)
  have H11 := Lib.hid (show ∀ W, Below w.heap.size w W → Calls Tryd.prog 15 #[.float .f64 9218868437227405312, .float .f64 9221120237041090561] W (OneB (.int .i64 (-1)) W) from fun W hW => by have h := HF.out.cmp 9218868437227405312 9221120237041090561 W hW (by decide) (by decide); rwa [show cmpF 9218868437227405312 9221120237041090561 = (-1) from by decide +kernel] at h)
  have H12 := Lib.hid (show ∀ W, Below w.heap.size w W → Calls Tryd.prog 15 #[.float .f64 13835058055282163712, .float .f64 4607182418800017408] W (OneB (.int .i64 (-1)) W) from fun W hW => by have h := HF.out.cmp 13835058055282163712 4607182418800017408 W hW (by decide) (by decide); rwa [show cmpF 13835058055282163712 4607182418800017408 = (-1) from by decide +kernel] at h)
  have H13 := Lib.hid (show ∀ W, Below w.heap.size w W → Calls Tryd.prog 18 #[.float .f64 9223372036854775808] W (OneB (.float .f64 0) W) from fun W hW => by have h := HF.out.can 9223372036854775808 W hW (by decide); rwa [show canonF 9223372036854775808 = 0 from by decide +kernel] at h)
  have H14 := Lib.hid (show ∀ W, Below w.heap.size w W → Calls Tryd.prog 18 #[.float .f64 18444492273895866369] W (OneB (.float .f64 9221120237041090560) W) from fun W hW => by have h := HF.out.can 18444492273895866369 W hW (by decide); rwa [show canonF 18444492273895866369 = 9221120237041090560 from by decide +kernel] at h)
  have H15 := Lib.hid (show ∀ W, Below w.heap.size w W → Calls Tryd.prog 20 #[.float .f64 9223372036854775808, .float .f64 0] W (OneB (.bool true) W) from fun W hW => by have h := HF.out.sam 9223372036854775808 0 W hW (by decide) (by decide); rwa [show sameF 9223372036854775808 0 = true from by decide +kernel] at h)
  have H16 := Lib.hid (show ∀ W, Below w.heap.size w W → Calls Tryd.prog 20 #[.float .f64 4591870180066957722, .float .f64 4596373779694328218] W (OneB (.bool false) W) from fun W hW => by have h := HF.out.sam 4591870180066957722 4596373779694328218 W hW (by decide) (by decide); rwa [show sameF 4591870180066957722 4596373779694328218 = false from by decide +kernel] at h)
  have H17 := Lib.hid (show ∀ A c W, Below w.heap.size w W → NumsG W A [4607182418800017408, 9223372036854775808, 13835058055282163712, 0] → Calls Tryd.prog 22 #[.slice A 4 c] W fun e w' => ∃ v, e = .returned v ∧ MadeG W w' v [13835058055282163712, 9223372036854775808, 0, 4607182418800017408] from fun A c W hW hn => by have h := HF.out.srt A [4607182418800017408, 9223372036854775808, 13835058055282163712, 0] c W hW hn (by simp) (by decide); rwa [show sortF [4607182418800017408, 9223372036854775808, 13835058055282163712, 0] = [13835058055282163712, 9223372036854775808, 0, 4607182418800017408] from by decide +kernel] at h)
  have H18 := Lib.hid (show ∀ A c W, Below w.heap.size w W → NumsG W A [] → Calls Tryd.prog 26 #[.slice A 0 c] W (OneB (.float .f64 0) W) from fun A c W hW hn => by have h := HF.out.sum A [] c W hW hn (by simp) (by decide); rwa [show sumF [] = 0 from by decide +kernel] at h)
  have H19 := Lib.hid (show ∀ A c W, Below w.heap.size w W → NumsG W A [4607182418800017408, 4611686018427387904, 13837309855095848960] → Calls Tryd.prog 26 #[.slice A 3 c] W (OneB (.float .f64 0) W) from fun A c W hW hn => by have h := HF.out.sum A [4607182418800017408, 4611686018427387904, 13837309855095848960] c W hW hn (by simp) (by decide); rwa [show sumF [4607182418800017408, 4611686018427387904, 13837309855095848960] = 0 from by decide +kernel] at h)
  have H20 := Lib.hid (show ∀ A c W, Below w.heap.size w W → NumsG W A [9218868437227405312, 18442240474082181120] → Calls Tryd.prog 26 #[.slice A 2 c] W (OneB (.float .f64 9221120237041090560) W) from fun A c W hW hn => by have h := HF.out.sum A [9218868437227405312, 18442240474082181120] c W hW hn (by simp) (by decide); rwa [show sumF [9218868437227405312, 18442240474082181120] = 9221120237041090560 from by decide +kernel] at h)
  have H21 := Lib.hid (show ∀ A c W, Below w.heap.size w W → NumsG W A [4845873199050653696, 4607182418800017408, 4607182418800017408] → Calls Tryd.prog 26 #[.slice A 3 c] W (OneB (.float .f64 4845873199050653697) W) from fun A c W hW hn => by have h := HF.out.sum A [4845873199050653696, 4607182418800017408, 4607182418800017408] c W hW hn (by simp) (by decide); rwa [show sumF [4845873199050653696, 4607182418800017408, 4607182418800017408] = 4845873199050653697 from by decide +kernel] at h)
  have H22 := Lib.hid (show ∀ A c W, Below w.heap.size w W → NumsG W A [4607182418800017408, 4845873199050653696, 4607182418800017408] → Calls Tryd.prog 26 #[.slice A 3 c] W (OneB (.float .f64 4845873199050653697) W) from fun A c W hW hn => by have h := HF.out.sum A [4607182418800017408, 4845873199050653696, 4607182418800017408] c W hW hn (by simp) (by decide); rwa [show sumF [4607182418800017408, 4845873199050653696, 4607182418800017408] = 4845873199050653697 from by decide +kernel] at h)
  have H23 := Lib.hid (show ∀ W, Below w.heap.size w W → Calls Tryd.prog 31 #[.string ⟨#[51, 70, 70, 48, 48, 48, 48, 48, 48, 48, 48, 48, 48, 48, 48, 48]⟩, .int .u64 0, .int .i64 6] W (OneB (.bool true) W) from fun W hW => lawParses13 [51, 70, 70, 48, 48, 48, 48, 48, 48, 48, 48, 48, 48, 48, 48, 48] 0 6 0 6 w HF.out W hW (by simp) (.inr ⟨by decide +kernel, rfl, rfl⟩) rfl rfl)
  have hadd := fun (W : World) => run_float_arith (P := Tryd.prog) W .add 23 .f64 4845873199050653696 4611686018427387904 4845873199050653697 (by decide +kernel)
  have hord : (FloatKind.f64.format.order 4845873199050653697 4845873199050653697 == some Ordering.eq) = true := by decide +kernel
  clear HF
  go_enter Tryd.func17, Tryd.ntmps17
  go_wp2_with fail
  refine (H1.out _ HB.out).mono ?_
  rintro e w1 ⟨rfl, hb⟩
  replace HB := Lib.hid (below_trans HB.out hb)
  clear hb
  go_wp2_with fail
  refine (lawMinus13 _).mono ?_
  rintro e y2 ⟨rfl, rfl⟩
  go_wp2_with fail
  refine (H2.out _ HB.out).mono ?_
  rintro e w3 ⟨rfl, hb⟩
  replace HB := Lib.hid (below_trans HB.out hb)
  clear hb
  go_wp2_with fail
  refine (H3.out _ HB.out).mono ?_
  rintro e w4 ⟨rfl, hb⟩
  replace HB := Lib.hid (below_trans HB.out hb)
  clear hb
  go_wp2_with fail
  refine (H4.out _ HB.out).mono ?_
  rintro e w5 ⟨rfl, hb⟩
  replace HB := Lib.hid (below_trans HB.out hb)
  clear hb
  go_wp2_with fail
  refine (lawInf1 _).mono ?_
  rintro e y6 ⟨rfl, rfl⟩
  go_wp2_with fail
  refine (H5.out _ HB.out).mono ?_
  rintro e w7 ⟨rfl, hb⟩
  replace HB := Lib.hid (below_trans HB.out hb)
  clear hb
  go_wp2_with fail
  refine (H6.out _ HB.out).mono ?_
  rintro e w8 ⟨rfl, hb⟩
  replace HB := Lib.hid (below_trans HB.out hb)
  clear hb
  go_wp2_with fail
  refine (H7.out _ HB.out).mono ?_
  rintro e w9 ⟨rfl, hb⟩
  replace HB := Lib.hid (below_trans HB.out hb)
  clear hb
  go_wp2_with fail
  refine (lawMinus13 _).mono ?_
  rintro e y10 ⟨rfl, rfl⟩
  go_wp2_with fail
  refine (H8.out _ HB.out).mono ?_
  rintro e w11 ⟨rfl, hb⟩
  replace HB := Lib.hid (below_trans HB.out hb)
  clear hb
  go_wp2_with fail
  refine (H9.out _ HB.out).mono ?_
  rintro e w12 ⟨rfl, hb⟩
  replace HB := Lib.hid (below_trans HB.out hb)
  clear hb
  go_wp2_with fail
  refine (lawIs13_v 18446744073709551615 18446744073709551615 true _ (by decide +kernel)).mono ?_
  rintro e y13 ⟨rfl, rfl⟩
  go_wp2_with fail
  refine (lawMinus13 _).mono ?_
  rintro e y14 ⟨rfl, rfl⟩
  go_wp2_with fail
  refine (H10.out _ HB.out).mono ?_
  rintro e w15 ⟨rfl, hb⟩
  replace HB := Lib.hid (below_trans HB.out hb)
  clear hb
  go_wp2_with fail
  refine (lawInf1 _).mono ?_
  rintro e y16 ⟨rfl, rfl⟩
  go_wp2_with fail
  refine (lawOf13 9221120237041090561 _).mono ?_
  rintro e y17 ⟨rfl, rfl⟩
  go_wp2_with fail
  refine (H11.out _ HB.out).mono ?_
  rintro e w18 ⟨rfl, hb⟩
  replace HB := Lib.hid (below_trans HB.out hb)
  clear hb
  go_wp2_with fail
  refine (H12.out _ HB.out).mono ?_
  rintro e w19 ⟨rfl, hb⟩
  replace HB := Lib.hid (below_trans HB.out hb)
  clear hb
  go_wp2_with fail
  refine (lawMinus13 _).mono ?_
  rintro e y20 ⟨rfl, rfl⟩
  go_wp2_with fail
  refine (H13.out _ HB.out).mono ?_
  rintro e w21 ⟨rfl, hb⟩
  replace HB := Lib.hid (below_trans HB.out hb)
  clear hb
  go_wp2_with fail
  refine (lawIs13_v 0 0 true _ (by decide +kernel)).mono ?_
  rintro e y22 ⟨rfl, rfl⟩
  go_wp2_with fail
  refine (lawOf13 18444492273895866369 _).mono ?_
  rintro e y23 ⟨rfl, rfl⟩
  go_wp2_with fail
  refine (H14.out _ HB.out).mono ?_
  rintro e w24 ⟨rfl, hb⟩
  replace HB := Lib.hid (below_trans HB.out hb)
  clear hb
  go_wp2_with fail
  refine (lawIs13_v 9221120237041090560 9221120237041090560 true _ (by decide +kernel)).mono ?_
  rintro e y25 ⟨rfl, rfl⟩
  go_wp2_with fail
  refine (lawMinus13 _).mono ?_
  rintro e y26 ⟨rfl, rfl⟩
  go_wp2_with fail
  refine (H15.out _ HB.out).mono ?_
  rintro e w27 ⟨rfl, hb⟩
  replace HB := Lib.hid (below_trans HB.out hb)
  clear hb
  go_wp2_with fail
  refine (H16.out _ HB.out).mono ?_
  rintro e w28 ⟨rfl, hb⟩
  replace HB := Lib.hid (below_trans HB.out hb)
  clear hb
  go_wp2_with fail
  refine (lawMinus13 _).mono ?_
  rintro e y29 ⟨rfl, rfl⟩
  go_wp2_with fail
  refine (H17.out _ _ _ (HB.out.alloc HB.out.size _) (litG _ [4607182418800017408, 9223372036854775808, 13835058055282163712, 0])).mono ?_
  rintro e ws ⟨vs, rfl, hs⟩
  have HBS := Lib.hid (below_trans (HB.out.alloc HB.out.size _) hs.2)
  clear HB
  have HB := HBS
  clear HBS
  obtain ⟨D, d, rfl, _, _, hsn⟩ := SlAt.of_own encG_len hs.1
  have HSN := Lib.hid hsn
  clear hs hsn
  go_wp2_with fail
  refine (refBits13 D [13835058055282163712, 9223372036854775808, 0, 4607182418800017408] d _ HSN.out (by simp)).mono ?_
  rintro e wt ⟨vt, rfl, ht⟩
  have HBT := Lib.hid (below_trans HB.out ht.2)
  clear HB
  have HB := HBT
  clear HBT
  obtain ⟨E, d2, rfl, _, _, htn⟩ := SlAt.of_own encU_len ht.1
  have HTN := Lib.hid htn
  clear ht htn HSN
  go_wp2_with fail
  refine (lawMinus13 _).mono ?_
  rintro e y30 ⟨rfl, rfl⟩
  go_wp2_with fail
  refine (refBits13 _ [13835058055282163712, 9223372036854775808, 0, 4607182418800017408] _ _ (litG _ [13835058055282163712, 9223372036854775808, 0, 4607182418800017408]) (by simp)).mono ?_
  rintro e wu ⟨vu, rfl, hu⟩
  have hal := (Below.refl wt.heap.size wt).alloc (Nat.le_refl _) (.cells #[.float .f64 13835058055282163712, .float .f64 9223372036854775808, .float .f64 0, .float .f64 4607182418800017408] 23)
  have hbu := below_trans hal hu.2
  have HBU := Lib.hid (below_trans HB.out hbu)
  have HTU := Lib.hid (HTN.out.below hbu)
  clear HB HTN hal hbu
  have HB := HBU
  clear HBU
  obtain ⟨F, d3, rfl, _, _, hun⟩ := SlAt.of_own encU_len hu.1
  have HUN := Lib.hid hun
  clear hu hun
  go_wp2_with fail
  refine (refSame13_t E F [13835058055282163712, 9223372036854775808, 0, 4607182418800017408] _ _ _ HTU.out HUN.out (by simp)).mono ?_
  rintro e wv ⟨rfl, hb⟩
  replace HB := Lib.hid (below_trans HB.out hb)
  clear hb HTU HUN
  go_wp2_with fail
  refine (H18.out _ _ _ HB.out SlAt.nil).mono ?_
  rintro e w32 ⟨rfl, hb⟩
  replace HB := Lib.hid (below_trans HB.out hb)
  clear hb
  go_wp2_with fail
  refine (lawIs13_v 0 0 true _ (by decide +kernel)).mono ?_
  rintro e y33 ⟨rfl, rfl⟩
  go_wp2_with fail
  refine (H19.out _ _ _ (HB.out.alloc HB.out.size _) (litG _ [4607182418800017408, 4611686018427387904, 13837309855095848960])).mono ?_
  rintro e w34 ⟨rfl, hb⟩
  replace HB := Lib.hid (below_trans (HB.out.alloc HB.out.size _) hb)
  clear hb
  go_wp2_with fail
  refine (lawIs13_v 0 0 true _ (by decide +kernel)).mono ?_
  rintro e y35 ⟨rfl, rfl⟩
  go_wp2_with fail
  refine (lawInf1 _).mono ?_
  rintro e y36 ⟨rfl, rfl⟩
  go_wp2_with fail
  refine (lawInfM _).mono ?_
  rintro e y37 ⟨rfl, rfl⟩
  go_wp2_with fail
  refine (H20.out _ _ _ (HB.out.alloc HB.out.size _) (litG _ [9218868437227405312, 18442240474082181120])).mono ?_
  rintro e w38 ⟨rfl, hb⟩
  replace HB := Lib.hid (below_trans (HB.out.alloc HB.out.size _) hb)
  clear hb
  go_wp2_with fail
  refine (lawIs13_v 9221120237041090560 9221120237041090560 true _ (by decide +kernel)).mono ?_
  rintro e y39 ⟨rfl, rfl⟩
  go_wp2_with fail
  refine (H21.out _ _ _ (HB.out.alloc HB.out.size _) (litG _ [4845873199050653696, 4607182418800017408, 4607182418800017408])).mono ?_
  rintro e w40 ⟨rfl, hb⟩
  replace HB := Lib.hid (below_trans (HB.out.alloc HB.out.size _) hb)
  clear hb
  go_wp2_with fail
  refine (H22.out _ _ _ (HB.out.alloc HB.out.size _) (litG _ [4607182418800017408, 4845873199050653696, 4607182418800017408])).mono ?_
  rintro e w41 ⟨rfl, hb⟩
  replace HB := Lib.hid (below_trans (HB.out.alloc HB.out.size _) hb)
  clear hb
  go_wp2_with fail
  refine (H23.out _ HB.out).mono ?_
  rintro e w42 ⟨rfl, hb⟩
  replace HB := Lib.hid (below_trans HB.out hb)
  clear hb
  go_wp2_with fail
  go_ret
  exact ⟨rfl, HB.out⟩

end Go.Proofs.YtobkhoednecljaaDoor
