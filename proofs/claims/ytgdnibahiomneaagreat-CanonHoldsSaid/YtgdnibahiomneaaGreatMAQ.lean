/- Several texts in one: CanH, CanI. -/
import Derived.Test.YtgdnibahiomneaaGreatMAP
namespace Go.Proofs.YtgdnibahiomneaaGreat

section
open Go.RowKit

theorem byZ_small {n : Nat} (h : n < 128) : byZ (n : Int) = [UInt8.ofNat n] := by
  have e : ((n : Int) % 18446744073709551616).toNat = n := by omega
  unfold byZ
  rw [e, enc_lt h]
theorem byZ_2 : byZ 2 = [2] := byZ_small (n := 2) (by decide)
theorem byZ_3 : byZ 3 = [3] := byZ_small (n := 3) (by decide)
theorem byZ_5 : byZ 5 = [5] := byZ_small (n := 5) (by decide)
theorem byZ_9 : byZ 9 = [9] := byZ_small (n := 9) (by decide)
theorem byZ_200 : byZ 200 = [200, 1] := by
  have e : ((200 : Int) % 18446744073709551616).toNat = 200 := by decide
  unfold byZ
  rw [e, enc_ge (by decide), enc_lt (by decide)]
  rfl
theorem ex_ctx : byX ([(2, 3)], [(5, 9)]) = [1, 2, 3, 1, 5, 9] := by
  simp [byX, byL, byD, byZ_2, byZ_3, byZ_5, byZ_9, enc_lt]
theorem ex_enc : byC exC = [1, 2, 3, 1, 5, 9, 1, 3, 116, 101, 97, 1, 2, 3, 200, 1, 1] := by
  unfold byC
  rw [show exC.1 = ([(2, 3)], [(5, 9)]) from rfl, ex_ctx]
  simp [exC, byL, byI, byS, byM, byZ_2, byZ_3, byZ_200, enc_lt]
theorem nil_enc : byC nilC.ca = [0, 0, 0] := by
  show byC (([], []), []) = _
  simp [byC, byX, byL, enc_lt]
theorem ex_val : validK exC = true := by decide +kernel
theorem nil_val : validK nilC.ca = true := by decide +kernel
theorem ex_com : compC [(2, 3)] [(5, 9)] = true := by decide +kernel
/-- The cart of the examples without its vector. -/
def exD : Ca := (([], [(5, 9)]), [([116, 101, 97], [⟨2, 3, 200, 1⟩])])
theorem exD_val : validK exD = false := by decide +kernel
theorem ex_fit : Fit14 exC := ⟨by decide, by decide, by decide, by decide +kernel, fun x hx => by
  obtain rfl : x = _ := List.mem_singleton.1 hx
  exact ⟨by decide, by decide, fun m hm => by obtain rfl : m = _ := List.mem_singleton.1 hm; decide⟩⟩
theorem exD_fit : Fit14 exD := ⟨by decide, by decide, by decide, by decide +kernel, fun x hx => by
  obtain rfl : x = _ := List.mem_singleton.1 hx
  exact ⟨by decide, by decide, fun m hm => by obtain rfl : m = _ := List.mem_singleton.1 hm; decide⟩⟩
theorem nil_fit : Fit14 nilC.ca := ⟨by decide, by decide, by decide, by decide +kernel, fun x hx => by cases hx⟩
theorem ex_encV : encV exC = [1, 2, 3, 1, 5, 9, 1, 3, 116, 101, 97, 1, 2, 3, 200, 1, 1] := by unfold encV; rw [if_pos ex_val, ex_enc]
theorem nil_encV : encV nilC.ca = [0, 0, 0] := by unfold encV; rw [if_pos nil_val, nil_enc]
theorem nil_appV : appV [7, 7] nilC.ca = [7, 7, 0, 0, 0] := by unfold appV; rw [if_pos nil_val, nil_enc]; rfl
theorem ex_cmp1 : cmpV14 nilC.ca exC = -1 := by unfold cmpV14; rw [nil_val, ex_val, if_pos (show (true && true) = true from rfl), nil_enc, ex_enc]; decide +kernel
theorem ex_cmp2 : cmpV14 exC exC = 0 := by unfold cmpV14; rw [ex_val, if_pos (show (true && true) = true from rfl), ordB_self]

/-- A cart's box whose vector is taken away. -/
theorem blkC_novec {W : World} {g : Nat} {z : CaV} (h : BlkC W g z) : BlkC (W.setCell ⟨g, 0, none⟩ (.slice none 0 0)) g ⟨none, 0, [], z.L, z.nl, z.ls, z.I, z.ni, z.xs⟩ := by
  show (W.heap.modify g _)[g]? = _
  rw [Array.getElem?_modify, if_pos rfl, show W.heap[g]? = _ from h]
  rfl
/-- Bytes that a literal makes. -/
theorem litB (W : World) (l : List UInt8) (hl : l.length ≤ 1000) : HoldsB (W.alloc (.cells (cellsOf encB l).toArray 5)) (.slice (some ⟨W.heap.size, 0, none⟩) l.length l.length) l := HoldsB.lit W l (Nat.le_trans hl (by decide))
set_option maxRecDepth 100000 in
set_option maxHeartbeats 4000000 in
theorem known14_w (w : World) (hf : CanOK w) : Calls Tryz.prog 9 #[] w (OneB (.bool true) w) := by
  have HF := Lib.hid hf
  clear hf
  go_enter Tryz.func9, Tryz.ntmps9
  go_wp2_with fail
  refine (lawExample14 _).mono ?_
  rintro e w1 ⟨⟨z, rfl, hz, hok⟩, hb1⟩
  have hzv : z.vs = [(2, 3)] := congrArg (fun c : Ca => c.1.1) hz
  have hzl : z.ls = [(5, 9)] := congrArg (fun c : Ca => c.1.2) hz
  have hzx : its z.xs = [([116, 101, 97], [⟨2, 3, 200, 1⟩])] := congrArg (fun c : Ca => c.2) hz
  have h1 : Below w1.heap.size w1 (w1.alloc (.cells #[z.v, z.l, z.i] 28)) := (Below.refl _ w1).alloc (Nat.le_refl _) _
  have HBX := Lib.hid (BlkC.new w1 z)
  have HOK := Lib.hid (hok.below h1)
  have HB := Lib.hid (below_trans hb1 h1)
  have HOKA := Lib.hid hok
  have HB1 := Lib.hid h1
  have HBA := Lib.hid (show w.heap.size ≤ w1.heap.size from hb1.size)
  have HZ := Lib.hid hz
  have HZX := Lib.hid hzx
  have q0 := HBX.out.cell0
  have q1 := HBX.out.cell1
  have q2 := HBX.out.cell2
  obtain ⟨g, hg⟩ : ∃ g, w1.heap.size = g := ⟨_, rfl⟩
  -- Context
  have hc1 := HF.out.con z.V z.L z.vs z.ls z.nv z.nl _ HB.out HOK.out.1 HOK.out.2.1 (by rw [hzv]; decide) (by rw [hzl]; decide)
  have hzc : conV z.vs z.ls = [1, 2, 3, 1, 5, 9] := by rw [hzv, hzl]; unfold conV; rw [if_pos ex_com, ex_ctx]
  have hze : errV (compC z.vs z.ls) = 0 := by rw [hzv, hzl, ex_com]; rfl
  obtain ⟨s1, hs1⟩ : ∃ s1, conV z.vs z.ls = s1 := ⟨_, rfl⟩
  rw [hs1, hze] at hc1
  have HS1 := Lib.hid (hs1.symm.trans hzc)
  have HZV := Lib.hid hzv
  have HZL := Lib.hid hzl
  have HC1 := Lib.hid hc1
  clear hz hok hb1 h1 hc1 hzc hze hs1 hzv hzl hzx hg
  go_wp2_with fail
  refine HC1.out.mono ?_
  rintro e w2 ⟨⟨A1, n1, rfl, hr1⟩, hb2⟩
  have HR1 := Lib.hid (HoldsB.of_own hr1)
  replace HB := Lib.hid (below_trans HB.out hb2)
  replace HB1 := Lib.hid (below_trans HB1.out hb2)
  replace HOK := Lib.hid (HOK.out.below hb2)
  replace HBX := Lib.hid (HBX.out.below hb2)
  have q0 := HBX.out.cell0
  have q1 := HBX.out.cell1
  have q2 := HBX.out.cell2
  have HC2 := Lib.hid (show Calls Tryz.prog 19 #[mkC z] w2 (OneB (.tuple #[.int .i64 17, .int .i64 0]) w2) from by
    have h := HF.out.siz z w2 HB.out HOK.out (by rw [HZ.out]; exact ex_fit)
    rw [HZ.out, ex_encV, ex_val] at h
    exact h)
  clear hr1 hb2 HC1
  go_wp2_with fail
  refine HC2.out.mono ?_
  rintro e w3 ⟨rfl, hb3⟩
  have h3 : Below w3.heap.size w3 (w3.alloc (.cells #[.int .u8 7, .int .u8 7] 5)) := (Below.refl _ w3).alloc (Nat.le_refl _) _
  replace HR1 := Lib.hid (HR1.out.below (below_trans hb3 h3))
  replace HB := Lib.hid (below_trans HB.out (below_trans hb3 h3))
  replace HB1 := Lib.hid (below_trans HB1.out (below_trans hb3 h3))
  replace HOK := Lib.hid (HOK.out.below (below_trans hb3 h3))
  replace HBX := Lib.hid (HBX.out.below (below_trans hb3 h3))
  have hc3 := HF.out.app (some ⟨w3.heap.size, 0, none⟩) [7, 7] 2 nilC _ HB.out (litB w3 [7, 7] (by decide)) (by decide) (nilC_ok _) nil_fit
  obtain ⟨s3, hs3⟩ : ∃ s3, appV [7, 7] nilC.ca = s3 := ⟨_, rfl⟩
  rw [hs3, nil_val] at hc3
  have HS3 := Lib.hid (hs3.symm.trans nil_appV)
  have HC3 := Lib.hid hc3
  clear q0 q1 q2 hb3 h3 HC2 hc3 hs3
  go_wp2_with fail
  refine HC3.out.mono ?_
  rintro e w4 ⟨⟨A3, n3, rfl, hr3⟩, hb4⟩
  -- encodes(api.Cart{}, 0 0 0)
  have h4 : Below w4.heap.size w4 (w4.alloc (.cells #[.int .u8 0, .int .u8 0, .int .u8 0] 5)) := (Below.refl _ w4).alloc (Nat.le_refl _) _
  have HR3 := Lib.hid ((HoldsB.of_own hr3).below h4)
  replace HR1 := Lib.hid (HR1.out.below (below_trans hb4 h4))
  replace HB := Lib.hid (below_trans HB.out (below_trans hb4 h4))
  replace HB1 := Lib.hid (below_trans HB1.out (below_trans hb4 h4))
  replace HOK := Lib.hid (HOK.out.below (below_trans hb4 h4))
  replace HBX := Lib.hid (HBX.out.below (below_trans hb4 h4))
  have HC4 := Lib.hid (lawEncodes14 nilC [0, 0, 0] [0, 0, 0] (some ⟨w4.heap.size, 0, none⟩) 3 0 0 true w _ (fun W hW hc => by
    have h := HF.out.enc nilC W hW hc nil_fit
    rw [nil_encV, nil_val] at h
    exact h) HB.out (nilC_ok _) (litB w4 [0, 0, 0] (by decide)) (by simp))
  clear hr3 hb4 h4 HC3
  go_wp2_with fail
  refine HC4.out.mono ?_
  rintro e w5 ⟨rfl, hb5⟩
  -- encodes(c, ..)
  have h5 : Below w5.heap.size w5 (w5.alloc (.cells #[.int .u8 1, .int .u8 2, .int .u8 3, .int .u8 1, .int .u8 5, .int .u8 9, .int .u8 1, .int .u8 3, .int .u8 116, .int .u8 101, .int .u8 97, .int .u8 1, .int .u8 2, .int .u8 3, .int .u8 200, .int .u8 1, .int .u8 1] 5)) := (Below.refl _ w5).alloc (Nat.le_refl _) _
  have HBX5 := Lib.hid (HBX.out.below hb5)
  have q0 := HBX5.out.cell0
  have q1 := HBX5.out.cell1
  have q2 := HBX5.out.cell2
  replace HR1 := Lib.hid (HR1.out.below (below_trans hb5 h5))
  replace HR3 := Lib.hid (HR3.out.below (below_trans hb5 h5))
  replace HB := Lib.hid (below_trans HB.out (below_trans hb5 h5))
  replace HB1 := Lib.hid (below_trans HB1.out (below_trans hb5 h5))
  replace HOK := Lib.hid (HOK.out.below (below_trans hb5 h5))
  replace HBX := Lib.hid (HBX.out.below (below_trans hb5 h5))
  have HC5 := Lib.hid (lawEncodes14 z [1, 2, 3, 1, 5, 9, 1, 3, 116, 101, 97, 1, 2, 3, 200, 1, 1] [1, 2, 3, 1, 5, 9, 1, 3, 116, 101, 97, 1, 2, 3, 200, 1, 1] (some ⟨w5.heap.size, 0, none⟩) 17 0 0 true w _ (fun W hW hc => by
    have h := HF.out.enc z W hW hc (by rw [HZ.out]; exact ex_fit)
    rw [HZ.out, ex_encV, ex_val] at h
    exact h) HB.out HOK.out (litB w5 [1, 2, 3, 1, 5, 9, 1, 3, 116, 101, 97, 1, 2, 3, 200, 1, 1] (by decide)) (by simp))
  clear hb5 h5 HC4
  go_wp2_with fail
  refine HC5.out.mono ?_
  rintro e w6 ⟨rfl, hb6⟩
  have h6 : Below w6.heap.size w6 (w6.alloc (.cells #[.int .u8 1, .int .u8 2, .int .u8 3, .int .u8 1, .int .u8 5, .int .u8 9] 5)) := (Below.refl _ w6).alloc (Nat.le_refl _) _
  have h7 : Below w6.heap.size w6 ((w6.alloc (.cells #[.int .u8 1, .int .u8 2, .int .u8 3, .int .u8 1, .int .u8 5, .int .u8 9] 5)).alloc (.cells #[.int .u8 7, .int .u8 7, .int .u8 0, .int .u8 0, .int .u8 0] 5)) := h6.alloc (by simp) _
  have d1 : (convert 32 9 (.slice A1 s1.length n1)).run Tryz.prog w6 = .ok (.string ⟨#[1, 2, 3, 1, 5, 9]⟩) w6 := by
    rw [convB w6 A1 n1 s1 (HR1.out.below hb6), HS1.out]
  have d2 : (convert 32 9 (.slice (some ⟨w6.heap.size, 0, none⟩) 6 6)).run Tryz.prog (w6.alloc (.cells #[.int .u8 1, .int .u8 2, .int .u8 3, .int .u8 1, .int .u8 5, .int .u8 9] 5)) = .ok (.string ⟨#[1, 2, 3, 1, 5, 9]⟩) (w6.alloc (.cells #[.int .u8 1, .int .u8 2, .int .u8 3, .int .u8 1, .int .u8 5, .int .u8 9] 5)) := convB _ _ 6 [1, 2, 3, 1, 5, 9] (litB w6 [1, 2, 3, 1, 5, 9] (by decide))
  have d3 : (convert 32 9 (.slice A3 s3.length n3)).run Tryz.prog (w6.alloc (.cells #[.int .u8 1, .int .u8 2, .int .u8 3, .int .u8 1, .int .u8 5, .int .u8 9] 5)) = .ok (.string ⟨#[7, 7, 0, 0, 0]⟩) (w6.alloc (.cells #[.int .u8 1, .int .u8 2, .int .u8 3, .int .u8 1, .int .u8 5, .int .u8 9] 5)) := by
    rw [convB _ A3 n3 s3 ((HR3.out.below hb6).below h6), HS3.out]
  have d4 : (convert 32 9 (.slice (some ⟨w6.heap.size + 1, 0, none⟩) 5 5)).run Tryz.prog ((w6.alloc (.cells #[.int .u8 1, .int .u8 2, .int .u8 3, .int .u8 1, .int .u8 5, .int .u8 9] 5)).alloc (.cells #[.int .u8 7, .int .u8 7, .int .u8 0, .int .u8 0, .int .u8 0] 5)) = .ok (.string ⟨#[7, 7, 0, 0, 0]⟩) ((w6.alloc (.cells #[.int .u8 1, .int .u8 2, .int .u8 3, .int .u8 1, .int .u8 5, .int .u8 9] 5)).alloc (.cells #[.int .u8 7, .int .u8 7, .int .u8 0, .int .u8 0, .int .u8 0] 5)) := by
    have h := convB _ _ 5 [7, 7, 0, 0, 0] (litB (w6.alloc (.cells #[.int .u8 1, .int .u8 2, .int .u8 3, .int .u8 1, .int .u8 5, .int .u8 9] 5)) [7, 7, 0, 0, 0] (by decide))
    have hs : (w6.alloc (.cells #[.int .u8 1, .int .u8 2, .int .u8 3, .int .u8 1, .int .u8 5, .int .u8 9] 5)).heap.size = w6.heap.size + 1 := by simp
    rw [hs] at h
    exact h
  replace HB := Lib.hid (below_trans HB.out (below_trans hb6 h7))
  replace HB1 := Lib.hid (below_trans HB1.out (below_trans hb6 h7))
  replace HOK := Lib.hid (HOK.out.below (below_trans hb6 h7))
  replace HBX := Lib.hid (HBX.out.below (below_trans hb6 h7))
  have q0 := HBX.out.cell0
  have q1 := HBX.out.cell1
  have q2 := HBX.out.cell2
  have qf := HBX.out.frozen 0
  clear hb6 h6 h7 HC5 HR1 HR3
  go_wp2_with fail
  have hs7 := Below.setCell (p := ⟨w1.heap.size, 0, none⟩) HB1.out (Nat.le_refl _) (.slice none 0 0)
  have hs8 := Below.setCell (p := ⟨w1.heap.size, 0, none⟩) HB.out HBA.out (.slice none 0 0)
  have HZD := Lib.hid (show CaV.ca ⟨none, 0, [], z.L, z.nl, z.ls, z.I, z.ni, z.xs⟩ = exD from by
    show ((([] : List (Int × Int)), z.ls), its z.xs) = exD
    rw [HZL.out, HZX.out]; rfl)
  have HBD := Lib.hid (show BlkC _ w1.heap.size ⟨none, 0, [], z.L, z.nl, z.ls, z.I, z.ni, z.xs⟩ from blkC_novec HBX.out)
  have hokd := HOKA.out.below hs7
  have HOKD := Lib.hid (show CaOK _ ⟨none, 0, [], z.L, z.nl, z.ls, z.I, z.ni, z.xs⟩ from ⟨⟨none, 0, rfl, SlAt.nil, by simp, by simp [maxLen]⟩, hokd.2⟩)
  replace HB := Lib.hid hs8
  clear hokd hs7 hs8 HB1 HBX HOK d1 d2 d3 d4 q0 q1 q2 qf HOKA
  generalize World.setCell _ _ _ = w7 at HB HBD HOKD ⊢
  refine (lawExample14 _).mono ?_
  rintro e w8 ⟨⟨y, rfl, hy, hoky⟩, hb8⟩
  have HC6 := Lib.hid (lawCompares14 nilC y (-1) (-1) 0 0 true w w8 (fun W hW hc hd => by
    have h := HF.out.cmp nilC y W hW hc hd nil_fit (by rw [hy]; exact ex_fit)
    rw [hy, ex_cmp1, nil_val, ex_val] at h
    exact h) (below_trans HB.out hb8) (nilC_ok _) hoky (by simp))
  replace HB := Lib.hid (below_trans HB.out hb8)
  replace HBD := Lib.hid (HBD.out.below hb8)
  replace HOKD := Lib.hid (HOKD.out.below hb8)
  clear hb8 hy hoky
  go_wp2_with fail
  refine HC6.out.mono ?_
  rintro e w9 ⟨rfl, hb9⟩
  replace HB := Lib.hid (below_trans HB.out hb9)
  replace HBD := Lib.hid (HBD.out.below hb9)
  replace HOKD := Lib.hid (HOKD.out.below hb9)
  clear hb9 HC6
  go_wp2_with fail
  refine (lawExample14 _).mono ?_
  rintro e wa ⟨⟨y1, rfl, hy1, hok1⟩, hba⟩
  have HY1 := Lib.hid hok1
  have HE1 := Lib.hid hy1
  replace HB := Lib.hid (below_trans HB.out hba)
  replace HBD := Lib.hid (HBD.out.below hba)
  replace HOKD := Lib.hid (HOKD.out.below hba)
  clear hba hok1 hy1
  go_wp2_with fail
  refine (lawExample14 _).mono ?_
  rintro e wb ⟨⟨y2, rfl, hy2, hok2⟩, hbb⟩
  have HC7 := Lib.hid (lawCompares14 y1 y2 0 0 0 0 true w wb (fun W hW hc hd => by
    have h := HF.out.cmp y1 y2 W hW hc hd (by rw [HE1.out]; exact ex_fit) (by rw [hy2]; exact ex_fit)
    rw [hy2, HE1.out, ex_cmp2, ex_val] at h
    exact h) (below_trans HB.out hbb) (HY1.out.below hbb) hok2 (by simp))
  replace HB := Lib.hid (below_trans HB.out hbb)
  replace HBD := Lib.hid (HBD.out.below hbb)
  replace HOKD := Lib.hid (HOKD.out.below hbb)
  clear hbb hok2 hy2
  go_wp2_with fail
  refine HC7.out.mono ?_
  rintro e wc ⟨rfl, hbc⟩
  replace HB := Lib.hid (below_trans HB.out hbc)
  replace HBD := Lib.hid (HBD.out.below hbc)
  replace HOKD := Lib.hid (HOKD.out.below hbc)
  have q0 := HBD.out.cell0
  have q1 := HBD.out.cell1
  have q2 := HBD.out.cell2
  have HC8 := Lib.hid (lawEncodes14 ⟨none, 0, [], z.L, z.nl, z.ls, z.I, z.ni, z.xs⟩ [] [] none 0 2 2 true w wc (fun W hW hc => by
    have h := HF.out.enc ⟨none, 0, [], z.L, z.nl, z.ls, z.I, z.ni, z.xs⟩ W hW hc (by rw [HZD.out]; exact exD_fit)
    rw [HZD.out, exD_val, show encV exD = [] from by unfold encV; rw [exD_val]; rfl] at h
    exact h) HB.out HOKD.out (HoldsB.nil _) (by simp))
  clear hbc HC7
  go_wp2_with fail
  refine HC8.out.mono ?_
  rintro e wd ⟨rfl, hbd⟩
  replace HB := Lib.hid (below_trans HB.out hbd)
  clear hbd q0 q1 q2 HC8
  go_wp2_with fail
  go_ret
  exact ⟨rfl, HB.out⟩

end

section
open Go.RowKit

theorem dotsI_fold14 : ∀ (l : List It) (s : List (Int × Int)), (l.foldl (fun s x => setL (s ++ dotsM x.2)) s).length ≤ s.length + (l.flatMap (·.2)).length
  | [], s => by simp
  | x :: l, s => by
    rw [List.foldl_cons, List.flatMap_cons, List.length_append]
    have h := dotsI_fold14 l (setL (s ++ dotsM x.2))
    have h2 := setL_len (s ++ dotsM x.2)
    rw [List.length_append, dotsM_len] at h2
    omega
theorem dotsI_le14 (l : List It) : (dotsI l).length ≤ (l.flatMap (·.2)).length := by
  have := dotsI_fold14 l []
  unfold dotsI
  simpa using this
theorem flat_le2 {α β : Type} {f : α → List β} {k : Nat} : ∀ {l : List α}, (∀ a ∈ l, (f a).length ≤ k) → (l.flatMap f).length ≤ l.length * k
  | [], _ => by simp
  | a :: l, h => by
    rw [List.flatMap_cons, List.length_append, List.length_cons, Nat.add_mul, Nat.one_mul]
    have h1 := h a (by simp)
    have h2 := flat_le2 (l := l) fun b hb => h b (by simp [hb])
    omega
/-- Times of 64 bits. -/
def TimC (c : Ca) : Prop := ∀ x ∈ c.2, ∀ m ∈ x.2, m.t < 18446744073709551616
theorem small_fit {c : Ca} (h : small14 c = true) (ht : TimC c) : Fit14 c := by
  obtain ⟨h1, h2, h3, h4⟩ := small_iff.1 h
  refine ⟨by omega, by omega, by omega, ?_, fun x hx => ⟨by have := (h4 x hx).2; omega, by have := (h4 x hx).1; omega, ht x hx⟩⟩
  have a1 := dotsI_le14 c.2
  have a2 := flat_le2 (f := fun x : It => x.2) (k := 20) (l := c.2) fun x hx => (h4 x hx).1
  omega
theorem byC_len {c : Ca} (h : Fit14 c) : (byC c).length ≤ 20000000 := by
  obtain ⟨h1, h2, h3, _, h4⟩ := h
  unfold byC
  rw [List.length_append]
  have a1 := byX_len (c := c.1) (by omega) (by omega)
  have a2 := byL_le (f := byI) (k := 41020) (n := 300) (fun x hx => byI_len (by have := (h4 x hx).1; omega) (by have := (h4 x hx).2.1; omega) (h4 x hx).2.2) h3 (by decide)
  omega

/-- The region in which the bytes of two carts are compared. -/
def cmpX (E W0 : World) (xs ys : List UInt8) (a b : CaV) (n : Int) : Rb where
  E := E
  W0 := W0
  n := 53
  D := .slice none 0 0
  acc := []
  m := none
  s := 100
  rows := [⟨1, 35, xs, none⟩, ⟨3, 37, ys, none⟩]
  known := fun
    | 0 => some (.agg #[a.v, a.l, a.i])
    | 2 => some (.agg #[b.v, b.l, b.i])
    | 4 => some (.int .i64 n)
    | 5 => some (.int .i64 n)
    | _ => none

set_option maxRecDepth 100000 in
set_option maxHeartbeats 4000000 in
theorem lawCompares_14 (a b : CaV) (w : World) (hf : CanOK w) (hk : Known14 w) (ha : CaOK w a) (hb : CaOK w b) (ta : TimC a.ca) (tb : TimC b.ca) :
    Calls Tryz.prog 5 #[mkC a, mkC b] w (OneB (.bool true) w) := by
  have HF := Lib.hid hf
  have HKN := Lib.hid hk
  have h1 : Below w.heap.size w (w.alloc (.cells #[a.v, a.l, a.i] 28)) := (Below.refl _ w).alloc (Nat.le_refl _) _
  have HK := Lib.hid (KK.push (L := [(w.heap.size, a)]) (KK.new w a ha) b (hb.below h1) (w.heap.size + 1) (by simp))
  obtain ⟨p, hp⟩ : ∃ p, small14 a.ca = p := ⟨_, rfl⟩
  obtain ⟨q, hq⟩ : ∃ q, small14 b.ca = q := ⟨_, rfl⟩
  have HSA := Lib.hid fun (W : World) (h : CaOK W a) => refSmall14 a p W h hp
  have HSB := Lib.hid fun (W : World) (h : CaOK W b) => refSmall14 b q W h hq
  have HFA := Lib.hid fun (h : p = true) => small_fit (by rw [hp, h]) ta
  have HFB := Lib.hid fun (h : q = true) => small_fit (by rw [hq, h]) tb
  clear hf hk h1 ha hb ta tb hp hq
  go_enter Tryz.func5, Tryz.ntmps5
  go_wp2_with fail
  generalize World.alloc (World.alloc w _) _ = w2 at HK ⊢
  obtain ⟨x0, x1, x2, y0, y1, y2, xl, yl, _⟩ := HK.out.sp2
  go_wp2_with fail
  refine (HSA.out _ (HK.out.ok (g := w.heap.size) (by simp))).mono ?_
  rintro e9 w2a ⟨rfl, hb⟩
  clear x0 x1 x2 y0 y1 y2 xl yl
  replace HK := Lib.hid (HK.out.next hb)
  clear hb
  cases p with
  | false =>
    go_wp2_with fail
    refine (HKN.out _ HK.out.bel).mono ?_
    rintro e9 w9 ⟨rfl, hb⟩
    replace HK := Lib.hid (HK.out.next hb)
    clear hb
    go_wp2_with fail
    go_ret
    exact ⟨rfl, HK.out.bel⟩
  | true =>
    obtain ⟨x0, x1, x2, y0, y1, y2, xl, yl, _⟩ := HK.out.sp2
    go_wp2_with fail
    refine (HSB.out _ (HK.out.ok (g := w.heap.size + 1) (by simp))).mono ?_
    rintro e9 w3 ⟨rfl, hb⟩
    clear x0 x1 x2 y0 y1 y2 xl yl
    replace HK := Lib.hid (HK.out.next hb)
    clear hb
    cases q with
    | false =>
      go_wp2_with fail
      refine (HKN.out _ HK.out.bel).mono ?_
      rintro e9 w9 ⟨rfl, hb⟩
      replace HK := Lib.hid (HK.out.next hb)
      clear hb
      go_wp2_with fail
      go_ret
      exact ⟨rfl, HK.out.bel⟩
    | true =>
      have fa := HFA.out (by simp)
      have fb := HFB.out (by simp)
      obtain ⟨va, hva⟩ : ∃ va, validK a.ca = va := ⟨_, rfl⟩
      obtain ⟨vb, hvb⟩ : ∃ vb, validK b.ca = vb := ⟨_, rfl⟩
      have HVA := Lib.hid fun (W : World) (hB : Below w.heap.size w W) (h : CaOK W a) => (show Calls Tryz.prog 14 #[mkC a] W (OneB (.bool va) W) from hva ▸ HF.out.val a W hB h fa)
      have HVB := Lib.hid fun (W : World) (hB : Below w.heap.size w W) (h : CaOK W b) => (show Calls Tryz.prog 14 #[mkC b] W (OneB (.bool vb) W) from hvb ▸ HF.out.val b W hB h fb)
      have HLA := Lib.hid (show ∀ (n r : Int), cmpV14 a.ca b.ca = n → errV (va && vb) = r → ∀ W : World, Below w.heap.size w W → CaOK W a → CaOK W b → Calls Tryz.prog 20 #[mkC a, mkC b, .int .i64 n, .int .i64 r] W (OneB (.bool true) W) from fun n r hn hr W hB h1 h2 => lawCompares14 a b n n r r true w W (fun W hW k1 k2 => by
        have h := HF.out.cmp a b W hW k1 k2 fa fb
        rw [hva, hvb, hn, hr] at h
        exact h) hB h1 h2 (by simp))
      have HLB := Lib.hid (show ∀ (n r : Int), cmpV14 b.ca a.ca = n → errV (vb && va) = r → ∀ W : World, Below w.heap.size w W → CaOK W b → CaOK W a → Calls Tryz.prog 20 #[mkC b, mkC a, .int .i64 n, .int .i64 r] W (OneB (.bool true) W) from fun n r hn hr W hB h1 h2 => lawCompares14 b a n n r r true w W (fun W hW k1 k2 => by
        have h := HF.out.cmp b a W hW k1 k2 fb fa
        rw [hva, hvb, hn, hr] at h
        exact h) hB h1 h2 (by simp))
      have HN := Lib.hid (show (va && vb) = false → cmpV14 a.ca b.ca = 0 ∧ cmpV14 b.ca a.ca = 0 from fun h => by
        unfold cmpV14
        rw [hva, hvb, if_neg (by rw [h]; simp), if_neg (by rw [Bool.and_comm, h]; simp)]
        exact ⟨rfl, rfl⟩)
      have HY := Lib.hid (show (va && vb) = true → cmpV14 a.ca b.ca = ordB (byC a.ca) (byC b.ca) ∧ cmpV14 b.ca a.ca = -ordB (byC a.ca) (byC b.ca) from fun h => by
        unfold cmpV14
        rw [hva, hvb, if_pos h, if_pos (by rw [Bool.and_comm]; exact h)]
        exact ⟨rfl, ordB_swap _ _⟩)
      have HBA := Lib.hid fun (W : World) (h : CaOK W a) => refBytes14 a W h fa.len
      have HBB := Lib.hid fun (W : World) (h : CaOK W b) => refBytes14 b W h fb.len
      have HL := Lib.hid (And.intro (byC_len fa) (byC_len fb))
      clear fa fb hva hvb HSA HSB HFA HFB
      obtain ⟨x0, x1, x2, y0, y1, y2, xl, yl, _⟩ := HK.out.sp2
      go_wp2_with fail
      refine (HVA.out _ HK.out.bel (HK.out.ok (g := w.heap.size) (by simp))).mono ?_
      rintro e9 w4 ⟨rfl, hb⟩
      clear x0 x1 x2 y0 y1 y2 xl yl
      replace HK := Lib.hid (HK.out.next hb)
      clear hb
      cases va with
      | false =>
        have HN2 := HN.out rfl
        have HLB2 := Lib.hid (HLB.out 0 2 HN2.2 (by rw [Bool.and_comm]; rfl))
        obtain ⟨x0, x1, x2, y0, y1, y2, xl, yl, _⟩ := HK.out.sp2
        go_wp2_with fail
        refine (HLA.out 0 2 HN2.1 rfl _ HK.out.bel (HK.out.ok (g := w.heap.size) (by simp)) (HK.out.ok (g := w.heap.size + 1) (by simp))).mono ?_
        rintro e9 w5 ⟨rfl, hb⟩
        clear x0 x1 x2 y0 y1 y2 xl yl
        replace HK := Lib.hid (HK.out.next hb)
        clear hb
        obtain ⟨x0, x1, x2, y0, y1, y2, xl, yl, _⟩ := HK.out.sp2
        go_wp2_with fail
        refine (HLB2.out _ HK.out.bel (HK.out.ok (g := w.heap.size + 1) (by simp)) (HK.out.ok (g := w.heap.size) (by simp))).mono ?_
        rintro e9 w6 ⟨rfl, hb⟩
        clear x0 x1 x2 y0 y1 y2 xl yl
        replace HK := Lib.hid (HK.out.next hb)
        clear hb
        go_wp2_with fail
        refine (HKN.out _ HK.out.bel).mono ?_
        rintro e9 w9 ⟨rfl, hb⟩
        replace HK := Lib.hid (HK.out.next hb)
        clear hb
        go_wp2_with fail
        go_ret
        exact ⟨rfl, HK.out.bel⟩
      | true =>
        obtain ⟨x0, x1, x2, y0, y1, y2, xl, yl, _⟩ := HK.out.sp2
        go_wp2_with fail
        refine (HVB.out _ HK.out.bel (HK.out.ok (g := w.heap.size + 1) (by simp))).mono ?_
        rintro e9 w5 ⟨rfl, hb⟩
        clear x0 x1 x2 y0 y1 y2 xl yl
        replace HK := Lib.hid (HK.out.next hb)
        clear hb
        cases vb with
        | false =>
          have HN2 := HN.out rfl
          obtain ⟨x0, x1, x2, y0, y1, y2, xl, yl, _⟩ := HK.out.sp2
          go_wp2_with fail
          refine (HLA.out 0 2 HN2.1 rfl _ HK.out.bel (HK.out.ok (g := w.heap.size) (by simp)) (HK.out.ok (g := w.heap.size + 1) (by simp))).mono ?_
          rintro e9 w6 ⟨rfl, hb⟩
          clear x0 x1 x2 y0 y1 y2 xl yl
          replace HK := Lib.hid (HK.out.next hb)
          clear hb
          obtain ⟨x0, x1, x2, y0, y1, y2, xl, yl, _⟩ := HK.out.sp2
          go_wp2_with fail
          refine (HLB.out 0 2 HN2.2 rfl _ HK.out.bel (HK.out.ok (g := w.heap.size + 1) (by simp)) (HK.out.ok (g := w.heap.size) (by simp))).mono ?_
          rintro e9 w7 ⟨rfl, hb⟩
          clear x0 x1 x2 y0 y1 y2 xl yl
          replace HK := Lib.hid (HK.out.next hb)
          clear hb
          go_wp2_with fail
          refine (HKN.out _ HK.out.bel).mono ?_
          rintro e9 w9 ⟨rfl, hb⟩
          replace HK := Lib.hid (HK.out.next hb)
          clear hb
          go_wp2_with fail
          go_ret
          exact ⟨rfl, HK.out.bel⟩
        | true =>
          have HY2 := Lib.hid (HY.out rfl)
          obtain ⟨xs, hxs⟩ : ∃ xs, byC a.ca = xs := ⟨_, rfl⟩
          obtain ⟨ys, hys⟩ : ∃ ys, byC b.ca = ys := ⟨_, rfl⟩
          obtain ⟨n, hn⟩ : ∃ n, ordB xs ys = n := ⟨_, rfl⟩
          have hrange := ordB_range xs ys
          rw [hn] at hrange
          have hn1 : -1 ≤ n := by omega
          have hn2 : n ≤ 1 := by omega
          rw [hxs] at HBA HL HY2
          rw [hys] at HBB HL HY2
          rw [hn] at HY2
          have HCO := Lib.hid fun (A1 A2 : Option Addr) (c1 c2 : Nat) (W : World) (h1 : BytesAt W A1 xs) (h2 : BytesAt W A2 ys) => refCompare14 A1 A2 xs ys c1 c2 n W h1 h2 (by have := HL.out.1; omega) (by have := HL.out.2; omega) hn
          have HLA2 := Lib.hid (HLA.out n 0 HY2.out.1 rfl)
          have HLB2 := Lib.hid (HLB.out (-n) 0 HY2.out.2 rfl)
          clear hrange hn hxs hys HLA HLB HN HY HVA HVB HF HL HY2
          go_upto_region 5 with fail
          have HKK := Lib.hid fun (W : World) (hW : Chg (fun k => (Value.slice none 0 0).ownBlock = some k) w5 W) => HK.out.next (hW.below (Nat.le_refl _) (fun _ e => by cases e))
          have HINJ := Lib.hid (show ∀ q ∈ (cmpX w w5 xs ys a b n).rows, ∀ q' ∈ (cmpX w w5 xs ys a b n).rows, q.j = q'.j → q = q' from inj_of (show ([1, 3] : List Nat).Nodup from by decide))
          refine wp_region_T (S := Rb.S (cmpX w w5 xs ys a b n)) (by kernel_rfl) (by kernel_rfl) (by kernel_rfl) (dst_small (n := 53) (by kernel_rfl)) (Rb.G.start HK.out.bel rfl (by rfl) (fun _ h => by cases h)) ?_ ?_
          · refine ⟨?_, ?_, ?_, ?_, ?_, ?_, trivial⟩
            · refine stepPure rfl rfl (by kernel_rfl) (by kernel_rfl) (by kernel_rfl) (by kernel_rfl) fun L a9 W hI hk hd => ?_
              have e2 : a9.tmps[2]?.getD undef = .pointer (some ⟨w.heap.size, 0, none⟩) := hI.at 2 (by kernel_rfl)
              obtain ⟨x0, x1, x2, y0, y1, y2, xl, yl, _⟩ := (HKK.out W hI.glob.chg).sp2
              exact ⟨rfl, .agg #[a.v, a.l, a.i], by go_simp, fun u hu => Option.some.inj hu⟩
            · refine stepCall (r0 := ⟨1, 35, xs, none⟩) HINJ.out (by simp [cmpX]) rfl rfl rfl rfl (by kernel_rfl) (show 35 < 53 from by decide) (by kernel_rfl) rfl fun L a9 W hI hk hd => ?_
              have e34 := Rb.at hI 0 34 (hd 0 rfl) rfl rfl
              exact ⟨rfl, 17, #[mkC a], by go_simp, HBA.out W ((HKK.out W hI.glob.chg).ok (g := w.heap.size) (by simp))⟩
            · refine stepPure rfl rfl (by kernel_rfl) (by kernel_rfl) (by kernel_rfl) (by kernel_rfl) fun L a9 W hI hk hd => ?_
              have e3 : a9.tmps[3]?.getD undef = .pointer (some ⟨w.heap.size + 1, 0, none⟩) := hI.at 3 (by kernel_rfl)
              obtain ⟨x0, x1, x2, y0, y1, y2, xl, yl, _⟩ := (HKK.out W hI.glob.chg).sp2
              exact ⟨rfl, .agg #[b.v, b.l, b.i], by go_simp, fun u hu => Option.some.inj hu⟩
            · refine stepCall (r0 := ⟨3, 37, ys, none⟩) HINJ.out (by simp [cmpX]) rfl rfl rfl rfl (by kernel_rfl) (show 37 < 53 from by decide) (by kernel_rfl) rfl fun L a9 W hI hk hd => ?_
              have e36 := Rb.at hI 2 36 (hd 2 rfl) rfl rfl
              exact ⟨rfl, 17, #[mkC b], by go_simp, HBB.out W ((HKK.out W hI.glob.chg).ok (g := w.heap.size + 1) (by simp))⟩
            · refine stepVal rfl rfl (by kernel_rfl) (by kernel_rfl) (by kernel_rfl) (by kernel_rfl) fun L a9 W hI hk hd => ?_
              obtain ⟨A1, c1, e35, h35, _⟩ := Rb.slice hI (r := ⟨1, 35, xs, none⟩) (by simp [cmpX]) ⟨hd 1 rfl, fun _ h => by cases h⟩
              obtain ⟨A2, c2, e37, h37, _⟩ := Rb.slice hI (r := ⟨3, 37, ys, none⟩) (by simp [cmpX]) ⟨hd 3 rfl, fun _ h => by cases h⟩
              have e35 : a9.tmps[35]?.getD undef = .slice A1 xs.length c1 := e35
              have e37 : a9.tmps[37]?.getD undef = .slice A2 ys.length c2 := e37
              refine ⟨rfl, 21, #[.slice A1 xs.length c1, .slice A2 ys.length c2], by go_simp, (HCO.out A1 A2 c1 c2 W h35 h37).mono ?_⟩
              rintro e W9 ⟨rfl, hb⟩
              exact ⟨_, rfl, hb, fun u hu => Option.some.inj hu⟩
            · refine stepPure rfl rfl (by kernel_rfl) (by kernel_rfl) (by kernel_rfl) (by kernel_rfl) fun L a9 W hI hk hd => ?_
              have e38 := Rb.at hI 4 38 (hd 4 rfl) rfl rfl
              exact ⟨rfl, .int .i64 n, by go_simp, fun u hu => Option.some.inj hu⟩
          · intro a9 W L hL hI
            have e5 := Rb.at hI 5 5 (hL 5 (by decide)) rfl rfl
            have e5' : a9.eval (.tmp 5) = .int .i64 n := by rw [eval_tmp]; exact e5
            replace HK := Lib.hid (HKK.out W hI.glob.chg)
            rw [hI.frame]
            simp only [List.filterMap, List.foldl]
            rw [e5']
            clear hI hL HINJ HKK HBA HBB HCO e5 e5'
            generalize a9.eval (.tmp 34) = v34
            generalize a9.eval (.tmp 35) = v35
            generalize a9.eval (.tmp 36) = v36
            generalize a9.eval (.tmp 37) = v37
            generalize a9.eval (.tmp 38) = v38
            obtain ⟨x0, x1, x2, y0, y1, y2, xl, yl, _⟩ := HK.out.sp2
            go_wp2_with fail
            refine (HLA2.out _ HK.out.bel (HK.out.ok (g := w.heap.size) (by simp)) (HK.out.ok (g := w.heap.size + 1) (by simp))).mono ?_
            rintro e9 w6 ⟨rfl, hb⟩
            clear x0 x1 x2 y0 y1 y2 xl yl
            replace HK := Lib.hid (HK.out.next hb)
            clear hb
            obtain ⟨x0, x1, x2, y0, y1, y2, xl, yl, _⟩ := HK.out.sp2
            go_wp2_with fail
            refine (HLB2.out _ HK.out.bel (HK.out.ok (g := w.heap.size + 1) (by simp)) (HK.out.ok (g := w.heap.size) (by simp))).mono ?_
            rintro e9 w7 ⟨rfl, hb⟩
            clear x0 x1 x2 y0 y1 y2 xl yl
            replace HK := Lib.hid (HK.out.next hb)
            clear hb
            go_wp2_with fail
            refine (HKN.out _ HK.out.bel).mono ?_
            rintro e9 w9 ⟨rfl, hb⟩
            replace HK := Lib.hid (HK.out.next hb)
            clear hb
            go_wp2_with fail
            go_ret
            exact ⟨rfl, HK.out.bel⟩

end

end Go.Proofs.YtgdnibahiomneaaGreat
