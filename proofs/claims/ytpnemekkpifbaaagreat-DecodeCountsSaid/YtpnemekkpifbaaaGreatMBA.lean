/- Several texts in one: DecN. -/
import Derived.Test.YtpnemekkpifbaaaGreatMAZ
namespace Go.Proofs.YtpnemekkpifbaaaGreat

section
open Go.RowKit

theorem own_next {W W' : World} {B : Nat} {y : CaV} (h : OwnC W B y) (hb : Below W.heap.size W W') : OwnC W' B y := ⟨h.1.chg (.of_below (S := fun _ => False) hb) fun _ _ e => e, h.2.below hb⟩
theorem stain_own {W : World} {B : Nat} {y : CaV} (h : OwnC W B y) (hB : B ≤ W.heap.size) (hl : (byC y.ca).length ≤ 100000) : Calls Tryz.prog 24 #[mkC y] W fun e w' => e = .returned (.tuple #[]) ∧ Below B W w' := by
  obtain ⟨h1, h2⟩ := bnd15 y.ca
  have e1 : y.ca.1.1 = y.vs := rfl
  have e2 : y.ca.1.2 = y.ls := rfl
  have e3 : y.ca.2 = its y.xs := rfl
  rw [e1, e2, e3] at h1
  rw [e3] at h2
  have e4 : (its y.xs).length = y.xs.length := its_len _
  refine refStain14 y B W (DtsO.of_own h.1.1 rfl) (DtsO.of_own h.1.2 rfl) h.2 hB (by omega) (by omega) (by omega) fun x hx => ?_
  have h6 := h2 x.it (List.mem_map.2 ⟨x, hx, rfl⟩)
  have h7 : x.it.1.length = x.nm.length := rfl
  omega
theorem decC_pre (p : List UInt8) : decC p = (preC p).bind fun x => if x.2 = p.length then some x.1 else none := by
  unfold decC preC
  cases pC p with
  | none => rfl
  | some v =>
    show (if v.2 = p.length ∧ validK v.1 = true then some v.1 else none) = (if validK v.1 = true then some v else none).bind _
    by_cases h1 : validK v.1 = true
    · rw [if_pos h1]
      show _ = if v.2 = p.length then some v.1 else none
      by_cases h2 : v.2 = p.length
      · rw [if_pos ⟨h2, h1⟩, if_pos h2]
      · rw [if_neg (fun h => h2 h.1), if_neg h2]
    · rw [if_neg h1, if_neg (fun h => h1 h.2)]; rfl

set_option maxRecDepth 100000 in
set_option maxHeartbeats 8000000 in
theorem lawRight {w : World} (h : DecOK w) (A : Option Addr) (p : List UInt8) (n : Nat) (W : World) (hB : Below w.heap.size w W) (hp : HoldsB W (.slice A p.length n) p) (hl : p.length ≤ 100000) :
    Calls Tryz.prog 9 #[.slice A p.length n] W (OneB (.bool true) W) := by
  obtain ⟨i0, hi0, hz0, hz1, hz2⟩ := info_parts infoB
  have H := Lib.hid h
  have HB0 := Lib.hid hB
  have HX := Lib.hid (bytesAt_of15 hp)
  have HP0 := Lib.hid hp
  have HYL := Lib.hid (show (byC ((decC p).getD nilCa)).length ≤ 100000 from by
    cases hd : decC p with
    | none => show (byC nilC.ca).length ≤ 100000; rw [nil_enc]; decide
    | some c => show (byC c).length ≤ 100000; rw [decC_len hd]; exact hl)
  clear hp hB h
  go_enter Tryz.func9, Tryz.ntmps9
  go_wp2_with (at_builtin; refine wpList_append_sl _ encB 1 rfl (.const (.slice none 0 0)) (.tmp 11) 22 rfl encB_len (by omega) encB_one W.heap.size 5 i0 _ 1 Tryz.underlying22 hi0 hz0 hz1 hz2 rfl (.slice none 0 0) [] rfl (World.ownsRow_nil _ _ _ _) A p.length n p rfl rfl HX.out (by simp [maxLen]; omega) (by simp; omega) (Nat.le_refl _) ?_; intro v1 w1 hown hg hat; rw [List.nil_append] at hown; have HB1 := Lib.hid ((Below.refl W.heap.size W).grown hg (Nat.le_refl _) (by simp [Value.ownBlock])); obtain ⟨O, oc, rfl, ho1, ho2, hO⟩ := SlAt.of_own encB_len hown; have HO1 := Lib.hid (show HoldsB w1 (.slice O p.length oc) p from ⟨O, oc, rfl, hO, ho1, ho2⟩); clear hown hg hat hO ho1 ho2)
  clear hi0 hz0 hz1 hz2
  have HPRE := Lib.hid (refPrefix15 A p n w1 (HP0.out.below HB1.out) (by omega))
  refine HPRE.out.mono ?_
  rintro e w2 ⟨⟨z, m, b0, rfl, hz, hpc, hnil⟩, hb2⟩
  have K2 := Lib.hid (KK.push (w := W) (L := []) ⟨fun q hq => (by cases hq), below_trans HB1.out hb2⟩ z hz w2.heap.size rfl)
  have halz : Below w2.heap.size w2 (w2.alloc (.cells #[z.v, z.l, z.i] 31)) := (Below.refl _ _).alloc (Nat.le_refl _) _
  have hb3 := below_trans hb2 halz
  have HB := Lib.hid (below_trans HB1.out hb3)
  have HP := Lib.hid ((HP0.out.below HB1.out).below hb3)
  have HO := Lib.hid (HO1.out.below hb3)
  have HPC := Lib.hid hpc
  clear hz hpc hnil hb2 halz hb3 HPRE
  go_upto_region 3 with fail
  generalize hg : w2.heap.size = g at K2 ⊢
  generalize World.alloc w2 _ = w3 at *
  have KZ := Lib.hid (show KK W [(g, z)] w3 from K2.out)
  clear hg K2 HB1 HO1 HP0 HX
  cases b0 with
  | false =>
    have HPR := Lib.hid (show preC p = none from by unfold preC; rw [HPC.out]; rfl)
    have HDC := Lib.hid (show decC p = none from by rw [decC_pre, HPR.out]; rfl)
    have HIS := Lib.hid (lawIs_f H.out O p oc z w3 (below_trans HB0.out HB.out) HO.out (by omega) (KZ.out.ok (g := g) (by simp)) HDC.out)
    obtain ⟨x0, x1, x2, xl, _⟩ := KZ.out.sp
    go_wp2_with fail
    refine HIS.out.mono ?_
    rintro e w4 ⟨rfl, hb⟩
    have hbb : Below w3.heap.size w3 w4 := hb
    have HB := Lib.hid (below_trans HB.out hbb)
    have HP := Lib.hid (HP.out.below hbb)
    have HO := Lib.hid (HO.out.below hbb)
    have KZ := Lib.hid (KZ.out.next hb)
    clear hb hbb HIS x0 x1 x2 xl
    clear KZ
    have HBG := Lib.hid (show Calls Tryz.prog 19 #[.slice O p.length oc, .agg #[.slice none 0 0, .slice none 0 0, .slice none 0 0], .int .i64 0, .int .i64 12] w4 (OneB (.bool true) w4) from lawBegins H.out O p oc nilC 0 12 w4 (below_trans HB0.out HB.out) HO.out (by omega) (nilC_ok _) (by rw [nil_enc]; decide) (by rw [HPR.out]; rfl) (by rw [HPR.out]; rfl) (by rw [HPR.out]; rfl))
    go_wp2_with fail
    refine HBG.out.mono ?_
    rintro e w5 ⟨rfl, hb⟩
    have hbb : Below w4.heap.size w4 w5 := hb
    have HB := Lib.hid (below_trans HB.out hbb)
    have HP := Lib.hid (HP.out.below hbb)
    have HO := Lib.hid (HO.out.below hbb)
    clear hb hbb HBG
    have HCTX := Lib.hid (refContext15 A p n w5 HP.out (by omega))
    go_wp2_with fail
    refine HCTX.out.mono ?_
    rintro e wt ⟨⟨vs, ls, D, E, d, k, b, rfl, hrx, _, _, hcr, _⟩, hbt⟩
    have halt : Below wt.heap.size wt (wt.alloc (.cells #[.slice D vs.length d, .slice E ls.length k] 28)) := (Below.refl _ _).alloc (Nat.le_refl _) _
    have hbox : (wt.alloc (.cells #[.slice D vs.length d, .slice E ls.length k] 28)).heap[wt.heap.size]? = some (.cells #[.slice D vs.length d, .slice E ls.length k] 28 (0, 0)) := heap_alloc_new wt _
    have hbb : Below w5.heap.size w5 (wt.alloc (.cells #[.slice D vs.length d, .slice E ls.length k] 28)) := below_trans hbt halt
    have HB := Lib.hid (below_trans HB.out hbb)
    have HP := Lib.hid (HP.out.below hbb)
    have HO := Lib.hid (HO.out.below hbb)
    have HVV := Lib.hid ((own_holds hrx.1).below halt)
    have HLL := Lib.hid ((own_holds hrx.2).below halt)
    have HBOX := Lib.hid hbox
    have HCR := Lib.hid hcr
    clear hrx hcr hbt halt hbox hbb HCTX
    go_upto_region 9 with fail
    generalize hq : wt.heap.size = q at HBOX ⊢
    generalize World.alloc wt _ = w7 at *
    clear hq
    cases b with
    | false =>
      have HCX := Lib.hid (show conX p = none from by rw [conX_of, HCR.out]; rfl)
      clear HCR HBOX HVV HLL
      have HSN := Lib.hid (lawSeen H.out O p oc none none [] [] 0 0 12 w7 (below_trans HB0.out HB.out) HO.out (by omega) (Holds.nil _) (Holds.nil _) (by rw [HCX.out]; rfl) (by rw [HCX.out]; rfl))
      go_wp2_with fail
      refine HSN.out.mono ?_
      rintro e w8 ⟨rfl, hb⟩
      have hbb : Below w7.heap.size w7 w8 := hb
      have HB := Lib.hid (below_trans HB.out hbb)
      have HP := Lib.hid (HP.out.below hbb)
      have HO := Lib.hid (HO.out.below hbb)
      clear hb hbb HSN
      have HCAR := Lib.hid (H.out.car O p oc w8 (below_trans HB0.out HB.out) HO.out (by omega))
      go_wp2_with fail
      refine HCAR.out.mono ?_
      rintro e wy ⟨⟨y, rfl, hy, hoy⟩, hby⟩
      have haly : Below wy.heap.size wy (wy.alloc (.cells #[y.v, y.l, y.i] 31)) := (Below.refl _ _).alloc (Nat.le_refl _) _
      have HBZ := Lib.hid (below_trans hby haly)
      have HST := Lib.hid (stain_own (B := w8.heap.size) (own_next hoy haly) HBZ.out.size (show (byC y.ca).length ≤ 100000 from by rw [hy]; exact HYL.out))
      have hbx := BlkC.new wy y
      have y0 := hbx.cell0
      have y1 := hbx.cell1
      have y2 := hbx.cell2
      clear hby haly hy hoy hbx HCAR
      go_wp2_with fail
      generalize World.alloc wy _ = wz at *
      refine HST.out.mono ?_
      rintro e wv ⟨rfl, hbv⟩
      have hbz := below_step HBZ.out hbv
      have HBV := Lib.hid (below_trans HB.out hbz)
      have d1 := convB wv A n p (HP.out.below hbz)
      have d2 := convB wv O oc p (HO.out.below hbz)
      have j9 : (p == p) = true := by simp
      clear hbv hbz y0 y1 y2 HST HBZ
      go_wp2_with fail
      go_ret
      exact ⟨rfl, HBV.out⟩
    | true =>
      have b0 := cellW (i := 0) HBOX.out
      have b1 := cellW (i := 1) HBOX.out
      have hle := conX_len HCR.out
      have hle : 2 * (vs.length + ls.length) ≤ p.length := hle
      obtain ⟨v2, hv2⟩ : ∃ v2, compC vs ls = v2 := ⟨_, rfl⟩
      have HCOM := Lib.hid (H.out.com _ vs ls w7 (below_trans HB0.out HB.out) (HoldsC.mk HVV.out HLL.out) (by omega))
      rw [hv2] at HCOM
      have HV2 := Lib.hid hv2
      clear hv2
      cases v2 with
      | false =>
        have HCX := Lib.hid (show conX p = none from by rw [conX_of, HCR.out]; show (if compC vs ls = true then some (vs, ls) else none) = none; rw [HV2.out]; rfl)
        go_wp2_with fail
        refine HCOM.out.mono ?_
        rintro e w8 ⟨rfl, hb⟩
        have hbb : Below w7.heap.size w7 w8 := hb
        have HB := Lib.hid (below_trans HB.out hbb)
        have HP := Lib.hid (HP.out.below hbb)
        have HO := Lib.hid (HO.out.below hbb)
        clear hb hbb HCOM HCR HBOX HVV HLL b0 b1 hle
        have HSN := Lib.hid (lawSeen H.out O p oc none none [] [] 0 0 12 w8 (below_trans HB0.out HB.out) HO.out (by omega) (Holds.nil _) (Holds.nil _) (by rw [HCX.out]; rfl) (by rw [HCX.out]; rfl))
        go_wp2_with fail
        refine HSN.out.mono ?_
        rintro e w9 ⟨rfl, hb⟩
        have hbb : Below w8.heap.size w8 w9 := hb
        have HB := Lib.hid (below_trans HB.out hbb)
        have HP := Lib.hid (HP.out.below hbb)
        have HO := Lib.hid (HO.out.below hbb)
        clear hb hbb HSN
        have HCAR := Lib.hid (H.out.car O p oc w9 (below_trans HB0.out HB.out) HO.out (by omega))
        go_wp2_with fail
        refine HCAR.out.mono ?_
        rintro e wy ⟨⟨y, rfl, hy, hoy⟩, hby⟩
        have haly : Below wy.heap.size wy (wy.alloc (.cells #[y.v, y.l, y.i] 31)) := (Below.refl _ _).alloc (Nat.le_refl _) _
        have HBZ := Lib.hid (below_trans hby haly)
        have HST := Lib.hid (stain_own (B := w9.heap.size) (own_next hoy haly) HBZ.out.size (show (byC y.ca).length ≤ 100000 from by rw [hy]; exact HYL.out))
        have hbx := BlkC.new wy y
        have y0 := hbx.cell0
        have y1 := hbx.cell1
        have y2 := hbx.cell2
        clear hby haly hy hoy hbx HCAR
        go_wp2_with fail
        generalize World.alloc wy _ = wz at *
        refine HST.out.mono ?_
        rintro e wv ⟨rfl, hbv⟩
        have hbz := below_step HBZ.out hbv
        have HBV := Lib.hid (below_trans HB.out hbz)
        have d1 := convB wv A n p (HP.out.below hbz)
        have d2 := convB wv O oc p (HO.out.below hbz)
        have j9 : (p == p) = true := by simp
        clear hbv hbz y0 y1 y2 HST HBZ
        go_wp2_with fail
        go_ret
        exact ⟨rfl, HBV.out⟩
      | true =>
        have HCX := Lib.hid (show conX p = some (vs, ls) from by rw [conX_of, HCR.out]; show (if compC vs ls = true then some (vs, ls) else none) = some (vs, ls); rw [HV2.out]; rfl)
        go_wp2_with fail
        refine HCOM.out.mono ?_
        rintro e w8 ⟨rfl, hb⟩
        have hbb : Below w7.heap.size w7 w8 := hb
        have HB := Lib.hid (below_trans HB.out hbb)
        have HP := Lib.hid (HP.out.below hbb)
        have HO := Lib.hid (HO.out.below hbb)
        have hlt8 := (Array.getElem?_eq_some_iff.1 HBOX.out).1
        have e0 := cellW (i := 0) ((hb.block _ hlt8).trans HBOX.out)
        have e1 := cellW (i := 1) ((hb.block _ hlt8).trans HBOX.out)
        have HSN := Lib.hid (lawSeen H.out O p oc D E vs ls d k 0 w8 (below_trans HB0.out HB.out) HO.out (by omega) (HVV.out.below hb) (HLL.out.below hb) (by rw [HCX.out]; rfl) (by rw [HCX.out]; rfl))
        clear hb hbb HCOM HCR HBOX HVV HLL b0 b1 hle hlt8
        go_wp2_with fail
        refine HSN.out.mono ?_
        rintro e w9 ⟨rfl, hb⟩
        have hbb : Below w8.heap.size w8 w9 := hb
        have HB := Lib.hid (below_trans HB.out hbb)
        have HP := Lib.hid (HP.out.below hbb)
        have HO := Lib.hid (HO.out.below hbb)
        clear hb hbb HSN e0 e1
        have HCAR := Lib.hid (H.out.car O p oc w9 (below_trans HB0.out HB.out) HO.out (by omega))
        go_wp2_with fail
        refine HCAR.out.mono ?_
        rintro e wy ⟨⟨y, rfl, hy, hoy⟩, hby⟩
        have haly : Below wy.heap.size wy (wy.alloc (.cells #[y.v, y.l, y.i] 31)) := (Below.refl _ _).alloc (Nat.le_refl _) _
        have HBZ := Lib.hid (below_trans hby haly)
        have HST := Lib.hid (stain_own (B := w9.heap.size) (own_next hoy haly) HBZ.out.size (show (byC y.ca).length ≤ 100000 from by rw [hy]; exact HYL.out))
        have hbx := BlkC.new wy y
        have y0 := hbx.cell0
        have y1 := hbx.cell1
        have y2 := hbx.cell2
        clear hby haly hy hoy hbx HCAR
        go_wp2_with fail
        generalize World.alloc wy _ = wz at *
        refine HST.out.mono ?_
        rintro e wv ⟨rfl, hbv⟩
        have hbz := below_step HBZ.out hbv
        have HBV := Lib.hid (below_trans HB.out hbz)
        have d1 := convB wv A n p (HP.out.below hbz)
        have d2 := convB wv O oc p (HO.out.below hbz)
        have j9 : (p == p) = true := by simp
        clear hbv hbz y0 y1 y2 HST HBZ
        go_wp2_with fail
        go_ret
        exact ⟨rfl, HBV.out⟩
  | true =>
    have HPC := Lib.hid (show pC p = some (z.ca, m) from HPC.out)
    have hpl := pC_len HPC.out
    have HZL := Lib.hid (show (byC z.ca).length ≤ 170000 from by omega)
    obtain ⟨v, hv⟩ : ∃ v, validK z.ca = v := ⟨_, rfl⟩
    have HVAL := Lib.hid (H.out.val z w3 (below_trans HB0.out HB.out) (KZ.out.ok (g := g) (by simp)) (fits15 HZL.out).1)
    rw [hv] at HVAL
    have HVV := Lib.hid hv
    obtain ⟨x0, x1, x2, xl, _⟩ := KZ.out.sp
    clear hv hpl
    go_wp2_with fail
    refine HVAL.out.mono ?_
    rintro e w4 ⟨rfl, hb⟩
    have hbb : Below w3.heap.size w3 w4 := hb
    have HB := Lib.hid (below_trans HB.out hbb)
    have HP := Lib.hid (HP.out.below hbb)
    have HO := Lib.hid (HO.out.below hbb)
    have KZ := Lib.hid (KZ.out.next hb)
    clear hb hbb HVAL x0 x1 x2 xl
    cases v with
    | false =>
      have HPR := Lib.hid (show preC p = none from by unfold preC; rw [HPC.out]; show (if validK z.ca = true then some (z.ca, m) else none) = none; rw [HVV.out]; rfl)
      have HDC := Lib.hid (show decC p = none from by rw [decC_pre, HPR.out]; rfl)
      have HIS := Lib.hid (lawIs_f H.out O p oc z w4 (below_trans HB0.out HB.out) HO.out (by omega) (KZ.out.ok (g := g) (by simp)) HDC.out)
      obtain ⟨x0, x1, x2, xl, _⟩ := KZ.out.sp
      go_wp2_with fail
      refine HIS.out.mono ?_
      rintro e w5 ⟨rfl, hb⟩
      have hbb : Below w4.heap.size w4 w5 := hb
      have HB := Lib.hid (below_trans HB.out hbb)
      have HP := Lib.hid (HP.out.below hbb)
      have HO := Lib.hid (HO.out.below hbb)
      have KZ := Lib.hid (KZ.out.next hb)
      clear hb hbb HIS x0 x1 x2 xl
      clear KZ
      have HBG := Lib.hid (show Calls Tryz.prog 19 #[.slice O p.length oc, .agg #[.slice none 0 0, .slice none 0 0, .slice none 0 0], .int .i64 0, .int .i64 12] w5 (OneB (.bool true) w5) from lawBegins H.out O p oc nilC 0 12 w5 (below_trans HB0.out HB.out) HO.out (by omega) (nilC_ok _) (by rw [nil_enc]; decide) (by rw [HPR.out]; rfl) (by rw [HPR.out]; rfl) (by rw [HPR.out]; rfl))
      go_wp2_with fail
      refine HBG.out.mono ?_
      rintro e w6 ⟨rfl, hb⟩
      have hbb : Below w5.heap.size w5 w6 := hb
      have HB := Lib.hid (below_trans HB.out hbb)
      have HP := Lib.hid (HP.out.below hbb)
      have HO := Lib.hid (HO.out.below hbb)
      clear hb hbb HBG
      have HCTX := Lib.hid (refContext15 A p n w6 HP.out (by omega))
      go_wp2_with fail
      refine HCTX.out.mono ?_
      rintro e wt ⟨⟨vs, ls, D, E, d, k, b, rfl, hrx, _, _, hcr, _⟩, hbt⟩
      have halt : Below wt.heap.size wt (wt.alloc (.cells #[.slice D vs.length d, .slice E ls.length k] 28)) := (Below.refl _ _).alloc (Nat.le_refl _) _
      have hbox : (wt.alloc (.cells #[.slice D vs.length d, .slice E ls.length k] 28)).heap[wt.heap.size]? = some (.cells #[.slice D vs.length d, .slice E ls.length k] 28 (0, 0)) := heap_alloc_new wt _
      have hbb : Below w6.heap.size w6 (wt.alloc (.cells #[.slice D vs.length d, .slice E ls.length k] 28)) := below_trans hbt halt
      have HB := Lib.hid (below_trans HB.out hbb)
      have HP := Lib.hid (HP.out.below hbb)
      have HO := Lib.hid (HO.out.below hbb)
      have HVV := Lib.hid ((own_holds hrx.1).below halt)
      have HLL := Lib.hid ((own_holds hrx.2).below halt)
      have HBOX := Lib.hid hbox
      have HCR := Lib.hid hcr
      clear hrx hcr hbt halt hbox hbb HCTX
      go_upto_region 9 with fail
      generalize hq : wt.heap.size = q at HBOX ⊢
      generalize World.alloc wt _ = w7 at *
      clear hq
      cases b with
      | false =>
        have HCX := Lib.hid (show conX p = none from by rw [conX_of, HCR.out]; rfl)
        clear HCR HBOX HVV HLL
        have HSN := Lib.hid (lawSeen H.out O p oc none none [] [] 0 0 12 w7 (below_trans HB0.out HB.out) HO.out (by omega) (Holds.nil _) (Holds.nil _) (by rw [HCX.out]; rfl) (by rw [HCX.out]; rfl))
        go_wp2_with fail
        refine HSN.out.mono ?_
        rintro e w8 ⟨rfl, hb⟩
        have hbb : Below w7.heap.size w7 w8 := hb
        have HB := Lib.hid (below_trans HB.out hbb)
        have HP := Lib.hid (HP.out.below hbb)
        have HO := Lib.hid (HO.out.below hbb)
        clear hb hbb HSN
        have HCAR := Lib.hid (H.out.car O p oc w8 (below_trans HB0.out HB.out) HO.out (by omega))
        go_wp2_with fail
        refine HCAR.out.mono ?_
        rintro e wy ⟨⟨y, rfl, hy, hoy⟩, hby⟩
        have haly : Below wy.heap.size wy (wy.alloc (.cells #[y.v, y.l, y.i] 31)) := (Below.refl _ _).alloc (Nat.le_refl _) _
        have HBZ := Lib.hid (below_trans hby haly)
        have HST := Lib.hid (stain_own (B := w8.heap.size) (own_next hoy haly) HBZ.out.size (show (byC y.ca).length ≤ 100000 from by rw [hy]; exact HYL.out))
        have hbx := BlkC.new wy y
        have y0 := hbx.cell0
        have y1 := hbx.cell1
        have y2 := hbx.cell2
        clear hby haly hy hoy hbx HCAR
        go_wp2_with fail
        generalize World.alloc wy _ = wz at *
        refine HST.out.mono ?_
        rintro e wv ⟨rfl, hbv⟩
        have hbz := below_step HBZ.out hbv
        have HBV := Lib.hid (below_trans HB.out hbz)
        have d1 := convB wv A n p (HP.out.below hbz)
        have d2 := convB wv O oc p (HO.out.below hbz)
        have j9 : (p == p) = true := by simp
        clear hbv hbz y0 y1 y2 HST HBZ
        go_wp2_with fail
        go_ret
        exact ⟨rfl, HBV.out⟩
      | true =>
        have b0 := cellW (i := 0) HBOX.out
        have b1 := cellW (i := 1) HBOX.out
        have hle := conX_len HCR.out
        have hle : 2 * (vs.length + ls.length) ≤ p.length := hle
        obtain ⟨v2, hv2⟩ : ∃ v2, compC vs ls = v2 := ⟨_, rfl⟩
        have HCOM := Lib.hid (H.out.com _ vs ls w7 (below_trans HB0.out HB.out) (HoldsC.mk HVV.out HLL.out) (by omega))
        rw [hv2] at HCOM
        have HV2 := Lib.hid hv2
        clear hv2
        cases v2 with
        | false =>
          have HCX := Lib.hid (show conX p = none from by rw [conX_of, HCR.out]; show (if compC vs ls = true then some (vs, ls) else none) = none; rw [HV2.out]; rfl)
          go_wp2_with fail
          refine HCOM.out.mono ?_
          rintro e w8 ⟨rfl, hb⟩
          have hbb : Below w7.heap.size w7 w8 := hb
          have HB := Lib.hid (below_trans HB.out hbb)
          have HP := Lib.hid (HP.out.below hbb)
          have HO := Lib.hid (HO.out.below hbb)
          clear hb hbb HCOM HCR HBOX HVV HLL b0 b1 hle
          have HSN := Lib.hid (lawSeen H.out O p oc none none [] [] 0 0 12 w8 (below_trans HB0.out HB.out) HO.out (by omega) (Holds.nil _) (Holds.nil _) (by rw [HCX.out]; rfl) (by rw [HCX.out]; rfl))
          go_wp2_with fail
          refine HSN.out.mono ?_
          rintro e w9 ⟨rfl, hb⟩
          have hbb : Below w8.heap.size w8 w9 := hb
          have HB := Lib.hid (below_trans HB.out hbb)
          have HP := Lib.hid (HP.out.below hbb)
          have HO := Lib.hid (HO.out.below hbb)
          clear hb hbb HSN
          have HCAR := Lib.hid (H.out.car O p oc w9 (below_trans HB0.out HB.out) HO.out (by omega))
          go_wp2_with fail
          refine HCAR.out.mono ?_
          rintro e wy ⟨⟨y, rfl, hy, hoy⟩, hby⟩
          have haly : Below wy.heap.size wy (wy.alloc (.cells #[y.v, y.l, y.i] 31)) := (Below.refl _ _).alloc (Nat.le_refl _) _
          have HBZ := Lib.hid (below_trans hby haly)
          have HST := Lib.hid (stain_own (B := w9.heap.size) (own_next hoy haly) HBZ.out.size (show (byC y.ca).length ≤ 100000 from by rw [hy]; exact HYL.out))
          have hbx := BlkC.new wy y
          have y0 := hbx.cell0
          have y1 := hbx.cell1
          have y2 := hbx.cell2
          clear hby haly hy hoy hbx HCAR
          go_wp2_with fail
          generalize World.alloc wy _ = wz at *
          refine HST.out.mono ?_
          rintro e wv ⟨rfl, hbv⟩
          have hbz := below_step HBZ.out hbv
          have HBV := Lib.hid (below_trans HB.out hbz)
          have d1 := convB wv A n p (HP.out.below hbz)
          have d2 := convB wv O oc p (HO.out.below hbz)
          have j9 : (p == p) = true := by simp
          clear hbv hbz y0 y1 y2 HST HBZ
          go_wp2_with fail
          go_ret
          exact ⟨rfl, HBV.out⟩
        | true =>
          have HCX := Lib.hid (show conX p = some (vs, ls) from by rw [conX_of, HCR.out]; show (if compC vs ls = true then some (vs, ls) else none) = some (vs, ls); rw [HV2.out]; rfl)
          go_wp2_with fail
          refine HCOM.out.mono ?_
          rintro e w8 ⟨rfl, hb⟩
          have hbb : Below w7.heap.size w7 w8 := hb
          have HB := Lib.hid (below_trans HB.out hbb)
          have HP := Lib.hid (HP.out.below hbb)
          have HO := Lib.hid (HO.out.below hbb)
          have hlt8 := (Array.getElem?_eq_some_iff.1 HBOX.out).1
          have e0 := cellW (i := 0) ((hb.block _ hlt8).trans HBOX.out)
          have e1 := cellW (i := 1) ((hb.block _ hlt8).trans HBOX.out)
          have HSN := Lib.hid (lawSeen H.out O p oc D E vs ls d k 0 w8 (below_trans HB0.out HB.out) HO.out (by omega) (HVV.out.below hb) (HLL.out.below hb) (by rw [HCX.out]; rfl) (by rw [HCX.out]; rfl))
          clear hb hbb HCOM HCR HBOX HVV HLL b0 b1 hle hlt8
          go_wp2_with fail
          refine HSN.out.mono ?_
          rintro e w9 ⟨rfl, hb⟩
          have hbb : Below w8.heap.size w8 w9 := hb
          have HB := Lib.hid (below_trans HB.out hbb)
          have HP := Lib.hid (HP.out.below hbb)
          have HO := Lib.hid (HO.out.below hbb)
          clear hb hbb HSN e0 e1
          have HCAR := Lib.hid (H.out.car O p oc w9 (below_trans HB0.out HB.out) HO.out (by omega))
          go_wp2_with fail
          refine HCAR.out.mono ?_
          rintro e wy ⟨⟨y, rfl, hy, hoy⟩, hby⟩
          have haly : Below wy.heap.size wy (wy.alloc (.cells #[y.v, y.l, y.i] 31)) := (Below.refl _ _).alloc (Nat.le_refl _) _
          have HBZ := Lib.hid (below_trans hby haly)
          have HST := Lib.hid (stain_own (B := w9.heap.size) (own_next hoy haly) HBZ.out.size (show (byC y.ca).length ≤ 100000 from by rw [hy]; exact HYL.out))
          have hbx := BlkC.new wy y
          have y0 := hbx.cell0
          have y1 := hbx.cell1
          have y2 := hbx.cell2
          clear hby haly hy hoy hbx HCAR
          go_wp2_with fail
          generalize World.alloc wy _ = wz at *
          refine HST.out.mono ?_
          rintro e wv ⟨rfl, hbv⟩
          have hbz := below_step HBZ.out hbv
          have HBV := Lib.hid (below_trans HB.out hbz)
          have d1 := convB wv A n p (HP.out.below hbz)
          have d2 := convB wv O oc p (HO.out.below hbz)
          have j9 : (p == p) = true := by simp
          clear hbv hbz y0 y1 y2 HST HBZ
          go_wp2_with fail
          go_ret
          exact ⟨rfl, HBV.out⟩
    | true =>
      have HPR := Lib.hid (show preC p = some (z.ca, m) from by unfold preC; rw [HPC.out]; show (if validK z.ca = true then some (z.ca, m) else none) = some (z.ca, m); rw [HVV.out]; rfl)
      by_cases hml : m = p.length
      · have HDC := Lib.hid (show decC p = some z.ca from by rw [decC_pre, HPR.out]; exact if_pos hml)
        have j0 : ((m : Int) == (p.length : Int)) = true := by simp; omega
        clear hml
        have HIS := Lib.hid (lawIs_t H.out O p oc z w4 (below_trans HB0.out HB.out) HO.out (by omega) (KZ.out.ok (g := g) (by simp)) HDC.out)
        obtain ⟨x0, x1, x2, xl, _⟩ := KZ.out.sp
        go_wp2_with fail
        refine HIS.out.mono ?_
        rintro e w5 ⟨rfl, hb⟩
        have hbb : Below w4.heap.size w4 w5 := hb
        have HB := Lib.hid (below_trans HB.out hbb)
        have HP := Lib.hid (HP.out.below hbb)
        have HO := Lib.hid (HO.out.below hbb)
        have KZ := Lib.hid (KZ.out.next hb)
        clear hb hbb HIS x0 x1 x2 xl
        clear j0
        have HBG := Lib.hid (lawBegins H.out O p oc z m 0 w5 (below_trans HB0.out HB.out) HO.out (by omega) (KZ.out.ok (g := g) (by simp)) HZL.out (by rw [HPR.out]; rfl) (by rw [HPR.out]; rfl) (by rw [HPR.out]; rfl))
        obtain ⟨x0, x1, x2, xl, _⟩ := KZ.out.sp
        go_wp2_with fail
        refine HBG.out.mono ?_
        rintro e w6 ⟨rfl, hb⟩
        have hbb : Below w5.heap.size w5 w6 := hb
        have HB := Lib.hid (below_trans HB.out hbb)
        have HP := Lib.hid (HP.out.below hbb)
        have HO := Lib.hid (HO.out.below hbb)
        clear hb hbb HBG x0 x1 x2 xl
        clear KZ
        have HCTX := Lib.hid (refContext15 A p n w6 HP.out (by omega))
        go_wp2_with fail
        refine HCTX.out.mono ?_
        rintro e wt ⟨⟨vs, ls, D, E, d, k, b, rfl, hrx, _, _, hcr, _⟩, hbt⟩
        have halt : Below wt.heap.size wt (wt.alloc (.cells #[.slice D vs.length d, .slice E ls.length k] 28)) := (Below.refl _ _).alloc (Nat.le_refl _) _
        have hbox : (wt.alloc (.cells #[.slice D vs.length d, .slice E ls.length k] 28)).heap[wt.heap.size]? = some (.cells #[.slice D vs.length d, .slice E ls.length k] 28 (0, 0)) := heap_alloc_new wt _
        have hbb : Below w6.heap.size w6 (wt.alloc (.cells #[.slice D vs.length d, .slice E ls.length k] 28)) := below_trans hbt halt
        have HB := Lib.hid (below_trans HB.out hbb)
        have HP := Lib.hid (HP.out.below hbb)
        have HO := Lib.hid (HO.out.below hbb)
        have HVV := Lib.hid ((own_holds hrx.1).below halt)
        have HLL := Lib.hid ((own_holds hrx.2).below halt)
        have HBOX := Lib.hid hbox
        have HCR := Lib.hid hcr
        clear hrx hcr hbt halt hbox hbb HCTX
        go_upto_region 9 with fail
        generalize hq : wt.heap.size = q at HBOX ⊢
        generalize World.alloc wt _ = w7 at *
        clear hq
        cases b with
        | false =>
          have HCX := Lib.hid (show conX p = none from by rw [conX_of, HCR.out]; rfl)
          clear HCR HBOX HVV HLL
          have HSN := Lib.hid (lawSeen H.out O p oc none none [] [] 0 0 12 w7 (below_trans HB0.out HB.out) HO.out (by omega) (Holds.nil _) (Holds.nil _) (by rw [HCX.out]; rfl) (by rw [HCX.out]; rfl))
          go_wp2_with fail
          refine HSN.out.mono ?_
          rintro e w8 ⟨rfl, hb⟩
          have hbb : Below w7.heap.size w7 w8 := hb
          have HB := Lib.hid (below_trans HB.out hbb)
          have HP := Lib.hid (HP.out.below hbb)
          have HO := Lib.hid (HO.out.below hbb)
          clear hb hbb HSN
          have HCAR := Lib.hid (H.out.car O p oc w8 (below_trans HB0.out HB.out) HO.out (by omega))
          go_wp2_with fail
          refine HCAR.out.mono ?_
          rintro e wy ⟨⟨y, rfl, hy, hoy⟩, hby⟩
          have haly : Below wy.heap.size wy (wy.alloc (.cells #[y.v, y.l, y.i] 31)) := (Below.refl _ _).alloc (Nat.le_refl _) _
          have HBZ := Lib.hid (below_trans hby haly)
          have HST := Lib.hid (stain_own (B := w8.heap.size) (own_next hoy haly) HBZ.out.size (show (byC y.ca).length ≤ 100000 from by rw [hy]; exact HYL.out))
          have hbx := BlkC.new wy y
          have y0 := hbx.cell0
          have y1 := hbx.cell1
          have y2 := hbx.cell2
          clear hby haly hy hoy hbx HCAR
          go_wp2_with fail
          generalize World.alloc wy _ = wz at *
          refine HST.out.mono ?_
          rintro e wv ⟨rfl, hbv⟩
          have hbz := below_step HBZ.out hbv
          have HBV := Lib.hid (below_trans HB.out hbz)
          have d1 := convB wv A n p (HP.out.below hbz)
          have d2 := convB wv O oc p (HO.out.below hbz)
          have j9 : (p == p) = true := by simp
          clear hbv hbz y0 y1 y2 HST HBZ
          go_wp2_with fail
          go_ret
          exact ⟨rfl, HBV.out⟩
        | true =>
          have b0 := cellW (i := 0) HBOX.out
          have b1 := cellW (i := 1) HBOX.out
          have hle := conX_len HCR.out
          have hle : 2 * (vs.length + ls.length) ≤ p.length := hle
          obtain ⟨v2, hv2⟩ : ∃ v2, compC vs ls = v2 := ⟨_, rfl⟩
          have HCOM := Lib.hid (H.out.com _ vs ls w7 (below_trans HB0.out HB.out) (HoldsC.mk HVV.out HLL.out) (by omega))
          rw [hv2] at HCOM
          have HV2 := Lib.hid hv2
          clear hv2
          cases v2 with
          | false =>
            have HCX := Lib.hid (show conX p = none from by rw [conX_of, HCR.out]; show (if compC vs ls = true then some (vs, ls) else none) = none; rw [HV2.out]; rfl)
            go_wp2_with fail
            refine HCOM.out.mono ?_
            rintro e w8 ⟨rfl, hb⟩
            have hbb : Below w7.heap.size w7 w8 := hb
            have HB := Lib.hid (below_trans HB.out hbb)
            have HP := Lib.hid (HP.out.below hbb)
            have HO := Lib.hid (HO.out.below hbb)
            clear hb hbb HCOM HCR HBOX HVV HLL b0 b1 hle
            have HSN := Lib.hid (lawSeen H.out O p oc none none [] [] 0 0 12 w8 (below_trans HB0.out HB.out) HO.out (by omega) (Holds.nil _) (Holds.nil _) (by rw [HCX.out]; rfl) (by rw [HCX.out]; rfl))
            go_wp2_with fail
            refine HSN.out.mono ?_
            rintro e w9 ⟨rfl, hb⟩
            have hbb : Below w8.heap.size w8 w9 := hb
            have HB := Lib.hid (below_trans HB.out hbb)
            have HP := Lib.hid (HP.out.below hbb)
            have HO := Lib.hid (HO.out.below hbb)
            clear hb hbb HSN
            have HCAR := Lib.hid (H.out.car O p oc w9 (below_trans HB0.out HB.out) HO.out (by omega))
            go_wp2_with fail
            refine HCAR.out.mono ?_
            rintro e wy ⟨⟨y, rfl, hy, hoy⟩, hby⟩
            have haly : Below wy.heap.size wy (wy.alloc (.cells #[y.v, y.l, y.i] 31)) := (Below.refl _ _).alloc (Nat.le_refl _) _
            have HBZ := Lib.hid (below_trans hby haly)
            have HST := Lib.hid (stain_own (B := w9.heap.size) (own_next hoy haly) HBZ.out.size (show (byC y.ca).length ≤ 100000 from by rw [hy]; exact HYL.out))
            have hbx := BlkC.new wy y
            have y0 := hbx.cell0
            have y1 := hbx.cell1
            have y2 := hbx.cell2
            clear hby haly hy hoy hbx HCAR
            go_wp2_with fail
            generalize World.alloc wy _ = wz at *
            refine HST.out.mono ?_
            rintro e wv ⟨rfl, hbv⟩
            have hbz := below_step HBZ.out hbv
            have HBV := Lib.hid (below_trans HB.out hbz)
            have d1 := convB wv A n p (HP.out.below hbz)
            have d2 := convB wv O oc p (HO.out.below hbz)
            have j9 : (p == p) = true := by simp
            clear hbv hbz y0 y1 y2 HST HBZ
            go_wp2_with fail
            go_ret
            exact ⟨rfl, HBV.out⟩
          | true =>
            have HCX := Lib.hid (show conX p = some (vs, ls) from by rw [conX_of, HCR.out]; show (if compC vs ls = true then some (vs, ls) else none) = some (vs, ls); rw [HV2.out]; rfl)
            go_wp2_with fail
            refine HCOM.out.mono ?_
            rintro e w8 ⟨rfl, hb⟩
            have hbb : Below w7.heap.size w7 w8 := hb
            have HB := Lib.hid (below_trans HB.out hbb)
            have HP := Lib.hid (HP.out.below hbb)
            have HO := Lib.hid (HO.out.below hbb)
            have hlt8 := (Array.getElem?_eq_some_iff.1 HBOX.out).1
            have e0 := cellW (i := 0) ((hb.block _ hlt8).trans HBOX.out)
            have e1 := cellW (i := 1) ((hb.block _ hlt8).trans HBOX.out)
            have HSN := Lib.hid (lawSeen H.out O p oc D E vs ls d k 0 w8 (below_trans HB0.out HB.out) HO.out (by omega) (HVV.out.below hb) (HLL.out.below hb) (by rw [HCX.out]; rfl) (by rw [HCX.out]; rfl))
            clear hb hbb HCOM HCR HBOX HVV HLL b0 b1 hle hlt8
            go_wp2_with fail
            refine HSN.out.mono ?_
            rintro e w9 ⟨rfl, hb⟩
            have hbb : Below w8.heap.size w8 w9 := hb
            have HB := Lib.hid (below_trans HB.out hbb)
            have HP := Lib.hid (HP.out.below hbb)
            have HO := Lib.hid (HO.out.below hbb)
            clear hb hbb HSN e0 e1
            have HCAR := Lib.hid (H.out.car O p oc w9 (below_trans HB0.out HB.out) HO.out (by omega))
            go_wp2_with fail
            refine HCAR.out.mono ?_
            rintro e wy ⟨⟨y, rfl, hy, hoy⟩, hby⟩
            have haly : Below wy.heap.size wy (wy.alloc (.cells #[y.v, y.l, y.i] 31)) := (Below.refl _ _).alloc (Nat.le_refl _) _
            have HBZ := Lib.hid (below_trans hby haly)
            have HST := Lib.hid (stain_own (B := w9.heap.size) (own_next hoy haly) HBZ.out.size (show (byC y.ca).length ≤ 100000 from by rw [hy]; exact HYL.out))
            have hbx := BlkC.new wy y
            have y0 := hbx.cell0
            have y1 := hbx.cell1
            have y2 := hbx.cell2
            clear hby haly hy hoy hbx HCAR
            go_wp2_with fail
            generalize World.alloc wy _ = wz at *
            refine HST.out.mono ?_
            rintro e wv ⟨rfl, hbv⟩
            have hbz := below_step HBZ.out hbv
            have HBV := Lib.hid (below_trans HB.out hbz)
            have d1 := convB wv A n p (HP.out.below hbz)
            have d2 := convB wv O oc p (HO.out.below hbz)
            have j9 : (p == p) = true := by simp
            clear hbv hbz y0 y1 y2 HST HBZ
            go_wp2_with fail
            go_ret
            exact ⟨rfl, HBV.out⟩
      · have HDC := Lib.hid (show decC p = none from by rw [decC_pre, HPR.out]; exact if_neg hml)
        have j0 : ((m : Int) == (p.length : Int)) = false := by simp; omega
        have HIS := Lib.hid (lawIs_f H.out O p oc z w4 (below_trans HB0.out HB.out) HO.out (by omega) (KZ.out.ok (g := g) (by simp)) HDC.out)
        obtain ⟨x0, x1, x2, xl, _⟩ := KZ.out.sp
        go_wp2_with fail
        refine HIS.out.mono ?_
        rintro e w5 ⟨rfl, hb⟩
        have hbb : Below w4.heap.size w4 w5 := hb
        have HB := Lib.hid (below_trans HB.out hbb)
        have HP := Lib.hid (HP.out.below hbb)
        have HO := Lib.hid (HO.out.below hbb)
        have KZ := Lib.hid (KZ.out.next hb)
        clear hb hbb HIS x0 x1 x2 xl
        clear j0 hml
        have HBG := Lib.hid (lawBegins H.out O p oc z m 0 w5 (below_trans HB0.out HB.out) HO.out (by omega) (KZ.out.ok (g := g) (by simp)) HZL.out (by rw [HPR.out]; rfl) (by rw [HPR.out]; rfl) (by rw [HPR.out]; rfl))
        obtain ⟨x0, x1, x2, xl, _⟩ := KZ.out.sp
        go_wp2_with fail
        refine HBG.out.mono ?_
        rintro e w6 ⟨rfl, hb⟩
        have hbb : Below w5.heap.size w5 w6 := hb
        have HB := Lib.hid (below_trans HB.out hbb)
        have HP := Lib.hid (HP.out.below hbb)
        have HO := Lib.hid (HO.out.below hbb)
        clear hb hbb HBG x0 x1 x2 xl
        clear KZ
        have HCTX := Lib.hid (refContext15 A p n w6 HP.out (by omega))
        go_wp2_with fail
        refine HCTX.out.mono ?_
        rintro e wt ⟨⟨vs, ls, D, E, d, k, b, rfl, hrx, _, _, hcr, _⟩, hbt⟩
        have halt : Below wt.heap.size wt (wt.alloc (.cells #[.slice D vs.length d, .slice E ls.length k] 28)) := (Below.refl _ _).alloc (Nat.le_refl _) _
        have hbox : (wt.alloc (.cells #[.slice D vs.length d, .slice E ls.length k] 28)).heap[wt.heap.size]? = some (.cells #[.slice D vs.length d, .slice E ls.length k] 28 (0, 0)) := heap_alloc_new wt _
        have hbb : Below w6.heap.size w6 (wt.alloc (.cells #[.slice D vs.length d, .slice E ls.length k] 28)) := below_trans hbt halt
        have HB := Lib.hid (below_trans HB.out hbb)
        have HP := Lib.hid (HP.out.below hbb)
        have HO := Lib.hid (HO.out.below hbb)
        have HVV := Lib.hid ((own_holds hrx.1).below halt)
        have HLL := Lib.hid ((own_holds hrx.2).below halt)
        have HBOX := Lib.hid hbox
        have HCR := Lib.hid hcr
        clear hrx hcr hbt halt hbox hbb HCTX
        go_upto_region 9 with fail
        generalize hq : wt.heap.size = q at HBOX ⊢
        generalize World.alloc wt _ = w7 at *
        clear hq
        cases b with
        | false =>
          have HCX := Lib.hid (show conX p = none from by rw [conX_of, HCR.out]; rfl)
          clear HCR HBOX HVV HLL
          have HSN := Lib.hid (lawSeen H.out O p oc none none [] [] 0 0 12 w7 (below_trans HB0.out HB.out) HO.out (by omega) (Holds.nil _) (Holds.nil _) (by rw [HCX.out]; rfl) (by rw [HCX.out]; rfl))
          go_wp2_with fail
          refine HSN.out.mono ?_
          rintro e w8 ⟨rfl, hb⟩
          have hbb : Below w7.heap.size w7 w8 := hb
          have HB := Lib.hid (below_trans HB.out hbb)
          have HP := Lib.hid (HP.out.below hbb)
          have HO := Lib.hid (HO.out.below hbb)
          clear hb hbb HSN
          have HCAR := Lib.hid (H.out.car O p oc w8 (below_trans HB0.out HB.out) HO.out (by omega))
          go_wp2_with fail
          refine HCAR.out.mono ?_
          rintro e wy ⟨⟨y, rfl, hy, hoy⟩, hby⟩
          have haly : Below wy.heap.size wy (wy.alloc (.cells #[y.v, y.l, y.i] 31)) := (Below.refl _ _).alloc (Nat.le_refl _) _
          have HBZ := Lib.hid (below_trans hby haly)
          have HST := Lib.hid (stain_own (B := w8.heap.size) (own_next hoy haly) HBZ.out.size (show (byC y.ca).length ≤ 100000 from by rw [hy]; exact HYL.out))
          have hbx := BlkC.new wy y
          have y0 := hbx.cell0
          have y1 := hbx.cell1
          have y2 := hbx.cell2
          clear hby haly hy hoy hbx HCAR
          go_wp2_with fail
          generalize World.alloc wy _ = wz at *
          refine HST.out.mono ?_
          rintro e wv ⟨rfl, hbv⟩
          have hbz := below_step HBZ.out hbv
          have HBV := Lib.hid (below_trans HB.out hbz)
          have d1 := convB wv A n p (HP.out.below hbz)
          have d2 := convB wv O oc p (HO.out.below hbz)
          have j9 : (p == p) = true := by simp
          clear hbv hbz y0 y1 y2 HST HBZ
          go_wp2_with fail
          go_ret
          exact ⟨rfl, HBV.out⟩
        | true =>
          have b0 := cellW (i := 0) HBOX.out
          have b1 := cellW (i := 1) HBOX.out
          have hle := conX_len HCR.out
          have hle : 2 * (vs.length + ls.length) ≤ p.length := hle
          obtain ⟨v2, hv2⟩ : ∃ v2, compC vs ls = v2 := ⟨_, rfl⟩
          have HCOM := Lib.hid (H.out.com _ vs ls w7 (below_trans HB0.out HB.out) (HoldsC.mk HVV.out HLL.out) (by omega))
          rw [hv2] at HCOM
          have HV2 := Lib.hid hv2
          clear hv2
          cases v2 with
          | false =>
            have HCX := Lib.hid (show conX p = none from by rw [conX_of, HCR.out]; show (if compC vs ls = true then some (vs, ls) else none) = none; rw [HV2.out]; rfl)
            go_wp2_with fail
            refine HCOM.out.mono ?_
            rintro e w8 ⟨rfl, hb⟩
            have hbb : Below w7.heap.size w7 w8 := hb
            have HB := Lib.hid (below_trans HB.out hbb)
            have HP := Lib.hid (HP.out.below hbb)
            have HO := Lib.hid (HO.out.below hbb)
            clear hb hbb HCOM HCR HBOX HVV HLL b0 b1 hle
            have HSN := Lib.hid (lawSeen H.out O p oc none none [] [] 0 0 12 w8 (below_trans HB0.out HB.out) HO.out (by omega) (Holds.nil _) (Holds.nil _) (by rw [HCX.out]; rfl) (by rw [HCX.out]; rfl))
            go_wp2_with fail
            refine HSN.out.mono ?_
            rintro e w9 ⟨rfl, hb⟩
            have hbb : Below w8.heap.size w8 w9 := hb
            have HB := Lib.hid (below_trans HB.out hbb)
            have HP := Lib.hid (HP.out.below hbb)
            have HO := Lib.hid (HO.out.below hbb)
            clear hb hbb HSN
            have HCAR := Lib.hid (H.out.car O p oc w9 (below_trans HB0.out HB.out) HO.out (by omega))
            go_wp2_with fail
            refine HCAR.out.mono ?_
            rintro e wy ⟨⟨y, rfl, hy, hoy⟩, hby⟩
            have haly : Below wy.heap.size wy (wy.alloc (.cells #[y.v, y.l, y.i] 31)) := (Below.refl _ _).alloc (Nat.le_refl _) _
            have HBZ := Lib.hid (below_trans hby haly)
            have HST := Lib.hid (stain_own (B := w9.heap.size) (own_next hoy haly) HBZ.out.size (show (byC y.ca).length ≤ 100000 from by rw [hy]; exact HYL.out))
            have hbx := BlkC.new wy y
            have y0 := hbx.cell0
            have y1 := hbx.cell1
            have y2 := hbx.cell2
            clear hby haly hy hoy hbx HCAR
            go_wp2_with fail
            generalize World.alloc wy _ = wz at *
            refine HST.out.mono ?_
            rintro e wv ⟨rfl, hbv⟩
            have hbz := below_step HBZ.out hbv
            have HBV := Lib.hid (below_trans HB.out hbz)
            have d1 := convB wv A n p (HP.out.below hbz)
            have d2 := convB wv O oc p (HO.out.below hbz)
            have j9 : (p == p) = true := by simp
            clear hbv hbz y0 y1 y2 HST HBZ
            go_wp2_with fail
            go_ret
            exact ⟨rfl, HBV.out⟩
          | true =>
            have HCX := Lib.hid (show conX p = some (vs, ls) from by rw [conX_of, HCR.out]; show (if compC vs ls = true then some (vs, ls) else none) = some (vs, ls); rw [HV2.out]; rfl)
            go_wp2_with fail
            refine HCOM.out.mono ?_
            rintro e w8 ⟨rfl, hb⟩
            have hbb : Below w7.heap.size w7 w8 := hb
            have HB := Lib.hid (below_trans HB.out hbb)
            have HP := Lib.hid (HP.out.below hbb)
            have HO := Lib.hid (HO.out.below hbb)
            have hlt8 := (Array.getElem?_eq_some_iff.1 HBOX.out).1
            have e0 := cellW (i := 0) ((hb.block _ hlt8).trans HBOX.out)
            have e1 := cellW (i := 1) ((hb.block _ hlt8).trans HBOX.out)
            have HSN := Lib.hid (lawSeen H.out O p oc D E vs ls d k 0 w8 (below_trans HB0.out HB.out) HO.out (by omega) (HVV.out.below hb) (HLL.out.below hb) (by rw [HCX.out]; rfl) (by rw [HCX.out]; rfl))
            clear hb hbb HCOM HCR HBOX HVV HLL b0 b1 hle hlt8
            go_wp2_with fail
            refine HSN.out.mono ?_
            rintro e w9 ⟨rfl, hb⟩
            have hbb : Below w8.heap.size w8 w9 := hb
            have HB := Lib.hid (below_trans HB.out hbb)
            have HP := Lib.hid (HP.out.below hbb)
            have HO := Lib.hid (HO.out.below hbb)
            clear hb hbb HSN e0 e1
            have HCAR := Lib.hid (H.out.car O p oc w9 (below_trans HB0.out HB.out) HO.out (by omega))
            go_wp2_with fail
            refine HCAR.out.mono ?_
            rintro e wy ⟨⟨y, rfl, hy, hoy⟩, hby⟩
            have haly : Below wy.heap.size wy (wy.alloc (.cells #[y.v, y.l, y.i] 31)) := (Below.refl _ _).alloc (Nat.le_refl _) _
            have HBZ := Lib.hid (below_trans hby haly)
            have HST := Lib.hid (stain_own (B := w9.heap.size) (own_next hoy haly) HBZ.out.size (show (byC y.ca).length ≤ 100000 from by rw [hy]; exact HYL.out))
            have hbx := BlkC.new wy y
            have y0 := hbx.cell0
            have y1 := hbx.cell1
            have y2 := hbx.cell2
            clear hby haly hy hoy hbx HCAR
            go_wp2_with fail
            generalize World.alloc wy _ = wz at *
            refine HST.out.mono ?_
            rintro e wv ⟨rfl, hbv⟩
            have hbz := below_step HBZ.out hbv
            have HBV := Lib.hid (below_trans HB.out hbz)
            have d1 := convB wv A n p (HP.out.below hbz)
            have d2 := convB wv O oc p (HO.out.below hbz)
            have j9 : (p == p) = true := by simp
            clear hbv hbz y0 y1 y2 HST HBZ
            go_wp2_with fail
            go_ret
            exact ⟨rfl, HBV.out⟩

end

end Go.Proofs.YtpnemekkpifbaaaGreat
