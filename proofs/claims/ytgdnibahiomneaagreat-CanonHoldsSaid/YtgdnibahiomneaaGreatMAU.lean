/- Several texts in one: CanN. -/
import Derived.Test.YtgdnibahiomneaaGreatMAT
namespace Go.Proofs.YtgdnibahiomneaaGreat

section
open Go.RowKit

theorem Rb.wants {x : Rb} {ops : Array Oper} {a0 : Act} {L : Nat → Bool} {a : Act} {W : World} (hI : InvT ops a0 x.S L a W) {o : Oper} {j d : Nat} {b : Bool} (hg : o.guard = some (j, b)) (hL : L j = true) (hd : dstOf ops j = some d) (hu : x.known j = some (.bool b)) : Region.wanted o (yielded ops a.tmps) = true :=
  InvT.wants hI hg hL hd fun _ h => h _ hu
/-- The region in which the bytes of a context are compared. -/
def encX6 (E W0 : World) (xs : List UInt8) (c : CaV) (A : Option Addr) (n g : Nat) : Rb where
  E := E
  W0 := W0
  n := 64
  D := .slice none 0 0
  acc := []
  m := none
  s := 100
  rows := [⟨4, 25, xs, none⟩]
  known := fun
    | 0 => some (.slice A xs.length n)
    | 1 => some (.string ⟨xs.toArray⟩)
    | 2 => some (.pointer (some ⟨g, 0, none⟩))
    | 3 => some (.agg #[c.v, c.l])
    | 5 => some (.string ⟨xs.toArray⟩)
    | 6 => some (.bool false)
    | 7 => some (.bool false)
    | 8 => some (.int .i64 0)
    | 9 => some (.bool false)
    | 10 => some (.bool false)
    | _ => none
/-- The region in which the bytes of a cart are asked for, and whether it is as it was. -/
def encX12 (E W0 : World) (ys : List UInt8) (c z : CaV) : Rb where
  E := E
  W0 := W0
  n := 64
  D := .slice none 0 0
  acc := []
  m := none
  s := 100
  rows := [⟨2, 54, ys, none⟩]
  known := fun
    | 0 => some (mkC c)
    | 1 => some (mkC c)
    | 3 => some (.bool true)
    | 4 => some (.bool true)
    | 5 => some (mkC c)
    | 6 => some (mkC z)
    | 7 => some (.bool true)
    | 8 => some (.bool true)
    | 9 => some (.bool true)
    | 10 => some (.bool true)
    | 11 => some (.bool true)
    | 12 => some (.bool true)
    | _ => none

set_option maxRecDepth 100000 in
set_option maxHeartbeats 1500000 in
theorem lawEncodes_14 (c : CaV) (w : World) (hf : CanOK w) (hk : Known14 w) (hc : CaOK w c) (ht : TimC c.ca) :
    Calls Tryz.prog 3 #[mkC c] w (OneB (.bool true) w) := by
  have HF := Lib.hid hf
  have HKN := Lib.hid hk
  have HK := Lib.hid (KK.new w c hc)
  obtain ⟨s, hs⟩ : ∃ s, small14 c.ca = s := ⟨_, rfl⟩
  have HS := Lib.hid fun (W : World) (h : CaOK W c) => refSmall14 c s W h hs
  have HFC := Lib.hid fun (h : s = true) => small_fit (by rw [hs, h]) ht
  clear hf hk hc ht hs
  go_enter Tryz.func3, Tryz.ntmps3
  go_upto_region 1 with fail
  generalize World.alloc w _ = w2 at HK ⊢
  obtain ⟨x0, x1, x2, xl, _⟩ := HK.out.sp
  go_wp2_with fail
  refine (HS.out _ (HK.out.ok (g := w.heap.size) (by simp))).mono ?_
  rintro e9 w3 ⟨rfl, hb⟩
  clear x0 x1 x2 xl
  replace HK := Lib.hid (HK.out.next hb)
  clear hb
  cases s with
  | false =>
    go_wp2_with fail
    refine (HKN.out _ HK.out.bel).mono ?_
    rintro e9 w9 ⟨rfl, hb⟩
    replace HK := Lib.hid (HK.out.next hb)
    clear hb
    go_wp2_with fail
    go_ret
    exact ⟨rfl, HK.out.bel⟩
  | true =>
    have HFI := Lib.hid (HFC.out rfl)
    clear HS HFC
    obtain ⟨x0, x1, x2, xl, _⟩ := HK.out.sp
    go_wp2_with fail
    refine (refCopy14 c _ (HK.out.ok (g := w.heap.size) (by simp)) HFI.out.len).mono ?_
    rintro e9 w4 ⟨⟨z, rfl, hz, hzo⟩, hb⟩
    clear x0 x1 x2 xl
    replace HK := Lib.hid (HK.out.next hb)
    have hk2 := KK.push HK.out z hzo w4.heap.size rfl
    clear hb hzo HK
    go_upto_region 4 with fail
    generalize World.alloc w4 _ = w5 at hk2 ⊢
    generalize w4.heap.size = g2 at hk2 ⊢
    have HK := Lib.hid (show KK w [(w.heap.size, c), (g2, z)] w5 from hk2)
    clear hk2
    have HSM := Lib.hid fun (W : World) (h : KK w [(w.heap.size, c), (g2, z)] W) => refSame14 c z true W (h.ok (g := w.heap.size) (by simp)) (h.ok (g := g2) (by simp)) (by have := HFI.out.2.2.1; simp [CaV.ca, its] at this; omega) (by
      have h1 := HFI.out.2.2.1
      rw [← hz] at h1
      simp [CaV.ca, its] at h1
      omega) (fun x hx => by
      have h1 := (HFI.out.2.2.2.2 x.it (by simp only [CaV.ca, its]; exact List.mem_map_of_mem hx)).2.1
      have h2 : x.ms.length ≤ 40 := h1
      omega) (sameC_iff.2 hz.symm)
    clear hz
    have HEN := Lib.hid fun (W : World) (hB : Below w.heap.size w W) (h : CaOK W c) => HF.out.enc c W hB h HFI.out
    have HVA := Lib.hid fun (W : World) (hB : Below w.heap.size w W) (h : CaOK W c) => HF.out.val c W hB h HFI.out
    have HCN := Lib.hid fun (W : World) (hB : Below w.heap.size w W) (h : CaOK W c) => HF.out.con c.V c.L c.vs c.ls c.nv c.nl W hB h.1 h.2.1 HFI.out.1 HFI.out.2.1
    have HCO := Lib.hid fun (W : World) (hB : Below w.heap.size w W) (h : CaOK W c) => HF.out.com c.V c.L c.vs c.ls c.nv c.nl W hB h.1 h.2.1 HFI.out.1 HFI.out.2.1
    have HRC := Lib.hid fun (W : World) (h : CaOK W c) => (show Calls Tryz.prog 13 #[.agg #[c.v, c.l]] W (MadeB (byX (c.vs, c.ls)) W) from by
      obtain ⟨h1, h2, _⟩ := h
      obtain ⟨V', nv', eV, hV, _, _⟩ := h1
      obtain ⟨L', nl', eL, hL, _, _⟩ := h2
      injection eV with e1 _ _
      injection eL with e2 _ _
      exact refContext14 c.V c.L c.vs c.ls c.nv c.nl W (e1 ▸ hV) (e2 ▸ hL) (by have := HFI.out.1; have : c.vs.length ≤ 400 := this; omega) (by have := HFI.out.2.1; have : c.ls.length ≤ 400 := this; omega))
    have HRB := Lib.hid fun (W : World) (h : CaOK W c) => refBytes14 c W h HFI.out.len
    have HBL := Lib.hid (byC_len HFI.out)
    have HXL := Lib.hid (show (byX (c.vs, c.ls)).length ≤ 1000000 from by
      have := byX_len (c := (c.vs, c.ls)) (by have := HFI.out.1; have : c.vs.length ≤ 400 := this; show c.vs.length ≤ 1000; omega) (by have := HFI.out.2.1; have : c.ls.length ≤ 400 := this; show c.ls.length ≤ 1000; omega)
      omega)
    obtain ⟨q, hq⟩ : ∃ q, compC c.vs c.ls = q := ⟨_, rfl⟩
    obtain ⟨v, hv⟩ : ∃ v, validK c.ca = v := ⟨_, rfl⟩
    unfold encV at HEN
    unfold conV at HCN
    rw [hq] at HCN HCO
    rw [hv] at HEN HVA
    clear hq hv HF HFI
    generalize byC c.ca = ys at HEN HRB HBL
    generalize byX (c.vs, c.ls) = xs at HCN HRC HXL
    cases q with
    | false =>
      replace HCN := Lib.hid (show ∀ W : World, Below w.heap.size w W → CaOK W c → Calls Tryz.prog 11 #[.agg #[.slice c.V c.vs.length c.nv, .slice c.L c.ls.length c.nl]] W (BytR [] 2 W) from HCN.out)
      obtain ⟨x0, x1, x2, y0, y1, y2, xl, yl, _⟩ := HK.out.sp2
      go_wp2_with fail
      refine (HCN.out _ HK.out.bel (HK.out.ok (g := w.heap.size) (by simp))).mono ?_
      rintro e9 w6 ⟨⟨A, n, rfl, hr⟩, hb⟩
      clear x0 x1 x2 y0 y1 y2 xl yl
      replace HK := Lib.hid (HK.out.next hb)
      have HX := Lib.hid (HoldsB.of_own hr)
      clear hb hr
      rw [show ([] : List UInt8).length = 0 from rfl]
      clear HX HRC HXL
      obtain ⟨x0, x1, x2, y0, y1, y2, xl, yl, _⟩ := HK.out.sp2
      go_wp2_with fail
      refine (HCO.out _ HK.out.bel (HK.out.ok (g := w.heap.size) (by simp))).mono ?_
      rintro e9 w7 ⟨rfl, hb⟩
      clear x0 x1 x2 y0 y1 y2 xl yl
      replace HK := Lib.hid (HK.out.next hb)
      clear hb HCO HCN
      obtain ⟨x0, x1, x2, y0, y1, y2, xl, yl, _⟩ := HK.out.sp2
      go_wp2_with fail
      refine (HVA.out _ HK.out.bel (HK.out.ok (g := w.heap.size) (by simp))).mono ?_
      rintro e9 wv ⟨rfl, hb⟩
      clear x0 x1 x2 y0 y1 y2 xl yl
      replace HK := Lib.hid (HK.out.next hb)
      clear hb
      cases v with
      | false =>
        have HEN2 := Lib.hid fun (W : World) (hB : Below w.heap.size w W) (h : CaOK W c) => (show Calls Tryz.prog 15 #[mkC c, .slice none 0 0, .int .i64 2] W (OneB (.bool true) W) from lawEncodes14 c [] [] none 0 2 2 true w W HEN.out hB h (HoldsB.nil _) (by simp))
        obtain ⟨x0, x1, x2, y0, y1, y2, xl, yl, _⟩ := HK.out.sp2
        go_wp2_with fail
        refine (HEN2.out _ HK.out.bel (HK.out.ok (g := w.heap.size) (by simp))).mono ?_
        rintro e9 wg ⟨rfl, hb⟩
        clear x0 x1 x2 y0 y1 y2 xl yl
        replace HK := Lib.hid (HK.out.next hb)
        clear hb
        obtain ⟨x0, x1, x2, y0, y1, y2, xl, yl, _⟩ := HK.out.sp2
        go_wp2_with fail
        refine (HSM.out _ HK.out).mono ?_
        rintro e9 wh ⟨rfl, hb⟩
        clear x0 x1 x2 y0 y1 y2 xl yl
        replace HK := Lib.hid (HK.out.next hb)
        clear hb
        go_wp2_with fail
        refine (HKN.out _ HK.out.bel).mono ?_
        rintro e9 w9 ⟨rfl, hb⟩
        replace HK := Lib.hid (HK.out.next hb)
        clear hb
        go_wp2_with fail
        go_ret
        exact ⟨rfl, HK.out.bel⟩
      | true =>
        go_upto_region 12 with fail
        have HKK := Lib.hid fun (W : World) (hW : Chg (fun k => (Value.slice none 0 0).ownBlock = some k) wv W) => HK.out.next (hW.below (Nat.le_refl _) (fun _ e => by cases e))
        have HINJ := Lib.hid (show ∀ q ∈ (encX12 w wv ys c z).rows, ∀ q' ∈ (encX12 w wv ys c z).rows, q.j = q'.j → q = q' from inj_of (show ([2] : List Nat).Nodup from by decide))
        refine wp_region_T (S := Rb.S (encX12 w wv ys c z)) (by kernel_rfl) (by kernel_rfl) (by kernel_rfl) (dst_small (n := 64) (by kernel_rfl)) (Rb.G.start HK.out.bel rfl (by rfl) (fun _ h => by cases h)) ?_ ?_
        · refine ⟨?_, ?_, ?_, ?_, ?_, ?_, ?_, ?_, ?_, ?_, ?_, ?_, ?_, trivial⟩
          · refine stepPure rfl rfl (by kernel_rfl) (by kernel_rfl) (by kernel_rfl) (by kernel_rfl) fun L a9 W hI hk hd => ?_
            have e1 : a9.tmps[1]?.getD undef = .pointer (some ⟨w.heap.size, 0, none⟩) := hI.at 1 (by kernel_rfl)
            obtain ⟨x0, x1, x2, y0, y1, y2, xl, yl, _⟩ := (HKK.out W hI.glob.chg).sp2
            exact ⟨rfl, .agg #[c.v, c.l, c.i], by go_simp, fun u hu => Option.some.inj hu⟩
          · refine stepPure rfl rfl (by kernel_rfl) (by kernel_rfl) (by kernel_rfl) (by kernel_rfl) fun L a9 W hI hk hd => ?_
            have e1 : a9.tmps[1]?.getD undef = .pointer (some ⟨w.heap.size, 0, none⟩) := hI.at 1 (by kernel_rfl)
            obtain ⟨x0, x1, x2, y0, y1, y2, xl, yl, _⟩ := (HKK.out W hI.glob.chg).sp2
            exact ⟨rfl, .agg #[c.v, c.l, c.i], by go_simp, fun u hu => Option.some.inj hu⟩
          · refine stepCall (r0 := ⟨2, 54, ys, none⟩) HINJ.out (by simp [encX12]) rfl rfl rfl rfl (by kernel_rfl) (show 54 < 64 from by decide) (by kernel_rfl) rfl fun L a9 W hI hk hd => ?_
            have e53 := Rb.at hI 1 53 (hd 1 rfl) rfl rfl
            exact ⟨rfl, 17, #[mkC c], by go_simp, HRB.out W ((HKK.out W hI.glob.chg).ok (g := w.heap.size) (by simp))⟩
          · refine stepVal rfl rfl (by kernel_rfl) (by kernel_rfl) (by kernel_rfl) (by kernel_rfl) fun L a9 W hI hk hd => ?_
            have e52 := Rb.at hI 0 52 (hd 0 rfl) rfl rfl
            obtain ⟨A1, c1, e54, _, h54⟩ := Rb.slice hI (r := ⟨2, 54, ys, none⟩) (by simp [encX12]) ⟨hd 2 rfl, fun _ h => by cases h⟩
            have e54 : a9.tmps[54]?.getD undef = .slice A1 ys.length c1 := e54
            refine ⟨rfl, 15, #[mkC c, .slice A1 ys.length c1, .int .i64 0], by go_simp, (lawEncodes14 c ys ys A1 c1 0 0 true w W HEN.out (HKK.out W hI.glob.chg).bel ((HKK.out W hI.glob.chg).ok (g := w.heap.size) (by simp)) h54 (by simp)).mono ?_⟩
            rintro e W9 ⟨rfl, hb⟩
            exact ⟨_, rfl, hb, fun u hu => Option.some.inj hu⟩
          · refine stepPure rfl rfl (by kernel_rfl) (by kernel_rfl) (by kernel_rfl) (by kernel_rfl) fun L a9 W hI hk hd => ?_
            have e55 := Rb.at hI 3 55 (hd 3 rfl) rfl rfl
            exact ⟨rfl, .bool true, by go_simp, fun u hu => Option.some.inj hu⟩
          · refine stepPure rfl rfl (by kernel_rfl) (by kernel_rfl) (by kernel_rfl) (by kernel_rfl) fun L a9 W hI hk hd => ?_
            have e1 : a9.tmps[1]?.getD undef = .pointer (some ⟨w.heap.size, 0, none⟩) := hI.at 1 (by kernel_rfl)
            obtain ⟨x0, x1, x2, y0, y1, y2, xl, yl, _⟩ := (HKK.out W hI.glob.chg).sp2
            exact ⟨(Rb.wants hI (j := 4) (d := 56) rfl (hd 4 rfl) rfl rfl), .agg #[c.v, c.l, c.i], by go_simp, fun u hu => Option.some.inj hu⟩
          · refine stepPure rfl rfl (by kernel_rfl) (by kernel_rfl) (by kernel_rfl) (by kernel_rfl) fun L a9 W hI hk hd => ?_
            have e3 : a9.tmps[3]?.getD undef = .pointer (some ⟨g2, 0, none⟩) := hI.at 3 (by kernel_rfl)
            obtain ⟨x0, x1, x2, y0, y1, y2, xl, yl, _⟩ := (HKK.out W hI.glob.chg).sp2
            exact ⟨(Rb.wants hI (j := 4) (d := 56) rfl (hd 4 rfl) rfl rfl), .agg #[z.v, z.l, z.i], by go_simp, fun u hu => Option.some.inj hu⟩
          · refine stepVal rfl rfl (by kernel_rfl) (by kernel_rfl) (by kernel_rfl) (by kernel_rfl) fun L a9 W hI hk hd => ?_
            have e57 := Rb.at hI 5 57 (hd 5 rfl) rfl rfl
            have e58 := Rb.at hI 6 58 (hd 6 rfl) rfl rfl
            refine ⟨(Rb.wants hI (j := 4) (d := 56) rfl (hd 4 rfl) rfl rfl), 16, #[mkC c, mkC z], by go_simp, (HSM.out W (HKK.out W hI.glob.chg)).mono ?_⟩
            rintro e W9 ⟨rfl, hb⟩
            exact ⟨_, rfl, hb, fun u hu => Option.some.inj hu⟩
          · refine stepPure rfl rfl (by kernel_rfl) (by kernel_rfl) (by kernel_rfl) (by kernel_rfl) fun L a9 W hI hk hd => ?_
            have e56 := Rb.at hI 4 56 (hd 4 rfl) rfl rfl
            have e59 := Rb.at hI 7 59 (hd 7 rfl) rfl rfl
            exact ⟨rfl, .bool true, by go_simp, fun u hu => Option.some.inj hu⟩
          · refine stepPure rfl rfl (by kernel_rfl) (by kernel_rfl) (by kernel_rfl) (by kernel_rfl) fun L a9 W hI hk hd => ?_
            have e60 := Rb.at hI 8 60 (hd 8 rfl) rfl rfl
            exact ⟨rfl, .bool true, by go_simp, fun u hu => Option.some.inj hu⟩
          · refine stepVal rfl rfl (by kernel_rfl) (by kernel_rfl) (by kernel_rfl) (by kernel_rfl) fun L a9 W hI hk hd => ?_
            refine ⟨(Rb.wants hI (j := 9) (d := 61) rfl (hd 9 rfl) rfl rfl), 9, #[], by go_simp, (HKN.out W (HKK.out W hI.glob.chg).bel).mono ?_⟩
            rintro e W9 ⟨rfl, hb⟩
            exact ⟨_, rfl, hb, fun u hu => Option.some.inj hu⟩
          · refine stepPure rfl rfl (by kernel_rfl) (by kernel_rfl) (by kernel_rfl) (by kernel_rfl) fun L a9 W hI hk hd => ?_
            have e61 := Rb.at hI 9 61 (hd 9 rfl) rfl rfl
            have e62 := Rb.at hI 10 62 (hd 10 rfl) rfl rfl
            exact ⟨rfl, .bool true, by go_simp, fun u hu => Option.some.inj hu⟩
          · refine stepPure rfl rfl (by kernel_rfl) (by kernel_rfl) (by kernel_rfl) (by kernel_rfl) fun L a9 W hI hk hd => ?_
            have e63 := Rb.at hI 11 63 (hd 11 rfl) rfl rfl
            exact ⟨rfl, .bool true, by go_simp, fun u hu => Option.some.inj hu⟩
        · intro a9 W L hL hI
          have e2 := Rb.at hI 12 2 (hL 12 (by decide)) rfl rfl
          have e2' : a9.eval (.tmp 2) = .bool true := by rw [eval_tmp]; exact e2
          replace HK := Lib.hid (HKK.out W hI.glob.chg)
          rw [hI.frame]
          simp only [List.filterMap, List.foldl]
          rw [e2']
          clear hI hL HINJ HKK e2 e2' 
          generalize a9.eval (.tmp 52) = v52
          generalize a9.eval (.tmp 53) = v53
          generalize a9.eval (.tmp 54) = v54
          generalize a9.eval (.tmp 55) = v55
          generalize a9.eval (.tmp 56) = v56
          generalize a9.eval (.tmp 57) = v57
          generalize a9.eval (.tmp 58) = v58
          generalize a9.eval (.tmp 59) = v59
          generalize a9.eval (.tmp 60) = v60
          generalize a9.eval (.tmp 61) = v61
          generalize a9.eval (.tmp 62) = v62
          generalize a9.eval (.tmp 63) = v63
          simp only [List.setIfInBounds_toArray, List.set_cons_succ, List.set_cons_zero]
          go_wp2_with fail
          go_ret
          exact ⟨rfl, HK.out.bel⟩
    | true =>
      replace HCN := Lib.hid (show ∀ W : World, Below w.heap.size w W → CaOK W c → Calls Tryz.prog 11 #[.agg #[.slice c.V c.vs.length c.nv, .slice c.L c.ls.length c.nl]] W (BytR xs 0 W) from HCN.out)
      obtain ⟨x0, x1, x2, y0, y1, y2, xl, yl, _⟩ := HK.out.sp2
      go_wp2_with fail
      refine (HCN.out _ HK.out.bel (HK.out.ok (g := w.heap.size) (by simp))).mono ?_
      rintro e9 w6 ⟨⟨A, n, rfl, hr⟩, hb⟩
      clear x0 x1 x2 y0 y1 y2 xl yl
      replace HK := Lib.hid (HK.out.next hb)
      have HX := Lib.hid (HoldsB.of_own hr)
      clear hb hr
      obtain ⟨x0, x1, x2, y0, y1, y2, xl, yl, _⟩ := HK.out.sp2
      go_wp2_with fail
      refine (HCO.out _ HK.out.bel (HK.out.ok (g := w.heap.size) (by simp))).mono ?_
      rintro e9 w7 ⟨rfl, hb⟩
      clear x0 x1 x2 y0 y1 y2 xl yl
      replace HK := Lib.hid (HK.out.next hb)
      replace HX := Lib.hid (HX.out.below hb)
      clear hb HCO HCN
      go_upto_region 6 with fail
      have HKK := Lib.hid fun (W : World) (hW : Chg (fun k => (Value.slice none 0 0).ownBlock = some k) w7 W) => HK.out.next (hW.below (Nat.le_refl _) (fun _ e => by cases e))
      have HXX := Lib.hid fun (W : World) (hW : Chg (fun k => (Value.slice none 0 0).ownBlock = some k) w7 W) => HX.out.below (hW.below (Nat.le_refl _) (fun _ e => by cases e))
      have HINJ := Lib.hid (show ∀ q ∈ (encX6 w w7 xs c A n w.heap.size).rows, ∀ q' ∈ (encX6 w w7 xs c A n w.heap.size).rows, q.j = q'.j → q = q' from inj_of (show ([4] : List Nat).Nodup from by decide))
      refine wp_region_T (S := Rb.S (encX6 w w7 xs c A n w.heap.size)) (by kernel_rfl) (by kernel_rfl) (by kernel_rfl) (dst_small (n := 64) (by kernel_rfl)) (Rb.G.start HK.out.bel rfl (by rfl) (fun _ h => by cases h)) ?_ ?_
      · refine ⟨?_, ?_, ?_, ?_, ?_, ?_, ?_, ?_, ?_, ?_, ?_, trivial⟩
        · refine stepPure rfl rfl (by kernel_rfl) (by kernel_rfl) (by kernel_rfl) (by kernel_rfl) fun L a9 W hI hk hd => ?_
          have e4 : a9.tmps[4]?.getD undef = .slice A xs.length n := hI.at 4 (by kernel_rfl)
          exact ⟨rfl, .slice A xs.length n, by go_simp, fun u hu => Option.some.inj hu⟩
        · refine stepPure rfl rfl (by kernel_rfl) (by kernel_rfl) (by kernel_rfl) (by kernel_rfl) fun L a9 W hI hk hd => ?_
          have e21 := Rb.at hI 0 21 (hd 0 rfl) rfl rfl
          have d1 := convB W A n xs (HXX.out W hI.glob.chg)
          exact ⟨rfl, .string ⟨xs.toArray⟩, by go_simp, fun u hu => Option.some.inj hu⟩
        · refine stepPure rfl rfl (by kernel_rfl) (by kernel_rfl) (by kernel_rfl) (by kernel_rfl) fun L a9 W hI hk hd => ?_
          have e1 : a9.tmps[1]?.getD undef = .pointer (some ⟨w.heap.size, 0, none⟩) := hI.at 1 (by kernel_rfl)
          exact ⟨rfl, .pointer (some ⟨w.heap.size, 0, none⟩), by go_simp, fun u hu => Option.some.inj hu⟩
        · refine stepPure rfl rfl (by kernel_rfl) (by kernel_rfl) (by kernel_rfl) (by kernel_rfl) fun L a9 W hI hk hd => ?_
          have e23 := Rb.at hI 2 23 (hd 2 rfl) rfl rfl
          obtain ⟨x0, x1, x2, y0, y1, y2, xl, yl, _⟩ := (HKK.out W hI.glob.chg).sp2
          exact ⟨rfl, .agg #[c.v, c.l], by go_simp, fun u hu => Option.some.inj hu⟩
        · refine stepCall (r0 := ⟨4, 25, xs, none⟩) HINJ.out (by simp [encX6]) rfl rfl rfl rfl (by kernel_rfl) (show 25 < 64 from by decide) (by kernel_rfl) rfl fun L a9 W hI hk hd => ?_
          have e24 := Rb.at hI 3 24 (hd 3 rfl) rfl rfl
          exact ⟨rfl, 13, #[.agg #[c.v, c.l]], by go_simp, HRC.out W ((HKK.out W hI.glob.chg).ok (g := w.heap.size) (by simp))⟩
        · refine stepPure rfl rfl (by kernel_rfl) (by kernel_rfl) (by kernel_rfl) (by kernel_rfl) fun L a9 W hI hk hd => ?_
          obtain ⟨A1, c1, e25, _, h25⟩ := Rb.slice hI (r := ⟨4, 25, xs, none⟩) (by simp [encX6]) ⟨hd 4 rfl, fun _ h => by cases h⟩
          have e25 : a9.tmps[25]?.getD undef = .slice A1 xs.length c1 := e25
          have d1 := convB W A1 c1 xs h25
          exact ⟨rfl, .string ⟨xs.toArray⟩, by go_simp, fun u hu => Option.some.inj hu⟩
        · refine stepPure rfl rfl (by kernel_rfl) (by kernel_rfl) (by kernel_rfl) (by kernel_rfl) fun L a9 W hI hk hd => ?_
          have e22 := Rb.at hI 1 22 (hd 1 rfl) rfl rfl
          have e26 := Rb.at hI 5 26 (hd 5 rfl) rfl rfl
          have j1 : (xs == xs) = true := by simp
          exact ⟨rfl, .bool false, by go_simp, fun u hu => Option.some.inj hu⟩
        · refine stepPure rfl rfl (by kernel_rfl) (by kernel_rfl) (by kernel_rfl) (by kernel_rfl) fun L a9 W hI hk hd => ?_
          have e27 := Rb.at hI 6 27 (hd 6 rfl) rfl rfl
          exact ⟨rfl, .bool false, by go_simp, fun u hu => Option.some.inj hu⟩
        · refine stepPure rfl rfl (by kernel_rfl) (by kernel_rfl) (by kernel_rfl) (by kernel_rfl) fun L a9 W hI hk hd => ?_
          have e5 : a9.tmps[5]?.getD undef = .int .i64 0 := hI.at 5 (by kernel_rfl)
          exact ⟨(Rb.wants hI (j := 7) (d := 28) rfl (hd 7 rfl) rfl rfl), .int .i64 0, by go_simp, fun u hu => Option.some.inj hu⟩
        · refine stepPure rfl rfl (by kernel_rfl) (by kernel_rfl) (by kernel_rfl) (by kernel_rfl) fun L a9 W hI hk hd => ?_
          have e29 := Rb.at hI 8 29 (hd 8 rfl) rfl rfl
          exact ⟨(Rb.wants hI (j := 7) (d := 28) rfl (hd 7 rfl) rfl rfl), .bool false, by go_simp, fun u hu => Option.some.inj hu⟩
        · refine stepPure rfl rfl (by kernel_rfl) (by kernel_rfl) (by kernel_rfl) (by kernel_rfl) fun L a9 W hI hk hd => ?_
          have e28 := Rb.at hI 7 28 (hd 7 rfl) rfl rfl
          have e30 := Rb.at hI 9 30 (hd 9 rfl) rfl rfl
          exact ⟨rfl, .bool false, by go_simp, fun u hu => Option.some.inj hu⟩
      · intro a9 W L hL hI
        have e31 := Rb.at hI 10 31 (hL 10 (by decide)) rfl rfl
        have e31' : a9.eval (.tmp 31) = .bool false := by rw [eval_tmp]; exact e31
        replace HK := Lib.hid (HKK.out W hI.glob.chg)
        rw [hI.frame]
        simp only [List.filterMap, List.foldl]
        rw [e31']
        clear hI hL HINJ HKK HXX HX e31 e31' 
        generalize a9.eval (.tmp 21) = v21
        generalize a9.eval (.tmp 22) = v22
        generalize a9.eval (.tmp 23) = v23
        generalize a9.eval (.tmp 24) = v24
        generalize a9.eval (.tmp 25) = v25
        generalize a9.eval (.tmp 26) = v26
        generalize a9.eval (.tmp 27) = v27
        generalize a9.eval (.tmp 28) = v28
        generalize a9.eval (.tmp 29) = v29
        generalize a9.eval (.tmp 30) = v30
        simp only [List.setIfInBounds_toArray, List.set_cons_succ, List.set_cons_zero]
        obtain ⟨x0, x1, x2, y0, y1, y2, xl, yl, _⟩ := HK.out.sp2
        go_wp2_with fail
        refine (HVA.out _ HK.out.bel (HK.out.ok (g := w.heap.size) (by simp))).mono ?_
        rintro e9 wv ⟨rfl, hb⟩
        clear x0 x1 x2 y0 y1 y2 xl yl
        replace HK := Lib.hid (HK.out.next hb)
        clear hb
        cases v with
        | false =>
          have HEN2 := Lib.hid fun (W : World) (hB : Below w.heap.size w W) (h : CaOK W c) => (show Calls Tryz.prog 15 #[mkC c, .slice none 0 0, .int .i64 2] W (OneB (.bool true) W) from lawEncodes14 c [] [] none 0 2 2 true w W HEN.out hB h (HoldsB.nil _) (by simp))
          obtain ⟨x0, x1, x2, y0, y1, y2, xl, yl, _⟩ := HK.out.sp2
          go_wp2_with fail
          refine (HEN2.out _ HK.out.bel (HK.out.ok (g := w.heap.size) (by simp))).mono ?_
          rintro e9 wg ⟨rfl, hb⟩
          clear x0 x1 x2 y0 y1 y2 xl yl
          replace HK := Lib.hid (HK.out.next hb)
          clear hb
          obtain ⟨x0, x1, x2, y0, y1, y2, xl, yl, _⟩ := HK.out.sp2
          go_wp2_with fail
          refine (HSM.out _ HK.out).mono ?_
          rintro e9 wh ⟨rfl, hb⟩
          clear x0 x1 x2 y0 y1 y2 xl yl
          replace HK := Lib.hid (HK.out.next hb)
          clear hb
          go_wp2_with fail
          refine (HKN.out _ HK.out.bel).mono ?_
          rintro e9 w9 ⟨rfl, hb⟩
          replace HK := Lib.hid (HK.out.next hb)
          clear hb
          go_wp2_with fail
          go_ret
          exact ⟨rfl, HK.out.bel⟩
        | true =>
          go_upto_region 12 with fail
          have HKK := Lib.hid fun (W : World) (hW : Chg (fun k => (Value.slice none 0 0).ownBlock = some k) wv W) => HK.out.next (hW.below (Nat.le_refl _) (fun _ e => by cases e))
          have HINJ := Lib.hid (show ∀ q ∈ (encX12 w wv ys c z).rows, ∀ q' ∈ (encX12 w wv ys c z).rows, q.j = q'.j → q = q' from inj_of (show ([2] : List Nat).Nodup from by decide))
          refine wp_region_T (S := Rb.S (encX12 w wv ys c z)) (by kernel_rfl) (by kernel_rfl) (by kernel_rfl) (dst_small (n := 64) (by kernel_rfl)) (Rb.G.start HK.out.bel rfl (by rfl) (fun _ h => by cases h)) ?_ ?_
          · refine ⟨?_, ?_, ?_, ?_, ?_, ?_, ?_, ?_, ?_, ?_, ?_, ?_, ?_, trivial⟩
            · refine stepPure rfl rfl (by kernel_rfl) (by kernel_rfl) (by kernel_rfl) (by kernel_rfl) fun L a9 W hI hk hd => ?_
              have e1 : a9.tmps[1]?.getD undef = .pointer (some ⟨w.heap.size, 0, none⟩) := hI.at 1 (by kernel_rfl)
              obtain ⟨x0, x1, x2, y0, y1, y2, xl, yl, _⟩ := (HKK.out W hI.glob.chg).sp2
              exact ⟨rfl, .agg #[c.v, c.l, c.i], by go_simp, fun u hu => Option.some.inj hu⟩
            · refine stepPure rfl rfl (by kernel_rfl) (by kernel_rfl) (by kernel_rfl) (by kernel_rfl) fun L a9 W hI hk hd => ?_
              have e1 : a9.tmps[1]?.getD undef = .pointer (some ⟨w.heap.size, 0, none⟩) := hI.at 1 (by kernel_rfl)
              obtain ⟨x0, x1, x2, y0, y1, y2, xl, yl, _⟩ := (HKK.out W hI.glob.chg).sp2
              exact ⟨rfl, .agg #[c.v, c.l, c.i], by go_simp, fun u hu => Option.some.inj hu⟩
            · refine stepCall (r0 := ⟨2, 54, ys, none⟩) HINJ.out (by simp [encX12]) rfl rfl rfl rfl (by kernel_rfl) (show 54 < 64 from by decide) (by kernel_rfl) rfl fun L a9 W hI hk hd => ?_
              have e53 := Rb.at hI 1 53 (hd 1 rfl) rfl rfl
              exact ⟨rfl, 17, #[mkC c], by go_simp, HRB.out W ((HKK.out W hI.glob.chg).ok (g := w.heap.size) (by simp))⟩
            · refine stepVal rfl rfl (by kernel_rfl) (by kernel_rfl) (by kernel_rfl) (by kernel_rfl) fun L a9 W hI hk hd => ?_
              have e52 := Rb.at hI 0 52 (hd 0 rfl) rfl rfl
              obtain ⟨A1, c1, e54, _, h54⟩ := Rb.slice hI (r := ⟨2, 54, ys, none⟩) (by simp [encX12]) ⟨hd 2 rfl, fun _ h => by cases h⟩
              have e54 : a9.tmps[54]?.getD undef = .slice A1 ys.length c1 := e54
              refine ⟨rfl, 15, #[mkC c, .slice A1 ys.length c1, .int .i64 0], by go_simp, (lawEncodes14 c ys ys A1 c1 0 0 true w W HEN.out (HKK.out W hI.glob.chg).bel ((HKK.out W hI.glob.chg).ok (g := w.heap.size) (by simp)) h54 (by simp)).mono ?_⟩
              rintro e W9 ⟨rfl, hb⟩
              exact ⟨_, rfl, hb, fun u hu => Option.some.inj hu⟩
            · refine stepPure rfl rfl (by kernel_rfl) (by kernel_rfl) (by kernel_rfl) (by kernel_rfl) fun L a9 W hI hk hd => ?_
              have e55 := Rb.at hI 3 55 (hd 3 rfl) rfl rfl
              exact ⟨rfl, .bool true, by go_simp, fun u hu => Option.some.inj hu⟩
            · refine stepPure rfl rfl (by kernel_rfl) (by kernel_rfl) (by kernel_rfl) (by kernel_rfl) fun L a9 W hI hk hd => ?_
              have e1 : a9.tmps[1]?.getD undef = .pointer (some ⟨w.heap.size, 0, none⟩) := hI.at 1 (by kernel_rfl)
              obtain ⟨x0, x1, x2, y0, y1, y2, xl, yl, _⟩ := (HKK.out W hI.glob.chg).sp2
              exact ⟨(Rb.wants hI (j := 4) (d := 56) rfl (hd 4 rfl) rfl rfl), .agg #[c.v, c.l, c.i], by go_simp, fun u hu => Option.some.inj hu⟩
            · refine stepPure rfl rfl (by kernel_rfl) (by kernel_rfl) (by kernel_rfl) (by kernel_rfl) fun L a9 W hI hk hd => ?_
              have e3 : a9.tmps[3]?.getD undef = .pointer (some ⟨g2, 0, none⟩) := hI.at 3 (by kernel_rfl)
              obtain ⟨x0, x1, x2, y0, y1, y2, xl, yl, _⟩ := (HKK.out W hI.glob.chg).sp2
              exact ⟨(Rb.wants hI (j := 4) (d := 56) rfl (hd 4 rfl) rfl rfl), .agg #[z.v, z.l, z.i], by go_simp, fun u hu => Option.some.inj hu⟩
            · refine stepVal rfl rfl (by kernel_rfl) (by kernel_rfl) (by kernel_rfl) (by kernel_rfl) fun L a9 W hI hk hd => ?_
              have e57 := Rb.at hI 5 57 (hd 5 rfl) rfl rfl
              have e58 := Rb.at hI 6 58 (hd 6 rfl) rfl rfl
              refine ⟨(Rb.wants hI (j := 4) (d := 56) rfl (hd 4 rfl) rfl rfl), 16, #[mkC c, mkC z], by go_simp, (HSM.out W (HKK.out W hI.glob.chg)).mono ?_⟩
              rintro e W9 ⟨rfl, hb⟩
              exact ⟨_, rfl, hb, fun u hu => Option.some.inj hu⟩
            · refine stepPure rfl rfl (by kernel_rfl) (by kernel_rfl) (by kernel_rfl) (by kernel_rfl) fun L a9 W hI hk hd => ?_
              have e56 := Rb.at hI 4 56 (hd 4 rfl) rfl rfl
              have e59 := Rb.at hI 7 59 (hd 7 rfl) rfl rfl
              exact ⟨rfl, .bool true, by go_simp, fun u hu => Option.some.inj hu⟩
            · refine stepPure rfl rfl (by kernel_rfl) (by kernel_rfl) (by kernel_rfl) (by kernel_rfl) fun L a9 W hI hk hd => ?_
              have e60 := Rb.at hI 8 60 (hd 8 rfl) rfl rfl
              exact ⟨rfl, .bool true, by go_simp, fun u hu => Option.some.inj hu⟩
            · refine stepVal rfl rfl (by kernel_rfl) (by kernel_rfl) (by kernel_rfl) (by kernel_rfl) fun L a9 W hI hk hd => ?_
              refine ⟨(Rb.wants hI (j := 9) (d := 61) rfl (hd 9 rfl) rfl rfl), 9, #[], by go_simp, (HKN.out W (HKK.out W hI.glob.chg).bel).mono ?_⟩
              rintro e W9 ⟨rfl, hb⟩
              exact ⟨_, rfl, hb, fun u hu => Option.some.inj hu⟩
            · refine stepPure rfl rfl (by kernel_rfl) (by kernel_rfl) (by kernel_rfl) (by kernel_rfl) fun L a9 W hI hk hd => ?_
              have e61 := Rb.at hI 9 61 (hd 9 rfl) rfl rfl
              have e62 := Rb.at hI 10 62 (hd 10 rfl) rfl rfl
              exact ⟨rfl, .bool true, by go_simp, fun u hu => Option.some.inj hu⟩
            · refine stepPure rfl rfl (by kernel_rfl) (by kernel_rfl) (by kernel_rfl) (by kernel_rfl) fun L a9 W hI hk hd => ?_
              have e63 := Rb.at hI 11 63 (hd 11 rfl) rfl rfl
              exact ⟨rfl, .bool true, by go_simp, fun u hu => Option.some.inj hu⟩
          · intro a9 W L hL hI
            have e2 := Rb.at hI 12 2 (hL 12 (by decide)) rfl rfl
            have e2' : a9.eval (.tmp 2) = .bool true := by rw [eval_tmp]; exact e2
            replace HK := Lib.hid (HKK.out W hI.glob.chg)
            rw [hI.frame]
            simp only [List.filterMap, List.foldl]
            rw [e2']
            clear hI hL HINJ HKK e2 e2' 
            generalize a9.eval (.tmp 52) = v52
            generalize a9.eval (.tmp 53) = v53
            generalize a9.eval (.tmp 54) = v54
            generalize a9.eval (.tmp 55) = v55
            generalize a9.eval (.tmp 56) = v56
            generalize a9.eval (.tmp 57) = v57
            generalize a9.eval (.tmp 58) = v58
            generalize a9.eval (.tmp 59) = v59
            generalize a9.eval (.tmp 60) = v60
            generalize a9.eval (.tmp 61) = v61
            generalize a9.eval (.tmp 62) = v62
            generalize a9.eval (.tmp 63) = v63
            simp only [List.setIfInBounds_toArray, List.set_cons_succ, List.set_cons_zero]
            go_wp2_with fail
            go_ret
            exact ⟨rfl, HK.out.bel⟩

end

end Go.Proofs.YtgdnibahiomneaaGreat
