/- Several texts in one: DecW. -/
import Derived.Test.YtpnemekkpifbaaaGreatMBC
import Derived.Test.YtpnemekkpifbaaaGreatMBI
namespace Go.Proofs.YtpnemekkpifbaaaGreat

section
open Go.RowKit

theorem Rb.wants {x : Rb} {ops : Array Oper} {a0 : Act} {L : Nat → Bool} {a : Act} {W : World} (hI : InvT ops a0 x.S L a W) {o : Oper} {j d : Nat} {b : Bool} (hg : o.guard = some (j, b)) (hL : L j = true) (hd : dstOf ops j = some d) (hu : x.known j = some (.bool b)) : Region.wanted o (yielded ops a.tmps) = true :=
  InvT.wants hI hg hL hd fun _ h => h _ hu
theorem lenB_of {z : CaV} (h : (byC z.ca).length ≤ 1000) (ho : okC64 z.ca) : LenB z.ca := by
  obtain ⟨h1, h2⟩ := bnd15 z.ca
  exact ⟨by omega, by omega, by omega, fun x hx => ⟨by have := (h2 x hx).1; omega, by have := (h2 x hx).2; omega, fun m hm => ((ho.2.2 x hx).2.2 m hm).2.2⟩⟩
theorem part15 {w : World} {bk off i ec : Nat} {xs : List UInt8} (h : HoldsB w (.slice (some ⟨bk, off, none⟩) xs.length ec) xs) (hi : i ≤ xs.length) : HoldsB w (.slice (some ⟨bk, off, none⟩) (xs.take i).length ec) (xs.take i) := by
  have hc := caps_of15 h
  have h2 := In15.part2 (i := 0) (k := i) (bytesAt_of15 h) (by omega) hc.1 hc.2
  rw [List.drop_zero, Nat.add_zero, Nat.sub_zero, ite_self] at h2
  exact h2
/-- The region in which what is read is compared with what was there. -/
def holX4 (E W0 : World) (A : Option Addr) (n : Nat) (p : List UInt8) (z : CaV) : Rb where
  E := E
  W0 := W0
  n := 80
  D := .slice none 0 0
  acc := []
  m := none
  s := 100
  rows := [⟨8, 26, p, none⟩]
  known := fun
    | 0 => some (.int .i64 0)
    | 1 => some (.bool true)
    | 2 => some (.bool true)
    | 3 => some (mkC z)
    | 4 => some (.bool true)
    | 5 => some (.bool false)
    | 6 => some (.bool false)
    | 7 => some (mkC z)
    | 9 => some (.string ⟨p.toArray⟩)
    | 10 => some (.slice A p.length n)
    | 11 => some (.string ⟨p.toArray⟩)
    | 12 => some (.bool false)
    | 13 => some (.bool false)
    | 14 => some (.bool false)
    | _ => none
/-- The region in which a valid cart is read from its bytes. -/
def holX9 (E W0 : World) (A O : Option Addr) (n ec m : Nat) (xs p : List UInt8) (c : CaV) : Rb where
  E := E
  W0 := W0
  n := 80
  D := .slice none 0 0
  acc := []
  m := none
  s := 100
  rows := [⟨6, 50, xs, some 8⟩, ⟨8, 52, xs ++ p, none⟩]
  known := fun
    | 0 => some (.slice O m ec)
    | 1 => some (mkC c)
    | 2 => some (.bool true)
    | 3 => some (.bool false)
    | 4 => some (.bool false)
    | 5 => some (.slice O m ec)
    | 7 => some (.slice A p.length n)
    | 9 => some (mkC c)
    | 10 => some (.slice O m ec)
    | 11 => some (.int .i64 (m : Nat))
    | 12 => some (.bool true)
    | 13 => some (.bool false)
    | 14 => some (.bool false)
    | _ => none

set_option maxRecDepth 100000 in
set_option maxHeartbeats 8000000 in
theorem lawHolds_15 (c : CaV) (A : Option Addr) (pp : List UInt8) (n : Nat) (W : World) (h : DecOK W) (hc : CaOK W c) (ho : NumC c.ca) (hp : HoldsB W (.slice A pp.length n) pp) :
    Calls Tryz.prog 7 #[mkC c, .slice A pp.length n] W (OneB (.bool true) W) := by
  have HK := Lib.hid (known15_w h)
  have H := Lib.hid h
  have K0 := Lib.hid (KK.new W c hc)
  have HP := Lib.hid (hp.below K0.out.bel)
  have HT := Lib.hid ho.tim
  have HO := Lib.hid ho
  have hcap := caps_of15 hp
  have hpl : pp.length ≤ 9223372036854775807 := by have := hcap.1; have := hcap.2; unfold maxLen at this; omega
  clear h hc hp ho hcap
  go_enter Tryz.func7, Tryz.ntmps7
  by_cases hl : 200 < pp.length
  · have j0 : (200 : Int) < (pp.length : Int) := by omega
    have HKW := Lib.hid (HK.out _ K0.out.bel)
    clear HP HK H hl
    go_wp2_with fail
    generalize World.alloc W _ = w1 at K0 HKW ⊢
    refine HKW.out.mono ?_
    rintro e w3 ⟨rfl, hb⟩
    have HB3 := Lib.hid (below_trans K0.out.bel hb)
    clear hb
    go_wp2_with fail
    go_ret
    exact ⟨rfl, HB3.out⟩
  have j0 : ¬ (200 : Int) < (pp.length : Int) := by omega
  have hlp : pp.length ≤ 200 := by omega
  clear hl
  have HC := Lib.hid (H.out.car A pp n _ K0.out.bel HP.out (by omega))
  go_wp2_with fail
  generalize World.alloc W _ = w1 at K0 HP HC ⊢
  refine HC.out.mono ?_
  rintro e w2 ⟨⟨z, rfl, hz, hoz⟩, hb2⟩
  have K2 := Lib.hid (K0.out.next hb2)
  have K3 := Lib.hid (KK.push K2.out z hoz.ok w2.heap.size rfl)
  have HP3 := Lib.hid (HP.out.below (below_trans hb2 ((Below.refl _ _).alloc (Nat.le_refl _) (.cells #[z.v, z.l, z.i] 31))))
  have HZ := Lib.hid hz
  clear hz hoz hb2 K0 HP HC
  obtain ⟨q, hq⟩ : ∃ q, decC pp = q := ⟨_, rfl⟩
  rw [hq] at HZ ⊢
  have HQ := Lib.hid hq
  clear hq
  go_upto_region 4 with fail
  generalize hg : w2.heap.size = g at K3 ⊢
  generalize World.alloc w2 _ = w3 at K3 HP3 ⊢
  replace K3 := Lib.hid (show KK W [(W.heap.size, c), (g, z)] w3 from K3.out)
  clear K2 hg
  cases q with
  | none =>
    have e0 : errD (none : Option Ca).isSome = 12 := rfl
    rw [e0]
    go_wp2_with fail
    refine wp_region_far (by kernel_rfl) (by kernel_rfl) ?_
    repeat (go_big_quiet_step ((fail)))
    refine wpQuiet_nil ?_
    rintro _ ⟨p, rfl⟩
    have K4 := Lib.hid (K3.out.far p)
    have HP4 := Lib.hid (HP3.out.below (below_far w3 p))
    generalize far w3 p = w4 at K4 HP4 ⊢
    clear K3 HP3
    obtain ⟨x0, x1, x2, y0, y1, y2, xl, yl, _⟩ := K4.out.sp2
    obtain ⟨sm, hsm⟩ : ∃ sm, small14 c.ca = sm := ⟨_, rfl⟩
    have HSM := Lib.hid hsm
    have HS := Lib.hid (refSmall14 c sm w4 (K4.out.ok (g := W.heap.size) (by simp)) hsm)
    clear hsm
    go_wp2_with fail
    refine HS.out.mono ?_
    rintro e w5 ⟨rfl, hb⟩
    have K5 := Lib.hid (K4.out.next hb)
    have HP5 := Lib.hid (HP4.out.below hb)
    clear hb x0 x1 x2 y0 y1 y2 xl yl K4 HP4 HS
    obtain ⟨x0, x1, x2, y0, y1, y2, xl, yl, _⟩ := K5.out.sp2
    cases sm with
    | false =>
      have HKW := Lib.hid (HK.out w5 K5.out.bel)
      clear HK H
      go_wp2_with fail
      refine HKW.out.mono ?_
      rintro e w99 ⟨rfl, hb⟩
      have HB99 := Lib.hid (below_trans K5.out.bel hb)
      clear hb
      go_wp2_with fail
      go_ret
      exact ⟨rfl, HB99.out⟩
    | true =>
      have HLB := Lib.hid (byC_small HSM.out HT.out)
      obtain ⟨v, hv⟩ : ∃ v, validK c.ca = v := ⟨_, rfl⟩
      have HVV := Lib.hid hv
      have HV := Lib.hid (H.out.val c w5 K5.out.bel (K5.out.ok (g := W.heap.size) (by simp)) (fits15 (z := c) (by have := HLB.out; omega)).1)
      rw [hv] at HV
      clear hv
      go_wp2_with fail
      refine HV.out.mono ?_
      rintro e w6 ⟨rfl, hb⟩
      have K6 := Lib.hid (K5.out.next hb)
      have HP6 := Lib.hid (HP5.out.below hb)
      clear hb x0 x1 x2 y0 y1 y2 xl yl K5 HP5 HV
      obtain ⟨x0, x1, x2, y0, y1, y2, xl, yl, _⟩ := K6.out.sp2
      cases v with
      | false =>
        have HKW := Lib.hid (HK.out w6 K6.out.bel)
        clear HK H
        go_wp2_with fail
        refine HKW.out.mono ?_
        rintro e w99 ⟨rfl, hb⟩
        have HB99 := Lib.hid (below_trans K6.out.bel hb)
        clear hb
        go_wp2_with fail
        go_ret
        exact ⟨rfl, HB99.out⟩
      | true =>
        have HBY := Lib.hid (refBytes14 c w6 (K6.out.ok (g := W.heap.size) (by simp)) (lenB_small HSM.out HT.out))
        have HB3 := Lib.hid (byC_three c.ca)
        have HOC := Lib.hid (okC_small HSM.out HO.out)
        have HDC := Lib.hid (decC_byC HVV.out HOC.out)
        have HPC := Lib.hid (preC_byC HVV.out HOC.out pp)
        have HDT := Lib.hid fun i (hi : i < (byC c.ca).length) => decC_take HOC.out hi
        have HPT := Lib.hid fun i (hi : i < (byC c.ca).length) => preC_take HOC.out hi
        go_wp2_with fail
        refine HBY.out.mono ?_
        rintro e w7 ⟨⟨E, ec, rfl, ho3⟩, hb3⟩
        have K7 := Lib.hid (K6.out.next hb3)
        have HP7 := Lib.hid (HP6.out.below hb3)
        have HA7 := Lib.hid (HoldsB.of_own ho3)
        have HBGF := Lib.hid fun (A1 : Option Addr) (l1 : List UInt8) (c1 k1 : Nat) (W1 : World) (g1 : Below W.heap.size W W1) (g2 : HoldsB W1 (.slice A1 l1.length c1) l1) (g3 : l1.length ≤ 170000) (g4 : CaOK W1 c) => lawBegins H.out A1 l1 c1 c k1 0 W1 g1 g2 g3 g4 (by have := HLB.out; omega)
        clear hb3 x0 x1 x2 y0 y1 y2 xl yl K6 HP6 HBY ho3 HSM HT HO HOC HVV
        generalize byC c.ca = xs at *
        obtain ⟨m, hm⟩ : ∃ m, xs.length = m := ⟨_, rfl⟩
        have hmb : m ≤ 20030 := by rw [← hm]; exact HLB.out
        have hm3 : 3 ≤ m := by rw [← hm]; exact HB3.out
        have HXS := Lib.hid hm
        rw [hm]
        clear hm HLB HB3
        obtain ⟨bk, off, rfl, hr1, hr2⟩ := bytesAt_of15 HA7.out (by rw [HXS.out]; omega)
        clear hr1 hr2
        go_upto_region 9 with fail
        have HKK := Lib.hid fun (W' : World) (hW : Chg (fun k => (Value.slice none 0 0).ownBlock = some k) w7 W') => K7.out.next (hW.below (Nat.le_refl _) (fun _ e => by cases e))
        have HAA := Lib.hid fun (W' : World) (hW : Chg (fun k => (Value.slice none 0 0).ownBlock = some k) w7 W') => HA7.out.below (hW.below (Nat.le_refl _) (fun _ e => by cases e))
        have HINJ := Lib.hid (show ∀ q ∈ (holX9 W w7 A (some ⟨bk, off, none⟩) n ec m xs pp c).rows, ∀ q' ∈ (holX9 W w7 A (some ⟨bk, off, none⟩) n ec m xs pp c).rows, q.j = q'.j → q = q' from inj_of (show ([6, 8] : List Nat).Nodup from by decide))
        have HLE := Lib.hid (show (xs ++ pp).length ≤ 170000 ∧ xs.length ≤ 1000000000 ∧ xs.length + pp.length ≤ 1000000000 from by rw [List.length_append, HXS.out]; omega)
        refine wp_region_T (S := Rb.S (holX9 W w7 A (some ⟨bk, off, none⟩) n ec m xs pp c)) (by kernel_rfl) (by kernel_rfl) (by kernel_rfl) (dst_small (n := 80) (by kernel_rfl)) (Rb.G.start K7.out.bel rfl (by rfl) (fun _ h => by cases h)) ?_ ?_
        · refine ⟨?_, ?_, ?_, ?_, ?_, ?_, ?_, ?_, ?_, ?_, ?_, ?_, ?_, ?_, ?_, trivial⟩
          · refine stepPure rfl rfl (by kernel_rfl) (by kernel_rfl) (by kernel_rfl) (by kernel_rfl) fun L a9 W' hI hk hd => ?_
            have e7 : a9.tmps[7]?.getD undef = .slice (some ⟨bk, off, none⟩) m ec := hI.at 7 (by kernel_rfl)
            exact ⟨rfl, .slice (some ⟨bk, off, none⟩) m ec, by go_simp, fun u hu => Option.some.inj hu⟩
          · refine stepPure rfl rfl (by kernel_rfl) (by kernel_rfl) (by kernel_rfl) (by kernel_rfl) fun L a9 W' hI hk hd => ?_
            have e2 : a9.tmps[2]?.getD undef = .pointer (some ⟨W.heap.size, 0, none⟩) := hI.at 2 (by kernel_rfl)
            obtain ⟨x0, x1, x2, y0, y1, y2, xl, yl, _⟩ := (HKK.out W' hI.glob.chg).sp2
            exact ⟨rfl, .agg #[c.v, c.l, c.i], by go_simp, fun u hu => Option.some.inj hu⟩
          · refine stepVal rfl rfl (by kernel_rfl) (by kernel_rfl) (by kernel_rfl) (by kernel_rfl) fun L a9 W' hI hk hd => ?_
            have e44 := Rb.at hI 0 44 (hd 0 rfl) rfl rfl
            have e45 := Rb.at hI 1 45 (hd 1 rfl) rfl rfl
            have hv := lawIs_t H.out (some ⟨bk, off, none⟩) xs ec c W' (HKK.out W' hI.glob.chg).bel (HAA.out W' hI.glob.chg) (by rw [HXS.out]; omega) ((HKK.out W' hI.glob.chg).ok (g := W.heap.size) (by simp)) HDC.out
            rw [HXS.out] at hv
            refine ⟨rfl, 18, #[.slice (some ⟨bk, off, none⟩) m ec, mkC c, .bool true], by go_simp, hv.mono ?_⟩
            rintro e W9 ⟨rfl, hb⟩
            exact ⟨_, rfl, hb, fun u hu => Option.some.inj hu⟩
          · refine stepPure rfl rfl (by kernel_rfl) (by kernel_rfl) (by kernel_rfl) (by kernel_rfl) fun L a9 W' hI hk hd => ?_
            have e46 := Rb.at hI 2 46 (hd 2 rfl) rfl rfl
            exact ⟨rfl, .bool false, by go_simp, fun u hu => Option.some.inj hu⟩
          · refine stepPure rfl rfl (by kernel_rfl) (by kernel_rfl) (by kernel_rfl) (by kernel_rfl) fun L a9 W' hI hk hd => ?_
            have e47 := Rb.at hI 3 47 (hd 3 rfl) rfl rfl
            exact ⟨rfl, .bool false, by go_simp, fun u hu => Option.some.inj hu⟩
          · refine stepPure rfl rfl (by kernel_rfl) (by kernel_rfl) (by kernel_rfl) (by kernel_rfl) fun L a9 W' hI hk hd => ?_
            have e7 : a9.tmps[7]?.getD undef = .slice (some ⟨bk, off, none⟩) m ec := hI.at 7 (by kernel_rfl)
            exact ⟨(Rb.wants hI (j := 4) (d := 48) rfl (hd 4 rfl) rfl rfl), .slice (some ⟨bk, off, none⟩) m ec, by go_simp, fun u hu => Option.some.inj hu⟩
          · refine stepNil (r0 := ⟨6, 50, xs, some 8⟩) (j2 := 5) (d2 := 49) HINJ.out (by simp [holX9]) rfl rfl rfl HLE.out.2.1 rfl rfl (by kernel_rfl) (show 50 < 80 from by decide) rfl rfl (fun L a9 W' hI hd => (Rb.wants hI (j := 4) (d := 48) rfl (hd 4 rfl) rfl rfl)) rfl rfl rfl HXS.out.symm rfl (bytesAt_of15 HA7.out) fun a W' v w9 W9 h2 h3 => ?_
            have h2 : a.eval (.tmp 49) = v := h2
            have h1 : a.eval (.const (.slice none 0 0)) = .slice none 0 0 := rfl
            unfold execOp
            simp only [resolve, invoke, builtin, Sem.run_bind, Sem.run_pure, Result.andThen_ok, List.map_toArray, List.map_cons, List.map_nil, h1, h2, h3]
          · refine stepPure rfl rfl (by kernel_rfl) (by kernel_rfl) (by kernel_rfl) (by kernel_rfl) fun L a9 W' hI hk hd => ?_
            have e1 : a9.tmps[1]?.getD undef = .slice A pp.length n := hI.at 1 (by kernel_rfl)
            exact ⟨(Rb.wants hI (j := 4) (d := 48) rfl (hd 4 rfl) rfl rfl), .slice A pp.length n, by go_simp, fun u hu => Option.some.inj hu⟩
          · refine stepOut (r0 := ⟨8, 52, xs ++ pp, none⟩) (r1 := ⟨6, 50, xs, some 8⟩) (j2 := 7) (d2 := 51) HINJ.out (by simp [holX9]) rfl rfl (by simp [holX9]) rfl rfl HLE.out.2.2 rfl rfl (by kernel_rfl) (show 52 < 80 from by decide) rfl rfl (fun L a9 W' hI hd => (Rb.wants hI (j := 4) (d := 48) rfl (hd 4 rfl) rfl rfl)) rfl rfl rfl rfl rfl rfl (bytesAt_of15 HP7.out) fun a W' u v w9 W9 h1 h2 h3 => ?_
            have h1 : a.eval (.tmp 50) = u := h1
            have h2 : a.eval (.tmp 51) = v := h2
            unfold execOp
            simp only [resolve, invoke, builtin, Sem.run_bind, Sem.run_pure, Result.andThen_ok, List.map_toArray, List.map_cons, List.map_nil, h1, h2, h3]
          · refine stepPure rfl rfl (by kernel_rfl) (by kernel_rfl) (by kernel_rfl) (by kernel_rfl) fun L a9 W' hI hk hd => ?_
            have e2 : a9.tmps[2]?.getD undef = .pointer (some ⟨W.heap.size, 0, none⟩) := hI.at 2 (by kernel_rfl)
            obtain ⟨x0, x1, x2, y0, y1, y2, xl, yl, _⟩ := (HKK.out W' hI.glob.chg).sp2
            exact ⟨(Rb.wants hI (j := 4) (d := 48) rfl (hd 4 rfl) rfl rfl), .agg #[c.v, c.l, c.i], by go_simp, fun u hu => Option.some.inj hu⟩
          · refine stepPure rfl rfl (by kernel_rfl) (by kernel_rfl) (by kernel_rfl) (by kernel_rfl) fun L a9 W' hI hk hd => ?_
            have e7 : a9.tmps[7]?.getD undef = .slice (some ⟨bk, off, none⟩) m ec := hI.at 7 (by kernel_rfl)
            exact ⟨(Rb.wants hI (j := 4) (d := 48) rfl (hd 4 rfl) rfl rfl), .slice (some ⟨bk, off, none⟩) m ec, by go_simp, fun u hu => Option.some.inj hu⟩
          · refine stepPure rfl rfl (by kernel_rfl) (by kernel_rfl) (by kernel_rfl) (by kernel_rfl) fun L a9 W' hI hk hd => ?_
            have e54 := Rb.at hI 10 54 (hd 10 rfl) rfl rfl
            exact ⟨(Rb.wants hI (j := 4) (d := 48) rfl (hd 4 rfl) rfl rfl), .int .i64 (m : Nat), by go_simp, fun u hu => Option.some.inj hu⟩
          · refine stepVal rfl rfl (by kernel_rfl) (by kernel_rfl) (by kernel_rfl) (by kernel_rfl) fun L a9 W' hI hk hd => ?_
            obtain ⟨A1, c1, e52, _, h52⟩ := Rb.slice hI (r := ⟨8, 52, xs ++ pp, none⟩) (by simp [holX9]) ⟨hd 8 rfl, fun _ h => by cases h⟩
            have e52 : a9.tmps[52]?.getD undef = .slice A1 (xs ++ pp).length c1 := e52
            have e53 := Rb.at hI 9 53 (hd 9 rfl) rfl rfl
            have e55 := Rb.at hI 11 55 (hd 11 rfl) rfl rfl
            have hv := HBGF.out A1 (xs ++ pp) c1 m W' (HKK.out W' hI.glob.chg).bel h52 HLE.out.1 ((HKK.out W' hI.glob.chg).ok (g := W.heap.size) (by simp)) (by rw [HPC.out]; rfl) (by rw [HPC.out]; exact HXS.out) (by rw [HPC.out]; rfl)
            refine ⟨(Rb.wants hI (j := 4) (d := 48) rfl (hd 4 rfl) rfl rfl), 19, #[.slice A1 (xs ++ pp).length c1, mkC c, .int .i64 (m : Nat), .int .i64 0], by go_simp, hv.mono ?_⟩
            rintro e W9 ⟨rfl, hb⟩
            exact ⟨_, rfl, hb, fun u hu => Option.some.inj hu⟩
          · refine stepPure rfl rfl (by kernel_rfl) (by kernel_rfl) (by kernel_rfl) (by kernel_rfl) fun L a9 W' hI hk hd => ?_
            have e56 := Rb.at hI 12 56 (hd 12 rfl) rfl rfl
            exact ⟨(Rb.wants hI (j := 4) (d := 48) rfl (hd 4 rfl) rfl rfl), .bool false, by go_simp, fun u hu => Option.some.inj hu⟩
          · refine stepPure rfl rfl (by kernel_rfl) (by kernel_rfl) (by kernel_rfl) (by kernel_rfl) fun L a9 W' hI hk hd => ?_
            have e48 := Rb.at hI 4 48 (hd 4 rfl) rfl rfl
            have e57 := Rb.at hI 13 57 (hd 13 rfl) rfl rfl
            exact ⟨rfl, .bool false, by go_simp, fun u hu => Option.some.inj hu⟩
        · intro a9 w8 L hL hI
          have e58 := Rb.at hI 14 58 (hL 14 (by decide)) rfl rfl
          have e58' : a9.eval (.tmp 58) = .bool false := by rw [eval_tmp]; exact e58
          have HB8 := Lib.hid (HKK.out w8 hI.glob.chg).bel
          have HA8 := Lib.hid (HAA.out w8 hI.glob.chg)
          rw [hI.frame]
          simp only [List.filterMap, List.foldl]
          rw [e58']
          clear hI hL HINJ HKK HAA e58 e58' K7 HP7 HA7 HLE HDC HPC HBGF
          generalize a9.eval (.tmp 44) = v44
          generalize a9.eval (.tmp 45) = v45
          generalize a9.eval (.tmp 46) = v46
          generalize a9.eval (.tmp 47) = v47
          generalize a9.eval (.tmp 48) = v48
          generalize a9.eval (.tmp 49) = v49
          generalize a9.eval (.tmp 50) = v50
          generalize a9.eval (.tmp 51) = v51
          generalize a9.eval (.tmp 52) = v52
          generalize a9.eval (.tmp 53) = v53
          generalize a9.eval (.tmp 54) = v54
          generalize a9.eval (.tmp 55) = v55
          generalize a9.eval (.tmp 56) = v56
          generalize a9.eval (.tmp 57) = v57
          simp only [List.setIfInBounds_toArray, List.set_cons_succ, List.set_cons_zero]
          go_wp2_with fail
          go_loopw [8] (fun v wr => ∃ i : Nat, v = .int .i64 (i : Nat) ∧ i ≤ m ∧ Hid (HoldsB wr (.slice (some ⟨bk, off, none⟩) xs.length ec) xs) ∧ Hid (Below W.heap.size W wr)) (fun v _ => m - (intOf v).toNat)
          case atStart => exact ⟨0, rfl, Nat.zero_le _, HA8, HB8⟩
          case round =>
            clear HA8 HB8
            obtain ⟨i, rfl, him, hA, hB⟩ := hrel
            by_cases hlt : i < m
            · have k0 : (i : Int) < (m : Int) := by omega
              have hcp := caps_of15 hA.out
              rw [HXS.out] at hcp
              have HA1 := Lib.hid (part15 (i := i) hA.out (by rw [HXS.out]; omega))
              have HTL := Lib.hid (show (xs.take i).length = i from by rw [List.length_take, HXS.out]; omega)
              have HIS := Lib.hid (lawIs_f H.out (some ⟨bk, off, none⟩) (xs.take i) ec nilC wr hB.out HA1.out (by rw [HTL.out]; omega) (nilC_ok _) (HDT.out i (by rw [HXS.out]; omega)))
              rw [HTL.out] at HIS
              replace HIS := Lib.hid (show Calls Tryz.prog 18 #[.slice (some ⟨bk, off, none⟩) i ec, .agg #[.slice none 0 0, .slice none 0 0, .slice none 0 0], .bool false] wr (OneB (.bool true) wr) from HIS.out)
              have HPN := Lib.hid (HPT.out i (by rw [HXS.out]; omega))
              go_wp2_with fail
              refine HIS.out.mono ?_
              rintro e w9 ⟨rfl, hb⟩
              have HB9 := Lib.hid (below_trans hB.out hb)
              have HA9 := Lib.hid (hA.out.below hb)
              have HC9 := Lib.hid (HA1.out.below hb)
              clear hb HIS HA1 hA hB
              have HBG := Lib.hid (lawBegins H.out (some ⟨bk, off, none⟩) (xs.take i) ec nilC 0 12 w9 HB9.out HC9.out (by rw [HTL.out]; omega) (nilC_ok _) (by rw [nil_enc]; decide) (by rw [HPN.out]; rfl) (by rw [HPN.out]; rfl) (by rw [HPN.out]; rfl))
              rw [HTL.out] at HBG
              replace HBG := Lib.hid (show Calls Tryz.prog 19 #[.slice (some ⟨bk, off, none⟩) i ec, .agg #[.slice none 0 0, .slice none 0 0, .slice none 0 0], .int .i64 0, .int .i64 12] w9 (OneB (.bool true) w9) from HBG.out)
              go_wp2_with fail
              refine HBG.out.mono ?_
              rintro e w10 ⟨rfl, hb⟩
              have HB10 := Lib.hid (below_trans HB9.out hb)
              have HA10 := Lib.hid (HA9.out.below hb)
              clear hb HBG HA9 HB9 HC9
              go_wp2_with fail
              go_roundw
              case rel => exact ⟨i + 1, by go_num, by omega, HA10, HB10⟩
              case measure => simp [intOf]; omega
            · have k0 : ¬ (i : Int) < (m : Int) := by omega
              have HKW := Lib.hid (HK.out wr hB.out)
              clear HK H
              go_wp2_with fail
              refine HKW.out.mono ?_
              rintro e w99 ⟨rfl, hb⟩
              have HB99 := Lib.hid (below_trans hB.out hb)
              clear hb
              go_wp2_with fail
              go_ret
              exact ⟨rfl, HB99.out⟩
  | some y =>
    have e0 : errD (some y : Option Ca).isSome = 0 := rfl
    rw [e0]
    obtain ⟨hv1, hv2, hv3⟩ := decC_some HQ.out
    have HZY := Lib.hid (show z.ca = y from HZ.out)
    have HPB := Lib.hid (show byC z.ca = pp from by rw [HZY.out]; exact hv2)
    have HVK := Lib.hid (show validK z.ca = true from by rw [HZY.out]; exact hv1)
    have HLB := Lib.hid (lenB_of (z := z) (by rw [HPB.out]; omega) (by rw [HZY.out]; exact hv3))
    have HFI := Lib.hid (fits15 (z := z) (by rw [HPB.out]; omega)).1
    clear hv1 hv2 hv3 HZY HZ HQ
    have HKK := Lib.hid fun (W' : World) (hW : Chg (fun k => (Value.slice none 0 0).ownBlock = some k) w3 W') => K3.out.next (hW.below (Nat.le_refl _) (fun _ e => by cases e))
    have HPP := Lib.hid fun (W' : World) (hW : Chg (fun k => (Value.slice none 0 0).ownBlock = some k) w3 W') => HP3.out.below (hW.below (Nat.le_refl _) (fun _ e => by cases e))
    have HINJ := Lib.hid (show ∀ q ∈ (holX4 W w3 A n pp z).rows, ∀ q' ∈ (holX4 W w3 A n pp z).rows, q.j = q'.j → q = q' from inj_of (show ([8] : List Nat).Nodup from by decide))
    refine wp_region_T (S := Rb.S (holX4 W w3 A n pp z)) (by kernel_rfl) (by kernel_rfl) (by kernel_rfl) (dst_small (n := 80) (by kernel_rfl)) (Rb.G.start K3.out.bel rfl (by rfl) (fun _ h => by cases h)) ?_ ?_
    · refine ⟨?_, ?_, ?_, ?_, ?_, ?_, ?_, ?_, ?_, ?_, ?_, ?_, ?_, ?_, ?_, trivial⟩
      · refine stepPure rfl rfl (by kernel_rfl) (by kernel_rfl) (by kernel_rfl) (by kernel_rfl) fun L a9 W' hI hk hd => ?_
        have e6 : a9.tmps[6]?.getD undef = .int .i64 0 := hI.at 6 (by kernel_rfl)
        exact ⟨rfl, .int .i64 0, by go_simp, fun u hu => Option.some.inj hu⟩
      · refine stepPure rfl rfl (by kernel_rfl) (by kernel_rfl) (by kernel_rfl) (by kernel_rfl) fun L a9 W' hI hk hd => ?_
        have e18 := Rb.at hI 0 18 (hd 0 rfl) rfl rfl
        exact ⟨rfl, .bool true, by go_simp, fun u hu => Option.some.inj hu⟩
      · refine stepPure rfl rfl (by kernel_rfl) (by kernel_rfl) (by kernel_rfl) (by kernel_rfl) fun L a9 W' hI hk hd => ?_
        have e19 := Rb.at hI 1 19 (hd 1 rfl) rfl rfl
        exact ⟨rfl, .bool true, by go_simp, fun u hu => Option.some.inj hu⟩
      · refine stepPure rfl rfl (by kernel_rfl) (by kernel_rfl) (by kernel_rfl) (by kernel_rfl) fun L a9 W' hI hk hd => ?_
        have e5 : a9.tmps[5]?.getD undef = .pointer (some ⟨g, 0, none⟩) := hI.at 5 (by kernel_rfl)
        obtain ⟨x0, x1, x2, y0, y1, y2, xl, yl, _⟩ := (HKK.out W' hI.glob.chg).sp2
        exact ⟨(Rb.wants hI (j := 2) (d := 20) rfl (hd 2 rfl) rfl rfl), .agg #[z.v, z.l, z.i], by go_simp, fun u hu => Option.some.inj hu⟩
      · refine stepVal rfl rfl (by kernel_rfl) (by kernel_rfl) (by kernel_rfl) (by kernel_rfl) fun L a9 W' hI hk hd => ?_
        have e21 := Rb.at hI 3 21 (hd 3 rfl) rfl rfl
        have hv := H.out.val z W' (HKK.out W' hI.glob.chg).bel ((HKK.out W' hI.glob.chg).ok (g := g) (by simp)) HFI.out
        rw [HVK.out] at hv
        refine ⟨(Rb.wants hI (j := 2) (d := 20) rfl (hd 2 rfl) rfl rfl), 17, #[mkC z], by go_simp, hv.mono ?_⟩
        rintro e W9 ⟨rfl, hb⟩
        exact ⟨_, rfl, hb, fun u hu => Option.some.inj hu⟩
      · refine stepPure rfl rfl (by kernel_rfl) (by kernel_rfl) (by kernel_rfl) (by kernel_rfl) fun L a9 W' hI hk hd => ?_
        have e22 := Rb.at hI 4 22 (hd 4 rfl) rfl rfl
        exact ⟨(Rb.wants hI (j := 2) (d := 20) rfl (hd 2 rfl) rfl rfl), .bool false, by go_simp, fun u hu => Option.some.inj hu⟩
      · refine stepPure rfl rfl (by kernel_rfl) (by kernel_rfl) (by kernel_rfl) (by kernel_rfl) fun L a9 W' hI hk hd => ?_
        have e23 := Rb.at hI 5 23 (hd 5 rfl) rfl rfl
        exact ⟨(Rb.wants hI (j := 2) (d := 20) rfl (hd 2 rfl) rfl rfl), .bool false, by go_simp, fun u hu => Option.some.inj hu⟩
      · refine stepPure rfl rfl (by kernel_rfl) (by kernel_rfl) (by kernel_rfl) (by kernel_rfl) fun L a9 W' hI hk hd => ?_
        have e5 : a9.tmps[5]?.getD undef = .pointer (some ⟨g, 0, none⟩) := hI.at 5 (by kernel_rfl)
        obtain ⟨x0, x1, x2, y0, y1, y2, xl, yl, _⟩ := (HKK.out W' hI.glob.chg).sp2
        exact ⟨(Rb.wants hI (j := 6) (d := 24) rfl (hd 6 rfl) rfl rfl), .agg #[z.v, z.l, z.i], by go_simp, fun u hu => Option.some.inj hu⟩
      · refine stepCall (r0 := ⟨8, 26, pp, none⟩) HINJ.out (by simp [holX4]) rfl rfl rfl rfl (by kernel_rfl) (show 26 < 80 from by decide) (by kernel_rfl) rfl fun L a9 W' hI hk hd => ?_
        have e25 := Rb.at hI 7 25 (hd 7 rfl) rfl rfl
        have hy := refBytes14 z W' ((HKK.out W' hI.glob.chg).ok (g := g) (by simp)) HLB.out
        rw [HPB.out] at hy
        exact ⟨(Rb.wants hI (j := 6) (d := 24) rfl (hd 6 rfl) rfl rfl), 11, #[mkC z], by go_simp, hy⟩
      · refine stepPure rfl rfl (by kernel_rfl) (by kernel_rfl) (by kernel_rfl) (by kernel_rfl) fun L a9 W' hI hk hd => ?_
        obtain ⟨A1, c1, e26, _, h26⟩ := Rb.slice hI (r := ⟨8, 26, pp, none⟩) (by simp [holX4]) ⟨hd 8 rfl, fun _ h => by cases h⟩
        have e26 : a9.tmps[26]?.getD undef = .slice A1 pp.length c1 := e26
        have d1 := convB W' A1 c1 pp h26
        exact ⟨(Rb.wants hI (j := 6) (d := 24) rfl (hd 6 rfl) rfl rfl), .string ⟨pp.toArray⟩, by go_simp, fun u hu => Option.some.inj hu⟩
      · refine stepPure rfl rfl (by kernel_rfl) (by kernel_rfl) (by kernel_rfl) (by kernel_rfl) fun L a9 W' hI hk hd => ?_
        have e1 : a9.tmps[1]?.getD undef = .slice A pp.length n := hI.at 1 (by kernel_rfl)
        exact ⟨(Rb.wants hI (j := 6) (d := 24) rfl (hd 6 rfl) rfl rfl), .slice A pp.length n, by go_simp, fun u hu => Option.some.inj hu⟩
      · refine stepPure rfl rfl (by kernel_rfl) (by kernel_rfl) (by kernel_rfl) (by kernel_rfl) fun L a9 W' hI hk hd => ?_
        have e28 := Rb.at hI 10 28 (hd 10 rfl) rfl rfl
        have d1 := convB W' A n pp (HPP.out W' hI.glob.chg)
        exact ⟨(Rb.wants hI (j := 6) (d := 24) rfl (hd 6 rfl) rfl rfl), .string ⟨pp.toArray⟩, by go_simp, fun u hu => Option.some.inj hu⟩
      · refine stepPure rfl rfl (by kernel_rfl) (by kernel_rfl) (by kernel_rfl) (by kernel_rfl) fun L a9 W' hI hk hd => ?_
        have e27 := Rb.at hI 9 27 (hd 9 rfl) rfl rfl
        have e29 := Rb.at hI 11 29 (hd 11 rfl) rfl rfl
        have k1 : (pp == pp) = true := by simp
        exact ⟨(Rb.wants hI (j := 6) (d := 24) rfl (hd 6 rfl) rfl rfl), .bool false, by go_simp, fun u hu => Option.some.inj hu⟩
      · refine stepPure rfl rfl (by kernel_rfl) (by kernel_rfl) (by kernel_rfl) (by kernel_rfl) fun L a9 W' hI hk hd => ?_
        have e24 := Rb.at hI 6 24 (hd 6 rfl) rfl rfl
        have e30 := Rb.at hI 12 30 (hd 12 rfl) rfl rfl
        exact ⟨(Rb.wants hI (j := 2) (d := 20) rfl (hd 2 rfl) rfl rfl), .bool false, by go_simp, fun u hu => Option.some.inj hu⟩
      · refine stepPure rfl rfl (by kernel_rfl) (by kernel_rfl) (by kernel_rfl) (by kernel_rfl) fun L a9 W' hI hk hd => ?_
        have e20 := Rb.at hI 2 20 (hd 2 rfl) rfl rfl
        have e31 := Rb.at hI 13 31 (hd 13 rfl) rfl rfl
        exact ⟨rfl, .bool false, by go_simp, fun u hu => Option.some.inj hu⟩
    · intro a9 w4 L hL hI
      have e32 := Rb.at hI 14 32 (hL 14 (by decide)) rfl rfl
      have e32' : a9.eval (.tmp 32) = .bool false := by rw [eval_tmp]; exact e32
      have K4 := Lib.hid (HKK.out w4 hI.glob.chg)
      have HP4 := Lib.hid (HPP.out w4 hI.glob.chg)
      rw [hI.frame]
      simp only [List.filterMap, List.foldl]
      rw [e32']
      clear hI hL HINJ HKK HPP e32 e32' K3 HP3 HPB HVK HLB HFI
      generalize a9.eval (.tmp 18) = v18
      generalize a9.eval (.tmp 19) = v19
      generalize a9.eval (.tmp 20) = v20
      generalize a9.eval (.tmp 21) = v21
      generalize a9.eval (.tmp 22) = v22
      generalize a9.eval (.tmp 23) = v23
      generalize a9.eval (.tmp 24) = v24
      generalize a9.eval (.tmp 25) = v25
      generalize a9.eval (.tmp 26) = v26
      generalize a9.eval (.tmp 27) = v27
      generalize a9.eval (.tmp 28) = v28
      generalize a9.eval (.tmp 29) = v29
      generalize a9.eval (.tmp 30) = v30
      generalize a9.eval (.tmp 31) = v31
      simp only [List.setIfInBounds_toArray, List.set_cons_succ, List.set_cons_zero]
      obtain ⟨x0, x1, x2, y0, y1, y2, xl, yl, _⟩ := K4.out.sp2
      obtain ⟨sm, hsm⟩ : ∃ sm, small14 c.ca = sm := ⟨_, rfl⟩
      have HSM := Lib.hid hsm
      have HS := Lib.hid (refSmall14 c sm w4 (K4.out.ok (g := W.heap.size) (by simp)) hsm)
      clear hsm
      go_wp2_with fail
      refine HS.out.mono ?_
      rintro e w5 ⟨rfl, hb⟩
      have K5 := Lib.hid (K4.out.next hb)
      have HP5 := Lib.hid (HP4.out.below hb)
      clear hb x0 x1 x2 y0 y1 y2 xl yl K4 HP4 HS
      obtain ⟨x0, x1, x2, y0, y1, y2, xl, yl, _⟩ := K5.out.sp2
      cases sm with
      | false =>
        have HKW := Lib.hid (HK.out w5 K5.out.bel)
        clear HK H
        go_wp2_with fail
        refine HKW.out.mono ?_
        rintro e w99 ⟨rfl, hb⟩
        have HB99 := Lib.hid (below_trans K5.out.bel hb)
        clear hb
        go_wp2_with fail
        go_ret
        exact ⟨rfl, HB99.out⟩
      | true =>
        have HLB := Lib.hid (byC_small HSM.out HT.out)
        obtain ⟨v, hv⟩ : ∃ v, validK c.ca = v := ⟨_, rfl⟩
        have HVV := Lib.hid hv
        have HV := Lib.hid (H.out.val c w5 K5.out.bel (K5.out.ok (g := W.heap.size) (by simp)) (fits15 (z := c) (by have := HLB.out; omega)).1)
        rw [hv] at HV
        clear hv
        go_wp2_with fail
        refine HV.out.mono ?_
        rintro e w6 ⟨rfl, hb⟩
        have K6 := Lib.hid (K5.out.next hb)
        have HP6 := Lib.hid (HP5.out.below hb)
        clear hb x0 x1 x2 y0 y1 y2 xl yl K5 HP5 HV
        obtain ⟨x0, x1, x2, y0, y1, y2, xl, yl, _⟩ := K6.out.sp2
        cases v with
        | false =>
          have HKW := Lib.hid (HK.out w6 K6.out.bel)
          clear HK H
          go_wp2_with fail
          refine HKW.out.mono ?_
          rintro e w99 ⟨rfl, hb⟩
          have HB99 := Lib.hid (below_trans K6.out.bel hb)
          clear hb
          go_wp2_with fail
          go_ret
          exact ⟨rfl, HB99.out⟩
        | true =>
          have HBY := Lib.hid (refBytes14 c w6 (K6.out.ok (g := W.heap.size) (by simp)) (lenB_small HSM.out HT.out))
          have HB3 := Lib.hid (byC_three c.ca)
          have HOC := Lib.hid (okC_small HSM.out HO.out)
          have HDC := Lib.hid (decC_byC HVV.out HOC.out)
          have HPC := Lib.hid (preC_byC HVV.out HOC.out pp)
          have HDT := Lib.hid fun i (hi : i < (byC c.ca).length) => decC_take HOC.out hi
          have HPT := Lib.hid fun i (hi : i < (byC c.ca).length) => preC_take HOC.out hi
          go_wp2_with fail
          refine HBY.out.mono ?_
          rintro e w7 ⟨⟨E, ec, rfl, ho3⟩, hb3⟩
          have K7 := Lib.hid (K6.out.next hb3)
          have HP7 := Lib.hid (HP6.out.below hb3)
          have HA7 := Lib.hid (HoldsB.of_own ho3)
          have HBGF := Lib.hid fun (A1 : Option Addr) (l1 : List UInt8) (c1 k1 : Nat) (W1 : World) (g1 : Below W.heap.size W W1) (g2 : HoldsB W1 (.slice A1 l1.length c1) l1) (g3 : l1.length ≤ 170000) (g4 : CaOK W1 c) => lawBegins H.out A1 l1 c1 c k1 0 W1 g1 g2 g3 g4 (by have := HLB.out; omega)
          clear hb3 x0 x1 x2 y0 y1 y2 xl yl K6 HP6 HBY ho3 HSM HT HO HOC HVV
          generalize byC c.ca = xs at *
          obtain ⟨m, hm⟩ : ∃ m, xs.length = m := ⟨_, rfl⟩
          have hmb : m ≤ 20030 := by rw [← hm]; exact HLB.out
          have hm3 : 3 ≤ m := by rw [← hm]; exact HB3.out
          have HXS := Lib.hid hm
          rw [hm]
          clear hm HLB HB3
          obtain ⟨bk, off, rfl, hr1, hr2⟩ := bytesAt_of15 HA7.out (by rw [HXS.out]; omega)
          clear hr1 hr2
          go_upto_region 9 with fail
          have HKK := Lib.hid fun (W' : World) (hW : Chg (fun k => (Value.slice none 0 0).ownBlock = some k) w7 W') => K7.out.next (hW.below (Nat.le_refl _) (fun _ e => by cases e))
          have HAA := Lib.hid fun (W' : World) (hW : Chg (fun k => (Value.slice none 0 0).ownBlock = some k) w7 W') => HA7.out.below (hW.below (Nat.le_refl _) (fun _ e => by cases e))
          have HINJ := Lib.hid (show ∀ q ∈ (holX9 W w7 A (some ⟨bk, off, none⟩) n ec m xs pp c).rows, ∀ q' ∈ (holX9 W w7 A (some ⟨bk, off, none⟩) n ec m xs pp c).rows, q.j = q'.j → q = q' from inj_of (show ([6, 8] : List Nat).Nodup from by decide))
          have HLE := Lib.hid (show (xs ++ pp).length ≤ 170000 ∧ xs.length ≤ 1000000000 ∧ xs.length + pp.length ≤ 1000000000 from by rw [List.length_append, HXS.out]; omega)
          refine wp_region_T (S := Rb.S (holX9 W w7 A (some ⟨bk, off, none⟩) n ec m xs pp c)) (by kernel_rfl) (by kernel_rfl) (by kernel_rfl) (dst_small (n := 80) (by kernel_rfl)) (Rb.G.start K7.out.bel rfl (by rfl) (fun _ h => by cases h)) ?_ ?_
          · refine ⟨?_, ?_, ?_, ?_, ?_, ?_, ?_, ?_, ?_, ?_, ?_, ?_, ?_, ?_, ?_, trivial⟩
            · refine stepPure rfl rfl (by kernel_rfl) (by kernel_rfl) (by kernel_rfl) (by kernel_rfl) fun L a9 W' hI hk hd => ?_
              have e7 : a9.tmps[7]?.getD undef = .slice (some ⟨bk, off, none⟩) m ec := hI.at 7 (by kernel_rfl)
              exact ⟨rfl, .slice (some ⟨bk, off, none⟩) m ec, by go_simp, fun u hu => Option.some.inj hu⟩
            · refine stepPure rfl rfl (by kernel_rfl) (by kernel_rfl) (by kernel_rfl) (by kernel_rfl) fun L a9 W' hI hk hd => ?_
              have e2 : a9.tmps[2]?.getD undef = .pointer (some ⟨W.heap.size, 0, none⟩) := hI.at 2 (by kernel_rfl)
              obtain ⟨x0, x1, x2, y0, y1, y2, xl, yl, _⟩ := (HKK.out W' hI.glob.chg).sp2
              exact ⟨rfl, .agg #[c.v, c.l, c.i], by go_simp, fun u hu => Option.some.inj hu⟩
            · refine stepVal rfl rfl (by kernel_rfl) (by kernel_rfl) (by kernel_rfl) (by kernel_rfl) fun L a9 W' hI hk hd => ?_
              have e44 := Rb.at hI 0 44 (hd 0 rfl) rfl rfl
              have e45 := Rb.at hI 1 45 (hd 1 rfl) rfl rfl
              have hv := lawIs_t H.out (some ⟨bk, off, none⟩) xs ec c W' (HKK.out W' hI.glob.chg).bel (HAA.out W' hI.glob.chg) (by rw [HXS.out]; omega) ((HKK.out W' hI.glob.chg).ok (g := W.heap.size) (by simp)) HDC.out
              rw [HXS.out] at hv
              refine ⟨rfl, 18, #[.slice (some ⟨bk, off, none⟩) m ec, mkC c, .bool true], by go_simp, hv.mono ?_⟩
              rintro e W9 ⟨rfl, hb⟩
              exact ⟨_, rfl, hb, fun u hu => Option.some.inj hu⟩
            · refine stepPure rfl rfl (by kernel_rfl) (by kernel_rfl) (by kernel_rfl) (by kernel_rfl) fun L a9 W' hI hk hd => ?_
              have e46 := Rb.at hI 2 46 (hd 2 rfl) rfl rfl
              exact ⟨rfl, .bool false, by go_simp, fun u hu => Option.some.inj hu⟩
            · refine stepPure rfl rfl (by kernel_rfl) (by kernel_rfl) (by kernel_rfl) (by kernel_rfl) fun L a9 W' hI hk hd => ?_
              have e47 := Rb.at hI 3 47 (hd 3 rfl) rfl rfl
              exact ⟨rfl, .bool false, by go_simp, fun u hu => Option.some.inj hu⟩
            · refine stepPure rfl rfl (by kernel_rfl) (by kernel_rfl) (by kernel_rfl) (by kernel_rfl) fun L a9 W' hI hk hd => ?_
              have e7 : a9.tmps[7]?.getD undef = .slice (some ⟨bk, off, none⟩) m ec := hI.at 7 (by kernel_rfl)
              exact ⟨(Rb.wants hI (j := 4) (d := 48) rfl (hd 4 rfl) rfl rfl), .slice (some ⟨bk, off, none⟩) m ec, by go_simp, fun u hu => Option.some.inj hu⟩
            · refine stepNil (r0 := ⟨6, 50, xs, some 8⟩) (j2 := 5) (d2 := 49) HINJ.out (by simp [holX9]) rfl rfl rfl HLE.out.2.1 rfl rfl (by kernel_rfl) (show 50 < 80 from by decide) rfl rfl (fun L a9 W' hI hd => (Rb.wants hI (j := 4) (d := 48) rfl (hd 4 rfl) rfl rfl)) rfl rfl rfl HXS.out.symm rfl (bytesAt_of15 HA7.out) fun a W' v w9 W9 h2 h3 => ?_
              have h2 : a.eval (.tmp 49) = v := h2
              have h1 : a.eval (.const (.slice none 0 0)) = .slice none 0 0 := rfl
              unfold execOp
              simp only [resolve, invoke, builtin, Sem.run_bind, Sem.run_pure, Result.andThen_ok, List.map_toArray, List.map_cons, List.map_nil, h1, h2, h3]
            · refine stepPure rfl rfl (by kernel_rfl) (by kernel_rfl) (by kernel_rfl) (by kernel_rfl) fun L a9 W' hI hk hd => ?_
              have e1 : a9.tmps[1]?.getD undef = .slice A pp.length n := hI.at 1 (by kernel_rfl)
              exact ⟨(Rb.wants hI (j := 4) (d := 48) rfl (hd 4 rfl) rfl rfl), .slice A pp.length n, by go_simp, fun u hu => Option.some.inj hu⟩
            · refine stepOut (r0 := ⟨8, 52, xs ++ pp, none⟩) (r1 := ⟨6, 50, xs, some 8⟩) (j2 := 7) (d2 := 51) HINJ.out (by simp [holX9]) rfl rfl (by simp [holX9]) rfl rfl HLE.out.2.2 rfl rfl (by kernel_rfl) (show 52 < 80 from by decide) rfl rfl (fun L a9 W' hI hd => (Rb.wants hI (j := 4) (d := 48) rfl (hd 4 rfl) rfl rfl)) rfl rfl rfl rfl rfl rfl (bytesAt_of15 HP7.out) fun a W' u v w9 W9 h1 h2 h3 => ?_
              have h1 : a.eval (.tmp 50) = u := h1
              have h2 : a.eval (.tmp 51) = v := h2
              unfold execOp
              simp only [resolve, invoke, builtin, Sem.run_bind, Sem.run_pure, Result.andThen_ok, List.map_toArray, List.map_cons, List.map_nil, h1, h2, h3]
            · refine stepPure rfl rfl (by kernel_rfl) (by kernel_rfl) (by kernel_rfl) (by kernel_rfl) fun L a9 W' hI hk hd => ?_
              have e2 : a9.tmps[2]?.getD undef = .pointer (some ⟨W.heap.size, 0, none⟩) := hI.at 2 (by kernel_rfl)
              obtain ⟨x0, x1, x2, y0, y1, y2, xl, yl, _⟩ := (HKK.out W' hI.glob.chg).sp2
              exact ⟨(Rb.wants hI (j := 4) (d := 48) rfl (hd 4 rfl) rfl rfl), .agg #[c.v, c.l, c.i], by go_simp, fun u hu => Option.some.inj hu⟩
            · refine stepPure rfl rfl (by kernel_rfl) (by kernel_rfl) (by kernel_rfl) (by kernel_rfl) fun L a9 W' hI hk hd => ?_
              have e7 : a9.tmps[7]?.getD undef = .slice (some ⟨bk, off, none⟩) m ec := hI.at 7 (by kernel_rfl)
              exact ⟨(Rb.wants hI (j := 4) (d := 48) rfl (hd 4 rfl) rfl rfl), .slice (some ⟨bk, off, none⟩) m ec, by go_simp, fun u hu => Option.some.inj hu⟩
            · refine stepPure rfl rfl (by kernel_rfl) (by kernel_rfl) (by kernel_rfl) (by kernel_rfl) fun L a9 W' hI hk hd => ?_
              have e54 := Rb.at hI 10 54 (hd 10 rfl) rfl rfl
              exact ⟨(Rb.wants hI (j := 4) (d := 48) rfl (hd 4 rfl) rfl rfl), .int .i64 (m : Nat), by go_simp, fun u hu => Option.some.inj hu⟩
            · refine stepVal rfl rfl (by kernel_rfl) (by kernel_rfl) (by kernel_rfl) (by kernel_rfl) fun L a9 W' hI hk hd => ?_
              obtain ⟨A1, c1, e52, _, h52⟩ := Rb.slice hI (r := ⟨8, 52, xs ++ pp, none⟩) (by simp [holX9]) ⟨hd 8 rfl, fun _ h => by cases h⟩
              have e52 : a9.tmps[52]?.getD undef = .slice A1 (xs ++ pp).length c1 := e52
              have e53 := Rb.at hI 9 53 (hd 9 rfl) rfl rfl
              have e55 := Rb.at hI 11 55 (hd 11 rfl) rfl rfl
              have hv := HBGF.out A1 (xs ++ pp) c1 m W' (HKK.out W' hI.glob.chg).bel h52 HLE.out.1 ((HKK.out W' hI.glob.chg).ok (g := W.heap.size) (by simp)) (by rw [HPC.out]; rfl) (by rw [HPC.out]; exact HXS.out) (by rw [HPC.out]; rfl)
              refine ⟨(Rb.wants hI (j := 4) (d := 48) rfl (hd 4 rfl) rfl rfl), 19, #[.slice A1 (xs ++ pp).length c1, mkC c, .int .i64 (m : Nat), .int .i64 0], by go_simp, hv.mono ?_⟩
              rintro e W9 ⟨rfl, hb⟩
              exact ⟨_, rfl, hb, fun u hu => Option.some.inj hu⟩
            · refine stepPure rfl rfl (by kernel_rfl) (by kernel_rfl) (by kernel_rfl) (by kernel_rfl) fun L a9 W' hI hk hd => ?_
              have e56 := Rb.at hI 12 56 (hd 12 rfl) rfl rfl
              exact ⟨(Rb.wants hI (j := 4) (d := 48) rfl (hd 4 rfl) rfl rfl), .bool false, by go_simp, fun u hu => Option.some.inj hu⟩
            · refine stepPure rfl rfl (by kernel_rfl) (by kernel_rfl) (by kernel_rfl) (by kernel_rfl) fun L a9 W' hI hk hd => ?_
              have e48 := Rb.at hI 4 48 (hd 4 rfl) rfl rfl
              have e57 := Rb.at hI 13 57 (hd 13 rfl) rfl rfl
              exact ⟨rfl, .bool false, by go_simp, fun u hu => Option.some.inj hu⟩
          · intro a9 w8 L hL hI
            have e58 := Rb.at hI 14 58 (hL 14 (by decide)) rfl rfl
            have e58' : a9.eval (.tmp 58) = .bool false := by rw [eval_tmp]; exact e58
            have HB8 := Lib.hid (HKK.out w8 hI.glob.chg).bel
            have HA8 := Lib.hid (HAA.out w8 hI.glob.chg)
            rw [hI.frame]
            simp only [List.filterMap, List.foldl]
            rw [e58']
            clear hI hL HINJ HKK HAA e58 e58' K7 HP7 HA7 HLE HDC HPC HBGF
            generalize a9.eval (.tmp 44) = v44
            generalize a9.eval (.tmp 45) = v45
            generalize a9.eval (.tmp 46) = v46
            generalize a9.eval (.tmp 47) = v47
            generalize a9.eval (.tmp 48) = v48
            generalize a9.eval (.tmp 49) = v49
            generalize a9.eval (.tmp 50) = v50
            generalize a9.eval (.tmp 51) = v51
            generalize a9.eval (.tmp 52) = v52
            generalize a9.eval (.tmp 53) = v53
            generalize a9.eval (.tmp 54) = v54
            generalize a9.eval (.tmp 55) = v55
            generalize a9.eval (.tmp 56) = v56
            generalize a9.eval (.tmp 57) = v57
            simp only [List.setIfInBounds_toArray, List.set_cons_succ, List.set_cons_zero]
            go_wp2_with fail
            go_loopw [8] (fun v wr => ∃ i : Nat, v = .int .i64 (i : Nat) ∧ i ≤ m ∧ Hid (HoldsB wr (.slice (some ⟨bk, off, none⟩) xs.length ec) xs) ∧ Hid (Below W.heap.size W wr)) (fun v _ => m - (intOf v).toNat)
            case atStart => exact ⟨0, rfl, Nat.zero_le _, HA8, HB8⟩
            case round =>
              clear HA8 HB8
              obtain ⟨i, rfl, him, hA, hB⟩ := hrel
              by_cases hlt : i < m
              · have k0 : (i : Int) < (m : Int) := by omega
                have hcp := caps_of15 hA.out
                rw [HXS.out] at hcp
                have HA1 := Lib.hid (part15 (i := i) hA.out (by rw [HXS.out]; omega))
                have HTL := Lib.hid (show (xs.take i).length = i from by rw [List.length_take, HXS.out]; omega)
                have HIS := Lib.hid (lawIs_f H.out (some ⟨bk, off, none⟩) (xs.take i) ec nilC wr hB.out HA1.out (by rw [HTL.out]; omega) (nilC_ok _) (HDT.out i (by rw [HXS.out]; omega)))
                rw [HTL.out] at HIS
                replace HIS := Lib.hid (show Calls Tryz.prog 18 #[.slice (some ⟨bk, off, none⟩) i ec, .agg #[.slice none 0 0, .slice none 0 0, .slice none 0 0], .bool false] wr (OneB (.bool true) wr) from HIS.out)
                have HPN := Lib.hid (HPT.out i (by rw [HXS.out]; omega))
                go_wp2_with fail
                refine HIS.out.mono ?_
                rintro e w9 ⟨rfl, hb⟩
                have HB9 := Lib.hid (below_trans hB.out hb)
                have HA9 := Lib.hid (hA.out.below hb)
                have HC9 := Lib.hid (HA1.out.below hb)
                clear hb HIS HA1 hA hB
                have HBG := Lib.hid (lawBegins H.out (some ⟨bk, off, none⟩) (xs.take i) ec nilC 0 12 w9 HB9.out HC9.out (by rw [HTL.out]; omega) (nilC_ok _) (by rw [nil_enc]; decide) (by rw [HPN.out]; rfl) (by rw [HPN.out]; rfl) (by rw [HPN.out]; rfl))
                rw [HTL.out] at HBG
                replace HBG := Lib.hid (show Calls Tryz.prog 19 #[.slice (some ⟨bk, off, none⟩) i ec, .agg #[.slice none 0 0, .slice none 0 0, .slice none 0 0], .int .i64 0, .int .i64 12] w9 (OneB (.bool true) w9) from HBG.out)
                go_wp2_with fail
                refine HBG.out.mono ?_
                rintro e w10 ⟨rfl, hb⟩
                have HB10 := Lib.hid (below_trans HB9.out hb)
                have HA10 := Lib.hid (HA9.out.below hb)
                clear hb HBG HA9 HB9 HC9
                go_wp2_with fail
                go_roundw
                case rel => exact ⟨i + 1, by go_num, by omega, HA10, HB10⟩
                case measure => simp [intOf]; omega
              · have k0 : ¬ (i : Int) < (m : Int) := by omega
                have HKW := Lib.hid (HK.out wr hB.out)
                clear HK H
                go_wp2_with fail
                refine HKW.out.mono ?_
                rintro e w99 ⟨rfl, hb⟩
                have HB99 := Lib.hid (below_trans hB.out hb)
                clear hb
                go_wp2_with fail
                go_ret
                exact ⟨rfl, HB99.out⟩

end

end Go.Proofs.YtpnemekkpifbaaaGreat
