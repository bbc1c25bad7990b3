/- Several texts in one: DecV, DecR. -/
import Derived.Test.YtpnemekkpifbaaaGreatMBC
import Derived.Test.YtpnemekkpifbaaaGreatMBI
namespace Go.Proofs.YtpnemekkpifbaaaGreat

section
open Go.RowKit

def spoX (E W0 : World) (A O Q : Option Addr) (n ec m fr tt k : Nat) (xs p ys : List UInt8) : Rb where
  E := E
  W0 := W0
  n := 62
  D := .slice none 0 0
  acc := []
  m := none
  s := 100
  rows := [⟨3, 40, xs.take fr, some 5⟩, ⟨5, 42, xs.take fr ++ p, some 9⟩, ⟨9, 46, ys, some 10⟩, ⟨10, 12, ys, none⟩]
  known := fun
    | 0 => some (.slice O m ec)
    | 1 => some (.int .i64 (fr : Nat))
    | 2 => some (.slice O fr ec)
    | 4 => some (.slice A p.length n)
    | 6 => some (.slice O m ec)
    | 7 => some (.int .i64 (tt : Nat))
    | 8 => some (.slice Q k (ec - tt : Nat))
    | _ => none

set_option maxRecDepth 100000 in
set_option maxHeartbeats 8000000 in
theorem lawSpoilt_15 (c : CaV) (at0 less : Nat) (A : Option Addr) (p : List UInt8) (n : Nat) (W : World) (h : DecOK W) (hc : CaOK W c) (ht : TimC c.ca) (ha : at0 < 65536) (hle : less < 256) (hp : HoldsB W (.slice A p.length n) p) :
    Calls Tryz.prog 4 #[mkC c, .int .u16 (at0 : Nat), .int .u8 (less : Nat), .slice A p.length n] W (OneB (.bool true) W) := by
  have HK := Lib.hid (known15_w h)
  have H := Lib.hid h
  have K0 := Lib.hid (KK.new W c hc)
  have HP := Lib.hid (hp.below K0.out.bel)
  obtain ⟨sm, hsm⟩ : ∃ sm, small14 c.ca = sm := ⟨_, rfl⟩
  have HSM := Lib.hid hsm
  have HS := Lib.hid fun W (h : CaOK W c) => refSmall14 c sm W h hsm
  have HT := Lib.hid ht
  have hcap := caps_of15 hp
  have hpl : p.length ≤ 9223372036854775807 := by have := hcap.1; have := hcap.2; unfold maxLen at this; omega
  clear h hc hp hsm ht hcap
  go_enter Tryz.func4, Tryz.ntmps4
  obtain ⟨x0, x1, x2, xl, _⟩ := K0.out.sp
  go_wp2_with fail
  generalize World.alloc W _ = w1 at K0 HP x0 x1 x2 xl ⊢
  refine (HS.out w1 (K0.out.ok (g := W.heap.size) (by simp))).mono ?_
  rintro e w2 ⟨rfl, hb2⟩
  have K2 := Lib.hid (K0.out.next hb2)
  have HP2 := Lib.hid (HP.out.below hb2)
  clear hb2 x0 x1 x2 xl K0 HP HS
  obtain ⟨x0, x1, x2, xl, _⟩ := K2.out.sp
  cases sm with
  | false =>
    have HKW := Lib.hid (HK.out w2 K2.out.bel)
    clear HP2 HK H
    go_wp2_with fail
    refine HKW.out.mono ?_
    rintro e w3 ⟨rfl, hb⟩
    have HB3 := Lib.hid (below_trans K2.out.bel hb)
    clear hb
    go_wp2_with fail
    go_ret
    exact ⟨rfl, HB3.out⟩
  | true =>
    by_cases hl : 20 < p.length
    · have j0 : (20 : Int) < (p.length : Int) := by omega
      have HKW := Lib.hid (HK.out w2 K2.out.bel)
      clear HP2 HK H hl
      go_wp2_with fail
      refine HKW.out.mono ?_
      rintro e w3 ⟨rfl, hb⟩
      have HB3 := Lib.hid (below_trans K2.out.bel hb)
      clear hb
      go_wp2_with fail
      go_ret
      exact ⟨rfl, HB3.out⟩
    · have j0 : ¬ (20 : Int) < (p.length : Int) := by omega
      have HLB := Lib.hid (byC_small HSM.out HT.out)
      have HB3 := Lib.hid (byC_three c.ca)
      have HBY := Lib.hid (refBytes14 c w2 (K2.out.ok (g := W.heap.size) (by simp)) (lenB_small HSM.out HT.out))
      go_wp2_with fail
      refine HBY.out.mono ?_
      rintro e w3 ⟨⟨E, ec, rfl, ho3⟩, hb3⟩
      have K3 := Lib.hid (K2.out.next hb3)
      have HP3 := Lib.hid (HP2.out.below hb3)
      have HA3 := Lib.hid (HoldsB.of_own ho3)
      clear hb3 x0 x1 x2 xl K2 HP2 HBY ho3
      generalize byC c.ca = xs at *
      obtain ⟨m, hm⟩ : ∃ m, xs.length = m := ⟨_, rfl⟩
      have hmb : m ≤ 20030 := by rw [← hm]; exact HLB.out
      have hm3 : 3 ≤ m := by rw [← hm]; exact HB3.out
      obtain ⟨fr, hfr⟩ : ∃ fr, at0 % (m + 1) = fr := ⟨_, rfl⟩
      have hfl : fr ≤ m := by have := Nat.mod_lt at0 (show m + 1 > 0 by omega); omega
      have j1 : (at0 : Int) % ((m : Int) + 1) = (fr : Int) := by rw [← hfr]; push_cast; rfl
      have j2 : ¬ (m : Int) + 1 = 0 := by omega
      have hcp := caps_of15 HA3.out
      have HXS := Lib.hid hm
      rw [hm]
      rw [hm] at hcp
      clear hm HLB HB3 hfr
      obtain ⟨tt, htt, htl⟩ : ∃ tt : Nat, min (m : Int) ((fr : Int) + (less : Int)) = (tt : Int) ∧ tt ≤ m := ⟨min m (fr + less), by omega, Nat.min_le_left _ _⟩
      obtain ⟨bk, off, rfl, hr1, hr2⟩ := bytesAt_of15 HA3.out (by rw [HXS.out]; omega)
      clear hr1 hr2
      have HBA := Lib.hid (bytesAt_of15 HA3.out)
      obtain ⟨Q, hQ⟩ : ∃ Q : Option Addr, (if ec = tt then some (⟨bk, off, none⟩ : Addr) else some ⟨bk, off + tt, none⟩) = Q := ⟨_, rfl⟩
      have HTA := Lib.hid (show BytesAt w3 (some ⟨bk, off, none⟩) (xs.take fr) from by
        have h := In15.part2 (i := 0) (k := fr) HBA.out (by rw [HXS.out]; omega) (by rw [HXS.out]; exact hcp.1) hcp.2
        have h2 := bytesAt_of15 h
        rw [List.drop_zero, Nat.add_zero] at h2
        simpa using h2)
      have HDR := Lib.hid (show BytesAt w3 Q (xs.drop tt) from by
        have h := In15.part2 (i := tt) (k := m - tt) HBA.out (by rw [HXS.out]; omega) (by rw [HXS.out]; exact hcp.1) hcp.2
        have h2 := bytesAt_of15 h
        rw [hQ, List.take_of_length_le (by rw [List.length_drop, HXS.out]; omega)] at h2
        exact h2)
      have HLT := Lib.hid (show fr = (xs.take fr).length from by rw [List.length_take, HXS.out]; omega)
      have HLD := Lib.hid (show m - tt = (xs.drop tt).length from by rw [List.length_drop, HXS.out])
      obtain ⟨ys, hys⟩ : ∃ ys, (xs.take fr ++ p) ++ xs.drop tt = ys := ⟨_, rfl⟩
      have HYS := Lib.hid hys
      have HYL := Lib.hid (show ys.length ≤ 100000 from by rw [← hys, List.length_append, List.length_append, ← HLT.out, ← HLD.out]; omega)
      have HL1 := Lib.hid (show (xs.take fr).length ≤ 1000000000 ∧ (xs.take fr).length + p.length ≤ 1000000000 ∧ (xs.take fr ++ p).length + (xs.drop tt).length ≤ 1000000000 from by rw [List.length_append, ← HLT.out, ← HLD.out]; omega)
      clear hys
      go_upto_region 6 with fail
      simp only [j1]
      clear j1 htt
      have HINJ := Lib.hid (show ∀ q ∈ (spoX W w3 A (some ⟨bk, off, none⟩) Q n ec m fr tt (m - tt) xs p ys).rows, ∀ q' ∈ (spoX W w3 A (some ⟨bk, off, none⟩) Q n ec m fr tt (m - tt) xs p ys).rows, q.j = q'.j → q = q' from inj_of (show ([3, 5, 9, 10] : List Nat).Nodup from by decide))
      refine wp_region_T (S := Rb.S (spoX W w3 A (some ⟨bk, off, none⟩) Q n ec m fr tt (m - tt) xs p ys)) (by kernel_rfl) (by kernel_rfl) (by kernel_rfl) (dst_small (n := 62) (by kernel_rfl)) (Rb.G.start K3.out.bel rfl (by rfl) (fun _ h => by cases h)) ?_ ?_
      · refine ⟨?_, ?_, ?_, ?_, ?_, ?_, ?_, ?_, ?_, ?_, ?_, trivial⟩
        · refine stepPure rfl rfl (by kernel_rfl) (by kernel_rfl) (by kernel_rfl) (by kernel_rfl) fun L a9 W hI hk hd => ?_
          have e9 : a9.tmps[9]?.getD undef = .slice (some ⟨bk, off, none⟩) m ec := hI.at 9 (by kernel_rfl)
          exact ⟨rfl, .slice (some ⟨bk, off, none⟩) m ec, by go_simp, fun u hu => Option.some.inj hu⟩
        · refine stepPure rfl rfl (by kernel_rfl) (by kernel_rfl) (by kernel_rfl) (by kernel_rfl) fun L a9 W hI hk hd => ?_
          have e10 : a9.tmps[10]?.getD undef = .int .i64 (fr : Nat) := hI.at 10 (by kernel_rfl)
          exact ⟨rfl, .int .i64 (fr : Nat), by go_simp, fun u hu => Option.some.inj hu⟩
        · refine stepPure rfl rfl (by kernel_rfl) (by kernel_rfl) (by kernel_rfl) (by kernel_rfl) fun L a9 W hI hk hd => ?_
          have e37 := Rb.at hI 0 37 (hd 0 rfl) rfl rfl
          have e38 := Rb.at hI 1 38 (hd 1 rfl) rfl rfl
          have i1 : ¬ ec < fr := by have := hcp.1; omega
          exact ⟨rfl, .slice (some ⟨bk, off, none⟩) fr ec, by go_simp, fun u hu => Option.some.inj hu⟩
        · refine stepNil (r0 := ⟨3, 40, xs.take fr, some 5⟩) (j2 := 2) (d2 := 39) HINJ.out (by simp [spoX]) rfl rfl rfl HL1.out.1 rfl rfl (by kernel_rfl) (show 40 < 62 from by decide) rfl rfl (fun _ _ _ _ _ => rfl) rfl rfl rfl HLT.out rfl HTA.out fun a W v w9 W9 h2 h3 => ?_
          have h2 : a.eval (.tmp 39) = v := h2
          have h1 : a.eval (.const (.slice none 0 0)) = .slice none 0 0 := rfl
          unfold execOp
          simp only [resolve, invoke, builtin, Sem.run_bind, Sem.run_pure, Result.andThen_ok, List.map_toArray, List.map_cons, List.map_nil, h1, h2, h3]
        · refine stepPure rfl rfl (by kernel_rfl) (by kernel_rfl) (by kernel_rfl) (by kernel_rfl) fun L a9 W hI hk hd => ?_
          have e3 : a9.tmps[3]?.getD undef = .slice A p.length n := hI.at 3 (by kernel_rfl)
          exact ⟨rfl, .slice A p.length n, by go_simp, fun u hu => Option.some.inj hu⟩
        · refine stepOut (r0 := ⟨5, 42, xs.take fr ++ p, some 9⟩) (r1 := ⟨3, 40, xs.take fr, some 5⟩) (j2 := 4) (d2 := 41) HINJ.out (by simp [spoX]) rfl rfl (by simp [spoX]) rfl rfl HL1.out.2.1 rfl rfl (by kernel_rfl) (show 42 < 62 from by decide) rfl rfl (fun _ _ _ _ _ => rfl) rfl rfl rfl rfl rfl rfl (bytesAt_of15 HP3.out) fun a W u v w9 W9 h1 h2 h3 => ?_
          have h1 : a.eval (.tmp 40) = u := h1
          have h2 : a.eval (.tmp 41) = v := h2
          unfold execOp
          simp only [resolve, invoke, builtin, Sem.run_bind, Sem.run_pure, Result.andThen_ok, List.map_toArray, List.map_cons, List.map_nil, h1, h2, h3]
        · refine stepPure rfl rfl (by kernel_rfl) (by kernel_rfl) (by kernel_rfl) (by kernel_rfl) fun L a9 W hI hk hd => ?_
          have e9 : a9.tmps[9]?.getD undef = .slice (some ⟨bk, off, none⟩) m ec := hI.at 9 (by kernel_rfl)
          exact ⟨rfl, .slice (some ⟨bk, off, none⟩) m ec, by go_simp, fun u hu => Option.some.inj hu⟩
        · refine stepPure rfl rfl (by kernel_rfl) (by kernel_rfl) (by kernel_rfl) (by kernel_rfl) fun L a9 W hI hk hd => ?_
          have e11 : a9.tmps[11]?.getD undef = .int .i64 (tt : Nat) := hI.at 11 (by kernel_rfl)
          exact ⟨rfl, .int .i64 (tt : Nat), by go_simp, fun u hu => Option.some.inj hu⟩
        · refine stepPure rfl rfl (by kernel_rfl) (by kernel_rfl) (by kernel_rfl) (by kernel_rfl) fun L a9 W hI hk hd => ?_
          have e43 := Rb.at hI 6 43 (hd 6 rfl) rfl rfl
          have e44 := Rb.at hI 7 44 (hd 7 rfl) rfl rfl
          refine ⟨rfl, .slice Q (m - tt : Nat) (ec - tt : Nat), ?_, fun u hu => Option.some.inj hu⟩
          subst hQ
          by_cases hcj : ec = tt
          · rw [if_pos hcj]
            go_simp
          · rw [if_neg hcj]
            go_simp
        · refine stepOut (r0 := ⟨9, 46, ys, some 10⟩) (r1 := ⟨5, 42, xs.take fr ++ p, some 9⟩) (j2 := 8) (d2 := 45) HINJ.out (by simp [spoX]) rfl rfl (by simp [spoX]) rfl HYS.out.symm HL1.out.2.2 rfl rfl (by kernel_rfl) (show 46 < 62 from by decide) rfl rfl (fun _ _ _ _ _ => rfl) rfl rfl rfl rfl HLD.out rfl HDR.out fun a W u v w9 W9 h1 h2 h3 => ?_
          have h1 : a.eval (.tmp 42) = u := h1
          have h2 : a.eval (.tmp 45) = v := h2
          unfold execOp
          simp only [resolve, invoke, builtin, Sem.run_bind, Sem.run_pure, Result.andThen_ok, List.map_toArray, List.map_cons, List.map_nil, h1, h2, h3]
        · exact stepPass (r0 := ⟨10, 12, ys, none⟩) (r1 := ⟨9, 46, ys, some 10⟩) HINJ.out (by simp [spoX]) rfl rfl (by simp [spoX]) rfl (show (9 : Nat) ≠ 10 from by decide) rfl rfl rfl (by kernel_rfl) (show 12 < 62 from by decide) (fun m h => by cases h) rfl rfl rfl rfl
      · intro a9 w4 L hL hI
        obtain ⟨A5, c5, e12, _, h12⟩ := Rb.slice hI (r := ⟨10, 12, ys, none⟩) (by simp [spoX]) ⟨hL 10 (by decide), fun _ h => (by cases h)⟩
        have e12' : a9.eval (.tmp 12) = .slice A5 ys.length c5 := by rw [eval_tmp]; exact e12
        have hbw : Below w3.heap.size w3 w4 := hI.glob.outer rfl
        have K4 := Lib.hid (K3.out.next hbw)
        have HY4 := Lib.hid h12
        have HA4 := Lib.hid (HA3.out.below hbw)
        rw [hI.frame]
        simp only [List.filterMap, List.foldl]
        rw [e12']
        clear hI hL HINJ e12 e12' hbw h12 K3 HA3 HP3 HDR HTA HBA HYS HL1 hQ HLD HLT
        generalize a9.eval (.tmp 37) = v37
        generalize a9.eval (.tmp 38) = v38
        generalize a9.eval (.tmp 39) = v39
        generalize a9.eval (.tmp 40) = v40
        generalize a9.eval (.tmp 41) = v41
        generalize a9.eval (.tmp 42) = v42
        generalize a9.eval (.tmp 43) = v43
        generalize a9.eval (.tmp 44) = v44
        generalize a9.eval (.tmp 45) = v45
        generalize a9.eval (.tmp 46) = v46
        simp only [List.setIfInBounds_toArray, List.set_cons_succ, List.set_cons_zero]
        have HR1 := Lib.hid (lawRight H.out (some ⟨bk, off, none⟩) xs ec w4 K4.out.bel HA4.out (by rw [HXS.out]; omega))
        rw [HXS.out] at HR1
        go_wp2_with fail
        refine HR1.out.mono ?_
        rintro e w5 ⟨rfl, hb⟩
        have K5 := Lib.hid (K4.out.next hb)
        have HY5 := Lib.hid (HY4.out.below hb)
        clear hb K4 HY4 HA4 HR1
        have HR2 := Lib.hid (lawRight H.out A5 ys c5 w5 K5.out.bel HY5.out HYL.out)
        go_wp2_with fail
        refine HR2.out.mono ?_
        rintro e w6 ⟨rfl, hb⟩
        have K6 := Lib.hid (K5.out.next hb)
        clear hb K5 HY5 HR2
        obtain ⟨x0, x1, x2, xl, _⟩ := K6.out.sp
        have HXL := Lib.hid (show c.vs.length ≤ 40 ∧ c.ls.length ≤ 40 from by
          obtain ⟨h1, h2, _⟩ := small_iff.1 HSM.out
          exact ⟨h1, h2⟩)
        have HRC := Lib.hid (show Calls Tryz.prog 12 #[.agg #[c.v, c.l]] w6 (MadeB (byX (c.vs, c.ls)) w6) from by
          obtain ⟨h1, h2, _⟩ := K6.out.ok (g := W.heap.size) (c := c) (by simp)
          obtain ⟨V', nv', eV, hV, _, _⟩ := h1
          obtain ⟨L', nl', eL, hL, _, _⟩ := h2
          injection eV with e1 _ _
          injection eL with e2 _ _
          exact refContext14 c.V c.L c.vs c.ls c.nv c.nl w6 (e1 ▸ hV) (e2 ▸ hL) (by have := HXL.out.1; omega) (by have := HXL.out.2; omega))
        have HXL2 := Lib.hid (show (byX (c.vs, c.ls)).length ≤ 100000 from by
          have := byX_len (c := (c.vs, c.ls)) (by have := HXL.out.1; show c.vs.length ≤ 1000; omega) (by have := HXL.out.2; show c.ls.length ≤ 1000; omega)
          omega)
        generalize byX (c.vs, c.ls) = bx at HRC HXL2
        clear HXL HSM HT
        go_wp2_with fail
        refine HRC.out.mono ?_
        rintro e w7 ⟨⟨B, cb, rfl, hob⟩, hb⟩
        have K7 := Lib.hid (K6.out.next hb)
        have HR3 := Lib.hid (lawRight H.out B bx cb w7 K7.out.bel (HoldsB.of_own hob) HXL2.out)
        clear hb K6 hob HRC x0 x1 x2 xl
        go_wp2_with fail
        refine HR3.out.mono ?_
        rintro e w8 ⟨rfl, hb⟩
        have K8 := Lib.hid (K7.out.next hb)
        have HKW := Lib.hid (HK.out w8 K8.out.bel)
        clear hb K7 HR3 HK H
        go_wp2_with fail
        refine HKW.out.mono ?_
        rintro e w9 ⟨rfl, hb⟩
        have HB9 := Lib.hid (below_trans K8.out.bel hb)
        clear hb HKW
        go_wp2_with fail
        go_ret
        exact ⟨rfl, HB9.out⟩

end

section
open Go.RowKit

/-- The bytes before the great number. -/
def befG (k : Nat) : List UInt8 := if k = 0 then [] else if k = 1 then [0] else if k = 2 then [0, 0] else if k = 3 then [0, 0, 1] else [0, 0, 1, 1, 97]
theorem befG_len (k : Nat) : (befG k).length ≤ 5 := by unfold befG; (repeat' split) <;> simp

set_option maxRecDepth 100000 in
set_option maxHeartbeats 8000000 in
theorem lawGreats_15 (k m : Nat) (A : Option Addr) (p : List UInt8) (n : Nat) (W : World) (h : DecOK W) (hk : k < 256) (hm : m < 18446744073709551616) (hp : HoldsB W (.slice A p.length n) p) :
    Calls Tryz.prog 6 #[.int .u8 (k : Nat), .int .u64 (m : Nat), .slice A p.length n] W (OneB (.bool true) W) := by
  obtain ⟨i0, hi0, hz0, hz1, hz2⟩ := info_parts infoB
  have HK := Lib.hid (known15_w h)
  have H := Lib.hid h
  have hcap := caps_of15 hp
  have hle : p.length ≤ 9223372036854775807 := by have := hcap.1; have := hcap.2; unfold maxLen at this; omega
  by_cases hl : 60 < p.length
  · have j0 : (60 : Int) < (p.length : Int) := by omega
    have HKW := Lib.hid (HK.out W (Below.refl _ _))
    clear hl hp hcap HK h H
    go_enter Tryz.func6, Tryz.ntmps6
    go_wp2_with fail
    refine HKW.out.mono ?_
    rintro e w1 ⟨rfl, hb⟩
    have HB := Lib.hid hb
    clear hb
    go_wp2_with fail
    go_ret
    exact ⟨rfl, HB.out⟩
  · have j0 : ¬ (60 : Int) < (p.length : Int) := by omega
    have l0 : HoldsB ((((((W.alloc (.cells #[] 5)).alloc (.cells #[.int .u8 0] 5)).alloc (.cells #[.int .u8 0, .int .u8 0] 5)).alloc (.cells #[.int .u8 0, .int .u8 0, .int .u8 1] 5)).alloc (.cells #[.int .u8 0, .int .u8 0, .int .u8 1, .int .u8 1, .int .u8 97] 5)).alloc (.cells #[.slice (some ⟨W.heap.size, 0, none⟩) 0 0, .slice (some ⟨W.heap.size + 1, 0, none⟩) 1 1, .slice (some ⟨W.heap.size + 1 + 1, 0, none⟩) 2 2, .slice (some ⟨W.heap.size + 1 + 1 + 1, 0, none⟩) 3 3, .slice (some ⟨W.heap.size + 1 + 1 + 1 + 1, 0, none⟩) 5 5] 22)) (.slice (some ⟨W.heap.size, 0, none⟩) ([] : List UInt8).length 0) [] := by
      have h : HoldsB (W.alloc (.cells #[] 5)) (.slice (some ⟨W.heap.size, 0, none⟩) ([] : List UInt8).length 0) [] := litB W [] (by decide)
      have hz : Below (W.alloc (.cells #[] 5)).heap.size (W.alloc (.cells #[] 5)) ((((((W.alloc (.cells #[] 5)).alloc (.cells #[.int .u8 0] 5)).alloc (.cells #[.int .u8 0, .int .u8 0] 5)).alloc (.cells #[.int .u8 0, .int .u8 0, .int .u8 1] 5)).alloc (.cells #[.int .u8 0, .int .u8 0, .int .u8 1, .int .u8 1, .int .u8 97] 5)).alloc (.cells #[.slice (some ⟨W.heap.size, 0, none⟩) 0 0, .slice (some ⟨W.heap.size + 1, 0, none⟩) 1 1, .slice (some ⟨W.heap.size + 1 + 1, 0, none⟩) 2 2, .slice (some ⟨W.heap.size + 1 + 1 + 1, 0, none⟩) 3 3, .slice (some ⟨W.heap.size + 1 + 1 + 1 + 1, 0, none⟩) 5 5] 22)) := ((((((Below.refl _ (W.alloc (.cells #[] 5))).alloc (by simp <;> omega) _).alloc (by simp <;> omega) _).alloc (by simp <;> omega) _).alloc (by simp <;> omega) _).alloc (by simp <;> omega) _)
      have h2 := h.below hz
      exact h2
    have l1 : HoldsB ((((((W.alloc (.cells #[] 5)).alloc (.cells #[.int .u8 0] 5)).alloc (.cells #[.int .u8 0, .int .u8 0] 5)).alloc (.cells #[.int .u8 0, .int .u8 0, .int .u8 1] 5)).alloc (.cells #[.int .u8 0, .int .u8 0, .int .u8 1, .int .u8 1, .int .u8 97] 5)).alloc (.cells #[.slice (some ⟨W.heap.size, 0, none⟩) 0 0, .slice (some ⟨W.heap.size + 1, 0, none⟩) 1 1, .slice (some ⟨W.heap.size + 1 + 1, 0, none⟩) 2 2, .slice (some ⟨W.heap.size + 1 + 1 + 1, 0, none⟩) 3 3, .slice (some ⟨W.heap.size + 1 + 1 + 1 + 1, 0, none⟩) 5 5] 22)) (.slice (some ⟨W.heap.size + 1, 0, none⟩) ([0] : List UInt8).length 1) [0] := by
      have h : HoldsB ((W.alloc (.cells #[] 5)).alloc (.cells #[.int .u8 0] 5)) (.slice (some ⟨(W.alloc (.cells #[] 5)).heap.size, 0, none⟩) ([0] : List UInt8).length 1) [0] := litB (W.alloc (.cells #[] 5)) [0] (by decide)
      have hz : Below ((W.alloc (.cells #[] 5)).alloc (.cells #[.int .u8 0] 5)).heap.size ((W.alloc (.cells #[] 5)).alloc (.cells #[.int .u8 0] 5)) ((((((W.alloc (.cells #[] 5)).alloc (.cells #[.int .u8 0] 5)).alloc (.cells #[.int .u8 0, .int .u8 0] 5)).alloc (.cells #[.int .u8 0, .int .u8 0, .int .u8 1] 5)).alloc (.cells #[.int .u8 0, .int .u8 0, .int .u8 1, .int .u8 1, .int .u8 97] 5)).alloc (.cells #[.slice (some ⟨W.heap.size, 0, none⟩) 0 0, .slice (some ⟨W.heap.size + 1, 0, none⟩) 1 1, .slice (some ⟨W.heap.size + 1 + 1, 0, none⟩) 2 2, .slice (some ⟨W.heap.size + 1 + 1 + 1, 0, none⟩) 3 3, .slice (some ⟨W.heap.size + 1 + 1 + 1 + 1, 0, none⟩) 5 5] 22)) := (((((Below.refl _ ((W.alloc (.cells #[] 5)).alloc (.cells #[.int .u8 0] 5))).alloc (by simp <;> omega) _).alloc (by simp <;> omega) _).alloc (by simp <;> omega) _).alloc (by simp <;> omega) _)
      have h2 := h.below hz
      simp only [World.size_alloc] at h2
      exact h2
    have l2 : HoldsB ((((((W.alloc (.cells #[] 5)).alloc (.cells #[.int .u8 0] 5)).alloc (.cells #[.int .u8 0, .int .u8 0] 5)).alloc (.cells #[.int .u8 0, .int .u8 0, .int .u8 1] 5)).alloc (.cells #[.int .u8 0, .int .u8 0, .int .u8 1, .int .u8 1, .int .u8 97] 5)).alloc (.cells #[.slice (some ⟨W.heap.size, 0, none⟩) 0 0, .slice (some ⟨W.heap.size + 1, 0, none⟩) 1 1, .slice (some ⟨W.heap.size + 1 + 1, 0, none⟩) 2 2, .slice (some ⟨W.heap.size + 1 + 1 + 1, 0, none⟩) 3 3, .slice (some ⟨W.heap.size + 1 + 1 + 1 + 1, 0, none⟩) 5 5] 22)) (.slice (some ⟨W.heap.size + 1 + 1, 0, none⟩) ([0, 0] : List UInt8).length 2) [0, 0] := by
      have h : HoldsB (((W.alloc (.cells #[] 5)).alloc (.cells #[.int .u8 0] 5)).alloc (.cells #[.int .u8 0, .int .u8 0] 5)) (.slice (some ⟨((W.alloc (.cells #[] 5)).alloc (.cells #[.int .u8 0] 5)).heap.size, 0, none⟩) ([0, 0] : List UInt8).length 2) [0, 0] := litB ((W.alloc (.cells #[] 5)).alloc (.cells #[.int .u8 0] 5)) [0, 0] (by decide)
      have hz : Below (((W.alloc (.cells #[] 5)).alloc (.cells #[.int .u8 0] 5)).alloc (.cells #[.int .u8 0, .int .u8 0] 5)).heap.size (((W.alloc (.cells #[] 5)).alloc (.cells #[.int .u8 0] 5)).alloc (.cells #[.int .u8 0, .int .u8 0] 5)) ((((((W.alloc (.cells #[] 5)).alloc (.cells #[.int .u8 0] 5)).alloc (.cells #[.int .u8 0, .int .u8 0] 5)).alloc (.cells #[.int .u8 0, .int .u8 0, .int .u8 1] 5)).alloc (.cells #[.int .u8 0, .int .u8 0, .int .u8 1, .int .u8 1, .int .u8 97] 5)).alloc (.cells #[.slice (some ⟨W.heap.size, 0, none⟩) 0 0, .slice (some ⟨W.heap.size + 1, 0, none⟩) 1 1, .slice (some ⟨W.heap.size + 1 + 1, 0, none⟩) 2 2, .slice (some ⟨W.heap.size + 1 + 1 + 1, 0, none⟩) 3 3, .slice (some ⟨W.heap.size + 1 + 1 + 1 + 1, 0, none⟩) 5 5] 22)) := ((((Below.refl _ (((W.alloc (.cells #[] 5)).alloc (.cells #[.int .u8 0] 5)).alloc (.cells #[.int .u8 0, .int .u8 0] 5))).alloc (by simp <;> omega) _).alloc (by simp <;> omega) _).alloc (by simp <;> omega) _)
      have h2 := h.below hz
      simp only [World.size_alloc] at h2
      exact h2
    have l3 : HoldsB ((((((W.alloc (.cells #[] 5)).alloc (.cells #[.int .u8 0] 5)).alloc (.cells #[.int .u8 0, .int .u8 0] 5)).alloc (.cells #[.int .u8 0, .int .u8 0, .int .u8 1] 5)).alloc (.cells #[.int .u8 0, .int .u8 0, .int .u8 1, .int .u8 1, .int .u8 97] 5)).alloc (.cells #[.slice (some ⟨W.heap.size, 0, none⟩) 0 0, .slice (some ⟨W.heap.size + 1, 0, none⟩) 1 1, .slice (some ⟨W.heap.size + 1 + 1, 0, none⟩) 2 2, .slice (some ⟨W.heap.size + 1 + 1 + 1, 0, none⟩) 3 3, .slice (some ⟨W.heap.size + 1 + 1 + 1 + 1, 0, none⟩) 5 5] 22)) (.slice (some ⟨W.heap.size + 1 + 1 + 1, 0, none⟩) ([0, 0, 1] : List UInt8).length 3) [0, 0, 1] := by
      have h : HoldsB ((((W.alloc (.cells #[] 5)).alloc (.cells #[.int .u8 0] 5)).alloc (.cells #[.int .u8 0, .int .u8 0] 5)).alloc (.cells #[.int .u8 0, .int .u8 0, .int .u8 1] 5)) (.slice (some ⟨(((W.alloc (.cells #[] 5)).alloc (.cells #[.int .u8 0] 5)).alloc (.cells #[.int .u8 0, .int .u8 0] 5)).heap.size, 0, none⟩) ([0, 0, 1] : List UInt8).length 3) [0, 0, 1] := litB (((W.alloc (.cells #[] 5)).alloc (.cells #[.int .u8 0] 5)).alloc (.cells #[.int .u8 0, .int .u8 0] 5)) [0, 0, 1] (by decide)
      have hz : Below ((((W.alloc (.cells #[] 5)).alloc (.cells #[.int .u8 0] 5)).alloc (.cells #[.int .u8 0, .int .u8 0] 5)).alloc (.cells #[.int .u8 0, .int .u8 0, .int .u8 1] 5)).heap.size ((((W.alloc (.cells #[] 5)).alloc (.cells #[.int .u8 0] 5)).alloc (.cells #[.int .u8 0, .int .u8 0] 5)).alloc (.cells #[.int .u8 0, .int .u8 0, .int .u8 1] 5)) ((((((W.alloc (.cells #[] 5)).alloc (.cells #[.int .u8 0] 5)).alloc (.cells #[.int .u8 0, .int .u8 0] 5)).alloc (.cells #[.int .u8 0, .int .u8 0, .int .u8 1] 5)).alloc (.cells #[.int .u8 0, .int .u8 0, .int .u8 1, .int .u8 1, .int .u8 97] 5)).alloc (.cells #[.slice (some ⟨W.heap.size, 0, none⟩) 0 0, .slice (some ⟨W.heap.size + 1, 0, none⟩) 1 1, .slice (some ⟨W.heap.size + 1 + 1, 0, none⟩) 2 2, .slice (some ⟨W.heap.size + 1 + 1 + 1, 0, none⟩) 3 3, .slice (some ⟨W.heap.size + 1 + 1 + 1 + 1, 0, none⟩) 5 5] 22)) := (((Below.refl _ ((((W.alloc (.cells #[] 5)).alloc (.cells #[.int .u8 0] 5)).alloc (.cells #[.int .u8 0, .int .u8 0] 5)).alloc (.cells #[.int .u8 0, .int .u8 0, .int .u8 1] 5))).alloc (by simp <;> omega) _).alloc (by simp <;> omega) _)
      have h2 := h.below hz
      simp only [World.size_alloc] at h2
      exact h2
    have l4 : HoldsB ((((((W.alloc (.cells #[] 5)).alloc (.cells #[.int .u8 0] 5)).alloc (.cells #[.int .u8 0, .int .u8 0] 5)).alloc (.cells #[.int .u8 0, .int .u8 0, .int .u8 1] 5)).alloc (.cells #[.int .u8 0, .int .u8 0, .int .u8 1, .int .u8 1, .int .u8 97] 5)).alloc (.cells #[.slice (some ⟨W.heap.size, 0, none⟩) 0 0, .slice (some ⟨W.heap.size + 1, 0, none⟩) 1 1, .slice (some ⟨W.heap.size + 1 + 1, 0, none⟩) 2 2, .slice (some ⟨W.heap.size + 1 + 1 + 1, 0, none⟩) 3 3, .slice (some ⟨W.heap.size + 1 + 1 + 1 + 1, 0, none⟩) 5 5] 22)) (.slice (some ⟨W.heap.size + 1 + 1 + 1 + 1, 0, none⟩) ([0, 0, 1, 1, 97] : List UInt8).length 5) [0, 0, 1, 1, 97] := by
      have h : HoldsB (((((W.alloc (.cells #[] 5)).alloc (.cells #[.int .u8 0] 5)).alloc (.cells #[.int .u8 0, .int .u8 0] 5)).alloc (.cells #[.int .u8 0, .int .u8 0, .int .u8 1] 5)).alloc (.cells #[.int .u8 0, .int .u8 0, .int .u8 1, .int .u8 1, .int .u8 97] 5)) (.slice (some ⟨((((W.alloc (.cells #[] 5)).alloc (.cells #[.int .u8 0] 5)).alloc (.cells #[.int .u8 0, .int .u8 0] 5)).alloc (.cells #[.int .u8 0, .int .u8 0, .int .u8 1] 5)).heap.size, 0, none⟩) ([0, 0, 1, 1, 97] : List UInt8).length 5) [0, 0, 1, 1, 97] := litB ((((W.alloc (.cells #[] 5)).alloc (.cells #[.int .u8 0] 5)).alloc (.cells #[.int .u8 0, .int .u8 0] 5)).alloc (.cells #[.int .u8 0, .int .u8 0, .int .u8 1] 5)) [0, 0, 1, 1, 97] (by decide)
      have hz : Below (((((W.alloc (.cells #[] 5)).alloc (.cells #[.int .u8 0] 5)).alloc (.cells #[.int .u8 0, .int .u8 0] 5)).alloc (.cells #[.int .u8 0, .int .u8 0, .int .u8 1] 5)).alloc (.cells #[.int .u8 0, .int .u8 0, .int .u8 1, .int .u8 1, .int .u8 97] 5)).heap.size (((((W.alloc (.cells #[] 5)).alloc (.cells #[.int .u8 0] 5)).alloc (.cells #[.int .u8 0, .int .u8 0] 5)).alloc (.cells #[.int .u8 0, .int .u8 0, .int .u8 1] 5)).alloc (.cells #[.int .u8 0, .int .u8 0, .int .u8 1, .int .u8 1, .int .u8 97] 5)) ((((((W.alloc (.cells #[] 5)).alloc (.cells #[.int .u8 0] 5)).alloc (.cells #[.int .u8 0, .int .u8 0] 5)).alloc (.cells #[.int .u8 0, .int .u8 0, .int .u8 1] 5)).alloc (.cells #[.int .u8 0, .int .u8 0, .int .u8 1, .int .u8 1, .int .u8 97] 5)).alloc (.cells #[.slice (some ⟨W.heap.size, 0, none⟩) 0 0, .slice (some ⟨W.heap.size + 1, 0, none⟩) 1 1, .slice (some ⟨W.heap.size + 1 + 1, 0, none⟩) 2 2, .slice (some ⟨W.heap.size + 1 + 1 + 1, 0, none⟩) 3 3, .slice (some ⟨W.heap.size + 1 + 1 + 1 + 1, 0, none⟩) 5 5] 22)) := ((Below.refl _ (((((W.alloc (.cells #[] 5)).alloc (.cells #[.int .u8 0] 5)).alloc (.cells #[.int .u8 0, .int .u8 0] 5)).alloc (.cells #[.int .u8 0, .int .u8 0, .int .u8 1] 5)).alloc (.cells #[.int .u8 0, .int .u8 0, .int .u8 1, .int .u8 1, .int .u8 97] 5))).alloc (by simp <;> omega) _)
      have h2 := h.below hz
      simp only [World.size_alloc] at h2
      exact h2
    have hbk : ((((((W.alloc (.cells #[] 5)).alloc (.cells #[.int .u8 0] 5)).alloc (.cells #[.int .u8 0, .int .u8 0] 5)).alloc (.cells #[.int .u8 0, .int .u8 0, .int .u8 1] 5)).alloc (.cells #[.int .u8 0, .int .u8 0, .int .u8 1, .int .u8 1, .int .u8 97] 5)).alloc (.cells #[.slice (some ⟨W.heap.size, 0, none⟩) 0 0, .slice (some ⟨W.heap.size + 1, 0, none⟩) 1 1, .slice (some ⟨W.heap.size + 1 + 1, 0, none⟩) 2 2, .slice (some ⟨W.heap.size + 1 + 1 + 1, 0, none⟩) 3 3, .slice (some ⟨W.heap.size + 1 + 1 + 1 + 1, 0, none⟩) 5 5] 22)).heap[W.heap.size + 1 + 1 + 1 + 1 + 1]? = some (.cells #[.slice (some ⟨W.heap.size, 0, none⟩) 0 0, .slice (some ⟨W.heap.size + 1, 0, none⟩) 1 1, .slice (some ⟨W.heap.size + 1 + 1, 0, none⟩) 2 2, .slice (some ⟨W.heap.size + 1 + 1 + 1, 0, none⟩) 3 3, .slice (some ⟨W.heap.size + 1 + 1 + 1 + 1, 0, none⟩) 5 5] 22 (0, 0)) := heap_new (by simp)
    have hb8 : Below W.heap.size W ((((((W.alloc (.cells #[] 5)).alloc (.cells #[.int .u8 0] 5)).alloc (.cells #[.int .u8 0, .int .u8 0] 5)).alloc (.cells #[.int .u8 0, .int .u8 0, .int .u8 1] 5)).alloc (.cells #[.int .u8 0, .int .u8 0, .int .u8 1, .int .u8 1, .int .u8 97] 5)).alloc (.cells #[.slice (some ⟨W.heap.size, 0, none⟩) 0 0, .slice (some ⟨W.heap.size + 1, 0, none⟩) 1 1, .slice (some ⟨W.heap.size + 1 + 1, 0, none⟩) 2 2, .slice (some ⟨W.heap.size + 1 + 1 + 1, 0, none⟩) 3 3, .slice (some ⟨W.heap.size + 1 + 1 + 1 + 1, 0, none⟩) 5 5] 22)) := ((((((Below.refl _ W).alloc (by simp) _).alloc (by simp) _).alloc (by simp <;> omega) _).alloc (by simp <;> omega) _).alloc (by simp <;> omega) _).alloc (by simp <;> omega) _
    have HP := Lib.hid (hp.below hb8)
    have HBB := Lib.hid hb8
    obtain ⟨q, hq⟩ : ∃ q, k % 5 = q := ⟨_, rfl⟩
    have hkm : (k : Int) % 5 = (q : Int) := by omega
    have hq5 : q < 5 := by omega
    obtain ⟨A0, n0, hc0, hh0⟩ : ∃ (A0 : Option Addr) (n0 : Nat), ((((((W.alloc (.cells #[] 5)).alloc (.cells #[.int .u8 0] 5)).alloc (.cells #[.int .u8 0, .int .u8 0] 5)).alloc (.cells #[.int .u8 0, .int .u8 0, .int .u8 1] 5)).alloc (.cells #[.int .u8 0, .int .u8 0, .int .u8 1, .int .u8 1, .int .u8 97] 5)).alloc (.cells #[.slice (some ⟨W.heap.size, 0, none⟩) 0 0, .slice (some ⟨W.heap.size + 1, 0, none⟩) 1 1, .slice (some ⟨W.heap.size + 1 + 1, 0, none⟩) 2 2, .slice (some ⟨W.heap.size + 1 + 1 + 1, 0, none⟩) 3 3, .slice (some ⟨W.heap.size + 1 + 1 + 1 + 1, 0, none⟩) 5 5] 22)).cell? ⟨W.heap.size + 1 + 1 + 1 + 1 + 1, q, none⟩ = some (.slice A0 (befG q).length n0) ∧ HoldsB ((((((W.alloc (.cells #[] 5)).alloc (.cells #[.int .u8 0] 5)).alloc (.cells #[.int .u8 0, .int .u8 0] 5)).alloc (.cells #[.int .u8 0, .int .u8 0, .int .u8 1] 5)).alloc (.cells #[.int .u8 0, .int .u8 0, .int .u8 1, .int .u8 1, .int .u8 97] 5)).alloc (.cells #[.slice (some ⟨W.heap.size, 0, none⟩) 0 0, .slice (some ⟨W.heap.size + 1, 0, none⟩) 1 1, .slice (some ⟨W.heap.size + 1 + 1, 0, none⟩) 2 2, .slice (some ⟨W.heap.size + 1 + 1 + 1, 0, none⟩) 3 3, .slice (some ⟨W.heap.size + 1 + 1 + 1 + 1, 0, none⟩) 5 5] 22)) (.slice A0 (befG q).length n0) (befG q) := by
      rcases (show q = 0 ∨ q = 1 ∨ q = 2 ∨ q = 3 ∨ q = 4 by omega) with rfl | rfl | rfl | rfl | rfl
      · exact ⟨_, _, cellW (i := 0) hbk, l0⟩
      · exact ⟨_, _, cellW (i := 1) hbk, l1⟩
      · exact ⟨_, _, cellW (i := 2) hbk, l2⟩
      · exact ⟨_, _, cellW (i := 3) hbk, l3⟩
      · exact ⟨_, _, cellW (i := 4) hbk, l4⟩
    have HH0 := Lib.hid hh0
    have HL0 := Lib.hid (befG_len q)
    have HNU := Lib.hid fun W => refNumber m m W (Nat.le_refl _) hm
    have HT := Lib.hid (enc_ten hm)
    clear hbk hb8 hh0 l0 l1 l2 l3 l4 hq hp hcap h
    go_enter Tryz.func6, Tryz.ntmps6
    go_upto_region 4 with fail
    generalize ((((((W.alloc (.cells #[] 5)).alloc (.cells #[.int .u8 0] 5)).alloc (.cells #[.int .u8 0, .int .u8 0] 5)).alloc (.cells #[.int .u8 0, .int .u8 0, .int .u8 1] 5)).alloc (.cells #[.int .u8 0, .int .u8 0, .int .u8 1, .int .u8 1, .int .u8 97] 5)).alloc (.cells #[.slice (some ⟨W.heap.size, 0, none⟩) 0 0, .slice (some ⟨W.heap.size + 1, 0, none⟩) 1 1, .slice (some ⟨W.heap.size + 1 + 1, 0, none⟩) 2 2, .slice (some ⟨W.heap.size + 1 + 1 + 1, 0, none⟩) 3 3, .slice (some ⟨W.heap.size + 1 + 1 + 1 + 1, 0, none⟩) 5 5] 22)) = w1 at *
    clear hc0 hkm hq5
    generalize befG q = b at *
    go_wp2_with (at_builtin; refine wpList_append_sl _ encB 1 rfl (.const (.slice none 0 0)) (.tmp 22) 22 rfl encB_len (by omega) encB_one w1.heap.size 5 i0 _ 1 Tryz.underlying22 hi0 hz0 hz1 hz2 rfl (.slice none 0 0) [] rfl (World.ownsRow_nil _ _ _ _) A0 b.length n0 b rfl rfl (bytesAt_of15 HH0.out) (by simp [maxLen]; have := HL0.out; omega) (by simp; have := HL0.out; omega) (Nat.le_refl _) ?_; intro v1 w2 hown hg hat; rw [List.nil_append] at hown; have HB2 := Lib.hid ((Below.refl w1.heap.size w1).grown hg (Nat.le_refl _) (by simp [Value.ownBlock])); obtain ⟨O, oc, rfl, _, _, _⟩ := SlAt.of_own encB_len hown; have HO2 := Lib.hid hown; clear hown hg hat)
    refine (HNU.out w2).mono ?_
    rintro e w3 ⟨⟨E, ec, rfl, ho3⟩, hb3⟩
    have HB3 := Lib.hid hb3
    have HO3 := Lib.hid (own_keep HO2.out hb3)
    have HE3 := Lib.hid (bytesAt_of15 (HoldsB.of_own ho3))
    clear ho3 hb3 HO2
    go_wp2_with (first
      | (at_builtin; refine wpList_append_sl _ encB 1 rfl (.tmp 23) (.tmp 25) 22 rfl encB_len (by omega) encB_one w1.heap.size 5 i0 _ 1 Tryz.underlying22 hi0 hz0 hz1 hz2 rfl (.slice O b.length oc) b rfl HO3.out E _ ec (enc m) rfl rfl HE3.out (by simp [maxLen]; have := HL0.out; have := HT.out; omega) (by have := HL0.out; have := HT.out; omega) (Nat.le_trans HB2.out.size HB3.out.size) ?_; intro v2 w4 hown hg hat; have HB4 := Lib.hid ((below_trans HB2.out HB3.out).grown hg (Nat.le_trans HB2.out.size HB3.out.size) (fun j hj => (HO3.out.lt j hj).1)); obtain ⟨O4, oc4, e4, _, _, _⟩ := SlAt.of_own encB_len hown; rw [List.length_append] at e4; subst e4; have HO4 := Lib.hid hown; clear hown hg hat)
      | (at_builtin; refine wpList_append_sl _ encB 1 rfl (.tmp 26) (.tmp 27) 22 rfl encB_len (by omega) encB_one w1.heap.size 5 i0 _ 1 Tryz.underlying22 hi0 hz0 hz1 hz2 rfl (.slice O4 (b.length + (enc m).length) oc4) (b ++ enc m) rfl HO4.out A _ n p rfl rfl (bytesAt_of15 (HP.out.below HB4.out)) (by simp [maxLen]; have := HL0.out; have := HT.out; omega) (by simp; have := HL0.out; have := HT.out; omega) HB4.out.size ?_; intro v3 w5 hown hg hat; have HB5 := Lib.hid (HB4.out.grown hg HB4.out.size (fun j hj => (HO4.out.lt j hj).1)); obtain ⟨O5, oc5, e5, ho1, ho2, hO⟩ := SlAt.of_own encB_len hown; have HO5 := Lib.hid (show HoldsB w5 (.slice O5 ((b ++ enc m) ++ p).length oc5) ((b ++ enc m) ++ p) from ⟨O5, oc5, rfl, hO, ho1, ho2⟩); clear hg hat hO ho1 ho2 hown; have HR := Lib.hid (lawRight H.out O5 ((b ++ enc m) ++ p) oc5 w5 (below_trans HBB.out HB5.out) HO5.out (by have := HL0.out; have := HT.out; simp; omega)); rw [List.length_append, List.length_append] at e5 HR; subst e5; clear HO5 HO3 HO4 HE3 HP))
    refine HR.out.mono ?_
    rintro e w6 ⟨rfl, hb⟩
    have HB6 := Lib.hid (below_trans (below_trans HBB.out HB5.out) hb)
    have HKW := Lib.hid (HK.out w6 HB6.out)
    clear hb HR
    go_wp2_with fail
    refine HKW.out.mono ?_
    rintro e w7 ⟨rfl, hb⟩
    have HB7 := Lib.hid (below_trans HB6.out hb)
    clear hb
    go_wp2_with fail
    go_ret
    exact ⟨rfl, HB7.out⟩

end

end Go.Proofs.YtpnemekkpifbaaaGreat
