/- Several texts in one: DecS, DecT, DecO, DecQ. -/
import Derived.Test.YtpnemekkpifbaaaGreatMBB
import Derived.BigQuiet
import Derived.Test.YtpnemekkpifbaaaGreatMAK
namespace Go.Proofs.YtpnemekkpifbaaaGreat

section
open Go.RowKit

theorem preC_pos {l : List UInt8} {c : Ca} {z : Nat} (h : preC l = some (c, z)) : 1 ≤ z ∧ z ≤ l.length := by
  obtain ⟨h1, _⟩ := preC_some h
  have h2 := pC_len h1
  have := byC_three c
  omega
theorem cntF_fuel : ∀ (k : Nat) (l : List UInt8), l.length ≤ k → ∀ j, l.length ≤ j → cntF k l = cntF j l
  | 0, l, h, j, hj => by
    obtain rfl : l = [] := List.length_eq_zero_iff.1 (by omega)
    cases j <;> rfl
  | k + 1, l, h, 0, hj => by
    obtain rfl : l = [] := List.length_eq_zero_iff.1 (by omega)
    rfl
  | k + 1, l, h, j + 1, hj => by
    show (if l = [] then some 0 else _) = (if l = [] then some 0 else _)
    by_cases h0 : l = []
    · rw [if_pos h0, if_pos h0]
    · rw [if_neg h0, if_neg h0]
      cases e : preC l with
      | none => rfl
      | some v =>
        obtain ⟨k1, k2⟩ := preC_pos e
        show (cntF k (l.drop v.2)).map _ = (cntF j (l.drop v.2)).map _
        rw [cntF_fuel k (l.drop v.2) (by rw [List.length_drop]; omega) j (by rw [List.length_drop]; omega)]
theorem cntC_step {l : List UInt8} (h0 : l ≠ []) : cntC l = (preC l).bind fun c => (cntC (l.drop c.2)).map (· + 1) := by
  unfold cntC
  cases hl : l.length with
  | zero => exact absurd (List.length_eq_zero_iff.1 hl) h0
  | succ k =>
    show (if l = [] then some 0 else _) = _
    rw [if_neg h0]
    cases e : preC l with
    | none => rfl
    | some v =>
      obtain ⟨k1, k2⟩ := preC_pos e
      show (cntF k (l.drop v.2)).map _ = (cntF _ (l.drop v.2)).map _
      rw [cntF_fuel k (l.drop v.2) (by rw [List.length_drop]; omega) (l.drop v.2).length (Nat.le_refl _)]
def manyV (p : List UInt8) : Int := match cntC p with
  | some k => (k : Int)
  | none => -1
def lenOf : Value → Nat
  | .slice _ n _ => n
  | _ => 0

set_option maxRecDepth 100000 in
set_option maxHeartbeats 8000000 in
theorem lawMany {w : World} (h : DecOK w) (A : Option Addr) (p : List UInt8) (n : Nat) (W : World) (hB : Below w.heap.size w W) (hp : HoldsB W (.slice A p.length n) p) (hl : p.length ≤ 170000) :
    Calls Tryz.prog 13 #[.slice A p.length n] W (OneB (.int .i64 (manyV p)) W) := by
  have H := Lib.hid h
  have HB0 := Lib.hid hB
  have HP := Lib.hid hp
  clear hp hB h
  go_enter Tryz.func13, Tryz.ntmps13
  go_wp2_with fail
  go_loopw [0, 3] (fun s v wr => ∃ (q : Nat) (O : Option Addr) (oc : Nat) (l : List UInt8), s = .slice O l.length oc ∧ v = .int .i64 (q : Nat) ∧ l.length ≤ 170000 ∧ q + l.length ≤ 170000 ∧ Hid (HoldsB wr (.slice O l.length oc) l) ∧ Hid (cntC p = (cntC l).map (· + q)) ∧ Hid (Below W.heap.size W wr)) (fun s _ _ => lenOf s)
  case atStart => exact ⟨0, A, n, p, rfl, rfl, hl, by omega, HP, (by show cntC p = (cntC p).map (· + 0); cases cntC p <;> rfl), Below.refl _ _⟩
  case round =>
    obtain ⟨q, O, oc, l, rfl, rfl, hll, hql, hO, hcn, hb⟩ := hrel
    by_cases h0 : 0 < l.length
    · have i0 : (0 : Int) < (l.length : Int) := by omega
      have hne : l ≠ [] := by rintro rfl; simp at h0
      have HCN := Lib.hid (show cntC p = ((preC l).bind fun c => (cntC (l.drop c.2)).map (· + 1)).map (· + q) from by rw [← cntC_step hne]; exact hcn.out)
      have HPRE := Lib.hid (refPrefix15 O l oc wr hO.out (by omega))
      have hcap := caps_of15 hO.out
      obtain ⟨bk, off, hOe, hr1, hr2⟩ := bytesAt_of15 hO.out h0
      subst hOe
      clear hr1 hr2
      clear hne hcn
      go_wp2_with fail
      refine HPRE.out.mono ?_
      rintro e w2 ⟨⟨z, m, b0, rfl, hz, hpc, _⟩, hb2⟩
      have halz : Below w2.heap.size w2 (w2.alloc (.cells #[z.v, z.l, z.i] 31)) := (Below.refl _ _).alloc (Nat.le_refl _) _
      have hb3 := below_trans hb2 halz
      have KZ := Lib.hid (show KK W [(w2.heap.size, z)] (w2.alloc (.cells #[z.v, z.l, z.i] 31)) from KK.push (w := W) (L := []) ⟨fun q hq => (by cases hq), below_trans hb.out hb2⟩ z hz w2.heap.size rfl)
      have HO := Lib.hid (hO.out.below hb3)
      have HPC := Lib.hid hpc
      clear hz hpc hb2 halz hb3 HPRE hO hb
      go_upto_region 4 with fail
      generalize hg : w2.heap.size = g at KZ ⊢
      generalize World.alloc w2 _ = w3 at KZ HO ⊢
      clear hg
      cases b0 with
      | false =>
        have HV := Lib.hid (show manyV p = -1 from by
          have e : preC l = none := by unfold preC; rw [HPC.out]; rfl
          unfold manyV; rw [HCN.out, e]; rfl)
        have HB3 := Lib.hid KZ.out.bel
        clear KZ HO HPC HCN
        go_wp2_with fail
        go_ret
        exact ⟨by rw [HV.out]; rfl, HB3.out⟩
      | true =>
        have hpl := pC_len (show pC l = some (z.ca, m) from HPC.out)
        obtain ⟨v, hv⟩ : ∃ v, validK z.ca = v := ⟨_, rfl⟩
        have HVAL := Lib.hid (H.out.val z w3 (below_trans HB0.out KZ.out.bel) (KZ.out.ok (g := g) (by simp)) (fits15 (z := z) (by omega)).1)
        rw [hv] at HVAL
        have HVV := Lib.hid hv
        have hml : m ≤ l.length := hpl.2
        have hm3 : 3 ≤ m := by have := byC_three z.ca; omega
        obtain ⟨x0, x1, x2, xl, _⟩ := KZ.out.sp
        clear hv hpl
        go_wp2_with fail
        refine HVAL.out.mono ?_
        rintro e w4 ⟨rfl, hb4⟩
        have HB4 := Lib.hid (below_trans KZ.out.bel hb4)
        have HO4 := Lib.hid (HO.out.below hb4)
        clear hb4 x0 x1 x2 xl HVAL KZ HO
        cases v with
        | false =>
          have HV := Lib.hid (show manyV p = -1 from by
            have e : preC l = none := by unfold preC; rw [HPC.out]; show (if validK z.ca = true then some (z.ca, m) else none) = none; rw [HVV.out]; rfl
            unfold manyV; rw [HCN.out, e]; rfl)
          clear HPC HCN HO4
          go_wp2_with fail
          go_ret
          exact ⟨by rw [HV.out]; rfl, HB4.out⟩
        | true =>
          have HC4 := Lib.hid (show cntC p = (cntC (l.drop m)).map (· + (q + 1)) from by
            have e : preC l = some (z.ca, m) := by unfold preC; rw [HPC.out]; show (if validK z.ca = true then some (z.ca, m) else none) = some (z.ca, m); rw [HVV.out]; rfl
            rw [HCN.out, e]
            show ((cntC (l.drop m)).map (· + 1)).map (· + q) = _
            rw [Option.map_map]
            congr 1
            funext x
            show x + 1 + q = x + (q + 1)
            omega)
          clear HPC HCN
          have HDL := Lib.hid (show (l.drop m).take (l.length - m) = l.drop m from by rw [List.take_of_length_le (by rw [List.length_drop]; omega)])
          have hld : (l.drop m).length = l.length - m := List.length_drop
          by_cases hcj : oc = m
          · have HOD := Lib.hid (show HoldsB w4 (.slice (some ⟨bk, off, none⟩) (l.drop m).length (oc - m)) (l.drop m) from by have h := In15.part2 (i := m) (k := l.length - m) (bytesAt_of15 HO4.out) (by omega) hcap.1 hcap.2; rw [HDL.out] at h; rwa [if_pos hcj] at h)
            go_wp2_with fail
            refine wp_region_far (by kernel_rfl) (by kernel_rfl) ?_
            repeat (go_big_quiet_step ((fail)))
            refine wpQuiet_nil ?_
            rintro _ ⟨p, rfl⟩
            have HB9 := Lib.hid (below_trans HB4.out (below_far w4 p))
            have HO9 := Lib.hid (HOD.out.below (below_far w4 p))
            go_wp2_with fail
            go_roundw
            case rel => exact ⟨q + 1, _, _, l.drop m, by rw [hld, show oc - m = 0 by omega], by go_num, by rw [List.length_drop]; omega, by rw [List.length_drop]; omega, HO9, HC4, HB9⟩
            case measure => simp [lenOf]; omega
          · have HOD := Lib.hid (show HoldsB w4 (.slice (some ⟨bk, off + m, none⟩) (l.drop m).length (oc - m)) (l.drop m) from by have h := In15.part2 (i := m) (k := l.length - m) (bytesAt_of15 HO4.out) (by omega) hcap.1 hcap.2; rw [HDL.out] at h; rwa [if_neg hcj] at h)
            go_wp2_with fail
            refine wp_region_far (by kernel_rfl) (by kernel_rfl) ?_
            repeat (go_big_quiet_step ((fail)))
            refine wpQuiet_nil ?_
            rintro _ ⟨p, rfl⟩
            have HB9 := Lib.hid (below_trans HB4.out (below_far w4 p))
            have HO9 := Lib.hid (HOD.out.below (below_far w4 p))
            go_wp2_with fail
            go_roundw
            case rel => exact ⟨q + 1, _, _, l.drop m, by rw [hld], by go_num, by rw [List.length_drop]; omega, by rw [List.length_drop]; omega, HO9, HC4, HB9⟩
            case measure => simp [lenOf]; omega
    · have i0 : ¬ (0 : Int) < (l.length : Int) := by omega
      obtain rfl : l = [] := List.length_eq_zero_iff.1 (by omega)
      have HV := Lib.hid (show (q : Int) = manyV p from by unfold manyV; rw [hcn.out]; show _ = ((0 + q : Nat) : Int); omega)
      clear hcn hO
      go_wp2_with fail
      go_ret
      exact ⟨by rw [← HV.out]; rfl, hb.out⟩

end

section
open Go.RowKit

/-- Carts in a row, as they come in. -/
abbrev encCu (c : CaV) : List Value := [c.v, c.l, c.i]
structure CarsIn (W : World) (A : Option Addr) (cs : List CaV) : Prop where
  row : SlAt encCu 3 W A cs
  ok : ∀ c ∈ cs, CaOK W c
theorem CarsIn.below {W W' : World} {A : Option Addr} {cs : List CaV} (h : CarsIn W A cs) (hb : Below W.heap.size W W') : CarsIn W' A cs := ⟨h.row.below hb, fun c hc => (h.ok c hc).below hb⟩
theorem CarsIn.at {W : World} {A : Option Addr} {cs : List CaV} (h : CarsIn W A cs) {j : Nat} (hj : j < cs.length) :
    ∃ b off, ∃ c : CaV, A = some ⟨b, off, none⟩ ∧ b < W.heap.size ∧ cs[j]? = some c ∧ W.cell? ⟨b, off + j * 3, none⟩ = some c.v ∧ W.cell? ⟨b, off + j * 3 + 1, none⟩ = some c.l ∧ W.cell? ⟨b, off + j * 3 + 2, none⟩ = some c.i ∧ CaOK W c := by
  obtain ⟨b, off, rfl, hb, hc⟩ := h.row (by omega)
  have hx := List.getElem?_eq_getElem hj
  exact ⟨b, off, cs[j], rfl, hb, hx, by simpa using hc j _ hx 0 _ rfl, hc j _ hx 1 _ rfl, hc j _ hx 2 _ rfl, h.ok _ (List.getElem_mem hj)⟩

theorem byI_small {x : It} (h1 : x.1.length ≤ 100) (h2 : x.2.length ≤ 20) (h3 : ∀ m ∈ x.2, m.t < 18446744073709551616) : (byI x).length ≤ 920 := by
  unfold byI
  rw [List.length_append]
  have a1 := byS_le h1 (by decide)
  have a2 := byL_le (f := byM) (k := 40) (n := 20) (fun m hm => byM_le (h3 m hm)) h2 (by decide)
  omega
theorem byC_small {c : Ca} (h : small14 c = true) (ht : TimC c) : (byC c).length ≤ 20030 := by
  obtain ⟨h1, h2, h3, h4⟩ := small_iff.1 h
  unfold byC byX
  rw [List.length_append, List.length_append]
  have a1 := byL_le (f := byD) (k := 20) (n := 40) (fun d _ => byD_le d) h1 (by decide)
  have a2 := byL_le (f := byD) (k := 20) (n := 40) (fun d _ => byD_le d) h2 (by decide)
  have a3 := byL_le (f := byI) (k := 920) (n := 20) (fun x hx => byI_small (h4 x hx).2 (h4 x hx).1 (ht x hx)) h3 (by decide)
  omega
theorem lenB_small {c : Ca} (h : small14 c = true) (ht : TimC c) : LenB c := by
  obtain ⟨h1, h2, h3, h4⟩ := small_iff.1 h
  exact ⟨by omega, by omega, by omega, fun x hx => ⟨by have := (h4 x hx).2; omega, by have := (h4 x hx).1; omega, ht x hx⟩⟩

/-- Numbers of 64 bits. -/
def NumC (c : Ca) : Prop := (∀ d ∈ c.1.1, okD64 d) ∧ (∀ d ∈ c.1.2, okD64 d) ∧ ∀ x ∈ c.2, ∀ m ∈ x.2, okM64 m
theorem NumC.tim {c : Ca} (h : NumC c) : TimC c := fun x hx m hm => (h.2.2 x hx m hm).2.2
theorem okC_small {c : Ca} (h : small14 c = true) (hn : NumC c) : okC64 c := by
  obtain ⟨h1, h2, h3, h4⟩ := small_iff.1 h
  exact ⟨⟨⟨by omega, hn.1⟩, ⟨by omega, hn.2.1⟩⟩, by omega, fun x hx => ⟨by have := (h4 x hx).2; omega, by have := (h4 x hx).1; omega, fun m hm => hn.2.2 x hx m hm⟩⟩

set_option maxRecDepth 100000 in
set_option maxHeartbeats 8000000 in
theorem lawCounts_15 (A : Option Addr) (cs : List CaV) (cap : Nat) (A' : Option Addr) (p : List UInt8) (n : Nat) (W : World) (h : DecOK W) (hx : CarsIn W A cs) (ht : ∀ c ∈ cs, TimC c.ca) (hp : HoldsB W (.slice A' p.length n) p) :
    Calls Tryz.prog 5 #[.slice A cs.length cap, .slice A' p.length n] W (OneB (.bool true) W) := by
  obtain ⟨i0, hi0, hz0, hz1, hz2⟩ := info_parts infoB
  have HK := Lib.hid (known15_w h)
  have H := Lib.hid h
  have HX := Lib.hid hx
  have HT := Lib.hid ht
  have HP := Lib.hid hp
  have HKW := Lib.hid (HK.out W (Below.refl _ _))
  clear h hx ht hp
  by_cases h8 : 8 < cs.length
  · have j0 : (8 : Int) < (cs.length : Int) := by omega
    clear h8 H HX HT HP HK hi0 hz0 hz1 hz2
    go_enter Tryz.func5, Tryz.ntmps5
    go_wp2_with fail
    refine HKW.out.mono ?_
    rintro e w1 ⟨rfl, hb⟩
    have HB := Lib.hid hb
    clear hb
    go_wp2_with fail
    go_ret
    exact ⟨rfl, HB.out⟩
  have j0 : ¬ (8 : Int) < (cs.length : Int) := by omega
  by_cases hl : 40 < p.length
  · have j1 : (40 : Int) < (p.length : Int) := by omega
    clear hl h8 H HX HT HP HK hi0 hz0 hz1 hz2
    go_enter Tryz.func5, Tryz.ntmps5
    go_wp2_with fail
    refine HKW.out.mono ?_
    rintro e w1 ⟨rfl, hb⟩
    have HB := Lib.hid hb
    clear hb
    go_wp2_with fail
    go_ret
    exact ⟨rfl, HB.out⟩
  have j1 : ¬ (40 : Int) < (p.length : Int) := by omega
  clear HKW
  go_enter Tryz.func5, Tryz.ntmps5
  go_wp2_with fail
  go_loopw [5, 6] (fun s v wr => ∃ (j : Nat) (O : Option Addr) (oc : Nat) (l : List UInt8), s = .slice O l.length oc ∧ v = .int .i64 (j : Nat) ∧ j ≤ cs.length ∧ l.length ≤ 20030 * j ∧ Hid (wr.ownsRow W.heap.size 5 1 (.slice O l.length oc) l.length (cellsOf encB l)) ∧ Hid (Below W.heap.size W wr)) (fun _ v _ => cs.length - (intOf v).toNat)
  case atStart => exact ⟨0, none, 0, [], rfl, rfl, Nat.zero_le _, Nat.zero_le _, Lib.hid (World.ownsRow_nil _ _ _ _), Lib.hid (Below.refl _ _)⟩
  case round =>
    obtain ⟨j, O, oc, l, rfl, rfl, hj, hll, hO, hb⟩ := hrel
    have hc8 : cs.length ≤ 8 := by omega
    by_cases hlt : j < cs.length
    · have k0 : (j : Int) < (cs.length : Int) := by omega
      obtain ⟨b, off, c, rfl, hbl, hcj, c0, c1, c2, hok⟩ := (HX.out.below hb.out).at (j := j) hlt
      have hmem := List.mem_of_getElem? hcj
      have HTC := Lib.hid (HT.out c hmem)
      obtain ⟨sm, hsm⟩ : ∃ sm, small14 c.ca = sm := ⟨_, rfl⟩
      have HSM := Lib.hid hsm
      have HS := Lib.hid (refSmall14 c sm wr hok hsm)
      have HOK := Lib.hid hok
      clear hcj hmem hsm hok
      go_wp2_with fail
      refine HS.out.mono ?_
      rintro e w2 ⟨rfl, hb2⟩
      have HB2 := Lib.hid (below_trans hb.out hb2)
      have d0 := (hb2.cell (p := ⟨b, off + j * 3, none⟩) hbl).trans c0
      have d1 := (hb2.cell (p := ⟨b, off + j * 3 + 1, none⟩) hbl).trans c1
      have d2 := (hb2.cell (p := ⟨b, off + j * 3 + 2, none⟩) hbl).trans c2
      have HO2 := Lib.hid (own_keep hO.out hb2)
      have HOK2 := Lib.hid (HOK.out.below hb2)
      clear hb2 c0 c1 c2 HS HOK hO hb
      cases sm with
      | false =>
        have HKW := Lib.hid (HK.out w2 HB2.out)
        clear HO2 HOK2 HK
        go_wp2_with fail
        refine HKW.out.mono ?_
        rintro e w3 ⟨rfl, hb⟩
        have HB3 := Lib.hid (below_trans HB2.out hb)
        clear hb
        go_wp2_with fail
        go_ret
        exact ⟨rfl, HB3.out⟩
      | true =>
        have HLB := Lib.hid (byC_small HSM.out HTC.out)
        have HBY := Lib.hid (refBytes14 c w2 HOK2.out (lenB_small HSM.out HTC.out))
        clear HSM HTC
        go_wp2_with fail
        refine HBY.out.mono ?_
        rintro e w3 ⟨⟨E, ec, rfl, ho3⟩, hb3⟩
        have HB3 := Lib.hid (below_trans HB2.out hb3)
        have HO3 := Lib.hid (own_keep HO2.out hb3)
        have HE3 := Lib.hid (bytesAt_of15 (HoldsB.of_own ho3))
        clear ho3 hb3 HO2 HBY d0 d1 d2
        generalize byC c.ca = by0 at *
        go_wp2_with (at_builtin; refine wpList_append_sl _ encB 1 rfl (.tmp 30) (.tmp 35) 22 rfl encB_len (by omega) encB_one W.heap.size 5 i0 _ 1 Tryz.underlying22 hi0 hz0 hz1 hz2 rfl (.slice O l.length oc) l rfl HO3.out E _ ec by0 rfl rfl HE3.out (by simp [maxLen]; have := HLB.out; omega) (by have := HLB.out; omega) HB3.out.size ?_; intro v2 w4 hown hg hat; have HB4 := Lib.hid (HB3.out.grown hg HB3.out.size (fun j hj => (HO3.out.lt j hj).1)); obtain ⟨O4, oc4, e4, _, _, _⟩ := SlAt.of_own encB_len hown; subst e4; have HO4 := Lib.hid hown; clear hown hg hat)
        go_roundw
        case rel => exact ⟨j + 1, O4, oc4, l ++ by0, by rw [List.length_append], by go_num, by omega, by have := HLB.out; rw [List.length_append]; omega, HO4, HB4⟩
        case measure => simp [intOf]; omega
    · have k0 : ¬ (j : Int) < (cs.length : Int) := by omega
      have HPX := Lib.hid (bytesAt_of15 (HP.out.below hb.out))
      have hl1 : l.length ≤ 160240 := by omega
      clear hll HX HT HP
      go_wp2_with (at_builtin; refine wpList_append_sl _ encB 1 rfl (.tmp 37) (.tmp 38) 22 rfl encB_len (by omega) encB_one W.heap.size 5 i0 _ 1 Tryz.underlying22 hi0 hz0 hz1 hz2 rfl (.slice O l.length oc) l rfl hO.out A' _ n p rfl rfl HPX.out (by simp [maxLen]; omega) (by omega) hb.out.size ?_; intro v2 w4 hown hg hat; have HB4 := Lib.hid (hb.out.grown hg hb.out.size (fun j hj => (hO.out.lt j hj).1)); obtain ⟨lp, hlp⟩ : ∃ lp, l ++ p = lp := ⟨_, rfl⟩; rw [hlp] at hown; have HL4 : lp.length ≤ 170000 := (by rw [← hlp, List.length_append]; omega); obtain ⟨O4, oc4, rfl, h41, h42, h43⟩ := SlAt.of_own encB_len hown; have HO4 := Lib.hid (show HoldsB w4 (.slice O4 lp.length oc4) lp from ⟨O4, oc4, rfl, h43, h41, h42⟩); have HM := Lib.hid (lawMany H.out O4 lp oc4 w4 HB4.out HO4.out HL4); clear hlp hO; clear hown hg hat h41 h42 h43 HPX)
      refine HM.out.mono ?_
      rintro e w5 ⟨rfl, hb5⟩
      have HB5 := Lib.hid (below_trans HB4.out hb5)
      have HO5 := Lib.hid (HO4.out.below hb5)
      clear hb5 HO4 HM
      obtain ⟨q, hq⟩ : ∃ q, cntC lp = q := ⟨_, rfl⟩
      cases q with
      | none =>
        rw [show manyV lp = -1 from by unfold manyV; rw [hq]]
        have HCT := Lib.hid (lawCounts H.out O4 lp oc4 0 12 w5 HB5.out HO5.out HL4 (by rw [hq]; rfl) (by rw [hq]; rfl))
        clear hq HO5 H
        go_wp2_with fail
        refine HCT.out.mono ?_
        rintro e w6 ⟨rfl, hb6⟩
        have HB6 := Lib.hid (below_trans HB5.out hb6)
        have HKW := Lib.hid (HK.out w6 HB6.out)
        clear hb6 HCT HK
        go_wp2_with fail
        refine HKW.out.mono ?_
        rintro e w7 ⟨rfl, hb⟩
        have HB7 := Lib.hid (below_trans HB6.out hb)
        clear hb
        go_wp2_with fail
        go_ret
        exact ⟨rfl, HB7.out⟩
      | some k =>
        rw [show manyV lp = (k : Int) from by unfold manyV; rw [hq]]
        have HCT := Lib.hid (lawCounts H.out O4 lp oc4 k 0 w5 HB5.out HO5.out HL4 (by rw [hq]; rfl) (by rw [hq]; rfl))
        have k9 : (0 : Int) ≤ (k : Int) := by omega
        clear hq HO5 H
        go_wp2_with fail
        refine HCT.out.mono ?_
        rintro e w6 ⟨rfl, hb6⟩
        have HB6 := Lib.hid (below_trans HB5.out hb6)
        have HKW := Lib.hid (HK.out w6 HB6.out)
        clear hb6 HCT HK
        go_wp2_with fail
        refine HKW.out.mono ?_
        rintro e w7 ⟨rfl, hb⟩
        have HB7 := Lib.hid (below_trans HB6.out hb)
        clear hb
        go_wp2_with fail
        go_ret
        exact ⟨rfl, HB7.out⟩

end

section
open Go.RowKit
open Go.ChangeShapes Go.WideShapes Go.ChangeAt

set_option maxRecDepth 1000000

theorem okZ_wf {n : Int} (h : (Lit.int .i64 n).wf = true) : okZ64 n := by
  have := wf64 h
  exact ⟨this.1, by omega⟩
theorem okD_wd (us : List WD) : ∀ d ∈ us.map (·.1), okD64 d := fun d hd => by
  obtain ⟨x, _, rfl⟩ := List.mem_map.1 hd
  have h := x.2
  unfold Wf at h
  exact ⟨⟨by omega, by omega⟩, ⟨by omega, by omega⟩⟩
theorem wf15_u8 {n : Int} (h : (Lit.int .u8 n).wf = true) : ∃ m : Nat, n = (m : Int) ∧ m < 256 := wfB h
theorem wf15_u16 {n : Int} (h : (Lit.int .u16 n).wf = true) : ∃ m : Nat, n = (m : Int) ∧ m < 65536 := by
  have h1 : 0 ≤ n ∧ n ≤ IntKind.u16.max := by simpa [Lit.wf, IntKind.min, IntKind.bits, IntKind.signed] using h
  have h2 : IntKind.u16.max = 65535 := by decide
  exact ⟨n.toNat, by omega, by omega⟩

section
variable {H : Type} {enc : TypeId × Value → H} {W : World} {base b0 : Nat} {spare : Nat → Bool} {held : Bool} {v : Value} {d : DataW H} {p : List MemPlace} {t : TypeId}
/-- The four cells of a mark. -/
theorem open_markC15 {fuel : Nat} {x : DataW H × List MemPlace} {v0 v1 v2 v3 : Value} (h : DataW.trod enc Tryz.prog W base spare held fuel 54 [v0, v1, v2, v3] = some x) :
    ∃ m : Mk, v0 = .int .i64 m.r ∧ v1 = .int .i64 m.c ∧ v2 = .int .i64 m.q ∧ v3 = .int .u64 (m.t : Int) ∧ okM64 m := by
  obtain ⟨xs, k, hk, _, _, hxl, hfd⟩ := DataW.trod_struct Tryz.underlying54 h
  match xs, hxl with
  | [y0, y1, y2], _ =>
    have g0 := hfd 0 _ rfl
    have g1 := hfd 1 _ rfl
    have g2 := hfd 2 _ rfl
    have c0 : Tryz.prog.cellsOf 52 = 2 := by kernel_rfl
    have c1 : Tryz.prog.cellsOf 3 = 1 := by kernel_rfl
    have c2 : Tryz.prog.cellsOf 42 = 1 := by kernel_rfl
    simp [c0, c1, c2] at g0 g1 g2
    obtain ⟨zs, k2, hk2, _, _, hzl, hgd⟩ := DataW.trod_struct Tryz.underlying52 g0
    match zs, hzl with
    | [z0, z1], _ =>
      have q0 := hgd 0 _ rfl
      have q1 := hgd 1 _ rfl
      simp [c1] at q0 q1
      obtain ⟨r, hr, _, wr⟩ := DataW.trod_int Tryz.underlying3 q0
      obtain ⟨c, hc, _, wc⟩ := DataW.trod_int Tryz.underlying3 q1
      obtain ⟨q, hq, _, wq⟩ := DataW.trod_int Tryz.underlying3 g1
      obtain ⟨t, ht, _, wt⟩ := DataW.trod_int Tryz.underlying42 g2
      injection hr with hr
      injection hc with hc
      injection hq with hq
      injection ht with ht
      obtain ⟨n, rfl, hn⟩ := wfU wt
      exact ⟨⟨r, c, q, n⟩, hr, hc, hq, ht, ⟨okZ_wf wr, okZ_wf wc⟩, okZ_wf wq, hn⟩
theorem open_marksF15 {fuel : Nat} {x : DataW H × List MemPlace} (ht : Tryz.prog.underlying t = some (.slice 54)) (hf : DataW.trod enc Tryz.prog W base spare held fuel t [v] = some x) :
    ∃ X cx, ∃ ms : List Mk, v = .slice X ms.length cx ∧ MarksAt W X ms ∧ ms.length ≤ cx ∧ cx ≤ maxLen ∧ ∀ m ∈ ms, okM64 m := by
  rcases Go.Deep.open_slice ht hf with ⟨hcs, _⟩ | ⟨a, len, cap, m, n, D, Pl, hcs, hb, hl, hm, hmm, _, hx⟩
  · obtain rfl : v = .slice none 0 0 := by simpa using hcs
    exact ⟨none, 0, [], rfl, SlAt.nil, by simp, by simp [maxLen], fun p hp => by cases hp⟩
  · obtain rfl : v = .slice (some a) len cap := by simpa using hcs
    have hlm : len ≤ m := by rw [hmm]; split <;> omega
    have each : ∀ i, ∃ p : Mk, i < len → W.cell? (a.add (i * 4)) = some (.int .i64 p.r) ∧ W.cell? (a.add (i * 4 + 1)) = some (.int .i64 p.c) ∧ W.cell? (a.add (i * 4 + 2)) = some (.int .i64 p.q) ∧ W.cell? (a.add (i * 4 + 3)) = some (.int .u64 (p.t : Int)) ∧ okM64 p := by
      intro i
      by_cases hi : i < len
      · obtain ⟨cs', h1, h2⟩ := hx i (by omega)
        rw [show Tryz.prog.cellsOf 54 = 4 from by kernel_rfl] at h1
        obtain ⟨_, hlen, hcell⟩ := World.cells?_some h1
        match cs', hlen with
        | [v0, v1, v2, v3], _ =>
          have e0 := hcell 0 (by omega)
          have e1 := hcell 1 (by omega)
          have e2 := hcell 2 (by omega)
          have e3 := hcell 3 (by omega)
          rw [Go.Deep.add_add] at e0 e1 e2 e3
          obtain ⟨q, q0, q1, q2, q3, hq⟩ := open_markC15 h2
          subst q0 q1 q2 q3
          exact ⟨q, fun _ => ⟨by simpa using e0, by simpa using e1, by simpa using e2, by simpa using e3, hq⟩⟩
      · exact ⟨Mk.zero, fun h => absurd h hi⟩
    obtain ⟨q, hq⟩ := Classical.axiomOfChoice each
    have hlen : ((List.range len).map q).length = len := by simp
    refine ⟨some a, cap, (List.range len).map q, by rw [hlen], ?_, by rw [hlen]; exact hl, hm, ?_⟩
    · intro hpos
      rw [hlen] at hpos
      obtain ⟨b, off, spot⟩ := a
      have hspot : spot = none := by simpa [Addr.add] using World.cell?_spot (hq 0 hpos).1
      subst hspot
      refine ⟨b, off, rfl, block_of_cell (hq 0 hpos).1, ?_⟩
      intro j x hjx i u hiu
      have hj : j < len := by
        rcases Nat.lt_or_ge j len with h | h
        · exact h
        · rw [List.getElem?_eq_none (by rw [hlen]; exact h)] at hjx; cases hjx
      have hxq : x = q j := by
        rw [List.getElem?_map, List.getElem?_range hj] at hjx
        exact (Option.some.inj hjx).symm
      subst hxq
      obtain ⟨g0, g1, g2, g3, _⟩ := hq j hj
      rw [add_plain] at g0 g1 g2 g3
      match i, hiu with
      | 0, hiu =>
        have e : Value.int .i64 (q j).r = u := Option.some.inj hiu
        rw [← e, ← g0]; rfl
      | 1, hiu =>
        have e : Value.int .i64 (q j).c = u := Option.some.inj hiu
        rw [← e, ← g1]; rfl
      | 2, hiu =>
        have e : Value.int .i64 (q j).q = u := Option.some.inj hiu
        rw [← e, ← g2]; rfl
      | 3, hiu =>
        have e : Value.int .u64 ((q j).t : Int) = u := Option.some.inj hiu
        rw [← e, ← g3]; rfl
      | i + 4, hiu => exact absurd hiu (by simp [encM])
    · intro p hp
      obtain ⟨j, hj, rfl⟩ := List.mem_map.1 hp
      obtain ⟨_, _, _, _, g4⟩ := hq j (List.mem_range.1 hj)
      exact g4
/-- The two cells of an item. -/
theorem open_itemC15 {fuel : Nat} {x : DataW H × List MemPlace} {v0 v1 : Value} (h : DataW.trod enc Tryz.prog W base spare held fuel 57 [v0, v1] = some x) :
    ∃ y : ItV, v0 = .string ⟨y.nm.toArray⟩ ∧ v1 = .slice y.A y.ms.length y.c ∧ ItOK W y ∧ ∀ m ∈ y.ms, okM64 m := by
  obtain ⟨xs, k, hk, _, _, hxl, hfd⟩ := DataW.trod_struct Tryz.underlying57 h
  match xs, hxl with
  | [y0, y1], _ =>
    have g0 := hfd 0 _ rfl
    have g1 := hfd 1 _ rfl
    have c0 : Tryz.prog.cellsOf 9 = 1 := by kernel_rfl
    have c1 : Tryz.prog.cellsOf 55 = 1 := by kernel_rfl
    simp [c0, c1] at g0 g1
    obtain ⟨s, hs, _, _⟩ := DataW.trod_string Tryz.underlying9 g0
    obtain ⟨A, c, ms, hv, hat, h1, h2, h3⟩ := open_marksF15 Tryz.underlying55 g1
    injection hs with hs
    refine ⟨⟨s.data.toList, A, c, ms⟩, ?_, hv, ⟨hat, h1, h2⟩, h3⟩
    rw [hs]
theorem open_itemsF15 {fuel : Nat} {x : DataW H × List MemPlace} (ht : Tryz.prog.underlying t = some (.slice 57)) (hf : DataW.trod enc Tryz.prog W base spare held fuel t [v] = some x) :
    ∃ xs : List ItV, HoldsX W v xs ∧ ∀ y ∈ xs, ∀ m ∈ y.ms, okM64 m := by
  rcases Go.Deep.open_slice ht hf with ⟨hcs, _⟩ | ⟨a, len, cap, m, n, D, Pl, hcs, hb, hl, hm, hmm, _, hx⟩
  · obtain rfl : v = .slice none 0 0 := by simpa using hcs
    exact ⟨[], HoldsX.nil _, fun p hp => by cases hp⟩
  · obtain rfl : v = .slice (some a) len cap := by simpa using hcs
    have hlm : len ≤ m := by rw [hmm]; split <;> omega
    have each : ∀ i, ∃ y : ItV, i < len → W.cell? (a.add (i * 2)) = some (.string ⟨y.nm.toArray⟩) ∧ W.cell? (a.add (i * 2 + 1)) = some (.slice y.A y.ms.length y.c) ∧ ItOK W y ∧ ∀ m ∈ y.ms, okM64 m := by
      intro i
      by_cases hi : i < len
      · obtain ⟨cs', h1, h2⟩ := hx i (by omega)
        rw [show Tryz.prog.cellsOf 57 = 2 from by kernel_rfl] at h1
        obtain ⟨_, hlen, hcell⟩ := World.cells?_some h1
        match cs', hlen with
        | [v0, v1], _ =>
          have e0 := hcell 0 (by omega)
          have e1 := hcell 1 (by omega)
          rw [Go.Deep.add_add] at e0 e1
          obtain ⟨y, q0, q1, hok, hq⟩ := open_itemC15 h2
          subst q0 q1
          exact ⟨y, fun _ => ⟨by simpa using e0, by simpa using e1, hok, hq⟩⟩
      · exact ⟨⟨[], none, 0, []⟩, fun h => absurd h hi⟩
    obtain ⟨q, hq⟩ := Classical.axiomOfChoice each
    have hlen : ((List.range len).map q).length = len := by simp
    refine ⟨(List.range len).map q, ⟨some a, cap, by rw [hlen], ⟨?_, ?_⟩, by rw [hlen]; exact hl, hm⟩, ?_⟩
    · intro hpos
      rw [hlen] at hpos
      obtain ⟨b, off, spot⟩ := a
      have hspot : spot = none := by simpa [Addr.add] using World.cell?_spot (hq 0 hpos).1
      subst hspot
      refine ⟨b, off, rfl, block_of_cell (hq 0 hpos).1, ?_⟩
      intro j x hjx i u hiu
      have hj : j < len := by
        rcases Nat.lt_or_ge j len with h | h
        · exact h
        · rw [List.getElem?_eq_none (by rw [hlen]; exact h)] at hjx; cases hjx
      have hxq : x = q j := by
        rw [List.getElem?_map, List.getElem?_range hj] at hjx
        exact (Option.some.inj hjx).symm
      subst hxq
      obtain ⟨g0, g1, _⟩ := hq j hj
      rw [add_plain] at g0 g1
      match i, hiu with
      | 0, hiu =>
        have e : Value.string ⟨(q j).nm.toArray⟩ = u := Option.some.inj hiu
        rw [← e, ← g0]; rfl
      | 1, hiu =>
        have e : Value.slice (q j).A (q j).ms.length (q j).c = u := Option.some.inj hiu
        rw [← e, ← g1]; rfl
      | i + 2, hiu => exact absurd hiu (by simp [encIt])
    · intro y hy
      obtain ⟨j, hj, rfl⟩ := List.mem_map.1 hy
      exact (hq j (List.mem_range.1 hj)).2.2.1
    · intro y hy
      obtain ⟨j, hj, rfl⟩ := List.mem_map.1 hy
      exact (hq j (List.mem_range.1 hj)).2.2.2
/-- The three cells of a cart. -/
theorem open_cartC15 {fuel : Nat} {x : DataW H × List MemPlace} {v0 v1 v2 : Value} (h : DataW.trod enc Tryz.prog W base spare held fuel 31 [v0, v1, v2] = some x) :
    ∃ c : CaV, v0 = c.v ∧ v1 = c.l ∧ v2 = c.i ∧ CaOK W c ∧ NumC c.ca := by
  obtain ⟨xs, k, hk, _, _, hxl, hfd⟩ := DataW.trod_struct Tryz.underlying31 h
  match xs, hxl with
  | [y0, y1], _ =>
    have g0 := hfd 0 _ rfl
    have g1 := hfd 1 _ rfl
    have c0 : Tryz.prog.cellsOf 28 = 2 := by kernel_rfl
    have c1 : Tryz.prog.cellsOf 29 = 1 := by kernel_rfl
    have c2 : Tryz.prog.cellsOf 26 = 1 := by kernel_rfl
    have c3 : Tryz.prog.cellsOf 25 = 1 := by kernel_rfl
    simp [c0, c1] at g0 g1
    obtain ⟨zs, k2, hk2, _, _, hzl, hgd⟩ := DataW.trod_struct Tryz.underlying28 g0
    match zs, hzl with
    | [z0, z1], _ =>
      have q0 := hgd 0 _ rfl
      have q1 := hgd 1 _ rfl
      simp [c2, c3] at q0 q1
      obtain ⟨A, a, us, rfl, hA⟩ := open_dotsF Tryz.underlying26 q0
      obtain ⟨B, b, ls, rfl, hB⟩ := open_dotsF Tryz.underlying25 q1
      obtain ⟨ys, hY, hym⟩ := open_itemsF15 Tryz.underlying29 g1
      obtain ⟨C, c, rfl, hc⟩ := hY
      exact ⟨⟨A, a, us.map (fun x : WD => x.1), B, b, ls.map (fun x : WD => x.1), C, c, ys⟩, rfl, rfl, rfl, ⟨hA, hB, C, c, rfl, hc⟩, okD_wd us, okD_wd ls, fun x hx m hm => by
        obtain ⟨y, hy, rfl⟩ := List.mem_map.1 hx
        exact hym y hy m hm⟩
theorem open_carts15 (ht : Tryz.prog.underlying t = some (.slice 31)) (hv : Value.okWide Tryz.prog W .any b0 t v) (h : DataW.Trod enc Tryz.prog W base spare held t v d p) :
    ∃ (A : Option Addr) (cap : Nat) (cs : List CaV), v = .slice A cs.length cap ∧ CarsIn W A cs ∧ ∀ c ∈ cs, NumC c.ca := by
  obtain ⟨a0, len0, cap0, rfl⟩ := okWide_slice ht hv
  obtain ⟨fuel, hf⟩ := h
  have hf : DataW.trod enc Tryz.prog W base spare held fuel t [.slice a0 len0 cap0] = some (d, p) := by simpa [Value.cells] using hf
  rcases Go.Deep.open_slice ht hf with ⟨hcs, _⟩ | ⟨a, len, cap, m, n, D, Pl, hcs, hb, hl, hm, hmm, _, hx⟩
  · have e : Value.slice a0 len0 cap0 = .slice none 0 0 := by simpa using hcs
    exact ⟨none, 0, [], e, ⟨SlAt.nil, fun p hp => by cases hp⟩, fun p hp => by cases hp⟩
  · have e0 : Value.slice a0 len0 cap0 = .slice (some a) len cap := by simpa using hcs
    have hlm : len ≤ m := by rw [hmm]; split <;> omega
    have each : ∀ i, ∃ y : CaV, i < len → W.cell? (a.add (i * 3)) = some y.v ∧ W.cell? (a.add (i * 3 + 1)) = some y.l ∧ W.cell? (a.add (i * 3 + 2)) = some y.i ∧ CaOK W y ∧ NumC y.ca := by
      intro i
      by_cases hi : i < len
      · obtain ⟨cs', h1, h2⟩ := hx i (by omega)
        rw [show Tryz.prog.cellsOf 31 = 3 from by kernel_rfl] at h1
        obtain ⟨_, hlen, hcell⟩ := World.cells?_some h1
        match cs', hlen with
        | [v0, v1, v2], _ =>
          have e0 := hcell 0 (by omega)
          have e1 := hcell 1 (by omega)
          have e2 := hcell 2 (by omega)
          rw [Go.Deep.add_add] at e0 e1 e2
          obtain ⟨y, q0, q1, q2, hok⟩ := open_cartC15 h2
          exact ⟨y, fun _ => ⟨by simpa [q0] using e0, by simpa [q1] using e1, by simpa [q2] using e2, hok⟩⟩
      · exact ⟨nilC, fun h => absurd h hi⟩
    obtain ⟨q, hq⟩ := Classical.axiomOfChoice each
    have hlen : ((List.range len).map q).length = len := by simp
    refine ⟨some a, cap, (List.range len).map q, by rw [hlen]; exact e0, ⟨?_, ?_⟩, ?_⟩
    · intro hpos
      rw [hlen] at hpos
      obtain ⟨b, off, spot⟩ := a
      have hspot : spot = none := by simpa [Addr.add] using World.cell?_spot (hq 0 hpos).1
      subst hspot
      refine ⟨b, off, rfl, block_of_cell (hq 0 hpos).1, ?_⟩
      intro j x hjx i u hiu
      have hj : j < len := by
        rcases Nat.lt_or_ge j len with h | h
        · exact h
        · rw [List.getElem?_eq_none (by rw [hlen]; exact h)] at hjx; cases hjx
      have hxq : x = q j := by
        rw [List.getElem?_map, List.getElem?_range hj] at hjx
        exact (Option.some.inj hjx).symm
      subst hxq
      obtain ⟨g0, g1, g2, _⟩ := hq j hj
      rw [add_plain] at g0 g1 g2
      match i, hiu with
      | 0, hiu =>
        have e : (q j).v = u := Option.some.inj hiu
        rw [← e, ← g0]; rfl
      | 1, hiu =>
        have e : (q j).l = u := Option.some.inj hiu
        rw [← e, ← g1]; rfl
      | 2, hiu =>
        have e : (q j).i = u := Option.some.inj hiu
        rw [← e, ← g2]; rfl
      | i + 3, hiu => exact absurd hiu (by simp [encCu])
    · intro y hy
      obtain ⟨j, hj, rfl⟩ := List.mem_map.1 hy
      exact (hq j (List.mem_range.1 hj)).2.2.2.1
    · intro y hy
      obtain ⟨j, hj, rfl⟩ := List.mem_map.1 hy
      exact (hq j (List.mem_range.1 hj)).2.2.2.2
theorem open_cart15 (hv : Value.okWide Tryz.prog W .any b0 31 v) (h : DataW.Trod enc Tryz.prog W base spare held 31 v d p) :
    ∃ c : CaV, v = mkC c ∧ CaOK W c ∧ NumC c.ca := by
  obtain ⟨cs, rfl, hsz⟩ := okWide_struct Tryz.underlying31 hv
  have hC : Tryz.prog.cellsOf 31 = 3 := by kernel_rfl
  rw [hC] at hsz
  obtain ⟨fuel, hf⟩ := h
  obtain ⟨l⟩ := cs
  match l, hsz with
  | [v0, v1, v2], _ =>
    obtain ⟨c, e0, e1, e2, h1, h2⟩ := open_cartC15 (by simpa [Value.cells] using hf)
    exact ⟨c, by rw [e0, e1, e2], h1, h2⟩
end

end

section
open Go.RowKit

set_option maxHeartbeats 1000000 in
theorem lawReads_15 (A : Option Addr) (p : List UInt8) (n : Nat) (W : World) (h : DecOK W) (hp : HoldsB W (.slice A p.length n) p) :
    Calls Tryz.prog 3 #[.slice A p.length n] W (OneB (.bool true) W) := by
  have HK := Lib.hid (known15_w h)
  have hcap := caps_of15 hp
  have hle : p.length ≤ 9223372036854775807 := by have := hcap.1; have := hcap.2; unfold maxLen at this; omega
  by_cases hl : 400 < p.length
  · have i0 : (400 : Int) < (p.length : Int) := by omega
    have HKW := Lib.hid (HK.out W (Below.refl _ _))
    clear hl hp hcap HK
    go_enter Tryz.func3, Tryz.ntmps3
    go_wp2_with fail
    refine HKW.out.mono ?_
    rintro e w1 ⟨rfl, hb⟩
    have HB := Lib.hid hb
    clear hb
    go_wp2_with fail
    go_ret
    exact ⟨rfl, HB.out⟩
  · have i0 : ¬ (400 : Int) < (p.length : Int) := by omega
    have HR := Lib.hid (lawRight h A p n W (Below.refl _ _) hp (by omega))
    clear hl hp hcap
    go_enter Tryz.func3, Tryz.ntmps3
    go_wp2_with fail
    refine HR.out.mono ?_
    rintro e w1 ⟨rfl, hb⟩
    have HB := Lib.hid hb
    have HKW := Lib.hid (HK.out w1 hb)
    clear hb
    go_wp2_with fail
    refine HKW.out.mono ?_
    rintro e w2 ⟨rfl, hb⟩
    have HB2 := Lib.hid (below_trans HB.out hb)
    clear hb
    go_wp2_with fail
    go_ret
    exact ⟨rfl, HB2.out⟩

end

end Go.Proofs.YtpnemekkpifbaaaGreat
