/- The library's unquote, at single quotes. -/
import Derived.Test.YtpkpacgmmhjfpaaDoorNamM
namespace Go.Proofs.YtpkpacgmmhjfpaaDoor
open Go.RowKit

set_option maxRecDepth 100000 in
set_option maxHeartbeats 16000000 in
theorem unq39true (l : List UInt8) (q : UInt8) (i : Nat) (w : World) (hl : l.length ≤ 100000) (h2 : 2 ≤ l.length) (hq0 : l[0] = q) (hq : q.toNat = 39) (hi : Lib.indexByte (l.drop 1) q = (i : Int)) (hL : LaidOK w) :
    Calls Tryd.prog 47 #[.string ⟨l.toArray⟩, .bool true] w (UnP l true w) := by
  obtain ⟨ti0, hi0, hz0, hz1, hz2⟩ := info_parts infoB
  have hsz := size_mk l
  have HL0 := Lib.hid hL
  obtain ⟨ty, p, hE⟩ := hL.2
  have hx := str_at (show 0 < l.length by omega)
  rw [hq0] at hx
  have j0 : ¬ (l.length : Int) < 2 := by omega
  have j1 : (0 : Int) < (l.length : Int) := by omega
  have j2 : (1 : Int) ≤ (l.length : Int) := by omega
  have k96 : ((q.toNat : Int) == 96) = false := eqF (by omega)
  have k34 : ((q.toNat : Int) == 34) = false := eqF (by omega)
  have k39 : ((q.toNat : Int) == 39) = true := eqT (by omega)
  obtain ⟨T1, hT1⟩ : ∃ T, l.drop 1 = T := ⟨_, rfl⟩
  have ex1 := extract_drop l 1
  rw [hT1] at ex1 hi
  have hil : i < T1.length := (indexByte_some hi).1
  have hT1l : T1.length = l.length - 1 := by rw [← hT1, List.length_drop]
  obtain ⟨e, he⟩ : ∃ e, e = i + 2 := ⟨_, rfl⟩
  obtain ⟨e1, he1⟩ : ∃ e1, e1 = i + 1 := ⟨_, rfl⟩
  have em : (i : Int) + 2 = (e : Int) := by omega
  have em1 : (e : Int) - 1 = (e1 : Int) := by omega
  have j3 : ¬ (i : Int) < 0 := by omega
  have j4 : (e : Int) ≤ (l.length : Int) := by omega
  have j5 : (1 : Int) ≤ (e1 : Int) := by omega
  have j6 : (e1 : Int) ≤ (e : Int) := by omega
  have j7 : (e1 : Int) ≤ (l.length : Int) := by omega
  obtain ⟨E, hE0⟩ : ∃ E, l.take e = E := ⟨_, rfl⟩
  have exE := extract_to l e
  rw [hE0] at exE
  have hEl : E.length = e := by rw [← hE0, List.length_take]; omega
  have hszE : (ByteArray.mk E.toArray).size = e := by rw [size_mk, hEl]
  obtain ⟨V, hV⟩ : ∃ V, (l.drop 1).take (e1 - 1) = V := ⟨_, rfl⟩
  have exV := extract_mid l 1 e1
  rw [hV] at exV
  have hVE : (E.drop 1).take (e1 - 1) = V := by
    rw [← hE0, ← hV, List.drop_take, List.take_take]
    congr 1
    omega
  have exV2 := extract_mid E 1 e1
  rw [hVE] at exV2
  obtain ⟨Rr, hRr⟩ : ∃ R, l.drop e = R := ⟨_, rfl⟩
  have exR := extract_drop l e
  rw [hRr] at exR
  have HVl := Lib.hid (show V.length ≤ l.length from by rw [← hV, List.length_take, List.length_drop]; omega)
  have HEE := Lib.hid (show e ≤ l.length ∧ E = l.take e ∧ e = i + 2 ∧ e1 = i + 1 ∧ E.length = e ∧ V.length = i from ⟨by omega, hE0.symm, he, he1, hEl, by rw [← hV, List.length_take, List.length_drop]; omega⟩)
  have HI := sIndex T1 q w
  rw [hi] at HI
  have HIH := Lib.hid HI
  have HT1 := Lib.hid (show T1.length = l.length - 1 from hT1l)
  have HLL := Lib.hid (show l.length ≤ 100000 ∧ 2 ≤ l.length from ⟨hl, h2⟩)
  have h8 := toNat8 q
  have HQ := Lib.hid hq
  clear hq HI hi hil hT1 hT1l he he1 hE0 hEl hV hVE hRr hq0 hL
  go_enter Tryd.func47, Tryd.ntmps47
  go_wp2_with fail
  refine HIH.out.mono ?_
  rintro e w1 ⟨rfl, rfl⟩
  clear HIH
  go_upto_region 25 with fail
  go_cut [99] (fun t wx => ∃ v : Bool, t = .bool v ∧ w = wx)
  case first =>
    have HC1 := Lib.hid (sContains E 92 w)
    have HC2 := Lib.hid (sContains E 10 w)
    go_wp2_with fail
    refine HC1.out.mono ?_
    rintro e w1 ⟨rfl, rfl⟩
    cases hasC E 92 with
    | true =>
      go_wp2_with fail
      go_meet
      exact ⟨_, rfl, rfl⟩
    | false =>
      go_wp2_with fail
      refine HC2.out.mono ?_
      rintro e w1 ⟨rfl, rfl⟩
      cases hasC E 10 with
      | true =>
        go_wp2_with fail
        go_meet
        exact ⟨_, rfl, rfl⟩
      | false =>
        go_wp2_with fail
        go_meet
        exact ⟨_, rfl, rfl⟩
  case rest =>
    obtain ⟨v, rfl, hw⟩ := hcut
    subst hw
    go_upto_if 99 with fail
    go_cut [4] (fun u wx => Hid (Below w.heap.size w wx))
    case first =>
      cases v with
      | false =>
        go_wp2_with fail
        go_meet
        exact Below.refl _ _
      | true =>
        have HVS := Lib.hid (decodeAny V w HL0.out)
        go_wp2_with fail
        refine HVS.out.mono ?_
        rintro e w1 ⟨⟨r, n, rfl, hR⟩, hb⟩
        have HB1 := Lib.hid hb
        clear hb HVS
        have in0 : 1 + n + 1 ≤ 1000000 := by have := hR.nhi; have := HVl.out; have := HLL.out; omega
        have in1 : 0 ≤ n := hR.nlo
        have in2 : n ≤ 1000000 := by omega
        by_cases c1 : (1 + n + 1 : Int) = (e : Int)
        · have d1 : ((1 + n + 1 : Int) == (e : Int)) = true := eqT c1
          clear c1
          by_cases c2 : r = 65533
          · have d2 : (r != 65533) = false := neF c2
            by_cases c3 : n = 1
            · have d3 : (n != 1) = false := neF c3
              clear c2 c3
              go_wp2_with fail
              go_meet
              exact HB1.out
            · have d3 : (n != 1) = true := neT c3
              clear c2 c3
              go_wp2_with fail
              go_region
              all_goals
                go_wp2_with fail
                go_ret3
                exact UnP.ok HB1.out.drew (by have := HVl.out; omega) (fun e => by cases e)
          · have d2 : (r != 65533) = true := neT c2
            clear c2
            go_wp2_with fail
            go_region
            all_goals
              go_wp2_with fail
              go_ret3
              exact UnP.ok HB1.out.drew (by have := HVl.out; omega) (fun e => by cases e)
        · have d1 : ((1 + n + 1 : Int) == (e : Int)) = false := eqF c1
          clear c1
          go_wp2_with fail
          go_meet
          exact HB1.out
    case rest =>
      have HB0 := hcut
      obtain ⟨wq, rfl⟩ : ∃ W, W = wc := ⟨_, rfl⟩
      obtain ⟨c, hc⟩ : ∃ c, c = 3 * e / 2 := ⟨_, rfl⟩
      have hee : e ≤ 100000 := by have := HEE.out; have := HLL.out; omega
      have ec : 3 * (e : Int) / 2 = (c : Int) := by omega
      obtain ⟨W0, hmk, hown0, hg0⟩ := run_make_own (P := Tryd.prog) wq w.heap.size 27 5 ti0 _ 1 Tryd.underlying27 hi0 hz0 hz1 .i64 .i64 c (by rw [hz2]; omega) (by unfold maxLen; omega) HB0.out.size
      have HO0 := Lib.hid hown0
      have HB1 := Lib.hid (HB0.out.grown hg0 HB0.out.size (fun k hk => by cases hk))
      clear hown0 hg0 hc hee
      go_upto_block 5 with fail
      clear ec hmk
      go_cut [0, 14] (fun s0 s14 wx => ∃ (T : List UInt8) (D : Option Addr) (d : Nat) (ys : List UInt8), s0 = .string ⟨T.toArray⟩ ∧ T.length ≤ l.length ∧ ys.length + 4 * T.length ≤ 4 * l.length ∧ s14 = .slice D ys.length d ∧ Hid (RowB wx w.heap.size (.slice D ys.length d) ys) ∧ Hid (Below w.heap.size w wx))
      case first =>
        go_wp2_with fail
        go_loopw [0, 14] (fun s0 s14 wr => ∃ (T : List UInt8) (D : Option Addr) (d : Nat) (ys : List UInt8), s0 = .string ⟨T.toArray⟩ ∧ T.length ≤ l.length ∧ ys.length + 4 * T.length ≤ 4 * l.length ∧ s14 = .slice D ys.length d ∧ Hid (RowB wr w.heap.size (.slice D ys.length d) ys) ∧ Hid (Below w.heap.size w wr)) (fun s0 _ _ => strLen s0)
        case atStart => exact ⟨T1, _, _, [], rfl, by have := HT1.out; omega, by have := HT1.out; simp; omega, rfl, HO0, HB1⟩
        case round =>
          obtain ⟨T, D, d, ys, rfl, hTl, hys, rfl, HO, HB⟩ := hrel
          have hszT := size_mk T
          have hTm : T.length ≤ 100000 := by have := HLL.out; omega
          by_cases h0 : 0 < T.length
          case neg =>
            have i0 : ¬ (0 : Int) < (T.length : Int) := by omega
            go_wp2_with fail
            go_meet
            exact ⟨T, D, d, ys, rfl, hTl, hys, rfl, HO, HB⟩
          have i0 : (0 : Int) < (T.length : Int) := by omega
          have hxT := str_at h0
          obtain ⟨x, hxx⟩ : ∃ x, T[0] = x := ⟨_, rfl⟩
          rw [hxx] at hxT
          by_cases hxq : x = q
          case pos =>
            have k1 : ((x.toNat : Int) != (q.toNat : Int)) = false := neF (by rw [hxq])
            clear hxq hxx
            go_wp2_with fail
            go_meet
            exact ⟨T, D, d, ys, rfl, hTl, hys, rfl, HO, HB⟩
          have k1 : ((x.toNat : Int) != (q.toNat : Int)) = true := neT (fun e => hxq (UInt8.toNat_inj.1 (by omega)))
          have HU := Lib.hid (uqChar T q wr (by omega) h0 (by rw [hxx]; exact hxq) (HL0.out.below HB.out))
          clear hxq hxx
          go_wp2_with fail
          refine HU.out.mono ?_
          rintro e w1 ⟨hr, hb⟩
          have HB1 := Lib.hid (below_trans HB.out hb)
          have HO1 := Lib.hid (own_keep HO.out hb)
          clear HU
          have hE1 : w1.cell? ⟨0, 0, none⟩ = some (.iface ty p) := (HB1.out.cell (World.block_lt_of_cell? w _ hE)).trans hE
          clear hb
          rcases hr with ⟨v, mb, t, ty2, p2, rfl⟩ | ⟨v, mb, t, rfl, htl, hmb⟩
          · by_cases c10 : x.toNat = 10
            · have k2 : ((x.toNat : Int) == 10) = true := eqT (by omega)
              clear c10
              go_wp2_with fail
              go_region
              all_goals
                go_wp2_with fail
                go_ret3
                exact UnP.err HB1.out.drew
            · have k2 : ((x.toNat : Int) == 10) = false := eqF (by omega)
              clear c10
              go_wp2_with fail
              go_region
              all_goals
                go_wp2_with fail
                go_ret3
                exact UnP.err HB1.out.drew
          · by_cases c10 : x.toNat = 10
            · have k2 : ((x.toNat : Int) == 10) = true := eqT (by omega)
              clear c10 hmb
              go_wp2_with fail
              go_region
              all_goals
                go_wp2_with fail
                go_ret3
                exact UnP.err HB1.out.drew
            · have k2 : ((x.toNat : Int) == 10) = false := eqF (by omega)
              clear c10
              have HYL := Lib.hid (show ys.length ≤ 400000 from by omega)
              cases mb with
              | false =>
                by_cases c128 : v < 128
                · clear hmb
                  obtain ⟨z, hz⟩ := byteOf v
                  go_wp2_with (at_builtin; refine wpList_append_sl _ encB 1 rfl (.tmp 186) (.tmp 189) 27 rfl encB_len (by omega) encB_one w.heap.size 5 ti0 _ 1 Tryd.underlying27 hi0 hz0 hz1 hz2 rfl _ ys rfl (HO1.out.alloc _) _ 1 _ [z] rfl rfl rowB_one (by simp [maxLen]; have := HYL.out; omega) (by simp; have := HYL.out; omega) (by have := HB1.out.size; simp; omega) ?_; intro v1 w2 hown hg hat; have HB2 := Lib.hid ((HB1.out.alloc HB1.out.size _).grown hg (by have := HB1.out.size; simp; omega) (fun k hk => (HO1.out.lt k hk).1)); obtain ⟨D2, d3, rfl, _⟩ := SlAt.of_own encB_len hown; have HO2 := Lib.hid hown; clear hown hg hat)
                  go_meet
                  exact ⟨t, _, _, ys ++ [z], rfl, by omega, (by rw [List.length_append, List.length_singleton]; omega), (by rw [List.length_append]; rfl), HO2, HB2⟩
                · clear hmb
                  obtain ⟨z, hz⟩ := byteOf v
                  go_wp2_with (at_builtin; refine wpList_append_sl _ encB 1 rfl (.tmp 186) (.tmp 189) 27 rfl encB_len (by omega) encB_one w.heap.size 5 ti0 _ 1 Tryd.underlying27 hi0 hz0 hz1 hz2 rfl _ ys rfl (HO1.out.alloc _) _ 1 _ [z] rfl rfl rowB_one (by simp [maxLen]; have := HYL.out; omega) (by simp; have := HYL.out; omega) (by have := HB1.out.size; simp; omega) ?_; intro v1 w2 hown hg hat; have HB2 := Lib.hid ((HB1.out.alloc HB1.out.size _).grown hg (by have := HB1.out.size; simp; omega) (fun k hk => (HO1.out.lt k hk).1)); obtain ⟨D2, d3, rfl, _⟩ := SlAt.of_own encB_len hown; have HO2 := Lib.hid hown; clear hown hg hat)
                  go_meet
                  exact ⟨t, _, _, ys ++ [z], rfl, by omega, (by rw [List.length_append, List.length_singleton]; omega), (by rw [List.length_append]; rfl), HO2, HB2⟩
              | true =>
                have hv0 := (hmb rfl).1
                have hv1 := (hmb rfl).2
                clear hmb
                by_cases c128 : v < 128
                · skip
                  obtain ⟨z, hz⟩ := byteOf v
                  go_wp2_with (at_builtin; refine wpList_append_sl _ encB 1 rfl (.tmp 186) (.tmp 189) 27 rfl encB_len (by omega) encB_one w.heap.size 5 ti0 _ 1 Tryd.underlying27 hi0 hz0 hz1 hz2 rfl _ ys rfl (HO1.out.alloc _) _ 1 _ [z] rfl rfl rowB_one (by simp [maxLen]; have := HYL.out; omega) (by simp; have := HYL.out; omega) (by have := HB1.out.size; simp; omega) ?_; intro v1 w2 hown hg hat; have HB2 := Lib.hid ((HB1.out.alloc HB1.out.size _).grown hg (by have := HB1.out.size; simp; omega) (fun k hk => (HO1.out.lt k hk).1)); obtain ⟨D2, d3, rfl, _⟩ := SlAt.of_own encB_len hown; have HO2 := Lib.hid hown; clear hown hg hat)
                  go_meet
                  exact ⟨t, _, _, ys ++ [z], rfl, by omega, (by rw [List.length_append, List.length_singleton]; omega), (by rw [List.length_append]; rfl), HO2, HB2⟩
                · have HA := Lib.hid (appendRune w w1 D d ys v hv0 hv1 (by omega) HB1.out HO1.out)
                  go_wp2_with fail
                  refine HA.out.mono ?_
                  rintro e w2 ⟨D2, d3, zs, rfl, hzl, hO2, hb2⟩
                  have HO2 := Lib.hid hO2
                  have HB2 := Lib.hid hb2
                  clear hO2 hb2 HA
                  go_wp2_with fail
                  go_meet
                  exact ⟨t, _, _, zs, rfl, by omega, (by omega), rfl, HO2, HB2⟩
      case rest =>
        obtain ⟨T, D, d, ys, rfl, hTl, hys, rfl, HO, HB⟩ := hcut
        obtain ⟨wr, rfl⟩ : ∃ W, W = wc := ⟨_, rfl⟩
        have hE1 : wr.cell? ⟨0, 0, none⟩ = some (.iface ty p) := (HB.out.cell (World.block_lt_of_cell? w _ hE)).trans hE
        have hszT := size_mk T
        have hTm : T.length ≤ 100000 := by have := HLL.out; omega
        by_cases h0 : 0 < T.length
        case neg =>
          have i0 : ¬ (0 : Int) < (T.length : Int) := by omega
          go_wp2_with fail
          go_region
          all_goals
            go_wp2_with fail
            go_ret3
            exact UnP.err HB.out.drew
        have i0 : (0 : Int) < (T.length : Int) := by omega
        have hxT := str_at h0
        obtain ⟨x, hxx⟩ : ∃ x, T[0] = x := ⟨_, rfl⟩
        rw [hxx] at hxT
        by_cases hxq : x = q
        case neg =>
          have k1 : ((x.toNat : Int) == (q.toNat : Int)) = false := eqF (fun e => hxq (UInt8.toNat_inj.1 (by omega)))
          clear hxq hxx
          go_wp2_with fail
          go_region
          all_goals
            go_wp2_with fail
            go_ret3
            exact UnP.err HB.out.drew
        have k1 : ((x.toNat : Int) == (q.toNat : Int)) = true := eqT (by rw [hxq])
        obtain ⟨U, hU⟩ : ∃ U, T.drop 1 = U := ⟨_, rfl⟩
        have exU := extract_drop T 1
        rw [hU] at exU
        have hszU := size_mk U
        have hUl : U.length = T.length - 1 := by rw [← hU, List.length_drop]
        have j8 : (1 : Int) ≤ (T.length : Int) := by omega
        clear hxq hxx hU
        have hcv := convB wr D d ys (HoldsB.of_own HO.out)
        clear hUl
        go_wp2_with fail
        go_ret3
        exact UnP.ok HB.out (by omega) (fun e => by cases e)

end Go.Proofs.YtpkpacgmmhjfpaaDoor
