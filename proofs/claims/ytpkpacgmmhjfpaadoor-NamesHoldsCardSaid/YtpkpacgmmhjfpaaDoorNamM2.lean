/- The library's unquote, that does not unescape. -/
import Derived.Test.YtpkpacgmmhjfpaaDoorNamM
namespace Go.Proofs.YtpkpacgmmhjfpaaDoor
open Go.RowKit

set_option maxRecDepth 100000 in
set_option maxHeartbeats 16000000 in
theorem unq34false (l : List UInt8) (q : UInt8) (i : Nat) (w : World) (hl : l.length ≤ 100000) (h2 : 2 ≤ l.length) (hq0 : l[0] = q) (hq : q.toNat = 34) (hi : Lib.indexByte (l.drop 1) q = (i : Int)) (hL : LaidOK w) :
    Calls Tryd.prog 47 #[.string ⟨l.toArray⟩, .bool false] w (UnP l false w) := by
  obtain ⟨ti0, hi0, hz0, hz1, hz2⟩ := info_parts infoB
  have hsz := size_mk l
  have HL0 := Lib.hid hL
  obtain ⟨ty, p, hE⟩ := hL.2
  have hx := str_at (show 0 < l.length by omega)
  rw [hq0] at hx
  have j0 : ¬ (l.length : Int) < 2 := by omega
  have j1 : (0 : Int) < (l.length : Int) := by omega
  have j2 : (1 : Int) ≤ (l.length : Int) := by omega
  have k96 : ((q.toNat : Int) == 96) = false := eqF (by omega)
  have k34 : ((q.toNat : Int) == 34) = true := eqT (by omega)
  have k39 : ((q.toNat : Int) == 39) = false := eqF (by omega)
  obtain ⟨T1, hT1⟩ : ∃ T, l.drop 1 = T := ⟨_, rfl⟩
  have ex1 := extract_drop l 1
  rw [hT1] at ex1 hi
  have hil : i < T1.length := (indexByte_some hi).1
  have hT1l : T1.length = l.length - 1 := by rw [← hT1, List.length_drop]
  obtain ⟨e, he⟩ : ∃ e, e = i + 2 := ⟨_, rfl⟩
  obtain ⟨e1, he1⟩ : ∃ e1, e1 = i + 1 := ⟨_, rfl⟩
  have em : (i : Int) + 2 = (e : Int) := by omega
  have em1 : (e : Int) - 1 = (e1 : Int) := by omega
  have j3 : ¬ (i : Int) < 0 := by omega
  have j4 : (e : Int) ≤ (l.length : Int) := by omega
  have j5 : (1 : Int) ≤ (e1 : Int) := by omega
  have j6 : (e1 : Int) ≤ (e : Int) := by omega
  have j7 : (e1 : Int) ≤ (l.length : Int) := by omega
  obtain ⟨E, hE0⟩ : ∃ E, l.take e = E := ⟨_, rfl⟩
  have exE := extract_to l e
  rw [hE0] at exE
  have hEl : E.length = e := by rw [← hE0, List.length_take]; omega
  have hszE : (ByteArray.mk E.toArray).size = e := by rw [size_mk, hEl]
  obtain ⟨V, hV⟩ : ∃ V, (l.drop 1).take (e1 - 1) = V := ⟨_, rfl⟩
  have exV := extract_mid l 1 e1
  rw [hV] at exV
  have hVE : (E.drop 1).take (e1 - 1) = V := by
    rw [← hE0, ← hV, List.drop_take, List.take_take]
    congr 1
    omega
  have exV2 := extract_mid E 1 e1
  rw [hVE] at exV2
  obtain ⟨Rr, hRr⟩ : ∃ R, l.drop e = R := ⟨_, rfl⟩
  have exR := extract_drop l e
  rw [hRr] at exR
  have HVl := Lib.hid (show V.length ≤ l.length from by rw [← hV, List.length_take, List.length_drop]; omega)
  have HEE := Lib.hid (show e ≤ l.length ∧ E = l.take e ∧ e = i + 2 ∧ e1 = i + 1 ∧ E.length = e ∧ V.length = i from ⟨by omega, hE0.symm, he, he1, hEl, by rw [← hV, List.length_take, List.length_drop]; omega⟩)
  have HI := sIndex T1 q w
  rw [hi] at HI
  have HIH := Lib.hid HI
  have HT1 := Lib.hid (show T1.length = l.length - 1 from hT1l)
  have HLL := Lib.hid (show l.length ≤ 100000 ∧ 2 ≤ l.length from ⟨hl, h2⟩)
  have h8 := toNat8 q
  have HQ := Lib.hid hq
  clear hq HI hi hil hT1 hT1l he he1 hE0 hEl hV hVE hRr hq0 hL
  go_enter Tryd.func47, Tryd.ntmps47
  go_wp2_with fail
  refine HIH.out.mono ?_
  rintro e w1 ⟨rfl, rfl⟩
  clear HIH
  go_upto_region 25 with fail
  go_cut [99] (fun t wx => ∃ v : Bool, t = .bool v ∧ w = wx)
  case first =>
    have HC1 := Lib.hid (sContains E 92 w)
    have HC2 := Lib.hid (sContains E 10 w)
    go_wp2_with fail
    refine HC1.out.mono ?_
    rintro e w1 ⟨rfl, rfl⟩
    cases hasC E 92 with
    | true =>
      go_wp2_with fail
      go_meet
      exact ⟨_, rfl, rfl⟩
    | false =>
      go_wp2_with fail
      refine HC2.out.mono ?_
      rintro e w1 ⟨rfl, rfl⟩
      cases hasC E 10 with
      | true =>
        go_wp2_with fail
        go_meet
        exact ⟨_, rfl, rfl⟩
      | false =>
        go_wp2_with fail
        go_meet
        exact ⟨_, rfl, rfl⟩
  case rest =>
    obtain ⟨v, rfl, hw⟩ := hcut
    subst hw
    go_upto_if 99 with fail
    go_cut [4] (fun u wx => Hid (Below w.heap.size w wx))
    case first =>
      cases v with
      | false =>
        go_wp2_with fail
        go_meet
        exact Below.refl _ _
      | true =>
        have HVS := Lib.hid (validStr V w (by have := HVl.out; have := HLL.out; omega) HL0.out)
        go_wp2_with fail
        refine HVS.out.mono ?_
        rintro e w1 ⟨rfl, hb⟩
        have HB1 := Lib.hid hb
        clear hb HVS
        cases Lib.validD V with
        | false =>
          go_wp2_with fail
          go_meet
          exact HB1.out
        | true =>
          go_wp2_with fail
          go_region
          all_goals
            go_wp2_with fail
            go_ret3
            exact UnP.ok HB1.out.drew (by have := HEE.out; omega) (fun _ => ⟨e, HEE.out.1, HEE.out.2.1⟩)
    case rest =>
      have HB0 := hcut
      obtain ⟨wq, rfl⟩ : ∃ W, W = wc := ⟨_, rfl⟩
      go_upto_block 5 with fail
      go_cut [0] (fun s0 wx => ∃ (T : List UInt8), s0 = .string ⟨T.toArray⟩ ∧ T.length ≤ l.length ∧ Hid (Below w.heap.size w wx))
      case first =>
        go_wp2_with fail
        go_loopw [0] (fun s0 wr => ∃ (T : List UInt8), s0 = .string ⟨T.toArray⟩ ∧ T.length ≤ l.length ∧ Hid (Below w.heap.size w wr)) (fun s0 _ => strLen s0)
        case atStart => exact ⟨T1, rfl, by have := HT1.out; omega, HB0⟩
        case round =>
          obtain ⟨T, rfl, hTl, HB⟩ := hrel
          have hszT := size_mk T
          have hTm : T.length ≤ 100000 := by have := HLL.out; omega
          by_cases h0 : 0 < T.length
          case neg =>
            have i0 : ¬ (0 : Int) < (T.length : Int) := by omega
            go_wp2_with fail
            go_meet
            exact ⟨T, rfl, hTl, HB⟩
          have i0 : (0 : Int) < (T.length : Int) := by omega
          have hxT := str_at h0
          obtain ⟨x, hxx⟩ : ∃ x, T[0] = x := ⟨_, rfl⟩
          rw [hxx] at hxT
          by_cases hxq : x = q
          case pos =>
            have k1 : ((x.toNat : Int) != (q.toNat : Int)) = false := neF (by rw [hxq])
            clear hxq hxx
            go_wp2_with fail
            go_meet
            exact ⟨T, rfl, hTl, HB⟩
          have k1 : ((x.toNat : Int) != (q.toNat : Int)) = true := neT (fun e => hxq (UInt8.toNat_inj.1 (by omega)))
          have HU := Lib.hid (uqChar T q wr (by omega) h0 (by rw [hxx]; exact hxq) (HL0.out.below HB.out))
          clear hxq hxx
          go_wp2_with fail
          refine HU.out.mono ?_
          rintro e w1 ⟨hr, hb⟩
          have HB1 := Lib.hid (below_trans HB.out hb)
          skip
          clear HU
          have hE1 : w1.cell? ⟨0, 0, none⟩ = some (.iface ty p) := (HB1.out.cell (World.block_lt_of_cell? w _ hE)).trans hE
          clear hb
          rcases hr with ⟨v, mb, t, ty2, p2, rfl⟩ | ⟨v, mb, t, rfl, htl, hmb⟩
          · by_cases c10 : x.toNat = 10
            · have k2 : ((x.toNat : Int) == 10) = true := eqT (by omega)
              clear c10
              go_wp2_with fail
              go_region
              all_goals
                go_wp2_with fail
                go_ret3
                exact UnP.err HB1.out.drew
            · have k2 : ((x.toNat : Int) == 10) = false := eqF (by omega)
              clear c10
              go_wp2_with fail
              go_region
              all_goals
                go_wp2_with fail
                go_ret3
                exact UnP.err HB1.out.drew
          · by_cases c10 : x.toNat = 10
            · have k2 : ((x.toNat : Int) == 10) = true := eqT (by omega)
              clear c10 hmb
              go_wp2_with fail
              go_region
              all_goals
                go_wp2_with fail
                go_ret3
                exact UnP.err HB1.out.drew
            · have k2 : ((x.toNat : Int) == 10) = false := eqF (by omega)
              clear c10
              clear hmb
              go_wp2_with fail
              go_roundw
              case rel => exact ⟨t, rfl, by omega, HB1⟩
              case measure => rw [strLen_mk, strLen_mk]; omega
      case rest =>
        obtain ⟨T, rfl, hTl, HB⟩ := hcut
        obtain ⟨wr, rfl⟩ : ∃ W, W = wc := ⟨_, rfl⟩
        have hE1 : wr.cell? ⟨0, 0, none⟩ = some (.iface ty p) := (HB.out.cell (World.block_lt_of_cell? w _ hE)).trans hE
        have hszT := size_mk T
        have hTm : T.length ≤ 100000 := by have := HLL.out; omega
        by_cases h0 : 0 < T.length
        case neg =>
          have i0 : ¬ (0 : Int) < (T.length : Int) := by omega
          go_wp2_with fail
          go_region
          all_goals
            go_wp2_with fail
            go_ret3
            exact UnP.err HB.out.drew
        have i0 : (0 : Int) < (T.length : Int) := by omega
        have hxT := str_at h0
        obtain ⟨x, hxx⟩ : ∃ x, T[0] = x := ⟨_, rfl⟩
        rw [hxx] at hxT
        by_cases hxq : x = q
        case neg =>
          have k1 : ((x.toNat : Int) == (q.toNat : Int)) = false := eqF (fun e => hxq (UInt8.toNat_inj.1 (by omega)))
          clear hxq hxx
          go_wp2_with fail
          go_region
          all_goals
            go_wp2_with fail
            go_ret3
            exact UnP.err HB.out.drew
        have k1 : ((x.toNat : Int) == (q.toNat : Int)) = true := eqT (by rw [hxq])
        obtain ⟨U, hU⟩ : ∃ U, T.drop 1 = U := ⟨_, rfl⟩
        have exU := extract_drop T 1
        rw [hU] at exU
        have hszU := size_mk U
        have hUl : U.length = T.length - 1 := by rw [← hU, List.length_drop]
        have j8 : (1 : Int) ≤ (T.length : Int) := by omega
        clear hxq hxx hU
        obtain ⟨m, hm⟩ : ∃ m, m = l.length - U.length := ⟨_, rfl⟩
        have em2 : (l.length : Int) - (U.length : Int) = (m : Int) := by omega
        have exM := extract_to l m
        have j9 : (m : Int) ≤ (l.length : Int) := by omega
        have HM := Lib.hid (show m ≤ l.length from by omega)
        clear hUl hm
        go_wp2_with fail
        go_ret3
        exact UnP.ok HB.out (by rw [List.length_take]; omega) (fun _ => ⟨m, HM.out, rfl⟩)

end Go.Proofs.YtpkpacgmmhjfpaaDoor
