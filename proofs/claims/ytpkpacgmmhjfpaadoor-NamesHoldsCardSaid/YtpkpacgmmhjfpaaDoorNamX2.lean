/- The library's unquote, that does not unescape, at strings in quotes. -/
import Derived.Test.YtpkpacgmmhjfpaaDoorNamX
namespace Go.Proofs.YtpkpacgmmhjfpaaDoor
open Go.RowKit

set_option maxRecDepth 100000 in
set_option maxHeartbeats 16000000 in
theorem unqXfalse (l x R : List UInt8) (q : UInt8) (i : Nat) (w : World) (hl : l.length ≤ 100000) (hlq : l = quoteN x ++ R) (h2 : 2 ≤ l.length) (hq0 : l[0] = q) (hq : q.toNat = 34) (hi : Lib.indexByte (l.drop 1) q = (i : Int)) (hL : LaidOK w) :
    Calls Tryd.prog 47 #[.string ⟨l.toArray⟩, .bool false] w (OneB (.tuple #[.string ⟨(quoteN x).toArray⟩, .string ⟨R.toArray⟩, .nilIface]) w) := by
  obtain ⟨ti0, hi0, hz0, hz1, hz2⟩ := info_parts infoB
  have hsz := size_mk l
  have HL0 := Lib.hid hL
  obtain ⟨ty, p, hE⟩ := hL.2
  have hx := str_at (show 0 < l.length by omega)
  rw [hq0] at hx
  have j0 : ¬ (l.length : Int) < 2 := by omega
  have j1 : (0 : Int) < (l.length : Int) := by omega
  have j2 : (1 : Int) ≤ (l.length : Int) := by omega
  have k96 : ((q.toNat : Int) == 96) = false := eqF (by omega)
  have k34 : ((q.toNat : Int) == 34) = true := eqT (by omega)
  have k39 : ((q.toNat : Int) == 39) = false := eqF (by omega)
  obtain ⟨T1, hT1⟩ : ∃ T, l.drop 1 = T := ⟨_, rfl⟩
  have ex1 := extract_drop l 1
  rw [hT1] at ex1 hi
  have hil : i < T1.length := (indexByte_some hi).1
  have hT1l : T1.length = l.length - 1 := by rw [← hT1, List.length_drop]
  obtain ⟨e, he⟩ : ∃ e, e = i + 2 := ⟨_, rfl⟩
  obtain ⟨e1, he1⟩ : ∃ e1, e1 = i + 1 := ⟨_, rfl⟩
  have em : (i : Int) + 2 = (e : Int) := by omega
  have em1 : (e : Int) - 1 = (e1 : Int) := by omega
  have j3 : ¬ (i : Int) < 0 := by omega
  have j4 : (e : Int) ≤ (l.length : Int) := by omega
  have j5 : (1 : Int) ≤ (e1 : Int) := by omega
  have j6 : (e1 : Int) ≤ (e : Int) := by omega
  have j7 : (e1 : Int) ≤ (l.length : Int) := by omega
  obtain ⟨E, hE0⟩ : ∃ E, l.take e = E := ⟨_, rfl⟩
  have exE := extract_to l e
  rw [hE0] at exE
  have hEl : E.length = e := by rw [← hE0, List.length_take]; omega
  have hszE : (ByteArray.mk E.toArray).size = e := by rw [size_mk, hEl]
  obtain ⟨V, hV⟩ : ∃ V, (l.drop 1).take (e1 - 1) = V := ⟨_, rfl⟩
  have exV := extract_mid l 1 e1
  rw [hV] at exV
  have hVE : (E.drop 1).take (e1 - 1) = V := by
    rw [← hE0, ← hV, List.drop_take, List.take_take]
    congr 1
    omega
  have exV2 := extract_mid E 1 e1
  rw [hVE] at exV2
  obtain ⟨Rr, hRr⟩ : ∃ R, l.drop e = R := ⟨_, rfl⟩
  have exR := extract_drop l e
  rw [hRr] at exR
  have eq34 : q = 34 := UInt8.toNat_inj.1 hq
  have HT0 := Lib.hid (show T1 = x.flatMap oneN ++ 34 :: R from by rw [← hT1, hlq]; simp [quoteN])
  have HFast := Lib.hid (show hasC E 92 = false → Lib.validD V = true ∧ ByteArray.mk V.toArray = ⟨x.toArray⟩ ∧ ByteArray.mk E.toArray = ⟨(quoteN x).toArray⟩ ∧ ByteArray.mk Rr.toArray = ⟨R.toArray⟩ from by
    intro h
    have h92 := hasC_false h
    have e0 : l = 34 :: T1 := by rw [HT0.out, hlq]; simp [quoteN]
    have hE2 : E = 34 :: T1.take (i + 1) := by rw [← hE0, he, e0]; rfl
    have h3 : (92 : UInt8) ∉ (x.flatMap oneN ++ 34 :: R).take i := fun hm => h92 (by
      rw [hE2, HT0.out]
      refine List.mem_cons_of_mem _ ?_
      rw [List.take_add_one]
      exact List.mem_append_left _ hm)
    rw [HT0.out, eq34] at hi
    obtain ⟨g1, g2, g3⟩ := quote_plain x R i hi h3
    have eV : V = x := by
      rw [← hV, hT1, HT0.out, g1, he1, show i + 1 - 1 = x.length by omega, List.take_left]
    have eQ : quoteN x = 34 :: (x ++ [34]) := by unfold quoteN; rw [g1]
    refine ⟨by rw [eV]; exact valid_ascii x g3, by rw [eV], ?_, ?_⟩
    · rw [← hE0, he, hlq, eQ, List.take_left' (by simp; omega)]
    · rw [← hRr, he, hlq, eQ, List.drop_left' (by simp; omega)])
  have HQX := Lib.hid (show l = quoteN x ++ R from hlq)
  have HVl := Lib.hid (show V.length ≤ l.length from by rw [← hV, List.length_take, List.length_drop]; omega)
  have HEE := Lib.hid (show e ≤ l.length ∧ E = l.take e ∧ e = i + 2 ∧ e1 = i + 1 ∧ E.length = e ∧ V.length = i from ⟨by omega, hE0.symm, he, he1, hEl, by rw [← hV, List.length_take, List.length_drop]; omega⟩)
  have HI := sIndex T1 q w
  rw [hi] at HI
  have HIH := Lib.hid HI
  have HT1 := Lib.hid (show T1.length = l.length - 1 from hT1l)
  have HLL := Lib.hid (show l.length ≤ 100000 ∧ 2 ≤ l.length from ⟨hl, h2⟩)
  have h8 := toNat8 q
  have HQ := Lib.hid hq
  clear hlq eq34 hq HI hi hil hT1 hT1l he he1 hE0 hEl hV hVE hRr hq0 hL
  go_enter Tryd.func47, Tryd.ntmps47
  go_wp2_with fail
  refine HIH.out.mono ?_
  rintro e w1 ⟨rfl, rfl⟩
  clear HIH
  go_upto_region 25 with fail
  go_cut [99] (fun t wx => ∃ v : Bool, t = .bool v ∧ w = wx ∧ (v = true → hasC E 92 = false))
  case first =>
    have HC1 := Lib.hid (sContains E 92 w)
    have HC2 := Lib.hid (sContains E 10 w)
    go_wp2_with fail
    refine HC1.out.mono ?_
    rintro e w1 ⟨rfl, rfl⟩
    cases h92 : hasC E 92 with
    | true =>
      clear h92
      go_wp2_with fail
      go_meet
      exact ⟨_, rfl, rfl, fun e => by cases e⟩
    | false =>
      have H92 := Lib.hid h92
      clear h92
      go_wp2_with fail
      refine HC2.out.mono ?_
      rintro e w1 ⟨rfl, rfl⟩
      cases hasC E 10 with
      | true =>
        go_wp2_with fail
        go_meet
        exact ⟨_, rfl, rfl, fun _ => H92.out⟩
      | false =>
        go_wp2_with fail
        go_meet
        exact ⟨_, rfl, rfl, fun _ => H92.out⟩
  case rest =>
    obtain ⟨v, rfl, hw, hv92⟩ := hcut
    subst hw
    have HV92 := Lib.hid hv92
    clear hv92
    go_upto_if 99 with fail
    go_cut [4] (fun u wx => Hid (Below w.heap.size w wx))
    case first =>
      cases v with
      | false =>
        go_wp2_with fail
        go_meet
        exact Below.refl _ _
      | true =>
        have HVS := Lib.hid (validStr V w (by have := HVl.out; have := HLL.out; omega) HL0.out)
        go_wp2_with fail
        refine HVS.out.mono ?_
        rintro e w1 ⟨rfl, hb⟩
        have HB1 := Lib.hid hb
        clear hb HVS
        have hfa := HFast.out (HV92.out (by trivial))
        rw [hfa.1]
        have HFA := Lib.hid hfa.2
        clear hfa
        go_wp2_with fail
        go_region
        all_goals
          go_wp2_with fail
          go_ret3
          exact un3 HFA.out.2.1 HFA.out.2.2 HB1.out.drew
    case rest =>
      have HB0 := hcut
      obtain ⟨wq, rfl⟩ : ∃ W, W = wc := ⟨_, rfl⟩
      go_upto_block 5 with fail
      go_cut [0] (fun s0 wx => ∃ (T : List UInt8), s0 = .string ⟨T.toArray⟩ ∧ T.length ≤ l.length ∧ Hid (Below w.heap.size w wx) ∧ Hid (T = 34 :: R))
      case first =>
        go_wp2_with fail
        go_loopw [0] (fun s0 wr => ∃ (T : List UInt8), s0 = .string ⟨T.toArray⟩ ∧ T.length ≤ l.length ∧ Hid (Below w.heap.size w wr) ∧ Hid (∃ ys, QTo x R ys T)) (fun s0 _ => strLen s0)
        case atStart => exact ⟨T1, rfl, by have := HT1.out; omega, HB0, ⟨[], ⟨x, rfl, HT0.out⟩⟩⟩
        case round =>
          obtain ⟨T, rfl, hTl, HB, HX⟩ := hrel
          have hszT := size_mk T
          have hTm : T.length ≤ 100000 := by have := HLL.out; omega
          obtain ⟨ys, z, hz1', hz2'⟩ := HX.out
          have eq34 : q = 34 := UInt8.toNat_inj.1 HQ.out
          cases z with
          | nil =>
            rw [List.flatMap_nil, List.nil_append] at hz2'
            have h0 : 0 < T.length := by rw [hz2']; simp
            have i0 : (0 : Int) < (T.length : Int) := by omega
            have hxT := str_at h0
            have hxx : T[0] = q := by subst hz2'; rw [eq34]; rfl
            rw [hxx] at hxT
            have k1 : ((q.toNat : Int) != (q.toNat : Int)) = false := neF rfl
            have HXE := Lib.hid (show T = 34 :: R from hz2')
            clear hxx hz1' hz2' eq34
            go_wp2_with fail
            go_meet
            exact ⟨T, rfl, hTl, HB, HXE⟩
          | cons c r =>
            obtain ⟨t, ht⟩ : ∃ t, r.flatMap oneN ++ 34 :: R = t := ⟨_, rfl⟩
            have hT2 : T = oneN c ++ t := by rw [hz2', ← ht]; simp
            obtain ⟨x0, tt, hbt, h34, h10, _⟩ := oneN_head c t
            have h0 : 0 < T.length := by rw [hT2, hbt]; simp
            have i0 : (0 : Int) < (T.length : Int) := by omega
            have hxT := str_at h0
            have hxx : T[0] = x0 := by
              have : T = x0 :: tt := by rw [hT2, hbt]
              subst this; rfl
            rw [hxx] at hxT
            have k1 : ((x0.toNat : Int) != (q.toNat : Int)) = true := neT (by rw [eq34]; show (x0.toNat : Int) ≠ 34; omega)
            have k2 : ((x0.toNat : Int) == 10) = false := eqF (by omega)
            have hol := oneN_len c
            have htl : t.length < T.length := by rw [hT2, List.length_append]; omega
            have HU := Lib.hid (show Calls Tryd.prog 57 #[.string ⟨T.toArray⟩, .int .u8 (q.toNat : Int)] wr (OneB (.tuple #[.int .i32 (c.toNat : Int), .bool false, .string ⟨t.toArray⟩, .nilIface]) wr) from by
              rw [hT2, eq34]
              exact uqExact c t wr (by rw [← hT2]; omega) (HL0.out.below HB.out))
            have HX2 := Lib.hid (show QTo x R (ys ++ [c]) t from ⟨r, by rw [hz1']; simp, ht.symm⟩)
            have hc8 := toNat8 c
            clear hxx hbt hT2 ht hz1' hz2' eq34 hol h34 h10
            go_wp2_with fail
            refine HU.out.mono ?_
            rintro e w1 ⟨rfl, hb⟩
            have HB1 := Lib.hid (below_trans HB.out hb)
            clear hb HU
            go_wp2_with fail
            go_roundw
            case rel => exact ⟨t, rfl, by omega, HB1, ⟨_, HX2.out⟩⟩
            case measure => rw [strLen_mk, strLen_mk]; omega
      case rest =>
        obtain ⟨T, rfl, hTl, HB, HX⟩ := hcut
        obtain ⟨wr, rfl⟩ : ∃ W, W = wc := ⟨_, rfl⟩
        have hszT := size_mk T
        have hTm : T.length ≤ 100000 := by have := HLL.out; omega
        have eq34 : q = 34 := UInt8.toNat_inj.1 HQ.out
        have hT0 := HX.out
        have h0 : 0 < T.length := by rw [hT0]; simp
        have i0 : (0 : Int) < (T.length : Int) := by omega
        have hxT := str_at h0
        have hxx : T[0] = q := by rw [eq34]; subst hT0; rfl
        rw [hxx] at hxT
        have k1 : ((q.toNat : Int) == (q.toNat : Int)) = true := eqT rfl
        have exU := extract_drop T 1
        rw [show T.drop 1 = R from by rw [hT0]; rfl] at exU
        have hszU := size_mk R
        have j8 : (1 : Int) ≤ (T.length : Int) := by omega
        have hlr : l.length = (quoteN x).length + R.length := by rw [HQX.out, List.length_append]
        obtain ⟨m, hm⟩ : ∃ m, m = l.length - R.length := ⟨_, rfl⟩
        have em2 : (l.length : Int) - (R.length : Int) = (m : Int) := by omega
        have exM := extract_to l m
        rw [show l.take m = quoteN x from by rw [HQX.out, hm, hlr, Nat.add_sub_cancel, List.take_left]] at exM
        have j9 : (m : Int) ≤ (l.length : Int) := by omega
        clear hxx hT0 eq34 hlr hm
        go_wp2_with fail
        go_ret3
        exact un3 rfl rfl HB.out

end Go.Proofs.YtpkpacgmmhjfpaaDoor
