/- The law JoinWithin, from what known() is (written by mkLW.py). -/
import Derived.Test.YtfjbocipjmpogaaGreatMBO
import Derived.Test.YtfjbocipjmpogaaGreatMBK
import Derived.Test.YtfjbocipjmpogaaGreatMBP
namespace Go.Proofs.YtfjbocipjmpogaaGreat
open Go.RowKit

set_option maxRecDepth 100000 in
set_option maxHeartbeats 8000000 in
theorem lawJoinWithin11 (KN : KnownJ) (a b : CaV) (w : World) (ha : CaOK w a) (hb : CaOK w b) :
    Calls Tryz.prog 5 #[mkC a, mkC b] w (TrueB w) := by
  have K0a := KK.new w a ha
  have K0b := KK.push (L := [(w.heap.size, a)]) K0a b (CaOK.below hb K0a.bel) (w.heap.size + 1) (by simp)
  have K0 := Lib.hid (show KK w [(w.heap.size, a), (w.heap.size + 1, b)] _ from K0b)
  have HKN := Lib.hid KN
  clear KN ha hb K0a K0b
  obtain ⟨la, hla⟩ : ∃ l, lightK a = l := ⟨_, rfl⟩
  have HLa := Lib.hid hla
  obtain ⟨va, hva⟩ : ∃ v, validK a.ca = v := ⟨_, rfl⟩
  have HVa := Lib.hid hva
  clear hla hva
  have HSa := Lib.hid (show la = true → SizeK 1 a.ca from fun h => lightK_size (HLa.out.trans h))
  obtain ⟨lb, hlb⟩ : ∃ l, lightK b = l := ⟨_, rfl⟩
  have HLb := Lib.hid hlb
  obtain ⟨vb, hvb⟩ : ∃ v, validK b.ca = v := ⟨_, rfl⟩
  have HVb := Lib.hid hvb
  clear hlb hvb
  have HSb := Lib.hid (show lb = true → SizeK 1 b.ca from fun h => lightK_size (HLb.out.trans h))
  cases la with
  | false =>
    go_enter Tryz.func5, Tryz.ntmps5
    go_upto_region 1 with fail
    generalize World.alloc (World.alloc w _) _ = w2 at K0 ⊢
    obtain ⟨x1a, x1b, x1c, x1l⟩ := K0.out.cells4 (g := w.heap.size) (c := a) (by simp)
    obtain ⟨x2a, x2b, x2c, x2l⟩ := K0.out.cells4 (g := w.heap.size + 1) (c := b) (by simp)
    go_wp2_with fail
    refine (lawLight10 a false w2 (K0.out.ok (g := w.heap.size) (c := a) (by simp)) HLa.out).mono ?_
    rintro e w3 ⟨rfl, hb⟩
    have K1 := Lib.hid (show KK w [(w.heap.size, a), (w.heap.size + 1, b)] w3 from K0.out.next hb)
    clear hb K0 x1a x1b x1c x1l x2a x2b x2c x2l
    obtain ⟨x3a, x3b, x3c, x3l⟩ := K1.out.cells4 (g := w.heap.size) (c := a) (by simp)
    obtain ⟨x4a, x4b, x4c, x4l⟩ := K1.out.cells4 (g := w.heap.size + 1) (c := b) (by simp)
    go_wp2_with fail
    refine (HKN.out _).mono ?_
    rintro e wk ⟨rfl, hb⟩
    have KC := Lib.hid (below_trans K1.out.bel hb)
    clear hb K1 x3a x3b x3c x3l x4a x4b x4c x4l
    go_wp2_with fail
    go_ret
    exact OneB.bool rfl KC.out
  | true =>
    cases lb with
    | false =>
      go_enter Tryz.func5, Tryz.ntmps5
      go_upto_region 1 with fail
      generalize World.alloc (World.alloc w _) _ = w2 at K0 ⊢
      obtain ⟨x1a, x1b, x1c, x1l⟩ := K0.out.cells4 (g := w.heap.size) (c := a) (by simp)
      obtain ⟨x2a, x2b, x2c, x2l⟩ := K0.out.cells4 (g := w.heap.size + 1) (c := b) (by simp)
      go_wp2_with fail
      refine (lawLight10 a true w2 (K0.out.ok (g := w.heap.size) (c := a) (by simp)) HLa.out).mono ?_
      rintro e w3 ⟨rfl, hb⟩
      have K1 := Lib.hid (show KK w [(w.heap.size, a), (w.heap.size + 1, b)] w3 from K0.out.next hb)
      clear hb K0 x1a x1b x1c x1l x2a x2b x2c x2l
      obtain ⟨x3a, x3b, x3c, x3l⟩ := K1.out.cells4 (g := w.heap.size) (c := a) (by simp)
      obtain ⟨x4a, x4b, x4c, x4l⟩ := K1.out.cells4 (g := w.heap.size + 1) (c := b) (by simp)
      go_wp2_with fail
      refine (lawLight10 b false w3 (K1.out.ok (g := w.heap.size + 1) (c := b) (by simp)) HLb.out).mono ?_
      rintro e w4 ⟨rfl, hb⟩
      have K2 := Lib.hid (show KK w [(w.heap.size, a), (w.heap.size + 1, b)] w4 from K1.out.next hb)
      clear hb K1 x3a x3b x3c x3l x4a x4b x4c x4l
      obtain ⟨x5a, x5b, x5c, x5l⟩ := K2.out.cells4 (g := w.heap.size) (c := a) (by simp)
      obtain ⟨x6a, x6b, x6c, x6l⟩ := K2.out.cells4 (g := w.heap.size + 1) (c := b) (by simp)
      go_wp2_with fail
      refine (HKN.out _).mono ?_
      rintro e wk ⟨rfl, hb⟩
      have KC := Lib.hid (below_trans K2.out.bel hb)
      clear hb K2 x5a x5b x5c x5l x6a x6b x6c x6l
      go_wp2_with fail
      go_ret
      exact OneB.bool rfl KC.out
    | true =>
      cases va with
      | false =>
        go_enter Tryz.func5, Tryz.ntmps5
        go_upto_region 1 with fail
        generalize World.alloc (World.alloc w _) _ = w2 at K0 ⊢
        obtain ⟨x1a, x1b, x1c, x1l⟩ := K0.out.cells4 (g := w.heap.size) (c := a) (by simp)
        obtain ⟨x2a, x2b, x2c, x2l⟩ := K0.out.cells4 (g := w.heap.size + 1) (c := b) (by simp)
        go_wp2_with fail
        refine (lawLight10 a true w2 (K0.out.ok (g := w.heap.size) (c := a) (by simp)) HLa.out).mono ?_
        rintro e w3 ⟨rfl, hb⟩
        have K1 := Lib.hid (show KK w [(w.heap.size, a), (w.heap.size + 1, b)] w3 from K0.out.next hb)
        clear hb K0 x1a x1b x1c x1l x2a x2b x2c x2l
        obtain ⟨x3a, x3b, x3c, x3l⟩ := K1.out.cells4 (g := w.heap.size) (c := a) (by simp)
        obtain ⟨x4a, x4b, x4c, x4l⟩ := K1.out.cells4 (g := w.heap.size + 1) (c := b) (by simp)
        go_wp2_with fail
        refine (lawLight10 b true w3 (K1.out.ok (g := w.heap.size + 1) (c := b) (by simp)) HLb.out).mono ?_
        rintro e w4 ⟨rfl, hb⟩
        have K2 := Lib.hid (show KK w [(w.heap.size, a), (w.heap.size + 1, b)] w4 from K1.out.next hb)
        clear hb K1 x3a x3b x3c x3l x4a x4b x4c x4l
        obtain ⟨x5a, x5b, x5c, x5l⟩ := K2.out.cells4 (g := w.heap.size) (c := a) (by simp)
        obtain ⟨x6a, x6b, x6c, x6l⟩ := K2.out.cells4 (g := w.heap.size + 1) (c := b) (by simp)
        go_wp2_with fail
        refine (rvalid_j a false 1 w4 (K2.out.ok (g := w.heap.size) (c := a) (by simp)) (HSa.out (by simp)) (by omega) HVa.out).mono ?_
        rintro e w5 ⟨rfl, hb⟩
        have K3 := Lib.hid (show KK w [(w.heap.size, a), (w.heap.size + 1, b)] w5 from K2.out.next hb)
        clear hb K2 x5a x5b x5c x5l x6a x6b x6c x6l
        obtain ⟨x7a, x7b, x7c, x7l⟩ := K3.out.cells4 (g := w.heap.size) (c := a) (by simp)
        obtain ⟨x8a, x8b, x8c, x8l⟩ := K3.out.cells4 (g := w.heap.size + 1) (c := b) (by simp)
        have HO := Lib.hid (show okJ a.ca b.ca = false from by unfold okJ; rw [HVa.out]; rfl)
        go_wp2_with fail
        refine (within_bad a b 1 1 _ (K3.out.ok (g := w.heap.size) (c := a) (by simp)) (K3.out.ok (g := w.heap.size + 1) (c := b) (by simp)) (HSa.out (by simp)) (HSb.out (by simp)) (by omega) (by omega) HO.out).mono ?_
        rintro e w6 ⟨rfl, hb⟩
        have K4 := Lib.hid (show KK w [(w.heap.size, a), (w.heap.size + 1, b)] w6 from K3.out.next hb)
        clear hb K3 x7a x7b x7c x7l x8a x8b x8c x8l
        obtain ⟨x9a, x9b, x9c, x9l⟩ := K4.out.cells4 (g := w.heap.size) (c := a) (by simp)
        obtain ⟨x10a, x10b, x10c, x10l⟩ := K4.out.cells4 (g := w.heap.size + 1) (c := b) (by simp)
        go_wp2_with fail
        refine (fits_bad a b 1 1 _ (K4.out.ok (g := w.heap.size) (c := a) (by simp)) (K4.out.ok (g := w.heap.size + 1) (c := b) (by simp)) (HSa.out (by simp)) (HSb.out (by simp)) (by omega) (by omega) HO.out).mono ?_
        rintro e w7 ⟨rfl, hb⟩
        have K5 := Lib.hid (show KK w [(w.heap.size, a), (w.heap.size + 1, b)] w7 from K4.out.next hb)
        clear hb K4 x9a x9b x9c x9l x10a x10b x10c x10l
        obtain ⟨x11a, x11b, x11c, x11l⟩ := K5.out.cells4 (g := w.heap.size) (c := a) (by simp)
        obtain ⟨x12a, x12b, x12c, x12l⟩ := K5.out.cells4 (g := w.heap.size + 1) (c := b) (by simp)
        go_wp2_with fail
        refine (HKN.out _).mono ?_
        rintro e wk ⟨rfl, hb⟩
        have KC := Lib.hid (below_trans K5.out.bel hb)
        clear hb K5 x11a x11b x11c x11l x12a x12b x12c x12l
        go_wp2_with fail
        go_ret
        exact OneB.bool rfl KC.out
      | true =>
        cases vb with
        | false =>
          go_enter Tryz.func5, Tryz.ntmps5
          go_upto_region 1 with fail
          generalize World.alloc (World.alloc w _) _ = w2 at K0 ⊢
          obtain ⟨x1a, x1b, x1c, x1l⟩ := K0.out.cells4 (g := w.heap.size) (c := a) (by simp)
          obtain ⟨x2a, x2b, x2c, x2l⟩ := K0.out.cells4 (g := w.heap.size + 1) (c := b) (by simp)
          go_wp2_with fail
          refine (lawLight10 a true w2 (K0.out.ok (g := w.heap.size) (c := a) (by simp)) HLa.out).mono ?_
          rintro e w3 ⟨rfl, hb⟩
          have K1 := Lib.hid (show KK w [(w.heap.size, a), (w.heap.size + 1, b)] w3 from K0.out.next hb)
          clear hb K0 x1a x1b x1c x1l x2a x2b x2c x2l
          obtain ⟨x3a, x3b, x3c, x3l⟩ := K1.out.cells4 (g := w.heap.size) (c := a) (by simp)
          obtain ⟨x4a, x4b, x4c, x4l⟩ := K1.out.cells4 (g := w.heap.size + 1) (c := b) (by simp)
          go_wp2_with fail
          refine (lawLight10 b true w3 (K1.out.ok (g := w.heap.size + 1) (c := b) (by simp)) HLb.out).mono ?_
          rintro e w4 ⟨rfl, hb⟩
          have K2 := Lib.hid (show KK w [(w.heap.size, a), (w.heap.size + 1, b)] w4 from K1.out.next hb)
          clear hb K1 x3a x3b x3c x3l x4a x4b x4c x4l
          obtain ⟨x5a, x5b, x5c, x5l⟩ := K2.out.cells4 (g := w.heap.size) (c := a) (by simp)
          obtain ⟨x6a, x6b, x6c, x6l⟩ := K2.out.cells4 (g := w.heap.size + 1) (c := b) (by simp)
          go_wp2_with fail
          refine (rvalid_j a true 1 w4 (K2.out.ok (g := w.heap.size) (c := a) (by simp)) (HSa.out (by simp)) (by omega) HVa.out).mono ?_
          rintro e w5 ⟨rfl, hb⟩
          have K3 := Lib.hid (show KK w [(w.heap.size, a), (w.heap.size + 1, b)] w5 from K2.out.next hb)
          clear hb K2 x5a x5b x5c x5l x6a x6b x6c x6l
          obtain ⟨x7a, x7b, x7c, x7l⟩ := K3.out.cells4 (g := w.heap.size) (c := a) (by simp)
          obtain ⟨x8a, x8b, x8c, x8l⟩ := K3.out.cells4 (g := w.heap.size + 1) (c := b) (by simp)
          go_wp2_with fail
          refine (rvalid_j b false 1 w5 (K3.out.ok (g := w.heap.size + 1) (c := b) (by simp)) (HSb.out (by simp)) (by omega) HVb.out).mono ?_
          rintro e w6 ⟨rfl, hb⟩
          have K4 := Lib.hid (show KK w [(w.heap.size, a), (w.heap.size + 1, b)] w6 from K3.out.next hb)
          clear hb K3 x7a x7b x7c x7l x8a x8b x8c x8l
          obtain ⟨x9a, x9b, x9c, x9l⟩ := K4.out.cells4 (g := w.heap.size) (c := a) (by simp)
          obtain ⟨x10a, x10b, x10c, x10l⟩ := K4.out.cells4 (g := w.heap.size + 1) (c := b) (by simp)
          have HO := Lib.hid (show okJ a.ca b.ca = false from by unfold okJ; rw [HVa.out, HVb.out]; rfl)
          go_wp2_with fail
          refine (within_bad a b 1 1 _ (K4.out.ok (g := w.heap.size) (c := a) (by simp)) (K4.out.ok (g := w.heap.size + 1) (c := b) (by simp)) (HSa.out (by simp)) (HSb.out (by simp)) (by omega) (by omega) HO.out).mono ?_
          rintro e w7 ⟨rfl, hb⟩
          have K5 := Lib.hid (show KK w [(w.heap.size, a), (w.heap.size + 1, b)] w7 from K4.out.next hb)
          clear hb K4 x9a x9b x9c x9l x10a x10b x10c x10l
          obtain ⟨x11a, x11b, x11c, x11l⟩ := K5.out.cells4 (g := w.heap.size) (c := a) (by simp)
          obtain ⟨x12a, x12b, x12c, x12l⟩ := K5.out.cells4 (g := w.heap.size + 1) (c := b) (by simp)
          go_wp2_with fail
          refine (fits_bad a b 1 1 _ (K5.out.ok (g := w.heap.size) (c := a) (by simp)) (K5.out.ok (g := w.heap.size + 1) (c := b) (by simp)) (HSa.out (by simp)) (HSb.out (by simp)) (by omega) (by omega) HO.out).mono ?_
          rintro e w8 ⟨rfl, hb⟩
          have K6 := Lib.hid (show KK w [(w.heap.size, a), (w.heap.size + 1, b)] w8 from K5.out.next hb)
          clear hb K5 x11a x11b x11c x11l x12a x12b x12c x12l
          obtain ⟨x13a, x13b, x13c, x13l⟩ := K6.out.cells4 (g := w.heap.size) (c := a) (by simp)
          obtain ⟨x14a, x14b, x14c, x14l⟩ := K6.out.cells4 (g := w.heap.size + 1) (c := b) (by simp)
          go_wp2_with fail
          refine (HKN.out _).mono ?_
          rintro e wk ⟨rfl, hb⟩
          have KC := Lib.hid (below_trans K6.out.bel hb)
          clear hb K6 x13a x13b x13c x13l x14a x14b x14c x14l
          go_wp2_with fail
          go_ret
          exact OneB.bool rfl KC.out
        | true =>
            have Ha := Lib.hid (HSa.out (by simp))
            have Hb := Lib.hid (HSb.out (by simp))
            go_enter Tryz.func5, Tryz.ntmps5
            go_upto_region 1 with fail
            generalize World.alloc (World.alloc w _) _ = w2 at K0 ⊢
            obtain ⟨x1a, x1b, x1c, x1l⟩ := K0.out.cells4 (g := w.heap.size) (c := a) (by simp)
            obtain ⟨x2a, x2b, x2c, x2l⟩ := K0.out.cells4 (g := w.heap.size + 1) (c := b) (by simp)
            go_wp2_with fail
            refine (lawLight10 a true w2 (K0.out.ok (g := w.heap.size) (c := a) (by simp)) HLa.out).mono ?_
            rintro e w3 ⟨rfl, hb⟩
            have K1 := Lib.hid (show KK w [(w.heap.size, a), (w.heap.size + 1, b)] w3 from K0.out.next hb)
            clear hb K0 x1a x1b x1c x1l x2a x2b x2c x2l
            obtain ⟨x3a, x3b, x3c, x3l⟩ := K1.out.cells4 (g := w.heap.size) (c := a) (by simp)
            obtain ⟨x4a, x4b, x4c, x4l⟩ := K1.out.cells4 (g := w.heap.size + 1) (c := b) (by simp)
            go_wp2_with fail
            refine (lawLight10 b true w3 (K1.out.ok (g := w.heap.size + 1) (c := b) (by simp)) HLb.out).mono ?_
            rintro e w4 ⟨rfl, hb⟩
            have K2 := Lib.hid (show KK w [(w.heap.size, a), (w.heap.size + 1, b)] w4 from K1.out.next hb)
            clear hb K1 x3a x3b x3c x3l x4a x4b x4c x4l
            obtain ⟨x5a, x5b, x5c, x5l⟩ := K2.out.cells4 (g := w.heap.size) (c := a) (by simp)
            obtain ⟨x6a, x6b, x6c, x6l⟩ := K2.out.cells4 (g := w.heap.size + 1) (c := b) (by simp)
            go_wp2_with fail
            refine (rvalid_j a true 1 w4 (K2.out.ok (g := w.heap.size) (c := a) (by simp)) (HSa.out (by simp)) (by omega) HVa.out).mono ?_
            rintro e w5 ⟨rfl, hb⟩
            have K3 := Lib.hid (show KK w [(w.heap.size, a), (w.heap.size + 1, b)] w5 from K2.out.next hb)
            clear hb K2 x5a x5b x5c x5l x6a x6b x6c x6l
            obtain ⟨x7a, x7b, x7c, x7l⟩ := K3.out.cells4 (g := w.heap.size) (c := a) (by simp)
            obtain ⟨x8a, x8b, x8c, x8l⟩ := K3.out.cells4 (g := w.heap.size + 1) (c := b) (by simp)
            go_wp2_with fail
            refine (rvalid_j b true 1 w5 (K3.out.ok (g := w.heap.size + 1) (c := b) (by simp)) (HSb.out (by simp)) (by omega) HVb.out).mono ?_
            rintro e w6 ⟨rfl, hb⟩
            have K4 := Lib.hid (show KK w [(w.heap.size, a), (w.heap.size + 1, b)] w6 from K3.out.next hb)
            clear hb K3 x7a x7b x7c x7l x8a x8b x8c x8l
            obtain ⟨x9a, x9b, x9c, x9l⟩ := K4.out.cells4 (g := w.heap.size) (c := a) (by simp)
            obtain ⟨x10a, x10b, x10c, x10l⟩ := K4.out.cells4 (g := w.heap.size + 1) (c := b) (by simp)
            obtain ⟨u, hu⟩ : ∃ u, withinK a.ca b.ca = u := ⟨_, rfl⟩
            obtain ⟨v, hv⟩ : ∃ v, withinK b.ca a.ca = v := ⟨_, rfl⟩
            obtain ⟨f, hf⟩ : ∃ f, fitsB a.ca b.ca = f := ⟨_, rfl⟩
            have HU := Lib.hid hu
            have HV := Lib.hid hv
            have HF := Lib.hid hf
            clear hu hv hf
            have C1 := Lib.hid fun p => refWithin11 a b 1 1 u (far w6 p) ((K4.out.far p).ok (g := w.heap.size) (c := a) (by simp)) ((K4.out.far p).ok (g := w.heap.size + 1) (c := b) (by simp)) Ha.out Hb.out (by omega) HVa.out HVb.out HU.out
            have C2 := Lib.hid fun p => within_j a b u 1 1 (far w6 p) ((K4.out.far p).ok (g := w.heap.size) (c := a) (by simp)) ((K4.out.far p).ok (g := w.heap.size + 1) (c := b) (by simp)) Ha.out Hb.out (by omega) (by omega) HVa.out HVb.out HU.out
            have C3 := Lib.hid fun p => refWithin11 b a 1 1 v (far w6 p) ((K4.out.far p).ok (g := w.heap.size + 1) (c := b) (by simp)) ((K4.out.far p).ok (g := w.heap.size) (c := a) (by simp)) Hb.out Ha.out (by omega) HVb.out HVa.out HV.out
            have C4 := Lib.hid fun p => within_j b a v 1 1 (far w6 p) ((K4.out.far p).ok (g := w.heap.size + 1) (c := b) (by simp)) ((K4.out.far p).ok (g := w.heap.size) (c := a) (by simp)) Hb.out Ha.out (by omega) (by omega) HVb.out HVa.out HV.out
            have C5 := Lib.hid fun p => refFits11 a b 1 1 f (far w6 p) ((K4.out.far p).ok (g := w.heap.size) (c := a) (by simp)) ((K4.out.far p).ok (g := w.heap.size + 1) (c := b) (by simp)) Ha.out Hb.out (by omega) HVa.out HF.out
            have C6 := Lib.hid fun p => fits_j a b f 1 1 (far w6 p) ((K4.out.far p).ok (g := w.heap.size) (c := a) (by simp)) ((K4.out.far p).ok (g := w.heap.size + 1) (c := b) (by simp)) Ha.out Hb.out (by omega) (by omega) HVa.out HVb.out HF.out
            have C7 := Lib.hid fun p => fits_j b a f 1 1 (far w6 p) ((K4.out.far p).ok (g := w.heap.size + 1) (c := b) (by simp)) ((K4.out.far p).ok (g := w.heap.size) (c := a) (by simp)) Hb.out Ha.out (by omega) (by omega) HVb.out HVa.out ((fitsB_comm HVb.out HVa.out).trans HF.out)
            have y0 := fun p => cell_far (p := p) x9l x9a
            have y1 := fun p => cell_far (p := p) x9l x9b
            have y2 := fun p => cell_far (p := p) x9l x9c
            have y4 := fun p => cell_far (p := p) x10l x10a
            have y5 := fun p => cell_far (p := p) x10l x10b
            have y6 := fun p => cell_far (p := p) x10l x10c
            clear HU HV HF
            go_wp2_with fail
            refine wp_region_far (by kernel_rfl) (by kernel_rfl) ?_
            repeat (go_big_quiet_step ((first | (go_at_call 21; with_reducible first | exact OneB.far (C1.out _) | exact OneB.far (C3.out _)) | (go_at_call 19; with_reducible first | exact OneB.far (C2.out _) | exact OneB.far (C4.out _)) | (go_at_call 22; exact OneB.far (C5.out _)) | (go_at_call 20; with_reducible first | exact OneB.far (C6.out _) | exact OneB.far (C7.out _)) | (go_at_call 9; exact OneB.far (HKN.out _)))))
            refine wpQuiet_nil ?_
            rintro _ ⟨p, rfl⟩
            have KC := Lib.hid (K4.out.far p).bel
            clear K4 C1 C2 C3 C4 C5 C6 C7 x9a x9b x9c x9l x10a x10b x10c x10l y0 y1 y2 y4 y5 y6
            go_wp2_with fail
            go_ret
            exact OneB.bool rfl KC.out

end Go.Proofs.YtfjbocipjmpogaaGreat
