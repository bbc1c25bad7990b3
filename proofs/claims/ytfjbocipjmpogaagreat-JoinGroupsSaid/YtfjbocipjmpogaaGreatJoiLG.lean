/- The law JoinGroups, from what known() is (written by mkLG.py). -/
import Derived.Test.YtfjbocipjmpogaaGreatMBO
namespace Go.Proofs.YtfjbocipjmpogaaGreat
open Go.RowKit

set_option maxRecDepth 100000 in
set_option maxHeartbeats 8000000 in
theorem lawJoinGroups11 (KN : KnownJ) (a b c : CaV) (w : World) (ha : CaOK w a) (hb : CaOK w b) (hc : CaOK w c) :
    Calls Tryz.prog 6 #[mkC a, mkC b, mkC c] w (TrueB w) := by
  have K0a := KK.new w a ha
  have K0b := KK.push (L := [(w.heap.size, a)]) K0a b (CaOK.below hb K0a.bel) (w.heap.size + 1) (by simp)
  have K0c := KK.push (L := [(w.heap.size, a), (w.heap.size + 1, b)]) K0b c (CaOK.below hc K0b.bel) (w.heap.size + 2) (by simp)
  have K0 := Lib.hid (show KK w [(w.heap.size, a), (w.heap.size + 1, b), (w.heap.size + 2, c)] _ from K0c)
  have HKN := Lib.hid KN
  clear KN ha hb hc K0a K0b K0c
  obtain ⟨la, hla⟩ : ∃ l, lightK a = l := ⟨_, rfl⟩
  have HLa := Lib.hid hla
  obtain ⟨va, hva⟩ : ∃ v, validK a.ca = v := ⟨_, rfl⟩
  have HVa := Lib.hid hva
  clear hla hva
  have HSa := Lib.hid (show la = true → SizeK 1 a.ca from fun h => lightK_size (HLa.out.trans h))
  obtain ⟨lb, hlb⟩ : ∃ l, lightK b = l := ⟨_, rfl⟩
  have HLb := Lib.hid hlb
  obtain ⟨vb, hvb⟩ : ∃ v, validK b.ca = v := ⟨_, rfl⟩
  have HVb := Lib.hid hvb
  clear hlb hvb
  have HSb := Lib.hid (show lb = true → SizeK 1 b.ca from fun h => lightK_size (HLb.out.trans h))
  obtain ⟨lc, hlc⟩ : ∃ l, lightK c = l := ⟨_, rfl⟩
  have HLc := Lib.hid hlc
  obtain ⟨vc, hvc⟩ : ∃ v, validK c.ca = v := ⟨_, rfl⟩
  have HVc := Lib.hid hvc
  clear hlc hvc
  have HSc := Lib.hid (show lc = true → SizeK 1 c.ca from fun h => lightK_size (HLc.out.trans h))
  cases la with
  | false =>
    go_enter Tryz.func6, Tryz.ntmps6
    go_upto_region 1 with fail
    generalize World.alloc (World.alloc (World.alloc w _) _) _ = w2 at K0 ⊢
    obtain ⟨x1a, x1b, x1c, x1l⟩ := K0.out.cells4 (g := w.heap.size) (c := a) (by simp)
    obtain ⟨x2a, x2b, x2c, x2l⟩ := K0.out.cells4 (g := w.heap.size + 1) (c := b) (by simp)
    obtain ⟨x3a, x3b, x3c, x3l⟩ := K0.out.cells4 (g := w.heap.size + 2) (c := c) (by simp)
    go_wp2_with fail
    refine (lawLight10 a false w2 (K0.out.ok (g := w.heap.size) (c := a) (by simp)) HLa.out).mono ?_
    rintro e w3 ⟨rfl, hb⟩
    have K1 := Lib.hid (show KK w [(w.heap.size, a), (w.heap.size + 1, b), (w.heap.size + 2, c)] w3 from K0.out.next hb)
    clear hb K0 x1a x1b x1c x1l x2a x2b x2c x2l x3a x3b x3c x3l
    obtain ⟨x4a, x4b, x4c, x4l⟩ := K1.out.cells4 (g := w.heap.size) (c := a) (by simp)
    obtain ⟨x5a, x5b, x5c, x5l⟩ := K1.out.cells4 (g := w.heap.size + 1) (c := b) (by simp)
    obtain ⟨x6a, x6b, x6c, x6l⟩ := K1.out.cells4 (g := w.heap.size + 2) (c := c) (by simp)
    go_wp2_with fail
    refine (HKN.out _).mono ?_
    rintro e wk ⟨rfl, hb⟩
    have KC := Lib.hid (below_trans K1.out.bel hb)
    clear hb K1 x4a x4b x4c x4l x5a x5b x5c x5l x6a x6b x6c x6l
    go_wp2_with fail
    go_ret
    exact OneB.bool rfl KC.out
  | true =>
    cases lb with
    | false =>
      go_enter Tryz.func6, Tryz.ntmps6
      go_upto_region 1 with fail
      generalize World.alloc (World.alloc (World.alloc w _) _) _ = w2 at K0 ⊢
      obtain ⟨x1a, x1b, x1c, x1l⟩ := K0.out.cells4 (g := w.heap.size) (c := a) (by simp)
      obtain ⟨x2a, x2b, x2c, x2l⟩ := K0.out.cells4 (g := w.heap.size + 1) (c := b) (by simp)
      obtain ⟨x3a, x3b, x3c, x3l⟩ := K0.out.cells4 (g := w.heap.size + 2) (c := c) (by simp)
      go_wp2_with fail
      refine (lawLight10 a true w2 (K0.out.ok (g := w.heap.size) (c := a) (by simp)) HLa.out).mono ?_
      rintro e w3 ⟨rfl, hb⟩
      have K1 := Lib.hid (show KK w [(w.heap.size, a), (w.heap.size + 1, b), (w.heap.size + 2, c)] w3 from K0.out.next hb)
      clear hb K0 x1a x1b x1c x1l x2a x2b x2c x2l x3a x3b x3c x3l
      obtain ⟨x4a, x4b, x4c, x4l⟩ := K1.out.cells4 (g := w.heap.size) (c := a) (by simp)
      obtain ⟨x5a, x5b, x5c, x5l⟩ := K1.out.cells4 (g := w.heap.size + 1) (c := b) (by simp)
      obtain ⟨x6a, x6b, x6c, x6l⟩ := K1.out.cells4 (g := w.heap.size + 2) (c := c) (by simp)
      go_wp2_with fail
      refine (lawLight10 b false w3 (K1.out.ok (g := w.heap.size + 1) (c := b) (by simp)) HLb.out).mono ?_
      rintro e w4 ⟨rfl, hb⟩
      have K2 := Lib.hid (show KK w [(w.heap.size, a), (w.heap.size + 1, b), (w.heap.size + 2, c)] w4 from K1.out.next hb)
      clear hb K1 x4a x4b x4c x4l x5a x5b x5c x5l x6a x6b x6c x6l
      obtain ⟨x7a, x7b, x7c, x7l⟩ := K2.out.cells4 (g := w.heap.size) (c := a) (by simp)
      obtain ⟨x8a, x8b, x8c, x8l⟩ := K2.out.cells4 (g := w.heap.size + 1) (c := b) (by simp)
      obtain ⟨x9a, x9b, x9c, x9l⟩ := K2.out.cells4 (g := w.heap.size + 2) (c := c) (by simp)
      go_wp2_with fail
      refine (HKN.out _).mono ?_
      rintro e wk ⟨rfl, hb⟩
      have KC := Lib.hid (below_trans K2.out.bel hb)
      clear hb K2 x7a x7b x7c x7l x8a x8b x8c x8l x9a x9b x9c x9l
      go_wp2_with fail
      go_ret
      exact OneB.bool rfl KC.out
    | true =>
      cases lc with
      | false =>
        go_enter Tryz.func6, Tryz.ntmps6
        go_upto_region 1 with fail
        generalize World.alloc (World.alloc (World.alloc w _) _) _ = w2 at K0 ⊢
        obtain ⟨x1a, x1b, x1c, x1l⟩ := K0.out.cells4 (g := w.heap.size) (c := a) (by simp)
        obtain ⟨x2a, x2b, x2c, x2l⟩ := K0.out.cells4 (g := w.heap.size + 1) (c := b) (by simp)
        obtain ⟨x3a, x3b, x3c, x3l⟩ := K0.out.cells4 (g := w.heap.size + 2) (c := c) (by simp)
        go_wp2_with fail
        refine (lawLight10 a true w2 (K0.out.ok (g := w.heap.size) (c := a) (by simp)) HLa.out).mono ?_
        rintro e w3 ⟨rfl, hb⟩
        have K1 := Lib.hid (show KK w [(w.heap.size, a), (w.heap.size + 1, b), (w.heap.size + 2, c)] w3 from K0.out.next hb)
        clear hb K0 x1a x1b x1c x1l x2a x2b x2c x2l x3a x3b x3c x3l
        obtain ⟨x4a, x4b, x4c, x4l⟩ := K1.out.cells4 (g := w.heap.size) (c := a) (by simp)
        obtain ⟨x5a, x5b, x5c, x5l⟩ := K1.out.cells4 (g := w.heap.size + 1) (c := b) (by simp)
        obtain ⟨x6a, x6b, x6c, x6l⟩ := K1.out.cells4 (g := w.heap.size + 2) (c := c) (by simp)
        go_wp2_with fail
        refine (lawLight10 b true w3 (K1.out.ok (g := w.heap.size + 1) (c := b) (by simp)) HLb.out).mono ?_
        rintro e w4 ⟨rfl, hb⟩
        have K2 := Lib.hid (show KK w [(w.heap.size, a), (w.heap.size + 1, b), (w.heap.size + 2, c)] w4 from K1.out.next hb)
        clear hb K1 x4a x4b x4c x4l x5a x5b x5c x5l x6a x6b x6c x6l
        obtain ⟨x7a, x7b, x7c, x7l⟩ := K2.out.cells4 (g := w.heap.size) (c := a) (by simp)
        obtain ⟨x8a, x8b, x8c, x8l⟩ := K2.out.cells4 (g := w.heap.size + 1) (c := b) (by simp)
        obtain ⟨x9a, x9b, x9c, x9l⟩ := K2.out.cells4 (g := w.heap.size + 2) (c := c) (by simp)
        go_wp2_with fail
        refine (lawLight10 c false w4 (K2.out.ok (g := w.heap.size + 2) (c := c) (by simp)) HLc.out).mono ?_
        rintro e w5 ⟨rfl, hb⟩
        have K3 := Lib.hid (show KK w [(w.heap.size, a), (w.heap.size + 1, b), (w.heap.size + 2, c)] w5 from K2.out.next hb)
        clear hb K2 x7a x7b x7c x7l x8a x8b x8c x8l x9a x9b x9c x9l
        obtain ⟨x10a, x10b, x10c, x10l⟩ := K3.out.cells4 (g := w.heap.size) (c := a) (by simp)
        obtain ⟨x11a, x11b, x11c, x11l⟩ := K3.out.cells4 (g := w.heap.size + 1) (c := b) (by simp)
        obtain ⟨x12a, x12b, x12c, x12l⟩ := K3.out.cells4 (g := w.heap.size + 2) (c := c) (by simp)
        go_wp2_with fail
        refine (HKN.out _).mono ?_
        rintro e wk ⟨rfl, hb⟩
        have KC := Lib.hid (below_trans K3.out.bel hb)
        clear hb K3 x10a x10b x10c x10l x11a x11b x11c x11l x12a x12b x12c x12l
        go_wp2_with fail
        go_ret
        exact OneB.bool rfl KC.out
      | true =>
        cases va with
        | false =>
          go_enter Tryz.func6, Tryz.ntmps6
          go_upto_region 1 with fail
          generalize World.alloc (World.alloc (World.alloc w _) _) _ = w2 at K0 ⊢
          obtain ⟨x1a, x1b, x1c, x1l⟩ := K0.out.cells4 (g := w.heap.size) (c := a) (by simp)
          obtain ⟨x2a, x2b, x2c, x2l⟩ := K0.out.cells4 (g := w.heap.size + 1) (c := b) (by simp)
          obtain ⟨x3a, x3b, x3c, x3l⟩ := K0.out.cells4 (g := w.heap.size + 2) (c := c) (by simp)
          go_wp2_with fail
          refine (lawLight10 a true w2 (K0.out.ok (g := w.heap.size) (c := a) (by simp)) HLa.out).mono ?_
          rintro e w3 ⟨rfl, hb⟩
          have K1 := Lib.hid (show KK w [(w.heap.size, a), (w.heap.size + 1, b), (w.heap.size + 2, c)] w3 from K0.out.next hb)
          clear hb K0 x1a x1b x1c x1l x2a x2b x2c x2l x3a x3b x3c x3l
          obtain ⟨x4a, x4b, x4c, x4l⟩ := K1.out.cells4 (g := w.heap.size) (c := a) (by simp)
          obtain ⟨x5a, x5b, x5c, x5l⟩ := K1.out.cells4 (g := w.heap.size + 1) (c := b) (by simp)
          obtain ⟨x6a, x6b, x6c, x6l⟩ := K1.out.cells4 (g := w.heap.size + 2) (c := c) (by simp)
          go_wp2_with fail
          refine (lawLight10 b true w3 (K1.out.ok (g := w.heap.size + 1) (c := b) (by simp)) HLb.out).mono ?_
          rintro e w4 ⟨rfl, hb⟩
          have K2 := Lib.hid (show KK w [(w.heap.size, a), (w.heap.size + 1, b), (w.heap.size + 2, c)] w4 from K1.out.next hb)
          clear hb K1 x4a x4b x4c x4l x5a x5b x5c x5l x6a x6b x6c x6l
          obtain ⟨x7a, x7b, x7c, x7l⟩ := K2.out.cells4 (g := w.heap.size) (c := a) (by simp)
          obtain ⟨x8a, x8b, x8c, x8l⟩ := K2.out.cells4 (g := w.heap.size + 1) (c := b) (by simp)
          obtain ⟨x9a, x9b, x9c, x9l⟩ := K2.out.cells4 (g := w.heap.size + 2) (c := c) (by simp)
          go_wp2_with fail
          refine (lawLight10 c true w4 (K2.out.ok (g := w.heap.size + 2) (c := c) (by simp)) HLc.out).mono ?_
          rintro e w5 ⟨rfl, hb⟩
          have K3 := Lib.hid (show KK w [(w.heap.size, a), (w.heap.size + 1, b), (w.heap.size + 2, c)] w5 from K2.out.next hb)
          clear hb K2 x7a x7b x7c x7l x8a x8b x8c x8l x9a x9b x9c x9l
          obtain ⟨x10a, x10b, x10c, x10l⟩ := K3.out.cells4 (g := w.heap.size) (c := a) (by simp)
          obtain ⟨x11a, x11b, x11c, x11l⟩ := K3.out.cells4 (g := w.heap.size + 1) (c := b) (by simp)
          obtain ⟨x12a, x12b, x12c, x12l⟩ := K3.out.cells4 (g := w.heap.size + 2) (c := c) (by simp)
          go_wp2_with fail
          refine (valid_j a false 1 w5 (K3.out.ok (g := w.heap.size) (c := a) (by simp)) (HSa.out (by simp)) (by omega) HVa.out).mono ?_
          rintro e w6 ⟨rfl, hb⟩
          have K4 := Lib.hid (show KK w [(w.heap.size, a), (w.heap.size + 1, b), (w.heap.size + 2, c)] w6 from K3.out.next hb)
          clear hb K3 x10a x10b x10c x10l x11a x11b x11c x11l x12a x12b x12c x12l
          obtain ⟨x13a, x13b, x13c, x13l⟩ := K4.out.cells4 (g := w.heap.size) (c := a) (by simp)
          obtain ⟨x14a, x14b, x14c, x14l⟩ := K4.out.cells4 (g := w.heap.size + 1) (c := b) (by simp)
          obtain ⟨x15a, x15b, x15c, x15l⟩ := K4.out.cells4 (g := w.heap.size + 2) (c := c) (by simp)
          go_wp2_with fail
          refine (HKN.out _).mono ?_
          rintro e wk ⟨rfl, hb⟩
          have KC := Lib.hid (below_trans K4.out.bel hb)
          clear hb K4 x13a x13b x13c x13l x14a x14b x14c x14l x15a x15b x15c x15l
          go_wp2_with fail
          go_ret
          exact OneB.bool rfl KC.out
        | true =>
          cases vb with
          | false =>
            go_enter Tryz.func6, Tryz.ntmps6
            go_upto_region 1 with fail
            generalize World.alloc (World.alloc (World.alloc w _) _) _ = w2 at K0 ⊢
            obtain ⟨x1a, x1b, x1c, x1l⟩ := K0.out.cells4 (g := w.heap.size) (c := a) (by simp)
            obtain ⟨x2a, x2b, x2c, x2l⟩ := K0.out.cells4 (g := w.heap.size + 1) (c := b) (by simp)
            obtain ⟨x3a, x3b, x3c, x3l⟩ := K0.out.cells4 (g := w.heap.size + 2) (c := c) (by simp)
            go_wp2_with fail
            refine (lawLight10 a true w2 (K0.out.ok (g := w.heap.size) (c := a) (by simp)) HLa.out).mono ?_
            rintro e w3 ⟨rfl, hb⟩
            have K1 := Lib.hid (show KK w [(w.heap.size, a), (w.heap.size + 1, b), (w.heap.size + 2, c)] w3 from K0.out.next hb)
            clear hb K0 x1a x1b x1c x1l x2a x2b x2c x2l x3a x3b x3c x3l
            obtain ⟨x4a, x4b, x4c, x4l⟩ := K1.out.cells4 (g := w.heap.size) (c := a) (by simp)
            obtain ⟨x5a, x5b, x5c, x5l⟩ := K1.out.cells4 (g := w.heap.size + 1) (c := b) (by simp)
            obtain ⟨x6a, x6b, x6c, x6l⟩ := K1.out.cells4 (g := w.heap.size + 2) (c := c) (by simp)
            go_wp2_with fail
            refine (lawLight10 b true w3 (K1.out.ok (g := w.heap.size + 1) (c := b) (by simp)) HLb.out).mono ?_
            rintro e w4 ⟨rfl, hb⟩
            have K2 := Lib.hid (show KK w [(w.heap.size, a), (w.heap.size + 1, b), (w.heap.size + 2, c)] w4 from K1.out.next hb)
            clear hb K1 x4a x4b x4c x4l x5a x5b x5c x5l x6a x6b x6c x6l
            obtain ⟨x7a, x7b, x7c, x7l⟩ := K2.out.cells4 (g := w.heap.size) (c := a) (by simp)
            obtain ⟨x8a, x8b, x8c, x8l⟩ := K2.out.cells4 (g := w.heap.size + 1) (c := b) (by simp)
            obtain ⟨x9a, x9b, x9c, x9l⟩ := K2.out.cells4 (g := w.heap.size + 2) (c := c) (by simp)
            go_wp2_with fail
            refine (lawLight10 c true w4 (K2.out.ok (g := w.heap.size + 2) (c := c) (by simp)) HLc.out).mono ?_
            rintro e w5 ⟨rfl, hb⟩
            have K3 := Lib.hid (show KK w [(w.heap.size, a), (w.heap.size + 1, b), (w.heap.size + 2, c)] w5 from K2.out.next hb)
            clear hb K2 x7a x7b x7c x7l x8a x8b x8c x8l x9a x9b x9c x9l
            obtain ⟨x10a, x10b, x10c, x10l⟩ := K3.out.cells4 (g := w.heap.size) (c := a) (by simp)
            obtain ⟨x11a, x11b, x11c, x11l⟩ := K3.out.cells4 (g := w.heap.size + 1) (c := b) (by simp)
            obtain ⟨x12a, x12b, x12c, x12l⟩ := K3.out.cells4 (g := w.heap.size + 2) (c := c) (by simp)
            go_wp2_with fail
            refine (valid_j a true 1 w5 (K3.out.ok (g := w.heap.size) (c := a) (by simp)) (HSa.out (by simp)) (by omega) HVa.out).mono ?_
            rintro e w6 ⟨rfl, hb⟩
            have K4 := Lib.hid (show KK w [(w.heap.size, a), (w.heap.size + 1, b), (w.heap.size + 2, c)] w6 from K3.out.next hb)
            clear hb K3 x10a x10b x10c x10l x11a x11b x11c x11l x12a x12b x12c x12l
            obtain ⟨x13a, x13b, x13c, x13l⟩ := K4.out.cells4 (g := w.heap.size) (c := a) (by simp)
            obtain ⟨x14a, x14b, x14c, x14l⟩ := K4.out.cells4 (g := w.heap.size + 1) (c := b) (by simp)
            obtain ⟨x15a, x15b, x15c, x15l⟩ := K4.out.cells4 (g := w.heap.size + 2) (c := c) (by simp)
            go_wp2_with fail
            refine (valid_j b false 1 w6 (K4.out.ok (g := w.heap.size + 1) (c := b) (by simp)) (HSb.out (by simp)) (by omega) HVb.out).mono ?_
            rintro e w7 ⟨rfl, hb⟩
            have K5 := Lib.hid (show KK w [(w.heap.size, a), (w.heap.size + 1, b), (w.heap.size + 2, c)] w7 from K4.out.next hb)
            clear hb K4 x13a x13b x13c x13l x14a x14b x14c x14l x15a x15b x15c x15l
            obtain ⟨x16a, x16b, x16c, x16l⟩ := K5.out.cells4 (g := w.heap.size) (c := a) (by simp)
            obtain ⟨x17a, x17b, x17c, x17l⟩ := K5.out.cells4 (g := w.heap.size + 1) (c := b) (by simp)
            obtain ⟨x18a, x18b, x18c, x18l⟩ := K5.out.cells4 (g := w.heap.size + 2) (c := c) (by simp)
            go_wp2_with fail
            refine (HKN.out _).mono ?_
            rintro e wk ⟨rfl, hb⟩
            have KC := Lib.hid (below_trans K5.out.bel hb)
            clear hb K5 x16a x16b x16c x16l x17a x17b x17c x17l x18a x18b x18c x18l
            go_wp2_with fail
            go_ret
            exact OneB.bool rfl KC.out
          | true =>
            cases vc with
            | false =>
              go_enter Tryz.func6, Tryz.ntmps6
              go_upto_region 1 with fail
              generalize World.alloc (World.alloc (World.alloc w _) _) _ = w2 at K0 ⊢
              obtain ⟨x1a, x1b, x1c, x1l⟩ := K0.out.cells4 (g := w.heap.size) (c := a) (by simp)
              obtain ⟨x2a, x2b, x2c, x2l⟩ := K0.out.cells4 (g := w.heap.size + 1) (c := b) (by simp)
              obtain ⟨x3a, x3b, x3c, x3l⟩ := K0.out.cells4 (g := w.heap.size + 2) (c := c) (by simp)
              go_wp2_with fail
              refine (lawLight10 a true w2 (K0.out.ok (g := w.heap.size) (c := a) (by simp)) HLa.out).mono ?_
              rintro e w3 ⟨rfl, hb⟩
              have K1 := Lib.hid (show KK w [(w.heap.size, a), (w.heap.size + 1, b), (w.heap.size + 2, c)] w3 from K0.out.next hb)
              clear hb K0 x1a x1b x1c x1l x2a x2b x2c x2l x3a x3b x3c x3l
              obtain ⟨x4a, x4b, x4c, x4l⟩ := K1.out.cells4 (g := w.heap.size) (c := a) (by simp)
              obtain ⟨x5a, x5b, x5c, x5l⟩ := K1.out.cells4 (g := w.heap.size + 1) (c := b) (by simp)
              obtain ⟨x6a, x6b, x6c, x6l⟩ := K1.out.cells4 (g := w.heap.size + 2) (c := c) (by simp)
              go_wp2_with fail
              refine (lawLight10 b true w3 (K1.out.ok (g := w.heap.size + 1) (c := b) (by simp)) HLb.out).mono ?_
              rintro e w4 ⟨rfl, hb⟩
              have K2 := Lib.hid (show KK w [(w.heap.size, a), (w.heap.size + 1, b), (w.heap.size + 2, c)] w4 from K1.out.next hb)
              clear hb K1 x4a x4b x4c x4l x5a x5b x5c x5l x6a x6b x6c x6l
              obtain ⟨x7a, x7b, x7c, x7l⟩ := K2.out.cells4 (g := w.heap.size) (c := a) (by simp)
              obtain ⟨x8a, x8b, x8c, x8l⟩ := K2.out.cells4 (g := w.heap.size + 1) (c := b) (by simp)
              obtain ⟨x9a, x9b, x9c, x9l⟩ := K2.out.cells4 (g := w.heap.size + 2) (c := c) (by simp)
              go_wp2_with fail
              refine (lawLight10 c true w4 (K2.out.ok (g := w.heap.size + 2) (c := c) (by simp)) HLc.out).mono ?_
              rintro e w5 ⟨rfl, hb⟩
              have K3 := Lib.hid (show KK w [(w.heap.size, a), (w.heap.size + 1, b), (w.heap.size + 2, c)] w5 from K2.out.next hb)
              clear hb K2 x7a x7b x7c x7l x8a x8b x8c x8l x9a x9b x9c x9l
              obtain ⟨x10a, x10b, x10c, x10l⟩ := K3.out.cells4 (g := w.heap.size) (c := a) (by simp)
              obtain ⟨x11a, x11b, x11c, x11l⟩ := K3.out.cells4 (g := w.heap.size + 1) (c := b) (by simp)
              obtain ⟨x12a, x12b, x12c, x12l⟩ := K3.out.cells4 (g := w.heap.size + 2) (c := c) (by simp)
              go_wp2_with fail
              refine (valid_j a true 1 w5 (K3.out.ok (g := w.heap.size) (c := a) (by simp)) (HSa.out (by simp)) (by omega) HVa.out).mono ?_
              rintro e w6 ⟨rfl, hb⟩
              have K4 := Lib.hid (show KK w [(w.heap.size, a), (w.heap.size + 1, b), (w.heap.size + 2, c)] w6 from K3.out.next hb)
              clear hb K3 x10a x10b x10c x10l x11a x11b x11c x11l x12a x12b x12c x12l
              obtain ⟨x13a, x13b, x13c, x13l⟩ := K4.out.cells4 (g := w.heap.size) (c := a) (by simp)
              obtain ⟨x14a, x14b, x14c, x14l⟩ := K4.out.cells4 (g := w.heap.size + 1) (c := b) (by simp)
              obtain ⟨x15a, x15b, x15c, x15l⟩ := K4.out.cells4 (g := w.heap.size + 2) (c := c) (by simp)
              go_wp2_with fail
              refine (valid_j b true 1 w6 (K4.out.ok (g := w.heap.size + 1) (c := b) (by simp)) (HSb.out (by simp)) (by omega) HVb.out).mono ?_
              rintro e w7 ⟨rfl, hb⟩
              have K5 := Lib.hid (show KK w [(w.heap.size, a), (w.heap.size + 1, b), (w.heap.size + 2, c)] w7 from K4.out.next hb)
              clear hb K4 x13a x13b x13c x13l x14a x14b x14c x14l x15a x15b x15c x15l
              obtain ⟨x16a, x16b, x16c, x16l⟩ := K5.out.cells4 (g := w.heap.size) (c := a) (by simp)
              obtain ⟨x17a, x17b, x17c, x17l⟩ := K5.out.cells4 (g := w.heap.size + 1) (c := b) (by simp)
              obtain ⟨x18a, x18b, x18c, x18l⟩ := K5.out.cells4 (g := w.heap.size + 2) (c := c) (by simp)
              go_wp2_with fail
              refine (valid_j c false 1 w7 (K5.out.ok (g := w.heap.size + 2) (c := c) (by simp)) (HSc.out (by simp)) (by omega) HVc.out).mono ?_
              rintro e w8 ⟨rfl, hb⟩
              have K6 := Lib.hid (show KK w [(w.heap.size, a), (w.heap.size + 1, b), (w.heap.size + 2, c)] w8 from K5.out.next hb)
              clear hb K5 x16a x16b x16c x16l x17a x17b x17c x17l x18a x18b x18c x18l
              obtain ⟨x19a, x19b, x19c, x19l⟩ := K6.out.cells4 (g := w.heap.size) (c := a) (by simp)
              obtain ⟨x20a, x20b, x20c, x20l⟩ := K6.out.cells4 (g := w.heap.size + 1) (c := b) (by simp)
              obtain ⟨x21a, x21b, x21c, x21l⟩ := K6.out.cells4 (g := w.heap.size + 2) (c := c) (by simp)
              go_wp2_with fail
              refine (HKN.out _).mono ?_
              rintro e wk ⟨rfl, hb⟩
              have KC := Lib.hid (below_trans K6.out.bel hb)
              clear hb K6 x19a x19b x19c x19l x20a x20b x20c x20l x21a x21b x21c x21l
              go_wp2_with fail
              go_ret
              exact OneB.bool rfl KC.out
            | true =>
                have Ha := Lib.hid (HSa.out (by simp))
                have Hb := Lib.hid (HSb.out (by simp))
                have Hc := Lib.hid (HSc.out (by simp))
                go_enter Tryz.func6, Tryz.ntmps6
                go_upto_region 1 with fail
                generalize World.alloc (World.alloc (World.alloc w _) _) _ = w2 at K0 ⊢
                obtain ⟨x1a, x1b, x1c, x1l⟩ := K0.out.cells4 (g := w.heap.size) (c := a) (by simp)
                obtain ⟨x2a, x2b, x2c, x2l⟩ := K0.out.cells4 (g := w.heap.size + 1) (c := b) (by simp)
                obtain ⟨x3a, x3b, x3c, x3l⟩ := K0.out.cells4 (g := w.heap.size + 2) (c := c) (by simp)
                go_wp2_with fail
                refine (lawLight10 a true w2 (K0.out.ok (g := w.heap.size) (c := a) (by simp)) HLa.out).mono ?_
                rintro e w3 ⟨rfl, hb⟩
                have K1 := Lib.hid (show KK w [(w.heap.size, a), (w.heap.size + 1, b), (w.heap.size + 2, c)] w3 from K0.out.next hb)
                clear hb K0 x1a x1b x1c x1l x2a x2b x2c x2l x3a x3b x3c x3l
                obtain ⟨x4a, x4b, x4c, x4l⟩ := K1.out.cells4 (g := w.heap.size) (c := a) (by simp)
                obtain ⟨x5a, x5b, x5c, x5l⟩ := K1.out.cells4 (g := w.heap.size + 1) (c := b) (by simp)
                obtain ⟨x6a, x6b, x6c, x6l⟩ := K1.out.cells4 (g := w.heap.size + 2) (c := c) (by simp)
                go_wp2_with fail
                refine (lawLight10 b true w3 (K1.out.ok (g := w.heap.size + 1) (c := b) (by simp)) HLb.out).mono ?_
                rintro e w4 ⟨rfl, hb⟩
                have K2 := Lib.hid (show KK w [(w.heap.size, a), (w.heap.size + 1, b), (w.heap.size + 2, c)] w4 from K1.out.next hb)
                clear hb K1 x4a x4b x4c x4l x5a x5b x5c x5l x6a x6b x6c x6l
                obtain ⟨x7a, x7b, x7c, x7l⟩ := K2.out.cells4 (g := w.heap.size) (c := a) (by simp)
                obtain ⟨x8a, x8b, x8c, x8l⟩ := K2.out.cells4 (g := w.heap.size + 1) (c := b) (by simp)
                obtain ⟨x9a, x9b, x9c, x9l⟩ := K2.out.cells4 (g := w.heap.size + 2) (c := c) (by simp)
                go_wp2_with fail
                refine (lawLight10 c true w4 (K2.out.ok (g := w.heap.size + 2) (c := c) (by simp)) HLc.out).mono ?_
                rintro e w5 ⟨rfl, hb⟩
                have K3 := Lib.hid (show KK w [(w.heap.size, a), (w.heap.size + 1, b), (w.heap.size + 2, c)] w5 from K2.out.next hb)
                clear hb K2 x7a x7b x7c x7l x8a x8b x8c x8l x9a x9b x9c x9l
                obtain ⟨x10a, x10b, x10c, x10l⟩ := K3.out.cells4 (g := w.heap.size) (c := a) (by simp)
                obtain ⟨x11a, x11b, x11c, x11l⟩ := K3.out.cells4 (g := w.heap.size + 1) (c := b) (by simp)
                obtain ⟨x12a, x12b, x12c, x12l⟩ := K3.out.cells4 (g := w.heap.size + 2) (c := c) (by simp)
                go_wp2_with fail
                refine (valid_j a true 1 w5 (K3.out.ok (g := w.heap.size) (c := a) (by simp)) (HSa.out (by simp)) (by omega) HVa.out).mono ?_
                rintro e w6 ⟨rfl, hb⟩
                have K4 := Lib.hid (show KK w [(w.heap.size, a), (w.heap.size + 1, b), (w.heap.size + 2, c)] w6 from K3.out.next hb)
                clear hb K3 x10a x10b x10c x10l x11a x11b x11c x11l x12a x12b x12c x12l
                obtain ⟨x13a, x13b, x13c, x13l⟩ := K4.out.cells4 (g := w.heap.size) (c := a) (by simp)
                obtain ⟨x14a, x14b, x14c, x14l⟩ := K4.out.cells4 (g := w.heap.size + 1) (c := b) (by simp)
                obtain ⟨x15a, x15b, x15c, x15l⟩ := K4.out.cells4 (g := w.heap.size + 2) (c := c) (by simp)
                go_wp2_with fail
                refine (valid_j b true 1 w6 (K4.out.ok (g := w.heap.size + 1) (c := b) (by simp)) (HSb.out (by simp)) (by omega) HVb.out).mono ?_
                rintro e w7 ⟨rfl, hb⟩
                have K5 := Lib.hid (show KK w [(w.heap.size, a), (w.heap.size + 1, b), (w.heap.size + 2, c)] w7 from K4.out.next hb)
                clear hb K4 x13a x13b x13c x13l x14a x14b x14c x14l x15a x15b x15c x15l
                obtain ⟨x16a, x16b, x16c, x16l⟩ := K5.out.cells4 (g := w.heap.size) (c := a) (by simp)
                obtain ⟨x17a, x17b, x17c, x17l⟩ := K5.out.cells4 (g := w.heap.size + 1) (c := b) (by simp)
                obtain ⟨x18a, x18b, x18c, x18l⟩ := K5.out.cells4 (g := w.heap.size + 2) (c := c) (by simp)
                go_wp2_with fail
                refine (valid_j c true 1 w7 (K5.out.ok (g := w.heap.size + 2) (c := c) (by simp)) (HSc.out (by simp)) (by omega) HVc.out).mono ?_
                rintro e w8 ⟨rfl, hb⟩
                have K6 := Lib.hid (show KK w [(w.heap.size, a), (w.heap.size + 1, b), (w.heap.size + 2, c)] w8 from K5.out.next hb)
                clear hb K5 x16a x16b x16c x16l x17a x17b x17c x17l x18a x18b x18c x18l
                obtain ⟨x19a, x19b, x19c, x19l⟩ := K6.out.cells4 (g := w.heap.size) (c := a) (by simp)
                obtain ⟨x20a, x20b, x20c, x20l⟩ := K6.out.cells4 (g := w.heap.size + 1) (c := b) (by simp)
                obtain ⟨x21a, x21b, x21c, x21l⟩ := K6.out.cells4 (g := w.heap.size + 2) (c := c) (by simp)
                go_wp2_with fail
                refine (join_j a b 1 1 w8 (K6.out.ok (g := w.heap.size) (c := a) (by simp)) (K6.out.ok (g := w.heap.size + 1) (c := b) (by simp)) Ha.out Hb.out (by omega) (by omega) HVa.out HVb.out).mono ?_
                rintro e w9 ⟨⟨p, rfl, hz, ho⟩, hb⟩
                have KO := Lib.hid (show KK w [(w.heap.size, a), (w.heap.size + 1, b), (w.heap.size + 2, c)] w9 from K6.out.next hb)
                have K7 := Lib.hid (show KK w [(w.heap.size, a), (w.heap.size + 1, b), (w.heap.size + 2, c), (w9.heap.size, p)] (w9.alloc (.cells #[p.v, p.l, p.i] 28)) from KK.push KO.out p ho.ok _ rfl)
                have Hp := Lib.hid hz
                clear hb hz ho K6 x19a x19b x19c x19l x20a x20b x20c x20l x21a x21b x21c x21l
                obtain ⟨x22a, x22b, x22c, x22l⟩ := KO.out.cells4 (g := w.heap.size) (c := a) (by simp)
                obtain ⟨x23a, x23b, x23c, x23l⟩ := KO.out.cells4 (g := w.heap.size + 1) (c := b) (by simp)
                obtain ⟨x24a, x24b, x24c, x24l⟩ := KO.out.cells4 (g := w.heap.size + 2) (c := c) (by simp)
                clear KO
                have Sp := Lib.hid (show SizeK 2 p.ca from Hp.out ▸ joinK_size HVa.out HVb.out Ha.out Hb.out)
                have Vp := Lib.hid (show validK p.ca = true from Hp.out ▸ joinK_valid HVa.out HVb.out)
                go_wp2_with fail
                refine (join_j b c 1 1 _ (K7.out.ok (g := w.heap.size + 1) (c := b) (by simp)) (K7.out.ok (g := w.heap.size + 2) (c := c) (by simp)) Hb.out Hc.out (by omega) (by omega) HVb.out HVc.out).mono ?_
                rintro e w10 ⟨⟨q, rfl, hz, ho⟩, hb⟩
                have KO := Lib.hid (show KK w [(w.heap.size, a), (w.heap.size + 1, b), (w.heap.size + 2, c), (w9.heap.size, p)] w10 from K7.out.next hb)
                have K8 := Lib.hid (show KK w [(w.heap.size, a), (w.heap.size + 1, b), (w.heap.size + 2, c), (w9.heap.size, p), (w10.heap.size, q)] (w10.alloc (.cells #[q.v, q.l, q.i] 28)) from KK.push KO.out q ho.ok _ rfl)
                have Hq := Lib.hid hz
                clear hb hz ho K7 x22a x22b x22c x22l x23a x23b x23c x23l x24a x24b x24c x24l
                obtain ⟨x25a, x25b, x25c, x25l⟩ := KO.out.cells4 (g := w.heap.size) (c := a) (by simp)
                obtain ⟨x26a, x26b, x26c, x26l⟩ := KO.out.cells4 (g := w.heap.size + 1) (c := b) (by simp)
                obtain ⟨x27a, x27b, x27c, x27l⟩ := KO.out.cells4 (g := w.heap.size + 2) (c := c) (by simp)
                obtain ⟨x28a, x28b, x28c, x28l⟩ := KO.out.cells4 (g := w9.heap.size) (c := p) (by simp)
                clear KO
                have Sq := Lib.hid (show SizeK 2 q.ca from Hq.out ▸ joinK_size HVb.out HVc.out Hb.out Hc.out)
                have Vq := Lib.hid (show validK q.ca = true from Hq.out ▸ joinK_valid HVb.out HVc.out)
                go_wp2_with fail
                refine (join_j p c 2 1 _ (K8.out.ok (g := w9.heap.size) (c := p) (by simp)) (K8.out.ok (g := w.heap.size + 2) (c := c) (by simp)) Sp.out Hc.out (by omega) (by omega) Vp.out HVc.out).mono ?_
                rintro e w11 ⟨⟨t, rfl, hz, ho⟩, hb⟩
                have KO := Lib.hid (show KK w [(w.heap.size, a), (w.heap.size + 1, b), (w.heap.size + 2, c), (w9.heap.size, p), (w10.heap.size, q)] w11 from K8.out.next hb)
                have K9 := Lib.hid (show KK w [(w.heap.size, a), (w.heap.size + 1, b), (w.heap.size + 2, c), (w9.heap.size, p), (w10.heap.size, q), (w11.heap.size, t)] (w11.alloc (.cells #[t.v, t.l, t.i] 28)) from KK.push KO.out t ho.ok _ rfl)
                have Ht := Lib.hid hz
                clear hb hz ho K8 x25a x25b x25c x25l x26a x26b x26c x26l x27a x27b x27c x27l x28a x28b x28c x28l
                obtain ⟨x29a, x29b, x29c, x29l⟩ := KO.out.cells4 (g := w.heap.size) (c := a) (by simp)
                obtain ⟨x30a, x30b, x30c, x30l⟩ := KO.out.cells4 (g := w.heap.size + 1) (c := b) (by simp)
                obtain ⟨x31a, x31b, x31c, x31l⟩ := KO.out.cells4 (g := w.heap.size + 2) (c := c) (by simp)
                obtain ⟨x32a, x32b, x32c, x32l⟩ := KO.out.cells4 (g := w9.heap.size) (c := p) (by simp)
                obtain ⟨x33a, x33b, x33c, x33l⟩ := KO.out.cells4 (g := w10.heap.size) (c := q) (by simp)
                clear KO
                have St := Lib.hid (show SizeK 3 t.ca from Ht.out ▸ joinK_size Vp.out HVc.out Sp.out Hc.out)
                have Vt := Lib.hid (show validK t.ca = true from Ht.out ▸ joinK_valid Vp.out HVc.out)
                have HT := Lib.hid (show t.ca = joinK (joinK a.ca b.ca) c.ca from by rw [Ht.out, Hp.out])
                have E1 := Lib.hid (show joinK a.ca q.ca = t.ca from by rw [HT.out, Hq.out, joinK_assoc HVa.out HVb.out HVc.out])
                have E2 := Lib.hid (show joinK b.ca t.ca = t.ca from by rw [HT.out, ← joinK_assoc HVb.out (joinK_valid HVa.out HVb.out) HVc.out, within_join2 HVa.out HVb.out])
                have E3 := Lib.hid (show allK [c.ca, a.ca, b.ca] = t.ca from by
                  rw [HT.out, show allK [c.ca, a.ca, b.ca] = joinK (joinK (joinK zeroK c.ca) a.ca) b.ca from rfl, show joinK zeroK c.ca = c.ca from joinK_zero HVc.out, joinK_comm (joinK_valid HVa.out HVb.out) HVc.out, joinK_assoc HVc.out HVa.out HVb.out])
                go_wp2_with fail
                refine (joins_j a q t 1 2 _ (K9.out.ok (g := w.heap.size) (c := a) (by simp)) (K9.out.ok (g := w10.heap.size) (c := q) (by simp)) (K9.out.ok (g := w11.heap.size) (c := t) (by simp)) Ha.out Sq.out (by omega) (by omega) HVa.out Vq.out E1.out).mono ?_
                rintro e w12 ⟨rfl, hb⟩
                have K10 := Lib.hid (show KK w [(w.heap.size, a), (w.heap.size + 1, b), (w.heap.size + 2, c), (w9.heap.size, p), (w10.heap.size, q), (w11.heap.size, t)] w12 from K9.out.next hb)
                clear hb K9 x29a x29b x29c x29l x30a x30b x30c x30l x31a x31b x31c x31l x32a x32b x32c x32l x33a x33b x33c x33l
                obtain ⟨x34a, x34b, x34c, x34l⟩ := K10.out.cells4 (g := w.heap.size) (c := a) (by simp)
                obtain ⟨x35a, x35b, x35c, x35l⟩ := K10.out.cells4 (g := w.heap.size + 1) (c := b) (by simp)
                obtain ⟨x36a, x36b, x36c, x36l⟩ := K10.out.cells4 (g := w.heap.size + 2) (c := c) (by simp)
                obtain ⟨x37a, x37b, x37c, x37l⟩ := K10.out.cells4 (g := w9.heap.size) (c := p) (by simp)
                obtain ⟨x38a, x38b, x38c, x38l⟩ := K10.out.cells4 (g := w10.heap.size) (c := q) (by simp)
                obtain ⟨x39a, x39b, x39c, x39l⟩ := K10.out.cells4 (g := w11.heap.size) (c := t) (by simp)
                go_wp2_with fail
                refine (joins_j b t t 1 3 _ (K10.out.ok (g := w.heap.size + 1) (c := b) (by simp)) (K10.out.ok (g := w11.heap.size) (c := t) (by simp)) (K10.out.ok (g := w11.heap.size) (c := t) (by simp)) Hb.out St.out (by omega) (by omega) HVb.out Vt.out E2.out).mono ?_
                rintro e w13 ⟨rfl, hb⟩
                have K11 := Lib.hid (show KK w [(w.heap.size, a), (w.heap.size + 1, b), (w.heap.size + 2, c), (w9.heap.size, p), (w10.heap.size, q), (w11.heap.size, t)] w13 from K10.out.next hb)
                clear hb K10 x34a x34b x34c x34l x35a x35b x35c x35l x36a x36b x36c x36l x37a x37b x37c x37l x38a x38b x38c x38l x39a x39b x39c x39l
                obtain ⟨x40a, x40b, x40c, x40l⟩ := K11.out.cells4 (g := w.heap.size) (c := a) (by simp)
                obtain ⟨x41a, x41b, x41c, x41l⟩ := K11.out.cells4 (g := w.heap.size + 1) (c := b) (by simp)
                obtain ⟨x42a, x42b, x42c, x42l⟩ := K11.out.cells4 (g := w.heap.size + 2) (c := c) (by simp)
                obtain ⟨x43a, x43b, x43c, x43l⟩ := K11.out.cells4 (g := w9.heap.size) (c := p) (by simp)
                obtain ⟨x44a, x44b, x44c, x44l⟩ := K11.out.cells4 (g := w10.heap.size) (c := q) (by simp)
                obtain ⟨x45a, x45b, x45c, x45l⟩ := K11.out.cells4 (g := w11.heap.size) (c := t) (by simp)
                have hal := (Below.refl w13.heap.size w13).alloc (Nat.le_refl _) (.cells #[c.v, c.l, c.i, a.v, a.l, a.i, b.v, b.l, b.i] 28)
                have KA := Lib.hid (show KK w [(w.heap.size, a), (w.heap.size + 1, b), (w.heap.size + 2, c), (w9.heap.size, p), (w10.heap.size, q), (w11.heap.size, t)] (w13.alloc (.cells #[c.v, c.l, c.i, a.v, a.l, a.i, b.v, b.l, b.i] 28)) from K11.out.next hal)
                have HCA := Lib.hid (show CartsAt (w13.alloc (.cells #[c.v, c.l, c.i, a.v, a.l, a.i, b.v, b.l, b.i] 28)) (some ⟨w13.heap.size, 0, none⟩) [c, a, b] from ⟨SlAt.litAt encCa_len w13 _ rfl 28 [c, a, b] (by simp [maxLen]), fun y hy => by
                  simp only [List.mem_cons, List.not_mem_nil, or_false] at hy
                  rcases hy with rfl | rfl | rfl
                  · exact KA.out.ok (g := w.heap.size + 2) (by simp)
                  · exact KA.out.ok (g := w.heap.size) (by simp)
                  · exact KA.out.ok (g := w.heap.size + 1) (by simp)⟩)
                clear hal
                go_wp2_with fail
                refine (all_j (some ⟨w13.heap.size, 0, none⟩) [c, a, b] 3 t _ HCA.out (by simp) (by simp [maxLen]) (by simp) (fun y hy => by
                  simp only [List.mem_cons, List.not_mem_nil, or_false] at hy
                  rcases hy with rfl | rfl | rfl
                  · exact ⟨Hc.out, HVc.out⟩
                  · exact ⟨Ha.out, HVa.out⟩
                  · exact ⟨Hb.out, HVb.out⟩) (KA.out.ok (g := w11.heap.size) (by simp)) (by have := CaV.num St.out; omega) E3.out).mono ?_
                rintro e w14 ⟨rfl, hb⟩
                have K12 := Lib.hid (show KK w [(w.heap.size, a), (w.heap.size + 1, b), (w.heap.size + 2, c), (w9.heap.size, p), (w10.heap.size, q), (w11.heap.size, t)] w14 from KA.out.next hb)
                clear hb KA HCA K11 x40a x40b x40c x40l x41a x41b x41c x41l x42a x42b x42c x42l x43a x43b x43c x43l x44a x44b x44c x44l x45a x45b x45c x45l
                go_wp2_with fail
                refine (HKN.out _).mono ?_
                rintro e wk ⟨rfl, hb⟩
                have KC := Lib.hid (below_trans K12.out.bel hb)
                clear hb K12 
                go_wp2_with fail
                go_ret
                exact OneB.bool rfl KC.out

end Go.Proofs.YtfjbocipjmpogaaGreat
