/- The law JoinHolds, from what known() is (written by mkLH.py). -/
import Derived.Test.YtfjbocipjmpogaaGreatMBO
namespace Go.Proofs.YtfjbocipjmpogaaGreat
open Go.RowKit

theorem within_same {a b : Ca} (ha : validK a = true) (hb : validK b = true) : (withinK a b && withinK b a) = sameC a b := by
  rw [Bool.eq_iff_iff, Bool.and_eq_true, withinK_iff, withinK_iff, sameC_iff]
  constructor
  · rintro ⟨h1, h2⟩; exact within_both ha hb h1 h2
  · rintro rfl; exact ⟨joinK_self ha, joinK_self ha⟩
/-- Join.Within at valid carts. -/
theorem jwithin_j (c d : CaV) (u : Bool) (n m : Nat) (w : World) (hc : CaOK w c) (hd : CaOK w d) (hn : SizeK n c.ca) (hm : SizeK m d.ca) (h1 : n ≤ 7) (h2 : m ≤ 7) (hv : validK c.ca = true) (hv' : validK d.ca = true) (he : withinK c.ca d.ca = u) :
    Calls Tryz.prog 24 #[mkC c, mkC d] w (OneB (.tuple #[.bool u, .int .i64 0]) w) := by
  have ho : okJ c.ca d.ca = true := okJ_iff.2 ⟨hv, hv'⟩
  have := joWithin c d n m w hc hd hn hm h1 h2
  rwa [joinE_t ho, show withinJ c.ca d.ca = u from by unfold withinJ; rw [ho, he]; rfl] at this

set_option maxRecDepth 100000 in
set_option maxHeartbeats 8000000 in
theorem lawJoinHolds11 (KN : KnownJ) (a b : CaV) (w : World) (ha : CaOK w a) (hb : CaOK w b) :
    Calls Tryz.prog 7 #[mkC a, mkC b] w (TrueB w) := by
  have K0a := KK.new w a ha
  have K0b := KK.push (L := [(w.heap.size, a)]) K0a b (CaOK.below hb K0a.bel) (w.heap.size + 1) (by simp)
  have K0 := Lib.hid (show KK w [(w.heap.size, a), (w.heap.size + 1, b)] _ from K0b)
  have HKN := Lib.hid KN
  clear KN ha hb K0a K0b
  obtain ⟨la, hla⟩ : ∃ la, lightK a = la := ⟨_, rfl⟩
  obtain ⟨lb, hlb⟩ : ∃ lb, lightK b = lb := ⟨_, rfl⟩
  obtain ⟨va, hva⟩ : ∃ va, validK a.ca = va := ⟨_, rfl⟩
  obtain ⟨vb, hvb⟩ : ∃ vb, validK b.ca = vb := ⟨_, rfl⟩
  have HLA := Lib.hid hla
  have HLB := Lib.hid hlb
  have HVA := Lib.hid hva
  have HVB := Lib.hid hvb
  clear hla hlb hva hvb
  have HSA := Lib.hid (show la = true → SizeK 1 a.ca from fun h => lightK_size (HLA.out.trans h))
  have HSB := Lib.hid (show lb = true → SizeK 1 b.ca from fun h => lightK_size (HLB.out.trans h))
  cases la with
  | false =>
    go_enter Tryz.func7, Tryz.ntmps7
    go_upto_region 1 with fail
    generalize World.alloc (World.alloc w _) _ = w2 at K0 ⊢
    obtain ⟨x1a, x1b, x1c, x1l⟩ := K0.out.cells4 (g := w.heap.size) (c := a) (by simp)
    obtain ⟨x2a, x2b, x2c, x2l⟩ := K0.out.cells4 (g := w.heap.size + 1) (c := b) (by simp)
    go_wp2_with fail
    refine (lawLight10 a false w2 (K0.out.ok (g := w.heap.size) (c := a) (by simp)) HLA.out).mono ?_
    rintro e w3 ⟨rfl, hb⟩
    have K1 := Lib.hid (show KK w [(w.heap.size, a), (w.heap.size + 1, b)] w3 from K0.out.next hb)
    clear hb K0 x1a x1b x1c x1l x2a x2b x2c x2l
    obtain ⟨x3a, x3b, x3c, x3l⟩ := K1.out.cells4 (g := w.heap.size) (c := a) (by simp)
    obtain ⟨x4a, x4b, x4c, x4l⟩ := K1.out.cells4 (g := w.heap.size + 1) (c := b) (by simp)
    go_wp2_with fail
    refine (HKN.out _).mono ?_
    rintro e wk ⟨rfl, hb⟩
    have KC := Lib.hid (below_trans K1.out.bel hb)
    clear hb K1 x3a x3b x3c x3l x4a x4b x4c x4l
    go_wp2_with fail
    go_ret
    exact OneB.bool rfl KC.out
  | true =>
    cases lb with
    | false =>
      go_enter Tryz.func7, Tryz.ntmps7
      go_upto_region 1 with fail
      generalize World.alloc (World.alloc w _) _ = w2 at K0 ⊢
      obtain ⟨x1a, x1b, x1c, x1l⟩ := K0.out.cells4 (g := w.heap.size) (c := a) (by simp)
      obtain ⟨x2a, x2b, x2c, x2l⟩ := K0.out.cells4 (g := w.heap.size + 1) (c := b) (by simp)
      go_wp2_with fail
      refine (lawLight10 a true w2 (K0.out.ok (g := w.heap.size) (c := a) (by simp)) HLA.out).mono ?_
      rintro e w3 ⟨rfl, hb⟩
      have K1 := Lib.hid (show KK w [(w.heap.size, a), (w.heap.size + 1, b)] w3 from K0.out.next hb)
      clear hb K0 x1a x1b x1c x1l x2a x2b x2c x2l
      obtain ⟨x3a, x3b, x3c, x3l⟩ := K1.out.cells4 (g := w.heap.size) (c := a) (by simp)
      obtain ⟨x4a, x4b, x4c, x4l⟩ := K1.out.cells4 (g := w.heap.size + 1) (c := b) (by simp)
      go_wp2_with fail
      refine (lawLight10 b false w3 (K1.out.ok (g := w.heap.size + 1) (c := b) (by simp)) HLB.out).mono ?_
      rintro e w4 ⟨rfl, hb⟩
      have K2 := Lib.hid (show KK w [(w.heap.size, a), (w.heap.size + 1, b)] w4 from K1.out.next hb)
      clear hb K1 x3a x3b x3c x3l x4a x4b x4c x4l
      obtain ⟨x5a, x5b, x5c, x5l⟩ := K2.out.cells4 (g := w.heap.size) (c := a) (by simp)
      obtain ⟨x6a, x6b, x6c, x6l⟩ := K2.out.cells4 (g := w.heap.size + 1) (c := b) (by simp)
      go_wp2_with fail
      refine (HKN.out _).mono ?_
      rintro e wk ⟨rfl, hb⟩
      have KC := Lib.hid (below_trans K2.out.bel hb)
      clear hb K2 x5a x5b x5c x5l x6a x6b x6c x6l
      go_wp2_with fail
      go_ret
      exact OneB.bool rfl KC.out
    | true =>
      cases va with
      | false =>
        go_enter Tryz.func7, Tryz.ntmps7
        go_upto_region 1 with fail
        generalize World.alloc (World.alloc w _) _ = w2 at K0 ⊢
        obtain ⟨x1a, x1b, x1c, x1l⟩ := K0.out.cells4 (g := w.heap.size) (c := a) (by simp)
        obtain ⟨x2a, x2b, x2c, x2l⟩ := K0.out.cells4 (g := w.heap.size + 1) (c := b) (by simp)
        go_wp2_with fail
        refine (lawLight10 a true w2 (K0.out.ok (g := w.heap.size) (c := a) (by simp)) HLA.out).mono ?_
        rintro e w3 ⟨rfl, hb⟩
        have K1 := Lib.hid (show KK w [(w.heap.size, a), (w.heap.size + 1, b)] w3 from K0.out.next hb)
        clear hb K0 x1a x1b x1c x1l x2a x2b x2c x2l
        obtain ⟨x3a, x3b, x3c, x3l⟩ := K1.out.cells4 (g := w.heap.size) (c := a) (by simp)
        obtain ⟨x4a, x4b, x4c, x4l⟩ := K1.out.cells4 (g := w.heap.size + 1) (c := b) (by simp)
        go_wp2_with fail
        refine (lawLight10 b true w3 (K1.out.ok (g := w.heap.size + 1) (c := b) (by simp)) HLB.out).mono ?_
        rintro e w4 ⟨rfl, hb⟩
        have K2 := Lib.hid (show KK w [(w.heap.size, a), (w.heap.size + 1, b)] w4 from K1.out.next hb)
        clear hb K1 x3a x3b x3c x3l x4a x4b x4c x4l
        obtain ⟨x5a, x5b, x5c, x5l⟩ := K2.out.cells4 (g := w.heap.size) (c := a) (by simp)
        obtain ⟨x6a, x6b, x6c, x6l⟩ := K2.out.cells4 (g := w.heap.size + 1) (c := b) (by simp)
        go_wp2_with fail
        refine (valid_j a false 1 w4 (K2.out.ok (g := w.heap.size) (c := a) (by simp)) (HSA.out (by simp)) (by omega) HVA.out).mono ?_
        rintro e w5 ⟨rfl, hb⟩
        have K3 := Lib.hid (show KK w [(w.heap.size, a), (w.heap.size + 1, b)] w5 from K2.out.next hb)
        clear hb K2 x5a x5b x5c x5l x6a x6b x6c x6l
        obtain ⟨x7a, x7b, x7c, x7l⟩ := K3.out.cells4 (g := w.heap.size) (c := a) (by simp)
        obtain ⟨x8a, x8b, x8c, x8l⟩ := K3.out.cells4 (g := w.heap.size + 1) (c := b) (by simp)
        go_wp2_with fail
        refine (HKN.out _).mono ?_
        rintro e wk ⟨rfl, hb⟩
        have KC := Lib.hid (below_trans K3.out.bel hb)
        clear hb K3 x7a x7b x7c x7l x8a x8b x8c x8l
        go_wp2_with fail
        go_ret
        exact OneB.bool rfl KC.out
      | true =>
        cases vb with
        | false =>
          go_enter Tryz.func7, Tryz.ntmps7
          go_upto_region 1 with fail
          generalize World.alloc (World.alloc w _) _ = w2 at K0 ⊢
          obtain ⟨x1a, x1b, x1c, x1l⟩ := K0.out.cells4 (g := w.heap.size) (c := a) (by simp)
          obtain ⟨x2a, x2b, x2c, x2l⟩ := K0.out.cells4 (g := w.heap.size + 1) (c := b) (by simp)
          go_wp2_with fail
          refine (lawLight10 a true w2 (K0.out.ok (g := w.heap.size) (c := a) (by simp)) HLA.out).mono ?_
          rintro e w3 ⟨rfl, hb⟩
          have K1 := Lib.hid (show KK w [(w.heap.size, a), (w.heap.size + 1, b)] w3 from K0.out.next hb)
          clear hb K0 x1a x1b x1c x1l x2a x2b x2c x2l
          obtain ⟨x3a, x3b, x3c, x3l⟩ := K1.out.cells4 (g := w.heap.size) (c := a) (by simp)
          obtain ⟨x4a, x4b, x4c, x4l⟩ := K1.out.cells4 (g := w.heap.size + 1) (c := b) (by simp)
          go_wp2_with fail
          refine (lawLight10 b true w3 (K1.out.ok (g := w.heap.size + 1) (c := b) (by simp)) HLB.out).mono ?_
          rintro e w4 ⟨rfl, hb⟩
          have K2 := Lib.hid (show KK w [(w.heap.size, a), (w.heap.size + 1, b)] w4 from K1.out.next hb)
          clear hb K1 x3a x3b x3c x3l x4a x4b x4c x4l
          obtain ⟨x5a, x5b, x5c, x5l⟩ := K2.out.cells4 (g := w.heap.size) (c := a) (by simp)
          obtain ⟨x6a, x6b, x6c, x6l⟩ := K2.out.cells4 (g := w.heap.size + 1) (c := b) (by simp)
          go_wp2_with fail
          refine (valid_j a true 1 w4 (K2.out.ok (g := w.heap.size) (c := a) (by simp)) (HSA.out (by simp)) (by omega) HVA.out).mono ?_
          rintro e w5 ⟨rfl, hb⟩
          have K3 := Lib.hid (show KK w [(w.heap.size, a), (w.heap.size + 1, b)] w5 from K2.out.next hb)
          clear hb K2 x5a x5b x5c x5l x6a x6b x6c x6l
          obtain ⟨x7a, x7b, x7c, x7l⟩ := K3.out.cells4 (g := w.heap.size) (c := a) (by simp)
          obtain ⟨x8a, x8b, x8c, x8l⟩ := K3.out.cells4 (g := w.heap.size + 1) (c := b) (by simp)
          go_wp2_with fail
          refine (valid_j b false 1 w5 (K3.out.ok (g := w.heap.size + 1) (c := b) (by simp)) (HSB.out (by simp)) (by omega) HVB.out).mono ?_
          rintro e w6 ⟨rfl, hb⟩
          have K4 := Lib.hid (show KK w [(w.heap.size, a), (w.heap.size + 1, b)] w6 from K3.out.next hb)
          clear hb K3 x7a x7b x7c x7l x8a x8b x8c x8l
          obtain ⟨x9a, x9b, x9c, x9l⟩ := K4.out.cells4 (g := w.heap.size) (c := a) (by simp)
          obtain ⟨x10a, x10b, x10c, x10l⟩ := K4.out.cells4 (g := w.heap.size + 1) (c := b) (by simp)
          go_wp2_with fail
          refine (HKN.out _).mono ?_
          rintro e wk ⟨rfl, hb⟩
          have KC := Lib.hid (below_trans K4.out.bel hb)
          clear hb K4 x9a x9b x9c x9l x10a x10b x10c x10l
          go_wp2_with fail
          go_ret
          exact OneB.bool rfl KC.out
        | true =>
            have SA := HSA.out (by simp)
            have SB := HSB.out (by simp)
            have HA := Lib.hid SA
            have HB := Lib.hid SB
            clear SA SB
            have HSC := Lib.hid (show ∀ z : CaV, z.ca = joinK a.ca b.ca → SizeK 2 z.ca from fun z hz => hz ▸ joinK_size HVA.out HVB.out HA.out HB.out)
            have HVC := Lib.hid (show ∀ z : CaV, z.ca = joinK a.ca b.ca → validK z.ca = true from fun z hz => hz ▸ joinK_valid HVA.out HVB.out)
            obtain ⟨p, hp⟩ : ∃ p, withinK a.ca b.ca = p := ⟨_, rfl⟩
            obtain ⟨q, hq⟩ : ∃ q, withinK b.ca a.ca = q := ⟨_, rfl⟩
            obtain ⟨r, hr⟩ : ∃ r, sameC a.ca b.ca = r := ⟨_, rfl⟩
            have hpq := within_same HVA.out HVB.out
            rw [hp, hq, hr] at hpq
            have HP := Lib.hid hp
            have HQ := Lib.hid hq
            have HR := Lib.hid hr
            clear hp hq hr
            have split : (p = true ∧ q = true ∧ r = true) ∨ (p = true ∧ q = false ∧ r = false) ∨ (p = false ∧ q = true ∧ r = false) ∨ (p = false ∧ q = false ∧ r = false) := by
              subst hpq; cases p <;> cases q <;> simp
            clear hpq
            go_enter Tryz.func7, Tryz.ntmps7
            go_upto_region 1 with fail
            generalize World.alloc (World.alloc w _) _ = w2 at K0 ⊢
            obtain ⟨x1a, x1b, x1c, x1l⟩ := K0.out.cells4 (g := w.heap.size) (c := a) (by simp)
            obtain ⟨x2a, x2b, x2c, x2l⟩ := K0.out.cells4 (g := w.heap.size + 1) (c := b) (by simp)
            go_wp2_with fail
            refine (lawLight10 a true w2 (K0.out.ok (g := w.heap.size) (c := a) (by simp)) HLA.out).mono ?_
            rintro e w3 ⟨rfl, hb⟩
            have K1 := Lib.hid (show KK w [(w.heap.size, a), (w.heap.size + 1, b)] w3 from K0.out.next hb)
            clear hb K0 x1a x1b x1c x1l x2a x2b x2c x2l
            obtain ⟨x3a, x3b, x3c, x3l⟩ := K1.out.cells4 (g := w.heap.size) (c := a) (by simp)
            obtain ⟨x4a, x4b, x4c, x4l⟩ := K1.out.cells4 (g := w.heap.size + 1) (c := b) (by simp)
            go_wp2_with fail
            refine (lawLight10 b true w3 (K1.out.ok (g := w.heap.size + 1) (c := b) (by simp)) HLB.out).mono ?_
            rintro e w4 ⟨rfl, hb⟩
            have K2 := Lib.hid (show KK w [(w.heap.size, a), (w.heap.size + 1, b)] w4 from K1.out.next hb)
            clear hb K1 x3a x3b x3c x3l x4a x4b x4c x4l
            obtain ⟨x5a, x5b, x5c, x5l⟩ := K2.out.cells4 (g := w.heap.size) (c := a) (by simp)
            obtain ⟨x6a, x6b, x6c, x6l⟩ := K2.out.cells4 (g := w.heap.size + 1) (c := b) (by simp)
            go_wp2_with fail
            refine (valid_j a true 1 w4 (K2.out.ok (g := w.heap.size) (c := a) (by simp)) (HSA.out (by simp)) (by omega) HVA.out).mono ?_
            rintro e w5 ⟨rfl, hb⟩
            have K3 := Lib.hid (show KK w [(w.heap.size, a), (w.heap.size + 1, b)] w5 from K2.out.next hb)
            clear hb K2 x5a x5b x5c x5l x6a x6b x6c x6l
            obtain ⟨x7a, x7b, x7c, x7l⟩ := K3.out.cells4 (g := w.heap.size) (c := a) (by simp)
            obtain ⟨x8a, x8b, x8c, x8l⟩ := K3.out.cells4 (g := w.heap.size + 1) (c := b) (by simp)
            go_wp2_with fail
            refine (valid_j b true 1 w5 (K3.out.ok (g := w.heap.size + 1) (c := b) (by simp)) (HSB.out (by simp)) (by omega) HVB.out).mono ?_
            rintro e w6 ⟨rfl, hb⟩
            have K4 := Lib.hid (show KK w [(w.heap.size, a), (w.heap.size + 1, b)] w6 from K3.out.next hb)
            clear hb K3 x7a x7b x7c x7l x8a x8b x8c x8l
            obtain ⟨x9a, x9b, x9c, x9l⟩ := K4.out.cells4 (g := w.heap.size) (c := a) (by simp)
            obtain ⟨x10a, x10b, x10c, x10l⟩ := K4.out.cells4 (g := w.heap.size + 1) (c := b) (by simp)
            go_wp2_with fail
            refine (join_j a b 1 1 w6 (K4.out.ok (g := w.heap.size) (c := a) (by simp)) (K4.out.ok (g := w.heap.size + 1) (c := b) (by simp)) HA.out HB.out (by omega) (by omega) HVA.out HVB.out).mono ?_
            rintro e w7 ⟨⟨c, rfl, hz, ho⟩, hb⟩
            have KO := Lib.hid (show KK w [(w.heap.size, a), (w.heap.size + 1, b)] w7 from K4.out.next hb)
            have K5 := Lib.hid (show KK w [(w.heap.size, a), (w.heap.size + 1, b), (w7.heap.size, c)] (w7.alloc (.cells #[c.v, c.l, c.i] 28)) from KK.push KO.out c ho.ok _ rfl)
            have Hc := Lib.hid hz
            clear hb hz ho K4 x9a x9b x9c x9l x10a x10b x10c x10l
            obtain ⟨x11a, x11b, x11c, x11l⟩ := KO.out.cells4 (g := w.heap.size) (c := a) (by simp)
            obtain ⟨x12a, x12b, x12c, x12l⟩ := KO.out.cells4 (g := w.heap.size + 1) (c := b) (by simp)
            clear KO
            have HC2 := Lib.hid (HSC.out c Hc.out)
            have HVc := Lib.hid (HVC.out c Hc.out)
            go_wp2_with fail
            refine (valid_j c true 2 _ (K5.out.ok (g := w7.heap.size) (c := c) (by simp)) HC2.out (by omega) HVc.out).mono ?_
            rintro e w8 ⟨rfl, hb⟩
            have K6 := Lib.hid (show KK w [(w.heap.size, a), (w.heap.size + 1, b), (w7.heap.size, c)] w8 from K5.out.next hb)
            clear hb K5 x11a x11b x11c x11l x12a x12b x12c x12l
            obtain ⟨x13a, x13b, x13c, x13l⟩ := K6.out.cells4 (g := w.heap.size) (c := a) (by simp)
            obtain ⟨x14a, x14b, x14c, x14l⟩ := K6.out.cells4 (g := w.heap.size + 1) (c := b) (by simp)
            obtain ⟨x15a, x15b, x15c, x15l⟩ := K6.out.cells4 (g := w7.heap.size) (c := c) (by simp)
            go_wp2_with fail
            refine (joins_j b a c 1 1 _ (K6.out.ok (g := w.heap.size + 1) (c := b) (by simp)) (K6.out.ok (g := w.heap.size) (c := a) (by simp)) (K6.out.ok (g := w7.heap.size) (c := c) (by simp)) HB.out HA.out (by omega) (by omega) HVB.out HVA.out ((joinK_comm HVB.out HVA.out).trans Hc.out.symm)).mono ?_
            rintro e w9 ⟨rfl, hb⟩
            have K7 := Lib.hid (show KK w [(w.heap.size, a), (w.heap.size + 1, b), (w7.heap.size, c)] w9 from K6.out.next hb)
            clear hb K6 x13a x13b x13c x13l x14a x14b x14c x14l x15a x15b x15c x15l
            obtain ⟨x16a, x16b, x16c, x16l⟩ := K7.out.cells4 (g := w.heap.size) (c := a) (by simp)
            obtain ⟨x17a, x17b, x17c, x17l⟩ := K7.out.cells4 (g := w.heap.size + 1) (c := b) (by simp)
            obtain ⟨x18a, x18b, x18c, x18l⟩ := K7.out.cells4 (g := w7.heap.size) (c := c) (by simp)
            go_wp2_with fail
            refine (joins_j a a a 1 1 _ (K7.out.ok (g := w.heap.size) (c := a) (by simp)) (K7.out.ok (g := w.heap.size) (c := a) (by simp)) (K7.out.ok (g := w.heap.size) (c := a) (by simp)) HA.out HA.out (by omega) (by omega) HVA.out HVA.out (joinK_self HVA.out)).mono ?_
            rintro e w10 ⟨rfl, hb⟩
            have K8 := Lib.hid (show KK w [(w.heap.size, a), (w.heap.size + 1, b), (w7.heap.size, c)] w10 from K7.out.next hb)
            clear hb K7 x16a x16b x16c x16l x17a x17b x17c x17l x18a x18b x18c x18l
            obtain ⟨x19a, x19b, x19c, x19l⟩ := K8.out.cells4 (g := w.heap.size) (c := a) (by simp)
            obtain ⟨x20a, x20b, x20c, x20l⟩ := K8.out.cells4 (g := w.heap.size + 1) (c := b) (by simp)
            obtain ⟨x21a, x21b, x21c, x21l⟩ := K8.out.cells4 (g := w7.heap.size) (c := c) (by simp)
            go_wp2_with fail
            refine (within_j a c true 1 2 _ (K8.out.ok (g := w.heap.size) (c := a) (by simp)) (K8.out.ok (g := w7.heap.size) (c := c) (by simp)) HA.out HC2.out (by omega) (by omega) HVA.out HVc.out (withinK_iff.2 (by rw [Hc.out]; exact within_join HVA.out HVB.out))).mono ?_
            rintro e w11 ⟨rfl, hb⟩
            have K9 := Lib.hid (show KK w [(w.heap.size, a), (w.heap.size + 1, b), (w7.heap.size, c)] w11 from K8.out.next hb)
            clear hb K8 x19a x19b x19c x19l x20a x20b x20c x20l x21a x21b x21c x21l
            obtain ⟨x22a, x22b, x22c, x22l⟩ := K9.out.cells4 (g := w.heap.size) (c := a) (by simp)
            obtain ⟨x23a, x23b, x23c, x23l⟩ := K9.out.cells4 (g := w.heap.size + 1) (c := b) (by simp)
            obtain ⟨x24a, x24b, x24c, x24l⟩ := K9.out.cells4 (g := w7.heap.size) (c := c) (by simp)
            go_wp2_with fail
            refine (within_j b c true 1 2 _ (K9.out.ok (g := w.heap.size + 1) (c := b) (by simp)) (K9.out.ok (g := w7.heap.size) (c := c) (by simp)) HB.out HC2.out (by omega) (by omega) HVB.out HVc.out (withinK_iff.2 (by rw [Hc.out]; exact within_join2 HVA.out HVB.out))).mono ?_
            rintro e w12 ⟨rfl, hb⟩
            have K10 := Lib.hid (show KK w [(w.heap.size, a), (w.heap.size + 1, b), (w7.heap.size, c)] w12 from K9.out.next hb)
            clear hb K9 x22a x22b x22c x22l x23a x23b x23c x23l x24a x24b x24c x24l
            obtain ⟨x25a, x25b, x25c, x25l⟩ := K10.out.cells4 (g := w.heap.size) (c := a) (by simp)
            obtain ⟨x26a, x26b, x26c, x26l⟩ := K10.out.cells4 (g := w.heap.size + 1) (c := b) (by simp)
            obtain ⟨x27a, x27b, x27c, x27l⟩ := K10.out.cells4 (g := w7.heap.size) (c := c) (by simp)
            have HCB := Lib.hid (show sameC c.ca b.ca = p from by rw [Hc.out]; exact HP.out)
            rcases split with ⟨rfl, rfl, rfl⟩ | ⟨rfl, rfl, rfl⟩ | ⟨rfl, rfl, rfl⟩ | ⟨rfl, rfl, rfl⟩
            all_goals
              go_wp2_with fail
              refine (jwithin_j a b _ 1 1 _ (K10.out.ok (g := w.heap.size) (c := a) (by simp)) (K10.out.ok (g := w.heap.size + 1) (c := b) (by simp)) HA.out HB.out (by omega) (by omega) HVA.out HVB.out HP.out).mono ?_
              rintro e w13 ⟨rfl, hb⟩
              have K11 := Lib.hid (show KK w [(w.heap.size, a), (w.heap.size + 1, b), (w7.heap.size, c)] w13 from K10.out.next hb)
              clear hb K10 x25a x25b x25c x25l x26a x26b x26c x26l x27a x27b x27c x27l
              obtain ⟨x28a, x28b, x28c, x28l⟩ := K11.out.cells4 (g := w.heap.size) (c := a) (by simp)
              obtain ⟨x29a, x29b, x29c, x29l⟩ := K11.out.cells4 (g := w.heap.size + 1) (c := b) (by simp)
              obtain ⟨x30a, x30b, x30c, x30l⟩ := K11.out.cells4 (g := w7.heap.size) (c := c) (by simp)
              go_wp2_with fail
              refine (jwithin_j b a _ 1 1 _ (K11.out.ok (g := w.heap.size + 1) (c := b) (by simp)) (K11.out.ok (g := w.heap.size) (c := a) (by simp)) HB.out HA.out (by omega) (by omega) HVB.out HVA.out HQ.out).mono ?_
              rintro e w14 ⟨rfl, hb⟩
              have K12 := Lib.hid (show KK w [(w.heap.size, a), (w.heap.size + 1, b), (w7.heap.size, c)] w14 from K11.out.next hb)
              clear hb K11 x28a x28b x28c x28l x29a x29b x29c x29l x30a x30b x30c x30l
              obtain ⟨x31a, x31b, x31c, x31l⟩ := K12.out.cells4 (g := w.heap.size) (c := a) (by simp)
              obtain ⟨x32a, x32b, x32c, x32l⟩ := K12.out.cells4 (g := w.heap.size + 1) (c := b) (by simp)
              obtain ⟨x33a, x33b, x33c, x33l⟩ := K12.out.cells4 (g := w7.heap.size) (c := c) (by simp)
              go_wp2_with fail
              refine (equal_j a b _ 1 1 _ (K12.out.ok (g := w.heap.size) (c := a) (by simp)) (K12.out.ok (g := w.heap.size + 1) (c := b) (by simp)) HA.out HB.out (by omega) (by omega) HR.out).mono ?_
              rintro e w15 ⟨rfl, hb⟩
              have K13 := Lib.hid (show KK w [(w.heap.size, a), (w.heap.size + 1, b), (w7.heap.size, c)] w15 from K12.out.next hb)
              clear hb K12 x31a x31b x31c x31l x32a x32b x32c x32l x33a x33b x33c x33l
              obtain ⟨x34a, x34b, x34c, x34l⟩ := K13.out.cells4 (g := w.heap.size) (c := a) (by simp)
              obtain ⟨x35a, x35b, x35c, x35l⟩ := K13.out.cells4 (g := w.heap.size + 1) (c := b) (by simp)
              obtain ⟨x36a, x36b, x36c, x36l⟩ := K13.out.cells4 (g := w7.heap.size) (c := c) (by simp)
              go_wp2_with fail
              refine (equal_j c b _ 2 1 _ (K13.out.ok (g := w7.heap.size) (c := c) (by simp)) (K13.out.ok (g := w.heap.size + 1) (c := b) (by simp)) HC2.out HB.out (by omega) (by omega) HCB.out).mono ?_
              rintro e w16 ⟨rfl, hb⟩
              have K14 := Lib.hid (show KK w [(w.heap.size, a), (w.heap.size + 1, b), (w7.heap.size, c)] w16 from K13.out.next hb)
              clear hb K13 x34a x34b x34c x34l x35a x35b x35c x35l x36a x36b x36c x36l
              obtain ⟨x37a, x37b, x37c, x37l⟩ := K14.out.cells4 (g := w.heap.size) (c := a) (by simp)
              obtain ⟨x38a, x38b, x38c, x38l⟩ := K14.out.cells4 (g := w.heap.size + 1) (c := b) (by simp)
              obtain ⟨x39a, x39b, x39c, x39l⟩ := K14.out.cells4 (g := w7.heap.size) (c := c) (by simp)
              go_wp2_with fail
              refine (HKN.out _).mono ?_
              rintro e wk ⟨rfl, hb⟩
              have KC := Lib.hid (below_trans K14.out.bel hb)
              clear hb K14 x37a x37b x37c x37l x38a x38b x38c x38l x39a x39b x39c x39l
              go_wp2_with fail
              go_ret
              exact OneB.bool rfl KC.out

end Go.Proofs.YtfjbocipjmpogaaGreat
