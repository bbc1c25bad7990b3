/- The law JoinJoins, from what known() is (written by mkLJ.py). -/
import Derived.Test.YtfjbocipjmpogaaGreatMBO
import Derived.Test.YtfjbocipjmpogaaGreatMBJ
import Derived.Test.YtfjbocipjmpogaaGreatMBK
namespace Go.Proofs.YtfjbocipjmpogaaGreat
open Go.RowKit

def jj5P (a b : CaV) : Nat → Sp
  | 0 => .eq (mkC a)
  | 1 => .cart a.ca
  | 2 => .eq (mkC b)
  | 3 => .cart b.ca
  | 4 => .cbox
  | 5 => .cbox
  | _ => .any
def jj5B : Nat → Option Nat
  | 6 => some 4
  | 7 => some 5
  | _ => none
def jj5Q (a b : CaV) : Nat → Sq
  | 6 => .cart a.ca
  | 7 => .cart b.ca
  | _ => .none
theorem jj5P_hp {a b : CaV} : ∀ j, (jj5P a b j).calm = true := by
  intro j; unfold jj5P; split <;> rfl
theorem jj5Q_hp {a b : CaV} : ∀ j, (jj5Q a b j).calm = true := by
  intro j; unfold jj5Q; split <;> rfl
theorem jj5B_cases {j k : Nat} (h : jj5B j = some k) : (∀ a b, jj5P a b k = .cbox ∧ ∃ x, jj5Q a b j = .cart x) ∧ 6 ≤ j ∧ j ≤ 7 ∧ j = k + 2 := by
  unfold jj5B at h
  split at h
  all_goals first
    | (cases h; exact ⟨fun _ _ => ⟨rfl, _, rfl⟩, by omega, by omega, rfl⟩)
    | cases h
def jj7P (a b c : CaV) : Nat → Sp
  | 0 => .eq (mkC c)
  | 1 => .eq (mkC a)
  | 2 => .eq (mkC b)
  | 3 => .cart (joinK a.ca b.ca)
  | 4 => .eq (.bool true)
  | 5 => .eq (.bool false)
  | 6 => .eq (.bool false)
  | 7 => .eq (.int .i64 0)
  | 8 => .eq (.bool false)
  | 9 => .eq (.bool false)
  | _ => .any
set_option maxRecDepth 100000 in
set_option maxHeartbeats 8000000 in
theorem lawJoinJoins11 (KN : KnownJ) (a b : CaV) (w : World) (ha : CaOK w a) (hb : CaOK w b) :
    Calls Tryz.prog 3 #[mkC a, mkC b] w (TrueB w) := by
  have K0a := KK.new w a ha
  have K0b := KK.push (L := [(w.heap.size, a)]) K0a b (CaOK.below hb K0a.bel) (w.heap.size + 1) (by simp)
  have K0 := Lib.hid (show KK w [(w.heap.size, a), (w.heap.size + 1, b)] _ from K0b)
  have HKN := Lib.hid KN
  clear KN ha hb K0a K0b
  obtain ⟨la, hla⟩ : ∃ l, lightK a = l := ⟨_, rfl⟩
  have HLa := Lib.hid hla
  obtain ⟨va, hva⟩ : ∃ v, validK a.ca = v := ⟨_, rfl⟩
  have HVa := Lib.hid hva
  clear hla hva
  have HSa := Lib.hid (show la = true → SizeK 1 a.ca from fun h => lightK_size (HLa.out.trans h))
  obtain ⟨lb, hlb⟩ : ∃ l, lightK b = l := ⟨_, rfl⟩
  have HLb := Lib.hid hlb
  obtain ⟨vb, hvb⟩ : ∃ v, validK b.ca = v := ⟨_, rfl⟩
  have HVb := Lib.hid hvb
  clear hlb hvb
  have HSb := Lib.hid (show lb = true → SizeK 1 b.ca from fun h => lightK_size (HLb.out.trans h))
  cases la with
  | false =>
    go_enter Tryz.func3, Tryz.ntmps3
    go_upto_region 1 with fail
    generalize World.alloc (World.alloc w _) _ = w2 at K0 ⊢
    obtain ⟨x1a, x1b, x1c, x1l⟩ := K0.out.cells4 (g := w.heap.size) (c := a) (by simp)
    obtain ⟨x2a, x2b, x2c, x2l⟩ := K0.out.cells4 (g := w.heap.size + 1) (c := b) (by simp)
    go_wp2_with fail
    refine (lawLight10 a false w2 (K0.out.ok (g := w.heap.size) (c := a) (by simp)) HLa.out).mono ?_
    rintro e w3 ⟨rfl, hb⟩
    have K1 := Lib.hid (show KK w [(w.heap.size, a), (w.heap.size + 1, b)] w3 from K0.out.next hb)
    clear hb K0 x1a x1b x1c x1l x2a x2b x2c x2l
    obtain ⟨x3a, x3b, x3c, x3l⟩ := K1.out.cells4 (g := w.heap.size) (c := a) (by simp)
    obtain ⟨x4a, x4b, x4c, x4l⟩ := K1.out.cells4 (g := w.heap.size + 1) (c := b) (by simp)
    go_wp2_with fail
    refine (HKN.out _).mono ?_
    rintro e wk ⟨rfl, hb⟩
    have KC := Lib.hid (below_trans K1.out.bel hb)
    clear hb K1 x3a x3b x3c x3l x4a x4b x4c x4l
    go_wp2_with fail
    go_ret
    exact OneB.bool rfl KC.out
  | true =>
    cases lb with
    | false =>
      go_enter Tryz.func3, Tryz.ntmps3
      go_upto_region 1 with fail
      generalize World.alloc (World.alloc w _) _ = w2 at K0 ⊢
      obtain ⟨x1a, x1b, x1c, x1l⟩ := K0.out.cells4 (g := w.heap.size) (c := a) (by simp)
      obtain ⟨x2a, x2b, x2c, x2l⟩ := K0.out.cells4 (g := w.heap.size + 1) (c := b) (by simp)
      go_wp2_with fail
      refine (lawLight10 a true w2 (K0.out.ok (g := w.heap.size) (c := a) (by simp)) HLa.out).mono ?_
      rintro e w3 ⟨rfl, hb⟩
      have K1 := Lib.hid (show KK w [(w.heap.size, a), (w.heap.size + 1, b)] w3 from K0.out.next hb)
      clear hb K0 x1a x1b x1c x1l x2a x2b x2c x2l
      obtain ⟨x3a, x3b, x3c, x3l⟩ := K1.out.cells4 (g := w.heap.size) (c := a) (by simp)
      obtain ⟨x4a, x4b, x4c, x4l⟩ := K1.out.cells4 (g := w.heap.size + 1) (c := b) (by simp)
      go_wp2_with fail
      refine (lawLight10 b false w3 (K1.out.ok (g := w.heap.size + 1) (c := b) (by simp)) HLb.out).mono ?_
      rintro e w4 ⟨rfl, hb⟩
      have K2 := Lib.hid (show KK w [(w.heap.size, a), (w.heap.size + 1, b)] w4 from K1.out.next hb)
      clear hb K1 x3a x3b x3c x3l x4a x4b x4c x4l
      obtain ⟨x5a, x5b, x5c, x5l⟩ := K2.out.cells4 (g := w.heap.size) (c := a) (by simp)
      obtain ⟨x6a, x6b, x6c, x6l⟩ := K2.out.cells4 (g := w.heap.size + 1) (c := b) (by simp)
      go_wp2_with fail
      refine (HKN.out _).mono ?_
      rintro e wk ⟨rfl, hb⟩
      have KC := Lib.hid (below_trans K2.out.bel hb)
      clear hb K2 x5a x5b x5c x5l x6a x6b x6c x6l
      go_wp2_with fail
      go_ret
      exact OneB.bool rfl KC.out
    | true =>
      cases va with
      | false =>
        go_enter Tryz.func3, Tryz.ntmps3
        go_upto_region 1 with fail
        generalize World.alloc (World.alloc w _) _ = w2 at K0 ⊢
        obtain ⟨x1a, x1b, x1c, x1l⟩ := K0.out.cells4 (g := w.heap.size) (c := a) (by simp)
        obtain ⟨x2a, x2b, x2c, x2l⟩ := K0.out.cells4 (g := w.heap.size + 1) (c := b) (by simp)
        go_wp2_with fail
        refine (lawLight10 a true w2 (K0.out.ok (g := w.heap.size) (c := a) (by simp)) HLa.out).mono ?_
        rintro e w3 ⟨rfl, hb⟩
        have K1 := Lib.hid (show KK w [(w.heap.size, a), (w.heap.size + 1, b)] w3 from K0.out.next hb)
        clear hb K0 x1a x1b x1c x1l x2a x2b x2c x2l
        obtain ⟨x3a, x3b, x3c, x3l⟩ := K1.out.cells4 (g := w.heap.size) (c := a) (by simp)
        obtain ⟨x4a, x4b, x4c, x4l⟩ := K1.out.cells4 (g := w.heap.size + 1) (c := b) (by simp)
        go_wp2_with fail
        refine (lawLight10 b true w3 (K1.out.ok (g := w.heap.size + 1) (c := b) (by simp)) HLb.out).mono ?_
        rintro e w4 ⟨rfl, hb⟩
        have K2 := Lib.hid (show KK w [(w.heap.size, a), (w.heap.size + 1, b)] w4 from K1.out.next hb)
        clear hb K1 x3a x3b x3c x3l x4a x4b x4c x4l
        obtain ⟨x5a, x5b, x5c, x5l⟩ := K2.out.cells4 (g := w.heap.size) (c := a) (by simp)
        obtain ⟨x6a, x6b, x6c, x6l⟩ := K2.out.cells4 (g := w.heap.size + 1) (c := b) (by simp)
        go_wp2_with fail
        refine (rvalid_j a false 1 w4 (K2.out.ok (g := w.heap.size) (c := a) (by simp)) (HSa.out (by simp)) (by omega) HVa.out).mono ?_
        rintro e w5 ⟨rfl, hb⟩
        have K3 := Lib.hid (show KK w [(w.heap.size, a), (w.heap.size + 1, b)] w5 from K2.out.next hb)
        clear hb K2 x5a x5b x5c x5l x6a x6b x6c x6l
        obtain ⟨x7a, x7b, x7c, x7l⟩ := K3.out.cells4 (g := w.heap.size) (c := a) (by simp)
        obtain ⟨x8a, x8b, x8c, x8l⟩ := K3.out.cells4 (g := w.heap.size + 1) (c := b) (by simp)
        have HO := Lib.hid (show okJ a.ca b.ca = false from by unfold okJ; rw [HVa.out]; rfl)
        go_wp2_with fail
        refine (joins_bad a b zC 1 1 _ (K3.out.ok (g := w.heap.size) (c := a) (by simp)) (K3.out.ok (g := w.heap.size + 1) (c := b) (by simp)) (zC_ok _) (HSa.out (by simp)) (HSb.out (by simp)) (by omega) (by omega) HO.out rfl).mono ?_
        rintro e w6 ⟨rfl, hb⟩
        have K4 := Lib.hid (show KK w [(w.heap.size, a), (w.heap.size + 1, b)] w6 from K3.out.next hb)
        clear hb K3 x7a x7b x7c x7l x8a x8b x8c x8l
        obtain ⟨x9a, x9b, x9c, x9l⟩ := K4.out.cells4 (g := w.heap.size) (c := a) (by simp)
        obtain ⟨x10a, x10b, x10c, x10l⟩ := K4.out.cells4 (g := w.heap.size + 1) (c := b) (by simp)
        go_wp2_with fail
        refine (HKN.out _).mono ?_
        rintro e wk ⟨rfl, hb⟩
        have KC := Lib.hid (below_trans K4.out.bel hb)
        clear hb K4 x9a x9b x9c x9l x10a x10b x10c x10l
        go_wp2_with fail
        go_ret
        exact OneB.bool rfl KC.out
      | true =>
        cases vb with
        | false =>
          go_enter Tryz.func3, Tryz.ntmps3
          go_upto_region 1 with fail
          generalize World.alloc (World.alloc w _) _ = w2 at K0 ⊢
          obtain ⟨x1a, x1b, x1c, x1l⟩ := K0.out.cells4 (g := w.heap.size) (c := a) (by simp)
          obtain ⟨x2a, x2b, x2c, x2l⟩ := K0.out.cells4 (g := w.heap.size + 1) (c := b) (by simp)
          go_wp2_with fail
          refine (lawLight10 a true w2 (K0.out.ok (g := w.heap.size) (c := a) (by simp)) HLa.out).mono ?_
          rintro e w3 ⟨rfl, hb⟩
          have K1 := Lib.hid (show KK w [(w.heap.size, a), (w.heap.size + 1, b)] w3 from K0.out.next hb)
          clear hb K0 x1a x1b x1c x1l x2a x2b x2c x2l
          obtain ⟨x3a, x3b, x3c, x3l⟩ := K1.out.cells4 (g := w.heap.size) (c := a) (by simp)
          obtain ⟨x4a, x4b, x4c, x4l⟩ := K1.out.cells4 (g := w.heap.size + 1) (c := b) (by simp)
          go_wp2_with fail
          refine (lawLight10 b true w3 (K1.out.ok (g := w.heap.size + 1) (c := b) (by simp)) HLb.out).mono ?_
          rintro e w4 ⟨rfl, hb⟩
          have K2 := Lib.hid (show KK w [(w.heap.size, a), (w.heap.size + 1, b)] w4 from K1.out.next hb)
          clear hb K1 x3a x3b x3c x3l x4a x4b x4c x4l
          obtain ⟨x5a, x5b, x5c, x5l⟩ := K2.out.cells4 (g := w.heap.size) (c := a) (by simp)
          obtain ⟨x6a, x6b, x6c, x6l⟩ := K2.out.cells4 (g := w.heap.size + 1) (c := b) (by simp)
          go_wp2_with fail
          refine (rvalid_j a true 1 w4 (K2.out.ok (g := w.heap.size) (c := a) (by simp)) (HSa.out (by simp)) (by omega) HVa.out).mono ?_
          rintro e w5 ⟨rfl, hb⟩
          have K3 := Lib.hid (show KK w [(w.heap.size, a), (w.heap.size + 1, b)] w5 from K2.out.next hb)
          clear hb K2 x5a x5b x5c x5l x6a x6b x6c x6l
          obtain ⟨x7a, x7b, x7c, x7l⟩ := K3.out.cells4 (g := w.heap.size) (c := a) (by simp)
          obtain ⟨x8a, x8b, x8c, x8l⟩ := K3.out.cells4 (g := w.heap.size + 1) (c := b) (by simp)
          go_wp2_with fail
          refine (rvalid_j b false 1 w5 (K3.out.ok (g := w.heap.size + 1) (c := b) (by simp)) (HSb.out (by simp)) (by omega) HVb.out).mono ?_
          rintro e w6 ⟨rfl, hb⟩
          have K4 := Lib.hid (show KK w [(w.heap.size, a), (w.heap.size + 1, b)] w6 from K3.out.next hb)
          clear hb K3 x7a x7b x7c x7l x8a x8b x8c x8l
          obtain ⟨x9a, x9b, x9c, x9l⟩ := K4.out.cells4 (g := w.heap.size) (c := a) (by simp)
          obtain ⟨x10a, x10b, x10c, x10l⟩ := K4.out.cells4 (g := w.heap.size + 1) (c := b) (by simp)
          have HO := Lib.hid (show okJ a.ca b.ca = false from by unfold okJ; rw [HVa.out, HVb.out]; rfl)
          go_wp2_with fail
          refine (joins_bad a b zC 1 1 _ (K4.out.ok (g := w.heap.size) (c := a) (by simp)) (K4.out.ok (g := w.heap.size + 1) (c := b) (by simp)) (zC_ok _) (HSa.out (by simp)) (HSb.out (by simp)) (by omega) (by omega) HO.out rfl).mono ?_
          rintro e w7 ⟨rfl, hb⟩
          have K5 := Lib.hid (show KK w [(w.heap.size, a), (w.heap.size + 1, b)] w7 from K4.out.next hb)
          clear hb K4 x9a x9b x9c x9l x10a x10b x10c x10l
          obtain ⟨x11a, x11b, x11c, x11l⟩ := K5.out.cells4 (g := w.heap.size) (c := a) (by simp)
          obtain ⟨x12a, x12b, x12c, x12l⟩ := K5.out.cells4 (g := w.heap.size + 1) (c := b) (by simp)
          go_wp2_with fail
          refine (HKN.out _).mono ?_
          rintro e wk ⟨rfl, hb⟩
          have KC := Lib.hid (below_trans K5.out.bel hb)
          clear hb K5 x11a x11b x11c x11l x12a x12b x12c x12l
          go_wp2_with fail
          go_ret
          exact OneB.bool rfl KC.out
        | true =>
            have Ha := Lib.hid (HSa.out (by simp))
            have Hb := Lib.hid (HSb.out (by simp))
            have HSC := Lib.hid (show ∀ z : CaV, z.ca = joinK a.ca b.ca → SizeK 2 z.ca from fun z hz => hz ▸ joinK_size HVa.out HVb.out Ha.out Hb.out)
            have HCJ := Lib.hid (show SizeK 2 (joinK a.ca b.ca) from joinK_size HVa.out HVb.out Ha.out Hb.out)
            go_enter Tryz.func3, Tryz.ntmps3
            go_upto_region 1 with fail
            generalize World.alloc (World.alloc w _) _ = w2 at K0 ⊢
            obtain ⟨x1a, x1b, x1c, x1l⟩ := K0.out.cells4 (g := w.heap.size) (c := a) (by simp)
            obtain ⟨x2a, x2b, x2c, x2l⟩ := K0.out.cells4 (g := w.heap.size + 1) (c := b) (by simp)
            go_wp2_with fail
            refine (lawLight10 a true w2 (K0.out.ok (g := w.heap.size) (c := a) (by simp)) HLa.out).mono ?_
            rintro e w3 ⟨rfl, hb⟩
            have K1 := Lib.hid (show KK w [(w.heap.size, a), (w.heap.size + 1, b)] w3 from K0.out.next hb)
            clear hb K0 x1a x1b x1c x1l x2a x2b x2c x2l
            obtain ⟨x3a, x3b, x3c, x3l⟩ := K1.out.cells4 (g := w.heap.size) (c := a) (by simp)
            obtain ⟨x4a, x4b, x4c, x4l⟩ := K1.out.cells4 (g := w.heap.size + 1) (c := b) (by simp)
            go_wp2_with fail
            refine (lawLight10 b true w3 (K1.out.ok (g := w.heap.size + 1) (c := b) (by simp)) HLb.out).mono ?_
            rintro e w4 ⟨rfl, hb⟩
            have K2 := Lib.hid (show KK w [(w.heap.size, a), (w.heap.size + 1, b)] w4 from K1.out.next hb)
            clear hb K1 x3a x3b x3c x3l x4a x4b x4c x4l
            obtain ⟨x5a, x5b, x5c, x5l⟩ := K2.out.cells4 (g := w.heap.size) (c := a) (by simp)
            obtain ⟨x6a, x6b, x6c, x6l⟩ := K2.out.cells4 (g := w.heap.size + 1) (c := b) (by simp)
            go_wp2_with fail
            refine (rvalid_j a true 1 w4 (K2.out.ok (g := w.heap.size) (c := a) (by simp)) (HSa.out (by simp)) (by omega) HVa.out).mono ?_
            rintro e w5 ⟨rfl, hb⟩
            have K3 := Lib.hid (show KK w [(w.heap.size, a), (w.heap.size + 1, b)] w5 from K2.out.next hb)
            clear hb K2 x5a x5b x5c x5l x6a x6b x6c x6l
            obtain ⟨x7a, x7b, x7c, x7l⟩ := K3.out.cells4 (g := w.heap.size) (c := a) (by simp)
            obtain ⟨x8a, x8b, x8c, x8l⟩ := K3.out.cells4 (g := w.heap.size + 1) (c := b) (by simp)
            go_wp2_with fail
            refine (rvalid_j b true 1 w5 (K3.out.ok (g := w.heap.size + 1) (c := b) (by simp)) (HSb.out (by simp)) (by omega) HVb.out).mono ?_
            rintro e w6 ⟨rfl, hb⟩
            have K4 := Lib.hid (show KK w [(w.heap.size, a), (w.heap.size + 1, b)] w6 from K3.out.next hb)
            clear hb K3 x7a x7b x7c x7l x8a x8b x8c x8l
            obtain ⟨x9a, x9b, x9c, x9l⟩ := K4.out.cells4 (g := w.heap.size) (c := a) (by simp)
            obtain ⟨x10a, x10b, x10c, x10l⟩ := K4.out.cells4 (g := w.heap.size + 1) (c := b) (by simp)
            clear HLa HLb HSa HSb
            clear x9a x9b x9c x9l x10a x10b x10c x10l
            go_upto_region 5 with fail
            have KK0 : ∀ W, Below w6.heap.size w6 W → KB w [(w.heap.size, a), (w.heap.size + 1, b)] [] W := fun W hb => ⟨K4.out.next hb, fun p hp => by cases hp⟩
            have hkp : ∀ (z : Nat) (L : Nat → Bool) (W W' : World), Below w6.heap.size w6 W → BelW W W' → KeepsR (sqS w6 jj5B (jj5P a b) (jj5Q a b)) L W W' ∧ Below w6.heap.size w6 W' := fun _ _ _ _ h hb => sq_keep h hb
            refine wp_region_sq (bx := jj5B) (sp := jj5P a b) (sq := jj5Q a b) (by kernel_rfl) (by kernel_rfl) (by kernel_rfl) (dst_small (n := 66) (by kernel_rfl)) (fun j k h => by
                obtain ⟨_, h1, h2, _⟩ := jj5B_cases h
                obtain rfl | rfl : j = 6 ∨ j = 7 := by omega
                all_goals rfl) (fun j j' k h1 h2 => by have e1 := (jj5B_cases h1).2.2; have e2 := (jj5B_cases h2).2.2; omega) (fun j k h => (jj5B_cases h).1 a b) jj5P_hp jj5Q_hp ?_ ?_
            ·
              refine ⟨?_, ?_, ?_, ?_, ?_, ?_, ?_, ?_, trivial⟩
              · refine StepR.pure rfl rfl (fun j h => by have := (jj5B_cases h).2; omega) (fun W => Below.refl _ W) (hkp 0) fun L A W hI hk hd => ?_
                have e2 : A.tmps[2]?.getD undef = .pointer (some ⟨w.heap.size, 0, none⟩) := hI.at 2 (by kernel_rfl)
                obtain ⟨c0, c1, c2, _⟩ := (KK0 W hI.glob).ca (g := w.heap.size) (c := a) (by simp)
                exact ⟨rfl, mkC a, by go_simp, rfl⟩
              · refine StepR.call rfl rfl (fun j h => by have := (jj5B_cases h).2; omega) (hkp 1) fun L A W hI hk hd => ?_
                obtain ⟨_, e33, rfl⟩ := hI.get 0 33 (hd 0 rfl) rfl
                refine ⟨rfl, 12, #[mkC a], by go_simp, (refCopy10 a W ((KK0 W hI.glob).ok (g := w.heap.size) (c := a) (by simp)) Ha.out.cc).mono ?_⟩
                rintro e W' ⟨z, rfl, hz, rv, rl, ri, hb⟩
                exact ⟨_, rfl, hb, z, rfl, hz, RowC.holds (row_ofJ rv (of_caJ hz).1), RowC.holds (row_ofJ rl (of_caJ hz).2.1), ri.holds⟩
              · refine StepR.pure rfl rfl (fun j h => by have := (jj5B_cases h).2; omega) (fun W => Below.refl _ W) (hkp 2) fun L A W hI hk hd => ?_
                have e3 : A.tmps[3]?.getD undef = .pointer (some ⟨w.heap.size + 1, 0, none⟩) := hI.at 3 (by kernel_rfl)
                obtain ⟨c0, c1, c2, _⟩ := (KK0 W hI.glob).ca (g := w.heap.size + 1) (c := b) (by simp)
                exact ⟨rfl, mkC b, by go_simp, rfl⟩
              · refine StepR.call rfl rfl (fun j h => by have := (jj5B_cases h).2; omega) (hkp 3) fun L A W hI hk hd => ?_
                obtain ⟨_, e35, rfl⟩ := hI.get 2 35 (hd 2 rfl) rfl
                refine ⟨rfl, 12, #[mkC b], by go_simp, (refCopy10 b W ((KK0 W hI.glob).ok (g := w.heap.size + 1) (c := b) (by simp)) Hb.out.cc).mono ?_⟩
                rintro e W' ⟨z, rfl, hz, rv, rl, ri, hb⟩
                exact ⟨_, rfl, hb, z, rfl, hz, RowC.holds (row_ofJ rv (of_caJ hz).1), RowC.holds (row_ofJ rl (of_caJ hz).2.1), ri.holds⟩
              · refine StepR.boxed rfl rfl (fun W o => (Below.refl _ W).alloc (Nat.le_refl _) o) (hkp 4) fun L A W hI => ?_
                exact ⟨rfl, .cells #[.slice none 0 0, .slice none 0 0, .slice none 0 0] 28, by go_simp, W.heap.size, zC, rfl, hI.glob.size, BlkC.new W zC⟩
              · refine StepR.boxed rfl rfl (fun W o => (Below.refl _ W).alloc (Nat.le_refl _) o) (hkp 5) fun L A W hI => ?_
                exact ⟨rfl, .cells #[.slice none 0 0, .slice none 0 0, .slice none 0 0] 28, by go_simp, W.heap.size, zC, rfl, hI.glob.size, BlkC.new W zC⟩
              · refine StepR.store rfl rfl rfl fun L A W hI hd => ?_
                obtain ⟨_, e5, b5, d5, rfl, hn5, hB5⟩ := hI.get 4 5 (hd 4 rfl) rfl
                obtain ⟨_, e34, z34, rfl, hz34, ho34⟩ := hI.get 1 34 (hd 1 rfl) rfl
                obtain ⟨t1, t2, t3⟩ := store_cart hB5 ho34
                obtain ⟨fz0, fz1, fz2⟩ := BlkC.frozens hB5
                have x0 := hB5.cell0
                have x1 := hB5.cell1
                have x2 := hB5.cell2
                refine ⟨rfl, b5, 5, _, rfl, hd 4 rfl, by rw [eval_tmp]; exact e5, ?_, t1, below_fill hI.glob hn5 _ _ _, b5, z34, rfl, t2, hz34, t3⟩
                clear t1 t2 t3 hB5
                go_simp
              · refine StepR.store rfl rfl rfl fun L A W hI hd => ?_
                obtain ⟨_, e6, b6, d6, rfl, hn6, hB6⟩ := hI.get 5 6 (hd 5 rfl) rfl
                obtain ⟨_, e36, z36, rfl, hz36, ho36⟩ := hI.get 3 36 (hd 3 rfl) rfl
                obtain ⟨t1, t2, t3⟩ := store_cart hB6 ho36
                obtain ⟨fz0, fz1, fz2⟩ := BlkC.frozens hB6
                have x0 := hB6.cell0
                have x1 := hB6.cell1
                have x2 := hB6.cell2
                refine ⟨rfl, b6, 6, _, rfl, hd 5 rfl, by rw [eval_tmp]; exact e6, ?_, t1, below_fill hI.glob hn6 _ _ _, b6, z36, rfl, t2, hz36, t3⟩
                clear t1 t2 t3 hB6
                go_simp
            · intro A W L hL hI
              obtain ⟨gX, x, eX, hBX, hzX, hoX⟩ := (hI.box 6 4 5 (hL 6 (by decide)) rfl rfl).2
              obtain ⟨gY, y, eY, hBY, hzY, hoY⟩ := (hI.box 7 5 6 (hL 7 (by decide)) rfl rfl).2
              have HX := Lib.hid hzX
              have HY := Lib.hid hzY
              have KM := KK0 W hI.glob
              have KX := Lib.hid (show KK w [(w.heap.size, a), (w.heap.size + 1, b), (gX, x), (gY, y)] W from ⟨fun p hp => by
                simp only [List.mem_cons, List.not_mem_nil, or_false] at hp
                rcases hp with rfl | rfl | rfl | rfl
                · exact KM.kk.box _ (by simp)
                · exact KM.kk.box _ (by simp)
                · exact ⟨hBX, hoX⟩
                · exact ⟨hBY, hoY⟩, KM.kk.bel⟩)
              rw [hI.frame]
              simp only [List.filterMap, List.foldl]
              rw [eX, eY]
              generalize A.eval (.tmp 33) = v33
              generalize A.eval (.tmp 34) = v34
              generalize A.eval (.tmp 35) = v35
              generalize A.eval (.tmp 36) = v36
              clear hI hL eX eY hBX hBY hzX hzY hoX hoY KM KK0 hkp K4
              simp only [List.setIfInBounds_toArray, List.set_cons_succ, List.set_cons_zero]
              have SX := Lib.hid (show SizeK 1 x.ca from by rw [HX.out]; exact Ha.out)
              have SY := Lib.hid (show SizeK 1 y.ca from by rw [HY.out]; exact Hb.out)
              have VX := Lib.hid (show validK x.ca = true from by rw [HX.out]; exact HVa.out)
              have VY := Lib.hid (show validK y.ca = true from by rw [HY.out]; exact HVb.out)
              generalize hWW : W = wj at *
              clear hWW
              have K50 := KX
              obtain ⟨x11a, x11b, x11c, x11l⟩ := K50.out.cells4 (g := w.heap.size) (c := a) (by simp)
              obtain ⟨x12a, x12b, x12c, x12l⟩ := K50.out.cells4 (g := w.heap.size + 1) (c := b) (by simp)
              obtain ⟨x13a, x13b, x13c, x13l⟩ := K50.out.cells4 (g := gX) (c := x) (by simp)
              obtain ⟨x14a, x14b, x14c, x14l⟩ := K50.out.cells4 (g := gY) (c := y) (by simp)
              go_wp2_with fail
              refine (join_j x y 1 1 wj (K50.out.ok (g := gX) (c := x) (by simp)) (K50.out.ok (g := gY) (c := y) (by simp)) SX.out SY.out (by omega) (by omega) VX.out VY.out).mono ?_
              rintro e w20 ⟨⟨c, rfl, hz, ho⟩, hb⟩
              have Hc := Lib.hid (show c.ca = joinK a.ca b.ca from by rw [hz, HX.out, HY.out])
              have HC2 := Lib.hid (HSC.out c Hc.out)
              have HB20 := Lib.hid hb
              have HAL := Lib.hid ((Below.refl w20.heap.size w20).alloc (Nat.le_refl _) (.cells #[c.v, c.l, c.i] 28))
              have HOC := Lib.hid (OwnC.below ho HAL.out)
              have K51 := Lib.hid (show KK w [(w.heap.size, a), (w.heap.size + 1, b), (gX, x), (gY, y), (w20.heap.size, c)] (w20.alloc (.cells #[c.v, c.l, c.i] 28)) from KK.push (K50.out.next hb) c ho.ok _ rfl)
              clear hz ho hb x11a x11b x11c x11l x12a x12b x12c x12l x13a x13b x13c x13l x14a x14b x14c x14l
              go_upto_region 7 with fail
              have HGC := Lib.hid (show w20.heap.size < (w20.alloc (.cells #[c.v, c.l, c.i] 28)).heap.size from by simp)
              generalize World.alloc w20 _ = w21 at HAL HOC K51 HGC ⊢
              have HS0 := Lib.hid (show wj.heap.size ≤ w20.heap.size from HB20.out.size)
              generalize w20.heap.size = GC at K51 HAL HGC HS0 ⊢
              have KK0 : ∀ W, Below w21.heap.size w21 W → KB w [(w.heap.size, a), (w.heap.size + 1, b), (gX, x), (gY, y), (GC, c)] [] W := fun W hb => ⟨K51.out.next hb, fun p hp => by cases hp⟩
              have hnb : ∀ {k : Nat}, ∀ j, (fun _ : Nat => (none : Option Nat)) j ≠ some k := fun j h => by cases h
              have hkp : ∀ (z : Nat) (L : Nat → Bool) (W W' : World), Below w21.heap.size w21 W → BelW W W' → KeepsR (spS w21 (jj7P a b c)) L W W' ∧ Below w21.heap.size w21 W' := fun _ _ _ _ h hb => sp_keep h hb
              refine wp_region_sp (sp := jj7P a b c) (by kernel_rfl) (by kernel_rfl) (by kernel_rfl) (dst_small (n := 66) (by kernel_rfl)) ?_ ?_
              ·
                refine ⟨?_, ?_, ?_, ?_, ?_, ?_, ?_, ?_, ?_, ?_, trivial⟩
                · refine StepR.pure rfl rfl hnb (fun W => Below.refl _ W) (hkp 0) fun L A W hI hk hd => ?_
                  have e7 : A.tmps[7]?.getD undef = .pointer (some ⟨GC, 0, none⟩) := hI.at 7 (by kernel_rfl)
                  obtain ⟨c0, c1, c2, _⟩ := (KK0 W hI.glob).ca (g := GC) (c := c) (by simp)
                  exact ⟨rfl, mkC c, by go_simp, rfl⟩
                · refine StepR.pure rfl rfl hnb (fun W => Below.refl _ W) (hkp 1) fun L A W hI hk hd => ?_
                  have e2 : A.tmps[2]?.getD undef = .pointer (some ⟨w.heap.size, 0, none⟩) := hI.at 2 (by kernel_rfl)
                  obtain ⟨c0, c1, c2, _⟩ := (KK0 W hI.glob).ca (g := w.heap.size) (c := a) (by simp)
                  exact ⟨rfl, mkC a, by go_simp, rfl⟩
                · refine StepR.pure rfl rfl hnb (fun W => Below.refl _ W) (hkp 2) fun L A W hI hk hd => ?_
                  have e3 : A.tmps[3]?.getD undef = .pointer (some ⟨w.heap.size + 1, 0, none⟩) := hI.at 3 (by kernel_rfl)
                  obtain ⟨c0, c1, c2, _⟩ := (KK0 W hI.glob).ca (g := w.heap.size + 1) (c := b) (by simp)
                  exact ⟨rfl, mkC b, by go_simp, rfl⟩
                · refine StepR.call rfl rfl hnb (hkp 3) fun L A W hI hk hd => ?_
                  obtain ⟨_, e44, rfl⟩ := hI.get 1 44 (hd 1 rfl) rfl
                  obtain ⟨_, e45, rfl⟩ := hI.get 2 45 (hd 2 rfl) rfl
                  refine ⟨rfl, 15, #[mkC a, mkC b], by go_simp, (refJoin11 a b 1 1 W ((KK0 W hI.glob).ok (g := w.heap.size) (c := a) (by simp)) ((KK0 W hI.glob).ok (g := w.heap.size + 1) (c := b) (by simp)) Ha.out Hb.out (by omega) HVa.out HVb.out).mono ?_⟩
                  rintro e W' ⟨⟨z, rfl, hz, ho⟩, hb⟩
                  exact ⟨_, rfl, hb, z, rfl, hz, ho⟩
                · refine StepR.call rfl rfl hnb (hkp 4) fun L A W hI hk hd => ?_
                  obtain ⟨_, e43, rfl⟩ := hI.get 0 43 (hd 0 rfl) rfl
                  obtain ⟨_, e46, z46, rfl, hz46, ho46⟩ := hI.get 3 46 (hd 3 rfl) rfl
                  refine ⟨rfl, 14, #[mkC c, mkC z46], by go_simp, (equal_j c z46 true 2 2 W ((KK0 W hI.glob).ok (g := GC) (c := c) (by simp)) ho46 HC2.out (by rw [hz46]; exact HCJ.out) (by omega) (by omega) (by rw [hz46, Hc.out]; exact sameJ_self _)).mono ?_⟩
                  rintro e W' ⟨rfl, hb⟩
                  exact ⟨_, rfl, hb, rfl⟩
                · refine StepR.pure rfl rfl hnb (fun W => Below.refl _ W) (hkp 5) fun L A W hI hk hd => ?_
                  obtain ⟨_, e47, rfl⟩ := hI.get 4 47 (hd 4 rfl) rfl
                  exact ⟨rfl, .bool false, by go_simp, rfl⟩
                · refine StepR.pure rfl rfl hnb (fun W => Below.refl _ W) (hkp 6) fun L A W hI hk hd => ?_
                  obtain ⟨_, e48, rfl⟩ := hI.get 5 48 (hd 5 rfl) rfl
                  exact ⟨rfl, .bool false, by go_simp, rfl⟩
                · refine StepR.pure rfl rfl hnb (fun W => Below.refl _ W) (hkp 7) fun L A W hI hk hd => ?_
                  have e8 : A.tmps[8]?.getD undef = .int .i64 0 := hI.at 8 (by kernel_rfl)
                  exact ⟨hI.wants rfl (hd 6 rfl) rfl (fun _ h => h), .int .i64 0, by go_simp, rfl⟩
                · refine StepR.pure rfl rfl hnb (fun W => Below.refl _ W) (hkp 8) fun L A W hI hk hd => ?_
                  obtain ⟨_, e50, rfl⟩ := hI.get 7 50 (hd 7 rfl) rfl
                  exact ⟨hI.wants rfl (hd 6 rfl) rfl (fun _ h => h), .bool false, by go_simp, rfl⟩
                · refine StepR.pure rfl rfl hnb (fun W => Below.refl _ W) (hkp 9) fun L A W hI hk hd => ?_
                  obtain ⟨_, e49, rfl⟩ := hI.get 6 49 (hd 6 rfl) rfl
                  obtain ⟨_, e51, rfl⟩ := hI.get 8 51 (hd 8 rfl) rfl
                  exact ⟨rfl, .bool false, by go_simp, rfl⟩
              · intro A W L hL hI
                have k52 : A.eval (.tmp 52) = .bool false := by
                  obtain ⟨_, e52, rfl⟩ := hI.get 9 52 (hL 9 (by decide)) rfl
                  rw [eval_tmp]; exact e52
                have HBW := Lib.hid hI.glob
                have HOW := Lib.hid (OwnC.below HOC.out hI.glob)
                have K52 := Lib.hid (KK0 W hI.glob).kk
                rw [hI.frame]
                simp only [List.filterMap, List.foldl]
                rw [k52]
                generalize A.eval (.tmp 43) = v43
                generalize A.eval (.tmp 44) = v44
                generalize A.eval (.tmp 45) = v45
                generalize A.eval (.tmp 46) = v46
                generalize A.eval (.tmp 47) = v47
                generalize A.eval (.tmp 48) = v48
                generalize A.eval (.tmp 49) = v49
                generalize A.eval (.tmp 50) = v50
                generalize A.eval (.tmp 51) = v51
                clear hI hL k52 KK0 hkp HOC
                simp only [List.setIfInBounds_toArray, List.set_cons_succ, List.set_cons_zero]
                obtain ⟨q0, q1, q2, ql⟩ := K52.out.cells4 (g := GC) (c := c) (by simp)
                clear K51 HGC
                go_wp2_with fail
                refine (lawSpoil11 c wj.heap.size W (DtsO.of_own HOW.out.v rfl) (DtsO.of_own HOW.out.l rfl) HOW.out.i (by have h1 := HB20.out.size; have h2 := HAL.out.size; have h3 := HBW.out.size; omega) (by have := HC2.out.dots; rw [ca_v, ca_l] at this; omega) (by have := HC2.out.dots; rw [ca_v, ca_l] at this; omega) (by have := CaV.num HC2.out; omega) (fun i hi => by have := (HC2.out.one i.it (List.mem_map.2 ⟨i, hi, rfl⟩)).1; have h2 : i.nm.length ≤ 100 := this; omega)).mono ?_
                rintro e w22 ⟨rfl, hb⟩
                have hch : Below wj.heap.size wj W := Below.trans (Below.trans HB20.out (HAL.out.mono HS0.out)) (HBW.out.mono (by have h1 := HB20.out.size; have h2 := HAL.out.size; omega))
                have K53 := Lib.hid (show KK w [(w.heap.size, a), (w.heap.size + 1, b), (gX, x), (gY, y)] w22 from K50.out.next (Below.trans hch hb))
                clear hb hch K50 K52 HOW HBW HAL HB20 HS0 q0 q1 q2 ql
                obtain ⟨x15a, x15b, x15c, x15l⟩ := K53.out.cells4 (g := w.heap.size) (c := a) (by simp)
                obtain ⟨x16a, x16b, x16c, x16l⟩ := K53.out.cells4 (g := w.heap.size + 1) (c := b) (by simp)
                obtain ⟨x17a, x17b, x17c, x17l⟩ := K53.out.cells4 (g := gX) (c := x) (by simp)
                obtain ⟨x18a, x18b, x18c, x18l⟩ := K53.out.cells4 (g := gY) (c := y) (by simp)
                go_wp2_with fail
                refine (equal_j x a true 1 1 _ (K53.out.ok (g := gX) (c := x) (by simp)) (K53.out.ok (g := w.heap.size) (c := a) (by simp)) SX.out Ha.out (by omega) (by omega) (by rw [HX.out]; exact sameJ_self _)).mono ?_
                rintro e w23 ⟨rfl, hb⟩
                have K54 := Lib.hid (show KK w [(w.heap.size, a), (w.heap.size + 1, b), (gX, x), (gY, y)] w23 from K53.out.next hb)
                clear hb K53 x15a x15b x15c x15l x16a x16b x16c x16l x17a x17b x17c x17l x18a x18b x18c x18l
                obtain ⟨x19a, x19b, x19c, x19l⟩ := K54.out.cells4 (g := w.heap.size) (c := a) (by simp)
                obtain ⟨x20a, x20b, x20c, x20l⟩ := K54.out.cells4 (g := w.heap.size + 1) (c := b) (by simp)
                obtain ⟨x21a, x21b, x21c, x21l⟩ := K54.out.cells4 (g := gX) (c := x) (by simp)
                obtain ⟨x22a, x22b, x22c, x22l⟩ := K54.out.cells4 (g := gY) (c := y) (by simp)
                go_wp2_with fail
                refine (equal_j y b true 1 1 _ (K54.out.ok (g := gY) (c := y) (by simp)) (K54.out.ok (g := w.heap.size + 1) (c := b) (by simp)) SY.out Hb.out (by omega) (by omega) (by rw [HY.out]; exact sameJ_self _)).mono ?_
                rintro e w24 ⟨rfl, hb⟩
                have K55 := Lib.hid (show KK w [(w.heap.size, a), (w.heap.size + 1, b), (gX, x), (gY, y)] w24 from K54.out.next hb)
                clear hb K54 x19a x19b x19c x19l x20a x20b x20c x20l x21a x21b x21c x21l x22a x22b x22c x22l
                obtain ⟨x23a, x23b, x23c, x23l⟩ := K55.out.cells4 (g := w.heap.size) (c := a) (by simp)
                obtain ⟨x24a, x24b, x24c, x24l⟩ := K55.out.cells4 (g := w.heap.size + 1) (c := b) (by simp)
                obtain ⟨x25a, x25b, x25c, x25l⟩ := K55.out.cells4 (g := gX) (c := x) (by simp)
                obtain ⟨x26a, x26b, x26c, x26l⟩ := K55.out.cells4 (g := gY) (c := y) (by simp)
                go_wp2_with fail
                refine (HKN.out _).mono ?_
                rintro e wk ⟨rfl, hb⟩
                have KC := Lib.hid (below_trans K55.out.bel hb)
                clear hb K55 x23a x23b x23c x23l x24a x24b x24c x24l x25a x25b x25c x25l x26a x26b x26c x26l
                go_wp2_with fail
                go_ret
                exact OneB.bool rfl KC.out

end Go.Proofs.YtfjbocipjmpogaaGreat
