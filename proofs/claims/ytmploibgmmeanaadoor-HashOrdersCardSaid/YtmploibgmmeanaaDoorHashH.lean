/- The law HashOrders. -/
import Derived.Test.YtmploibgmmeanaaDoorHashE
namespace Go.Proofs.YtmploibgmmeanaaDoor
open Go.RowKit

theorem HoldsS.at {w : World} {A : Option Addr} {c : Nat} {xs : List (List UInt8)} (h : HoldsS w (.slice A xs.length c) xs) : StrsAt w A xs := by
  obtain ⟨_, _, e, h1, _⟩ := h
  cases e
  exact h1
theorem HoldsS.max {w : World} {v : Value} {xs : List (List UInt8)} (h : HoldsS w v xs) : xs.length ≤ maxLen := by
  obtain ⟨_, _, _, _, h2, h3⟩ := h
  omega

set_option maxRecDepth 100000 in
set_option maxHeartbeats 2000000 in
theorem lawOrders6 (A : Option Addr) (c : Nat) (keys : List (List UInt8)) (n : Int) (w : World) (hk : StrsAt w A keys) (hm : keys.length ≤ maxLen) (ht : SizesOK w) :
    Calls Tryd.prog 5 #[.slice A keys.length c, .int .i64 n] w (TrueB w) := by
  obtain ⟨ti0, hi0, hz0, hz1, hz2⟩ := info_parts infoS
  have K0 := Lib.hid (show KK w w from ⟨Below.refl _ _, ht⟩)
  have HL := Lib.hid (lawLight A c keys w hk hm)
  have HX := Lib.hid hk
  clear ht hk
  by_cases hlk : LightK keys
  case neg =>
    have ed : decide (LightK keys) = false := by simp [hlk]
    rw [ed] at HL
    clear hlk ed
    go_enter Tryd.func5, Tryd.ntmps5
    go_wp2_with fail
    refine HL.out.mono ?_
    rintro e w1 ⟨rfl, rfl⟩
    go_wp2_with fail
    refine (known6 _ K0.out.sizes).mono ?_
    rintro e w2 ⟨rfl, hb⟩
    have HB := Lib.hid hb
    clear hb
    go_wp2_with fail
    go_ret
    exact ⟨rfl, HB.out⟩
  have ed : decide (LightK keys) = true := by simp [hlk]
  rw [ed] at HL
  clear ed
  by_cases hn : 1 ≤ n ∧ n ≤ 1024
  case neg =>
    have C1 := Lib.hid (refAllowedNo n w hn)
    have C2 := Lib.hid (fun W => lawOrderNo (.slice A keys.length c) n W hn)
    have C3 := Lib.hid (fun W => lawSpreadNo (.slice A keys.length c) n W hn)
    clear hlk hn
    go_enter Tryd.func5, Tryd.ntmps5
    go_wp2_with fail
    refine HL.out.mono ?_
    rintro e w1 ⟨rfl, rfl⟩
    go_wp2_with fail
    refine C1.out.mono ?_
    rintro e w1 ⟨rfl, rfl⟩
    go_wp2_with fail
    refine (C2.out _).mono ?_
    rintro e w1 ⟨rfl, hb⟩
    have K1 := Lib.hid (K0.out.next hb)
    clear hb
    go_wp2_with fail
    refine (C3.out _).mono ?_
    rintro e w2 ⟨rfl, hb⟩
    have K2 := Lib.hid (K1.out.next hb)
    clear hb
    go_wp2_with fail
    refine (known6 _ K2.out.sizes).mono ?_
    rintro e w3 ⟨rfl, hb⟩
    have K3 := Lib.hid (K2.out.next hb)
    clear hb
    go_wp2_with fail
    go_ret
    exact ⟨rfl, K3.out.below⟩
  obtain ⟨m, rfl⟩ : ∃ m : Nat, n = (m : Int) := ⟨n.toNat, by omega⟩
  have HN := Lib.hid (show 1 ≤ m ∧ m ≤ 1024 from by omega)
  have HK := Lib.hid hlk
  have HM := Lib.hid (show keys.length ≤ 60 from hlk.1)
  have C1 := Lib.hid (refAllowed m w HN.out.1 HN.out.2)
  clear hlk hn hm
  go_enter Tryd.func5, Tryd.ntmps5
  go_wp2_with fail
  refine HL.out.mono ?_
  rintro e w1 ⟨rfl, rfl⟩
  clear HL
  go_wp2_with fail
  refine C1.out.mono ?_
  rintro e w1 ⟨rfl, rfl⟩
  clear C1
  go_wp2_with (at_builtin; refine wpList_append_sl _ encS 1 rfl (.const (.slice none 0 0)) (.tmp 25) 33 rfl encS_len (by omega) encS_one w.heap.size 9 ti0 _ 16 Tryd.underlying33 hi0 hz0 hz1 hz2 rfl (.slice none 0 0) [] rfl (World.ownsRow_nil _ _ _ _) _ _ _ keys rfl rfl HX.out (by simp [maxLen]; have := HM.out; omega) (by simp; have := HM.out; omega) (Nat.le_refl _) ?_; intro v1 w2 hown hg hat; rw [List.nil_append] at hown; have hb1 := (Below.refl w.heap.size w).grown hg (Nat.le_refl _) (fun k hk => by cases hk); obtain ⟨A1, c1, rfl, _, _, h1⟩ := SlAt.of_own encS_len hown; have HA1 := Lib.hid h1; have K1 := Lib.hid (K0.out.next hb1); have HX1 := Lib.hid (HX.out.below hb1); clear hown hg hat hb1 h1 HX K0)
  have C2 := Lib.hid (fun (W : World) (h : StrsAt W A keys) => refOrder A c keys m W h HK.out.short (by have := HM.out; omega) HN.out.1 HN.out.2)
  have C3 := Lib.hid (fun (W : World) (h : StrsAt W A keys) => refSpread A c keys m W h HK.out.short (by have := HM.out; omega) HN.out.1 HN.out.2)
  refine (C2.out _ HX1.out).mono ?_
  rintro e w3 ⟨v, rfl, ⟨D, d, rfl, hd, _⟩, hb⟩
  have HD := Lib.hid hd
  have K3 := Lib.hid (K1.out.next hb)
  have HX3 := Lib.hid (HX1.out.below hb)
  have HA3 := Lib.hid (HA1.out.below hb)
  clear hd hb K1 HX1 HA1
  go_wp2_with fail
  refine (lawOrder A1 c1 keys m D d (orderN keys m) w3 HA3.out HK.out.short (by have := HM.out; omega) HN.out.1 HN.out.2 K3.out.sizes HD.out rfl).mono ?_
  rintro e w4 ⟨rfl, hb⟩
  have K4 := Lib.hid (K3.out.next hb)
  have HX4 := Lib.hid (HX3.out.below hb)
  have HA4 := Lib.hid (HA3.out.below hb)
  clear hb K3 HX3 HA3 HD
  generalize orderN keys m = os at *
  go_wp2_with fail
  refine (C3.out _ HX4.out).mono ?_
  rintro e w5 ⟨v, rfl, hsp⟩
  obtain ⟨D2, d2, rfl, hd, _⟩ := HoldsI.of_own hsp.1
  have hb := hsp.2
  have HD := Lib.hid hd
  have K5 := Lib.hid (K4.out.next hb)
  have HX5 := Lib.hid (HX4.out.below hb)
  have HA5 := Lib.hid (HA4.out.below hb)
  clear hd hb K4 HX4 HA4 hsp
  go_wp2_with fail
  refine (lawSpread A1 c1 keys m D2 d2 (spreadN keys m) w5 HA5.out HK.out.short (by have := HM.out; omega) HN.out.1 HN.out.2 K5.out.sizes HD.out rfl).mono ?_
  rintro e w6 ⟨rfl, hb⟩
  have K6 := Lib.hid (K5.out.next hb)
  have HX6 := Lib.hid (HX5.out.below hb)
  have HA6 := Lib.hid (HA5.out.below hb)
  clear hb K5 HX5 HA5 HD C2 C3
  generalize spreadN keys m = ss at *
  go_wp2_with fail
  go_loopw [45] (fun a wr => ∃ (k : Nat), k ≤ keys.length ∧ a = .int .i64 k ∧ Hid (Below w6.heap.size w6 wr)) (fun a _ => keys.length - (intOf a).toNat)
  case atStart => exact ⟨0, by omega, rfl, Below.refl _ _⟩
  case round =>
    obtain ⟨k, hk, rfl, HB⟩ := hrel
    by_cases hlt : k < keys.length
    · have i0 : (k : Int) < (keys.length : Int) := by omega
      have hm := HM.out
      obtain ⟨b, off, rfl, hbl, hc0⟩ := SlAt.cell1 (f := fun l : List UInt8 => Value.string ⟨l.toArray⟩) (HX6.out.below HB.out) hlt
      obtain ⟨b', off', rfl, hbl', hd0⟩ := SlAt.cell1 (f := fun l : List UInt8 => Value.string ⟨l.toArray⟩) (HA6.out.below HB.out) hlt
      have l0 := fun p => cell_far (p := p) hbl hc0
      have l2 := fun p => cell_far (p := p) hbl' hd0
      clear hc0 hd0
      generalize keys[k] = key at *
      go_wp2_with fail
      refine wp_region_far (by kernel_rfl) (by kernel_rfl) ?_
      repeat (go_big_quiet_step ((fail)))
      refine wpQuiet_nil ?_
      rintro _ ⟨p, rfl⟩
      go_wp2_with fail
      go_roundw
      case rel => exact ⟨k + 1, by omega, by go_num, show Hid (Below w6.heap.size w6 (far wr p)) from HB.out.trans ((below_far wr p).mono HB.out.size)⟩
      case measure => simp [intOf]; omega
    · obtain rfl : k = keys.length := by omega
      have i0 : ¬ (keys.length : Int) < (keys.length : Int) := by omega
      have K7 := Lib.hid (K6.out.next HB.out)
      clear hlt hk
      go_wp2_with fail
      refine (known6 _ K7.out.sizes).mono ?_
      rintro e w8 ⟨rfl, hb⟩
      have K8 := Lib.hid (K7.out.next hb)
      clear hb
      go_wp2_with fail
      go_ret
      exact ⟨rfl, K8.out.below⟩

end Go.Proofs.YtmploibgmmeanaaDoor
