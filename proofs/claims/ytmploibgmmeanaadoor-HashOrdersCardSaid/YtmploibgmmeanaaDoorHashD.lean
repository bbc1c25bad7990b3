/- The laws' helpers of layer 6: stripe, order, spread, light. -/
import Derived.Test.YtmploibgmmeanaaDoorHashC
namespace Go.Proofs.YtmploibgmmeanaaDoor
open Go.RowKit

/-- True, nothing changed of what was there. -/
abbrev TrueB (w : World) : Ending → World → Prop := OneB (.bool true) w

theorem lawStripe (l : List UInt8) (n z : Nat) (w : World) (hl : l.length ≤ 1000) (h1 : 1 ≤ n) (h2 : n ≤ 1024) (ht : SizesOK w) (hz : stripeN l n = z) :
    Calls Tryd.prog 14 #[.string ⟨l.toArray⟩, .int .i64 (n : Int), .int .i64 (z : Int), .int .i64 0] w (TrueB w) := by
  have HS := Lib.hid (hashStripe l n w hl h1 h2 ht)
  rw [hz] at HS
  clear hz hl h1 h2 ht
  go_enter Tryd.func14, Tryd.ntmps14
  go_wp2_with fail
  refine HS.out.mono ?_
  rintro e w1 ⟨rfl, hb⟩
  have HB := Lib.hid hb
  clear hb
  go_wp2_with fail
  go_ret
  exact ⟨rfl, HB.out⟩
theorem lawStripeNo (l : List UInt8) (n : Int) (w : World) (h : ¬ (1 ≤ n ∧ n ≤ 1024)) :
    Calls Tryd.prog 14 #[.string ⟨l.toArray⟩, .int .i64 n, .int .i64 0, .int .i64 2] w (TrueB w) := by
  have HS := Lib.hid (hashStripeNo l n w h)
  clear h
  go_enter Tryd.func14, Tryd.ntmps14
  go_wp2_with fail
  refine HS.out.mono ?_
  rintro e w1 ⟨rfl, rfl⟩
  go_wp2_with fail
  go_ret
  exact ⟨rfl, Below.refl _ _⟩
theorem refSameYes (A B : Option Addr) (xs : List Nat) (cap cap' : Nat) (w : World) (hx : IntsAt w A xs) (hy : IntsAt w B xs) (hm : xs.length ≤ 1024) :
    Calls Tryd.prog 25 #[.slice A xs.length cap, .slice B xs.length cap'] w (TrueB w) := by
  have h := refSame A B xs xs cap cap' w hx hy (by omega) (by omega)
  have e : decide (xs = xs) = true := by simp
  rw [e] at h
  exact h
theorem orderN_len (keys : List (List UInt8)) (n : Nat) : (orderN keys n).length ≤ n := ordTo_len keys n n

theorem lawOrder (A : Option Addr) (c : Nat) (keys : List (List UInt8)) (n : Nat) (B : Option Addr) (d : Nat) (ws : List Nat) (w : World) (hk : StrsAt w A keys) (hs : ShortK keys) (hm : keys.length ≤ 100000) (h1 : 1 ≤ n) (h2 : n ≤ 1024) (ht : SizesOK w) (hw : IntsAt w B ws) (he : orderN keys n = ws) :
    Calls Tryd.prog 17 #[.slice A keys.length c, .int .i64 (n : Int), .slice B ws.length d, .int .i64 0] w (TrueB w) := by
  have HS := Lib.hid (hashOrder A c keys n w hk hs hm h1 h2 ht)
  have HW := Lib.hid hw
  have HE := Lib.hid he
  have HL := Lib.hid (show ws.length ≤ 1024 from by have := orderN_len keys n; rw [he] at this; omega)
  clear hk hs hm h1 h2 ht hw he
  go_enter Tryd.func17, Tryd.ntmps17
  go_wp2_with fail
  refine HS.out.mono ?_
  rintro e w1 ⟨v, rfl, ⟨C, x, rfl, hc, _⟩, hb⟩
  rw [HE.out] at hc
  rw [HE.out]
  have HB := Lib.hid hb
  have HX := Lib.hid (refSameYes C B ws x d w1 hc (HW.out.below hb) HL.out)
  clear hc hb
  go_wp2_with fail
  refine HX.out.mono ?_
  rintro e w2 ⟨rfl, hb2⟩
  have HB2 := Lib.hid hb2
  clear hb2
  go_wp2_with fail
  go_ret
  exact ⟨rfl, below_trans HB.out HB2.out⟩
theorem lawOrderNo (v : Value) (n : Int) (w : World) (h : ¬ (1 ≤ n ∧ n ≤ 1024)) :
    Calls Tryd.prog 17 #[v, .int .i64 n, .slice none 0 0, .int .i64 2] w (TrueB w) := by
  have HS := Lib.hid (hashOrderNo v n w h)
  have HX := Lib.hid (refSame none none [] [] 0 0 w SlAt.nil SlAt.nil (by decide) (by decide))
  clear h
  go_enter Tryd.func17, Tryd.ntmps17
  go_wp2_with fail
  refine HS.out.mono ?_
  rintro e w1 ⟨rfl, rfl⟩
  go_wp2_with fail
  refine HX.out.mono ?_
  rintro e w2 ⟨rfl, hb2⟩
  have HB2 := Lib.hid hb2
  clear hb2
  go_wp2_with fail
  go_ret
  exact ⟨rfl, HB2.out⟩

theorem lawSpread (A : Option Addr) (c : Nat) (keys : List (List UInt8)) (n : Nat) (B : Option Addr) (d : Nat) (ws : List Nat) (w : World) (hk : StrsAt w A keys) (hs : ShortK keys) (hm : keys.length ≤ 100000) (h1 : 1 ≤ n) (h2 : n ≤ 1024) (ht : SizesOK w) (hw : IntsAt w B ws) (he : spreadN keys n = ws) :
    Calls Tryd.prog 18 #[.slice A keys.length c, .int .i64 (n : Int), .slice B ws.length d, .int .i64 0] w (TrueB w) := by
  have HS := Lib.hid (hashSpread A c keys n w hk hs hm h1 h2 ht)
  have HW := Lib.hid hw
  have HE := Lib.hid he
  have HL := Lib.hid (show ws.length ≤ 1024 from by have := spreadN_len keys n; rw [he] at this; omega)
  clear hk hs hm h1 h2 ht hw he
  go_enter Tryd.func18, Tryd.ntmps18
  go_wp2_with fail
  refine HS.out.mono ?_
  rintro e w1 ⟨v, rfl, hsp⟩
  obtain ⟨C, x, rfl, hc, _⟩ := HoldsI.of_own hsp.1
  have hb := hsp.2
  rw [HE.out] at hc
  rw [HE.out]
  have HB := Lib.hid hb
  have HX := Lib.hid (refSameYes C B ws x d w1 hc (HW.out.below hb) HL.out)
  clear hc hb hsp
  go_wp2_with fail
  refine HX.out.mono ?_
  rintro e w2 ⟨rfl, hb2⟩
  have HB2 := Lib.hid hb2
  clear hb2
  go_wp2_with fail
  go_ret
  exact ⟨rfl, below_trans HB.out HB2.out⟩
theorem lawSpreadNo (v : Value) (n : Int) (w : World) (h : ¬ (1 ≤ n ∧ n ≤ 1024)) :
    Calls Tryd.prog 18 #[v, .int .i64 n, .slice none 0 0, .int .i64 2] w (TrueB w) := by
  have HS := Lib.hid (hashSpreadNo v n w h)
  have HX := Lib.hid (refSame none none [] [] 0 0 w SlAt.nil SlAt.nil (by decide) (by decide))
  clear h
  go_enter Tryd.func18, Tryd.ntmps18
  go_wp2_with fail
  refine HS.out.mono ?_
  rintro e w1 ⟨rfl, rfl⟩
  go_wp2_with fail
  refine HX.out.mono ?_
  rintro e w2 ⟨rfl, hb2⟩
  have HB2 := Lib.hid hb2
  clear hb2
  go_wp2_with fail
  go_ret
  exact ⟨rfl, HB2.out⟩

/-- At most 60 keys with at most 300 bytes each. -/
def LightK (keys : List (List UInt8)) : Prop := keys.length ≤ 60 ∧ ∀ l ∈ keys, l.length ≤ 300
instance (keys : List (List UInt8)) : Decidable (LightK keys) := inferInstanceAs (Decidable (_ ∧ _))
theorem LightK.short {keys : List (List UInt8)} (h : LightK keys) : ShortK keys := fun l hl => Nat.le_trans (h.2 l hl) (by decide)

set_option maxHeartbeats 1000000 in
theorem lawLight (A : Option Addr) (c : Nat) (keys : List (List UInt8)) (w : World) (hk : StrsAt w A keys) (hm : keys.length ≤ maxLen) :
    Calls Tryd.prog 16 #[.slice A keys.length c] w (One (.bool (decide (LightK keys))) w) := by
  have HK := Lib.hid hk
  unfold maxLen at hm
  clear hk
  go_enter Tryd.func16, Tryd.ntmps16
  go_wp2_with fail
  go_loopw [3] (fun a wr => ∃ (k : Nat), k ≤ keys.length ∧ k ≤ 61 ∧ a = .int .i64 k ∧ wr = w ∧ Hid (∀ l ∈ keys.take k, l.length ≤ 300)) (fun a _ => 61 - (intOf a).toNat)
  case atStart => exact ⟨0, by omega, by omega, rfl, rfl, show Hid (∀ l ∈ keys.take 0, l.length ≤ 300) from fun l hl => by simp at hl⟩
  case round =>
    obtain ⟨k, hk, hk2, rfl, rfl, HQ⟩ := hrel
    by_cases hlt : k < keys.length
    · have i0 : (k : Int) < (keys.length : Int) := by omega
      by_cases h61 : k < 61
      · have i1 : (k : Int) < 61 := by omega
        obtain ⟨b, off, rfl, hbl, hc0⟩ := SlAt.cell1 (f := fun l : List UInt8 => Value.string ⟨l.toArray⟩) HK.out hlt
        obtain ⟨key, hkey⟩ : ∃ key, keys[k] = key := ⟨_, rfl⟩
        have hin : key ∈ keys := hkey ▸ List.getElem_mem hlt
        have HT := Lib.hid (show keys.take (k + 1) = keys.take k ++ [key] from by rw [List.take_succ_eq_append_getElem hlt, hkey])
        have hsz : (ByteArray.mk key.toArray).size = key.length := by show key.toArray.size = _; simp
        rw [hkey] at hc0
        clear hkey
        by_cases h3 : key.length ≤ 300
        · have i2 : ¬ (300 : Int) < (key.length : Int) := by omega
          have H3 := Lib.hid h3
          clear h3 hin
          go_wp2_with fail
          go_roundw
          case rel =>
            refine ⟨k + 1, by omega, by omega, by go_num, by trivial, show Hid (∀ l ∈ keys.take (k + 1), l.length ≤ 300) from fun l hl => ?_⟩
            rw [HT.out] at hl
            rcases List.mem_append.1 hl with h | h
            · exact HQ.out l h
            · rw [List.mem_singleton.1 h]; exact H3.out
          case measure => simp [intOf]; omega
        · have i2 : (300 : Int) < (key.length : Int) := by omega
          have HN := Lib.hid (show ¬ LightK keys from fun h => h3 (h.2 key hin))
          clear h3 hin
          go_wp2_with fail
          go_ret
          exact ⟨ret_bool (by simp [HN.out]), rfl⟩
      · have i1 : ¬ (k : Int) < 61 := by omega
        have i2 : ¬ (keys.length : Int) ≤ 60 := by omega
        have HN := Lib.hid (show ¬ LightK keys from fun h => by have := h.1; omega)
        clear h61
        go_wp2_with fail
        go_ret
        exact ⟨ret_bool (by simp [HN.out]), rfl⟩
    · obtain rfl : k = keys.length := by omega
      rw [List.take_length] at HQ
      have i0 : ¬ (keys.length : Int) < (keys.length : Int) := by omega
      by_cases h60 : keys.length ≤ 60
      · have i2 : (keys.length : Int) ≤ 60 := by omega
        have HN := Lib.hid (show LightK keys from ⟨h60, HQ.out⟩)
        clear hlt hk h60 hk2
        go_wp2_with fail
        go_ret
        exact ⟨ret_bool (by simp [HN.out]), rfl⟩
      · have i2 : ¬ (keys.length : Int) ≤ 60 := by omega
        have HN := Lib.hid (show ¬ LightK keys from fun h => h60 h.1)
        clear hlt hk h60 hk2
        go_wp2_with fail
        go_ret
        exact ⟨ret_bool (by simp [HN.out]), rfl⟩

end Go.Proofs.YtmploibgmmeanaaDoor
