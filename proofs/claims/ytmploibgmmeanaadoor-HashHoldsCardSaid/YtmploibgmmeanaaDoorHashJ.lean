/- The law HashHolds. -/
import Derived.Test.YtmploibgmmeanaaDoorHashH
namespace Go.Proofs.YtmploibgmmeanaaDoor
open Go.RowKit

/-- How many keys the stripes below k have. -/
def sumTo (keys : List (List UInt8)) (n k : Nat) : Nat := ((spreadN keys n).take k).sum
theorem take_sum (l : List Nat) (k : Nat) : (l.take k).sum ≤ l.sum := by
  have h := congrArg List.sum (List.take_append_drop k l)
  rw [List.sum_append] at h
  omega
theorem sumTo_le {keys : List (List UInt8)} {n : Nat} (h : 0 < n) (k : Nat) : sumTo keys n k ≤ keys.length := by
  have := take_sum (spreadN keys n) k
  rw [spreadN_sum keys h] at this
  exact this
theorem sumTo_next {keys : List (List UInt8)} {n k : Nat} (h : k < n) : sumTo keys n (k + 1) = sumTo keys n k + cntN keys n k := by
  unfold sumTo
  have hl : k < (spreadN keys n).length := by rw [spreadN_len]; exact h
  have hget : (spreadN keys n)[k] = cntN keys n k := Option.some.inj ((List.getElem?_eq_getElem hl).symm.trans (spreadN_get keys n k h))
  rw [List.take_succ_eq_append_getElem hl, List.sum_append, hget]
  simp
theorem sumTo_all {keys : List (List UInt8)} {n : Nat} (h : 0 < n) : sumTo keys n n = keys.length := by
  unfold sumTo
  rw [List.take_of_length_le (by rw [spreadN_len]; exact Nat.le_refl _)]
  exact spreadN_sum keys h

set_option maxRecDepth 100000 in
set_option maxHeartbeats 2000000 in
theorem lawHolds6 (A : Option Addr) (c : Nat) (keys : List (List UInt8)) (n : Int) (w : World) (hk : StrsAt w A keys) (hm : keys.length ≤ maxLen) (ht : SizesOK w) :
    Calls Tryd.prog 7 #[.slice A keys.length c, .int .i64 n] w (TrueB w) := by
  obtain ⟨ti0, hi0, hz0, hz1, hz2⟩ := info_parts infoI
  have K0 := Lib.hid (show KK w w from ⟨Below.refl _ _, ht⟩)
  have HL := Lib.hid (lawLight A c keys w hk hm)
  have HX := Lib.hid hk
  clear ht hk
  by_cases hlk : LightK keys
  case neg =>
    have ed : decide (LightK keys) = false := by simp [hlk]
    rw [ed] at HL
    clear hlk ed
    go_enter Tryd.func7, Tryd.ntmps7
    go_wp2_with fail
    refine HL.out.mono ?_
    rintro e w1 ⟨rfl, rfl⟩
    go_wp2_with fail
    refine (known6 _ K0.out.sizes).mono ?_
    rintro e w2 ⟨rfl, hb⟩
    have HB := Lib.hid hb
    clear hb
    go_wp2_with fail
    go_ret
    exact ⟨rfl, HB.out⟩
  have ed : decide (LightK keys) = true := by simp [hlk]
  rw [ed] at HL
  clear ed
  by_cases hn1 : n < 1
  case pos =>
    clear hlk
    go_enter Tryd.func7, Tryd.ntmps7
    go_wp2_with fail
    refine HL.out.mono ?_
    rintro e w1 ⟨rfl, rfl⟩
    go_wp2_with fail
    refine (known6 _ K0.out.sizes).mono ?_
    rintro e w2 ⟨rfl, hb⟩
    have HB := Lib.hid hb
    clear hb
    go_wp2_with fail
    go_ret
    exact ⟨rfl, HB.out⟩
  by_cases hn2 : 1024 < n
  case pos =>
    clear hlk
    go_enter Tryd.func7, Tryd.ntmps7
    go_wp2_with fail
    refine HL.out.mono ?_
    rintro e w1 ⟨rfl, rfl⟩
    go_wp2_with fail
    refine (known6 _ K0.out.sizes).mono ?_
    rintro e w2 ⟨rfl, hb⟩
    have HB := Lib.hid hb
    clear hb
    go_wp2_with fail
    go_ret
    exact ⟨rfl, HB.out⟩
  obtain ⟨m, rfl⟩ : ∃ m : Nat, n = (m : Int) := ⟨n.toNat, by omega⟩
  have HN := Lib.hid (show 1 ≤ m ∧ m ≤ 1024 from by omega)
  have HK := Lib.hid hlk
  have HM := Lib.hid (show keys.length ≤ 60 from hlk.1)
  have C1 := Lib.hid (hashSpread A c keys m w HX.out HK.out.short (by have := HM.out; omega) HN.out.1 HN.out.2 K0.out.sizes)
  have hm2 : m ≤ 1024 := HN.out.2
  clear hlk hm
  go_enter Tryd.func7, Tryd.ntmps7
  go_wp2_with fail
  refine HL.out.mono ?_
  rintro e w1 ⟨rfl, rfl⟩
  clear HL
  go_wp2_with fail
  refine C1.out.mono ?_
  rintro e w1 ⟨v, rfl, hsp⟩
  obtain ⟨B, cb, rfl, hat, _⟩ := HoldsI.of_own hsp.1
  have hlen : (spreadN keys m).length = m := spreadN_len keys m
  rw [hlen]
  have HAT := Lib.hid hat
  have K1 := Lib.hid (K0.out.next hsp.2)
  have HX1 := Lib.hid (HX.out.below hsp.2)
  clear hsp hat C1 HX K0
  go_wp2_with fail
  go_loopw [7, 8, 43] (fun s7 s8 s43 wr => ∃ (k : Nat) (D : Option Addr) (d q : Nat), k ≤ m ∧ s7 = .int .i64 (q : Int) ∧ s8 = .slice D (ordTo keys m k).length d ∧ s43 = .int .i64 k ∧ Hid (q = sumTo keys m k) ∧ Hid (RowI wr w1.heap.size (.slice D (ordTo keys m k).length d) (ordTo keys m k)) ∧ Hid (Below w1.heap.size w1 wr)) (fun _ _ s43 _ => m - (intOf s43).toNat)
  case atStart => exact ⟨0, none, 0, 0, by omega, rfl, rfl, rfl, rfl, World.ownsRow_nil _ _ _ _, Below.refl _ _⟩
  case round =>
    obtain ⟨k, D, d, q, hk, rfl, rfl, rfl, HQ, HO, HB⟩ := hrel
    by_cases hlt : k < m
    · have i0 : (k : Int) < (m : Int) := by omega
      obtain ⟨b, off, rfl, hbl, hc0⟩ := SlAt.cell1 (f := fun m : Nat => Value.int .i64 m) (HAT.out.below HB.out) (j := k) (by omega)
      have hget : (spreadN keys m)[k]'(by omega) = cntN keys m k := Option.some.inj ((List.getElem?_eq_getElem _).symm.trans (spreadN_get keys m k hlt))
      rw [hget] at hc0
      have HL := Lib.hid (ordTo_len keys m k)
      have HSN := Lib.hid (show q + cntN keys m k = sumTo keys m (k + 1) from by rw [HQ.out, sumTo_next hlt])
      have hq60 : q + cntN keys m k ≤ 60 := by rw [HSN.out]; exact Nat.le_trans (sumTo_le HN.out.1 _) HM.out
      by_cases hp : 0 < cntN keys m k
      · have i1 : (0 : Int) < (cntN keys m k : Int) := by omega
        have HE := Lib.hid (ordTo_yes hp)
        clear hget hp
        generalize ordTo keys m k = os at *
        generalize cntN keys m k = u at *
        go_wp2_with (at_builtin; refine wpList_append_sl _ encI 1 rfl (.tmp 52) (.tmp 54) 36 rfl encI_len (by omega) encI_one w1.heap.size 3 ti0 _ 8 Tryd.underlying36 hi0 hz0 hz1 hz2 rfl _ os rfl (HO.out.alloc _) _ 1 _ [k] rfl rfl (SlAt.one (heap_alloc_new _ _)) (by simp [maxLen]; have := HL.out; have := HN.out; omega) (by simp; have := HL.out; have := HN.out; omega) (by have := HB.out.size; simp; omega) ?_; intro v1 w2 hown hg hat; rw [HE.out] at hown; have HB2 := Lib.hid ((HB.out.alloc HB.out.size _).grown hg (by have := HB.out.size; simp; omega) (fun k hk => (HO.out.lt k hk).1)); obtain ⟨D2, d2, rfl, _⟩ := SlAt.of_own encI_len hown; have HO2 := Lib.hid hown; clear hown hg hat)
        go_roundw
        case rel => exact ⟨k + 1, D2, d2, q + u, by omega, by go_num, rfl, by go_num, HSN, HO2, HB2⟩
        case measure => simp [intOf]; omega
      · have i1 : ¬ (0 : Int) < (cntN keys m k : Int) := by omega
        have HE := Lib.hid (ordTo_no hp)
        clear hget hp
        generalize cntN keys m k = u at *
        go_wp2_with fail
        go_roundw
        case rel => exact ⟨k + 1, D, d, q + u, by omega, by go_num, by rw [HE.out], by go_num, HSN, by rw [← HE.out]; exact HO, HB⟩
        case measure => simp [intOf]; omega
    · obtain rfl : k = m := by omega
      have i0 : ¬ (k : Int) < (k : Int) := by omega
      have HH := Lib.hid (HoldsI.of_own HO.out)
      have HQ2 := Lib.hid (show q = keys.length from by rw [HQ.out, sumTo_all HN.out.1])
      have HAT2 := Lib.hid (HAT.out.below HB.out)
      have K2 := Lib.hid (K1.out.next HB.out)
      have HX2 := Lib.hid (HX1.out.below HB.out)
      clear hlt hk HO HQ HAT K1 HX1 HB
      go_wp2_with fail
      obtain ⟨wq, rfl⟩ : ∃ W, W = wr := ⟨_, rfl⟩
      go_loopw [62] (fun a wr => ∃ (j : Nat), j ≤ keys.length ∧ a = .int .i64 j ∧ Hid (Below wq.heap.size wq wr)) (fun a _ => keys.length - (intOf a).toNat)
      case atStart => exact ⟨0, by omega, rfl, Below.refl _ _⟩
      case round =>
        obtain ⟨j, hj, rfl, HB⟩ := hrel
        have hm60 := HM.out
        by_cases hlt : j < keys.length
        · have i1 : (j : Int) < (keys.length : Int) := by omega
          obtain ⟨b, off, rfl, hbl, hc0⟩ := SlAt.cell1 (f := fun l : List UInt8 => Value.string ⟨l.toArray⟩) (HX2.out.below HB.out) hlt
          obtain ⟨z, hz⟩ : ∃ z, stripeN keys[j] k = z := ⟨_, rfl⟩
          have hzn : z < k := by rw [← hz]; exact stripeN_lt _ HN.out.1
          have hcp : 0 < cntN keys k z := by rw [← hz]; exact cntN_pos (List.getElem_mem hlt) k
          have HP := Lib.hid (hashStripe keys[j] k wr (HK.out.short _ (List.getElem_mem hlt)) HN.out.1 HN.out.2 (K2.out.sizes.below HB.out))
          rw [hz] at HP
          obtain ⟨b2, off2, rfl, hbl2, hd0⟩ := SlAt.cell1 (f := fun m : Nat => Value.int .i64 m) (HAT2.out.below HB.out) (j := z) (by omega)
          have hget : (spreadN keys k)[z]'(by omega) = cntN keys k z := Option.some.inj ((List.getElem?_eq_getElem _).symm.trans (spreadN_get keys k z hzn))
          rw [hget] at hd0
          have i2 : (z : Int) < (k : Int) := by omega
          have i3 : ((cntN keys k z : Int) == 0) = false := by simp; omega
          have hcl := cntN_le keys k z
          generalize keys[j] = key at *
          clear hz hget
          generalize cntN keys k z = u at *
          go_wp2_with fail
          refine HP.out.mono ?_
          rintro e w3 ⟨rfl, hb⟩
          have hd1 := (hb.cell (p := ⟨b2, off2 + z, none⟩) hbl2).trans hd0
          have HB3 := Lib.hid (below_trans HB.out hb)
          clear hb
          go_wp2_with fail
          go_roundw
          case rel => exact ⟨j + 1, by omega, by go_num, HB3⟩
          case measure => simp [intOf]; omega
        · obtain rfl : j = keys.length := by omega
          have i1 : ¬ (keys.length : Int) < (keys.length : Int) := by omega
          have hq := HQ2.out
          have i2 : ((q : Int) == (keys.length : Int)) = true := by simp; omega
          have K3 := Lib.hid (K2.out.next HB.out)
          have HX3 := Lib.hid (HX2.out.below HB.out)
          have HO3 := Lib.hid (show IntsAt wr D (ordTo keys k k) from by
            obtain ⟨_, _, e, h, _⟩ := HH.out
            cases e
            exact h.below HB.out)
          clear hlt hj hq
          go_wp2_with fail
          refine (lawOrder A c keys k D d (ordTo keys k k) wr HX3.out HK.out.short (by have := HM.out; omega) HN.out.1 HN.out.2 K3.out.sizes HO3.out rfl).mono ?_
          rintro e w4 ⟨rfl, hb⟩
          have K4 := Lib.hid (K3.out.next hb)
          clear hb
          go_wp2_with fail
          refine (known6 _ K4.out.sizes).mono ?_
          rintro e w5 ⟨rfl, hb⟩
          have K5 := Lib.hid (K4.out.next hb)
          clear hb
          go_wp2_with fail
          go_ret
          exact ⟨rfl, K5.out.below⟩

end Go.Proofs.YtmploibgmmeanaaDoor
