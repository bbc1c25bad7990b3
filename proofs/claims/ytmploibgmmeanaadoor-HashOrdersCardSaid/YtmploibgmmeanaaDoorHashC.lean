/- Package hash: Spread, Order; the reference's. -/
import Derived.Test.YtmploibgmmeanaaDoorHashB
import Derived.Deep.CutBlock
namespace Go.Proofs.YtmploibgmmeanaaDoor
open Go.RowKit

/-- The keys are short enough. -/
def ShortK (keys : List (List UInt8)) : Prop := ∀ l ∈ keys, l.length ≤ 1000
/-- What Spread has counted of the first keys. -/
theorem spreadN_take {keys : List (List UInt8)} {n k : Nat} (hn : 0 < n) (hk : k < keys.length) :
    (spreadN (keys.take k) n).set (stripeN keys[k] n) (cntN (keys.take k) n (stripeN keys[k] n) + 1) = spreadN (keys.take (k + 1)) n := by
  apply List.ext_getElem?
  intro i
  by_cases hi : i < n
  · rw [spreadN_get _ _ _ hi, List.take_succ_eq_append_getElem hk, cntN_append, cntN_cons, cntN_nil, List.getElem?_set]
    by_cases h : stripeN keys[k] n = i
    · subst h
      rw [if_pos rfl, if_pos (by rw [spreadN_len]; exact hi), if_pos rfl]
    · rw [if_neg h, if_neg h, spreadN_get _ _ _ hi]; rfl
  · rw [List.getElem?_eq_none (by rw [List.length_set, spreadN_len]; omega), List.getElem?_eq_none (by rw [spreadN_len]; omega)]
theorem spreadN_none (n : Nat) : spreadN [] n = List.replicate n 0 := by
  apply List.ext_getElem?
  intro i
  by_cases hi : i < n
  · rw [spreadN_get _ _ _ hi, List.getElem?_replicate, if_pos hi]; rfl
  · rw [List.getElem?_eq_none (by rw [spreadN_len]; omega), List.getElem?_eq_none (by simp; omega)]

/-- A slice of counts in a row of its own. -/
abbrev Cnts (W : World) (g n : Nat) (xs : List Nat) : Prop := W.ownsRow g 3 1 (.slice (some ⟨g, 0, none⟩) n n) n (cellsOf encI xs)

theorem cnts_made {W : World} {g n : Nat} (h : W.ownsRow g 3 1 (.slice (some ⟨g, 0, none⟩) n n) n (madeCells (Value.int .i64 0).cells (n * 1)).toList) : Cnts W g n (spreadN [] n) := by
  have e : (madeCells (Value.int .i64 0).cells (n * 1)).toList = cellsOf encI (spreadN [] n) := by
    rw [Nat.mul_one, spreadN_none, ← cellsI_zero]; exact toList_madeCells_one _ n
  rw [e] at h
  exact h
/-- One count more. -/
theorem cnts_step {W : World} {g n k : Nat} {keys : List (List UInt8)} (h : Cnts W g n (spreadN (keys.take k) n)) (hn : 0 < n) (hk : k < keys.length) {z m : Nat} (hz : stripeN keys[k] n = z) (hm : cntN (keys.take k) n z = m) :
    Cnts (W.setCell ⟨g, z, none⟩ (.int .i64 ((m : Int) + 1))) g n (spreadN (keys.take (k + 1)) n) ∧ W.grownBy (W.setCell ⟨g, z, none⟩ (.int .i64 ((m : Int) + 1))) (some g) := by
  obtain ⟨a, b⟩ := h.stored z (.int .i64 ((m : Int) + 1))
  refine ⟨?_, b⟩
  have e := cellsI_set (spreadN (keys.take k) n) z (m + 1)
  rw [← hm, ← hz, spreadN_take hn hk, hz, hm] at e
  show World.ownsRow _ g _ 1 _ n (cellsOf encI (spreadN (keys.take (k + 1)) n))
  rw [← e]
  exact a
/-- What Spread returns: counts in a row of the call's own, nothing else changed. -/
def Spr (keys : List (List UInt8)) (n : Nat) (w : World) (v : Value) (w' : World) : Prop := RowI w' w.heap.size v (spreadN keys n) ∧ Below w.heap.size w w'
theorem spr_of {keys : List (List UInt8)} {n g : Nat} {w w' : World} (h : Cnts w' g n (spreadN keys n)) (hg : g = w.heap.size) (hb : Below w.heap.size w w') : Spr keys n w (.slice (some ⟨g, 0, none⟩) n n) w' := by
  subst hg
  refine ⟨?_, hb⟩
  show w'.ownsRow _ _ 1 _ (spreadN keys n).length _
  rw [spreadN_len]; exact h

set_option maxHeartbeats 2000000 in
theorem hashSpread (A : Option Addr) (c : Nat) (keys : List (List UInt8)) (n : Nat) (w : World) (hk : StrsAt w A keys) (hs : ShortK keys) (hm : keys.length ≤ 100000) (h1 : 1 ≤ n) (h2 : n ≤ 1024) (ht : SizesOK w) :
    Calls Tryd.prog 21 #[.slice A keys.length c, .int .i64 (n : Int)] w fun e w' => ∃ v, e = .returned (.tuple #[v, .int .i64 0]) ∧ Spr keys n w v w' := by
  obtain ⟨ti0, hi0, hz0, hz1, hz2⟩ := info_parts infoI
  have HA := Lib.hid (hashAllowed n w h1 h2)
  have HK := Lib.hid hk
  have HS := Lib.hid hs
  have HN := Lib.hid (show 1 ≤ n ∧ n ≤ 1024 from ⟨h1, h2⟩)
  have HT := Lib.hid ht
  clear hk hs h1 h2 ht
  go_enter Tryd.func21, Tryd.ntmps21
  go_wp2_with fail
  refine HA.out.mono ?_
  rintro e w1 ⟨rfl, rfl⟩
  clear HA
  go_wp2_with (refine wpList_make_full _ rfl (.tmp 14) (.tmp 14) 36 rfl w.heap.size 3 ti0 _ 1 Tryd.underlying36 hi0 hz0 hz1 .i64 .i64 _ _ n rfl rfl rfl rfl (by rw [hz2]; have := HN.out; omega) (by simp [maxLen]; have := HN.out; omega) (Nat.le_refl _) ?_; intro w1 hown hg)
  have HO := Lib.hid (cnts_made hown)
  have HB := Lib.hid ((Below.refl w.heap.size w).grown hg (Nat.le_refl _) (fun _ h => by cases h))
  clear hown hg hi0 hz0 hz1 hz2
  go_loopw [18] (fun a wr => ∃ (k : Nat), k ≤ keys.length ∧ a = .int .i64 k ∧ Hid (Cnts wr w.heap.size n (spreadN (keys.take k) n)) ∧ Hid (Below w.heap.size w wr)) (fun a _ => keys.length - (intOf a).toNat)
  case atStart => exact ⟨0, by omega, rfl, HO, HB⟩
  case round =>
    clear HO HB
    obtain ⟨k, hk, rfl, HO, HB⟩ := hrel
    by_cases hlt : k < keys.length
    · have i0 : (k : Int) < (keys.length : Int) := by omega
      obtain ⟨b, off, rfl, hbl, hc0⟩ := SlAt.cell1 (f := fun l : List UInt8 => Value.string ⟨l.toArray⟩) (HK.out.below HB.out) hlt
      have HP := Lib.hid (hashStripe keys[k] n wr (HS.out _ (List.getElem_mem hlt)) HN.out.1 HN.out.2 (HT.out.below HB.out))
      obtain ⟨z, hz⟩ : ∃ z, stripeN keys[k] n = z := ⟨_, rfl⟩
      have hzn : z < n := by rw [← hz]; exact stripeN_lt _ HN.out.1
      obtain ⟨m, hm2⟩ : ∃ m, cntN (keys.take k) n z = m := ⟨_, rfl⟩
      have hm3 : m ≤ 100000 := by have := cntN_le (keys.take k) n z; rw [List.length_take] at this; omega
      have HZ := Lib.hid (show stripeN keys[k] n = z ∧ cntN (keys.take k) n z = m ∧ z < n from ⟨hz, hm2, hzn⟩)
      have HLT := Lib.hid (fun (W : World) (h : Cnts W w.heap.size n (spreadN (keys.take k) n)) => cnts_step h HN.out.1 hlt hz hm2)
      rw [hz] at HP
      generalize keys[k] = key at *
      clear hz hm2
      go_wp2_with fail
      refine HP.out.mono ?_
      rintro e w2 ⟨rfl, hb2⟩
      have HB2 := Lib.hid hb2
      have HO2 := Lib.hid (own_below HO.out hb2)
      have d0 : w2.cell? ⟨w.heap.size, z, none⟩ = some (.int .i64 (m : Int)) := by
        rw [HO2.out.cellAt z (by omega), cellsI_at, spreadN_get _ _ _ hzn, HZ.out.2.1]; rfl
      have d1 : w2.frozen? ⟨w.heap.size, z, none⟩ = false := HO2.out.frozenAt z
      have i1 : (z : Int) < (n : Int) := by omega
      clear hb2
      go_wp2_with fail
      go_roundw
      case rel =>
        obtain ⟨a, b⟩ := HLT.out _ HO2.out
        exact ⟨k + 1, by omega, by go_num, a, (below_trans HB.out HB2.out).grown b (below_trans HB.out HB2.out).size (fun _ h => by cases h; exact Nat.le_refl _)⟩
      case measure => simp [intOf]; omega
    · obtain rfl : k = keys.length := by omega
      rw [List.take_length] at HO
      have i0 : ¬ (keys.length : Int) < (keys.length : Int) := by omega
      clear hlt hk
      go_wp2_with fail
      go_ret2
      exact ⟨_, rfl, spr_of HO.out rfl HB.out⟩

theorem hashSpreadNo (v : Value) (n : Int) (w : World) (h : ¬ (1 ≤ n ∧ n ≤ 1024)) :
    Calls Tryd.prog 21 #[v, .int .i64 n] w (One (.tuple #[.slice none 0 0, .int .i64 2]) w) := by
  have HA := Lib.hid (hashAllowedNo n w h)
  clear h
  go_enter Tryd.func21, Tryd.ntmps21
  go_wp2_with fail
  refine HA.out.mono ?_
  rintro e w1 ⟨rfl, rfl⟩
  go_wp2_with fail
  go_ret2
  exact ⟨rfl, rfl⟩

set_option maxHeartbeats 2000000 in
theorem refSpread (A : Option Addr) (c : Nat) (keys : List (List UInt8)) (n : Nat) (w : World) (hk : StrsAt w A keys) (hs : ShortK keys) (hm : keys.length ≤ 100000) (h1 : 1 ≤ n) (h2 : n ≤ 1024) :
    Calls Tryd.prog 20 #[.slice A keys.length c, .int .i64 (n : Int)] w fun e w' => ∃ v, e = .returned v ∧ Spr keys n w v w' := by
  obtain ⟨ti0, hi0, hz0, hz1, hz2⟩ := info_parts infoI
  have HK := Lib.hid hk
  have HS := Lib.hid hs
  have HN := Lib.hid (show 1 ≤ n ∧ n ≤ 1024 from ⟨h1, h2⟩)
  clear hk hs h1 h2
  go_enter Tryd.func20, Tryd.ntmps20
  go_wp2_with (refine wpList_make_full _ rfl (.tmp 8) (.tmp 8) 36 rfl w.heap.size 3 ti0 _ 1 Tryd.underlying36 hi0 hz0 hz1 .i64 .i64 _ _ n rfl rfl rfl rfl (by rw [hz2]; have := HN.out; omega) (by simp [maxLen]; have := HN.out; omega) (Nat.le_refl _) ?_; intro w1 hown hg)
  have HO := Lib.hid (cnts_made hown)
  have HB := Lib.hid ((Below.refl w.heap.size w).grown hg (Nat.le_refl _) (fun _ h => by cases h))
  clear hown hg hi0 hz0 hz1 hz2
  go_loopw [6] (fun a wr => ∃ (k : Nat), k ≤ keys.length ∧ a = .int .i64 k ∧ Hid (Cnts wr w.heap.size n (spreadN (keys.take k) n)) ∧ Hid (Below w.heap.size w wr)) (fun a _ => keys.length - (intOf a).toNat)
  case atStart => exact ⟨0, by omega, rfl, HO, HB⟩
  case round =>
    clear HO HB
    obtain ⟨k, hk, rfl, HO, HB⟩ := hrel
    by_cases hlt : k < keys.length
    · have i0 : (k : Int) < (keys.length : Int) := by omega
      obtain ⟨b, off, rfl, hbl, hc0⟩ := SlAt.cell1 (f := fun l : List UInt8 => Value.string ⟨l.toArray⟩) (HK.out.below HB.out) hlt
      have HP := Lib.hid (refStripe keys[k] n wr (HS.out _ (List.getElem_mem hlt)) HN.out.1 HN.out.2)
      obtain ⟨z, hz⟩ : ∃ z, stripeN keys[k] n = z := ⟨_, rfl⟩
      have hzn : z < n := by rw [← hz]; exact stripeN_lt _ HN.out.1
      obtain ⟨m, hm2⟩ : ∃ m, cntN (keys.take k) n z = m := ⟨_, rfl⟩
      have hm3 : m ≤ 100000 := by have := cntN_le (keys.take k) n z; rw [List.length_take] at this; omega
      have HZ := Lib.hid (show stripeN keys[k] n = z ∧ cntN (keys.take k) n z = m ∧ z < n from ⟨hz, hm2, hzn⟩)
      have HLT := Lib.hid (fun (W : World) (h : Cnts W w.heap.size n (spreadN (keys.take k) n)) => cnts_step h HN.out.1 hlt hz hm2)
      rw [hz] at HP
      generalize keys[k] = key at *
      clear hz hm2
      have d0 : wr.cell? ⟨w.heap.size, z, none⟩ = some (.int .i64 (m : Int)) := by
        rw [HO.out.cellAt z (by omega), cellsI_at, spreadN_get _ _ _ hzn, HZ.out.2.1]; rfl
      have d1 : wr.frozen? ⟨w.heap.size, z, none⟩ = false := HO.out.frozenAt z
      have i1 : (z : Int) < (n : Int) := by omega
      go_wp2_with fail
      refine HP.out.mono ?_
      rintro e w2 ⟨rfl, rfl⟩
      go_wp2_with fail
      go_roundw
      case rel =>
        obtain ⟨a, b⟩ := HLT.out _ HO.out
        exact ⟨k + 1, by omega, by go_num, a, HB.out.grown b HB.out.size (fun _ h => by cases h; exact Nat.le_refl _)⟩
      case measure => simp [intOf]; omega
    · obtain rfl : k = keys.length := by omega
      rw [List.take_length] at HO
      have i0 : ¬ (keys.length : Int) < (keys.length : Int) := by omega
      clear hlt hk
      go_wp2_with fail
      go_ret
      exact ⟨_, rfl, spr_of HO.out rfl HB.out⟩

/-- The stripes below k that have keys. -/
def ordTo (keys : List (List UInt8)) (n k : Nat) : List Nat := (List.range k).filter fun i => 0 < cntN keys n i
theorem ordTo_yes {keys : List (List UInt8)} {n k : Nat} (h : 0 < cntN keys n k) : ordTo keys n k ++ [k] = ordTo keys n (k + 1) := by
  unfold ordTo
  rw [List.range_succ, List.filter_append]
  simp [h]
theorem ordTo_no {keys : List (List UInt8)} {n k : Nat} (h : ¬ 0 < cntN keys n k) : ordTo keys n k = ordTo keys n (k + 1) := by
  unfold ordTo
  rw [List.range_succ, List.filter_append]
  simp [h]
theorem ordTo_len (keys : List (List UInt8)) (n k : Nat) : (ordTo keys n k).length ≤ k := by
  have := List.length_filter_le (fun i => decide (0 < cntN keys n i)) (List.range k)
  rw [List.length_range] at this
  exact this
/-- What Order returns: the stripes that have keys, nothing else changed. -/
def Ord (keys : List (List UInt8)) (n : Nat) (w : World) (v : Value) (w' : World) : Prop := HoldsI w' v (orderN keys n) ∧ Below w.heap.size w w'

set_option maxHeartbeats 2000000 in
theorem hashOrder (A : Option Addr) (c : Nat) (keys : List (List UInt8)) (n : Nat) (w : World) (hk : StrsAt w A keys) (hs : ShortK keys) (hm : keys.length ≤ 100000) (h1 : 1 ≤ n) (h2 : n ≤ 1024) (ht : SizesOK w) :
    Calls Tryd.prog 24 #[.slice A keys.length c, .int .i64 (n : Int)] w fun e w' => ∃ v, e = .returned (.tuple #[v, .int .i64 0]) ∧ Ord keys n w v w' := by
  obtain ⟨ti0, hi0, hz0, hz1, hz2⟩ := info_parts infoI
  have HS := Lib.hid (hashSpread A c keys n w hk hs hm h1 h2 ht)
  have HN := Lib.hid (show 1 ≤ n ∧ n ≤ 1024 from ⟨h1, h2⟩)
  have HM := Lib.hid hm
  clear hk hs h1 h2 ht hm
  go_enter Tryd.func24, Tryd.ntmps24
  go_wp2_with fail
  refine HS.out.mono ?_
  rintro e w1 ⟨v, rfl, hsp⟩
  obtain ⟨B, cb, rfl, hat, _⟩ := HoldsI.of_own hsp.1
  have hlen : (spreadN keys n).length = n := spreadN_len keys n
  rw [hlen]
  have HAT := Lib.hid hat
  have HBW := Lib.hid hsp.2
  clear hsp hat
  go_wp2_with fail
  go_loopw [8, 19] (fun s8 s19 wr => ∃ (k : Nat) (D : Option Addr) (d : Nat), k ≤ n ∧ s8 = .slice D (ordTo keys n k).length d ∧ s19 = .int .i64 k ∧ Hid (RowI wr w1.heap.size (.slice D (ordTo keys n k).length d) (ordTo keys n k)) ∧ Hid (Below w1.heap.size w1 wr)) (fun _ s19 _ => n - (intOf s19).toNat)
  case atStart => exact ⟨0, none, 0, by omega, rfl, rfl, World.ownsRow_nil _ _ _ _, Below.refl _ _⟩
  case round =>
    obtain ⟨k, D, d, hk, rfl, rfl, HO, HB⟩ := hrel
    have hn2 : n ≤ 1024 := HN.out.2
    by_cases hlt : k < n
    · have i0 : (k : Int) < (n : Int) := by omega
      obtain ⟨b, off, rfl, hbl, hc0⟩ := SlAt.cell1 (f := fun m : Nat => Value.int .i64 m) (HAT.out.below HB.out) (j := k) (by omega)
      have hget : (spreadN keys n)[k]'(by omega) = cntN keys n k := Option.some.inj ((List.getElem?_eq_getElem _).symm.trans (spreadN_get keys n k hlt))
      rw [hget] at hc0
      have hcl := cntN_le keys n k
      have HL := Lib.hid (ordTo_len keys n k)
      by_cases hp : 0 < cntN keys n k
      · have i1 : (0 : Int) < (cntN keys n k : Int) := by omega
        have HE := Lib.hid (ordTo_yes hp)
        clear hget hp
        generalize ordTo keys n k = os at *
        generalize cntN keys n k = m at *
        go_wp2_with (at_builtin; refine wpList_append_sl _ encI 1 rfl (.tmp 26) (.tmp 28) 36 rfl encI_len (by omega) encI_one w1.heap.size 3 ti0 _ 8 Tryd.underlying36 hi0 hz0 hz1 hz2 rfl _ os rfl (HO.out.alloc _) _ 1 _ [k] rfl rfl (SlAt.one (heap_alloc_new _ _)) (by simp [maxLen]; have := HL.out; have := HN.out; omega) (by simp; have := HL.out; have := HN.out; omega) (by have := HB.out.size; simp; omega) ?_; intro v1 w2 hown hg hat; rw [HE.out] at hown; have HB2 := Lib.hid ((HB.out.alloc HB.out.size _).grown hg (by have := HB.out.size; simp; omega) (fun k hk => (HO.out.lt k hk).1)); obtain ⟨D2, d2, rfl, _⟩ := SlAt.of_own encI_len hown; have HO2 := Lib.hid hown; clear hown hg hat)
        go_roundw
        case rel => exact ⟨k + 1, D2, d2, by omega, rfl, by go_num, HO2, HB2⟩
        case measure => simp [intOf]; omega
      · have i1 : ¬ (0 : Int) < (cntN keys n k : Int) := by omega
        have HE := Lib.hid (ordTo_no hp)
        clear hget hp
        generalize cntN keys n k = m at *
        go_wp2_with fail
        go_roundw
        case rel => exact ⟨k + 1, D, d, by omega, by rw [HE.out], by go_num, by rw [← HE.out]; exact HO, HB⟩
        case measure => simp [intOf]; omega
    · obtain rfl : k = n := by omega
      have i0 : ¬ (k : Int) < (k : Int) := by omega
      have HH := Lib.hid (HoldsI.of_own HO.out)
      clear hlt hk
      go_wp2_with fail
      go_ret2
      exact ⟨_, rfl, HH.out, below_trans HBW.out HB.out⟩

theorem hashOrderNo (v : Value) (n : Int) (w : World) (h : ¬ (1 ≤ n ∧ n ≤ 1024)) :
    Calls Tryd.prog 24 #[v, .int .i64 n] w (One (.tuple #[.slice none 0 0, .int .i64 2]) w) := by
  have HA := Lib.hid (hashSpreadNo v n w h)
  clear h
  go_enter Tryd.func24, Tryd.ntmps24
  go_wp2_with fail
  refine HA.out.mono ?_
  rintro e w1 ⟨rfl, rfl⟩
  go_wp2_with fail
  go_loopw [8, 19] (fun s8 s19 wr => s8 = .slice none 0 0 ∧ s19 = .int .i64 0 ∧ wr = w) (fun _ _ _ => 0)
  case atStart => exact ⟨rfl, rfl, rfl⟩
  case round =>
    obtain ⟨rfl, rfl, rfl⟩ := hrel
    go_wp2_with fail
    go_ret2
    exact ⟨rfl, rfl⟩

set_option maxHeartbeats 2000000 in
theorem refOrder (A : Option Addr) (c : Nat) (keys : List (List UInt8)) (n : Nat) (w : World) (hk : StrsAt w A keys) (hs : ShortK keys) (hm : keys.length ≤ 100000) (h1 : 1 ≤ n) (h2 : n ≤ 1024) :
    Calls Tryd.prog 19 #[.slice A keys.length c, .int .i64 (n : Int)] w fun e w' => ∃ v, e = .returned v ∧ Ord keys n w v w' := by
  obtain ⟨ti0, hi0, hz0, hz1, hz2⟩ := info_parts infoI
  have HS := Lib.hid (refSpread A c keys n w hk hs hm h1 h2)
  have HN := Lib.hid (show 1 ≤ n ∧ n ≤ 1024 from ⟨h1, h2⟩)
  have HM := Lib.hid hm
  clear hk hs h1 h2 hm
  go_enter Tryd.func19, Tryd.ntmps19
  go_wp2_with fail
  refine HS.out.mono ?_
  rintro e w1 ⟨v, rfl, hsp⟩
  obtain ⟨B, cb, rfl, hat, _⟩ := HoldsI.of_own hsp.1
  have hlen : (spreadN keys n).length = n := spreadN_len keys n
  rw [hlen]
  have HAT := Lib.hid hat
  have HBW := Lib.hid hsp.2
  clear hsp hat
  go_wp2_with fail
  go_loopw [5, 7] (fun s8 s19 wr => ∃ (k : Nat) (D : Option Addr) (d : Nat), k ≤ n ∧ s8 = .slice D (ordTo keys n k).length d ∧ s19 = .int .i64 k ∧ Hid (RowI wr w1.heap.size (.slice D (ordTo keys n k).length d) (ordTo keys n k)) ∧ Hid (Below w1.heap.size w1 wr)) (fun _ s19 _ => n - (intOf s19).toNat)
  case atStart => exact ⟨0, none, 0, by omega, rfl, rfl, World.ownsRow_nil _ _ _ _, Below.refl _ _⟩
  case round =>
    obtain ⟨k, D, d, hk, rfl, rfl, HO, HB⟩ := hrel
    have hn2 : n ≤ 1024 := HN.out.2
    by_cases hlt : k < n
    · have i0 : (k : Int) < (n : Int) := by omega
      obtain ⟨b, off, rfl, hbl, hc0⟩ := SlAt.cell1 (f := fun m : Nat => Value.int .i64 m) (HAT.out.below HB.out) (j := k) (by omega)
      have hget : (spreadN keys n)[k]'(by omega) = cntN keys n k := Option.some.inj ((List.getElem?_eq_getElem _).symm.trans (spreadN_get keys n k hlt))
      rw [hget] at hc0
      have HL := Lib.hid (ordTo_len keys n k)
      by_cases hp : 0 < cntN keys n k
      · have i1 : (0 : Int) < (cntN keys n k : Int) := by omega
        have HE := Lib.hid (ordTo_yes hp)
        clear hget hp
        generalize ordTo keys n k = os at *
        generalize cntN keys n k = m at *
        go_wp2_with (at_builtin; refine wpList_append_sl _ encI 1 rfl (.tmp 22) (.tmp 24) 36 rfl encI_len (by omega) encI_one w1.heap.size 3 ti0 _ 8 Tryd.underlying36 hi0 hz0 hz1 hz2 rfl _ os rfl (HO.out.alloc _) _ 1 _ [k] rfl rfl (SlAt.one (heap_alloc_new _ _)) (by simp [maxLen]; have := HL.out; have := HN.out; omega) (by simp; have := HL.out; have := HN.out; omega) (by have := HB.out.size; simp; omega) ?_; intro v1 w2 hown hg hat; rw [HE.out] at hown; have HB2 := Lib.hid ((HB.out.alloc HB.out.size _).grown hg (by have := HB.out.size; simp; omega) (fun k hk => (HO.out.lt k hk).1)); obtain ⟨D2, d2, rfl, _⟩ := SlAt.of_own encI_len hown; have HO2 := Lib.hid hown; clear hown hg hat)
        go_roundw
        case rel => exact ⟨k + 1, D2, d2, by omega, rfl, by go_num, HO2, HB2⟩
        case measure => simp [intOf]; omega
      · have i1 : ¬ (0 : Int) < (cntN keys n k : Int) := by omega
        have HE := Lib.hid (ordTo_no hp)
        clear hget hp
        generalize cntN keys n k = m at *
        go_wp2_with fail
        go_roundw
        case rel => exact ⟨k + 1, D, d, by omega, by rw [HE.out], by go_num, by rw [← HE.out]; exact HO, HB⟩
        case measure => simp [intOf]; omega
    · obtain rfl : k = n := by omega
      have i0 : ¬ (k : Int) < (k : Int) := by omega
      have HH := Lib.hid (HoldsI.of_own HO.out)
      clear hlt hk
      go_wp2_with fail
      go_ret
      exact ⟨_, rfl, HH.out, below_trans HBW.out HB.out⟩

end Go.Proofs.YtmploibgmmeanaaDoor
