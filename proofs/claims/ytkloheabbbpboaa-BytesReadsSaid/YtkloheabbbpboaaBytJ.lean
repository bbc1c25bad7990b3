/- The helpers of layer 4's laws: reads, hears, takes, number, first, nines. -/
import Derived.Test.YtkloheabbbpboaaBytI
namespace Go.Proofs.Ytkloheabbbpboaa
open Go.RowKit

theorem ret_bool {a b : Bool} (h : a = b) : Ending.returned (.bool a) = .returned (.bool b) := by rw [h]
/-- How far a reader goes on. -/
def adv (er : Int) (z : Nat) : Nat := if er = 0 then z else 0
/-- What is asked of a reader leaves: an answer, the place, nothing else changed. -/
def AskR (w : World) (g : Nat) (A : Option Addr) (c : Nat) (xs : List UInt8) (j : Nat) (b : Bool) (e : Ending) (w' : World) : Prop :=
  e = .returned (.bool b) ∧ Rd w' g A c xs j ∧ Chg (fun k => k = g) w w'

set_option maxHeartbeats 1000000 in
theorem lawReads (g : Nat) (A : Option Addr) (c : Nat) (xs : List UInt8) (i most want : Nat) (no : Int) (n z : Nat) (er : Int) (b : Bool) (w : World) (h : Rd w g A c xs i) (hmost : most < 18446744073709551616) (hr : numP (rd (xs.drop i)) most = (n, er)) (hz : (rd (xs.drop i)).2.1 = z) (hb : (((n : Int) == (want : Int)) && (er == no)) = b) :
    Calls Try.prog 20 #[.pointer (some ⟨g, 0, none⟩), .int .u64 (most : Int), .int .u64 (want : Int), .int .i64 no] w (AskR w g A c xs (i + adv er z) b) := by
  have hh := numTry g A c xs i most w h hmost n er hr
  subst hz
  have HN := Lib.hid (hh.mono fun e w' h => (h : e = .returned (.tuple #[.int .u64 n, .int .i64 er]) ∧ Rd w' g A c xs (i + adv er (rd (xs.drop i)).2.1) ∧ Chg (fun k => k = g) w w'))
  clear h hr hh
  cases h1 : ((n : Int) == (want : Int))
  · rw [h1] at hb
    have HB := Lib.hid (show false = b from hb)
    clear hb
    go_enter Try.func20, Try.ntmps20
    go_wp2_with fail
    refine HN.out.mono ?_
    rintro e w1 ⟨rfl, hR, hC⟩
    have HR := Lib.hid hR
    have HC := Lib.hid hC
    clear hR hC
    go_wp2_with fail
    go_ret
    exact ⟨ret_bool HB.out, HR.out, HC.out⟩
  · rw [h1] at hb
    have HB := Lib.hid (show (er == no) = b from hb)
    clear hb
    go_enter Try.func20, Try.ntmps20
    go_wp2_with fail
    refine HN.out.mono ?_
    rintro e w1 ⟨rfl, hR, hC⟩
    have HR := Lib.hid hR
    have HC := Lib.hid hC
    clear hR hC
    go_wp2_with fail
    go_ret
    exact ⟨ret_bool HB.out, HR.out, HC.out⟩

set_option maxHeartbeats 1000000 in
theorem lawHears (g : Nat) (A : Option Addr) (c : Nat) (xs : List UInt8) (i : Nat) (most : Int) (want ys : List UInt8) (z : Nat) (no er : Int) (b : Bool) (w : World) (h : Rd w g A c xs i) (hn0 : -9223372036854775808 ≤ most) (hn1 : most ≤ 9223372036854775807) (ht : rdS (xs.drop i) most = (ys, z, er)) (hb : (decide (ys = want) && (er == no)) = b) :
    Calls Try.prog 22 #[.pointer (some ⟨g, 0, none⟩), .int .i64 most, .string ⟨want.toArray⟩, .int .i64 no] w (AskR w g A c xs (i + adv er z) b) := by
  have hh := textTry g A c xs i most w h hn0 hn1 _ ht
  have HN := Lib.hid (hh.mono fun e w' h => (h : e = .returned (.tuple #[.string ⟨ys.toArray⟩, .int .i64 er]) ∧ Rd w' g A c xs (i + adv er z) ∧ Chg (fun k => k = g) w w'))
  clear h ht hh
  by_cases h1 : ys = want
  · subst h1
    have HB := Lib.hid (show (er == no) = b by rw [← hb]; simp)
    clear hb
    go_enter Try.func22, Try.ntmps22
    go_wp2_with fail
    refine HN.out.mono ?_
    rintro e w1 ⟨rfl, hR, hC⟩
    have HR := Lib.hid hR
    have HC := Lib.hid hC
    clear hR hC
    go_wp2_with fail
    go_ret
    exact ⟨ret_bool HB.out, HR.out, HC.out⟩
  · have HB := Lib.hid (show false = b by rw [← hb]; simp [h1])
    clear hb
    go_enter Try.func22, Try.ntmps22
    go_wp2_with fail
    refine HN.out.mono ?_
    rintro e w1 ⟨rfl, hR, hC⟩
    have HR := Lib.hid hR
    have HC := Lib.hid hC
    clear hR hC
    go_wp2_with fail
    go_ret
    exact ⟨ret_bool HB.out, HR.out, HC.out⟩

set_option maxHeartbeats 1000000 in
theorem lawTakes (g : Nat) (A : Option Addr) (c : Nat) (xs : List UInt8) (i : Nat) (n : Int) (want ys : List UInt8) (no er : Int) (b : Bool) (w : World) (h : Rd w g A c xs i) (hn0 : -9223372036854775808 ≤ n) (hn1 : n ≤ 9223372036854775807) (ht : takeP (xs.drop i) n = (ys, er)) (hb : (decide (ys = want) && (er == no)) = b) :
    Calls Try.prog 23 #[.pointer (some ⟨g, 0, none⟩), .int .i64 n, .string ⟨want.toArray⟩, .int .i64 no] w (AskR w g A c xs (i + adv er ys.length) b) := by
  have hh := takeTry g A c xs i n w h hn0 hn1 ys er ht
  have HN := Lib.hid (hh.mono fun e w' h => (h : (∃ B d, e = .returned (.tuple #[.slice B ys.length d, .int .i64 er]) ∧ HoldsB w' (.slice B ys.length d) ys) ∧ Rd w' g A c xs (i + adv er ys.length) ∧ Chg (fun k => k = g) w w'))
  clear h ht hh
  by_cases h1 : ys = want
  · subst h1
    have HB := Lib.hid (show (er == no) = b by rw [← hb]; simp)
    clear hb
    go_enter Try.func23, Try.ntmps23
    go_wp2_with fail
    refine HN.out.mono ?_
    rintro e w1 ⟨⟨B, d, rfl, hv⟩, hR, hC⟩
    have hcv := convB w1 B d ys hv
    have HR := Lib.hid hR
    have HC := Lib.hid hC
    clear hR hC hv
    go_wp2_with fail
    go_ret
    exact ⟨ret_bool HB.out, HR.out, HC.out⟩
  · have HB := Lib.hid (show false = b by rw [← hb]; simp [h1])
    clear hb
    go_enter Try.func23, Try.ntmps23
    go_wp2_with fail
    refine HN.out.mono ?_
    rintro e w1 ⟨⟨B, d, rfl, hv⟩, hR, hC⟩
    have hcv := convB w1 B d ys hv
    have HR := Lib.hid hR
    have HC := Lib.hid hC
    clear hR hC hv
    go_wp2_with fail
    go_ret
    exact ⟨ret_bool HB.out, HR.out, HC.out⟩

/-- A new writer in a block of its own. -/
theorem Wr.new (w : World) : Wr (w.alloc (.cells #[.slice none 0 0] 27)) w.heap.size (.slice none 0 0) [] :=
  ⟨heap_alloc_new w _, World.ownsRow_nil _ _ _ _, by simp [Value.ownBlock]⟩
theorem Wrote.bel {w W W' : World} {g : Nat} {zs : List UInt8} (h : Wrote W g (.slice none 0 0) zs W') (hb : Below w.heap.size w W) (hg : w.heap.size ≤ g) : Below w.heap.size w W' := by
  obtain ⟨v', _, _, hc⟩ := h
  exact hb.trans (hc.below hb.size fun k hk => by
    rcases hk with e | e
    · rw [e]; exact hg
    · simp [Value.ownBlock] at e)

set_option maxHeartbeats 1000000 in
theorem lawNumber (n : Nat) (w : World) (hn : n < 18446744073709551616) :
    Calls Try.prog 30 #[.int .u64 (n : Int)] w fun e w' => e = .returned (.string ⟨(enc n).toArray⟩) ∧ Below w.heap.size w w' := by
  have hal : Below w.heap.size w (w.alloc (.cells #[.slice none 0 0] 27)) := (Below.refl _ w).alloc (Nat.le_refl _) _
  have HN := Lib.hid (numAt w.heap.size (.slice none 0 0) [] n _ (Wr.new w) hn (by simp))
  have HAL := Lib.hid hal
  have HT := Lib.hid (enc_ten hn)
  clear hal hn
  go_enter Try.func30, Try.ntmps30
  go_wp2_with fail
  refine HN.out.mono ?_
  rintro e w1 ⟨rfl, hw⟩
  have HB := Lib.hid (hw.bel HAL.out (Nat.le_refl _))
  obtain ⟨v1, hw1, _, _⟩ := hw
  rw [List.nil_append] at hw1
  have HY := Lib.hid (bytesAt w.heap.size v1 (enc n) w1 hw1 (by have := HT.out; omega))
  clear hw1
  go_wp2_with fail
  refine HY.out.mono ?_
  rintro e w2 ⟨⟨v2, rfl, ho⟩, hb⟩
  have hv := HoldsB.of_own ho
  have hv0 := hv
  obtain ⟨B, d, rfl, _⟩ := hv
  have hcv := convB w2 B d (enc n) hv0
  have HB2 := Lib.hid (below_trans HB.out hb)
  clear ho hv0 hb
  go_wp2_with fail
  go_ret
  exact ⟨rfl, HB2.out⟩

set_option maxHeartbeats 1000000 in
theorem lawFirst (v : Value) (xs : List UInt8) (no : Int) (n z : Nat) (er : Int) (w : World) (h : HoldsB w v xs) (hm : xs.length ≤ 1000000) (hr : numP (rd xs) 18446744073709551615 = (0, er)) (he : er = no) (hne : er ≠ 0) :
    Calls Try.prog 31 #[.int .i64 no, v] w fun e w' => e = .returned (.bool true) ∧ Below w.heap.size w w' := by
  have HW := Lib.hid (newAt v xs w h hm)
  have HR := Lib.hid hr
  subst he
  have HNE := Lib.hid hne
  clear h hm hr hne
  go_enter Try.func31, Try.ntmps31
  go_wp2_with fail
  refine HW.out.mono ?_
  rintro e w1 ⟨⟨g, A, c, rfl, hR, hg, hA⟩, hb⟩
  have hq := lawReads g A c xs 0 18446744073709551615 0 er 0 _ er true w1 hR (by omega) (by rw [List.drop_zero]; exact HR.out) rfl (by simp)
  have HQ := Lib.hid hq
  have HB := Lib.hid hb
  have HG := Lib.hid hg
  clear hR hb hq hg hA
  go_wp2_with fail
  refine HQ.out.mono ?_
  rintro e w2 ⟨rfl, hR2, hC⟩
  have hp : adv er (rd (List.drop 0 xs)).2.1 = 0 := if_neg HNE.out
  rw [hp, Nat.zero_add] at hR2
  have HA := Lib.hid (atAt g A c xs 0 w2 hR2)
  have HB2 := Lib.hid (HB.out.trans (hC.below HB.out.size fun k hk => by rw [hk]; exact HG.out))
  clear hR2 hC hp
  go_wp2_with fail
  refine HA.out.mono ?_
  rintro e w3 ⟨rfl, rfl⟩
  go_wp2_with fail
  go_ret
  exact ⟨rfl, HB2.out⟩

end Go.Proofs.Ytkloheabbbpboaa
