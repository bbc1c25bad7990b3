/- Package floats itself: Key, Of, Compare, Canon, Same. -/
import Derived.Test.YtobkhoednecljaaDoorFloL
import Derived.Laws.BitsAllLaws
namespace Go.Proofs.YtobkhoednecljaaDoor
open Go.RowKit

theorem xor_ones {b : Nat} (h : b < 18446744073709551616) : bits .xor .u64 IntKind.u64.max (b : Int) = ((18446744073709551615 - b : Nat) : Int) := by
  show bits .xor .u64 18446744073709551615 (b : Int) = _
  have e := u64_xor_nat 18446744073709551615 b (by decide) h
  have e2 : 18446744073709551615 ^^^ b = 18446744073709551615 - b := by
    have e3 := congrArg BitVec.toNat (BitVec.allOnes_xor (x := BitVec.ofNat 64 b))
    rw [BitVec.toNat_xor, BitVec.toNat_not, BitVec.toNat_ofNat, BitVec.toNat_allOnes] at e3
    rw [Nat.mod_eq_of_lt (by omega)] at e3
    exact e3
  rw [e2] at e
  exact e
theorem without_sign {b : Nat} (h : b < 18446744073709551616) : bits .andNot .u64 (b : Int) 9223372036854775808 = ((b % 9223372036854775808 : Nat) : Int) := by
  have e := u64_andNot_nat b 9223372036854775808 h (by decide)
  have e2 : b &&& (18446744073709551615 - 9223372036854775808) = b % 9223372036854775808 := Nat.and_two_pow_sub_one_eq_mod b 63
  rw [e2] at e
  exact e

set_option maxRecDepth 100000 in
theorem floKey (b : Nat) (w : World) (h : b < 18446744073709551616) : Calls Tryd.prog 10 #[.float .f64 b] w (One (.int .u64 ((keyF b : Nat) : Int)) w) := by
  have hd := run_toBits b
  by_cases c : b < 9223372036854775808
  · have i0 : (b : Int) < 9223372036854775808 := by omega
    have HE := Lib.hid (show (9223372036854775808 + (b : Int)) = ((keyF b : Nat) : Int) from by unfold keyF; rw [if_pos c]; omega)
    clear c
    go_enter Tryd.func10, Tryd.ntmps10
    go_wp2_with fail
    go_ret
    exact One.int w HE.out
  · have i0 : ¬ (b : Int) < 9223372036854775808 := by omega
    have hx := xor_ones h
    have HE := Lib.hid (show ((18446744073709551615 - b : Nat) : Int) = ((keyF b : Nat) : Int) from by unfold keyF; rw [if_neg c])
    obtain ⟨r, hr⟩ : ∃ r : Nat, 18446744073709551615 - b = r := ⟨_, rfl⟩
    rw [hr] at hx HE
    clear c hr
    go_enter Tryd.func10, Tryd.ntmps10
    go_wp2_with fail
    go_ret
    exact One.int w HE.out
set_option maxRecDepth 100000 in
theorem floOf (k : Nat) (w : World) (h : k < 18446744073709551616) : Calls Tryd.prog 13 #[.int .u64 (k : Int)] w (One (.float .f64 (ofF k)) w) := by
  by_cases c : 9223372036854775808 ≤ k
  · have i0 : ¬ (k : Int) < 9223372036854775808 := by omega
    have e : ((k : Int) - 9223372036854775808) = ((ofF k : Nat) : Int) := by unfold ofF; rw [if_pos c]; omega
    generalize ofF k = o at e ⊢
    have hd := run_fromBits o
    clear c
    go_enter Tryd.func13, Tryd.ntmps13
    go_wp2_with fail
    go_ret
    exact ⟨rfl, rfl⟩
  · have i0 : (k : Int) < 9223372036854775808 := by omega
    have hx := xor_ones h
    rw [show 18446744073709551615 - k = ofF k from by unfold ofF; rw [if_neg c]] at hx
    generalize ofF k = o at hx ⊢
    have hd := run_fromBits o
    have hq : bits .xor .u64 (if IntKind.u64.signed = true then -1 else IntKind.u64.max) (k : Int) = (o : Int) := hx
    clear c hx
    go_enter Tryd.func13, Tryd.ntmps13
    go_wp2_with (rw [hq])
    go_ret
    exact ⟨rfl, rfl⟩
theorem cmpIsNan (a : Int) (w : World) : Calls Tryd.prog 42 #[.int .u64 a] w (One (.bool false) w) := by
  go_enter Tryd.func42, Tryd.ntmps42
  go_wp2_with fail
  go_ret
  exact ⟨rfl, rfl⟩
theorem cmpU64 (a b c : Int) (w : World) (h : (a < b ∧ c = -1) ∨ (b < a ∧ c = 1) ∨ (a = b ∧ c = 0)) : Calls Tryd.prog 34 #[.int .u64 a, .int .u64 b] w (One (.int .i64 c) w) := by
  rcases h with ⟨h, rfl⟩ | ⟨h, rfl⟩ | ⟨rfl, rfl⟩
  · skip
    go_enter Tryd.func34, Tryd.ntmps34
    go_wp2_with fail
    refine (cmpIsNan _ _).mono ?_
    rintro e w1 ⟨rfl, rfl⟩
    go_wp2_with fail
    refine (cmpIsNan _ _).mono ?_
    rintro e w1 ⟨rfl, rfl⟩
    go_wp2_with fail
    go_ret
    exact ⟨rfl, rfl⟩
  · have h2 : ¬ a < b := by omega
    go_enter Tryd.func34, Tryd.ntmps34
    go_wp2_with fail
    refine (cmpIsNan _ _).mono ?_
    rintro e w1 ⟨rfl, rfl⟩
    go_wp2_with fail
    refine (cmpIsNan _ _).mono ?_
    rintro e w1 ⟨rfl, rfl⟩
    go_wp2_with fail
    go_ret
    exact ⟨rfl, rfl⟩
  · have h2 : ¬ a < a := by omega
    go_enter Tryd.func34, Tryd.ntmps34
    go_wp2_with fail
    refine (cmpIsNan _ _).mono ?_
    rintro e w1 ⟨rfl, rfl⟩
    go_wp2_with fail
    refine (cmpIsNan _ _).mono ?_
    rintro e w1 ⟨rfl, rfl⟩
    go_wp2_with fail
    go_ret
    exact ⟨rfl, rfl⟩
theorem floCompare (a b : Nat) (w : World) (ha : a < 18446744073709551616) (hb : b < 18446744073709551616) : Calls Tryd.prog 15 #[.float .f64 a, .float .f64 b] w (One (.int .i64 (cmpF a b)) w) := by
  have HA := Lib.hid ha
  have HB := Lib.hid hb
  have HC := Lib.hid (show (((keyF a : Nat) : Int) < ((keyF b : Nat) : Int) ∧ cmpF a b = -1) ∨ (((keyF b : Nat) : Int) < ((keyF a : Nat) : Int) ∧ cmpF a b = 1) ∨ (((keyF a : Nat) : Int) = ((keyF b : Nat) : Int) ∧ cmpF a b = 0) from by
    unfold cmpF
    rcases Nat.lt_trichotomy (keyF a) (keyF b) with h | h | h
    · rw [if_pos h]; exact .inl ⟨by omega, rfl⟩
    · rw [if_neg (by omega), if_neg (by omega)]; exact .inr (.inr ⟨by omega, rfl⟩)
    · rw [if_neg (by omega), if_pos h]; exact .inr (.inl ⟨by omega, rfl⟩))
  clear ha hb
  go_enter Tryd.func15, Tryd.ntmps15
  go_wp2_with fail
  refine (floKey a _ HA.out).mono ?_
  rintro e w1 ⟨rfl, rfl⟩
  go_wp2_with fail
  refine (floKey b _ HB.out).mono ?_
  rintro e w1 ⟨rfl, rfl⟩
  go_wp2_with fail
  refine (cmpU64 _ _ _ _ HC.out).mono ?_
  rintro e w1 ⟨rfl, rfl⟩
  go_wp2_with fail
  go_ret
  exact ⟨rfl, rfl⟩
/-- What Canon asks of a value's bits. -/
theorem canon_ask {b : Nat} (hb : b < 18446744073709551616) : ∃ m : Nat, bits .andNot .u64 (b : Int) 9223372036854775808 = (m : Int) ∧
    (((9218868437227405312 : Int) < (m : Int) ∧ canonF b = 9221120237041090560) ∨
    (¬ (9218868437227405312 : Int) < (m : Int) ∧ m = 0 ∧ canonF b = 0) ∨
    (¬ (9218868437227405312 : Int) < (m : Int) ∧ ((m : Int) == 0) = false ∧ canonF b = b)) := by
  refine ⟨b % 9223372036854775808, without_sign hb, ?_⟩
  have e : infF = 9218868437227405312 := rfl
  by_cases h1 : infF < b % 9223372036854775808
  · exact .inl ⟨by rw [e] at h1; omega, by unfold canonF; rw [if_pos h1]⟩
  · have h1' : ¬ (9218868437227405312 : Int) < ((b % 9223372036854775808 : Nat) : Int) := by rw [e] at h1; omega
    by_cases h2 : b % 9223372036854775808 = 0
    · exact .inr (.inl ⟨h1', h2, by unfold canonF; rw [if_neg h1, if_pos h2]⟩)
    · exact .inr (.inr ⟨h1', by simp; omega, by unfold canonF; rw [if_neg h1, if_neg h2]⟩)
theorem floCanon (b : Nat) (w : World) (h : b < 18446744073709551616) : Calls Tryd.prog 18 #[.float .f64 b] w (One (.float .f64 (canonF b)) w) := by
  have hd := fun W => (show (callFunc 33 #[.int .u64 9221120237041090560]).run Tryd.prog W = .ok (.value (.float .f64 9221120237041090560)) W from run_fromBits 9221120237041090560 W)
  have hd2 := run_toBits b
  obtain ⟨m, hm, ⟨h1, h2⟩ | ⟨h1, rfl, h3⟩ | ⟨h1, h2, h3⟩⟩ := canon_ask h
  · rw [h2]
    clear h2
    go_enter Tryd.func18, Tryd.ntmps18
    go_wp2_with fail
    go_ret
    exact ⟨rfl, rfl⟩
  · rw [h3]
    clear h3
    go_enter Tryd.func18, Tryd.ntmps18
    go_wp2_with fail
    go_ret
    exact ⟨rfl, rfl⟩
  · rw [h3]
    clear h3
    go_enter Tryd.func18, Tryd.ntmps18
    go_wp2_with fail
    go_ret
    exact ⟨rfl, rfl⟩
theorem floSame (a b : Nat) (w : World) (ha : a < 18446744073709551616) (hb : b < 18446744073709551616) : Calls Tryd.prog 20 #[.float .f64 a, .float .f64 b] w (One (.bool (sameF a b)) w) := by
  have HA := Lib.hid fun W => floCanon a W ha
  have HB := Lib.hid fun W => floCanon b W hb
  have HC := Lib.hid fun W => floCompare (canonF a) (canonF b) W (canonF_lt ha) (canonF_lt hb)
  have hs : sameF a b = (cmpF (canonF a) (canonF b) == 0) := by
    unfold sameF
    by_cases h : canonF a = canonF b
    · rw [h, cmpF_self]; simp
    · rw [decide_eq_false h]; symm
      simpa using fun e => h ((cmpF_zero (canonF_lt ha) (canonF_lt hb)).1 e)
  rw [hs]
  clear hs ha hb
  generalize canonF a = ca at HA HC ⊢
  generalize canonF b = cb at HB HC ⊢
  generalize cmpF ca cb = cc at HC ⊢
  go_enter Tryd.func20, Tryd.ntmps20
  go_wp2_with fail
  refine (HA.out _).mono ?_
  rintro e w1 ⟨rfl, rfl⟩
  go_wp2_with fail
  refine (HB.out _).mono ?_
  rintro e w1 ⟨rfl, rfl⟩
  go_wp2_with fail
  refine (HC.out _).mono ?_
  rintro e w1 ⟨rfl, rfl⟩
  go_wp2_with fail
  go_ret
  exact ⟨rfl, rfl⟩

end Go.Proofs.YtobkhoednecljaaDoor
