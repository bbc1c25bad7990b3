/- Package floats' reference: keys, the canonical value, the order of two; numbers and values in memory. -/
import Derived.Test.YtobkhoednecljaaDoorCrcH
import Derived.Test.YtobkhoednecljaaDoorFloS
import Derived.Outline
namespace Go.Proofs.YtobkhoednecljaaDoor
open Go.RowKit

/-- One result that is known, nothing changed. -/
def One (v : Value) (w : World) (e : Ending) (w' : World) : Prop := e = .returned v ∧ w = w'
/-- One result that is known, all that lay lies. -/
def OneB (v : Value) (w : World) (e : Ending) (w' : World) : Prop := e = .returned v ∧ Below w.heap.size w w'
theorem OneB.int {k : IntKind} {a b : Int} {w w' : World} (h : a = b) (hb : Below w.heap.size w w') : OneB (.int k b) w (.returned (.int k a)) w' := by subst h; exact ⟨rfl, hb⟩
theorem One.int {k : IntKind} {a b : Int} (w : World) (h : a = b) : One (.int k b) w (.returned (.int k a)) w := by subst h; exact ⟨rfl, rfl⟩
theorem wrapU64 (n : Int) : IntKind.u64.wrap n = n % 18446744073709551616 := by simp [IntKind.wrap, IntKind.bits, IntKind.signed]

abbrev encU (n : Nat) : List Value := [.int .u64 n]
theorem encU_len (x : Nat) : (encU x).length = 1 := rfl
theorem encU_one (x : Nat) : ∀ u ∈ encU x, u.oneCell' = true := by intro u hu; simp at hu; subst hu; rfl
theorem infoU : (Tryd.prog.info? 22).map (fun i => (i.zero, i.size, i.bytes)) = some (some (.int .u64 0), 1, 8) := by kernel_rfl
abbrev NumsU (w : World) (A : Option Addr) (xs : List Nat) : Prop := SlAt encU 1 w A xs
def HoldsU (w : World) (v : Value) (xs : List Nat) : Prop := ∃ A c, v = .slice A xs.length c ∧ NumsU w A xs ∧ xs.length ≤ c ∧ c ≤ maxLen
theorem HoldsU.below {w w' : World} {v : Value} {xs : List Nat} (h : HoldsU w v xs) (hb : Below w.heap.size w w') : HoldsU w' v xs := by
  obtain ⟨A, c, rfl, hx, h1, h2⟩ := h
  exact ⟨A, c, rfl, hx.below hb, h1, h2⟩
theorem HoldsU.nil (w : World) : HoldsU w (.slice none 0 0) [] := ⟨none, 0, rfl, SlAt.nil, by simp, by simp [maxLen]⟩
abbrev encG (n : Nat) : List Value := [.float .f64 n]
theorem encG_len (x : Nat) : (encG x).length = 1 := rfl
theorem encG_one (x : Nat) : ∀ u ∈ encG x, u.oneCell' = true := by intro u hu; simp at hu; subst hu; rfl
theorem infoG : (Tryd.prog.info? 23).map (fun i => (i.zero, i.size, i.bytes)) = some (some (.float .f64 0), 1, 8) := by kernel_rfl
abbrev NumsG (w : World) (A : Option Addr) (xs : List Nat) : Prop := SlAt encG 1 w A xs
def HoldsG (w : World) (v : Value) (xs : List Nat) : Prop := ∃ A c, v = .slice A xs.length c ∧ NumsG w A xs ∧ xs.length ≤ c ∧ c ≤ maxLen
theorem HoldsG.below {w w' : World} {v : Value} {xs : List Nat} (h : HoldsG w v xs) (hb : Below w.heap.size w w') : HoldsG w' v xs := by
  obtain ⟨A, c, rfl, hx, h1, h2⟩ := h
  exact ⟨A, c, rfl, hx.below hb, h1, h2⟩
theorem HoldsG.nil (w : World) : HoldsG w (.slice none 0 0) [] := ⟨none, 0, rfl, SlAt.nil, by simp, by simp [maxLen]⟩
theorem SlAt.cell1 {α : Type} {f : α → Value} {w : World} {A : Option Addr} {xs : List α} (h : SlAt (fun x => [f x]) 1 w A xs) {j : Nat} (hj : j < xs.length) :
    ∃ b off, A = some ⟨b, off, none⟩ ∧ b < w.heap.size ∧ w.cell? ⟨b, off + j, none⟩ = some (f xs[j]) := by
  obtain ⟨b, off, rfl, hb, hc⟩ := h (by omega)
  exact ⟨b, off, rfl, hb, by simpa using hc j _ (List.getElem?_eq_getElem hj) 0 _ rfl⟩

theorem refKey13 (b : Nat) (w : World) (h : b < 18446744073709551616) : Calls Tryd.prog 11 #[.int .u64 (b : Int)] w (One (.int .u64 ((keyF b : Nat) : Int)) w) := by
  by_cases c : b < 9223372036854775808
  · have i0 : (b : Int) < 9223372036854775808 := by omega
    have HE := Lib.hid (show (9223372036854775808 + (b : Int)) = ((keyF b : Nat) : Int) from by unfold keyF; rw [if_pos c]; omega)
    clear c
    go_enter Tryd.func11, Tryd.ntmps11
    go_wp2_with fail
    go_ret
    exact One.int w HE.out
  · have i0 : ¬ (b : Int) < 9223372036854775808 := by omega
    have HE := Lib.hid (show (18446744073709551615 - (b : Int)) = ((keyF b : Nat) : Int) from by unfold keyF; rw [if_neg c]; omega)
    clear c
    go_enter Tryd.func11, Tryd.ntmps11
    go_wp2_with fail
    go_ret
    exact One.int w HE.out
theorem refOf13 (k : Nat) (w : World) (h : k < 18446744073709551616) : Calls Tryd.prog 14 #[.int .u64 (k : Int)] w (One (.int .u64 ((ofF k : Nat) : Int)) w) := by
  by_cases c : 9223372036854775808 ≤ k
  · have i0 : (9223372036854775808 : Int) ≤ (k : Int) := by omega
    have HE := Lib.hid (show ((k : Int) - 9223372036854775808) = ((ofF k : Nat) : Int) from by unfold ofF; rw [if_pos c]; omega)
    clear c
    go_enter Tryd.func14, Tryd.ntmps14
    go_wp2_with fail
    go_ret
    exact One.int w HE.out
  · have i0 : ¬ (9223372036854775808 : Int) ≤ (k : Int) := by omega
    have HE := Lib.hid (show (18446744073709551615 - (k : Int)) = ((ofF k : Nat) : Int) from by unfold ofF; rw [if_neg c]; omega)
    clear c
    go_enter Tryd.func14, Tryd.ntmps14
    go_wp2_with fail
    go_ret
    exact One.int w HE.out
theorem refCanon13 (b : Nat) (w : World) (h : b < 18446744073709551616) : Calls Tryd.prog 19 #[.int .u64 (b : Int)] w (One (.int .u64 ((canonF b : Nat) : Int)) w) := by
  by_cases c : infF < b % 9223372036854775808
  · have i0 : (9218868437227405312 : Int) < (b : Int) % 9223372036854775808 := by unfold infF at c; omega
    have HE := Lib.hid (show (9221120237041090560 : Int) = ((canonF b : Nat) : Int) from by unfold canonF; rw [if_pos c]; rfl)
    clear c
    go_enter Tryd.func19, Tryd.ntmps19
    go_wp2_with fail
    go_ret
    exact One.int w HE.out
  · have i0 : ¬ (9218868437227405312 : Int) < (b : Int) % 9223372036854775808 := by unfold infF at c; omega
    by_cases d : b % 9223372036854775808 = 0
    · have z0 : ((b : Int) % 9223372036854775808 == 0) = true := by simp; omega
      have HE := Lib.hid (show (0 : Int) = ((canonF b : Nat) : Int) from by unfold canonF; rw [if_neg c, if_pos d]; rfl)
      clear c d
      go_enter Tryd.func19, Tryd.ntmps19
      go_wp2_with fail
      go_ret
      exact One.int w HE.out
    · have z0 : ((b : Int) % 9223372036854775808 == 0) = false := by simp; omega
      have HE := Lib.hid (show (b : Int) = ((canonF b : Nat) : Int) from by unfold canonF; rw [if_neg c, if_neg d])
      clear c d
      go_enter Tryd.func19, Tryd.ntmps19
      go_wp2_with fail
      go_ret
      exact One.int w HE.out

/-- A value's bits, and the value with some bits. -/
theorem run_fromBits (b : Nat) (w : World) : (callFunc 33 #[.int .u64 (b : Int)]).run Tryd.prog w = .ok (.value (.float .f64 b)) w := by
  rw [run_callFunc_extern Tryd.func33 (by kernel_rfl) (by kernel_rfl) (by kernel_rfl) (e := Extern.MathFloatBits.float64frombits) (by kernel_rfl)]
  rfl
theorem run_toBits (b : Nat) (w : World) : (callFunc 32 #[.float .f64 b]).run Tryd.prog w = .ok (.value (.int .u64 (b : Int))) w := by
  rw [run_callFunc_extern Tryd.func32 (by kernel_rfl) (by kernel_rfl) (by kernel_rfl) (e := Extern.MathFloatBits.float64bits) (by kernel_rfl)]
  rfl
/-- The law's 'of' and 'is'. -/
theorem lawOf13 (b : Nat) (w : World) : Calls Tryd.prog 9 #[.int .u64 (b : Int)] w (One (.float .f64 b) w) := by
  have hd := run_fromBits b
  go_enter Tryd.func9, Tryd.ntmps9
  go_wp2_with fail
  go_ret
  exact ⟨rfl, rfl⟩
theorem lawIs13 (x b : Nat) (w : World) : Calls Tryd.prog 12 #[.float .f64 x, .int .u64 (b : Int)] w (One (.bool (decide (x = b))) w) := by
  have hd := run_toBits x
  have he : ((x : Int) == (b : Int)) = decide (x = b) := by
    by_cases h : x = b
    · subst h; simp
    · rw [decide_eq_false h]; simp; omega
  go_enter Tryd.func12, Tryd.ntmps12
  go_wp2_with fail
  go_ret
  exact ⟨rfl, rfl⟩
theorem lawMinus13 (w : World) : Calls Tryd.prog 35 #[] w (One (.float .f64 9223372036854775808) w) := by
  have hd := lawOf13 9223372036854775808
  go_enter Tryd.func35, Tryd.ntmps35
  go_wp2_with fail
  refine (hd _).mono ?_
  rintro e w1 ⟨rfl, rfl⟩
  go_wp2_with fail
  go_ret
  exact ⟨rfl, rfl⟩

theorem refCompare13 (a b : Nat) (w : World) (ha : a < 18446744073709551616) (hb : b < 18446744073709551616) : Calls Tryd.prog 16 #[.int .u64 (a : Int), .int .u64 (b : Int)] w (One (.int .i64 (cmpF a b)) w) := by
  have HA := Lib.hid ha
  have HB := Lib.hid hb
  clear ha hb
  by_cases c : keyF a < keyF b
  · have i0 : ((keyF a : Nat) : Int) < ((keyF b : Nat) : Int) := by omega
    have HE := Lib.hid (show (-1 : Int) = cmpF a b from by unfold cmpF; rw [if_pos c])
    clear c
    generalize hka : keyF a = p at i0 ⊢
    generalize hkb : keyF b = q at i0 ⊢
    have RA := refKey13 a w HA.out
    have RB := refKey13 b w HB.out
    rw [hka] at RA
    rw [hkb] at RB
    clear hka hkb
    go_enter Tryd.func16, Tryd.ntmps16
    go_wp2_with fail
    refine RA.mono ?_
    rintro e w1 ⟨rfl, rfl⟩
    go_wp2_with fail
    refine RB.mono ?_
    rintro e w1 ⟨rfl, rfl⟩
    go_wp2_with fail
    go_ret
    exact One.int w HE.out
  · have i0 : ¬ ((keyF a : Nat) : Int) < ((keyF b : Nat) : Int) := by omega
    have i1 : ¬ (((keyF a : Nat) : Int) < ((keyF b : Nat) : Int)) := i0
    by_cases d : keyF b < keyF a
    · have i2 : ((keyF b : Nat) : Int) < ((keyF a : Nat) : Int) := by omega
      have HE := Lib.hid (show (1 : Int) = cmpF a b from by unfold cmpF; rw [if_neg c, if_pos d])
      clear c d i1
      generalize hka : keyF a = p at i0 i2 ⊢
      generalize hkb : keyF b = q at i0 i2 ⊢
      have RA := refKey13 a w HA.out
      have RB := refKey13 b w HB.out
      rw [hka] at RA
      rw [hkb] at RB
      clear hka hkb
      go_enter Tryd.func16, Tryd.ntmps16
      go_wp2_with fail
      refine RA.mono ?_
      rintro e w1 ⟨rfl, rfl⟩
      go_wp2_with fail
      refine RB.mono ?_
      rintro e w1 ⟨rfl, rfl⟩
      go_wp2_with fail
      refine RA.mono ?_
      rintro e w1 ⟨rfl, rfl⟩
      go_wp2_with fail
      refine RB.mono ?_
      rintro e w1 ⟨rfl, rfl⟩
      go_wp2_with fail
      go_ret
      exact One.int w HE.out
    · have i2 : ¬ ((keyF b : Nat) : Int) < ((keyF a : Nat) : Int) := by omega
      have HE := Lib.hid (show (0 : Int) = cmpF a b from by unfold cmpF; rw [if_neg c, if_neg d])
      clear c d i1
      generalize hka : keyF a = p at i0 i2 ⊢
      generalize hkb : keyF b = q at i0 i2 ⊢
      have RA := refKey13 a w HA.out
      have RB := refKey13 b w HB.out
      rw [hka] at RA
      rw [hkb] at RB
      clear hka hkb
      go_enter Tryd.func16, Tryd.ntmps16
      go_wp2_with fail
      refine RA.mono ?_
      rintro e w1 ⟨rfl, rfl⟩
      go_wp2_with fail
      refine RB.mono ?_
      rintro e w1 ⟨rfl, rfl⟩
      go_wp2_with fail
      refine RA.mono ?_
      rintro e w1 ⟨rfl, rfl⟩
      go_wp2_with fail
      refine RB.mono ?_
      rintro e w1 ⟨rfl, rfl⟩
      go_wp2_with fail
      go_ret
      exact One.int w HE.out

end Go.Proofs.YtobkhoednecljaaDoor
