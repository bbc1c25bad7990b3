/- Package floats' contracts as hypotheses; the laws Keys, Canons, Texts from them. -/
import Derived.Test.YtobkhoednecljaaDoorFloE
import Derived.Test.YtobkhoednecljaaDoorFloT
namespace Go.Proofs.YtobkhoednecljaaDoor
open Go.RowKit

/-- What package floats returns, in a world where all lies that lay in w0. -/
def KeyOK (w0 : World) : Prop := ∀ (b : Nat) (W : World), Below w0.heap.size w0 W → b < 18446744073709551616 → Calls Tryd.prog 10 #[.float .f64 b] W (OneB (.int .u64 ((keyF b : Nat) : Int)) W)
def OfOK (w0 : World) : Prop := ∀ (k : Nat) (W : World), Below w0.heap.size w0 W → k < 18446744073709551616 → Calls Tryd.prog 13 #[.int .u64 (k : Int)] W (OneB (.float .f64 (ofF k)) W)
def CmpOK (w0 : World) : Prop := ∀ (a b : Nat) (W : World), Below w0.heap.size w0 W → a < 18446744073709551616 → b < 18446744073709551616 → Calls Tryd.prog 15 #[.float .f64 a, .float .f64 b] W (OneB (.int .i64 (cmpF a b)) W)
def CanOK (w0 : World) : Prop := ∀ (b : Nat) (W : World), Below w0.heap.size w0 W → b < 18446744073709551616 → Calls Tryd.prog 18 #[.float .f64 b] W (OneB (.float .f64 (canonF b)) W)
def SamOK (w0 : World) : Prop := ∀ (a b : Nat) (W : World), Below w0.heap.size w0 W → a < 18446744073709551616 → b < 18446744073709551616 → Calls Tryd.prog 20 #[.float .f64 a, .float .f64 b] W (OneB (.bool (sameF a b)) W)
def SrtOK (w0 : World) : Prop := ∀ (A : Option Addr) (xs : List Nat) (cap : Nat) (W : World), Below w0.heap.size w0 W → NumsG W A xs → xs.length ≤ 1000 → (∀ x ∈ xs, x < 18446744073709551616) → Calls Tryd.prog 22 #[.slice A xs.length cap] W fun e w' => ∃ v, e = .returned v ∧ MadeG W w' v (sortF xs)
def SumOK (w0 : World) : Prop := ∀ (A : Option Addr) (xs : List Nat) (cap : Nat) (W : World), Below w0.heap.size w0 W → NumsG W A xs → xs.length ≤ 1000 → (∀ x ∈ xs, x < 18446744073709551616) → Calls Tryd.prog 26 #[.slice A xs.length cap] W (OneB (.float .f64 (sumF xs)) W)
def TxtOK (w0 : World) : Prop := ∀ (b : Nat) (W : World), Below w0.heap.size w0 W → b < 18446744073709551616 → Calls Tryd.prog 28 #[.float .f64 b] W (OneB (.string (txtF b)) W)
def PrsOK (w0 : World) : Prop := ∀ (l : List UInt8) (W : World) (n : Nat) (e : Int), Below w0.heap.size w0 W → l.length ≤ 1000 → ((prsF l = some n ∧ e = 0) ∨ (prsF l = none ∧ n = 0 ∧ e = 6)) → Calls Tryd.prog 41 #[.string ⟨l.toArray⟩] W (OneB (.tuple #[.float .f64 n, .int .i64 e]) W)
structure FloOK (w0 : World) : Prop where
  key : KeyOK w0
  inv : OfOK w0
  cmp : CmpOK w0
  can : CanOK w0
  sam : SamOK w0
  srt : SrtOK w0
  sum : SumOK w0
  txt : TxtOK w0
  prs : PrsOK w0
/-- The examples. -/
def KnownF (w0 : World) : Prop := ∀ W : World, Below w0.heap.size w0 W → Calls Tryd.prog 17 #[] W (OneB (.bool true) W)

theorem lawIs13_v (x b : Nat) (v : Bool) (w : World) (h : decide (x = b) = v) : Calls Tryd.prog 12 #[.float .f64 x, .int .u64 (b : Int)] w (One (.bool v) w) := h ▸ lawIs13 x b w
theorem canonB {b : Nat} (h : b < 18446744073709551616) : canonF b < 18446744073709551616 := canonF_lt h

theorem lawParses13 (l : List UInt8) (n : Nat) (e : Int) (v : Nat) (r : Int) (w : World) (hf : FloOK w) (W : World) (hB : Below w.heap.size w W) (hl : l.length ≤ 1000) (hp : (prsF l = some v ∧ r = 0) ∨ (prsF l = none ∧ v = 0 ∧ r = 6)) (hv : v = n) (hr : r = e) :
    Calls Tryd.prog 31 #[.string ⟨l.toArray⟩, .int .u64 (n : Int), .int .i64 e] W (OneB (.bool true) W) := by
  subst hv
  subst hr
  have HP := Lib.hid (hf.prs l W v r hB hl hp)
  have HI := Lib.hid fun U => lawIs13_v v v true U (by simp)
  have HB := Lib.hid (Below.refl W.heap.size W)
  clear hf hB hl hp
  go_enter Tryd.func31, Tryd.ntmps31
  go_wp2_with fail
  refine HP.out.mono ?_
  rintro e w1 ⟨rfl, hb⟩
  replace HB := Lib.hid (below_trans HB.out hb)
  clear hb
  go_wp2_with fail
  refine (HI.out _).mono ?_
  rintro e y1 ⟨rfl, rfl⟩
  go_wp2_with fail
  go_ret
  exact ⟨rfl, HB.out⟩

set_option maxHeartbeats 1000000 in
theorem lawKeys13 (a b : Nat) (w : World) (hf : FloOK w) (hk : KnownF w) (ha : a < 18446744073709551616) (hb : b < 18446744073709551616) :
    Calls Tryd.prog 3 #[.int .u64 (a : Int), .int .u64 (b : Int)] w (OneB (.bool true) w) := by
  have HF := Lib.hid hf
  have HK := Lib.hid hk
  have HA := Lib.hid ha
  have HBB := Lib.hid hb
  have HB := Lib.hid (Below.refl w.heap.size w)
  clear hf hk ha hb
  have HKF := Lib.hid fun W hW => HF.out.key a W hW HA.out
  have HKR := Lib.hid fun W => refKey13 a W HA.out
  generalize keyF a = ka at HKF HKR
  have HOF := Lib.hid fun W hW => HF.out.inv a W hW HA.out
  have HOR := Lib.hid fun W => refOf13 a W HA.out
  generalize ofF a = oa at HOF HOR
  have HCF := Lib.hid fun W hW => HF.out.cmp a b W hW HA.out HBB.out
  have HCR := Lib.hid fun W => refCompare13 a b W HA.out HBB.out
  generalize cmpF a b = cab at HCF HCR
  have HCS := Lib.hid fun W hW => HF.out.cmp a a W hW HA.out HA.out
  rw [cmpF_self] at HCS
  go_enter Tryd.func3, Tryd.ntmps3
  go_wp2_with fail
  refine (lawOf13 a _).mono ?_
  rintro e y1 ⟨rfl, rfl⟩
  go_wp2_with fail
  refine (lawOf13 b _).mono ?_
  rintro e y2 ⟨rfl, rfl⟩
  go_wp2_with fail
  refine (HKF.out _ HB.out).mono ?_
  rintro e w3 ⟨rfl, hb⟩
  replace HB := Lib.hid (below_trans HB.out hb)
  clear hb
  go_wp2_with fail
  refine (HKR.out _).mono ?_
  rintro e y4 ⟨rfl, rfl⟩
  go_wp2_with fail
  refine (HOF.out _ HB.out).mono ?_
  rintro e w5 ⟨rfl, hb⟩
  replace HB := Lib.hid (below_trans HB.out hb)
  clear hb
  go_wp2_with fail
  refine (HOR.out _).mono ?_
  rintro e y6 ⟨rfl, rfl⟩
  go_wp2_with fail
  refine (lawIs13_v oa oa true _ (by simp)).mono ?_
  rintro e y7 ⟨rfl, rfl⟩
  go_wp2_with fail
  refine (HCF.out _ HB.out).mono ?_
  rintro e w8 ⟨rfl, hb⟩
  replace HB := Lib.hid (below_trans HB.out hb)
  clear hb
  go_wp2_with fail
  refine (HCR.out _).mono ?_
  rintro e y9 ⟨rfl, rfl⟩
  go_wp2_with fail
  refine (HCS.out _ HB.out).mono ?_
  rintro e w10 ⟨rfl, hb⟩
  replace HB := Lib.hid (below_trans HB.out hb)
  clear hb
  go_wp2_with fail
  refine (HK.out _ HB.out).mono ?_
  rintro e w11 ⟨rfl, hb⟩
  replace HB := Lib.hid (below_trans HB.out hb)
  clear hb
  go_wp2_with fail
  go_ret
  exact ⟨rfl, HB.out⟩

set_option maxHeartbeats 1000000 in
theorem lawCanons13 (a b : Nat) (w : World) (hf : FloOK w) (hk : KnownF w) (ha : a < 18446744073709551616) (hb : b < 18446744073709551616) :
    Calls Tryd.prog 4 #[.int .u64 (a : Int), .int .u64 (b : Int)] w (OneB (.bool true) w) := by
  have HF := Lib.hid hf
  have HK := Lib.hid hk
  have HA := Lib.hid ha
  have HBB := Lib.hid hb
  have HB := Lib.hid (Below.refl w.heap.size w)
  clear hf hk ha hb
  have HCF := Lib.hid fun W hW => HF.out.can a W hW HA.out
  have HCR := Lib.hid fun W => refCanon13 a W HA.out
  have HDR := Lib.hid fun W => refCanon13 b W HBB.out
  have HSF := Lib.hid fun W hW => HF.out.sam a b W hW HA.out HBB.out
  have hs : sameF a b = (((canonF a : Nat) : Int) == ((canonF b : Nat) : Int)) := by
    unfold sameF
    by_cases h : canonF a = canonF b
    · rw [h]; simp
    · rw [decide_eq_false h]; symm; simp; omega
  rw [hs] at HSF
  clear hs
  generalize canonF a = ca at HCF HCR HSF
  generalize canonF b = cb at HDR HSF
  go_enter Tryd.func4, Tryd.ntmps4
  go_wp2_with fail
  refine (lawOf13 a _).mono ?_
  rintro e y1 ⟨rfl, rfl⟩
  go_wp2_with fail
  refine (HCF.out _ HB.out).mono ?_
  rintro e w2 ⟨rfl, hb⟩
  replace HB := Lib.hid (below_trans HB.out hb)
  clear hb
  go_wp2_with fail
  refine (HCR.out _).mono ?_
  rintro e y3 ⟨rfl, rfl⟩
  go_wp2_with fail
  refine (lawIs13_v ca ca true _ (by simp)).mono ?_
  rintro e y4 ⟨rfl, rfl⟩
  go_wp2_with fail
  refine (lawOf13 a _).mono ?_
  rintro e y5 ⟨rfl, rfl⟩
  go_wp2_with fail
  refine (lawOf13 b _).mono ?_
  rintro e y6 ⟨rfl, rfl⟩
  go_wp2_with fail
  refine (HSF.out _ HB.out).mono ?_
  rintro e w7 ⟨rfl, hb⟩
  replace HB := Lib.hid (below_trans HB.out hb)
  clear hb
  go_wp2_with fail
  refine (HCR.out _).mono ?_
  rintro e y8 ⟨rfl, rfl⟩
  go_wp2_with fail
  refine (HDR.out _).mono ?_
  rintro e y9 ⟨rfl, rfl⟩
  go_wp2_with fail
  refine (HK.out _ HB.out).mono ?_
  rintro e w10 ⟨rfl, hb⟩
  replace HB := Lib.hid (below_trans HB.out hb)
  clear hb
  go_wp2_with fail
  go_ret
  exact ⟨rfl, HB.out⟩

set_option maxHeartbeats 1000000 in
theorem lawTexts13 (a : Nat) (l : List UInt8) (w : World) (hf : FloOK w) (hk : KnownF w) (ha : a < 18446744073709551616) (_ : l.length ≤ maxLen) :
    Calls Tryd.prog 6 #[.int .u64 (a : Int), .string ⟨l.toArray⟩] w (OneB (.bool true) w) := by
  have HF := Lib.hid hf
  have HK := Lib.hid hk
  have HA := Lib.hid ha
  have HB := Lib.hid (Below.refl w.heap.size w)
  clear hf hk ha
  by_cases h60 : l.length ≤ 60
  · have i0 : ¬ (60 : Int) < (l.length : Int) := by omega
    have HL := Lib.hid h60
    clear h60
    have HTF := Lib.hid fun W hW => HF.out.txt a W hW HA.out
    have HTR := Lib.hid fun W => refText13 a W HA.out
    generalize txtF a = ta at HTF HTR
    have HPR := Lib.hid fun W => refParse13 l W (by have := HL.out; omega)
    cases hp : prsF l with
    | none =>
      rw [hp] at HPR
      have HPL := Lib.hid fun W hW => lawParses13 l 0 6 0 6 w HF.out W hW (by have := HL.out; omega) (.inr ⟨hp, rfl, rfl⟩) rfl rfl
      clear hp
      go_enter Tryd.func6, Tryd.ntmps6
      go_wp2_with fail
      refine (lawOf13 a _).mono ?_
      rintro e y1 ⟨rfl, rfl⟩
      go_wp2_with fail
      refine (HTF.out _ HB.out).mono ?_
      rintro e w2 ⟨rfl, hb⟩
      replace HB := Lib.hid (below_trans HB.out hb)
      clear hb
      go_wp2_with fail
      refine (HTR.out _).mono ?_
      rintro e y3 ⟨rfl, rfl⟩
      go_wp2_with fail
      refine (HPR.out _).mono ?_
      rintro e y4 ⟨rfl, rfl⟩
      go_wp2_with fail
      refine (HPL.out _ HB.out).mono ?_
      rintro e w5 ⟨rfl, hb⟩
      replace HB := Lib.hid (below_trans HB.out hb)
      clear hb
      go_wp2_with fail
      refine (HK.out _ HB.out).mono ?_
      rintro e w6 ⟨rfl, hb⟩
      replace HB := Lib.hid (below_trans HB.out hb)
      clear hb
      go_wp2_with fail
      go_ret
      exact ⟨rfl, HB.out⟩
    | some n =>
      rw [hp] at HPR
      have HPL := Lib.hid fun W hW => lawParses13 l n 0 n 0 w HF.out W hW (by have := HL.out; omega) (.inl ⟨hp, rfl⟩) rfl rfl
      clear hp
      go_enter Tryd.func6, Tryd.ntmps6
      go_wp2_with fail
      refine (lawOf13 a _).mono ?_
      rintro e y1 ⟨rfl, rfl⟩
      go_wp2_with fail
      refine (HTF.out _ HB.out).mono ?_
      rintro e w2 ⟨rfl, hb⟩
      replace HB := Lib.hid (below_trans HB.out hb)
      clear hb
      go_wp2_with fail
      refine (HTR.out _).mono ?_
      rintro e y3 ⟨rfl, rfl⟩
      go_wp2_with fail
      refine (HPR.out _).mono ?_
      rintro e y4 ⟨rfl, rfl⟩
      go_wp2_with fail
      refine (HPL.out _ HB.out).mono ?_
      rintro e w5 ⟨rfl, hb⟩
      replace HB := Lib.hid (below_trans HB.out hb)
      clear hb
      go_wp2_with fail
      refine (HK.out _ HB.out).mono ?_
      rintro e w6 ⟨rfl, hb⟩
      replace HB := Lib.hid (below_trans HB.out hb)
      clear hb
      go_wp2_with fail
      go_ret
      exact ⟨rfl, HB.out⟩
  · have i0 : (60 : Int) < (l.length : Int) := by omega
    clear h60
    go_enter Tryd.func6, Tryd.ntmps6
    go_wp2_with fail
    refine (HK.out _ HB.out).mono ?_
    rintro e w1 ⟨rfl, hb⟩
    replace HB := Lib.hid (below_trans HB.out hb)
    clear hb
    go_wp2_with fail
    go_ret
    exact ⟨rfl, HB.out⟩

end Go.Proofs.YtobkhoednecljaaDoor
