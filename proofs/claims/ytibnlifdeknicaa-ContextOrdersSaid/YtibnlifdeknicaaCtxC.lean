/- The reference of layer 3: Has, Missing, Size. -/
import Derived.Test.YtibnlifdeknicaaCtxB
namespace Go.Proofs.Ytibnlifdeknicaa
open Go.RowKit

theorem ref2Has_h3 (v : Value) (xs : List (Int × Int)) (r q : Int) (b : Bool) (w : World) (h : Holds w v xs) (hb : hasV xs r q = b) :
    Calls Try.prog 49 #[v, .agg #[.int .i64 r, .int .i64 q]] w fun e w' => e = .returned (.bool b) ∧ Below w.heap.size w w' := by
  obtain ⟨A, c, rfl, h1, h2, h3⟩ := h
  subst hb
  exact ref2Has A xs c r q w h1 (Nat.le_trans h2 h3)
theorem refHas_h3 (v : Value) (xs : List (Int × Int)) (r c : Int) (b : Bool) (w : World) (h : Holds w v xs) (hb : decide ((r, c) ∈ xs) = b) :
    Calls Try.prog 60 #[v, .agg #[.int .i64 r, .int .i64 c]] w fun e w' => e = .returned (.bool b) ∧ Below w.heap.size w w' := by
  obtain ⟨A, n, rfl, h1, h2, h3⟩ := h
  subst hb
  exact refHas A xs n r c w h1 (Nat.le_trans h2 h3)

set_option maxRecDepth 100000 in
set_option maxHeartbeats 2000000 in
theorem ref3Has (v : Value) (vs ls : List (Int × Int)) (r c : Int) (b : Bool) (w : World) (h : HoldsC w v vs ls) (hb : hasC vs ls r c = b) :
    Calls Try.prog 25 #[v, .agg #[.int .i64 r, .int .i64 c]] w fun e w' => e = .returned (.bool b) ∧ Below w.heap.size w w' := by
  obtain ⟨A, n, B, m, rfl, h1, h2⟩ := h
  have K := ((((KX.nil w).push h1).push h2).box (.slice A vs.length n) (.slice B ls.length m) 25).box (.int .i64 r) (.int .i64 c) 38
  rw [World.size_alloc] at K
  have K := Lib.hid K
  clear h1 h2
  have VD := fun W => refValid r c W
  unfold hasC at hb
  cases hd : validD r c with
  | false =>
    rw [hd] at hb VD
    have HB := Lib.hid (show false = b from hb)
    have HD := Lib.hid VD
    clear hb hd VD
    go_enter Try.func25, Try.ntmps25
    go_wp2_with fail
    refine (HD.out _).mono ?_
    rintro e w1 ⟨rfl, hb1⟩
    have K1 := Lib.hid (K.out.below hb1)
    clear hb1
    go_wp2
    go_ret
    exact ⟨ret_bool HB.out, K1.out.bel⟩
  | true =>
    rw [hd] at hb VD
    have HD := Lib.hid VD
    rw [Bool.true_and] at hb
    cases hv : hasV vs r c with
    | true =>
      rw [hv] at hb
      have HB := Lib.hid (show true = b from hb)
      have HV := Lib.hid fun v W (h : Holds W v vs) => ref2Has_h3 v vs r c true W h hv
      clear hb hd VD hv
      go_enter Try.func25, Try.ntmps25
      go_wp2_with fail
      refine (HD.out _).mono ?_
      rintro e w1 ⟨rfl, hb1⟩
      have K1 := Lib.hid (K.out.below hb1)
      have k0 := K1.out.cell (a := ⟨w.heap.size, 0, none⟩) (v := .slice A vs.length n) (by simp)
      have k2 := K1.out.cell (a := ⟨w.heap.size + 1, 0, none⟩) (v := .int .i64 r) (by simp)
      have k3 := K1.out.cell (a := ⟨w.heap.size + 1, 1, none⟩) (v := .int .i64 c) (by simp)
      clear hb1
      go_wp2_with fail
      refine (HV.out _ _ (K1.out.h (by simp))).mono ?_
      rintro e w2 ⟨rfl, hb1⟩
      have K2 := Lib.hid (K1.out.below hb1)
      clear hb1 k0 k2 k3
      go_wp2
      go_ret
      exact ⟨ret_bool HB.out, K2.out.bel⟩
    | false =>
      rw [hv, Bool.false_or] at hb
      have HV := Lib.hid fun v W (h : Holds W v vs) => ref2Has_h3 v vs r c false W h hv
      have HL := Lib.hid fun v W (h : Holds W v ls) => refHas_h3 v ls r c b W h hb
      clear hb hd VD hv
      go_enter Try.func25, Try.ntmps25
      go_wp2_with fail
      refine (HD.out _).mono ?_
      rintro e w1 ⟨rfl, hb1⟩
      have K1 := Lib.hid (K.out.below hb1)
      have k0 := K1.out.cell (a := ⟨w.heap.size, 0, none⟩) (v := .slice A vs.length n) (by simp)
      have k2 := K1.out.cell (a := ⟨w.heap.size + 1, 0, none⟩) (v := .int .i64 r) (by simp)
      have k3 := K1.out.cell (a := ⟨w.heap.size + 1, 1, none⟩) (v := .int .i64 c) (by simp)
      clear hb1
      go_wp2_with fail
      refine (HV.out _ _ (K1.out.h (by simp))).mono ?_
      rintro e w2 ⟨rfl, hb1⟩
      have K2 := Lib.hid (K1.out.below hb1)
      clear hb1 k0 k2 k3
      have k1 := K2.out.cell (a := ⟨w.heap.size, 1, none⟩) (v := .slice B ls.length m) (by simp)
      have k2 := K2.out.cell (a := ⟨w.heap.size + 1, 0, none⟩) (v := .int .i64 r) (by simp)
      have k3 := K2.out.cell (a := ⟨w.heap.size + 1, 1, none⟩) (v := .int .i64 c) (by simp)
      go_wp2_with fail
      refine (HL.out _ _ (K2.out.h (by simp))).mono ?_
      rintro e w3 ⟨rfl, hb1⟩
      have K3 := Lib.hid (K2.out.below hb1)
      clear hb1 k1 k2 k3
      go_wp2
      go_ret
      exact ⟨rfl, K3.out.bel⟩

end Go.Proofs.Ytibnlifdeknicaa
