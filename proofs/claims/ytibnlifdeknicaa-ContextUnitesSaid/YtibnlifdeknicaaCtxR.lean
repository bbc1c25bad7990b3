/- Package context: Has. -/
import Derived.Test.YtibnlifdeknicaaCtxQ
namespace Go.Proofs.Ytibnlifdeknicaa
open Go.RowKit

theorem hasC_cases (vs ls : List (Int × Int)) (r c : Int) : hasC vs ls r c = (hasV vs r c || (validD r c && decide ((r, c) ∈ ls))) := by
  unfold hasC hasV
  cases validD r c <;> simp

set_option maxRecDepth 100000 in
set_option maxHeartbeats 2000000 in
theorem ctxHas (v : Value) (vs ls : List (Int × Int)) (r c : Int) (b : Bool) (w : World) (h : HoldsC w v vs ls) (hb : hasC vs ls r c = b) :
    Calls Try.prog 24 #[v, .agg #[.int .i64 r, .int .i64 c]] w fun e w' => e = .returned (.bool b) ∧ Below w.heap.size w w' := by
  obtain ⟨A, n, B, m, rfl, h1, h2⟩ := h
  have K := ((((KX.nil w).push h1).push h2).box (.slice A vs.length n) (.slice B ls.length m) 25).box (.int .i64 r) (.int .i64 c) 38
  rw [World.size_alloc] at K
  have K := Lib.hid K
  clear h1 h2
  have VD := fun W => dotValid r c W
  rw [hasC_cases] at hb
  cases hv : hasV vs r c with
  | true =>
    rw [hv] at hb
    have HB := Lib.hid (show true = b from hb)
    have HV := Lib.hid fun v W (h : Holds W v vs) => vecHas_h v vs r c true W h hv
    clear hb VD hv
    go_enter Try.func24, Try.ntmps24
    go_wp2_with fail
    refine (HV.out _ _ (K.out.h (by simp))).mono ?_
    rintro e w1 ⟨rfl, hb1⟩
    have K1 := Lib.hid (K.out.below hb1)
    clear hb1
    go_wp2
    go_ret
    exact ⟨ret_bool HB.out, K1.out.bel⟩
  | false =>
    rw [hv, Bool.false_or] at hb
    have HV := Lib.hid fun v W (h : Holds W v vs) => vecHas_h v vs r c false W h hv
    cases hd : validD r c with
    | false =>
      rw [hd] at hb VD
      have HB := Lib.hid (show false = b from hb)
      have HD := Lib.hid VD
      clear hb VD hv hd
      go_enter Try.func24, Try.ntmps24
      go_wp2_with fail
      refine (HV.out _ _ (K.out.h (by simp))).mono ?_
      rintro e w1 ⟨rfl, hb1⟩
      have K1 := Lib.hid (K.out.below hb1)
      have k2 := K1.out.cell (a := ⟨w.heap.size + 1, 0, none⟩) (v := .int .i64 r) (by simp)
      have k3 := K1.out.cell (a := ⟨w.heap.size + 1, 1, none⟩) (v := .int .i64 c) (by simp)
      clear hb1
      go_wp2_with fail
      refine (HD.out _).mono ?_
      rintro e w2 ⟨rfl, hb1⟩
      have K2 := Lib.hid (K1.out.below hb1)
      clear hb1 k2 k3
      go_wp2
      go_ret
      exact ⟨ret_bool HB.out, K2.out.bel⟩
    | true =>
      rw [hd, Bool.true_and] at hb
      rw [hd] at VD
      have HD := Lib.hid VD
      have HL := Lib.hid fun v W (h : Holds W v ls) => has_h v ls r c b W h hb
      clear hb hd VD hv
      go_enter Try.func24, Try.ntmps24
      go_wp2_with fail
      refine (HV.out _ _ (K.out.h (by simp))).mono ?_
      rintro e w1 ⟨rfl, hb1⟩
      have K1 := Lib.hid (K.out.below hb1)
      have k2 := K1.out.cell (a := ⟨w.heap.size + 1, 0, none⟩) (v := .int .i64 r) (by simp)
      have k3 := K1.out.cell (a := ⟨w.heap.size + 1, 1, none⟩) (v := .int .i64 c) (by simp)
      clear hb1
      go_wp2_with fail
      refine (HD.out _).mono ?_
      rintro e w2 ⟨rfl, hb1⟩
      have K2 := Lib.hid (K1.out.below hb1)
      clear hb1 k2 k3
      have k1 := K2.out.cell (a := ⟨w.heap.size, 1, none⟩) (v := .slice B ls.length m) (by simp)
      have k2 := K2.out.cell (a := ⟨w.heap.size + 1, 0, none⟩) (v := .int .i64 r) (by simp)
      have k3 := K2.out.cell (a := ⟨w.heap.size + 1, 1, none⟩) (v := .int .i64 c) (by simp)
      go_wp2_with fail
      refine (HL.out _ _ (K2.out.h (by simp))).mono ?_
      rintro e w3 ⟨rfl, hb1⟩
      have K3 := Lib.hid (K2.out.below hb1)
      clear hb1 k1 k2 k3
      go_wp2
      go_ret
      exact ⟨rfl, K3.out.bel⟩

end Go.Proofs.Ytibnlifdeknicaa
