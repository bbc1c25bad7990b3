/- Package context: Within. -/
import Derived.Test.YtibnlifdeknicaaCtxW
namespace Go.Proofs.Ytibnlifdeknicaa
open Go.RowKit

theorem within_union {vs ls vs' ls' us rs us' rs' : List (Int × Int)} (h : validC vs ls = true) (h' : validC vs' ls' = true) (hz : unionC vs ls vs' ls' = (us, rs)) (hz' : compactC vs' ls' = (us', rs')) :
    (decide (us = us') && decide (rs = rs')) = withinC vs ls vs' ls' := by
  rw [Bool.eq_iff_iff, Bool.and_eq_true, decide_eq_true_eq, decide_eq_true_eq, withinC_iff h h']
  have e : (us = us' ∧ rs = rs') ↔ unionC vs ls vs' ls' = compactC vs' ls' := by
    rw [hz, hz', Prod.mk.injEq]
  rw [e]
  have hu := unionC_valid h h'
  unfold unionC
  rw [compact_iff hu h']
  constructor
  · intro hh r c hc
    have h1 := unionC_has h h' r c
    rw [unionC, compactC_has hu, hh r c] at h1
    rw [h1, hc, Bool.true_or]
  · intro hh r c
    have h1 := unionC_has h h' r c
    rw [unionC, compactC_has hu] at h1
    rw [h1]
    cases e1 : hasC vs ls r c
    · simp
    · rw [hh r c e1]; rfl

/-- What Within returns. -/
def WithR (ok b : Bool) (e : Ending) : Prop := (ok = true → e = .returned (.tuple #[.bool b, .int .i64 0])) ∧ (ok = false → e = .returned (.tuple #[.bool false, .int .i64 2]))

set_option maxRecDepth 100000 in
set_option maxHeartbeats 4000000 in
theorem ctxWithin (v v' : Value) (vs ls vs' ls' : List (Int × Int)) (b : Bool) (w : World) (h : HoldsC w v vs ls) (h' : HoldsC w v' vs' ls') (hm : vs.length + ls.length + (vs'.length + ls'.length) ≤ 1000) (hb : withinC vs ls vs' ls' = b) :
    Calls Try.prog 38 #[v, v'] w fun e w' => WithR (validC vs ls && validC vs' ls') b e ∧ Below w.heap.size w w' := by
  obtain ⟨A, n, B, k, rfl, h1, h2⟩ := h
  obtain ⟨A', n', B', k', rfl, h1', h2'⟩ := h'
  have K := ((((((KX.nil w).push h1).push h2).push h1').push h2').box (.slice A vs.length n) (.slice B ls.length k) 25).box (.slice A' vs'.length n') (.slice B' ls'.length k') 25
  rw [World.size_alloc] at K
  have K := Lib.hid K
  clear h1 h2 h1' h2'
  have HU := ctxUnion (.agg #[.slice A vs.length n, .slice B ls.length k]) (.agg #[.slice A' vs'.length n', .slice B' ls'.length k']) vs ls vs' ls' _ (HoldsC.mk (K.out.h (by simp)) (K.out.h (by simp))) (HoldsC.mk (K.out.h (by simp)) (K.out.h (by simp))) hm
  obtain ⟨us, rs, hz⟩ : ∃ us rs, unionC vs ls vs' ls' = (us, rs) := ⟨_, _, rfl⟩
  rw [hz] at HU
  cases hok : (validC vs ls && validC vs' ls') with
  | false =>
    rw [hok] at HU
    have H := Lib.hid (HU.mono fun e w' h => h.f)
    clear HU hok hz hb
    go_enter Try.func38, Try.ntmps38
    go_wp2_with fail
    refine H.out.mono ?_
    rintro e w1 ⟨rfl, hb1⟩
    have K1 := Lib.hid ((K.out.below hb1).alloc (.cells #[.slice none 0 0, .slice none 0 0] 25))
    clear hb1
    go_wp2
    go_ret2
    exact ⟨⟨fun h => (by cases h), fun _ => rfl⟩, K1.out.bel⟩
  | true =>
    rw [hok] at HU
    rw [Bool.and_eq_true] at hok
    obtain ⟨us', rs', hz'⟩ : ∃ us rs, compactC vs' ls' = (us, rs) := ⟨_, _, rfl⟩
    have hE := within_union hok.1 hok.2 hz hz'
    rw [hb] at hE
    have HE := Lib.hid hE
    have H := Lib.hid (HU.mono fun e w' h => h.t)
    have HC := Lib.hid fun W (h : HoldsC W (.agg #[.slice A' vs'.length n', .slice B' ls'.length k']) vs' ls') => ctxCompact_t _ vs' ls' us' rs' W h hok.2 (by omega) hz'
    clear HU hok hz hz' hb hE
    go_enter Try.func38, Try.ntmps38
    go_wp2_with fail
    refine H.out.mono ?_
    rintro e w1 ⟨⟨A1, n1, B1, m1, rfl, hx, hy⟩, hb1⟩
    have K1 := Lib.hid ((((K.out.below hb1).push hx.holds).push hy.holds).box (.slice A1 us.length n1) (.slice B1 rs.length m1) 25)
    have k0 := K1.out.cell (a := ⟨w.heap.size + 1, 0, none⟩) (v := .slice A' vs'.length n') (by simp)
    have k1 := K1.out.cell (a := ⟨w.heap.size + 1, 1, none⟩) (v := .slice B' ls'.length k') (by simp)
    clear hb1 hx hy
    go_wp2_with fail
    refine (HC.out _ (HoldsC.mk (K1.out.h (by simp)) (K1.out.h (by simp)))).mono ?_
    rintro e w2 ⟨⟨A2, n2, B2, m2, rfl, hx, hy⟩, hb1⟩
    have K2 := Lib.hid ((((K1.out.below hb1).push hx.holds).push hy.holds).box (.slice A2 us'.length n2) (.slice B2 rs'.length m2) 25)
    have j0 := K2.out.cell (a := ⟨w1.heap.size, 0, none⟩) (v := .slice A1 us.length n1) (by simp)
    have j1 := K2.out.cell (a := ⟨w1.heap.size, 1, none⟩) (v := .slice B1 rs.length m1) (by simp)
    clear hb1 hx hy k0 k1
    go_wp2_with fail
    refine (ctxEqual _ _ us rs us' rs' b _ (HoldsC.mk (K2.out.h (v := .slice A1 us.length n1) (xs := us) (by simp)) (K2.out.h (v := .slice B1 rs.length m1) (xs := rs) (by simp))) (HoldsC.mk (K2.out.h (v := .slice A2 us'.length n2) (xs := us') (by simp)) (K2.out.h (v := .slice B2 rs'.length m2) (xs := rs') (by simp))) HE.out).mono ?_
    rintro e w3 ⟨rfl, hb1⟩
    have K3 := Lib.hid (K2.out.below hb1)
    clear hb1 j0 j1
    go_wp2
    go_ret2
    exact ⟨⟨fun _ => rfl, fun h => (by cases h)⟩, K3.out.bel⟩

end Go.Proofs.Ytibnlifdeknicaa
