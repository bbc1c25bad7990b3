/- The law ContextLooks: all but what is done with a valid context. -/
import Derived.Test.YtibnlifdeknicaaCtxB2
import Derived.Test.YtibnlifdeknicaaCtxB
import Derived.Test.YtibnlifdeknicaaCtxJ
namespace Go.Proofs.Ytibnlifdeknicaa
open Go.RowKit

theorem comp_no {vs ls : List (Int × Int)} (h : validC vs ls = false) : compC vs ls = false := by
  unfold compC
  rw [h, Bool.and_false]

set_option maxRecDepth 100000 in
set_option maxHeartbeats 8000000 in
theorem lawLooks3_a (KN : KnownOK) (v vp : Value) (vs ls vsp lsp : List (Int × Int)) (w : World) (h : HoldsC w v vs ls) (hp : HoldsC w vp vsp lsp) (hl : (decide (vs.length ≤ 40) && decide (ls.length ≤ 40)) = false) :
    Calls Try.prog 3 #[v, vp] w fun e w' => e = .returned (.bool true) ∧ Below w.heap.size w w' := by
  obtain ⟨A, n, B, k, rfl, h1, h2⟩ := h
  obtain ⟨Ap, np, Bp, kp, rfl, h1p, h2p⟩ := hp
  have K := ((((((KX.nil w).push h1).push h2).push h1p).push h2p).box (.slice A vs.length n) (.slice B ls.length k) 25).box (.slice Ap vsp.length np) (.slice Bp lsp.length kp) 25
  simp only [World.size_alloc] at K
  have K := Lib.hid K
  have HKN := Lib.hid KN
  clear h1 h2 h1p h2p KN
  have hcc : ∀ W, KX w [(⟨w.heap.size + 1, 0, none⟩, .slice Ap vsp.length np), (⟨w.heap.size + 1, 1, none⟩, .slice Bp lsp.length kp), (⟨w.heap.size, 0, none⟩, .slice A vs.length n), (⟨w.heap.size, 1, none⟩, .slice B ls.length k)] [(.slice Bp lsp.length kp, lsp), (.slice Ap vsp.length np, vsp), (.slice B ls.length k, ls), (.slice A vs.length n, vs)] W → HoldsC W (.agg #[.slice A vs.length n, .slice B ls.length k]) vs ls ∧ HoldsC W (.agg #[.slice Ap vsp.length np, .slice Bp lsp.length kp]) vsp lsp ∧ W.cell? ⟨w.heap.size, 0, none⟩ = some (.slice A vs.length n) ∧ W.cell? ⟨w.heap.size, 1, none⟩ = some (.slice B ls.length k) ∧ W.cell? ⟨w.heap.size + 1, 0, none⟩ = some (.slice Ap vsp.length np) ∧ W.cell? ⟨w.heap.size + 1, 1, none⟩ = some (.slice Bp lsp.length kp) :=
    fun W K => ⟨HoldsC.mk (K.h (by simp)) (K.h (by simp)), HoldsC.mk (K.h (by simp)) (K.h (by simp)), K.cell (by simp), K.cell (by simp), K.cell (by simp), K.cell (by simp)⟩
  have HCC := Lib.hid hcc
  clear hcc
  have HL1 := Lib.hid fun W K => law3Light (.agg #[.slice A vs.length n, .slice B ls.length k]) vs ls false W (HCC.out W K).1 hl
  clear hl
  go_enter Try.func3, Try.ntmps3
  go_wp2_with fail
  refine (HL1.out _ K.out).mono ?_
  rintro e w1 ⟨rfl, hb1⟩
  have K1 := Lib.hid (K.out.below hb1)
  clear hb1
  go_wp2_with fail
  refine (HKN.out _).mono ?_
  rintro e w2 ⟨rfl, hb1⟩
  have K2 := Lib.hid (K1.out.below hb1)
  clear hb1
  go_wp2
  go_ret
  exact ⟨rfl, K2.out.bel⟩
set_option maxRecDepth 100000 in
set_option maxHeartbeats 8000000 in
theorem lawLooks3_b (KN : KnownOK) (v vp : Value) (vs ls vsp lsp : List (Int × Int)) (w : World) (h : HoldsC w v vs ls) (hp : HoldsC w vp vsp lsp) (hl : (decide (vs.length ≤ 40) && decide (ls.length ≤ 40)) = true) (hlp : (decide (vsp.length ≤ 40) && decide (lsp.length ≤ 40)) = false) :
    Calls Try.prog 3 #[v, vp] w fun e w' => e = .returned (.bool true) ∧ Below w.heap.size w w' := by
  obtain ⟨A, n, B, k, rfl, h1, h2⟩ := h
  obtain ⟨Ap, np, Bp, kp, rfl, h1p, h2p⟩ := hp
  have K := ((((((KX.nil w).push h1).push h2).push h1p).push h2p).box (.slice A vs.length n) (.slice B ls.length k) 25).box (.slice Ap vsp.length np) (.slice Bp lsp.length kp) 25
  simp only [World.size_alloc] at K
  have K := Lib.hid K
  have HKN := Lib.hid KN
  clear h1 h2 h1p h2p KN
  have hcc : ∀ W, KX w [(⟨w.heap.size + 1, 0, none⟩, .slice Ap vsp.length np), (⟨w.heap.size + 1, 1, none⟩, .slice Bp lsp.length kp), (⟨w.heap.size, 0, none⟩, .slice A vs.length n), (⟨w.heap.size, 1, none⟩, .slice B ls.length k)] [(.slice Bp lsp.length kp, lsp), (.slice Ap vsp.length np, vsp), (.slice B ls.length k, ls), (.slice A vs.length n, vs)] W → HoldsC W (.agg #[.slice A vs.length n, .slice B ls.length k]) vs ls ∧ HoldsC W (.agg #[.slice Ap vsp.length np, .slice Bp lsp.length kp]) vsp lsp ∧ W.cell? ⟨w.heap.size, 0, none⟩ = some (.slice A vs.length n) ∧ W.cell? ⟨w.heap.size, 1, none⟩ = some (.slice B ls.length k) ∧ W.cell? ⟨w.heap.size + 1, 0, none⟩ = some (.slice Ap vsp.length np) ∧ W.cell? ⟨w.heap.size + 1, 1, none⟩ = some (.slice Bp lsp.length kp) :=
    fun W K => ⟨HoldsC.mk (K.h (by simp)) (K.h (by simp)), HoldsC.mk (K.h (by simp)) (K.h (by simp)), K.cell (by simp), K.cell (by simp), K.cell (by simp), K.cell (by simp)⟩
  have HCC := Lib.hid hcc
  clear hcc
  have HL1 := Lib.hid fun W K => law3Light (.agg #[.slice A vs.length n, .slice B ls.length k]) vs ls true W (HCC.out W K).1 hl
  have HL2 := Lib.hid fun W K => law3Light (.agg #[.slice Ap vsp.length np, .slice Bp lsp.length kp]) vsp lsp false W (HCC.out W K).2.1 hlp
  clear hl hlp
  go_enter Try.func3, Try.ntmps3
  go_wp2_with fail
  refine (HL1.out _ K.out).mono ?_
  rintro e w1 ⟨rfl, hb1⟩
  have K1 := Lib.hid (K.out.below hb1)
  clear hb1
  obtain ⟨_, _, j0, j1, j2, j3⟩ := HCC.out _ K1.out
  go_wp2_with fail
  refine (HL2.out _ K1.out).mono ?_
  rintro e w2 ⟨rfl, hb1⟩
  have K2 := Lib.hid (K1.out.below hb1)
  clear hb1 j0 j1 j2 j3
  go_wp2_with fail
  refine (HKN.out _).mono ?_
  rintro e w3 ⟨rfl, hb1⟩
  have K3 := Lib.hid (K2.out.below hb1)
  clear hb1
  go_wp2
  go_ret
  exact ⟨rfl, K3.out.bel⟩
set_option maxRecDepth 100000 in
set_option maxHeartbeats 8000000 in
theorem lawLooks3_c (KN : KnownOK) (v vp : Value) (vs ls vsp lsp : List (Int × Int)) (w : World) (h : HoldsC w v vs ls) (hp : HoldsC w vp vsp lsp) (hl : (decide (vs.length ≤ 40) && decide (ls.length ≤ 40)) = true) (hlp : (decide (vsp.length ≤ 40) && decide (lsp.length ≤ 40)) = true) (hv : validC vs ls = false) :
    Calls Try.prog 3 #[v, vp] w fun e w' => e = .returned (.bool true) ∧ Below w.heap.size w w' := by
  obtain ⟨A, n, B, k, rfl, h1, h2⟩ := h
  obtain ⟨Ap, np, Bp, kp, rfl, h1p, h2p⟩ := hp
  have K := ((((((KX.nil w).push h1).push h2).push h1p).push h2p).box (.slice A vs.length n) (.slice B ls.length k) 25).box (.slice Ap vsp.length np) (.slice Bp lsp.length kp) 25
  simp only [World.size_alloc] at K
  have K := Lib.hid K
  have HKN := Lib.hid KN
  clear h1 h2 h1p h2p KN
  have hcc : ∀ W, KX w [(⟨w.heap.size + 1, 0, none⟩, .slice Ap vsp.length np), (⟨w.heap.size + 1, 1, none⟩, .slice Bp lsp.length kp), (⟨w.heap.size, 0, none⟩, .slice A vs.length n), (⟨w.heap.size, 1, none⟩, .slice B ls.length k)] [(.slice Bp lsp.length kp, lsp), (.slice Ap vsp.length np, vsp), (.slice B ls.length k, ls), (.slice A vs.length n, vs)] W → HoldsC W (.agg #[.slice A vs.length n, .slice B ls.length k]) vs ls ∧ HoldsC W (.agg #[.slice Ap vsp.length np, .slice Bp lsp.length kp]) vsp lsp ∧ W.cell? ⟨w.heap.size, 0, none⟩ = some (.slice A vs.length n) ∧ W.cell? ⟨w.heap.size, 1, none⟩ = some (.slice B ls.length k) ∧ W.cell? ⟨w.heap.size + 1, 0, none⟩ = some (.slice Ap vsp.length np) ∧ W.cell? ⟨w.heap.size + 1, 1, none⟩ = some (.slice Bp lsp.length kp) :=
    fun W K => ⟨HoldsC.mk (K.h (by simp)) (K.h (by simp)), HoldsC.mk (K.h (by simp)) (K.h (by simp)), K.cell (by simp), K.cell (by simp), K.cell (by simp), K.cell (by simp)⟩
  have HCC := Lib.hid hcc
  clear hcc
  have hl2 : vs.length ≤ 40 ∧ ls.length ≤ 40 := by simpa using hl
  have HL1 := Lib.hid fun W K => law3Light (.agg #[.slice A vs.length n, .slice B ls.length k]) vs ls true W (HCC.out W K).1 hl
  have HL2 := Lib.hid fun W K => law3Light (.agg #[.slice Ap vsp.length np, .slice Bp lsp.length kp]) vsp lsp true W (HCC.out W K).2.1 hlp
  have hc := comp_no hv
  have HCO := Lib.hid fun W K => law3Compacts (.agg #[.slice A vs.length n, .slice B ls.length k]) (.agg #[.slice none 0 0, .slice none 0 0]) vs ls [] [] 2 true W (HCC.out W K).1 (HoldsC.nil W) (by omega) (by rw [hv]; rfl)
  have HSZ := Lib.hid fun W K => ctxSize (.agg #[.slice A vs.length n, .slice B ls.length k]) vs ls 0 W (HCC.out W K).1 (by omega) (by rw [hv]; rfl)
  cases he : (decide (vs = vsp) && decide (ls = lsp))
  all_goals
    have HVA := Lib.hid fun W K => ctxValid (.agg #[.slice A vs.length n, .slice B ls.length k]) vs ls false W (HCC.out W K).1 hv
    have HVR := Lib.hid fun W K => ref3Valid (.agg #[.slice A vs.length n, .slice B ls.length k]) vs ls false W (HCC.out W K).1 hv
    have HIA := Lib.hid fun W K => ctxIsCompact (.agg #[.slice A vs.length n, .slice B ls.length k]) vs ls false W (HCC.out W K).1 (by omega) hc
    have HIR := Lib.hid fun W K => ref3IsCompact (.agg #[.slice A vs.length n, .slice B ls.length k]) vs ls false W (HCC.out W K).1 hc
    have HEA := Lib.hid fun W K => ctxEqual (.agg #[.slice A vs.length n, .slice B ls.length k]) (.agg #[.slice Ap vsp.length np, .slice Bp lsp.length kp]) vs ls vsp lsp _ W (HCC.out W K).1 (HCC.out W K).2.1 he
    have HER := Lib.hid fun W K => ref3Equal (.agg #[.slice A vs.length n, .slice B ls.length k]) (.agg #[.slice Ap vsp.length np, .slice Bp lsp.length kp]) vs ls vsp lsp _ W (HCC.out W K).1 (HCC.out W K).2.1 he
    have HES := Lib.hid fun W K => ctxEqual (.agg #[.slice A vs.length n, .slice B ls.length k]) (.agg #[.slice A vs.length n, .slice B ls.length k]) vs ls vs ls true W (HCC.out W K).1 (HCC.out W K).1 (by simp)
    clear hl hlp hl2 hv hc he
    go_enter Try.func3, Try.ntmps3
    go_wp2_with fail
    refine (HL1.out _ K.out).mono ?_
    rintro e w1 ⟨rfl, hb1⟩
    have K1 := Lib.hid (K.out.below hb1)
    clear hb1
    obtain ⟨_, _, j0, j1, j2, j3⟩ := HCC.out _ K1.out
    go_wp2_with fail
    refine (HL2.out _ K1.out).mono ?_
    rintro e w2 ⟨rfl, hb1⟩
    have K2 := Lib.hid (K1.out.below hb1)
    clear hb1 j0 j1 j2 j3
    have j0 := fun z => (K2.out.far z).cell (a := ⟨w.heap.size, 0, none⟩) (v := .slice A vs.length n) (by simp)
    have j1 := fun z => (K2.out.far z).cell (a := ⟨w.heap.size, 1, none⟩) (v := .slice B ls.length k) (by simp)
    have j2 := fun z => (K2.out.far z).cell (a := ⟨w.heap.size + 1, 0, none⟩) (v := .slice Ap vsp.length np) (by simp)
    have j3 := fun z => (K2.out.far z).cell (a := ⟨w.heap.size + 1, 1, none⟩) (v := .slice Bp lsp.length kp) (by simp)
    have HQ0 := Lib.hid fun z => HVA.out _ (K2.out.far z)
    have HQ1 := Lib.hid fun z => HVR.out _ (K2.out.far z)
    have HQ2 := Lib.hid fun z => HIA.out _ (K2.out.far z)
    have HQ3 := Lib.hid fun z => HIR.out _ (K2.out.far z)
    have HQ4 := Lib.hid fun z => HEA.out _ (K2.out.far z)
    have HQ5 := Lib.hid fun z => HER.out _ (K2.out.far z)
    have HQ6 := Lib.hid fun z => HES.out _ (K2.out.far z)
    go_wp2_with fail
    refine wp_region_far (by kernel_rfl) (by kernel_rfl) ?_
    repeat (go_big_quiet_step ((first | (go_at_call 11; exact far_of (HQ0.out _)) | (go_at_call 12; exact far_of (HQ1.out _)) | (go_at_call 13; exact far_of (HQ2.out _)) | (go_at_call 14; exact far_of (HQ3.out _)) | (go_at_call 15; with_reducible first | exact far_of (HQ4.out _) | exact far_of (HQ6.out _)) | (go_at_call 16; exact far_of (HQ5.out _)))))
    refine wpQuiet_nil ?_
    rintro _ ⟨p, rfl⟩
    have K3 := Lib.hid (K2.out.far p)
    clear j0 j1 j2 j3 HQ0 HQ1 HQ2 HQ3 HQ4 HQ5 HQ6
    generalize far w2 p = w3 at K3 ⊢
    obtain ⟨_, _, j0, j1, j2, j3⟩ := HCC.out _ K3.out
    go_wp2_with fail
    refine (HVR.out _ K3.out).mono ?_
    rintro e w4 ⟨rfl, hb1⟩
    have K4 := Lib.hid (K3.out.below hb1)
    clear hb1 j0 j1 j2 j3
    obtain ⟨_, _, j0, j1, j2, j3⟩ := HCC.out _ K4.out
    go_wp2_with fail
    refine (HCO.out _ K4.out).mono ?_
    rintro e w5 ⟨rfl, hb1⟩
    have K5 := Lib.hid (K4.out.below hb1)
    clear hb1 j0 j1 j2 j3
    obtain ⟨_, _, j0, j1, j2, j3⟩ := HCC.out _ K5.out
    go_wp2_with fail
    refine (HSZ.out _ K5.out).mono ?_
    rintro e w6 ⟨rfl, hb1⟩
    have K6 := Lib.hid (K5.out.below hb1)
    clear hb1 j0 j1 j2 j3
    go_wp2_with fail
    refine (HKN.out _).mono ?_
    rintro e w7 ⟨rfl, hb1⟩
    have K7 := Lib.hid (K6.out.below hb1)
    clear hb1
    go_wp2
    go_ret
    exact ⟨rfl, K7.out.bel⟩

end Go.Proofs.Ytibnlifdeknicaa
