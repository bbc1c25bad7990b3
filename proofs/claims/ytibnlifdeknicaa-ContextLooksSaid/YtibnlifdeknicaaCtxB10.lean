/- The law ContextLooks, from known. -/
import Derived.Test.YtibnlifdeknicaaCtxB9
namespace Go.Proofs.Ytibnlifdeknicaa
open Go.RowKit

/-- What Compact leaves. -/
def CompOut (us rs : List (Int × Int)) (W : World) (e : Ending) (w' : World) : Prop := (∃ A n B m, e = .returned (.tuple #[.agg #[.slice A us.length n, .slice B rs.length m], .int .i64 0]) ∧ MineV W w' (.slice A us.length n) us ∧ MineV W w' (.slice B rs.length m) rs) ∧ Below W.heap.size W w'
/-- A row of n dots in blocks from B on, whatever the numbers. -/
def IntRow (B : Nat) (W : World) (A : Option Addr) (n : Nat) : Prop :=
  0 < n → ∃ b, A = some ⟨b, 0, none⟩ ∧ B ≤ b ∧ b < W.heap.size ∧ ∀ j, j < n * 2 → W.frozen? ⟨b, j, none⟩ = false ∧ ∃ z, W.cell? ⟨b, j, none⟩ = some (.int .i64 z)
theorem IntRow.below {B n : Nat} {W W' : World} {A : Option Addr} (h : IntRow B W A n) (hb : Below W.heap.size W W') : IntRow B W' A n := fun h0 => by
  obtain ⟨b, rfl, h1, h2, h3⟩ := h h0
  exact ⟨b, rfl, h1, Nat.lt_of_lt_of_le h2 hb.size, fun j hj => ⟨(hb.frozen (p := ⟨b, j, none⟩) h2).trans (h3 j hj).1, (h3 j hj).2.elim fun z hz => ⟨z, (hb.cell (p := ⟨b, j, none⟩) h2).trans hz⟩⟩⟩
theorem IntRow.store {B n : Nat} {W : World} {A : Option Addr} (h : IntRow B W A n) (p : Addr) (z : Int) : IntRow B (W.setCell p (.int .i64 z)) A n := fun h0 => by
  obtain ⟨b, rfl, h1, h2, h3⟩ := h h0
  refine ⟨b, rfl, h1, by simpa using h2, fun j hj => ⟨by rw [World.frozen?_setCell]; exact (h3 j hj).1, ?_⟩⟩
  obtain ⟨y, hy⟩ := (h3 j hj).2
  by_cases e : p = ⟨b, j, none⟩
  · subst e; exact ⟨z, World.cell?_setCell_same W _ _ hy⟩
  · exact ⟨y, (World.cell?_setCell_other W p _ _ e).trans hy⟩
theorem IntRow.of_mine {w W : World} {A : Option Addr} {c : Nat} {xs : List (Int × Int)} (h : MineV w W (.slice A xs.length c) xs) : IntRow w.heap.size W A xs.length := fun h0 => by
  obtain ⟨h1, h2⟩ := h.1
  rcases h2 with ⟨_, hn⟩ | ⟨g, cap, cur, e, hb, hg, hn, hc, hs, ht⟩
  · omega
  · cases e
    have hlt := (Array.getElem?_eq_some_iff.1 hg).1
    refine ⟨g, rfl, hb, hlt, fun j hj => ⟨by simp [World.frozen?, hg], ?_⟩⟩
    have hjl : j < (cellsOf encD xs).length := by rw [h1]; exact hj
    have hq := List.getElem?_eq_getElem hjl
    obtain ⟨x, _, hx⟩ := cellsOf_get encD_len (by omega) xs j _ hq
    have hint : ∃ z, (cellsOf encD xs)[j] = .int .i64 z := by
      have h2 : j % 2 = 0 ∨ j % 2 = 1 := by omega
      rcases h2 with e | e <;> rw [e] at hx <;> exact ⟨_, (Option.some.inj hx).symm⟩
    obtain ⟨z, hz⟩ := hint
    refine ⟨z, ?_⟩
    rw [cell_of_row W g _ cur _ (0, 0) hg]
    have hq2 : (cur.toList.take (xs.length * 2))[j]? = some (.int .i64 z) := by rw [ht, hq, hz]
    rw [List.getElem?_take, if_pos hj] at hq2
    simpa using hq2
theorem IntRow.at {B n : Nat} {W : World} {A : Option Addr} (h : IntRow B W A n) {j : Nat} (hj : j < n) : ∃ b, A = some ⟨b, 0, none⟩ ∧ B ≤ b ∧ W.frozen? ⟨b, j * 2 + 1, none⟩ = false ∧ ∃ z, W.cell? ⟨b, j * 2 + 1, none⟩ = some (.int .i64 z) := by
  obtain ⟨b, rfl, h1, _, h3⟩ := h (by omega)
  exact ⟨b, rfl, h1, (h3 (j * 2 + 1) (by omega)).1, (h3 (j * 2 + 1) (by omega)).2⟩
theorem compC_valid {vs ls us rs : List (Int × Int)} (h : validC vs ls = true) (hz : compactC vs ls = (us, rs)) : validC us rs = true := by
  have := compactC_valid h
  rwa [hz] at this

/-- What holds while the rows are changed: both rows, x's own box, and all that lay. -/
def LkR (W0 : World) (g : Nat) (A8 : Option Addr) (p n8 : Nat) (B8 : Option Addr) (q k8 : Nat) (W : World) : Prop :=
  IntRow W0.heap.size W A8 p ∧ IntRow W0.heap.size W B8 q ∧ Blk2 W g (.slice A8 p n8) (.slice B8 q k8) ∧ Below W0.heap.size W0 W ∧ W0.heap.size ≤ g
theorem LkR.drew {W0 W : World} {g p n8 q k8 : Nat} {A8 B8 : Option Addr} (h : LkR W0 g A8 p n8 B8 q k8 W) : LkR W0 g A8 p n8 B8 q k8 W.drew :=
  ⟨h.1.below (Below.refl _ W).drew, h.2.1.below (Below.refl _ W).drew, h.2.2.1, h.2.2.2.1.drew, h.2.2.2.2⟩
theorem LkR.store {W0 W : World} {g p n8 q k8 b o : Nat} {A8 B8 : Option Addr} (h : LkR W0 g A8 p n8 B8 q k8 W) (hb : W0.heap.size ≤ b) {z : Int} (hz : W.cell? ⟨b, o, none⟩ = some (.int .i64 z)) (y : Int) : LkR W0 g A8 p n8 B8 q k8 (W.setCell ⟨b, o, none⟩ (.int .i64 y)) := by
  have hne : g ≠ b := by
    intro e
    subst e
    have h1 := h.2.2.1
    simp only [World.cell?, show W.heap[g]? = _ from h1] at hz
    match o with
    | 0 => simp at hz
    | 1 => simp at hz
    | o + 2 => simp at hz
  exact ⟨h.1.store _ _, h.2.1.store _ _, h.2.2.1.other hne o _, h.2.2.2.1.setCell (p := ⟨b, o, none⟩) hb _, h.2.2.2.2⟩

set_option maxRecDepth 100000 in
set_option maxHeartbeats 8000000 in
theorem lawLooks3_d (KN : KnownOK) (v vp : Value) (vs ls vsp lsp : List (Int × Int)) (w : World) (h : HoldsC w v vs ls) (hp : HoldsC w vp vsp lsp) (hl : (decide (vs.length ≤ 40) && decide (ls.length ≤ 40)) = true) (hlp : (decide (vsp.length ≤ 40) && decide (lsp.length ≤ 40)) = true) (hv : validC vs ls = true) :
    Calls Try.prog 3 #[v, vp] w fun e w' => e = .returned (.bool true) ∧ Below w.heap.size w w' := by
  obtain ⟨A, n, B, k, rfl, h1, h2⟩ := h
  obtain ⟨Ap, np, Bp, kp, rfl, h1p, h2p⟩ := hp
  have K := ((((((KX.nil w).push h1).push h2).push h1p).push h2p).box (.slice A vs.length n) (.slice B ls.length k) 25).box (.slice Ap vsp.length np) (.slice Bp lsp.length kp) 25
  simp only [World.size_alloc] at K
  have K := Lib.hid K
  have HKN := Lib.hid KN
  clear h1 h2 h1p h2p KN
  have hcc : ∀ W, KX w [(⟨w.heap.size + 1, 0, none⟩, .slice Ap vsp.length np), (⟨w.heap.size + 1, 1, none⟩, .slice Bp lsp.length kp), (⟨w.heap.size, 0, none⟩, .slice A vs.length n), (⟨w.heap.size, 1, none⟩, .slice B ls.length k)] [(.slice Bp lsp.length kp, lsp), (.slice Ap vsp.length np, vsp), (.slice B ls.length k, ls), (.slice A vs.length n, vs)] W → HoldsC W (.agg #[.slice A vs.length n, .slice B ls.length k]) vs ls ∧ HoldsC W (.agg #[.slice Ap vsp.length np, .slice Bp lsp.length kp]) vsp lsp ∧ W.cell? ⟨w.heap.size, 0, none⟩ = some (.slice A vs.length n) ∧ W.cell? ⟨w.heap.size, 1, none⟩ = some (.slice B ls.length k) ∧ W.cell? ⟨w.heap.size + 1, 0, none⟩ = some (.slice Ap vsp.length np) ∧ W.cell? ⟨w.heap.size + 1, 1, none⟩ = some (.slice Bp lsp.length kp) :=
    fun W K => ⟨HoldsC.mk (K.h (by simp)) (K.h (by simp)), HoldsC.mk (K.h (by simp)) (K.h (by simp)), K.cell (by simp), K.cell (by simp), K.cell (by simp), K.cell (by simp)⟩
  have HCC := Lib.hid hcc
  clear hcc
  have hl2 : vs.length ≤ 40 ∧ ls.length ≤ 40 := by simpa using hl
  have HL1 := Lib.hid fun W K => law3Light (.agg #[.slice A vs.length n, .slice B ls.length k]) vs ls true W (HCC.out W K).1 hl
  have HL2 := Lib.hid fun W K => law3Light (.agg #[.slice Ap vsp.length np, .slice Bp lsp.length kp]) vsp lsp true W (HCC.out W K).2.1 hlp
  have HV := Lib.hid fun W K => ref3Valid (.agg #[.slice A vs.length n, .slice B ls.length k]) vs ls true W (HCC.out W K).1 hv
  obtain ⟨us, rs, hz⟩ : ∃ us rs, compactC vs ls = (us, rs) := ⟨_, _, rfl⟩
  obtain ⟨s, hs⟩ : ∃ s, sizeC vs ls = s := ⟨_, rfl⟩
  have hul := compact_len hv hz
  have HOW := Lib.hid fun W (h : HoldsC W (.agg #[.slice A vs.length n, .slice B ls.length k]) vs ls) => law3Own _ vs ls W h (by omega)
  have HCO := Lib.hid fun W x (h : HoldsC W x vs ls) => (show Calls Try.prog 20 #[x] W (CompOut us rs W) from ctxCompact_t x vs ls us rs W h hv (by omega) hz)
  have HRC := Lib.hid fun W (x y : Value) (h : Holds W x vs) (h' : Holds W y ls) => ref3Compact_h x y vs ls us rs W h h' hv (by omega) hz
  have HGI := Lib.hid fun W x y (h : HoldsC W x us rs) (h' : HoldsC W y us rs) => law3Gives x y us rs us rs 0 0 true W h h' (by simp [isC])
  have HSZ := Lib.hid fun W x (h : HoldsC W x vs ls) => ctxSize x vs ls s W h (by omega) (by rw [if_pos hv]; exact hs)
  have HSR := Lib.hid fun W x (h : HoldsC W x vs ls) => (show Calls Try.prog 23 #[x] W (fun e w' => e = .returned (.int .u64 s) ∧ Below W.heap.size W w') from (by rw [← hs]; exact ref3Size x vs ls W h ((validV_iff vs).1 (validC_iff.1 hv).1).1 (by omega)))
  have HEQ := Lib.hid fun W x y (h : HoldsC W x vs ls) (h' : HoldsC W y vs ls) => ref3Equal x y vs ls vs ls true W h h' (by simp)
  have HUL := Lib.hid (show us.length + rs.length ≤ 1000 by omega)
  go_enter Try.func3, Try.ntmps3
  go_wp2_with fail
  refine (HL1.out _ K.out).mono ?_
  rintro e w1 ⟨rfl, hb1⟩
  have K1 := Lib.hid (K.out.below hb1)
  clear hb1
  obtain ⟨_, _, j0, j1, j2, j3⟩ := HCC.out _ K1.out
  go_wp2_with fail
  refine (HL2.out _ K1.out).mono ?_
  rintro e w2 ⟨rfl, hb1⟩
  have K2 := Lib.hid (K1.out.below hb1)
  clear hb1 j0 j1 j2 j3
  obtain ⟨_, _, j0, j1, j2, j3⟩ := HCC.out _ K2.out
  go_wp2_with fail
  clear j0 j1 j2 j3
  go_cut [45] (fun t wx => t = .bool false ∧ Hid (KX w [(⟨w.heap.size + 1, 0, none⟩, .slice Ap vsp.length np), (⟨w.heap.size + 1, 1, none⟩, .slice Bp lsp.length kp), (⟨w.heap.size, 0, none⟩, .slice A vs.length n), (⟨w.heap.size, 1, none⟩, .slice B ls.length k)] [(.slice Bp lsp.length kp, lsp), (.slice Ap vsp.length np, vsp), (.slice B ls.length k, ls), (.slice A vs.length n, vs)] wx))
  case first =>
    cases hc : compC vs ls
    all_goals
      cases he : (decide (vs = vsp) && decide (ls = lsp))
      all_goals
        have HVA := Lib.hid fun W K => ctxValid (.agg #[.slice A vs.length n, .slice B ls.length k]) vs ls true W (HCC.out W K).1 hv
        have HVR := Lib.hid fun W K => ref3Valid (.agg #[.slice A vs.length n, .slice B ls.length k]) vs ls true W (HCC.out W K).1 hv
        have HIA := Lib.hid fun W K => ctxIsCompact (.agg #[.slice A vs.length n, .slice B ls.length k]) vs ls _ W (HCC.out W K).1 (by omega) hc
        have HIR := Lib.hid fun W K => ref3IsCompact (.agg #[.slice A vs.length n, .slice B ls.length k]) vs ls _ W (HCC.out W K).1 hc
        have HEA := Lib.hid fun W K => ctxEqual (.agg #[.slice A vs.length n, .slice B ls.length k]) (.agg #[.slice Ap vsp.length np, .slice Bp lsp.length kp]) vs ls vsp lsp _ W (HCC.out W K).1 (HCC.out W K).2.1 he
        have HER := Lib.hid fun W K => ref3Equal (.agg #[.slice A vs.length n, .slice B ls.length k]) (.agg #[.slice Ap vsp.length np, .slice Bp lsp.length kp]) vs ls vsp lsp _ W (HCC.out W K).1 (HCC.out W K).2.1 he
        have HES := Lib.hid fun W K => ctxEqual (.agg #[.slice A vs.length n, .slice B ls.length k]) (.agg #[.slice A vs.length n, .slice B ls.length k]) vs ls vs ls true W (HCC.out W K).1 (HCC.out W K).1 (by simp)
        clear hl hlp hl2 hv hc he hz hs hul
        have j0 := fun z => (K2.out.far z).cell (a := ⟨w.heap.size, 0, none⟩) (v := .slice A vs.length n) (by simp)
        have j1 := fun z => (K2.out.far z).cell (a := ⟨w.heap.size, 1, none⟩) (v := .slice B ls.length k) (by simp)
        have j2 := fun z => (K2.out.far z).cell (a := ⟨w.heap.size + 1, 0, none⟩) (v := .slice Ap vsp.length np) (by simp)
        have j3 := fun z => (K2.out.far z).cell (a := ⟨w.heap.size + 1, 1, none⟩) (v := .slice Bp lsp.length kp) (by simp)
        have HQ0 := Lib.hid fun z => HVA.out _ (K2.out.far z)
        have HQ1 := Lib.hid fun z => HVR.out _ (K2.out.far z)
        have HQ2 := Lib.hid fun z => HIA.out _ (K2.out.far z)
        have HQ3 := Lib.hid fun z => HIR.out _ (K2.out.far z)
        have HQ4 := Lib.hid fun z => HEA.out _ (K2.out.far z)
        have HQ5 := Lib.hid fun z => HER.out _ (K2.out.far z)
        have HQ6 := Lib.hid fun z => HES.out _ (K2.out.far z)
        refine wp_region_far (by kernel_rfl) (by kernel_rfl) ?_
        repeat (go_big_quiet_step ((first | (go_at_call 11; exact far_of (HQ0.out _)) | (go_at_call 12; exact far_of (HQ1.out _)) | (go_at_call 13; exact far_of (HQ2.out _)) | (go_at_call 14; exact far_of (HQ3.out _)) | (go_at_call 15; with_reducible first | exact far_of (HQ4.out _) | exact far_of (HQ6.out _)) | (go_at_call 16; exact far_of (HQ5.out _)))))
        refine wpQuiet_nil ?_
        rintro _ ⟨p, rfl⟩
        have K3 := Lib.hid (K2.out.far p)
        clear j0 j1 j2 j3 HQ0 HQ1 HQ2 HQ3 HQ4 HQ5 HQ6
        go_wp2_with fail
        go_meet
        exact ⟨rfl, K3⟩
  case rest =>
    obtain ⟨rfl, K3⟩ := hcut
    clear hl hlp hl2 hv hz hs hul K K1 K2
    have hw3 := K3.out
    clear hw3
    obtain ⟨_, _, j0, j1, j2, j3⟩ := HCC.out _ K3.out
    go_wp2_with fail
    refine (HV.out _ K3.out).mono ?_
    rintro e w4 ⟨rfl, hb1⟩
    have K4 := Lib.hid (K3.out.below hb1)
    clear hb1 j0 j1 j2 j3
    obtain ⟨a1, _, j0, j1, j2, j3⟩ := HCC.out _ K4.out
    go_wp2_with fail
    refine (HOW.out _ a1).mono ?_
    rintro e w5 ⟨⟨A5, n5, B5, k5, rfl, hv5, hw5⟩, hb1⟩
    have K5 := Lib.hid ((((K4.out.below hb1).push hv5.holds).push hw5.holds).box (.slice A5 vs.length n5) (.slice B5 ls.length k5) 25)
    clear hb1 hv5 hw5 a1 j0 j1 j2 j3
    have hqq : ∀ W, KX w [(⟨w5.heap.size, 0, none⟩, .slice A5 vs.length n5), (⟨w5.heap.size, 1, none⟩, .slice B5 ls.length k5), (⟨w.heap.size + 1, 0, none⟩, .slice Ap vsp.length np), (⟨w.heap.size + 1, 1, none⟩, .slice Bp lsp.length kp), (⟨w.heap.size, 0, none⟩, .slice A vs.length n), (⟨w.heap.size, 1, none⟩, .slice B ls.length k)] [(.slice B5 ls.length k5, ls), (.slice A5 vs.length n5, vs), (.slice Bp lsp.length kp, lsp), (.slice Ap vsp.length np, vsp), (.slice B ls.length k, ls), (.slice A vs.length n, vs)] W → HoldsC W (.agg #[.slice A5 vs.length n5, .slice B5 ls.length k5]) vs ls ∧ HoldsC W (.agg #[.slice A vs.length n, .slice B ls.length k]) vs ls ∧ W.cell? ⟨w5.heap.size, 0, none⟩ = some (.slice A5 vs.length n5) ∧ W.cell? ⟨w5.heap.size, 1, none⟩ = some (.slice B5 ls.length k5) ∧ W.cell? ⟨w.heap.size, 0, none⟩ = some (.slice A vs.length n) ∧ W.cell? ⟨w.heap.size, 1, none⟩ = some (.slice B ls.length k) :=
      fun W K => ⟨HoldsC.mk (K.h (by simp)) (K.h (by simp)), HoldsC.mk (K.h (by simp)) (K.h (by simp)), K.cell (by simp), K.cell (by simp), K.cell (by simp), K.cell (by simp)⟩
    have HQ := Lib.hid hqq
    clear hqq
    obtain ⟨a1, a2, j0, j1, j2, j3⟩ := HQ.out _ K5.out
    go_wp2_with fail
    clear j0 j1 j2 j3
    generalize w5.alloc (.cells #[.slice A5 vs.length n5, .slice B5 ls.length k5] 25) = W0 at K5 a1 a2 ⊢
    refine (HCO.out _ _ a1).mono ?_
    rintro e w7 ⟨⟨A8, n8, B8, k8, rfl, hv8, hw8⟩, hb1⟩
    have K8 := Lib.hid ((((K5.out.below hb1).push hv8.holds).push hw8.holds).box (.slice A8 us.length n8) (.slice B8 rs.length k8) 25)
    have hal : Below w7.heap.size w7 (w7.alloc (.cells #[.slice A8 us.length n8, .slice B8 rs.length k8] 25)) := (Below.refl _ w7).alloc (Nat.le_refl _) _
    have HLK : Hid (LkR W0 w7.heap.size A8 us.length n8 B8 rs.length k8 (w7.alloc (.cells #[.slice A8 us.length n8, .slice B8 rs.length k8] 25))) := ⟨(IntRow.of_mine hv8).below hal, (IntRow.of_mine hw8).below hal, heap_alloc_new w7 _, below_trans hb1 hal, hb1.size⟩
    have hz7 : w.heap.size < w7.heap.size := Nat.lt_of_lt_of_le (K5.out.lt (a := ⟨w.heap.size, 0, none⟩) (v := .slice A vs.length n) (by simp)) hb1.size
    have hz8 : ¬ w.heap.size = w7.heap.size := by omega
    have j2 := (K5.out.below hb1).cell (a := ⟨w.heap.size, 0, none⟩) (v := .slice A vs.length n) (by simp)
    have j3 := (K5.out.below hb1).cell (a := ⟨w.heap.size, 1, none⟩) (v := .slice B ls.length k) (by simp)
    clear hb1 hv8 hw8 hal a1 a2
    go_wp2_with fail
    clear j2 j3
    clear hz7 hz8
    generalize (w7.alloc (.cells #[.slice A8 us.length n8, .slice B8 rs.length k8] 25)) = W8 at K8 HLK ⊢
    have HSB := Lib.hid fun W W' (h : (W.cell? ⟨w7.heap.size, 0, none⟩ = some (.slice A8 us.length n8) ∧ W.cell? ⟨w7.heap.size, 1, none⟩ = some (.slice B8 rs.length k8) ∧ W.cell? ⟨w.heap.size, 0, none⟩ = some (.slice A vs.length n) ∧ W.cell? ⟨w.heap.size, 1, none⟩ = some (.slice B ls.length k) ∧ KX w [(⟨w7.heap.size, 0, none⟩, .slice A8 us.length n8), (⟨w7.heap.size, 1, none⟩, .slice B8 rs.length k8), (⟨w5.heap.size, 0, none⟩, .slice A5 vs.length n5), (⟨w5.heap.size, 1, none⟩, .slice B5 ls.length k5), (⟨w.heap.size + 1, 0, none⟩, .slice Ap vsp.length np), (⟨w.heap.size + 1, 1, none⟩, .slice Bp lsp.length kp), (⟨w.heap.size, 0, none⟩, .slice A vs.length n), (⟨w.heap.size, 1, none⟩, .slice B ls.length k)] [(.slice B8 rs.length k8, rs), (.slice A8 us.length n8, us), (.slice B5 ls.length k5, ls), (.slice A5 vs.length n5, vs), (.slice Bp lsp.length kp, lsp), (.slice Ap vsp.length np, vsp), (.slice B ls.length k, ls), (.slice A vs.length n, vs)] W ∧ LkR W0 w7.heap.size A8 us.length n8 B8 rs.length k8 W)) (hb : Below W.heap.size W W') => (show (W'.cell? ⟨w7.heap.size, 0, none⟩ = some (.slice A8 us.length n8) ∧ W'.cell? ⟨w7.heap.size, 1, none⟩ = some (.slice B8 rs.length k8) ∧ W'.cell? ⟨w.heap.size, 0, none⟩ = some (.slice A vs.length n) ∧ W'.cell? ⟨w.heap.size, 1, none⟩ = some (.slice B ls.length k) ∧ KX w [(⟨w7.heap.size, 0, none⟩, .slice A8 us.length n8), (⟨w7.heap.size, 1, none⟩, .slice B8 rs.length k8), (⟨w5.heap.size, 0, none⟩, .slice A5 vs.length n5), (⟨w5.heap.size, 1, none⟩, .slice B5 ls.length k5), (⟨w.heap.size + 1, 0, none⟩, .slice Ap vsp.length np), (⟨w.heap.size + 1, 1, none⟩, .slice Bp lsp.length kp), (⟨w.heap.size, 0, none⟩, .slice A vs.length n), (⟨w.heap.size, 1, none⟩, .slice B ls.length k)] [(.slice B8 rs.length k8, rs), (.slice A8 us.length n8, us), (.slice B5 ls.length k5, ls), (.slice A5 vs.length n5, vs), (.slice Bp lsp.length kp, lsp), (.slice Ap vsp.length np, vsp), (.slice B ls.length k, ls), (.slice A vs.length n, vs)] W' ∧ LkR W0 w7.heap.size A8 us.length n8 B8 rs.length k8 W') from ⟨(h.2.2.2.2.1.below hb).cell (by simp), (h.2.2.2.2.1.below hb).cell (by simp), (h.2.2.2.2.1.below hb).cell (by simp), (h.2.2.2.2.1.below hb).cell (by simp), h.2.2.2.2.1.below hb, h.2.2.2.2.2.1.below hb, h.2.2.2.2.2.2.1.below hb, h.2.2.2.2.2.2.2.1.below hb, below_trans h.2.2.2.2.2.2.2.2.1 hb, h.2.2.2.2.2.2.2.2.2⟩)
    have hS0 : (fun W => (W.cell? ⟨w7.heap.size, 0, none⟩ = some (.slice A8 us.length n8) ∧ W.cell? ⟨w7.heap.size, 1, none⟩ = some (.slice B8 rs.length k8) ∧ W.cell? ⟨w.heap.size, 0, none⟩ = some (.slice A vs.length n) ∧ W.cell? ⟨w.heap.size, 1, none⟩ = some (.slice B ls.length k) ∧ KX w [(⟨w7.heap.size, 0, none⟩, .slice A8 us.length n8), (⟨w7.heap.size, 1, none⟩, .slice B8 rs.length k8), (⟨w5.heap.size, 0, none⟩, .slice A5 vs.length n5), (⟨w5.heap.size, 1, none⟩, .slice B5 ls.length k5), (⟨w.heap.size + 1, 0, none⟩, .slice Ap vsp.length np), (⟨w.heap.size + 1, 1, none⟩, .slice Bp lsp.length kp), (⟨w.heap.size, 0, none⟩, .slice A vs.length n), (⟨w.heap.size, 1, none⟩, .slice B ls.length k)] [(.slice B8 rs.length k8, rs), (.slice A8 us.length n8, us), (.slice B5 ls.length k5, ls), (.slice A5 vs.length n5, vs), (.slice Bp lsp.length kp, lsp), (.slice Ap vsp.length np, vsp), (.slice B ls.length k, ls), (.slice A vs.length n, vs)] W ∧ LkR W0 w7.heap.size A8 us.length n8 B8 rs.length k8 W)) W8 := ⟨K8.out.cell (by simp), K8.out.cell (by simp), K8.out.cell (by simp), K8.out.cell (by simp), K8.out, HLK.out⟩
    obtain ⟨q0, q1, q2, q3, q4, q5⟩ := id hS0
    have HX := Lib.hid fun W (h : (W.cell? ⟨w7.heap.size, 0, none⟩ = some (.slice A8 us.length n8) ∧ W.cell? ⟨w7.heap.size, 1, none⟩ = some (.slice B8 rs.length k8) ∧ W.cell? ⟨w.heap.size, 0, none⟩ = some (.slice A vs.length n) ∧ W.cell? ⟨w.heap.size, 1, none⟩ = some (.slice B ls.length k) ∧ KX w [(⟨w7.heap.size, 0, none⟩, .slice A8 us.length n8), (⟨w7.heap.size, 1, none⟩, .slice B8 rs.length k8), (⟨w5.heap.size, 0, none⟩, .slice A5 vs.length n5), (⟨w5.heap.size, 1, none⟩, .slice B5 ls.length k5), (⟨w.heap.size + 1, 0, none⟩, .slice Ap vsp.length np), (⟨w.heap.size + 1, 1, none⟩, .slice Bp lsp.length kp), (⟨w.heap.size, 0, none⟩, .slice A vs.length n), (⟨w.heap.size, 1, none⟩, .slice B ls.length k)] [(.slice B8 rs.length k8, rs), (.slice A8 us.length n8, us), (.slice B5 ls.length k5, ls), (.slice A5 vs.length n5, vs), (.slice Bp lsp.length kp, lsp), (.slice Ap vsp.length np, vsp), (.slice B ls.length k, ls), (.slice A vs.length n, vs)] W ∧ LkR W0 w7.heap.size A8 us.length n8 B8 rs.length k8 W)) => (show HoldsC W (.agg #[.slice A8 us.length n8, .slice B8 rs.length k8]) us rs ∧ HoldsC W (.agg #[.slice A vs.length n, .slice B ls.length k]) vs ls ∧ Holds W (.slice A vs.length n) vs ∧ Holds W (.slice B ls.length k) ls from ⟨HoldsC.mk (h.2.2.2.2.1.h (by simp)) (h.2.2.2.2.1.h (by simp)), HoldsC.mk (h.2.2.2.2.1.h (by simp)) (h.2.2.2.2.1.h (by simp)), h.2.2.2.2.1.h (by simp), h.2.2.2.2.1.h (by simp)⟩)
    clear K8 HLK
    go_region_held3 (fun W => W.cell? ⟨w7.heap.size, 0, none⟩ = some (.slice A8 us.length n8) ∧ W.cell? ⟨w7.heap.size, 1, none⟩ = some (.slice B8 rs.length k8) ∧ W.cell? ⟨w.heap.size, 0, none⟩ = some (.slice A vs.length n) ∧ W.cell? ⟨w.heap.size, 1, none⟩ = some (.slice B ls.length k) ∧ KX w [(⟨w7.heap.size, 0, none⟩, .slice A8 us.length n8), (⟨w7.heap.size, 1, none⟩, .slice B8 rs.length k8), (⟨w5.heap.size, 0, none⟩, .slice A5 vs.length n5), (⟨w5.heap.size, 1, none⟩, .slice B5 ls.length k5), (⟨w.heap.size + 1, 0, none⟩, .slice Ap vsp.length np), (⟨w.heap.size + 1, 1, none⟩, .slice Bp lsp.length kp), (⟨w.heap.size, 0, none⟩, .slice A vs.length n), (⟨w.heap.size, 1, none⟩, .slice B ls.length k)] [(.slice B8 rs.length k8, rs), (.slice A8 us.length n8, us), (.slice B5 ls.length k5, ls), (.slice A5 vs.length n5, vs), (.slice Bp lsp.length kp, lsp), (.slice Ap vsp.length np, vsp), (.slice B ls.length k, ls), (.slice A vs.length n, vs)] W ∧ LkR W0 w7.heap.size A8 us.length n8 B8 rs.length k8 W)
      (first
        | assumption
        | (exact HSB.out _ _ (by assumption) (Below.refl _ _).drew))
      (first
        | (go_at_call 22; refine (HRC.out _ _ _ ((HX.out _ (by assumption)).2.2.1) ((HX.out _ (by assumption)).2.2.2)).mono ?_
           rintro e wa ⟨⟨Ar, nr, Br, kr, rfl, hr1, hr2⟩, hb1⟩
           have hSa := HSB.out _ _ (by assumption) hb1
           clear hb1)
        | (go_at_call 21; refine (HGI.out _ _ _ ((HX.out _ (by assumption)).1) (by first | exact HoldsC.mk hr1 hr2 | exact HoldsC.below (HoldsC.mk hr1 hr2) (Below.refl _ _).drew)).mono ?_
           rintro e wb ⟨rfl, hb1⟩
           have hSb := HSB.out _ _ (by assumption) hb1
           clear hb1)
        | (go_at_call 18; refine (HSZ.out _ _ ((HX.out _ (by assumption)).2.1)).mono ?_
           rintro e wc ⟨rfl, hb1⟩
           have hSc := HSB.out _ _ (by assumption) hb1
           clear hb1)
        | (go_at_call 23; refine (HSR.out _ _ ((HX.out _ (by assumption)).2.1)).mono ?_
           rintro e wd ⟨rfl, hb1⟩
           have hSd := HSB.out _ _ (by assumption) hb1
           clear hb1))
    all_goals
      have HK9 := Lib.hid hSd.2.2.2.2.2
      have j0 := hSd.1
      have j1 := hSd.2.1
      have H5 := Lib.hid K5.out
      clear hSa hSb hSc hSd hr1 hr2
      go_wp2_with fail
      clear j0 j1
      go_loopw [83] (fun i wr => ∃ j : Nat, j ≤ us.length ∧ i = .int .i64 j ∧ Hid (LkR W0 w7.heap.size A8 us.length n8 B8 rs.length k8 wr)) (fun i _ => us.length - (intOf i).toNat)
      case atStart => exact ⟨0, by omega, rfl, HK9⟩
      case round =>
        obtain ⟨j, hj, rfl, hlk⟩ := hrel
        have i0 := hlk.out.2.2.1.cell0
        have i1 := hlk.out.2.2.1.cell1
        by_cases hlt : j < us.length
        · obtain ⟨b, hA, hBb, hf, z, hz⟩ := hlk.out.1.at hlt
          cases hA
          have HLK := hlk
          have b0 : (0 : Int) ≤ (j : Int) := by omega
          have hnn : us.length ≤ 1000 := by have := HUL.out; omega
          go_wp2_with fail
          go_roundw
          case rel => exact ⟨j + 1, by omega, by go_num, LkR.store HLK.out hBb hz _⟩
          case measure => simp [intOf]; omega
        · obtain rfl : j = us.length := by omega
          have HLK := hlk
          clear hlk hlt hj
          go_wp2_with fail
          clear i0 i1
          obtain ⟨wo, hwo⟩ : ∃ wo : World, wo = wr := ⟨_, rfl⟩
          clear hwo
          go_loopw [99] (fun i wr => ∃ j : Nat, j ≤ rs.length ∧ i = .int .i64 j ∧ Hid (LkR W0 w7.heap.size A8 us.length n8 B8 rs.length k8 wr)) (fun i _ => rs.length - (intOf i).toNat)
          case atStart => exact ⟨0, by omega, rfl, HLK⟩
          case round =>
            obtain ⟨j, hj, rfl, hlk⟩ := hrel
            have i0 := hlk.out.2.2.1.cell0
            have i1 := hlk.out.2.2.1.cell1
            by_cases hlt : j < rs.length
            · obtain ⟨b, hA, hBb, hf, z, hz⟩ := hlk.out.2.1.at hlt
              cases hA
              have HLK := hlk
              have b0 : (0 : Int) ≤ (j : Int) := by omega
              have hnn : rs.length ≤ 1000 := by have := HUL.out; omega
              go_wp2_with fail
              go_roundw
              case rel => exact ⟨j + 1, by omega, by go_num, LkR.store HLK.out hBb hz _⟩
              case measure => simp [intOf]; omega
            · obtain rfl : j = rs.length := by omega
              have K9 := Lib.hid (H5.out.below hlk.out.2.2.2.1)
              clear i0 i1 hlk hlt hj
              obtain ⟨a1, a2, j0, j1, j2, j3⟩ := HQ.out _ K9.out
              go_wp2_with fail
              refine (HEQ.out _ _ _ a1 a2).mono ?_
              rintro e w10 ⟨rfl, hb1⟩
              have K10 := Lib.hid (K9.out.below hb1)
              clear hb1 a1 a2 j0 j1 j2 j3
              go_wp2_with fail
              refine (HKN.out _).mono ?_
              rintro e w11 ⟨rfl, hb1⟩
              have K11 := Lib.hid (K10.out.below hb1)
              clear hb1
              go_wp2
              go_ret
              exact ⟨rfl, K11.out.bel⟩

theorem lawLooks3 (KN : KnownOK) (v vp : Value) (vs ls vsp lsp : List (Int × Int)) (w : World) (h : HoldsC w v vs ls) (hp : HoldsC w vp vsp lsp) :
    Calls Try.prog 3 #[v, vp] w fun e w' => e = .returned (.bool true) ∧ Below w.heap.size w w' := by
  cases hl : (decide (vs.length ≤ 40) && decide (ls.length ≤ 40)) with
  | false => exact lawLooks3_a KN v vp vs ls vsp lsp w h hp hl
  | true =>
    cases hlp : (decide (vsp.length ≤ 40) && decide (lsp.length ≤ 40)) with
    | false => exact lawLooks3_b KN v vp vs ls vsp lsp w h hp hl hlp
    | true =>
      cases hv : validC vs ls with
      | false => exact lawLooks3_c KN v vp vs ls vsp lsp w h hp hl hlp hv
      | true => exact lawLooks3_d KN v vp vs ls vsp lsp w h hp hl hlp hv

end Go.Proofs.Ytibnlifdeknicaa
