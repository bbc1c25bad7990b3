/- The law ContextUnites, from known. -/
import Derived.Test.YtibnlifdeknicaaCtxB2
import Derived.Test.YtibnlifdeknicaaCtxN
import Derived.Test.YtibnlifdeknicaaCtxM
namespace Go.Proofs.Ytibnlifdeknicaa
open Go.RowKit

theorem withP_no (b : Bool) : (((withP false b).1 == false) && ((withP false b).2 == 2)) = true := rfl
theorem withP_yes {b c : Bool} (h : b = c) : (((withP true b).1 == c) && ((withP true b).2 == 0)) = true := by subst h; simp [withP]
theorem ref3Union_h (v v' : Value) (vs ls vs' ls' us rs : List (Int × Int)) (w : World) (h : HoldsC w v vs ls) (h' : HoldsC w v' vs' ls') (hv : validC vs ls = true) (hv' : validC vs' ls' = true)
    (hm : vs.length + ls.length + (vs'.length + ls'.length) ≤ 1000) (hz : unionC vs ls vs' ls' = (us, rs)) :
    Calls Try.prog 35 #[v, v'] w fun e w' => (∃ A n B k, e = .returned (.agg #[.slice A us.length n, .slice B rs.length k]) ∧ HoldsC w' (.agg #[.slice A us.length n, .slice B rs.length k]) us rs) ∧ Below w.heap.size w w' := by
  refine (ref3Union v v' vs ls vs' ls' us rs w h h' hv hv' hm hz).mono ?_
  rintro e w' ⟨⟨x, he, hc⟩, hb⟩
  have hc0 := hc
  obtain ⟨A, n, B, k, rfl, _⟩ := hc
  exact ⟨⟨A, n, B, k, he, hc0⟩, hb⟩

theorem heap_newB (W : World) (o1 o2 : Obj) : ((W.alloc o1).alloc o2).heap[W.heap.size + 1]? = some o2 := by
  have h := heap_alloc_new (W.alloc o1) o2
  rwa [World.size_alloc] at h
theorem blk_new (W : World) (x y : Value) : Blk2 (W.alloc (.cells #[x, y] 25)) W.heap.size x y := heap_alloc_new W _
theorem blk_new0 (W : World) (o : Obj) (x y : Value) : Blk2 ((W.alloc (.cells #[x, y] 25)).alloc o) W.heap.size x y := (heap_alloc_old _ _ (by simp)).trans (heap_alloc_new W _)
theorem blk_new1 (W : World) (o : Obj) (x y : Value) : Blk2 ((W.alloc o).alloc (.cells #[x, y] 25)) (W.heap.size + 1) x y := heap_newB W _ _
/-- Two boxes that lie, and all that lay in W0. -/
def KT (W0 : World) (g0 g1 : Nat) (x y x' y' : Value) (W : World) : Prop := W.cell? ⟨g0, 0, none⟩ = some x ∧ W.cell? ⟨g0, 1, none⟩ = some y ∧ W.cell? ⟨g1, 0, none⟩ = some x' ∧ W.cell? ⟨g1, 1, none⟩ = some y' ∧ g0 < W0.heap.size ∧ g1 < W0.heap.size ∧ Below W0.heap.size W0 W
section
variable {W0 W W' : World} {g0 g1 : Nat} {x y x' y' : Value}
theorem KT.bel (h : KT W0 g0 g1 x y x' y' W) : Below W0.heap.size W0 W := h.2.2.2.2.2.2
theorem KT.below (h : KT W0 g0 g1 x y x' y' W) (hb : Below W.heap.size W W') : KT W0 g0 g1 x y x' y' W' := by
  have l0 : g0 < W.heap.size := Nat.lt_of_lt_of_le h.2.2.2.2.1 h.bel.size
  have l1 : g1 < W.heap.size := Nat.lt_of_lt_of_le h.2.2.2.2.2.1 h.bel.size
  exact ⟨(hb.cell (p := ⟨g0, 0, none⟩) l0).trans h.1, (hb.cell (p := ⟨g0, 1, none⟩) l0).trans h.2.1, (hb.cell (p := ⟨g1, 0, none⟩) l1).trans h.2.2.1, (hb.cell (p := ⟨g1, 1, none⟩) l1).trans h.2.2.2.1, h.2.2.2.2.1, h.2.2.2.2.2.1, below_trans h.bel hb⟩
theorem KT.drew (h : KT W0 g0 g1 x y x' y' W) : KT W0 g0 g1 x y x' y' W.drew := h.below (Below.refl _ W).drew
theorem KT.alloc (h : KT W0 g0 g1 x y x' y' W) (o : Obj) : KT W0 g0 g1 x y x' y' (W.alloc o) := h.below ((Below.refl _ W).alloc (Nat.le_refl _) o)
theorem cell_off {W : World} {a b : Addr} {u v : Value} (h : W.cell? a = some u) (hne : a.block ≠ b.block) : (W.setCell b v).cell? a = some u := (World.cell?_of_block (Below.heap_setCell W b v a.block hne)).trans h
theorem KT.store (h : KT W0 g0 g1 x y x' y' W) {b o : Nat} (hb : W0.heap.size ≤ b) (u : Value) : KT W0 g0 g1 x y x' y' (W.setCell ⟨b, o, none⟩ u) := by
  have e0 : g0 ≠ b := by have := h.2.2.2.2.1; omega
  have e1 : g1 ≠ b := by have := h.2.2.2.2.2.1; omega
  exact ⟨cell_off h.1 e0, cell_off h.2.1 e0, cell_off h.2.2.1 e1, cell_off h.2.2.2.1 e1, h.2.2.2.2.1, h.2.2.2.2.2.1, h.bel.setCell (p := ⟨b, o, none⟩) hb u⟩
end

/-- What a region that lays two contexts leaves. -/
def TwoR (W0 : World) (vs ls vs' ls' : List (Int × Int)) (p q : Value) (W : World) : Prop :=
  ∃ b5 b6 A n B k A' n' B' k', p = .pointer (some ⟨b5, 0, none⟩) ∧ q = .pointer (some ⟨b6, 0, none⟩) ∧ Blk2 W b5 (.slice A vs.length n) (.slice B ls.length k) ∧ Blk2 W b6 (.slice A' vs'.length n') (.slice B' ls'.length k') ∧
    Holds W (.slice A vs.length n) vs ∧ Holds W (.slice B ls.length k) ls ∧ Holds W (.slice A' vs'.length n') vs' ∧ Holds W (.slice B' ls'.length k') ls' ∧ W0.heap.size ≤ b5 ∧ W0.heap.size ≤ b6 ∧ Below W0.heap.size W0 W
theorem two_fin {W0 X : World} {vs ls vs' ls' : List (Int × Int)} {b5 b6 : Nat} {A B A' B' : Option Addr} {n k n' k' : Nat} (B5 : Blk2 X b5 (.slice none 0 0) (.slice none 0 0)) (B6 : Blk2 X b6 (.slice none 0 0) (.slice none 0 0)) (hne : b5 ≠ b6) (k5 : W0.heap.size ≤ b5) (k6 : W0.heap.size ≤ b6)
    (h1 : Holds X (.slice A vs.length n) vs) (h2 : Holds X (.slice B ls.length k) ls) (h3 : Holds X (.slice A' vs'.length n') vs') (h4 : Holds X (.slice B' ls'.length k') ls') (hb : Below W0.heap.size W0 X) :
    TwoR W0 vs ls vs' ls' (.pointer (some ⟨b5, 0, none⟩)) (.pointer (some ⟨b6, 0, none⟩)) ((((X.setCell ⟨b5, 0, none⟩ (.slice A vs.length n)).setCell ⟨b5, 1, none⟩ (.slice B ls.length k)).setCell ⟨b6, 0, none⟩ (.slice A' vs'.length n')).setCell ⟨b6, 1, none⟩ (.slice B' ls'.length k')) := by
  have C6 : Blk2 ((X.setCell ⟨b5, 0, none⟩ (.slice A vs.length n)).setCell ⟨b5, 1, none⟩ (.slice B ls.length k)) b6 (.slice none 0 0) (.slice none 0 0) := (B6.other (Ne.symm hne) 0 _).other (Ne.symm hne) 1 _
  have tr : ∀ {v : Value} {xs : List (Int × Int)}, Holds X v xs → Holds ((((X.setCell ⟨b5, 0, none⟩ (.slice A vs.length n)).setCell ⟨b5, 1, none⟩ (.slice B ls.length k)).setCell ⟨b6, 0, none⟩ (.slice A' vs'.length n')).setCell ⟨b6, 1, none⟩ (.slice B' ls'.length k')) v xs :=
    fun h => (h.set2 B5 (by intro z; simp) (by intro z; simp)).set2 C6 (by intro z; simp) (by intro z; simp)
  exact ⟨b5, b6, A, n, B, k, A', n', B', k', rfl, rfl, ((B5.set _ _).other hne 0 _).other hne 1 _, C6.set _ _, tr h1, tr h2, tr h3, tr h4, k5, k6, below_set2 (below_set2 hb k5 _ _) k6 _ _⟩
theorem two_fin' {W0 X : World} {vs ls vs' ls' : List (Int × Int)} {b5 b6 : Nat} {A B A' B' : Option Addr} {n k n' k' : Nat} (B5 : Blk2 X b5 (.slice none 0 0) (.slice none 0 0)) (B6 : Blk2 X b6 (.slice none 0 0) (.slice none 0 0)) (hne : b5 ≠ b6) (k5 : W0.heap.size ≤ b5) (k6 : W0.heap.size ≤ b6)
    (h1 : Holds X (.slice A vs.length n) vs) (h2 : Holds X (.slice B ls.length k) ls) (h3 : Holds X (.slice A' vs'.length n') vs') (h4 : Holds X (.slice B' ls'.length k') ls') (hb : Below W0.heap.size W0 X) :
    TwoR W0 vs ls vs' ls' (.pointer (some ⟨b5, 0, none⟩)) (.pointer (some ⟨b6, 0, none⟩)) ((((X.setCell ⟨b6, 0, none⟩ (.slice A' vs'.length n')).setCell ⟨b6, 1, none⟩ (.slice B' ls'.length k')).setCell ⟨b5, 0, none⟩ (.slice A vs.length n)).setCell ⟨b5, 1, none⟩ (.slice B ls.length k)) := by
  obtain ⟨c6, c5, A', n', B', k', A, n, B, k, e6, e5, t1, t2, t3, t4, t5, t6, t7, t8, t9⟩ := two_fin B6 B5 (Ne.symm hne) k6 k5 h3 h4 h1 h2 hb
  exact ⟨c5, c6, A, n, B, k, A', n', B', k', e5, e6, t2, t1, t5, t6, t3, t4, t8, t7, t9⟩

def KB4 (w : World) (b0 b1 b2 b3 : Nat) (x0 y0 x1 y1 x2 y2 x3 y3 : Value) (L : List (Value × List (Int × Int))) (W : World) : Prop := W.cell? ⟨b0, 0, none⟩ = some (x0) ∧ W.cell? ⟨b0, 1, none⟩ = some (y0) ∧ W.cell? ⟨b1, 0, none⟩ = some (x1) ∧ W.cell? ⟨b1, 1, none⟩ = some (y1) ∧ W.cell? ⟨b2, 0, none⟩ = some (x2) ∧ W.cell? ⟨b2, 1, none⟩ = some (y2) ∧ W.cell? ⟨b3, 0, none⟩ = some (x3) ∧ W.cell? ⟨b3, 1, none⟩ = some (y3) ∧ KX w [(⟨b0, 0, none⟩, x0), (⟨b0, 1, none⟩, y0), (⟨b1, 0, none⟩, x1), (⟨b1, 1, none⟩, y1), (⟨b2, 0, none⟩, x2), (⟨b2, 1, none⟩, y2), (⟨b3, 0, none⟩, x3), (⟨b3, 1, none⟩, y3)] L W
section
variable {w W W' : World} {b0 b1 b2 b3 : Nat} {x0 y0 x1 y1 x2 y2 x3 y3 : Value} {L : List (Value × List (Int × Int))}
theorem KB4.of (h : KX w [(⟨b0, 0, none⟩, x0), (⟨b0, 1, none⟩, y0), (⟨b1, 0, none⟩, x1), (⟨b1, 1, none⟩, y1), (⟨b2, 0, none⟩, x2), (⟨b2, 1, none⟩, y2), (⟨b3, 0, none⟩, x3), (⟨b3, 1, none⟩, y3)] L W) : KB4 w b0 b1 b2 b3 x0 y0 x1 y1 x2 y2 x3 y3 L W := ⟨h.cell (by simp), h.cell (by simp), h.cell (by simp), h.cell (by simp), h.cell (by simp), h.cell (by simp), h.cell (by simp), h.cell (by simp), h⟩
theorem KB4.kx (h : KB4 w b0 b1 b2 b3 x0 y0 x1 y1 x2 y2 x3 y3 L W) : KX w [(⟨b0, 0, none⟩, x0), (⟨b0, 1, none⟩, y0), (⟨b1, 0, none⟩, x1), (⟨b1, 1, none⟩, y1), (⟨b2, 0, none⟩, x2), (⟨b2, 1, none⟩, y2), (⟨b3, 0, none⟩, x3), (⟨b3, 1, none⟩, y3)] L W := h.2.2.2.2.2.2.2.2
theorem KB4.below (h : KB4 w b0 b1 b2 b3 x0 y0 x1 y1 x2 y2 x3 y3 L W) (hb : Below W.heap.size W W') : KB4 w b0 b1 b2 b3 x0 y0 x1 y1 x2 y2 x3 y3 L W' := .of (h.kx.below hb)
theorem KB4.drew (h : KB4 w b0 b1 b2 b3 x0 y0 x1 y1 x2 y2 x3 y3 L W) : KB4 w b0 b1 b2 b3 x0 y0 x1 y1 x2 y2 x3 y3 L W.drew := .of h.kx.drew
end
theorem KX.add2 {w W : World} {C : List (Addr × Value)} {L : List (Value × List (Int × Int))} (h : KX w C L W) {g : Nat} {x y : Value} (hB : Blk2 W g x y) : KX w ((⟨g, 0, none⟩, x) :: (⟨g, 1, none⟩, y) :: C) L W := by
  refine ⟨fun p hp => ?_, h.2.1, h.2.2⟩
  rcases List.mem_cons.1 hp with rfl | hp
  · exact ⟨hB.cell0, hB.lt⟩
  · rcases List.mem_cons.1 hp with rfl | hp
    · exact ⟨hB.cell1, hB.lt⟩
    · exact h.1 p hp

set_option maxRecDepth 100000 in
set_option maxHeartbeats 16000000 in
theorem lawUnites3 (KN : KnownOK) (v vp : Value) (vs ls vsp lsp : List (Int × Int)) (w : World) (h : HoldsC w v vs ls) (hp : HoldsC w vp vsp lsp) :
    Calls Try.prog 6 #[v, vp] w fun e w' => e = .returned (.bool true) ∧ Below w.heap.size w w' := by
  obtain ⟨A, n, B, k, rfl, h1, h2⟩ := h
  obtain ⟨Ap, np, Bp, kp, rfl, h1p, h2p⟩ := hp
  have K := ((((((KX.nil w).push h1).push h2).push h1p).push h2p).box (.slice A vs.length n) (.slice B ls.length k) 25).box (.slice Ap vsp.length np) (.slice Bp lsp.length kp) 25
  simp only [World.size_alloc] at K
  have K := Lib.hid K
  have HKN := Lib.hid KN
  clear h1 h2 h1p h2p KN
  have hcc : ∀ W, KX w [(⟨w.heap.size + 1, 0, none⟩, .slice Ap vsp.length np), (⟨w.heap.size + 1, 1, none⟩, .slice Bp lsp.length kp), (⟨w.heap.size, 0, none⟩, .slice A vs.length n), (⟨w.heap.size, 1, none⟩, .slice B ls.length k)] [(.slice Bp lsp.length kp, lsp), (.slice Ap vsp.length np, vsp), (.slice B ls.length k, ls), (.slice A vs.length n, vs)] W → HoldsC W (.agg #[.slice A vs.length n, .slice B ls.length k]) vs ls ∧ HoldsC W (.agg #[.slice Ap vsp.length np, .slice Bp lsp.length kp]) vsp lsp ∧ W.cell? ⟨w.heap.size, 0, none⟩ = some (.slice A vs.length n) ∧ W.cell? ⟨w.heap.size, 1, none⟩ = some (.slice B ls.length k) ∧ W.cell? ⟨w.heap.size + 1, 0, none⟩ = some (.slice Ap vsp.length np) ∧ W.cell? ⟨w.heap.size + 1, 1, none⟩ = some (.slice Bp lsp.length kp) :=
    fun W K => ⟨HoldsC.mk (K.h (by simp)) (K.h (by simp)), HoldsC.mk (K.h (by simp)) (K.h (by simp)), K.cell (by simp), K.cell (by simp), K.cell (by simp), K.cell (by simp)⟩
  have HCC := Lib.hid hcc
  clear hcc
  cases hl : (decide (vs.length ≤ 40) && decide (ls.length ≤ 40)) with
  | false =>
    have HL1 := Lib.hid fun W K => law3Light (.agg #[.slice A vs.length n, .slice B ls.length k]) vs ls false W (HCC.out W K).1 hl
    clear hl
    go_enter Try.func6, Try.ntmps6
    go_wp2_with fail
    refine (HL1.out _ K.out).mono ?_
    rintro e w1 ⟨rfl, hb1⟩
    have K1 := Lib.hid (K.out.below hb1)
    clear hb1
    go_wp2_with fail
    refine (HKN.out _).mono ?_
    rintro e w2 ⟨rfl, hb1⟩
    have K2 := Lib.hid (K1.out.below hb1)
    clear hb1
    go_wp2
    go_ret
    exact ⟨rfl, K2.out.bel⟩
  | true =>
    have HL1 := Lib.hid fun W K => law3Light (.agg #[.slice A vs.length n, .slice B ls.length k]) vs ls true W (HCC.out W K).1 hl
    have hm1 : vs.length ≤ 40 ∧ ls.length ≤ 40 := by simpa using hl
    clear hl
    cases hl : (decide (vsp.length ≤ 40) && decide (lsp.length ≤ 40)) with
    | false =>
      have HL2 := Lib.hid fun W K => law3Light (.agg #[.slice Ap vsp.length np, .slice Bp lsp.length kp]) vsp lsp false W (HCC.out W K).2.1 hl
      clear hl hm1
      go_enter Try.func6, Try.ntmps6
      go_wp2_with fail
      refine (HL1.out _ K.out).mono ?_
      rintro e w1 ⟨rfl, hb1⟩
      have K1 := Lib.hid (K.out.below hb1)
      clear hb1
      obtain ⟨_, _, j0, j1, j2, j3⟩ := HCC.out _ K1.out
      go_wp2_with fail
      refine (HL2.out _ K1.out).mono ?_
      rintro e w2 ⟨rfl, hb1⟩
      have K2 := Lib.hid (K1.out.below hb1)
      clear hb1 j0 j1 j2 j3
      go_wp2_with fail
      refine (HKN.out _).mono ?_
      rintro e w3 ⟨rfl, hb1⟩
      have K3 := Lib.hid (K2.out.below hb1)
      clear hb1
      go_wp2
      go_ret
      exact ⟨rfl, K3.out.bel⟩
    | true =>
      have HL2 := Lib.hid fun W K => law3Light (.agg #[.slice Ap vsp.length np, .slice Bp lsp.length kp]) vsp lsp true W (HCC.out W K).2.1 hl
      have hm2 : vsp.length ≤ 40 ∧ lsp.length ≤ 40 := by simpa using hl
      have HM := Lib.hid (show vs.length + ls.length + (vsp.length + lsp.length) ≤ 1000 by omega)
      clear hl hm1 hm2
      cases hv : validC vs ls with
      | false =>
        have HV1 := Lib.hid fun W K => ref3Valid (.agg #[.slice A vs.length n, .slice B ls.length k]) vs ls false W (HCC.out W K).1 hv
        have HU := Lib.hid fun W K => law3United (.agg #[.slice A vs.length n, .slice B ls.length k]) (.agg #[.slice Ap vsp.length np, .slice Bp lsp.length kp]) (.agg #[.slice none 0 0, .slice none 0 0]) vs ls vsp lsp [] [] 2 true W (HCC.out W K).1 (HCC.out W K).2.1 (HoldsC.nil W) HM.out (by rw [hv]; rfl)
        have HW := Lib.hid fun W K => law3Within (.agg #[.slice A vs.length n, .slice B ls.length k]) (.agg #[.slice Ap vsp.length np, .slice Bp lsp.length kp]) vs ls vsp lsp false 2 true W (HCC.out W K).1 (HCC.out W K).2.1 HM.out (by rw [hv]; rfl)
        clear hv
        go_enter Try.func6, Try.ntmps6
        go_wp2_with fail
        refine (HL1.out _ K.out).mono ?_
        rintro e w1 ⟨rfl, hb1⟩
        have K1 := Lib.hid (K.out.below hb1)
        clear hb1
        obtain ⟨_, _, j0, j1, j2, j3⟩ := HCC.out _ K1.out
        go_wp2_with fail
        refine (HL2.out _ K1.out).mono ?_
        rintro e w2 ⟨rfl, hb1⟩
        have K2 := Lib.hid (K1.out.below hb1)
        clear hb1 j0 j1 j2 j3
        obtain ⟨_, _, j0, j1, j2, j3⟩ := HCC.out _ K2.out
        go_wp2_with fail
        refine (HV1.out _ K2.out).mono ?_
        rintro e w3 ⟨rfl, hb1⟩
        have K3 := Lib.hid (K2.out.below hb1)
        clear hb1 j0 j1 j2 j3
        obtain ⟨_, _, j0, j1, j2, j3⟩ := HCC.out _ K3.out
        go_wp2_with fail
        refine (HU.out _ K3.out).mono ?_
        rintro e w4 ⟨rfl, hb1⟩
        have K4 := Lib.hid (K3.out.below hb1)
        clear hb1 j0 j1 j2 j3
        obtain ⟨_, _, j0, j1, j2, j3⟩ := HCC.out _ K4.out
        go_wp2_with fail
        refine (HW.out _ K4.out).mono ?_
        rintro e w5 ⟨rfl, hb1⟩
        have K5 := Lib.hid (K4.out.below hb1)
        clear hb1 j0 j1 j2 j3
        go_wp2_with fail
        refine (HKN.out _).mono ?_
        rintro e w6 ⟨rfl, hb1⟩
        have K6 := Lib.hid (K5.out.below hb1)
        clear hb1
        go_wp2
        go_ret
        exact ⟨rfl, K6.out.bel⟩
      | true =>
        have HV1 := Lib.hid fun W K => ref3Valid (.agg #[.slice A vs.length n, .slice B ls.length k]) vs ls true W (HCC.out W K).1 hv
        cases hv' : validC vsp lsp with
        | false =>
          have HV2 := Lib.hid fun W K => ref3Valid (.agg #[.slice Ap vsp.length np, .slice Bp lsp.length kp]) vsp lsp false W (HCC.out W K).2.1 hv'
          have HU := Lib.hid fun W K => law3United (.agg #[.slice A vs.length n, .slice B ls.length k]) (.agg #[.slice Ap vsp.length np, .slice Bp lsp.length kp]) (.agg #[.slice none 0 0, .slice none 0 0]) vs ls vsp lsp [] [] 2 true W (HCC.out W K).1 (HCC.out W K).2.1 (HoldsC.nil W) HM.out (by rw [hv']; rw [Bool.and_false]; rfl)
          have HW := Lib.hid fun W K => law3Within (.agg #[.slice A vs.length n, .slice B ls.length k]) (.agg #[.slice Ap vsp.length np, .slice Bp lsp.length kp]) vs ls vsp lsp false 2 true W (HCC.out W K).1 (HCC.out W K).2.1 HM.out (by rw [hv']; rw [Bool.and_false]; rfl)
          clear hv hv'
          go_enter Try.func6, Try.ntmps6
          go_wp2_with fail
          refine (HL1.out _ K.out).mono ?_
          rintro e w1 ⟨rfl, hb1⟩
          have K1 := Lib.hid (K.out.below hb1)
          clear hb1
          obtain ⟨_, _, j0, j1, j2, j3⟩ := HCC.out _ K1.out
          go_wp2_with fail
          refine (HL2.out _ K1.out).mono ?_
          rintro e w2 ⟨rfl, hb1⟩
          have K2 := Lib.hid (K1.out.below hb1)
          clear hb1 j0 j1 j2 j3
          obtain ⟨_, _, j0, j1, j2, j3⟩ := HCC.out _ K2.out
          go_wp2_with fail
          refine (HV1.out _ K2.out).mono ?_
          rintro e w3 ⟨rfl, hb1⟩
          have K3 := Lib.hid (K2.out.below hb1)
          clear hb1 j0 j1 j2 j3
          obtain ⟨_, _, j0, j1, j2, j3⟩ := HCC.out _ K3.out
          go_wp2_with fail
          refine (HV2.out _ K3.out).mono ?_
          rintro e w4 ⟨rfl, hb1⟩
          have K4 := Lib.hid (K3.out.below hb1)
          clear hb1 j0 j1 j2 j3
          obtain ⟨_, _, j0, j1, j2, j3⟩ := HCC.out _ K4.out
          go_wp2_with fail
          refine (HU.out _ K4.out).mono ?_
          rintro e w5 ⟨rfl, hb1⟩
          have K5 := Lib.hid (K4.out.below hb1)
          clear hb1 j0 j1 j2 j3
          obtain ⟨_, _, j0, j1, j2, j3⟩ := HCC.out _ K5.out
          go_wp2_with fail
          refine (HW.out _ K5.out).mono ?_
          rintro e w6 ⟨rfl, hb1⟩
          have K6 := Lib.hid (K5.out.below hb1)
          clear hb1 j0 j1 j2 j3
          go_wp2_with fail
          refine (HKN.out _).mono ?_
          rintro e w7 ⟨rfl, hb1⟩
          have K7 := Lib.hid (K6.out.below hb1)
          clear hb1
          go_wp2
          go_ret
          exact ⟨rfl, K7.out.bel⟩
        | true =>
          have HV2 := Lib.hid fun W K => ref3Valid (.agg #[.slice Ap vsp.length np, .slice Bp lsp.length kp]) vsp lsp true W (HCC.out W K).2.1 hv'
          obtain ⟨us, rs, hz⟩ : ∃ us rs, unionC vs ls vsp lsp = (us, rs) := ⟨_, _, rfl⟩
          obtain ⟨bw, hbw⟩ : ∃ bw, withinC vs ls vsp lsp = bw := ⟨_, rfl⟩
          have HRU := Lib.hid fun W (x y : Value) (h : HoldsC W x vs ls) (h' : HoldsC W y vsp lsp) => ref3Union_h x y vs ls vsp lsp us rs W h h' hv hv' HM.out hz
          have HRW := Lib.hid fun W (x y : Value) (h : HoldsC W x vs ls) (h' : HoldsC W y vsp lsp) => ref3Within x y vs ls vsp lsp bw W h h' hv' (by have := HM.out; omega) hbw
          have HU := Lib.hid fun W (x y u : Value) (h : HoldsC W x vs ls) (h' : HoldsC W y vsp lsp) (hu : HoldsC W u us rs) => law3United x y u vs ls vsp lsp us rs 0 true W h h' hu HM.out (by rw [hv, hv', Bool.true_and]; exact isC_yes hz)
          have HW := Lib.hid fun W (x y : Value) (h : HoldsC W x vs ls) (h' : HoldsC W y vsp lsp) => law3Within x y vs ls vsp lsp bw 0 true W h h' HM.out (by rw [hv, hv', Bool.true_and]; exact withP_yes hbw)
          have HE1 := Lib.hid fun W (x y : Value) (h : HoldsC W x vs ls) (h' : HoldsC W y vs ls) => ref3Equal x y vs ls vs ls true W h h' (by simp)
          have HE2 := Lib.hid fun W (x y : Value) (h : HoldsC W x vsp lsp) (h' : HoldsC W y vsp lsp) => ref3Equal x y vsp lsp vsp lsp true W h h' (by simp)
          have HO1 := Lib.hid fun W (h : HoldsC W (.agg #[.slice A vs.length n, .slice B ls.length k]) vs ls) => law3Own _ vs ls W h (by have := HM.out; omega)
          have HO2 := Lib.hid fun W (h : HoldsC W (.agg #[.slice Ap vsp.length np, .slice Bp lsp.length kp]) vsp lsp) => law3Own _ vsp lsp W h (by have := HM.out; omega)
          clear hv hv' hz hbw
          go_enter Try.func6, Try.ntmps6
          go_wp2_with fail
          refine (HL1.out _ K.out).mono ?_
          rintro e w1 ⟨rfl, hb1⟩
          have K1 := Lib.hid (K.out.below hb1)
          clear hb1
          obtain ⟨_, _, j0, j1, j2, j3⟩ := HCC.out _ K1.out
          go_wp2_with fail
          refine (HL2.out _ K1.out).mono ?_
          rintro e w2 ⟨rfl, hb1⟩
          have K2 := Lib.hid (K1.out.below hb1)
          clear hb1 j0 j1 j2 j3
          obtain ⟨_, _, j0, j1, j2, j3⟩ := HCC.out _ K2.out
          go_wp2_with fail
          refine (HV1.out _ K2.out).mono ?_
          rintro e w3 ⟨rfl, hb1⟩
          have K3 := Lib.hid (K2.out.below hb1)
          clear hb1 j0 j1 j2 j3
          obtain ⟨_, _, j0, j1, j2, j3⟩ := HCC.out _ K3.out
          go_wp2_with fail
          refine (HV2.out _ K3.out).mono ?_
          rintro e w4 ⟨rfl, hb1⟩
          have K4 := Lib.hid (K3.out.below hb1)
          clear hb1 j0 j1 j2 j3
          obtain ⟨_, _, j0, j1, j2, j3⟩ := HCC.out _ K4.out
          go_wp2_with fail
          clear K1 K2 K3 HL1 HL2 HV1 HV2
          go_cut [5, 6] (fun p q wx => TwoR w4 vs ls vsp lsp p q wx)
          case first =>
            have hlt0 : w.heap.size < w4.heap.size := K4.out.lt (a := ⟨w.heap.size, 0, none⟩) (v := .slice A vs.length n) (by simp)
            have hlt1 : w.heap.size + 1 < w4.heap.size := K4.out.lt (a := ⟨w.heap.size + 1, 0, none⟩) (v := .slice Ap vsp.length np) (by simp)
            have KK : KT w4 w.heap.size (w.heap.size + 1) (.slice A vs.length n) (.slice B ls.length k) (.slice Ap vsp.length np) (.slice Bp lsp.length kp) w4 := ⟨j0, j1, j2, j3, hlt0, hlt1, Below.refl _ _⟩
            have HX := Lib.hid fun W (h : Below w4.heap.size w4 W) => (show HoldsC W (.agg #[.slice A vs.length n, .slice B ls.length k]) vs ls ∧ HoldsC W (.agg #[.slice Ap vsp.length np, .slice Bp lsp.length kp]) vsp lsp from ⟨(HCC.out _ K4.out).1.below h, (HCC.out _ K4.out).2.1.below h⟩)
            clear j0 j1 j2 j3 K K4
            generalize w4 = W0 at *
            have hS := Lib.hid (KT.drew KK)
            refine wp_region_held_drew (S := (fun W => W.cell? ⟨w.heap.size, 0, none⟩ = some (.slice A vs.length n) ∧ W.cell? ⟨w.heap.size, 1, none⟩ = some (.slice B ls.length k) ∧ W.cell? ⟨w.heap.size + 1, 0, none⟩ = some (.slice Ap vsp.length np) ∧ W.cell? ⟨w.heap.size + 1, 1, none⟩ = some (.slice Bp lsp.length kp) ∧ w.heap.size < W0.heap.size ∧ w.heap.size + 1 < W0.heap.size ∧ Below W0.heap.size W0 W)) (by kernel_rfl) hS.out (fun hHeld => ?_)
            generalize W0.drew = X0 at hS hHeld ⊢
            clear KK
            refine wpAnyH_take (i := 0) (v := ?_) rfl (by kernel_rfl) (by kernel_rfl) (by kernel_rfl) (fun _ _ _ h => h) (Or.inl ⟨by rfl, ?_⟩) (by assumption) ?_
            rotate_left 1
            · intro w hSw
              (try dsimp only at hSw)
              go_simp
              try with_reducible rfl
            try simp only [Act.put, List.setIfInBounds_toArray, List.set_cons_zero, List.set_cons_succ]
            refine wpAnyH_take (i := 2) (v := ?_) rfl (by kernel_rfl) (by kernel_rfl) (by kernel_rfl) (fun _ _ _ h => h) (Or.inl ⟨by rfl, ?_⟩) (by assumption) ?_
            rotate_left 1
            · intro w hSw
              (try dsimp only at hSw)
              go_simp
              try with_reducible rfl
            try simp only [Act.put, List.setIfInBounds_toArray, List.set_cons_zero, List.set_cons_succ]
            refine wpAnyH_ready (rs := [1, 4, 5]) (by kernel_rfl) (by simp) ?_
            refine AllReadyH.cons rfl (fun K hK => ?_) (AllReadyH.cons rfl (fun K hK => ?_) (AllReadyH.cons rfl (fun K hK => ?_) AllReadyH.nil))
            · go_simp
              refine (HO1.out _ (HX.out _ (KT.bel hS.out)).1).mono ?_
              rintro e X1 ⟨⟨A1, n1, B1, k1, rfl, hv, hw⟩, hb⟩
              replace hS := Lib.hid (KT.below hS.out hb)
              have gv1 := Lib.hid hv.holds
              have gw1 := Lib.hid hw.holds
              clear hv hw hb
              first
                | refine hK.out _ _ hS.out (fun hHeld => ?_)
                | (go_wp2_with fail
                   refine hK.out _ _ hS.out (fun hHeld => ?_))
              clear hK K
              try simp only [Act.put, List.setIfInBounds_toArray, List.set_cons_zero, List.set_cons_succ]
              refine wpAnyH_ready (rs := [3, 4, 5]) (by kernel_rfl) (by simp) ?_
              refine AllReadyH.cons rfl (fun K hK => ?_) (AllReadyH.cons rfl (fun K hK => ?_) (AllReadyH.cons rfl (fun K hK => ?_) AllReadyH.nil))
              · go_simp
                refine (HO2.out _ (HX.out _ (KT.bel hS.out)).2).mono ?_
                rintro e X2 ⟨⟨A2, n2, B2, k2, rfl, hv, hw⟩, hb⟩
                replace hS := Lib.hid (KT.below hS.out hb)
                replace gv1 := Lib.hid (gv1.out.below hb)
                replace gw1 := Lib.hid (gw1.out.below hb)
                have gv2 := Lib.hid hv.holds
                have gw2 := Lib.hid hw.holds
                clear hv hw hb
                first
                  | refine hK.out _ _ hS.out (fun hHeld => ?_)
                  | (go_wp2_with fail
                     refine hK.out _ _ hS.out (fun hHeld => ?_))
                clear hK K
                try simp only [Act.put, List.setIfInBounds_toArray, List.set_cons_zero, List.set_cons_succ]
                refine wpAnyH_ready (rs := [4, 5]) (by kernel_rfl) (by simp) ?_
                refine AllReadyH.cons rfl (fun K hK => ?_) (AllReadyH.cons rfl (fun K hK => ?_) AllReadyH.nil)
                · go_simp
                  have hb : Below X2.heap.size X2 (X2.alloc (.cells #[.slice none 0 0, .slice none 0 0] 25)) := (Below.refl _ _).alloc (Nat.le_refl _) _
                  have hB : Blk2 (X2.alloc (.cells #[.slice none 0 0, .slice none 0 0] 25)) X2.heap.size (.slice none 0 0) (.slice none 0 0) := blk_new _ _ _
                  have hk5 : Hid (W0.heap.size ≤ X2.heap.size) := (KT.bel hS.out).size
                  replace hS := Lib.hid (KT.below hS.out hb)
                  replace gv1 := Lib.hid (gv1.out.below hb)
                  replace gw1 := Lib.hid (gw1.out.below hb)
                  replace gv2 := Lib.hid (gv2.out.below hb)
                  replace gw2 := Lib.hid (gw2.out.below hb)
                  generalize X2.alloc (.cells #[.slice none 0 0, .slice none 0 0] 25) = X3 at hb hB hS gv1 gw1 gv2 gw2 ⊢
                  generalize X2.heap.size = b5 at hB hk5  ⊢
                  have hB5 := Lib.hid hB
                  clear hb hB
                  first
                    | refine hK.out _ _ hS.out (fun hHeld => ?_)
                    | (go_wp2_with fail
                       refine hK.out _ _ hS.out (fun hHeld => ?_))
                  clear hK K
                  try simp only [Act.put, List.setIfInBounds_toArray, List.set_cons_zero, List.set_cons_succ]
                  refine wpAnyH_ready (rs := [5]) (by kernel_rfl) (by simp) ?_
                  refine AllReadyH.cons rfl (fun K hK => ?_) AllReadyH.nil
                  go_simp
                  have hb : Below X3.heap.size X3 (X3.alloc (.cells #[.slice none 0 0, .slice none 0 0] 25)) := (Below.refl _ _).alloc (Nat.le_refl _) _
                  have hB : Blk2 (X3.alloc (.cells #[.slice none 0 0, .slice none 0 0] 25)) X3.heap.size (.slice none 0 0) (.slice none 0 0) := blk_new _ _ _
                  have hk6 : Hid (W0.heap.size ≤ X3.heap.size) := (KT.bel hS.out).size
                  have hne : Hid (b5 ≠ X3.heap.size) := Nat.ne_of_lt hB5.out.lt
                  replace hS := Lib.hid (KT.below hS.out hb)
                  replace gv1 := Lib.hid (gv1.out.below hb)
                  replace gw1 := Lib.hid (gw1.out.below hb)
                  replace gv2 := Lib.hid (gv2.out.below hb)
                  replace gw2 := Lib.hid (gw2.out.below hb)
                  replace hB5 := Lib.hid (hB5.out.below hb)
                  generalize X3.alloc (.cells #[.slice none 0 0, .slice none 0 0] 25) = X4 at hb hB hS gv1 gw1 gv2 gw2 hB5 ⊢
                  generalize X3.heap.size = b6 at hB hk6 hne ⊢
                  have hB6 := Lib.hid hB
                  clear hb hB
                  first
                    | refine hK.out _ _ hS.out (fun hHeld => ?_)
                    | (go_wp2_with fail
                       refine hK.out _ _ hS.out (fun hHeld => ?_))
                  clear hK K
                  try simp only [Act.put, List.setIfInBounds_toArray, List.set_cons_zero, List.set_cons_succ]
                  refine wpAnyH_ready (rs := [6]) (by kernel_rfl) (by simp) ?_
                  refine AllReadyH.cons rfl (fun K hK => ?_) AllReadyH.nil
                  have c0 := hB5.out.cell0
                  have c1 := hB5.out.cell1
                  have f0 := hB5.out.frozen 0
                  have f1 := hB5.out.frozen 1
                  go_simp
                  clear c0 c1 f0 f1
                  replace hS := Lib.hid (KT.store (KT.store hS.out hk5.out (o := 0) (.slice A1 vs.length n1)) hk5.out (o := 1) (.slice B1 ls.length k1))
                  replace gv1 := Lib.hid (Holds.set2 gv1.out hB5.out (by intro z; simp) (by intro z; simp) (x' := .slice A1 vs.length n1) (y' := .slice B1 ls.length k1))
                  replace gw1 := Lib.hid (Holds.set2 gw1.out hB5.out (by intro z; simp) (by intro z; simp) (x' := .slice A1 vs.length n1) (y' := .slice B1 ls.length k1))
                  replace gv2 := Lib.hid (Holds.set2 gv2.out hB5.out (by intro z; simp) (by intro z; simp) (x' := .slice A1 vs.length n1) (y' := .slice B1 ls.length k1))
                  replace gw2 := Lib.hid (Holds.set2 gw2.out hB5.out (by intro z; simp) (by intro z; simp) (x' := .slice A1 vs.length n1) (y' := .slice B1 ls.length k1))
                  replace hB6 := Lib.hid (((hB6.out).other (Ne.symm hne.out) 0 (.slice A1 vs.length n1)).other (Ne.symm hne.out) 1 (.slice B1 ls.length k1))
                  replace hB5 := Lib.hid ((hB5.out).set (.slice A1 vs.length n1) (.slice B1 ls.length k1))
                  generalize ((X4.setCell ⟨b5, 0, none⟩ (.slice A1 vs.length n1)).setCell ⟨b5, 1, none⟩ (.slice B1 ls.length k1)) = X5 at hS gv1 gw1 gv2 gw2 hB5 hB6 ⊢
                  first
                    | refine hK.out _ _ hS.out (fun hHeld => ?_)
                    | (go_wp2_with fail
                       refine hK.out _ _ hS.out (fun hHeld => ?_))
                  clear hK K
                  try simp only [Act.put, List.setIfInBounds_toArray, List.set_cons_zero, List.set_cons_succ]
                  refine wpAnyH_ready (rs := [7]) (by kernel_rfl) (by simp) ?_
                  refine AllReadyH.cons rfl (fun K hK => ?_) AllReadyH.nil
                  have c0 := hB6.out.cell0
                  have c1 := hB6.out.cell1
                  have f0 := hB6.out.frozen 0
                  have f1 := hB6.out.frozen 1
                  go_simp
                  clear c0 c1 f0 f1
                  replace hS := Lib.hid (KT.store (KT.store hS.out hk6.out (o := 0) (.slice A2 vsp.length n2)) hk6.out (o := 1) (.slice B2 lsp.length k2))
                  replace gv1 := Lib.hid (Holds.set2 gv1.out hB6.out (by intro z; simp) (by intro z; simp) (x' := .slice A2 vsp.length n2) (y' := .slice B2 lsp.length k2))
                  replace gw1 := Lib.hid (Holds.set2 gw1.out hB6.out (by intro z; simp) (by intro z; simp) (x' := .slice A2 vsp.length n2) (y' := .slice B2 lsp.length k2))
                  replace gv2 := Lib.hid (Holds.set2 gv2.out hB6.out (by intro z; simp) (by intro z; simp) (x' := .slice A2 vsp.length n2) (y' := .slice B2 lsp.length k2))
                  replace gw2 := Lib.hid (Holds.set2 gw2.out hB6.out (by intro z; simp) (by intro z; simp) (x' := .slice A2 vsp.length n2) (y' := .slice B2 lsp.length k2))
                  replace hB5 := Lib.hid (((hB5.out).other hne.out 0 (.slice A2 vsp.length n2)).other hne.out 1 (.slice B2 lsp.length k2))
                  replace hB6 := Lib.hid ((hB6.out).set (.slice A2 vsp.length n2) (.slice B2 lsp.length k2))
                  generalize ((X5.setCell ⟨b6, 0, none⟩ (.slice A2 vsp.length n2)).setCell ⟨b6, 1, none⟩ (.slice B2 lsp.length k2)) = X6 at hS gv1 gw1 gv2 gw2 hB5 hB6 ⊢
                  first
                    | refine hK.out _ _ hS.out (fun hHeld => ?_)
                    | (go_wp2_with fail
                       refine hK.out _ _ hS.out (fun hHeld => ?_))
                  clear hK K
                  try simp only [Act.put, List.setIfInBounds_toArray, List.set_cons_zero, List.set_cons_succ]
                  refine wpAnyH_done (by kernel_rfl) ?_ _
                  clear hHeld
                  go_wp2_with fail
                  go_meet
                  exact ⟨b5, b6, A1, n1, B1, k1, A2, n2, B2, k2, rfl, rfl, hB5.out, hB6.out, gv1.out, gw1.out, gv2.out, gw2.out, hk5.out, hk6.out, KT.bel hS.out⟩
                · go_simp
                  have hb : Below X2.heap.size X2 (X2.alloc (.cells #[.slice none 0 0, .slice none 0 0] 25)) := (Below.refl _ _).alloc (Nat.le_refl _) _
                  have hB : Blk2 (X2.alloc (.cells #[.slice none 0 0, .slice none 0 0] 25)) X2.heap.size (.slice none 0 0) (.slice none 0 0) := blk_new _ _ _
                  have hk6 : Hid (W0.heap.size ≤ X2.heap.size) := (KT.bel hS.out).size
                  replace hS := Lib.hid (KT.below hS.out hb)
                  replace gv1 := Lib.hid (gv1.out.below hb)
                  replace gw1 := Lib.hid (gw1.out.below hb)
                  replace gv2 := Lib.hid (gv2.out.below hb)
                  replace gw2 := Lib.hid (gw2.out.below hb)
                  generalize X2.alloc (.cells #[.slice none 0 0, .slice none 0 0] 25) = X7 at hb hB hS gv1 gw1 gv2 gw2 ⊢
                  generalize X2.heap.size = b6 at hB hk6  ⊢
                  have hB6 := Lib.hid hB
                  clear hb hB
                  first
                    | refine hK.out _ _ hS.out (fun hHeld => ?_)
                    | (go_wp2_with fail
                       refine hK.out _ _ hS.out (fun hHeld => ?_))
                  clear hK K
                  try simp only [Act.put, List.setIfInBounds_toArray, List.set_cons_zero, List.set_cons_succ]
                  refine wpAnyH_ready (rs := [4]) (by kernel_rfl) (by simp) ?_
                  refine AllReadyH.cons rfl (fun K hK => ?_) AllReadyH.nil
                  go_simp
                  have hb : Below X7.heap.size X7 (X7.alloc (.cells #[.slice none 0 0, .slice none 0 0] 25)) := (Below.refl _ _).alloc (Nat.le_refl _) _
                  have hB : Blk2 (X7.alloc (.cells #[.slice none 0 0, .slice none 0 0] 25)) X7.heap.size (.slice none 0 0) (.slice none 0 0) := blk_new _ _ _
                  have hk5 : Hid (W0.heap.size ≤ X7.heap.size) := (KT.bel hS.out).size
                  have hne : Hid (b6 ≠ X7.heap.size) := Nat.ne_of_lt hB6.out.lt
                  replace hS := Lib.hid (KT.below hS.out hb)
                  replace gv1 := Lib.hid (gv1.out.below hb)
                  replace gw1 := Lib.hid (gw1.out.below hb)
                  replace gv2 := Lib.hid (gv2.out.below hb)
                  replace gw2 := Lib.hid (gw2.out.below hb)
                  replace hB6 := Lib.hid (hB6.out.below hb)
                  generalize X7.alloc (.cells #[.slice none 0 0, .slice none 0 0] 25) = X8 at hb hB hS gv1 gw1 gv2 gw2 hB6 ⊢
                  generalize X7.heap.size = b5 at hB hk5 hne ⊢
                  have hB5 := Lib.hid hB
                  clear hb hB
                  first
                    | refine hK.out _ _ hS.out (fun hHeld => ?_)
                    | (go_wp2_with fail
                       refine hK.out _ _ hS.out (fun hHeld => ?_))
                  clear hK K
                  try simp only [Act.put, List.setIfInBounds_toArray, List.set_cons_zero, List.set_cons_succ]
                  refine wpAnyH_ready (rs := [6]) (by kernel_rfl) (by simp) ?_
                  refine AllReadyH.cons rfl (fun K hK => ?_) AllReadyH.nil
                  have c0 := hB5.out.cell0
                  have c1 := hB5.out.cell1
                  have f0 := hB5.out.frozen 0
                  have f1 := hB5.out.frozen 1
                  go_simp
                  clear c0 c1 f0 f1
                  replace hS := Lib.hid (KT.store (KT.store hS.out hk5.out (o := 0) (.slice A1 vs.length n1)) hk5.out (o := 1) (.slice B1 ls.length k1))
                  replace gv1 := Lib.hid (Holds.set2 gv1.out hB5.out (by intro z; simp) (by intro z; simp) (x' := .slice A1 vs.length n1) (y' := .slice B1 ls.length k1))
                  replace gw1 := Lib.hid (Holds.set2 gw1.out hB5.out (by intro z; simp) (by intro z; simp) (x' := .slice A1 vs.length n1) (y' := .slice B1 ls.length k1))
                  replace gv2 := Lib.hid (Holds.set2 gv2.out hB5.out (by intro z; simp) (by intro z; simp) (x' := .slice A1 vs.length n1) (y' := .slice B1 ls.length k1))
                  replace gw2 := Lib.hid (Holds.set2 gw2.out hB5.out (by intro z; simp) (by intro z; simp) (x' := .slice A1 vs.length n1) (y' := .slice B1 ls.length k1))
                  replace hB6 := Lib.hid (((hB6.out).other hne.out 0 (.slice A1 vs.length n1)).other hne.out 1 (.slice B1 ls.length k1))
                  replace hB5 := Lib.hid ((hB5.out).set (.slice A1 vs.length n1) (.slice B1 ls.length k1))
                  generalize ((X8.setCell ⟨b5, 0, none⟩ (.slice A1 vs.length n1)).setCell ⟨b5, 1, none⟩ (.slice B1 ls.length k1)) = X9 at hS gv1 gw1 gv2 gw2 hB5 hB6 ⊢
                  first
                    | refine hK.out _ _ hS.out (fun hHeld => ?_)
                    | (go_wp2_with fail
                       refine hK.out _ _ hS.out (fun hHeld => ?_))
                  clear hK K
                  try simp only [Act.put, List.setIfInBounds_toArray, List.set_cons_zero, List.set_cons_succ]
                  refine wpAnyH_ready (rs := [7]) (by kernel_rfl) (by simp) ?_
                  refine AllReadyH.cons rfl (fun K hK => ?_) AllReadyH.nil
                  have c0 := hB6.out.cell0
                  have c1 := hB6.out.cell1
                  have f0 := hB6.out.frozen 0
                  have f1 := hB6.out.frozen 1
                  go_simp
                  clear c0 c1 f0 f1
                  replace hS := Lib.hid (KT.store (KT.store hS.out hk6.out (o := 0) (.slice A2 vsp.length n2)) hk6.out (o := 1) (.slice B2 lsp.length k2))
                  replace gv1 := Lib.hid (Holds.set2 gv1.out hB6.out (by intro z; simp) (by intro z; simp) (x' := .slice A2 vsp.length n2) (y' := .slice B2 lsp.length k2))
                  replace gw1 := Lib.hid (Holds.set2 gw1.out hB6.out (by intro z; simp) (by intro z; simp) (x' := .slice A2 vsp.length n2) (y' := .slice B2 lsp.length k2))
                  replace gv2 := Lib.hid (Holds.set2 gv2.out hB6.out (by intro z; simp) (by intro z; simp) (x' := .slice A2 vsp.length n2) (y' := .slice B2 lsp.length k2))
                  replace gw2 := Lib.hid (Holds.set2 gw2.out hB6.out (by intro z; simp) (by intro z; simp) (x' := .slice A2 vsp.length n2) (y' := .slice B2 lsp.length k2))
                  replace hB5 := Lib.hid (((hB5.out).other (Ne.symm hne.out) 0 (.slice A2 vsp.length n2)).other (Ne.symm hne.out) 1 (.slice B2 lsp.length k2))
                  replace hB6 := Lib.hid ((hB6.out).set (.slice A2 vsp.length n2) (.slice B2 lsp.length k2))
                  generalize ((X9.setCell ⟨b6, 0, none⟩ (.slice A2 vsp.length n2)).setCell ⟨b6, 1, none⟩ (.slice B2 lsp.length k2)) = X10 at hS gv1 gw1 gv2 gw2 hB5 hB6 ⊢
                  first
                    | refine hK.out _ _ hS.out (fun hHeld => ?_)
                    | (go_wp2_with fail
                       refine hK.out _ _ hS.out (fun hHeld => ?_))
                  clear hK K
                  try simp only [Act.put, List.setIfInBounds_toArray, List.set_cons_zero, List.set_cons_succ]
                  refine wpAnyH_done (by kernel_rfl) ?_ _
                  clear hHeld
                  go_wp2_with fail
                  go_meet
                  exact ⟨b5, b6, A1, n1, B1, k1, A2, n2, B2, k2, rfl, rfl, hB5.out, hB6.out, gv1.out, gw1.out, gv2.out, gw2.out, hk5.out, hk6.out, KT.bel hS.out⟩
              · go_simp
                have hb : Below X1.heap.size X1 (X1.alloc (.cells #[.slice none 0 0, .slice none 0 0] 25)) := (Below.refl _ _).alloc (Nat.le_refl _) _
                have hB : Blk2 (X1.alloc (.cells #[.slice none 0 0, .slice none 0 0] 25)) X1.heap.size (.slice none 0 0) (.slice none 0 0) := blk_new _ _ _
                have hk5 : Hid (W0.heap.size ≤ X1.heap.size) := (KT.bel hS.out).size
                replace hS := Lib.hid (KT.below hS.out hb)
                replace gv1 := Lib.hid (gv1.out.below hb)
                replace gw1 := Lib.hid (gw1.out.below hb)
                generalize X1.alloc (.cells #[.slice none 0 0, .slice none 0 0] 25) = X11 at hb hB hS gv1 gw1 ⊢
                generalize X1.heap.size = b5 at hB hk5  ⊢
                have hB5 := Lib.hid hB
                clear hb hB
                first
                  | refine hK.out _ _ hS.out (fun hHeld => ?_)
                  | (go_wp2_with fail
                     refine hK.out _ _ hS.out (fun hHeld => ?_))
                clear hK K
                try simp only [Act.put, List.setIfInBounds_toArray, List.set_cons_zero, List.set_cons_succ]
                refine wpAnyH_ready (rs := [3, 5]) (by kernel_rfl) (by simp) ?_
                refine AllReadyH.cons rfl (fun K hK => ?_) (AllReadyH.cons rfl (fun K hK => ?_) AllReadyH.nil)
                · go_simp
                  refine (HO2.out _ (HX.out _ (KT.bel hS.out)).2).mono ?_
                  rintro e X12 ⟨⟨A2, n2, B2, k2, rfl, hv, hw⟩, hb⟩
                  replace hS := Lib.hid (KT.below hS.out hb)
                  replace gv1 := Lib.hid (gv1.out.below hb)
                  replace gw1 := Lib.hid (gw1.out.below hb)
                  replace hB5 := Lib.hid (hB5.out.below hb)
                  have gv2 := Lib.hid hv.holds
                  have gw2 := Lib.hid hw.holds
                  clear hv hw hb
                  first
                    | refine hK.out _ _ hS.out (fun hHeld => ?_)
                    | (go_wp2_with fail
                       refine hK.out _ _ hS.out (fun hHeld => ?_))
                  clear hK K
                  try simp only [Act.put, List.setIfInBounds_toArray, List.set_cons_zero, List.set_cons_succ]
                  refine wpAnyH_ready (rs := [5]) (by kernel_rfl) (by simp) ?_
                  refine AllReadyH.cons rfl (fun K hK => ?_) AllReadyH.nil
                  go_simp
                  have hb : Below X12.heap.size X12 (X12.alloc (.cells #[.slice none 0 0, .slice none 0 0] 25)) := (Below.refl _ _).alloc (Nat.le_refl _) _
                  have hB : Blk2 (X12.alloc (.cells #[.slice none 0 0, .slice none 0 0] 25)) X12.heap.size (.slice none 0 0) (.slice none 0 0) := blk_new _ _ _
                  have hk6 : Hid (W0.heap.size ≤ X12.heap.size) := (KT.bel hS.out).size
                  have hne : Hid (b5 ≠ X12.heap.size) := Nat.ne_of_lt hB5.out.lt
                  replace hS := Lib.hid (KT.below hS.out hb)
                  replace gv1 := Lib.hid (gv1.out.below hb)
                  replace gw1 := Lib.hid (gw1.out.below hb)
                  replace hB5 := Lib.hid (hB5.out.below hb)
                  replace gv2 := Lib.hid (gv2.out.below hb)
                  replace gw2 := Lib.hid (gw2.out.below hb)
                  generalize X12.alloc (.cells #[.slice none 0 0, .slice none 0 0] 25) = X13 at hb hB hS gv1 gw1 hB5 gv2 gw2 ⊢
                  generalize X12.heap.size = b6 at hB hk6 hne ⊢
                  have hB6 := Lib.hid hB
                  clear hb hB
                  first
                    | refine hK.out _ _ hS.out (fun hHeld => ?_)
                    | (go_wp2_with fail
                       refine hK.out _ _ hS.out (fun hHeld => ?_))
                  clear hK K
                  try simp only [Act.put, List.setIfInBounds_toArray, List.set_cons_zero, List.set_cons_succ]
                  refine wpAnyH_ready (rs := [6]) (by kernel_rfl) (by simp) ?_
                  refine AllReadyH.cons rfl (fun K hK => ?_) AllReadyH.nil
                  have c0 := hB5.out.cell0
                  have c1 := hB5.out.cell1
                  have f0 := hB5.out.frozen 0
                  have f1 := hB5.out.frozen 1
                  go_simp
                  clear c0 c1 f0 f1
                  replace hS := Lib.hid (KT.store (KT.store hS.out hk5.out (o := 0) (.slice A1 vs.length n1)) hk5.out (o := 1) (.slice B1 ls.length k1))
                  replace gv1 := Lib.hid (Holds.set2 gv1.out hB5.out (by intro z; simp) (by intro z; simp) (x' := .slice A1 vs.length n1) (y' := .slice B1 ls.length k1))
                  replace gw1 := Lib.hid (Holds.set2 gw1.out hB5.out (by intro z; simp) (by intro z; simp) (x' := .slice A1 vs.length n1) (y' := .slice B1 ls.length k1))
                  replace gv2 := Lib.hid (Holds.set2 gv2.out hB5.out (by intro z; simp) (by intro z; simp) (x' := .slice A1 vs.length n1) (y' := .slice B1 ls.length k1))
                  replace gw2 := Lib.hid (Holds.set2 gw2.out hB5.out (by intro z; simp) (by intro z; simp) (x' := .slice A1 vs.length n1) (y' := .slice B1 ls.length k1))
                  replace hB6 := Lib.hid (((hB6.out).other (Ne.symm hne.out) 0 (.slice A1 vs.length n1)).other (Ne.symm hne.out) 1 (.slice B1 ls.length k1))
                  replace hB5 := Lib.hid ((hB5.out).set (.slice A1 vs.length n1) (.slice B1 ls.length k1))
                  generalize ((X13.setCell ⟨b5, 0, none⟩ (.slice A1 vs.length n1)).setCell ⟨b5, 1, none⟩ (.slice B1 ls.length k1)) = X14 at hS gv1 gw1 gv2 gw2 hB5 hB6 ⊢
                  first
                    | refine hK.out _ _ hS.out (fun hHeld => ?_)
                    | (go_wp2_with fail
                       refine hK.out _ _ hS.out (fun hHeld => ?_))
                  clear hK K
                  try simp only [Act.put, List.setIfInBounds_toArray, List.set_cons_zero, List.set_cons_succ]
                  refine wpAnyH_ready (rs := [7]) (by kernel_rfl) (by simp) ?_
                  refine AllReadyH.cons rfl (fun K hK => ?_) AllReadyH.nil
                  have c0 := hB6.out.cell0
                  have c1 := hB6.out.cell1
                  have f0 := hB6.out.frozen 0
                  have f1 := hB6.out.frozen 1
                  go_simp
                  clear c0 c1 f0 f1
                  replace hS := Lib.hid (KT.store (KT.store hS.out hk6.out (o := 0) (.slice A2 vsp.length n2)) hk6.out (o := 1) (.slice B2 lsp.length k2))
                  replace gv1 := Lib.hid (Holds.set2 gv1.out hB6.out (by intro z; simp) (by intro z; simp) (x' := .slice A2 vsp.length n2) (y' := .slice B2 lsp.length k2))
                  replace gw1 := Lib.hid (Holds.set2 gw1.out hB6.out (by intro z; simp) (by intro z; simp) (x' := .slice A2 vsp.length n2) (y' := .slice B2 lsp.length k2))
                  replace gv2 := Lib.hid (Holds.set2 gv2.out hB6.out (by intro z; simp) (by intro z; simp) (x' := .slice A2 vsp.length n2) (y' := .slice B2 lsp.length k2))
                  replace gw2 := Lib.hid (Holds.set2 gw2.out hB6.out (by intro z; simp) (by intro z; simp) (x' := .slice A2 vsp.length n2) (y' := .slice B2 lsp.length k2))
                  replace hB5 := Lib.hid (((hB5.out).other hne.out 0 (.slice A2 vsp.length n2)).other hne.out 1 (.slice B2 lsp.length k2))
                  replace hB6 := Lib.hid ((hB6.out).set (.slice A2 vsp.length n2) (.slice B2 lsp.length k2))
                  generalize ((X14.setCell ⟨b6, 0, none⟩ (.slice A2 vsp.length n2)).setCell ⟨b6, 1, none⟩ (.slice B2 lsp.length k2)) = X15 at hS gv1 gw1 gv2 gw2 hB5 hB6 ⊢
                  first
                    | refine hK.out _ _ hS.out (fun hHeld => ?_)
                    | (go_wp2_with fail
                       refine hK.out _ _ hS.out (fun hHeld => ?_))
                  clear hK K
                  try simp only [Act.put, List.setIfInBounds_toArray, List.set_cons_zero, List.set_cons_succ]
                  refine wpAnyH_done (by kernel_rfl) ?_ _
                  clear hHeld
                  go_wp2_with fail
                  go_meet
                  exact ⟨b5, b6, A1, n1, B1, k1, A2, n2, B2, k2, rfl, rfl, hB5.out, hB6.out, gv1.out, gw1.out, gv2.out, gw2.out, hk5.out, hk6.out, KT.bel hS.out⟩
                · go_simp
                  have hb : Below X11.heap.size X11 (X11.alloc (.cells #[.slice none 0 0, .slice none 0 0] 25)) := (Below.refl _ _).alloc (Nat.le_refl _) _
                  have hB : Blk2 (X11.alloc (.cells #[.slice none 0 0, .slice none 0 0] 25)) X11.heap.size (.slice none 0 0) (.slice none 0 0) := blk_new _ _ _
                  have hk6 : Hid (W0.heap.size ≤ X11.heap.size) := (KT.bel hS.out).size
                  have hne : Hid (b5 ≠ X11.heap.size) := Nat.ne_of_lt hB5.out.lt
                  replace hS := Lib.hid (KT.below hS.out hb)
                  replace gv1 := Lib.hid (gv1.out.below hb)
                  replace gw1 := Lib.hid (gw1.out.below hb)
                  replace hB5 := Lib.hid (hB5.out.below hb)
                  generalize X11.alloc (.cells #[.slice none 0 0, .slice none 0 0] 25) = X16 at hb hB hS gv1 gw1 hB5 ⊢
                  generalize X11.heap.size = b6 at hB hk6 hne ⊢
                  have hB6 := Lib.hid hB
                  clear hb hB
                  first
                    | refine hK.out _ _ hS.out (fun hHeld => ?_)
                    | (go_wp2_with fail
                       refine hK.out _ _ hS.out (fun hHeld => ?_))
                  clear hK K
                  try simp only [Act.put, List.setIfInBounds_toArray, List.set_cons_zero, List.set_cons_succ]
                  refine wpAnyH_ready (rs := [3]) (by kernel_rfl) (by simp) ?_
                  refine AllReadyH.cons rfl (fun K hK => ?_) AllReadyH.nil
                  go_simp
                  refine (HO2.out _ (HX.out _ (KT.bel hS.out)).2).mono ?_
                  rintro e X17 ⟨⟨A2, n2, B2, k2, rfl, hv, hw⟩, hb⟩
                  replace hS := Lib.hid (KT.below hS.out hb)
                  replace gv1 := Lib.hid (gv1.out.below hb)
                  replace gw1 := Lib.hid (gw1.out.below hb)
                  replace hB5 := Lib.hid (hB5.out.below hb)
                  replace hB6 := Lib.hid (hB6.out.below hb)
                  have gv2 := Lib.hid hv.holds
                  have gw2 := Lib.hid hw.holds
                  clear hv hw hb
                  first
                    | refine hK.out _ _ hS.out (fun hHeld => ?_)
                    | (go_wp2_with fail
                       refine hK.out _ _ hS.out (fun hHeld => ?_))
                  clear hK K
                  try simp only [Act.put, List.setIfInBounds_toArray, List.set_cons_zero, List.set_cons_succ]
                  refine wpAnyH_ready (rs := [6]) (by kernel_rfl) (by simp) ?_
                  refine AllReadyH.cons rfl (fun K hK => ?_) AllReadyH.nil
                  have c0 := hB5.out.cell0
                  have c1 := hB5.out.cell1
                  have f0 := hB5.out.frozen 0
                  have f1 := hB5.out.frozen 1
                  go_simp
                  clear c0 c1 f0 f1
                  replace hS := Lib.hid (KT.store (KT.store hS.out hk5.out (o := 0) (.slice A1 vs.length n1)) hk5.out (o := 1) (.slice B1 ls.length k1))
                  replace gv1 := Lib.hid (Holds.set2 gv1.out hB5.out (by intro z; simp) (by intro z; simp) (x' := .slice A1 vs.length n1) (y' := .slice B1 ls.length k1))
                  replace gw1 := Lib.hid (Holds.set2 gw1.out hB5.out (by intro z; simp) (by intro z; simp) (x' := .slice A1 vs.length n1) (y' := .slice B1 ls.length k1))
                  replace gv2 := Lib.hid (Holds.set2 gv2.out hB5.out (by intro z; simp) (by intro z; simp) (x' := .slice A1 vs.length n1) (y' := .slice B1 ls.length k1))
                  replace gw2 := Lib.hid (Holds.set2 gw2.out hB5.out (by intro z; simp) (by intro z; simp) (x' := .slice A1 vs.length n1) (y' := .slice B1 ls.length k1))
                  replace hB6 := Lib.hid (((hB6.out).other (Ne.symm hne.out) 0 (.slice A1 vs.length n1)).other (Ne.symm hne.out) 1 (.slice B1 ls.length k1))
                  replace hB5 := Lib.hid ((hB5.out).set (.slice A1 vs.length n1) (.slice B1 ls.length k1))
                  generalize ((X17.setCell ⟨b5, 0, none⟩ (.slice A1 vs.length n1)).setCell ⟨b5, 1, none⟩ (.slice B1 ls.length k1)) = X18 at hS gv1 gw1 gv2 gw2 hB5 hB6 ⊢
                  first
                    | refine hK.out _ _ hS.out (fun hHeld => ?_)
                    | (go_wp2_with fail
                       refine hK.out _ _ hS.out (fun hHeld => ?_))
                  clear hK K
                  try simp only [Act.put, List.setIfInBounds_toArray, List.set_cons_zero, List.set_cons_succ]
                  refine wpAnyH_ready (rs := [7]) (by kernel_rfl) (by simp) ?_
                  refine AllReadyH.cons rfl (fun K hK => ?_) AllReadyH.nil
                  have c0 := hB6.out.cell0
                  have c1 := hB6.out.cell1
                  have f0 := hB6.out.frozen 0
                  have f1 := hB6.out.frozen 1
                  go_simp
                  clear c0 c1 f0 f1
                  replace hS := Lib.hid (KT.store (KT.store hS.out hk6.out (o := 0) (.slice A2 vsp.length n2)) hk6.out (o := 1) (.slice B2 lsp.length k2))
                  replace gv1 := Lib.hid (Holds.set2 gv1.out hB6.out (by intro z; simp) (by intro z; simp) (x' := .slice A2 vsp.length n2) (y' := .slice B2 lsp.length k2))
                  replace gw1 := Lib.hid (Holds.set2 gw1.out hB6.out (by intro z; simp) (by intro z; simp) (x' := .slice A2 vsp.length n2) (y' := .slice B2 lsp.length k2))
                  replace gv2 := Lib.hid (Holds.set2 gv2.out hB6.out (by intro z; simp) (by intro z; simp) (x' := .slice A2 vsp.length n2) (y' := .slice B2 lsp.length k2))
                  replace gw2 := Lib.hid (Holds.set2 gw2.out hB6.out (by intro z; simp) (by intro z; simp) (x' := .slice A2 vsp.length n2) (y' := .slice B2 lsp.length k2))
                  replace hB5 := Lib.hid (((hB5.out).other hne.out 0 (.slice A2 vsp.length n2)).other hne.out 1 (.slice B2 lsp.length k2))
                  replace hB6 := Lib.hid ((hB6.out).set (.slice A2 vsp.length n2) (.slice B2 lsp.length k2))
                  generalize ((X18.setCell ⟨b6, 0, none⟩ (.slice A2 vsp.length n2)).setCell ⟨b6, 1, none⟩ (.slice B2 lsp.length k2)) = X19 at hS gv1 gw1 gv2 gw2 hB5 hB6 ⊢
                  first
                    | refine hK.out _ _ hS.out (fun hHeld => ?_)
                    | (go_wp2_with fail
                       refine hK.out _ _ hS.out (fun hHeld => ?_))
                  clear hK K
                  try simp only [Act.put, List.setIfInBounds_toArray, List.set_cons_zero, List.set_cons_succ]
                  refine wpAnyH_done (by kernel_rfl) ?_ _
                  clear hHeld
                  go_wp2_with fail
                  go_meet
                  exact ⟨b5, b6, A1, n1, B1, k1, A2, n2, B2, k2, rfl, rfl, hB5.out, hB6.out, gv1.out, gw1.out, gv2.out, gw2.out, hk5.out, hk6.out, KT.bel hS.out⟩
              · go_simp
                have hb : Below X1.heap.size X1 (X1.alloc (.cells #[.slice none 0 0, .slice none 0 0] 25)) := (Below.refl _ _).alloc (Nat.le_refl _) _
                have hB : Blk2 (X1.alloc (.cells #[.slice none 0 0, .slice none 0 0] 25)) X1.heap.size (.slice none 0 0) (.slice none 0 0) := blk_new _ _ _
                have hk6 : Hid (W0.heap.size ≤ X1.heap.size) := (KT.bel hS.out).size
                replace hS := Lib.hid (KT.below hS.out hb)
                replace gv1 := Lib.hid (gv1.out.below hb)
                replace gw1 := Lib.hid (gw1.out.below hb)
                generalize X1.alloc (.cells #[.slice none 0 0, .slice none 0 0] 25) = X20 at hb hB hS gv1 gw1 ⊢
                generalize X1.heap.size = b6 at hB hk6  ⊢
                have hB6 := Lib.hid hB
                clear hb hB
                first
                  | refine hK.out _ _ hS.out (fun hHeld => ?_)
                  | (go_wp2_with fail
                     refine hK.out _ _ hS.out (fun hHeld => ?_))
                clear hK K
                try simp only [Act.put, List.setIfInBounds_toArray, List.set_cons_zero, List.set_cons_succ]
                refine wpAnyH_ready (rs := [3, 4]) (by kernel_rfl) (by simp) ?_
                refine AllReadyH.cons rfl (fun K hK => ?_) (AllReadyH.cons rfl (fun K hK => ?_) AllReadyH.nil)
                · go_simp
                  refine (HO2.out _ (HX.out _ (KT.bel hS.out)).2).mono ?_
                  rintro e X21 ⟨⟨A2, n2, B2, k2, rfl, hv, hw⟩, hb⟩
                  replace hS := Lib.hid (KT.below hS.out hb)
                  replace gv1 := Lib.hid (gv1.out.below hb)
                  replace gw1 := Lib.hid (gw1.out.below hb)
                  replace hB6 := Lib.hid (hB6.out.below hb)
                  have gv2 := Lib.hid hv.holds
                  have gw2 := Lib.hid hw.holds
                  clear hv hw hb
                  first
                    | refine hK.out _ _ hS.out (fun hHeld => ?_)
                    | (go_wp2_with fail
                       refine hK.out _ _ hS.out (fun hHeld => ?_))
                  clear hK K
                  try simp only [Act.put, List.setIfInBounds_toArray, List.set_cons_zero, List.set_cons_succ]
                  refine wpAnyH_ready (rs := [4]) (by kernel_rfl) (by simp) ?_
                  refine AllReadyH.cons rfl (fun K hK => ?_) AllReadyH.nil
                  go_simp
                  have hb : Below X21.heap.size X21 (X21.alloc (.cells #[.slice none 0 0, .slice none 0 0] 25)) := (Below.refl _ _).alloc (Nat.le_refl _) _
                  have hB : Blk2 (X21.alloc (.cells #[.slice none 0 0, .slice none 0 0] 25)) X21.heap.size (.slice none 0 0) (.slice none 0 0) := blk_new _ _ _
                  have hk5 : Hid (W0.heap.size ≤ X21.heap.size) := (KT.bel hS.out).size
                  have hne : Hid (b6 ≠ X21.heap.size) := Nat.ne_of_lt hB6.out.lt
                  replace hS := Lib.hid (KT.below hS.out hb)
                  replace gv1 := Lib.hid (gv1.out.below hb)
                  replace gw1 := Lib.hid (gw1.out.below hb)
                  replace hB6 := Lib.hid (hB6.out.below hb)
                  replace gv2 := Lib.hid (gv2.out.below hb)
                  replace gw2 := Lib.hid (gw2.out.below hb)
                  generalize X21.alloc (.cells #[.slice none 0 0, .slice none 0 0] 25) = X22 at hb hB hS gv1 gw1 hB6 gv2 gw2 ⊢
                  generalize X21.heap.size = b5 at hB hk5 hne ⊢
                  have hB5 := Lib.hid hB
                  clear hb hB
                  first
                    | refine hK.out _ _ hS.out (fun hHeld => ?_)
                    | (go_wp2_with fail
                       refine hK.out _ _ hS.out (fun hHeld => ?_))
                  clear hK K
                  try simp only [Act.put, List.setIfInBounds_toArray, List.set_cons_zero, List.set_cons_succ]
                  refine wpAnyH_ready (rs := [6]) (by kernel_rfl) (by simp) ?_
                  refine AllReadyH.cons rfl (fun K hK => ?_) AllReadyH.nil
                  have c0 := hB5.out.cell0
                  have c1 := hB5.out.cell1
                  have f0 := hB5.out.frozen 0
                  have f1 := hB5.out.frozen 1
                  go_simp
                  clear c0 c1 f0 f1
                  replace hS := Lib.hid (KT.store (KT.store hS.out hk5.out (o := 0) (.slice A1 vs.length n1)) hk5.out (o := 1) (.slice B1 ls.length k1))
                  replace gv1 := Lib.hid (Holds.set2 gv1.out hB5.out (by intro z; simp) (by intro z; simp) (x' := .slice A1 vs.length n1) (y' := .slice B1 ls.length k1))
                  replace gw1 := Lib.hid (Holds.set2 gw1.out hB5.out (by intro z; simp) (by intro z; simp) (x' := .slice A1 vs.length n1) (y' := .slice B1 ls.length k1))
                  replace gv2 := Lib.hid (Holds.set2 gv2.out hB5.out (by intro z; simp) (by intro z; simp) (x' := .slice A1 vs.length n1) (y' := .slice B1 ls.length k1))
                  replace gw2 := Lib.hid (Holds.set2 gw2.out hB5.out (by intro z; simp) (by intro z; simp) (x' := .slice A1 vs.length n1) (y' := .slice B1 ls.length k1))
                  replace hB6 := Lib.hid (((hB6.out).other hne.out 0 (.slice A1 vs.length n1)).other hne.out 1 (.slice B1 ls.length k1))
                  replace hB5 := Lib.hid ((hB5.out).set (.slice A1 vs.length n1) (.slice B1 ls.length k1))
                  generalize ((X22.setCell ⟨b5, 0, none⟩ (.slice A1 vs.length n1)).setCell ⟨b5, 1, none⟩ (.slice B1 ls.length k1)) = X23 at hS gv1 gw1 gv2 gw2 hB5 hB6 ⊢
                  first
                    | refine hK.out _ _ hS.out (fun hHeld => ?_)
                    | (go_wp2_with fail
                       refine hK.out _ _ hS.out (fun hHeld => ?_))
                  clear hK K
                  try simp only [Act.put, List.setIfInBounds_toArray, List.set_cons_zero, List.set_cons_succ]
                  refine wpAnyH_ready (rs := [7]) (by kernel_rfl) (by simp) ?_
                  refine AllReadyH.cons rfl (fun K hK => ?_) AllReadyH.nil
                  have c0 := hB6.out.cell0
                  have c1 := hB6.out.cell1
                  have f0 := hB6.out.frozen 0
                  have f1 := hB6.out.frozen 1
                  go_simp
                  clear c0 c1 f0 f1
                  replace hS := Lib.hid (KT.store (KT.store hS.out hk6.out (o := 0) (.slice A2 vsp.length n2)) hk6.out (o := 1) (.slice B2 lsp.length k2))
                  replace gv1 := Lib.hid (Holds.set2 gv1.out hB6.out (by intro z; simp) (by intro z; simp) (x' := .slice A2 vsp.length n2) (y' := .slice B2 lsp.length k2))
                  replace gw1 := Lib.hid (Holds.set2 gw1.out hB6.out (by intro z; simp) (by intro z; simp) (x' := .slice A2 vsp.length n2) (y' := .slice B2 lsp.length k2))
                  replace gv2 := Lib.hid (Holds.set2 gv2.out hB6.out (by intro z; simp) (by intro z; simp) (x' := .slice A2 vsp.length n2) (y' := .slice B2 lsp.length k2))
                  replace gw2 := Lib.hid (Holds.set2 gw2.out hB6.out (by intro z; simp) (by intro z; simp) (x' := .slice A2 vsp.length n2) (y' := .slice B2 lsp.length k2))
                  replace hB5 := Lib.hid (((hB5.out).other (Ne.symm hne.out) 0 (.slice A2 vsp.length n2)).other (Ne.symm hne.out) 1 (.slice B2 lsp.length k2))
                  replace hB6 := Lib.hid ((hB6.out).set (.slice A2 vsp.length n2) (.slice B2 lsp.length k2))
                  generalize ((X23.setCell ⟨b6, 0, none⟩ (.slice A2 vsp.length n2)).setCell ⟨b6, 1, none⟩ (.slice B2 lsp.length k2)) = X24 at hS gv1 gw1 gv2 gw2 hB5 hB6 ⊢
                  first
                    | refine hK.out _ _ hS.out (fun hHeld => ?_)
                    | (go_wp2_with fail
                       refine hK.out _ _ hS.out (fun hHeld => ?_))
                  clear hK K
                  try simp only [Act.put, List.setIfInBounds_toArray, List.set_cons_zero, List.set_cons_succ]
                  refine wpAnyH_done (by kernel_rfl) ?_ _
                  clear hHeld
                  go_wp2_with fail
                  go_meet
                  exact ⟨b5, b6, A1, n1, B1, k1, A2, n2, B2, k2, rfl, rfl, hB5.out, hB6.out, gv1.out, gw1.out, gv2.out, gw2.out, hk5.out, hk6.out, KT.bel hS.out⟩
                · go_simp
                  have hb : Below X20.heap.size X20 (X20.alloc (.cells #[.slice none 0 0, .slice none 0 0] 25)) := (Below.refl _ _).alloc (Nat.le_refl _) _
                  have hB : Blk2 (X20.alloc (.cells #[.slice none 0 0, .slice none 0 0] 25)) X20.heap.size (.slice none 0 0) (.slice none 0 0) := blk_new _ _ _
                  have hk5 : Hid (W0.heap.size ≤ X20.heap.size) := (KT.bel hS.out).size
                  have hne : Hid (b6 ≠ X20.heap.size) := Nat.ne_of_lt hB6.out.lt
                  replace hS := Lib.hid (KT.below hS.out hb)
                  replace gv1 := Lib.hid (gv1.out.below hb)
                  replace gw1 := Lib.hid (gw1.out.below hb)
                  replace hB6 := Lib.hid (hB6.out.below hb)
                  generalize X20.alloc (.cells #[.slice none 0 0, .slice none 0 0] 25) = X25 at hb hB hS gv1 gw1 hB6 ⊢
                  generalize X20.heap.size = b5 at hB hk5 hne ⊢
                  have hB5 := Lib.hid hB
                  clear hb hB
                  first
                    | refine hK.out _ _ hS.out (fun hHeld => ?_)
                    | (go_wp2_with fail
                       refine hK.out _ _ hS.out (fun hHeld => ?_))
                  clear hK K
                  try simp only [Act.put, List.setIfInBounds_toArray, List.set_cons_zero, List.set_cons_succ]
                  refine wpAnyH_ready (rs := [3]) (by kernel_rfl) (by simp) ?_
                  refine AllReadyH.cons rfl (fun K hK => ?_) AllReadyH.nil
                  go_simp
                  refine (HO2.out _ (HX.out _ (KT.bel hS.out)).2).mono ?_
                  rintro e X26 ⟨⟨A2, n2, B2, k2, rfl, hv, hw⟩, hb⟩
                  replace hS := Lib.hid (KT.below hS.out hb)
                  replace gv1 := Lib.hid (gv1.out.below hb)
                  replace gw1 := Lib.hid (gw1.out.below hb)
                  replace hB6 := Lib.hid (hB6.out.below hb)
                  replace hB5 := Lib.hid (hB5.out.below hb)
                  have gv2 := Lib.hid hv.holds
                  have gw2 := Lib.hid hw.holds
                  clear hv hw hb
                  first
                    | refine hK.out _ _ hS.out (fun hHeld => ?_)
                    | (go_wp2_with fail
                       refine hK.out _ _ hS.out (fun hHeld => ?_))
                  clear hK K
                  try simp only [Act.put, List.setIfInBounds_toArray, List.set_cons_zero, List.set_cons_succ]
                  refine wpAnyH_ready (rs := [6]) (by kernel_rfl) (by simp) ?_
                  refine AllReadyH.cons rfl (fun K hK => ?_) AllReadyH.nil
                  have c0 := hB5.out.cell0
                  have c1 := hB5.out.cell1
                  have f0 := hB5.out.frozen 0
                  have f1 := hB5.out.frozen 1
                  go_simp
                  clear c0 c1 f0 f1
                  replace hS := Lib.hid (KT.store (KT.store hS.out hk5.out (o := 0) (.slice A1 vs.length n1)) hk5.out (o := 1) (.slice B1 ls.length k1))
                  replace gv1 := Lib.hid (Holds.set2 gv1.out hB5.out (by intro z; simp) (by intro z; simp) (x' := .slice A1 vs.length n1) (y' := .slice B1 ls.length k1))
                  replace gw1 := Lib.hid (Holds.set2 gw1.out hB5.out (by intro z; simp) (by intro z; simp) (x' := .slice A1 vs.length n1) (y' := .slice B1 ls.length k1))
                  replace gv2 := Lib.hid (Holds.set2 gv2.out hB5.out (by intro z; simp) (by intro z; simp) (x' := .slice A1 vs.length n1) (y' := .slice B1 ls.length k1))
                  replace gw2 := Lib.hid (Holds.set2 gw2.out hB5.out (by intro z; simp) (by intro z; simp) (x' := .slice A1 vs.length n1) (y' := .slice B1 ls.length k1))
                  replace hB6 := Lib.hid (((hB6.out).other hne.out 0 (.slice A1 vs.length n1)).other hne.out 1 (.slice B1 ls.length k1))
                  replace hB5 := Lib.hid ((hB5.out).set (.slice A1 vs.length n1) (.slice B1 ls.length k1))
                  generalize ((X26.setCell ⟨b5, 0, none⟩ (.slice A1 vs.length n1)).setCell ⟨b5, 1, none⟩ (.slice B1 ls.length k1)) = X27 at hS gv1 gw1 gv2 gw2 hB5 hB6 ⊢
                  first
                    | refine hK.out _ _ hS.out (fun hHeld => ?_)
                    | (go_wp2_with fail
                       refine hK.out _ _ hS.out (fun hHeld => ?_))
                  clear hK K
                  try simp only [Act.put, List.setIfInBounds_toArray, List.set_cons_zero, List.set_cons_succ]
                  refine wpAnyH_ready (rs := [7]) (by kernel_rfl) (by simp) ?_
                  refine AllReadyH.cons rfl (fun K hK => ?_) AllReadyH.nil
                  have c0 := hB6.out.cell0
                  have c1 := hB6.out.cell1
                  have f0 := hB6.out.frozen 0
                  have f1 := hB6.out.frozen 1
                  go_simp
                  clear c0 c1 f0 f1
                  replace hS := Lib.hid (KT.store (KT.store hS.out hk6.out (o := 0) (.slice A2 vsp.length n2)) hk6.out (o := 1) (.slice B2 lsp.length k2))
                  replace gv1 := Lib.hid (Holds.set2 gv1.out hB6.out (by intro z; simp) (by intro z; simp) (x' := .slice A2 vsp.length n2) (y' := .slice B2 lsp.length k2))
                  replace gw1 := Lib.hid (Holds.set2 gw1.out hB6.out (by intro z; simp) (by intro z; simp) (x' := .slice A2 vsp.length n2) (y' := .slice B2 lsp.length k2))
                  replace gv2 := Lib.hid (Holds.set2 gv2.out hB6.out (by intro z; simp) (by intro z; simp) (x' := .slice A2 vsp.length n2) (y' := .slice B2 lsp.length k2))
                  replace gw2 := Lib.hid (Holds.set2 gw2.out hB6.out (by intro z; simp) (by intro z; simp) (x' := .slice A2 vsp.length n2) (y' := .slice B2 lsp.length k2))
                  replace hB5 := Lib.hid (((hB5.out).other (Ne.symm hne.out) 0 (.slice A2 vsp.length n2)).other (Ne.symm hne.out) 1 (.slice B2 lsp.length k2))
                  replace hB6 := Lib.hid ((hB6.out).set (.slice A2 vsp.length n2) (.slice B2 lsp.length k2))
                  generalize ((X27.setCell ⟨b6, 0, none⟩ (.slice A2 vsp.length n2)).setCell ⟨b6, 1, none⟩ (.slice B2 lsp.length k2)) = X28 at hS gv1 gw1 gv2 gw2 hB5 hB6 ⊢
                  first
                    | refine hK.out _ _ hS.out (fun hHeld => ?_)
                    | (go_wp2_with fail
                       refine hK.out _ _ hS.out (fun hHeld => ?_))
                  clear hK K
                  try simp only [Act.put, List.setIfInBounds_toArray, List.set_cons_zero, List.set_cons_succ]
                  refine wpAnyH_done (by kernel_rfl) ?_ _
                  clear hHeld
                  go_wp2_with fail
                  go_meet
                  exact ⟨b5, b6, A1, n1, B1, k1, A2, n2, B2, k2, rfl, rfl, hB5.out, hB6.out, gv1.out, gw1.out, gv2.out, gw2.out, hk5.out, hk6.out, KT.bel hS.out⟩
            · go_simp
              have hb : Below X0.heap.size X0 (X0.alloc (.cells #[.slice none 0 0, .slice none 0 0] 25)) := (Below.refl _ _).alloc (Nat.le_refl _) _
              have hB : Blk2 (X0.alloc (.cells #[.slice none 0 0, .slice none 0 0] 25)) X0.heap.size (.slice none 0 0) (.slice none 0 0) := blk_new _ _ _
              have hk5 : Hid (W0.heap.size ≤ X0.heap.size) := (KT.bel hS.out).size
              replace hS := Lib.hid (KT.below hS.out hb)
              generalize X0.alloc (.cells #[.slice none 0 0, .slice none 0 0] 25) = X29 at hb hB hS  ⊢
              generalize X0.heap.size = b5 at hB hk5  ⊢
              have hB5 := Lib.hid hB
              clear hb hB
              first
                | refine hK.out _ _ hS.out (fun hHeld => ?_)
                | (go_wp2_with fail
                   refine hK.out _ _ hS.out (fun hHeld => ?_))
              clear hK K
              try simp only [Act.put, List.setIfInBounds_toArray, List.set_cons_zero, List.set_cons_succ]
              refine wpAnyH_ready (rs := [1, 5]) (by kernel_rfl) (by simp) ?_
              refine AllReadyH.cons rfl (fun K hK => ?_) (AllReadyH.cons rfl (fun K hK => ?_) AllReadyH.nil)
              · go_simp
                refine (HO1.out _ (HX.out _ (KT.bel hS.out)).1).mono ?_
                rintro e X30 ⟨⟨A1, n1, B1, k1, rfl, hv, hw⟩, hb⟩
                replace hS := Lib.hid (KT.below hS.out hb)
                replace hB5 := Lib.hid (hB5.out.below hb)
                have gv1 := Lib.hid hv.holds
                have gw1 := Lib.hid hw.holds
                clear hv hw hb
                first
                  | refine hK.out _ _ hS.out (fun hHeld => ?_)
                  | (go_wp2_with fail
                     refine hK.out _ _ hS.out (fun hHeld => ?_))
                clear hK K
                try simp only [Act.put, List.setIfInBounds_toArray, List.set_cons_zero, List.set_cons_succ]
                refine wpAnyH_ready (rs := [3, 5]) (by kernel_rfl) (by simp) ?_
                refine AllReadyH.cons rfl (fun K hK => ?_) (AllReadyH.cons rfl (fun K hK => ?_) AllReadyH.nil)
                · go_simp
                  refine (HO2.out _ (HX.out _ (KT.bel hS.out)).2).mono ?_
                  rintro e X31 ⟨⟨A2, n2, B2, k2, rfl, hv, hw⟩, hb⟩
                  replace hS := Lib.hid (KT.below hS.out hb)
                  replace hB5 := Lib.hid (hB5.out.below hb)
                  replace gv1 := Lib.hid (gv1.out.below hb)
                  replace gw1 := Lib.hid (gw1.out.below hb)
                  have gv2 := Lib.hid hv.holds
                  have gw2 := Lib.hid hw.holds
                  clear hv hw hb
                  first
                    | refine hK.out _ _ hS.out (fun hHeld => ?_)
                    | (go_wp2_with fail
                       refine hK.out _ _ hS.out (fun hHeld => ?_))
                  clear hK K
                  try simp only [Act.put, List.setIfInBounds_toArray, List.set_cons_zero, List.set_cons_succ]
                  refine wpAnyH_ready (rs := [5]) (by kernel_rfl) (by simp) ?_
                  refine AllReadyH.cons rfl (fun K hK => ?_) AllReadyH.nil
                  go_simp
                  have hb : Below X31.heap.size X31 (X31.alloc (.cells #[.slice none 0 0, .slice none 0 0] 25)) := (Below.refl _ _).alloc (Nat.le_refl _) _
                  have hB : Blk2 (X31.alloc (.cells #[.slice none 0 0, .slice none 0 0] 25)) X31.heap.size (.slice none 0 0) (.slice none 0 0) := blk_new _ _ _
                  have hk6 : Hid (W0.heap.size ≤ X31.heap.size) := (KT.bel hS.out).size
                  have hne : Hid (b5 ≠ X31.heap.size) := Nat.ne_of_lt hB5.out.lt
                  replace hS := Lib.hid (KT.below hS.out hb)
                  replace hB5 := Lib.hid (hB5.out.below hb)
                  replace gv1 := Lib.hid (gv1.out.below hb)
                  replace gw1 := Lib.hid (gw1.out.below hb)
                  replace gv2 := Lib.hid (gv2.out.below hb)
                  replace gw2 := Lib.hid (gw2.out.below hb)
                  generalize X31.alloc (.cells #[.slice none 0 0, .slice none 0 0] 25) = X32 at hb hB hS hB5 gv1 gw1 gv2 gw2 ⊢
                  generalize X31.heap.size = b6 at hB hk6 hne ⊢
                  have hB6 := Lib.hid hB
                  clear hb hB
                  first
                    | refine hK.out _ _ hS.out (fun hHeld => ?_)
                    | (go_wp2_with fail
                       refine hK.out _ _ hS.out (fun hHeld => ?_))
                  clear hK K
                  try simp only [Act.put, List.setIfInBounds_toArray, List.set_cons_zero, List.set_cons_succ]
                  refine wpAnyH_ready (rs := [6]) (by kernel_rfl) (by simp) ?_
                  refine AllReadyH.cons rfl (fun K hK => ?_) AllReadyH.nil
                  have c0 := hB5.out.cell0
                  have c1 := hB5.out.cell1
                  have f0 := hB5.out.frozen 0
                  have f1 := hB5.out.frozen 1
                  go_simp
                  clear c0 c1 f0 f1
                  replace hS := Lib.hid (KT.store (KT.store hS.out hk5.out (o := 0) (.slice A1 vs.length n1)) hk5.out (o := 1) (.slice B1 ls.length k1))
                  replace gv1 := Lib.hid (Holds.set2 gv1.out hB5.out (by intro z; simp) (by intro z; simp) (x' := .slice A1 vs.length n1) (y' := .slice B1 ls.length k1))
                  replace gw1 := Lib.hid (Holds.set2 gw1.out hB5.out (by intro z; simp) (by intro z; simp) (x' := .slice A1 vs.length n1) (y' := .slice B1 ls.length k1))
                  replace gv2 := Lib.hid (Holds.set2 gv2.out hB5.out (by intro z; simp) (by intro z; simp) (x' := .slice A1 vs.length n1) (y' := .slice B1 ls.length k1))
                  replace gw2 := Lib.hid (Holds.set2 gw2.out hB5.out (by intro z; simp) (by intro z; simp) (x' := .slice A1 vs.length n1) (y' := .slice B1 ls.length k1))
                  replace hB6 := Lib.hid (((hB6.out).other (Ne.symm hne.out) 0 (.slice A1 vs.length n1)).other (Ne.symm hne.out) 1 (.slice B1 ls.length k1))
                  replace hB5 := Lib.hid ((hB5.out).set (.slice A1 vs.length n1) (.slice B1 ls.length k1))
                  generalize ((X32.setCell ⟨b5, 0, none⟩ (.slice A1 vs.length n1)).setCell ⟨b5, 1, none⟩ (.slice B1 ls.length k1)) = X33 at hS gv1 gw1 gv2 gw2 hB5 hB6 ⊢
                  first
                    | refine hK.out _ _ hS.out (fun hHeld => ?_)
                    | (go_wp2_with fail
                       refine hK.out _ _ hS.out (fun hHeld => ?_))
                  clear hK K
                  try simp only [Act.put, List.setIfInBounds_toArray, List.set_cons_zero, List.set_cons_succ]
                  refine wpAnyH_ready (rs := [7]) (by kernel_rfl) (by simp) ?_
                  refine AllReadyH.cons rfl (fun K hK => ?_) AllReadyH.nil
                  have c0 := hB6.out.cell0
                  have c1 := hB6.out.cell1
                  have f0 := hB6.out.frozen 0
                  have f1 := hB6.out.frozen 1
                  go_simp
                  clear c0 c1 f0 f1
                  replace hS := Lib.hid (KT.store (KT.store hS.out hk6.out (o := 0) (.slice A2 vsp.length n2)) hk6.out (o := 1) (.slice B2 lsp.length k2))
                  replace gv1 := Lib.hid (Holds.set2 gv1.out hB6.out (by intro z; simp) (by intro z; simp) (x' := .slice A2 vsp.length n2) (y' := .slice B2 lsp.length k2))
                  replace gw1 := Lib.hid (Holds.set2 gw1.out hB6.out (by intro z; simp) (by intro z; simp) (x' := .slice A2 vsp.length n2) (y' := .slice B2 lsp.length k2))
                  replace gv2 := Lib.hid (Holds.set2 gv2.out hB6.out (by intro z; simp) (by intro z; simp) (x' := .slice A2 vsp.length n2) (y' := .slice B2 lsp.length k2))
                  replace gw2 := Lib.hid (Holds.set2 gw2.out hB6.out (by intro z; simp) (by intro z; simp) (x' := .slice A2 vsp.length n2) (y' := .slice B2 lsp.length k2))
                  replace hB5 := Lib.hid (((hB5.out).other hne.out 0 (.slice A2 vsp.length n2)).other hne.out 1 (.slice B2 lsp.length k2))
                  replace hB6 := Lib.hid ((hB6.out).set (.slice A2 vsp.length n2) (.slice B2 lsp.length k2))
                  generalize ((X33.setCell ⟨b6, 0, none⟩ (.slice A2 vsp.length n2)).setCell ⟨b6, 1, none⟩ (.slice B2 lsp.length k2)) = X34 at hS gv1 gw1 gv2 gw2 hB5 hB6 ⊢
                  first
                    | refine hK.out _ _ hS.out (fun hHeld => ?_)
                    | (go_wp2_with fail
                       refine hK.out _ _ hS.out (fun hHeld => ?_))
                  clear hK K
                  try simp only [Act.put, List.setIfInBounds_toArray, List.set_cons_zero, List.set_cons_succ]
                  refine wpAnyH_done (by kernel_rfl) ?_ _
                  clear hHeld
                  go_wp2_with fail
                  go_meet
                  exact ⟨b5, b6, A1, n1, B1, k1, A2, n2, B2, k2, rfl, rfl, hB5.out, hB6.out, gv1.out, gw1.out, gv2.out, gw2.out, hk5.out, hk6.out, KT.bel hS.out⟩
                · go_simp
                  have hb : Below X30.heap.size X30 (X30.alloc (.cells #[.slice none 0 0, .slice none 0 0] 25)) := (Below.refl _ _).alloc (Nat.le_refl _) _
                  have hB : Blk2 (X30.alloc (.cells #[.slice none 0 0, .slice none 0 0] 25)) X30.heap.size (.slice none 0 0) (.slice none 0 0) := blk_new _ _ _
                  have hk6 : Hid (W0.heap.size ≤ X30.heap.size) := (KT.bel hS.out).size
                  have hne : Hid (b5 ≠ X30.heap.size) := Nat.ne_of_lt hB5.out.lt
                  replace hS := Lib.hid (KT.below hS.out hb)
                  replace hB5 := Lib.hid (hB5.out.below hb)
                  replace gv1 := Lib.hid (gv1.out.below hb)
                  replace gw1 := Lib.hid (gw1.out.below hb)
                  generalize X30.alloc (.cells #[.slice none 0 0, .slice none 0 0] 25) = X35 at hb hB hS hB5 gv1 gw1 ⊢
                  generalize X30.heap.size = b6 at hB hk6 hne ⊢
                  have hB6 := Lib.hid hB
                  clear hb hB
                  first
                    | refine hK.out _ _ hS.out (fun hHeld => ?_)
                    | (go_wp2_with fail
                       refine hK.out _ _ hS.out (fun hHeld => ?_))
                  clear hK K
                  try simp only [Act.put, List.setIfInBounds_toArray, List.set_cons_zero, List.set_cons_succ]
                  refine wpAnyH_ready (rs := [3]) (by kernel_rfl) (by simp) ?_
                  refine AllReadyH.cons rfl (fun K hK => ?_) AllReadyH.nil
                  go_simp
                  refine (HO2.out _ (HX.out _ (KT.bel hS.out)).2).mono ?_
                  rintro e X36 ⟨⟨A2, n2, B2, k2, rfl, hv, hw⟩, hb⟩
                  replace hS := Lib.hid (KT.below hS.out hb)
                  replace hB5 := Lib.hid (hB5.out.below hb)
                  replace gv1 := Lib.hid (gv1.out.below hb)
                  replace gw1 := Lib.hid (gw1.out.below hb)
                  replace hB6 := Lib.hid (hB6.out.below hb)
                  have gv2 := Lib.hid hv.holds
                  have gw2 := Lib.hid hw.holds
                  clear hv hw hb
                  first
                    | refine hK.out _ _ hS.out (fun hHeld => ?_)
                    | (go_wp2_with fail
                       refine hK.out _ _ hS.out (fun hHeld => ?_))
                  clear hK K
                  try simp only [Act.put, List.setIfInBounds_toArray, List.set_cons_zero, List.set_cons_succ]
                  refine wpAnyH_ready (rs := [6]) (by kernel_rfl) (by simp) ?_
                  refine AllReadyH.cons rfl (fun K hK => ?_) AllReadyH.nil
                  have c0 := hB5.out.cell0
                  have c1 := hB5.out.cell1
                  have f0 := hB5.out.frozen 0
                  have f1 := hB5.out.frozen 1
                  go_simp
                  clear c0 c1 f0 f1
                  replace hS := Lib.hid (KT.store (KT.store hS.out hk5.out (o := 0) (.slice A1 vs.length n1)) hk5.out (o := 1) (.slice B1 ls.length k1))
                  replace gv1 := Lib.hid (Holds.set2 gv1.out hB5.out (by intro z; simp) (by intro z; simp) (x' := .slice A1 vs.length n1) (y' := .slice B1 ls.length k1))
                  replace gw1 := Lib.hid (Holds.set2 gw1.out hB5.out (by intro z; simp) (by intro z; simp) (x' := .slice A1 vs.length n1) (y' := .slice B1 ls.length k1))
                  replace gv2 := Lib.hid (Holds.set2 gv2.out hB5.out (by intro z; simp) (by intro z; simp) (x' := .slice A1 vs.length n1) (y' := .slice B1 ls.length k1))
                  replace gw2 := Lib.hid (Holds.set2 gw2.out hB5.out (by intro z; simp) (by intro z; simp) (x' := .slice A1 vs.length n1) (y' := .slice B1 ls.length k1))
                  replace hB6 := Lib.hid (((hB6.out).other (Ne.symm hne.out) 0 (.slice A1 vs.length n1)).other (Ne.symm hne.out) 1 (.slice B1 ls.length k1))
                  replace hB5 := Lib.hid ((hB5.out).set (.slice A1 vs.length n1) (.slice B1 ls.length k1))
                  generalize ((X36.setCell ⟨b5, 0, none⟩ (.slice A1 vs.length n1)).setCell ⟨b5, 1, none⟩ (.slice B1 ls.length k1)) = X37 at hS gv1 gw1 gv2 gw2 hB5 hB6 ⊢
                  first
                    | refine hK.out _ _ hS.out (fun hHeld => ?_)
                    | (go_wp2_with fail
                       refine hK.out _ _ hS.out (fun hHeld => ?_))
                  clear hK K
                  try simp only [Act.put, List.setIfInBounds_toArray, List.set_cons_zero, List.set_cons_succ]
                  refine wpAnyH_ready (rs := [7]) (by kernel_rfl) (by simp) ?_
                  refine AllReadyH.cons rfl (fun K hK => ?_) AllReadyH.nil
                  have c0 := hB6.out.cell0
                  have c1 := hB6.out.cell1
                  have f0 := hB6.out.frozen 0
                  have f1 := hB6.out.frozen 1
                  go_simp
                  clear c0 c1 f0 f1
                  replace hS := Lib.hid (KT.store (KT.store hS.out hk6.out (o := 0) (.slice A2 vsp.length n2)) hk6.out (o := 1) (.slice B2 lsp.length k2))
                  replace gv1 := Lib.hid (Holds.set2 gv1.out hB6.out (by intro z; simp) (by intro z; simp) (x' := .slice A2 vsp.length n2) (y' := .slice B2 lsp.length k2))
                  replace gw1 := Lib.hid (Holds.set2 gw1.out hB6.out (by intro z; simp) (by intro z; simp) (x' := .slice A2 vsp.length n2) (y' := .slice B2 lsp.length k2))
                  replace gv2 := Lib.hid (Holds.set2 gv2.out hB6.out (by intro z; simp) (by intro z; simp) (x' := .slice A2 vsp.length n2) (y' := .slice B2 lsp.length k2))
                  replace gw2 := Lib.hid (Holds.set2 gw2.out hB6.out (by intro z; simp) (by intro z; simp) (x' := .slice A2 vsp.length n2) (y' := .slice B2 lsp.length k2))
                  replace hB5 := Lib.hid (((hB5.out).other hne.out 0 (.slice A2 vsp.length n2)).other hne.out 1 (.slice B2 lsp.length k2))
                  replace hB6 := Lib.hid ((hB6.out).set (.slice A2 vsp.length n2) (.slice B2 lsp.length k2))
                  generalize ((X37.setCell ⟨b6, 0, none⟩ (.slice A2 vsp.length n2)).setCell ⟨b6, 1, none⟩ (.slice B2 lsp.length k2)) = X38 at hS gv1 gw1 gv2 gw2 hB5 hB6 ⊢
                  first
                    | refine hK.out _ _ hS.out (fun hHeld => ?_)
                    | (go_wp2_with fail
                       refine hK.out _ _ hS.out (fun hHeld => ?_))
                  clear hK K
                  try simp only [Act.put, List.setIfInBounds_toArray, List.set_cons_zero, List.set_cons_succ]
                  refine wpAnyH_done (by kernel_rfl) ?_ _
                  clear hHeld
                  go_wp2_with fail
                  go_meet
                  exact ⟨b5, b6, A1, n1, B1, k1, A2, n2, B2, k2, rfl, rfl, hB5.out, hB6.out, gv1.out, gw1.out, gv2.out, gw2.out, hk5.out, hk6.out, KT.bel hS.out⟩
              · go_simp
                have hb : Below X29.heap.size X29 (X29.alloc (.cells #[.slice none 0 0, .slice none 0 0] 25)) := (Below.refl _ _).alloc (Nat.le_refl _) _
                have hB : Blk2 (X29.alloc (.cells #[.slice none 0 0, .slice none 0 0] 25)) X29.heap.size (.slice none 0 0) (.slice none 0 0) := blk_new _ _ _
                have hk6 : Hid (W0.heap.size ≤ X29.heap.size) := (KT.bel hS.out).size
                have hne : Hid (b5 ≠ X29.heap.size) := Nat.ne_of_lt hB5.out.lt
                replace hS := Lib.hid (KT.below hS.out hb)
                replace hB5 := Lib.hid (hB5.out.below hb)
                generalize X29.alloc (.cells #[.slice none 0 0, .slice none 0 0] 25) = X39 at hb hB hS hB5 ⊢
                generalize X29.heap.size = b6 at hB hk6 hne ⊢
                have hB6 := Lib.hid hB
                clear hb hB
                first
                  | refine hK.out _ _ hS.out (fun hHeld => ?_)
                  | (go_wp2_with fail
                     refine hK.out _ _ hS.out (fun hHeld => ?_))
                clear hK K
                try simp only [Act.put, List.setIfInBounds_toArray, List.set_cons_zero, List.set_cons_succ]
                refine wpAnyH_ready (rs := [1]) (by kernel_rfl) (by simp) ?_
                refine AllReadyH.cons rfl (fun K hK => ?_) AllReadyH.nil
                go_simp
                refine (HO1.out _ (HX.out _ (KT.bel hS.out)).1).mono ?_
                rintro e X40 ⟨⟨A1, n1, B1, k1, rfl, hv, hw⟩, hb⟩
                replace hS := Lib.hid (KT.below hS.out hb)
                replace hB5 := Lib.hid (hB5.out.below hb)
                replace hB6 := Lib.hid (hB6.out.below hb)
                have gv1 := Lib.hid hv.holds
                have gw1 := Lib.hid hw.holds
                clear hv hw hb
                first
                  | refine hK.out _ _ hS.out (fun hHeld => ?_)
                  | (go_wp2_with fail
                     refine hK.out _ _ hS.out (fun hHeld => ?_))
                clear hK K
                try simp only [Act.put, List.setIfInBounds_toArray, List.set_cons_zero, List.set_cons_succ]
                refine wpAnyH_ready (rs := [3]) (by kernel_rfl) (by simp) ?_
                refine AllReadyH.cons rfl (fun K hK => ?_) AllReadyH.nil
                go_simp
                refine (HO2.out _ (HX.out _ (KT.bel hS.out)).2).mono ?_
                rintro e X41 ⟨⟨A2, n2, B2, k2, rfl, hv, hw⟩, hb⟩
                replace hS := Lib.hid (KT.below hS.out hb)
                replace hB5 := Lib.hid (hB5.out.below hb)
                replace hB6 := Lib.hid (hB6.out.below hb)
                replace gv1 := Lib.hid (gv1.out.below hb)
                replace gw1 := Lib.hid (gw1.out.below hb)
                have gv2 := Lib.hid hv.holds
                have gw2 := Lib.hid hw.holds
                clear hv hw hb
                first
                  | refine hK.out _ _ hS.out (fun hHeld => ?_)
                  | (go_wp2_with fail
                     refine hK.out _ _ hS.out (fun hHeld => ?_))
                clear hK K
                try simp only [Act.put, List.setIfInBounds_toArray, List.set_cons_zero, List.set_cons_succ]
                refine wpAnyH_ready (rs := [6]) (by kernel_rfl) (by simp) ?_
                refine AllReadyH.cons rfl (fun K hK => ?_) AllReadyH.nil
                have c0 := hB5.out.cell0
                have c1 := hB5.out.cell1
                have f0 := hB5.out.frozen 0
                have f1 := hB5.out.frozen 1
                go_simp
                clear c0 c1 f0 f1
                replace hS := Lib.hid (KT.store (KT.store hS.out hk5.out (o := 0) (.slice A1 vs.length n1)) hk5.out (o := 1) (.slice B1 ls.length k1))
                replace gv1 := Lib.hid (Holds.set2 gv1.out hB5.out (by intro z; simp) (by intro z; simp) (x' := .slice A1 vs.length n1) (y' := .slice B1 ls.length k1))
                replace gw1 := Lib.hid (Holds.set2 gw1.out hB5.out (by intro z; simp) (by intro z; simp) (x' := .slice A1 vs.length n1) (y' := .slice B1 ls.length k1))
                replace gv2 := Lib.hid (Holds.set2 gv2.out hB5.out (by intro z; simp) (by intro z; simp) (x' := .slice A1 vs.length n1) (y' := .slice B1 ls.length k1))
                replace gw2 := Lib.hid (Holds.set2 gw2.out hB5.out (by intro z; simp) (by intro z; simp) (x' := .slice A1 vs.length n1) (y' := .slice B1 ls.length k1))
                replace hB6 := Lib.hid (((hB6.out).other (Ne.symm hne.out) 0 (.slice A1 vs.length n1)).other (Ne.symm hne.out) 1 (.slice B1 ls.length k1))
                replace hB5 := Lib.hid ((hB5.out).set (.slice A1 vs.length n1) (.slice B1 ls.length k1))
                generalize ((X41.setCell ⟨b5, 0, none⟩ (.slice A1 vs.length n1)).setCell ⟨b5, 1, none⟩ (.slice B1 ls.length k1)) = X42 at hS gv1 gw1 gv2 gw2 hB5 hB6 ⊢
                first
                  | refine hK.out _ _ hS.out (fun hHeld => ?_)
                  | (go_wp2_with fail
                     refine hK.out _ _ hS.out (fun hHeld => ?_))
                clear hK K
                try simp only [Act.put, List.setIfInBounds_toArray, List.set_cons_zero, List.set_cons_succ]
                refine wpAnyH_ready (rs := [7]) (by kernel_rfl) (by simp) ?_
                refine AllReadyH.cons rfl (fun K hK => ?_) AllReadyH.nil
                have c0 := hB6.out.cell0
                have c1 := hB6.out.cell1
                have f0 := hB6.out.frozen 0
                have f1 := hB6.out.frozen 1
                go_simp
                clear c0 c1 f0 f1
                replace hS := Lib.hid (KT.store (KT.store hS.out hk6.out (o := 0) (.slice A2 vsp.length n2)) hk6.out (o := 1) (.slice B2 lsp.length k2))
                replace gv1 := Lib.hid (Holds.set2 gv1.out hB6.out (by intro z; simp) (by intro z; simp) (x' := .slice A2 vsp.length n2) (y' := .slice B2 lsp.length k2))
                replace gw1 := Lib.hid (Holds.set2 gw1.out hB6.out (by intro z; simp) (by intro z; simp) (x' := .slice A2 vsp.length n2) (y' := .slice B2 lsp.length k2))
                replace gv2 := Lib.hid (Holds.set2 gv2.out hB6.out (by intro z; simp) (by intro z; simp) (x' := .slice A2 vsp.length n2) (y' := .slice B2 lsp.length k2))
                replace gw2 := Lib.hid (Holds.set2 gw2.out hB6.out (by intro z; simp) (by intro z; simp) (x' := .slice A2 vsp.length n2) (y' := .slice B2 lsp.length k2))
                replace hB5 := Lib.hid (((hB5.out).other hne.out 0 (.slice A2 vsp.length n2)).other hne.out 1 (.slice B2 lsp.length k2))
                replace hB6 := Lib.hid ((hB6.out).set (.slice A2 vsp.length n2) (.slice B2 lsp.length k2))
                generalize ((X42.setCell ⟨b6, 0, none⟩ (.slice A2 vsp.length n2)).setCell ⟨b6, 1, none⟩ (.slice B2 lsp.length k2)) = X43 at hS gv1 gw1 gv2 gw2 hB5 hB6 ⊢
                first
                  | refine hK.out _ _ hS.out (fun hHeld => ?_)
                  | (go_wp2_with fail
                     refine hK.out _ _ hS.out (fun hHeld => ?_))
                clear hK K
                try simp only [Act.put, List.setIfInBounds_toArray, List.set_cons_zero, List.set_cons_succ]
                refine wpAnyH_done (by kernel_rfl) ?_ _
                clear hHeld
                go_wp2_with fail
                go_meet
                exact ⟨b5, b6, A1, n1, B1, k1, A2, n2, B2, k2, rfl, rfl, hB5.out, hB6.out, gv1.out, gw1.out, gv2.out, gw2.out, hk5.out, hk6.out, KT.bel hS.out⟩
            · go_simp
              have hb : Below X0.heap.size X0 (X0.alloc (.cells #[.slice none 0 0, .slice none 0 0] 25)) := (Below.refl _ _).alloc (Nat.le_refl _) _
              have hB : Blk2 (X0.alloc (.cells #[.slice none 0 0, .slice none 0 0] 25)) X0.heap.size (.slice none 0 0) (.slice none 0 0) := blk_new _ _ _
              have hk6 : Hid (W0.heap.size ≤ X0.heap.size) := (KT.bel hS.out).size
              replace hS := Lib.hid (KT.below hS.out hb)
              generalize X0.alloc (.cells #[.slice none 0 0, .slice none 0 0] 25) = X44 at hb hB hS  ⊢
              generalize X0.heap.size = b6 at hB hk6  ⊢
              have hB6 := Lib.hid hB
              clear hb hB
              first
                | refine hK.out _ _ hS.out (fun hHeld => ?_)
                | (go_wp2_with fail
                   refine hK.out _ _ hS.out (fun hHeld => ?_))
              clear hK K
              try simp only [Act.put, List.setIfInBounds_toArray, List.set_cons_zero, List.set_cons_succ]
              refine wpAnyH_ready (rs := [1, 4]) (by kernel_rfl) (by simp) ?_
              refine AllReadyH.cons rfl (fun K hK => ?_) (AllReadyH.cons rfl (fun K hK => ?_) AllReadyH.nil)
              · go_simp
                refine (HO1.out _ (HX.out _ (KT.bel hS.out)).1).mono ?_
                rintro e X45 ⟨⟨A1, n1, B1, k1, rfl, hv, hw⟩, hb⟩
                replace hS := Lib.hid (KT.below hS.out hb)
                replace hB6 := Lib.hid (hB6.out.below hb)
                have gv1 := Lib.hid hv.holds
                have gw1 := Lib.hid hw.holds
                clear hv hw hb
                first
                  | refine hK.out _ _ hS.out (fun hHeld => ?_)
                  | (go_wp2_with fail
                     refine hK.out _ _ hS.out (fun hHeld => ?_))
                clear hK K
                try simp only [Act.put, List.setIfInBounds_toArray, List.set_cons_zero, List.set_cons_succ]
                refine wpAnyH_ready (rs := [3, 4]) (by kernel_rfl) (by simp) ?_
                refine AllReadyH.cons rfl (fun K hK => ?_) (AllReadyH.cons rfl (fun K hK => ?_) AllReadyH.nil)
                · go_simp
                  refine (HO2.out _ (HX.out _ (KT.bel hS.out)).2).mono ?_
                  rintro e X46 ⟨⟨A2, n2, B2, k2, rfl, hv, hw⟩, hb⟩
                  replace hS := Lib.hid (KT.below hS.out hb)
                  replace hB6 := Lib.hid (hB6.out.below hb)
                  replace gv1 := Lib.hid (gv1.out.below hb)
                  replace gw1 := Lib.hid (gw1.out.below hb)
                  have gv2 := Lib.hid hv.holds
                  have gw2 := Lib.hid hw.holds
                  clear hv hw hb
                  first
                    | refine hK.out _ _ hS.out (fun hHeld => ?_)
                    | (go_wp2_with fail
                       refine hK.out _ _ hS.out (fun hHeld => ?_))
                  clear hK K
                  try simp only [Act.put, List.setIfInBounds_toArray, List.set_cons_zero, List.set_cons_succ]
                  refine wpAnyH_ready (rs := [4]) (by kernel_rfl) (by simp) ?_
                  refine AllReadyH.cons rfl (fun K hK => ?_) AllReadyH.nil
                  go_simp
                  have hb : Below X46.heap.size X46 (X46.alloc (.cells #[.slice none 0 0, .slice none 0 0] 25)) := (Below.refl _ _).alloc (Nat.le_refl _) _
                  have hB : Blk2 (X46.alloc (.cells #[.slice none 0 0, .slice none 0 0] 25)) X46.heap.size (.slice none 0 0) (.slice none 0 0) := blk_new _ _ _
                  have hk5 : Hid (W0.heap.size ≤ X46.heap.size) := (KT.bel hS.out).size
                  have hne : Hid (b6 ≠ X46.heap.size) := Nat.ne_of_lt hB6.out.lt
                  replace hS := Lib.hid (KT.below hS.out hb)
                  replace hB6 := Lib.hid (hB6.out.below hb)
                  replace gv1 := Lib.hid (gv1.out.below hb)
                  replace gw1 := Lib.hid (gw1.out.below hb)
                  replace gv2 := Lib.hid (gv2.out.below hb)
                  replace gw2 := Lib.hid (gw2.out.below hb)
                  generalize X46.alloc (.cells #[.slice none 0 0, .slice none 0 0] 25) = X47 at hb hB hS hB6 gv1 gw1 gv2 gw2 ⊢
                  generalize X46.heap.size = b5 at hB hk5 hne ⊢
                  have hB5 := Lib.hid hB
                  clear hb hB
                  first
                    | refine hK.out _ _ hS.out (fun hHeld => ?_)
                    | (go_wp2_with fail
                       refine hK.out _ _ hS.out (fun hHeld => ?_))
                  clear hK K
                  try simp only [Act.put, List.setIfInBounds_toArray, List.set_cons_zero, List.set_cons_succ]
                  refine wpAnyH_ready (rs := [6]) (by kernel_rfl) (by simp) ?_
                  refine AllReadyH.cons rfl (fun K hK => ?_) AllReadyH.nil
                  have c0 := hB5.out.cell0
                  have c1 := hB5.out.cell1
                  have f0 := hB5.out.frozen 0
                  have f1 := hB5.out.frozen 1
                  go_simp
                  clear c0 c1 f0 f1
                  replace hS := Lib.hid (KT.store (KT.store hS.out hk5.out (o := 0) (.slice A1 vs.length n1)) hk5.out (o := 1) (.slice B1 ls.length k1))
                  replace gv1 := Lib.hid (Holds.set2 gv1.out hB5.out (by intro z; simp) (by intro z; simp) (x' := .slice A1 vs.length n1) (y' := .slice B1 ls.length k1))
                  replace gw1 := Lib.hid (Holds.set2 gw1.out hB5.out (by intro z; simp) (by intro z; simp) (x' := .slice A1 vs.length n1) (y' := .slice B1 ls.length k1))
                  replace gv2 := Lib.hid (Holds.set2 gv2.out hB5.out (by intro z; simp) (by intro z; simp) (x' := .slice A1 vs.length n1) (y' := .slice B1 ls.length k1))
                  replace gw2 := Lib.hid (Holds.set2 gw2.out hB5.out (by intro z; simp) (by intro z; simp) (x' := .slice A1 vs.length n1) (y' := .slice B1 ls.length k1))
                  replace hB6 := Lib.hid (((hB6.out).other hne.out 0 (.slice A1 vs.length n1)).other hne.out 1 (.slice B1 ls.length k1))
                  replace hB5 := Lib.hid ((hB5.out).set (.slice A1 vs.length n1) (.slice B1 ls.length k1))
                  generalize ((X47.setCell ⟨b5, 0, none⟩ (.slice A1 vs.length n1)).setCell ⟨b5, 1, none⟩ (.slice B1 ls.length k1)) = X48 at hS gv1 gw1 gv2 gw2 hB5 hB6 ⊢
                  first
                    | refine hK.out _ _ hS.out (fun hHeld => ?_)
                    | (go_wp2_with fail
                       refine hK.out _ _ hS.out (fun hHeld => ?_))
                  clear hK K
                  try simp only [Act.put, List.setIfInBounds_toArray, List.set_cons_zero, List.set_cons_succ]
                  refine wpAnyH_ready (rs := [7]) (by kernel_rfl) (by simp) ?_
                  refine AllReadyH.cons rfl (fun K hK => ?_) AllReadyH.nil
                  have c0 := hB6.out.cell0
                  have c1 := hB6.out.cell1
                  have f0 := hB6.out.frozen 0
                  have f1 := hB6.out.frozen 1
                  go_simp
                  clear c0 c1 f0 f1
                  replace hS := Lib.hid (KT.store (KT.store hS.out hk6.out (o := 0) (.slice A2 vsp.length n2)) hk6.out (o := 1) (.slice B2 lsp.length k2))
                  replace gv1 := Lib.hid (Holds.set2 gv1.out hB6.out (by intro z; simp) (by intro z; simp) (x' := .slice A2 vsp.length n2) (y' := .slice B2 lsp.length k2))
                  replace gw1 := Lib.hid (Holds.set2 gw1.out hB6.out (by intro z; simp) (by intro z; simp) (x' := .slice A2 vsp.length n2) (y' := .slice B2 lsp.length k2))
                  replace gv2 := Lib.hid (Holds.set2 gv2.out hB6.out (by intro z; simp) (by intro z; simp) (x' := .slice A2 vsp.length n2) (y' := .slice B2 lsp.length k2))
                  replace gw2 := Lib.hid (Holds.set2 gw2.out hB6.out (by intro z; simp) (by intro z; simp) (x' := .slice A2 vsp.length n2) (y' := .slice B2 lsp.length k2))
                  replace hB5 := Lib.hid (((hB5.out).other (Ne.symm hne.out) 0 (.slice A2 vsp.length n2)).other (Ne.symm hne.out) 1 (.slice B2 lsp.length k2))
                  replace hB6 := Lib.hid ((hB6.out).set (.slice A2 vsp.length n2) (.slice B2 lsp.length k2))
                  generalize ((X48.setCell ⟨b6, 0, none⟩ (.slice A2 vsp.length n2)).setCell ⟨b6, 1, none⟩ (.slice B2 lsp.length k2)) = X49 at hS gv1 gw1 gv2 gw2 hB5 hB6 ⊢
                  first
                    | refine hK.out _ _ hS.out (fun hHeld => ?_)
                    | (go_wp2_with fail
                       refine hK.out _ _ hS.out (fun hHeld => ?_))
                  clear hK K
                  try simp only [Act.put, List.setIfInBounds_toArray, List.set_cons_zero, List.set_cons_succ]
                  refine wpAnyH_done (by kernel_rfl) ?_ _
                  clear hHeld
                  go_wp2_with fail
                  go_meet
                  exact ⟨b5, b6, A1, n1, B1, k1, A2, n2, B2, k2, rfl, rfl, hB5.out, hB6.out, gv1.out, gw1.out, gv2.out, gw2.out, hk5.out, hk6.out, KT.bel hS.out⟩
                · go_simp
                  have hb : Below X45.heap.size X45 (X45.alloc (.cells #[.slice none 0 0, .slice none 0 0] 25)) := (Below.refl _ _).alloc (Nat.le_refl _) _
                  have hB : Blk2 (X45.alloc (.cells #[.slice none 0 0, .slice none 0 0] 25)) X45.heap.size (.slice none 0 0) (.slice none 0 0) := blk_new _ _ _
                  have hk5 : Hid (W0.heap.size ≤ X45.heap.size) := (KT.bel hS.out).size
                  have hne : Hid (b6 ≠ X45.heap.size) := Nat.ne_of_lt hB6.out.lt
                  replace hS := Lib.hid (KT.below hS.out hb)
                  replace hB6 := Lib.hid (hB6.out.below hb)
                  replace gv1 := Lib.hid (gv1.out.below hb)
                  replace gw1 := Lib.hid (gw1.out.below hb)
                  generalize X45.alloc (.cells #[.slice none 0 0, .slice none 0 0] 25) = X50 at hb hB hS hB6 gv1 gw1 ⊢
                  generalize X45.heap.size = b5 at hB hk5 hne ⊢
                  have hB5 := Lib.hid hB
                  clear hb hB
                  first
                    | refine hK.out _ _ hS.out (fun hHeld => ?_)
                    | (go_wp2_with fail
                       refine hK.out _ _ hS.out (fun hHeld => ?_))
                  clear hK K
                  try simp only [Act.put, List.setIfInBounds_toArray, List.set_cons_zero, List.set_cons_succ]
                  refine wpAnyH_ready (rs := [3]) (by kernel_rfl) (by simp) ?_
                  refine AllReadyH.cons rfl (fun K hK => ?_) AllReadyH.nil
                  go_simp
                  refine (HO2.out _ (HX.out _ (KT.bel hS.out)).2).mono ?_
                  rintro e X51 ⟨⟨A2, n2, B2, k2, rfl, hv, hw⟩, hb⟩
                  replace hS := Lib.hid (KT.below hS.out hb)
                  replace hB6 := Lib.hid (hB6.out.below hb)
                  replace gv1 := Lib.hid (gv1.out.below hb)
                  replace gw1 := Lib.hid (gw1.out.below hb)
                  replace hB5 := Lib.hid (hB5.out.below hb)
                  have gv2 := Lib.hid hv.holds
                  have gw2 := Lib.hid hw.holds
                  clear hv hw hb
                  first
                    | refine hK.out _ _ hS.out (fun hHeld => ?_)
                    | (go_wp2_with fail
                       refine hK.out _ _ hS.out (fun hHeld => ?_))
                  clear hK K
                  try simp only [Act.put, List.setIfInBounds_toArray, List.set_cons_zero, List.set_cons_succ]
                  refine wpAnyH_ready (rs := [6]) (by kernel_rfl) (by simp) ?_
                  refine AllReadyH.cons rfl (fun K hK => ?_) AllReadyH.nil
                  have c0 := hB5.out.cell0
                  have c1 := hB5.out.cell1
                  have f0 := hB5.out.frozen 0
                  have f1 := hB5.out.frozen 1
                  go_simp
                  clear c0 c1 f0 f1
                  replace hS := Lib.hid (KT.store (KT.store hS.out hk5.out (o := 0) (.slice A1 vs.length n1)) hk5.out (o := 1) (.slice B1 ls.length k1))
                  replace gv1 := Lib.hid (Holds.set2 gv1.out hB5.out (by intro z; simp) (by intro z; simp) (x' := .slice A1 vs.length n1) (y' := .slice B1 ls.length k1))
                  replace gw1 := Lib.hid (Holds.set2 gw1.out hB5.out (by intro z; simp) (by intro z; simp) (x' := .slice A1 vs.length n1) (y' := .slice B1 ls.length k1))
                  replace gv2 := Lib.hid (Holds.set2 gv2.out hB5.out (by intro z; simp) (by intro z; simp) (x' := .slice A1 vs.length n1) (y' := .slice B1 ls.length k1))
                  replace gw2 := Lib.hid (Holds.set2 gw2.out hB5.out (by intro z; simp) (by intro z; simp) (x' := .slice A1 vs.length n1) (y' := .slice B1 ls.length k1))
                  replace hB6 := Lib.hid (((hB6.out).other hne.out 0 (.slice A1 vs.length n1)).other hne.out 1 (.slice B1 ls.length k1))
                  replace hB5 := Lib.hid ((hB5.out).set (.slice A1 vs.length n1) (.slice B1 ls.length k1))
                  generalize ((X51.setCell ⟨b5, 0, none⟩ (.slice A1 vs.length n1)).setCell ⟨b5, 1, none⟩ (.slice B1 ls.length k1)) = X52 at hS gv1 gw1 gv2 gw2 hB5 hB6 ⊢
                  first
                    | refine hK.out _ _ hS.out (fun hHeld => ?_)
                    | (go_wp2_with fail
                       refine hK.out _ _ hS.out (fun hHeld => ?_))
                  clear hK K
                  try simp only [Act.put, List.setIfInBounds_toArray, List.set_cons_zero, List.set_cons_succ]
                  refine wpAnyH_ready (rs := [7]) (by kernel_rfl) (by simp) ?_
                  refine AllReadyH.cons rfl (fun K hK => ?_) AllReadyH.nil
                  have c0 := hB6.out.cell0
                  have c1 := hB6.out.cell1
                  have f0 := hB6.out.frozen 0
                  have f1 := hB6.out.frozen 1
                  go_simp
                  clear c0 c1 f0 f1
                  replace hS := Lib.hid (KT.store (KT.store hS.out hk6.out (o := 0) (.slice A2 vsp.length n2)) hk6.out (o := 1) (.slice B2 lsp.length k2))
                  replace gv1 := Lib.hid (Holds.set2 gv1.out hB6.out (by intro z; simp) (by intro z; simp) (x' := .slice A2 vsp.length n2) (y' := .slice B2 lsp.length k2))
                  replace gw1 := Lib.hid (Holds.set2 gw1.out hB6.out (by intro z; simp) (by intro z; simp) (x' := .slice A2 vsp.length n2) (y' := .slice B2 lsp.length k2))
                  replace gv2 := Lib.hid (Holds.set2 gv2.out hB6.out (by intro z; simp) (by intro z; simp) (x' := .slice A2 vsp.length n2) (y' := .slice B2 lsp.length k2))
                  replace gw2 := Lib.hid (Holds.set2 gw2.out hB6.out (by intro z; simp) (by intro z; simp) (x' := .slice A2 vsp.length n2) (y' := .slice B2 lsp.length k2))
                  replace hB5 := Lib.hid (((hB5.out).other (Ne.symm hne.out) 0 (.slice A2 vsp.length n2)).other (Ne.symm hne.out) 1 (.slice B2 lsp.length k2))
                  replace hB6 := Lib.hid ((hB6.out).set (.slice A2 vsp.length n2) (.slice B2 lsp.length k2))
                  generalize ((X52.setCell ⟨b6, 0, none⟩ (.slice A2 vsp.length n2)).setCell ⟨b6, 1, none⟩ (.slice B2 lsp.length k2)) = X53 at hS gv1 gw1 gv2 gw2 hB5 hB6 ⊢
                  first
                    | refine hK.out _ _ hS.out (fun hHeld => ?_)
                    | (go_wp2_with fail
                       refine hK.out _ _ hS.out (fun hHeld => ?_))
                  clear hK K
                  try simp only [Act.put, List.setIfInBounds_toArray, List.set_cons_zero, List.set_cons_succ]
                  refine wpAnyH_done (by kernel_rfl) ?_ _
                  clear hHeld
                  go_wp2_with fail
                  go_meet
                  exact ⟨b5, b6, A1, n1, B1, k1, A2, n2, B2, k2, rfl, rfl, hB5.out, hB6.out, gv1.out, gw1.out, gv2.out, gw2.out, hk5.out, hk6.out, KT.bel hS.out⟩
              · go_simp
                have hb : Below X44.heap.size X44 (X44.alloc (.cells #[.slice none 0 0, .slice none 0 0] 25)) := (Below.refl _ _).alloc (Nat.le_refl _) _
                have hB : Blk2 (X44.alloc (.cells #[.slice none 0 0, .slice none 0 0] 25)) X44.heap.size (.slice none 0 0) (.slice none 0 0) := blk_new _ _ _
                have hk5 : Hid (W0.heap.size ≤ X44.heap.size) := (KT.bel hS.out).size
                have hne : Hid (b6 ≠ X44.heap.size) := Nat.ne_of_lt hB6.out.lt
                replace hS := Lib.hid (KT.below hS.out hb)
                replace hB6 := Lib.hid (hB6.out.below hb)
                generalize X44.alloc (.cells #[.slice none 0 0, .slice none 0 0] 25) = X54 at hb hB hS hB6 ⊢
                generalize X44.heap.size = b5 at hB hk5 hne ⊢
                have hB5 := Lib.hid hB
                clear hb hB
                first
                  | refine hK.out _ _ hS.out (fun hHeld => ?_)
                  | (go_wp2_with fail
                     refine hK.out _ _ hS.out (fun hHeld => ?_))
                clear hK K
                try simp only [Act.put, List.setIfInBounds_toArray, List.set_cons_zero, List.set_cons_succ]
                refine wpAnyH_ready (rs := [1]) (by kernel_rfl) (by simp) ?_
                refine AllReadyH.cons rfl (fun K hK => ?_) AllReadyH.nil
                go_simp
                refine (HO1.out _ (HX.out _ (KT.bel hS.out)).1).mono ?_
                rintro e X55 ⟨⟨A1, n1, B1, k1, rfl, hv, hw⟩, hb⟩
                replace hS := Lib.hid (KT.below hS.out hb)
                replace hB6 := Lib.hid (hB6.out.below hb)
                replace hB5 := Lib.hid (hB5.out.below hb)
                have gv1 := Lib.hid hv.holds
                have gw1 := Lib.hid hw.holds
                clear hv hw hb
                first
                  | refine hK.out _ _ hS.out (fun hHeld => ?_)
                  | (go_wp2_with fail
                     refine hK.out _ _ hS.out (fun hHeld => ?_))
                clear hK K
                try simp only [Act.put, List.setIfInBounds_toArray, List.set_cons_zero, List.set_cons_succ]
                refine wpAnyH_ready (rs := [3]) (by kernel_rfl) (by simp) ?_
                refine AllReadyH.cons rfl (fun K hK => ?_) AllReadyH.nil
                go_simp
                refine (HO2.out _ (HX.out _ (KT.bel hS.out)).2).mono ?_
                rintro e X56 ⟨⟨A2, n2, B2, k2, rfl, hv, hw⟩, hb⟩
                replace hS := Lib.hid (KT.below hS.out hb)
                replace hB6 := Lib.hid (hB6.out.below hb)
                replace hB5 := Lib.hid (hB5.out.below hb)
                replace gv1 := Lib.hid (gv1.out.below hb)
                replace gw1 := Lib.hid (gw1.out.below hb)
                have gv2 := Lib.hid hv.holds
                have gw2 := Lib.hid hw.holds
                clear hv hw hb
                first
                  | refine hK.out _ _ hS.out (fun hHeld => ?_)
                  | (go_wp2_with fail
                     refine hK.out _ _ hS.out (fun hHeld => ?_))
                clear hK K
                try simp only [Act.put, List.setIfInBounds_toArray, List.set_cons_zero, List.set_cons_succ]
                refine wpAnyH_ready (rs := [6]) (by kernel_rfl) (by simp) ?_
                refine AllReadyH.cons rfl (fun K hK => ?_) AllReadyH.nil
                have c0 := hB5.out.cell0
                have c1 := hB5.out.cell1
                have f0 := hB5.out.frozen 0
                have f1 := hB5.out.frozen 1
                go_simp
                clear c0 c1 f0 f1
                replace hS := Lib.hid (KT.store (KT.store hS.out hk5.out (o := 0) (.slice A1 vs.length n1)) hk5.out (o := 1) (.slice B1 ls.length k1))
                replace gv1 := Lib.hid (Holds.set2 gv1.out hB5.out (by intro z; simp) (by intro z; simp) (x' := .slice A1 vs.length n1) (y' := .slice B1 ls.length k1))
                replace gw1 := Lib.hid (Holds.set2 gw1.out hB5.out (by intro z; simp) (by intro z; simp) (x' := .slice A1 vs.length n1) (y' := .slice B1 ls.length k1))
                replace gv2 := Lib.hid (Holds.set2 gv2.out hB5.out (by intro z; simp) (by intro z; simp) (x' := .slice A1 vs.length n1) (y' := .slice B1 ls.length k1))
                replace gw2 := Lib.hid (Holds.set2 gw2.out hB5.out (by intro z; simp) (by intro z; simp) (x' := .slice A1 vs.length n1) (y' := .slice B1 ls.length k1))
                replace hB6 := Lib.hid (((hB6.out).other hne.out 0 (.slice A1 vs.length n1)).other hne.out 1 (.slice B1 ls.length k1))
                replace hB5 := Lib.hid ((hB5.out).set (.slice A1 vs.length n1) (.slice B1 ls.length k1))
                generalize ((X56.setCell ⟨b5, 0, none⟩ (.slice A1 vs.length n1)).setCell ⟨b5, 1, none⟩ (.slice B1 ls.length k1)) = X57 at hS gv1 gw1 gv2 gw2 hB5 hB6 ⊢
                first
                  | refine hK.out _ _ hS.out (fun hHeld => ?_)
                  | (go_wp2_with fail
                     refine hK.out _ _ hS.out (fun hHeld => ?_))
                clear hK K
                try simp only [Act.put, List.setIfInBounds_toArray, List.set_cons_zero, List.set_cons_succ]
                refine wpAnyH_ready (rs := [7]) (by kernel_rfl) (by simp) ?_
                refine AllReadyH.cons rfl (fun K hK => ?_) AllReadyH.nil
                have c0 := hB6.out.cell0
                have c1 := hB6.out.cell1
                have f0 := hB6.out.frozen 0
                have f1 := hB6.out.frozen 1
                go_simp
                clear c0 c1 f0 f1
                replace hS := Lib.hid (KT.store (KT.store hS.out hk6.out (o := 0) (.slice A2 vsp.length n2)) hk6.out (o := 1) (.slice B2 lsp.length k2))
                replace gv1 := Lib.hid (Holds.set2 gv1.out hB6.out (by intro z; simp) (by intro z; simp) (x' := .slice A2 vsp.length n2) (y' := .slice B2 lsp.length k2))
                replace gw1 := Lib.hid (Holds.set2 gw1.out hB6.out (by intro z; simp) (by intro z; simp) (x' := .slice A2 vsp.length n2) (y' := .slice B2 lsp.length k2))
                replace gv2 := Lib.hid (Holds.set2 gv2.out hB6.out (by intro z; simp) (by intro z; simp) (x' := .slice A2 vsp.length n2) (y' := .slice B2 lsp.length k2))
                replace gw2 := Lib.hid (Holds.set2 gw2.out hB6.out (by intro z; simp) (by intro z; simp) (x' := .slice A2 vsp.length n2) (y' := .slice B2 lsp.length k2))
                replace hB5 := Lib.hid (((hB5.out).other (Ne.symm hne.out) 0 (.slice A2 vsp.length n2)).other (Ne.symm hne.out) 1 (.slice B2 lsp.length k2))
                replace hB6 := Lib.hid ((hB6.out).set (.slice A2 vsp.length n2) (.slice B2 lsp.length k2))
                generalize ((X57.setCell ⟨b6, 0, none⟩ (.slice A2 vsp.length n2)).setCell ⟨b6, 1, none⟩ (.slice B2 lsp.length k2)) = X58 at hS gv1 gw1 gv2 gw2 hB5 hB6 ⊢
                first
                  | refine hK.out _ _ hS.out (fun hHeld => ?_)
                  | (go_wp2_with fail
                     refine hK.out _ _ hS.out (fun hHeld => ?_))
                clear hK K
                try simp only [Act.put, List.setIfInBounds_toArray, List.set_cons_zero, List.set_cons_succ]
                refine wpAnyH_done (by kernel_rfl) ?_ _
                clear hHeld
                go_wp2_with fail
                go_meet
                exact ⟨b5, b6, A1, n1, B1, k1, A2, n2, B2, k2, rfl, rfl, hB5.out, hB6.out, gv1.out, gw1.out, gv2.out, gw2.out, hk5.out, hk6.out, KT.bel hS.out⟩
          case rest =>
            obtain ⟨b5, b6, A1, n1, B1, k1, A2, n2, B2, k2, rfl, rfl, hB5, hB6, g1, g2, g3, g4, hk5, hk6, hbel⟩ := hcut
            have K5 := KB4.of ((((((K4.out.below hbel).push g1).push g2).push g3).push g4).add2 hB6 |>.add2 hB5)
            have hqq : ∀ W, KB4 w (b5) (b6) (w.heap.size + 1) (w.heap.size) (.slice A1 vs.length n1) (.slice B1 ls.length k1) (.slice A2 vsp.length n2) (.slice B2 lsp.length k2) (.slice Ap vsp.length np) (.slice Bp lsp.length kp) (.slice A vs.length n) (.slice B ls.length k) [(.slice B2 lsp.length k2, lsp), (.slice A2 vsp.length n2, vsp), (.slice B1 ls.length k1, ls), (.slice A1 vs.length n1, vs), (.slice Bp lsp.length kp, lsp), (.slice Ap vsp.length np, vsp), (.slice B ls.length k, ls), (.slice A vs.length n, vs)] W → HoldsC W (.agg #[.slice A vs.length n, .slice B ls.length k]) vs ls ∧ HoldsC W (.agg #[.slice Ap vsp.length np, .slice Bp lsp.length kp]) vsp lsp ∧ HoldsC W (.agg #[.slice A1 vs.length n1, .slice B1 ls.length k1]) vs ls ∧ HoldsC W (.agg #[.slice A2 vsp.length n2, .slice B2 lsp.length k2]) vsp lsp :=
              fun W h => ⟨HoldsC.mk (h.kx.h (by simp)) (h.kx.h (by simp)), HoldsC.mk (h.kx.h (by simp)) (h.kx.h (by simp)), HoldsC.mk (h.kx.h (by simp)) (h.kx.h (by simp)), HoldsC.mk (h.kx.h (by simp)) (h.kx.h (by simp))⟩
            have HQ := Lib.hid hqq
            have HBL := Lib.hid fun W W' (h : KB4 w (b5) (b6) (w.heap.size + 1) (w.heap.size) (.slice A1 vs.length n1) (.slice B1 ls.length k1) (.slice A2 vsp.length n2) (.slice B2 lsp.length k2) (.slice Ap vsp.length np) (.slice Bp lsp.length kp) (.slice A vs.length n) (.slice B ls.length k) [(.slice B2 lsp.length k2, lsp), (.slice A2 vsp.length n2, vsp), (.slice B1 ls.length k1, ls), (.slice A1 vs.length n1, vs), (.slice Bp lsp.length kp, lsp), (.slice Ap vsp.length np, vsp), (.slice B ls.length k, ls), (.slice A vs.length n, vs)] W) (hb : Below W.heap.size W W') => (show KB4 w (b5) (b6) (w.heap.size + 1) (w.heap.size) (.slice A1 vs.length n1) (.slice B1 ls.length k1) (.slice A2 vsp.length n2) (.slice B2 lsp.length k2) (.slice Ap vsp.length np) (.slice Bp lsp.length kp) (.slice A vs.length n) (.slice B ls.length k) [(.slice B2 lsp.length k2, lsp), (.slice A2 vsp.length n2, vsp), (.slice B1 ls.length k1, ls), (.slice A1 vs.length n1, vs), (.slice Bp lsp.length kp, lsp), (.slice Ap vsp.length np, vsp), (.slice B ls.length k, ls), (.slice A vs.length n, vs)] W' from h.below hb)
            have HDR := Lib.hid fun W (h : KB4 w (b5) (b6) (w.heap.size + 1) (w.heap.size) (.slice A1 vs.length n1) (.slice B1 ls.length k1) (.slice A2 vsp.length n2) (.slice B2 lsp.length k2) (.slice Ap vsp.length np) (.slice Bp lsp.length kp) (.slice A vs.length n) (.slice B ls.length k) [(.slice B2 lsp.length k2, lsp), (.slice A2 vsp.length n2, vsp), (.slice B1 ls.length k1, ls), (.slice A1 vs.length n1, vs), (.slice Bp lsp.length kp, lsp), (.slice Ap vsp.length np, vsp), (.slice B ls.length k, ls), (.slice A vs.length n, vs)] W) => (show KB4 w (b5) (b6) (w.heap.size + 1) (w.heap.size) (.slice A1 vs.length n1) (.slice B1 ls.length k1) (.slice A2 vsp.length n2) (.slice B2 lsp.length k2) (.slice Ap vsp.length np) (.slice Bp lsp.length kp) (.slice A vs.length n) (.slice B ls.length k) [(.slice B2 lsp.length k2, lsp), (.slice A2 vsp.length n2, vsp), (.slice B1 ls.length k1, ls), (.slice A1 vs.length n1, vs), (.slice Bp lsp.length kp, lsp), (.slice Ap vsp.length np, vsp), (.slice B ls.length k, ls), (.slice A vs.length n, vs)] W.drew from h.drew)
            have HEN := Lib.hid fun W (h : KB4 w (b5) (b6) (w.heap.size + 1) (w.heap.size) (.slice A1 vs.length n1) (.slice B1 ls.length k1) (.slice A2 vsp.length n2) (.slice B2 lsp.length k2) (.slice Ap vsp.length np) (.slice Bp lsp.length kp) (.slice A vs.length n) (.slice B ls.length k) [(.slice B2 lsp.length k2, lsp), (.slice A2 vsp.length n2, vsp), (.slice B1 ls.length k1, ls), (.slice A1 vs.length n1, vs), (.slice Bp lsp.length kp, lsp), (.slice Ap vsp.length np, vsp), (.slice B ls.length k, ls), (.slice A vs.length n, vs)] W) => h.kx.bel
            clear hqq hB5 hB6 g1 g2 g3 g4 hk5 hk6 hbel j0 j1 j2 j3 K K4
            go_wp2_with fail
            obtain ⟨q0, q1, q2, q3, q4, q5, q6, q7, q8⟩ := id K5
            go_region_held3 (fun W => W.cell? ⟨b5, 0, none⟩ = some (.slice A1 vs.length n1) ∧ W.cell? ⟨b5, 1, none⟩ = some (.slice B1 ls.length k1) ∧ W.cell? ⟨b6, 0, none⟩ = some (.slice A2 vsp.length n2) ∧ W.cell? ⟨b6, 1, none⟩ = some (.slice B2 lsp.length k2) ∧ W.cell? ⟨w.heap.size + 1, 0, none⟩ = some (.slice Ap vsp.length np) ∧ W.cell? ⟨w.heap.size + 1, 1, none⟩ = some (.slice Bp lsp.length kp) ∧ W.cell? ⟨w.heap.size, 0, none⟩ = some (.slice A vs.length n) ∧ W.cell? ⟨w.heap.size, 1, none⟩ = some (.slice B ls.length k) ∧ KX w [(⟨b5, 0, none⟩, .slice A1 vs.length n1), (⟨b5, 1, none⟩, .slice B1 ls.length k1), (⟨b6, 0, none⟩, .slice A2 vsp.length n2), (⟨b6, 1, none⟩, .slice B2 lsp.length k2), (⟨w.heap.size + 1, 0, none⟩, .slice Ap vsp.length np), (⟨w.heap.size + 1, 1, none⟩, .slice Bp lsp.length kp), (⟨w.heap.size, 0, none⟩, .slice A vs.length n), (⟨w.heap.size, 1, none⟩, .slice B ls.length k)] [(.slice B2 lsp.length k2, lsp), (.slice A2 vsp.length n2, vsp), (.slice B1 ls.length k1, ls), (.slice A1 vs.length n1, vs), (.slice Bp lsp.length kp, lsp), (.slice Ap vsp.length np, vsp), (.slice B ls.length k, ls), (.slice A vs.length n, vs)] W)
              (first
                | assumption
                | (exact HDR.out _ (by assumption)))
              (first
                | (go_at_call 35; (with_reducible refine (HRU.out _ _ _ ((HQ.out _ (by with_unfolding_all assumption)).1) ((HQ.out _ (by with_unfolding_all assumption)).2.1)).mono ?_)
                   rintro e wa ⟨⟨Au, nu, Bu, ku, rfl, hu⟩, hb1⟩
                   have hSa := HBL.out _ _ (by assumption) hb1
                   clear hb1)
                | (go_at_call 33; (with_reducible refine (HU.out _ _ _ _ ((HQ.out _ (by with_unfolding_all assumption)).2.2.1) ((HQ.out _ (by with_unfolding_all assumption)).2.2.2) (by first | exact hu | exact HoldsC.below hu (Below.refl _ _).drew)).mono ?_)
                   rintro e wb ⟨rfl, hb1⟩
                   have hSb := HBL.out _ _ (by assumption) hb1
                   clear hb1)
                | (go_at_call 36; (with_reducible refine (HRW.out _ _ _ ((HQ.out _ (by with_unfolding_all assumption)).1) ((HQ.out _ (by with_unfolding_all assumption)).2.1)).mono ?_)
                   rintro e wc ⟨rfl, hb1⟩
                   have hSc := HBL.out _ _ (by assumption) hb1
                   clear hb1)
                | (go_at_call 34; (with_reducible refine (HW.out _ _ _ ((HQ.out _ (by with_unfolding_all assumption)).2.2.1) ((HQ.out _ (by with_unfolding_all assumption)).2.2.2)).mono ?_)
                   rintro e wd ⟨rfl, hb1⟩
                   have hSd := HBL.out _ _ (by assumption) hb1
                   clear hb1)
                | (go_at_call 16; (with_reducible refine (HE1.out _ _ _ ((HQ.out _ (by with_unfolding_all assumption)).2.2.1) ((HQ.out _ (by with_unfolding_all assumption)).1)).mono ?_)
                   rintro e we ⟨rfl, hb1⟩
                   have hSe := HBL.out _ _ (by assumption) hb1
                   clear hb1)
                | (go_at_call 16; (with_reducible refine (HE2.out _ _ _ ((HQ.out _ (by with_unfolding_all assumption)).2.2.2) ((HQ.out _ (by with_unfolding_all assumption)).2.1)).mono ?_)
                   rintro e wf ⟨rfl, hb1⟩
                   have hSf := HBL.out _ _ (by assumption) hb1
                   clear hb1)
                | (go_at_call 10; refine (HKN.out _).mono ?_
                   rintro e wg ⟨rfl, hb1⟩
                   have hSg := HBL.out _ _ (by assumption) hb1
                   clear hb1))
            all_goals
              go_wp2_with fail
              go_ret
              exact ⟨rfl, HEN.out _ (by assumption)⟩

end Go.Proofs.Ytibnlifdeknicaa
