/- Package dot: Concat, Union. -/
import Derived.Test.YtibnlifdeknicaaDotG
namespace Go.Proofs.Ytibnlifdeknicaa
open Go.RowKit
set_option maxRecDepth 100000

/-- slices.Grow of nil by n: a row of the call's own with nothing in it. -/
theorem slicesGrow (n : Nat) (w : World) (hn : n ≤ 2000000) :
    Calls Try.prog 92 #[.slice none 0 0, .int .i64 n] w fun e w' => ∃ v, e = .returned v ∧ Mine w w' v [] := by
  obtain ⟨i0, hi0, hz0, hz1, hz2⟩ := info_parts infoD
  rcases Nat.eq_zero_or_pos n with h0 | h0
  · subst h0
    have hc : Calls Try.prog 92 #[.slice none 0 0, .int .i64 ((0 : Nat) : Int)] w _ := Any8.slices_Grow_room Try.growDots none 0 0 0 w (by omega) (by omega) (by omega) (by omega)
    refine hc.mono ?_
    rintro e w' ⟨rfl, rfl⟩
    exact ⟨_, rfl, World.ownsRow_nil _ _ _ _, Below.refl _ _⟩
  · have hc : Calls Try.prog 92 #[.slice none 0 0, .int .i64 (n : Int)] w _ := Any8.slices_Grow_grow Try.growDots i0 (.agg #[.int .i64 0, .int .i64 0]) hi0 hz0 (by omega) none 0 0 n [] w (by omega) (by omega) (by rw [hz2]; omega) (by omega) (by simp) (fun _ => rfl) (fun a h => by cases h)
    refine hc.mono ?_
    rintro e w' ⟨rfl, rfl⟩
    have hge := grownCap_ge w (0 + n) 0 38
    have hcm := grownCap_le_maxLen w (0 + n) 0 38 (by simp [maxLen]; omega)
    have hct : Try.growDots_ren.t 25 = 38 := rfl
    refine ⟨_, rfl, World.ownsRow_made w.drew _ _ (Nat.le_refl _) hcm ?_, (Below.refl _ w).drew.alloc (Nat.le_refl _) _⟩
    rw [hct]
    simp only [Array.size_append, size_zeroCells, Value.cells]
    generalize grownCap w (0 + n) 0 38 = C at *
    show 0 + (0 + n - 0) * 2 + (C - (0 + n)) * 2 = C * 2
    omega

set_option maxHeartbeats 1000000 in
theorem slicesConcat (A B : Option Addr) (xs ys : List (Int × Int)) (b cap c c' : Nat) (w : World) (hx : DotsAt w A xs) (hy : DotsAt w B ys) (hm : xs.length + ys.length ≤ 1000000)
    (h0 : w.cell? ⟨b, 0, none⟩ = some (.slice A xs.length c)) (h1 : w.cell? ⟨b, 1, none⟩ = some (.slice B ys.length c')) :
    Calls Try.prog 84 #[.slice (some ⟨b, 0, none⟩) 2 cap] w fun e w' => ∃ v, e = .returned v ∧ Mine w w' v (xs ++ ys) := by
  obtain ⟨i0, hi0, hz0, hz1, hz2⟩ := info_parts infoD
  have hbl := World.block_lt_of_cell? w _ h0
  have hg : ∀ W, Calls Try.prog 92 #[.slice none 0 0, .int .i64 ((xs.length : Int) + (ys.length : Int))] W fun e w' => ∃ v, e = .returned v ∧ Mine W w' v [] := fun W => by
    have := slicesGrow (xs.length + ys.length) W (by omega)
    rwa [Int.natCast_add] at this
  have HG := Lib.hid hg; clear hg
  go_enter Try.func84, Try.ntmps84
  go_wp2
  refine wp_loop_rounds 3 ?_
  rw [rounds_succ]
  go_wp2
  rw [rounds_succ]
  go_wp2
  rw [rounds_succ]
  go_wp2_with fail
  refine (HG.out _).mono ?_
  rintro e w1 ⟨v, rfl, hm1⟩
  have k0 := (hm1.2.cell (p := ⟨b, 0, none⟩) hbl).trans h0
  have k1 := (hm1.2.cell (p := ⟨b, 1, none⟩) hbl).trans h1
  have HM := Lib.hid hm1
  have H1 := Lib.hid h1
  clear hm1 h0 h1
  go_wp2
  refine wp_loop_rounds 3 ?_
  rw [rounds_succ]
  go_wp2_with (at_builtin; refine wpList_append_sl (o := ⟨some 33, _, _, _, _, _⟩) _ encD 2 rfl (.tmp 31) (.tmp 32) 22 rfl encD_len (by omega) encD_one w.heap.size 38 i0 _ 16 Try.underlying22 hi0 hz0 hz1 hz2 rfl v [] rfl HM.out.1 A _ c xs rfl rfl (hx.below HM.out.2) (by simp [maxLen]; omega) (by simp; omega) HM.out.2.size ?_; intro v2 w2 hown2 hg2 hat2)
  have hm2 : Mine w w2 v2 xs := HM.out.step (by simpa using hown2) hg2
  have j1 := (hm2.2.cell (p := ⟨b, 1, none⟩) hbl).trans H1.out
  have HM2 := Lib.hid hm2
  clear hm2 hown2 hg2 hat2 k0 k1 HM
  rw [rounds_succ]
  go_wp2_with (at_builtin; refine wpList_append_sl (o := ⟨some 33, _, _, _, _, _⟩) _ encD 2 rfl (.tmp 31) (.tmp 32) 22 rfl encD_len (by omega) encD_one w.heap.size 38 i0 _ 16 Try.underlying22 hi0 hz0 hz1 hz2 rfl v2 xs rfl HM2.out.1 B _ c' ys rfl rfl (hy.below HM2.out.2) (by simp only [maxLen]; omega) (by omega) HM2.out.2.size ?_; intro v3 w3 hown3 hg3 hat3)
  have hm3 : Mine w w3 v3 (xs ++ ys) := HM2.out.step hown3 hg3
  have HM3 := Lib.hid hm3
  clear hm3 hown3 hg3 hat3 j1 HM2
  rw [rounds_succ]
  go_wp2
  go_ret
  exact ⟨_, rfl, HM3.out⟩

theorem Mine.base {w0 w w' : World} {v : Value} {xs : List (Int × Int)} (hb : Below w0.heap.size w0 w) (h : Mine w w' v xs) : Mine w0 w' v xs := by
  refine ⟨⟨h.1.1, ?_⟩, below_trans hb h.2⟩
  rcases h.1.2 with h1 | ⟨g, cap, cur, hv, hg, r⟩
  · exact .inl h1
  · exact .inr ⟨g, cap, cur, hv, Nat.le_trans hb.size hg, r⟩

set_option maxHeartbeats 400000 in
theorem dotUnion (A B : Option Addr) (xs ys : List (Int × Int)) (c c' : Nat) (w : World) (hx : DotsAt w A xs) (hy : DotsAt w B ys) (hm : xs.length + ys.length ≤ 1000000) :
    Calls Try.prog 71 #[.slice A xs.length c, .slice B ys.length c'] w fun e w' => ∃ v, e = .returned v ∧ Mine w w' v (ordL (xs ++ ys)) := by
  have hc := fun b cap W hW h0 h1 => slicesConcat A B xs ys b cap c c' W (hx.below hW) (hy.below hW) hm h0 h1
  have ho := fun v base W hW => dotOrder v base (xs ++ ys) W hW (by simpa using hm)
  have HC := Lib.hid hc
  have HR := Lib.hid ho
  clear hc ho
  go_enter Try.func71, Try.ntmps71
  go_wp2_with fail
  have hb := (Below.refl w.heap.size w).alloc (Nat.le_refl _) (.cells #[.slice A xs.length c, .slice B ys.length c'] 22)
  refine (HC.out _ _ _ hb (by go_simp) (by go_simp)).mono ?_
  rintro e w1 ⟨v, rfl, h1⟩
  have H1 := Lib.hid (h1.base hb); clear h1
  go_wp2_with fail
  refine (HR.out _ _ _ H1.out.1).mono ?_
  rintro e w2 ⟨v', rfl, ho2, hg2, hv⟩
  have H2 := Lib.hid (H1.out.step ho2 hg2); clear ho2 hg2 hv
  go_wp2
  go_ret
  exact ⟨_, rfl, H2.out⟩

end Go.Proofs.Ytibnlifdeknicaa
