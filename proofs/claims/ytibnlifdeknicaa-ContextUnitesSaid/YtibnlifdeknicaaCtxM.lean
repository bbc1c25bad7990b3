/- The reference of layer 3: Union. -/
import Derived.Test.YtibnlifdeknicaaCtxH
namespace Go.Proofs.Ytibnlifdeknicaa
open Go.RowKit

/-- What holds of two contexts' boxes and of a third box, whatever this holds. -/
def KB (w0 : World) (g : Nat) (x y x' y' : Value) (L : List (Value × List (Int × Int))) (W : World) : Prop :=
  Blk2 W g x y ∧ Blk2 W (g + 1) x' y' ∧ (∃ A n c B m d, Blk2 W (g + 1 + 1) (.slice A n c) (.slice B m d)) ∧ Below w0.heap.size w0 W ∧ ∀ p ∈ L, Holds W p.1 p.2
def KC (w0 : World) (g : Nat) (x y x' y' : Value) (L : List (Value × List (Int × Int))) (W : World) : Prop :=
  W.cell? ⟨g, 0, none⟩ = some x ∧ W.cell? ⟨g, 1, none⟩ = some y ∧ W.cell? ⟨g + 1, 0, none⟩ = some x' ∧ W.cell? ⟨g + 1, 1, none⟩ = some y' ∧ KB w0 g x y x' y' L W
section
variable {w0 W W' : World} {g : Nat} {x y x' y' : Value} {L : List (Value × List (Int × Int))}
theorem KC.mk (h : KB w0 g x y x' y' L W) : KC w0 g x y x' y' L W := ⟨h.1.cell0, h.1.cell1, h.2.1.cell0, h.2.1.cell1, h⟩
theorem KC.kb (h : KC w0 g x y x' y' L W) : KB w0 g x y x' y' L W := h.2.2.2.2
theorem KB.below (h : KB w0 g x y x' y' L W) (hb : Below W.heap.size W W') : KB w0 g x y x' y' L W' := by
  obtain ⟨h1, h2, ⟨A, n, c, B, m, d, h3⟩, h4, h5⟩ := h
  exact ⟨h1.below hb, h2.below hb, ⟨A, n, c, B, m, d, h3.below hb⟩, below_trans h4 hb, fun p hp => (h5 p hp).below hb⟩
theorem KC.h {v : Value} {xs : List (Int × Int)} (h : KC w0 g x y x' y' L W) (hm : (v, xs) ∈ L) : Holds W v xs := h.kb.2.2.2.2 _ hm
theorem KC.below (h : KC w0 g x y x' y' L W) (hb : Below W.heap.size W W') : KC w0 g x y x' y' L W' := .mk (h.kb.below hb)
theorem KC.drew (h : KC w0 g x y x' y' L W) : KC w0 g x y x' y' L W.drew := h.below (Below.refl _ W).drew
theorem KC.store (h : KC w0 g x y x' y' L W) (hg : w0.heap.size ≤ g) (A : Option Addr) (n c : Nat) (B : Option Addr) (m d : Nat) : KC w0 g x y x' y' L ((W.setCell ⟨g + 1 + 1, 0, none⟩ (.slice A n c)).setCell ⟨g + 1 + 1, 1, none⟩ (.slice B m d)) := by
  obtain ⟨h1, h2, ⟨A', n', c', B', m', d', h3⟩, h4, h5⟩ := h.kb
  refine .mk ⟨(h1.other (by omega) 0 _).other (by omega) 1 _, (h2.other (by omega) 0 _).other (by omega) 1 _, ⟨_, _, _, _, _, _, h3.set _ _⟩, below_set2 h4 (by omega) _ _, fun p hp => ?_⟩
  exact (h5 p hp).set2 h3 (by intro z; simp) (by intro z; simp)
theorem KC.third (h : KC w0 g x y x' y' L W) : ∃ A n c B m d, W.cell? ⟨g + 1 + 1, 0, none⟩ = some (.slice A n c) ∧ W.cell? ⟨g + 1 + 1, 1, none⟩ = some (.slice B m d) ∧ W.frozen? ⟨g + 1 + 1, 0, none⟩ = false ∧ W.frozen? ⟨g + 1 + 1, 1, none⟩ = false ∧ Blk2 W (g + 1 + 1) (.slice A n c) (.slice B m d) := by
  obtain ⟨A, n, c, B, m, d, h3⟩ := h.kb.2.2.1
  exact ⟨A, n, c, B, m, d, h3.cell0, h3.cell1, h3.frozen 0, h3.frozen 1, h3⟩
end

set_option maxRecDepth 100000 in
set_option maxHeartbeats 4000000 in
theorem ref3Union (v v' : Value) (vs ls vs' ls' us rs : List (Int × Int)) (w : World) (h : HoldsC w v vs ls) (h' : HoldsC w v' vs' ls') (hv : validC vs ls = true) (hv' : validC vs' ls' = true)
    (hm : vs.length + ls.length + (vs'.length + ls'.length) ≤ 1000) (hz : unionC vs ls vs' ls' = (us, rs)) :
    Calls Try.prog 35 #[v, v'] w fun e w' => (∃ v', e = .returned v' ∧ HoldsC w' v' us rs) ∧ Below w.heap.size w w' := by
  obtain ⟨A, n, B, k, rfl, h1, h2⟩ := h
  obtain ⟨A', n', B', k', rfl, h1', h2'⟩ := h'
  have hal : Below w.heap.size w (((w.alloc (.cells #[.slice A vs.length n, .slice B ls.length k] 25)).alloc (.cells #[.slice A' vs'.length n', .slice B' ls'.length k'] 25)).alloc (.cells #[.slice none 0 0, .slice none 0 0] 25)) :=
    (((Below.refl _ w).alloc (Nat.le_refl _) _).alloc (by simp) _).alloc (by simp; omega) _
  have K : KC w w.heap.size (.slice A vs.length n) (.slice B ls.length k) (.slice A' vs'.length n') (.slice B' ls'.length k') [(.slice A vs.length n, vs), (.slice B ls.length k, ls), (.slice A' vs'.length n', vs'), (.slice B' ls'.length k', ls')] (((w.alloc (.cells #[.slice A vs.length n, .slice B ls.length k] 25)).alloc (.cells #[.slice A' vs'.length n', .slice B' ls'.length k'] 25)).alloc (.cells #[.slice none 0 0, .slice none 0 0] 25)) := by
    refine .mk ⟨?_, ?_, ⟨none, 0, 0, none, 0, 0, ?_⟩, hal, ?_⟩
    · exact (heap_alloc_old _ _ (by simp; omega)).trans ((heap_alloc_old _ _ (by simp)).trans (heap_alloc_new w _))
    · have h := heap_alloc_new (w.alloc (.cells #[.slice A vs.length n, .slice B ls.length k] 25)) (.cells #[.slice A' vs'.length n', .slice B' ls'.length k'] 25)
      rw [World.size_alloc] at h
      exact (heap_alloc_old _ _ (by simp)).trans h
    · have h := heap_alloc_new ((w.alloc (.cells #[.slice A vs.length n, .slice B ls.length k] 25)).alloc (.cells #[.slice A' vs'.length n', .slice B' ls'.length k'] 25)) (.cells #[.slice none 0 0, .slice none 0 0] 25)
      rwa [World.size_alloc, World.size_alloc] at h
    · intro p hp
      rcases List.mem_cons.1 hp with rfl | hp
      · exact h1.below hal
      · rcases List.mem_cons.1 hp with rfl | hp
        · exact h2.below hal
        · rcases List.mem_cons.1 hp with rfl | hp
          · exact h1'.below hal
          · rcases List.mem_cons.1 hp with rfl | hp
            · exact h2'.below hal
            · cases hp
  have hl := setL_len (ls ++ ls')
  rw [List.length_append] at hl
  have hml := mergeV_len vs' vs
  have hvz := unionC_valid hv hv'
  unfold unionC at hz
  obtain ⟨zs, hzs⟩ : ∃ zs, setL (ls ++ ls') = zs := ⟨_, rfl⟩
  obtain ⟨ms, hms⟩ : ∃ ms, mergeV vs vs' = ms := ⟨_, rfl⟩
  rw [hzs] at hl hvz hz
  rw [hms] at hml hvz hz
  have HZ := Lib.hid hz
  have HVZ := Lib.hid hvz
  have HZS := Lib.hid hzs
  have HMS := Lib.hid hms
  have HM := Lib.hid hm
  have HL := Lib.hid hl
  have HML := Lib.hid hml
  clear h1 h2 h1' h2' hz hvz hzs hms hm hl hml hal hv hv'
  go_enter Try.func35, Try.ntmps35
  go_wp2_with fail
  generalize ((w.alloc (.cells #[.slice A vs.length n, .slice B ls.length k] 25)).alloc (.cells #[.slice A' vs'.length n', .slice B' ls'.length k'] 25)).alloc (.cells #[.slice none 0 0, .slice none 0 0] 25) = W0 at K ⊢
  obtain ⟨q0, q1, q2, q3, q4⟩ := id K
  go_region_held3 (fun W => W.cell? ⟨w.heap.size, 0, none⟩ = some (.slice A vs.length n) ∧ W.cell? ⟨w.heap.size, 1, none⟩ = some (.slice B ls.length k) ∧ W.cell? ⟨w.heap.size + 1, 0, none⟩ = some (.slice A' vs'.length n') ∧ W.cell? ⟨w.heap.size + 1, 1, none⟩ = some (.slice B' ls'.length k') ∧ KB w w.heap.size (.slice A vs.length n) (.slice B ls.length k) (.slice A' vs'.length n') (.slice B' ls'.length k') [(.slice A vs.length n, vs), (.slice B ls.length k, ls), (.slice A' vs'.length n', vs'), (.slice B' ls'.length k', ls')] W)
    (first
      | assumption
      | (exact KC.drew (by assumption))
      | (exact KC.store (by assumption) (Nat.le_refl _) _ _ _ _ _ _))
    (first
      | (go_at_call 69; refine (ref2Merge_h3 _ _ vs vs' ms _ (KC.h (by assumption) (by simp)) (KC.h (by assumption) (by simp)) (by have := HM.out; omega) HMS.out).mono ?_
         rintro e wa ⟨⟨D3, d3, rfl, hv3⟩, hb1⟩
         have hS1 := KC.below (by assumption) hb1
         try (have hv4' := hv4.below hb1)
         clear hb1
         obtain ⟨r0, r1, r2, r3, r4⟩ := id hS1)
      | (go_at_call 68; refine (refUnion_h3 _ _ ls ls' zs _ (KC.h (by assumption) (by simp)) (KC.h (by assumption) (by simp)) (by have := HM.out; omega) HZS.out).mono ?_
         rintro e wb ⟨⟨D4, d4, rfl, hv4⟩, hb1⟩
         have hS2 := KC.below (by assumption) hb1
         try (have hv3' := hv3.below hb1)
         clear hb1
         obtain ⟨s0, s1, s2, s3, s4⟩ := id hS2)
      | (go_at_call 22; refine (ref3Compact_h _ _ ms zs us rs _ (by first | exact hv3' | exact hv3 | exact hv3'.drew | exact hv3.drew) (by first | exact hv4' | exact hv4 | exact hv4'.drew | exact hv4.drew) HVZ.out (by have := HM.out; have := HL.out; have := HML.out; omega) HZ.out).mono ?_
         rintro e wc ⟨⟨A5, n5, B5, m5, rfl, hv5, hv6⟩, hb1⟩
         have hS3 := KC.below (by assumption) hb1
         clear hb1
         obtain ⟨Ax, nx, cx, Bx, mx, dx, t0, t1, t2, t3, hB3⟩ := hS3.third
         obtain ⟨u0, u1, u2, u3, u4⟩ := id hS3))
  all_goals
    go_wp2_with fail
    have hs := hB3.set (.slice A5 us.length n5) (.slice B5 rs.length m5)
    have s6 := hs.cell0
    have s7 := hs.cell1
    refine bodyPost_ret (v := .agg #[.slice A5 us.length n5, .slice B5 rs.length m5]) (by simp [results, Try.results35, go_sem, s6, s7]) rfl ⟨⟨_, rfl, ?_⟩, below_set2 hS3.kb.2.2.2.1 (by omega) _ _⟩
    exact HoldsC.mk (hv5.set2 hB3 (by intro z; simp) (by intro z; simp)) (hv6.set2 hB3 (by intro z; simp) (by intro z; simp))

end Go.Proofs.Ytibnlifdeknicaa
