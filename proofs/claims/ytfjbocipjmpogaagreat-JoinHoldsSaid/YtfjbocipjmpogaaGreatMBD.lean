/- Several texts in one: CtxM, CtxW, ItmW, CarJ. -/
import Derived.Test.YtfjbocipjmpogaaGreatMBC
import Derived.Test.YtfjbocipjmpogaaGreatMAP
import Derived.Test.YtfjbocipjmpogaaGreatMAY
import Derived.Test.YtfjbocipjmpogaaGreatMAZ
namespace Go.Proofs.YtfjbocipjmpogaaGreat

section
open Go.RowKit

/-- What holds of two contexts' boxes and of a third box, whatever this holds. -/
def KBm (w0 : World) (g : Nat) (x y x' y' : Value) (L : List (Value × List (Int × Int))) (W : World) : Prop :=
  Blk2 W g x y ∧ Blk2 W (g + 1) x' y' ∧ (∃ A n c B m d, Blk2 W (g + 1 + 1) (.slice A n c) (.slice B m d)) ∧ Below w0.heap.size w0 W ∧ ∀ p ∈ L, Holds W p.1 p.2
def KCm (w0 : World) (g : Nat) (x y x' y' : Value) (L : List (Value × List (Int × Int))) (W : World) : Prop :=
  W.cell? ⟨g, 0, none⟩ = some x ∧ W.cell? ⟨g, 1, none⟩ = some y ∧ W.cell? ⟨g + 1, 0, none⟩ = some x' ∧ W.cell? ⟨g + 1, 1, none⟩ = some y' ∧ KBm w0 g x y x' y' L W
section
variable {w0 W W' : World} {g : Nat} {x y x' y' : Value} {L : List (Value × List (Int × Int))}
theorem KCm.mk (h : KBm w0 g x y x' y' L W) : KCm w0 g x y x' y' L W := ⟨h.1.cell0, h.1.cell1, h.2.1.cell0, h.2.1.cell1, h⟩
theorem KCm.kb (h : KCm w0 g x y x' y' L W) : KBm w0 g x y x' y' L W := h.2.2.2.2
theorem KBm.below (h : KBm w0 g x y x' y' L W) (hb : Below W.heap.size W W') : KBm w0 g x y x' y' L W' := by
  obtain ⟨h1, h2, ⟨A, n, c, B, m, d, h3⟩, h4, h5⟩ := h
  exact ⟨h1.below hb, h2.below hb, ⟨A, n, c, B, m, d, h3.below hb⟩, below_trans h4 hb, fun p hp => (h5 p hp).below hb⟩
theorem KCm.h {v : Value} {xs : List (Int × Int)} (h : KCm w0 g x y x' y' L W) (hm : (v, xs) ∈ L) : Holds W v xs := h.kb.2.2.2.2 _ hm
theorem KCm.below (h : KCm w0 g x y x' y' L W) (hb : Below W.heap.size W W') : KCm w0 g x y x' y' L W' := .mk (h.kb.below hb)
theorem KCm.drew (h : KCm w0 g x y x' y' L W) : KCm w0 g x y x' y' L W.drew := h.below (Below.refl _ W).drew
theorem KCm.store (h : KCm w0 g x y x' y' L W) (hg : w0.heap.size ≤ g) (A : Option Addr) (n c : Nat) (B : Option Addr) (m d : Nat) : KCm w0 g x y x' y' L ((W.setCell ⟨g + 1 + 1, 0, none⟩ (.slice A n c)).setCell ⟨g + 1 + 1, 1, none⟩ (.slice B m d)) := by
  obtain ⟨h1, h2, ⟨A', n', c', B', m', d', h3⟩, h4, h5⟩ := h.kb
  refine .mk ⟨(h1.other (by omega) 0 _).other (by omega) 1 _, (h2.other (by omega) 0 _).other (by omega) 1 _, ⟨_, _, _, _, _, _, h3.set _ _⟩, below_set2 h4 (by omega) _ _, fun p hp => ?_⟩
  exact (h5 p hp).set2 h3 (by intro z; simp) (by intro z; simp)
theorem KCm.third (h : KCm w0 g x y x' y' L W) : ∃ A n c B m d, W.cell? ⟨g + 1 + 1, 0, none⟩ = some (.slice A n c) ∧ W.cell? ⟨g + 1 + 1, 1, none⟩ = some (.slice B m d) ∧ W.frozen? ⟨g + 1 + 1, 0, none⟩ = false ∧ W.frozen? ⟨g + 1 + 1, 1, none⟩ = false ∧ Blk2 W (g + 1 + 1) (.slice A n c) (.slice B m d) := by
  obtain ⟨A, n, c, B, m, d, h3⟩ := h.kb.2.2.1
  exact ⟨A, n, c, B, m, d, h3.cell0, h3.cell1, h3.frozen 0, h3.frozen 1, h3⟩
end

set_option maxRecDepth 100000 in
set_option maxHeartbeats 4000000 in
theorem ref3Union (v v' : Value) (vs ls vs' ls' us rs : List (Int × Int)) (w : World) (h : HoldsC w v vs ls) (h' : HoldsC w v' vs' ls') (hv : validC vs ls = true) (hv' : validC vs' ls' = true)
    (hm : vs.length + ls.length + (vs'.length + ls'.length) ≤ 3000) (hz : unionC vs ls vs' ls' = (us, rs)) :
    Calls Tryz.prog 41 #[v, v'] w fun e w' => (∃ v', e = .returned v' ∧ HoldsC w' v' us rs) ∧ Below w.heap.size w w' := by
  obtain ⟨A, n, B, k, rfl, h1, h2⟩ := h
  obtain ⟨A', n', B', k', rfl, h1', h2'⟩ := h'
  have hal : Below w.heap.size w (((w.alloc (.cells #[.slice A vs.length n, .slice B ls.length k] 25)).alloc (.cells #[.slice A' vs'.length n', .slice B' ls'.length k'] 25)).alloc (.cells #[.slice none 0 0, .slice none 0 0] 25)) :=
    (((Below.refl _ w).alloc (Nat.le_refl _) _).alloc (by simp) _).alloc (by simp; omega) _
  have K : KCm w w.heap.size (.slice A vs.length n) (.slice B ls.length k) (.slice A' vs'.length n') (.slice B' ls'.length k') [(.slice A vs.length n, vs), (.slice B ls.length k, ls), (.slice A' vs'.length n', vs'), (.slice B' ls'.length k', ls')] (((w.alloc (.cells #[.slice A vs.length n, .slice B ls.length k] 25)).alloc (.cells #[.slice A' vs'.length n', .slice B' ls'.length k'] 25)).alloc (.cells #[.slice none 0 0, .slice none 0 0] 25)) := by
    refine .mk ⟨?_, ?_, ⟨none, 0, 0, none, 0, 0, ?_⟩, hal, ?_⟩
    · exact (heap_alloc_old _ _ (by simp; omega)).trans ((heap_alloc_old _ _ (by simp)).trans (heap_alloc_new w _))
    · have h := heap_alloc_new (w.alloc (.cells #[.slice A vs.length n, .slice B ls.length k] 25)) (.cells #[.slice A' vs'.length n', .slice B' ls'.length k'] 25)
      rw [World.size_alloc] at h
      exact (heap_alloc_old _ _ (by simp)).trans h
    · have h := heap_alloc_new ((w.alloc (.cells #[.slice A vs.length n, .slice B ls.length k] 25)).alloc (.cells #[.slice A' vs'.length n', .slice B' ls'.length k'] 25)) (.cells #[.slice none 0 0, .slice none 0 0] 25)
      rwa [World.size_alloc, World.size_alloc] at h
    · intro p hp
      rcases List.mem_cons.1 hp with rfl | hp
      · exact h1.below hal
      · rcases List.mem_cons.1 hp with rfl | hp
        · exact h2.below hal
        · rcases List.mem_cons.1 hp with rfl | hp
          · exact h1'.below hal
          · rcases List.mem_cons.1 hp with rfl | hp
            · exact h2'.below hal
            · cases hp
  have hl := setL_len (ls ++ ls')
  rw [List.length_append] at hl
  have hml := mergeV_len vs' vs
  have hvz := unionC_valid hv hv'
  unfold unionC at hz
  obtain ⟨zs, hzs⟩ : ∃ zs, setL (ls ++ ls') = zs := ⟨_, rfl⟩
  obtain ⟨ms, hms⟩ : ∃ ms, mergeV vs vs' = ms := ⟨_, rfl⟩
  rw [hzs] at hl hvz hz
  rw [hms] at hml hvz hz
  have HZ := Lib.hid hz
  have HVZ := Lib.hid hvz
  have HZS := Lib.hid hzs
  have HMS := Lib.hid hms
  have HM := Lib.hid hm
  have HL := Lib.hid hl
  have HML := Lib.hid hml
  clear h1 h2 h1' h2' hz hvz hzs hms hm hl hml hal hv hv'
  go_enter Tryz.func41, Tryz.ntmps41
  go_wp2_with fail
  generalize ((w.alloc (.cells #[.slice A vs.length n, .slice B ls.length k] 25)).alloc (.cells #[.slice A' vs'.length n', .slice B' ls'.length k'] 25)).alloc (.cells #[.slice none 0 0, .slice none 0 0] 25) = W0 at K ⊢
  obtain ⟨q0, q1, q2, q3, q4⟩ := id K
  go_region_held3 (fun W => W.cell? ⟨w.heap.size, 0, none⟩ = some (.slice A vs.length n) ∧ W.cell? ⟨w.heap.size, 1, none⟩ = some (.slice B ls.length k) ∧ W.cell? ⟨w.heap.size + 1, 0, none⟩ = some (.slice A' vs'.length n') ∧ W.cell? ⟨w.heap.size + 1, 1, none⟩ = some (.slice B' ls'.length k') ∧ KBm w w.heap.size (.slice A vs.length n) (.slice B ls.length k) (.slice A' vs'.length n') (.slice B' ls'.length k') [(.slice A vs.length n, vs), (.slice B ls.length k, ls), (.slice A' vs'.length n', vs'), (.slice B' ls'.length k', ls')] W)
    (first
      | assumption
      | (exact KCm.drew (by assumption))
      | (exact KCm.store (by assumption) (Nat.le_refl _) _ _ _ _ _ _))
    (first
      | (go_at_call 86; refine (ref2Merge_h3 _ _ vs vs' ms _ (KCm.h (by assumption) (by simp)) (KCm.h (by assumption) (by simp)) (by have := HM.out; omega) HMS.out).mono ?_
         rintro e wa ⟨⟨D3, d3, rfl, hv3⟩, hb1⟩
         have hS1 := KCm.below (by assumption) hb1
         try (have hv4' := hv4.below hb1)
         clear hb1
         obtain ⟨r0, r1, r2, r3, r4⟩ := id hS1)
      | (go_at_call 43; refine (refUnion_h3 _ _ ls ls' zs _ (KCm.h (by assumption) (by simp)) (KCm.h (by assumption) (by simp)) (by have := HM.out; omega) HZS.out).mono ?_
         rintro e wb ⟨⟨D4, d4, rfl, hv4⟩, hb1⟩
         have hS2 := KCm.below (by assumption) hb1
         try (have hv3' := hv3.below hb1)
         clear hb1
         obtain ⟨s0, s1, s2, s3, s4⟩ := id hS2)
      | (go_at_call 85; refine (ref3Compact_h _ _ ms zs us rs _ (by first | exact hv3' | exact hv3 | exact hv3'.drew | exact hv3.drew) (by first | exact hv4' | exact hv4 | exact hv4'.drew | exact hv4.drew) HVZ.out (by have := HM.out; have := HL.out; have := HML.out; omega) HZ.out).mono ?_
         rintro e wc ⟨⟨A5, n5, B5, m5, rfl, hv5, hv6⟩, hb1⟩
         have hS3 := KCm.below (by assumption) hb1
         clear hb1
         obtain ⟨Ax, nx, cx, Bx, mx, dx, t0, t1, t2, t3, hB3⟩ := hS3.third
         obtain ⟨u0, u1, u2, u3, u4⟩ := id hS3))
  all_goals
    go_wp2_with fail
    have hs := hB3.set (.slice A5 us.length n5) (.slice B5 rs.length m5)
    have s6 := hs.cell0
    have s7 := hs.cell1
    refine bodyPost_ret (v := .agg #[.slice A5 us.length n5, .slice B5 rs.length m5]) (by simp [results, Tryz.results41, go_sem, s6, s7]) rfl ⟨⟨_, rfl, ?_⟩, below_set2 hS3.kb.2.2.2.1 (by omega) _ _⟩
    exact HoldsC.mk (hv5.set2 hB3 (by intro z; simp) (by intro z; simp)) (hv6.set2 hB3 (by intro z; simp) (by intro z; simp))

end

section
open Go.RowKit

theorem CtxR.t {us rs : List (Int × Int)} {w w' : World} {e : Ending} (h : CtxR true us rs w e w') : (∃ A n B m, e = .returned (.tuple #[.agg #[.slice A us.length n, .slice B rs.length m], .int .i64 0]) ∧ MineV w w' (.slice A us.length n) us ∧ MineV w w' (.slice B rs.length m) rs) ∧ Below w.heap.size w w' := by
  obtain ⟨⟨h1, _⟩, hb⟩ := h
  obtain ⟨x, y, he, hx, hy⟩ := h1 rfl
  have hx0 := hx
  have hy0 := hy
  obtain ⟨A, n, rfl, _⟩ := hx.holds
  obtain ⟨B, m, rfl, _⟩ := hy.holds
  exact ⟨⟨A, n, B, m, he, hx0, hy0⟩, hb⟩
theorem CtxR.f {us rs : List (Int × Int)} {w w' : World} {e : Ending} (h : CtxR false us rs w e w') : e = .returned (.tuple #[.agg #[.slice none 0 0, .slice none 0 0], .int .i64 2]) ∧ Below w.heap.size w w' := ⟨h.1.2 rfl, h.2⟩

theorem vecMerge_t (v v' : Value) (xs ys zs : List (Int × Int)) (w : World) (h : Holds w v xs) (h' : Holds w v' ys) (hm : xs.length + ys.length ≤ 100000) (hv : validV xs = true) (hv' : validV ys = true) (hz : mergeV xs ys = zs) :
    Calls Tryz.prog 67 #[v, v'] w fun e w' => (∃ D d, e = .returned (.tuple #[.slice D zs.length d, .int .i64 0]) ∧ Holds w' (.slice D zs.length d) zs) ∧ Below w.heap.size w w' := by
  have h0 := h
  have h0' := h'
  obtain ⟨A, c, rfl, _⟩ := h
  obtain ⟨A', c', rfl, _⟩ := h'
  refine (vecMerge A A' xs ys c c' w h0 h0' hm).mono ?_
  rintro e w' ⟨h1, _⟩
  obtain ⟨v, he, hmn⟩ := h1 (by rw [hv, hv']; rfl)
  rw [hz] at hmn
  have hv0 := hmn.holds
  obtain ⟨D, d, rfl, _⟩ := hmn.holds
  exact ⟨⟨D, d, he, hv0⟩, hmn.2⟩

theorem KCm.bound {w0 W : World} {g : Nat} {x y x' y' : Value} {L : List (Value × List (Int × Int))} (h : KCm w0 g x y x' y' L W) : g + 1 + 1 < W.heap.size ∧ w0.heap.size ≤ W.heap.size := by
  obtain ⟨A, n, c, B, m, d, h3⟩ := h.kb.2.2.1
  exact ⟨h3.lt, h.kb.2.2.2.1.size⟩
theorem KCm.bel {w0 W : World} {g : Nat} {x y x' y' : Value} {L : List (Value × List (Int × Int))} (h : KCm w0 g x y x' y' L W) : Below w0.heap.size w0 W := h.kb.2.2.2.1

set_option maxRecDepth 100000 in
set_option maxHeartbeats 4000000 in
theorem ctxUnion (v v' : Value) (vs ls vs' ls' : List (Int × Int)) (w : World) (h : HoldsC w v vs ls) (h' : HoldsC w v' vs' ls') (hm : vs.length + ls.length + (vs'.length + ls'.length) ≤ 3000) :
    Calls Tryz.prog 31 #[v, v'] w fun e w' => CtxR (validC vs ls && validC vs' ls') (unionC vs ls vs' ls').1 (unionC vs ls vs' ls').2 w e w' := by
  obtain ⟨A, n, B, k, rfl, h1, h2⟩ := h
  obtain ⟨A', n', B', k', rfl, h1', h2'⟩ := h'
  have hal : Below w.heap.size w (((w.alloc (.cells #[.slice A vs.length n, .slice B ls.length k] 25)).alloc (.cells #[.slice A' vs'.length n', .slice B' ls'.length k'] 25)).alloc (.cells #[.slice none 0 0, .slice none 0 0] 25)) :=
    (((Below.refl _ w).alloc (Nat.le_refl _) _).alloc (by simp) _).alloc (by simp; omega) _
  have K : KCm w w.heap.size (.slice A vs.length n) (.slice B ls.length k) (.slice A' vs'.length n') (.slice B' ls'.length k') [(.slice A vs.length n, vs), (.slice B ls.length k, ls), (.slice A' vs'.length n', vs'), (.slice B' ls'.length k', ls')] (((w.alloc (.cells #[.slice A vs.length n, .slice B ls.length k] 25)).alloc (.cells #[.slice A' vs'.length n', .slice B' ls'.length k'] 25)).alloc (.cells #[.slice none 0 0, .slice none 0 0] 25)) := by
    refine .mk ⟨?_, ?_, ⟨none, 0, 0, none, 0, 0, ?_⟩, hal, ?_⟩
    · exact (heap_alloc_old _ _ (by simp; omega)).trans ((heap_alloc_old _ _ (by simp)).trans (heap_alloc_new w _))
    · have h := heap_alloc_new (w.alloc (.cells #[.slice A vs.length n, .slice B ls.length k] 25)) (.cells #[.slice A' vs'.length n', .slice B' ls'.length k'] 25)
      rw [World.size_alloc] at h
      exact (heap_alloc_old _ _ (by simp)).trans h
    · have h := heap_alloc_new ((w.alloc (.cells #[.slice A vs.length n, .slice B ls.length k] 25)).alloc (.cells #[.slice A' vs'.length n', .slice B' ls'.length k'] 25)) (.cells #[.slice none 0 0, .slice none 0 0] 25)
      rwa [World.size_alloc, World.size_alloc] at h
    · intro p hp
      rcases List.mem_cons.1 hp with rfl | hp
      · exact h1.below hal
      · rcases List.mem_cons.1 hp with rfl | hp
        · exact h2.below hal
        · rcases List.mem_cons.1 hp with rfl | hp
          · exact h1'.below hal
          · rcases List.mem_cons.1 hp with rfl | hp
            · exact h2'.below hal
            · cases hp
  have KH := Lib.hid K
  obtain ⟨k0, k1, k2, k3, _⟩ := K
  have HC1 := fun (b : Bool) (hb : validC vs ls = b) W (K : KCm w w.heap.size (.slice A vs.length n) (.slice B ls.length k) (.slice A' vs'.length n') (.slice B' ls'.length k') [(.slice A vs.length n, vs), (.slice B ls.length k, ls), (.slice A' vs'.length n', vs'), (.slice B' ls'.length k', ls')] W) =>
    ctxValid (.agg #[.slice A vs.length n, .slice B ls.length k]) vs ls b W (HoldsC.mk (K.h (by simp)) (K.h (by simp))) hb
  have HC2 := fun (b : Bool) (hb : validC vs' ls' = b) W (K : KCm w w.heap.size (.slice A vs.length n) (.slice B ls.length k) (.slice A' vs'.length n') (.slice B' ls'.length k') [(.slice A vs.length n, vs), (.slice B ls.length k, ls), (.slice A' vs'.length n', vs'), (.slice B' ls'.length k', ls')] W) =>
    ctxValid (.agg #[.slice A' vs'.length n', .slice B' ls'.length k']) vs' ls' b W (HoldsC.mk (K.h (by simp)) (K.h (by simp))) hb
  have HM := Lib.hid hm
  clear h1 h2 h1' h2' hal hm
  cases hv : validC vs ls with
  | false =>
    have HV := Lib.hid (HC1 false hv)
    clear hv HC1 HC2
    go_enter Tryz.func31, Tryz.ntmps31
    go_wp2_with fail
    refine (HV.out _ KH.out).mono ?_
    rintro e w1 ⟨rfl, hb1⟩
    have K1 := Lib.hid (KH.out.below hb1)
    obtain ⟨Ax, nx, cx, Bx, mx, dx, t0, t1, t2, t3, hB3⟩ := K1.out.third
    have HB3 := Lib.hid hB3
    clear hB3 hb1 k0 k1 k2 k3
    go_wp2_with fail
    have hs := HB3.out.set (.slice none 0 0) (.slice none 0 0)
    have s6 := hs.cell0
    have s7 := hs.cell1
    refine bodyPost_ret (v := .tuple #[.agg #[.slice none 0 0, .slice none 0 0], .int .i64 2]) (by simp [results, Tryz.results31, go_sem, s6, s7]) rfl ⟨⟨fun h => (by cases h), fun _ => rfl⟩, below_set2 K1.out.bel (by omega) _ _⟩
  | true =>
    have HV := Lib.hid (HC1 true hv)
    cases hv' : validC vs' ls' with
    | false =>
      have HV' := Lib.hid (HC2 false hv')
      clear hv hv' HC1 HC2
      go_enter Tryz.func31, Tryz.ntmps31
      go_wp2_with fail
      refine (HV.out _ KH.out).mono ?_
      rintro e w1 ⟨rfl, hb1⟩
      have K1 := Lib.hid (KH.out.below hb1)
      clear hb1 k0 k1 k2 k3
      obtain ⟨k0, k1, k2, k3, _⟩ := K1.out
      go_wp2_with fail
      refine (HV'.out _ K1.out).mono ?_
      rintro e w2 ⟨rfl, hb1⟩
      have K2 := Lib.hid (K1.out.below hb1)
      obtain ⟨Ax, nx, cx, Bx, mx, dx, t0, t1, t2, t3, hB3⟩ := K2.out.third
      have HB3 := Lib.hid hB3
      clear hB3 hb1 k0 k1 k2 k3
      go_wp2_with fail
      have hs := HB3.out.set (.slice none 0 0) (.slice none 0 0)
      have s6 := hs.cell0
      have s7 := hs.cell1
      refine bodyPost_ret (v := .tuple #[.agg #[.slice none 0 0, .slice none 0 0], .int .i64 2]) (by simp [results, Tryz.results31, go_sem, s6, s7]) rfl ⟨⟨fun h => (by cases h), fun _ => rfl⟩, below_set2 K2.out.bel (by omega) _ _⟩
    | true =>
      have HV' := Lib.hid (HC2 true hv')
      have hvz := unionC_valid hv hv'
      have hl := setL_len (ls ++ ls')
      rw [List.length_append] at hl
      have hml := mergeV_len vs' vs
      obtain ⟨zs, hzs⟩ : ∃ zs, setL (ls ++ ls') = zs := ⟨_, rfl⟩
      obtain ⟨ms, hms⟩ : ∃ ms, mergeV vs vs' = ms := ⟨_, rfl⟩
      obtain ⟨us, rs, hz⟩ : ∃ us rs, unionC vs ls vs' ls' = (us, rs) := ⟨_, _, rfl⟩
      have hz2 := hz
      unfold unionC at hz2
      rw [hzs] at hvz hl hz2
      rw [hms] at hvz hml hz2
      rw [hz]
      have HL := Lib.hid hl
      have HML := Lib.hid hml
      have HMG := Lib.hid fun W (K : KCm w w.heap.size (.slice A vs.length n) (.slice B ls.length k) (.slice A' vs'.length n') (.slice B' ls'.length k') [(.slice A vs.length n, vs), (.slice B ls.length k, ls), (.slice A' vs'.length n', vs'), (.slice B' ls'.length k', ls')] W) =>
        vecMerge_t (.slice A vs.length n) (.slice A' vs'.length n') vs vs' ms W (K.h (by simp)) (K.h (by simp)) (by have := HM.out; omega) (validC_iff.1 hv).1 (validC_iff.1 hv').1 hms
      have HUN := Lib.hid fun W (K : KCm w w.heap.size (.slice A vs.length n) (.slice B ls.length k) (.slice A' vs'.length n') (.slice B' ls'.length k') [(.slice A vs.length n, vs), (.slice B ls.length k, ls), (.slice A' vs'.length n', vs'), (.slice B' ls'.length k', ls')] W) =>
        dotUnion_h (.slice B ls.length k) (.slice B' ls'.length k') ls ls' zs W (K.h (by simp)) (K.h (by simp)) (by have := HM.out; omega) hzs
      have HC := Lib.hid fun v W (h : HoldsC W v ms zs) => ctxCompact_t v ms zs us rs W h hvz (by have := HM.out; have := HL.out; have := HML.out; omega) hz2
      clear hv hv' hvz hl hml hzs hms hz hz2 HC1 HC2
      go_enter Tryz.func31, Tryz.ntmps31
      go_wp2_with fail
      refine (HV.out _ KH.out).mono ?_
      rintro e w1 ⟨rfl, hb1⟩
      have K1 := Lib.hid (KH.out.below hb1)
      clear hb1 k0 k1 k2 k3
      obtain ⟨k0, k1, k2, k3, _⟩ := K1.out
      go_wp2_with fail
      refine (HV'.out _ K1.out).mono ?_
      rintro e w2 ⟨rfl, hb1⟩
      have K2 := Lib.hid (K1.out.below hb1)
      clear hb1 k0 k1 k2 k3
      obtain ⟨k0, k1, k2, k3, _⟩ := K2.out
      go_wp2_with fail
      refine (HMG.out _ K2.out).mono ?_
      rintro e w3 ⟨⟨D3, d3, rfl, hv3⟩, hb1⟩
      have K3 := Lib.hid (K2.out.below hb1)
      have V3 := Lib.hid hv3
      clear hb1 hv3 k0 k1 k2 k3
      obtain ⟨k0, k1, k2, k3, _⟩ := K3.out
      go_wp2_with fail
      refine (HUN.out _ K3.out).mono ?_
      rintro e w4 ⟨⟨D4, d4, rfl, hv4⟩, hb1⟩
      have K4 := Lib.hid (K3.out.below hb1)
      have V4 := Lib.hid (V3.out.below hb1)
      have V5 := Lib.hid hv4
      clear hb1 hv4 k0 k1 k2 k3
      go_wp2_with fail
      refine (HC.out _ _ (HoldsC.mk V4.out V5.out)).mono ?_
      rintro e w5 ⟨⟨A5, n5, B5, m5, rfl, hv5, hv6⟩, hb1⟩
      have K5 := Lib.hid (K4.out.below hb1)
      have H5 := Lib.hid hv5
      have H6 := Lib.hid hv6
      obtain ⟨Ax, nx, cx, Bx, mx, dx, t0, t1, t2, t3, hB3⟩ := K5.out.third
      have HB3 := Lib.hid hB3
      clear hB3 hb1 hv5 hv6
      go_wp2_with fail
      have hs := HB3.out.set (.slice A5 us.length n5) (.slice B5 rs.length m5)
      have s6 := hs.cell0
      have s7 := hs.cell1
      have hbd := K4.out.bound
      refine bodyPost_ret (v := .tuple #[.agg #[.slice A5 us.length n5, .slice B5 rs.length m5], .int .i64 0]) (by simp [results, Tryz.results31, go_sem, s6, s7]) rfl ⟨⟨fun _ => ⟨_, _, rfl, ?_, ?_⟩, fun h => (by cases h)⟩, below_set2 K5.out.bel (by omega) _ _⟩
      · exact H5.out.set2 hbd.2 hbd.1 K5.out.bel (by omega) _ _
      · exact H6.out.set2 hbd.2 hbd.1 K5.out.bel (by omega) _ _

end

section
open Go.RowKit

theorem OwnI.grow {W W' : World} {B : Nat} {v v' : Value} {ys : List ItV} {y : ItV} (h : OwnI W B v ys) (hy : RowM W B (slV y) y.ms) (hr : RowT W' B v' (ys ++ [y])) (hg : W.grownBy W' v.ownBlock) : OwnI W' B v' (ys ++ [y]) := by
  refine ⟨hr, fun z hz => ?_⟩
  have hk : RowM W B (slV z) z.ms := by
    rcases List.mem_append.1 hz with h' | h'
    · exact h.2 z h'
    · obtain rfl : z = y := by simpa using h'
      exact hy
  refine World.ownsRow.kept hk hg ?_
  rcases h.1.2 with ⟨e, _⟩ | ⟨g, c, cur, e, _, hgg, _⟩
  · rw [e]
    rcases RowM.form hk with ⟨e1, _⟩ | ⟨g1, c1, cur1, e1, _⟩
    · left; rw [e1]; rfl
    · right; rw [e1]; simp [Value.ownBlock]
  · right
    rw [e]
    exact RowM.ne hk hgg

/-- The item in its box, the row that is being made. -/
structure KOwn (w : World) (bx : Nat) (x : ItV) (v : Value) (ys : List ItV) (W : World) : Prop where
  blk : BlkI W bx x
  own : OwnI W w.heap.size v ys
  bel : Below w.heap.size w W
  okx : ItOK W x
  ne : v.ownBlock ≠ some bx
section
variable {w W W' : World} {x : ItV} {bx : Nat} {v : Value} {ys : List ItV}
theorem KOwn.next (h : KOwn w bx x v ys W) (hb : Below W.heap.size W W') : KOwn w bx x v ys W' := ⟨h.blk.below hb, h.own.below hb, below_trans h.bel hb, h.okx.below hb, h.ne⟩
theorem KOwn.drew (h : KOwn w bx x v ys W) : KOwn w bx x v ys W.drew := h.next (Below.refl _ _).drew
theorem KOwn.alloc (h : KOwn w bx x v ys W) (o : Obj) : KOwn w bx x v ys (W.alloc o) := h.next ((Below.refl _ _).alloc (Nat.le_refl _) _)
theorem KOwn.grown (h : KOwn w bx x v ys W) (hg : W.grownBy W' none) : KOwn w bx x v ys W' := h.next ((Below.refl _ _).grown hg (Nat.le_refl _) (fun _ h => by cases h))
theorem KOwn.sp (h : KOwn w bx x v ys W) : W.cell? ⟨bx, 0, none⟩ = some (.string ⟨x.nm.toArray⟩) ∧ W.cell? ⟨bx, 1, none⟩ = some (.slice x.A x.ms.length x.c) ∧ bx < W.heap.size := ⟨h.blk.cell0, h.blk.cell1, h.blk.lt⟩
theorem KOwn.fin {v' : Value} {y : ItV} (h : KOwn w bx x v ys W) (hy : RowM W w.heap.size (slV y) y.ms) (hr : RowT W' w.heap.size v' (ys ++ [y])) (hg : W.grownBy W' v.ownBlock) : OwnI W' w.heap.size v' (ys ++ [y]) ∧ Below w.heap.size w W' ∧ W'.cell? ⟨bx, 0, none⟩ = some (.string ⟨x.nm.toArray⟩) ∧ W'.cell? ⟨bx, 1, none⟩ = some (.slice x.A x.ms.length x.c) ∧ bx < W'.heap.size :=
  have hb : BlkI W' bx x := (hg.block _ h.blk.lt (fun e => h.ne e.symm)).trans h.blk
  ⟨OwnI.grow h.own hy hr hg, h.bel.grown hg h.bel.size (fun k hk => (h.own.1.lt k hk).1), hb.cell0, hb.cell1, hb.lt⟩
theorem KOwn.size (h : KOwn w bx x v ys W) : w.heap.size ≤ W.heap.size := h.bel.size
end

/-- Items in boxes, and nothing old has changed. -/
structure KZ (w : World) (L : List (Nat × ItV)) (W : World) : Prop where
  box : ∀ p ∈ L, BlkI W p.1 p.2 ∧ ItOK W p.2
  bel : Below w.heap.size w W
section
variable {w W W' : World} {L : List (Nat × ItV)}
theorem KZ.next (h : KZ w L W) (hb : Below W.heap.size W W') : KZ w L W' := ⟨fun p hp => ⟨(h.box p hp).1.below hb, (h.box p hp).2.below hb⟩, below_trans h.bel hb⟩
theorem KZ.drew (h : KZ w L W) : KZ w L W.drew := h.next (Below.refl _ _).drew
theorem KZ.alloc (h : KZ w L W) (o : Obj) : KZ w L (W.alloc o) := h.next ((Below.refl _ _).alloc (Nat.le_refl _) _)
theorem KZ.c0 (h : KZ w L W) {g : Nat} {x : ItV} (hm : (g, x) ∈ L) : W.cell? ⟨g, 0, none⟩ = some (.string ⟨x.nm.toArray⟩) := (h.box _ hm).1.cell0
theorem KZ.c1 (h : KZ w L W) {g : Nat} {x : ItV} (hm : (g, x) ∈ L) : W.cell? ⟨g, 1, none⟩ = some (.slice x.A x.ms.length x.c) := (h.box _ hm).1.cell1
theorem KZ.lt (h : KZ w L W) {g : Nat} {x : ItV} (hm : (g, x) ∈ L) : g < W.heap.size := (h.box _ hm).1.lt
theorem KZ.ok (h : KZ w L W) {g : Nat} {x : ItV} (hm : (g, x) ∈ L) : ItOK W x := (h.box _ hm).2
theorem KZ.push (h : KZ w L W) (x : ItV) (ho : ItOK W x) (n : Nat) (hn : W.heap.size = n) : KZ w (L ++ [(n, x)]) (W.alloc (.cells #[.string ⟨x.nm.toArray⟩, .slice x.A x.ms.length x.c] 49)) := by
  subst hn
  have hb := (Below.refl W.heap.size W).alloc (Nat.le_refl _) (.cells #[.string ⟨x.nm.toArray⟩, .slice x.A x.ms.length x.c] 49)
  refine ⟨fun p hp => ?_, (h.next hb).bel⟩
  rcases List.mem_append.1 hp with k | k
  · exact (h.next hb).box p k
  · obtain rfl : p = (W.heap.size, x) := by simpa using k
    exact ⟨BlkI.new W x, ho.below hb⟩
/-- The two boxes of one that looks at two. -/
theorem KZ.sp2 {g g' : Nat} {x y : ItV} (h : KZ w [(g, x), (g', y)] W) : W.cell? ⟨g, 0, none⟩ = some (.string ⟨x.nm.toArray⟩) ∧ W.cell? ⟨g, 1, none⟩ = some (.slice x.A x.ms.length x.c) ∧ W.cell? ⟨g', 0, none⟩ = some (.string ⟨y.nm.toArray⟩) ∧ W.cell? ⟨g', 1, none⟩ = some (.slice y.A y.ms.length y.c) ∧ g < W.heap.size ∧ g' < W.heap.size ∧ KZ w [(g, x), (g', y)] W :=
  ⟨h.c0 (by simp), h.c1 (by simp), h.c0 (by simp), h.c1 (by simp), h.lt (x := x) (by simp), h.lt (x := y) (by simp), h⟩
end
/-- One item, two items that were written out. -/
theorem holdsA (W : World) (n : Nat) (x : ItV) (hn : W.heap.size = n) (ho : ItOK W x) : HoldsX (W.alloc (.cells #[.string ⟨x.nm.toArray⟩, .slice x.A x.ms.length x.c] 49)) (.slice (some ⟨n, 0, none⟩) 1 1) [x] := by
  subst hn
  exact ⟨_, 1, rfl, ⟨SlAt.one (heap_alloc_new W _), fun y hy => by
    obtain rfl : y = x := by simpa using hy
    exact ho.below ((Below.refl _ _).alloc (Nat.le_refl _) _)⟩, by simp, by simp [maxLen]⟩
end

section
open Go.RowKit

abbrev RowC (W : World) (B : Nat) (v : Value) (ds : List (Int × Int)) : Prop := W.ownsRow B 51 2 v ds.length (cellsOf encD ds)
theorem RowC.below {W W' : World} {B : Nat} {v : Value} {ds : List (Int × Int)} (h : RowC W B v ds) (hb : Below W.heap.size W W') : RowC W' B v ds := by
  refine World.ownsRow.kept h (grown_of_below hb none) ?_
  obtain ⟨A, c, rfl, _⟩ := SlAt.of_own encD_len h
  cases A <;> simp [Value.ownBlock]
/-- A box of a cart that was there ahead of a step. -/
theorem boxC_kept {W Wb : World} {n : Nat} {a b e : Value} (hb : Below W.heap.size W Wb) (hn : W.heap[n]? = some (.cells #[a, b, e] 28 (0, 0))) :
    Wb.heap[n]? = some (.cells #[a, b, e] 28 (0, 0)) ∧ Wb.cell? ⟨n, 0, none⟩ = some a ∧ Wb.cell? ⟨n, 1, none⟩ = some b ∧ Wb.cell? ⟨n, 2, none⟩ = some e ∧ Wb.frozen? ⟨n, 0, none⟩ = false ∧ Wb.frozen? ⟨n, 1, none⟩ = false ∧ Wb.frozen? ⟨n, 2, none⟩ = false ∧ n < Wb.heap.size := by
  have h := (hb.block n (Array.getElem?_eq_some_iff.1 hn).1).trans hn
  exact ⟨h, by simp [World.cell?, h], by simp [World.cell?, h], by simp [World.cell?, h], by simp [World.frozen?, h], by simp [World.frozen?, h], by simp [World.frozen?, h], (Array.getElem?_eq_some_iff.1 h).1⟩
theorem KR.set3 {w W : World} {c : CaV} (h : KR w c W) {g : Nat} (hg : w.heap.size + 1 < g) (u v z : Value) : KR w c (((W.setCell ⟨g, 0, none⟩ u).setCell ⟨g, 1, none⟩ v).setCell ⟨g, 2, none⟩ z) :=
  ⟨⟨(set3_other W g w.heap.size u v z (by omega)).trans h.kb.blk, ((h.kb.bel.setCell (p := ⟨g, 0, none⟩) (by simp; omega) _).setCell (p := ⟨g, 1, none⟩) (by simp; omega) _).setCell (p := ⟨g, 2, none⟩) (by simp; omega) _, h.kb.ok0⟩, (set3_other W g (w.heap.size + 1) u v z (by omega)).trans h.res⟩
theorem KR.sp {w W : World} {c : CaV} (h : KR w c W) : W.cell? ⟨w.heap.size, 0, none⟩ = some c.v ∧ W.cell? ⟨w.heap.size, 1, none⟩ = some c.l ∧ W.cell? ⟨w.heap.size, 2, none⟩ = some c.i ∧ w.heap.size < W.heap.size ∧ KR w c W := ⟨h.kb.sp.1, h.kb.sp.2.1, h.kb.sp.2.2.1, h.kb.sp.2.2.2.1, h⟩
theorem KR.size {w W : World} {c : CaV} (h : KR w c W) : w.heap.size ≤ W.heap.size := h.kb.bel.size
theorem KR.gbel {w W W' : World} {c : CaV} (_ : KR w c W) (hg : W.grownBy W' none) : Below W.heap.size W W' := (Below.refl _ _).grown hg (Nat.le_refl _) (fun _ h => by cases h)
theorem KR.grown {w W W' : World} {c : CaV} (h : KR w c W) (hg : W.grownBy W' none) : KR w c W' := h.next (h.gbel hg)
theorem KR.holdsV {w W : World} {c : CaV} (h : KR w c W) : DotsAt W c.V c.vs := by
  obtain ⟨A, n, e, h1, _⟩ := h.kb.ok.1
  injection e with e1 e2 e3
  rw [e1]; exact h1
theorem KR.holdsL {w W : World} {c : CaV} (h : KR w c W) : DotsAt W c.L c.ls := by
  obtain ⟨A, n, e, h1, _⟩ := h.kb.ok.2.1
  injection e with e1 e2 e3
  rw [e1]; exact h1
/-- The copy that is being made: its box, its rows. -/
structure KY (w : World) (c : CaV) (g : Nat) (v l iv : Value) (ys : List ItV) (W : World) : Prop where
  kr : KR w c W
  out : W.heap[g]? = some (.cells #[v, l, iv] 28 (0, 0))
  gb : w.heap.size + 1 < g
  rv : RowC W w.heap.size v c.vs
  rl : RowC W w.heap.size l c.ls
  ri : OwnI W w.heap.size iv ys

theorem boxC_filled {W : World} {n : Nat} {a b e : Value} (h : W.heap[n]? = some (.cells #[a, b, e] 28 (0, 0))) (u v z : Value) : (((W.setCell ⟨n, 0, none⟩ u).setCell ⟨n, 1, none⟩ v).setCell ⟨n, 2, none⟩ z).heap[n]? = some (.cells #[u, v, z] 28 (0, 0)) := by
  have e1 : (W.setCell ⟨n, 0, none⟩ u).heap[n]? = some (.cells #[u, b, e] 28 (0, 0)) := by
    show (W.heap.modify n _)[n]? = _
    rw [Array.getElem?_modify, if_pos rfl, h]
    rfl
  have e2 : ((W.setCell ⟨n, 0, none⟩ u).setCell ⟨n, 1, none⟩ v).heap[n]? = some (.cells #[u, v, e] 28 (0, 0)) := by
    show ((W.setCell ⟨n, 0, none⟩ u).heap.modify n _)[n]? = _
    rw [Array.getElem?_modify, if_pos rfl, e1]
    rfl
  show (((W.setCell ⟨n, 0, none⟩ u).setCell ⟨n, 1, none⟩ v).heap.modify n _)[n]? = _
  rw [Array.getElem?_modify, if_pos rfl, e2]
  rfl
theorem row_set1 {W : World} {B k m n o : Nat} {e t : TypeId} {x y : Value} {xs : List Value} {cur : Array Value} {z : Nat × Nat} (h : W.ownsRow B e k x m xs) (hg : W.heap[n]? = some (.cells cur t z)) (ht : t ≠ e) : (W.setCell ⟨n, o, none⟩ y).ownsRow B e k x m xs :=
  ownsRow_setCell_other (a := ⟨n, o, none⟩) h (row_ne h hg ht) y
theorem row_set3 {W : World} {B k m n : Nat} {e t : TypeId} {x u v y : Value} {xs : List Value} {cur : Array Value} {z : Nat × Nat} (h : W.ownsRow B e k x m xs) (hg : W.heap[n]? = some (.cells cur t z)) (ht : t ≠ e) : (((W.setCell ⟨n, 0, none⟩ u).setCell ⟨n, 1, none⟩ v).setCell ⟨n, 2, none⟩ y).ownsRow B e k x m xs :=
  have hn := row_ne h hg ht
  ownsRow_setCell_other (a := ⟨n, 2, none⟩) (ownsRow_setCell_other (a := ⟨n, 1, none⟩) (ownsRow_setCell_other (a := ⟨n, 0, none⟩) h hn u) hn v) hn y
theorem KY.new {w W : World} {c : CaV} {v l : Value} (h : KR w c W) (hv : RowC W w.heap.size v c.vs) (hl : RowC W w.heap.size l c.ls) : KY w c W.heap.size v l (.slice none 0 0) [] (W.alloc (.cells #[v, l, .slice none 0 0] 28)) :=
  have hb := (Below.refl W.heap.size W).alloc (Nat.le_refl _) (.cells #[v, l, .slice none 0 0] 28)
  ⟨h.alloc _, heap_alloc_new W _, h.lt, hv.below hb, hl.below hb, OwnI.nil _ _⟩
theorem KY.set {w W : World} {c : CaV} {v l a b e : Value} {g : Nat} (h : KR w c W) (hg : W.heap[g]? = some (.cells #[a, b, e] 28 (0, 0))) (hgg : w.heap.size + 1 < g) (hv : RowC W w.heap.size v c.vs) (hl : RowC W w.heap.size l c.ls) : KY w c g v l (.slice none 0 0) [] (((W.setCell ⟨g, 0, none⟩ v).setCell ⟨g, 1, none⟩ l).setCell ⟨g, 2, none⟩ (.slice none 0 0)) :=
  ⟨h.set3 hgg _ _ _, boxC_filled hg _ _ _, hgg, row_set3 hv hg (by decide), row_set3 hl hg (by decide), OwnI.nil _ _⟩

end

end Go.Proofs.YtfjbocipjmpogaaGreat
