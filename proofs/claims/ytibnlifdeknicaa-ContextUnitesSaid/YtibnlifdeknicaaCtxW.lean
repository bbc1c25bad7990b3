/- Package context: Of, Union, Within. -/
import Derived.Test.YtibnlifdeknicaaCtxV
namespace Go.Proofs.Ytibnlifdeknicaa
open Go.RowKit

theorem CtxR.t {us rs : List (Int × Int)} {w w' : World} {e : Ending} (h : CtxR true us rs w e w') : (∃ A n B m, e = .returned (.tuple #[.agg #[.slice A us.length n, .slice B rs.length m], .int .i64 0]) ∧ MineV w w' (.slice A us.length n) us ∧ MineV w w' (.slice B rs.length m) rs) ∧ Below w.heap.size w w' := by
  obtain ⟨⟨h1, _⟩, hb⟩ := h
  obtain ⟨x, y, he, hx, hy⟩ := h1 rfl
  have hx0 := hx
  have hy0 := hy
  obtain ⟨A, n, rfl, _⟩ := hx.holds
  obtain ⟨B, m, rfl, _⟩ := hy.holds
  exact ⟨⟨A, n, B, m, he, hx0, hy0⟩, hb⟩
theorem CtxR.f {us rs : List (Int × Int)} {w w' : World} {e : Ending} (h : CtxR false us rs w e w') : e = .returned (.tuple #[.agg #[.slice none 0 0, .slice none 0 0], .int .i64 2]) ∧ Below w.heap.size w w' := ⟨h.1.2 rfl, h.2⟩

set_option maxRecDepth 100000 in
set_option maxHeartbeats 2000000 in
theorem ctxOf (x : Value) (m : List (Int × Int)) (w : World) (hx : Holds w x m) (hm : m.length ≤ 1000) :
    Calls Try.prog 67 #[x] w fun e w' => CtxR (okL m) (addC [] [] m).1 (addC [] [] m).2 w e w' := by
  have hal : Below w.heap.size w (w.alloc (.cells #[.slice none 0 0, .slice none 0 0] 25)) := (Below.refl _ w).alloc (Nat.le_refl _) _
  have hbx : Blk2 (w.alloc (.cells #[.slice none 0 0, .slice none 0 0] 25)) w.heap.size (.slice none 0 0) (.slice none 0 0) := heap_alloc_new w _
  have HA := ctxAdd (.agg #[.slice none 0 0, .slice none 0 0]) x [] [] m _ (HoldsC.mk (Holds.nil _) (Holds.nil _)) (hx.below hal) (by simpa using hm)
  rw [show (validC [] [] && okL m) = okL m from rfl] at HA
  obtain ⟨us, rs, hz⟩ : ∃ us rs, addC [] [] m = (us, rs) := ⟨_, _, rfl⟩
  rw [hz] at HA ⊢
  have HAL := Lib.hid hal
  have HBX := Lib.hid hbx
  cases hok : okL m with
  | false =>
    rw [hok] at HA
    have H := Lib.hid (HA.mono fun e w' h => h.f)
    clear HA hok hx hal hbx hz
    go_enter Try.func67, Try.ntmps67
    go_wp2_with fail
    refine H.out.mono ?_
    rintro e w1 ⟨rfl, hb1⟩
    have y1 := HBX.out.below hb1
    have B1 := Lib.hid (below_trans HAL.out hb1)
    have Y1 := Lib.hid y1
    have d0 := y1.cell0
    have d1 := y1.cell1
    have f0 := y1.frozen 0
    have f1 := y1.frozen 1
    clear hb1 y1
    go_wp2_with fail
    have hs := Y1.out.set (.slice none 0 0) (.slice none 0 0)
    have s6 := hs.cell0
    have s7 := hs.cell1
    refine bodyPost_ret (v := .tuple #[.agg #[.slice none 0 0, .slice none 0 0], .int .i64 2]) (by simp [results, Try.results67, go_sem, s6, s7]) rfl ⟨⟨fun h => (by cases h), fun _ => rfl⟩, below_set2 B1.out (Nat.le_refl _) _ _⟩
  | true =>
    rw [hok] at HA
    have H := Lib.hid (HA.mono fun e w' h => h.t)
    clear HA hok hx hal hbx hz
    go_enter Try.func67, Try.ntmps67
    go_wp2_with fail
    refine H.out.mono ?_
    rintro e w1 ⟨⟨A5, n5, B5, m5, rfl, hv5, hv6⟩, hb1⟩
    have y1 := HBX.out.below hb1
    have B1 := Lib.hid (below_trans HAL.out hb1)
    have Y1 := Lib.hid y1
    have d0 := y1.cell0
    have d1 := y1.cell1
    have f0 := y1.frozen 0
    have f1 := y1.frozen 1
    have H5 := Lib.hid hv5
    have H6 := Lib.hid hv6
    clear hb1 y1 hv5 hv6
    go_wp2_with fail
    have hs := Y1.out.set (.slice A5 us.length n5) (.slice B5 rs.length m5)
    have s6 := hs.cell0
    have s7 := hs.cell1
    refine bodyPost_ret (v := .tuple #[.agg #[.slice A5 us.length n5, .slice B5 rs.length m5], .int .i64 0]) (by simp [results, Try.results67, go_sem, s6, s7]) rfl ⟨⟨fun _ => ⟨_, _, rfl, ?_, ?_⟩, fun h => (by cases h)⟩, below_set2 B1.out (Nat.le_refl _) _ _⟩
    · exact H5.out.set2 (by simp) (by simp) B1.out (Nat.le_refl _) _ _
    · exact H6.out.set2 (by simp) (by simp) B1.out (Nat.le_refl _) _ _

theorem vecMerge_t (v v' : Value) (xs ys zs : List (Int × Int)) (w : World) (h : Holds w v xs) (h' : Holds w v' ys) (hm : xs.length + ys.length ≤ 100000) (hv : validV xs = true) (hv' : validV ys = true) (hz : mergeV xs ys = zs) :
    Calls Try.prog 72 #[v, v'] w fun e w' => (∃ D d, e = .returned (.tuple #[.slice D zs.length d, .int .i64 0]) ∧ Holds w' (.slice D zs.length d) zs) ∧ Below w.heap.size w w' := by
  have h0 := h
  have h0' := h'
  obtain ⟨A, c, rfl, _⟩ := h
  obtain ⟨A', c', rfl, _⟩ := h'
  refine (vecMerge A A' xs ys c c' w h0 h0' hm).mono ?_
  rintro e w' ⟨h1, _⟩
  obtain ⟨v, he, hmn⟩ := h1 (by rw [hv, hv']; rfl)
  rw [hz] at hmn
  have hv0 := hmn.holds
  obtain ⟨D, d, rfl, _⟩ := hmn.holds
  exact ⟨⟨D, d, he, hv0⟩, hmn.2⟩

theorem KC.bound {w0 W : World} {g : Nat} {x y x' y' : Value} {L : List (Value × List (Int × Int))} (h : KC w0 g x y x' y' L W) : g + 1 + 1 < W.heap.size ∧ w0.heap.size ≤ W.heap.size := by
  obtain ⟨A, n, c, B, m, d, h3⟩ := h.kb.2.2.1
  exact ⟨h3.lt, h.kb.2.2.2.1.size⟩
theorem KC.bel {w0 W : World} {g : Nat} {x y x' y' : Value} {L : List (Value × List (Int × Int))} (h : KC w0 g x y x' y' L W) : Below w0.heap.size w0 W := h.kb.2.2.2.1

set_option maxRecDepth 100000 in
set_option maxHeartbeats 4000000 in
theorem ctxUnion (v v' : Value) (vs ls vs' ls' : List (Int × Int)) (w : World) (h : HoldsC w v vs ls) (h' : HoldsC w v' vs' ls') (hm : vs.length + ls.length + (vs'.length + ls'.length) ≤ 1000) :
    Calls Try.prog 39 #[v, v'] w fun e w' => CtxR (validC vs ls && validC vs' ls') (unionC vs ls vs' ls').1 (unionC vs ls vs' ls').2 w e w' := by
  obtain ⟨A, n, B, k, rfl, h1, h2⟩ := h
  obtain ⟨A', n', B', k', rfl, h1', h2'⟩ := h'
  have hal : Below w.heap.size w (((w.alloc (.cells #[.slice A vs.length n, .slice B ls.length k] 25)).alloc (.cells #[.slice A' vs'.length n', .slice B' ls'.length k'] 25)).alloc (.cells #[.slice none 0 0, .slice none 0 0] 25)) :=
    (((Below.refl _ w).alloc (Nat.le_refl _) _).alloc (by simp) _).alloc (by simp; omega) _
  have K : KC w w.heap.size (.slice A vs.length n) (.slice B ls.length k) (.slice A' vs'.length n') (.slice B' ls'.length k') [(.slice A vs.length n, vs), (.slice B ls.length k, ls), (.slice A' vs'.length n', vs'), (.slice B' ls'.length k', ls')] (((w.alloc (.cells #[.slice A vs.length n, .slice B ls.length k] 25)).alloc (.cells #[.slice A' vs'.length n', .slice B' ls'.length k'] 25)).alloc (.cells #[.slice none 0 0, .slice none 0 0] 25)) := by
    refine .mk ⟨?_, ?_, ⟨none, 0, 0, none, 0, 0, ?_⟩, hal, ?_⟩
    · exact (heap_alloc_old _ _ (by simp; omega)).trans ((heap_alloc_old _ _ (by simp)).trans (heap_alloc_new w _))
    · have h := heap_alloc_new (w.alloc (.cells #[.slice A vs.length n, .slice B ls.length k] 25)) (.cells #[.slice A' vs'.length n', .slice B' ls'.length k'] 25)
      rw [World.size_alloc] at h
      exact (heap_alloc_old _ _ (by simp)).trans h
    · have h := heap_alloc_new ((w.alloc (.cells #[.slice A vs.length n, .slice B ls.length k] 25)).alloc (.cells #[.slice A' vs'.length n', .slice B' ls'.length k'] 25)) (.cells #[.slice none 0 0, .slice none 0 0] 25)
      rwa [World.size_alloc, World.size_alloc] at h
    · intro p hp
      rcases List.mem_cons.1 hp with rfl | hp
      · exact h1.below hal
      · rcases List.mem_cons.1 hp with rfl | hp
        · exact h2.below hal
        · rcases List.mem_cons.1 hp with rfl | hp
          · exact h1'.below hal
          · rcases List.mem_cons.1 hp with rfl | hp
            · exact h2'.below hal
            · cases hp
  have KH := Lib.hid K
  obtain ⟨k0, k1, k2, k3, _⟩ := K
  have HC1 := fun (b : Bool) (hb : validC vs ls = b) W (K : KC w w.heap.size (.slice A vs.length n) (.slice B ls.length k) (.slice A' vs'.length n') (.slice B' ls'.length k') [(.slice A vs.length n, vs), (.slice B ls.length k, ls), (.slice A' vs'.length n', vs'), (.slice B' ls'.length k', ls')] W) =>
    ctxValid (.agg #[.slice A vs.length n, .slice B ls.length k]) vs ls b W (HoldsC.mk (K.h (by simp)) (K.h (by simp))) hb
  have HC2 := fun (b : Bool) (hb : validC vs' ls' = b) W (K : KC w w.heap.size (.slice A vs.length n) (.slice B ls.length k) (.slice A' vs'.length n') (.slice B' ls'.length k') [(.slice A vs.length n, vs), (.slice B ls.length k, ls), (.slice A' vs'.length n', vs'), (.slice B' ls'.length k', ls')] W) =>
    ctxValid (.agg #[.slice A' vs'.length n', .slice B' ls'.length k']) vs' ls' b W (HoldsC.mk (K.h (by simp)) (K.h (by simp))) hb
  have HM := Lib.hid hm
  clear h1 h2 h1' h2' hal hm
  cases hv : validC vs ls with
  | false =>
    have HV := Lib.hid (HC1 false hv)
    clear hv HC1 HC2
    go_enter Try.func39, Try.ntmps39
    go_wp2_with fail
    refine (HV.out _ KH.out).mono ?_
    rintro e w1 ⟨rfl, hb1⟩
    have K1 := Lib.hid (KH.out.below hb1)
    obtain ⟨Ax, nx, cx, Bx, mx, dx, t0, t1, t2, t3, hB3⟩ := K1.out.third
    have HB3 := Lib.hid hB3
    clear hB3 hb1 k0 k1 k2 k3
    go_wp2_with fail
    have hs := HB3.out.set (.slice none 0 0) (.slice none 0 0)
    have s6 := hs.cell0
    have s7 := hs.cell1
    refine bodyPost_ret (v := .tuple #[.agg #[.slice none 0 0, .slice none 0 0], .int .i64 2]) (by simp [results, Try.results39, go_sem, s6, s7]) rfl ⟨⟨fun h => (by cases h), fun _ => rfl⟩, below_set2 K1.out.bel (by omega) _ _⟩
  | true =>
    have HV := Lib.hid (HC1 true hv)
    cases hv' : validC vs' ls' with
    | false =>
      have HV' := Lib.hid (HC2 false hv')
      clear hv hv' HC1 HC2
      go_enter Try.func39, Try.ntmps39
      go_wp2_with fail
      refine (HV.out _ KH.out).mono ?_
      rintro e w1 ⟨rfl, hb1⟩
      have K1 := Lib.hid (KH.out.below hb1)
      clear hb1 k0 k1 k2 k3
      obtain ⟨k0, k1, k2, k3, _⟩ := K1.out
      go_wp2_with fail
      refine (HV'.out _ K1.out).mono ?_
      rintro e w2 ⟨rfl, hb1⟩
      have K2 := Lib.hid (K1.out.below hb1)
      obtain ⟨Ax, nx, cx, Bx, mx, dx, t0, t1, t2, t3, hB3⟩ := K2.out.third
      have HB3 := Lib.hid hB3
      clear hB3 hb1 k0 k1 k2 k3
      go_wp2_with fail
      have hs := HB3.out.set (.slice none 0 0) (.slice none 0 0)
      have s6 := hs.cell0
      have s7 := hs.cell1
      refine bodyPost_ret (v := .tuple #[.agg #[.slice none 0 0, .slice none 0 0], .int .i64 2]) (by simp [results, Try.results39, go_sem, s6, s7]) rfl ⟨⟨fun h => (by cases h), fun _ => rfl⟩, below_set2 K2.out.bel (by omega) _ _⟩
    | true =>
      have HV' := Lib.hid (HC2 true hv')
      have hvz := unionC_valid hv hv'
      have hl := setL_len (ls ++ ls')
      rw [List.length_append] at hl
      have hml := mergeV_len vs' vs
      obtain ⟨zs, hzs⟩ : ∃ zs, setL (ls ++ ls') = zs := ⟨_, rfl⟩
      obtain ⟨ms, hms⟩ : ∃ ms, mergeV vs vs' = ms := ⟨_, rfl⟩
      obtain ⟨us, rs, hz⟩ : ∃ us rs, unionC vs ls vs' ls' = (us, rs) := ⟨_, _, rfl⟩
      have hz2 := hz
      unfold unionC at hz2
      rw [hzs] at hvz hl hz2
      rw [hms] at hvz hml hz2
      rw [hz]
      have HL := Lib.hid hl
      have HML := Lib.hid hml
      have HMG := Lib.hid fun W (K : KC w w.heap.size (.slice A vs.length n) (.slice B ls.length k) (.slice A' vs'.length n') (.slice B' ls'.length k') [(.slice A vs.length n, vs), (.slice B ls.length k, ls), (.slice A' vs'.length n', vs'), (.slice B' ls'.length k', ls')] W) =>
        vecMerge_t (.slice A vs.length n) (.slice A' vs'.length n') vs vs' ms W (K.h (by simp)) (K.h (by simp)) (by have := HM.out; omega) (validC_iff.1 hv).1 (validC_iff.1 hv').1 hms
      have HUN := Lib.hid fun W (K : KC w w.heap.size (.slice A vs.length n) (.slice B ls.length k) (.slice A' vs'.length n') (.slice B' ls'.length k') [(.slice A vs.length n, vs), (.slice B ls.length k, ls), (.slice A' vs'.length n', vs'), (.slice B' ls'.length k', ls')] W) =>
        dotUnion_h (.slice B ls.length k) (.slice B' ls'.length k') ls ls' zs W (K.h (by simp)) (K.h (by simp)) (by have := HM.out; omega) hzs
      have HC := Lib.hid fun v W (h : HoldsC W v ms zs) => ctxCompact_t v ms zs us rs W h hvz (by have := HM.out; have := HL.out; have := HML.out; omega) hz2
      clear hv hv' hvz hl hml hzs hms hz hz2 HC1 HC2
      go_enter Try.func39, Try.ntmps39
      go_wp2_with fail
      refine (HV.out _ KH.out).mono ?_
      rintro e w1 ⟨rfl, hb1⟩
      have K1 := Lib.hid (KH.out.below hb1)
      clear hb1 k0 k1 k2 k3
      obtain ⟨k0, k1, k2, k3, _⟩ := K1.out
      go_wp2_with fail
      refine (HV'.out _ K1.out).mono ?_
      rintro e w2 ⟨rfl, hb1⟩
      have K2 := Lib.hid (K1.out.below hb1)
      clear hb1 k0 k1 k2 k3
      obtain ⟨k0, k1, k2, k3, _⟩ := K2.out
      go_wp2_with fail
      refine (HMG.out _ K2.out).mono ?_
      rintro e w3 ⟨⟨D3, d3, rfl, hv3⟩, hb1⟩
      have K3 := Lib.hid (K2.out.below hb1)
      have V3 := Lib.hid hv3
      clear hb1 hv3 k0 k1 k2 k3
      obtain ⟨k0, k1, k2, k3, _⟩ := K3.out
      go_wp2_with fail
      refine (HUN.out _ K3.out).mono ?_
      rintro e w4 ⟨⟨D4, d4, rfl, hv4⟩, hb1⟩
      have K4 := Lib.hid (K3.out.below hb1)
      have V4 := Lib.hid (V3.out.below hb1)
      have V5 := Lib.hid hv4
      clear hb1 hv4 k0 k1 k2 k3
      go_wp2_with fail
      refine (HC.out _ _ (HoldsC.mk V4.out V5.out)).mono ?_
      rintro e w5 ⟨⟨A5, n5, B5, m5, rfl, hv5, hv6⟩, hb1⟩
      have K5 := Lib.hid (K4.out.below hb1)
      have H5 := Lib.hid hv5
      have H6 := Lib.hid hv6
      obtain ⟨Ax, nx, cx, Bx, mx, dx, t0, t1, t2, t3, hB3⟩ := K5.out.third
      have HB3 := Lib.hid hB3
      clear hB3 hb1 hv5 hv6
      go_wp2_with fail
      have hs := HB3.out.set (.slice A5 us.length n5) (.slice B5 rs.length m5)
      have s6 := hs.cell0
      have s7 := hs.cell1
      have hbd := K4.out.bound
      refine bodyPost_ret (v := .tuple #[.agg #[.slice A5 us.length n5, .slice B5 rs.length m5], .int .i64 0]) (by simp [results, Try.results39, go_sem, s6, s7]) rfl ⟨⟨fun _ => ⟨_, _, rfl, ?_, ?_⟩, fun h => (by cases h)⟩, below_set2 K5.out.bel (by omega) _ _⟩
      · exact H5.out.set2 hbd.2 hbd.1 K5.out.bel (by omega) _ _
      · exact H6.out.set2 hbd.2 hbd.1 K5.out.bel (by omega) _ _

end Go.Proofs.Ytibnlifdeknicaa
