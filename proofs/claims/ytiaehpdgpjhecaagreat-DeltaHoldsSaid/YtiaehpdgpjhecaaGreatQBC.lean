/- Several texts in one: CtxW, JoiI. -/
import Derived.Test.YtiaehpdgpjhecaaGreatQAM
import Derived.Test.YtiaehpdgpjhecaaGreatQBB
import Derived.Test.YtiaehpdgpjhecaaGreatQAV
namespace Go.Proofs.YtiaehpdgpjhecaaGreat

section
open Go.RowKit

theorem CtxR.t {us rs : List (Int × Int)} {w w' : World} {e : Ending} (h : CtxR true us rs w e w') : (∃ A n B m, e = .returned (.tuple #[.agg #[.slice A us.length n, .slice B rs.length m], .int .i64 0]) ∧ MineV w w' (.slice A us.length n) us ∧ MineV w w' (.slice B rs.length m) rs) ∧ Below w.heap.size w w' := by
  obtain ⟨⟨h1, _⟩, hb⟩ := h
  obtain ⟨x, y, he, hx, hy⟩ := h1 rfl
  have hx0 := hx
  have hy0 := hy
  obtain ⟨A, n, rfl, _⟩ := hx.holds
  obtain ⟨B, m, rfl, _⟩ := hy.holds
  exact ⟨⟨A, n, B, m, he, hx0, hy0⟩, hb⟩
theorem CtxR.f {us rs : List (Int × Int)} {w w' : World} {e : Ending} (h : CtxR false us rs w e w') : e = .returned (.tuple #[.agg #[.slice none 0 0, .slice none 0 0], .int .i64 2]) ∧ Below w.heap.size w w' := ⟨h.1.2 rfl, h.2⟩

set_option maxRecDepth 100000 in
set_option maxHeartbeats 2000000 in
theorem ctxOf (x : Value) (m : List (Int × Int)) (w : World) (hx : Holds w x m) (hm : m.length ≤ 3000) :
    Calls Tryz.prog 108 #[x] w fun e w' => CtxR (okL m) (addC [] [] m).1 (addC [] [] m).2 w e w' := by
  have hal : Below w.heap.size w (w.alloc (.cells #[.slice none 0 0, .slice none 0 0] 25)) := (Below.refl _ w).alloc (Nat.le_refl _) _
  have hbx : Blk2 (w.alloc (.cells #[.slice none 0 0, .slice none 0 0] 25)) w.heap.size (.slice none 0 0) (.slice none 0 0) := heap_alloc_new w _
  have HA := ctxAdd (.agg #[.slice none 0 0, .slice none 0 0]) x [] [] m _ (HoldsC.mk (Holds.nil _) (Holds.nil _)) (hx.below hal) (by simpa using hm)
  rw [show (validC [] [] && okL m) = okL m from rfl] at HA
  obtain ⟨us, rs, hz⟩ : ∃ us rs, addC [] [] m = (us, rs) := ⟨_, _, rfl⟩
  rw [hz] at HA ⊢
  have HAL := Lib.hid hal
  have HBX := Lib.hid hbx
  cases hok : okL m with
  | false =>
    rw [hok] at HA
    have H := Lib.hid (HA.mono fun e w' h => h.f)
    clear HA hok hx hal hbx hz
    go_enter Tryz.func108, Tryz.ntmps108
    go_wp2_with fail
    refine H.out.mono ?_
    rintro e w1 ⟨rfl, hb1⟩
    have y1 := HBX.out.below hb1
    have B1 := Lib.hid (below_trans HAL.out hb1)
    have Y1 := Lib.hid y1
    have d0 := y1.cell0
    have d1 := y1.cell1
    have f0 := y1.frozen 0
    have f1 := y1.frozen 1
    clear hb1 y1
    go_wp2_with fail
    have hs := Y1.out.set (.slice none 0 0) (.slice none 0 0)
    have s6 := hs.cell0
    have s7 := hs.cell1
    refine bodyPost_ret (v := .tuple #[.agg #[.slice none 0 0, .slice none 0 0], .int .i64 2]) (by simp [results, Tryz.results108, go_sem, s6, s7]) rfl ⟨⟨fun h => (by cases h), fun _ => rfl⟩, below_set2 B1.out (Nat.le_refl _) _ _⟩
  | true =>
    rw [hok] at HA
    have H := Lib.hid (HA.mono fun e w' h => h.t)
    clear HA hok hx hal hbx hz
    go_enter Tryz.func108, Tryz.ntmps108
    go_wp2_with fail
    refine H.out.mono ?_
    rintro e w1 ⟨⟨A5, n5, B5, m5, rfl, hv5, hv6⟩, hb1⟩
    have y1 := HBX.out.below hb1
    have B1 := Lib.hid (below_trans HAL.out hb1)
    have Y1 := Lib.hid y1
    have d0 := y1.cell0
    have d1 := y1.cell1
    have f0 := y1.frozen 0
    have f1 := y1.frozen 1
    have H5 := Lib.hid hv5
    have H6 := Lib.hid hv6
    clear hb1 y1 hv5 hv6
    go_wp2_with fail
    have hs := Y1.out.set (.slice A5 us.length n5) (.slice B5 rs.length m5)
    have s6 := hs.cell0
    have s7 := hs.cell1
    refine bodyPost_ret (v := .tuple #[.agg #[.slice A5 us.length n5, .slice B5 rs.length m5], .int .i64 0]) (by simp [results, Tryz.results108, go_sem, s6, s7]) rfl ⟨⟨fun _ => ⟨_, _, rfl, ?_, ?_⟩, fun h => (by cases h)⟩, below_set2 B1.out (Nat.le_refl _) _ _⟩
    · exact H5.out.set2 (by simp) (by simp) B1.out (Nat.le_refl _) _ _
    · exact H6.out.set2 (by simp) (by simp) B1.out (Nat.le_refl _) _ _

theorem vecMerge_t (v v' : Value) (xs ys zs : List (Int × Int)) (w : World) (h : Holds w v xs) (h' : Holds w v' ys) (hm : xs.length + ys.length ≤ 100000) (hv : validV xs = true) (hv' : validV ys = true) (hz : mergeV xs ys = zs) :
    Calls Tryz.prog 119 #[v, v'] w fun e w' => (∃ D d, e = .returned (.tuple #[.slice D zs.length d, .int .i64 0]) ∧ Holds w' (.slice D zs.length d) zs) ∧ Below w.heap.size w w' := by
  have h0 := h
  have h0' := h'
  obtain ⟨A, c, rfl, _⟩ := h
  obtain ⟨A', c', rfl, _⟩ := h'
  refine (vecMerge A A' xs ys c c' w h0 h0' hm).mono ?_
  rintro e w' ⟨h1, _⟩
  obtain ⟨v, he, hmn⟩ := h1 (by rw [hv, hv']; rfl)
  rw [hz] at hmn
  have hv0 := hmn.holds
  obtain ⟨D, d, rfl, _⟩ := hmn.holds
  exact ⟨⟨D, d, he, hv0⟩, hmn.2⟩

theorem KCm.bound {w0 W : World} {g : Nat} {x y x' y' : Value} {L : List (Value × List (Int × Int))} (h : KCm w0 g x y x' y' L W) : g + 1 + 1 < W.heap.size ∧ w0.heap.size ≤ W.heap.size := by
  obtain ⟨A, n, c, B, m, d, h3⟩ := h.kb.2.2.1
  exact ⟨h3.lt, h.kb.2.2.2.1.size⟩
theorem KCm.bel {w0 W : World} {g : Nat} {x y x' y' : Value} {L : List (Value × List (Int × Int))} (h : KCm w0 g x y x' y' L W) : Below w0.heap.size w0 W := h.kb.2.2.2.1

set_option maxRecDepth 100000 in
set_option maxHeartbeats 4000000 in
theorem ctxUnion (v v' : Value) (vs ls vs' ls' : List (Int × Int)) (w : World) (h : HoldsC w v vs ls) (h' : HoldsC w v' vs' ls') (hm : vs.length + ls.length + (vs'.length + ls'.length) ≤ 3000) :
    Calls Tryz.prog 66 #[v, v'] w fun e w' => CtxR (validC vs ls && validC vs' ls') (unionC vs ls vs' ls').1 (unionC vs ls vs' ls').2 w e w' := by
  obtain ⟨A, n, B, k, rfl, h1, h2⟩ := h
  obtain ⟨A', n', B', k', rfl, h1', h2'⟩ := h'
  have hal : Below w.heap.size w (((w.alloc (.cells #[.slice A vs.length n, .slice B ls.length k] 25)).alloc (.cells #[.slice A' vs'.length n', .slice B' ls'.length k'] 25)).alloc (.cells #[.slice none 0 0, .slice none 0 0] 25)) :=
    (((Below.refl _ w).alloc (Nat.le_refl _) _).alloc (by simp) _).alloc (by simp; omega) _
  have K : KCm w w.heap.size (.slice A vs.length n) (.slice B ls.length k) (.slice A' vs'.length n') (.slice B' ls'.length k') [(.slice A vs.length n, vs), (.slice B ls.length k, ls), (.slice A' vs'.length n', vs'), (.slice B' ls'.length k', ls')] (((w.alloc (.cells #[.slice A vs.length n, .slice B ls.length k] 25)).alloc (.cells #[.slice A' vs'.length n', .slice B' ls'.length k'] 25)).alloc (.cells #[.slice none 0 0, .slice none 0 0] 25)) := by
    refine .mk ⟨?_, ?_, ⟨none, 0, 0, none, 0, 0, ?_⟩, hal, ?_⟩
    · exact (heap_alloc_old _ _ (by simp; omega)).trans ((heap_alloc_old _ _ (by simp)).trans (heap_alloc_new w _))
    · have h := heap_alloc_new (w.alloc (.cells #[.slice A vs.length n, .slice B ls.length k] 25)) (.cells #[.slice A' vs'.length n', .slice B' ls'.length k'] 25)
      rw [World.size_alloc] at h
      exact (heap_alloc_old _ _ (by simp)).trans h
    · have h := heap_alloc_new ((w.alloc (.cells #[.slice A vs.length n, .slice B ls.length k] 25)).alloc (.cells #[.slice A' vs'.length n', .slice B' ls'.length k'] 25)) (.cells #[.slice none 0 0, .slice none 0 0] 25)
      rwa [World.size_alloc, World.size_alloc] at h
    · intro p hp
      rcases List.mem_cons.1 hp with rfl | hp
      · exact h1.below hal
      · rcases List.mem_cons.1 hp with rfl | hp
        · exact h2.below hal
        · rcases List.mem_cons.1 hp with rfl | hp
          · exact h1'.below hal
          · rcases List.mem_cons.1 hp with rfl | hp
            · exact h2'.below hal
            · cases hp
  have KH := Lib.hid K
  obtain ⟨k0, k1, k2, k3, _⟩ := K
  have HC1 := fun (b : Bool) (hb : validC vs ls = b) W (K : KCm w w.heap.size (.slice A vs.length n) (.slice B ls.length k) (.slice A' vs'.length n') (.slice B' ls'.length k') [(.slice A vs.length n, vs), (.slice B ls.length k, ls), (.slice A' vs'.length n', vs'), (.slice B' ls'.length k', ls')] W) =>
    ctxValid (.agg #[.slice A vs.length n, .slice B ls.length k]) vs ls b W (HoldsC.mk (K.h (by simp)) (K.h (by simp))) hb
  have HC2 := fun (b : Bool) (hb : validC vs' ls' = b) W (K : KCm w w.heap.size (.slice A vs.length n) (.slice B ls.length k) (.slice A' vs'.length n') (.slice B' ls'.length k') [(.slice A vs.length n, vs), (.slice B ls.length k, ls), (.slice A' vs'.length n', vs'), (.slice B' ls'.length k', ls')] W) =>
    ctxValid (.agg #[.slice A' vs'.length n', .slice B' ls'.length k']) vs' ls' b W (HoldsC.mk (K.h (by simp)) (K.h (by simp))) hb
  have HM := Lib.hid hm
  clear h1 h2 h1' h2' hal hm
  cases hv : validC vs ls with
  | false =>
    have HV := Lib.hid (HC1 false hv)
    clear hv HC1 HC2
    go_enter Tryz.func66, Tryz.ntmps66
    go_wp2_with fail
    refine (HV.out _ KH.out).mono ?_
    rintro e w1 ⟨rfl, hb1⟩
    have K1 := Lib.hid (KH.out.below hb1)
    obtain ⟨Ax, nx, cx, Bx, mx, dx, t0, t1, t2, t3, hB3⟩ := K1.out.third
    have HB3 := Lib.hid hB3
    clear hB3 hb1 k0 k1 k2 k3
    go_wp2_with fail
    have hs := HB3.out.set (.slice none 0 0) (.slice none 0 0)
    have s6 := hs.cell0
    have s7 := hs.cell1
    refine bodyPost_ret (v := .tuple #[.agg #[.slice none 0 0, .slice none 0 0], .int .i64 2]) (by simp [results, Tryz.results66, go_sem, s6, s7]) rfl ⟨⟨fun h => (by cases h), fun _ => rfl⟩, below_set2 K1.out.bel (by omega) _ _⟩
  | true =>
    have HV := Lib.hid (HC1 true hv)
    cases hv' : validC vs' ls' with
    | false =>
      have HV' := Lib.hid (HC2 false hv')
      clear hv hv' HC1 HC2
      go_enter Tryz.func66, Tryz.ntmps66
      go_wp2_with fail
      refine (HV.out _ KH.out).mono ?_
      rintro e w1 ⟨rfl, hb1⟩
      have K1 := Lib.hid (KH.out.below hb1)
      clear hb1 k0 k1 k2 k3
      obtain ⟨k0, k1, k2, k3, _⟩ := K1.out
      go_wp2_with fail
      refine (HV'.out _ K1.out).mono ?_
      rintro e w2 ⟨rfl, hb1⟩
      have K2 := Lib.hid (K1.out.below hb1)
      obtain ⟨Ax, nx, cx, Bx, mx, dx, t0, t1, t2, t3, hB3⟩ := K2.out.third
      have HB3 := Lib.hid hB3
      clear hB3 hb1 k0 k1 k2 k3
      go_wp2_with fail
      have hs := HB3.out.set (.slice none 0 0) (.slice none 0 0)
      have s6 := hs.cell0
      have s7 := hs.cell1
      refine bodyPost_ret (v := .tuple #[.agg #[.slice none 0 0, .slice none 0 0], .int .i64 2]) (by simp [results, Tryz.results66, go_sem, s6, s7]) rfl ⟨⟨fun h => (by cases h), fun _ => rfl⟩, below_set2 K2.out.bel (by omega) _ _⟩
    | true =>
      have HV' := Lib.hid (HC2 true hv')
      have hvz := unionC_valid hv hv'
      have hl := setL_len (ls ++ ls')
      rw [List.length_append] at hl
      have hml := mergeV_len vs' vs
      obtain ⟨zs, hzs⟩ : ∃ zs, setL (ls ++ ls') = zs := ⟨_, rfl⟩
      obtain ⟨ms, hms⟩ : ∃ ms, mergeV vs vs' = ms := ⟨_, rfl⟩
      obtain ⟨us, rs, hz⟩ : ∃ us rs, unionC vs ls vs' ls' = (us, rs) := ⟨_, _, rfl⟩
      have hz2 := hz
      unfold unionC at hz2
      rw [hzs] at hvz hl hz2
      rw [hms] at hvz hml hz2
      rw [hz]
      have HL := Lib.hid hl
      have HML := Lib.hid hml
      have HMG := Lib.hid fun W (K : KCm w w.heap.size (.slice A vs.length n) (.slice B ls.length k) (.slice A' vs'.length n') (.slice B' ls'.length k') [(.slice A vs.length n, vs), (.slice B ls.length k, ls), (.slice A' vs'.length n', vs'), (.slice B' ls'.length k', ls')] W) =>
        vecMerge_t (.slice A vs.length n) (.slice A' vs'.length n') vs vs' ms W (K.h (by simp)) (K.h (by simp)) (by have := HM.out; omega) (validC_iff.1 hv).1 (validC_iff.1 hv').1 hms
      have HUN := Lib.hid fun W (K : KCm w w.heap.size (.slice A vs.length n) (.slice B ls.length k) (.slice A' vs'.length n') (.slice B' ls'.length k') [(.slice A vs.length n, vs), (.slice B ls.length k, ls), (.slice A' vs'.length n', vs'), (.slice B' ls'.length k', ls')] W) =>
        dotUnion_h (.slice B ls.length k) (.slice B' ls'.length k') ls ls' zs W (K.h (by simp)) (K.h (by simp)) (by have := HM.out; omega) hzs
      have HC := Lib.hid fun v W (h : HoldsC W v ms zs) => ctxCompact_t v ms zs us rs W h hvz (by have := HM.out; have := HL.out; have := HML.out; omega) hz2
      clear hv hv' hvz hl hml hzs hms hz hz2 HC1 HC2
      go_enter Tryz.func66, Tryz.ntmps66
      go_wp2_with fail
      refine (HV.out _ KH.out).mono ?_
      rintro e w1 ⟨rfl, hb1⟩
      have K1 := Lib.hid (KH.out.below hb1)
      clear hb1 k0 k1 k2 k3
      obtain ⟨k0, k1, k2, k3, _⟩ := K1.out
      go_wp2_with fail
      refine (HV'.out _ K1.out).mono ?_
      rintro e w2 ⟨rfl, hb1⟩
      have K2 := Lib.hid (K1.out.below hb1)
      clear hb1 k0 k1 k2 k3
      obtain ⟨k0, k1, k2, k3, _⟩ := K2.out
      go_wp2_with fail
      refine (HMG.out _ K2.out).mono ?_
      rintro e w3 ⟨⟨D3, d3, rfl, hv3⟩, hb1⟩
      have K3 := Lib.hid (K2.out.below hb1)
      have V3 := Lib.hid hv3
      clear hb1 hv3 k0 k1 k2 k3
      obtain ⟨k0, k1, k2, k3, _⟩ := K3.out
      go_wp2_with fail
      refine (HUN.out _ K3.out).mono ?_
      rintro e w4 ⟨⟨D4, d4, rfl, hv4⟩, hb1⟩
      have K4 := Lib.hid (K3.out.below hb1)
      have V4 := Lib.hid (V3.out.below hb1)
      have V5 := Lib.hid hv4
      clear hb1 hv4 k0 k1 k2 k3
      go_wp2_with fail
      refine (HC.out _ _ (HoldsC.mk V4.out V5.out)).mono ?_
      rintro e w5 ⟨⟨A5, n5, B5, m5, rfl, hv5, hv6⟩, hb1⟩
      have K5 := Lib.hid (K4.out.below hb1)
      have H5 := Lib.hid hv5
      have H6 := Lib.hid hv6
      obtain ⟨Ax, nx, cx, Bx, mx, dx, t0, t1, t2, t3, hB3⟩ := K5.out.third
      have HB3 := Lib.hid hB3
      clear hB3 hb1 hv5 hv6
      go_wp2_with fail
      have hs := HB3.out.set (.slice A5 us.length n5) (.slice B5 rs.length m5)
      have s6 := hs.cell0
      have s7 := hs.cell1
      have hbd := K4.out.bound
      refine bodyPost_ret (v := .tuple #[.agg #[.slice A5 us.length n5, .slice B5 rs.length m5], .int .i64 0]) (by simp [results, Tryz.results66, go_sem, s6, s7]) rfl ⟨⟨fun _ => ⟨_, _, rfl, ?_, ?_⟩, fun h => (by cases h)⟩, below_set2 K5.out.bel (by omega) _ _⟩
      · exact H5.out.set2 hbd.2 hbd.1 K5.out.bel (by omega) _ _
      · exact H6.out.set2 hbd.2 hbd.1 K5.out.bel (by omega) _ _

end

section
open Go.RowKit

/-- Not too much for Join. -/
structure FitsP (c d : CaV) : Prop where
  kc : FitsK c
  kd : FitsK d
  cd : FitsJ c d
  dc : FitsJ d c
  un : c.vs.length + c.ls.length + (d.vs.length + d.ls.length) ≤ 3000
theorem dotsI_cnt (l : List It) : (dotsI l).length ≤ cntM l := by
  rw [dotsI_all, ← allD_len]
  exact setL_len _
theorem FitsP.of {n m : Nat} {c d : CaV} (hc : SizeK n c.ca) (hd : SizeK m d.ca) (hn : n ≤ 9) (hm : m ≤ 9) : FitsP c d := by
  have f : ∀ {n : Nat} {c : CaV}, SizeK n c.ca → n ≤ 9 → Fits c.xs := fun {n c} h hn => by
    refine ⟨by have := h.num; rw [ca_x, its_len] at this; omega, fun x hx => ?_⟩
    have := h.one x.it (List.mem_map.2 ⟨x, hx, rfl⟩)
    have h1 : x.nm.length ≤ 100 := this.1
    have h2 : x.ms.length ≤ 10 * n := this.2
    omega
  have l : ∀ {n : Nat} {c : CaV}, SizeK n c.ca → n ≤ 9 → (dotsI (its c.xs)).length ≤ 1800 := fun {n c} h hn => by
    have h1 := dotsI_cnt (its c.xs)
    have h2 := h.cnt
    rw [ca_x] at h2
    omega
  have h1 := hc.dots
  have h2 := hd.dots
  rw [ca_v, ca_l] at h1 h2
  have h3 := l hc hn
  have h4 := l hd hm
  exact ⟨⟨f hc hn, by omega⟩, ⟨f hd hm, by omega⟩, ⟨f hc hn, f hd hm, by omega⟩, ⟨f hd hm, f hc hn, by omega⟩, by omega⟩

abbrev zC : CaV := ⟨none, 0, [], none, 0, [], none, 0, []⟩
theorem zC_ok (W : World) : CaOK W zC := ⟨Holds.nil W, Holds.nil W, HoldsX.nil W⟩
/-- A cart that was made. -/
structure OwnC (W : World) (B : Nat) (z : CaV) : Prop where
  v : RowC W B z.v z.vs
  l : RowC W B z.l z.ls
  i : OwnI W B z.i z.xs
theorem OwnC.below {W W' : World} {B : Nat} {z : CaV} (h : OwnC W B z) (hb : Below W.heap.size W W') : OwnC W' B z := ⟨h.v.below hb, h.l.below hb, h.i.below hb⟩
theorem RowC.holds {W : World} {B : Nat} {v : Value} {ds : List (Int × Int)} (h : RowC W B v ds) : Holds W v ds := by
  obtain ⟨A, c, rfl, h1, h2, h3⟩ := SlAt.of_own encD_len h
  exact ⟨A, c, rfl, h3, h1, h2⟩
theorem OwnC.ok {W : World} {B : Nat} {z : CaV} (h : OwnC W B z) : CaOK W z := ⟨h.v.holds, h.l.holds, h.i.holds⟩
theorem OwnC.le {W : World} {B B' : Nat} {z : CaV} (h : OwnC W B z) (hb : B' ≤ B) : OwnC W B' z := ⟨Joins.ownsRow_le h.v hb, Joins.ownsRow_le h.l hb, h.i.le hb⟩
theorem OwnC.nil (W : World) (B : Nat) : OwnC W B zC := ⟨World.ownsRow_nil _ _ _ _, World.ownsRow_nil _ _ _ _, OwnI.nil _ _⟩

/-- While Join runs: both carts in their boxes, the box of the result. -/
structure KJ (w : World) (c d : CaV) (W : World) : Prop where
  kk : KK w [(w.heap.size, c), (w.heap.size + 1, d)] W
  res : BlkC W (w.heap.size + 2) zC
section
variable {w W W' : World} {c d : CaV}
theorem KJ.next (h : KJ w c d W) (hb : Below W.heap.size W W') : KJ w c d W' := ⟨h.kk.next hb, h.res.below hb⟩
theorem KJ.drew (h : KJ w c d W) : KJ w c d W.drew := h.next (Below.refl _ _).drew
theorem KJ.alloc (h : KJ w c d W) (o : Obj) : KJ w c d (W.alloc o) := h.next ((Below.refl _ _).alloc (Nat.le_refl _) o)
theorem KJ.okc (h : KJ w c d W) : CaOK W c := h.kk.ok (g := w.heap.size) (by simp)
theorem KJ.okd (h : KJ w c d W) : CaOK W d := h.kk.ok (g := w.heap.size + 1) (by simp)
theorem KJ.sp (h : KJ w c d W) : W.cell? ⟨w.heap.size, 0, none⟩ = some c.v ∧ W.cell? ⟨w.heap.size, 1, none⟩ = some c.l ∧ W.cell? ⟨w.heap.size, 2, none⟩ = some c.i ∧ W.cell? ⟨w.heap.size + 1, 0, none⟩ = some d.v ∧ W.cell? ⟨w.heap.size + 1, 1, none⟩ = some d.l ∧ W.cell? ⟨w.heap.size + 1, 2, none⟩ = some d.i ∧ KJ w c d W := by
  obtain ⟨h0, h1, h2, h3, h4, h5, _⟩ := h.kk.sp2
  exact ⟨h0, h1, h2, h3, h4, h5, h⟩
theorem KJ.new (w : World) (c d : CaV) (hc : CaOK w c) (hd : CaOK w d) : KJ w c d (((w.alloc (.cells #[c.v, c.l, c.i] 28)).alloc (.cells #[d.v, d.l, d.i] 28)).alloc (.cells #[.slice none 0 0, .slice none 0 0, .slice none 0 0] 28)) := by
  have h1 := (Below.refl w.heap.size w).alloc (Nat.le_refl _) (.cells #[c.v, c.l, c.i] 28)
  have K0 := KK.push (L := [(w.heap.size, c)]) (KK.new w c hc) d (hd.below h1) (w.heap.size + 1) (by simp)
  refine ⟨K0.alloc _, ?_⟩
  have h2 := BlkC.new ((w.alloc (.cells #[c.v, c.l, c.i] 28)).alloc (.cells #[d.v, d.l, d.i] 28)) zC
  rw [World.size_alloc, World.size_alloc] at h2
  exact h2
end
theorem results_zero {W : World} {g : Nat} (h : BlkC W g zC) : W.cell? ⟨g, 0, none⟩ = some (.slice none 0 0) ∧ W.cell? ⟨g, 1, none⟩ = some (.slice none 0 0) ∧ W.cell? ⟨g, 2, none⟩ = some (.slice none 0 0) ∧ W.frozen? ⟨g, 0, none⟩ = false ∧ W.frozen? ⟨g, 1, none⟩ = false ∧ W.frozen? ⟨g, 2, none⟩ = false :=
  ⟨h.cell0, h.cell1, h.cell2, h.frozen _, h.frozen _, h.frozen _⟩
/-- A box of a cart, filled. -/
theorem BlkC.fill {W : World} {g : Nat} {c : CaV} (h : BlkC W g c) (a b e : Value) : (((W.setCell ⟨g, 0, none⟩ a).setCell ⟨g, 1, none⟩ b).setCell ⟨g, 2, none⟩ e).heap[g]? = some (.cells #[a, b, e] 28 (0, 0)) := boxC_filled h a b e
theorem below_fill {w W : World} {B g : Nat} (h : Below B w W) (hg : B ≤ g) (a b e : Value) : Below B w (((W.setCell ⟨g, 0, none⟩ a).setCell ⟨g, 1, none⟩ b).setCell ⟨g, 2, none⟩ e) :=
  ((h.setCell (p := ⟨g, 0, none⟩) hg _).setCell (p := ⟨g, 1, none⟩) hg _).setCell (p := ⟨g, 2, none⟩) hg _

set_option maxRecDepth 100000 in
set_option maxHeartbeats 4000000 in
theorem joJoin_f (c d : CaV) (w : World) (hc : CaOK w c) (hd : CaOK w d) (hf : FitsP c d) (hv : (validK c.ca && validK d.ca) = false) :
    Calls Tryz.prog 34 #[mkC c, mkC d] w (OneB (.tuple #[mkC zC, .int .i64 2]) w) := by
  have K0 := Lib.hid (KJ.new w c d hc hd)
  have HF := Lib.hid hf
  clear hc hd hf
  cases hvc : validK c.ca with
  | false =>
    have HV := Lib.hid hvc
    clear hvc hv
    go_enter Tryz.func34, Tryz.ntmps34
    go_wp2_with fail
    generalize World.alloc (World.alloc (World.alloc w _) _) _ = w2 at K0 ⊢
    obtain ⟨x0, x1, x2, x3, x4, x5, _⟩ := K0.out.sp
    go_wp2_with fail
    refine (caValid c false w2 K0.out.okc HF.out.kc HV.out).mono ?_
    rintro e w3 ⟨rfl, hb⟩
    have K1 := Lib.hid (K0.out.next hb)
    clear hb K0 x0 x1 x2 x3 x4 x5
    obtain ⟨r0, r1, r2, f0, f1, f2⟩ := results_zero K1.out.res
    go_wp2_with fail
    have hfl := BlkC.fill K1.out.res (.slice none 0 0) (.slice none 0 0) (.slice none 0 0)
    have hfl2 : BlkC _ _ zC := hfl
    have s0 := hfl2.cell0
    have s1 := hfl2.cell1
    have s2 := hfl2.cell2
    refine bodyPost_ret (v := .tuple #[.agg #[.slice none 0 0, .slice none 0 0, .slice none 0 0], .int .i64 2]) (by simp [results, Tryz.results34, go_sem, s0, s1, s2]) rfl ⟨rfl, below_fill K1.out.kk.bel (by omega) _ _ _⟩
  | true =>
    have HV := Lib.hid hvc
    have HV2 := Lib.hid (show validK d.ca = false from by rw [hvc] at hv; simpa using hv)
    clear hvc hv
    go_enter Tryz.func34, Tryz.ntmps34
    go_wp2_with fail
    generalize World.alloc (World.alloc (World.alloc w _) _) _ = w2 at K0 ⊢
    obtain ⟨x0, x1, x2, x3, x4, x5, _⟩ := K0.out.sp
    go_wp2_with fail
    refine (caValid c true w2 K0.out.okc HF.out.kc HV.out).mono ?_
    rintro e w3 ⟨rfl, hb⟩
    have K1 := Lib.hid (K0.out.next hb)
    clear hb K0 x0 x1 x2 x3 x4 x5
    obtain ⟨x0, x1, x2, x3, x4, x5, _⟩ := K1.out.sp
    go_wp2_with fail
    refine (caValid d false w3 K1.out.okd HF.out.kd HV2.out).mono ?_
    rintro e w4 ⟨rfl, hb⟩
    have K2 := Lib.hid (K1.out.next hb)
    clear hb K1 x0 x1 x2 x3 x4 x5
    obtain ⟨r0, r1, r2, f0, f1, f2⟩ := results_zero K2.out.res
    go_wp2_with fail
    have hfl := BlkC.fill K2.out.res (.slice none 0 0) (.slice none 0 0) (.slice none 0 0)
    have hfl2 : BlkC _ _ zC := hfl
    have s0 := hfl2.cell0
    have s1 := hfl2.cell1
    have s2 := hfl2.cell2
    refine bodyPost_ret (v := .tuple #[.agg #[.slice none 0 0, .slice none 0 0, .slice none 0 0], .int .i64 2]) (by simp [results, Tryz.results34, go_sem, s0, s1, s2]) rfl ⟨rfl, below_fill K2.out.kk.bel (by omega) _ _ _⟩

end

end Go.Proofs.YtiaehpdgpjhecaaGreat
