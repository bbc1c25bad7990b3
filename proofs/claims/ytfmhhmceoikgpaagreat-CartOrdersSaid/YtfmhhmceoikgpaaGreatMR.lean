/- Several texts in one: CtxG, CtxI, CtxJ. -/
import Derived.Test.YtfmhhmceoikgpaaGreatMQ
import Derived.Deep.CutBlock
namespace Go.Proofs.YtfmhhmceoikgpaaGreat

section
open Go.RowKit

/-- What holds while the answer's block waits. -/
def KG (w0 : World) (g : Nat) (x y : Value) (L : List (Value × List (Int × Int))) (W : World) : Prop :=
  W.cell? ⟨g, 0, none⟩ = some x ∧ W.cell? ⟨g, 1, none⟩ = some y ∧ W.cell? ⟨g + 1, 0, none⟩ = some (.slice none 0 0) ∧ W.cell? ⟨g + 1, 1, none⟩ = some (.slice none 0 0) ∧ W.frozen? ⟨g + 1, 0, none⟩ = false ∧ W.frozen? ⟨g + 1, 1, none⟩ = false ∧
  Blk2 W g x y ∧ Blk2 W (g + 1) (.slice none 0 0) (.slice none 0 0) ∧ Below w0.heap.size w0 W ∧ ∀ p ∈ L, Holds W p.1 p.2
section
variable {w0 W W' : World} {g : Nat} {x y : Value} {L : List (Value × List (Int × Int))}
theorem KG.mk (h1 : Blk2 W g x y) (h2 : Blk2 W (g + 1) (.slice none 0 0) (.slice none 0 0)) (h3 : Below w0.heap.size w0 W) (h4 : ∀ p ∈ L, Holds W p.1 p.2) : KG w0 g x y L W :=
  ⟨h1.cell0, h1.cell1, h2.cell0, h2.cell1, h2.frozen 0, h2.frozen 1, h1, h2, h3, h4⟩
theorem KG.b1 (h : KG w0 g x y L W) : Blk2 W g x y := h.2.2.2.2.2.2.1
theorem KG.b2 (h : KG w0 g x y L W) : Blk2 W (g + 1) (.slice none 0 0) (.slice none 0 0) := h.2.2.2.2.2.2.2.1
theorem KG.bel (h : KG w0 g x y L W) : Below w0.heap.size w0 W := h.2.2.2.2.2.2.2.2.1
theorem KG.hs (h : KG w0 g x y L W) : ∀ p ∈ L, Holds W p.1 p.2 := h.2.2.2.2.2.2.2.2.2
theorem KG.h {v : Value} {xs : List (Int × Int)} (h : KG w0 g x y L W) (hm : (v, xs) ∈ L) : Holds W v xs := h.hs _ hm
theorem KG.below (h : KG w0 g x y L W) (hb : Below W.heap.size W W') : KG w0 g x y L W' := .mk (h.b1.below hb) (h.b2.below hb) (below_trans h.bel hb) fun p hp => (h.hs p hp).below hb
theorem KG.alloc (h : KG w0 g x y L W) (o : Obj) : KG w0 g x y L (W.alloc o) := h.below ((Below.refl _ W).alloc (Nat.le_refl _) o)
theorem KG.drew (h : KG w0 g x y L W) : KG w0 g x y L W.drew := h.below (Below.refl _ W).drew
end
theorem refUnion_h3 (v v' : Value) (xs ys zs : List (Int × Int)) (w : World) (h : Holds w v xs) (h' : Holds w v' ys) (hm : xs.length + ys.length ≤ 100000) (hz : setL (xs ++ ys) = zs) :
    Calls Tryz.prog 89 #[v, v'] w fun e w' => (∃ D d, e = .returned (.slice D zs.length d) ∧ Holds w' (.slice D zs.length d) zs) ∧ Below w.heap.size w w' := by
  obtain ⟨A, c, rfl, h1, h2, h3⟩ := h
  obtain ⟨A', c', rfl, h1', h2', h3'⟩ := h'
  subst hz
  refine (refUnion A A' xs ys c c' w h1 h1' hm).mono ?_
  rintro e w' ⟨⟨v, he, hv⟩, hb⟩
  have hv0 := hv
  obtain ⟨D, d, rfl, _⟩ := hv
  exact ⟨⟨D, d, he, hv0⟩, hb⟩
theorem ref3Compact_h (x y : Value) (vs ls us rs : List (Int × Int)) (w : World) (h : Holds w x vs) (h' : Holds w y ls) (hv : validC vs ls = true) (hm : vs.length + ls.length ≤ 1000) (hz : compactC vs ls = (us, rs)) :
    Calls Tryz.prog 105 #[.agg #[x, y]] w fun e w' => (∃ A n B m, e = .returned (.agg #[.slice A us.length n, .slice B rs.length m]) ∧ Holds w' (.slice A us.length n) us ∧ Holds w' (.slice B rs.length m) rs) ∧ Below w.heap.size w w' := by
  refine (ref3Compact _ vs ls w (HoldsC.mk h h') hv hm).mono ?_
  rintro e w' ⟨⟨v', he, hc⟩, hb⟩
  rw [hz] at hc
  obtain ⟨A, n, B, m, rfl, h1, h2⟩ := hc
  exact ⟨⟨A, n, B, m, he, h1, h2⟩, hb⟩

set_option maxRecDepth 100000 in
set_option maxHeartbeats 4000000 in
theorem ref3Add (v x : Value) (vs ls m us rs : List (Int × Int)) (w : World) (h : HoldsC w v vs ls) (hx : Holds w x m) (hv : validC vs ls = true) (hok : ∀ p ∈ m, validD p.1 p.2 = true) (hm : vs.length + ls.length + m.length ≤ 1000) (hz : addC vs ls m = (us, rs)) :
    Calls Tryz.prog 57 #[v, x] w fun e w' => (∃ v', e = .returned v' ∧ HoldsC w' v' us rs) ∧ Below w.heap.size w w' := by
  obtain ⟨A, n, B, k, rfl, h1, h2⟩ := h
  have hal : Below w.heap.size w ((w.alloc (.cells #[.slice A vs.length n, .slice B ls.length k] 25)).alloc (.cells #[.slice none 0 0, .slice none 0 0] 25)) :=
    ((Below.refl _ w).alloc (Nat.le_refl _) _).alloc (by simp) _
  have K : KG w w.heap.size (.slice A vs.length n) (.slice B ls.length k) [(.slice A vs.length n, vs), (.slice B ls.length k, ls), (x, m)] ((w.alloc (.cells #[.slice A vs.length n, .slice B ls.length k] 25)).alloc (.cells #[.slice none 0 0, .slice none 0 0] 25)) := by
    refine .mk ?_ ?_ hal ?_
    · exact (heap_alloc_old _ _ (by simp)).trans (heap_alloc_new w _)
    · have h := heap_alloc_new (w.alloc (.cells #[.slice A vs.length n, .slice B ls.length k] 25)) (.cells #[.slice none 0 0, .slice none 0 0] 25)
      rwa [World.size_alloc] at h
    · intro p hp
      rcases List.mem_cons.1 hp with rfl | hp
      · exact h1.below hal
      · rcases List.mem_cons.1 hp with rfl | hp
        · exact h2.below hal
        · rcases List.mem_cons.1 hp with rfl | hp
          · exact hx.below hal
          · cases hp
  have hl := setL_len (ls ++ m)
  rw [List.length_append] at hl
  obtain ⟨zs, hzs⟩ : ∃ zs, setL (ls ++ m) = zs := ⟨_, rfl⟩
  have hvz := addC_valid hv hok
  unfold addC at hz
  rw [hzs] at hl hvz hz
  have HZ := Lib.hid hz
  have HVZ := Lib.hid hvz
  have HZS := Lib.hid hzs
  have HM := Lib.hid hm
  have HL := Lib.hid hl
  clear h1 h2 hx hz hvz hzs hm hl hal hv hok
  go_enter Tryz.func57, Tryz.ntmps57
  go_wp2_with fail
  generalize (w.alloc (.cells #[.slice A vs.length n, .slice B ls.length k] 25)).alloc (.cells #[.slice none 0 0, .slice none 0 0] 25) = W0 at K ⊢
  have KD := K.drew
  obtain ⟨q0, q1, q2, q3, q4, q5, _⟩ := id KD
  clear K
  go_region_with (first
      | (go_at_call 89; refine (refUnion_h3 _ _ ls m zs _ (KG.h (by assumption) (by simp)) (KG.h (by assumption) (by simp)) (by have := HM.out; omega) HZS.out).mono ?_
         rintro e wa ⟨⟨D3, d3, rfl, hv3⟩, hb1⟩
         have hS1 := KG.below (by assumption) hb1
         clear hb1
         obtain ⟨r0, r1, r2, r3, r4, r5, _⟩ := id hS1)
      | (go_at_call 105; refine (ref3Compact_h _ _ vs zs us rs _ (KG.h (by assumption) (by simp)) (by first | exact hv3 | exact hv3.drew) HVZ.out (by have := HM.out; have := HL.out; omega) HZ.out).mono ?_
         rintro e wb ⟨⟨A4, n4, B4, m4, rfl, hv4, hv5⟩, hb1⟩
         have hS2 := KG.below (by assumption) hb1
         clear hb1
         obtain ⟨s0, s1, s2, s3, s4, s5, _⟩ := id hS2))
  all_goals
    go_wp2_with fail
    have hs := hS2.b2.set (.slice A4 us.length n4) (.slice B4 rs.length m4)
    have s6 := hs.cell0
    have s7 := hs.cell1
    refine bodyPost_ret (v := .agg #[.slice A4 us.length n4, .slice B4 rs.length m4]) (by simp [results, Tryz.results57, go_sem, s6, s7]) rfl ⟨⟨_, rfl, ?_⟩, below_set2 hS2.bel (by omega) _ _⟩
    exact HoldsC.mk (hv4.set2 hS2.b2 (by intro z; simp) (by intro z; simp)) (hv5.set2 hS2.b2 (by intro z; simp) (by intro z; simp))

end

section
open Go.RowKit

set_option maxRecDepth 100000 in
set_option maxHeartbeats 2000000 in
theorem ref3Missing (v : Value) (X : Option Addr) (cx : Nat) (vs ls m : List (Int × Int)) (w : World) (h : HoldsC w v vs ls) (hx : Holds w (.slice X m.length cx) m) (hm : m.length ≤ 100000) :
    Calls Tryz.prog 42 #[v, .slice X m.length cx] w fun e w' => (∃ v', e = .returned v' ∧ Holds w' v' (missC vs ls m)) ∧ Below w.heap.size w w' := by
  obtain ⟨A, n, B, k0, rfl, h1, h2⟩ := h
  have K := Lib.hid (((((KX.nil w).push hx).push h1).push h2).box (.slice A vs.length n) (.slice B ls.length k0) 25)
  clear h1 h2 hx
  go_enter Tryz.func42, Tryz.ntmps42
  go_wp2_with fail
  go_loopw [5, 6] (fun out i wr => ∃ k : Nat, k ≤ m.length ∧ i = .int .i64 k ∧ Hid (KX w [(⟨w.heap.size, 0, none⟩, .slice A vs.length n), (⟨w.heap.size, 1, none⟩, .slice B ls.length k0)] [(.slice B ls.length k0, ls), (.slice A vs.length n, vs), (.slice X m.length cx, m)] wr) ∧ Hid (Holds wr out (missC vs ls (m.take k)))) (fun _ i _ => m.length - (intOf i).toNat)
  case atStart => exact ⟨0, by omega, rfl, K, Holds.nil _⟩
  case round =>
    obtain ⟨k, hk2, rfl, hK, hO⟩ := hrel
    by_cases hlt : k < m.length
    · have hxm : DotsAt wr X m := by
        obtain ⟨A', c', e, h, _⟩ := hK.out.h (v := .slice X m.length cx) (xs := m) (by simp)
        cases e; exact h
      obtain ⟨bb, off, r, c, rfl, hbl, hx1, hc0, hc1⟩ := hxm.dot (j := k) hlt
      have l0 := fun p => (hK.out.far p).cell (a := ⟨w.heap.size, 0, none⟩) (v := .slice A vs.length n) (by simp)
      have l1 := fun p => (hK.out.far p).cell (a := ⟨w.heap.size, 1, none⟩) (v := .slice B ls.length k0) (by simp)
      have l2 := fun p => cell_far (p := p) hbl hc0
      have l3 := fun p => cell_far (p := p) hbl hc1
      have hbl2 := hbl
      have HC0 := Lib.hid hc0
      have HC1 := Lib.hid hc1
      have htk := take_snoc hx1
      have hml : (missC vs ls (m.take k)).length ≤ m.length := by
        have h1 := setL_len ((m.take k).filter fun d => !hasC vs ls d.1 d.2)
        have h2 := List.length_filter_le (fun d : Int × Int => !hasC vs ls d.1 d.2) (m.take k)
        have h3 := List.length_take_le k m
        unfold missC; omega
      clear hx1 hxm hc0 hc1
      cases hbh : hasC vs ls r c with
      | true =>
        have HH := Lib.hid fun p => ref3Has _ vs ls r c true _ (HoldsC.mk ((hK.out.far p).h (v := .slice A vs.length n) (xs := vs) (by simp)) ((hK.out.far p).h (v := .slice B ls.length k0) (xs := ls) (by simp))) hbh
        have HN := Lib.hid (show missC vs ls (m.take (k + 1)) = missC vs ls (m.take k) from by rw [htk]; unfold missC; rw [List.filter_append]; simp [hbh])
        clear hbh htk
        go_wp2_with fail
        refine wp_region_far (by kernel_rfl) (by kernel_rfl) ?_
        repeat (go_big_quiet_step ((go_at_call 87; exact far_of (HH.out _))))
        refine wpQuiet_nil ?_
        rintro _ ⟨p, rfl⟩
        have KF := Lib.hid (hK.out.far p)
        have HO := Lib.hid (show Holds (far wr p) u5 (missC vs ls (m.take (k + 1))) from by rw [HN.out]; exact hO.out.below (below_far wr p))
        go_wp2
        go_roundw
        case rel => exact ⟨k + 1, by omega, by go_num, KF, HO⟩
        case measure => simp [intOf]; omega
      | false =>
        have HH := Lib.hid fun p => ref3Has _ vs ls r c false _ (HoldsC.mk ((hK.out.far p).h (v := .slice A vs.length n) (xs := vs) (by simp)) ((hK.out.far p).h (v := .slice B ls.length k0) (xs := ls) (by simp))) hbh
        have HN := Lib.hid (show missC vs ls (m.take (k + 1)) = insD (missC vs ls (m.take k)) (r, c) from by rw [htk]; unfold missC; rw [List.filter_append, ← setL_snoc]; simp [hbh])
        clear hbh htk
        go_wp2_with fail
        refine wp_region_far (by kernel_rfl) (by kernel_rfl) ?_
        repeat (go_big_quiet_step ((go_at_call 87; exact far_of (HH.out _))))
        refine wpQuiet_nil ?_
        rintro _ ⟨p, rfl⟩
        have KF := Lib.hid (hK.out.far p)
        have HO := Lib.hid (hO.out.below (below_far wr p))
        have m2 := l2 p
        have m3 := l3 p
        clear l0 l1 l2 l3
        generalize far wr p = w4 at KF HO m2 m3 ⊢
        go_wp2_with fail
        refine (refWith_h _ (missC vs ls (m.take k)) r c w4 HO.out (by omega)).mono ?_
        rintro e w5 ⟨⟨v', rfl, hv'⟩, hb⟩
        have K5 := Lib.hid (KF.out.below hb)
        have HO5 := Lib.hid (show Holds w5 v' (missC vs ls (m.take (k + 1))) from by rw [HN.out]; exact hv')
        clear hb hv' m2 m3
        go_wp2
        go_roundw
        case rel => exact ⟨k + 1, by omega, by go_num, K5, HO5⟩
        case measure => simp [intOf]; omega
    · have hO2 := hO.out
      rw [List.take_of_length_le (by omega)] at hO2
      have HO := Lib.hid hO2
      clear hO2
      go_wp2
      go_ret
      exact ⟨⟨_, rfl, HO.out⟩, hK.out.bel⟩

end

section
open Go.RowKit

end

end Go.Proofs.YtfmhhmceoikgpaaGreat
