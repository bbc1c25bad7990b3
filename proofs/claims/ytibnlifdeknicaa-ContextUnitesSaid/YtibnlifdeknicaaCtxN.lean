/- The reference of layer 3: Within. -/
import Derived.Test.YtibnlifdeknicaaCtxM
namespace Go.Proofs.Ytibnlifdeknicaa
open Go.RowKit

theorem ref2Within_h3 (v v' : Value) (xs ys : List (Int × Int)) (b : Bool) (w : World) (h : Holds w v xs) (h' : Holds w v' ys) (hb : withinV xs ys = b) :
    Calls Try.prog 70 #[v, v'] w fun e w' => e = .returned (.bool b) ∧ Below w.heap.size w w' := by
  obtain ⟨A, c, rfl, h1, h2, h3⟩ := h
  obtain ⟨A', c', rfl, h1', h2', h3'⟩ := h'
  subst hb
  exact ref2Within A A' xs ys c c' w h1 h1' (Nat.le_trans h2 h3) (Nat.le_trans h2' h3')
theorem within_no {vs ls us rs : List (Int × Int)} {d : Int × Int} (hd : d ∈ ls) (hg : hasC us rs d.1 d.2 = false) : (ls.all (fun d => hasC us rs d.1 d.2) && withinV vs us) = false := by
  have : ls.all (fun d => hasC us rs d.1 d.2) = false := by
    rw [List.all_eq_false]
    exact ⟨d, hd, by simp [hg]⟩
  rw [this, Bool.false_and]
theorem within_yes {vs ls us rs : List (Int × Int)} (h : ∀ d ∈ ls, hasC us rs d.1 d.2 = true) : (ls.all (fun d => hasC us rs d.1 d.2) && withinV vs us) = withinV vs us := by
  have : ls.all (fun d => hasC us rs d.1 d.2) = true := List.all_eq_true.2 h
  rw [this, Bool.true_and]

set_option maxRecDepth 100000 in
set_option maxHeartbeats 4000000 in
theorem ref3Within (v v' : Value) (vs ls vs' ls' : List (Int × Int)) (b : Bool) (w : World) (h : HoldsC w v vs ls) (h' : HoldsC w v' vs' ls') (hv' : validC vs' ls' = true)
    (hm : vs'.length + ls'.length ≤ 1000) (hb : withinC vs ls vs' ls' = b) :
    Calls Try.prog 36 #[v, v'] w fun e w' => e = .returned (.bool b) ∧ Below w.heap.size w w' := by
  obtain ⟨A, n, B, k, rfl, h1, h2⟩ := h
  obtain ⟨A', n', B', k', rfl, h1', h2'⟩ := h'
  have hal : Below w.heap.size w ((w.alloc (.cells #[.slice A vs.length n, .slice B ls.length k] 25)).alloc (.cells #[.slice A' vs'.length n', .slice B' ls'.length k'] 25)) :=
    ((Below.refl _ w).alloc (Nat.le_refl _) _).alloc (by simp) _
  have bx0 : Blk2 ((w.alloc (.cells #[.slice A vs.length n, .slice B ls.length k] 25)).alloc (.cells #[.slice A' vs'.length n', .slice B' ls'.length k'] 25)) w.heap.size (.slice A vs.length n) (.slice B ls.length k) :=
    (heap_alloc_old _ _ (by simp)).trans (heap_alloc_new w _)
  have bx1 : Blk2 ((w.alloc (.cells #[.slice A vs.length n, .slice B ls.length k] 25)).alloc (.cells #[.slice A' vs'.length n', .slice B' ls'.length k'] 25)) (w.heap.size + 1) (.slice A' vs'.length n') (.slice B' ls'.length k') := by
    have h := heap_alloc_new (w.alloc (.cells #[.slice A vs.length n, .slice B ls.length k] 25)) (.cells #[.slice A' vs'.length n', .slice B' ls'.length k'] 25)
    rwa [World.size_alloc] at h
  obtain ⟨us, hus⟩ : ∃ us, (compactC vs' ls').1 = us := ⟨_, rfl⟩
  obtain ⟨rs, hrs⟩ : ∃ rs, (compactC vs' ls').2 = rs := ⟨_, rfl⟩
  unfold withinC at hb
  rw [hus, hrs] at hb
  have HCP := Lib.hid (ref3Compact_h (.slice A' vs'.length n') (.slice B' ls'.length k') vs' ls' us rs _ (h1'.below hal) (h2'.below hal) hv' hm (Prod.ext hus hrs))
  have HL1 := Lib.hid (h1.below hal)
  have HL2 := Lib.hid (h2.below hal)
  have HAL := Lib.hid hal
  have HB := Lib.hid hb
  have HX0 := Lib.hid bx0
  have HX1 := Lib.hid bx1
  have LB : ls.length ≤ maxLen := by obtain ⟨_, _, h, _, h2, h3⟩ := h2; omega
  unfold maxLen at LB
  clear h1 h2 h1' h2' hal hb bx0 bx1 hus hrs hv' hm
  go_enter Try.func36, Try.ntmps36
  go_wp2_with fail
  refine HCP.out.mono ?_
  rintro e w1 ⟨⟨A4, n4, B4, m4, rfl, hv4, hv5⟩, hb1⟩
  have y0 := HX0.out.below hb1
  have y1 := HX1.out.below hb1
  have z1 := HL1.out.below hb1
  have z2 := HL2.out.below hb1
  have bel := below_trans HAL.out hb1
  have KS : Hid (KX w [(⟨w.heap.size, 0, none⟩, .slice A vs.length n), (⟨w.heap.size, 1, none⟩, .slice B ls.length k), (⟨w.heap.size + 1, 0, none⟩, .slice A4 us.length n4), (⟨w.heap.size + 1, 1, none⟩, .slice B4 rs.length m4)]
      [(.slice A vs.length n, vs), (.slice B ls.length k, ls), (.slice A4 us.length n4, us), (.slice B4 rs.length m4, rs)] ((w1.setCell ⟨w.heap.size + 1, 0, none⟩ (.slice A4 us.length n4)).setCell ⟨w.heap.size + 1, 1, none⟩ (.slice B4 rs.length m4))) := by
    have x0 := (y0.other (g' := w.heap.size + 1) (by omega) 0 (.slice A4 us.length n4)).other (g' := w.heap.size + 1) (by omega) 1 (.slice B4 rs.length m4)
    have x1 := y1.set (.slice A4 us.length n4) (.slice B4 rs.length m4)
    refine ⟨fun p hp => ?_, below_set2 bel (by omega) _ _, fun p hp => ?_⟩
    · rcases List.mem_cons.1 hp with rfl | hp
      · exact ⟨x0.cell0, x0.lt⟩
      · rcases List.mem_cons.1 hp with rfl | hp
        · exact ⟨x0.cell1, x0.lt⟩
        · rcases List.mem_cons.1 hp with rfl | hp
          · exact ⟨x1.cell0, x1.lt⟩
          · rcases List.mem_cons.1 hp with rfl | hp
            · exact ⟨x1.cell1, x1.lt⟩
            · cases hp
    · rcases List.mem_cons.1 hp with rfl | hp
      · exact z1.set2 y1 (by intro z; simp) (by intro z; simp)
      · rcases List.mem_cons.1 hp with rfl | hp
        · exact z2.set2 y1 (by intro z; simp) (by intro z; simp)
        · rcases List.mem_cons.1 hp with rfl | hp
          · exact hv4.set2 y1 (by intro z; simp) (by intro z; simp)
          · rcases List.mem_cons.1 hp with rfl | hp
            · exact hv5.set2 y1 (by intro z; simp) (by intro z; simp)
            · cases hp
  have c0 := y1.cell0
  have c1 := y1.cell1
  have f0 := y1.frozen 0
  have f1 := y1.frozen 1
  clear y0 y1 z1 z2 bel hb1 hv4 hv5
  go_wp2_with fail
  go_loopw [5] (fun i wr => ∃ m : Nat, m ≤ ls.length ∧ i = .int .i64 m ∧ Hid (KX w [(⟨w.heap.size, 0, none⟩, .slice A vs.length n), (⟨w.heap.size, 1, none⟩, .slice B ls.length k), (⟨w.heap.size + 1, 0, none⟩, .slice A4 us.length n4), (⟨w.heap.size + 1, 1, none⟩, .slice B4 rs.length m4)]
      [(.slice A vs.length n, vs), (.slice B ls.length k, ls), (.slice A4 us.length n4, us), (.slice B4 rs.length m4, rs)] wr) ∧ Hid (∀ j p, j < m → ls[j]? = some p → hasC us rs p.1 p.2 = true)) (fun i _ => ls.length - (intOf i).toNat)
  case atStart => exact ⟨0, by omega, rfl, KS, fun j p h => by omega⟩
  case round =>
    obtain ⟨m, hk2, rfl, hK, hs⟩ := hrel
    have c0 := hK.out.cell (a := ⟨w.heap.size, 0, none⟩) (v := .slice A vs.length n) (by simp)
    have c1 := hK.out.cell (a := ⟨w.heap.size, 1, none⟩) (v := .slice B ls.length k) (by simp)
    have c2 := hK.out.cell (a := ⟨w.heap.size + 1, 0, none⟩) (v := .slice A4 us.length n4) (by simp)
    have c3 := hK.out.cell (a := ⟨w.heap.size + 1, 1, none⟩) (v := .slice B4 rs.length m4) (by simp)
    by_cases hlt : m < ls.length
    · have hx : DotsAt wr B ls := by
        obtain ⟨A', c', e, h, _⟩ := hK.out.h (v := .slice B ls.length k) (xs := ls) (by simp)
        cases e; exact h
      obtain ⟨bb, off, r, c, rfl, hbl, hx1, hc0, hc1⟩ := hx.dot (j := m) hlt
      have l0 := fun p => cell_far (p := p) hbl hc0
      have l1 := fun p => cell_far (p := p) hbl hc1
      have l2 := fun p => (hK.out.far p).cell (a := ⟨w.heap.size, 1, none⟩) (v := .slice (some ⟨bb, off, none⟩) ls.length k) (by simp)
      have l3 := fun p => (hK.out.far p).cell (a := ⟨w.heap.size + 1, 0, none⟩) (v := .slice A4 us.length n4) (by simp)
      have l4 := fun p => (hK.out.far p).cell (a := ⟨w.heap.size + 1, 1, none⟩) (v := .slice B4 rs.length m4) (by simp)
      cases hbh : hasC us rs r c with
      | false =>
        have HH := Lib.hid fun p => ref3Has _ us rs r c false _ (HoldsC.mk ((hK.out.far p).h (v := .slice A4 us.length n4) (xs := us) (by simp)) ((hK.out.far p).h (v := .slice B4 rs.length m4) (xs := rs) (by simp))) hbh
        have HN := Lib.hid (show b = false from by rw [← HB.out]; exact within_no (List.mem_of_getElem? hx1) hbh)
        clear hbh hx1 hc0 hc1 hx
        go_wp2_with fail
        refine wp_region_far (by kernel_rfl) (by kernel_rfl) ?_
        repeat (go_big_quiet_step ((go_at_call 25; exact far_of (HH.out _))))
        refine wpQuiet_nil ?_
        rintro _ ⟨p, rfl⟩
        go_wp2
        go_ret
        exact ⟨ret_bool HN.out.symm, (hK.out.far p).bel⟩
      | true =>
        have HH := Lib.hid fun p => ref3Has _ us rs r c true _ (HoldsC.mk ((hK.out.far p).h (v := .slice A4 us.length n4) (xs := us) (by simp)) ((hK.out.far p).h (v := .slice B4 rs.length m4) (xs := rs) (by simp))) hbh
        have HN := Lib.hid (show ∀ j p, j < m + 1 → ls[j]? = some p → hasC us rs p.1 p.2 = true from fun j p hj hp => by
          by_cases e : j = m
          · subst e; rw [hx1] at hp; cases hp; exact hbh
          · exact hs.out j p (by omega) hp)
        clear hbh hx1 hc0 hc1 hx
        go_wp2_with fail
        refine wp_region_far (by kernel_rfl) (by kernel_rfl) ?_
        repeat (go_big_quiet_step ((go_at_call 25; exact far_of (HH.out _))))
        refine wpQuiet_nil ?_
        rintro _ ⟨p, rfl⟩
        have KF := Lib.hid (hK.out.far p)
        go_wp2
        go_roundw
        case rel => exact ⟨m + 1, by omega, by go_num, KF, HN⟩
        case measure => simp [intOf]; omega
    · have hall := Lib.hid (show withinV vs us = b from by
        rw [← HB.out]
        exact (within_yes fun d hd => by
          obtain ⟨j, hj⟩ := List.mem_iff_getElem?.1 hd
          have hl := (List.getElem?_eq_some_iff.1 hj).1
          exact hs.out j d (by omega) hj).symm)
      have HV := Lib.hid (ref2Within_h3 _ _ vs us b wr (hK.out.h (v := .slice A vs.length n) (xs := vs) (by simp)) (hK.out.h (v := .slice A4 us.length n4) (xs := us) (by simp)) hall.out)
      go_wp2_with fail
      refine HV.out.mono ?_
      rintro e w2 ⟨rfl, hb1⟩
      have K2 := Lib.hid (hK.out.below hb1)
      clear hb1
      go_wp2
      go_ret
      exact ⟨rfl, K2.out.bel⟩

end Go.Proofs.Ytibnlifdeknicaa
