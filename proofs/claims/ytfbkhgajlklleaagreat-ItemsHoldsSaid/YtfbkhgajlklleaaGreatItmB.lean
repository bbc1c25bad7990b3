/- The reference of package items: has, Meet, One. -/
import Derived.Test.YtfbkhgajlklleaaGreatItmA
namespace Go.Proofs.YtfbkhgajlklleaaGreat
open Go.RowKit

theorem any_false_step {α : Type} {p : α → Bool} {xs : List α} {m : Nat} {x : α} (h : (xs.take m).any p = false) (hx : xs[m]? = some x) (hp : p x = false) : (xs.take (m + 1)).any p = false := by
  rw [any_step hx, h, hp]; rfl
theorem any_true_at {α : Type} {p : α → Bool} {xs : List α} {m : Nat} {x : α} (hx : xs[m]? = some x) (hp : p x = true) : xs.any p = true := by
  rw [List.any_eq_true]; exact ⟨x, List.mem_of_getElem? hx, hp⟩

set_option maxHeartbeats 2000000 in
theorem refHas9 (x : ItV) (r c : Int) (w : World) (hx : ItOK w x) :
    Calls Tryz.prog 47 #[mkIt x, .agg #[.int .i64 r, .int .i64 c]] w (OneB (.bool (hasD x.ms r c)) w) := by
  have hm := hx.len
  unfold maxLen at hm
  have h1 : Below w.heap.size w ((w.alloc (.cells #[.string ⟨x.nm.toArray⟩, .slice x.A x.ms.length x.c] 34)).alloc (.cells #[.int .i64 r, .int .i64 c] 29)) := ((Below.refl _ w).alloc (Nat.le_refl _) _).alloc (by simp) _
  have B0 := Lib.hid ((BlkI.new w x).below ((Below.refl _ _).alloc (Nat.le_refl _) (.cells #[.int .i64 r, .int .i64 c] 29)))
  have D0 := Lib.hid (show ((w.alloc (.cells #[.string ⟨x.nm.toArray⟩, .slice x.A x.ms.length x.c] 34)).alloc (.cells #[.int .i64 r, .int .i64 c] 29)).heap[w.heap.size + 1]? = some (.cells #[.int .i64 r, .int .i64 c] 29 (0, 0)) from by
    have h := heap_alloc_new (w.alloc (.cells #[.string ⟨x.nm.toArray⟩, .slice x.A x.ms.length x.c] 34)) (.cells #[.int .i64 r, .int .i64 c] 29)
    rwa [World.size_alloc] at h)
  have HX := Lib.hid hx.1
  have HB := Lib.hid h1
  clear hx h1
  go_enter Tryz.func47, Tryz.ntmps47
  go_wp2_with fail
  generalize World.alloc (World.alloc w _) _ = w2 at B0 D0 HB ⊢
  go_loopw [5] (fun i wr => ∃ (k : Nat), k ≤ x.ms.length ∧ i = .int .i64 k ∧ Hid (Below w2.heap.size w2 wr) ∧ Hid ((x.ms.take k).any (fun m => decide (m.r = r ∧ m.c = c)) = false)) (fun i _ => x.ms.length - (intOf i).toNat)
  case atStart => exact ⟨0, by omega, rfl, Below.refl _ _, show Hid _ from rfl⟩
  case round =>
    obtain ⟨k, hk, rfl, hb, hs⟩ := hrel
    have hlw := (B0.out.below hb.out).lt
    have b0 := (B0.out.below hb.out).cell0
    have b1 := (B0.out.below hb.out).cell1
    by_cases hlt : k < x.ms.length
    · have i0 : (k : Int) < (x.ms.length : Int) := by omega
      have hld : w.heap.size + 1 < wr.heap.size := Nat.lt_of_lt_of_le (Array.getElem?_eq_some_iff.1 D0.out).1 hb.out.size
      obtain ⟨g, off, y, hA, hbl, hx1, _, hc0, hc1, hc2, hc3⟩ := ((HX.out.below HB.out).below hb.out).mark (j := k) hlt
      rw [hA] at b1
      have l0 := fun p => cell_far (p := p) hlw b0
      have l1 := fun p => cell_far (p := p) hlw b1
      have m0 := fun p => cell_far (p := p) hbl hc0
      have m1 := fun p => cell_far (p := p) hbl hc1
      have hd := (hb.out.block _ (Array.getElem?_eq_some_iff.1 D0.out).1).trans D0.out
      have d0 : wr.cell? ⟨w.heap.size + 1, 0, none⟩ = some (.int .i64 r) := by simp [World.cell?, hd]
      have d1 : wr.cell? ⟨w.heap.size + 1, 1, none⟩ = some (.int .i64 c) := by simp [World.cell?, hd]
      have n0 := fun p => cell_far (p := p) hld d0
      have n1 := fun p => cell_far (p := p) hld d1
      clear hc0 hc1 hc2 hc3 hd d0 d1
      by_cases hr : y.r = r
      · by_cases hc : y.c = c
        · have HF := Lib.hid (show true = hasD x.ms r c from (any_true_at hx1 (by simp [hr, hc])).symm)
          subst hr hc
          clear hx1
          go_wp2_with fail
          refine wp_region_far (by kernel_rfl) (by kernel_rfl) ?_
          repeat (go_big_quiet_step ((fail)))
          refine wpQuiet_nil ?_
          rintro _ ⟨p, rfl⟩
          go_wp2_with fail
          go_ret
          exact OneB.bool HF.out (below_trans HB.out (hb.out.trans ((below_far wr p).mono hb.out.size)))
        · have HF := Lib.hid (any_false_step hs.out hx1 (by simp [hc]))
          subst hr
          clear hx1
          go_wp2_with fail
          refine wp_region_far (by kernel_rfl) (by kernel_rfl) ?_
          repeat (go_big_quiet_step ((fail)))
          refine wpQuiet_nil ?_
          rintro _ ⟨p, rfl⟩
          go_wp2_with fail
          go_roundw
          case rel => exact ⟨k + 1, by omega, by go_num, hb.out.trans ((below_far wr p).mono hb.out.size), HF⟩
          case measure => simp [intOf]; omega
      · have HF := Lib.hid (any_false_step hs.out hx1 (by simp [hr]))
        clear hx1
        go_wp2_with fail
        refine wp_region_far (by kernel_rfl) (by kernel_rfl) ?_
        repeat (go_big_quiet_step ((fail)))
        refine wpQuiet_nil ?_
        rintro _ ⟨p, rfl⟩
        go_wp2_with fail
        go_roundw
        case rel => exact ⟨k + 1, by omega, by go_num, hb.out.trans ((below_far wr p).mono hb.out.size), HF⟩
        case measure => simp [intOf]; omega
    · obtain rfl : k = x.ms.length := by omega
      rw [List.take_length] at hs
      have i0 : ¬ (x.ms.length : Int) < (x.ms.length : Int) := by omega
      have HF := Lib.hid (show false = hasD x.ms r c from hs.out.symm)
      clear hs
      go_wp2_with fail
      go_ret
      exact OneB.bool HF.out (below_trans HB.out hb.out)

set_option maxHeartbeats 2000000 in
theorem refMeet (x y : ItV) (w : World) (hx : ItOK w x) (hy : ItOK w y) :
    Calls Tryz.prog 41 #[mkIt x, mkIt y] w (OneB (.bool (meetN x.ms y.ms)) w) := by
  have hm := hx.len
  unfold maxLen at hm
  have h1 : Below w.heap.size w ((w.alloc (.cells #[.string ⟨x.nm.toArray⟩, .slice x.A x.ms.length x.c] 34)).alloc (.cells #[.string ⟨y.nm.toArray⟩, .slice y.A y.ms.length y.c] 34)) := ((Below.refl _ w).alloc (Nat.le_refl _) _).alloc (by simp) _
  have B0 := Lib.hid ((BlkI.new w x).below ((Below.refl _ _).alloc (Nat.le_refl _) (.cells #[.string ⟨y.nm.toArray⟩, .slice y.A y.ms.length y.c] 34)))
  have D0 := Lib.hid (show BlkI ((w.alloc (.cells #[.string ⟨x.nm.toArray⟩, .slice x.A x.ms.length x.c] 34)).alloc (.cells #[.string ⟨y.nm.toArray⟩, .slice y.A y.ms.length y.c] 34)) (w.heap.size + 1) y from by
    have h := BlkI.new (w.alloc (.cells #[.string ⟨x.nm.toArray⟩, .slice x.A x.ms.length x.c] 34)) y
    rwa [World.size_alloc] at h)
  have HX := Lib.hid hx.1
  have HY := Lib.hid hy
  have HB := Lib.hid h1
  clear hx hy h1
  go_enter Tryz.func41, Tryz.ntmps41
  go_wp2_with fail
  generalize World.alloc (World.alloc w _) _ = w2 at B0 D0 HB ⊢
  go_loopw [5] (fun i wr => ∃ (k : Nat), k ≤ x.ms.length ∧ i = .int .i64 k ∧ Hid (Below w2.heap.size w2 wr) ∧ Hid ((x.ms.take k).any (fun m => hasD y.ms m.r m.c) = false)) (fun i _ => x.ms.length - (intOf i).toNat)
  case atStart => exact ⟨0, by omega, rfl, Below.refl _ _, show Hid _ from rfl⟩
  case round =>
    obtain ⟨k, hk, rfl, hb, hs⟩ := hrel
    have hlw := (B0.out.below hb.out).lt
    have b0 := (B0.out.below hb.out).cell0
    have b1 := (B0.out.below hb.out).cell1
    by_cases hlt : k < x.ms.length
    · have i0 : (k : Int) < (x.ms.length : Int) := by omega
      have hld := (D0.out.below hb.out).lt
      obtain ⟨g, off, z, hA, hbl, hx1, _, hc0, hc1, hc2, hc3⟩ := ((HX.out.below HB.out).below hb.out).mark (j := k) hlt
      rw [hA] at b1
      have HR := Lib.hid fun p => refHas9 y z.r z.c (far wr p) ((((HY.out.below HB.out).below hb.out)).below (below_far wr p))
      have l1 := fun p => cell_far (p := p) hlw b1
      have m0 := fun p => cell_far (p := p) hbl hc0
      have m1 := fun p => cell_far (p := p) hbl hc1
      have n0 := fun p => cell_far (p := p) hld (D0.out.below hb.out).cell0
      have n1 := fun p => cell_far (p := p) hld (D0.out.below hb.out).cell1
      clear hc0 hc1 hc2 hc3
      cases hq : hasD y.ms z.r z.c with
      | true =>
        have HF := Lib.hid (show true = meetN x.ms y.ms from (any_true_at hx1 hq).symm)
        rw [hq] at HR
        clear hx1 hq
        go_wp2_with fail
        refine wp_region_far (by kernel_rfl) (by kernel_rfl) ?_
        repeat (go_big_quiet_step ((go_at_call 47; exact OneB.far (HR.out _))))
        refine wpQuiet_nil ?_
        rintro _ ⟨p, rfl⟩
        go_wp2_with fail
        go_ret
        exact OneB.bool HF.out (below_trans HB.out (hb.out.trans ((below_far wr p).mono hb.out.size)))
      | false =>
        have HF := Lib.hid (any_false_step (p := fun m => hasD y.ms m.r m.c) hs.out hx1 hq)
        simp only [hq] at HR
        clear hx1 hq
        go_wp2_with fail
        refine wp_region_far (by kernel_rfl) (by kernel_rfl) ?_
        repeat (go_big_quiet_step ((go_at_call 47; exact OneB.far (HR.out _))))
        refine wpQuiet_nil ?_
        rintro _ ⟨p, rfl⟩
        go_wp2_with fail
        go_roundw
        case rel => exact ⟨k + 1, by omega, by go_num, hb.out.trans ((below_far wr p).mono hb.out.size), HF⟩
        case measure => simp [intOf]; omega
    · obtain rfl : k = x.ms.length := by omega
      rw [List.take_length] at hs
      have i0 : ¬ (x.ms.length : Int) < (x.ms.length : Int) := by omega
      have HF := Lib.hid (show false = meetN x.ms y.ms from hs.out.symm)
      clear hs
      go_wp2_with fail
      go_ret
      exact OneB.bool HF.out (below_trans HB.out hb.out)

/-- Which items are valid. -/
def okI (x : It) : Bool := itemN x.1 && (decide (0 < x.2.length) && (x.2.all validM && isSetB (dotsM x.2)))

set_option maxHeartbeats 2000000 in
theorem refOne (x : ItV) (b : Bool) (w : World) (hx : ItOK w x) (hn : x.nm.length ≤ 1000) (hm : x.ms.length ≤ 100000) (hb : okI x.it = b) :
    Calls Tryz.prog 24 #[mkIt x] w (OneB (.bool b) w) := by
  have hml := hx.len
  have HI := Lib.hid fun W => refItem x.nm W hn
  have HM := Lib.hid fun W (h : MarksAt W x.A x.ms) => refMarks x.A x.ms x.c W h hml
  have HL := Lib.hid fun W b (h : MarksAt W x.A x.ms) (hb : isSetB (dotsM x.ms) = b) => refIsList x.A x.ms x.c b W h hm hb
  have HX := Lib.hid hx.1
  have hb' : (itemN x.nm && (decide (0 < x.ms.length) && (x.ms.all validM && isSetB (dotsM x.ms)))) = b := hb
  have B0 := Lib.hid (BlkI.new w x)
  have HB := Lib.hid ((Below.refl w.heap.size w).alloc (Nat.le_refl _) (.cells #[.string ⟨x.nm.toArray⟩, .slice x.A x.ms.length x.c] 34))
  obtain ⟨p1, h1⟩ : ∃ p, itemN x.nm = p := ⟨_, rfl⟩
  obtain ⟨p2, h2⟩ : ∃ p, x.ms.all validM = p := ⟨_, rfl⟩
  obtain ⟨p3, h3⟩ : ∃ p, isSetB (dotsM x.ms) = p := ⟨_, rfl⟩
  rw [h1] at HI hb'
  rw [h2] at HM hb'
  rw [h3] at hb'
  have H3 := Lib.hid h3
  have hlw := B0.out.lt
  have c0 := B0.out.cell0
  have c1 := B0.out.cell1
  clear hb hx h1 h2 h3 hml
  cases p1 with
  | false =>
    obtain rfl : b = false := by simpa using hb'.symm
    clear hb' c0 c1 hlw
    go_enter Tryz.func24, Tryz.ntmps24
    go_wp2_with fail
    refine (HI.out _).mono ?_
    rintro e w1 ⟨rfl, rfl⟩
    go_wp2_with fail
    go_ret
    exact ⟨rfl, HB.out⟩
  | true =>
    by_cases h0 : 0 < x.ms.length
    · have i0 : (0 : Int) < (x.ms.length : Int) := by omega
      have hd : decide (0 < x.ms.length) = true := decide_eq_true h0
      rw [hd] at hb'
      clear h0 hd
      cases p2 with
      | false =>
        obtain rfl : b = false := by simpa using hb'.symm
        clear hb'
        go_enter Tryz.func24, Tryz.ntmps24
        go_wp2_with fail
        refine (HI.out _).mono ?_
        rintro e w1 ⟨rfl, rfl⟩
        go_wp2_with fail
        refine (HM.out _ (HX.out.below HB.out)).mono ?_
        rintro e w2 ⟨rfl, hb2⟩
        have HB2 := Lib.hid (below_trans HB.out hb2)
        clear hb2 c0 c1 hlw
        go_wp2_with fail
        go_ret
        exact ⟨rfl, HB2.out⟩
      | true =>
        obtain rfl : b = p3 := by simpa using hb'.symm
        clear hb'
        go_enter Tryz.func24, Tryz.ntmps24
        go_wp2_with fail
        refine (HI.out _).mono ?_
        rintro e w1 ⟨rfl, rfl⟩
        go_wp2_with fail
        refine (HM.out _ (HX.out.below HB.out)).mono ?_
        rintro e w2 ⟨rfl, hb2⟩
        have HB2 := Lib.hid (below_trans HB.out hb2)
        have B2 := Lib.hid (B0.out.below hb2)
        clear hb2 c0 c1 hlw
        have c0 := B2.out.cell0
        have c1 := B2.out.cell1
        go_wp2_with fail
        refine (HL.out _ _ (HX.out.below HB2.out) H3.out).mono ?_
        rintro e w3 ⟨rfl, hb3⟩
        have HB3 := Lib.hid (below_trans HB2.out hb3)
        clear hb3 c0 c1
        go_wp2_with fail
        go_ret
        exact ⟨rfl, HB3.out⟩
    · have i0 : ¬ (0 : Int) < (x.ms.length : Int) := by omega
      have hd : decide (0 < x.ms.length) = false := decide_eq_false (by omega)
      rw [hd] at hb'
      obtain rfl : b = false := by simpa using hb'.symm
      clear h0 hd hb'
      go_enter Tryz.func24, Tryz.ntmps24
      go_wp2_with fail
      refine (HI.out _).mono ?_
      rintro e w1 ⟨rfl, rfl⟩
      go_wp2_with fail
      go_ret
      exact ⟨rfl, HB.out⟩

end Go.Proofs.YtfbkhgajlklleaaGreat
