/- Several texts in one: ItmB, ItmC, ItmD. -/
import Derived.Test.YtiaehpdgpjhecaaGreatMAI
namespace Go.Proofs.YtiaehpdgpjhecaaGreat

section
open Go.RowKit

theorem any_false_step {α : Type} {p : α → Bool} {xs : List α} {m : Nat} {x : α} (h : (xs.take m).any p = false) (hx : xs[m]? = some x) (hp : p x = false) : (xs.take (m + 1)).any p = false := by
  rw [any_step hx, h, hp]; rfl
theorem any_true_at {α : Type} {p : α → Bool} {xs : List α} {m : Nat} {x : α} (hx : xs[m]? = some x) (hp : p x = true) : xs.any p = true := by
  rw [List.any_eq_true]; exact ⟨x, List.mem_of_getElem? hx, hp⟩

set_option maxHeartbeats 2000000 in
theorem refHas9 (x : ItV) (r c : Int) (w : World) (hx : ItOK w x) :
    Calls Tryz.prog 205 #[mkIt x, .agg #[.int .i64 r, .int .i64 c]] w (OneB (.bool (hasD x.ms r c)) w) := by
  have hm := hx.len
  unfold maxLen at hm
  have h1 : Below w.heap.size w ((w.alloc (.cells #[.string ⟨x.nm.toArray⟩, .slice x.A x.ms.length x.c] 50)).alloc (.cells #[.int .i64 r, .int .i64 c] 30)) := ((Below.refl _ w).alloc (Nat.le_refl _) _).alloc (by simp) _
  have B0 := Lib.hid ((BlkI.new w x).below ((Below.refl _ _).alloc (Nat.le_refl _) (.cells #[.int .i64 r, .int .i64 c] 30)))
  have D0 := Lib.hid (show ((w.alloc (.cells #[.string ⟨x.nm.toArray⟩, .slice x.A x.ms.length x.c] 50)).alloc (.cells #[.int .i64 r, .int .i64 c] 30)).heap[w.heap.size + 1]? = some (.cells #[.int .i64 r, .int .i64 c] 30 (0, 0)) from by
    have h := heap_alloc_new (w.alloc (.cells #[.string ⟨x.nm.toArray⟩, .slice x.A x.ms.length x.c] 50)) (.cells #[.int .i64 r, .int .i64 c] 30)
    rwa [World.size_alloc] at h)
  have HX := Lib.hid hx.1
  have HB := Lib.hid h1
  clear hx h1
  go_enter Tryz.func205, Tryz.ntmps205
  go_wp2_with fail
  generalize World.alloc (World.alloc w _) _ = w2 at B0 D0 HB ⊢
  go_loopw [5] (fun i wr => ∃ (k : Nat), k ≤ x.ms.length ∧ i = .int .i64 k ∧ Hid (Below w2.heap.size w2 wr) ∧ Hid ((x.ms.take k).any (fun m => decide (m.r = r ∧ m.c = c)) = false)) (fun i _ => x.ms.length - (intOf i).toNat)
  case atStart => exact ⟨0, by omega, rfl, Below.refl _ _, show Hid _ from rfl⟩
  case round =>
    obtain ⟨k, hk, rfl, hb, hs⟩ := hrel
    have hlw := (B0.out.below hb.out).lt
    have b0 := (B0.out.below hb.out).cell0
    have b1 := (B0.out.below hb.out).cell1
    by_cases hlt : k < x.ms.length
    · have i0 : (k : Int) < (x.ms.length : Int) := by omega
      have hld : w.heap.size + 1 < wr.heap.size := Nat.lt_of_lt_of_le (Array.getElem?_eq_some_iff.1 D0.out).1 hb.out.size
      obtain ⟨g, off, y, hA, hbl, hx1, _, hc0, hc1, hc2, hc3⟩ := ((HX.out.below HB.out).below hb.out).mark (j := k) hlt
      rw [hA] at b1
      have l0 := fun p => cell_far (p := p) hlw b0
      have l1 := fun p => cell_far (p := p) hlw b1
      have m0 := fun p => cell_far (p := p) hbl hc0
      have m1 := fun p => cell_far (p := p) hbl hc1
      have hd := (hb.out.block _ (Array.getElem?_eq_some_iff.1 D0.out).1).trans D0.out
      have d0 : wr.cell? ⟨w.heap.size + 1, 0, none⟩ = some (.int .i64 r) := by simp [World.cell?, hd]
      have d1 : wr.cell? ⟨w.heap.size + 1, 1, none⟩ = some (.int .i64 c) := by simp [World.cell?, hd]
      have n0 := fun p => cell_far (p := p) hld d0
      have n1 := fun p => cell_far (p := p) hld d1
      clear hc0 hc1 hc2 hc3 hd d0 d1
      by_cases hr : y.r = r
      · by_cases hc : y.c = c
        · have HF := Lib.hid (show true = hasD x.ms r c from (any_true_at hx1 (by simp [hr, hc])).symm)
          subst hr hc
          clear hx1
          go_wp2_with fail
          refine wp_region_far (by kernel_rfl) (by kernel_rfl) ?_
          repeat (go_big_quiet_step ((fail)))
          refine wpQuiet_nil ?_
          rintro _ ⟨p, rfl⟩
          go_wp2_with fail
          go_ret
          exact OneB.bool HF.out (below_trans HB.out (hb.out.trans ((below_far wr p).mono hb.out.size)))
        · have HF := Lib.hid (any_false_step hs.out hx1 (by simp [hc]))
          subst hr
          clear hx1
          go_wp2_with fail
          refine wp_region_far (by kernel_rfl) (by kernel_rfl) ?_
          repeat (go_big_quiet_step ((fail)))
          refine wpQuiet_nil ?_
          rintro _ ⟨p, rfl⟩
          go_wp2_with fail
          go_roundw
          case rel => exact ⟨k + 1, by omega, by go_num, hb.out.trans ((below_far wr p).mono hb.out.size), HF⟩
          case measure => simp [intOf]; omega
      · have HF := Lib.hid (any_false_step hs.out hx1 (by simp [hr]))
        clear hx1
        go_wp2_with fail
        refine wp_region_far (by kernel_rfl) (by kernel_rfl) ?_
        repeat (go_big_quiet_step ((fail)))
        refine wpQuiet_nil ?_
        rintro _ ⟨p, rfl⟩
        go_wp2_with fail
        go_roundw
        case rel => exact ⟨k + 1, by omega, by go_num, hb.out.trans ((below_far wr p).mono hb.out.size), HF⟩
        case measure => simp [intOf]; omega
    · obtain rfl : k = x.ms.length := by omega
      rw [List.take_length] at hs
      have i0 : ¬ (x.ms.length : Int) < (x.ms.length : Int) := by omega
      have HF := Lib.hid (show false = hasD x.ms r c from hs.out.symm)
      clear hs
      go_wp2_with fail
      go_ret
      exact OneB.bool HF.out (below_trans HB.out hb.out)

set_option maxHeartbeats 2000000 in
theorem refMeet (x y : ItV) (w : World) (hx : ItOK w x) (hy : ItOK w y) :
    Calls Tryz.prog 157 #[mkIt x, mkIt y] w (OneB (.bool (meetN x.ms y.ms)) w) := by
  have hm := hx.len
  unfold maxLen at hm
  have h1 : Below w.heap.size w ((w.alloc (.cells #[.string ⟨x.nm.toArray⟩, .slice x.A x.ms.length x.c] 50)).alloc (.cells #[.string ⟨y.nm.toArray⟩, .slice y.A y.ms.length y.c] 50)) := ((Below.refl _ w).alloc (Nat.le_refl _) _).alloc (by simp) _
  have B0 := Lib.hid ((BlkI.new w x).below ((Below.refl _ _).alloc (Nat.le_refl _) (.cells #[.string ⟨y.nm.toArray⟩, .slice y.A y.ms.length y.c] 50)))
  have D0 := Lib.hid (show BlkI ((w.alloc (.cells #[.string ⟨x.nm.toArray⟩, .slice x.A x.ms.length x.c] 50)).alloc (.cells #[.string ⟨y.nm.toArray⟩, .slice y.A y.ms.length y.c] 50)) (w.heap.size + 1) y from by
    have h := BlkI.new (w.alloc (.cells #[.string ⟨x.nm.toArray⟩, .slice x.A x.ms.length x.c] 50)) y
    rwa [World.size_alloc] at h)
  have HX := Lib.hid hx.1
  have HY := Lib.hid hy
  have HB := Lib.hid h1
  clear hx hy h1
  go_enter Tryz.func157, Tryz.ntmps157
  go_wp2_with fail
  generalize World.alloc (World.alloc w _) _ = w2 at B0 D0 HB ⊢
  go_loopw [5] (fun i wr => ∃ (k : Nat), k ≤ x.ms.length ∧ i = .int .i64 k ∧ Hid (Below w2.heap.size w2 wr) ∧ Hid ((x.ms.take k).any (fun m => hasD y.ms m.r m.c) = false)) (fun i _ => x.ms.length - (intOf i).toNat)
  case atStart => exact ⟨0, by omega, rfl, Below.refl _ _, show Hid _ from rfl⟩
  case round =>
    obtain ⟨k, hk, rfl, hb, hs⟩ := hrel
    have hlw := (B0.out.below hb.out).lt
    have b0 := (B0.out.below hb.out).cell0
    have b1 := (B0.out.below hb.out).cell1
    by_cases hlt : k < x.ms.length
    · have i0 : (k : Int) < (x.ms.length : Int) := by omega
      have hld := (D0.out.below hb.out).lt
      obtain ⟨g, off, z, hA, hbl, hx1, _, hc0, hc1, hc2, hc3⟩ := ((HX.out.below HB.out).below hb.out).mark (j := k) hlt
      rw [hA] at b1
      have HR := Lib.hid fun p => refHas9 y z.r z.c (far wr p) ((((HY.out.below HB.out).below hb.out)).below (below_far wr p))
      have l1 := fun p => cell_far (p := p) hlw b1
      have m0 := fun p => cell_far (p := p) hbl hc0
      have m1 := fun p => cell_far (p := p) hbl hc1
      have n0 := fun p => cell_far (p := p) hld (D0.out.below hb.out).cell0
      have n1 := fun p => cell_far (p := p) hld (D0.out.below hb.out).cell1
      clear hc0 hc1 hc2 hc3
      cases hq : hasD y.ms z.r z.c with
      | true =>
        have HF := Lib.hid (show true = meetN x.ms y.ms from (any_true_at hx1 hq).symm)
        rw [hq] at HR
        clear hx1 hq
        go_wp2_with fail
        refine wp_region_far (by kernel_rfl) (by kernel_rfl) ?_
        repeat (go_big_quiet_step ((go_at_call 205; exact OneB.far (HR.out _))))
        refine wpQuiet_nil ?_
        rintro _ ⟨p, rfl⟩
        go_wp2_with fail
        go_ret
        exact OneB.bool HF.out (below_trans HB.out (hb.out.trans ((below_far wr p).mono hb.out.size)))
      | false =>
        have HF := Lib.hid (any_false_step (p := fun m => hasD y.ms m.r m.c) hs.out hx1 hq)
        simp only [hq] at HR
        clear hx1 hq
        go_wp2_with fail
        refine wp_region_far (by kernel_rfl) (by kernel_rfl) ?_
        repeat (go_big_quiet_step ((go_at_call 205; exact OneB.far (HR.out _))))
        refine wpQuiet_nil ?_
        rintro _ ⟨p, rfl⟩
        go_wp2_with fail
        go_roundw
        case rel => exact ⟨k + 1, by omega, by go_num, hb.out.trans ((below_far wr p).mono hb.out.size), HF⟩
        case measure => simp [intOf]; omega
    · obtain rfl : k = x.ms.length := by omega
      rw [List.take_length] at hs
      have i0 : ¬ (x.ms.length : Int) < (x.ms.length : Int) := by omega
      have HF := Lib.hid (show false = meetN x.ms y.ms from hs.out.symm)
      clear hs
      go_wp2_with fail
      go_ret
      exact OneB.bool HF.out (below_trans HB.out hb.out)

/-- Which items are valid. -/
def okI (x : It) : Bool := itemN x.1 && (decide (0 < x.2.length) && (x.2.all validM && isSetB (dotsM x.2)))

set_option maxHeartbeats 2000000 in
theorem refOne (x : ItV) (b : Bool) (w : World) (hx : ItOK w x) (hn : x.nm.length ≤ 1000) (hm : x.ms.length ≤ 100000) (hb : okI x.it = b) :
    Calls Tryz.prog 155 #[mkIt x] w (OneB (.bool b) w) := by
  have hml := hx.len
  have HI := Lib.hid fun W => refItem x.nm W hn
  have HM := Lib.hid fun W (h : MarksAt W x.A x.ms) => refMarks x.A x.ms x.c W h hml
  have HL := Lib.hid fun W b (h : MarksAt W x.A x.ms) (hb : isSetB (dotsM x.ms) = b) => refIsList x.A x.ms x.c b W h hm hb
  have HX := Lib.hid hx.1
  have hb' : (itemN x.nm && (decide (0 < x.ms.length) && (x.ms.all validM && isSetB (dotsM x.ms)))) = b := hb
  have B0 := Lib.hid (BlkI.new w x)
  have HB := Lib.hid ((Below.refl w.heap.size w).alloc (Nat.le_refl _) (.cells #[.string ⟨x.nm.toArray⟩, .slice x.A x.ms.length x.c] 50))
  obtain ⟨p1, h1⟩ : ∃ p, itemN x.nm = p := ⟨_, rfl⟩
  obtain ⟨p2, h2⟩ : ∃ p, x.ms.all validM = p := ⟨_, rfl⟩
  obtain ⟨p3, h3⟩ : ∃ p, isSetB (dotsM x.ms) = p := ⟨_, rfl⟩
  rw [h1] at HI hb'
  rw [h2] at HM hb'
  rw [h3] at hb'
  have H3 := Lib.hid h3
  have hlw := B0.out.lt
  have c0 := B0.out.cell0
  have c1 := B0.out.cell1
  clear hb hx h1 h2 h3 hml
  cases p1 with
  | false =>
    obtain rfl : b = false := by simpa using hb'.symm
    clear hb' c0 c1 hlw
    go_enter Tryz.func155, Tryz.ntmps155
    go_wp2_with fail
    refine (HI.out _).mono ?_
    rintro e w1 ⟨rfl, rfl⟩
    go_wp2_with fail
    go_ret
    exact ⟨rfl, HB.out⟩
  | true =>
    by_cases h0 : 0 < x.ms.length
    · have i0 : (0 : Int) < (x.ms.length : Int) := by omega
      have hd : decide (0 < x.ms.length) = true := decide_eq_true h0
      rw [hd] at hb'
      clear h0 hd
      cases p2 with
      | false =>
        obtain rfl : b = false := by simpa using hb'.symm
        clear hb'
        go_enter Tryz.func155, Tryz.ntmps155
        go_wp2_with fail
        refine (HI.out _).mono ?_
        rintro e w1 ⟨rfl, rfl⟩
        go_wp2_with fail
        refine (HM.out _ (HX.out.below HB.out)).mono ?_
        rintro e w2 ⟨rfl, hb2⟩
        have HB2 := Lib.hid (below_trans HB.out hb2)
        clear hb2 c0 c1 hlw
        go_wp2_with fail
        go_ret
        exact ⟨rfl, HB2.out⟩
      | true =>
        obtain rfl : b = p3 := by simpa using hb'.symm
        clear hb'
        go_enter Tryz.func155, Tryz.ntmps155
        go_wp2_with fail
        refine (HI.out _).mono ?_
        rintro e w1 ⟨rfl, rfl⟩
        go_wp2_with fail
        refine (HM.out _ (HX.out.below HB.out)).mono ?_
        rintro e w2 ⟨rfl, hb2⟩
        have HB2 := Lib.hid (below_trans HB.out hb2)
        have B2 := Lib.hid (B0.out.below hb2)
        clear hb2 c0 c1 hlw
        have c0 := B2.out.cell0
        have c1 := B2.out.cell1
        go_wp2_with fail
        refine (HL.out _ _ (HX.out.below HB2.out) H3.out).mono ?_
        rintro e w3 ⟨rfl, hb3⟩
        have HB3 := Lib.hid (below_trans HB2.out hb3)
        clear hb3 c0 c1
        go_wp2_with fail
        go_ret
        exact ⟨rfl, HB3.out⟩
    · have i0 : ¬ (0 : Int) < (x.ms.length : Int) := by omega
      have hd : decide (0 < x.ms.length) = false := decide_eq_false (by omega)
      rw [hd] at hb'
      obtain rfl : b = false := by simpa using hb'.symm
      clear h0 hd hb'
      go_enter Tryz.func155, Tryz.ntmps155
      go_wp2_with fail
      refine (HI.out _).mono ?_
      rintro e w1 ⟨rfl, rfl⟩
      go_wp2_with fail
      go_ret
      exact ⟨rfl, HB.out⟩

end

section
open Go.RowKit

/-- Two items do not meet; a name comes behind the one before it; an item stands where it may. -/
def apartAt (l : List It) (x : It) (k : Nat) : Bool := match l[k]? with
  | some y => !meetN y.2 x.2
  | none => true
def behindAt (l : List It) (x : It) : Nat → Bool
  | 0 => true
  | j + 1 => match l[j]? with
    | some p => beforeN p.1 x.1
    | none => true
def okAt (l : List It) (j : Nat) : Bool := match l[j]? with
  | some x => okI x && (behindAt l x j && (List.range j).all (apartAt l x))
  | none => true
theorem behindAt_succ {l : List It} {x p : It} {j k : Nat} (hk : k = j + 1) (h : l[j]? = some p) : behindAt l x k = beforeN p.1 x.1 := by subst hk; simp [behindAt, h]
/-- Which items are valid. -/
def validL (l : List It) : Bool := (List.range l.length).all (okAt l)
theorem range_yes {p : Nat → Bool} {n : Nat} (h : ∀ j, j < n → p j = true) : (List.range n).all p = true := by
  rw [List.all_eq_true]; intro j hj; exact h j (List.mem_range.1 hj)
theorem range_no {p : Nat → Bool} {n j : Nat} (hj : j < n) (h : p j = false) : (List.range n).all p = false := by
  cases e : (List.range n).all p with
  | false => rfl
  | true => rw [List.all_eq_true] at e; have := e j (List.mem_range.2 hj); rw [h] at this; cases this
theorem range_step {p : Nat → Bool} {n : Nat} (h : ∀ j, j < n → p j = true) (hn : p n = true) : ∀ j, j < n + 1 → p j = true := fun j hj => by
  rcases Nat.lt_or_ge j n with h1 | h1
  · exact h j h1
  · obtain rfl : j = n := by omega
    exact hn
theorem validL_iff {l : List It} : validL l = true ↔ ∀ j, j < l.length → okAt l j = true := by
  unfold validL
  rw [List.all_eq_true]
  exact ⟨fun h j hj => h j (List.mem_range.2 hj), fun h j hj => h j (List.mem_range.1 hj)⟩
/-- The items of a list in memory. -/
abbrev its (xs : List ItV) : List It := xs.map ItV.it
theorem its_at {xs : List ItV} {j : Nat} {x : ItV} (h : xs[j]? = some x) : (its xs)[j]? = some x.it := by rw [List.getElem?_map, h]; rfl
theorem its_len (xs : List ItV) : (its xs).length = xs.length := by simp
/-- Not too long: names, marks, items. -/
def Fits (xs : List ItV) : Prop := xs.length ≤ 300 ∧ ∀ x ∈ xs, x.nm.length ≤ 1000 ∧ x.ms.length ≤ 100

set_option maxRecDepth 100000 in
set_option maxHeartbeats 4000000 in
theorem refValid9 (A : Option Addr) (xs : List ItV) (cap : Nat) (w : World) (hx : ItemsAt w A xs) (hf : Fits xs) :
    Calls Tryz.prog 99 #[.slice A xs.length cap] w (OneB (.bool (validL (its xs))) w) := by
  have hm := hf.1
  have HX := Lib.hid hx
  have HF := Lib.hid hf.2
  clear hx hf
  go_enter Tryz.func99, Tryz.ntmps99
  go_wp2_with fail
  go_loopw [3, 4] (fun i _ wr => ∃ (k : Nat), k ≤ xs.length ∧ i = .int .i64 k ∧ Hid (Below w.heap.size w wr) ∧ Hid (∀ j, j < k → okAt (its xs) j = true)) (fun i _ _ => xs.length - (intOf i).toNat)
  case atStart => exact ⟨0, by omega, rfl, Below.refl _ _, fun j h => by omega⟩
  case round =>
    obtain ⟨k, hk, rfl, hb, hs⟩ := hrel
    by_cases hlt : k < xs.length
    · have i0 : (k : Int) < (xs.length : Int) := by omega
      obtain ⟨b, off, x, rfl, hbl, hx1, hx2, hc0, hc1, hok⟩ := (HX.out.below hb.out).cells (j := k) hlt
      have hxm := HF.out x (List.mem_of_getElem? hx1)
      obtain ⟨b1, hb1⟩ : ∃ b, okI x.it = b := ⟨_, rfl⟩
      have HO := Lib.hid fun p => refOne x b1 (far wr p) (hok.below (below_far wr p)) hxm.1 (by omega) hb1
      have l0 := fun p => cell_far (p := p) hbl hc0
      have l1 := fun p => cell_far (p := p) hbl hc1
      have HA := Lib.hid (show okAt (its xs) k = (okI x.it && (behindAt (its xs) x.it k && (List.range k).all (apartAt (its xs) x.it))) from by unfold okAt; rw [its_at hx1])
      rw [hb1] at HA
      have HK := Lib.hid hok
      have HX1 := Lib.hid hx1
      have HL := Lib.hid (show k < (its xs).length from by rw [its_len]; exact hlt)
      clear hb1 hc0 hc1 hok hx1
      cases b1 with
      | false =>
        have HV := Lib.hid (show false = validL (its xs) from (range_no HL.out HA.out).symm)
        clear HA
        go_wp2_with fail
        refine wp_region_far (by kernel_rfl) (by kernel_rfl) ?_
        repeat (go_big_quiet_step ((go_at_call 155; exact OneB.far (HO.out _))))
        refine wpQuiet_nil ?_
        rintro _ ⟨p, rfl⟩
        go_wp2_with fail
        go_ret
        exact OneB.bool HV.out (hb.out.trans ((below_far wr p).mono hb.out.size))
      | true =>
        have hcase : (¬ (0 : Int) < (k : Int) ∧ k = 0) ∨ ((0 : Int) < (k : Int) ∧ ∃ n, k = n + 1) := by
          cases k with
          | zero => exact .inl ⟨by decide, rfl⟩
          | succ n => exact .inr ⟨by omega, n, rfl⟩
        go_upto_region 4 with fail
        go_cut [35] (fun s35 wx => ∃ q : Bool, s35 = .bool (!q) ∧ Hid (Below w.heap.size w wx) ∧ Hid (behindAt (its xs) x.it k = q))
        case first =>
          rcases hcase with ⟨h0, hk0⟩ | ⟨h0, n, hk0⟩
          · have HB0 := Lib.hid (show behindAt (its xs) x.it k = true from by rw [hk0]; rfl)
            have h0n : ¬ 0 < k := by omega
            have h0d : decide ((0 : Int) < (k : Int)) = false := decide_eq_false h0
            clear hk0
            refine wp_region_far (by kernel_rfl) (by kernel_rfl) ?_
            repeat (go_big_quiet_step ((go_at_call 155; exact OneB.far (HO.out _))))
            refine wpQuiet_nil ?_
            rintro _ ⟨p, rfl⟩
            go_wp2_with fail
            go_meet
            exact ⟨true, rfl, hb.out.trans ((below_far wr p).mono hb.out.size), HB0⟩
          · obtain ⟨b', off', x', ho, hbl', hx1', hj', hd0, hd1, hok'⟩ := (HX.out.below hb.out).cells (j := n) (by omega)
            cases ho
            clear hj'
            have h0n : 0 < k := by omega
            have hym := HF.out x' (List.mem_of_getElem? hx1')
            obtain ⟨q, hq⟩ : ∃ q, beforeN x'.nm x.nm = q := ⟨_, rfl⟩
            have HB := Lib.hid fun W => refBefore x'.nm x.nm W (by omega) (by omega)
            rw [hq] at HB
            have HQ := Lib.hid (show behindAt (its xs) x.it k = q from (behindAt_succ hk0 (its_at hx1')).trans hq)
            have m0 := fun p => cell_far (p := p) hbl' hd0
            have i1 : (k : Int) - 1 = (n : Int) := by omega
            have i2 : (n : Int) < (xs.length : Int) := by omega
            clear hd0 hd1 hok' hx1' hq hk0
            refine wp_region_far (by kernel_rfl) (by kernel_rfl) ?_
            repeat (go_big_quiet_step ((first | (go_at_call 155; exact OneB.far (HO.out _)) | (go_at_call 156; exact OneB.far (HB.out _)))))
            refine wpQuiet_nil ?_
            rintro _ ⟨p, rfl⟩
            go_wp2_with fail
            go_meet
            exact ⟨q, rfl, hb.out.trans ((below_far wr p).mono hb.out.size), HQ⟩
        case rest =>
          obtain ⟨q, rfl, hb2, hq⟩ := hcut
          cases q with
          | false =>
            have HV := Lib.hid (show false = validL (its xs) from (range_no HL.out (by rw [HA.out, hq.out]; rfl)).symm)
            clear HA
            go_wp2_with fail
            go_ret
            exact OneB.bool HV.out hb2.out
          | true =>
            rw [hq.out] at HA
            clear hb hq l0 l1 hcase
            go_wp2_with fail
            obtain ⟨wq, rfl⟩ : ∃ W, W = wr := ⟨_, rfl⟩
            go_loopw [4] (fun i wr => ∃ (n : Nat), n ≤ k ∧ i = .int .i64 n ∧ Hid (Below w.heap.size w wr) ∧ Hid (∀ j, j < n → apartAt (its xs) x.it j = true)) (fun i _ => k - (intOf i).toNat)
            case atStart => exact ⟨0, by omega, rfl, hb2, fun j h => by omega⟩
            case round =>
              clear hb2
              obtain ⟨n, hn, rfl, hb, ha⟩ := hrel
              by_cases hnk : n < k
              · have i1 : (n : Int) < (k : Int) := by omega
                have i2 : (n : Int) < (xs.length : Int) := by omega
                obtain ⟨b2, off2, x2, ho2, hbl2, hy1, _, hd0, hd1, hok2⟩ := (HX.out.below hb.out).cells (j := n) (by omega)
                cases ho2
                obtain ⟨_, _, x3, ho3, _, hy3, _, hc0, hc1, hok3⟩ := (HX.out.below hb.out).cells (j := k) hlt
                cases ho3
                obtain rfl : x = x3 := by have := HX1.out; rw [hy3] at this; cases this; rfl
                obtain ⟨q, hq⟩ : ∃ q, meetN x2.ms x.ms = q := ⟨_, rfl⟩
                have HM := Lib.hid fun p => refMeet x2 x (far wr p) (hok2.below (below_far wr p)) (hok3.below (below_far wr p))
                simp only [hq] at HM
                have HQ := Lib.hid (show apartAt (its xs) x.it n = !q from by unfold apartAt; rw [its_at hy1]; show (!meetN x2.ms x.ms) = !q; rw [hq])
                have l0 := fun p => cell_far (p := p) hbl2 hc0
                have l1 := fun p => cell_far (p := p) hbl2 hc1
                have m0 := fun p => cell_far (p := p) hbl2 hd0
                have m1 := fun p => cell_far (p := p) hbl2 hd1
                clear hc0 hc1 hd0 hd1 hok2 hok3 hy1 hy3 hq
                cases q with
                | true =>
                  have HV := Lib.hid (show false = validL (its xs) from (range_no HL.out (by rw [HA.out, range_no hnk HQ.out]; rfl)).symm)
                  clear HA ha
                  go_wp2_with fail
                  refine wp_region_far (by kernel_rfl) (by kernel_rfl) ?_
                  repeat (go_big_quiet_step ((go_at_call 157; exact OneB.far (HM.out _))))
                  refine wpQuiet_nil ?_
                  rintro _ ⟨p, rfl⟩
                  go_wp2_with fail
                  go_ret
                  exact OneB.bool HV.out (hb.out.trans ((below_far wr p).mono hb.out.size))
                | false =>
                  have HR := Lib.hid (range_step ha.out HQ.out)
                  go_wp2_with fail
                  refine wp_region_far (by kernel_rfl) (by kernel_rfl) ?_
                  repeat (go_big_quiet_step ((go_at_call 157; exact OneB.far (HM.out _))))
                  refine wpQuiet_nil ?_
                  rintro _ ⟨p, rfl⟩
                  go_wp2_with fail
                  go_roundw
                  case rel => exact ⟨n + 1, by omega, by go_num, hb.out.trans ((below_far wr p).mono hb.out.size), HR⟩
                  case measure => simp [intOf]; omega
              · obtain rfl : n = k := by omega
                have i1 : ¬ (n : Int) < (n : Int) := by omega
                have HR := Lib.hid (range_step hs.out (by rw [HA.out, range_yes ha.out]; rfl))
                clear hnk hn ha HA
                go_wp2_with fail
                go_roundw
                case rel => exact ⟨n + 1, by omega, by go_num, hb, HR⟩
                case measure => simp [intOf]; omega
    · obtain rfl : k = xs.length := by omega
      have i0 : ¬ (xs.length : Int) < (xs.length : Int) := by omega
      have HV := Lib.hid (show true = validL (its xs) from (range_yes fun j hj => hs.out j (by rw [its_len] at hj; exact hj)).symm)
      clear hs
      go_wp2_with fail
      go_ret
      exact OneB.bool HV.out hb.out

end

section
open Go.RowKit

theorem ne_at {α : Type} {xs ys : List α} {k : Nat} {x y : α} (hx : xs[k]? = some x) (hy : ys[k]? = some y) (h : x ≠ y) : xs ≠ ys := fun e => by
  subst e; rw [hx] at hy; exact h (Option.some.inj hy)
theorem same_to {α : Type} {xs ys : List α} {k : Nat} {x : α} (h : ∀ j, j < k → xs[j]? = ys[j]?) (hx : xs[k]? = some x) (hy : ys[k]? = some x) : ∀ j, j < k + 1 → xs[j]? = ys[j]? := fun j hj => by
  rcases Nat.lt_or_ge j k with h1 | h1
  · exact h j h1
  · obtain rfl : j = k := by omega
    rw [hx, hy]
theorem same_all {α : Type} {xs ys : List α} (hl : xs.length = ys.length) (h : ∀ j, j < xs.length → xs[j]? = ys[j]?) : xs = ys := List.ext_getElem? fun j => by
  rcases Nat.lt_or_ge j xs.length with h1 | h1
  · exact h j h1
  · rw [List.getElem?_eq_none h1, List.getElem?_eq_none (by omega)]

set_option maxHeartbeats 2000000 in
theorem refSameG (A B : Option Addr) (xs ys : List Mk) (cap cap' : Nat) (w : World) (hx : MarksAt w A xs) (hy : MarksAt w B ys) (hm : xs.length ≤ maxLen) (_ : ys.length ≤ maxLen) :
    Calls Tryz.prog 97 #[.slice A xs.length cap, .slice B ys.length cap'] w (OneB (.bool (decide (xs = ys))) w) := by
  unfold maxLen at hm
  by_cases hl : xs.length = ys.length
  · have hl' : ((xs.length : Int) != (ys.length : Int)) = false := neF (by omega)
    have HL := Lib.hid hl
    clear hl
    go_enter Tryz.func97, Tryz.ntmps97
    go_wp2_with fail
    go_loopw [5] (fun i wr => ∃ m : Nat, m ≤ xs.length ∧ i = .int .i64 m ∧ Below w.heap.size w wr ∧ Hid (∀ j, j < m → xs[j]? = ys[j]?)) (fun i _ => xs.length - (intOf i).toNat)
    case atStart => exact ⟨0, by omega, rfl, Below.refl _ _, fun j h => by omega⟩
    case round =>
      obtain ⟨m, hk2, rfl, hb, hs⟩ := hrel
      by_cases hlt : m < xs.length
      · have i0 : (m : Int) < (xs.length : Int) := by omega
        have i1 : (m : Int) < (ys.length : Int) := by have := HL.out; omega
        obtain ⟨g, off, x, rfl, hbl, hx1, _, hc0, hc1, hc2, hc3⟩ := (SlAt.below hx hb).mark (j := m) hlt
        obtain ⟨g', off', x', rfl, hbl', hx2, _, hd0, hd1, hd2, hd3⟩ := (SlAt.below hy hb).mark (j := m) (by have := HL.out; omega)
        have l0 := fun p => cell_far (p := p) hbl hc0
        have l1 := fun p => cell_far (p := p) hbl hc1
        have l2 := fun p => cell_far (p := p) hbl hc2
        have l3 := fun p => cell_far (p := p) hbl hc3
        have m0 := fun p => cell_far (p := p) hbl' hd0
        have m1 := fun p => cell_far (p := p) hbl' hd1
        have m2 := fun p => cell_far (p := p) hbl' hd2
        have m3 := fun p => cell_far (p := p) hbl' hd3
        clear hc0 hc1 hc2 hc3 hd0 hd1 hd2 hd3
        by_cases he : x = x'
        · subst he
          have HE := Lib.hid (same_to hs.out hx1 hx2)
          clear hx1 hx2
          go_wp2_with fail
          refine wp_region_far (by kernel_rfl) (by kernel_rfl) ?_
          repeat (go_big_quiet_step ((fail)))
          refine wpQuiet_nil ?_
          rintro _ ⟨p, rfl⟩
          go_wp2_with fail
          go_roundw
          case rel => exact ⟨m + 1, by omega, by go_num, hb.trans ((below_far wr p).mono hb.size), HE⟩
          case measure => simp [intOf]; omega
        · have HN := Lib.hid (show false = decide (xs = ys) from (decide_eq_false (ne_at hx1 hx2 he)).symm)
          clear hx1 hx2
          obtain ⟨r, c, q, t⟩ := x
          obtain ⟨r', c', q', t'⟩ := x'
          by_cases h1 : r = r'
          · subst h1
            by_cases h2 : c = c'
            · subst h2
              by_cases h3 : q = q'
              · subst h3
                have h4 : ¬ (t : Int) = (t' : Int) := fun h => he (by rw [Int.natCast_inj] at h; rw [h])
                clear he
                go_wp2_with fail
                refine wp_region_far (by kernel_rfl) (by kernel_rfl) ?_
                repeat (go_big_quiet_step ((fail)))
                refine wpQuiet_nil ?_
                rintro _ ⟨p, rfl⟩
                go_wp2_with fail
                go_ret
                exact OneB.bool HN.out (hb.trans ((below_far wr p).mono hb.size))
              · clear he
                go_wp2_with fail
                refine wp_region_far (by kernel_rfl) (by kernel_rfl) ?_
                repeat (go_big_quiet_step ((fail)))
                refine wpQuiet_nil ?_
                rintro _ ⟨p, rfl⟩
                go_wp2_with fail
                go_ret
                exact OneB.bool HN.out (hb.trans ((below_far wr p).mono hb.size))
            · clear he
              go_wp2_with fail
              refine wp_region_far (by kernel_rfl) (by kernel_rfl) ?_
              repeat (go_big_quiet_step ((fail)))
              refine wpQuiet_nil ?_
              rintro _ ⟨p, rfl⟩
              go_wp2_with fail
              go_ret
              exact OneB.bool HN.out (hb.trans ((below_far wr p).mono hb.size))
          · clear he
            go_wp2_with fail
            refine wp_region_far (by kernel_rfl) (by kernel_rfl) ?_
            repeat (go_big_quiet_step ((fail)))
            refine wpQuiet_nil ?_
            rintro _ ⟨p, rfl⟩
            go_wp2_with fail
            go_ret
            exact OneB.bool HN.out (hb.trans ((below_far wr p).mono hb.size))
      · obtain rfl : m = xs.length := by omega
        have i0 : ¬ (xs.length : Int) < (xs.length : Int) := by omega
        have HN := Lib.hid (show true = decide (xs = ys) from (decide_eq_true (same_all HL.out hs.out)).symm)
        clear hlt hk2
        go_wp2_with fail
        go_ret
        exact OneB.bool HN.out hb
  · have hl' : ((xs.length : Int) != (ys.length : Int)) = true := neT (by omega)
    have HN := Lib.hid (show false = decide (xs = ys) from (decide_eq_false (fun e => hl (by rw [e]))).symm)
    clear hl
    go_enter Tryz.func97, Tryz.ntmps97
    go_wp2_with fail
    go_ret
    exact OneB.bool HN.out (Below.refl _ _)

set_option maxRecDepth 100000 in
set_option maxHeartbeats 2000000 in
theorem refEqual9 (A B : Option Addr) (xs ys : List ItV) (cap cap' : Nat) (w : World) (hx : ItemsAt w A xs) (hy : ItemsAt w B ys) (hm : xs.length ≤ 100000) (_ : ys.length ≤ 100000) :
    Calls Tryz.prog 48 #[.slice A xs.length cap, .slice B ys.length cap'] w (OneB (.bool (decide (its xs = its ys))) w) := by
  by_cases hl : xs.length = ys.length
  · have hl' : ((xs.length : Int) != (ys.length : Int)) = false := neF (by omega)
    have HL := Lib.hid hl
    clear hl
    go_enter Tryz.func48, Tryz.ntmps48
    go_wp2_with fail
    go_loopw [5] (fun i wr => ∃ m : Nat, m ≤ xs.length ∧ i = .int .i64 m ∧ Below w.heap.size w wr ∧ Hid (∀ j, j < m → (its xs)[j]? = (its ys)[j]?)) (fun i _ => xs.length - (intOf i).toNat)
    case atStart => exact ⟨0, by omega, rfl, Below.refl _ _, fun j h => by omega⟩
    case round =>
      obtain ⟨m, hk2, rfl, hb, hs⟩ := hrel
      by_cases hlt : m < xs.length
      · have i0 : (m : Int) < (xs.length : Int) := by omega
        have i1 : (m : Int) < (ys.length : Int) := by have := HL.out; omega
        obtain ⟨g, off, x, rfl, hbl, hx1, _, hc0, hc1, hok⟩ := (hx.below hb).cells (j := m) hlt
        obtain ⟨g', off', y, rfl, hbl', hx2, _, hd0, hd1, hok'⟩ := (hy.below hb).cells (j := m) (by have := HL.out; omega)
        have l0 := fun p => cell_far (p := p) hbl hc0
        have l1 := fun p => cell_far (p := p) hbl hc1
        have m0 := fun p => cell_far (p := p) hbl' hd0
        have m1 := fun p => cell_far (p := p) hbl' hd1
        clear hc0 hc1 hd0 hd1
        by_cases hn : x.nm = y.nm
        · obtain ⟨q, hq⟩ : ∃ q, decide (x.ms = y.ms) = q := ⟨_, rfl⟩
          have HS := Lib.hid fun p => refSameG x.A y.A x.ms y.ms x.c y.c (far wr p) (SlAt.far hok.1 p) (SlAt.far hok'.1 p) hok.len hok'.len
          simp only [hq] at HS
          have hnb : (x.nm == y.nm) = true := by simp [hn]
          cases q with
          | true =>
            have he : x.it = y.it := by unfold ItV.it; rw [hn, of_decide_eq_true hq]
            have HE := Lib.hid (same_to (x := x.it) hs.out (its_at hx1) (by rw [its_at hx2, he]))
            clear hx1 hx2 hn hq he hok hok'
            go_wp2_with fail
            refine wp_region_far (by kernel_rfl) (by kernel_rfl) ?_
            repeat (go_big_quiet_step ((go_at_call 97; exact OneB.far (HS.out _))))
            refine wpQuiet_nil ?_
            rintro _ ⟨p, rfl⟩
            go_wp2_with fail
            go_roundw
            case rel => exact ⟨m + 1, by omega, by go_num, hb.trans ((below_far wr p).mono hb.size), HE⟩
            case measure => simp [intOf]; omega
          | false =>
            have HN := Lib.hid (show false = decide (its xs = its ys) from (decide_eq_false (ne_at (its_at hx1) (its_at hx2) fun e => of_decide_eq_false hq (congrArg Prod.snd e))).symm)
            clear hx1 hx2 hn hq hok hok'
            go_wp2_with fail
            refine wp_region_far (by kernel_rfl) (by kernel_rfl) ?_
            repeat (go_big_quiet_step ((go_at_call 97; exact OneB.far (HS.out _))))
            refine wpQuiet_nil ?_
            rintro _ ⟨p, rfl⟩
            go_wp2_with fail
            go_ret
            exact OneB.bool HN.out (hb.trans ((below_far wr p).mono hb.size))
        · have HN := Lib.hid (show false = decide (its xs = its ys) from (decide_eq_false (ne_at (its_at hx1) (its_at hx2) fun e => hn (congrArg Prod.fst e))).symm)
          have hnb : (x.nm == y.nm) = false := by simp [hn]
          clear hx1 hx2 hn hok hok'
          go_wp2_with fail
          refine wp_region_far (by kernel_rfl) (by kernel_rfl) ?_
          repeat (go_big_quiet_step ((fail)))
          refine wpQuiet_nil ?_
          rintro _ ⟨p, rfl⟩
          go_wp2_with fail
          go_ret
          exact OneB.bool HN.out (hb.trans ((below_far wr p).mono hb.size))
      · obtain rfl : m = xs.length := by omega
        have i0 : ¬ (xs.length : Int) < (xs.length : Int) := by omega
        have HN := Lib.hid (show true = decide (its xs = its ys) from (decide_eq_true (same_all (by rw [its_len, its_len]; exact HL.out) (by rw [its_len]; exact hs.out))).symm)
        clear hlt hk2
        go_wp2_with fail
        go_ret
        exact OneB.bool HN.out hb
  · have hl' : ((xs.length : Int) != (ys.length : Int)) = true := neT (by omega)
    have HN := Lib.hid (show false = decide (its xs = its ys) from (decide_eq_false (fun e => hl (by rw [← its_len xs, e, its_len]))).symm)
    clear hl
    go_enter Tryz.func48, Tryz.ntmps48
    go_wp2_with fail
    go_ret
    exact OneB.bool HN.out (Below.refl _ _)

/-- Where the item with a name stands, or -1. -/
def findZ (l : List It) (nm : List UInt8) : Int := match l.findIdx? (fun x => x.1 == nm) with
  | some i => (i : Int)
  | none => -1
theorem findZ_some {l : List It} {nm : List UInt8} {k : Nat} {x : It} (hx : l[k]? = some x) (he : (x.1 == nm) = true) (h : ∀ (j : Nat) (y : It), j < k → l[j]? = some y → (y.1 == nm) = false) : findZ l nm = (k : Int) := by
  obtain ⟨hk, hkx⟩ := List.getElem?_eq_some_iff.1 hx
  have : l.findIdx? (fun x => x.1 == nm) = some k := by
    rw [List.findIdx?_eq_some_iff_getElem]
    exact ⟨hk, by rw [hkx]; exact he, fun j hj => by have := h j l[j] hj (List.getElem?_eq_getElem (by omega)); simp [this]⟩
  unfold findZ; rw [this]
theorem findZ_none {l : List It} {nm : List UInt8} (h : ∀ (j : Nat) (y : It), j < l.length → l[j]? = some y → (y.1 == nm) = false) : findZ l nm = -1 := by
  have : l.findIdx? (fun x => x.1 == nm) = none := by
    rw [List.findIdx?_eq_none_iff]
    intro x hx
    obtain ⟨j, hj⟩ := List.mem_iff_getElem?.1 hx
    exact h j x (List.getElem?_eq_some_iff.1 hj).1 hj
  unfold findZ; rw [this]
theorem step_none {l : List It} {p : It → Bool} {k : Nat} {x : It} (h : ∀ (j : Nat) (y : It), j < k → l[j]? = some y → p y = false) (hx : l[k]? = some x) (he : p x = false) : ∀ (j : Nat) (y : It), j < k + 1 → l[j]? = some y → p y = false := fun j y hj hy => by
  rcases Nat.lt_or_ge j k with h1 | h1
  · exact h j y h1 hy
  · obtain rfl : j = k := by omega
    rw [hx] at hy; cases hy; exact he

set_option maxHeartbeats 2000000 in
theorem refFind9 (A : Option Addr) (xs : List ItV) (cap : Nat) (nm : List UInt8) (z : Int) (w : World) (hx : ItemsAt w A xs) (hm : xs.length ≤ 100000) (hz : findZ (its xs) nm = z) :
    Calls Tryz.prog 44 #[.slice A xs.length cap, .string ⟨nm.toArray⟩] w (One (.int .i64 z) w) := by
  have HZ := Lib.hid hz
  clear hz
  go_enter Tryz.func44, Tryz.ntmps44
  go_wp2_with fail
  go_loopw [5] (fun i wr => ∃ k : Nat, k ≤ xs.length ∧ i = .int .i64 k ∧ wr = w ∧ Hid (∀ (j : Nat) (y : It), j < k → (its xs)[j]? = some y → (y.1 == nm) = false)) (fun i _ => xs.length - (intOf i).toNat)
  case atStart => exact ⟨0, by omega, rfl, rfl, fun j y h => by omega⟩
  case round =>
    obtain ⟨k, hk, rfl, rfl, hs⟩ := hrel
    by_cases hlt : k < xs.length
    · have i0 : (k : Int) < (xs.length : Int) := by omega
      obtain ⟨g, off, x, rfl, hbl, hx1, _, hc0, hc1, hok⟩ := hx.cells (j := k) hlt
      cases hq : (x.nm == nm) with
      | true =>
        have HF := Lib.hid (findZ_some (its_at hx1) hq hs.out)
        clear hx1 hok
        go_wp2_with fail
        go_ret
        exact One.int _ (by rw [← HF.out]; exact HZ.out)
      | false =>
        have HF := Lib.hid (step_none (p := fun y => y.1 == nm) hs.out (its_at hx1) hq)
        clear hx1 hok
        go_wp2_with fail
        go_roundw
        case rel => exact ⟨k + 1, by omega, by go_num, by trivial, HF⟩
        case measure => simp [intOf]; omega
    · obtain rfl : k = xs.length := by omega
      have i0 : ¬ (xs.length : Int) < (xs.length : Int) := by omega
      have HF := Lib.hid (findZ_none (l := its xs) (nm := nm) (by rw [its_len]; exact hs.out))
      clear hlt hk
      go_wp2_with fail
      go_ret
      exact One.int _ (by rw [← HF.out]; exact HZ.out)

end

end Go.Proofs.YtiaehpdgpjhecaaGreat
