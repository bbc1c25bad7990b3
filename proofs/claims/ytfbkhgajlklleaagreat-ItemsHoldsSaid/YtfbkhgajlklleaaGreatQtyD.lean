/- The newest one of some marks: of the program and of its reference. -/
import Derived.Test.YtfbkhgajlklleaaGreatQtyC
namespace Go.Proofs.YtfbkhgajlklleaaGreat
open Go.RowKit

/-- A block that holds a mark. -/
def BlkM (W : World) (g : Nat) (m : Mk) : Prop := W.heap[g]? = some (.cells #[.int .i64 m.r, .int .i64 m.c, .int .i64 m.q, .int .u64 (m.t : Int)] 62 (0, 0))
/-- A mark is stored. -/
abbrev setM (W : World) (g : Nat) (m : Mk) : World := (((W.setCell ⟨g, 0, none⟩ (.int .i64 m.r)).setCell ⟨g, 1, none⟩ (.int .i64 m.c)).setCell ⟨g, 2, none⟩ (.int .i64 m.q)).setCell ⟨g, 3, none⟩ (.int .u64 (m.t : Int))
section
variable {W W' : World} {g : Nat} {m : Mk}
theorem BlkM.lt (h : BlkM W g m) : g < W.heap.size := (Array.getElem?_eq_some_iff.1 h).1
theorem BlkM.cell0 (h : BlkM W g m) : W.cell? ⟨g, 0, none⟩ = some (.int .i64 m.r) := by simp [World.cell?, show W.heap[g]? = _ from h]
theorem BlkM.cell1 (h : BlkM W g m) : W.cell? ⟨g, 1, none⟩ = some (.int .i64 m.c) := by simp [World.cell?, show W.heap[g]? = _ from h]
theorem BlkM.cell2 (h : BlkM W g m) : W.cell? ⟨g, 2, none⟩ = some (.int .i64 m.q) := by simp [World.cell?, show W.heap[g]? = _ from h]
theorem BlkM.cell3 (h : BlkM W g m) : W.cell? ⟨g, 3, none⟩ = some (.int .u64 (m.t : Int)) := by simp [World.cell?, show W.heap[g]? = _ from h]
theorem BlkM.frozen (h : BlkM W g m) (k : Nat) : W.frozen? ⟨g, k, none⟩ = false := by simp [World.frozen?, show W.heap[g]? = _ from h]
theorem BlkM.below (h : BlkM W g m) (hb : Below W.heap.size W W') : BlkM W' g m := (hb.block g h.lt).trans h
theorem BlkM.other (h : BlkM W g m) {g' : Nat} (hne : g ≠ g') (o : Nat) (z : Value) : BlkM (W.setCell ⟨g', o, none⟩ z) g m := (Below.heap_setCell W ⟨g', o, none⟩ z g hne).trans h
theorem BlkM.new (W : World) (m : Mk) : BlkM (W.alloc (.cells #[.int .i64 m.r, .int .i64 m.c, .int .i64 m.q, .int .u64 (m.t : Int)] 62)) W.heap.size m := heap_alloc_new W _
theorem block_set1 {cs : Array Value} {t : TypeId} {k : Nat} {x : Value} (h : W.heap[g]? = some (.cells cs t (0, 0))) : (W.setCell ⟨g, k, none⟩ x).heap[g]? = some (.cells (cs.setIfInBounds k x) t (0, 0)) := by
  obtain ⟨hlt, hk⟩ := Array.getElem?_eq_some_iff.1 h
  show (W.heap.modify g _)[g]? = _
  rw [Array.getElem?_eq_getElem (by rw [Array.size_modify]; exact hlt), Array.getElem_modify_self, hk]
  rfl
theorem BlkM.set (h : BlkM W g m) (m' : Mk) : BlkM (setM W g m') g m' := by
  have h4 := block_set1 (k := 3) (x := .int .u64 (m'.t : Int)) (block_set1 (k := 2) (x := .int .i64 m'.q) (block_set1 (k := 1) (x := .int .i64 m'.c) (block_set1 (k := 0) (x := .int .i64 m'.r) h)))
  have e : ((((#[.int .i64 m.r, .int .i64 m.c, .int .i64 m.q, .int .u64 (m.t : Int)] : Array Value).setIfInBounds 0 (.int .i64 m'.r)).setIfInBounds 1 (.int .i64 m'.c)).setIfInBounds 2 (.int .i64 m'.q)).setIfInBounds 3 (.int .u64 (m'.t : Int)) = #[.int .i64 m'.r, .int .i64 m'.c, .int .i64 m'.q, .int .u64 (m'.t : Int)] := by simp
  rw [e] at h4
  exact h4
theorem setM_size (W : World) (g : Nat) (m : Mk) : (setM W g m).heap.size = W.heap.size := by simp
theorem below_setM {w : World} {B : Nat} (h : Below B w W) (hg : B ≤ g) (m : Mk) : Below B w (setM W g m) :=
  (((h.setCell (p := ⟨g, 0, none⟩) hg _).setCell (p := ⟨g, 1, none⟩) hg _).setCell (p := ⟨g, 2, none⟩) hg _).setCell (p := ⟨g, 3, none⟩) hg _
end

set_option maxHeartbeats 2000000 in
theorem qtyGreatest (A : Option Addr) (xs : List Mk) (cap : Nat) (v : Mk) (f : Bool) (w : World) (hx : MarksAt w A xs) (hm : xs.length ≤ maxLen) (hf : newestF xs = (v, f)) :
    Calls Tryz.prog 103 #[.slice A xs.length cap, .func (.func 104) #[] #[]] w (OneB (.tuple #[mkV v, .bool f]) w) := by
  unfold maxLen at hm
  have HX := Lib.hid hx
  have HF := Lib.hid hf
  clear hx hf
  have hB0 := Lib.hid (BlkM.new w Mk.zero)
  have hb0 := Lib.hid ((Below.refl w.heap.size w).alloc (Nat.le_refl _) (.cells #[.int .i64 0, .int .i64 0, .int .i64 0, .int .u64 0] 62))
  go_enter Tryz.func103, Tryz.ntmps103
  go_wp2_with fail
  go_loopw [5, 7, 10] (fun s5 _ i wr => ∃ (k : Nat) (m : Mk) (b : Bool), k ≤ xs.length ∧ s5 = .bool b ∧ i = .int .i64 k ∧ Hid (newestF (xs.take k) = (m, b)) ∧ Hid (BlkM wr w.heap.size m) ∧ Hid (Below w.heap.size w wr)) (fun _ _ i _ => xs.length - (intOf i).toNat)
  case atStart => exact ⟨0, Mk.zero, false, by omega, rfl, rfl, newestF_nil, hB0, hb0⟩
  case round =>
    clear hB0 hb0
    obtain ⟨k, m, b, hk2, rfl, rfl, hs, hB, hb⟩ := hrel
    have c0 := hB.out.cell0
    have c1 := hB.out.cell1
    have c2 := hB.out.cell2
    have c3 := hB.out.cell3
    have f0 := hB.out.frozen 0
    have f1 := hB.out.frozen 1
    have f2 := hB.out.frozen 2
    have f3 := hB.out.frozen 3
    have hlw := hB.out.lt
    by_cases hlt : k < xs.length
    · obtain ⟨g, off, y, rfl, hbl, hx1, _, hc0, hc1, hc2, hc3⟩ := (HX.out.below hb.out).mark (j := k) hlt
      have i0 : (k : Int) < (xs.length : Int) := by omega
      cases b with
      | false =>
        have HF1 := Lib.hid (by have h := newestF_first hs.out y; rw [← take_step hx1] at h; exact h)
        clear hx1
        go_wp2_with fail
        go_roundw
        case rel => exact ⟨k + 1, y, true, by omega, rfl, by go_num, HF1, (hB.out.set y).below ((Below.refl _ _).alloc (Nat.le_refl _) _), (below_setM hb.out (Nat.le_refl _) y).alloc (by rw [setM_size]; exact hb.out.size) _⟩
        case measure => simp [intOf]; omega
      | true =>
        have hr := fun W => qtyCompare y m W
        obtain ⟨z, hz⟩ : ∃ z, cmpN y m = z := ⟨_, rfl⟩
        rw [hz] at hr
        have HR := Lib.hid hr
        clear hr
        by_cases hz0 : 0 < z
        · have HF1 := Lib.hid (by have h := newestF_new hs.out ((cmpN_pos y m).1 (by rw [hz]; exact hz0)); rw [← take_step hx1] at h; exact h)
          clear hx1 hz
          go_wp2_with fail
          refine (HR.out _).mono ?_
          rintro e w1 ⟨rfl, hb1⟩
          have hb2 := Lib.hid (below_trans ((Below.refl _ wr).alloc (Nat.le_refl _) _) hb1)
          have hBx := (BlkM.new wr y).below hb1
          have d0 := hBx.cell0
          have d1 := hBx.cell1
          have d2 := hBx.cell2
          have d3 := hBx.cell3
          have hB2 := Lib.hid (hB.out.below hb2.out)
          clear hb1 hBx c0 c1 c2 c3 f0 f1 f2 f3 hc0 hc1 hc2 hc3
          have f0 := hB2.out.frozen 0
          have f1 := hB2.out.frozen 1
          have f2 := hB2.out.frozen 2
          have f3 := hB2.out.frozen 3
          have c0 := hB2.out.cell0
          have c1 := hB2.out.cell1
          have c2 := hB2.out.cell2
          have c3 := hB2.out.cell3
          go_wp2_with fail
          go_roundw
          case rel => exact ⟨k + 1, y, true, by omega, rfl, by go_num, HF1, hB2.out.set y, below_setM (below_trans hb.out hb2.out) (Nat.le_refl _) y⟩
          case measure => simp [intOf]; omega
        · have HF1 := Lib.hid (by
            have h : newerN y m = false := by
              cases e : newerN y m with
              | false => rfl
              | true => exact absurd (by rw [← hz]; exact (cmpN_pos y m).2 e) hz0
            have h := newestF_old hs.out h; rw [← take_step hx1] at h; exact h)
          clear hx1 hz
          go_wp2_with fail
          refine (HR.out _).mono ?_
          rintro e w1 ⟨rfl, hb1⟩
          have hb2 := Lib.hid (below_trans ((Below.refl _ wr).alloc (Nat.le_refl _) _) hb1)
          have hB2 := Lib.hid (hB.out.below hb2.out)
          clear hb1 c0 c1 c2 c3 f0 f1 f2 f3 hc0 hc1 hc2 hc3
          go_wp2_with fail
          go_roundw
          case rel => exact ⟨k + 1, m, true, by omega, rfl, by go_num, HF1, hB2, below_trans hb.out hb2.out⟩
          case measure => simp [intOf]; omega
    · obtain rfl : k = xs.length := by omega
      rw [List.take_length, HF.out] at hs
      obtain ⟨rfl, rfl⟩ : v = m ∧ f = b := by have := hs.out; cases this; exact ⟨rfl, rfl⟩
      have i0 : ¬ (xs.length : Int) < (xs.length : Int) := by omega
      clear hlt hk2
      go_wp2_with fail
      have hs2 := hB.out.set v
      have s0 := hs2.cell0
      have s1 := hs2.cell1
      have s2 := hs2.cell2
      have s3 := hs2.cell3
      exact bodyPost_ret (v := .tuple #[mkV v, .bool f]) (by simp [results, Tryz.results103, go_sem, s0, s1, s2, s3]) rfl ⟨rfl, below_setM hb.out (Nat.le_refl _) _⟩

end Go.Proofs.YtfbkhgajlklleaaGreat
