/- Newest and Next of the reference. -/
import Derived.Test.YtfbkhgajlklleaaGreatQtyD
namespace Go.Proofs.YtfbkhgajlklleaaGreat
open Go.RowKit

set_option maxHeartbeats 4000000 in
theorem refNewest (A : Option Addr) (xs : List Mk) (cap : Nat) (v : Mk) (n : Nat) (w : World) (hx : MarksAt w A xs) (hm : xs.length ≤ maxLen) (hv : newR xs = (v, n)) :
    Calls Tryz.prog 56 #[.slice A xs.length cap] w (OneB (.tuple #[mkV v, .int .i64 (n : Int)]) w) := by
  unfold maxLen at hm
  have HX := Lib.hid hx
  have HN := Lib.hid hv
  have hB0 := Lib.hid (BlkM.new w Mk.zero)
  have hb0 := Lib.hid ((Below.refl w.heap.size w).alloc (Nat.le_refl _) (.cells #[.int .i64 0, .int .i64 0, .int .i64 0, .int .u64 0] 62))
  clear hx hv
  go_enter Tryz.func56, Tryz.ntmps56
  go_wp2_with fail
  go_loopw [4, 5, 6] (fun i _ _ wr => ∃ m : Nat, m ≤ xs.length ∧ i = .int .i64 m ∧ Hid (∀ (j : Nat) (y : Mk), j < m → xs[j]? = some y → (xs.any fun x => newerN x y) = true) ∧ Hid (BlkM wr w.heap.size Mk.zero) ∧ Hid (Below w.heap.size w wr)) (fun i _ _ _ => xs.length - (intOf i).toNat)
  case atStart => exact ⟨0, by omega, rfl, fun j y h => by omega, hB0, hb0⟩
  case round =>
    clear hB0 hb0
    obtain ⟨m, hk2, rfl, hs, hB, hb⟩ := hrel
    by_cases hlt : m < xs.length
    · have i0 : (m : Int) < (xs.length : Int) := by omega
      obtain ⟨y, hy⟩ : ∃ y, xs[m]? = some y := ⟨_, List.getElem?_eq_getElem hlt⟩
      have HY := Lib.hid hy
      clear hy
      go_wp2_with fail
      obtain ⟨wq, rfl⟩ : ∃ W, W = wr := ⟨_, rfl⟩
      go_loopw [5, 6] (fun s5 s6 wr => ∃ (k : Nat) (b : Bool), k ≤ xs.length ∧ s5 = .bool b ∧ s6 = .int .i64 k ∧ Hid (((xs.take k).any fun x => newerN x y) = b) ∧ Hid (BlkM wr w.heap.size Mk.zero) ∧ Hid (Below w.heap.size w wr)) (fun _ s6 _ => xs.length - (intOf s6).toNat)
      case atStart => exact ⟨0, false, by omega, rfl, rfl, rfl, hB, hb⟩
      case round =>
        clear hB hb
        obtain ⟨k, b, hk3, rfl, rfl, hs2, hB, hb⟩ := hrel
        by_cases hlt2 : k < xs.length
        · have i1 : (k : Int) < (xs.length : Int) := by omega
          obtain ⟨g, off, x, rfl, hbl, hx1, _, hc0, hc1, hc2, hc3⟩ := (HX.out.below hb.out).mark (j := k) hlt2
          cases b with
          | true =>
            have HF := Lib.hid (show ((xs.take (k + 1)).any fun x => newerN x y) = true from by rw [any_step hx1, hs2.out]; rfl)
            clear hx1 hc0 hc1 hc2 hc3
            go_wp2_with fail
            refine wp_region_far (by kernel_rfl) (by kernel_rfl) ?_
            repeat (go_big_quiet_step ((fail)))
            refine wpQuiet_nil ?_
            rintro _ ⟨p, rfl⟩
            go_wp2_with fail
            go_roundw
            case rel => exact ⟨k + 1, true, by omega, rfl, by go_num, HF, hB.out.below (below_far wr p), hb.out.trans ((below_far wr p).mono hb.out.size)⟩
            case measure => simp [intOf]; omega
          | false =>
            obtain ⟨_, _, y', ho, _, hx2, _, hd0, hd1, hd2, hd3⟩ := (HX.out.below hb.out).mark (j := m) hlt
            cases ho
            obtain rfl : y = y' := by have := HY.out; rw [hx2] at this; cases this; rfl
            have l0 := fun p => cell_far (p := p) hbl hc0
            have l1 := fun p => cell_far (p := p) hbl hc1
            have l2 := fun p => cell_far (p := p) hbl hc2
            have l3 := fun p => cell_far (p := p) hbl hc3
            have m0 := fun p => cell_far (p := p) hbl hd0
            have m1 := fun p => cell_far (p := p) hbl hd1
            have m2 := fun p => cell_far (p := p) hbl hd2
            have m3 := fun p => cell_far (p := p) hbl hd3
            clear hc0 hc1 hc2 hc3 hd0 hd1 hd2 hd3 hx2
            have hr := fun W => refNewer x y W
            obtain ⟨b, hb0⟩ : ∃ b, newerN x y = b := ⟨_, rfl⟩
            rw [hb0] at hr
            have HR := Lib.hid hr
            have HF := Lib.hid (show ((xs.take (k + 1)).any fun x => newerN x y) = b from by rw [any_step hx1, hs2.out, hb0]; rfl)
            clear hr hb0 hx1
            go_wp2_with fail
            refine wp_region_far (by kernel_rfl) (by kernel_rfl) ?_
            repeat (go_big_quiet_step ((go_at_call 78; exact OneB.far (HR.out _))))
            refine wpQuiet_nil ?_
            rintro _ ⟨p, rfl⟩
            go_wp2_with fail
            go_roundw
            case rel => exact ⟨k + 1, b, by omega, rfl, by go_num, HF, hB.out.below (below_far wr p), hb.out.trans ((below_far wr p).mono hb.out.size)⟩
            case measure => simp [intOf]; omega
        · obtain rfl : k = xs.length := by omega
          rw [List.take_length] at hs2
          have i1 : ¬ (xs.length : Int) < (xs.length : Int) := by omega
          clear hlt2 hk3
          cases b with
          | true =>
            have HF := Lib.hid (step_all (p := fun y => xs.any fun x => newerN x y) hs.out HY.out hs2.out)
            go_wp2_with fail
            go_roundw
            case rel => exact ⟨m + 1, by omega, by go_num, HF, hB, hb⟩
            case measure => simp [intOf]; omega
          | false =>
            have HF := Lib.hid (newR_found HY.out hs2.out)
            obtain ⟨g, off, x, rfl, hbl, hx1, _, hc0, hc1, hc2, hc3⟩ := (HX.out.below hb.out).mark (j := m) hlt
            obtain rfl : y = x := by have := HY.out; rw [hx1] at this; cases this; rfl
            have c0 := hB.out.cell0
            have c1 := hB.out.cell1
            have c2 := hB.out.cell2
            have c3 := hB.out.cell3
            have f0 := hB.out.frozen 0
            have f1 := hB.out.frozen 1
            have f2 := hB.out.frozen 2
            have f3 := hB.out.frozen 3
            go_wp2_with fail
            obtain ⟨W', hW, hs, hbl⟩ : ∃ W', W' = setM wr w.heap.size y ∧ BlkM W' w.heap.size y ∧ Below w.heap.size w W' := ⟨_, rfl, hB.out.set y, below_setM hb.out (Nat.le_refl _) y⟩
            show bodyPost _ _ _ _ _ (setM wr w.heap.size y)
            rw [← hW]
            have s0 := hs.cell0
            have s1 := hs.cell1
            have s2 := hs.cell2
            have s3 := hs.cell3
            obtain ⟨rfl, rfl⟩ : y = v ∧ 0 = n := by have h := HN.out; rw [HF.out] at h; cases h; exact ⟨rfl, rfl⟩
            exact bodyPost_ret (v := .tuple #[mkV y, .int .i64 0]) (by simp [results, Tryz.results56, go_sem, s0, s1, s2, s3]) rfl ⟨rfl, hbl⟩
    · obtain rfl : m = xs.length := by omega
      have i0 : ¬ (xs.length : Int) < (xs.length : Int) := by omega
      clear hlt hk2
      have HF := Lib.hid (newR_end hs.out)
      have c0 := hB.out.cell0
      have c1 := hB.out.cell1
      have c2 := hB.out.cell2
      have c3 := hB.out.cell3
      have f0 := hB.out.frozen 0
      have f1 := hB.out.frozen 1
      have f2 := hB.out.frozen 2
      have f3 := hB.out.frozen 3
      go_wp2_with fail
      obtain ⟨W', hW, hs, hbl⟩ : ∃ W', W' = setM wr w.heap.size Mk.zero ∧ BlkM W' w.heap.size Mk.zero ∧ Below w.heap.size w W' := ⟨_, rfl, hB.out.set Mk.zero, below_setM hb.out (Nat.le_refl _) Mk.zero⟩
      show bodyPost _ _ _ _ _ (setM wr w.heap.size Mk.zero)
      rw [← hW]
      have s0 := hs.cell0
      have s1 := hs.cell1
      have s2 := hs.cell2
      have s3 := hs.cell3
      obtain ⟨rfl, rfl⟩ : Mk.zero = v ∧ 9 = n := by have h := HN.out; rw [HF.out] at h; cases h; exact ⟨rfl, rfl⟩
      exact bodyPost_ret (v := .tuple #[mkV Mk.zero, .int .i64 9]) (by simp [results, Tryz.results56, go_sem, s0, s1, s2, s3]) rfl ⟨rfl, hbl⟩

end Go.Proofs.YtfbkhgajlklleaaGreat
