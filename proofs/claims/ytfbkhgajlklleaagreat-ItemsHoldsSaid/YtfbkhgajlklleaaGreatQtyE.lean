/- Newest and Next of the program. -/
import Derived.Test.YtfbkhgajlklleaaGreatQtyD
namespace Go.Proofs.YtfbkhgajlklleaaGreat
open Go.RowKit

set_option maxHeartbeats 2000000 in
theorem qtyNewest (A : Option Addr) (xs : List Mk) (cap : Nat) (v : Mk) (n : Nat) (w : World) (hx : MarksAt w A xs) (hm : xs.length ≤ maxLen) (hv : newV validM xs = (v, n)) :
    Calls Tryz.prog 77 #[.slice A xs.length cap] w (OneB (.tuple #[mkV v, .int .i64 (n : Int)]) w) := by
  have HC := Lib.hid fun W hW => containsMarks A xs cap W (hx.below hW) hm
  have hB0 := Lib.hid (BlkM.new w Mk.zero)
  have hb0 := Lib.hid ((Below.refl w.heap.size w).alloc (Nat.le_refl _) (.cells #[.int .i64 0, .int .i64 0, .int .i64 0, .int .u64 0] 62))
  cases ha : xs.all validM with
  | false =>
    rw [ha] at HC
    rw [newV_bad ha] at hv
    obtain ⟨rfl, rfl⟩ : Mk.zero = v ∧ 2 = n := by cases hv; exact ⟨rfl, rfl⟩
    clear hx hm ha hv
    go_enter Tryz.func77, Tryz.ntmps77
    go_wp2_with fail
    refine (HC.out _ hb0.out).mono ?_
    rintro e w1 ⟨rfl, hb1⟩
    have hB1 := Lib.hid (hB0.out.below hb1)
    have hb2 := Lib.hid (below_trans hb0.out hb1)
    clear hb1 HC hB0 hb0
    have f0 := hB1.out.frozen 0
    have f1 := hB1.out.frozen 1
    have f2 := hB1.out.frozen 2
    have f3 := hB1.out.frozen 3
    have c0 := hB1.out.cell0
    have c1 := hB1.out.cell1
    have c2 := hB1.out.cell2
    have c3 := hB1.out.cell3
    go_wp2_with fail
    obtain ⟨W', hW, hs, hbl⟩ : ∃ W', W' = setM w1 w.heap.size Mk.zero ∧ BlkM W' w.heap.size Mk.zero ∧ Below w.heap.size w W' := ⟨_, rfl, hB1.out.set Mk.zero, below_setM hb2.out (Nat.le_refl _) Mk.zero⟩
    show bodyPost _ _ _ _ _ (setM w1 w.heap.size Mk.zero)
    rw [← hW]
    have s0 := hs.cell0
    have s1 := hs.cell1
    have s2 := hs.cell2
    have s3 := hs.cell3
    exact bodyPost_ret (v := .tuple #[mkV Mk.zero, .int .i64 2]) (by simp [results, Tryz.results77, go_sem, s0, s1, s2, s3]) rfl ⟨rfl, hbl⟩
  | true =>
    rw [ha] at HC
    obtain ⟨m, f, hf⟩ : ∃ m f, newestF xs = (m, f) := ⟨_, _, rfl⟩
    have HG := Lib.hid fun W hW => qtyGreatest A xs cap m f W (hx.below hW) hm hf
    have HN := Lib.hid (show newestF xs = (m, f) ∧ newV validM xs = (v, n) ∧ xs.all validM = true from ⟨hf, hv, ha⟩)
    clear hx hm ha hv hf
    go_enter Tryz.func77, Tryz.ntmps77
    go_wp2_with fail
    refine (HC.out _ hb0.out).mono ?_
    rintro e w1 ⟨rfl, hb1⟩
    have hB1 := Lib.hid (hB0.out.below hb1)
    have hb2 := Lib.hid (below_trans hb0.out hb1)
    clear hb1 HC hB0 hb0
    go_wp2_with fail
    refine (HG.out _ hb2.out).mono ?_
    rintro e w2 ⟨rfl, hb3⟩
    have hB2 := Lib.hid (hB1.out.below hb3)
    have hb4 := Lib.hid (below_trans hb2.out hb3)
    clear hb3 HG hB1 hb2
    have hlw := hB2.out.lt
    have f0 := hB2.out.frozen 0
    have f1 := hB2.out.frozen 1
    have f2 := hB2.out.frozen 2
    have f3 := hB2.out.frozen 3
    have c0 := hB2.out.cell0
    have c1 := hB2.out.cell1
    have c2 := hB2.out.cell2
    have c3 := hB2.out.cell3
    cases f with
    | false =>
      have HE := Lib.hid (show newV validM xs = (Mk.zero, 9) from by have h := newV_none (valid := validM) HN.out.1; rw [(newestF_none.1 HN.out.1).2] at h; exact h)
      go_wp2_with fail
      obtain ⟨W', hW, hs, hbl⟩ : ∃ W', W' = (setM w2 w.heap.size Mk.zero).alloc (.cells #[.int .i64 m.r, .int .i64 m.c, .int .i64 m.q, .int .u64 (m.t : Int)] 62) ∧ BlkM W' w.heap.size Mk.zero ∧ Below w.heap.size w W' := ⟨_, rfl, (hB2.out.set Mk.zero).below ((Below.refl _ _).alloc (Nat.le_refl _) _), (below_setM hb4.out (Nat.le_refl _) Mk.zero).alloc (by rw [setM_size]; exact hb4.out.size) _⟩
      show bodyPost _ _ _ _ _ ((setM w2 w.heap.size Mk.zero).alloc _)
      rw [← hW]
      have s0 := hs.cell0
      have s1 := hs.cell1
      have s2 := hs.cell2
      have s3 := hs.cell3
      obtain ⟨rfl, rfl⟩ : Mk.zero = v ∧ 9 = n := by have h := HN.out.2.1; rw [HE.out] at h; cases h; exact ⟨rfl, rfl⟩
      exact bodyPost_ret (v := .tuple #[mkV Mk.zero, .int .i64 9]) (by simp [results, Tryz.results77, go_sem, s0, s1, s2, s3]) rfl ⟨rfl, hbl⟩
    | true =>
      have HE := Lib.hid (newV_some HN.out.2.2 HN.out.1)
      go_wp2_with fail
      obtain ⟨W', hW, hs, hbl⟩ : ∃ W', W' = (setM w2 w.heap.size m).alloc (.cells #[.int .i64 m.r, .int .i64 m.c, .int .i64 m.q, .int .u64 (m.t : Int)] 62) ∧ BlkM W' w.heap.size m ∧ Below w.heap.size w W' := ⟨_, rfl, (hB2.out.set m).below ((Below.refl _ _).alloc (Nat.le_refl _) _), (below_setM hb4.out (Nat.le_refl _) m).alloc (by rw [setM_size]; exact hb4.out.size) _⟩
      show bodyPost _ _ _ _ _ ((setM w2 w.heap.size m).alloc _)
      rw [← hW]
      have s0 := hs.cell0
      have s1 := hs.cell1
      have s2 := hs.cell2
      have s3 := hs.cell3
      obtain ⟨rfl, rfl⟩ : m = v ∧ 0 = n := by have h := HN.out.2.1; rw [HE.out] at h; cases h; exact ⟨rfl, rfl⟩
      exact bodyPost_ret (v := .tuple #[mkV m, .int .i64 0]) (by simp [results, Tryz.results77, go_sem, s0, s1, s2, s3]) rfl ⟨rfl, hbl⟩

/-- The time after some marks, by the newest one. -/
theorem nextV_cases (xs : List Mk) (t n : Nat) (h : nextV validM xs = (t, n)) :
    ∃ v k, newV validM xs = (v, k) ∧ ((k = 9 ∧ t = 1 ∧ n = 0) ∨ (k = 2 ∧ t = 0 ∧ n = 2) ∨ (k = 0 ∧ v.t = 18446744073709551615 ∧ t = 0 ∧ n = 15) ∨ (k = 0 ∧ v.t ≠ 18446744073709551615 ∧ t = v.t + 1 ∧ n = 0)) := by
  rcases newV_cases validM xs with ⟨m, hv⟩ | hv | hv
  · refine ⟨m, 0, hv, ?_⟩
    rw [nextV_of hv] at h
    split at h
    · rename_i e; cases h; exact .inr (.inr (.inl ⟨rfl, e, rfl, rfl⟩))
    · rename_i e; cases h; exact .inr (.inr (.inr ⟨rfl, e, rfl, rfl⟩))
  · refine ⟨_, 9, hv, ?_⟩
    rw [nextV_none hv] at h; cases h; exact .inl ⟨rfl, rfl, rfl⟩
  · refine ⟨_, 2, hv, ?_⟩
    rw [nextV_two hv] at h; cases h; exact .inr (.inl ⟨rfl, rfl, rfl⟩)

end Go.Proofs.YtfbkhgajlklleaaGreat
