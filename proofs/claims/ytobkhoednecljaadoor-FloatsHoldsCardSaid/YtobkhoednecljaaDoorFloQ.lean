/- Package floats itself: Sum. -/
import Derived.Test.YtobkhoednecljaaDoorFloN
import Derived.OwnWalk
namespace Go.Proofs.YtobkhoednecljaaDoor
open Go.RowKit

theorem cellsG_made (n : Nat) : (madeCells (Value.float .f64 0).cells (n * 1)).toList = cellsOf encG (List.replicate n 0) := by
  apply List.ext_getElem?
  intro j
  rw [cellsG_at]
  by_cases hj : j < n
  · simp [madeCells, hj, Value.cells, Nat.mod_one]
  · simp [madeCells, hj]
/-- What is written after k steps. -/
def rowC (xs : List Nat) (k : Nat) : List Nat := (xs.take k).map canonF ++ List.replicate (xs.length - k) 0
theorem rowC_len {xs : List Nat} {k : Nat} (h : k ≤ xs.length) : (rowC xs k).length = xs.length := by
  unfold rowC
  rw [List.length_append, List.length_map, List.length_take, List.length_replicate]
  omega
theorem rowC_set {xs : List Nat} {k : Nat} (h : k < xs.length) : (rowC xs k).set k (canonF xs[k]) = rowC xs (k + 1) := by
  unfold rowC
  have hl : ((xs.take k).map canonF).length = k := by rw [List.length_map, List.length_take]; omega
  rw [List.set_append_right _ _ (by omega), hl, Nat.sub_self, take_step (List.getElem?_eq_getElem h), List.map_append]
  obtain ⟨m, hm⟩ : ∃ m, xs.length - k = m + 1 := ⟨xs.length - k - 1, by omega⟩
  rw [hm, show xs.length - (k + 1) = m by omega, List.replicate_succ]
  simp
theorem rowC_all (xs : List Nat) : rowC xs xs.length = xs.map canonF := by
  unfold rowC
  rw [List.take_length, Nat.sub_self]; simp

set_option maxRecDepth 100000 in
set_option maxHeartbeats 2000000 in
theorem floSum (A : Option Addr) (xs : List Nat) (cap total : Nat) (w : World) (hx : NumsG w A xs) (hm : xs.length ≤ 1000) (HV0 : ∀ x ∈ xs, x < 18446744073709551616) (hsum : sumF xs = total) :
    Calls Tryd.prog 26 #[.slice A xs.length cap] w (OneB (.float .f64 total) w) := by
  obtain ⟨ti0, hi0, hz0, hz1, hz2⟩ := info_parts infoG
  have HX := Lib.hid hx
  have HSUM := Lib.hid hsum
  clear hx hsum
  go_enter Tryd.func26, Tryd.ntmps26
  go_wp2_with (refine wpList_make_full _ rfl (.tmp 10) (.tmp 10) 35 rfl w.heap.size 23 ti0 _ 1 Tryd.underlying35 hi0 hz0 hz1 .i64 .i64 _ _ xs.length rfl rfl rfl rfl (by rw [hz2]; omega) (by simp [maxLen]; omega) (Nat.le_refl _) ?_; intro w1 hown hg)
  rw [cellsG_made] at hown
  have HO0 := Lib.hid (show w1.ownsRow w.heap.size 23 1 (.slice (some ⟨w.heap.size, 0, none⟩) xs.length xs.length) xs.length (cellsOf encG (rowC xs 0)) from by unfold rowC; simpa using hown)
  have HB0 := Lib.hid ((Below.refl w.heap.size w).grown hg (Nat.le_refl _) (fun _ h => by cases h))
  clear hown hg hi0 hz0 hz1 hz2
  go_loopw [4, 5, 14] (fun _ _ i wr => ∃ k : Nat, k ≤ xs.length ∧ i = .int .i64 k ∧ Hid (wr.ownsRow w.heap.size 23 1 (.slice (some ⟨w.heap.size, 0, none⟩) xs.length xs.length) xs.length (cellsOf encG (rowC xs k))) ∧ Hid (Below w.heap.size w wr)) (fun _ _ i _ => xs.length - (intOf i).toNat)
  case atStart => exact ⟨0, by omega, rfl, HO0, HB0⟩
  case round =>
    clear HO0 HB0
    obtain ⟨k, hk, rfl, HO, HB⟩ := hrel
    by_cases hlt : k < xs.length
    · have i0 : (k : Int) < (xs.length : Int) := by omega
      obtain ⟨b, off, rfl, hbl, hc0⟩ := (SlAt.cell1 (f := fun n : Nat => Value.float .f64 n) (HX.out.below HB.out) (j := k) hlt)
      have HC := Lib.hid fun W => floCanon xs[k] W (HV0 _ (List.getElem_mem hlt))
      obtain ⟨g, u, hg, hgl, l0, l1, hst⟩ := rowG_at HO.out (rowC_len hk) hlt
      obtain rfl : w.heap.size = g := by injection hg with hg; injection hg
      have hs1 := hst (canonF xs[k])
      rw [rowC_set hlt] at hs1
      have HST := Lib.hid hs1
      clear hst hs1 hg hgl HO
      generalize xs[k] = x at hc0 HC HST ⊢
      obtain ⟨y, hy⟩ : ∃ y : Nat, canonF x = y := ⟨_, rfl⟩
      rw [hy] at HC HST
      clear hy
      have hsto : (store ⟨w.heap.size, k, none⟩ (.float .f64 y)).run Tryd.prog wr = .ok () (wr.setCell ⟨w.heap.size, k, none⟩ (.float .f64 y)) := by
        rw [run_store _ _ _ _ _ rfl]
        simp [l0, l1]
      have HB2 := Lib.hid (Below.setCell (p := ⟨w.heap.size, k, none⟩) HB.out (Nat.le_refl _) (.float .f64 y))
      go_wp2_with fail
      refine (HC.out _).mono ?_
      rintro e w2 ⟨rfl, rfl⟩
      go_wp2_with fail
      go_roundw
      case rel => exact ⟨k + 1, by omega, by go_num, HST, HB2⟩
      case measure => simp [intOf]; omega
    · have i0 : ¬ (k : Int) < (xs.length : Int) := by omega
      obtain rfl : k = xs.length := by omega
      have HCL := Lib.hid (canonF_ltL HV0)
      have hcn : (xs.map canonF).length = xs.length := by rw [List.length_map]
      have hsum : total = outF (foldF (sortF (xs.map canonF))) := HSUM.out.symm
      have hown := HO.out
      rw [rowC_all] at hown
      generalize xs.map canonF = cs at HCL hcn hsum hown
      obtain ⟨D, d, he, hod1, hod2, hod⟩ := SlAt.of_own encG_len (show wr.ownsRow w.heap.size 23 1 (.slice (some ⟨w.heap.size, 0, none⟩) xs.length xs.length) cs.length (cellsOf encG cs) from by rw [hcn]; exact hown)
      injection he with he1 he2 he3
      subst he1
      have HSO := Lib.hid (floSorted (some ⟨w.heap.size, 0, none⟩) cs xs.length wr hod (by omega) HCL.out)
      rw [hcn] at HSO
      have hsn := sortF_len cs
      obtain ⟨ss, hss⟩ : ∃ ss, sortF cs = ss := ⟨_, rfl⟩
      rw [hss] at HSO hsum hsn
      have HSF := Lib.hid hsum
      have hssn : ss.length ≤ 1000 := by omega
      clear HCL hss hlt hod hod1 hod2 HO hown HX hsn hsum he2 he3 hcn
      go_wp2_with fail
      refine HSO.out.mono ?_
      rintro e w2 ⟨v2, rfl, ho2, hb2⟩
      have HB2 := Lib.hid (below_trans HB.out hb2)
      obtain ⟨D2, d2, rfl, hod2, hd1, hd2⟩ := SlAt.of_own encG_len ho2
      have HD2 := Lib.hid hd2
      clear ho2 hb2 HB HSO hd2
      go_wp2_with fail
      go_loopw [6, 8, 28] (fun a _ i wr => ∃ (k v : Nat), k ≤ ss.length ∧ i = .int .i64 k ∧ a = .float .f64 v ∧ Hid (Below w2.heap.size w2 wr) ∧ Hid (RepF ((ss.take k).foldl stepF (some 0)) v)) (fun _ _ i _ => ss.length - (intOf i).toNat)
      case atStart => exact ⟨0, 0, by omega, rfl, rfl, Lib.hid (Below.refl _ _), Lib.hid RepF.start⟩
      case round =>
        obtain ⟨k, v, hk, rfl, rfl, hB, hR⟩ := hrel
        by_cases hlt : k < ss.length
        · have i0 : (k : Int) < (ss.length : Int) := by omega
          obtain ⟨b, off, rfl, hbl, hc0⟩ := (SlAt.cell1 (f := fun n : Nat => Value.float .f64 n) (HD2.out.below hB.out) (j := k) hlt)
          have HS := Lib.hid (foldF_take hlt)
          generalize ss[k] = y at hc0 HS
          obtain ⟨r, W2, hadd, hbW, hrep⟩ := run_addF Tryd.prog 23 v y wr
          have HRR := Lib.hid (hrep _ hR.out)
          rw [← HS.out] at HRR
          have HBW := Lib.hid (below_trans hB.out hbW)
          clear hrep hbW HS
          go_wp2_with fail
          go_roundw
          case rel => exact ⟨k + 1, r, by omega, by go_num, rfl, HBW, HRR⟩
          case measure => simp [intOf]; omega
        · have i0 : ¬ (k : Int) < (ss.length : Int) := by omega
          obtain rfl : k = ss.length := by omega
          have hR2 := hR.out
          rw [List.take_length] at hR2
          have HE := Lib.hid (show canonF v = total from by rw [HSF.out]; exact hR2.out)
          have HC := Lib.hid fun W => floCanon v W hR2.1
          rw [HE.out] at HC
          have HBE := Lib.hid (below_trans HB2.out hB.out)
          clear hR hR2 hlt HE
          go_wp2_with fail
          refine (HC.out _).mono ?_
          rintro e w3 ⟨rfl, rfl⟩
          go_wp2_with fail
          go_ret
          exact ⟨rfl, HBE.out⟩

end Go.Proofs.YtobkhoednecljaaDoor
