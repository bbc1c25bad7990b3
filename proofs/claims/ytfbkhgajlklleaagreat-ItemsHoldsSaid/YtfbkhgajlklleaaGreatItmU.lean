/- The laws of items: what they lean on. -/
import Derived.Test.YtfbkhgajlklleaaGreatItmT
namespace Go.Proofs.YtfbkhgajlklleaaGreat
open Go.RowKit

theorem HoldsX.drew {w : World} {v : Value} {xs : List ItV} (h : HoldsX w v xs) : HoldsX w.drew v xs := h.below (Below.refl _ _).drew
theorem refEqual_h (v u : Value) (xs ys : List ItV) (b : Bool) (w : World) (h : HoldsX w v xs) (k : HoldsX w u ys) (hm : xs.length ≤ 100000) (hm' : ys.length ≤ 100000) (hb : decide (its xs = its ys) = b) :
    Calls Tryz.prog 14 #[v, u] w (OneB (.bool b) w) := by
  obtain ⟨A, c, rfl, h1, _⟩ := h
  obtain ⟨A', c', rfl, h2, _⟩ := k
  subst hb
  exact refEqual9 A A' xs ys c c' w h1 h2 hm hm'
theorem itEqual_h (v u : Value) (xs ys : List ItV) (b : Bool) (w : World) (h : HoldsX w v xs) (k : HoldsX w u ys) (hm : xs.length ≤ 100000) (hm' : ys.length ≤ 100000) (hb : decide (its xs = its ys) = b) :
    Calls Tryz.prog 13 #[v, u] w (OneB (.bool b) w) := by
  obtain ⟨A, c, rfl, h1, _⟩ := h
  obtain ⟨A', c', rfl, h2, _⟩ := k
  subst hb
  exact itemsEqual A A' xs ys c c' w h1 h2 hm hm'
theorem itValid_h (v : Value) (xs : List ItV) (b : Bool) (w : World) (h : HoldsX w v xs) (hf : Fits xs) (hb : validL (its xs) = b) : Calls Tryz.prog 11 #[v] w (OneB (.bool b) w) := by
  obtain ⟨A, c, rfl, h1, _⟩ := h
  exact itemsValid A xs c b w h1 hf hb
theorem refValid_h (v : Value) (xs : List ItV) (b : Bool) (w : World) (h : HoldsX w v xs) (hf : Fits xs) (hb : validL (its xs) = b) : Calls Tryz.prog 12 #[v] w (OneB (.bool b) w) := by
  obtain ⟨A, c, rfl, h1, _⟩ := h
  subst hb
  exact refValid9 A xs c w h1 hf
theorem itCopy_h (v : Value) (xs : List ItV) (w : World) (h : HoldsX w v xs) (hf : Fits xs) : Calls Tryz.prog 15 #[v] w fun e w' => ∃ v ys, e = .returned v ∧ its ys = its xs ∧ OwnI w' w.heap.size v ys ∧ Below w.heap.size w w' := by
  obtain ⟨A, c, rfl, h1, _⟩ := h
  exact itCopy A xs c w h1 (by have := hf.1; omega) (fits_wide hf)
theorem itFind_h (v : Value) (xs : List ItV) (nm : List UInt8) (w : World) (h : HoldsX w v xs) (hf : Fits xs) :
    Calls Tryz.prog 35 #[v, .string ⟨nm.toArray⟩] w fun e w' => (∃ (y : ItV) (n : Nat), e = .returned (.tuple #[mkIt y, .int .i64 (n : Int)]) ∧ findV (its xs) nm = (y.it, n) ∧ ItOK w' y) ∧ Below w.heap.size w w' := by
  obtain ⟨A, c, rfl, h1, _⟩ := h
  exact itFind A xs c nm w h1 (by have := hf.1; omega) (fits_wide hf)
theorem itPut_h (v : Value) (xs : List ItV) (x : ItV) (l : List It) (n : Nat) (w : World) (h : HoldsX w v xs) (ho : ItOK w x) (hf : Fits xs) (hn : x.nm.length ≤ 1000) (hxm : x.ms.length ≤ 100) (hv : putN (its xs) x.it = (l, n)) :
    Calls Tryz.prog 31 #[v, mkIt x] w fun e w' => (∃ v zs, e = .returned (.tuple #[v, .int .i64 (n : Int)]) ∧ its zs = l ∧ OwnI w' w.heap.size v zs) ∧ Below w.heap.size w w' := by
  obtain ⟨A, c, rfl, h1, _⟩ := h
  exact itPut A xs c x l n w h1 ho hf hn hxm hv
theorem itRemove_h (v : Value) (xs : List ItV) (nm : List UInt8) (l : List It) (n : Nat) (w : World) (h : HoldsX w v xs) (hf : Fits xs) (hv : delN (its xs) nm = (l, n)) :
    Calls Tryz.prog 33 #[v, .string ⟨nm.toArray⟩] w fun e w' => (∃ v zs, e = .returned (.tuple #[v, .int .i64 (n : Int)]) ∧ its zs = l ∧ OwnI w' w.heap.size v zs) ∧ Below w.heap.size w w' := by
  obtain ⟨A, c, rfl, h1, _⟩ := h
  exact itRemove A xs c nm l n w h1 hf hv
theorem itOwner_h (v : Value) (xs : List ItV) (r c : Int) (nm : List UInt8) (n : Nat) (w : World) (h : HoldsX w v xs) (hf : Fits xs) (hv : ownV (its xs) r c = (nm, n)) :
    Calls Tryz.prog 36 #[v, .agg #[.int .i64 r, .int .i64 c]] w (OneB (.tuple #[.string ⟨nm.toArray⟩, .int .i64 (n : Int)]) w) := by
  obtain ⟨A, c', rfl, h1, _⟩ := h
  exact itOwner A xs c' r c nm n w h1 hf hv
theorem itDots_h (v : Value) (xs : List ItV) (w : World) (h : HoldsX w v xs) (hf : Fits xs) : Calls Tryz.prog 22 #[v] w fun e w' => (∃ v, e = .returned v ∧ Holds w' v (dotsI (its xs))) ∧ Below w.heap.size w w' := by
  obtain ⟨A, c', rfl, h1, _⟩ := h
  exact itDots A xs c' w h1 hf

/-- How many items, and how long, the laws look at. -/
def lightX (xs : List ItV) : Bool := decide (xs.length ≤ 20) && xs.all fun x => decide (x.nm.length ≤ 100) && decide (x.ms.length ≤ 10)
theorem lightX_fits {xs : List ItV} (h : lightX xs = true) : Fits xs ∧ xs.length ≤ 20 ∧ ∀ x ∈ xs, x.nm.length ≤ 100 ∧ x.ms.length ≤ 10 := by
  simp only [lightX, Bool.and_eq_true, decide_eq_true_eq, List.all_eq_true] at h
  exact ⟨⟨by omega, fun x hx => by have := h.2 x hx; omega⟩, h.1, h.2⟩
theorem all_no9 {α : Type} {p : α → Bool} {xs : List α} {k : Nat} {x : α} (hx : xs[k]? = some x) (hp : p x = false) : xs.all p = false := by
  rw [List.all_eq_false]; exact ⟨x, List.mem_of_getElem? hx, by simp [hp]⟩

set_option maxHeartbeats 2000000 in
theorem lawLight (v : Value) (xs : List ItV) (b : Bool) (w : World) (h : HoldsX w v xs) (hb : lightX xs = b) : Calls Tryz.prog 9 #[v] w (One (.bool b) w) := by
  obtain ⟨A, cap, rfl, hx, hc1, hc2⟩ := h
  have hm : xs.length ≤ maxLen := Nat.le_trans hc1 hc2
  have HV := Lib.hid hb
  unfold maxLen at hm
  clear hb hc1 hc2
  go_enter Tryz.func9, Tryz.ntmps9
  go_wp2_with fail
  go_loopw [3] (fun i wr => ∃ k : Nat, k ≤ xs.length ∧ k ≤ 21 ∧ i = .int .i64 k ∧ wr = w ∧ Hid (∀ (j : Nat) (y : ItV), j < k → xs[j]? = some y → (decide (y.nm.length ≤ 100) && decide (y.ms.length ≤ 10)) = true)) (fun i _ => 21 - (intOf i).toNat)
  case atStart => exact ⟨0, by omega, by omega, rfl, rfl, fun j y h => by omega⟩
  case round =>
    obtain ⟨k, hk, hk21, rfl, rfl, hs⟩ := hrel
    by_cases hlt : k < xs.length
    · have i0 : (k : Int) < (xs.length : Int) := by omega
      by_cases h21 : k < 21
      · have i1 : (k : Int) < 21 := by omega
        obtain ⟨g, off, x, rfl, hbl, hx1, hxj, hc0, hc1, hok⟩ := hx.cells (j := k) hlt
        have hsn := size_mk x.nm
        have HX1 := Lib.hid hx1
        clear hx1 hxj hok
        by_cases h1 : x.nm.length ≤ 100
        · have j1 : ¬ (100 : Int) < (x.nm.length : Int) := by omega
          by_cases h2 : x.ms.length ≤ 10
          · have j2 : ¬ (10 : Int) < (x.ms.length : Int) := by omega
            have HS := Lib.hid (step_true (p := fun y : ItV => decide (y.nm.length ≤ 100) && decide (y.ms.length ≤ 10)) hs.out HX1.out (by simp [h1, h2]))
            go_wp2_with fail
            go_roundw
            case rel => exact ⟨k + 1, by omega, by omega, by go_num, by trivial, HS⟩
            case measure => simp [intOf]; omega
          · have j2 : (10 : Int) < (x.ms.length : Int) := by omega
            have HN := Lib.hid (show false = b from by rw [← HV.out]; unfold lightX; rw [all_no9 HX1.out (by simp [h2]), Bool.and_false])
            go_wp2_with fail
            go_ret
            exact One.bool _ HN.out
        · have j1 : (100 : Int) < (x.nm.length : Int) := by omega
          have HN := Lib.hid (show false = b from by rw [← HV.out]; unfold lightX; rw [all_no9 HX1.out (by simp [h1]), Bool.and_false])
          go_wp2_with fail
          go_ret
          exact One.bool _ HN.out
      · have i1 : ¬ (k : Int) < 21 := by omega
        have i2 : ¬ (xs.length : Int) ≤ 20 := by omega
        have HN := Lib.hid (show false = b from by rw [← HV.out]; unfold lightX; rw [decide_eq_false (by omega), Bool.false_and])
        go_wp2_with fail
        go_ret
        exact One.bool _ HN.out
    · obtain rfl : k = xs.length := by omega
      have i0 : ¬ (xs.length : Int) < (xs.length : Int) := by omega
      have hall : (xs.all fun x => decide (x.nm.length ≤ 100) && decide (x.ms.length ≤ 10)) = true := by
        rw [List.all_eq_true]
        intro y hy
        obtain ⟨j, hj⟩ := List.mem_iff_getElem?.1 hy
        exact hs.out j y (List.getElem?_eq_some_iff.1 hj).1 hj
      by_cases h20 : xs.length ≤ 20
      · have i2 : (xs.length : Int) ≤ 20 := by omega
        have HN := Lib.hid (show true = b from by rw [← HV.out]; unfold lightX; rw [hall, decide_eq_true h20]; rfl)
        clear hall
        go_wp2_with fail
        go_ret
        exact One.bool _ HN.out
      · have i2 : ¬ (xs.length : Int) ≤ 20 := by omega
        have HN := Lib.hid (show false = b from by rw [← HV.out]; unfold lightX; rw [decide_eq_false h20, Bool.false_and])
        clear hall
        go_wp2_with fail
        go_ret
        exact One.bool _ HN.out

set_option maxHeartbeats 400000 in
theorem lawItem (nm : List UInt8) (A : Option Addr) (c : Nat) (ms : List Mk) (w : World) (h : MarksAt w A ms) (h1 : ms.length ≤ c) (h2 : c ≤ maxLen) :
    Calls Tryz.prog 37 #[.string ⟨nm.toArray⟩, .slice A ms.length c] w fun e w' => ∃ x : ItV, e = .returned (mkIt x) ∧ x = ⟨nm, A, c, ms⟩ ∧ ItOK w' x ∧ Below w.heap.size w w' := by
  have hB := show Blk2I (w.alloc (.cells #[.string ⟨nm.toArray⟩, .slice A ms.length c] 34)) w.heap.size (.string ⟨nm.toArray⟩) (.slice A ms.length c) from heap_alloc_new w _
  have s6 := hB.cell0
  have s7 := hB.cell1
  have hbe : Below w.heap.size w (w.alloc (.cells #[.string ⟨nm.toArray⟩, .slice A ms.length c] 34)) := (Below.refl _ w).alloc (Nat.le_refl _) _
  have HE := Lib.hid (show ∃ x : ItV, Ending.returned (.agg #[.string ⟨nm.toArray⟩, .slice A ms.length c]) = .returned (mkIt x) ∧ x = ⟨nm, A, c, ms⟩ ∧ ItOK (w.alloc (.cells #[.string ⟨nm.toArray⟩, .slice A ms.length c] 34)) x ∧ Below w.heap.size w (w.alloc (.cells #[.string ⟨nm.toArray⟩, .slice A ms.length c] 34)) from
    ⟨_, rfl, rfl, ⟨SlAt.below h hbe, h1, h2⟩, hbe⟩)
  clear hB hbe
  go_enter Tryz.func37, Tryz.ntmps37
  go_wp2_with fail
  exact bodyPost_ret (v := .agg #[.string ⟨nm.toArray⟩, .slice A ms.length c]) (by simp [results, Tryz.results37, go_sem, s6, s7]) rfl HE.out

set_option maxHeartbeats 400000 in
theorem lawMark9 (r c q : Int) (t : Nat) (w : World) : Calls Tryz.prog 38 #[.int .i64 r, .int .i64 c, .int .i64 q, .int .u64 (t : Int)] w (OneB (mkV ⟨r, c, q, t⟩) w) := by
  have hs := BlkM.new w ⟨r, c, q, t⟩
  have s0 := hs.cell0
  have s1 := hs.cell1
  have s2 := hs.cell2
  have s3 := hs.cell3
  have HB := Lib.hid ((Below.refl w.heap.size w).alloc (Nat.le_refl _) (.cells #[.int .i64 r, .int .i64 c, .int .i64 q, .int .u64 (t : Int)] 62))
  clear hs
  go_enter Tryz.func38, Tryz.ntmps38
  go_wp2_with fail
  exact bodyPost_ret (v := mkV ⟨r, c, q, t⟩) (by simp [results, Tryz.results38, go_sem, s0, s1, s2, s3]) rfl ⟨rfl, HB.out⟩

set_option maxHeartbeats 1000000 in
theorem lawPuts (v u : Value) (xs ys : List ItV) (x : ItV) (n : Nat) (w : World) (h : HoldsX w v xs) (k : HoldsX w u ys) (ho : ItOK w x) (hf : Fits xs) (hn : x.nm.length ≤ 1000) (hxm : x.ms.length ≤ 100) (hy : ys.length ≤ 1000) (hv : putN (its xs) x.it = (its ys, n)) :
    Calls Tryz.prog 28 #[v, mkIt x, u, .int .i64 (n : Int)] w (TrueB w) := by
  have hba := (Below.refl w.heap.size w).alloc (Nat.le_refl _) (.cells #[.string ⟨x.nm.toArray⟩, .slice x.A x.ms.length x.c] 34)
  have HP := Lib.hid (itPut_h v xs x (its ys) n _ (h.below hba) (ho.below hba) hf hn hxm hv)
  have HK := Lib.hid (k.below hba)
  have HB := Lib.hid hba
  clear hba h k ho
  obtain ⟨A, c, rfl, _⟩ := id HK.out
  go_enter Tryz.func28, Tryz.ntmps28
  go_wp2_with fail
  refine HP.out.mono ?_
  rintro e w1 ⟨⟨v1, zs, rfl, hz, ho1⟩, hb1⟩
  have hzl : zs.length = ys.length := by rw [← its_len zs, hz, its_len]
  have HE := Lib.hid (refEqual_h v1 _ zs ys true w1 ho1.holds (HK.out.below hb1) (by omega) (by omega) (decide_eq_true hz))
  have HB1 := Lib.hid (below_trans HB.out hb1)
  obtain ⟨A1, c1, rfl, _⟩ := ho1.holds
  clear ho1 hb1 hz hzl
  go_wp2_with fail
  refine HE.out.mono ?_
  rintro e w2 ⟨rfl, hb2⟩
  have HB2 := Lib.hid (below_trans HB1.out hb2)
  clear hb2
  go_wp2_with fail
  go_ret
  exact OneB.bool (by simp) HB2.out

set_option maxHeartbeats 1000000 in
theorem lawRemoves (v u : Value) (xs ys : List ItV) (nm : List UInt8) (n : Nat) (w : World) (h : HoldsX w v xs) (k : HoldsX w u ys) (hf : Fits xs) (hy : ys.length ≤ 1000) (hv : delN (its xs) nm = (its ys, n)) :
    Calls Tryz.prog 32 #[v, .string ⟨nm.toArray⟩, u, .int .i64 (n : Int)] w (TrueB w) := by
  have HP := Lib.hid (itRemove_h v xs nm (its ys) n w h hf hv)
  have HK := Lib.hid k
  clear h k
  go_enter Tryz.func32, Tryz.ntmps32
  go_wp2_with fail
  refine HP.out.mono ?_
  rintro e w1 ⟨⟨v1, zs, rfl, hz, ho1⟩, hb1⟩
  have hzl : zs.length = ys.length := by rw [← its_len zs, hz, its_len]
  have HE := Lib.hid (refEqual_h v1 _ zs ys true w1 ho1.holds (HK.out.below hb1) (by omega) (by omega) (decide_eq_true hz))
  have HB1 := Lib.hid hb1
  obtain ⟨A1, c1, rfl, _⟩ := ho1.holds
  obtain ⟨A, c, rfl, _⟩ := id HK.out
  clear ho1 hb1 hz hzl
  go_wp2_with fail
  refine HE.out.mono ?_
  rintro e w2 ⟨rfl, hb2⟩
  have HB2 := Lib.hid (below_trans HB1.out hb2)
  clear hb2
  go_wp2_with fail
  go_ret
  exact OneB.bool (by simp) HB2.out

set_option maxHeartbeats 1000000 in
theorem lawOwns (v : Value) (xs : List ItV) (r c : Int) (nm : List UInt8) (n : Nat) (w : World) (h : HoldsX w v xs) (hf : Fits xs) (hv : ownV (its xs) r c = (nm, n)) :
    Calls Tryz.prog 20 #[v, .agg #[.int .i64 r, .int .i64 c], .string ⟨nm.toArray⟩, .int .i64 (n : Int)] w (TrueB w) := by
  have hba := (Below.refl w.heap.size w).alloc (Nat.le_refl _) (.cells #[.int .i64 r, .int .i64 c] 29)
  have HP := Lib.hid (itOwner_h v xs r c nm n _ (h.below hba) hf hv)
  have HB := Lib.hid hba
  clear hba
  obtain ⟨A, k, rfl, _⟩ := id h
  clear h
  go_enter Tryz.func20, Tryz.ntmps20
  go_wp2_with fail
  refine HP.out.mono ?_
  rintro e w1 ⟨rfl, hb1⟩
  have HB1 := Lib.hid (below_trans HB.out hb1)
  clear hb1
  go_wp2_with fail
  go_ret
  exact OneB.bool (by simp) HB1.out

set_option maxHeartbeats 1000000 in
theorem lawHas (x : ItV) (q : Int) (n : Nat) (w : World) (ho : ItOK w x) (hn : x.nm.length ≤ 1000) (hm : x.ms.length ≤ 100000) (hv : qtyI x.it = (q, n)) :
    Calls Tryz.prog 25 #[mkIt x, .int .i64 q, .int .i64 (n : Int)] w (TrueB w) := by
  have hba := (Below.refl w.heap.size w).alloc (Nat.le_refl _) (.cells #[.string ⟨x.nm.toArray⟩, .slice x.A x.ms.length x.c] 34)
  have HP := Lib.hid (itQty x q n _ (ho.below hba) hn hm hv)
  have HB := Lib.hid hba
  clear hba ho
  go_enter Tryz.func25, Tryz.ntmps25
  go_wp2_with fail
  refine HP.out.mono ?_
  rintro e w1 ⟨rfl, hb1⟩
  have HB1 := Lib.hid (below_trans HB.out hb1)
  clear hb1
  go_wp2_with fail
  go_ret
  exact OneB.bool (by simp) HB1.out

end Go.Proofs.YtfbkhgajlklleaaGreat
