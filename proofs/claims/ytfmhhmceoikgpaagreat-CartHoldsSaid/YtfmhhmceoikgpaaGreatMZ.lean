/- Several texts in one: ItmP, ItmU, ItmV, ItmW. -/
import Derived.Test.YtfmhhmceoikgpaaGreatMY
namespace Go.Proofs.YtfmhhmceoikgpaaGreat

section
open Go.RowKit

theorem good_of_steps {l : List It} (h : ∀ (j : Nat) (x : It), j < l.length → l[j]? = some x → okI x = true ∧ behindAt l x j = true) : (∀ x ∈ l, okI x = true) ∧ IncN l := by
  refine ⟨fun x hx => ?_, IncN.of_next fun j x y hx hy => ?_⟩
  · obtain ⟨j, hj⟩ := List.mem_iff_getElem?.1 hx
    exact (h j x (List.getElem?_eq_some_iff.1 hj).1 hj).1
  · have := (h (j + 1) y (List.getElem?_eq_some_iff.1 hy).1 hy).2
    rwa [behindAt_succ rfl hx] at this
theorem validL_no {l : List It} {j : Nat} {x : It} (hx : l[j]? = some x) (h : okI x = false ∨ behindAt l x j = false) : validL l = false := by
  refine range_no (List.getElem?_eq_some_iff.1 hx).1 ?_
  unfold okAt
  rw [hx]
  rcases h with h | h <;> simp [h]
theorem step_ok {l : List It} {k : Nat} {x : It} {p : It → Nat → Prop} (h : ∀ (j : Nat) (y : It), j < k → l[j]? = some y → p y j) (hx : l[k]? = some x) (he : p x k) : ∀ (j : Nat) (y : It), j < k + 1 → l[j]? = some y → p y j := fun j y hj hy => by
  rcases Nat.lt_or_ge j k with h1 | h1
  · exact h j y h1 hy
  · obtain rfl : j = k := by omega
    rw [hx] at hy; cases hy; exact he

set_option maxRecDepth 100000 in
set_option maxHeartbeats 4000000 in
theorem itemsValid (A : Option Addr) (xs : List ItV) (cap : Nat) (b : Bool) (w : World) (hx : ItemsAt w A xs) (hf : Fits xs) (hb : validL (its xs) = b) :
    Calls Tryz.prog 38 #[.slice A xs.length cap] w (OneB (.bool b) w) := by
  have hm := hf.1
  have HX := Lib.hid hx
  have HF := Lib.hid hf.2
  have HV := Lib.hid hb
  have HDD := Lib.hid fun W (h : ItemsAt W A xs) => itDots A xs cap W h hf
  clear hx hf hb
  go_enter Tryz.func38, Tryz.ntmps38
  go_wp2_with fail
  go_loopw [3, 4, 5, 8] (fun s3 _ _ i wr => ∃ (k m : Nat), k ≤ xs.length ∧ s3 = .int .i64 (m : Int) ∧ i = .int .i64 k ∧ m ≤ 10000 ∧ Hid (m ≤ 100 * k) ∧ Hid (cntM ((its xs).take k) = m) ∧ Hid (Below w.heap.size w wr) ∧ Hid (∀ (j : Nat) (x : It), j < k → (its xs)[j]? = some x → okI x = true ∧ behindAt (its xs) x j = true)) (fun _ _ _ i _ => xs.length - (intOf i).toNat)
  case atStart => exact ⟨0, 0, by omega, rfl, rfl, by omega, Nat.zero_le _, rfl, Below.refl _ _, fun j x h => by omega⟩
  case round =>
    obtain ⟨k, m, hk, rfl, rfl, hm1, hmk, hcnt, hb, hs⟩ := hrel
    by_cases hlt : k < xs.length
    · have i0 : (k : Int) < (xs.length : Int) := by omega
      obtain ⟨bb, off, x, rfl, hbl, hx1, hx2, hc0, hc1, hok⟩ := (HX.out.below hb.out).cells (j := k) hlt
      have hxm := HF.out x (List.mem_of_getElem? hx1)
      have hba : Below wr.heap.size wr (wr.alloc (.cells #[.string ⟨x.nm.toArray⟩, .slice x.A x.ms.length x.c] 56)) := (Below.refl _ wr).alloc (Nat.le_refl _) _
      have hblk := BlkI.new wr x
      have HBA := Lib.hid (below_trans hb.out hba)
      obtain ⟨q1, hq1⟩ : ∃ b, okI x.it = b := ⟨_, rfl⟩
      have HO := Lib.hid fun p => itValid x q1 (far (wr.alloc (.cells #[.string ⟨x.nm.toArray⟩, .slice x.A x.ms.length x.c] 56)) p) ((hok.below hba).below (below_far _ p)) hxm.1 (by omega) hq1
      have HI := Lib.hid (its_at hx1)
      have HQ1 := Lib.hid hq1
      have HX1 := Lib.hid hx1
      have HK := Lib.hid hblk
      have HXW := Lib.hid ((HX.out.below hb.out).below hba)
      have HML := Lib.hid hxm.2
      have HNL := Lib.hid hxm.1
      clear hx1 hx2 hok hba hblk hq1 hxm
      go_wp2_with fail
      clear hc0 hc1
      generalize World.alloc wr _ = w3 at HBA HO HK HXW ⊢
      have hlw := HK.out.lt
      have n0 := fun p => cell_far (p := p) hlw HK.out.cell0
      have n1 := fun p => cell_far (p := p) hlw HK.out.cell1
      cases q1 with
      | false =>
        have HN := Lib.hid (show false = b from by rw [← HV.out]; exact (validL_no HI.out (.inl HQ1.out)).symm)
        refine wp_region_far (by kernel_rfl) (by kernel_rfl) ?_
        repeat (go_big_quiet_step ((go_at_call 83; exact OneB.far (HO.out _))))
        refine wpQuiet_nil ?_
        rintro _ ⟨p, rfl⟩
        go_wp2_with fail
        go_ret
        exact OneB.bool HN.out (below_trans HBA.out (below_far w3 p))
      | true =>
        have HC1 := Lib.hid (show cntM ((its xs).take (k + 1)) = m + x.ms.length from by rw [take_step HI.out, cntM_snoc, hcnt.out]; rfl)
        by_cases hk0 : k = 0
        · have h0n : ¬ 0 < k := by omega
          have h0d : decide ((0 : Int) < (k : Int)) = false := decide_eq_false (by omega)
          have HS := Lib.hid (step_ok (p := fun x j => okI x = true ∧ behindAt (its xs) x j = true) hs.out HI.out ⟨HQ1.out, by rw [hk0]; rfl⟩)
          clear hk0
          refine wp_region_far (by kernel_rfl) (by kernel_rfl) ?_
          repeat (go_big_quiet_step ((go_at_call 83; exact OneB.far (HO.out _))))
          refine wpQuiet_nil ?_
          rintro _ ⟨p, rfl⟩
          have hml := HML.out
          have hmk' := hmk.out
          go_wp2_with fail
          go_roundw
          case rel => exact ⟨k + 1, m + x.ms.length, by omega, by go_num, by go_num, by omega, (show m + x.ms.length ≤ 100 * (k + 1) from by omega), HC1, below_trans HBA.out (below_far w3 p), HS⟩
          case measure => simp [intOf]; omega
        · obtain ⟨n, hkn⟩ : ∃ n, k = n + 1 := ⟨k - 1, by omega⟩
          have h0n : 0 < k := by omega
          have h0d : (0 : Int) < (k : Int) := by omega
          have i1 : (k : Int) - 1 = (n : Int) := by omega
          have i2 : (n : Int) < (xs.length : Int) := by omega
          obtain ⟨b', off', y, ho, hbl', hy1, hyj, hd0, hd1, hok'⟩ := HXW.out.cells (j := n) (by omega)
          cases ho
          clear hyj
          have m0 := fun p => cell_far (p := p) hbl' hd0
          obtain ⟨q, hq⟩ : ∃ q, beforeN y.nm x.nm = q := ⟨_, rfl⟩
          have hls : Op.bytesLess y.nm x.nm = q := (bytesLess_eq y.nm x.nm).trans hq
          have HBH := Lib.hid (show behindAt (its xs) x.it k = q from by rw [behindAt_succ hkn (its_at hy1)]; exact hq)
          clear hd0 hd1 hok' hy1 hkn hk0
          cases q with
          | true =>
            have HS := Lib.hid (step_ok (p := fun x j => okI x = true ∧ behindAt (its xs) x j = true) hs.out HI.out ⟨HQ1.out, HBH.out⟩)
            clear hq
            refine wp_region_far (by kernel_rfl) (by kernel_rfl) ?_
            repeat (go_big_quiet_step ((go_at_call 83; exact OneB.far (HO.out _))))
            refine wpQuiet_nil ?_
            rintro _ ⟨p, rfl⟩
            have hml := HML.out
            have hmk' := hmk.out
            go_wp2_with fail
            go_roundw
            case rel => exact ⟨k + 1, m + x.ms.length, by omega, by go_num, by go_num, by omega, (show m + x.ms.length ≤ 100 * (k + 1) from by omega), HC1, below_trans HBA.out (below_far w3 p), HS⟩
            case measure => simp [intOf]; omega
          | false =>
            have HN := Lib.hid (show false = b from by rw [← HV.out]; exact (validL_no HI.out (.inr HBH.out)).symm)
            clear hq
            refine wp_region_far (by kernel_rfl) (by kernel_rfl) ?_
            repeat (go_big_quiet_step ((go_at_call 83; exact OneB.far (HO.out _))))
            refine wpQuiet_nil ?_
            rintro _ ⟨p, rfl⟩
            go_wp2_with fail
            go_ret
            exact OneB.bool HN.out (below_trans HBA.out (below_far w3 p))
    · obtain rfl : k = xs.length := by omega
      have i0 : ¬ (xs.length : Int) < (xs.length : Int) := by omega
      have HD := Lib.hid (HDD.out _ (HX.out.below hb.out))
      have hst := good_of_steps (l := its xs) (by rw [its_len]; exact hs.out)
      have hcn : cntM (its xs) = m := by have := hcnt.out; rwa [← its_len xs, List.take_length] at this
      have HG := Lib.hid (show (((dotsI (its xs)).length : Int) == (m : Int)) = b from by
        have h := good_count hst.1 hst.2
        rw [← validL_good, hcn] at h
        rw [← HV.out, Bool.eq_iff_iff, ← h, beq_iff_eq]
        omega)
      clear hlt hk hst hcn
      generalize dotsI (its xs) = ds at *
      go_wp2_with fail
      refine HD.out.mono ?_
      rintro e w1 ⟨⟨v1, rfl, A1, c1, rfl, ha1, hl1, hl2⟩, hb1⟩
      have HB1 := Lib.hid (below_trans hb.out hb1)
      clear ha1 hb1
      go_wp2_with fail
      go_ret
      exact OneB.bool HG.out HB1.out

end

section
open Go.RowKit

theorem fits_wide {xs : List ItV} (hf : Fits xs) : ∀ x ∈ xs, x.nm.length ≤ 1000000 ∧ x.ms.length ≤ 1000000 := fun x hx => by
  have := hf.2 x hx; omega
theorem HoldsX.drew {w : World} {v : Value} {xs : List ItV} (h : HoldsX w v xs) : HoldsX w.drew v xs := h.below (Below.refl _ _).drew
theorem itEqual_h (v u : Value) (xs ys : List ItV) (b : Bool) (w : World) (h : HoldsX w v xs) (k : HoldsX w u ys) (hm : xs.length ≤ 100000) (hm' : ys.length ≤ 100000) (hb : decide (its xs = its ys) = b) :
    Calls Tryz.prog 45 #[v, u] w (OneB (.bool b) w) := by
  obtain ⟨A, c, rfl, h1, _⟩ := h
  obtain ⟨A', c', rfl, h2, _⟩ := k
  subst hb
  exact itemsEqual A A' xs ys c c' w h1 h2 hm hm'
theorem itValid_h (v : Value) (xs : List ItV) (b : Bool) (w : World) (h : HoldsX w v xs) (hf : Fits xs) (hb : validL (its xs) = b) : Calls Tryz.prog 38 #[v] w (OneB (.bool b) w) := by
  obtain ⟨A, c, rfl, h1, _⟩ := h
  exact itemsValid A xs c b w h1 hf hb
theorem itCopy_h (v : Value) (xs : List ItV) (w : World) (h : HoldsX w v xs) (hf : Fits xs) : Calls Tryz.prog 50 #[v] w fun e w' => ∃ v ys, e = .returned v ∧ its ys = its xs ∧ OwnI w' w.heap.size v ys ∧ Below w.heap.size w w' := by
  obtain ⟨A, c, rfl, h1, _⟩ := h
  exact itCopy A xs c w h1 (by have := hf.1; omega) (fits_wide hf)
theorem itFind_h (v : Value) (xs : List ItV) (nm : List UInt8) (w : World) (h : HoldsX w v xs) (hf : Fits xs) :
    Calls Tryz.prog 70 #[v, .string ⟨nm.toArray⟩] w fun e w' => (∃ (y : ItV) (n : Nat), e = .returned (.tuple #[mkIt y, .int .i64 (n : Int)]) ∧ findV (its xs) nm = (y.it, n) ∧ ItOK w' y) ∧ Below w.heap.size w w' := by
  obtain ⟨A, c, rfl, h1, _⟩ := h
  exact itFind A xs c nm w h1 (by have := hf.1; omega) (fits_wide hf)
theorem itDots_h (v : Value) (xs : List ItV) (w : World) (h : HoldsX w v xs) (hf : Fits xs) : Calls Tryz.prog 39 #[v] w fun e w' => (∃ v, e = .returned v ∧ Holds w' v (dotsI (its xs))) ∧ Below w.heap.size w w' := by
  obtain ⟨A, c', rfl, h1, _⟩ := h
  exact itDots A xs c' w h1 hf

end

section
open Go.RowKit

theorem RowT.form {W : World} {B : Nat} {v : Value} {xs : List ItV} (h : RowT W B v xs) (h0 : 0 < xs.length) :
    ∃ g c cur, v = .slice (some ⟨g, 0, none⟩) xs.length c ∧ B ≤ g ∧ W.heap[g]? = some (.cells cur 56 (0, 0)) := by
  rcases h.2 with ⟨_, h2⟩ | ⟨g, cap, cur, hv, hb, hg, _⟩
  · omega
  · exact ⟨g, cap, cur, hv, hb, hg⟩
theorem RowM.form {W : World} {B : Nat} {v : Value} {ms : List Mk} (h : RowM W B v ms) :
    (v = .slice none 0 0 ∧ ms = []) ∨ ∃ g c cur, v = .slice (some ⟨g, 0, none⟩) ms.length c ∧ B ≤ g ∧ W.heap[g]? = some (.cells cur 65 (0, 0)) := by
  rcases h.2 with ⟨h1, h2⟩ | ⟨g, cap, cur, hv, hb, hg, _⟩
  · exact .inl ⟨h1, List.eq_nil_of_length_eq_zero h2⟩
  · exact .inr ⟨g, cap, cur, hv, hb, hg⟩
/-- A block of items is no block of marks. -/
theorem RowM.ne {W : World} {B g : Nat} {v : Value} {ms : List Mk} {cur : Array Value} (h : RowM W B v ms) (hg : W.heap[g]? = some (.cells cur 56 (0, 0))) : v.ownBlock ≠ some g := by
  rcases RowM.form h with ⟨rfl, _⟩ | ⟨g', c, cur', rfl, _, hg'⟩
  · simp [Value.ownBlock]
  · intro e
    have e' : g' = g := by simpa [Value.ownBlock] using e
    subst e'
    rw [hg] at hg'
    injection hg' with h1
    injection h1 with _ h2 _
    exact absurd h2 (by decide)

/-- The name of one item in its row. -/
theorem cells_setN (ys : List ItV) (j : Nat) (s : List UInt8) (y : ItV) (hj : ys[j]? = some y) : (cellsOf encIt ys).set (j * 2) (.string ⟨s.toArray⟩) = cellsOf encIt (ys.set j { y with nm := s }) := by
  induction ys generalizing j with
  | nil => simp at hj
  | cons z l ih =>
    cases j with
    | zero =>
      obtain rfl : z = y := by simpa using hj
      rfl
    | succ n =>
      have hj' : l[n]? = some y := by simpa using hj
      rw [List.set_cons_succ, show cellsOf encIt (z :: l) = encIt z ++ cellsOf encIt l from rfl, show cellsOf encIt (z :: l.set n { y with nm := s }) = encIt z ++ cellsOf encIt (l.set n { y with nm := s }) from rfl, ← ih n hj', show (n + 1) * 2 = (encIt z).length + n * 2 by rw [encIt_len]; omega, List.set_append_right _ _ (by omega), show (encIt z).length + n * 2 - (encIt z).length = n * 2 by omega]
theorem spoName {W : World} {B g c n j : Nat} {xs : List ItV} {x : ItV} (h : OwnI W B (.slice (some ⟨g, 0, none⟩) n c) xs) (hn : xs.length = n) (hj : xs[j]? = some x) (s : List UInt8) :
    OwnI (W.setCell ⟨g, j * 2, none⟩ (.string ⟨s.toArray⟩)) B (.slice (some ⟨g, 0, none⟩) n c) (xs.set j { x with nm := s }) := by
  subst hn
  have hjl := (List.getElem?_eq_some_iff.1 hj).1
  obtain ⟨g', c', cur, hv, _, hg⟩ := h.1.form (by omega)
  have hgg : g = g' := by injection hv with h1; injection h1 with h1; injection h1
  subst hgg
  refine ⟨?_, fun y hy => ?_⟩
  · have h1 := (World.ownsRow.stored h.1 (j * 2) (.string ⟨s.toArray⟩)).1
    rw [cells_setN xs j s x hj] at h1
    show World.ownsRow _ _ _ _ _ (xs.set j { x with nm := s }).length _
    rw [List.length_set]
    exact h1
  · have hk : RowM W B (slV y) y.ms := by
      rcases List.mem_or_eq_of_mem_set hy with h' | h'
      · exact h.2 y h'
      · subst h'; exact h.2 x (List.mem_of_getElem? hj)
    exact ownsRow_setCell_other hk (a := ⟨g, j * 2, none⟩) (RowM.ne hk hg) _

/-- One mark with another quantity. -/
def setQ (ms : List Mk) (k : Nat) (q : Int) : List Mk := ms.modify k fun m => { m with q := q }
theorem setQ_len (ms : List Mk) (k : Nat) (q : Int) : (setQ ms k q).length = ms.length := by simp [setQ]
theorem cells_setQ : ∀ (ms : List Mk) (k : Nat) (q : Int), (cellsOf encM ms).set (k * 4 + 2) (.int .i64 q) = cellsOf encM (setQ ms k q)
  | [], k, q => by simp [setQ, cellsOf]
  | m :: r, 0, q => by rfl
  | m :: r, k + 1, q => by
    have ih := cells_setQ r k q
    have e : setQ (m :: r) (k + 1) q = m :: setQ r k q := by simp [setQ]
    rw [e, show cellsOf encM (m :: r) = encM m ++ cellsOf encM r from rfl, show cellsOf encM (m :: setQ r k q) = encM m ++ cellsOf encM (setQ r k q) from rfl, ← ih, show (k + 1) * 4 + 2 = (encM m).length + (k * 4 + 2) by rw [encM_len]; omega, List.set_append_right _ _ (by omega), show (encM m).length + (k * 4 + 2) - (encM m).length = k * 4 + 2 by omega]
/-- The item with one quantity changed, if its marks lie there. -/
def poke (h k : Nat) (q : Int) (y : ItV) : ItV := if y.A = some ⟨h, 0, none⟩ then { y with ms := setQ y.ms k q } else y
theorem poke_same (h k : Nat) (q : Int) (y : ItV) : (poke h k q y).nm = y.nm ∧ (poke h k q y).A = y.A ∧ (poke h k q y).c = y.c ∧ (poke h k q y).ms.length = y.ms.length := by
  unfold poke
  split
  · exact ⟨rfl, rfl, rfl, setQ_len _ _ _⟩
  · exact ⟨rfl, rfl, rfl, rfl⟩
theorem encIt_poke (h k : Nat) (q : Int) (y : ItV) : encIt (poke h k q y) = encIt y := by
  obtain ⟨h1, h2, h3, h4⟩ := poke_same h k q y
  unfold encIt
  rw [h1, h2, h3, h4]
theorem cells_poke (h k : Nat) (q : Int) (xs : List ItV) : cellsOf encIt (xs.map (poke h k q)) = cellsOf encIt xs := by
  unfold cellsOf
  rw [List.flatMap_map]
  exact congrArg List.flatten (List.map_congr_left fun y _ => encIt_poke h k q y)
theorem spoMark {W : World} {B g c n h k : Nat} {xs : List ItV} (hx : OwnI W B (.slice (some ⟨g, 0, none⟩) n c) xs) (hn : xs.length = n) (h0 : 0 < n) {cur : Array Value} (hh : W.heap[h]? = some (.cells cur 65 (0, 0))) (q : Int) :
    OwnI (W.setCell ⟨h, k * 4 + 2, none⟩ (.int .i64 q)) B (.slice (some ⟨g, 0, none⟩) n c) (xs.map (poke h k q)) := by
  subst hn
  obtain ⟨g', c', cur', hv, _, hg⟩ := hx.1.form h0
  have hgg : g = g' := by injection hv with h1; injection h1 with h1; injection h1
  subst hgg
  refine ⟨?_, fun y hy => ?_⟩
  · have hne : (Value.slice (some ⟨g, 0, none⟩) xs.length c).ownBlock ≠ some h := fun e => by
      have e' : g = h := by simpa [Value.ownBlock] using e
      subst e'
      rw [hg] at hh
      injection hh with h1
      injection h1 with _ h2 _
      exact absurd h2 (by decide)
    have h1 := ownsRow_setCell_other hx.1 (a := ⟨h, k * 4 + 2, none⟩) hne (.int .i64 q)
    show World.ownsRow _ _ _ _ _ (xs.map (poke h k q)).length _
    rw [List.length_map, cells_poke]
    exact h1
  · obtain ⟨z, hz, rfl⟩ := List.mem_map.1 hy
    have hk := hx.2 z hz
    by_cases he : z.A = some ⟨h, 0, none⟩
    · have e : poke h k q z = { z with ms := setQ z.ms k q } := by unfold poke; rw [if_pos he]
      have h1 : RowM W B (.slice (some ⟨h, 0, none⟩) z.ms.length z.c) z.ms := by rw [← he]; exact hk
      have h2 := (World.ownsRow.stored h1 (k * 4 + 2) (.int .i64 q)).1
      rw [cells_setQ] at h2
      rw [e]
      show World.ownsRow _ _ _ _ (.slice z.A (setQ z.ms k q).length z.c) (setQ z.ms k q).length _
      rw [setQ_len, he]
      exact h2
    · have e : poke h k q z = z := by unfold poke; rw [if_neg he]
      rw [e]
      refine ownsRow_setCell_other hk (a := ⟨h, k * 4 + 2, none⟩) (fun ek => ?_) _
      rcases RowM.form hk with ⟨e1, _⟩ | ⟨g2, c2, cur2, e1, _⟩
      · rw [e1] at ek; simp [Value.ownBlock] at ek
      · rw [e1] at ek
        have e2 : g2 = h := by simpa [Value.ownBlock] using ek
        subst e2
        injection e1 with e3
        exact he e3

/-- What was returned, as it is spoilt: the row of the items, names not too long. -/
structure Spo (W0 : World) (B g c n lim : Nat) (W : World) (xs : List ItV) : Prop where
  own : OwnI W B (.slice (some ⟨g, 0, none⟩) n c) xs
  len : xs.length = n
  nam : ∀ x ∈ xs, x.nm.length ≤ lim
  bel : Below B W0 W
theorem append_mk1 (l : List UInt8) (b : UInt8) : (ByteArray.mk l.toArray) ++ (ByteArray.mk #[b]) = ByteArray.mk (l ++ [b]).toArray := app_mk l [b]
section
variable {W0 W : World} {B g c n lim : Nat} {xs : List ItV}
theorem Spo.cells (h : Spo W0 B g c n lim W xs) {j : Nat} {x : ItV} (hj : xs[j]? = some x) : W.cell? ⟨g, j * 2, none⟩ = some (.string ⟨x.nm.toArray⟩) ∧ W.cell? ⟨g, j * 2 + 1, none⟩ = some (.slice x.A x.ms.length x.c) ∧ W.frozen? ⟨g, j * 2, none⟩ = false ∧ g < W.heap.size ∧ B ≤ g := by
  have ho := h.own.1
  rw [show RowT W B (.slice (some ⟨g, 0, none⟩) n c) xs = W.ownsRow B 56 2 (.slice (some ⟨g, 0, none⟩) n c) xs.length (cellsOf encIt xs) from rfl, h.len] at ho
  obtain ⟨a1, a2, a3, _⟩ := own_it ho hj
  have := ho.lt g rfl
  exact ⟨a1, a2, a3, this.2, this.1⟩
theorem Spo.name (h : Spo W0 B g c n lim W xs) {j : Nat} {x : ItV} (hj : xs[j]? = some x) (b : UInt8) : Spo W0 B g c n (lim + 1) (W.setCell ⟨g, j * 2, none⟩ (.string ⟨(x.nm ++ [b]).toArray⟩)) (xs.set j { x with nm := x.nm ++ [b] }) :=
  ⟨spoName h.own h.len hj _, by rw [List.length_set]; exact h.len, fun y hy => by
    rcases List.mem_or_eq_of_mem_set hy with h' | h'
    · have := h.nam y h'; omega
    · subst h'
      have := h.nam x (List.mem_of_getElem? hj)
      simp; omega, h.bel.setCell (p := ⟨g, j * 2, none⟩) (h.cells hj).2.2.2.2 _⟩
theorem Spo.marks (h : Spo W0 B g c n lim W xs) {j k : Nat} {x : ItV} (hj : xs[j]? = some x) (hk : k < x.ms.length) :
    ∃ b q, x.A = some ⟨b, 0, none⟩ ∧ W.cell? ⟨b, k * 4 + 2, none⟩ = some (.int .i64 q) ∧ W.frozen? ⟨b, k * 4 + 2, none⟩ = false ∧ b < W.heap.size ∧
      ∀ q', ∃ ys y, Spo W0 B g c n lim (W.setCell ⟨b, k * 4 + 2, none⟩ (.int .i64 q')) ys ∧ ys[j]? = some y ∧ y.A = x.A ∧ y.c = x.c ∧ y.ms.length = x.ms.length := by
  have hjl := (List.getElem?_eq_some_iff.1 hj).1
  have hr := h.own.2 x (List.mem_of_getElem? hj)
  rcases RowM.form hr with ⟨_, e2⟩ | ⟨b, c2, cur2, e1, hb, hg⟩
  · rw [e2] at hk; simp at hk
  · injection e1 with e3 _ e4
    have hr' : RowM W B (.slice (some ⟨b, 0, none⟩) x.ms.length x.c) x.ms := by rw [← e3]; exact hr
    have hc := hr'.cells (g := b) rfl (k * 4 + 2) (.int .i64 x.ms[k].q) (cellsOf_at encM_len x.ms k x.ms[k] 2 _ (List.getElem?_eq_getElem hk) rfl)
    rw [Addr_add, Nat.zero_add] at hc
    refine ⟨b, x.ms[k].q, e3, hc, hr'.frozenAt _, (Array.getElem?_eq_some_iff.1 hg).1, fun q' => ?_⟩
    obtain ⟨p1, p2, p3, p4⟩ := poke_same b k q' x
    refine ⟨xs.map (poke b k q'), poke b k q' x, ⟨spoMark h.own h.len (by rw [← h.len]; omega) hg q', by rw [List.length_map]; exact h.len, fun y hy => ?_, h.bel.setCell (p := ⟨b, k * 4 + 2, none⟩) hb _⟩, by rw [List.getElem?_map, hj]; rfl, p2, p3, p4⟩
    obtain ⟨z, hz, rfl⟩ := List.mem_map.1 hy
    rw [(poke_same b k q' z).1]
    exact h.nam z hz
end

theorem Spo.name1 {W0 W : World} {B g c n lim : Nat} {xs : List ItV} (h : Spo W0 B g c n lim W xs) {j : Nat} {x : ItV} (hj : xs[j]? = some x) : Spo W0 B g c n (lim + 1) (W.setCell ⟨g, j * 2, none⟩ (.string (⟨x.nm.toArray⟩ ++ ⟨#[120]⟩))) (xs.set j { x with nm := x.nm ++ [120] }) := by
  rw [append_mk1]; exact h.name hj 120

end

section
open Go.RowKit

theorem OwnI.grow {W W' : World} {B : Nat} {v v' : Value} {ys : List ItV} {y : ItV} (h : OwnI W B v ys) (hy : RowM W B (slV y) y.ms) (hr : RowT W' B v' (ys ++ [y])) (hg : W.grownBy W' v.ownBlock) : OwnI W' B v' (ys ++ [y]) := by
  refine ⟨hr, fun z hz => ?_⟩
  have hk : RowM W B (slV z) z.ms := by
    rcases List.mem_append.1 hz with h' | h'
    · exact h.2 z h'
    · obtain rfl : z = y := by simpa using h'
      exact hy
  refine World.ownsRow.kept hk hg ?_
  rcases h.1.2 with ⟨e, _⟩ | ⟨g, c, cur, e, _, hgg, _⟩
  · rw [e]
    rcases RowM.form hk with ⟨e1, _⟩ | ⟨g1, c1, cur1, e1, _⟩
    · left; rw [e1]; rfl
    · right; rw [e1]; simp [Value.ownBlock]
  · right
    rw [e]
    exact RowM.ne hk hgg

/-- The item in its box, the row that is being made. -/
structure KOwn (w : World) (bx : Nat) (x : ItV) (v : Value) (ys : List ItV) (W : World) : Prop where
  blk : BlkI W bx x
  own : OwnI W w.heap.size v ys
  bel : Below w.heap.size w W
  okx : ItOK W x
  ne : v.ownBlock ≠ some bx
section
variable {w W W' : World} {x : ItV} {bx : Nat} {v : Value} {ys : List ItV}
theorem KOwn.next (h : KOwn w bx x v ys W) (hb : Below W.heap.size W W') : KOwn w bx x v ys W' := ⟨h.blk.below hb, h.own.below hb, below_trans h.bel hb, h.okx.below hb, h.ne⟩
theorem KOwn.drew (h : KOwn w bx x v ys W) : KOwn w bx x v ys W.drew := h.next (Below.refl _ _).drew
theorem KOwn.alloc (h : KOwn w bx x v ys W) (o : Obj) : KOwn w bx x v ys (W.alloc o) := h.next ((Below.refl _ _).alloc (Nat.le_refl _) _)
theorem KOwn.grown (h : KOwn w bx x v ys W) (hg : W.grownBy W' none) : KOwn w bx x v ys W' := h.next ((Below.refl _ _).grown hg (Nat.le_refl _) (fun _ h => by cases h))
theorem KOwn.sp (h : KOwn w bx x v ys W) : W.cell? ⟨bx, 0, none⟩ = some (.string ⟨x.nm.toArray⟩) ∧ W.cell? ⟨bx, 1, none⟩ = some (.slice x.A x.ms.length x.c) ∧ bx < W.heap.size := ⟨h.blk.cell0, h.blk.cell1, h.blk.lt⟩
theorem KOwn.size (h : KOwn w bx x v ys W) : w.heap.size ≤ W.heap.size := h.bel.size
end

/-- Items in boxes, and nothing old has changed. -/
structure KZ (w : World) (L : List (Nat × ItV)) (W : World) : Prop where
  box : ∀ p ∈ L, BlkI W p.1 p.2 ∧ ItOK W p.2
  bel : Below w.heap.size w W
section
variable {w W W' : World} {L : List (Nat × ItV)}
theorem KZ.next (h : KZ w L W) (hb : Below W.heap.size W W') : KZ w L W' := ⟨fun p hp => ⟨(h.box p hp).1.below hb, (h.box p hp).2.below hb⟩, below_trans h.bel hb⟩
theorem KZ.drew (h : KZ w L W) : KZ w L W.drew := h.next (Below.refl _ _).drew
theorem KZ.alloc (h : KZ w L W) (o : Obj) : KZ w L (W.alloc o) := h.next ((Below.refl _ _).alloc (Nat.le_refl _) _)
theorem KZ.c0 (h : KZ w L W) {g : Nat} {x : ItV} (hm : (g, x) ∈ L) : W.cell? ⟨g, 0, none⟩ = some (.string ⟨x.nm.toArray⟩) := (h.box _ hm).1.cell0
theorem KZ.c1 (h : KZ w L W) {g : Nat} {x : ItV} (hm : (g, x) ∈ L) : W.cell? ⟨g, 1, none⟩ = some (.slice x.A x.ms.length x.c) := (h.box _ hm).1.cell1
theorem KZ.lt (h : KZ w L W) {g : Nat} {x : ItV} (hm : (g, x) ∈ L) : g < W.heap.size := (h.box _ hm).1.lt
theorem KZ.ok (h : KZ w L W) {g : Nat} {x : ItV} (hm : (g, x) ∈ L) : ItOK W x := (h.box _ hm).2
theorem KZ.push (h : KZ w L W) (x : ItV) (ho : ItOK W x) (n : Nat) (hn : W.heap.size = n) : KZ w (L ++ [(n, x)]) (W.alloc (.cells #[.string ⟨x.nm.toArray⟩, .slice x.A x.ms.length x.c] 56)) := by
  subst hn
  have hb := (Below.refl W.heap.size W).alloc (Nat.le_refl _) (.cells #[.string ⟨x.nm.toArray⟩, .slice x.A x.ms.length x.c] 56)
  refine ⟨fun p hp => ?_, (h.next hb).bel⟩
  rcases List.mem_append.1 hp with k | k
  · exact (h.next hb).box p k
  · obtain rfl : p = (W.heap.size, x) := by simpa using k
    exact ⟨BlkI.new W x, ho.below hb⟩
/-- The two boxes of one that looks at two. -/
theorem KZ.sp2 {g g' : Nat} {x y : ItV} (h : KZ w [(g, x), (g', y)] W) : W.cell? ⟨g, 0, none⟩ = some (.string ⟨x.nm.toArray⟩) ∧ W.cell? ⟨g, 1, none⟩ = some (.slice x.A x.ms.length x.c) ∧ W.cell? ⟨g', 0, none⟩ = some (.string ⟨y.nm.toArray⟩) ∧ W.cell? ⟨g', 1, none⟩ = some (.slice y.A y.ms.length y.c) ∧ g < W.heap.size ∧ g' < W.heap.size ∧ KZ w [(g, x), (g', y)] W :=
  ⟨h.c0 (by simp), h.c1 (by simp), h.c0 (by simp), h.c1 (by simp), h.lt (x := x) (by simp), h.lt (x := y) (by simp), h⟩
end
/-- One item, two items that were written out. -/
theorem holdsA (W : World) (n : Nat) (x : ItV) (hn : W.heap.size = n) (ho : ItOK W x) : HoldsX (W.alloc (.cells #[.string ⟨x.nm.toArray⟩, .slice x.A x.ms.length x.c] 56)) (.slice (some ⟨n, 0, none⟩) 1 1) [x] := by
  subst hn
  exact ⟨_, 1, rfl, ⟨SlAt.one (heap_alloc_new W _), fun y hy => by
    obtain rfl : y = x := by simpa using hy
    exact ho.below ((Below.refl _ _).alloc (Nat.le_refl _) _)⟩, by simp, by simp [maxLen]⟩
theorem holdsB (W : World) (n : Nat) (x y : ItV) (hn : W.heap.size = n) (ho : ItOK W x) (hp : ItOK W y) : HoldsX (W.alloc (.cells #[.string ⟨x.nm.toArray⟩, .slice x.A x.ms.length x.c, .string ⟨y.nm.toArray⟩, .slice y.A y.ms.length y.c] 56)) (.slice (some ⟨n, 0, none⟩) 2 2) [x, y] :=
  ⟨_, 2, rfl, ⟨SlAt.litAt encIt_len W n hn 56 [x, y] (by simp [maxLen]), fun z hz => by
    have hb := (Below.refl W.heap.size W).alloc (Nat.le_refl _) (.cells #[.string ⟨x.nm.toArray⟩, .slice x.A x.ms.length x.c, .string ⟨y.nm.toArray⟩, .slice y.A y.ms.length y.c] 56)
    rcases (by simpa using hz : z = x ∨ z = y) with e | e <;> subst e
    · exact ho.below hb
    · exact hp.below hb⟩, by simp, by simp [maxLen]⟩

end

end Go.Proofs.YtfmhhmceoikgpaaGreat
