/- Package vector: ordered, Of, Merge, Raise. -/
import Derived.Test.YtibnlifdeknicaaVecD
import Derived.Sort.OwnSorted
import Derived.Lib.SmallJoins
namespace Go.Proofs.Ytibnlifdeknicaa
open Go.RowKit Go.Maps

/-- A row of the call's own, and all that was there as it was. -/
def MineV (w w' : World) (v : Value) (xs : List (Int × Int)) : Prop := w'.ownsRow w.heap.size 38 2 v xs.length (cellsOf encD xs) ∧ RowKit.Below w.heap.size w w'
theorem MineV.holds {w w' : World} {v : Value} {xs : List (Int × Int)} (h : MineV w w' v xs) : Holds w' v xs := by
  obtain ⟨A, c, rfl, h1, h2, h3⟩ := SlAt.of_own encD_len h.1
  exact ⟨A, c, rfl, h3, h1, h2⟩
theorem MineV.base {w0 w w' : World} {v : Value} {xs : List (Int × Int)} (hb : RowKit.Below w0.heap.size w0 w) (h : MineV w w' v xs) : MineV w0 w' v xs := by
  refine ⟨⟨h.1.1, ?_⟩, below_trans hb h.2⟩
  rcases h.1.2 with h1 | ⟨g, cap, cur, hv, hg, r⟩
  · exact .inl h1
  · exact .inr ⟨g, cap, cur, hv, Nat.le_trans hb.size hg, r⟩

set_option maxRecDepth 100000 in
set_option maxHeartbeats 2000000 in
theorem vecOrdered (b n : Nat) (D : DataW Unit) (l : List (Int × Int)) (w : World) (hown : w.ownsMap Try.prog 3 (plainElem Try.prog 3) b n D) (hD : MapIs D l) (hv : ∀ p ∈ l, validD p.1 p.2 = true) (hs : Maps.size D ≤ 100000) :
    Calls Try.prog 76 #[.map (some b)] w fun e w' => ∃ v, e = .returned v ∧ MineV w w' v (ofV l) := by
  obtain ⟨i0, hi0, hz0, hz1, hz2⟩ := info_parts infoD
  have HV := Lib.hid hv; clear hv
  have HO := Lib.hid hown
  have HS := Lib.hid hs
  have HD := Lib.hid hD
  generalize hsz : Maps.size D = sz at hs
  have HSZ := Lib.hid hsz; clear hsz
  have hbl := hown.lt
  clear hown hD
  go_enter Try.func76, Try.ntmps76
  go_wp2_with (first
    | (at_len; refine wpList_len_own _ rfl _ mapT rfl 3 3 Try.underlying65 _ b n D rfl HO.out ?_; rw [HSZ.out])
    | (at_make; refine wpList_make_own _ rfl (.const (.int .i64 0)) (.tmp 7) 23 rfl w.heap.size 38 i0 _ 2 Try.underlying23 hi0 hz0 hz1 .i64 .i64 _ sz rfl rfl rfl (by rw [hz2]; omega) (by unfold maxLen; omega) (Nat.le_refl _) ?_; intro w1 hown1 hg1)
    | (at_range; refine wpList_range_own _ rfl _ mapT rfl 3 3 law3 Try.underlying65 _ b n D rfl (HO.out.kept hg1 (by simp)) ?_; intro w2 hrg2 hg2 hs2)
    | go_in)
  go_frame
  have hb2 := ((RowKit.Below.refl w.heap.size w).grown hg1 (Nat.le_refl _) (fun j hj => by cases hj)).grown hg2 hg1.size (fun j hj => by cases hj)
  have hown2 := hown1.kept hg2 (by cases hg : (Value.slice (some ⟨w.heap.size, 0, none⟩) 0 sz).ownBlock <;> simp)
  have hsz1 := hg1.size
  rw [HSZ.out] at hrg2
  have HRG := Lib.hid hrg2
  have HOW := Lib.hid hown2
  have HB2 := Lib.hid hb2
  clear hrg2 hown2 hb2 hown1 hs2
  go_loopw [3, 4, 5] (fun sv _ _ wr => ∃ (left : Lit → Bool) (cnt : Nat) (ys : List (Int × Int)), Hid (wr.ranges Try.prog 3 (plainElem Try.prog 3) b w1.heap.size n D left cnt) ∧ ys.length + cnt ≤ sz ∧
      Hid (wr.ownsRow w.heap.size 38 2 sv ys.length (cellsOf encD ys)) ∧ Hid (sv ≠ .slice none 0 0) ∧ Hid (Coll l left ys) ∧ Hid (RowKit.Below w.heap.size w wr))
    (fun _ _ _ wr => wr.rangeLeft b w1.heap.size)
  case atStart => exact ⟨_, _, [], HRG, by simp, HOW, (show Hid _ from fun h => by cases h), Coll.start HD.out, HB2⟩
  case round =>
    obtain ⟨left, cnt, ys, hrg, hcs, hrow, hnn, hC, hnx⟩ := hrel
    go_wp2_with (first
      | (at_next; refine wpList_next_ranges_ii _ rfl _ rfl 3 3 .i64 .i64 law3 Try.underlying3 Try.underlying3 b w1.heap.size n _ _ _ rfl hrg.out ?_ ?_)
      | go_in)
    · intro hc0 hl0
      rcases Go.Joins.ownsRow_forms hrow.out with ⟨hnil, _⟩ | ⟨g, cap, rfl⟩
      · exact absurd hnil hnn.out
      have hc := sortVec g cap w.heap.size ys wr hrow.out (by omega)
      have HC := Lib.hid hc; clear hc
      go_wp2_with fail
      refine HC.out.mono ?_
      rintro e w' ⟨rfl, zs, hp, hs', ho, hg'⟩
      have HZ := Lib.hid (coll_sorted HV.out hC.out hl0 hp (hs'.imp (by intro a b h; omega)))
      have hB' := hnx.out.grown hg' hnx.out.size (fun j hj => by cases hj; exact (hrow.out.lt g rfl).1)
      have HM : MineV w w' (.slice (some ⟨g, 0, none⟩) ys.length cap) zs := ⟨ho, hB'⟩
      have HM2 := Lib.hid HM
      clear hp hs' ho hg' hB' HM
      go_wp2_with fail
      go_ret
      exact ⟨_, rfl, by rw [← HZ.out]; exact HM2.out⟩
    · intro x c wn cnt1 hwx hwc hlx hat hrg1 hlt hg1' hs1 hen
      have hhas : ∃ q ∈ l, q.1 = x := by
        have h1 := has_true_of_atKey (D := D) (k := .int .i64 x) (y := .lit (.int .i64 c)) hat
        rw [HD.out.2] at h1
        obtain ⟨q, hq, e⟩ := List.any_eq_true.1 h1
        exact ⟨q, hq, by simpa using e⟩
      have hst := Coll.step HD.out hC.out hlx hhas hat
      have hrow2 := hrow.out.kept hg1' (Or.inr (row_ne_iter hrow.out hrg.out).symm)
      have hB1 := hnx.out.grown hg1' hnx.out.size (fun j hj => by cases hj; exact hsz1)
      have HST := Lib.hid hst
      have HR1 := Lib.hid hrg1
      have HROW := Lib.hid hrow2
      have HB1 := Lib.hid hB1
      clear hs1 hst hhas hat hwx hwc hlx hrow2 hB1 hrg1
      go_wp2_with (first
        | (at_builtin; refine wpList_append_sl (o := ⟨some 21, _, _, _, _, _⟩) _ encD 2 rfl (.tmp 16) (.tmp 20) 23 rfl encD_len (by omega) encD_one w.heap.size 38 i0 _ 16 Try.underlying23 hi0 hz0 hz1 hz2 rfl _ ys rfl (HROW.out.alloc _) _ 1 _ [(x, c)] rfl rfl (SlAt.one (heap_alloc_new _ _)) (by simp [maxLen]; omega) (by simp; omega) (by have := HB1.out.size; simp; omega) ?_; intro v3 w3 hown3 hg3 hat3; go_frame)
        | go_in)
      have hrg3 := (HR1.out.alloc _).kept hg3 (row_ne_low HROW.out hbl) (row_ne_iter HROW.out HR1.out)
      have hB3 := (HB1.out.alloc HB1.out.size _).grown hg3 (by have := HB1.out.size; simp; omega) (fun j hj => (HROW.out.lt j hj).1)
      have hnn3 : v3 ≠ .slice none 0 0 := fun e => by
        have h := hown3.1
        rw [e] at hown3
        rcases hown3.2 with ⟨_, h0⟩ | ⟨g, cap, cur, hv, _⟩
        · simp at h0
        · cases hv
      go_roundw
      case rel => exact ⟨_, cnt1, ys ++ [(x, c)], hrg3, by simp; omega, hown3, hnn3, HST, hB3⟩
      case measure => rw [hrg3.left_eq, hrg.out.left_eq]; exact hlt

end Go.Proofs.Ytibnlifdeknicaa
