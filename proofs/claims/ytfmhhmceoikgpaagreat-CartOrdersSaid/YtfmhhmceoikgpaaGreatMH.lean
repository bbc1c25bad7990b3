/- Several texts in one: QtyG, QtyH, QtyI. -/
import Derived.Test.YtfmhhmceoikgpaaGreatMG
import Derived.Test.YtfmhhmceoikgpaaGreatMC
namespace Go.Proofs.YtfmhhmceoikgpaaGreat

section
open Go.RowKit

/-- A number's cell. -/
abbrev encZ (n : Int) : List Value := [.int .i64 n]
abbrev NumsAt (w : World) (A : Option Addr) (xs : List Int) : Prop := SlAt encZ 1 w A xs
/-- A slice of numbers that reads as a list. -/
def HoldsZ (w : World) (v : Value) (xs : List Int) : Prop := ∃ A c, v = .slice A xs.length c ∧ NumsAt w A xs ∧ xs.length ≤ c ∧ c ≤ maxLen
theorem HoldsZ.below {w w' : World} {v : Value} {xs : List Int} (h : HoldsZ w v xs) (hb : Below w.heap.size w w') : HoldsZ w' v xs := by
  obtain ⟨A, c, rfl, h1, h2, h3⟩ := h
  exact ⟨A, c, rfl, h1.below hb, h2, h3⟩
theorem HoldsZ.nil (w : World) : HoldsZ w (.slice none 0 0) [] := ⟨none, 0, rfl, SlAt.nil, by simp, by simp [maxLen]⟩

end

section
open Go.RowKit

/-- The dots of marks. -/
def dotsM (xs : List Mk) : List (Int × Int) := xs.map fun m => (m.r, m.c)
theorem dotsM_len (xs : List Mk) : (dotsM xs).length = xs.length := by simp [dotsM]
/-- The first k dots of marks, the other ones are zero: what lies in a made slice. -/
def dotsTo (xs : List Mk) (k : Nat) : List (Int × Int) := dotsM (xs.take k) ++ List.replicate (xs.length - k) (0, 0)
theorem dotsTo_len {xs : List Mk} {k : Nat} (hk : k ≤ xs.length) : (dotsTo xs k).length = xs.length := by
  simp [dotsTo, dotsM_len]; omega
theorem dotsTo_set {xs : List Mk} {k : Nat} {m : Mk} (hx : xs[k]? = some m) : (dotsTo xs k).set k (m.r, m.c) = dotsTo xs (k + 1) := by
  have hk := (List.getElem?_eq_some_iff.1 hx).1
  have e1 : (dotsM (xs.take k)).length = k := by rw [dotsM_len, List.length_take]; omega
  have e2 : xs.length - k = (xs.length - (k + 1)) + 1 := by omega
  unfold dotsTo
  rw [List.set_append, if_neg (by omega), e1, Nat.sub_self, e2, List.replicate_succ, List.set_cons_zero, take_step hx]
  simp [dotsM]
theorem cellsD_set2 (l : List (Int × Int)) (k : Nat) (d : Int × Int) (hk : k < l.length) : ((cellsOf encD l).set (k * 2) (.int .i64 d.1)).set (k * 2 + 1) (.int .i64 d.2) = cellsOf encD (l.set k d) := by
  induction l generalizing k with
  | nil => simp at hk
  | cons x r ih =>
    match k with
    | 0 => rfl
    | k + 1 =>
      have h := ih k (by simpa using hk)
      show ((encD x ++ cellsOf encD r).set _ _).set _ _ = encD x ++ cellsOf encD (r.set k d)
      rw [← h, List.set_append, if_neg (by simp; omega), List.set_append, if_neg (by simp; omega)]
      have a1 : (k + 1) * 2 - (encD x).length = k * 2 := by rw [encD_len]; omega
      have a2 : (k + 1) * 2 + 1 - (encD x).length = k * 2 + 1 := by rw [encD_len]; omega
      rw [a1, a2]

set_option maxHeartbeats 2000000 in
theorem refDots (A : Option Addr) (xs : List Mk) (cap : Nat) (w : World) (hx : MarksAt w A xs) (hm : xs.length ≤ 100000) :
    Calls Tryz.prog 75 #[.slice A xs.length cap] w fun e w' => (∃ v, e = .returned v ∧ Holds w' v (dotsM xs)) ∧ Below w.heap.size w w' := by
  obtain ⟨ti0, hi0, hz0, hz1, hz2⟩ := info_parts infoD
  have HX := Lib.hid hx
  clear hx
  go_enter Tryz.func75, Tryz.ntmps75
  go_wp2_with fail
  go_loopw [3, 4] (fun s3 s4 wr => ∃ (k : Nat) (D : Option Addr) (d : Nat) (os : List (Int × Int)), k ≤ xs.length ∧ s3 = .slice D os.length d ∧ s4 = .int .i64 k ∧ Hid (os.length = k) ∧ Hid (dotsM (xs.take k) = os) ∧ Hid (wr.ownsRow w.heap.size 63 2 (.slice D os.length d) os.length (cellsOf encD os)) ∧ Hid (Below w.heap.size w wr)) (fun _ s4 _ => xs.length - (intOf s4).toNat)
  case atStart => exact ⟨0, none, 0, [], by omega, rfl, rfl, rfl, rfl, World.ownsRow_nil _ _ _ _, Below.refl _ _⟩
  case round =>
    obtain ⟨k, D, d, os, hk, rfl, rfl, hol, hos, HO, HB⟩ := hrel
    by_cases hlt : k < xs.length
    · have i0 : (k : Int) < (xs.length : Int) := by omega
      obtain ⟨g, off, y, rfl, hbl, hx1, _, hc0, hc1, hc2, hc3⟩ := (HX.out.below HB.out).mark (j := k) hlt
      have HE := Lib.hid (show dotsM (xs.take (k + 1)) = os ++ [(y.r, y.c)] from by rw [take_step hx1, ← hos.out]; simp [dotsM])
      clear hx1
      go_wp2_with (at_builtin; refine wpList_append_sl _ encD 2 rfl (.tmp 11) (.tmp 17) 22 rfl encD_len (by omega) encD_one w.heap.size 63 ti0 _ 16 Tryz.underlying22 hi0 hz0 hz1 hz2 rfl _ os rfl (HO.out.alloc _) _ 1 _ [(y.r, y.c)] rfl rfl (SlAt.litAt encD_len wr _ rfl _ [(y.r, y.c)] (by simp [maxLen])) (by simp [maxLen]; have := hol.out; omega) (by simp; have := hol.out; omega) (by have := HB.out.size; simp; omega) ?_; intro v1 w2 hown hg hat; have HB2 := Lib.hid ((HB.out.alloc HB.out.size _).grown hg (by have := HB.out.size; simp; omega) (fun k hk => (HO.out.lt k hk).1)); obtain ⟨D2, d2, rfl, _⟩ := SlAt.of_own encD_len hown; have HO2 := Lib.hid hown; clear hown hg hat)
      go_roundw
      case rel => exact ⟨k + 1, D2, d2, os ++ [(y.r, y.c)], by omega, by rw [List.length_append]; rfl, by go_num, (by have := hol.out; show Hid _; exact Lib.hid (by simp; omega)), HE, HO2, HB2⟩
      case measure => simp [intOf]; omega
    · obtain rfl : k = xs.length := by omega
      rw [List.take_length] at hos
      have i0 : ¬ (xs.length : Int) < (xs.length : Int) := by omega
      clear hlt hk
      go_wp2_with fail
      go_ret
      obtain ⟨A', c', e, h1, h2, h3⟩ := SlAt.of_own encD_len HO.out
      rw [hos.out]
      exact ⟨⟨_, rfl, ⟨A', c', e, h3, h1, h2⟩⟩, HB.out⟩

theorem cellsD_rep (n : Nat) : cellsOf encD (List.replicate n (0, 0)) = List.replicate (n * 2) (Value.int .i64 0) := by
  induction n with
  | zero => rfl
  | succ n ih =>
    rw [show (n + 1) * 2 = n * 2 + 1 + 1 by omega, List.replicate_succ, List.replicate_succ, List.replicate_succ, ← ih]
    rfl
theorem cellsD_made (n : Nat) : (madeCells (Value.agg #[.int .i64 0, .int .i64 0]).cells (n * 2)).toList = cellsOf encD (List.replicate n (0, 0)) := by
  rw [cellsD_rep]
  apply List.ext_getElem?
  intro j
  by_cases hj : j < n * 2
  · have h2 : j % 2 = 0 ∨ j % 2 = 1 := by omega
    rcases h2 with h | h <;> simp [madeCells, hj, Value.cells, h]
  · simp [madeCells, hj]
theorem dotsTo_zero (xs : List Mk) : dotsTo xs 0 = List.replicate xs.length (0, 0) := by simp [dotsTo, dotsM]
theorem dotsTo_all (xs : List Mk) : dotsTo xs xs.length = dotsM xs := by simp [dotsTo]
/-- Dots in a row of the call's own. -/
abbrev RowD (W : World) (g n : Nat) (xs : List (Int × Int)) : Prop := W.ownsRow g 63 2 (.slice (some ⟨g, 0, none⟩) n n) n (cellsOf encD xs)
theorem RowD.set {W : World} {g k : Nat} {xs : List Mk} {m : Mk} (h : RowD W g xs.length (dotsTo xs k)) (hx : xs[k]? = some m) :
    RowD ((W.setCell ⟨g, k * 2, none⟩ (.int .i64 m.r)).setCell ⟨g, k * 2 + 1, none⟩ (.int .i64 m.c)) g xs.length (dotsTo xs (k + 1)) ∧
      W.grownBy ((W.setCell ⟨g, k * 2, none⟩ (.int .i64 m.r)).setCell ⟨g, k * 2 + 1, none⟩ (.int .i64 m.c)) (some g) := by
  have hk := (List.getElem?_eq_some_iff.1 hx).1
  obtain ⟨a, b⟩ := h.stored (k * 2) (.int .i64 m.r)
  obtain ⟨a', b'⟩ := a.stored (k * 2 + 1) (.int .i64 m.c)
  have e := cellsD_set2 (dotsTo xs k) k (m.r, m.c) (by rw [dotsTo_len (by omega)]; exact hk)
  rw [dotsTo_set hx] at e
  refine ⟨?_, b.trans b'⟩
  show World.ownsRow _ g _ 2 _ _ (cellsOf encD (dotsTo xs (k + 1)))
  rw [← e]
  exact a'

set_option maxHeartbeats 2000000 in
theorem qtyDots (A : Option Addr) (xs : List Mk) (cap : Nat) (w : World) (hx : MarksAt w A xs) (hm : xs.length ≤ 100000) :
    Calls Tryz.prog 61 #[.slice A xs.length cap] w fun e w' => (∃ v, e = .returned v ∧ Holds w' v (dotsM xs)) ∧ Below w.heap.size w w' := by
  obtain ⟨ti0, hi0, hz0, hz1, hz2⟩ := info_parts infoD
  have HX := Lib.hid hx
  clear hx
  go_enter Tryz.func61, Tryz.ntmps61
  go_wp2_with (refine wpList_make_full _ rfl (.tmp 7) (.tmp 7) 22 rfl w.heap.size 63 ti0 _ 2 Tryz.underlying22 hi0 hz0 hz1 .i64 .i64 _ _ xs.length rfl rfl rfl rfl (by rw [hz2]; omega) (by simp [maxLen]; omega) (Nat.le_refl _) ?_; intro w1 hown hg)
  have HO := Lib.hid (show RowD w1 w.heap.size xs.length (dotsTo xs 0) from by rw [cellsD_made, ← dotsTo_zero] at hown; exact hown)
  have HB := Lib.hid ((Below.refl w.heap.size w).grown hg (Nat.le_refl _) (fun _ h => by cases h))
  clear hown hg hi0 hz0 hz1 hz2
  go_loopw [4, 5, 11] (fun _ _ i wr => ∃ (k : Nat), k ≤ xs.length ∧ i = .int .i64 k ∧ Hid (RowD wr w.heap.size xs.length (dotsTo xs k)) ∧ Hid (Below w.heap.size w wr)) (fun _ _ i _ => xs.length - (intOf i).toNat)
  case atStart => exact ⟨0, by omega, rfl, HO, HB⟩
  case round =>
    clear HO HB
    obtain ⟨k, hk, rfl, HO, HB⟩ := hrel
    by_cases hlt : k < xs.length
    · have i0 : (k : Int) < (xs.length : Int) := by omega
      obtain ⟨g, off, y, rfl, hbl, hx1, _, hc0, hc1, hc2, hc3⟩ := (HX.out.below HB.out).mark (j := k) hlt
      have HS := Lib.hid (HO.out.set hx1)
      have d0 : ∃ u, wr.cell? ⟨w.heap.size, k * 2, none⟩ = some u := by
        rw [HO.out.cellAt (k * 2) (by omega)]
        exact ⟨_, List.getElem?_eq_getElem (by rw [cellsOf_length encD_len, dotsTo_len (by omega)]; omega)⟩
      have d1 : ∃ u, wr.cell? ⟨w.heap.size, k * 2 + 1, none⟩ = some u := by
        rw [HO.out.cellAt (k * 2 + 1) (by omega)]
        exact ⟨_, List.getElem?_eq_getElem (by rw [cellsOf_length encD_len, dotsTo_len (by omega)]; omega)⟩
      obtain ⟨u0, d0⟩ := d0
      obtain ⟨u1, d1⟩ := d1
      have f0 := HO.out.frozenAt (k * 2)
      have f1 := HO.out.frozenAt (k * 2 + 1)
      have hlw : w.heap.size < wr.heap.size := World.block_lt_of_cell? wr _ d0
      clear hx1
      go_wp2_with fail
      go_roundw
      case rel => exact ⟨k + 1, by omega, by go_num, HS.out.1.alloc _, (HB.out.grown HS.out.2 HB.out.size (fun _ h => by cases h; exact Nat.le_refl _)).alloc (by have := HB.out.size; simp; omega) _⟩
      case measure => simp [intOf]; omega
    · obtain rfl : k = xs.length := by omega
      rw [dotsTo_all] at HO
      have i0 : ¬ (xs.length : Int) < (xs.length : Int) := by omega
      clear hlt hk
      go_wp2_with fail
      go_ret
      have ho := HO.out
      rw [← dotsM_len xs] at ho
      obtain ⟨A', c', e, h1, h2, h3⟩ := SlAt.of_own encD_len ho
      rw [dotsM_len xs] at e
      exact ⟨⟨_, rfl, ⟨A', c', by rw [dotsM_len xs]; exact e, h3, h1, h2⟩⟩, HB.out⟩

end

section
open Go.RowKit

theorem dotIsSet_h (v : Value) (xs : List (Int × Int)) (b : Bool) (w : World) (h : Holds w v xs) (hb : isSetB xs = b) : Calls Tryz.prog 144 #[v] w (OneB (.bool b) w) := by
  obtain ⟨A, n, rfl, h1, h2, h3⟩ := h
  subst hb
  exact dotIsSet A xs n w h1 (Nat.le_trans h2 h3)
theorem refIsSet_h (v : Value) (xs : List (Int × Int)) (b : Bool) (w : World) (h : Holds w v xs) (hb : isSetB xs = b) : Calls Tryz.prog 98 #[v] w (OneB (.bool b) w) := by
  obtain ⟨A, n, rfl, h1, h2, h3⟩ := h
  subst hb
  exact refIsSet A xs n w h1 (Nat.le_trans h2 h3)
theorem qtyIsList (A : Option Addr) (xs : List Mk) (cap : Nat) (b : Bool) (w : World) (hx : MarksAt w A xs) (hm : xs.length ≤ 100000) (hb : isSetB (dotsM xs) = b) :
    Calls Tryz.prog 123 #[.slice A xs.length cap] w (OneB (.bool b) w) := by
  have HD := Lib.hid (qtyDots A xs cap w hx hm)
  have HS := Lib.hid fun v W h => dotIsSet_h v (dotsM xs) b W h hb
  clear hx hm hb
  go_enter Tryz.func123, Tryz.ntmps123
  go_wp2_with fail
  refine HD.out.mono ?_
  rintro e w1 ⟨⟨v, rfl, hv⟩, hb1⟩
  have HV := Lib.hid hv
  have HB := Lib.hid hb1
  clear hv hb1
  go_wp2_with fail
  refine (HS.out _ _ HV.out).mono ?_
  rintro e w2 ⟨rfl, hb2⟩
  have HB2 := Lib.hid (below_trans HB.out hb2)
  clear hb2
  go_wp2_with fail
  go_ret
  exact ⟨rfl, HB2.out⟩
theorem refIsList (A : Option Addr) (xs : List Mk) (cap : Nat) (b : Bool) (w : World) (hx : MarksAt w A xs) (hm : xs.length ≤ 100000) (hb : isSetB (dotsM xs) = b) :
    Calls Tryz.prog 103 #[.slice A xs.length cap] w (OneB (.bool b) w) := by
  have HD := Lib.hid (refDots A xs cap w hx hm)
  have HS := Lib.hid fun v W h => refIsSet_h v (dotsM xs) b W h hb
  clear hx hm hb
  go_enter Tryz.func103, Tryz.ntmps103
  go_wp2_with fail
  refine HD.out.mono ?_
  rintro e w1 ⟨⟨v, rfl, hv⟩, hb1⟩
  have HV := Lib.hid hv
  have HB := Lib.hid hb1
  clear hv hb1
  go_wp2_with fail
  refine (HS.out _ _ HV.out).mono ?_
  rintro e w2 ⟨rfl, hb2⟩
  have HB2 := Lib.hid (below_trans HB.out hb2)
  clear hb2
  go_wp2_with fail
  go_ret
  exact ⟨rfl, HB2.out⟩

end

end Go.Proofs.YtfmhhmceoikgpaaGreat
