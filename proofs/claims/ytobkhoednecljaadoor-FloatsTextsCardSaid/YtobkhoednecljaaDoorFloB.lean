/- Package floats' reference: Same, Values, Bits. -/
import Derived.Test.YtobkhoednecljaaDoorFloA
namespace Go.Proofs.YtobkhoednecljaaDoor
open Go.RowKit

theorem own_below {w w' : World} {B : Nat} {e : TypeId} {v : Value} {n : Nat} {xs : List Value} (h : w.ownsRow B e 1 v n xs) (hb : Below w.heap.size w w') : w'.ownsRow B e 1 v n xs := own_keep h hb
/-- A row of numbers, and of values, of the call's own. -/
def MadeU (w w' : World) (v : Value) (xs : List Nat) : Prop := w'.ownsRow w.heap.size 22 1 v xs.length (cellsOf encU xs) ∧ Below w.heap.size w w'
def MadeG (w w' : World) (v : Value) (xs : List Nat) : Prop := w'.ownsRow w.heap.size 23 1 v xs.length (cellsOf encG xs) ∧ Below w.heap.size w w'
theorem HoldsU.of_own {w : World} {B : Nat} {v : Value} {xs : List Nat} (h : w.ownsRow B 22 1 v xs.length (cellsOf encU xs)) : HoldsU w v xs := by
  obtain ⟨A, c, rfl, h1, h2, h3⟩ := SlAt.of_own encU_len h
  exact ⟨A, c, rfl, h3, h1, h2⟩
theorem HoldsG.of_own {w : World} {B : Nat} {v : Value} {xs : List Nat} (h : w.ownsRow B 23 1 v xs.length (cellsOf encG xs)) : HoldsG w v xs := by
  obtain ⟨A, c, rfl, h1, h2, h3⟩ := SlAt.of_own encG_len h
  exact ⟨A, c, rfl, h3, h1, h2⟩
theorem SlAt.one {α : Type} {enc : α → List Value} {k : Nat} {w : World} {g : Nat} {x : α} {t : TypeId} (h : w.heap[g]? = some (.cells (enc x).toArray t (0, 0))) : SlAt enc k w (some ⟨g, 0, none⟩) [x] := fun _ =>
  ⟨g, 0, rfl, (Array.getElem?_eq_some_iff.1 h).1, fun j y hy i u hu => by
    match j, hy with
    | 0, hy => simp at hy; subst hy; rw [cell_of_row w g _ _ t (0, 0) h]; simpa using hu⟩
theorem ret_bool {a b : Bool} (h : a = b) : Ending.returned (.bool a) = .returned (.bool b) := by rw [h]
def SameTo (xs ys : List Nat) (m : Nat) : Prop := ∀ j, j < m → xs[j]? = ys[j]?

set_option maxHeartbeats 1000000 in
theorem refSame13 (A B : Option Addr) (xs ys : List Nat) (cap cap' : Nat) (w : World) (hx : NumsU w A xs) (hy : NumsU w B ys) (hm : xs.length ≤ 100000) (_ : ys.length ≤ 100000) :
    Calls Tryd.prog 23 #[.slice A xs.length cap, .slice B ys.length cap'] w (OneB (.bool (decide (xs = ys))) w) := by
  by_cases hl : xs.length = ys.length
  · have hl' : ((xs.length : Int) != (ys.length : Int)) = false := by simp [hl]
    have HL := Lib.hid hl; clear hl
    go_enter Tryd.func23, Tryd.ntmps23
    go_wp2_with fail
    go_loopw [5] (fun i wr => ∃ m : Nat, m ≤ xs.length ∧ i = .int .i64 m ∧ Below w.heap.size w wr ∧ Hid (SameTo xs ys m)) (fun i _ => xs.length - (intOf i).toNat)
    case atStart => exact ⟨0, by omega, rfl, Below.refl _ _, fun j h => by omega⟩
    case round =>
      obtain ⟨m, hk2, rfl, hb, hs⟩ := hrel
      by_cases hlt : m < xs.length
      · have hlt2 : m < ys.length := by have := HL.out; omega
        have i0 : (m : Int) < (xs.length : Int) := by omega
        obtain ⟨b, off, rfl, hbl, hc0⟩ := (SlAt.cell1 (f := fun n : Nat => Value.int .u64 n) (hx.below hb) (j := m) (by omega))
        obtain ⟨b', off', rfl, hbl', hd0⟩ := (SlAt.cell1 (f := fun n : Nat => Value.int .u64 n) (hy.below hb) (j := m) (by omega))
        have l0 := fun p => cell_far (p := p) hbl hc0
        have l2 := fun p => cell_far (p := p) hbl' hd0
        have HX := Lib.hid (List.getElem?_eq_getElem hlt)
        have HY := Lib.hid (List.getElem?_eq_getElem hlt2)
        clear hc0 hd0
        generalize xs[m] = x at *
        generalize ys[m] = y at *
        by_cases hq : x = y
        · subst hq
          go_wp2_with fail
          refine wp_region_far (by kernel_rfl) (by kernel_rfl) ?_
          repeat (go_big_quiet_step ((fail)))
          refine wpQuiet_nil ?_
          rintro _ ⟨p, rfl⟩
          go_wp2_with fail
          go_roundw
          case rel =>
            refine ⟨m + 1, by omega, by go_num, hb.trans ((below_far wr p).mono hb.size), (show Hid _ from fun j hj => ?_)⟩
            by_cases e : j = m
            · subst e; rw [HX.out, HY.out]
            · exact hs.out j (by omega)
          case measure => simp [intOf]; omega
        · have hne : ¬ xs = ys := fun e => by
            have h1 := HX.out
            have h2 := HY.out
            rw [e, h2] at h1
            cases h1
            exact hq rfl
          have HN := Lib.hid hne; clear hne
          have hq' : ((x : Int) != (y : Int)) = true := by simp only [bne_iff_ne]; omega
          clear hq
          go_wp2_with fail
          refine wp_region_far (by kernel_rfl) (by kernel_rfl) ?_
          repeat (go_big_quiet_step ((fail)))
          refine wpQuiet_nil ?_
          rintro _ ⟨p, rfl⟩
          go_wp2_with fail
          go_ret
          exact ⟨ret_bool (by simp [HN.out]), hb.trans ((below_far wr p).mono hb.size)⟩
      · have i0 : ¬ (m : Int) < (xs.length : Int) := by omega
        go_wp2_with fail
        go_ret
        refine ⟨ret_bool ?_, hb⟩
        have : xs = ys := List.ext_getElem? fun j => by
          by_cases e : j < m
          · exact hs.out j e
          · have := HL.out
            rw [List.getElem?_eq_none (by omega), List.getElem?_eq_none (by omega)]
        simp [this]
  · have hl' : ((xs.length : Int) != (ys.length : Int)) = true := by
      simp only [bne_iff_ne]
      omega
    have HL := Lib.hid hl; clear hl
    go_enter Tryd.func23, Tryd.ntmps23
    go_wp2_with fail
    go_ret
    refine ⟨ret_bool ?_, Below.refl _ _⟩
    have : ¬ xs = ys := fun e => HL.out (by rw [e])
    simp [this]

set_option maxHeartbeats 1000000 in
theorem refValues13 (A : Option Addr) (xs : List Nat) (cap : Nat) (w : World) (hx : NumsU w A xs) (hm : xs.length ≤ 100000) :
    Calls Tryd.prog 21 #[.slice A xs.length cap] w fun e w' => ∃ v, e = .returned v ∧ MadeG w w' v xs := by
  obtain ⟨ti0, hi0, hz0, hz1, hz2⟩ := info_parts infoG
  have HX := Lib.hid hx
  clear hx
  go_enter Tryd.func21, Tryd.ntmps21
  go_wp2_with fail
  go_loopw [3, 4] (fun v i wr => ∃ k : Nat, k ≤ xs.length ∧ i = .int .i64 k ∧ Hid (MadeG w wr v (xs.take k))) (fun _ i _ => xs.length - (intOf i).toNat)
  case atStart => exact ⟨0, by omega, rfl, Lib.hid ⟨World.ownsRow_nil _ _ _ _, Below.refl _ _⟩⟩
  case round =>
    obtain ⟨k, hk, rfl, hr⟩ := hrel
    by_cases hlt : k < xs.length
    · have i0 : (k : Int) < (xs.length : Int) := by omega
      obtain ⟨b, off, rfl, hbl, hc0⟩ := (SlAt.cell1 (f := fun n : Nat => Value.int .u64 n) (HX.out.below hr.out.2) (j := k) hlt)
      have hd := run_fromBits xs[k]
      have HS := Lib.hid (show xs.take (k + 1) = xs.take k ++ [xs[k]] from (List.take_append_getElem hlt).symm)
      have hl : (xs.take k).length = k := by rw [List.length_take]; omega
      obtain ⟨D, d, rfl, _, _, _⟩ := SlAt.of_own encG_len hr.out.1
      generalize xs[k] = x at hc0 hd HS ⊢
      generalize xs.take k = ns at hr hl HS ⊢
      go_wp2_with (at_builtin; refine wpList_append_sl _ encG 1 rfl (.tmp 11) (.tmp 17) 35 rfl encG_len (by omega) encG_one w.heap.size 23 ti0 _ 8 Tryd.underlying35 hi0 hz0 hz1 hz2 rfl _ ns rfl (hr.out.1.alloc _) _ 1 _ [x] rfl rfl (SlAt.one (t := 23) (heap_alloc_new wr _)) (by simp [maxLen]; omega) (by simp; omega) (by have := hr.out.2.size; simp; omega) ?_; intro v1 w1 hown hg hat; have HO := Lib.hid (show MadeG w w1 v1 (ns ++ [x]) from ⟨hown, (hr.out.2.alloc hr.out.2.size _).grown hg (by have := hr.out.2.size; simp; omega) (fun k hk => (hr.out.1.lt k hk).1)⟩); clear hown hg hat)
      go_roundw
      case rel => exact ⟨k + 1, by omega, by go_num, by rw [HS.out]; exact HO⟩
      case measure => simp [intOf]; omega
    · have i0 : ¬ (k : Int) < (xs.length : Int) := by omega
      obtain rfl : k = xs.length := by omega
      rw [List.take_length] at hr
      go_wp2_with fail
      go_ret
      exact ⟨_, rfl, hr.out⟩

set_option maxHeartbeats 1000000 in
theorem refBits13 (A : Option Addr) (xs : List Nat) (cap : Nat) (w : World) (hx : NumsG w A xs) (hm : xs.length ≤ 100000) :
    Calls Tryd.prog 24 #[.slice A xs.length cap] w fun e w' => ∃ v, e = .returned v ∧ MadeU w w' v xs := by
  obtain ⟨ti0, hi0, hz0, hz1, hz2⟩ := info_parts infoU
  have HX := Lib.hid hx
  clear hx
  go_enter Tryd.func24, Tryd.ntmps24
  go_wp2_with fail
  go_loopw [3, 4] (fun v i wr => ∃ k : Nat, k ≤ xs.length ∧ i = .int .i64 k ∧ Hid (MadeU w wr v (xs.take k))) (fun _ i _ => xs.length - (intOf i).toNat)
  case atStart => exact ⟨0, by omega, rfl, Lib.hid ⟨World.ownsRow_nil _ _ _ _, Below.refl _ _⟩⟩
  case round =>
    obtain ⟨k, hk, rfl, hr⟩ := hrel
    by_cases hlt : k < xs.length
    · have i0 : (k : Int) < (xs.length : Int) := by omega
      obtain ⟨b, off, rfl, hbl, hc0⟩ := (SlAt.cell1 (f := fun n : Nat => Value.float .f64 n) (HX.out.below hr.out.2) (j := k) hlt)
      have hd := run_toBits xs[k]
      have HS := Lib.hid (show xs.take (k + 1) = xs.take k ++ [xs[k]] from (List.take_append_getElem hlt).symm)
      have hl : (xs.take k).length = k := by rw [List.length_take]; omega
      obtain ⟨D, d, rfl, _, _, _⟩ := SlAt.of_own encU_len hr.out.1
      generalize xs[k] = x at hc0 hd HS ⊢
      generalize xs.take k = ns at hr hl HS ⊢
      go_wp2_with (at_builtin; refine wpList_append_sl _ encU 1 rfl (.tmp 11) (.tmp 17) 34 rfl encU_len (by omega) encU_one w.heap.size 22 ti0 _ 8 Tryd.underlying34 hi0 hz0 hz1 hz2 rfl _ ns rfl (hr.out.1.alloc _) _ 1 _ [x] rfl rfl (SlAt.one (t := 22) (heap_alloc_new wr _)) (by simp [maxLen]; omega) (by simp; omega) (by have := hr.out.2.size; simp; omega) ?_; intro v1 w1 hown hg hat; have HO := Lib.hid (show MadeU w w1 v1 (ns ++ [x]) from ⟨hown, (hr.out.2.alloc hr.out.2.size _).grown hg (by have := hr.out.2.size; simp; omega) (fun k hk => (hr.out.1.lt k hk).1)⟩); clear hown hg hat)
      go_roundw
      case rel => exact ⟨k + 1, by omega, by go_num, by rw [HS.out]; exact HO⟩
      case measure => simp [intOf]; omega
    · have i0 : ¬ (k : Int) < (xs.length : Int) := by omega
      obtain rfl : k = xs.length := by omega
      rw [List.take_length] at hr
      go_wp2_with fail
      go_ret
      exact ⟨_, rfl, hr.out⟩

end Go.Proofs.YtobkhoednecljaaDoor
