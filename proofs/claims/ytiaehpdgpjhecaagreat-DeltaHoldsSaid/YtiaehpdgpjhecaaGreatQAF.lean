/- Several texts in one: QtyB, QtyC, QtyD, QtyE, QtyF, QtyG, QtyH. -/
import Derived.Test.YtiaehpdgpjhecaaGreatQAE
import Derived.Deep.CutBlock
import Derived.Test.YtiaehpdgpjhecaaGreatQAB
namespace Go.Proofs.YtiaehpdgpjhecaaGreat

section
open Go.RowKit

set_option maxHeartbeats 1000000 in
theorem eqInDot (d : Nat) (r c r' c' : Int) (w : World) : (Op.equalIn (d + 2) 30 (.agg #[.int .i64 r, .int .i64 c]) (.agg #[.int .i64 r', .int .i64 c'])).run Tryz.prog w = .ok (r == r' && c == c') w := by
  have hS : Tryz.prog.underlying 30 = some (.struct (Tryz.prog.fieldsOf 30)) := by kernel_rfl
  have hp : Tryz.prog.stoodInHeld 30 = false := by kernel_rfl
  rw [run_equalIn_agg w (d + 1) 30 _ _ hS hp]
  simp only [Program.fieldsOf, Tryz.underlying30]
  go_simp
  by_cases h1 : r = r' <;> by_cases h2 : c = c' <;> simp [h1, h2]
set_option maxHeartbeats 1000000 in
theorem eqInMark (d : Nat) (a b : Mk) (w : World) : (Op.equalIn (d + 3) 55 (mkV a) (mkV b)).run Tryz.prog w = .ok (decide (a = b)) w := by
  obtain ⟨r, c, q, t⟩ := a
  obtain ⟨r', c', q', t'⟩ := b
  have hS : Tryz.prog.underlying 55 = some (.struct (Tryz.prog.fieldsOf 55)) := by kernel_rfl
  have hp : Tryz.prog.stoodInHeld 55 = false := by kernel_rfl
  have hD := fun w => eqInDot d r c r' c' w
  rw [run_equalIn_agg w (d + 2) 55 _ _ hS hp]
  simp only [Program.fieldsOf, Tryz.underlying55]
  go_simp
  have ht : ((t : Int) = (t' : Int)) = (t = t') := by rw [Int.natCast_inj]
  simp only [ht]
  by_cases h1 : r = r' <;> by_cases h2 : c = c' <;> by_cases h3 : q = q' <;> by_cases h4 : t = t' <;> simp [h1, h2, h3, h4]
/-- '==' and '!=' of two marks. -/
theorem eqlMark (a b : Mk) (w : World) : (binOp .eql 55 (mkV a) (mkV b)).run Tryz.prog w = .ok (.bool (decide (a = b))) w := by
  rw [run_eql_struct, show (10000 : Nat) = 9997 + 3 from rfl, eqInMark]; rfl
theorem neqMark (a b : Mk) (w : World) : (binOp .neq 55 (mkV a) (mkV b)).run Tryz.prog w = .ok (.bool (!decide (a = b))) w := by
  rw [run_neq_struct, show (10000 : Nat) = 9997 + 3 from rfl, eqInMark]; rfl
set_option maxHeartbeats 1000000 in
theorem qtyCompare (a b : Mk) (w : World) : Calls Tryz.prog 128 #[mkV a, mkV b] w (OneB (.int .i64 (cmpN a b)) w) := by
  obtain ⟨v, hv⟩ : ∃ v, cmpN a b = v := ⟨_, rfl⟩
  have hn := fun W => qtyNewer a b W
  have hc : v = if a = b then 0 else if newerN a b then 1 else -1 := by
    rw [← hv]
    by_cases h : a = b
    · rw [if_pos h, (cmpN_zero a b).2 h]
    · rw [if_neg h]
      cases h2 : newerN a b with
      | true => rw [(cmpN_one a b).2 h2]; rfl
      | false => 
        rcases cmpN_cases a b with k | k | k
        · rw [(cmpN_one a b).1 k] at h2; cases h2
        · rw [k]; rfl
        · exact absurd ((cmpN_zero a b).1 k) h
  rw [hv]
  generalize newerN a b = x at hn hc
  have HN := Lib.hid hn
  clear hn hv
  by_cases hab : a = b
  · rw [if_pos hab] at hc
    subst hc
    subst hab
    obtain ⟨r, c, q, t⟩ := a
    go_enter Tryz.func128, Tryz.ntmps128
    go_wp2_with fail
    go_ret
    exact ⟨rfl, ((Below.refl _ _).alloc (Nat.le_refl _) _).alloc (by simp) _⟩
  · rw [if_neg hab] at hc
    obtain ⟨r, c, q, t⟩ := a
    obtain ⟨r', c', q', t'⟩ := b
    have HC := Lib.hid hc
    clear hc
    by_cases h1 : r = r'
    · subst h1
      by_cases h2 : c = c'
      · subst h2
        by_cases h3 : q = q'
        · subst h3
          have h4 : ¬ (t : Int) = (t' : Int) := fun h => hab (by rw [Int.natCast_inj] at h; rw [h])
          clear hab
          cases x with
          | true =>
            go_enter Tryz.func128, Tryz.ntmps128
            go_wp2_with fail
            refine (HN.out _).mono ?_
            rintro e w1 ⟨rfl, hb1⟩
            have HB := Lib.hid (below_trans (((Below.refl _ w).alloc (Nat.le_refl _) _).alloc (by simp) _) hb1)
            clear hb1
            go_wp2_with fail
            go_ret
            exact ⟨by rw [HC.out]; rfl, HB.out⟩
          | false =>
            go_enter Tryz.func128, Tryz.ntmps128
            go_wp2_with fail
            refine (HN.out _).mono ?_
            rintro e w1 ⟨rfl, hb1⟩
            have HB := Lib.hid (below_trans (((Below.refl _ w).alloc (Nat.le_refl _) _).alloc (by simp) _) hb1)
            clear hb1
            go_wp2_with fail
            go_ret
            exact ⟨by rw [HC.out]; rfl, HB.out⟩
        · clear hab
          cases x with
          | true =>
            go_enter Tryz.func128, Tryz.ntmps128
            go_wp2_with fail
            refine (HN.out _).mono ?_
            rintro e w1 ⟨rfl, hb1⟩
            have HB := Lib.hid (below_trans (((Below.refl _ w).alloc (Nat.le_refl _) _).alloc (by simp) _) hb1)
            clear hb1
            go_wp2_with fail
            go_ret
            exact ⟨by rw [HC.out]; rfl, HB.out⟩
          | false =>
            go_enter Tryz.func128, Tryz.ntmps128
            go_wp2_with fail
            refine (HN.out _).mono ?_
            rintro e w1 ⟨rfl, hb1⟩
            have HB := Lib.hid (below_trans (((Below.refl _ w).alloc (Nat.le_refl _) _).alloc (by simp) _) hb1)
            clear hb1
            go_wp2_with fail
            go_ret
            exact ⟨by rw [HC.out]; rfl, HB.out⟩
      · clear hab
        cases x with
        | true =>
          go_enter Tryz.func128, Tryz.ntmps128
          go_wp2_with fail
          refine (HN.out _).mono ?_
          rintro e w1 ⟨rfl, hb1⟩
          have HB := Lib.hid (below_trans (((Below.refl _ w).alloc (Nat.le_refl _) _).alloc (by simp) _) hb1)
          clear hb1
          go_wp2_with fail
          go_ret
          exact ⟨by rw [HC.out]; rfl, HB.out⟩
        | false =>
          go_enter Tryz.func128, Tryz.ntmps128
          go_wp2_with fail
          refine (HN.out _).mono ?_
          rintro e w1 ⟨rfl, hb1⟩
          have HB := Lib.hid (below_trans (((Below.refl _ w).alloc (Nat.le_refl _) _).alloc (by simp) _) hb1)
          clear hb1
          go_wp2_with fail
          go_ret
          exact ⟨by rw [HC.out]; rfl, HB.out⟩
    · clear hab
      cases x with
      | true =>
        go_enter Tryz.func128, Tryz.ntmps128
        go_wp2_with fail
        refine (HN.out _).mono ?_
        rintro e w1 ⟨rfl, hb1⟩
        have HB := Lib.hid (below_trans (((Below.refl _ w).alloc (Nat.le_refl _) _).alloc (by simp) _) hb1)
        clear hb1
        go_wp2_with fail
        go_ret
        exact ⟨by rw [HC.out]; rfl, HB.out⟩
      | false =>
        go_enter Tryz.func128, Tryz.ntmps128
        go_wp2_with fail
        refine (HN.out _).mono ?_
        rintro e w1 ⟨rfl, hb1⟩
        have HB := Lib.hid (below_trans (((Below.refl _ w).alloc (Nat.le_refl _) _).alloc (by simp) _) hb1)
        clear hb1
        go_wp2_with fail
        go_ret
        exact ⟨by rw [HC.out]; rfl, HB.out⟩

theorem encM_len (m : Mk) : (encM m).length = 4 := rfl
theorem encM_one (m : Mk) : ∀ u ∈ encM m, u.oneCell' = true := by
  intro u hu
  simp [encM] at hu
  rcases hu with rfl | rfl | rfl | rfl <;> rfl
theorem infoM : (Tryz.prog.info? 55).map (fun i => (i.zero, i.size, i.bytes)) = some (some (.agg #[.int .i64 0, .int .i64 0, .int .i64 0, .int .u64 0]), 4, 32) := by kernel_rfl
abbrev MarksAt (w : World) (A : Option Addr) (xs : List Mk) : Prop := SlAt encM 4 w A xs
/-- A slice of marks that reads as a list. -/
def HoldsM (w : World) (v : Value) (xs : List Mk) : Prop := ∃ A c, v = .slice A xs.length c ∧ MarksAt w A xs ∧ xs.length ≤ c ∧ c ≤ maxLen
theorem HoldsM.below {w w' : World} {v : Value} {xs : List Mk} (h : HoldsM w v xs) (hb : Below w.heap.size w w') : HoldsM w' v xs := by
  obtain ⟨A, c, rfl, h1, h2, h3⟩ := h
  exact ⟨A, c, rfl, h1.below hb, h2, h3⟩
theorem HoldsM.nil (w : World) : HoldsM w (.slice none 0 0) [] := ⟨none, 0, rfl, SlAt.nil, by simp, by simp [maxLen]⟩
theorem HoldsM.at {w : World} {A : Option Addr} {n c : Nat} {xs : List Mk} (h : HoldsM w (.slice A n c) xs) : n = xs.length ∧ MarksAt w A xs ∧ xs.length ≤ maxLen := by
  obtain ⟨_, _, e, h1, h2, h3⟩ := h
  cases e
  exact ⟨rfl, h1, by omega⟩
theorem SlAt.mark {w : World} {A : Option Addr} {xs : List Mk} (h : MarksAt w A xs) {j : Nat} (hj : j < xs.length) :
    ∃ b off, ∃ m : Mk, A = some ⟨b, off, none⟩ ∧ b < w.heap.size ∧ xs[j]? = some m ∧ xs[j] = m ∧ w.cell? ⟨b, off + j * 4, none⟩ = some (.int .i64 m.r) ∧ w.cell? ⟨b, off + j * 4 + 1, none⟩ = some (.int .i64 m.c) ∧ w.cell? ⟨b, off + j * 4 + 2, none⟩ = some (.int .i64 m.q) ∧ w.cell? ⟨b, off + j * 4 + 3, none⟩ = some (.int .u64 (m.t : Int)) := by
  obtain ⟨b, off, rfl, hb, hc⟩ := h (by omega)
  have hx := List.getElem?_eq_getElem hj
  exact ⟨b, off, xs[j], rfl, hb, hx, rfl, by simpa using hc j _ hx 0 _ rfl, hc j _ hx 1 _ rfl, hc j _ hx 2 _ rfl, hc j _ hx 3 _ rfl⟩

end

section
open Go.RowKit

set_option maxHeartbeats 400000 in
theorem newest1 (m : Mk) (w : World) : Calls Tryz.prog 188 #[mkV m] w (OneB (.bool (!validM m)) w) := by
  have H := Lib.hid fun W => qtyMark m W
  go_enter Tryz.func188, Tryz.ntmps188
  go_wp2_with fail
  refine (H.out _).mono ?_
  rintro e w1 ⟨rfl, hb1⟩
  have HB := Lib.hid (below_trans ((Below.refl _ w).alloc (Nat.le_refl _) _) hb1)
  clear hb1
  go_wp2_with fail
  go_ret
  exact OneB.bool (by simp) HB.out

set_option maxHeartbeats 1000000 in
theorem indexMarks (A : Option Addr) (xs : List Mk) (cap : Nat) (w : World) (hx : MarksAt w A xs) (hm : xs.length ≤ maxLen) :
    Calls Tryz.prog 193 #[.slice A xs.length cap, .func (.func 188) #[] #[]] w fun e w' =>
      ((∃ i : Nat, e = .returned (.int .i64 i) ∧ xs.all validM = false) ∨ (e = .returned (.int .i64 (-1)) ∧ xs.all validM = true)) ∧ Below w.heap.size w w' := by
  unfold maxLen at hm
  go_enter Tryz.func193, Tryz.ntmps193
  go_wp2
  go_loopw [5, 8] (fun _ i wr => ∃ m : Nat, m ≤ xs.length ∧ i = .int .i64 m ∧ Below w.heap.size w wr ∧ Hid (∀ (j : Nat) (y : Mk), j < m → xs[j]? = some y → validM y = true)) (fun _ i _ => xs.length - (intOf i).toNat)
  case atStart => exact ⟨0, by omega, rfl, Below.refl _ _, fun j q h => by omega⟩
  case round =>
    obtain ⟨m, hk2, rfl, hb, hs⟩ := hrel
    by_cases hlt : m < xs.length
    · obtain ⟨b, off, y, rfl, hbl, hx1, _, hc0, hc1, hc2, hc3⟩ := (hx.below hb).mark (j := m) hlt
      have hr := fun W => newest1 y W
      cases hq : validM y
      · rw [hq] at hr
        have HR := Lib.hid hr
        have HV := Lib.hid (all_no hx1 hq)
        clear hr hq hx1
        go_wp2_with fail
        refine (HR.out _).mono ?_
        rintro e w1 ⟨rfl, hb1⟩
        clear hc0 hc1 hc2 hc3
        go_wp2
        go_ret
        exact ⟨.inl ⟨m, rfl, HV.out⟩, hb.trans (hb1.mono hb.size)⟩
      · rw [hq] at hr
        have HR := Lib.hid hr
        have HV := Lib.hid (step_all hs.out hx1 hq)
        clear hr hq hx1
        go_wp2_with fail
        refine (HR.out _).mono ?_
        rintro e w1 ⟨rfl, hb1⟩
        clear hc0 hc1 hc2 hc3
        go_wp2
        go_roundw
        case rel => exact ⟨m + 1, by omega, by go_num, hb.trans (hb1.mono hb.size), HV⟩
        case measure => simp [intOf]; omega
    · obtain rfl : m = xs.length := by omega
      have HV := Lib.hid (all_yes hs.out)
      go_wp2
      go_ret
      exact ⟨.inr ⟨rfl, HV.out⟩, hb⟩
set_option maxHeartbeats 400000 in
theorem containsMarks (A : Option Addr) (xs : List Mk) (cap : Nat) (w : World) (hx : MarksAt w A xs) (hm : xs.length ≤ maxLen) :
    Calls Tryz.prog 140 #[.slice A xs.length cap, .func (.func 188) #[] #[]] w (OneB (.bool (!xs.all validM)) w) := by
  have H := Lib.hid (indexMarks A xs cap w hx hm)
  go_enter Tryz.func140, Tryz.ntmps140
  go_wp2_with fail
  refine H.out.mono ?_
  rintro e w1 ⟨h, hb⟩
  have HB := Lib.hid hb
  clear hb
  rcases h with ⟨i, rfl, h⟩ | ⟨rfl, h⟩
  · have HV := Lib.hid h
    have i0 : (0 : Int) ≤ (i : Int) := by omega
    clear h
    go_wp2_with fail
    go_ret
    exact OneB.bool (by rw [HV.out]; rfl) HB.out
  · have HV := Lib.hid h
    clear h
    go_wp2_with fail
    go_ret
    exact OneB.bool (by rw [HV.out]; rfl) HB.out

end

section
open Go.RowKit

/-- A block that holds a mark. -/
def BlkM (W : World) (g : Nat) (m : Mk) : Prop := W.heap[g]? = some (.cells #[.int .i64 m.r, .int .i64 m.c, .int .i64 m.q, .int .u64 (m.t : Int)] 55 (0, 0))
/-- A mark is stored. -/
abbrev setM (W : World) (g : Nat) (m : Mk) : World := (((W.setCell ⟨g, 0, none⟩ (.int .i64 m.r)).setCell ⟨g, 1, none⟩ (.int .i64 m.c)).setCell ⟨g, 2, none⟩ (.int .i64 m.q)).setCell ⟨g, 3, none⟩ (.int .u64 (m.t : Int))
section
variable {W W' : World} {g : Nat} {m : Mk}
theorem BlkM.lt (h : BlkM W g m) : g < W.heap.size := (Array.getElem?_eq_some_iff.1 h).1
theorem BlkM.cell0 (h : BlkM W g m) : W.cell? ⟨g, 0, none⟩ = some (.int .i64 m.r) := by simp [World.cell?, show W.heap[g]? = _ from h]
theorem BlkM.cell1 (h : BlkM W g m) : W.cell? ⟨g, 1, none⟩ = some (.int .i64 m.c) := by simp [World.cell?, show W.heap[g]? = _ from h]
theorem BlkM.cell2 (h : BlkM W g m) : W.cell? ⟨g, 2, none⟩ = some (.int .i64 m.q) := by simp [World.cell?, show W.heap[g]? = _ from h]
theorem BlkM.cell3 (h : BlkM W g m) : W.cell? ⟨g, 3, none⟩ = some (.int .u64 (m.t : Int)) := by simp [World.cell?, show W.heap[g]? = _ from h]
theorem BlkM.frozen (h : BlkM W g m) (k : Nat) : W.frozen? ⟨g, k, none⟩ = false := by simp [World.frozen?, show W.heap[g]? = _ from h]
theorem BlkM.below (h : BlkM W g m) (hb : Below W.heap.size W W') : BlkM W' g m := (hb.block g h.lt).trans h
theorem BlkM.other (h : BlkM W g m) {g' : Nat} (hne : g ≠ g') (o : Nat) (z : Value) : BlkM (W.setCell ⟨g', o, none⟩ z) g m := (Below.heap_setCell W ⟨g', o, none⟩ z g hne).trans h
theorem BlkM.new (W : World) (m : Mk) : BlkM (W.alloc (.cells #[.int .i64 m.r, .int .i64 m.c, .int .i64 m.q, .int .u64 (m.t : Int)] 55)) W.heap.size m := heap_alloc_new W _
theorem block_set1 {cs : Array Value} {t : TypeId} {k : Nat} {x : Value} (h : W.heap[g]? = some (.cells cs t (0, 0))) : (W.setCell ⟨g, k, none⟩ x).heap[g]? = some (.cells (cs.setIfInBounds k x) t (0, 0)) := by
  obtain ⟨hlt, hk⟩ := Array.getElem?_eq_some_iff.1 h
  show (W.heap.modify g _)[g]? = _
  rw [Array.getElem?_eq_getElem (by rw [Array.size_modify]; exact hlt), Array.getElem_modify_self, hk]
  rfl
theorem BlkM.set (h : BlkM W g m) (m' : Mk) : BlkM (setM W g m') g m' := by
  have h4 := block_set1 (k := 3) (x := .int .u64 (m'.t : Int)) (block_set1 (k := 2) (x := .int .i64 m'.q) (block_set1 (k := 1) (x := .int .i64 m'.c) (block_set1 (k := 0) (x := .int .i64 m'.r) h)))
  have e : ((((#[.int .i64 m.r, .int .i64 m.c, .int .i64 m.q, .int .u64 (m.t : Int)] : Array Value).setIfInBounds 0 (.int .i64 m'.r)).setIfInBounds 1 (.int .i64 m'.c)).setIfInBounds 2 (.int .i64 m'.q)).setIfInBounds 3 (.int .u64 (m'.t : Int)) = #[.int .i64 m'.r, .int .i64 m'.c, .int .i64 m'.q, .int .u64 (m'.t : Int)] := by simp
  rw [e] at h4
  exact h4
theorem setM_size (W : World) (g : Nat) (m : Mk) : (setM W g m).heap.size = W.heap.size := by simp
theorem below_setM {w : World} {B : Nat} (h : Below B w W) (hg : B ≤ g) (m : Mk) : Below B w (setM W g m) :=
  (((h.setCell (p := ⟨g, 0, none⟩) hg _).setCell (p := ⟨g, 1, none⟩) hg _).setCell (p := ⟨g, 2, none⟩) hg _).setCell (p := ⟨g, 3, none⟩) hg _
end

set_option maxHeartbeats 2000000 in
theorem qtyGreatest (A : Option Addr) (xs : List Mk) (cap : Nat) (v : Mk) (f : Bool) (w : World) (hx : MarksAt w A xs) (hm : xs.length ≤ maxLen) (hf : newestF xs = (v, f)) :
    Calls Tryz.prog 189 #[.slice A xs.length cap, .func (.func 128) #[] #[]] w (OneB (.tuple #[mkV v, .bool f]) w) := by
  unfold maxLen at hm
  have HX := Lib.hid hx
  have HF := Lib.hid hf
  clear hx hf
  have hB0 := Lib.hid (BlkM.new w Mk.zero)
  have hb0 := Lib.hid ((Below.refl w.heap.size w).alloc (Nat.le_refl _) (.cells #[.int .i64 0, .int .i64 0, .int .i64 0, .int .u64 0] 55))
  go_enter Tryz.func189, Tryz.ntmps189
  go_wp2_with fail
  go_loopw [5, 7, 10] (fun s5 _ i wr => ∃ (k : Nat) (m : Mk) (b : Bool), k ≤ xs.length ∧ s5 = .bool b ∧ i = .int .i64 k ∧ Hid (newestF (xs.take k) = (m, b)) ∧ Hid (BlkM wr w.heap.size m) ∧ Hid (Below w.heap.size w wr)) (fun _ _ i _ => xs.length - (intOf i).toNat)
  case atStart => exact ⟨0, Mk.zero, false, by omega, rfl, rfl, newestF_nil, hB0, hb0⟩
  case round =>
    clear hB0 hb0
    obtain ⟨k, m, b, hk2, rfl, rfl, hs, hB, hb⟩ := hrel
    have c0 := hB.out.cell0
    have c1 := hB.out.cell1
    have c2 := hB.out.cell2
    have c3 := hB.out.cell3
    have f0 := hB.out.frozen 0
    have f1 := hB.out.frozen 1
    have f2 := hB.out.frozen 2
    have f3 := hB.out.frozen 3
    have hlw := hB.out.lt
    by_cases hlt : k < xs.length
    · obtain ⟨g, off, y, rfl, hbl, hx1, _, hc0, hc1, hc2, hc3⟩ := (HX.out.below hb.out).mark (j := k) hlt
      have i0 : (k : Int) < (xs.length : Int) := by omega
      cases b with
      | false =>
        have HF1 := Lib.hid (by have h := newestF_first hs.out y; rw [← take_step hx1] at h; exact h)
        clear hx1
        go_wp2_with fail
        go_roundw
        case rel => exact ⟨k + 1, y, true, by omega, rfl, by go_num, HF1, (hB.out.set y).below ((Below.refl _ _).alloc (Nat.le_refl _) _), (below_setM hb.out (Nat.le_refl _) y).alloc (by rw [setM_size]; exact hb.out.size) _⟩
        case measure => simp [intOf]; omega
      | true =>
        have hr := fun W => qtyCompare y m W
        obtain ⟨z, hz⟩ : ∃ z, cmpN y m = z := ⟨_, rfl⟩
        rw [hz] at hr
        have HR := Lib.hid hr
        clear hr
        by_cases hz0 : 0 < z
        · have HF1 := Lib.hid (by have h := newestF_new hs.out ((cmpN_pos y m).1 (by rw [hz]; exact hz0)); rw [← take_step hx1] at h; exact h)
          clear hx1 hz
          go_wp2_with fail
          refine (HR.out _).mono ?_
          rintro e w1 ⟨rfl, hb1⟩
          have hb2 := Lib.hid (below_trans ((Below.refl _ wr).alloc (Nat.le_refl _) _) hb1)
          have hBx := (BlkM.new wr y).below hb1
          have d0 := hBx.cell0
          have d1 := hBx.cell1
          have d2 := hBx.cell2
          have d3 := hBx.cell3
          have hB2 := Lib.hid (hB.out.below hb2.out)
          clear hb1 hBx c0 c1 c2 c3 f0 f1 f2 f3 hc0 hc1 hc2 hc3
          have f0 := hB2.out.frozen 0
          have f1 := hB2.out.frozen 1
          have f2 := hB2.out.frozen 2
          have f3 := hB2.out.frozen 3
          have c0 := hB2.out.cell0
          have c1 := hB2.out.cell1
          have c2 := hB2.out.cell2
          have c3 := hB2.out.cell3
          go_wp2_with fail
          go_roundw
          case rel => exact ⟨k + 1, y, true, by omega, rfl, by go_num, HF1, hB2.out.set y, below_setM (below_trans hb.out hb2.out) (Nat.le_refl _) y⟩
          case measure => simp [intOf]; omega
        · have HF1 := Lib.hid (by
            have h : newerN y m = false := by
              cases e : newerN y m with
              | false => rfl
              | true => exact absurd (by rw [← hz]; exact (cmpN_pos y m).2 e) hz0
            have h := newestF_old hs.out h; rw [← take_step hx1] at h; exact h)
          clear hx1 hz
          go_wp2_with fail
          refine (HR.out _).mono ?_
          rintro e w1 ⟨rfl, hb1⟩
          have hb2 := Lib.hid (below_trans ((Below.refl _ wr).alloc (Nat.le_refl _) _) hb1)
          have hB2 := Lib.hid (hB.out.below hb2.out)
          clear hb1 c0 c1 c2 c3 f0 f1 f2 f3 hc0 hc1 hc2 hc3
          go_wp2_with fail
          go_roundw
          case rel => exact ⟨k + 1, m, true, by omega, rfl, by go_num, HF1, hB2, below_trans hb.out hb2.out⟩
          case measure => simp [intOf]; omega
    · obtain rfl : k = xs.length := by omega
      rw [List.take_length, HF.out] at hs
      obtain ⟨rfl, rfl⟩ : v = m ∧ f = b := by have := hs.out; cases this; exact ⟨rfl, rfl⟩
      have i0 : ¬ (xs.length : Int) < (xs.length : Int) := by omega
      clear hlt hk2
      go_wp2_with fail
      have hs2 := hB.out.set v
      have s0 := hs2.cell0
      have s1 := hs2.cell1
      have s2 := hs2.cell2
      have s3 := hs2.cell3
      exact bodyPost_ret (v := .tuple #[mkV v, .bool f]) (by simp [results, Tryz.results189, go_sem, s0, s1, s2, s3]) rfl ⟨rfl, below_setM hb.out (Nat.le_refl _) _⟩

end

section
open Go.RowKit

set_option maxHeartbeats 2000000 in
theorem qtyNewest (A : Option Addr) (xs : List Mk) (cap : Nat) (v : Mk) (n : Nat) (w : World) (hx : MarksAt w A xs) (hm : xs.length ≤ maxLen) (hv : newV validM xs = (v, n)) :
    Calls Tryz.prog 129 #[.slice A xs.length cap] w (OneB (.tuple #[mkV v, .int .i64 (n : Int)]) w) := by
  have HC := Lib.hid fun W hW => containsMarks A xs cap W (hx.below hW) hm
  have hB0 := Lib.hid (BlkM.new w Mk.zero)
  have hb0 := Lib.hid ((Below.refl w.heap.size w).alloc (Nat.le_refl _) (.cells #[.int .i64 0, .int .i64 0, .int .i64 0, .int .u64 0] 55))
  cases ha : xs.all validM with
  | false =>
    rw [ha] at HC
    rw [newV_bad ha] at hv
    obtain ⟨rfl, rfl⟩ : Mk.zero = v ∧ 2 = n := by cases hv; exact ⟨rfl, rfl⟩
    clear hx hm ha hv
    go_enter Tryz.func129, Tryz.ntmps129
    go_wp2_with fail
    refine (HC.out _ hb0.out).mono ?_
    rintro e w1 ⟨rfl, hb1⟩
    have hB1 := Lib.hid (hB0.out.below hb1)
    have hb2 := Lib.hid (below_trans hb0.out hb1)
    clear hb1 HC hB0 hb0
    have f0 := hB1.out.frozen 0
    have f1 := hB1.out.frozen 1
    have f2 := hB1.out.frozen 2
    have f3 := hB1.out.frozen 3
    have c0 := hB1.out.cell0
    have c1 := hB1.out.cell1
    have c2 := hB1.out.cell2
    have c3 := hB1.out.cell3
    go_wp2_with fail
    obtain ⟨W', hW, hs, hbl⟩ : ∃ W', W' = setM w1 w.heap.size Mk.zero ∧ BlkM W' w.heap.size Mk.zero ∧ Below w.heap.size w W' := ⟨_, rfl, hB1.out.set Mk.zero, below_setM hb2.out (Nat.le_refl _) Mk.zero⟩
    show bodyPost _ _ _ _ _ (setM w1 w.heap.size Mk.zero)
    rw [← hW]
    have s0 := hs.cell0
    have s1 := hs.cell1
    have s2 := hs.cell2
    have s3 := hs.cell3
    exact bodyPost_ret (v := .tuple #[mkV Mk.zero, .int .i64 2]) (by simp [results, Tryz.results129, go_sem, s0, s1, s2, s3]) rfl ⟨rfl, hbl⟩
  | true =>
    rw [ha] at HC
    obtain ⟨m, f, hf⟩ : ∃ m f, newestF xs = (m, f) := ⟨_, _, rfl⟩
    have HG := Lib.hid fun W hW => qtyGreatest A xs cap m f W (hx.below hW) hm hf
    have HN := Lib.hid (show newestF xs = (m, f) ∧ newV validM xs = (v, n) ∧ xs.all validM = true from ⟨hf, hv, ha⟩)
    clear hx hm ha hv hf
    go_enter Tryz.func129, Tryz.ntmps129
    go_wp2_with fail
    refine (HC.out _ hb0.out).mono ?_
    rintro e w1 ⟨rfl, hb1⟩
    have hB1 := Lib.hid (hB0.out.below hb1)
    have hb2 := Lib.hid (below_trans hb0.out hb1)
    clear hb1 HC hB0 hb0
    go_wp2_with fail
    refine (HG.out _ hb2.out).mono ?_
    rintro e w2 ⟨rfl, hb3⟩
    have hB2 := Lib.hid (hB1.out.below hb3)
    have hb4 := Lib.hid (below_trans hb2.out hb3)
    clear hb3 HG hB1 hb2
    have hlw := hB2.out.lt
    have f0 := hB2.out.frozen 0
    have f1 := hB2.out.frozen 1
    have f2 := hB2.out.frozen 2
    have f3 := hB2.out.frozen 3
    have c0 := hB2.out.cell0
    have c1 := hB2.out.cell1
    have c2 := hB2.out.cell2
    have c3 := hB2.out.cell3
    cases f with
    | false =>
      have HE := Lib.hid (show newV validM xs = (Mk.zero, 9) from by have h := newV_none (valid := validM) HN.out.1; rw [(newestF_none.1 HN.out.1).2] at h; exact h)
      go_wp2_with fail
      obtain ⟨W', hW, hs, hbl⟩ : ∃ W', W' = (setM w2 w.heap.size Mk.zero).alloc (.cells #[.int .i64 m.r, .int .i64 m.c, .int .i64 m.q, .int .u64 (m.t : Int)] 55) ∧ BlkM W' w.heap.size Mk.zero ∧ Below w.heap.size w W' := ⟨_, rfl, (hB2.out.set Mk.zero).below ((Below.refl _ _).alloc (Nat.le_refl _) _), (below_setM hb4.out (Nat.le_refl _) Mk.zero).alloc (by rw [setM_size]; exact hb4.out.size) _⟩
      show bodyPost _ _ _ _ _ ((setM w2 w.heap.size Mk.zero).alloc _)
      rw [← hW]
      have s0 := hs.cell0
      have s1 := hs.cell1
      have s2 := hs.cell2
      have s3 := hs.cell3
      obtain ⟨rfl, rfl⟩ : Mk.zero = v ∧ 9 = n := by have h := HN.out.2.1; rw [HE.out] at h; cases h; exact ⟨rfl, rfl⟩
      exact bodyPost_ret (v := .tuple #[mkV Mk.zero, .int .i64 9]) (by simp [results, Tryz.results129, go_sem, s0, s1, s2, s3]) rfl ⟨rfl, hbl⟩
    | true =>
      have HE := Lib.hid (newV_some HN.out.2.2 HN.out.1)
      go_wp2_with fail
      obtain ⟨W', hW, hs, hbl⟩ : ∃ W', W' = (setM w2 w.heap.size m).alloc (.cells #[.int .i64 m.r, .int .i64 m.c, .int .i64 m.q, .int .u64 (m.t : Int)] 55) ∧ BlkM W' w.heap.size m ∧ Below w.heap.size w W' := ⟨_, rfl, (hB2.out.set m).below ((Below.refl _ _).alloc (Nat.le_refl _) _), (below_setM hb4.out (Nat.le_refl _) m).alloc (by rw [setM_size]; exact hb4.out.size) _⟩
      show bodyPost _ _ _ _ _ ((setM w2 w.heap.size m).alloc _)
      rw [← hW]
      have s0 := hs.cell0
      have s1 := hs.cell1
      have s2 := hs.cell2
      have s3 := hs.cell3
      obtain ⟨rfl, rfl⟩ : m = v ∧ 0 = n := by have h := HN.out.2.1; rw [HE.out] at h; cases h; exact ⟨rfl, rfl⟩
      exact bodyPost_ret (v := .tuple #[mkV m, .int .i64 0]) (by simp [results, Tryz.results129, go_sem, s0, s1, s2, s3]) rfl ⟨rfl, hbl⟩

/-- The time after some marks, by the newest one. -/
theorem nextV_cases (xs : List Mk) (t n : Nat) (h : nextV validM xs = (t, n)) :
    ∃ v k, newV validM xs = (v, k) ∧ ((k = 9 ∧ t = 1 ∧ n = 0) ∨ (k = 2 ∧ t = 0 ∧ n = 2) ∨ (k = 0 ∧ v.t = 18446744073709551615 ∧ t = 0 ∧ n = 15) ∨ (k = 0 ∧ v.t ≠ 18446744073709551615 ∧ t = v.t + 1 ∧ n = 0)) := by
  rcases newV_cases validM xs with ⟨m, hv⟩ | hv | hv
  · refine ⟨m, 0, hv, ?_⟩
    rw [nextV_of hv] at h
    split at h
    · rename_i e; cases h; exact .inr (.inr (.inl ⟨rfl, e, rfl, rfl⟩))
    · rename_i e; cases h; exact .inr (.inr (.inr ⟨rfl, e, rfl, rfl⟩))
  · refine ⟨_, 9, hv, ?_⟩
    rw [nextV_none hv] at h; cases h; exact .inl ⟨rfl, rfl, rfl⟩
  · refine ⟨_, 2, hv, ?_⟩
    rw [nextV_two hv] at h; cases h; exact .inr (.inl ⟨rfl, rfl, rfl⟩)

set_option maxHeartbeats 2000000 in
theorem qtyNext (A : Option Addr) (xs : List Mk) (cap : Nat) (t n : Nat) (w : World) (hx : MarksAt w A xs) (hm : xs.length ≤ maxLen) (ht : ∀ m ∈ xs, m.t < 18446744073709551616) (hv : nextV validM xs = (t, n)) :
    Calls Tryz.prog 163 #[.slice A xs.length cap] w (OneB (.tuple #[.int .u64 (t : Int), .int .i64 (n : Int)]) w) := by
  obtain ⟨v, k, hn, hc⟩ := nextV_cases xs t n hv
  have hlt : k = 0 → v.t < 18446744073709551616 := by
    rintro rfl
    rcases newV_cases validM xs with ⟨m, h⟩ | h | h
    · rw [hn] at h
      cases h
      unfold newV at hn
      split at hn
      · split at hn
        · cases hn
        · rename_i h2; cases hn; exact ht _ (newestN_max h2).1
      · cases hn
    · rw [hn] at h; cases h
    · rw [hn] at h; cases h
  have HN := Lib.hid (qtyNewest A xs cap v k w hx hm hn)
  clear hx hm hv hn ht
  go_enter Tryz.func163, Tryz.ntmps163
  go_wp2_with fail
  refine HN.out.mono ?_
  rintro e w1 ⟨rfl, hb1⟩
  have HB := Lib.hid (hb1.alloc hb1.size (.cells #[.int .i64 v.r, .int .i64 v.c, .int .i64 v.q, .int .u64 (v.t : Int)] 55))
  clear hb1 HN
  rcases hc with ⟨rfl, rfl, rfl⟩ | ⟨rfl, rfl, rfl⟩ | ⟨rfl, h, rfl, rfl⟩ | ⟨rfl, h, rfl, rfl⟩
  · go_wp2_with fail
    go_ret2
    exact ⟨rfl, HB.out⟩
  · go_wp2_with fail
    go_ret2
    exact ⟨rfl, HB.out⟩
  · have h0 : ((v.t : Int) == 18446744073709551615) = true := by simp; omega
    clear h hlt
    go_wp2_with fail
    go_ret2
    exact ⟨rfl, HB.out⟩
  · have h0 : ((v.t : Int) == 18446744073709551615) = false := by simp; omega
    have h1 : v.t + 1 < 18446744073709551616 := by have := hlt rfl; omega
    clear h hlt
    go_wp2_with fail
    go_ret2
    exact ⟨rfl, HB.out⟩

end

section
open Go.RowKit

end

section
open Go.RowKit

/-- A number's cell. -/
abbrev encZ (n : Int) : List Value := [.int .i64 n]
abbrev NumsAt (w : World) (A : Option Addr) (xs : List Int) : Prop := SlAt encZ 1 w A xs
/-- A slice of numbers that reads as a list. -/
def HoldsZ (w : World) (v : Value) (xs : List Int) : Prop := ∃ A c, v = .slice A xs.length c ∧ NumsAt w A xs ∧ xs.length ≤ c ∧ c ≤ maxLen
theorem HoldsZ.below {w w' : World} {v : Value} {xs : List Int} (h : HoldsZ w v xs) (hb : Below w.heap.size w w') : HoldsZ w' v xs := by
  obtain ⟨A, c, rfl, h1, h2, h3⟩ := h
  exact ⟨A, c, rfl, h1.below hb, h2, h3⟩
theorem HoldsZ.nil (w : World) : HoldsZ w (.slice none 0 0) [] := ⟨none, 0, rfl, SlAt.nil, by simp, by simp [maxLen]⟩

end

section
open Go.RowKit

/-- The dots of marks. -/
def dotsM (xs : List Mk) : List (Int × Int) := xs.map fun m => (m.r, m.c)
theorem dotsM_len (xs : List Mk) : (dotsM xs).length = xs.length := by simp [dotsM]
/-- The first k dots of marks, the other ones are zero: what lies in a made slice. -/
def dotsTo (xs : List Mk) (k : Nat) : List (Int × Int) := dotsM (xs.take k) ++ List.replicate (xs.length - k) (0, 0)
theorem dotsTo_len {xs : List Mk} {k : Nat} (hk : k ≤ xs.length) : (dotsTo xs k).length = xs.length := by
  simp [dotsTo, dotsM_len]; omega
theorem dotsTo_set {xs : List Mk} {k : Nat} {m : Mk} (hx : xs[k]? = some m) : (dotsTo xs k).set k (m.r, m.c) = dotsTo xs (k + 1) := by
  have hk := (List.getElem?_eq_some_iff.1 hx).1
  have e1 : (dotsM (xs.take k)).length = k := by rw [dotsM_len, List.length_take]; omega
  have e2 : xs.length - k = (xs.length - (k + 1)) + 1 := by omega
  unfold dotsTo
  rw [List.set_append, if_neg (by omega), e1, Nat.sub_self, e2, List.replicate_succ, List.set_cons_zero, take_step hx]
  simp [dotsM]
theorem cellsD_set2 (l : List (Int × Int)) (k : Nat) (d : Int × Int) (hk : k < l.length) : ((cellsOf encD l).set (k * 2) (.int .i64 d.1)).set (k * 2 + 1) (.int .i64 d.2) = cellsOf encD (l.set k d) := by
  induction l generalizing k with
  | nil => simp at hk
  | cons x r ih =>
    match k with
    | 0 => rfl
    | k + 1 =>
      have h := ih k (by simpa using hk)
      show ((encD x ++ cellsOf encD r).set _ _).set _ _ = encD x ++ cellsOf encD (r.set k d)
      rw [← h, List.set_append, if_neg (by simp; omega), List.set_append, if_neg (by simp; omega)]
      have a1 : (k + 1) * 2 - (encD x).length = k * 2 := by rw [encD_len]; omega
      have a2 : (k + 1) * 2 + 1 - (encD x).length = k * 2 + 1 := by rw [encD_len]; omega
      rw [a1, a2]

theorem cellsD_rep (n : Nat) : cellsOf encD (List.replicate n (0, 0)) = List.replicate (n * 2) (Value.int .i64 0) := by
  induction n with
  | zero => rfl
  | succ n ih =>
    rw [show (n + 1) * 2 = n * 2 + 1 + 1 by omega, List.replicate_succ, List.replicate_succ, List.replicate_succ, ← ih]
    rfl
theorem cellsD_made (n : Nat) : (madeCells (Value.agg #[.int .i64 0, .int .i64 0]).cells (n * 2)).toList = cellsOf encD (List.replicate n (0, 0)) := by
  rw [cellsD_rep]
  apply List.ext_getElem?
  intro j
  by_cases hj : j < n * 2
  · have h2 : j % 2 = 0 ∨ j % 2 = 1 := by omega
    rcases h2 with h | h <;> simp [madeCells, hj, Value.cells, h]
  · simp [madeCells, hj]
theorem dotsTo_zero (xs : List Mk) : dotsTo xs 0 = List.replicate xs.length (0, 0) := by simp [dotsTo, dotsM]
theorem dotsTo_all (xs : List Mk) : dotsTo xs xs.length = dotsM xs := by simp [dotsTo]
/-- Dots in a row of the call's own. -/
abbrev RowD (W : World) (g n : Nat) (xs : List (Int × Int)) : Prop := W.ownsRow g 30 2 (.slice (some ⟨g, 0, none⟩) n n) n (cellsOf encD xs)
theorem RowD.set {W : World} {g k : Nat} {xs : List Mk} {m : Mk} (h : RowD W g xs.length (dotsTo xs k)) (hx : xs[k]? = some m) :
    RowD ((W.setCell ⟨g, k * 2, none⟩ (.int .i64 m.r)).setCell ⟨g, k * 2 + 1, none⟩ (.int .i64 m.c)) g xs.length (dotsTo xs (k + 1)) ∧
      W.grownBy ((W.setCell ⟨g, k * 2, none⟩ (.int .i64 m.r)).setCell ⟨g, k * 2 + 1, none⟩ (.int .i64 m.c)) (some g) := by
  have hk := (List.getElem?_eq_some_iff.1 hx).1
  obtain ⟨a, b⟩ := h.stored (k * 2) (.int .i64 m.r)
  obtain ⟨a', b'⟩ := a.stored (k * 2 + 1) (.int .i64 m.c)
  have e := cellsD_set2 (dotsTo xs k) k (m.r, m.c) (by rw [dotsTo_len (by omega)]; exact hk)
  rw [dotsTo_set hx] at e
  refine ⟨?_, b.trans b'⟩
  show World.ownsRow _ g _ 2 _ _ (cellsOf encD (dotsTo xs (k + 1)))
  rw [← e]
  exact a'

theorem own_holds {W : World} {B : Nat} {v : Value} {ds : List (Int × Int)} (h : W.ownsRow B 30 2 v ds.length (cellsOf encD ds)) : Holds W v ds := by
  obtain ⟨A, c, rfl, h1, h2, h3⟩ := SlAt.of_own encD_len h
  exact ⟨A, c, rfl, h3, h1, h2⟩
set_option maxHeartbeats 2000000 in
theorem qtyDotsO (A : Option Addr) (xs : List Mk) (cap : Nat) (w : World) (hx : MarksAt w A xs) (hm : xs.length ≤ 100000) :
    Calls Tryz.prog 82 #[.slice A xs.length cap] w fun e w' => (∃ v, e = .returned v ∧ w'.ownsRow w.heap.size 30 2 v (dotsM xs).length (cellsOf encD (dotsM xs))) ∧ Below w.heap.size w w' := by
  obtain ⟨ti0, hi0, hz0, hz1, hz2⟩ := info_parts infoD
  have HX := Lib.hid hx
  clear hx
  go_enter Tryz.func82, Tryz.ntmps82
  go_wp2_with (refine wpList_make_full _ rfl (.tmp 7) (.tmp 7) 22 rfl w.heap.size 30 ti0 _ 2 Tryz.underlying22 hi0 hz0 hz1 .i64 .i64 _ _ xs.length rfl rfl rfl rfl (by rw [hz2]; omega) (by simp [maxLen]; omega) (Nat.le_refl _) ?_; intro w1 hown hg)
  have HO := Lib.hid (show RowD w1 w.heap.size xs.length (dotsTo xs 0) from by rw [cellsD_made, ← dotsTo_zero] at hown; exact hown)
  have HB := Lib.hid ((Below.refl w.heap.size w).grown hg (Nat.le_refl _) (fun _ h => by cases h))
  clear hown hg hi0 hz0 hz1 hz2
  go_loopw [4, 5, 11] (fun _ _ i wr => ∃ (k : Nat), k ≤ xs.length ∧ i = .int .i64 k ∧ Hid (RowD wr w.heap.size xs.length (dotsTo xs k)) ∧ Hid (Below w.heap.size w wr)) (fun _ _ i _ => xs.length - (intOf i).toNat)
  case atStart => exact ⟨0, by omega, rfl, HO, HB⟩
  case round =>
    clear HO HB
    obtain ⟨k, hk, rfl, HO, HB⟩ := hrel
    by_cases hlt : k < xs.length
    · have i0 : (k : Int) < (xs.length : Int) := by omega
      obtain ⟨g, off, y, rfl, hbl, hx1, _, hc0, hc1, hc2, hc3⟩ := (HX.out.below HB.out).mark (j := k) hlt
      have HS := Lib.hid (HO.out.set hx1)
      have d0 : ∃ u, wr.cell? ⟨w.heap.size, k * 2, none⟩ = some u := by
        rw [HO.out.cellAt (k * 2) (by omega)]
        exact ⟨_, List.getElem?_eq_getElem (by rw [cellsOf_length encD_len, dotsTo_len (by omega)]; omega)⟩
      have d1 : ∃ u, wr.cell? ⟨w.heap.size, k * 2 + 1, none⟩ = some u := by
        rw [HO.out.cellAt (k * 2 + 1) (by omega)]
        exact ⟨_, List.getElem?_eq_getElem (by rw [cellsOf_length encD_len, dotsTo_len (by omega)]; omega)⟩
      obtain ⟨u0, d0⟩ := d0
      obtain ⟨u1, d1⟩ := d1
      have f0 := HO.out.frozenAt (k * 2)
      have f1 := HO.out.frozenAt (k * 2 + 1)
      have hlw : w.heap.size < wr.heap.size := World.block_lt_of_cell? wr _ d0
      clear hx1
      go_wp2_with fail
      go_roundw
      case rel => exact ⟨k + 1, by omega, by go_num, HS.out.1.alloc _, (HB.out.grown HS.out.2 HB.out.size (fun _ h => by cases h; exact Nat.le_refl _)).alloc (by have := HB.out.size; simp; omega) _⟩
      case measure => simp [intOf]; omega
    · obtain rfl : k = xs.length := by omega
      rw [dotsTo_all] at HO
      have i0 : ¬ (xs.length : Int) < (xs.length : Int) := by omega
      clear hlt hk
      go_wp2_with fail
      go_ret
      exact ⟨⟨_, rfl, by rw [dotsM_len xs]; exact HO.out⟩, HB.out⟩
theorem qtyDots (A : Option Addr) (xs : List Mk) (cap : Nat) (w : World) (hx : MarksAt w A xs) (hm : xs.length ≤ 100000) :
    Calls Tryz.prog 82 #[.slice A xs.length cap] w fun e w' => (∃ v, e = .returned v ∧ Holds w' v (dotsM xs)) ∧ Below w.heap.size w w' :=
  (qtyDotsO A xs cap w hx hm).mono fun _ _ ⟨⟨v, h1, h2⟩, h3⟩ => ⟨⟨v, h1, own_holds h2⟩, h3⟩

end

end Go.Proofs.YtiaehpdgpjhecaaGreat
