/- Several texts in one: ItmF, ItmG, CtxA, CtxB, CtxC, VecC. -/
import Derived.Test.YtiaehpdgpjhecaaGreatQAG
import Derived.Lib.Bytealg
import Derived.Test.YtiaehpdgpjhecaaGreatQAE
import Derived.Test.YtiaehpdgpjhecaaGreatQAB
import Derived.Maps.Own
import Derived.Maps.OwnOps
import Derived.Maps.OwnSet
import Derived.Maps.RangeWalk
import Derived.Maps.Views
import Derived.OwnWalk
namespace Go.Proofs.YtiaehpdgpjhecaaGreat

section
open Go.RowKit

theorem tw_at {α : Type} {p : α → Bool} {xs : List α} {m : Nat} (h : ∀ (j : Nat) (y : α), j < m → xs[j]? = some y → p y = true) (he : ∀ y, xs[m]? = some y → p y = false) :
    xs.take m = xs.takeWhile p ∧ xs.drop m = xs.dropWhile p := by
  induction xs generalizing m with
  | nil => simp
  | cons x r ih =>
    match m with
    | 0 =>
      have := he x rfl
      simp [this]
    | m + 1 =>
      have h0 := h 0 x (by omega) rfl
      obtain ⟨h1, h2⟩ := ih (m := m) (fun j y hj hy => h (j + 1) y (by omega) (by simpa using hy)) (fun y hy => he y (by simpa using hy))
      simp [h0, h1, h2]
/-- Items with one more, at its place. -/
def insX (xs : List ItV) (x : ItV) : List ItV := xs.takeWhile (fun y => beforeN y.nm x.nm) ++ x :: xs.dropWhile (fun y => beforeN y.nm x.nm)
theorem insX_at {xs : List ItV} {x : ItV} {m : Nat} (h : ∀ (j : Nat) (y : ItV), j < m → xs[j]? = some y → beforeN y.nm x.nm = true) (he : ∀ y, xs[m]? = some y → beforeN y.nm x.nm = false) : insX xs x = xs.take m ++ x :: xs.drop m := by
  obtain ⟨h1, h2⟩ := tw_at (p := fun y : ItV => beforeN y.nm x.nm) h he
  unfold insX; rw [h1, h2]
theorem insX_mem {xs : List ItV} {x y : ItV} (h : y ∈ insX xs x) : y ∈ xs ∨ y = x := by
  unfold insX at h
  rcases List.mem_append.1 h with h | h
  · exact .inl (List.takeWhile_subset _ h)
  · rcases List.mem_cons.1 h with h | h
    · exact .inr h
    · exact .inl (List.dropWhile_subset _ h)
theorem step_true {α : Type} {p : α → Bool} {xs : List α} {k : Nat} {x : α} (h : ∀ (j : Nat) (y : α), j < k → xs[j]? = some y → p y = true) (hx : xs[k]? = some x) (he : p x = true) : ∀ (j : Nat) (y : α), j < k + 1 → xs[j]? = some y → p y = true := fun j y hj hy => by
  rcases Nat.lt_or_ge j k with h1 | h1
  · exact h j y h1 hy
  · obtain rfl : j = k := by omega
    rw [hx] at hy; cases hy; exact he

/-- What holds all along: the item in its block, the items where they lay. -/
structure KW (w : World) (x : ItV) (A : Option Addr) (xs : List ItV) (W : World) : Prop where
  blk : BlkI W w.heap.size x
  bel : Below w.heap.size w W
  xs0 : ItemsAt w A xs
  ok0 : ItOK w x
section
variable {w W W' : World} {x : ItV} {A : Option Addr} {xs : List ItV}
theorem KW.items (h : KW w x A xs W) : ItemsAt W A xs := h.xs0.below h.bel
theorem KW.ok (h : KW w x A xs W) : ItOK W x := h.ok0.below h.bel
theorem KW.next (h : KW w x A xs W) (hb : Below W.heap.size W W') : KW w x A xs W' := ⟨h.blk.below hb, below_trans h.bel hb, h.xs0, h.ok0⟩
theorem KW.alloc (h : KW w x A xs W) (o : Obj) : KW w x A xs (W.alloc o) := h.next ((Below.refl _ _).alloc (Nat.le_refl _) _)
theorem KW.drew (h : KW w x A xs W) : KW w x A xs W.drew := h.next (Below.refl _ _).drew
theorem KW.size (h : KW w x A xs W) : w.heap.size + 1 ≤ W.heap.size := h.blk.lt
theorem KW.grown (h : KW w x A xs W) {row : Option Nat} (hg : W.grownBy W' row) (hr : ∀ k, row = some k → w.heap.size + 1 ≤ k) : KW w x A xs W' := by
  have hz := h.size
  exact ⟨(hg.block _ h.blk.lt (fun e => by have := hr _ e.symm; omega)).trans h.blk, h.bel.grown hg (by omega) (fun k hk => by have := hr k hk; omega), h.xs0, h.ok0⟩
theorem KW.sp (h : KW w x A xs W) : W.cell? ⟨w.heap.size, 0, none⟩ = some (.string ⟨x.nm.toArray⟩) ∧ W.cell? ⟨w.heap.size, 1, none⟩ = some (.slice x.A x.ms.length x.c) ∧ w.heap.size < W.heap.size ∧ KW w x A xs W := ⟨h.blk.cell0, h.blk.cell1, h.blk.lt, h⟩
theorem KW.new (hx : ItemsAt w A xs) (ho : ItOK w x) : KW w x A xs (w.alloc (.cells #[.string ⟨x.nm.toArray⟩, .slice x.A x.ms.length x.c] 50)) := ⟨BlkI.new w x, (Below.refl _ w).alloc (Nat.le_refl _) _, hx, ho⟩
end

end

section
open Go.RowKit

theorem bytesLess_eq : ∀ (a b : List UInt8), Op.bytesLess a b = beforeN a b
  | [], [] => rfl
  | [], _ :: _ => rfl
  | _ :: _, [] => rfl
  | a :: r, b :: s => by
    rw [Op.bytesLess, beforeN, bytesLess_eq r s]
    by_cases h : a = b
    · subst h; simp
    · rw [if_neg h]; simp [h, UInt8.lt_iff_toNat_lt]
theorem cmpBytes_neg : ∀ (a b : List UInt8), Lib.compareBytes a b < 0 ↔ beforeN a b = true
  | [], [] => by simp [Lib.compareBytes, beforeN]
  | [], _ :: _ => by simp [Lib.compareBytes, beforeN]
  | _ :: _, [] => by simp [Lib.compareBytes, beforeN]
  | a :: r, b :: s => by
    rw [Lib.compareBytes, beforeN]
    by_cases h : a = b
    · subst h
      rw [if_neg (by simp), if_neg (by simp), if_pos rfl]
      exact cmpBytes_neg r s
    · rw [if_neg h]
      by_cases h1 : a < b
      · rw [if_pos h1]
        have := UInt8.lt_iff_toNat_lt.1 h1
        simp [this]
      · rw [if_neg h1]
        have h2 : ¬ a.toNat < b.toNat := fun k => h1 (UInt8.lt_iff_toNat_lt.2 k)
        split <;> simp [h2]
        have h3 : ¬ b.toNat < a.toNat := fun k => (by assumption : ¬ b < a) (UInt8.lt_iff_toNat_lt.2 k)
        exact absurd (UInt8.toNat_inj.1 (by omega)) h

set_option maxRecDepth 100000 in
theorem cmpString (a b : List UInt8) (w : World) : Calls Tryz.prog 147 #[.string ⟨a.toArray⟩, .string ⟨b.toArray⟩] w (One (.int .i64 (Lib.compareBytes a b)) w) := by
  go_enter Tryz.func147, Tryz.ntmps147
  go_wp2
  rw [run_callFunc_extern Tryz.func196 (by kernel_rfl) (by kernel_rfl) (by kernel_rfl) (e := Extern.BytealgCompare.compare) (by kernel_rfl), Lib.run_compareString]
  simp only [Result.andThen]
  rw [Oper.upon_value]
  go_wp2
  go_ret
  exact ⟨rfl, rfl⟩
theorem strCompare (a b : List UInt8) (w : World) : Calls Tryz.prog 85 #[.string ⟨a.toArray⟩, .string ⟨b.toArray⟩] w (One (.int .i64 (Lib.compareBytes a b)) w) := by
  have H := Lib.hid (cmpString a b w)
  generalize Lib.compareBytes a b = z at *
  go_enter Tryz.func85, Tryz.ntmps85
  go_wp2_with fail
  refine H.out.mono ?_
  rintro e w1 ⟨rfl, rfl⟩
  go_wp2_with fail
  go_ret
  exact ⟨rfl, rfl⟩

set_option maxHeartbeats 2000000 in
theorem equalMarks (A B : Option Addr) (xs ys : List Mk) (cap cap' : Nat) (w : World) (hx : MarksAt w A xs) (hy : MarksAt w B ys) (hm : xs.length ≤ maxLen) (_ : ys.length ≤ maxLen) :
    Calls Tryz.prog 90 #[.slice A xs.length cap, .slice B ys.length cap'] w (OneB (.bool (decide (xs = ys))) w) := by
  unfold maxLen at hm
  by_cases hl : xs.length = ys.length
  · have hl' : ((xs.length : Int) != (ys.length : Int)) = false := neF (by omega)
    have HL := Lib.hid hl
    clear hl
    go_enter Tryz.func90, Tryz.ntmps90
    go_wp2_with fail
    go_loopw [5, 13] (fun _ i wr => ∃ m : Nat, m ≤ xs.length ∧ i = .int .i64 m ∧ Below w.heap.size w wr ∧ Hid (∀ j, j < m → xs[j]? = ys[j]?)) (fun _ i _ => xs.length - (intOf i).toNat)
    case atStart => exact ⟨0, by omega, rfl, Below.refl _ _, fun j h => by omega⟩
    case round =>
      obtain ⟨m, hk2, rfl, hb, hs⟩ := hrel
      by_cases hlt : m < xs.length
      · have i0 : (m : Int) < (xs.length : Int) := by omega
        have i1 : (m : Int) < (ys.length : Int) := by have := HL.out; omega
        obtain ⟨g, off, x, rfl, hbl, hx1, _, hc0, hc1, hc2, hc3⟩ := (SlAt.below hx hb).mark (j := m) hlt
        obtain ⟨g', off', x', rfl, hbl', hx2, _, hd0, hd1, hd2, hd3⟩ := (SlAt.below hy hb).mark (j := m) (by have := HL.out; omega)
        have l0 := fun p => cell_far (p := p) hbl hc0
        have l1 := fun p => cell_far (p := p) hbl hc1
        have l2 := fun p => cell_far (p := p) hbl hc2
        have l3 := fun p => cell_far (p := p) hbl hc3
        have m0 := fun p => cell_far (p := p) hbl' hd0
        have m1 := fun p => cell_far (p := p) hbl' hd1
        have m2 := fun p => cell_far (p := p) hbl' hd2
        have m3 := fun p => cell_far (p := p) hbl' hd3
        clear hc0 hc1 hc2 hc3 hd0 hd1 hd2 hd3
        have hne := fun w => neqMark x x' w
        by_cases he : x = x'
        · have HE := Lib.hid (same_to hs.out hx1 (by rw [hx2, he]))
          rw [decide_eq_true he] at hne
          obtain ⟨r, c, q, t⟩ := x
          obtain ⟨r', c', q', t'⟩ := x'
          simp only [mkV, Bool.not_true] at hne
          clear hx1 hx2 he
          go_wp2_with fail
          refine wp_region_far (by kernel_rfl) (by kernel_rfl) ?_
          repeat (go_big_quiet_step ((fail)))
          refine wpQuiet_nil ?_
          rintro _ ⟨p, rfl⟩
          go_wp2_with fail
          go_roundw
          case rel => exact ⟨m + 1, by omega, by go_num, hb.trans ((below_far wr p).mono hb.size), HE⟩
          case measure => simp [intOf]; omega
        · have HN := Lib.hid (show false = decide (xs = ys) from (decide_eq_false (ne_at hx1 hx2 he)).symm)
          rw [decide_eq_false he] at hne
          obtain ⟨r, c, q, t⟩ := x
          obtain ⟨r', c', q', t'⟩ := x'
          simp only [mkV, Bool.not_false] at hne
          clear hx1 hx2 he
          go_wp2_with fail
          refine wp_region_far (by kernel_rfl) (by kernel_rfl) ?_
          repeat (go_big_quiet_step ((fail)))
          refine wpQuiet_nil ?_
          rintro _ ⟨p, rfl⟩
          go_wp2_with fail
          go_ret
          exact OneB.bool HN.out (hb.trans ((below_far wr p).mono hb.size))
      · obtain rfl : m = xs.length := by omega
        have i0 : ¬ (xs.length : Int) < (xs.length : Int) := by omega
        have HN := Lib.hid (show true = decide (xs = ys) from (decide_eq_true (same_all HL.out hs.out)).symm)
        clear hlt hk2
        go_wp2_with fail
        go_ret
        exact OneB.bool HN.out hb
  · have hl' : ((xs.length : Int) != (ys.length : Int)) = true := neT (by omega)
    have HN := Lib.hid (show false = decide (xs = ys) from (decide_eq_false (fun e => hl (by rw [e]))).symm)
    clear hl
    go_enter Tryz.func90, Tryz.ntmps90
    go_wp2_with fail
    go_ret
    exact OneB.bool HN.out (Below.refl _ _)

set_option maxHeartbeats 1000000 in
theorem equal1 (x y : ItV) (q : Bool) (w : World) (hx : ItOK w x) (hy : ItOK w y) (hq : decide (x.it = y.it) = q) :
    Calls Tryz.prog 89 #[mkIt x, mkIt y] w (OneB (.bool q) w) := by
  have h1 : Below w.heap.size w ((w.alloc (.cells #[.string ⟨x.nm.toArray⟩, .slice x.A x.ms.length x.c] 50)).alloc (.cells #[.string ⟨y.nm.toArray⟩, .slice y.A y.ms.length y.c] 50)) := ((Below.refl _ w).alloc (Nat.le_refl _) _).alloc (by simp) _
  have HB := Lib.hid h1
  have HE := Lib.hid fun W (h : Below w.heap.size w W) => equalMarks x.A y.A x.ms y.ms x.c y.c W (SlAt.below hx.1 h) (SlAt.below hy.1 h) hx.len hy.len
  clear h1 hx hy
  by_cases hn : x.nm = y.nm
  · have hnb : (x.nm == y.nm) = true := by simp [hn]
    have HQ := Lib.hid (show decide (x.ms = y.ms) = q from by rw [← hq]; simp [ItV.it, hn])
    clear hq hn
    go_enter Tryz.func89, Tryz.ntmps89
    go_wp2_with fail
    refine (HE.out _ HB.out).mono ?_
    rintro e w1 ⟨rfl, hb⟩
    have HB2 := Lib.hid (below_trans HB.out hb)
    clear hb
    go_wp2_with fail
    go_ret
    exact OneB.bool HQ.out HB2.out
  · have hnb : (x.nm == y.nm) = false := by simp [hn]
    have HQ := Lib.hid (show false = q from by rw [← hq]; simp [ItV.it, hn])
    clear hq hn
    go_enter Tryz.func89, Tryz.ntmps89
    go_wp2_with fail
    go_ret
    exact OneB.bool HQ.out HB.out

set_option maxHeartbeats 2000000 in
theorem equalFunc (A B : Option Addr) (xs ys : List ItV) (cap cap' : Nat) (w : World) (hx : ItemsAt w A xs) (hy : ItemsAt w B ys) (hm : xs.length ≤ 100000) (_ : ys.length ≤ 100000) :
    Calls Tryz.prog 88 #[.slice A xs.length cap, .slice B ys.length cap', .func (.func 89) #[] #[]] w (OneB (.bool (decide (its xs = its ys))) w) := by
  have HX := Lib.hid hx
  have HY := Lib.hid hy
  clear hx hy
  by_cases hl : xs.length = ys.length
  · have hl' : ((xs.length : Int) != (ys.length : Int)) = false := neF (by omega)
    have HL := Lib.hid hl
    clear hl
    go_enter Tryz.func88, Tryz.ntmps88
    go_wp2_with fail
    go_loopw [7, 8, 9, 17] (fun _ _ _ i wr => ∃ m : Nat, m ≤ xs.length ∧ i = .int .i64 m ∧ Below w.heap.size w wr ∧ Hid (∀ j, j < m → (its xs)[j]? = (its ys)[j]?)) (fun _ _ _ i _ => xs.length - (intOf i).toNat)
    case atStart => exact ⟨0, by omega, rfl, Below.refl _ _, fun j h => by omega⟩
    case round =>
      obtain ⟨m, hk2, rfl, hb, hs⟩ := hrel
      by_cases hlt : m < xs.length
      · have i0 : (m : Int) < (xs.length : Int) := by omega
        have i1 : (m : Int) < (ys.length : Int) := by have := HL.out; omega
        obtain ⟨g, off, x, rfl, hbl, hx1, _, hc0, hc1, hok⟩ := (HX.out.below hb).cells (j := m) hlt
        obtain ⟨g', off', y, rfl, hbl', hx2, _, hd0, hd1, hok'⟩ := (HY.out.below hb).cells (j := m) (by have := HL.out; omega)
        have hba : Below wr.heap.size wr ((wr.alloc (.cells #[.string ⟨x.nm.toArray⟩, .slice x.A x.ms.length x.c] 50)).alloc (.cells #[.string ⟨y.nm.toArray⟩, .slice y.A y.ms.length y.c] 50)) := ((Below.refl _ wr).alloc (Nat.le_refl _) _).alloc (by simp) _
        have HBA := Lib.hid hba
        obtain ⟨q, hq⟩ : ∃ q, decide (x.it = y.it) = q := ⟨_, rfl⟩
        have HE := Lib.hid (equal1 x y q _ (hok.below hba) (hok'.below hba) hq)
        clear hba hok hok'
        cases q with
        | true =>
          have HS := Lib.hid (same_to (x := x.it) hs.out (its_at hx1) (by rw [its_at hx2, of_decide_eq_true hq]))
          clear hx1 hx2 hq
          go_wp2_with fail
          refine HE.out.mono ?_
          rintro e w1 ⟨rfl, hb1⟩
          have HB := Lib.hid (hb.trans ((below_trans HBA.out hb1).mono hb.size))
          clear hb1 hc0 hc1 hd0 hd1
          go_wp2_with fail
          go_roundw
          case rel => exact ⟨m + 1, by omega, by go_num, HB.out, HS⟩
          case measure => simp [intOf]; omega
        | false =>
          have HN := Lib.hid (show false = decide (its xs = its ys) from (decide_eq_false (ne_at (its_at hx1) (its_at hx2) fun e => of_decide_eq_false hq e)).symm)
          clear hx1 hx2 hq
          go_wp2_with fail
          refine HE.out.mono ?_
          rintro e w1 ⟨rfl, hb1⟩
          have HB := Lib.hid (hb.trans ((below_trans HBA.out hb1).mono hb.size))
          clear hb1 hc0 hc1 hd0 hd1
          go_wp2_with fail
          go_ret
          exact OneB.bool HN.out HB.out
      · obtain rfl : m = xs.length := by omega
        have i0 : ¬ (xs.length : Int) < (xs.length : Int) := by omega
        have HN := Lib.hid (show true = decide (its xs = its ys) from (decide_eq_true (same_all (by rw [its_len, its_len]; exact HL.out) (by rw [its_len]; exact hs.out))).symm)
        clear hlt hk2
        go_wp2_with fail
        go_ret
        exact OneB.bool HN.out hb
  · have hl' : ((xs.length : Int) != (ys.length : Int)) = true := neT (by omega)
    have HN := Lib.hid (show false = decide (its xs = its ys) from (decide_eq_false (fun e => hl (by rw [← its_len xs, e, its_len]))).symm)
    clear hl
    go_enter Tryz.func88, Tryz.ntmps88
    go_wp2_with fail
    go_ret
    exact OneB.bool HN.out (Below.refl _ _)
set_option maxHeartbeats 400000 in
theorem itemsEqual (A B : Option Addr) (xs ys : List ItV) (cap cap' : Nat) (w : World) (hx : ItemsAt w A xs) (hy : ItemsAt w B ys) (hm : xs.length ≤ 100000) (hm' : ys.length ≤ 100000) :
    Calls Tryz.prog 40 #[.slice A xs.length cap, .slice B ys.length cap'] w (OneB (.bool (decide (its xs = its ys))) w) := by
  have H := Lib.hid (equalFunc A B xs ys cap cap' w hx hy hm hm')
  generalize decide (its xs = its ys) = q at *
  go_enter Tryz.func40, Tryz.ntmps40
  go_wp2_with fail
  refine H.out.mono ?_
  rintro e w1 ⟨rfl, hb⟩
  have HB := Lib.hid hb
  clear hb
  go_wp2_with fail
  go_ret
  exact OneB.bool rfl HB.out

set_option maxHeartbeats 400000 in
theorem valid1 (m : Mk) (w : World) : Calls Tryz.prog 141 #[mkV m] w (OneB (.bool (!validM m)) w) := by
  have H := Lib.hid fun W => qtyMark m W
  go_enter Tryz.func141, Tryz.ntmps141
  go_wp2_with fail
  refine (H.out _).mono ?_
  rintro e w1 ⟨rfl, hb1⟩
  have HB := Lib.hid (below_trans ((Below.refl _ w).alloc (Nat.le_refl _) _) hb1)
  clear hb1
  go_wp2_with fail
  go_ret
  exact OneB.bool (by simp) HB.out

set_option maxHeartbeats 1000000 in
theorem indexMarksV (A : Option Addr) (xs : List Mk) (cap : Nat) (w : World) (hx : MarksAt w A xs) (hm : xs.length ≤ maxLen) :
    Calls Tryz.prog 193 #[.slice A xs.length cap, .func (.func 141) #[] #[]] w fun e w' =>
      ((∃ i : Nat, e = .returned (.int .i64 i) ∧ xs.all validM = false) ∨ (e = .returned (.int .i64 (-1)) ∧ xs.all validM = true)) ∧ Below w.heap.size w w' := by
  unfold maxLen at hm
  go_enter Tryz.func193, Tryz.ntmps193
  go_wp2
  go_loopw [5, 8] (fun _ i wr => ∃ m : Nat, m ≤ xs.length ∧ i = .int .i64 m ∧ Below w.heap.size w wr ∧ Hid (∀ (j : Nat) (y : Mk), j < m → xs[j]? = some y → validM y = true)) (fun _ i _ => xs.length - (intOf i).toNat)
  case atStart => exact ⟨0, by omega, rfl, Below.refl _ _, fun j q h => by omega⟩
  case round =>
    obtain ⟨m, hk2, rfl, hb, hs⟩ := hrel
    by_cases hlt : m < xs.length
    · obtain ⟨b, off, y, rfl, hbl, hx1, _, hc0, hc1, hc2, hc3⟩ := (hx.below hb).mark (j := m) hlt
      have hr := fun W => valid1 y W
      cases hq : validM y
      · rw [hq] at hr
        have HR := Lib.hid hr
        have HV := Lib.hid (all_no hx1 hq)
        clear hr hq hx1
        go_wp2_with fail
        refine (HR.out _).mono ?_
        rintro e w1 ⟨rfl, hb1⟩
        clear hc0 hc1 hc2 hc3
        go_wp2
        go_ret
        exact ⟨.inl ⟨m, rfl, HV.out⟩, hb.trans (hb1.mono hb.size)⟩
      · rw [hq] at hr
        have HR := Lib.hid hr
        have HV := Lib.hid (step_all hs.out hx1 hq)
        clear hr hq hx1
        go_wp2_with fail
        refine (HR.out _).mono ?_
        rintro e w1 ⟨rfl, hb1⟩
        clear hc0 hc1 hc2 hc3
        go_wp2
        go_roundw
        case rel => exact ⟨m + 1, by omega, by go_num, hb.trans (hb1.mono hb.size), HV⟩
        case measure => simp [intOf]; omega
    · obtain rfl : m = xs.length := by omega
      have HV := Lib.hid (all_yes hs.out)
      go_wp2
      go_ret
      exact ⟨.inr ⟨rfl, HV.out⟩, hb⟩
set_option maxHeartbeats 400000 in
theorem containsMarksV (A : Option Addr) (xs : List Mk) (cap : Nat) (w : World) (hx : MarksAt w A xs) (hm : xs.length ≤ maxLen) :
    Calls Tryz.prog 140 #[.slice A xs.length cap, .func (.func 141) #[] #[]] w (OneB (.bool (!xs.all validM)) w) := by
  have H := Lib.hid (indexMarksV A xs cap w hx hm)
  go_enter Tryz.func140, Tryz.ntmps140
  go_wp2_with fail
  refine H.out.mono ?_
  rintro e w1 ⟨h, hb⟩
  have HB := Lib.hid hb
  clear hb
  rcases h with ⟨i, rfl, h⟩ | ⟨rfl, h⟩
  · have HV := Lib.hid h
    have i0 : (0 : Int) ≤ (i : Int) := by omega
    clear h
    go_wp2_with fail
    go_ret
    exact OneB.bool (by rw [HV.out]; rfl) HB.out
  · have HV := Lib.hid h
    clear h
    go_wp2_with fail
    go_ret
    exact OneB.bool (by rw [HV.out]; rfl) HB.out

end

section
open Go.RowKit

/-- What holds all along: some cells, the heap as it lay, some lists of dots. -/
def KX (w0 : World) (C : List (Addr × Value)) (L : List (Value × List (Int × Int))) (W : World) : Prop :=
  (∀ p ∈ C, W.cell? p.1 = some p.2 ∧ p.1.block < W.heap.size) ∧ Below w0.heap.size w0 W ∧ ∀ p ∈ L, Holds W p.1 p.2
section
variable {w0 : World} {C : List (Addr × Value)} {L : List (Value × List (Int × Int))} {W W' : World}
theorem KX.below (h : KX w0 C L W) (hb : Below W.heap.size W W') : KX w0 C L W' :=
  ⟨fun p hp => ⟨(hb.cell (h.1 p hp).2).trans (h.1 p hp).1, Nat.lt_of_lt_of_le (h.1 p hp).2 hb.size⟩, below_trans h.2.1 hb, fun p hp => (h.2.2 p hp).below hb⟩
theorem KX.alloc (h : KX w0 C L W) (o : Obj) : KX w0 C L (W.alloc o) := h.below ((Below.refl _ W).alloc (Nat.le_refl _) o)
theorem KX.drew (h : KX w0 C L W) : KX w0 C L W.drew := h.below (Below.refl _ W).drew
theorem KX.far (h : KX w0 C L W) (p : FarBy) : KX w0 C L (Go.Proofs.YtiaehpdgpjhecaaGreat.far W p) := h.below (below_far W p)
theorem KX.bel (h : KX w0 C L W) : Below w0.heap.size w0 W := h.2.1
theorem KX.cell {a : Addr} {v : Value} (h : KX w0 C L W) (hm : (a, v) ∈ C) : W.cell? a = some v := (h.1 _ hm).1
theorem KX.lt {a : Addr} {v : Value} (h : KX w0 C L W) (hm : (a, v) ∈ C) : a.block < W.heap.size := (h.1 _ hm).2
theorem KX.h {v : Value} {xs : List (Int × Int)} (h : KX w0 C L W) (hm : (v, xs) ∈ L) : Holds W v xs := h.2.2 _ hm
theorem KX.push {v : Value} {xs : List (Int × Int)} (h : KX w0 C L W) (hv : Holds W v xs) : KX w0 C ((v, xs) :: L) W :=
  ⟨h.1, h.2.1, fun p hp => by
    rcases List.mem_cons.1 hp with rfl | hp
    · exact hv
    · exact h.2.2 p hp⟩
theorem KX.nil (W : World) : KX W [] [] W := ⟨(fun p hp => by cases hp), Below.refl _ _, (fun p hp => by cases hp)⟩
/-- A block of two cells is laid. -/
theorem KX.box (h : KX w0 C L W) (x y : Value) (t : TypeId) : KX w0 ((⟨W.heap.size, 0, none⟩, x) :: (⟨W.heap.size, 1, none⟩, y) :: C) L (W.alloc (.cells #[x, y] t)) := by
  have h2 := h.alloc (.cells #[x, y] t)
  refine ⟨fun p hp => ?_, h2.2.1, h2.2.2⟩
  rcases List.mem_cons.1 hp with rfl | hp
  · exact ⟨by go_simp, by simp⟩
  · rcases List.mem_cons.1 hp with rfl | hp
    · exact ⟨by go_simp, by simp⟩
    · exact h2.1 p hp
end

theorem same_h3 (v v' : Value) (xs ys : List (Int × Int)) (b : Bool) (w : World) (h : Holds w v xs) (h' : Holds w v' ys) (hb : decide (xs = ys) = b) :
    Calls Tryz.prog 91 #[v, v'] w fun e w' => e = .returned (.bool b) ∧ Below w.heap.size w w' := by
  obtain ⟨A, c, rfl, h1, h2, h3⟩ := h
  obtain ⟨A', c', rfl, h1', h2', h3'⟩ := h'
  subst hb
  exact refSame A A' xs ys c c' w h1 h1' (Nat.le_trans h2 h3) (Nat.le_trans h2' h3')

/-- A context that is handed in. -/
def HoldsC (W : World) (v : Value) (vs ls : List (Int × Int)) : Prop := ∃ A n B m, v = .agg #[.slice A vs.length n, .slice B ls.length m] ∧ Holds W (.slice A vs.length n) vs ∧ Holds W (.slice B ls.length m) ls
theorem HoldsC.below {W W' : World} {v : Value} {vs ls : List (Int × Int)} (h : HoldsC W v vs ls) (hb : Below W.heap.size W W') : HoldsC W' v vs ls := by
  obtain ⟨A, n, B, m, rfl, h1, h2⟩ := h
  exact ⟨A, n, B, m, rfl, h1.below hb, h2.below hb⟩
theorem HoldsC.mk {W : World} {x y : Value} {vs ls : List (Int × Int)} (h : Holds W x vs) (h' : Holds W y ls) : HoldsC W (.agg #[x, y]) vs ls := by
  have h0 := h
  have h0' := h'
  obtain ⟨A, n, rfl, _⟩ := h
  obtain ⟨B, m, rfl, _⟩ := h'
  exact ⟨A, n, B, m, rfl, h0, h0'⟩

set_option maxHeartbeats 1000000 in
theorem ref3Equal (v v' : Value) (vs ls vs' ls' : List (Int × Int)) (b : Bool) (w : World) (h : HoldsC w v vs ls) (h' : HoldsC w v' vs' ls') (hb : (decide (vs = vs') && decide (ls = ls')) = b) :
    Calls Tryz.prog 41 #[v, v'] w fun e w' => e = .returned (.bool b) ∧ Below w.heap.size w w' := by
  obtain ⟨A, n, B, m, rfl, h1, h2⟩ := h
  obtain ⟨A', n', B', m', rfl, h1', h2'⟩ := h'
  have K := ((((((KX.nil w).push h1).push h2).push h1').push h2').box (.slice A vs.length n) (.slice B ls.length m) 25).box (.slice A' vs'.length n') (.slice B' ls'.length m') 25
  rw [World.size_alloc] at K
  have K := Lib.hid K
  clear h1 h2 h1' h2'
  cases hv : decide (vs = vs') with
  | false =>
    rw [hv] at hb
    have HB := Lib.hid (show false = b from hb)
    have HV := Lib.hid fun v v' W (h : Holds W v vs) (h' : Holds W v' vs') => same_h3 v v' vs vs' false W h h' hv
    clear hb hv
    go_enter Tryz.func41, Tryz.ntmps41
    go_wp2_with fail
    refine (HV.out _ _ _ (K.out.h (by simp)) (K.out.h (by simp))).mono ?_
    rintro e w1 ⟨rfl, hb1⟩
    have K1 := Lib.hid (K.out.below hb1)
    clear hb1
    go_wp2
    go_ret
    exact ⟨ret_bool HB.out, K1.out.bel⟩
  | true =>
    have HV := Lib.hid fun v v' W (h : Holds W v vs) (h' : Holds W v' vs') => same_h3 v v' vs vs' true W h h' hv
    rw [hv, Bool.true_and] at hb
    have HS := Lib.hid fun v v' W (h : Holds W v ls) (h' : Holds W v' ls') => same_h3 v v' ls ls' b W h h' hb
    clear hb hv
    go_enter Tryz.func41, Tryz.ntmps41
    go_wp2_with fail
    refine (HV.out _ _ _ (K.out.h (by simp)) (K.out.h (by simp))).mono ?_
    rintro e w1 ⟨rfl, hb1⟩
    have K1 := Lib.hid (K.out.below hb1)
    have k2 := K1.out.cell (a := ⟨w.heap.size, 1, none⟩) (v := .slice B ls.length m) (by simp)
    have k3 := K1.out.cell (a := ⟨w.heap.size + 1, 1, none⟩) (v := .slice B' ls'.length m') (by simp)
    clear hb1
    go_wp2_with fail
    refine (HS.out _ _ _ (K1.out.h (by simp)) (K1.out.h (by simp))).mono ?_
    rintro e w2 ⟨rfl, hb1⟩
    have K2 := Lib.hid (K1.out.below hb1)
    clear hb1 k2 k3
    go_wp2
    go_ret
    exact ⟨rfl, K2.out.bel⟩

end

section
open Go.RowKit

theorem getV_top {v : List (Int × Int)} (h : validV v = true) (r : Int) : 0 ≤ getV v r ∧ getV v r ≤ 4294967295 := by
  have h0 := getV_nonneg ((validV_iff v).1 h).1 r
  by_cases e : getV v r = 0
  · omega
  · have hd := ((validV_iff v).1 h).1 _ (getV_of_pos e)
    simp [validD] at hd
    omega
end

section
open Go.RowKit

end

section
open Go.RowKit Go.Maps Go.Sort

theorem law3 : Keyed Tryz.prog 3 := int_keyed Tryz.underlying3
theorem zero3 (w : World) : (zeroValue 3).run Tryz.prog w = .ok (.int .i64 0) w := by kernel_rfl
abbrev mapT : TypeId := 133

/-- A map reads as the greatest counters of a list of dots. -/
def MapIs (D : DataW Unit) (l : List (Int × Int)) : Prop :=
  (∀ r, D.atKey (.int .i64 r) (.lit (.int .i64 0)) = .lit (.int .i64 (maxC l r 0))) ∧ ∀ r, Maps.has D (.int .i64 r) = l.any fun p => p.1 == r
theorem MapIs.start : MapIs (.map []) [] := ⟨fun _ => rfl, fun _ => rfl⟩
theorem MapIs.val {D : DataW Unit} {l : List (Int × Int)} (h : MapIs D l) {r c : Int} (hat : D.atKey (.int .i64 r) (.lit (.int .i64 0)) = .lit (.int .i64 c)) : c = maxC l r 0 := by
  rw [h.1] at hat
  injection hat with hat
  injection hat with _ hat
  exact hat.symm
theorem lit_ne {r r' : Int} (h : ¬ r = r') : (Lit.int .i64 r) ≠ .int .i64 r' := fun e => by injection e with _ e; exact h e
theorem MapIs.step {D : DataW Unit} {l : List (Int × Int)} (hD : IsMap D) (h : MapIs D l) (d : Int × Int) : MapIs (D.put (.int .i64 d.1) (.lit (.int .i64 (max (maxC l d.1 0) d.2)))) (l ++ [d]) := by
  constructor
  · intro r
    rw [maxC_snoc]
    by_cases e : d.1 = r
    · subst e
      rw [atKey_put_same hD (show WideAt.IsKeyLit (.int .i64 d.1) from trivial), if_pos rfl]
    · rw [if_neg e, atKey_put_other (lit_ne (Ne.symm e)), h.1]
  · intro r
    rw [List.any_append]
    by_cases e : d.1 = r
    · subst e
      rw [has_put_same hD (show WideAt.IsKeyLit (.int .i64 d.1) from trivial)]; simp
    · rw [has_put_other (lit_ne (Ne.symm e)), h.2]; simp [e]

theorem maxC_range : ∀ {l : List (Int × Int)} (r n : Int), (∀ p ∈ l, validD p.1 p.2 = true) → 0 ≤ n → n ≤ 4294967295 → 0 ≤ maxC l r n ∧ maxC l r n ≤ 4294967295
  | [], r, n, _, h0, h1 => ⟨h0, h1⟩
  | d :: l, r, n, hv, h0, h1 => by
    rw [maxC]
    have hd := hv d (by simp)
    simp [validD] at hd
    exact maxC_range r _ (fun p hp => hv p (by simp [hp])) (by split <;> omega) (by split <;> omega)

/-- Slices in a row that read as lists. -/
def ListsAt (w : World) (b : Nat) (vs : List Value) (ls : List (List (Int × Int))) : Prop :=
  b < w.heap.size ∧ vs.length = ls.length ∧ ∀ j v, vs[j]? = some v → w.cell? ⟨b, j, none⟩ = some v ∧ ∃ l, ls[j]? = some l ∧ Holds w v l
theorem ListsAt.below {w w' : World} {b : Nat} {vs : List Value} {ls : List (List (Int × Int))} (h : ListsAt w b vs ls) (hb : Below w.heap.size w w') : ListsAt w' b vs ls :=
  ⟨Nat.lt_of_lt_of_le h.1 hb.size, h.2.1, fun j v hj => ⟨(hb.cell (p := ⟨b, j, none⟩) h.1).trans (h.2.2 j v hj).1, by
    obtain ⟨l, h1, h2⟩ := (h.2.2 j v hj).2
    exact ⟨l, h1, h2.below hb⟩⟩⟩
theorem ListsAt.get {w : World} {b : Nat} {vs : List Value} {ls : List (List (Int × Int))} (h : ListsAt w b vs ls) {j : Nat} (hj : j < vs.length) :
    ∃ A c l, w.cell? ⟨b, j, none⟩ = some (.slice A (l : List (Int × Int)).length c) ∧ ls[j]? = some l ∧ DotsAt w A l ∧ l.length ≤ maxLen := by
  obtain ⟨h1, l, h2, A, c, e, h3, h4, h5⟩ := h.2.2 j _ (List.getElem?_eq_getElem hj)
  exact ⟨A, c, l, by rw [h1, e], h2, h3, Nat.le_trans h4 h5⟩
theorem flat_snoc {ls : List (List (Int × Int))} {m : Nat} {l : List (Int × Int)} (h : ls[m]? = some l) : (ls.take (m + 1)).flatten = (ls.take m).flatten ++ l := by
  rw [take_snoc h]; simp
theorem flat_len (ls : List (List (Int × Int))) (m : Nat) : (ls.take m).flatten.length ≤ ls.flatten.length := by
  have := congrArg List.length (congrArg List.flatten (List.take_append_drop m ls))
  simp only [List.flatten_append, List.length_append] at this
  omega
theorem flat_len2 {ls : List (List (Int × Int))} {m : Nat} {l : List (Int × Int)} (h : ls[m]? = some l) : (ls.take m).flatten.length + l.length ≤ ls.flatten.length := by
  have := flat_len ls (m + 1)
  rw [flat_snoc h, List.length_append] at this
  exact this

set_option maxRecDepth 100000 in
set_option maxHeartbeats 2000000 in
theorem vecCounters (b cap : Nat) (vs : List Value) (ls : List (List (Int × Int))) (w : World) (hL : ListsAt w b vs ls) (hm : ls.flatten.length ≤ 100000) (hn : vs.length ≤ 3000) (hv : ∀ p ∈ ls.flatten, validD p.1 p.2 = true) :
    Calls Tryz.prog 175 #[.slice (some ⟨b, 0, none⟩) vs.length cap] w fun e w' => e = .returned (.map (some w.heap.size)) ∧ Below w.heap.size w w' ∧
      ∃ D, w'.ownsMap Tryz.prog 3 (plainElem Tryz.prog 3) w.heap.size ls.flatten.length D ∧ MapIs D ls.flatten := by
  have hmm := @run_makeMap Tryz.prog
  have HV := Lib.hid hv; clear hv
  have HLL := Lib.hid hL
  go_enter Tryz.func175, Tryz.ntmps175
  go_wp2_with fail
  go_loopw [5, 7, 11] (fun _ _ i wr => ∃ m : Nat, m ≤ vs.length ∧ i = .int .i64 m ∧ Below w.heap.size w wr ∧ ∃ D, Hid (wr.ownsMap Tryz.prog 3 (plainElem Tryz.prog 3) w.heap.size (ls.take m).flatten.length D) ∧ Hid (MapIs D (ls.take m).flatten)) (fun _ _ i _ => vs.length - (intOf i).toNat)
  case atStart => exact ⟨0, by omega, rfl, (Below.refl _ _).alloc (Nat.le_refl _) _, .map [], World.ownsMap_made _ _ _ _, MapIs.start⟩
  case round =>
    obtain ⟨m, hk2, rfl, hb, D, hown, hD⟩ := hrel
    by_cases hlt : m < vs.length
    · obtain ⟨A, c, l, hc0, hl, hdl, hml⟩ := HLL.out.get hlt
      have hc := (hb.cell (p := ⟨b, m, none⟩) HLL.out.1).trans hc0
      unfold maxLen at hml
      have HD := Lib.hid hdl
      have HL := Lib.hid hl
      have hfl := flat_len2 hl
      clear hl hdl hc0
      go_wp2_with fail
      go_loopw [7, 17] (fun _ i wr' => ∃ n : Nat, n ≤ l.length ∧ i = .int .i64 n ∧ Below w.heap.size w wr' ∧ ∃ D, Hid (wr'.ownsMap Tryz.prog 3 (plainElem Tryz.prog 3) w.heap.size ((ls.take m).flatten ++ l.take n).length D) ∧ Hid (MapIs D ((ls.take m).flatten ++ l.take n))) (fun _ i _ => l.length - (intOf i).toNat)
      case atStart => exact ⟨0, by omega, rfl, hb, D, by simpa [Hid] using hown.out, by simpa [Hid] using hD.out⟩
      case round =>
        obtain ⟨n, hn2, rfl, hb', D', hown', hD'⟩ := hrel
        by_cases hlt' : n < l.length
        · obtain ⟨g, off, r, q, rfl, hgl, hx1, hc0, hc1⟩ := (HD.out.below hb').dot hlt'
          have hvd : validD r q = true := HV.out (r, q) (List.mem_flatten.2 ⟨l, List.mem_of_getElem? HL.out, List.mem_of_getElem? hx1⟩)
          have hmx := maxC_range (l := (ls.take m).flatten ++ l.take n) r 0 (fun p hp => HV.out p (by
            rcases List.mem_append.1 hp with h | h
            · obtain ⟨l', h1, h2⟩ := List.mem_flatten.1 h
              exact List.mem_flatten.2 ⟨l', List.mem_of_mem_take h1, h2⟩
            · exact List.mem_flatten.2 ⟨l, List.mem_of_getElem? HL.out, List.mem_of_mem_take h⟩)) (by omega) (by omega)
          have hvb : 1 ≤ r ∧ r ≤ 65535 ∧ 1 ≤ q ∧ q ≤ 4294967295 := by simpa [validD] using hvd
          have hkey : keyOf Tryz.prog 3 (.int .i64 r) = some (.int .i64 r) := keyOf_int_mk Tryz.underlying3 (WalkArith.wf_i64 (by omega))
          have hst := hD'.out.step hown'.out.isMap (r, q)
          have HX1 := Lib.hid hx1
          have hlen : ((ls.take m).flatten ++ l.take n).length < 200000 := by rw [List.length_append, List.length_take]; omega
          have hle : ((ls.take m).flatten ++ l.take (n + 1)).length = ((ls.take m).flatten ++ l.take n).length + 1 := by rw [take_snoc hx1, ← List.append_assoc, List.length_append, List.length_singleton]
          have hap : (ls.take m).flatten ++ l.take n ++ [(r, q)] = (ls.take m).flatten ++ l.take (n + 1) := by rw [take_snoc hx1, List.append_assoc]
          rw [hap] at hst
          have HST := Lib.hid hst
          have HLE := Lib.hid hle
          have hval := fun c0 h => hD'.out.val (r := r) (c := c0) h
          generalize maxC ((ls.take m).flatten ++ l.take n) r 0 = mx at hmx hst HST hval
          have HVAL := Lib.hid hval
          clear hvd hx1 hst hle hap hval
          generalize ((ls.take m).flatten ++ l.take n).length = kk at *
          go_wp2_with (first
            | (at_lookup; refine wpList_lookup_own_int _ rfl _ _ mapT rfl 3 3 .i64 law3 Tryz.underlying133 Tryz.underlying3 (zero3 _) w.heap.size _ _ rfl (hown'.out.alloc _) _ _ rfl hkey ?_; intro c0 hat hwc; obtain rfl := HVAL.out _ hat; clear hat hwc)
            | (at_mapUpdate; refine wpList_mapUpdate_own _ rfl _ _ _ mapT rfl 3 3 law3 Tryz.underlying133 _ w.heap.size _ _ rfl (hown'.out.alloc _) (by unfold maxLen; omega) _ _ _ rfl rfl hkey _ [] (plainElem_int Tryz.underlying3 (WalkArith.wf_i64 (by omega))) ?_; intro w1 hown1 hgrow1)
            | go_in)
          go_roundw
          case rel => exact ⟨n + 1, by omega, by go_num, (hb'.alloc hb'.size _).grown hgrow1 (by have := hb'.size; simp; omega) (fun j hj => by cases hj; exact Nat.le_refl _), _, (show Hid _ from by rw [HLE.out]; exact hown1), HST⟩
          case measure => simp [intOf]; omega
        · have hmx : l.take n = l := List.take_of_length_le (by omega)
          have hown2 := hown'.out
          have hD2 := hD'.out
          rw [hmx, ← flat_snoc HL.out] at hown2 hD2
          have HO := Lib.hid hown2
          have HD2 := Lib.hid hD2
          clear hown2 hD2 hmx
          go_wp2_with fail
          go_roundw
          case rel => exact ⟨m + 1, by omega, by go_num, hb', D', HO, HD2⟩
          case measure => simp [intOf]; omega
    · have hmx : ls.take m = ls := List.take_of_length_le (by have := HLL.out.2.1; omega)
      have hown2 := hown.out
      have hD2 := hD.out
      rw [hmx] at hown2 hD2
      have HO := Lib.hid hown2
      have HD2 := Lib.hid hD2
      clear hown2 hD2 hmx
      go_wp2
      go_ret
      exact ⟨rfl, hb, D, HO.out, HD2.out⟩


end

end Go.Proofs.YtiaehpdgpjhecaaGreat
