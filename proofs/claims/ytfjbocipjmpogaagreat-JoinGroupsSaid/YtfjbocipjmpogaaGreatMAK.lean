/- Several texts in one: ItmG, CtxA, CtxB. -/
import Derived.Test.YtfjbocipjmpogaaGreatMAJ
import Derived.Lib.Bytealg
namespace Go.Proofs.YtfjbocipjmpogaaGreat

section
open Go.RowKit

theorem bytesLess_eq : ∀ (a b : List UInt8), Op.bytesLess a b = beforeN a b
  | [], [] => rfl
  | [], _ :: _ => rfl
  | _ :: _, [] => rfl
  | a :: r, b :: s => by
    rw [Op.bytesLess, beforeN, bytesLess_eq r s]
    by_cases h : a = b
    · subst h; simp
    · rw [if_neg h]; simp [h, UInt8.lt_iff_toNat_lt]
theorem cmpBytes_neg : ∀ (a b : List UInt8), Lib.compareBytes a b < 0 ↔ beforeN a b = true
  | [], [] => by simp [Lib.compareBytes, beforeN]
  | [], _ :: _ => by simp [Lib.compareBytes, beforeN]
  | _ :: _, [] => by simp [Lib.compareBytes, beforeN]
  | a :: r, b :: s => by
    rw [Lib.compareBytes, beforeN]
    by_cases h : a = b
    · subst h
      rw [if_neg (by simp), if_neg (by simp), if_pos rfl]
      exact cmpBytes_neg r s
    · rw [if_neg h]
      by_cases h1 : a < b
      · rw [if_pos h1]
        have := UInt8.lt_iff_toNat_lt.1 h1
        simp [this]
      · rw [if_neg h1]
        have h2 : ¬ a.toNat < b.toNat := fun k => h1 (UInt8.lt_iff_toNat_lt.2 k)
        split <;> simp [h2]
        have h3 : ¬ b.toNat < a.toNat := fun k => (by assumption : ¬ b < a) (UInt8.lt_iff_toNat_lt.2 k)
        exact absurd (UInt8.toNat_inj.1 (by omega)) h

set_option maxRecDepth 100000 in
theorem cmpString (a b : List UInt8) (w : World) : Calls Tryz.prog 132 #[.string ⟨a.toArray⟩, .string ⟨b.toArray⟩] w (One (.int .i64 (Lib.compareBytes a b)) w) := by
  go_enter Tryz.func132, Tryz.ntmps132
  go_wp2
  rw [run_callFunc_extern Tryz.func161 (by kernel_rfl) (by kernel_rfl) (by kernel_rfl) (e := Extern.BytealgCompare.compare) (by kernel_rfl), Lib.run_compareString]
  simp only [Result.andThen]
  rw [Oper.upon_value]
  go_wp2
  go_ret
  exact ⟨rfl, rfl⟩
theorem strCompare (a b : List UInt8) (w : World) : Calls Tryz.prog 80 #[.string ⟨a.toArray⟩, .string ⟨b.toArray⟩] w (One (.int .i64 (Lib.compareBytes a b)) w) := by
  have H := Lib.hid (cmpString a b w)
  generalize Lib.compareBytes a b = z at *
  go_enter Tryz.func80, Tryz.ntmps80
  go_wp2_with fail
  refine H.out.mono ?_
  rintro e w1 ⟨rfl, rfl⟩
  go_wp2_with fail
  go_ret
  exact ⟨rfl, rfl⟩

set_option maxHeartbeats 2000000 in
theorem equalMarks (A B : Option Addr) (xs ys : List Mk) (cap cap' : Nat) (w : World) (hx : MarksAt w A xs) (hy : MarksAt w B ys) (hm : xs.length ≤ maxLen) (_ : ys.length ≤ maxLen) :
    Calls Tryz.prog 148 #[.slice A xs.length cap, .slice B ys.length cap'] w (OneB (.bool (decide (xs = ys))) w) := by
  unfold maxLen at hm
  by_cases hl : xs.length = ys.length
  · have hl' : ((xs.length : Int) != (ys.length : Int)) = false := neF (by omega)
    have HL := Lib.hid hl
    clear hl
    go_enter Tryz.func148, Tryz.ntmps148
    go_wp2_with fail
    go_loopw [5, 13] (fun _ i wr => ∃ m : Nat, m ≤ xs.length ∧ i = .int .i64 m ∧ Below w.heap.size w wr ∧ Hid (∀ j, j < m → xs[j]? = ys[j]?)) (fun _ i _ => xs.length - (intOf i).toNat)
    case atStart => exact ⟨0, by omega, rfl, Below.refl _ _, fun j h => by omega⟩
    case round =>
      obtain ⟨m, hk2, rfl, hb, hs⟩ := hrel
      by_cases hlt : m < xs.length
      · have i0 : (m : Int) < (xs.length : Int) := by omega
        have i1 : (m : Int) < (ys.length : Int) := by have := HL.out; omega
        obtain ⟨g, off, x, rfl, hbl, hx1, _, hc0, hc1, hc2, hc3⟩ := (SlAt.below hx hb).mark (j := m) hlt
        obtain ⟨g', off', x', rfl, hbl', hx2, _, hd0, hd1, hd2, hd3⟩ := (SlAt.below hy hb).mark (j := m) (by have := HL.out; omega)
        have l0 := fun p => cell_far (p := p) hbl hc0
        have l1 := fun p => cell_far (p := p) hbl hc1
        have l2 := fun p => cell_far (p := p) hbl hc2
        have l3 := fun p => cell_far (p := p) hbl hc3
        have m0 := fun p => cell_far (p := p) hbl' hd0
        have m1 := fun p => cell_far (p := p) hbl' hd1
        have m2 := fun p => cell_far (p := p) hbl' hd2
        have m3 := fun p => cell_far (p := p) hbl' hd3
        clear hc0 hc1 hc2 hc3 hd0 hd1 hd2 hd3
        have hne := fun w => neqMark x x' w
        by_cases he : x = x'
        · have HE := Lib.hid (same_to hs.out hx1 (by rw [hx2, he]))
          rw [decide_eq_true he] at hne
          obtain ⟨r, c, q, t⟩ := x
          obtain ⟨r', c', q', t'⟩ := x'
          simp only [mkV, Bool.not_true] at hne
          clear hx1 hx2 he
          go_wp2_with fail
          refine wp_region_far (by kernel_rfl) (by kernel_rfl) ?_
          repeat (go_big_quiet_step ((fail)))
          refine wpQuiet_nil ?_
          rintro _ ⟨p, rfl⟩
          go_wp2_with fail
          go_roundw
          case rel => exact ⟨m + 1, by omega, by go_num, hb.trans ((below_far wr p).mono hb.size), HE⟩
          case measure => simp [intOf]; omega
        · have HN := Lib.hid (show false = decide (xs = ys) from (decide_eq_false (ne_at hx1 hx2 he)).symm)
          rw [decide_eq_false he] at hne
          obtain ⟨r, c, q, t⟩ := x
          obtain ⟨r', c', q', t'⟩ := x'
          simp only [mkV, Bool.not_false] at hne
          clear hx1 hx2 he
          go_wp2_with fail
          refine wp_region_far (by kernel_rfl) (by kernel_rfl) ?_
          repeat (go_big_quiet_step ((fail)))
          refine wpQuiet_nil ?_
          rintro _ ⟨p, rfl⟩
          go_wp2_with fail
          go_ret
          exact OneB.bool HN.out (hb.trans ((below_far wr p).mono hb.size))
      · obtain rfl : m = xs.length := by omega
        have i0 : ¬ (xs.length : Int) < (xs.length : Int) := by omega
        have HN := Lib.hid (show true = decide (xs = ys) from (decide_eq_true (same_all HL.out hs.out)).symm)
        clear hlt hk2
        go_wp2_with fail
        go_ret
        exact OneB.bool HN.out hb
  · have hl' : ((xs.length : Int) != (ys.length : Int)) = true := neT (by omega)
    have HN := Lib.hid (show false = decide (xs = ys) from (decide_eq_false (fun e => hl (by rw [e]))).symm)
    clear hl
    go_enter Tryz.func148, Tryz.ntmps148
    go_wp2_with fail
    go_ret
    exact OneB.bool HN.out (Below.refl _ _)

set_option maxHeartbeats 1000000 in
theorem equal1 (x y : ItV) (q : Bool) (w : World) (hx : ItOK w x) (hy : ItOK w y) (hq : decide (x.it = y.it) = q) :
    Calls Tryz.prog 147 #[mkIt x, mkIt y] w (OneB (.bool q) w) := by
  have h1 : Below w.heap.size w ((w.alloc (.cells #[.string ⟨x.nm.toArray⟩, .slice x.A x.ms.length x.c] 49)).alloc (.cells #[.string ⟨y.nm.toArray⟩, .slice y.A y.ms.length y.c] 49)) := ((Below.refl _ w).alloc (Nat.le_refl _) _).alloc (by simp) _
  have HB := Lib.hid h1
  have HE := Lib.hid fun W (h : Below w.heap.size w W) => equalMarks x.A y.A x.ms y.ms x.c y.c W (SlAt.below hx.1 h) (SlAt.below hy.1 h) hx.len hy.len
  clear h1 hx hy
  by_cases hn : x.nm = y.nm
  · have hnb : (x.nm == y.nm) = true := by simp [hn]
    have HQ := Lib.hid (show decide (x.ms = y.ms) = q from by rw [← hq]; simp [ItV.it, hn])
    clear hq hn
    go_enter Tryz.func147, Tryz.ntmps147
    go_wp2_with fail
    refine (HE.out _ HB.out).mono ?_
    rintro e w1 ⟨rfl, hb⟩
    have HB2 := Lib.hid (below_trans HB.out hb)
    clear hb
    go_wp2_with fail
    go_ret
    exact OneB.bool HQ.out HB2.out
  · have hnb : (x.nm == y.nm) = false := by simp [hn]
    have HQ := Lib.hid (show false = q from by rw [← hq]; simp [ItV.it, hn])
    clear hq hn
    go_enter Tryz.func147, Tryz.ntmps147
    go_wp2_with fail
    go_ret
    exact OneB.bool HQ.out HB.out

set_option maxHeartbeats 2000000 in
theorem equalFunc (A B : Option Addr) (xs ys : List ItV) (cap cap' : Nat) (w : World) (hx : ItemsAt w A xs) (hy : ItemsAt w B ys) (hm : xs.length ≤ 100000) (_ : ys.length ≤ 100000) :
    Calls Tryz.prog 146 #[.slice A xs.length cap, .slice B ys.length cap', .func (.func 147) #[] #[]] w (OneB (.bool (decide (its xs = its ys))) w) := by
  have HX := Lib.hid hx
  have HY := Lib.hid hy
  clear hx hy
  by_cases hl : xs.length = ys.length
  · have hl' : ((xs.length : Int) != (ys.length : Int)) = false := neF (by omega)
    have HL := Lib.hid hl
    clear hl
    go_enter Tryz.func146, Tryz.ntmps146
    go_wp2_with fail
    go_loopw [7, 8, 9, 17] (fun _ _ _ i wr => ∃ m : Nat, m ≤ xs.length ∧ i = .int .i64 m ∧ Below w.heap.size w wr ∧ Hid (∀ j, j < m → (its xs)[j]? = (its ys)[j]?)) (fun _ _ _ i _ => xs.length - (intOf i).toNat)
    case atStart => exact ⟨0, by omega, rfl, Below.refl _ _, fun j h => by omega⟩
    case round =>
      obtain ⟨m, hk2, rfl, hb, hs⟩ := hrel
      by_cases hlt : m < xs.length
      · have i0 : (m : Int) < (xs.length : Int) := by omega
        have i1 : (m : Int) < (ys.length : Int) := by have := HL.out; omega
        obtain ⟨g, off, x, rfl, hbl, hx1, _, hc0, hc1, hok⟩ := (HX.out.below hb).cells (j := m) hlt
        obtain ⟨g', off', y, rfl, hbl', hx2, _, hd0, hd1, hok'⟩ := (HY.out.below hb).cells (j := m) (by have := HL.out; omega)
        have hba : Below wr.heap.size wr ((wr.alloc (.cells #[.string ⟨x.nm.toArray⟩, .slice x.A x.ms.length x.c] 49)).alloc (.cells #[.string ⟨y.nm.toArray⟩, .slice y.A y.ms.length y.c] 49)) := ((Below.refl _ wr).alloc (Nat.le_refl _) _).alloc (by simp) _
        have HBA := Lib.hid hba
        obtain ⟨q, hq⟩ : ∃ q, decide (x.it = y.it) = q := ⟨_, rfl⟩
        have HE := Lib.hid (equal1 x y q _ (hok.below hba) (hok'.below hba) hq)
        clear hba hok hok'
        cases q with
        | true =>
          have HS := Lib.hid (same_to (x := x.it) hs.out (its_at hx1) (by rw [its_at hx2, of_decide_eq_true hq]))
          clear hx1 hx2 hq
          go_wp2_with fail
          refine HE.out.mono ?_
          rintro e w1 ⟨rfl, hb1⟩
          have HB := Lib.hid (hb.trans ((below_trans HBA.out hb1).mono hb.size))
          clear hb1 hc0 hc1 hd0 hd1
          go_wp2_with fail
          go_roundw
          case rel => exact ⟨m + 1, by omega, by go_num, HB.out, HS⟩
          case measure => simp [intOf]; omega
        | false =>
          have HN := Lib.hid (show false = decide (its xs = its ys) from (decide_eq_false (ne_at (its_at hx1) (its_at hx2) fun e => of_decide_eq_false hq e)).symm)
          clear hx1 hx2 hq
          go_wp2_with fail
          refine HE.out.mono ?_
          rintro e w1 ⟨rfl, hb1⟩
          have HB := Lib.hid (hb.trans ((below_trans HBA.out hb1).mono hb.size))
          clear hb1 hc0 hc1 hd0 hd1
          go_wp2_with fail
          go_ret
          exact OneB.bool HN.out HB.out
      · obtain rfl : m = xs.length := by omega
        have i0 : ¬ (xs.length : Int) < (xs.length : Int) := by omega
        have HN := Lib.hid (show true = decide (its xs = its ys) from (decide_eq_true (same_all (by rw [its_len, its_len]; exact HL.out) (by rw [its_len]; exact hs.out))).symm)
        clear hlt hk2
        go_wp2_with fail
        go_ret
        exact OneB.bool HN.out hb
  · have hl' : ((xs.length : Int) != (ys.length : Int)) = true := neT (by omega)
    have HN := Lib.hid (show false = decide (its xs = its ys) from (decide_eq_false (fun e => hl (by rw [← its_len xs, e, its_len]))).symm)
    clear hl
    go_enter Tryz.func146, Tryz.ntmps146
    go_wp2_with fail
    go_ret
    exact OneB.bool HN.out (Below.refl _ _)
set_option maxHeartbeats 400000 in
theorem itemsEqual (A B : Option Addr) (xs ys : List ItV) (cap cap' : Nat) (w : World) (hx : ItemsAt w A xs) (hy : ItemsAt w B ys) (hm : xs.length ≤ 100000) (hm' : ys.length ≤ 100000) :
    Calls Tryz.prog 100 #[.slice A xs.length cap, .slice B ys.length cap'] w (OneB (.bool (decide (its xs = its ys))) w) := by
  have H := Lib.hid (equalFunc A B xs ys cap cap' w hx hy hm hm')
  generalize decide (its xs = its ys) = q at *
  go_enter Tryz.func100, Tryz.ntmps100
  go_wp2_with fail
  refine H.out.mono ?_
  rintro e w1 ⟨rfl, hb⟩
  have HB := Lib.hid hb
  clear hb
  go_wp2_with fail
  go_ret
  exact OneB.bool rfl HB.out

set_option maxHeartbeats 400000 in
theorem valid1 (m : Mk) (w : World) : Calls Tryz.prog 141 #[mkV m] w (OneB (.bool (!validM m)) w) := by
  have H := Lib.hid fun W => qtyMark m W
  go_enter Tryz.func141, Tryz.ntmps141
  go_wp2_with fail
  refine (H.out _).mono ?_
  rintro e w1 ⟨rfl, hb1⟩
  have HB := Lib.hid (below_trans ((Below.refl _ w).alloc (Nat.le_refl _) _) hb1)
  clear hb1
  go_wp2_with fail
  go_ret
  exact OneB.bool (by simp) HB.out

set_option maxHeartbeats 1000000 in
theorem indexMarksV (A : Option Addr) (xs : List Mk) (cap : Nat) (w : World) (hx : MarksAt w A xs) (hm : xs.length ≤ maxLen) :
    Calls Tryz.prog 165 #[.slice A xs.length cap, .func (.func 141) #[] #[]] w fun e w' =>
      ((∃ i : Nat, e = .returned (.int .i64 i) ∧ xs.all validM = false) ∨ (e = .returned (.int .i64 (-1)) ∧ xs.all validM = true)) ∧ Below w.heap.size w w' := by
  unfold maxLen at hm
  go_enter Tryz.func165, Tryz.ntmps165
  go_wp2
  go_loopw [5, 8] (fun _ i wr => ∃ m : Nat, m ≤ xs.length ∧ i = .int .i64 m ∧ Below w.heap.size w wr ∧ Hid (∀ (j : Nat) (y : Mk), j < m → xs[j]? = some y → validM y = true)) (fun _ i _ => xs.length - (intOf i).toNat)
  case atStart => exact ⟨0, by omega, rfl, Below.refl _ _, fun j q h => by omega⟩
  case round =>
    obtain ⟨m, hk2, rfl, hb, hs⟩ := hrel
    by_cases hlt : m < xs.length
    · obtain ⟨b, off, y, rfl, hbl, hx1, _, hc0, hc1, hc2, hc3⟩ := (hx.below hb).mark (j := m) hlt
      have hr := fun W => valid1 y W
      cases hq : validM y
      · rw [hq] at hr
        have HR := Lib.hid hr
        have HV := Lib.hid (all_no hx1 hq)
        clear hr hq hx1
        go_wp2_with fail
        refine (HR.out _).mono ?_
        rintro e w1 ⟨rfl, hb1⟩
        clear hc0 hc1 hc2 hc3
        go_wp2
        go_ret
        exact ⟨.inl ⟨m, rfl, HV.out⟩, hb.trans (hb1.mono hb.size)⟩
      · rw [hq] at hr
        have HR := Lib.hid hr
        have HV := Lib.hid (step_all hs.out hx1 hq)
        clear hr hq hx1
        go_wp2_with fail
        refine (HR.out _).mono ?_
        rintro e w1 ⟨rfl, hb1⟩
        clear hc0 hc1 hc2 hc3
        go_wp2
        go_roundw
        case rel => exact ⟨m + 1, by omega, by go_num, hb.trans (hb1.mono hb.size), HV⟩
        case measure => simp [intOf]; omega
    · obtain rfl : m = xs.length := by omega
      have HV := Lib.hid (all_yes hs.out)
      go_wp2
      go_ret
      exact ⟨.inr ⟨rfl, HV.out⟩, hb⟩
set_option maxHeartbeats 400000 in
theorem containsMarksV (A : Option Addr) (xs : List Mk) (cap : Nat) (w : World) (hx : MarksAt w A xs) (hm : xs.length ≤ maxLen) :
    Calls Tryz.prog 140 #[.slice A xs.length cap, .func (.func 141) #[] #[]] w (OneB (.bool (!xs.all validM)) w) := by
  have H := Lib.hid (indexMarksV A xs cap w hx hm)
  go_enter Tryz.func140, Tryz.ntmps140
  go_wp2_with fail
  refine H.out.mono ?_
  rintro e w1 ⟨h, hb⟩
  have HB := Lib.hid hb
  clear hb
  rcases h with ⟨i, rfl, h⟩ | ⟨rfl, h⟩
  · have HV := Lib.hid h
    have i0 : (0 : Int) ≤ (i : Int) := by omega
    clear h
    go_wp2_with fail
    go_ret
    exact OneB.bool (by rw [HV.out]; rfl) HB.out
  · have HV := Lib.hid h
    clear h
    go_wp2_with fail
    go_ret
    exact OneB.bool (by rw [HV.out]; rfl) HB.out

end

section
open Go.RowKit

/-- What holds all along: some cells, the heap as it lay, some lists of dots. -/
def KX (w0 : World) (C : List (Addr × Value)) (L : List (Value × List (Int × Int))) (W : World) : Prop :=
  (∀ p ∈ C, W.cell? p.1 = some p.2 ∧ p.1.block < W.heap.size) ∧ Below w0.heap.size w0 W ∧ ∀ p ∈ L, Holds W p.1 p.2
section
variable {w0 : World} {C : List (Addr × Value)} {L : List (Value × List (Int × Int))} {W W' : World}
theorem KX.below (h : KX w0 C L W) (hb : Below W.heap.size W W') : KX w0 C L W' :=
  ⟨fun p hp => ⟨(hb.cell (h.1 p hp).2).trans (h.1 p hp).1, Nat.lt_of_lt_of_le (h.1 p hp).2 hb.size⟩, below_trans h.2.1 hb, fun p hp => (h.2.2 p hp).below hb⟩
theorem KX.alloc (h : KX w0 C L W) (o : Obj) : KX w0 C L (W.alloc o) := h.below ((Below.refl _ W).alloc (Nat.le_refl _) o)
theorem KX.drew (h : KX w0 C L W) : KX w0 C L W.drew := h.below (Below.refl _ W).drew
theorem KX.far (h : KX w0 C L W) (p : FarBy) : KX w0 C L (Go.Proofs.YtfjbocipjmpogaaGreat.far W p) := h.below (below_far W p)
theorem KX.bel (h : KX w0 C L W) : Below w0.heap.size w0 W := h.2.1
theorem KX.cell {a : Addr} {v : Value} (h : KX w0 C L W) (hm : (a, v) ∈ C) : W.cell? a = some v := (h.1 _ hm).1
theorem KX.lt {a : Addr} {v : Value} (h : KX w0 C L W) (hm : (a, v) ∈ C) : a.block < W.heap.size := (h.1 _ hm).2
theorem KX.h {v : Value} {xs : List (Int × Int)} (h : KX w0 C L W) (hm : (v, xs) ∈ L) : Holds W v xs := h.2.2 _ hm
theorem KX.push {v : Value} {xs : List (Int × Int)} (h : KX w0 C L W) (hv : Holds W v xs) : KX w0 C ((v, xs) :: L) W :=
  ⟨h.1, h.2.1, fun p hp => by
    rcases List.mem_cons.1 hp with rfl | hp
    · exact hv
    · exact h.2.2 p hp⟩
theorem KX.nil (W : World) : KX W [] [] W := ⟨(fun p hp => by cases hp), Below.refl _ _, (fun p hp => by cases hp)⟩
/-- A block of two cells is laid. -/
theorem KX.box (h : KX w0 C L W) (x y : Value) (t : TypeId) : KX w0 ((⟨W.heap.size, 0, none⟩, x) :: (⟨W.heap.size, 1, none⟩, y) :: C) L (W.alloc (.cells #[x, y] t)) := by
  have h2 := h.alloc (.cells #[x, y] t)
  refine ⟨fun p hp => ?_, h2.2.1, h2.2.2⟩
  rcases List.mem_cons.1 hp with rfl | hp
  · exact ⟨by go_simp, by simp⟩
  · rcases List.mem_cons.1 hp with rfl | hp
    · exact ⟨by go_simp, by simp⟩
    · exact h2.1 p hp
end

set_option maxHeartbeats 1000000 in
theorem ref3Dots (A : Option Addr) (xs : List (Int × Int)) (cap : Nat) (w : World) (hx : DotsAt w A xs) (hm : xs.length ≤ maxLen) :
    Calls Tryz.prog 104 #[.slice A xs.length cap] w fun e w' => e = .returned (.bool (okL xs)) ∧ Below w.heap.size w w' := by
  unfold maxLen at hm
  go_enter Tryz.func104, Tryz.ntmps104
  go_wp2
  go_loopw [3] (fun i wr => ∃ m : Nat, m ≤ xs.length ∧ i = .int .i64 m ∧ Below w.heap.size w wr ∧ Hid (∀ j p, j < m → xs[j]? = some p → validD p.1 p.2 = true)) (fun i _ => xs.length - (intOf i).toNat)
  case atStart => exact ⟨0, by omega, rfl, Below.refl _ _, fun j p h => by omega⟩
  case round =>
    obtain ⟨m, hk2, rfl, hb, hs⟩ := hrel
    by_cases hlt : m < xs.length
    · obtain ⟨b, off, r, c, rfl, hbl, hx1, hc0, hc1⟩ := (hx.below hb).dot (j := m) hlt
      have hr := fun W => refValid r c W
      cases hq : validD r c
      · rw [hq] at hr
        have HR := Lib.hid hr
        have HV := Lib.hid (show okL xs = false from by
          cases e : okL xs
          · rfl
          · have := (okL_iff xs).1 e (r, c) (List.mem_of_getElem? hx1)
            rw [hq] at this; cases this)
        clear hr hq hx1
        go_wp2_with fail
        refine (HR.out _).mono ?_
        rintro e w1 ⟨rfl, hb1⟩
        clear hc0 hc1
        go_wp2
        go_ret
        exact ⟨ret_bool HV.out.symm, hb.trans (hb1.mono hb.size)⟩
      · rw [hq] at hr
        have HR := Lib.hid hr
        have HV := Lib.hid (show ∀ j p, j < m + 1 → xs[j]? = some p → validD p.1 p.2 = true from fun j p hj hp => by
          by_cases e : j = m
          · subst e; rw [hx1] at hp; cases hp; exact hq
          · exact hs.out j p (by omega) hp)
        clear hr hq hx1
        go_wp2_with fail
        refine (HR.out _).mono ?_
        rintro e w1 ⟨rfl, hb1⟩
        clear hc0 hc1
        go_wp2
        go_roundw
        case rel => exact ⟨m + 1, by omega, by go_num, hb.trans (hb1.mono hb.size), HV⟩
        case measure => simp [intOf]; omega
    · have HV := Lib.hid (show okL xs = true from (okL_iff xs).2 fun p hp => by
        obtain ⟨j, hj⟩ := List.mem_iff_getElem?.1 hp
        have hl := (List.getElem?_eq_some_iff.1 hj).1
        exact hs.out j p (by omega) hj)
      go_wp2
      go_ret
      exact ⟨ret_bool HV.out.symm, hb⟩

theorem ref3Dots_h (v : Value) (xs : List (Int × Int)) (b : Bool) (w : World) (h : Holds w v xs) (hb : okL xs = b) :
    Calls Tryz.prog 104 #[v] w fun e w' => e = .returned (.bool b) ∧ Below w.heap.size w w' := by
  obtain ⟨A, c, rfl, h1, h2, h3⟩ := h
  subst hb
  exact ref3Dots A xs c w h1 (Nat.le_trans h2 h3)
theorem refIsSet_h3 (v : Value) (xs : List (Int × Int)) (b : Bool) (w : World) (h : Holds w v xs) (hb : isSetB xs = b) :
    Calls Tryz.prog 103 #[v] w fun e w' => e = .returned (.bool b) ∧ Below w.heap.size w w' := by
  obtain ⟨A, c, rfl, h1, h2, h3⟩ := h
  subst hb
  exact refIsSet A xs c w h1 (Nat.le_trans h2 h3)
theorem ref2Valid_h3 (v : Value) (xs : List (Int × Int)) (b : Bool) (w : World) (h : Holds w v xs) (hb : validV xs = b) :
    Calls Tryz.prog 102 #[v] w fun e w' => e = .returned (.bool b) ∧ Below w.heap.size w w' := by
  obtain ⟨A, c, rfl, h1, h2, h3⟩ := h
  subst hb
  exact ref2Valid A xs c w h1 (Nat.le_trans h2 h3)
theorem same_h3 (v v' : Value) (xs ys : List (Int × Int)) (b : Bool) (w : World) (h : Holds w v xs) (h' : Holds w v' ys) (hb : decide (xs = ys) = b) :
    Calls Tryz.prog 83 #[v, v'] w fun e w' => e = .returned (.bool b) ∧ Below w.heap.size w w' := by
  obtain ⟨A, c, rfl, h1, h2, h3⟩ := h
  obtain ⟨A', c', rfl, h1', h2', h3'⟩ := h'
  subst hb
  exact refSame A A' xs ys c c' w h1 h1' (Nat.le_trans h2 h3) (Nat.le_trans h2' h3')

/-- A context that is handed in. -/
def HoldsC (W : World) (v : Value) (vs ls : List (Int × Int)) : Prop := ∃ A n B m, v = .agg #[.slice A vs.length n, .slice B ls.length m] ∧ Holds W (.slice A vs.length n) vs ∧ Holds W (.slice B ls.length m) ls
theorem HoldsC.below {W W' : World} {v : Value} {vs ls : List (Int × Int)} (h : HoldsC W v vs ls) (hb : Below W.heap.size W W') : HoldsC W' v vs ls := by
  obtain ⟨A, n, B, m, rfl, h1, h2⟩ := h
  exact ⟨A, n, B, m, rfl, h1.below hb, h2.below hb⟩
theorem HoldsC.mk {W : World} {x y : Value} {vs ls : List (Int × Int)} (h : Holds W x vs) (h' : Holds W y ls) : HoldsC W (.agg #[x, y]) vs ls := by
  have h0 := h
  have h0' := h'
  obtain ⟨A, n, rfl, _⟩ := h
  obtain ⟨B, m, rfl, _⟩ := h'
  exact ⟨A, n, B, m, rfl, h0, h0'⟩

set_option maxHeartbeats 1000000 in
theorem ref3Valid (v : Value) (vs ls : List (Int × Int)) (b : Bool) (w : World) (h : HoldsC w v vs ls) (hb : validC vs ls = b) :
    Calls Tryz.prog 59 #[v] w fun e w' => e = .returned (.bool b) ∧ Below w.heap.size w w' := by
  obtain ⟨A, n, B, m, rfl, h1, h2⟩ := h
  have K := Lib.hid ((((KX.nil w).push h1).push h2).box (.slice A vs.length n) (.slice B ls.length m) 25)
  clear h1 h2
  unfold validC at hb
  cases hv : validV vs with
  | false =>
    rw [hv] at hb
    have HB := Lib.hid (show false = b from hb)
    have HV := Lib.hid fun v W (h : Holds W v vs) => ref2Valid_h3 v vs false W h hv
    clear hb hv
    go_enter Tryz.func59, Tryz.ntmps59
    go_wp2_with fail
    refine (HV.out _ _ (K.out.h (by simp))).mono ?_
    rintro e w1 ⟨rfl, hb1⟩
    have K1 := Lib.hid (K.out.below hb1)
    clear hb1
    go_wp2
    go_ret
    exact ⟨ret_bool HB.out, K1.out.bel⟩
  | true =>
    have HV := Lib.hid fun v W (h : Holds W v vs) => ref2Valid_h3 v vs true W h hv
    rw [hv] at hb
    cases hs : isSetB ls with
    | false =>
      rw [hs] at hb
      have HB := Lib.hid (show false = b from hb)
      have HS := Lib.hid fun v W (h : Holds W v ls) => refIsSet_h3 v ls false W h hs
      clear hb hv hs
      go_enter Tryz.func59, Tryz.ntmps59
      go_wp2_with fail
      refine (HV.out _ _ (K.out.h (by simp))).mono ?_
      rintro e w1 ⟨rfl, hb1⟩
      have K1 := Lib.hid (K.out.below hb1)
      have k2 := K1.out.cell (a := ⟨w.heap.size, 1, none⟩) (v := .slice B ls.length m) (by simp)
      clear hb1
      go_wp2_with fail
      refine (HS.out _ _ (K1.out.h (by simp))).mono ?_
      rintro e w2 ⟨rfl, hb1⟩
      have K2 := Lib.hid (K1.out.below hb1)
      clear hb1 k2
      go_wp2
      go_ret
      exact ⟨ret_bool HB.out, K2.out.bel⟩
    | true =>
      have HS := Lib.hid fun v W (h : Holds W v ls) => refIsSet_h3 v ls true W h hs
      rw [hs] at hb
      have HB := Lib.hid (show okL ls = b from hb)
      have HD := Lib.hid fun v W (h : Holds W v ls) => ref3Dots_h v ls b W h HB.out
      clear hb hv hs
      go_enter Tryz.func59, Tryz.ntmps59
      go_wp2_with fail
      refine (HV.out _ _ (K.out.h (by simp))).mono ?_
      rintro e w1 ⟨rfl, hb1⟩
      have K1 := Lib.hid (K.out.below hb1)
      have k2 := K1.out.cell (a := ⟨w.heap.size, 1, none⟩) (v := .slice B ls.length m) (by simp)
      clear hb1
      go_wp2_with fail
      refine (HS.out _ _ (K1.out.h (by simp))).mono ?_
      rintro e w2 ⟨rfl, hb1⟩
      have K2 := Lib.hid (K1.out.below hb1)
      clear k2
      have k2 := K2.out.cell (a := ⟨w.heap.size, 1, none⟩) (v := .slice B ls.length m) (by simp)
      clear hb1
      go_wp2_with fail
      refine (HD.out _ _ (K2.out.h (by simp))).mono ?_
      rintro e w3 ⟨rfl, hb1⟩
      have K3 := Lib.hid (K2.out.below hb1)
      clear hb1 k2
      go_wp2
      go_ret
      exact ⟨rfl, K3.out.bel⟩

set_option maxHeartbeats 1000000 in
theorem ref3Equal (v v' : Value) (vs ls vs' ls' : List (Int × Int)) (b : Bool) (w : World) (h : HoldsC w v vs ls) (h' : HoldsC w v' vs' ls') (hb : (decide (vs = vs') && decide (ls = ls')) = b) :
    Calls Tryz.prog 39 #[v, v'] w fun e w' => e = .returned (.bool b) ∧ Below w.heap.size w w' := by
  obtain ⟨A, n, B, m, rfl, h1, h2⟩ := h
  obtain ⟨A', n', B', m', rfl, h1', h2'⟩ := h'
  have K := ((((((KX.nil w).push h1).push h2).push h1').push h2').box (.slice A vs.length n) (.slice B ls.length m) 25).box (.slice A' vs'.length n') (.slice B' ls'.length m') 25
  rw [World.size_alloc] at K
  have K := Lib.hid K
  clear h1 h2 h1' h2'
  cases hv : decide (vs = vs') with
  | false =>
    rw [hv] at hb
    have HB := Lib.hid (show false = b from hb)
    have HV := Lib.hid fun v v' W (h : Holds W v vs) (h' : Holds W v' vs') => same_h3 v v' vs vs' false W h h' hv
    clear hb hv
    go_enter Tryz.func39, Tryz.ntmps39
    go_wp2_with fail
    refine (HV.out _ _ _ (K.out.h (by simp)) (K.out.h (by simp))).mono ?_
    rintro e w1 ⟨rfl, hb1⟩
    have K1 := Lib.hid (K.out.below hb1)
    clear hb1
    go_wp2
    go_ret
    exact ⟨ret_bool HB.out, K1.out.bel⟩
  | true =>
    have HV := Lib.hid fun v v' W (h : Holds W v vs) (h' : Holds W v' vs') => same_h3 v v' vs vs' true W h h' hv
    rw [hv, Bool.true_and] at hb
    have HS := Lib.hid fun v v' W (h : Holds W v ls) (h' : Holds W v' ls') => same_h3 v v' ls ls' b W h h' hb
    clear hb hv
    go_enter Tryz.func39, Tryz.ntmps39
    go_wp2_with fail
    refine (HV.out _ _ _ (K.out.h (by simp)) (K.out.h (by simp))).mono ?_
    rintro e w1 ⟨rfl, hb1⟩
    have K1 := Lib.hid (K.out.below hb1)
    have k2 := K1.out.cell (a := ⟨w.heap.size, 1, none⟩) (v := .slice B ls.length m) (by simp)
    have k3 := K1.out.cell (a := ⟨w.heap.size + 1, 1, none⟩) (v := .slice B' ls'.length m') (by simp)
    clear hb1
    go_wp2_with fail
    refine (HS.out _ _ _ (K1.out.h (by simp)) (K1.out.h (by simp))).mono ?_
    rintro e w2 ⟨rfl, hb1⟩
    have K2 := Lib.hid (K1.out.below hb1)
    clear hb1 k2 k3
    go_wp2
    go_ret
    exact ⟨rfl, K2.out.bel⟩

end

section
open Go.RowKit

/-- As the reference reckons it, in 64 bits. -/
def goesW (v : List (Int × Int)) (d : Int × Int) : Bool := hasV v d.1 d.2 || (d.2 == wrap64 (getV v d.1 + 1))
theorem getV_top {v : List (Int × Int)} (h : validV v = true) (r : Int) : 0 ≤ getV v r ∧ getV v r ≤ 4294967295 := by
  have h0 := getV_nonneg ((validV_iff v).1 h).1 r
  by_cases e : getV v r = 0
  · omega
  · have hd := ((validV_iff v).1 h).1 _ (getV_of_pos e)
    simp [validD] at hd
    omega
theorem goesW_eq {v : List (Int × Int)} (h : validV v = true) (d : Int × Int) : goesW v d = goesC v d := by
  unfold goesW goesC
  have := getV_top h d.1
  rw [show wrap64 (getV v d.1 + 1) = getV v d.1 + 1 by unfold wrap64; omega]
theorem compC_no {vs ls : List (Int × Int)} {d : Int × Int} (hd : d ∈ ls) (hg : goesW vs d = true) : compC vs ls = false := by
  cases e : compC vs ls
  · rfl
  · obtain ⟨h1, h2⟩ := compC_iff.1 e
    have := h1 d hd
    rw [← goesW_eq (validC_iff.1 h2).1, hg] at this; cases this
theorem compC_all {vs ls : List (Int × Int)} (h : ∀ d ∈ ls, goesW vs d = false) : compC vs ls = validC vs ls := by
  cases e : validC vs ls
  · unfold compC; rw [e, Bool.and_false]
  · exact compC_iff.2 ⟨fun d hd => by rw [← goesW_eq (validC_iff.1 e).1]; exact h d hd, e⟩

theorem KX.drop2 {w0 W : World} {a b : Addr × Value} {C : List (Addr × Value)} {L : List (Value × List (Int × Int))} (h : KX w0 (a :: b :: C) L W) : KX w0 C L W := ⟨fun p hp => h.1 p (by simp [hp]), h.2.1, h.2.2⟩

set_option maxRecDepth 100000 in
set_option maxHeartbeats 2000000 in
theorem ref3IsCompact (v : Value) (vs ls : List (Int × Int)) (b : Bool) (w : World) (h : HoldsC w v vs ls) (hb : compC vs ls = b) :
    Calls Tryz.prog 27 #[v] w fun e w' => e = .returned (.bool b) ∧ Below w.heap.size w w' := by
  obtain ⟨A, n, B, m0, rfl, h1, h2⟩ := h
  have LA : vs.length ≤ maxLen := by obtain ⟨_, _, h, _, h2, h3⟩ := h1; omega
  have LB : ls.length ≤ maxLen := by obtain ⟨_, _, h, _, h2, h3⟩ := h2; omega
  have K := Lib.hid ((((KX.nil w).push h1).push h2).box (.slice A vs.length n) (.slice B ls.length m0) 25)
  have LA2 := Lib.hid LA
  unfold maxLen at LA LB
  have HB := Lib.hid hb
  clear h1 h2 hb
  go_enter Tryz.func27, Tryz.ntmps27
  go_wp2_with fail
  go_loopw [3] (fun i wr => ∃ m : Nat, m ≤ ls.length ∧ i = .int .i64 m ∧ Hid (KX w [(⟨w.heap.size, 0, none⟩, .slice A vs.length n), (⟨w.heap.size, 1, none⟩, .slice B ls.length m0)] [(.slice B ls.length m0, ls), (.slice A vs.length n, vs)] wr) ∧ Hid (∀ j p, j < m → ls[j]? = some p → goesW vs p = false)) (fun i _ => ls.length - (intOf i).toNat)
  case atStart => exact ⟨0, by omega, rfl, K, fun j p h => by omega⟩
  case round =>
    obtain ⟨m, hk2, rfl, hK, hs⟩ := hrel
    have c0 := hK.out.cell (a := ⟨w.heap.size, 0, none⟩) (v := .slice A vs.length n) (by simp)
    have c1 := hK.out.cell (a := ⟨w.heap.size, 1, none⟩) (v := .slice B ls.length m0) (by simp)
    by_cases hlt : m < ls.length
    · have hx : DotsAt wr B ls := by
        obtain ⟨A', c', e, h, _⟩ := hK.out.h (v := .slice B ls.length m0) (xs := ls) (by simp)
        cases e; exact h
      obtain ⟨bb, off, r, c, rfl, hbl, hx1, hc0, hc1⟩ := hx.dot (j := m) hlt
      have hva : DotsAt wr A vs := by
        obtain ⟨A', c', e, h, _⟩ := hK.out.h (v := .slice A vs.length n) (xs := vs) (by simp)
        cases e; exact h
      have KW := hK.out.box (.int .i64 r) (.int .i64 c) 51
      have hal : Below wr.heap.size wr (wr.alloc (.cells #[.int .i64 r, .int .i64 c] 51)) := (Below.refl _ wr).alloc (Nat.le_refl _) _
      have l0 := fun p => (KW.far p).cell (a := ⟨w.heap.size, 0, none⟩) (v := .slice A vs.length n) (by simp)
      have l2 := fun p => (KW.far p).cell (a := ⟨wr.heap.size, 0, none⟩) (v := .int .i64 r) (by simp)
      have l3 := fun p => (KW.far p).cell (a := ⟨wr.heap.size, 1, none⟩) (v := .int .i64 c) (by simp)
      have HH := fun p => ref2Has A vs n r c _ ((hva.below hal).far p) LA2.out
      have HG := fun p => ref2Get A vs n r _ ((hva.below hal).far p) LA2.out
      have HK := Lib.hid KW
      clear KW hx hva hal
      obtain ⟨bh, hbh⟩ : ∃ bh, hasV vs r c = bh := ⟨_, rfl⟩
      obtain ⟨g, hg⟩ : ∃ g, getV vs r = g := ⟨_, rfl⟩
      simp only [hbh] at HH
      simp only [hg] at HG
      have hgo : goesW vs (r, c) = (bh || (c == wrap64 (g + 1))) := by unfold goesW; rw [hbh, hg]
      have HH := Lib.hid HH
      have HG := Lib.hid HG
      cases bh with
      | true =>
        have HN := Lib.hid (show b = false from by rw [← HB.out]; exact compC_no (List.mem_of_getElem? hx1) (by rw [hgo]; rfl))
        clear hbh hg hgo hx1
        go_wp2_with fail
        generalize wr.alloc (.cells #[.int .i64 r, .int .i64 c] 51) = W at *
        refine wp_region_far (by kernel_rfl) (by kernel_rfl) ?_
        repeat (go_big_quiet_step ((first | (go_at_call 57; exact far_of (HH.out _)) | (go_at_call 58; exact far_of (HG.out _)))))
        refine wpQuiet_nil ?_
        rintro _ ⟨p, rfl⟩
        go_wp2
        go_ret
        exact ⟨ret_bool HN.out.symm, (HK.out.far p).bel⟩
      | false =>
        cases hn : (c == wrap64 (g + 1)) with
        | true =>
          have HN := Lib.hid (show b = false from by rw [← HB.out]; exact compC_no (List.mem_of_getElem? hx1) (by rw [hgo, hn]; rfl))
          clear hbh hg hgo hx1
          go_wp2_with fail
          generalize wr.alloc (.cells #[.int .i64 r, .int .i64 c] 51) = W at *
          refine wp_region_far (by kernel_rfl) (by kernel_rfl) ?_
          repeat (go_big_quiet_step ((first | (go_at_call 57; exact far_of (HH.out _)) | (go_at_call 58; exact far_of (HG.out _)))))
          refine wpQuiet_nil ?_
          rintro _ ⟨p, rfl⟩
          go_wp2
          go_ret
          exact ⟨ret_bool HN.out.symm, (HK.out.far p).bel⟩
        | false =>
          have hn2 : ¬ c = wrap64 (g + 1) := by simpa using hn
          have HN := Lib.hid (show ∀ j p, j < m + 1 → ls[j]? = some p → goesW vs p = false from fun j p hj hp => by
            by_cases e : j = m
            · subst e; rw [hx1] at hp; cases hp; rw [hgo, hn]; rfl
            · exact hs.out j p (by omega) hp)
          clear hbh hg hgo hx1
          go_wp2_with fail
          generalize hW : wr.alloc (.cells #[.int .i64 r, .int .i64 c] 51) = W at *
          refine wp_region_far (by kernel_rfl) (by kernel_rfl) ?_
          repeat (go_big_quiet_step ((first | (go_at_call 57; exact far_of (HH.out _)) | (go_at_call 58; exact far_of (HG.out _)))))
          refine wpQuiet_nil ?_
          rintro _ ⟨p, rfl⟩
          have KF := Lib.hid ((HK.out.far p).drop2)
          go_wp2
          go_roundw
          case rel => exact ⟨m + 1, by omega, by go_num, KF, HN⟩
          case measure => simp [intOf]; omega
    · have hall := Lib.hid (show compC vs ls = validC vs ls from compC_all fun d hd => by
        obtain ⟨j, hj⟩ := List.mem_iff_getElem?.1 hd
        have hl := (List.getElem?_eq_some_iff.1 hj).1
        exact hs.out j d (by omega) hj)
      have HV := Lib.hid (ref3Valid _ vs ls b wr (HoldsC.mk (hK.out.h (v := .slice A vs.length n) (xs := vs) (by simp)) (hK.out.h (v := .slice B ls.length m0) (xs := ls) (by simp))) (by rw [← hall.out]; exact HB.out))
      go_wp2_with fail
      refine HV.out.mono ?_
      rintro e w1 ⟨rfl, hb1⟩
      have K2 := Lib.hid (hK.out.below hb1)
      clear hb1
      go_wp2
      go_ret
      exact ⟨rfl, K2.out.bel⟩

end

end Go.Proofs.YtfjbocipjmpogaaGreat
