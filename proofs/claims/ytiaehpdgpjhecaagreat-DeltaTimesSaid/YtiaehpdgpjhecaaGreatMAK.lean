/- Several texts in one: ItmE, ItmF, ItmG, CtxA. -/
import Derived.Test.YtiaehpdgpjhecaaGreatMAJ
import Derived.Lib.Bytealg
import Derived.Test.YtiaehpdgpjhecaaGreatMAF
namespace Go.Proofs.YtiaehpdgpjhecaaGreat

section
open Go.RowKit

/-- The dots of all items. -/
def dotsI (l : List It) : List (Int × Int) := l.foldl (fun s x => setL (s ++ dotsM x.2)) []
theorem dotsI_snoc (l : List It) (x : It) : dotsI (l ++ [x]) = setL (dotsI l ++ dotsM x.2) := by simp [dotsI, List.foldl_append]
theorem dotsI_fold : ∀ (l : List It) (s : List (Int × Int)), (∀ x ∈ l, x.2.length ≤ 100) → (l.foldl (fun s x => setL (s ++ dotsM x.2)) s).length ≤ s.length + 100 * l.length
  | [], s, _ => by simp
  | x :: r, s, h => by
    have h1 := setL_len (s ++ dotsM x.2)
    have h2 := dotsI_fold r (setL (s ++ dotsM x.2)) fun y hy => h y (List.mem_cons_of_mem _ hy)
    have h3 := h x (by simp)
    rw [List.length_append, dotsM_len] at h1
    rw [List.foldl_cons, List.length_cons]
    omega
theorem dotsI_len (l : List It) (h : ∀ x ∈ l, x.2.length ≤ 100) : (dotsI l).length ≤ 100 * l.length := by
  have := dotsI_fold l [] h
  rw [List.length_nil, Nat.zero_add] at this
  exact this
/-- A value that reads as items. -/
def HoldsX (w : World) (v : Value) (xs : List ItV) : Prop := ∃ A c, v = .slice A xs.length c ∧ ItemsAt w A xs ∧ xs.length ≤ c ∧ c ≤ maxLen
theorem HoldsX.below {w w' : World} {v : Value} {xs : List ItV} (h : HoldsX w v xs) (hb : Below w.heap.size w w') : HoldsX w' v xs := by
  obtain ⟨A, c, rfl, h1, h2, h3⟩ := h
  exact ⟨A, c, rfl, h1.below hb, h2, h3⟩
theorem HoldsX.nil (w : World) : HoldsX w (.slice none 0 0) [] := ⟨none, 0, rfl, ItemsAt.nil _ _, by simp, by simp [maxLen]⟩
/-- Items in a row of the call's own. -/
abbrev RowT (W : World) (B : Nat) (v : Value) (xs : List ItV) : Prop := W.ownsRow B 50 2 v xs.length (cellsOf encIt xs)
theorem HoldsX.of_own {w : World} {B : Nat} {v : Value} {xs : List ItV} (h : RowT w B v xs) (hk : ∀ x ∈ xs, ItOK w x) : HoldsX w v xs := by
  obtain ⟨A, c, rfl, h1, h2, h3⟩ := SlAt.of_own encIt_len h
  exact ⟨A, c, rfl, ⟨h3, hk⟩, h1, h2⟩

set_option maxHeartbeats 400000 in
theorem refDots9 (A : Option Addr) (xs : List ItV) (cap : Nat) (w : World) (hx : ItemsAt w A xs) (hf : Fits xs) :
    Calls Tryz.prog 95 #[.slice A xs.length cap] w fun e w' => (∃ v, e = .returned v ∧ Holds w' v (dotsI (its xs))) ∧ Below w.heap.size w w' := by
  have hm := hf.1
  have HF := Lib.hid hf.2
  have HX := Lib.hid hx
  clear hx hf
  go_enter Tryz.func95, Tryz.ntmps95
  go_wp2_with fail
  go_loopw [3, 4] (fun s3 i wr => ∃ (k : Nat) (v : Value), k ≤ xs.length ∧ v = s3 ∧ i = .int .i64 k ∧ Hid (Below w.heap.size w wr) ∧ Hid (Holds wr v (dotsI ((its xs).take k)))) (fun _ i _ => xs.length - (intOf i).toNat)
  case atStart => exact ⟨0, _, by omega, rfl, rfl, Below.refl _ _, Holds.nil _⟩
  case round =>
    obtain ⟨k, v, hk, rfl, rfl, hb, hs⟩ := hrel
    by_cases hlt : k < xs.length
    · have i0 : (k : Int) < (xs.length : Int) := by omega
      obtain ⟨g, off, x, rfl, hbl, hx1, _, hc0, hc1, hok⟩ := (HX.out.below hb.out).cells (j := k) hlt
      have hxm := HF.out x (List.mem_of_getElem? hx1)
      have hdl : (dotsI ((its xs).take k)).length ≤ 30000 := by
        have h := dotsI_len ((its xs).take k) fun y hy => by
          obtain ⟨z, hz, rfl⟩ := List.mem_map.1 (List.mem_of_mem_take hy)
          exact (HF.out z hz).2
        have h2 : ((its xs).take k).length ≤ k := List.length_take_le _ _
        omega
      have HE := Lib.hid (show dotsI ((its xs).take (k + 1)) = setL (dotsI ((its xs).take k) ++ dotsM x.ms) from by rw [take_step (its_at hx1), dotsI_snoc]; rfl)
      have HD := Lib.hid (refDots x.A x.ms x.c wr hok.1 (by omega))
      have hx100 := hxm.2
      clear hx1 hok hxm
      go_wp2_with fail
      refine HD.out.mono ?_
      rintro e w1 ⟨⟨v1, rfl, hv1⟩, hb1⟩
      have HV1 := Lib.hid hv1
      have HS := Lib.hid (hs.out.below hb1)
      have HB := Lib.hid (below_trans hb.out hb1)
      clear hv1 hb1 hc0 hc1
      have HU := Lib.hid (show Calls Tryz.prog 152 #[v, v1] w1 (fun e w' => (∃ v, e = .returned v ∧ Holds w' v (setL (dotsI ((its xs).take k) ++ dotsM x.ms))) ∧ Below w1.heap.size w1 w') from by
        obtain ⟨A1, c1, rfl, a1, a2, a3⟩ := HS.out
        obtain ⟨A2, c2, rfl, b1, b2, b3⟩ := HV1.out
        exact refUnion A1 A2 _ _ c1 c2 w1 a1 b1 (by rw [dotsM_len]; omega))
      go_wp2_with fail
      refine HU.out.mono ?_
      rintro e w2 ⟨⟨v2, rfl, hv2⟩, hb2⟩
      have HV2 := Lib.hid (show Holds w2 v2 (dotsI ((its xs).take (k + 1))) from by rw [HE.out]; exact hv2)
      have HB2 := Lib.hid (below_trans HB.out hb2)
      clear hv2 hb2
      go_wp2_with fail
      go_roundw
      case rel => exact ⟨k + 1, v2, by omega, rfl, by go_num, HB2, HV2⟩
      case measure => simp [intOf]; omega
    · obtain rfl : k = xs.length := by omega
      have i0 : ¬ (xs.length : Int) < (xs.length : Int) := by omega
      have HS := Lib.hid (show Holds wr v (dotsI (its xs)) from by have := hs.out; rwa [← its_len xs, List.take_length] at this)
      clear hlt hk
      go_wp2_with fail
      go_ret
      exact ⟨⟨_, rfl, HS.out⟩, hb.out⟩

end

section
open Go.RowKit

theorem step_true {α : Type} {p : α → Bool} {xs : List α} {k : Nat} {x : α} (h : ∀ (j : Nat) (y : α), j < k → xs[j]? = some y → p y = true) (hx : xs[k]? = some x) (he : p x = true) : ∀ (j : Nat) (y : α), j < k + 1 → xs[j]? = some y → p y = true := fun j y hj hy => by
  rcases Nat.lt_or_ge j k with h1 | h1
  · exact h j y h1 hy
  · obtain rfl : j = k := by omega
    rw [hx] at hy; cases hy; exact he

/-- What holds all along: the item in its block, the items where they lay. -/
structure KW (w : World) (x : ItV) (A : Option Addr) (xs : List ItV) (W : World) : Prop where
  blk : BlkI W w.heap.size x
  bel : Below w.heap.size w W
  xs0 : ItemsAt w A xs
  ok0 : ItOK w x
section
variable {w W W' : World} {x : ItV} {A : Option Addr} {xs : List ItV}
theorem KW.items (h : KW w x A xs W) : ItemsAt W A xs := h.xs0.below h.bel
theorem KW.ok (h : KW w x A xs W) : ItOK W x := h.ok0.below h.bel
theorem KW.next (h : KW w x A xs W) (hb : Below W.heap.size W W') : KW w x A xs W' := ⟨h.blk.below hb, below_trans h.bel hb, h.xs0, h.ok0⟩
theorem KW.alloc (h : KW w x A xs W) (o : Obj) : KW w x A xs (W.alloc o) := h.next ((Below.refl _ _).alloc (Nat.le_refl _) _)
theorem KW.drew (h : KW w x A xs W) : KW w x A xs W.drew := h.next (Below.refl _ _).drew
theorem KW.size (h : KW w x A xs W) : w.heap.size + 1 ≤ W.heap.size := h.blk.lt
theorem KW.grown (h : KW w x A xs W) {row : Option Nat} (hg : W.grownBy W' row) (hr : ∀ k, row = some k → w.heap.size + 1 ≤ k) : KW w x A xs W' := by
  have hz := h.size
  exact ⟨(hg.block _ h.blk.lt (fun e => by have := hr _ e.symm; omega)).trans h.blk, h.bel.grown hg (by omega) (fun k hk => by have := hr k hk; omega), h.xs0, h.ok0⟩
theorem KW.sp (h : KW w x A xs W) : W.cell? ⟨w.heap.size, 0, none⟩ = some (.string ⟨x.nm.toArray⟩) ∧ W.cell? ⟨w.heap.size, 1, none⟩ = some (.slice x.A x.ms.length x.c) ∧ w.heap.size < W.heap.size ∧ KW w x A xs W := ⟨h.blk.cell0, h.blk.cell1, h.blk.lt, h⟩
theorem KW.new (hx : ItemsAt w A xs) (ho : ItOK w x) : KW w x A xs (w.alloc (.cells #[.string ⟨x.nm.toArray⟩, .slice x.A x.ms.length x.c] 50)) := ⟨BlkI.new w x, (Below.refl _ w).alloc (Nat.le_refl _) _, hx, ho⟩
end

end

section
open Go.RowKit

theorem bytesLess_eq : ∀ (a b : List UInt8), Op.bytesLess a b = beforeN a b
  | [], [] => rfl
  | [], _ :: _ => rfl
  | _ :: _, [] => rfl
  | a :: r, b :: s => by
    rw [Op.bytesLess, beforeN, bytesLess_eq r s]
    by_cases h : a = b
    · subst h; simp
    · rw [if_neg h]; simp [h, UInt8.lt_iff_toNat_lt]
set_option maxHeartbeats 2000000 in
theorem equalMarks (A B : Option Addr) (xs ys : List Mk) (cap cap' : Nat) (w : World) (hx : MarksAt w A xs) (hy : MarksAt w B ys) (hm : xs.length ≤ maxLen) (_ : ys.length ≤ maxLen) :
    Calls Tryz.prog 90 #[.slice A xs.length cap, .slice B ys.length cap'] w (OneB (.bool (decide (xs = ys))) w) := by
  unfold maxLen at hm
  by_cases hl : xs.length = ys.length
  · have hl' : ((xs.length : Int) != (ys.length : Int)) = false := neF (by omega)
    have HL := Lib.hid hl
    clear hl
    go_enter Tryz.func90, Tryz.ntmps90
    go_wp2_with fail
    go_loopw [5, 13] (fun _ i wr => ∃ m : Nat, m ≤ xs.length ∧ i = .int .i64 m ∧ Below w.heap.size w wr ∧ Hid (∀ j, j < m → xs[j]? = ys[j]?)) (fun _ i _ => xs.length - (intOf i).toNat)
    case atStart => exact ⟨0, by omega, rfl, Below.refl _ _, fun j h => by omega⟩
    case round =>
      obtain ⟨m, hk2, rfl, hb, hs⟩ := hrel
      by_cases hlt : m < xs.length
      · have i0 : (m : Int) < (xs.length : Int) := by omega
        have i1 : (m : Int) < (ys.length : Int) := by have := HL.out; omega
        obtain ⟨g, off, x, rfl, hbl, hx1, _, hc0, hc1, hc2, hc3⟩ := (SlAt.below hx hb).mark (j := m) hlt
        obtain ⟨g', off', x', rfl, hbl', hx2, _, hd0, hd1, hd2, hd3⟩ := (SlAt.below hy hb).mark (j := m) (by have := HL.out; omega)
        have l0 := fun p => cell_far (p := p) hbl hc0
        have l1 := fun p => cell_far (p := p) hbl hc1
        have l2 := fun p => cell_far (p := p) hbl hc2
        have l3 := fun p => cell_far (p := p) hbl hc3
        have m0 := fun p => cell_far (p := p) hbl' hd0
        have m1 := fun p => cell_far (p := p) hbl' hd1
        have m2 := fun p => cell_far (p := p) hbl' hd2
        have m3 := fun p => cell_far (p := p) hbl' hd3
        clear hc0 hc1 hc2 hc3 hd0 hd1 hd2 hd3
        have hne := fun w => neqMark x x' w
        by_cases he : x = x'
        · have HE := Lib.hid (same_to hs.out hx1 (by rw [hx2, he]))
          rw [decide_eq_true he] at hne
          obtain ⟨r, c, q, t⟩ := x
          obtain ⟨r', c', q', t'⟩ := x'
          simp only [mkV, Bool.not_true] at hne
          clear hx1 hx2 he
          go_wp2_with fail
          refine wp_region_far (by kernel_rfl) (by kernel_rfl) ?_
          repeat (go_big_quiet_step ((fail)))
          refine wpQuiet_nil ?_
          rintro _ ⟨p, rfl⟩
          go_wp2_with fail
          go_roundw
          case rel => exact ⟨m + 1, by omega, by go_num, hb.trans ((below_far wr p).mono hb.size), HE⟩
          case measure => simp [intOf]; omega
        · have HN := Lib.hid (show false = decide (xs = ys) from (decide_eq_false (ne_at hx1 hx2 he)).symm)
          rw [decide_eq_false he] at hne
          obtain ⟨r, c, q, t⟩ := x
          obtain ⟨r', c', q', t'⟩ := x'
          simp only [mkV, Bool.not_false] at hne
          clear hx1 hx2 he
          go_wp2_with fail
          refine wp_region_far (by kernel_rfl) (by kernel_rfl) ?_
          repeat (go_big_quiet_step ((fail)))
          refine wpQuiet_nil ?_
          rintro _ ⟨p, rfl⟩
          go_wp2_with fail
          go_ret
          exact OneB.bool HN.out (hb.trans ((below_far wr p).mono hb.size))
      · obtain rfl : m = xs.length := by omega
        have i0 : ¬ (xs.length : Int) < (xs.length : Int) := by omega
        have HN := Lib.hid (show true = decide (xs = ys) from (decide_eq_true (same_all HL.out hs.out)).symm)
        clear hlt hk2
        go_wp2_with fail
        go_ret
        exact OneB.bool HN.out hb
  · have hl' : ((xs.length : Int) != (ys.length : Int)) = true := neT (by omega)
    have HN := Lib.hid (show false = decide (xs = ys) from (decide_eq_false (fun e => hl (by rw [e]))).symm)
    clear hl
    go_enter Tryz.func90, Tryz.ntmps90
    go_wp2_with fail
    go_ret
    exact OneB.bool HN.out (Below.refl _ _)

set_option maxHeartbeats 1000000 in
theorem equal1 (x y : ItV) (q : Bool) (w : World) (hx : ItOK w x) (hy : ItOK w y) (hq : decide (x.it = y.it) = q) :
    Calls Tryz.prog 89 #[mkIt x, mkIt y] w (OneB (.bool q) w) := by
  have h1 : Below w.heap.size w ((w.alloc (.cells #[.string ⟨x.nm.toArray⟩, .slice x.A x.ms.length x.c] 50)).alloc (.cells #[.string ⟨y.nm.toArray⟩, .slice y.A y.ms.length y.c] 50)) := ((Below.refl _ w).alloc (Nat.le_refl _) _).alloc (by simp) _
  have HB := Lib.hid h1
  have HE := Lib.hid fun W (h : Below w.heap.size w W) => equalMarks x.A y.A x.ms y.ms x.c y.c W (SlAt.below hx.1 h) (SlAt.below hy.1 h) hx.len hy.len
  clear h1 hx hy
  by_cases hn : x.nm = y.nm
  · have hnb : (x.nm == y.nm) = true := by simp [hn]
    have HQ := Lib.hid (show decide (x.ms = y.ms) = q from by rw [← hq]; simp [ItV.it, hn])
    clear hq hn
    go_enter Tryz.func89, Tryz.ntmps89
    go_wp2_with fail
    refine (HE.out _ HB.out).mono ?_
    rintro e w1 ⟨rfl, hb⟩
    have HB2 := Lib.hid (below_trans HB.out hb)
    clear hb
    go_wp2_with fail
    go_ret
    exact OneB.bool HQ.out HB2.out
  · have hnb : (x.nm == y.nm) = false := by simp [hn]
    have HQ := Lib.hid (show false = q from by rw [← hq]; simp [ItV.it, hn])
    clear hq hn
    go_enter Tryz.func89, Tryz.ntmps89
    go_wp2_with fail
    go_ret
    exact OneB.bool HQ.out HB.out

set_option maxHeartbeats 2000000 in
theorem equalFunc (A B : Option Addr) (xs ys : List ItV) (cap cap' : Nat) (w : World) (hx : ItemsAt w A xs) (hy : ItemsAt w B ys) (hm : xs.length ≤ 100000) (_ : ys.length ≤ 100000) :
    Calls Tryz.prog 88 #[.slice A xs.length cap, .slice B ys.length cap', .func (.func 89) #[] #[]] w (OneB (.bool (decide (its xs = its ys))) w) := by
  have HX := Lib.hid hx
  have HY := Lib.hid hy
  clear hx hy
  by_cases hl : xs.length = ys.length
  · have hl' : ((xs.length : Int) != (ys.length : Int)) = false := neF (by omega)
    have HL := Lib.hid hl
    clear hl
    go_enter Tryz.func88, Tryz.ntmps88
    go_wp2_with fail
    go_loopw [7, 8, 9, 17] (fun _ _ _ i wr => ∃ m : Nat, m ≤ xs.length ∧ i = .int .i64 m ∧ Below w.heap.size w wr ∧ Hid (∀ j, j < m → (its xs)[j]? = (its ys)[j]?)) (fun _ _ _ i _ => xs.length - (intOf i).toNat)
    case atStart => exact ⟨0, by omega, rfl, Below.refl _ _, fun j h => by omega⟩
    case round =>
      obtain ⟨m, hk2, rfl, hb, hs⟩ := hrel
      by_cases hlt : m < xs.length
      · have i0 : (m : Int) < (xs.length : Int) := by omega
        have i1 : (m : Int) < (ys.length : Int) := by have := HL.out; omega
        obtain ⟨g, off, x, rfl, hbl, hx1, _, hc0, hc1, hok⟩ := (HX.out.below hb).cells (j := m) hlt
        obtain ⟨g', off', y, rfl, hbl', hx2, _, hd0, hd1, hok'⟩ := (HY.out.below hb).cells (j := m) (by have := HL.out; omega)
        have hba : Below wr.heap.size wr ((wr.alloc (.cells #[.string ⟨x.nm.toArray⟩, .slice x.A x.ms.length x.c] 50)).alloc (.cells #[.string ⟨y.nm.toArray⟩, .slice y.A y.ms.length y.c] 50)) := ((Below.refl _ wr).alloc (Nat.le_refl _) _).alloc (by simp) _
        have HBA := Lib.hid hba
        obtain ⟨q, hq⟩ : ∃ q, decide (x.it = y.it) = q := ⟨_, rfl⟩
        have HE := Lib.hid (equal1 x y q _ (hok.below hba) (hok'.below hba) hq)
        clear hba hok hok'
        cases q with
        | true =>
          have HS := Lib.hid (same_to (x := x.it) hs.out (its_at hx1) (by rw [its_at hx2, of_decide_eq_true hq]))
          clear hx1 hx2 hq
          go_wp2_with fail
          refine HE.out.mono ?_
          rintro e w1 ⟨rfl, hb1⟩
          have HB := Lib.hid (hb.trans ((below_trans HBA.out hb1).mono hb.size))
          clear hb1 hc0 hc1 hd0 hd1
          go_wp2_with fail
          go_roundw
          case rel => exact ⟨m + 1, by omega, by go_num, HB.out, HS⟩
          case measure => simp [intOf]; omega
        | false =>
          have HN := Lib.hid (show false = decide (its xs = its ys) from (decide_eq_false (ne_at (its_at hx1) (its_at hx2) fun e => of_decide_eq_false hq e)).symm)
          clear hx1 hx2 hq
          go_wp2_with fail
          refine HE.out.mono ?_
          rintro e w1 ⟨rfl, hb1⟩
          have HB := Lib.hid (hb.trans ((below_trans HBA.out hb1).mono hb.size))
          clear hb1 hc0 hc1 hd0 hd1
          go_wp2_with fail
          go_ret
          exact OneB.bool HN.out HB.out
      · obtain rfl : m = xs.length := by omega
        have i0 : ¬ (xs.length : Int) < (xs.length : Int) := by omega
        have HN := Lib.hid (show true = decide (its xs = its ys) from (decide_eq_true (same_all (by rw [its_len, its_len]; exact HL.out) (by rw [its_len]; exact hs.out))).symm)
        clear hlt hk2
        go_wp2_with fail
        go_ret
        exact OneB.bool HN.out hb
  · have hl' : ((xs.length : Int) != (ys.length : Int)) = true := neT (by omega)
    have HN := Lib.hid (show false = decide (its xs = its ys) from (decide_eq_false (fun e => hl (by rw [← its_len xs, e, its_len]))).symm)
    clear hl
    go_enter Tryz.func88, Tryz.ntmps88
    go_wp2_with fail
    go_ret
    exact OneB.bool HN.out (Below.refl _ _)
set_option maxHeartbeats 400000 in
theorem itemsEqual (A B : Option Addr) (xs ys : List ItV) (cap cap' : Nat) (w : World) (hx : ItemsAt w A xs) (hy : ItemsAt w B ys) (hm : xs.length ≤ 100000) (hm' : ys.length ≤ 100000) :
    Calls Tryz.prog 40 #[.slice A xs.length cap, .slice B ys.length cap'] w (OneB (.bool (decide (its xs = its ys))) w) := by
  have H := Lib.hid (equalFunc A B xs ys cap cap' w hx hy hm hm')
  generalize decide (its xs = its ys) = q at *
  go_enter Tryz.func40, Tryz.ntmps40
  go_wp2_with fail
  refine H.out.mono ?_
  rintro e w1 ⟨rfl, hb⟩
  have HB := Lib.hid hb
  clear hb
  go_wp2_with fail
  go_ret
  exact OneB.bool rfl HB.out

set_option maxHeartbeats 400000 in
theorem valid1 (m : Mk) (w : World) : Calls Tryz.prog 141 #[mkV m] w (OneB (.bool (!validM m)) w) := by
  have H := Lib.hid fun W => qtyMark m W
  go_enter Tryz.func141, Tryz.ntmps141
  go_wp2_with fail
  refine (H.out _).mono ?_
  rintro e w1 ⟨rfl, hb1⟩
  have HB := Lib.hid (below_trans ((Below.refl _ w).alloc (Nat.le_refl _) _) hb1)
  clear hb1
  go_wp2_with fail
  go_ret
  exact OneB.bool (by simp) HB.out

set_option maxHeartbeats 1000000 in
theorem indexMarksV (A : Option Addr) (xs : List Mk) (cap : Nat) (w : World) (hx : MarksAt w A xs) (hm : xs.length ≤ maxLen) :
    Calls Tryz.prog 193 #[.slice A xs.length cap, .func (.func 141) #[] #[]] w fun e w' =>
      ((∃ i : Nat, e = .returned (.int .i64 i) ∧ xs.all validM = false) ∨ (e = .returned (.int .i64 (-1)) ∧ xs.all validM = true)) ∧ Below w.heap.size w w' := by
  unfold maxLen at hm
  go_enter Tryz.func193, Tryz.ntmps193
  go_wp2
  go_loopw [5, 8] (fun _ i wr => ∃ m : Nat, m ≤ xs.length ∧ i = .int .i64 m ∧ Below w.heap.size w wr ∧ Hid (∀ (j : Nat) (y : Mk), j < m → xs[j]? = some y → validM y = true)) (fun _ i _ => xs.length - (intOf i).toNat)
  case atStart => exact ⟨0, by omega, rfl, Below.refl _ _, fun j q h => by omega⟩
  case round =>
    obtain ⟨m, hk2, rfl, hb, hs⟩ := hrel
    by_cases hlt : m < xs.length
    · obtain ⟨b, off, y, rfl, hbl, hx1, _, hc0, hc1, hc2, hc3⟩ := (hx.below hb).mark (j := m) hlt
      have hr := fun W => valid1 y W
      cases hq : validM y
      · rw [hq] at hr
        have HR := Lib.hid hr
        have HV := Lib.hid (all_no hx1 hq)
        clear hr hq hx1
        go_wp2_with fail
        refine (HR.out _).mono ?_
        rintro e w1 ⟨rfl, hb1⟩
        clear hc0 hc1 hc2 hc3
        go_wp2
        go_ret
        exact ⟨.inl ⟨m, rfl, HV.out⟩, hb.trans (hb1.mono hb.size)⟩
      · rw [hq] at hr
        have HR := Lib.hid hr
        have HV := Lib.hid (step_all hs.out hx1 hq)
        clear hr hq hx1
        go_wp2_with fail
        refine (HR.out _).mono ?_
        rintro e w1 ⟨rfl, hb1⟩
        clear hc0 hc1 hc2 hc3
        go_wp2
        go_roundw
        case rel => exact ⟨m + 1, by omega, by go_num, hb.trans (hb1.mono hb.size), HV⟩
        case measure => simp [intOf]; omega
    · obtain rfl : m = xs.length := by omega
      have HV := Lib.hid (all_yes hs.out)
      go_wp2
      go_ret
      exact ⟨.inr ⟨rfl, HV.out⟩, hb⟩
set_option maxHeartbeats 400000 in
theorem containsMarksV (A : Option Addr) (xs : List Mk) (cap : Nat) (w : World) (hx : MarksAt w A xs) (hm : xs.length ≤ maxLen) :
    Calls Tryz.prog 140 #[.slice A xs.length cap, .func (.func 141) #[] #[]] w (OneB (.bool (!xs.all validM)) w) := by
  have H := Lib.hid (indexMarksV A xs cap w hx hm)
  go_enter Tryz.func140, Tryz.ntmps140
  go_wp2_with fail
  refine H.out.mono ?_
  rintro e w1 ⟨h, hb⟩
  have HB := Lib.hid hb
  clear hb
  rcases h with ⟨i, rfl, h⟩ | ⟨rfl, h⟩
  · have HV := Lib.hid h
    have i0 : (0 : Int) ≤ (i : Int) := by omega
    clear h
    go_wp2_with fail
    go_ret
    exact OneB.bool (by rw [HV.out]; rfl) HB.out
  · have HV := Lib.hid h
    clear h
    go_wp2_with fail
    go_ret
    exact OneB.bool (by rw [HV.out]; rfl) HB.out

end

section
open Go.RowKit

/-- What holds all along: some cells, the heap as it lay, some lists of dots. -/
def KX (w0 : World) (C : List (Addr × Value)) (L : List (Value × List (Int × Int))) (W : World) : Prop :=
  (∀ p ∈ C, W.cell? p.1 = some p.2 ∧ p.1.block < W.heap.size) ∧ Below w0.heap.size w0 W ∧ ∀ p ∈ L, Holds W p.1 p.2
section
variable {w0 : World} {C : List (Addr × Value)} {L : List (Value × List (Int × Int))} {W W' : World}
theorem KX.below (h : KX w0 C L W) (hb : Below W.heap.size W W') : KX w0 C L W' :=
  ⟨fun p hp => ⟨(hb.cell (h.1 p hp).2).trans (h.1 p hp).1, Nat.lt_of_lt_of_le (h.1 p hp).2 hb.size⟩, below_trans h.2.1 hb, fun p hp => (h.2.2 p hp).below hb⟩
theorem KX.alloc (h : KX w0 C L W) (o : Obj) : KX w0 C L (W.alloc o) := h.below ((Below.refl _ W).alloc (Nat.le_refl _) o)
theorem KX.drew (h : KX w0 C L W) : KX w0 C L W.drew := h.below (Below.refl _ W).drew
theorem KX.far (h : KX w0 C L W) (p : FarBy) : KX w0 C L (Go.Proofs.YtiaehpdgpjhecaaGreat.far W p) := h.below (below_far W p)
theorem KX.bel (h : KX w0 C L W) : Below w0.heap.size w0 W := h.2.1
theorem KX.cell {a : Addr} {v : Value} (h : KX w0 C L W) (hm : (a, v) ∈ C) : W.cell? a = some v := (h.1 _ hm).1
theorem KX.lt {a : Addr} {v : Value} (h : KX w0 C L W) (hm : (a, v) ∈ C) : a.block < W.heap.size := (h.1 _ hm).2
theorem KX.h {v : Value} {xs : List (Int × Int)} (h : KX w0 C L W) (hm : (v, xs) ∈ L) : Holds W v xs := h.2.2 _ hm
theorem KX.push {v : Value} {xs : List (Int × Int)} (h : KX w0 C L W) (hv : Holds W v xs) : KX w0 C ((v, xs) :: L) W :=
  ⟨h.1, h.2.1, fun p hp => by
    rcases List.mem_cons.1 hp with rfl | hp
    · exact hv
    · exact h.2.2 p hp⟩
theorem KX.nil (W : World) : KX W [] [] W := ⟨(fun p hp => by cases hp), Below.refl _ _, (fun p hp => by cases hp)⟩
/-- A block of two cells is laid. -/
theorem KX.box (h : KX w0 C L W) (x y : Value) (t : TypeId) : KX w0 ((⟨W.heap.size, 0, none⟩, x) :: (⟨W.heap.size, 1, none⟩, y) :: C) L (W.alloc (.cells #[x, y] t)) := by
  have h2 := h.alloc (.cells #[x, y] t)
  refine ⟨fun p hp => ?_, h2.2.1, h2.2.2⟩
  rcases List.mem_cons.1 hp with rfl | hp
  · exact ⟨by go_simp, by simp⟩
  · rcases List.mem_cons.1 hp with rfl | hp
    · exact ⟨by go_simp, by simp⟩
    · exact h2.1 p hp
end

set_option maxHeartbeats 1000000 in
theorem ref3Dots (A : Option Addr) (xs : List (Int × Int)) (cap : Nat) (w : World) (hx : DotsAt w A xs) (hm : xs.length ≤ maxLen) :
    Calls Tryz.prog 202 #[.slice A xs.length cap] w fun e w' => e = .returned (.bool (okL xs)) ∧ Below w.heap.size w w' := by
  unfold maxLen at hm
  go_enter Tryz.func202, Tryz.ntmps202
  go_wp2
  go_loopw [3] (fun i wr => ∃ m : Nat, m ≤ xs.length ∧ i = .int .i64 m ∧ Below w.heap.size w wr ∧ Hid (∀ j p, j < m → xs[j]? = some p → validD p.1 p.2 = true)) (fun i _ => xs.length - (intOf i).toNat)
  case atStart => exact ⟨0, by omega, rfl, Below.refl _ _, fun j p h => by omega⟩
  case round =>
    obtain ⟨m, hk2, rfl, hb, hs⟩ := hrel
    by_cases hlt : m < xs.length
    · obtain ⟨b, off, r, c, rfl, hbl, hx1, hc0, hc1⟩ := (hx.below hb).dot (j := m) hlt
      have hr := fun W => refValid r c W
      cases hq : validD r c
      · rw [hq] at hr
        have HR := Lib.hid hr
        have HV := Lib.hid (show okL xs = false from by
          cases e : okL xs
          · rfl
          · have := (okL_iff xs).1 e (r, c) (List.mem_of_getElem? hx1)
            rw [hq] at this; cases this)
        clear hr hq hx1
        go_wp2_with fail
        refine (HR.out _).mono ?_
        rintro e w1 ⟨rfl, hb1⟩
        clear hc0 hc1
        go_wp2
        go_ret
        exact ⟨ret_bool HV.out.symm, hb.trans (hb1.mono hb.size)⟩
      · rw [hq] at hr
        have HR := Lib.hid hr
        have HV := Lib.hid (show ∀ j p, j < m + 1 → xs[j]? = some p → validD p.1 p.2 = true from fun j p hj hp => by
          by_cases e : j = m
          · subst e; rw [hx1] at hp; cases hp; exact hq
          · exact hs.out j p (by omega) hp)
        clear hr hq hx1
        go_wp2_with fail
        refine (HR.out _).mono ?_
        rintro e w1 ⟨rfl, hb1⟩
        clear hc0 hc1
        go_wp2
        go_roundw
        case rel => exact ⟨m + 1, by omega, by go_num, hb.trans (hb1.mono hb.size), HV⟩
        case measure => simp [intOf]; omega
    · have HV := Lib.hid (show okL xs = true from (okL_iff xs).2 fun p hp => by
        obtain ⟨j, hj⟩ := List.mem_iff_getElem?.1 hp
        have hl := (List.getElem?_eq_some_iff.1 hj).1
        exact hs.out j p (by omega) hj)
      go_wp2
      go_ret
      exact ⟨ret_bool HV.out.symm, hb⟩

theorem ref3Dots_h (v : Value) (xs : List (Int × Int)) (b : Bool) (w : World) (h : Holds w v xs) (hb : okL xs = b) :
    Calls Tryz.prog 202 #[v] w fun e w' => e = .returned (.bool b) ∧ Below w.heap.size w w' := by
  obtain ⟨A, c, rfl, h1, h2, h3⟩ := h
  subst hb
  exact ref3Dots A xs c w h1 (Nat.le_trans h2 h3)
theorem refIsSet_h3 (v : Value) (xs : List (Int × Int)) (b : Bool) (w : World) (h : Holds w v xs) (hb : isSetB xs = b) :
    Calls Tryz.prog 201 #[v] w fun e w' => e = .returned (.bool b) ∧ Below w.heap.size w w' := by
  obtain ⟨A, c, rfl, h1, h2, h3⟩ := h
  subst hb
  exact refIsSet A xs c w h1 (Nat.le_trans h2 h3)
theorem ref2Valid_h3 (v : Value) (xs : List (Int × Int)) (b : Bool) (w : World) (h : Holds w v xs) (hb : validV xs = b) :
    Calls Tryz.prog 200 #[v] w fun e w' => e = .returned (.bool b) ∧ Below w.heap.size w w' := by
  obtain ⟨A, c, rfl, h1, h2, h3⟩ := h
  subst hb
  exact ref2Valid A xs c w h1 (Nat.le_trans h2 h3)
theorem same_h3 (v v' : Value) (xs ys : List (Int × Int)) (b : Bool) (w : World) (h : Holds w v xs) (h' : Holds w v' ys) (hb : decide (xs = ys) = b) :
    Calls Tryz.prog 91 #[v, v'] w fun e w' => e = .returned (.bool b) ∧ Below w.heap.size w w' := by
  obtain ⟨A, c, rfl, h1, h2, h3⟩ := h
  obtain ⟨A', c', rfl, h1', h2', h3'⟩ := h'
  subst hb
  exact refSame A A' xs ys c c' w h1 h1' (Nat.le_trans h2 h3) (Nat.le_trans h2' h3')

/-- A context that is handed in. -/
def HoldsC (W : World) (v : Value) (vs ls : List (Int × Int)) : Prop := ∃ A n B m, v = .agg #[.slice A vs.length n, .slice B ls.length m] ∧ Holds W (.slice A vs.length n) vs ∧ Holds W (.slice B ls.length m) ls
theorem HoldsC.below {W W' : World} {v : Value} {vs ls : List (Int × Int)} (h : HoldsC W v vs ls) (hb : Below W.heap.size W W') : HoldsC W' v vs ls := by
  obtain ⟨A, n, B, m, rfl, h1, h2⟩ := h
  exact ⟨A, n, B, m, rfl, h1.below hb, h2.below hb⟩
theorem HoldsC.mk {W : World} {x y : Value} {vs ls : List (Int × Int)} (h : Holds W x vs) (h' : Holds W y ls) : HoldsC W (.agg #[x, y]) vs ls := by
  have h0 := h
  have h0' := h'
  obtain ⟨A, n, rfl, _⟩ := h
  obtain ⟨B, m, rfl, _⟩ := h'
  exact ⟨A, n, B, m, rfl, h0, h0'⟩

set_option maxHeartbeats 1000000 in
theorem ref3Valid (v : Value) (vs ls : List (Int × Int)) (b : Bool) (w : World) (h : HoldsC w v vs ls) (hb : validC vs ls = b) :
    Calls Tryz.prog 154 #[v] w fun e w' => e = .returned (.bool b) ∧ Below w.heap.size w w' := by
  obtain ⟨A, n, B, m, rfl, h1, h2⟩ := h
  have K := Lib.hid ((((KX.nil w).push h1).push h2).box (.slice A vs.length n) (.slice B ls.length m) 25)
  clear h1 h2
  unfold validC at hb
  cases hv : validV vs with
  | false =>
    rw [hv] at hb
    have HB := Lib.hid (show false = b from hb)
    have HV := Lib.hid fun v W (h : Holds W v vs) => ref2Valid_h3 v vs false W h hv
    clear hb hv
    go_enter Tryz.func154, Tryz.ntmps154
    go_wp2_with fail
    refine (HV.out _ _ (K.out.h (by simp))).mono ?_
    rintro e w1 ⟨rfl, hb1⟩
    have K1 := Lib.hid (K.out.below hb1)
    clear hb1
    go_wp2
    go_ret
    exact ⟨ret_bool HB.out, K1.out.bel⟩
  | true =>
    have HV := Lib.hid fun v W (h : Holds W v vs) => ref2Valid_h3 v vs true W h hv
    rw [hv] at hb
    cases hs : isSetB ls with
    | false =>
      rw [hs] at hb
      have HB := Lib.hid (show false = b from hb)
      have HS := Lib.hid fun v W (h : Holds W v ls) => refIsSet_h3 v ls false W h hs
      clear hb hv hs
      go_enter Tryz.func154, Tryz.ntmps154
      go_wp2_with fail
      refine (HV.out _ _ (K.out.h (by simp))).mono ?_
      rintro e w1 ⟨rfl, hb1⟩
      have K1 := Lib.hid (K.out.below hb1)
      have k2 := K1.out.cell (a := ⟨w.heap.size, 1, none⟩) (v := .slice B ls.length m) (by simp)
      clear hb1
      go_wp2_with fail
      refine (HS.out _ _ (K1.out.h (by simp))).mono ?_
      rintro e w2 ⟨rfl, hb1⟩
      have K2 := Lib.hid (K1.out.below hb1)
      clear hb1 k2
      go_wp2
      go_ret
      exact ⟨ret_bool HB.out, K2.out.bel⟩
    | true =>
      have HS := Lib.hid fun v W (h : Holds W v ls) => refIsSet_h3 v ls true W h hs
      rw [hs] at hb
      have HB := Lib.hid (show okL ls = b from hb)
      have HD := Lib.hid fun v W (h : Holds W v ls) => ref3Dots_h v ls b W h HB.out
      clear hb hv hs
      go_enter Tryz.func154, Tryz.ntmps154
      go_wp2_with fail
      refine (HV.out _ _ (K.out.h (by simp))).mono ?_
      rintro e w1 ⟨rfl, hb1⟩
      have K1 := Lib.hid (K.out.below hb1)
      have k2 := K1.out.cell (a := ⟨w.heap.size, 1, none⟩) (v := .slice B ls.length m) (by simp)
      clear hb1
      go_wp2_with fail
      refine (HS.out _ _ (K1.out.h (by simp))).mono ?_
      rintro e w2 ⟨rfl, hb1⟩
      have K2 := Lib.hid (K1.out.below hb1)
      clear k2
      have k2 := K2.out.cell (a := ⟨w.heap.size, 1, none⟩) (v := .slice B ls.length m) (by simp)
      clear hb1
      go_wp2_with fail
      refine (HD.out _ _ (K2.out.h (by simp))).mono ?_
      rintro e w3 ⟨rfl, hb1⟩
      have K3 := Lib.hid (K2.out.below hb1)
      clear hb1 k2
      go_wp2
      go_ret
      exact ⟨rfl, K3.out.bel⟩

set_option maxHeartbeats 1000000 in
theorem ref3Equal (v v' : Value) (vs ls vs' ls' : List (Int × Int)) (b : Bool) (w : World) (h : HoldsC w v vs ls) (h' : HoldsC w v' vs' ls') (hb : (decide (vs = vs') && decide (ls = ls')) = b) :
    Calls Tryz.prog 41 #[v, v'] w fun e w' => e = .returned (.bool b) ∧ Below w.heap.size w w' := by
  obtain ⟨A, n, B, m, rfl, h1, h2⟩ := h
  obtain ⟨A', n', B', m', rfl, h1', h2'⟩ := h'
  have K := ((((((KX.nil w).push h1).push h2).push h1').push h2').box (.slice A vs.length n) (.slice B ls.length m) 25).box (.slice A' vs'.length n') (.slice B' ls'.length m') 25
  rw [World.size_alloc] at K
  have K := Lib.hid K
  clear h1 h2 h1' h2'
  cases hv : decide (vs = vs') with
  | false =>
    rw [hv] at hb
    have HB := Lib.hid (show false = b from hb)
    have HV := Lib.hid fun v v' W (h : Holds W v vs) (h' : Holds W v' vs') => same_h3 v v' vs vs' false W h h' hv
    clear hb hv
    go_enter Tryz.func41, Tryz.ntmps41
    go_wp2_with fail
    refine (HV.out _ _ _ (K.out.h (by simp)) (K.out.h (by simp))).mono ?_
    rintro e w1 ⟨rfl, hb1⟩
    have K1 := Lib.hid (K.out.below hb1)
    clear hb1
    go_wp2
    go_ret
    exact ⟨ret_bool HB.out, K1.out.bel⟩
  | true =>
    have HV := Lib.hid fun v v' W (h : Holds W v vs) (h' : Holds W v' vs') => same_h3 v v' vs vs' true W h h' hv
    rw [hv, Bool.true_and] at hb
    have HS := Lib.hid fun v v' W (h : Holds W v ls) (h' : Holds W v' ls') => same_h3 v v' ls ls' b W h h' hb
    clear hb hv
    go_enter Tryz.func41, Tryz.ntmps41
    go_wp2_with fail
    refine (HV.out _ _ _ (K.out.h (by simp)) (K.out.h (by simp))).mono ?_
    rintro e w1 ⟨rfl, hb1⟩
    have K1 := Lib.hid (K.out.below hb1)
    have k2 := K1.out.cell (a := ⟨w.heap.size, 1, none⟩) (v := .slice B ls.length m) (by simp)
    have k3 := K1.out.cell (a := ⟨w.heap.size + 1, 1, none⟩) (v := .slice B' ls'.length m') (by simp)
    clear hb1
    go_wp2_with fail
    refine (HS.out _ _ _ (K1.out.h (by simp)) (K1.out.h (by simp))).mono ?_
    rintro e w2 ⟨rfl, hb1⟩
    have K2 := Lib.hid (K1.out.below hb1)
    clear hb1 k2 k3
    go_wp2
    go_ret
    exact ⟨rfl, K2.out.bel⟩

end

end Go.Proofs.YtiaehpdgpjhecaaGreat
