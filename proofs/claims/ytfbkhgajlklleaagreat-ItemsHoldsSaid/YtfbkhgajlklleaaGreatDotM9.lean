/- Several texts in one: DotD, DotE, DotF, DotG, DotH, DotI, DotJ, DotK, DotL. -/
import Derived.Test.YtfbkhgajlklleaaGreatDotC
import Derived.Test.YtfbkhgajlklleaaGreatSort
import Derived.Deep.AppendLies
namespace Go.Proofs.YtfbkhgajlklleaaGreat
open Go.RowKit Go.Sort

theorem ltOf_cmpD : (ltOf fun p q : Int × Int => cmpD p.1 p.2 q.1 q.2) = ltD := by
  funext p q
  simp only [ltOf, cmpD, ltD]
  by_cases h : lessD p.1 p.2 q.1 q.2 = true
  · simp [h]
  · have h' : lessD p.1 p.2 q.1 q.2 = false := by simpa using h
    by_cases h2 : lessD q.1 q.2 p.1 p.2 = true <;> simp [h', h2]

theorem lessD_iff (a b c d : Int) : lessD a b c d = true ↔ (b < d ∨ b = d ∧ a < c) := by simp [lessD]
theorem swoD : SWO ltD where
  irrefl x := by simp [ltD, lessD]
  trans x y z h1 h2 := by rw [ltD, lessD_iff] at *; omega
  ntrans x y z h1 h2 := by
    rw [← Bool.not_eq_true, ltD, lessD_iff] at *; omega
theorem ltD_total (x y : Int × Int) (h1 : ltD x y = false) (h2 : ltD y x = false) : x = y := by
  rw [← Bool.not_eq_true, ltD, lessD_iff] at *
  apply Prod.ext <;> omega

/-- A list in order, equal ones side by side. -/
def sortedL (xs : List (Int × Int)) : List (Int × Int) := xs.mergeSort fun x y => !ltD y x

theorem cmpLays (blk off size : Nat) (w : World) : CmpLays Tryz.prog 96 #[] encD 2 (fun p q : Int × Int => cmpD p.1 p.2 q.1 q.2) blk off size w :=
  fun _ _ _ _ x y => dotCompareG x.1 x.2 y.1 y.2 _

theorem sortFunc (v : Value) (base : Nat) (xs : List (Int × Int)) (w : World) (h : w.ownsRow base 29 2 v xs.length (cellsOf encD xs)) (hm : xs.length ≤ 1000000) :
    Calls Tryz.prog 95 #[v, .func (.func 96) #[] #[]] w fun e w' => e = .returned (.tuple #[]) ∧ w'.ownsRow base 29 2 v (sortedL xs).length (cellsOf encD (sortedL xs)) ∧ w.grownBy w' v.ownBlock := by
  rcases Nat.eq_zero_or_pos xs.length with h0 | h0
  · have hn : xs = [] := List.eq_nil_of_length_eq_zero h0
    subst hn
    obtain ⟨A, c, rfl, _⟩ := SlAt.of_own encD_len h
    have hc := AnyF.slices_SortFunc_none (P := Tryz.prog) (ρ := Tryz.sortDots_ren) { Tryz.sortDots with } A c (.func (.func 96) #[] #[]) w
    refine Calls.mono (show Calls Tryz.prog 95 _ _ _ from hc) ?_
    rintro e w' ⟨he, rfl⟩
    exact ⟨he, by simpa [sortedL] using h, World.grownBy.refl _ _⟩
  · obtain ⟨g, cap, rfl, hb, hg⟩ := h.form h0
    have eg : ∀ args w, (callFunc 96 args).run Tryz.prog w = .ok (.enter 96 args) w := enters_of Tryz.func96 (by kernel_rfl) rfl
    have hc := AnyQ.slices_SortFunc_total Tryz.sortDots 2 Tryz.isAgg29 Tryz.sizeOf29 encD encD_len encD_one (fun p q : Int × Int => cmpD p.1 p.2 q.1 q.2) (by rw [ltOf_cmpD]; exact swoD) 96 #[] g 0 cap xs.toArray w eg (cmpLays g 0 _ w) (holdsK_of_own encD_len (by omega) h) hg (by simp; omega) (by rw [ltOf_cmpD]; exact ltD_total)
    have hc' : Calls Tryz.prog 95 #[.slice (some ⟨g, 0, none⟩) xs.length cap, .func (.func 96) #[] #[]] w _ := hc
    refine hc'.mono ?_
    rintro e w' ⟨he, n, os, rfl⟩
    obtain ⟨h1, h2⟩ := own_of_sort (m := n) (os := os) (d := (xs.toArray.toList.mergeSort fun x y => !(ltOf fun p q : Int × Int => cmpD p.1 p.2 q.1 q.2) y x).toArray) encD_len (by omega) h (by simp)
    refine ⟨he, ?_, h2⟩
    rw [ltOf_cmpD] at h1 ⊢
    exact h1

/-- Of equal ones side by side one is left. -/
def dd : List (Int × Int) → List (Int × Int)
  | [] => []
  | [x] => [x]
  | x :: y :: r => if x = y then dd (y :: r) else x :: dd (y :: r)
theorem dd_head : ∀ (x : Int × Int) (r : List (Int × Int)), ∃ t, dd (x :: r) = x :: t
  | x, [] => ⟨[], rfl⟩
  | x, y :: r => by
    rw [dd]
    split
    · rename_i h; subst h; exact dd_head x r
    · exact ⟨_, rfl⟩
theorem dd_snoc : ∀ (l : List (Int × Int)) (y x : Int × Int), dd (l ++ [y, x]) = if y = x then dd (l ++ [y]) else dd (l ++ [y]) ++ [x]
  | [], y, x => by
    simp only [List.nil_append, dd]
    split
    · rename_i h; rw [h]
    · rfl
  | [a], y, x => by
    have h := dd_snoc [] y x
    simp only [List.nil_append] at h
    simp only [List.cons_append, List.nil_append]
    rw [dd, h]
    by_cases h1 : a = y <;> by_cases h2 : y = x <;> simp [h1, h2, dd]
  | a :: b :: l, y, x => by
    have h := dd_snoc (b :: l) y x
    simp only [List.cons_append] at h ⊢
    rw [dd, h, dd]
    by_cases h1 : a = b <;> by_cases h2 : y = x <;> simp [h1, h2]
theorem dd_same : ∀ (xs : List (Int × Int)), (∀ j p q, xs[j]? = some p → xs[j + 1]? = some q → p ≠ q) → dd xs = xs
  | [], _ => rfl
  | [_], _ => rfl
  | x :: y :: r, h => by
    rw [dd, if_neg (h 0 x y rfl rfl), dd_same (y :: r) (fun j p q h1 h2 => h (j + 1) p q (by simpa using h1) (by simpa using h2))]
theorem dd_len : ∀ (xs : List (Int × Int)), (dd xs).length ≤ xs.length
  | [] => by simp [dd]
  | [_] => by simp [dd]
  | x :: y :: r => by
    have := dd_len (y :: r)
    rw [dd]
    split <;> simp at this ⊢ <;> omega

theorem dd_step {xs : List (Int × Int)} {m : Nat} {y x : Int × Int} (hy : xs[m]? = some y) (hx : xs[m + 1]? = some x) : dd (xs.take (m + 2)) = if y = x then dd (xs.take (m + 1)) else dd (xs.take (m + 1)) ++ [x] := by
  rw [take_snoc hx, take_snoc hy, List.append_assoc]
  exact dd_snoc (xs.take m) y x

/-- The cells of an element of a row of the call's own. -/
theorem own_dot {w : World} {base g n cap : Nat} {e : TypeId} {ys : List (Int × Int)} (h : w.ownsRow base e 2 (.slice (some ⟨g, 0, none⟩) n cap) n (cellsOf encD ys)) {j : Nat} {r c : Int} (hj : ys[j]? = some (r, c)) :
    w.cell? ⟨g, j * 2, none⟩ = some (.int .i64 r) ∧ w.cell? ⟨g, j * 2 + 1, none⟩ = some (.int .i64 c) ∧ w.frozen? ⟨g, j * 2, none⟩ = false ∧ w.frozen? ⟨g, j * 2 + 1, none⟩ = false := by
  have h0 := h.cells (g := g) rfl (j * 2) _ (cellsOf_at encD_len ys j (r, c) 0 _ hj rfl)
  have h1 := h.cells (g := g) rfl (j * 2 + 1) _ (cellsOf_at encD_len ys j (r, c) 1 _ hj rfl)
  rw [Addr_add] at h0 h1
  exact ⟨by simpa using h0, by simpa using h1, h.frozenAt _, h.frozenAt _⟩

theorem cells_setD (ys : List (Int × Int)) (j : Nat) (r c : Int) (hj : j < ys.length) : ((cellsOf encD ys).set (j * 2) (.int .i64 r)).set (j * 2 + 1) (.int .i64 c) = cellsOf encD (ys.set j (r, c)) := by
  induction ys generalizing j with
  | nil => simp at hj
  | cons y l ih =>
    match j with
    | 0 => simp [cellsOf, encD]
    | j + 1 =>
      have := ih j (by simpa using hj)
      simp only [cellsOf, encD, List.flatMap_cons, List.set_cons_succ, List.cons_append, List.nil_append] at this ⊢
      rw [show (j + 1) * 2 = j * 2 + 1 + 1 by omega, show j * 2 + 1 + 1 + 1 = (j * 2 + 1) + 1 + 1 by omega]
      simp only [List.set_cons_succ]
      rw [this]

/-- One element is stored. -/
theorem own_store {w : World} {base g n cap : Nat} {e : TypeId} {ys : List (Int × Int)} (h : w.ownsRow base e 2 (.slice (some ⟨g, 0, none⟩) n cap) n (cellsOf encD ys)) {j : Nat} {r c : Int} (hj : j < ys.length) :
    ((w.setCell ⟨g, j * 2, none⟩ (.int .i64 r)).setCell ⟨g, j * 2 + 1, none⟩ (.int .i64 c)).ownsRow base e 2 (.slice (some ⟨g, 0, none⟩) n cap) n (cellsOf encD (ys.set j (r, c))) ∧
    w.grownBy ((w.setCell ⟨g, j * 2, none⟩ (.int .i64 r)).setCell ⟨g, j * 2 + 1, none⟩ (.int .i64 c)) (some g) := by
  obtain ⟨h1, g1⟩ := h.stored (j * 2) (.int .i64 r)
  obtain ⟨h2, g2⟩ := h1.stored (j * 2 + 1) (.int .i64 c)
  rw [cells_setD ys j r c hj] at h2
  exact ⟨h2, ⟨g2.os.trans g1.os, g2.tape.trans g1.tape, g2.output.trans g1.output, Nat.le_trans g1.size g2.size, fun i hi hne => (g2.block i (Nat.lt_of_lt_of_le hi g1.size) hne).trans (g1.block i hi hne)⟩⟩

/-- 'clear(s[m:])', s a row of the call's own. -/
theorem run_clear_own {P : Program} {w : World} {base g n cap m k : Nat} {e t : TypeId} {cs : List Value} {z : Value} (ht : P.underlying t = some (.slice e)) (hv : ∀ w, (zeroValue e).run P w = .ok z w) (hz : z.cells.size = k) (h1 : ∀ u ∈ z.cells.toList, u.oneCell' = true)
    (h : w.ownsRow base e k (.slice (some ⟨g, 0, none⟩) n cap) n cs) (hm : m < n) (c : Nat) :
    ∃ w', (∀ ty, (Builtin.clear_ #[t] ty #[.slice (some ⟨g, m * k, none⟩) (n - m) c]).run P w = .ok (.tuple #[]) w') ∧ w'.ownsRow base e k (.slice (some ⟨g, 0, none⟩) m cap) m (cs.take (m * k)) ∧ w.grownBy w' (some g) := by
  have hlen := h.1
  rcases h.2 with ⟨h0, _⟩ | ⟨g', cap', cur, hv', hb, hg, hn, hc, hs, htk⟩
  · cases h0
  · cases hv'
    have hzl : (Builtin.zeroCells z.cells (n - m)).toList.length = (n - m) * k := by simp [Builtin.zeroCells, hz]
    have hle : m * k + (n - m) * k ≤ cur.size := by
      rw [← Nat.add_mul, hs]; exact Nat.mul_le_mul_right k (by omega)
    have hmk : m * k ≤ n * k := Nat.mul_le_mul_right k (by omega)
    have hst := run_storeCells_at P g (m * k) e (Builtin.zeroCells z.cells (n - m)).toList 0 cur w hg (by simp only [Nat.add_zero]; rw [hzl]; exact hle) (by
      intro u hu
      simp only [Builtin.zeroCells, Array.toList_map, List.mem_map] at hu
      obtain ⟨i, hi, rfl⟩ := hu
      have hi' : i < (n - m) * z.cells.size := by simpa using hi
      have hk0 : 0 < z.cells.size := by
        rcases Nat.eq_zero_or_pos z.cells.size with h | h
        · rw [h] at hi'; omega
        · exact h
      refine h1 _ ?_
      rw [getElem!_pos z.cells _ (Nat.mod_lt _ hk0)]
      exact Array.getElem_mem_toList _)
    have hcs : (cur.toList.take (m * k + 0) ++ (Builtin.zeroCells z.cells (n - m)).toList ++ cur.toList.drop (m * k + 0 + (Builtin.zeroCells z.cells (n - m)).toList.length)).length = cur.size := by
      simp only [List.length_append, List.length_take, List.length_drop, hzl, Array.length_toList]; omega
    generalize hZ : (Builtin.zeroCells z.cells (n - m)).toList = Z at *
    refine ⟨w.setRow g (cur.toList.take (m * k + 0) ++ Z ++ cur.toList.drop (m * k + 0 + Z.length)).toArray, ?_, ⟨?_, .inr ⟨g, cap, _, rfl, hb, setRow_heap w g cur _ e (0, 0) hg, by omega, hc, ?_, ?_⟩⟩, ?_⟩
    · intro ty
      obtain ⟨q, hq⟩ : ∃ q, n - m = q + 1 := ⟨n - m - 1, by omega⟩
      rw [hq] at hZ ⊢
      simp only [Builtin.clear_]
      simp [run_underlying ht, hv, hZ, hst]
    · rw [List.length_take, hlen]; omega
    · rw [← hs, List.size_toArray, hcs]
    · rw [← htk, List.take_take, Nat.min_eq_left hmk]
      show List.take (m * k) (cur.toList.take (m * k + 0) ++ Z ++ _) = _
      rw [List.append_assoc, List.take_append_of_le_length (by simp; omega), List.take_take, Nat.add_zero, Nat.min_self]
    · refine ⟨rfl, rfl, rfl, by simp [World.setRow], fun i hi hne => ?_⟩
      simp only [World.setRow, Array.getElem?_modify]
      rw [if_neg (by rintro rfl; exact hne rfl)]

/-- Nothing stands twice side by side among the first m + 1. -/
def NoTwice (xs : List (Int × Int)) (m : Nat) : Prop := ∀ j p q, j < m → xs[j]? = some p → xs[j + 1]? = some q → p ≠ q
theorem NoTwice.dd {xs : List (Int × Int)} {m : Nat} (h : NoTwice xs m) : dd (xs.take (m + 1)) = xs.take (m + 1) := by
  refine dd_same _ fun j p q h1 h2 => ?_
  rw [List.getElem?_take] at h1 h2
  split at h1
  · split at h2
    · exact h j p q (by omega) h1 h2
    · cases h2
  · cases h1
theorem NoTwice.step {xs : List (Int × Int)} {m : Nat} {p q : Int × Int} (h : NoTwice xs m) (hp : xs[m]? = some p) (hq : xs[m + 1]? = some q) (hne : p ≠ q) : NoTwice xs (m + 1) := by
  intro j p' q' hj h1 h2
  by_cases e : j = m
  · subst e; rw [hp] at h1; rw [hq] at h2; cases h1; cases h2; exact hne
  · exact h j p' q' (by omega) h1 h2

theorem grown_trans' {a b c : World} {row : Option Nat} (h : a.grownBy b row) (k : b.grownBy c row) : a.grownBy c row :=
  ⟨k.os.trans h.os, k.tape.trans h.tape, k.output.trans h.output, Nat.le_trans h.size k.size, fun i hi hne => (k.block i (Nat.lt_of_lt_of_le hi h.size) hne).trans (h.block i hi hne)⟩
theorem get_tail {α : Type} {P xs : List α} {j : Nat} (h : P.length ≤ j) : (P ++ xs.drop P.length)[j]? = xs[j]? := by
  rw [List.getElem?_append_right h, List.getElem?_drop]
  congr 1; omega
theorem set_tail {α : Type} {P xs : List α} {x : α} (h : P.length < xs.length) : (P ++ xs.drop P.length).set P.length x = (P ++ [x]) ++ xs.drop (P ++ [x]).length := by
  rw [List.set_append_right _ _ (Nat.le_refl _), Nat.sub_self, List.drop_eq_getElem_cons h, List.set_cons_zero]
  simp
theorem grown_drewN (w : World) (n : Nat) (row : Option Nat) : w.grownBy (w.drewN n) row := ⟨rfl, rfl, rfl, Nat.le_refl _, fun _ _ _ => rfl⟩
theorem own_drewN {w : World} {base : Nat} {e : TypeId} {k n : Nat} {v : Value} {cs : List Value} (h : w.ownsRow base e k v n cs) (q : Nat) : (w.drewN q).ownsRow base e k v n cs := h

set_option maxHeartbeats 1000000 in
theorem slicesCompact (v : Value) (base : Nat) (xs : List (Int × Int)) (w : World) (h : w.ownsRow base 29 2 v xs.length (cellsOf encD xs)) (hm : xs.length ≤ 1000000) :
    Calls Tryz.prog 97 #[v] w fun e w' => ∃ v', e = .returned v' ∧ w'.ownsRow base 29 2 v' (dd xs).length (cellsOf encD (dd xs)) ∧ w.grownBy w' v.ownBlock ∧ v'.ownBlock = v.ownBlock := by
  rcases Nat.lt_or_ge xs.length 2 with h0 | h0
  · obtain ⟨A, c, rfl, _⟩ := SlAt.of_own encD_len h
    have hd : dd xs = xs := dd_same _ fun j p q h1 h2 => by
      have : j + 1 < xs.length := by
        rcases Nat.lt_or_ge (j + 1) xs.length with h | h
        · exact h
        · rw [List.getElem?_eq_none h] at h2; cases h2
      omega
    rw [hd]
    have H := Lib.hid h
    clear h hd
    go_enter Tryz.func97, Tryz.ntmps97
    go_wp2
    go_ret
    exact ⟨_, rfl, H.out, World.grownBy.refl _ _, rfl⟩
  · obtain ⟨g, cap, rfl, hb, hg⟩ := h.form (by omega)
    have hcap : xs.length ≤ cap ∧ cap ≤ maxLen := by
      rcases h.2 with ⟨h1, _⟩ | ⟨g', cap', cur, hv, _, _, hn, hc, _⟩
      · cases h1
      · cases hv; exact ⟨hn, hc⟩
    obtain ⟨hcap1, hcap2⟩ := hcap
    unfold maxLen at hcap2
    have H := Lib.hid h
    clear h
    go_enter Tryz.func97, Tryz.ntmps97
    go_wp2
    go_loopw [3] (fun i wr => ∃ m q : Nat, m + 1 ≤ xs.length ∧ i = .int .i64 ((m : Int) + 1) ∧ Hid (wr = w.drewN q) ∧ Hid (NoTwice xs m)) (fun i _ => xs.length - (intOf i).toNat)
    case atStart => exact ⟨0, 0, by omega, rfl, rfl, fun j p q h => by omega⟩
    case round =>
      obtain ⟨m, q, hk2, rfl, hw, hs⟩ := hrel
      have hown : wr.ownsRow base 29 2 (.slice (some ⟨g, 0, none⟩) xs.length cap) xs.length (cellsOf encD xs) := by rw [hw.out]; exact H.out
      have hgr : w.grownBy wr (some g) := by rw [hw.out]; exact grown_drewN _ _ _
      have HO := Lib.hid hown
      have HG := Lib.hid hgr
      clear hgr
      by_cases hlt : m + 1 < xs.length
      · obtain ⟨⟨r, c⟩, hx1⟩ : ∃ x, xs[m]? = some x := ⟨_, List.getElem?_eq_getElem (by omega)⟩
        obtain ⟨⟨r', c'⟩, hx2⟩ : ∃ x, xs[m + 1]? = some x := ⟨_, List.getElem?_eq_getElem hlt⟩
        obtain ⟨l0, l1, _, _⟩ := own_dot hown hx1
        obtain ⟨l2, l3, _, _⟩ := own_dot hown hx2
        clear hown
        have HX1 := Lib.hid hx1; clear hx1
        have HX2 := Lib.hid hx2; clear hx2
        by_cases hq : r' = r ∧ c' = c
        · obtain ⟨rfl, rfl⟩ := hq
          go_wp2
          go_quiet (fail)
          have hown2 : (wr.drewN nq).ownsRow base 29 2 (.slice (some ⟨g, 0, none⟩) xs.length cap) xs.length (cellsOf encD xs) := own_drewN HO.out nq
          have hgr2 : w.grownBy (wr.drewN nq) (some g) := grown_trans' HG.out (grown_drewN _ _ _)
          have hP : dd (xs.take (m + 1)) = xs.take (m + 1) := hs.out.dd
          have hP2 : dd (xs.take (m + 2)) = dd (xs.take (m + 1)) := by rw [dd_step HX1.out HX2.out, if_pos rfl]
          have hlen : (xs.take (m + 1)).length = m + 1 := by simp; omega
          have hst : ∃ P, (P : List (Int × Int)).length = m + 1 ∧ P = dd (xs.take (m + 2)) ∧ P ++ xs.drop P.length = xs := ⟨xs.take (m + 1), hlen, by rw [hP2, hP], by rw [hlen]; exact List.take_append_drop _ _⟩
          have HST := Lib.hid hst
          clear hst hlen hP hP2
          generalize hwo : wr.drewN nq = wo at *
          have HWO := Lib.hid hwo
          clear hwo
          have HO2 := Lib.hid hown2
          have HG2 := Lib.hid hgr2
          clear hown2 hgr2 hw HO HG l0 l1 l2 l3 HX1 HX2
          go_wp2
          go_loopw [3, 5] (fun k i wr => ∃ (P : List (Int × Int)) (t : Nat), m + 1 + (t + 1) ≤ xs.length ∧ P.length ≤ m + 1 + t ∧ k = .int .i64 (P.length : Int) ∧ i = .int .i64 ((t : Int) + 1) ∧ Hid (P = dd (xs.take (m + 1 + (t + 1)))) ∧
              Hid (wr.ownsRow base 29 2 (.slice (some ⟨g, 0, none⟩) xs.length cap) xs.length (cellsOf encD (P ++ xs.drop P.length))) ∧ Hid (w.grownBy wr (some g))) (fun _ i _ => xs.length - (intOf i).toNat)
          case atStart =>
            obtain ⟨P, h1, h2, h3⟩ := HST.out
            exact ⟨P, 0, by omega, by omega, by rw [h1]; rfl, rfl, h2, by rw [h3]; exact HO2, HG2⟩
          case round =>
            obtain ⟨P, t, hk1, hk3, rfl, rfl, hP, hown3, hgr3⟩ := hrel
            by_cases hlt2 : m + 1 + (t + 1) < xs.length
            · obtain ⟨⟨ra, ca⟩, hxa⟩ : ∃ x, xs[m + 1 + t]? = some x := ⟨_, List.getElem?_eq_getElem (by omega)⟩
              obtain ⟨⟨rb, cb⟩, hxb⟩ : ∃ x, xs[m + 1 + (t + 1)]? = some x := ⟨_, List.getElem?_eq_getElem hlt2⟩
              obtain ⟨⟨rp, cp⟩, hxp⟩ : ∃ x, xs[P.length]? = some x := ⟨_, List.getElem?_eq_getElem (by omega)⟩
              obtain ⟨l0, l1, _, _⟩ := own_dot hown3.out (j := m + 1 + t) ((get_tail (by omega)).trans hxa)
              obtain ⟨l2, l3, _, _⟩ := own_dot hown3.out (j := m + 1 + (t + 1)) ((get_tail (by omega)).trans hxb)
              obtain ⟨l4, l5, l6, l7⟩ := own_dot hown3.out (j := P.length) ((get_tail (by omega)).trans hxp)
              rw [Nat.add_mul (m + 1)] at l0 l1 l2 l3
              have hdd : dd (xs.take (m + 1 + (t + 1 + 1))) = if ((ra, ca) : Int × Int) = (rb, cb) then P else P ++ [(rb, cb)] := by
                have := dd_step (xs := xs) (m := m + 1 + t) hxa hxb
                rw [hP.out]; exact this
              have hlt3 : t + 1 < xs.length - (m + 1) := by omega
              have hltP : P.length < xs.length := by omega
              have HXA := Lib.hid hxa; clear hxa
              have HXB := Lib.hid hxb; clear hxb
              have HXP := Lib.hid hxp; clear hxp
              by_cases hq : rb = ra ∧ cb = ca
              · obtain ⟨rfl, rfl⟩ := hq
                rw [if_pos rfl] at hdd
                have HDD := Lib.hid hdd; clear hdd
                go_wp2
                go_quiet (fail)
                go_wp2
                go_roundw
                case rel => exact ⟨P, t + 1, by omega, by omega, rfl, by go_num, HDD.out.symm, own_drewN hown3.out nq, grown_trans' hgr3.out (grown_drewN _ _ _)⟩
                case measure => simp [intOf]; omega
              · rw [if_neg (fun e => by injection e with e1 e2; exact hq ⟨e1.symm, e2.symm⟩)] at hdd
                have HDD := Lib.hid hdd; clear hdd
                have hos := fun q => own_store (w := wr.drewN q) (r := rb) (c := cb) (own_drewN hown3.out q) (j := P.length) (by simp; omega)
                rw [set_tail hltP] at hos
                have HOS := Lib.hid hos; clear hos
                have hrc : rb = ra → ¬ cb = ca := fun e1 e2 => hq ⟨e1, e2⟩
                clear hq
                by_cases hr : rb = ra
                · have hc := hrc hr
                  clear hrc
                  subst hr
                  go_wp2
                  go_quiet (fail)
                  go_wp2
                  go_roundw
                  case rel => exact ⟨P ++ [(rb, cb)], t + 1, by omega, by simp; omega, by simp, by go_num, HDD.out.symm, (HOS.out nq).1, grown_trans' (grown_trans' hgr3.out (grown_drewN _ _ _)) (HOS.out nq).2⟩
                  case measure => simp [intOf]; omega
                · clear hrc
                  go_wp2
                  go_quiet (fail)
                  go_wp2
                  go_roundw
                  case rel => exact ⟨P ++ [(rb, cb)], t + 1, by omega, by simp; omega, by simp, by go_num, HDD.out.symm, (HOS.out nq).1, grown_trans' (grown_trans' hgr3.out (grown_drewN _ _ _)) (HOS.out nq).2⟩
                  case measure => simp [intOf]; omega
            · have hPx : P = dd xs := by rw [hP.out, List.take_of_length_le (by omega)]
              have hltP : P.length < xs.length := by omega
              obtain ⟨w', hcl, ho', hg'⟩ := run_clear_own (P := Tryz.prog) (z := .agg #[.int .i64 0, .int .i64 0]) (k := 2) Tryz.underlying40 Tryz.zeroValue29 rfl (by simp [Value.cells]; rfl) hown3.out hltP (cap - P.length)
              have hct : (cellsOf encD (P ++ xs.drop P.length)).take (P.length * 2) = cellsOf encD P := by
                rw [show cellsOf encD (P ++ xs.drop P.length) = cellsOf encD P ++ cellsOf encD (xs.drop P.length) by simp [cellsOf], ← cellsOf_length encD_len P, List.take_left]
              rw [hct] at ho'
              have hP0 : 1 ≤ P.length := by
                obtain ⟨x, hx⟩ : ∃ x, xs[0]? = some x := ⟨_, List.getElem?_eq_getElem (by omega)⟩
                obtain ⟨y, l, e⟩ : ∃ y l, xs = y :: l := by
                  cases hxs : xs with
                  | nil => rw [hxs] at hx; simp at hx
                  | cons y l => exact ⟨y, l, rfl⟩
                obtain ⟨t', ht'⟩ := dd_head y l
                rw [hPx, e, ht']; simp
              have HPX := Lib.hid hPx
              have HO := Lib.hid ho'
              have hgf := grown_trans' hgr3.out hg'
              clear hPx ho' hg' hct hown3 hgr3 hP HO2 HG2 HST
              have hPc : P.length ≤ cap := by omega
              go_wp2
              go_ret
              exact ⟨_, rfl, by rw [← HPX.out]; exact HO.out, hgf, rfl⟩
        · have hne : ((r, c) : Int × Int) ≠ (r', c') := fun e => by injection e with e1 e2; exact hq ⟨e1.symm, e2.symm⟩
          have HN := Lib.hid (hs.out.step HX1.out HX2.out hne)
          clear hne
          by_cases hr : r' = r
          · have hc : ¬ c' = c := fun e => hq ⟨hr, e⟩
            clear hq
            subst hr
            go_wp2
            go_quiet (fail)
            go_wp2
            go_roundw
            case rel => exact ⟨m + 1, q + nq, by omega, by go_num, by rw [hw.out]; exact World.drewN_drewN _ _ _, HN⟩
            case measure => simp [intOf]; omega
          · clear hq
            go_wp2
            go_quiet (fail)
            go_wp2
            go_roundw
            case rel => exact ⟨m + 1, q + nq, by omega, by go_num, by rw [hw.out]; exact World.drewN_drewN _ _ _, HN⟩
            case measure => simp [intOf]; omega
      · have hd : dd xs = xs := by
          have := hs.out.dd
          rwa [List.take_of_length_le (by omega)] at this
        have HD := Lib.hid hd
        clear hd hown
        go_wp2
        go_ret
        exact ⟨_, rfl, by rw [HD.out]; exact HO.out, HG.out, rfl⟩

/-- What order makes of a list. -/
def ordL (xs : List (Int × Int)) : List (Int × Int) := dd (sortedL xs)
theorem ordL_len (xs : List (Int × Int)) : (ordL xs).length ≤ xs.length := by
  have := dd_len (sortedL xs)
  simpa [ordL, sortedL] using this

set_option maxHeartbeats 400000 in
theorem dotOrder (v : Value) (base : Nat) (xs : List (Int × Int)) (w : World) (h : w.ownsRow base 29 2 v xs.length (cellsOf encD xs)) (hm : xs.length ≤ 1000000) :
    Calls Tryz.prog 72 #[v] w fun e w' => ∃ v', e = .returned v' ∧ w'.ownsRow base 29 2 v' (ordL xs).length (cellsOf encD (ordL xs)) ∧ w.grownBy w' v.ownBlock ∧ v'.ownBlock = v.ownBlock := by
  have hs := sortFunc v base xs w h hm
  have hl : (sortedL xs).length = xs.length := by simp [sortedL]
  have hc := fun W hW => slicesCompact v base (sortedL xs) W hW (by omega)
  have HS := Lib.hid hs
  have HC := Lib.hid hc
  clear hs hc h hl
  go_enter Tryz.func72, Tryz.ntmps72
  go_wp2_with fail
  refine HS.out.mono ?_
  rintro e w1 ⟨rfl, ho1, hg1⟩
  have HO := Lib.hid ho1; clear ho1
  go_wp2_with fail
  refine (HC.out _ HO.out).mono ?_
  rintro e w2 ⟨v', rfl, ho2, hg2, hv⟩
  have HO2 := Lib.hid ho2; clear ho2
  have HV := Lib.hid hv; clear hv
  go_wp2
  go_ret
  exact ⟨_, rfl, HO2.out, grown_trans' hg1 hg2, HV.out⟩

/-- A row of the call's own, and all that was there as it was. -/
def Mine (w w' : World) (v : Value) (xs : List (Int × Int)) : Prop := w'.ownsRow w.heap.size 29 2 v xs.length (cellsOf encD xs) ∧ Below w.heap.size w w'
theorem Mine.holds {w w' : World} {v : Value} {xs : List (Int × Int)} (h : Mine w w' v xs) : Holds w' v xs := by
  obtain ⟨A, c, rfl, h1, h2, h3⟩ := SlAt.of_own encD_len h.1
  exact ⟨A, c, rfl, h3, h1, h2⟩

set_option maxHeartbeats 400000 in
theorem slicesClone (A : Option Addr) (xs : List (Int × Int)) (cap : Nat) (w : World) (hx : DotsAt w A xs) (hm : xs.length ≤ 1000000) :
    Calls Tryz.prog 73 #[.slice A xs.length cap] w fun e w' => ∃ v, e = .returned v ∧ Mine w w' v xs := by
  obtain ⟨i0, hi0, hz0, hz1, hz2⟩ := info_parts infoD
  match A with
  | none =>
    have h0 : xs = [] := by
      cases xs with
      | nil => rfl
      | cons x r => obtain ⟨_, _, h, _⟩ := hx (by simp); cases h
    subst h0
    have hc : Calls Tryz.prog 73 #[.slice none 0 cap] w _ := AnyE.slices_Clone_nil Tryz.cloneDots 0 cap w
    refine hc.mono ?_
    rintro e w' ⟨rfl, rfl⟩
    exact ⟨_, rfl, World.ownsRow_nil _ _ _ _, Below.refl _ _⟩
  | some a =>
    have q22 : ∀ (w : World) (a : Option Addr) (n c n' c' : Nat), (binOp .eql 40 (.slice a n c) (.slice none n' c')).run Tryz.prog w = .ok (.bool a.isNone) w := fun w a n c n' c' => Lib.run_eql_slice_nil w _ _ a n c n' c' Tryz.underlying40
    go_enter Tryz.func73, Tryz.ntmps73
    go_wp2_with (at_builtin; refine wpList_append_sl _ encD 2 rfl (.tmp 5) (.tmp 6) 40 rfl encD_len (by omega) encD_one w.heap.size 29 i0 _ 16 Tryz.underlying40 hi0 hz0 hz1 hz2 rfl _ [] rfl (World.ownsRow_made w #[] 0 (Nat.le_refl _) (Nat.zero_le _) (by simp)) (some a) _ cap xs rfl rfl (hx.below ((Below.refl _ w).alloc (Nat.le_refl _) _)) (by simp [maxLen]; omega) (by simp; omega) (by simp) ?_; intro v1 w1 hown1 hg1 hat1)
    rw [List.nil_append] at hown1
    have HO := Lib.hid hown1
    clear hown1
    go_wp2
    go_ret
    refine ⟨_, rfl, HO.out, ((Below.refl _ w).alloc (Nat.le_refl _) _).grown hg1 (by simp) ?_⟩
    intro k hk
    have e0 : some w.heap.size = some k := hk
    injection e0 with e
    omega

theorem Mine.step {w w1 w2 : World} {v v' : Value} {xs ys : List (Int × Int)} (h : Mine w w1 v xs) (ho : w2.ownsRow w.heap.size 29 2 v' ys.length (cellsOf encD ys)) (hg : w1.grownBy w2 v.ownBlock) : Mine w w2 v' ys :=
  ⟨ho, h.2.grown hg h.2.size (fun k hk => (h.1.lt k hk).1)⟩

set_option maxHeartbeats 400000 in
theorem dotSet (A : Option Addr) (xs : List (Int × Int)) (cap : Nat) (w : World) (hx : DotsAt w A xs) (hm : xs.length ≤ 1000000) :
    Calls Tryz.prog 49 #[.slice A xs.length cap] w fun e w' => ∃ v, e = .returned v ∧ Mine w w' v (ordL xs) := by
  have hc := slicesClone A xs cap w hx hm
  have ho := fun v W hW => dotOrder v w.heap.size xs W hW hm
  have HC := Lib.hid hc
  have HR := Lib.hid ho
  clear hc ho
  go_enter Tryz.func49, Tryz.ntmps49
  go_wp2_with fail
  refine HC.out.mono ?_
  rintro e w1 ⟨v, rfl, h1⟩
  have H1 := Lib.hid h1; clear h1
  go_wp2_with fail
  refine (HR.out _ _ H1.out.1).mono ?_
  rintro e w2 ⟨v', rfl, ho2, hg2, hv⟩
  have H2 := Lib.hid (H1.out.step ho2 hg2); clear ho2 hg2 hv
  go_wp2
  go_ret
  exact ⟨_, rfl, H2.out⟩

set_option maxRecDepth 100000

theorem Mine.base {w0 w w' : World} {v : Value} {xs : List (Int × Int)} (hb : Below w0.heap.size w0 w) (h : Mine w w' v xs) : Mine w0 w' v xs := by
  refine ⟨⟨h.1.1, ?_⟩, below_trans hb h.2⟩
  rcases h.1.2 with h1 | ⟨g, cap, cur, hv, hg, r⟩
  · exact .inl h1
  · exact .inr ⟨g, cap, cur, hv, Nat.le_trans hb.size hg, r⟩

/-- In increasing order, each once. -/
def Inc (s : List (Int × Int)) : Prop := s.Pairwise fun p q => ltD p q = true

theorem ltD_irrefl (p : Int × Int) : ltD p p = false := by simp [ltD, lessD]
theorem cmpD_neg {p q : Int × Int} : cmpD p.1 p.2 q.1 q.2 < 0 ↔ ltD p q = true := by
  unfold cmpD ltD
  cases lessD p.1 p.2 q.1 q.2
  · simp; split <;> simp
  · simp
theorem cmpD_zero {p q : Int × Int} : cmpD p.1 p.2 q.1 q.2 = 0 ↔ p = q := by
  constructor
  · intro h
    refine ltD_total p q ?_ ?_
    · unfold cmpD at h; unfold ltD
      cases h1 : lessD p.1 p.2 q.1 q.2
      · rfl
      · simp [h1] at h
    · unfold cmpD at h; unfold ltD
      cases h1 : lessD q.1 q.2 p.1 p.2
      · rfl
      · simp [h1] at h
        split at h <;> simp at h
  · rintro rfl
    have := ltD_irrefl p
    unfold ltD at this
    simp [cmpD, this]

theorem Inc.get {s : List (Int × Int)} (h : Inc s) {i j : Nat} {p q : Int × Int} (hi : s[i]? = some p) (hj : s[j]? = some q) (hij : i < j) : ltD p q = true := by
  have hil : i < s.length := by
    rcases Nat.lt_or_ge i s.length with h | h
    · exact h
    · rw [List.getElem?_eq_none h] at hi; cases hi
  have hjl : j < s.length := by
    rcases Nat.lt_or_ge j s.length with h | h
    · exact h
    · rw [List.getElem?_eq_none h] at hj; cases hj
  have := List.pairwise_iff_getElem.1 h i j hil hjl hij
  rw [List.getElem?_eq_getElem hil] at hi
  rw [List.getElem?_eq_getElem hjl] at hj
  cases hi; cases hj
  exact this

theorem search_found {s : List (Int × Int)} {d : Int × Int} {i : Nat} (hs : Inc s) (h1 : ∀ j p, j < i → s[j]? = some p → ltD p d = true) (h2 : ∀ j p, i ≤ j → s[j]? = some p → ltD p d = false) :
    d ∈ s ↔ s[i]? = some d := by
  constructor
  · intro hd
    obtain ⟨k, hk⟩ := List.mem_iff_getElem?.1 hd
    rcases Nat.lt_trichotomy k i with h | h | h
    · have := h1 k d h hk
      rw [ltD_irrefl] at this; cases this
    · subst h; exact hk
    · have hil : i < s.length := by
        rcases Nat.lt_or_ge k s.length with h' | h'
        · omega
        · rw [List.getElem?_eq_none h'] at hk; cases hk
      have hi := List.getElem?_eq_getElem hil
      have a := hs.get hi hk h
      have b := h2 i _ (Nat.le_refl _) hi
      rw [a] at b; cases b
  · exact fun h => List.mem_of_getElem? h

theorem ret_two {a b : Bool} {i : Int} (h : a = b) : Ending.returned (.tuple #[.int .i64 i, .bool a]) = .returned (.tuple #[.int .i64 i, .bool b]) := by rw [h]

set_option maxHeartbeats 1000000 in
theorem binarySearch (A : Option Addr) (s : List (Int × Int)) (cap : Nat) (r0 c0 : Int) (w : World) (hx : DotsAt w A s) (hm : s.length ≤ 1000000) (hs : Inc s) :
    Calls Tryz.prog 108 #[.slice A s.length cap, .agg #[.int .i64 r0, .int .i64 c0], .func (.func 96) #[] #[]] w fun e w' =>
      (∃ i : Int, e = .returned (.tuple #[.int .i64 i, .bool (decide ((r0, c0) ∈ s))])) ∧ Below w.heap.size w w' := by
  have HS := Lib.hid hs; clear hs
  go_enter Tryz.func108, Tryz.ntmps108
  go_wp2
  go_loopw [9, 10] (fun i j wr => ∃ a b : Nat, a ≤ b ∧ b ≤ s.length ∧ i = .int .i64 a ∧ j = .int .i64 b ∧ Below (w.heap.size + 1) (w.alloc (.cells #[.int .i64 r0, .int .i64 c0] 29)) wr ∧ Hid (∀ j p, j < a → s[j]? = some p → ltD p (r0, c0) = true) ∧ Hid (∀ j p, b ≤ j → s[j]? = some p → ltD p (r0, c0) = false)) (fun i j _ => (intOf j).toNat - (intOf i).toNat)
  case atStart => exact ⟨0, s.length, by omega, by omega, rfl, rfl, Below.refl _ _, fun j p h => by omega, fun j p h hp => by rw [List.getElem?_eq_none h] at hp; cases hp⟩
  case round =>
    obtain ⟨a, b, hab, hbn, rfl, rfl, hb1, hlo, hhi⟩ := hrel
    have hb : Below w.heap.size w wr := ((Below.refl _ w).alloc (Nat.le_refl _) _).trans (hb1.mono (by omega))
    have hz : w.heap.size + 1 ≤ wr.heap.size := by have := hb1.size; simpa using this
    have k0 := cell_far (w := wr) (a := ⟨w.heap.size, 0, none⟩) (v := .int .i64 r0) (show w.heap.size < wr.heap.size by omega) ((hb1.cell (p := ⟨w.heap.size, 0, none⟩) (by simp)).trans (by simp [World.cell?_alloc_new]))
    have k1 := cell_far (w := wr) (a := ⟨w.heap.size, 1, none⟩) (v := .int .i64 c0) (show w.heap.size < wr.heap.size by omega) ((hb1.cell (p := ⟨w.heap.size, 1, none⟩) (by simp)).trans (by simp [World.cell?_alloc_new]))
    by_cases hlt : a < b
    · obtain ⟨h, hh1, hh2⟩ : ∃ h : Nat, h * 2 ≤ a + b ∧ a + b < h * 2 + 2 := ⟨(a + b) / 2, by omega, by omega⟩
      have he : ((a : Int) + (b : Int)) / 2 = (h : Int) := by omega
      have HE := Lib.hid he; clear he
      obtain ⟨g, off, r, c, rfl, hbl, hx1, hc0, hc1⟩ := (hx.below hb).dot (j := h) (by omega)
      have l0 := fun p => cell_far (p := p) hbl hc0
      have l1 := fun p => cell_far (p := p) hbl hc1
      clear hc0 hc1
      have hr := fun W => dotCompare r c r0 c0 W
      have hneg := cmpD_neg (p := (r, c)) (q := (r0, c0))
      have HX1 := Lib.hid hx1; clear hx1
      generalize hv : cmpD r c r0 c0 = v at hr
      simp only [hv] at hneg
      clear hv
      have HR := Lib.hid hr; clear hr
      cases hq : ltD (r, c) (r0, c0)
      · rw [hq] at hneg
        have hv0 : 0 ≤ v := by
          rcases Int.lt_or_le v 0 with h' | h'
          · exact absurd (hneg.1 h') (by simp)
          · exact h'
        have HQ := Lib.hid hq; clear hq hneg
        go_wp2_with fail
        rw [HE.out]
        refine wp_region_far (by kernel_rfl) (by kernel_rfl) ?_
        repeat (go_big_quiet_step ((go_at_call 96; exact far_of (HR.out _))))
        refine wpQuiet_nil ?_
        rintro _ ⟨p, rfl⟩
        go_wp2
        go_roundw
        case rel =>
          refine ⟨a, h, by omega, by omega, rfl, rfl, hb1.trans ((below_far wr p).mono hz), hlo, (show Hid _ from fun j p hj hp => ?_)⟩
          rcases Nat.lt_or_ge h j with h' | h'
          · have := HS.out.get HX1.out hp h'
            cases hc : ltD p (r0, c0)
            · rfl
            · have := swoD.trans _ _ _ this hc
              rw [HQ.out] at this; cases this
          · obtain rfl : j = h := by omega
            rw [HX1.out] at hp; cases hp
            exact HQ.out
        case measure => simp [intOf]; omega
      · rw [hq] at hneg
        have hv0 : v < 0 := hneg.2 rfl
        have HQ := Lib.hid hq; clear hq hneg
        go_wp2_with fail
        rw [HE.out]
        refine wp_region_far (by kernel_rfl) (by kernel_rfl) ?_
        repeat (go_big_quiet_step ((go_at_call 96; exact far_of (HR.out _))))
        refine wpQuiet_nil ?_
        rintro _ ⟨p, rfl⟩
        go_wp2
        go_roundw
        case rel =>
          refine ⟨h + 1, b, by omega, by omega, by go_num, rfl, hb1.trans ((below_far wr p).mono hz), (show Hid _ from fun j p hj hp => ?_), hhi⟩
          rcases Nat.lt_or_ge j h with h' | h'
          · exact swoD.trans _ _ _ (HS.out.get hp HX1.out h') HQ.out
          · obtain rfl : j = h := by omega
            rw [HX1.out] at hp; cases hp
            exact HQ.out
        case measure => simp [intOf]; omega
    · have hab' : a = b := by omega
      subst hab'
      have hf := search_found HS.out hlo.out hhi.out
      have HF := Lib.hid hf; clear hf
      by_cases hlen : a < s.length
      · obtain ⟨g, off, r, c, rfl, hbl, hx1, hc0, hc1⟩ := (hx.below hb).dot (j := a) hlen
        have l0 := fun p => cell_far (p := p) hbl hc0
        have l1 := fun p => cell_far (p := p) hbl hc1
        clear hc0 hc1
        have hr := fun W => dotCompare r c r0 c0 W
        have hzr := cmpD_zero (p := (r, c)) (q := (r0, c0))
        generalize hv : cmpD r c r0 c0 = v at hr
        simp only [hv] at hzr
        clear hv
        have HR := Lib.hid hr; clear hr
        have HX1 := Lib.hid hx1; clear hx1
        by_cases hv0 : v = 0
        · have hd : decide ((r0, c0) ∈ s) = true := by
            have : (r0, c0) ∈ s := HF.out.2 (by rw [HX1.out, hzr.1 hv0])
            simp [this]
          have HD := Lib.hid hd
          subst hv0
          clear hd hzr
          go_wp2_with fail
          refine wp_region_far (by kernel_rfl) (by kernel_rfl) ?_
          repeat (go_big_quiet_step ((go_at_call 96; exact far_of (HR.out _))))
          refine wpQuiet_nil ?_
          rintro _ ⟨p, rfl⟩
          go_wp2
          go_ret2
          exact ⟨⟨_, ret_two (by simp [HD.out])⟩, hb.trans ((below_far wr p).mono hb.size)⟩
        · have hd : decide ((r0, c0) ∈ s) = false := by
            have : ¬ (r0, c0) ∈ s := fun hm => by
              have := HF.out.1 hm
              rw [HX1.out] at this
              injection this with this
              exact hv0 (hzr.2 this)
            simp [this]
          have hv1 : (v == 0) = false := by simp [hv0]
          have HD := Lib.hid hd
          clear hd hzr hv0
          go_wp2_with fail
          refine wp_region_far (by kernel_rfl) (by kernel_rfl) ?_
          repeat (go_big_quiet_step ((go_at_call 96; exact far_of (HR.out _))))
          refine wpQuiet_nil ?_
          rintro _ ⟨p, rfl⟩
          go_wp2
          go_ret2
          exact ⟨⟨_, ret_two (by simp [HD.out])⟩, hb.trans ((below_far wr p).mono hb.size)⟩
      · have hd : decide ((r0, c0) ∈ s) = false := by
          have : ¬ (r0, c0) ∈ s := fun hm => by
            have := HF.out.1 hm
            rw [List.getElem?_eq_none (by omega)] at this; cases this
          simp [this]
        have hdc : decide ((a : Int) < (s.length : Int)) = false := by simp; omega
        have HD := Lib.hid hd
        clear hd
        go_wp2_with fail
        refine wp_region_far (by kernel_rfl) (by kernel_rfl) ?_
        repeat (go_big_quiet_step ((fail)))
        refine wpQuiet_nil ?_
        rintro _ ⟨p, rfl⟩
        go_wp2
        go_ret2
        exact ⟨⟨_, ret_two (by simp [HD.out])⟩, hb.trans ((below_far wr p).mono hb.size)⟩

theorem bool_ne (a b : Bool) : (a != b) = (a != b) := rfl

set_option maxHeartbeats 1000000 in
theorem pick1 (bo bi : Nat) (A : Option Addr) (s : List (Int × Int)) (cap : Nat) (inn : Bool) (r c : Int) (w : World) (hx : DotsAt w A s) (hm : s.length ≤ 1000000) (hs : Inc s)
    (h0 : w.cell? ⟨bo, 0, none⟩ = some (.slice A s.length cap)) (h1 : w.cell? ⟨bi, 0, none⟩ = some (.bool inn)) :
    Calls Tryz.prog 107 #[.agg #[.int .i64 r, .int .i64 c], .pointer (some ⟨bo, 0, none⟩), .pointer (some ⟨bi, 0, none⟩)] w fun e w' => e = .returned (.bool (decide ((r, c) ∈ s) != inn)) ∧ Below w.heap.size w w' := by
  have hb := fun W hW => binarySearch A s cap r c W hW hm hs
  have l1 := World.block_lt_of_cell? w _ h0
  have l2 := World.block_lt_of_cell? w _ h1
  generalize decide ((r, c) ∈ s) = d at hb ⊢
  have HB := Lib.hid hb
  clear hb
  go_enter Tryz.func107, Tryz.ntmps107
  go_wp2_with fail
  refine (HB.out _ (hx.below ((Below.refl _ w).alloc (Nat.le_refl _) _))).mono ?_
  rintro e w1 ⟨⟨i, rfl⟩, hb1⟩
  have hbb := below_trans ((Below.refl _ w).alloc (Nat.le_refl _) _) hb1
  have k1 := (hbb.cell (p := ⟨bi, 0, none⟩) l2).trans h1
  clear h0 h1
  cases d <;> cases inn
  all_goals
    go_wp2
    go_ret
    exact ⟨rfl, hbb⟩

/-- What a function value says of each dot, wherever what lay below base is as it was. -/
def Says (g : Nat) (lb : Array Value) (p : Int × Int → Bool) (base : Nat) (w0 : World) : Prop :=
  ∀ (r c : Int) (W : World), Below base w0 W → Calls Tryz.prog g (#[.agg #[.int .i64 r, .int .i64 c]] ++ lb) W fun e w' => e = .returned (.bool (p (r, c))) ∧ Below W.heap.size W w'

theorem Says.pick1 {bo bi : Nat} {A : Option Addr} {s : List (Int × Int)} {cap : Nat} {inn : Bool} {w : World} (hx : DotsAt w A s) (hm : s.length ≤ 1000000) (hs : Inc s)
    (h0 : w.cell? ⟨bo, 0, none⟩ = some (.slice A s.length cap)) (h1 : w.cell? ⟨bi, 0, none⟩ = some (.bool inn)) :
    Says 107 #[.pointer (some ⟨bo, 0, none⟩), .pointer (some ⟨bi, 0, none⟩)] (fun d => decide (d ∈ s) != inn) w.heap.size w := fun r c W hW =>
  YtfbkhgajlklleaaGreat.pick1 bo bi A s cap inn r c W (hx.below hW) hm hs ((hW.cell (p := ⟨bo, 0, none⟩) (World.block_lt_of_cell? w _ h0)).trans h0) ((hW.cell (p := ⟨bi, 0, none⟩) (World.block_lt_of_cell? w _ h1)).trans h1)

set_option maxHeartbeats 1000000 in
theorem indexFunc (lb : Array Value) (p : Int × Int → Bool) (base : Nat) (w0 : World) (A : Option Addr) (xs : List (Int × Int)) (cap : Nat) (w : World) (hp : Says 107 lb p base w0) (hbw : Below base w0 w) (hbs : base ≤ w.heap.size) (hx : DotsAt w A xs) (hm : xs.length ≤ 1000000) :
    Calls Tryz.prog 122 #[.slice A xs.length cap, .func (.func 107) #[] lb] w fun e w' =>
      ((∃ i : Nat, i < xs.length ∧ e = .returned (.int .i64 i) ∧ (∀ j q, j < i → xs[j]? = some q → p q = false) ∧ (∀ q, xs[i]? = some q → p q = true)) ∨ (e = .returned (.int .i64 (-1)) ∧ ∀ q ∈ xs, p q = false)) ∧ Below w.heap.size w w' := by
  have HP := Lib.hid hp; clear hp
  go_enter Tryz.func122, Tryz.ntmps122
  go_wp2
  go_loopw [5, 8] (fun _ i wr => ∃ m : Nat, m ≤ xs.length ∧ i = .int .i64 m ∧ Below w.heap.size w wr ∧ Hid (∀ j q, j < m → xs[j]? = some q → p q = false)) (fun _ i _ => xs.length - (intOf i).toNat)
  case atStart => exact ⟨0, by omega, rfl, Below.refl _ _, fun j q h => by omega⟩
  case round =>
    obtain ⟨m, hk2, rfl, hb, hs⟩ := hrel
    by_cases hlt : m < xs.length
    · obtain ⟨b, off, r, c, rfl, hbl, hx1, hc0, hc1⟩ := (hx.below hb).dot (j := m) hlt
      have hr := HP.out r c wr (hbw.trans (hb.mono hbs))
      have HX1 := Lib.hid hx1; clear hx1
      cases hq : p (r, c)
      · rw [hq] at hr
        have HR := Lib.hid hr; clear hr
        have HQ := Lib.hid hq; clear hq
        go_wp2_with fail
        refine HR.out.mono ?_
        rintro e w1 ⟨rfl, hb1⟩
        go_wp2
        go_roundw
        case rel =>
          refine ⟨m + 1, by omega, by go_num, hb.trans (hb1.mono hb.size), (show Hid _ from fun j q hj hq => ?_)⟩
          by_cases e : j = m
          · subst e; rw [HX1.out] at hq; cases hq; exact HQ.out
          · exact hs.out j q (by omega) hq
        case measure => simp [intOf]; omega
      · rw [hq] at hr
        have HR := Lib.hid hr; clear hr
        have HQ := Lib.hid hq; clear hq
        go_wp2_with fail
        refine HR.out.mono ?_
        rintro e w1 ⟨rfl, hb1⟩
        go_wp2
        go_ret
        exact ⟨.inl ⟨m, hlt, rfl, hs.out, fun q hq => by rw [HX1.out] at hq; cases hq; exact HQ.out⟩, hb.trans (hb1.mono hb.size)⟩
    · go_wp2
      go_ret
      refine ⟨.inr ⟨rfl, fun q hq => ?_⟩, hb⟩
      obtain ⟨j, hj⟩ := List.mem_iff_getElem?.1 hq
      have hjl : j < xs.length := by
        rcases Nat.lt_or_ge j xs.length with h | h
        · exact h
        · rw [List.getElem?_eq_none h] at hj; cases hj
      exact hs.out j q (by omega) hj

theorem grown_of_below {a w : World} (h : Below a.heap.size a w) (row : Option Nat) : a.grownBy w row := ⟨h.os, h.tape, h.output, h.size, fun i hi _ => h.block i hi⟩
theorem grown_alloc {a w : World} {row : Option Nat} (h : a.grownBy w row) (o : Obj) : a.grownBy (w.alloc o) row :=
  ⟨h.os, h.tape, h.output, Nat.le_trans h.size (by simp), fun i hi hne => (Below.heap_alloc w o i (Nat.lt_of_lt_of_le hi h.size)).trans (h.block i hi hne)⟩

theorem filter_take_step {p : Int × Int → Bool} {xs : List (Int × Int)} {j : Nat} {x : Int × Int} (hx : xs[j]? = some x) : (xs.take (j + 1)).filter (fun d => !p d) = if p x = true then (xs.take j).filter (fun d => !p d) else (xs.take j).filter (fun d => !p d) ++ [x] := by
  rw [take_snoc hx, List.filter_append]
  by_cases h : p x = true <;> simp [h]

set_option maxHeartbeats 1000000 in
theorem deleteFunc (lb : Array Value) (p : Int × Int → Bool) (base : Nat) (w0 : World) (v : Value) (xs : List (Int × Int)) (w : World) (hp : Says 107 lb p base w0) (hbw : Below base w0 w) (hbs : base ≤ w.heap.size)
    (h : w.ownsRow base 29 2 v xs.length (cellsOf encD xs)) (hm : xs.length ≤ 1000000) :
    Calls Tryz.prog 106 #[v, .func (.func 107) #[] lb] w fun e w' =>
      ∃ v', e = .returned v' ∧ w'.ownsRow base 29 2 v' (xs.filter fun d => !p d).length (cellsOf encD (xs.filter fun d => !p d)) ∧ w.grownBy w' v.ownBlock := by
  obtain ⟨A, cap, rfl, hc1, hc2, hx⟩ := SlAt.of_own encD_len h
  have hi := indexFunc lb p base w0 A xs cap w hp hbw hbs hx hm
  have HI := Lib.hid hi
  have H := Lib.hid h
  have HP := Lib.hid hp
  clear hi h hp
  unfold maxLen at hc2
  go_enter Tryz.func106, Tryz.ntmps106
  go_wp2_with fail
  refine HI.out.mono ?_
  rintro e w1 ⟨⟨i, hi1, rfl, hi2, hi3⟩ | ⟨rfl, hno⟩, hb1⟩
  · obtain ⟨g, cap', hv, hbg, hgl⟩ := H.out.form (by omega)
    injection hv with hA hn hcc
    subst hA
    have hne1 : ((i : Int) == -1) = false := by simp
    have ho1 : w1.ownsRow base 29 2 (.slice (some ⟨g, 0, none⟩) xs.length cap) xs.length (cellsOf encD xs) := H.out.kept (grown_of_below hb1 none) (by simp [Value.ownBlock])
    have hg1 : w.grownBy w1 (some g) := grown_of_below hb1 _
    obtain ⟨x, hxi⟩ : ∃ x, xs[i]? = some x := ⟨_, List.getElem?_eq_getElem hi1⟩
    have hpre : (xs.take i).filter (fun d => !p d) = xs.take i := by
      rw [List.filter_eq_self]
      intro q hq
      obtain ⟨j, hj⟩ := List.mem_iff_getElem?.1 hq
      rw [List.getElem?_take] at hj
      split at hj
      · simp [hi2 j q (by omega) hj]
      · cases hj
    have hst : ∃ P, (P : List (Int × Int)).length = i ∧ P = (xs.take (i + 1)).filter (fun d => !p d) ∧ P ++ xs.drop P.length = xs := by
      have hl : (xs.take i).length = i := by simp; omega
      refine ⟨xs.take i, hl, ?_, by rw [hl]; exact List.take_append_drop _ _⟩
      rw [filter_take_step hxi, if_pos (hi3 x hxi), hpre]
    have HST := Lib.hid hst
    have HO := Lib.hid ho1
    have HG := Lib.hid hg1
    clear hst ho1 hg1 hpre hi2 hi3 hxi hn hcc hx hb1 HI
    go_wp2
    go_loopw [5, 6, 7] (fun k j _ wr => ∃ (P : List (Int × Int)) (t : Nat), t ≤ xs.length ∧ P.length < t ∧ k = .int .i64 (P.length : Int) ∧ j = .int .i64 t ∧ Hid (P = (xs.take t).filter (fun d => !p d)) ∧
        Hid (wr.ownsRow base 29 2 (.slice (some ⟨g, 0, none⟩) xs.length cap) xs.length (cellsOf encD (P ++ xs.drop P.length))) ∧ Hid (w.grownBy wr (some g))) (fun _ j _ _ => xs.length - (intOf j).toNat)
    case atStart =>
      obtain ⟨P, h1, h2, h3⟩ := HST.out
      exact ⟨P, i + 1, by omega, by omega, by rw [h1], by go_num, h2, by rw [h3]; exact HO, HG⟩
    case round =>
      obtain ⟨P, t, hk1, hk3, rfl, rfl, hP, hown3, hgr3⟩ := hrel
      have hbwr : Below base w0 wr := hbw.grown hgr3.out hbs (fun k hk => by cases hk; exact hbg)
      have hbsr : base ≤ wr.heap.size := Nat.le_trans hbs hgr3.out.size
      by_cases hlt : t < xs.length
      · obtain ⟨⟨r, c⟩, hxt⟩ : ∃ x, xs[t]? = some x := ⟨_, List.getElem?_eq_getElem hlt⟩
        obtain ⟨⟨rp, cp⟩, hxp⟩ : ∃ x, xs[P.length]? = some x := ⟨_, List.getElem?_eq_getElem (by omega)⟩
        obtain ⟨l0, l1, _, _⟩ := own_dot hown3.out (j := t) ((get_tail (by omega)).trans hxt)
        have hfs := filter_take_step (p := p) hxt
        rw [← hP.out] at hfs
        have HXT := Lib.hid hxt; clear hxt
        have HXP := Lib.hid hxp; clear hxp
        cases hq : p (r, c)
        · rw [hq] at hfs
          simp only [Bool.false_eq_true, if_false] at hfs
          have HFS := Lib.hid hfs; clear hfs
          have hr := fun W hW => HP.out r c W hW
          rw [hq] at hr
          have HR := Lib.hid hr; clear hr hq
          go_wp2_with fail
          refine (HR.out _ (hbwr.alloc hbsr _)).mono ?_
          rintro e w2 ⟨rfl, hb2⟩
          have hb3 := below_trans ((Below.refl _ wr).alloc (Nat.le_refl _) _) hb2
          have d0 := (hb2.cell (p := ⟨wr.heap.size, 0, none⟩) (by simp)).trans (show _ = some (.int .i64 r) by simp [World.cell?_alloc_new])
          have d1 := (hb2.cell (p := ⟨wr.heap.size, 1, none⟩) (by simp)).trans (show _ = some (.int .i64 c) by simp [World.cell?_alloc_new])
          have ho2 : w2.ownsRow base 29 2 (.slice (some ⟨g, 0, none⟩) xs.length cap) xs.length (cellsOf encD (P ++ xs.drop P.length)) := hown3.out.kept (grown_of_below hb3 none) (by simp [Value.ownBlock])
          obtain ⟨l4, l5, l6, l7⟩ := own_dot ho2 (j := P.length) ((get_tail (by omega)).trans HXP.out)
          have hos := own_store (r := r) (c := c) ho2 (j := P.length) (by simp; omega)
          rw [set_tail (by omega)] at hos
          have hgg := grown_trans' (grown_trans' hgr3.out (grown_of_below hb3 (some g))) hos.2
          have HOS := Lib.hid hos.1
          have HGG := Lib.hid hgg
          clear hos hgg ho2 hb2 hb3 l0 l1
          go_wp2
          go_roundw
          case rel => exact ⟨P ++ [(r, c)], t + 1, by omega, by simp; omega, by simp, by go_num, HFS.out.symm, HOS, HGG⟩
          case measure => simp [intOf]; omega
        · rw [if_pos hq] at hfs
          have HFS := Lib.hid hfs; clear hfs
          have hr := fun W hW => HP.out r c W hW
          rw [hq] at hr
          have HR := Lib.hid hr; clear hr hq
          go_wp2_with fail
          refine (HR.out _ (hbwr.alloc hbsr _)).mono ?_
          rintro e w2 ⟨rfl, hb2⟩
          have hb3 := below_trans ((Below.refl _ wr).alloc (Nat.le_refl _) _) hb2
          have ho2 : w2.ownsRow base 29 2 (.slice (some ⟨g, 0, none⟩) xs.length cap) xs.length (cellsOf encD (P ++ xs.drop P.length)) := hown3.out.kept (grown_of_below hb3 none) (by simp [Value.ownBlock])
          have hgg := grown_trans' hgr3.out (grown_of_below hb3 (some g))
          have HO2 := Lib.hid ho2
          have HGG := Lib.hid hgg
          clear hgg ho2 hb2 hb3 l0 l1
          go_wp2
          go_roundw
          case rel => exact ⟨P, t + 1, by omega, by omega, rfl, by go_num, HFS.out.symm, HO2, HGG⟩
          case measure => simp [intOf]; omega
      · have hPx : P = xs.filter (fun d => !p d) := by rw [hP.out, List.take_of_length_le (by omega)]
        have hltP : P.length < xs.length := by omega
        obtain ⟨w', hcl, ho', hg'⟩ := run_clear_own (P := Tryz.prog) (z := .agg #[.int .i64 0, .int .i64 0]) (k := 2) Tryz.underlying40 Tryz.zeroValue29 rfl (by simp [Value.cells]; rfl) hown3.out hltP (cap - P.length)
        have hct : (cellsOf encD (P ++ xs.drop P.length)).take (P.length * 2) = cellsOf encD P := by
          rw [show cellsOf encD (P ++ xs.drop P.length) = cellsOf encD P ++ cellsOf encD (xs.drop P.length) by simp [cellsOf], ← cellsOf_length encD_len P, List.take_left]
        rw [hct] at ho'
        have hPc : P.length < cap := by omega
        have HPX := Lib.hid hPx
        have HO' := Lib.hid ho'
        have hgf := grown_trans' hgr3.out hg'
        clear hPx ho' hg' hct hown3 hgr3 hP HO HG HST
        go_wp2
        go_ret
        exact ⟨_, rfl, by rw [← HPX.out]; exact HO'.out, hgf⟩
  · have hf : xs.filter (fun d => !p d) = xs := by
      rw [List.filter_eq_self]
      intro q hq
      simp [hno q hq]
    have HF := Lib.hid hf
    have ho1 : w1.ownsRow base 29 2 (.slice A xs.length cap) xs.length (cellsOf encD xs) := H.out.kept (grown_of_below hb1 none) (by cases A <;> simp [Value.ownBlock])
    have HO := Lib.hid ho1
    have hg1 := grown_of_below hb1 (Value.slice A xs.length cap).ownBlock
    clear hf ho1 hno hx
    go_wp2
    go_ret
    exact ⟨_, rfl, by rw [HF.out]; exact HO.out, hg1⟩

theorem ltD_trans {x y z : Int × Int} (h1 : ltD x y = true) (h2 : ltD y z = true) : ltD x z = true := swoD.trans x y z h1 h2
theorem ltD_tri (x y : Int × Int) : ltD x y = true ∨ x = y ∨ ltD y x = true := by
  cases h1 : ltD x y
  · cases h2 : ltD y x
    · exact .inr (.inl (ltD_total x y h1 h2))
    · exact .inr (.inr rfl)
  · exact .inl rfl

/-- Two increasing lists with the same elements are the same. -/
theorem Inc.ext : ∀ {s t : List (Int × Int)}, Inc s → Inc t → (∀ d, d ∈ s ↔ d ∈ t) → s = t
  | [], [], _, _, _ => rfl
  | [], y :: t, _, _, h => by have := (h y).2 (by simp); simp at this
  | x :: s, [], _, _, h => by have := (h x).1 (by simp); simp at this
  | x :: s, y :: t, hs, ht, h => by
    have hs' := List.pairwise_cons.1 hs
    have ht' := List.pairwise_cons.1 ht
    have hxy : x = y := by
      have h1 := (h x).1 (by simp)
      have h2 := (h y).2 (by simp)
      rcases List.mem_cons.1 h1 with e | h1
      · exact e
      · rcases List.mem_cons.1 h2 with e | h2
        · exact e.symm
        · have a := ltD_trans (ht'.1 x h1) (hs'.1 y h2)
          rw [ltD_irrefl] at a; cases a
    subst hxy
    have : s = t := Inc.ext hs'.2 ht'.2 fun d => by
      have hd := h d
      simp only [List.mem_cons] at hd
      constructor
      · intro hm
        rcases hd.1 (.inr hm) with e | h'
        · subst e; have := hs'.1 d hm; rw [ltD_irrefl] at this; cases this
        · exact h'
      · intro hm
        rcases hd.2 (.inr hm) with e | h'
        · subst e; have := ht'.1 d hm; rw [ltD_irrefl] at this; cases this
        · exact h'
    rw [this]

theorem mem_dd : ∀ (xs : List (Int × Int)) (d : Int × Int), d ∈ dd xs ↔ d ∈ xs
  | [], d => by simp [dd]
  | [_], d => by simp [dd]
  | x :: y :: r, d => by
    rw [dd]
    split
    · rename_i h; subst h; rw [mem_dd (x :: r) d]; simp
    · rw [List.mem_cons, mem_dd (y :: r) d, List.mem_cons (a := d) (b := x)]
theorem inc_dd : ∀ (xs : List (Int × Int)), xs.Pairwise (fun p q => ltD q p = false) → Inc (dd xs)
  | [], _ => by simp [dd, Inc]
  | [_], _ => by simp [dd, Inc]
  | x :: y :: r, h => by
    have h' := List.pairwise_cons.1 h
    have ih := inc_dd (y :: r) h'.2
    rw [dd]
    split
    · exact ih
    · rename_i hne
      refine List.pairwise_cons.2 ⟨fun d hd => ?_, ih⟩
      rw [mem_dd] at hd
      have hxy : ltD x y = true := by
        rcases ltD_tri x y with e | e | e
        · exact e
        · exact absurd e hne
        · have := h'.1 y (by simp); rw [e] at this; cases this
      rcases List.mem_cons.1 hd with e | hd
      · subst e; exact hxy
      · have h2 := (List.pairwise_cons.1 h'.2).1 d hd
        rcases ltD_tri y d with e | e | e
        · exact ltD_trans hxy e
        · subst e; exact hxy
        · rw [e] at h2; cases h2

theorem inc_ordL (xs : List (Int × Int)) : Inc (ordL xs) := by
  refine inc_dd _ ?_
  have := List.pairwise_mergeSort (le := fun x y => !ltD y x) (l := xs) (by
    intro a b c h1 h2
    simp only [Bool.not_eq_true'] at h1 h2 ⊢
    exact swoD.ntrans _ _ _ h2 h1) (by
    intro a b
    cases h1 : ltD a b
    · simp
    · cases h2 : ltD b a
      · simp
      · have := ltD_trans h1 h2; rw [ltD_irrefl] at this; cases this)
  exact this.imp (by intro a b h; simpa using h)
theorem mem_ordL (xs : List (Int × Int)) (d : Int × Int) : d ∈ ordL xs ↔ d ∈ xs := by
  rw [ordL, mem_dd, sortedL, List.mem_mergeSort]

theorem mem_insD (s : List (Int × Int)) (x d : Int × Int) : d ∈ insD s x ↔ d ∈ s ∨ d = x := by
  unfold insD
  split
  · rename_i h
    constructor
    · exact .inl
    · rintro (h' | rfl)
      · exact h'
      · exact h
  · have := congrArg (d ∈ ·) (List.takeWhile_append_dropWhile (p := (ltD · x)) (l := s))
    simp only [List.mem_append, eq_iff_iff] at this
    rw [List.mem_append, List.mem_cons, ← this]
    constructor
    · rintro (h | h | h)
      · exact .inl (.inl h)
      · exact .inr h
      · exact .inl (.inr h)
    · rintro ((h | h) | h)
      · exact .inl h
      · exact .inr (.inr h)
      · exact .inr (.inl h)
theorem mem_foldl_ins : ∀ (l s : List (Int × Int)) (d : Int × Int), d ∈ l.foldl insD s ↔ d ∈ s ∨ d ∈ l
  | [], s, d => by simp
  | x :: l, s, d => by
    rw [List.foldl_cons, mem_foldl_ins l, mem_insD, List.mem_cons, or_assoc]
theorem mem_setL (xs : List (Int × Int)) (d : Int × Int) : d ∈ setL xs ↔ d ∈ xs := by
  rw [setL, mem_foldl_ins]; simp

theorem inc_insD {s : List (Int × Int)} (hs : Inc s) (x : Int × Int) : Inc (insD s x) := by
  unfold insD
  split
  · exact hs
  · rename_i hx
    have hsplit := List.takeWhile_append_dropWhile (p := (ltD · x)) (l := s)
    have hs2 : Inc (s.takeWhile (ltD · x) ++ s.dropWhile (ltD · x)) := by rw [hsplit]; exact hs
    obtain ⟨h1, h2, h3⟩ := List.pairwise_append.1 hs2
    have hd : ∀ d ∈ s.dropWhile (ltD · x), ltD x d = true := by
      cases hdw : s.dropWhile (ltD · x) with
      | nil => intro d hd; simp at hd
      | cons y r =>
        have hy : ltD y x = false := by
          have := List.head?_dropWhile_not (ltD · x) s
          rw [hdw] at this
          simpa using this
        have hyx : ltD x y = true := by
          rcases ltD_tri x y with e | e | e
          · exact e
          · exact absurd (by rw [← hsplit, hdw, e]; simp) hx
          · rw [e] at hy; cases hy
        intro d hd
        rcases List.mem_cons.1 hd with e | hd
        · subst e; exact hyx
        · rw [hdw] at h2
          exact ltD_trans hyx ((List.pairwise_cons.1 h2).1 d hd)
    refine List.pairwise_append.2 ⟨h1, List.pairwise_cons.2 ⟨hd, h2⟩, fun a ha b hb => ?_⟩
    have hax : ltD a x = true := by
      have := List.all_takeWhile (p := (ltD · x)) (l := s)
      rw [List.all_eq_true] at this
      exact this a ha
    rcases List.mem_cons.1 hb with e | hb
    · subst e; exact hax
    · exact h3 a ha b hb
theorem inc_foldl : ∀ (l s : List (Int × Int)), Inc s → Inc (l.foldl insD s)
  | [], _, h => h
  | x :: l, _, h => inc_foldl l _ (inc_insD h x)
theorem inc_setL (xs : List (Int × Int)) : Inc (setL xs) := inc_foldl xs [] (by simp [Inc])

theorem ordL_eq (xs : List (Int × Int)) : ordL xs = setL xs := (inc_ordL xs).ext (inc_setL xs) fun d => by rw [mem_ordL, mem_setL]
theorem setL_of_inc {s : List (Int × Int)} (h : Inc s) : setL s = s := (inc_setL s).ext h fun d => mem_setL s d
theorem setL_congr {xs ys : List (Int × Int)} (h : ∀ d, d ∈ xs ↔ d ∈ ys) : setL xs = setL ys := (inc_setL xs).ext (inc_setL ys) fun d => by rw [mem_setL, mem_setL, h]
theorem Inc.filter {s : List (Int × Int)} (h : Inc s) (p : Int × Int → Bool) : Inc (s.filter p) := List.Pairwise.filter p h
theorem filter_setL (xs : List (Int × Int)) (p : Int × Int → Bool) : (setL xs).filter p = setL (xs.filter p) :=
  ((inc_setL xs).filter p).ext (inc_setL _) fun d => by rw [List.mem_filter, mem_setL, mem_setL, List.mem_filter]

theorem isSetL_iff_inc (s : List (Int × Int)) : isSetL s s.length ↔ Inc s := by
  constructor
  · induction s with
    | nil => intro _; simp [Inc]
    | cons x r ih =>
      intro h
      have hr : Inc r := ih fun j p q hj h1 h2 => h (j + 1) p q (by simp at hj ⊢; omega) (by simpa using h1) (by simpa using h2)
      refine List.pairwise_cons.2 ⟨?_, hr⟩
      cases r with
      | nil => intro d hd; simp at hd
      | cons y t =>
        have hxy : ltD x y = true := h 0 x y (by simp) rfl rfl
        intro d hd
        rcases List.mem_cons.1 hd with e | hd
        · subst e; exact hxy
        · exact ltD_trans hxy ((List.pairwise_cons.1 hr).1 d hd)
  · intro h j p q hj h1 h2
    exact h.get h1 h2 (by omega)
theorem isSetB_inc (s : List (Int × Int)) : isSetB s = true ↔ Inc s := (isSetB_iff s).trans (isSetL_iff_inc s)

/-- What Minus and Both of the program are. -/
def pickL (xs ys : List (Int × Int)) (inn : Bool) : List (Int × Int) := (ordL xs).filter fun d => !(decide (d ∈ ordL ys) != inn)
theorem pickL_minus (xs ys : List (Int × Int)) : pickL xs ys false = setL (xs.filter fun d => !decide (d ∈ ys)) := by
  unfold pickL
  rw [ordL_eq xs, filter_setL]
  congr 1
  refine List.filter_congr fun d _ => ?_
  simp [mem_ordL]
theorem pickL_both (xs ys : List (Int × Int)) : pickL xs ys true = bothL xs ys := by
  unfold pickL bothL
  rw [ordL_eq xs, filter_setL]
  refine setL_congr fun d => ?_
  simp only [List.mem_filter, mem_ordL, mem_setL]
  simp
  intro h h'
  exact absurd h h'

set_option maxHeartbeats 1000000 in
theorem dotPick (A B : Option Addr) (xs ys : List (Int × Int)) (c c' : Nat) (inn : Bool) (w : World) (hx : DotsAt w A xs) (hy : DotsAt w B ys) (hm : xs.length + ys.length ≤ 1000000) :
    Calls Tryz.prog 82 #[.slice A xs.length c, .slice B ys.length c', .bool inn] w fun e w' => ∃ v, e = .returned v ∧ Mine w w' v (pickL xs ys inn) := by
  have hsb := fun W hW => dotSet B ys c' W hW (by omega)
  have hsa := fun W hW => dotSet A xs c W hW (by omega)
  have hlb := ordL_len ys
  have hla := ordL_len xs
  have HB := Lib.hid hsb
  have HA := Lib.hid hsa
  clear hsb hsa
  go_enter Tryz.func82, Tryz.ntmps82
  go_wp2_with fail
  have hb0 := (Below.refl w.heap.size w).alloc (Nat.le_refl _) (.cells #[.bool inn] 4)
  refine (HB.out _ (hy.below hb0)).mono ?_
  rintro e w1 ⟨v, rfl, h1⟩
  have hb1 := below_trans hb0 h1.2
  have hin : w1.cell? ⟨w.heap.size, 0, none⟩ = some (.bool inn) := (h1.2.cell (p := ⟨w.heap.size, 0, none⟩) (by simp)).trans (by simp [World.cell?_alloc_new])
  have hlt1 : w.heap.size < w1.heap.size := by have := h1.2.size; simp at this; omega
  obtain ⟨C, cc, rfl, k1, k2, k3⟩ := h1.holds
  have K1 := Lib.hid k1
  clear h1 k1
  go_wp2_with fail
  have hal : Below w1.heap.size w1 (w1.alloc (.cells #[.slice C (ordL ys).length cc] 40)) := (Below.refl _ w1).alloc (Nat.le_refl _) _
  have hc0 : (w1.alloc (.cells #[.slice C (ordL ys).length cc] 40)).cell? ⟨w1.heap.size, 0, none⟩ = some (.slice C (ordL ys).length cc) := by simp [World.cell?_alloc_new]
  have hc1 : (w1.alloc (.cells #[.slice C (ordL ys).length cc] 40)).cell? ⟨w.heap.size, 0, none⟩ = some (.bool inn) := (hal.cell (p := ⟨w.heap.size, 0, none⟩) hlt1).trans hin
  have hb2 := below_trans hb1 hal
  have hsay := Says.pick1 (K1.out.below hal) (by omega) (inc_ordL ys) hc0 hc1
  have HY := Lib.hid hsay
  clear hin hsay hc0 hc1 hal
  generalize w1.alloc (.cells #[.slice C (ordL ys).length cc] 40) = w2 at *
  refine (HA.out _ (hx.below hb2)).mono ?_
  rintro e w3 ⟨v2, rfl, h2⟩
  have hdel := deleteFunc _ _ w2.heap.size w2 v2 (ordL xs) w3 HY.out h2.2 h2.2.size h2.1 (by omega)
  have HD := Lib.hid hdel
  have H2 := Lib.hid h2
  clear hdel h2
  go_wp2_with fail
  refine HD.out.mono ?_
  rintro e w4 ⟨v4, rfl, ho4, hg4⟩
  have H4 := Lib.hid ((H2.out.step ho4 hg4).base hb2)
  clear ho4 hg4
  go_wp2
  go_ret
  exact ⟨_, rfl, H4.out⟩

set_option maxHeartbeats 400000 in
theorem dotBoth (A B : Option Addr) (xs ys : List (Int × Int)) (c c' : Nat) (w : World) (hx : DotsAt w A xs) (hy : DotsAt w B ys) (hm : xs.length + ys.length ≤ 1000000) :
    Calls Tryz.prog 59 #[.slice A xs.length c, .slice B ys.length c'] w fun e w' => ∃ v, e = .returned v ∧ Mine w w' v (pickL xs ys true) := by
  have h := dotPick A B xs ys c c' true w hx hy hm
  have H := Lib.hid h
  clear h
  go_enter Tryz.func59, Tryz.ntmps59
  go_wp2_with fail
  refine H.out.mono ?_
  rintro e w1 ⟨v, rfl, h1⟩
  have H1 := Lib.hid h1; clear h1
  go_wp2
  go_ret
  exact ⟨_, rfl, H1.out⟩


end Go.Proofs.YtfbkhgajlklleaaGreat
