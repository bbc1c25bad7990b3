/- Several texts in one: DotD, DotE, DotF, DotG, DotH. -/
import Derived.Test.YtpnemekkpifbaaaGreatMAA
import Derived.Test.YtpnemekkpifbaaaGreatMAC
import Derived.Deep.AppendLies
namespace Go.Proofs.YtpnemekkpifbaaaGreat

section
open Go.RowKit Go.Sort

theorem ltOf_cmpD : (ltOf fun p q : Int × Int => cmpD p.1 p.2 q.1 q.2) = ltD := by
  funext p q
  simp only [ltOf, cmpD, ltD]
  by_cases h : lessD p.1 p.2 q.1 q.2 = true
  · simp [h]
  · have h' : lessD p.1 p.2 q.1 q.2 = false := by simpa using h
    by_cases h2 : lessD q.1 q.2 p.1 p.2 = true <;> simp [h', h2]

theorem lessD_iff (a b c d : Int) : lessD a b c d = true ↔ (b < d ∨ b = d ∧ a < c) := by simp [lessD]
theorem swoD : SWO ltD where
  irrefl x := by simp [ltD, lessD]
  trans x y z h1 h2 := by rw [ltD, lessD_iff] at *; omega
  ntrans x y z h1 h2 := by
    rw [← Bool.not_eq_true, ltD, lessD_iff] at *; omega
theorem ltD_total (x y : Int × Int) (h1 : ltD x y = false) (h2 : ltD y x = false) : x = y := by
  rw [← Bool.not_eq_true, ltD, lessD_iff] at *
  apply Prod.ext <;> omega

/-- A list in order, equal ones side by side. -/
def sortedL (xs : List (Int × Int)) : List (Int × Int) := xs.mergeSort fun x y => !ltD y x

theorem cmpLays (blk off size : Nat) (w : World) : CmpLays Tryz.prog 59 #[] encD 2 (fun p q : Int × Int => cmpD p.1 p.2 q.1 q.2) blk off size w :=
  fun _ _ _ _ x y => dotCompareG x.1 x.2 y.1 y.2 _

theorem sortFunc (v : Value) (base : Nat) (xs : List (Int × Int)) (w : World) (h : w.ownsRow base 52 2 v xs.length (cellsOf encD xs)) (hm : xs.length ≤ 1000000) :
    Calls Tryz.prog 109 #[v, .func (.func 59) #[] #[]] w fun e w' => e = .returned (.tuple #[]) ∧ w'.ownsRow base 52 2 v (sortedL xs).length (cellsOf encD (sortedL xs)) ∧ w.grownBy w' v.ownBlock := by
  rcases Nat.eq_zero_or_pos xs.length with h0 | h0
  · have hn : xs = [] := List.eq_nil_of_length_eq_zero h0
    subst hn
    obtain ⟨A, c, rfl, _⟩ := SlAt.of_own encD_len h
    have hc := AnyF.slices_SortFunc_none (P := Tryz.prog) (ρ := Tryz.sortDots_ren) { Tryz.sortDots with } A c (.func (.func 59) #[] #[]) w
    refine Calls.mono (show Calls Tryz.prog 109 _ _ _ from hc) ?_
    rintro e w' ⟨he, rfl⟩
    exact ⟨he, by simpa [sortedL] using h, World.grownBy.refl _ _⟩
  · obtain ⟨g, cap, rfl, hb, hg⟩ := h.form h0
    have eg : ∀ args w, (callFunc 59 args).run Tryz.prog w = .ok (.enter 59 args) w := enters_of Tryz.func59 (by kernel_rfl) rfl
    have hc := AnyQ.slices_SortFunc_total Tryz.sortDots 2 Tryz.isAgg52 Tryz.sizeOf52 encD encD_len encD_one (fun p q : Int × Int => cmpD p.1 p.2 q.1 q.2) (by rw [ltOf_cmpD]; exact swoD) 59 #[] g 0 cap xs.toArray w eg (cmpLays g 0 _ w) (holdsK_of_own encD_len (by omega) h) hg (by simp; omega) (by rw [ltOf_cmpD]; exact ltD_total)
    have hc' : Calls Tryz.prog 109 #[.slice (some ⟨g, 0, none⟩) xs.length cap, .func (.func 59) #[] #[]] w _ := hc
    refine hc'.mono ?_
    rintro e w' ⟨he, n, os, rfl⟩
    obtain ⟨h1, h2⟩ := own_of_sort (m := n) (os := os) (d := (xs.toArray.toList.mergeSort fun x y => !(ltOf fun p q : Int × Int => cmpD p.1 p.2 q.1 q.2) y x).toArray) encD_len (by omega) h (by simp)
    refine ⟨he, ?_, h2⟩
    rw [ltOf_cmpD] at h1 ⊢
    exact h1

end

section
open Go.RowKit

/-- Of equal ones side by side one is left. -/
def dd : List (Int × Int) → List (Int × Int)
  | [] => []
  | [x] => [x]
  | x :: y :: r => if x = y then dd (y :: r) else x :: dd (y :: r)
theorem dd_head : ∀ (x : Int × Int) (r : List (Int × Int)), ∃ t, dd (x :: r) = x :: t
  | x, [] => ⟨[], rfl⟩
  | x, y :: r => by
    rw [dd]
    split
    · rename_i h; subst h; exact dd_head x r
    · exact ⟨_, rfl⟩
theorem dd_snoc : ∀ (l : List (Int × Int)) (y x : Int × Int), dd (l ++ [y, x]) = if y = x then dd (l ++ [y]) else dd (l ++ [y]) ++ [x]
  | [], y, x => by
    simp only [List.nil_append, dd]
    split
    · rename_i h; rw [h]
    · rfl
  | [a], y, x => by
    have h := dd_snoc [] y x
    simp only [List.nil_append] at h
    simp only [List.cons_append, List.nil_append]
    rw [dd, h]
    by_cases h1 : a = y <;> by_cases h2 : y = x <;> simp [h1, h2, dd]
  | a :: b :: l, y, x => by
    have h := dd_snoc (b :: l) y x
    simp only [List.cons_append] at h ⊢
    rw [dd, h, dd]
    by_cases h1 : a = b <;> by_cases h2 : y = x <;> simp [h1, h2]
theorem dd_same : ∀ (xs : List (Int × Int)), (∀ j p q, xs[j]? = some p → xs[j + 1]? = some q → p ≠ q) → dd xs = xs
  | [], _ => rfl
  | [_], _ => rfl
  | x :: y :: r, h => by
    rw [dd, if_neg (h 0 x y rfl rfl), dd_same (y :: r) (fun j p q h1 h2 => h (j + 1) p q (by simpa using h1) (by simpa using h2))]
theorem dd_len : ∀ (xs : List (Int × Int)), (dd xs).length ≤ xs.length
  | [] => by simp [dd]
  | [_] => by simp [dd]
  | x :: y :: r => by
    have := dd_len (y :: r)
    rw [dd]
    split <;> simp at this ⊢ <;> omega

theorem dd_step {xs : List (Int × Int)} {m : Nat} {y x : Int × Int} (hy : xs[m]? = some y) (hx : xs[m + 1]? = some x) : dd (xs.take (m + 2)) = if y = x then dd (xs.take (m + 1)) else dd (xs.take (m + 1)) ++ [x] := by
  rw [take_snoc hx, take_snoc hy, List.append_assoc]
  exact dd_snoc (xs.take m) y x

/-- The cells of an element of a row of the call's own. -/
theorem own_dot {w : World} {base g n cap : Nat} {e : TypeId} {ys : List (Int × Int)} (h : w.ownsRow base e 2 (.slice (some ⟨g, 0, none⟩) n cap) n (cellsOf encD ys)) {j : Nat} {r c : Int} (hj : ys[j]? = some (r, c)) :
    w.cell? ⟨g, j * 2, none⟩ = some (.int .i64 r) ∧ w.cell? ⟨g, j * 2 + 1, none⟩ = some (.int .i64 c) ∧ w.frozen? ⟨g, j * 2, none⟩ = false ∧ w.frozen? ⟨g, j * 2 + 1, none⟩ = false := by
  have h0 := h.cells (g := g) rfl (j * 2) _ (cellsOf_at encD_len ys j (r, c) 0 _ hj rfl)
  have h1 := h.cells (g := g) rfl (j * 2 + 1) _ (cellsOf_at encD_len ys j (r, c) 1 _ hj rfl)
  rw [Addr_add] at h0 h1
  exact ⟨by simpa using h0, by simpa using h1, h.frozenAt _, h.frozenAt _⟩

theorem cells_setD (ys : List (Int × Int)) (j : Nat) (r c : Int) (hj : j < ys.length) : ((cellsOf encD ys).set (j * 2) (.int .i64 r)).set (j * 2 + 1) (.int .i64 c) = cellsOf encD (ys.set j (r, c)) := by
  induction ys generalizing j with
  | nil => simp at hj
  | cons y l ih =>
    match j with
    | 0 => simp [cellsOf, encD]
    | j + 1 =>
      have := ih j (by simpa using hj)
      simp only [cellsOf, encD, List.flatMap_cons, List.set_cons_succ, List.cons_append, List.nil_append] at this ⊢
      rw [show (j + 1) * 2 = j * 2 + 1 + 1 by omega, show j * 2 + 1 + 1 + 1 = (j * 2 + 1) + 1 + 1 by omega]
      simp only [List.set_cons_succ]
      rw [this]

/-- One element is stored. -/
theorem own_store {w : World} {base g n cap : Nat} {e : TypeId} {ys : List (Int × Int)} (h : w.ownsRow base e 2 (.slice (some ⟨g, 0, none⟩) n cap) n (cellsOf encD ys)) {j : Nat} {r c : Int} (hj : j < ys.length) :
    ((w.setCell ⟨g, j * 2, none⟩ (.int .i64 r)).setCell ⟨g, j * 2 + 1, none⟩ (.int .i64 c)).ownsRow base e 2 (.slice (some ⟨g, 0, none⟩) n cap) n (cellsOf encD (ys.set j (r, c))) ∧
    w.grownBy ((w.setCell ⟨g, j * 2, none⟩ (.int .i64 r)).setCell ⟨g, j * 2 + 1, none⟩ (.int .i64 c)) (some g) := by
  obtain ⟨h1, g1⟩ := h.stored (j * 2) (.int .i64 r)
  obtain ⟨h2, g2⟩ := h1.stored (j * 2 + 1) (.int .i64 c)
  rw [cells_setD ys j r c hj] at h2
  exact ⟨h2, ⟨g2.os.trans g1.os, g2.tape.trans g1.tape, g2.output.trans g1.output, Nat.le_trans g1.size g2.size, fun i hi hne => (g2.block i (Nat.lt_of_lt_of_le hi g1.size) hne).trans (g1.block i hi hne)⟩⟩

/-- 'clear(s[m:])', s a row of the call's own. -/
theorem run_clear_own {P : Program} {w : World} {base g n cap m k : Nat} {e t : TypeId} {cs : List Value} {z : Value} (ht : P.underlying t = some (.slice e)) (hv : ∀ w, (zeroValue e).run P w = .ok z w) (hz : z.cells.size = k) (h1 : ∀ u ∈ z.cells.toList, u.oneCell' = true)
    (h : w.ownsRow base e k (.slice (some ⟨g, 0, none⟩) n cap) n cs) (hm : m < n) (c : Nat) :
    ∃ w', (∀ ty, (Builtin.clear_ #[t] ty #[.slice (some ⟨g, m * k, none⟩) (n - m) c]).run P w = .ok (.tuple #[]) w') ∧ w'.ownsRow base e k (.slice (some ⟨g, 0, none⟩) m cap) m (cs.take (m * k)) ∧ w.grownBy w' (some g) := by
  have hlen := h.1
  rcases h.2 with ⟨h0, _⟩ | ⟨g', cap', cur, hv', hb, hg, hn, hc, hs, htk⟩
  · cases h0
  · cases hv'
    have hzl : (Builtin.zeroCells z.cells (n - m)).toList.length = (n - m) * k := by simp [Builtin.zeroCells, hz]
    have hle : m * k + (n - m) * k ≤ cur.size := by
      rw [← Nat.add_mul, hs]; exact Nat.mul_le_mul_right k (by omega)
    have hmk : m * k ≤ n * k := Nat.mul_le_mul_right k (by omega)
    have hst := run_storeCells_at P g (m * k) e (Builtin.zeroCells z.cells (n - m)).toList 0 cur w hg (by simp only [Nat.add_zero]; rw [hzl]; exact hle) (by
      intro u hu
      simp only [Builtin.zeroCells, Array.toList_map, List.mem_map] at hu
      obtain ⟨i, hi, rfl⟩ := hu
      have hi' : i < (n - m) * z.cells.size := by simpa using hi
      have hk0 : 0 < z.cells.size := by
        rcases Nat.eq_zero_or_pos z.cells.size with h | h
        · rw [h] at hi'; omega
        · exact h
      refine h1 _ ?_
      rw [getElem!_pos z.cells _ (Nat.mod_lt _ hk0)]
      exact Array.getElem_mem_toList _)
    have hcs : (cur.toList.take (m * k + 0) ++ (Builtin.zeroCells z.cells (n - m)).toList ++ cur.toList.drop (m * k + 0 + (Builtin.zeroCells z.cells (n - m)).toList.length)).length = cur.size := by
      simp only [List.length_append, List.length_take, List.length_drop, hzl, Array.length_toList]; omega
    generalize hZ : (Builtin.zeroCells z.cells (n - m)).toList = Z at *
    refine ⟨w.setRow g (cur.toList.take (m * k + 0) ++ Z ++ cur.toList.drop (m * k + 0 + Z.length)).toArray, ?_, ⟨?_, .inr ⟨g, cap, _, rfl, hb, setRow_heap w g cur _ e (0, 0) hg, by omega, hc, ?_, ?_⟩⟩, ?_⟩
    · intro ty
      obtain ⟨q, hq⟩ : ∃ q, n - m = q + 1 := ⟨n - m - 1, by omega⟩
      rw [hq] at hZ ⊢
      simp only [Builtin.clear_]
      simp [run_underlying ht, hv, hZ, hst]
    · rw [List.length_take, hlen]; omega
    · rw [← hs, List.size_toArray, hcs]
    · rw [← htk, List.take_take, Nat.min_eq_left hmk]
      show List.take (m * k) (cur.toList.take (m * k + 0) ++ Z ++ _) = _
      rw [List.append_assoc, List.take_append_of_le_length (by simp; omega), List.take_take, Nat.add_zero, Nat.min_self]
    · refine ⟨rfl, rfl, rfl, by simp [World.setRow], fun i hi hne => ?_⟩
      simp only [World.setRow, Array.getElem?_modify]
      rw [if_neg (by rintro rfl; exact hne rfl)]

end

section
open Go.RowKit

/-- Nothing stands twice side by side among the first m + 1. -/
def NoTwice (xs : List (Int × Int)) (m : Nat) : Prop := ∀ j p q, j < m → xs[j]? = some p → xs[j + 1]? = some q → p ≠ q
theorem NoTwice.dd {xs : List (Int × Int)} {m : Nat} (h : NoTwice xs m) : dd (xs.take (m + 1)) = xs.take (m + 1) := by
  refine dd_same _ fun j p q h1 h2 => ?_
  rw [List.getElem?_take] at h1 h2
  split at h1
  · split at h2
    · exact h j p q (by omega) h1 h2
    · cases h2
  · cases h1
theorem NoTwice.step {xs : List (Int × Int)} {m : Nat} {p q : Int × Int} (h : NoTwice xs m) (hp : xs[m]? = some p) (hq : xs[m + 1]? = some q) (hne : p ≠ q) : NoTwice xs (m + 1) := by
  intro j p' q' hj h1 h2
  by_cases e : j = m
  · subst e; rw [hp] at h1; rw [hq] at h2; cases h1; cases h2; exact hne
  · exact h j p' q' (by omega) h1 h2

theorem grown_trans' {a b c : World} {row : Option Nat} (h : a.grownBy b row) (k : b.grownBy c row) : a.grownBy c row :=
  ⟨k.os.trans h.os, k.tape.trans h.tape, k.output.trans h.output, Nat.le_trans h.size k.size, fun i hi hne => (k.block i (Nat.lt_of_lt_of_le hi h.size) hne).trans (h.block i hi hne)⟩
theorem get_tail {α : Type} {P xs : List α} {j : Nat} (h : P.length ≤ j) : (P ++ xs.drop P.length)[j]? = xs[j]? := by
  rw [List.getElem?_append_right h, List.getElem?_drop]
  congr 1; omega
theorem set_tail {α : Type} {P xs : List α} {x : α} (h : P.length < xs.length) : (P ++ xs.drop P.length).set P.length x = (P ++ [x]) ++ xs.drop (P ++ [x]).length := by
  rw [List.set_append_right _ _ (Nat.le_refl _), Nat.sub_self, List.drop_eq_getElem_cons h, List.set_cons_zero]
  simp
theorem grown_drewN (w : World) (n : Nat) (row : Option Nat) : w.grownBy (w.drewN n) row := ⟨rfl, rfl, rfl, Nat.le_refl _, fun _ _ _ => rfl⟩
theorem own_drewN {w : World} {base : Nat} {e : TypeId} {k n : Nat} {v : Value} {cs : List Value} (h : w.ownsRow base e k v n cs) (q : Nat) : (w.drewN q).ownsRow base e k v n cs := h

set_option maxHeartbeats 1000000 in
theorem slicesCompact (v : Value) (base : Nat) (xs : List (Int × Int)) (w : World) (h : w.ownsRow base 52 2 v xs.length (cellsOf encD xs)) (hm : xs.length ≤ 1000000) :
    Calls Tryz.prog 110 #[v] w fun e w' => ∃ v', e = .returned v' ∧ w'.ownsRow base 52 2 v' (dd xs).length (cellsOf encD (dd xs)) ∧ w.grownBy w' v.ownBlock ∧ v'.ownBlock = v.ownBlock := by
  rcases Nat.lt_or_ge xs.length 2 with h0 | h0
  · obtain ⟨A, c, rfl, _⟩ := SlAt.of_own encD_len h
    have hd : dd xs = xs := dd_same _ fun j p q h1 h2 => by
      have : j + 1 < xs.length := by
        rcases Nat.lt_or_ge (j + 1) xs.length with h | h
        · exact h
        · rw [List.getElem?_eq_none h] at h2; cases h2
      omega
    rw [hd]
    have H := Lib.hid h
    clear h hd
    go_enter Tryz.func110, Tryz.ntmps110
    go_wp2
    go_ret
    exact ⟨_, rfl, H.out, World.grownBy.refl _ _, rfl⟩
  · obtain ⟨g, cap, rfl, hb, hg⟩ := h.form (by omega)
    have hcap : xs.length ≤ cap ∧ cap ≤ maxLen := by
      rcases h.2 with ⟨h1, _⟩ | ⟨g', cap', cur, hv, _, _, hn, hc, _⟩
      · cases h1
      · cases hv; exact ⟨hn, hc⟩
    obtain ⟨hcap1, hcap2⟩ := hcap
    unfold maxLen at hcap2
    have H := Lib.hid h
    clear h
    go_enter Tryz.func110, Tryz.ntmps110
    go_wp2
    go_loopw [3] (fun i wr => ∃ m q : Nat, m + 1 ≤ xs.length ∧ i = .int .i64 ((m : Int) + 1) ∧ Hid (wr = w.drewN q) ∧ Hid (NoTwice xs m)) (fun i _ => xs.length - (intOf i).toNat)
    case atStart => exact ⟨0, 0, by omega, rfl, rfl, fun j p q h => by omega⟩
    case round =>
      obtain ⟨m, q, hk2, rfl, hw, hs⟩ := hrel
      have hown : wr.ownsRow base 52 2 (.slice (some ⟨g, 0, none⟩) xs.length cap) xs.length (cellsOf encD xs) := by rw [hw.out]; exact H.out
      have hgr : w.grownBy wr (some g) := by rw [hw.out]; exact grown_drewN _ _ _
      have HO := Lib.hid hown
      have HG := Lib.hid hgr
      clear hgr
      by_cases hlt : m + 1 < xs.length
      · obtain ⟨⟨r, c⟩, hx1⟩ : ∃ x, xs[m]? = some x := ⟨_, List.getElem?_eq_getElem (by omega)⟩
        obtain ⟨⟨r', c'⟩, hx2⟩ : ∃ x, xs[m + 1]? = some x := ⟨_, List.getElem?_eq_getElem hlt⟩
        obtain ⟨l0, l1, _, _⟩ := own_dot hown hx1
        obtain ⟨l2, l3, _, _⟩ := own_dot hown hx2
        clear hown
        have HX1 := Lib.hid hx1; clear hx1
        have HX2 := Lib.hid hx2; clear hx2
        by_cases hq : r' = r ∧ c' = c
        · obtain ⟨rfl, rfl⟩ := hq
          go_wp2
          go_quiet (fail)
          have hown2 : (wr.drewN nq).ownsRow base 52 2 (.slice (some ⟨g, 0, none⟩) xs.length cap) xs.length (cellsOf encD xs) := own_drewN HO.out nq
          have hgr2 : w.grownBy (wr.drewN nq) (some g) := grown_trans' HG.out (grown_drewN _ _ _)
          have hP : dd (xs.take (m + 1)) = xs.take (m + 1) := hs.out.dd
          have hP2 : dd (xs.take (m + 2)) = dd (xs.take (m + 1)) := by rw [dd_step HX1.out HX2.out, if_pos rfl]
          have hlen : (xs.take (m + 1)).length = m + 1 := by simp; omega
          have hst : ∃ P, (P : List (Int × Int)).length = m + 1 ∧ P = dd (xs.take (m + 2)) ∧ P ++ xs.drop P.length = xs := ⟨xs.take (m + 1), hlen, by rw [hP2, hP], by rw [hlen]; exact List.take_append_drop _ _⟩
          have HST := Lib.hid hst
          clear hst hlen hP hP2
          generalize hwo : wr.drewN nq = wo at *
          have HWO := Lib.hid hwo
          clear hwo
          have HO2 := Lib.hid hown2
          have HG2 := Lib.hid hgr2
          clear hown2 hgr2 hw HO HG l0 l1 l2 l3 HX1 HX2
          go_wp2
          go_loopw [3, 5] (fun k i wr => ∃ (P : List (Int × Int)) (t : Nat), m + 1 + (t + 1) ≤ xs.length ∧ P.length ≤ m + 1 + t ∧ k = .int .i64 (P.length : Int) ∧ i = .int .i64 ((t : Int) + 1) ∧ Hid (P = dd (xs.take (m + 1 + (t + 1)))) ∧
              Hid (wr.ownsRow base 52 2 (.slice (some ⟨g, 0, none⟩) xs.length cap) xs.length (cellsOf encD (P ++ xs.drop P.length))) ∧ Hid (w.grownBy wr (some g))) (fun _ i _ => xs.length - (intOf i).toNat)
          case atStart =>
            obtain ⟨P, h1, h2, h3⟩ := HST.out
            exact ⟨P, 0, by omega, by omega, by rw [h1]; rfl, rfl, h2, by rw [h3]; exact HO2, HG2⟩
          case round =>
            obtain ⟨P, t, hk1, hk3, rfl, rfl, hP, hown3, hgr3⟩ := hrel
            by_cases hlt2 : m + 1 + (t + 1) < xs.length
            · obtain ⟨⟨ra, ca⟩, hxa⟩ : ∃ x, xs[m + 1 + t]? = some x := ⟨_, List.getElem?_eq_getElem (by omega)⟩
              obtain ⟨⟨rb, cb⟩, hxb⟩ : ∃ x, xs[m + 1 + (t + 1)]? = some x := ⟨_, List.getElem?_eq_getElem hlt2⟩
              obtain ⟨⟨rp, cp⟩, hxp⟩ : ∃ x, xs[P.length]? = some x := ⟨_, List.getElem?_eq_getElem (by omega)⟩
              obtain ⟨l0, l1, _, _⟩ := own_dot hown3.out (j := m + 1 + t) ((get_tail (by omega)).trans hxa)
              obtain ⟨l2, l3, _, _⟩ := own_dot hown3.out (j := m + 1 + (t + 1)) ((get_tail (by omega)).trans hxb)
              obtain ⟨l4, l5, l6, l7⟩ := own_dot hown3.out (j := P.length) ((get_tail (by omega)).trans hxp)
              rw [Nat.add_mul (m + 1)] at l0 l1 l2 l3
              have hdd : dd (xs.take (m + 1 + (t + 1 + 1))) = if ((ra, ca) : Int × Int) = (rb, cb) then P else P ++ [(rb, cb)] := by
                have := dd_step (xs := xs) (m := m + 1 + t) hxa hxb
                rw [hP.out]; exact this
              have hlt3 : t + 1 < xs.length - (m + 1) := by omega
              have hltP : P.length < xs.length := by omega
              have HXA := Lib.hid hxa; clear hxa
              have HXB := Lib.hid hxb; clear hxb
              have HXP := Lib.hid hxp; clear hxp
              by_cases hq : rb = ra ∧ cb = ca
              · obtain ⟨rfl, rfl⟩ := hq
                rw [if_pos rfl] at hdd
                have HDD := Lib.hid hdd; clear hdd
                go_wp2
                go_quiet (fail)
                go_wp2
                go_roundw
                case rel => exact ⟨P, t + 1, by omega, by omega, rfl, by go_num, HDD.out.symm, own_drewN hown3.out nq, grown_trans' hgr3.out (grown_drewN _ _ _)⟩
                case measure => simp [intOf]; omega
              · rw [if_neg (fun e => by injection e with e1 e2; exact hq ⟨e1.symm, e2.symm⟩)] at hdd
                have HDD := Lib.hid hdd; clear hdd
                have hos := fun q => own_store (w := wr.drewN q) (r := rb) (c := cb) (own_drewN hown3.out q) (j := P.length) (by simp; omega)
                rw [set_tail hltP] at hos
                have HOS := Lib.hid hos; clear hos
                have hrc : rb = ra → ¬ cb = ca := fun e1 e2 => hq ⟨e1, e2⟩
                clear hq
                by_cases hr : rb = ra
                · have hc := hrc hr
                  clear hrc
                  subst hr
                  go_wp2
                  go_quiet (fail)
                  go_wp2
                  go_roundw
                  case rel => exact ⟨P ++ [(rb, cb)], t + 1, by omega, by simp; omega, by simp, by go_num, HDD.out.symm, (HOS.out nq).1, grown_trans' (grown_trans' hgr3.out (grown_drewN _ _ _)) (HOS.out nq).2⟩
                  case measure => simp [intOf]; omega
                · clear hrc
                  go_wp2
                  go_quiet (fail)
                  go_wp2
                  go_roundw
                  case rel => exact ⟨P ++ [(rb, cb)], t + 1, by omega, by simp; omega, by simp, by go_num, HDD.out.symm, (HOS.out nq).1, grown_trans' (grown_trans' hgr3.out (grown_drewN _ _ _)) (HOS.out nq).2⟩
                  case measure => simp [intOf]; omega
            · have hPx : P = dd xs := by rw [hP.out, List.take_of_length_le (by omega)]
              have hltP : P.length < xs.length := by omega
              obtain ⟨w', hcl, ho', hg'⟩ := run_clear_own (P := Tryz.prog) (z := .agg #[.int .i64 0, .int .i64 0]) (k := 2) Tryz.underlying25 Tryz.zeroValue52 rfl (by simp [Value.cells]; rfl) hown3.out hltP (cap - P.length)
              have hct : (cellsOf encD (P ++ xs.drop P.length)).take (P.length * 2) = cellsOf encD P := by
                rw [show cellsOf encD (P ++ xs.drop P.length) = cellsOf encD P ++ cellsOf encD (xs.drop P.length) by simp [cellsOf], ← cellsOf_length encD_len P, List.take_left]
              rw [hct] at ho'
              have hP0 : 1 ≤ P.length := by
                obtain ⟨x, hx⟩ : ∃ x, xs[0]? = some x := ⟨_, List.getElem?_eq_getElem (by omega)⟩
                obtain ⟨y, l, e⟩ : ∃ y l, xs = y :: l := by
                  cases hxs : xs with
                  | nil => rw [hxs] at hx; simp at hx
                  | cons y l => exact ⟨y, l, rfl⟩
                obtain ⟨t', ht'⟩ := dd_head y l
                rw [hPx, e, ht']; simp
              have HPX := Lib.hid hPx
              have HO := Lib.hid ho'
              have hgf := grown_trans' hgr3.out hg'
              clear hPx ho' hg' hct hown3 hgr3 hP HO2 HG2 HST
              have hPc : P.length ≤ cap := by omega
              go_wp2
              go_ret
              exact ⟨_, rfl, by rw [← HPX.out]; exact HO.out, hgf, rfl⟩
        · have hne : ((r, c) : Int × Int) ≠ (r', c') := fun e => by injection e with e1 e2; exact hq ⟨e1.symm, e2.symm⟩
          have HN := Lib.hid (hs.out.step HX1.out HX2.out hne)
          clear hne
          by_cases hr : r' = r
          · have hc : ¬ c' = c := fun e => hq ⟨hr, e⟩
            clear hq
            subst hr
            go_wp2
            go_quiet (fail)
            go_wp2
            go_roundw
            case rel => exact ⟨m + 1, q + nq, by omega, by go_num, by rw [hw.out]; exact World.drewN_drewN _ _ _, HN⟩
            case measure => simp [intOf]; omega
          · clear hq
            go_wp2
            go_quiet (fail)
            go_wp2
            go_roundw
            case rel => exact ⟨m + 1, q + nq, by omega, by go_num, by rw [hw.out]; exact World.drewN_drewN _ _ _, HN⟩
            case measure => simp [intOf]; omega
      · have hd : dd xs = xs := by
          have := hs.out.dd
          rwa [List.take_of_length_le (by omega)] at this
        have HD := Lib.hid hd
        clear hd hown
        go_wp2
        go_ret
        exact ⟨_, rfl, by rw [HD.out]; exact HO.out, HG.out, rfl⟩

end

section
open Go.RowKit

/-- What order makes of a list. -/
def ordL (xs : List (Int × Int)) : List (Int × Int) := dd (sortedL xs)
theorem ordL_len (xs : List (Int × Int)) : (ordL xs).length ≤ xs.length := by
  have := dd_len (sortedL xs)
  simpa [ordL, sortedL] using this

set_option maxHeartbeats 400000 in
theorem dotOrder (v : Value) (base : Nat) (xs : List (Int × Int)) (w : World) (h : w.ownsRow base 52 2 v xs.length (cellsOf encD xs)) (hm : xs.length ≤ 1000000) :
    Calls Tryz.prog 88 #[v] w fun e w' => ∃ v', e = .returned v' ∧ w'.ownsRow base 52 2 v' (ordL xs).length (cellsOf encD (ordL xs)) ∧ w.grownBy w' v.ownBlock ∧ v'.ownBlock = v.ownBlock := by
  have hs := sortFunc v base xs w h hm
  have hl : (sortedL xs).length = xs.length := by simp [sortedL]
  have hc := fun W hW => slicesCompact v base (sortedL xs) W hW (by omega)
  have HS := Lib.hid hs
  have HC := Lib.hid hc
  clear hs hc h hl
  go_enter Tryz.func88, Tryz.ntmps88
  go_wp2_with fail
  refine HS.out.mono ?_
  rintro e w1 ⟨rfl, ho1, hg1⟩
  have HO := Lib.hid ho1; clear ho1
  go_wp2_with fail
  refine (HC.out _ HO.out).mono ?_
  rintro e w2 ⟨v', rfl, ho2, hg2, hv⟩
  have HO2 := Lib.hid ho2; clear ho2
  have HV := Lib.hid hv; clear hv
  go_wp2
  go_ret
  exact ⟨_, rfl, HO2.out, grown_trans' hg1 hg2, HV.out⟩

/-- A row of the call's own, and all that was there as it was. -/
def Mine (w w' : World) (v : Value) (xs : List (Int × Int)) : Prop := w'.ownsRow w.heap.size 52 2 v xs.length (cellsOf encD xs) ∧ Below w.heap.size w w'
theorem Mine.holds {w w' : World} {v : Value} {xs : List (Int × Int)} (h : Mine w w' v xs) : Holds w' v xs := by
  obtain ⟨A, c, rfl, h1, h2, h3⟩ := SlAt.of_own encD_len h.1
  exact ⟨A, c, rfl, h3, h1, h2⟩

set_option maxHeartbeats 400000 in
theorem slicesClone (A : Option Addr) (xs : List (Int × Int)) (cap : Nat) (w : World) (hx : DotsAt w A xs) (hm : xs.length ≤ 1000000) :
    Calls Tryz.prog 89 #[.slice A xs.length cap] w fun e w' => ∃ v, e = .returned v ∧ Mine w w' v xs := by
  obtain ⟨i0, hi0, hz0, hz1, hz2⟩ := info_parts infoD
  match A with
  | none =>
    have h0 : xs = [] := by
      cases xs with
      | nil => rfl
      | cons x r => obtain ⟨_, _, h, _⟩ := hx (by simp); cases h
    subst h0
    have hc : Calls Tryz.prog 89 #[.slice none 0 cap] w _ := AnyE.slices_Clone_nil Tryz.cloneDots 0 cap w
    refine hc.mono ?_
    rintro e w' ⟨rfl, rfl⟩
    exact ⟨_, rfl, World.ownsRow_nil _ _ _ _, Below.refl _ _⟩
  | some a =>
    have q22 : ∀ (w : World) (a : Option Addr) (n c n' c' : Nat), (binOp .eql 25 (.slice a n c) (.slice none n' c')).run Tryz.prog w = .ok (.bool a.isNone) w := fun w a n c n' c' => Lib.run_eql_slice_nil w _ _ a n c n' c' Tryz.underlying25
    go_enter Tryz.func89, Tryz.ntmps89
    go_wp2_with (at_builtin; refine wpList_append_sl _ encD 2 rfl (.tmp 5) (.tmp 6) 25 rfl encD_len (by omega) encD_one w.heap.size 52 i0 _ 16 Tryz.underlying25 hi0 hz0 hz1 hz2 rfl _ [] rfl (World.ownsRow_made w #[] 0 (Nat.le_refl _) (Nat.zero_le _) (by simp)) (some a) _ cap xs rfl rfl (hx.below ((Below.refl _ w).alloc (Nat.le_refl _) _)) (by simp [maxLen]; omega) (by simp; omega) (by simp) ?_; intro v1 w1 hown1 hg1 hat1)
    rw [List.nil_append] at hown1
    have HO := Lib.hid hown1
    clear hown1
    go_wp2
    go_ret
    refine ⟨_, rfl, HO.out, ((Below.refl _ w).alloc (Nat.le_refl _) _).grown hg1 (by simp) ?_⟩
    intro k hk
    have e0 : some w.heap.size = some k := hk
    injection e0 with e
    omega

theorem Mine.step {w w1 w2 : World} {v v' : Value} {xs ys : List (Int × Int)} (h : Mine w w1 v xs) (ho : w2.ownsRow w.heap.size 52 2 v' ys.length (cellsOf encD ys)) (hg : w1.grownBy w2 v.ownBlock) : Mine w w2 v' ys :=
  ⟨ho, h.2.grown hg h.2.size (fun k hk => (h.1.lt k hk).1)⟩

set_option maxHeartbeats 400000 in
theorem dotSet (A : Option Addr) (xs : List (Int × Int)) (cap : Nat) (w : World) (hx : DotsAt w A xs) (hm : xs.length ≤ 1000000) :
    Calls Tryz.prog 55 #[.slice A xs.length cap] w fun e w' => ∃ v, e = .returned v ∧ Mine w w' v (ordL xs) := by
  have hc := slicesClone A xs cap w hx hm
  have ho := fun v W hW => dotOrder v w.heap.size xs W hW hm
  have HC := Lib.hid hc
  have HR := Lib.hid ho
  clear hc ho
  go_enter Tryz.func55, Tryz.ntmps55
  go_wp2_with fail
  refine HC.out.mono ?_
  rintro e w1 ⟨v, rfl, h1⟩
  have H1 := Lib.hid h1; clear h1
  go_wp2_with fail
  refine (HR.out _ _ H1.out.1).mono ?_
  rintro e w2 ⟨v', rfl, ho2, hg2, hv⟩
  have H2 := Lib.hid (H1.out.step ho2 hg2); clear ho2 hg2 hv
  go_wp2
  go_ret
  exact ⟨_, rfl, H2.out⟩

end

section
open Go.RowKit

set_option maxRecDepth 100000

theorem Mine.base {w0 w w' : World} {v : Value} {xs : List (Int × Int)} (hb : Below w0.heap.size w0 w) (h : Mine w w' v xs) : Mine w0 w' v xs := by
  refine ⟨⟨h.1.1, ?_⟩, below_trans hb h.2⟩
  rcases h.1.2 with h1 | ⟨g, cap, cur, hv, hg, r⟩
  · exact .inl h1
  · exact .inr ⟨g, cap, cur, hv, Nat.le_trans hb.size hg, r⟩

end

end Go.Proofs.YtpnemekkpifbaaaGreat
