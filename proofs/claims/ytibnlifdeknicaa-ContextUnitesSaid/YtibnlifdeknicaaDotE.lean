/- Package dot: what stands twice in a row is taken out (slices.Compact at dots). -/
import Derived.Test.YtibnlifdeknicaaDotD
namespace Go.Proofs.Ytibnlifdeknicaa
open Go.RowKit

/-- Of equal ones side by side one is left. -/
def dd : List (Int × Int) → List (Int × Int)
  | [] => []
  | [x] => [x]
  | x :: y :: r => if x = y then dd (y :: r) else x :: dd (y :: r)
theorem dd_head : ∀ (x : Int × Int) (r : List (Int × Int)), ∃ t, dd (x :: r) = x :: t
  | x, [] => ⟨[], rfl⟩
  | x, y :: r => by
    rw [dd]
    split
    · rename_i h; subst h; exact dd_head x r
    · exact ⟨_, rfl⟩
theorem dd_snoc : ∀ (l : List (Int × Int)) (y x : Int × Int), dd (l ++ [y, x]) = if y = x then dd (l ++ [y]) else dd (l ++ [y]) ++ [x]
  | [], y, x => by
    simp only [List.nil_append, dd]
    split
    · rename_i h; rw [h]
    · rfl
  | [a], y, x => by
    have h := dd_snoc [] y x
    simp only [List.nil_append] at h
    simp only [List.cons_append, List.nil_append]
    rw [dd, h]
    by_cases h1 : a = y <;> by_cases h2 : y = x <;> simp [h1, h2, dd]
  | a :: b :: l, y, x => by
    have h := dd_snoc (b :: l) y x
    simp only [List.cons_append] at h ⊢
    rw [dd, h, dd]
    by_cases h1 : a = b <;> by_cases h2 : y = x <;> simp [h1, h2]
theorem dd_same : ∀ (xs : List (Int × Int)), (∀ j p q, xs[j]? = some p → xs[j + 1]? = some q → p ≠ q) → dd xs = xs
  | [], _ => rfl
  | [_], _ => rfl
  | x :: y :: r, h => by
    rw [dd, if_neg (h 0 x y rfl rfl), dd_same (y :: r) (fun j p q h1 h2 => h (j + 1) p q (by simpa using h1) (by simpa using h2))]
theorem dd_len : ∀ (xs : List (Int × Int)), (dd xs).length ≤ xs.length
  | [] => by simp [dd]
  | [_] => by simp [dd]
  | x :: y :: r => by
    have := dd_len (y :: r)
    rw [dd]
    split <;> simp at this ⊢ <;> omega

theorem dd_step {xs : List (Int × Int)} {m : Nat} {y x : Int × Int} (hy : xs[m]? = some y) (hx : xs[m + 1]? = some x) : dd (xs.take (m + 2)) = if y = x then dd (xs.take (m + 1)) else dd (xs.take (m + 1)) ++ [x] := by
  rw [take_snoc hx, take_snoc hy, List.append_assoc]
  exact dd_snoc (xs.take m) y x

/-- The cells of an element of a row of the call's own. -/
theorem own_dot {w : World} {base g n cap : Nat} {e : TypeId} {ys : List (Int × Int)} (h : w.ownsRow base e 2 (.slice (some ⟨g, 0, none⟩) n cap) n (cellsOf encD ys)) {j : Nat} {r c : Int} (hj : ys[j]? = some (r, c)) :
    w.cell? ⟨g, j * 2, none⟩ = some (.int .i64 r) ∧ w.cell? ⟨g, j * 2 + 1, none⟩ = some (.int .i64 c) ∧ w.frozen? ⟨g, j * 2, none⟩ = false ∧ w.frozen? ⟨g, j * 2 + 1, none⟩ = false := by
  have h0 := h.cells (g := g) rfl (j * 2) _ (cellsOf_at encD_len ys j (r, c) 0 _ hj rfl)
  have h1 := h.cells (g := g) rfl (j * 2 + 1) _ (cellsOf_at encD_len ys j (r, c) 1 _ hj rfl)
  rw [Addr_add] at h0 h1
  exact ⟨by simpa using h0, by simpa using h1, h.frozenAt _, h.frozenAt _⟩

theorem cells_set (ys : List (Int × Int)) (j : Nat) (r c : Int) (hj : j < ys.length) : ((cellsOf encD ys).set (j * 2) (.int .i64 r)).set (j * 2 + 1) (.int .i64 c) = cellsOf encD (ys.set j (r, c)) := by
  induction ys generalizing j with
  | nil => simp at hj
  | cons y l ih =>
    match j with
    | 0 => simp [cellsOf, encD]
    | j + 1 =>
      have := ih j (by simpa using hj)
      simp only [cellsOf, encD, List.flatMap_cons, List.set_cons_succ, List.cons_append, List.nil_append] at this ⊢
      rw [show (j + 1) * 2 = j * 2 + 1 + 1 by omega, show j * 2 + 1 + 1 + 1 = (j * 2 + 1) + 1 + 1 by omega]
      simp only [List.set_cons_succ]
      rw [this]

/-- One element is stored. -/
theorem own_store {w : World} {base g n cap : Nat} {e : TypeId} {ys : List (Int × Int)} (h : w.ownsRow base e 2 (.slice (some ⟨g, 0, none⟩) n cap) n (cellsOf encD ys)) {j : Nat} {r c : Int} (hj : j < ys.length) :
    ((w.setCell ⟨g, j * 2, none⟩ (.int .i64 r)).setCell ⟨g, j * 2 + 1, none⟩ (.int .i64 c)).ownsRow base e 2 (.slice (some ⟨g, 0, none⟩) n cap) n (cellsOf encD (ys.set j (r, c))) ∧
    w.grownBy ((w.setCell ⟨g, j * 2, none⟩ (.int .i64 r)).setCell ⟨g, j * 2 + 1, none⟩ (.int .i64 c)) (some g) := by
  obtain ⟨h1, g1⟩ := h.stored (j * 2) (.int .i64 r)
  obtain ⟨h2, g2⟩ := h1.stored (j * 2 + 1) (.int .i64 c)
  rw [cells_set ys j r c hj] at h2
  exact ⟨h2, ⟨g2.os.trans g1.os, g2.tape.trans g1.tape, g2.output.trans g1.output, Nat.le_trans g1.size g2.size, fun i hi hne => (g2.block i (Nat.lt_of_lt_of_le hi g1.size) hne).trans (g1.block i hi hne)⟩⟩

/-- 'clear(s[m:])', s a row of the call's own. -/
theorem run_clear_own {P : Program} {w : World} {base g n cap m k : Nat} {e t : TypeId} {cs : List Value} {z : Value} (ht : P.underlying t = some (.slice e)) (hv : ∀ w, (zeroValue e).run P w = .ok z w) (hz : z.cells.size = k) (h1 : ∀ u ∈ z.cells.toList, u.oneCell' = true)
    (h : w.ownsRow base e k (.slice (some ⟨g, 0, none⟩) n cap) n cs) (hm : m < n) (c : Nat) :
    ∃ w', (∀ ty, (Builtin.clear_ #[t] ty #[.slice (some ⟨g, m * k, none⟩) (n - m) c]).run P w = .ok (.tuple #[]) w') ∧ w'.ownsRow base e k (.slice (some ⟨g, 0, none⟩) m cap) m (cs.take (m * k)) ∧ w.grownBy w' (some g) := by
  have hlen := h.1
  rcases h.2 with ⟨h0, _⟩ | ⟨g', cap', cur, hv', hb, hg, hn, hc, hs, htk⟩
  · cases h0
  · cases hv'
    have hzl : (Builtin.zeroCells z.cells (n - m)).toList.length = (n - m) * k := by simp [Builtin.zeroCells, hz]
    have hle : m * k + (n - m) * k ≤ cur.size := by
      rw [← Nat.add_mul, hs]; exact Nat.mul_le_mul_right k (by omega)
    have hmk : m * k ≤ n * k := Nat.mul_le_mul_right k (by omega)
    have hst := run_storeCells_at P g (m * k) e (Builtin.zeroCells z.cells (n - m)).toList 0 cur w hg (by simp only [Nat.add_zero]; rw [hzl]; exact hle) (by
      intro u hu
      simp only [Builtin.zeroCells, Array.toList_map, List.mem_map] at hu
      obtain ⟨i, hi, rfl⟩ := hu
      have hi' : i < (n - m) * z.cells.size := by simpa using hi
      have hk0 : 0 < z.cells.size := by
        rcases Nat.eq_zero_or_pos z.cells.size with h | h
        · rw [h] at hi'; omega
        · exact h
      refine h1 _ ?_
      rw [getElem!_pos z.cells _ (Nat.mod_lt _ hk0)]
      exact Array.getElem_mem_toList _)
    have hcs : (cur.toList.take (m * k + 0) ++ (Builtin.zeroCells z.cells (n - m)).toList ++ cur.toList.drop (m * k + 0 + (Builtin.zeroCells z.cells (n - m)).toList.length)).length = cur.size := by
      simp only [List.length_append, List.length_take, List.length_drop, hzl, Array.length_toList]; omega
    generalize hZ : (Builtin.zeroCells z.cells (n - m)).toList = Z at *
    refine ⟨w.setRow g (cur.toList.take (m * k + 0) ++ Z ++ cur.toList.drop (m * k + 0 + Z.length)).toArray, ?_, ⟨?_, .inr ⟨g, cap, _, rfl, hb, setRow_heap w g cur _ e (0, 0) hg, by omega, hc, ?_, ?_⟩⟩, ?_⟩
    · intro ty
      obtain ⟨q, hq⟩ : ∃ q, n - m = q + 1 := ⟨n - m - 1, by omega⟩
      rw [hq] at hZ ⊢
      simp only [Builtin.clear_]
      simp [run_underlying ht, hv, hZ, hst]
    · rw [List.length_take, hlen]; omega
    · rw [← hs, List.size_toArray, hcs]
    · rw [← htk, List.take_take, Nat.min_eq_left hmk]
      show List.take (m * k) (cur.toList.take (m * k + 0) ++ Z ++ _) = _
      rw [List.append_assoc, List.take_append_of_le_length (by simp; omega), List.take_take, Nat.add_zero, Nat.min_self]
    · refine ⟨rfl, rfl, rfl, by simp [World.setRow], fun i hi hne => ?_⟩
      simp only [World.setRow, Array.getElem?_modify]
      rw [if_neg (by rintro rfl; exact hne rfl)]

end Go.Proofs.Ytibnlifdeknicaa
