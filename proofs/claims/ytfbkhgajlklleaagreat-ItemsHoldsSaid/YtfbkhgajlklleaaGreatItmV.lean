/- The laws of items: what was returned is spoilt. -/
import Derived.Test.YtfbkhgajlklleaaGreatItmU
namespace Go.Proofs.YtfbkhgajlklleaaGreat
open Go.RowKit

theorem RowT.form {W : World} {B : Nat} {v : Value} {xs : List ItV} (h : RowT W B v xs) (h0 : 0 < xs.length) :
    ∃ g c cur, v = .slice (some ⟨g, 0, none⟩) xs.length c ∧ B ≤ g ∧ W.heap[g]? = some (.cells cur 34 (0, 0)) := by
  rcases h.2 with ⟨_, h2⟩ | ⟨g, cap, cur, hv, hb, hg, _⟩
  · omega
  · exact ⟨g, cap, cur, hv, hb, hg⟩
theorem RowM.form {W : World} {B : Nat} {v : Value} {ms : List Mk} (h : RowM W B v ms) :
    (v = .slice none 0 0 ∧ ms = []) ∨ ∃ g c cur, v = .slice (some ⟨g, 0, none⟩) ms.length c ∧ B ≤ g ∧ W.heap[g]? = some (.cells cur 62 (0, 0)) := by
  rcases h.2 with ⟨h1, h2⟩ | ⟨g, cap, cur, hv, hb, hg, _⟩
  · exact .inl ⟨h1, List.eq_nil_of_length_eq_zero h2⟩
  · exact .inr ⟨g, cap, cur, hv, hb, hg⟩
/-- A block of items is no block of marks. -/
theorem RowM.ne {W : World} {B g : Nat} {v : Value} {ms : List Mk} {cur : Array Value} (h : RowM W B v ms) (hg : W.heap[g]? = some (.cells cur 34 (0, 0))) : v.ownBlock ≠ some g := by
  rcases RowM.form h with ⟨rfl, _⟩ | ⟨g', c, cur', rfl, _, hg'⟩
  · simp [Value.ownBlock]
  · intro e
    have e' : g' = g := by simpa [Value.ownBlock] using e
    subst e'
    rw [hg] at hg'
    injection hg' with h1
    injection h1 with _ h2 _
    exact absurd h2 (by decide)

/-- The name of one item in its row. -/
theorem cells_setN (ys : List ItV) (j : Nat) (s : List UInt8) (y : ItV) (hj : ys[j]? = some y) : (cellsOf encIt ys).set (j * 2) (.string ⟨s.toArray⟩) = cellsOf encIt (ys.set j { y with nm := s }) := by
  induction ys generalizing j with
  | nil => simp at hj
  | cons z l ih =>
    cases j with
    | zero =>
      obtain rfl : z = y := by simpa using hj
      rfl
    | succ n =>
      have hj' : l[n]? = some y := by simpa using hj
      rw [List.set_cons_succ, show cellsOf encIt (z :: l) = encIt z ++ cellsOf encIt l from rfl, show cellsOf encIt (z :: l.set n { y with nm := s }) = encIt z ++ cellsOf encIt (l.set n { y with nm := s }) from rfl, ← ih n hj', show (n + 1) * 2 = (encIt z).length + n * 2 by rw [encIt_len]; omega, List.set_append_right _ _ (by omega), show (encIt z).length + n * 2 - (encIt z).length = n * 2 by omega]
theorem spoName {W : World} {B g c n j : Nat} {xs : List ItV} {x : ItV} (h : OwnI W B (.slice (some ⟨g, 0, none⟩) n c) xs) (hn : xs.length = n) (hj : xs[j]? = some x) (s : List UInt8) :
    OwnI (W.setCell ⟨g, j * 2, none⟩ (.string ⟨s.toArray⟩)) B (.slice (some ⟨g, 0, none⟩) n c) (xs.set j { x with nm := s }) := by
  subst hn
  have hjl := (List.getElem?_eq_some_iff.1 hj).1
  obtain ⟨g', c', cur, hv, _, hg⟩ := h.1.form (by omega)
  have hgg : g = g' := by injection hv with h1; injection h1 with h1; injection h1
  subst hgg
  refine ⟨?_, fun y hy => ?_⟩
  · have h1 := (World.ownsRow.stored h.1 (j * 2) (.string ⟨s.toArray⟩)).1
    rw [cells_setN xs j s x hj] at h1
    show World.ownsRow _ _ _ _ _ (xs.set j { x with nm := s }).length _
    rw [List.length_set]
    exact h1
  · have hk : RowM W B (slV y) y.ms := by
      rcases List.mem_or_eq_of_mem_set hy with h' | h'
      · exact h.2 y h'
      · subst h'; exact h.2 x (List.mem_of_getElem? hj)
    exact ownsRow_setCell_other hk (a := ⟨g, j * 2, none⟩) (RowM.ne hk hg) _

/-- One mark with another quantity. -/
def setQ (ms : List Mk) (k : Nat) (q : Int) : List Mk := ms.modify k fun m => { m with q := q }
theorem setQ_len (ms : List Mk) (k : Nat) (q : Int) : (setQ ms k q).length = ms.length := by simp [setQ]
theorem cells_setQ : ∀ (ms : List Mk) (k : Nat) (q : Int), (cellsOf encM ms).set (k * 4 + 2) (.int .i64 q) = cellsOf encM (setQ ms k q)
  | [], k, q => by simp [setQ, cellsOf]
  | m :: r, 0, q => by rfl
  | m :: r, k + 1, q => by
    have ih := cells_setQ r k q
    have e : setQ (m :: r) (k + 1) q = m :: setQ r k q := by simp [setQ]
    rw [e, show cellsOf encM (m :: r) = encM m ++ cellsOf encM r from rfl, show cellsOf encM (m :: setQ r k q) = encM m ++ cellsOf encM (setQ r k q) from rfl, ← ih, show (k + 1) * 4 + 2 = (encM m).length + (k * 4 + 2) by rw [encM_len]; omega, List.set_append_right _ _ (by omega), show (encM m).length + (k * 4 + 2) - (encM m).length = k * 4 + 2 by omega]
/-- The item with one quantity changed, if its marks lie there. -/
def poke (h k : Nat) (q : Int) (y : ItV) : ItV := if y.A = some ⟨h, 0, none⟩ then { y with ms := setQ y.ms k q } else y
theorem poke_same (h k : Nat) (q : Int) (y : ItV) : (poke h k q y).nm = y.nm ∧ (poke h k q y).A = y.A ∧ (poke h k q y).c = y.c ∧ (poke h k q y).ms.length = y.ms.length := by
  unfold poke
  split
  · exact ⟨rfl, rfl, rfl, setQ_len _ _ _⟩
  · exact ⟨rfl, rfl, rfl, rfl⟩
theorem encIt_poke (h k : Nat) (q : Int) (y : ItV) : encIt (poke h k q y) = encIt y := by
  obtain ⟨h1, h2, h3, h4⟩ := poke_same h k q y
  unfold encIt
  rw [h1, h2, h3, h4]
theorem cells_poke (h k : Nat) (q : Int) (xs : List ItV) : cellsOf encIt (xs.map (poke h k q)) = cellsOf encIt xs := by
  unfold cellsOf
  rw [List.flatMap_map]
  exact congrArg List.flatten (List.map_congr_left fun y _ => encIt_poke h k q y)
theorem spoMark {W : World} {B g c n h k : Nat} {xs : List ItV} (hx : OwnI W B (.slice (some ⟨g, 0, none⟩) n c) xs) (hn : xs.length = n) (h0 : 0 < n) {cur : Array Value} (hh : W.heap[h]? = some (.cells cur 62 (0, 0))) (q : Int) :
    OwnI (W.setCell ⟨h, k * 4 + 2, none⟩ (.int .i64 q)) B (.slice (some ⟨g, 0, none⟩) n c) (xs.map (poke h k q)) := by
  subst hn
  obtain ⟨g', c', cur', hv, _, hg⟩ := hx.1.form h0
  have hgg : g = g' := by injection hv with h1; injection h1 with h1; injection h1
  subst hgg
  refine ⟨?_, fun y hy => ?_⟩
  · have hne : (Value.slice (some ⟨g, 0, none⟩) xs.length c).ownBlock ≠ some h := fun e => by
      have e' : g = h := by simpa [Value.ownBlock] using e
      subst e'
      rw [hg] at hh
      injection hh with h1
      injection h1 with _ h2 _
      exact absurd h2 (by decide)
    have h1 := ownsRow_setCell_other hx.1 (a := ⟨h, k * 4 + 2, none⟩) hne (.int .i64 q)
    show World.ownsRow _ _ _ _ _ (xs.map (poke h k q)).length _
    rw [List.length_map, cells_poke]
    exact h1
  · obtain ⟨z, hz, rfl⟩ := List.mem_map.1 hy
    have hk := hx.2 z hz
    by_cases he : z.A = some ⟨h, 0, none⟩
    · have e : poke h k q z = { z with ms := setQ z.ms k q } := by unfold poke; rw [if_pos he]
      have h1 : RowM W B (.slice (some ⟨h, 0, none⟩) z.ms.length z.c) z.ms := by rw [← he]; exact hk
      have h2 := (World.ownsRow.stored h1 (k * 4 + 2) (.int .i64 q)).1
      rw [cells_setQ] at h2
      rw [e]
      show World.ownsRow _ _ _ _ (.slice z.A (setQ z.ms k q).length z.c) (setQ z.ms k q).length _
      rw [setQ_len, he]
      exact h2
    · have e : poke h k q z = z := by unfold poke; rw [if_neg he]
      rw [e]
      refine ownsRow_setCell_other hk (a := ⟨h, k * 4 + 2, none⟩) (fun ek => ?_) _
      rcases RowM.form hk with ⟨e1, _⟩ | ⟨g2, c2, cur2, e1, _⟩
      · rw [e1] at ek; simp [Value.ownBlock] at ek
      · rw [e1] at ek
        have e2 : g2 = h := by simpa [Value.ownBlock] using ek
        subst e2
        injection e1 with e3
        exact he e3

/-- What was returned, as it is spoilt: the row of the items, names not too long. -/
structure Spo (W0 : World) (B g c n lim : Nat) (W : World) (xs : List ItV) : Prop where
  own : OwnI W B (.slice (some ⟨g, 0, none⟩) n c) xs
  len : xs.length = n
  nam : ∀ x ∈ xs, x.nm.length ≤ lim
  bel : Below B W0 W
theorem append_mk1 (l : List UInt8) (b : UInt8) : (ByteArray.mk l.toArray) ++ (ByteArray.mk #[b]) = ByteArray.mk (l ++ [b]).toArray := app_mk l [b]
section
variable {W0 W : World} {B g c n lim : Nat} {xs : List ItV}
theorem Spo.cells (h : Spo W0 B g c n lim W xs) {j : Nat} {x : ItV} (hj : xs[j]? = some x) : W.cell? ⟨g, j * 2, none⟩ = some (.string ⟨x.nm.toArray⟩) ∧ W.cell? ⟨g, j * 2 + 1, none⟩ = some (.slice x.A x.ms.length x.c) ∧ W.frozen? ⟨g, j * 2, none⟩ = false ∧ g < W.heap.size ∧ B ≤ g := by
  have ho := h.own.1
  rw [show RowT W B (.slice (some ⟨g, 0, none⟩) n c) xs = W.ownsRow B 34 2 (.slice (some ⟨g, 0, none⟩) n c) xs.length (cellsOf encIt xs) from rfl, h.len] at ho
  obtain ⟨a1, a2, a3, _⟩ := own_it ho hj
  have := ho.lt g rfl
  exact ⟨a1, a2, a3, this.2, this.1⟩
theorem Spo.name (h : Spo W0 B g c n lim W xs) {j : Nat} {x : ItV} (hj : xs[j]? = some x) (b : UInt8) : Spo W0 B g c n (lim + 1) (W.setCell ⟨g, j * 2, none⟩ (.string ⟨(x.nm ++ [b]).toArray⟩)) (xs.set j { x with nm := x.nm ++ [b] }) :=
  ⟨spoName h.own h.len hj _, by rw [List.length_set]; exact h.len, fun y hy => by
    rcases List.mem_or_eq_of_mem_set hy with h' | h'
    · have := h.nam y h'; omega
    · subst h'
      have := h.nam x (List.mem_of_getElem? hj)
      simp; omega, h.bel.setCell (p := ⟨g, j * 2, none⟩) (h.cells hj).2.2.2.2 _⟩
theorem Spo.marks (h : Spo W0 B g c n lim W xs) {j k : Nat} {x : ItV} (hj : xs[j]? = some x) (hk : k < x.ms.length) :
    ∃ b q, x.A = some ⟨b, 0, none⟩ ∧ W.cell? ⟨b, k * 4 + 2, none⟩ = some (.int .i64 q) ∧ W.frozen? ⟨b, k * 4 + 2, none⟩ = false ∧ b < W.heap.size ∧
      ∀ q', ∃ ys y, Spo W0 B g c n lim (W.setCell ⟨b, k * 4 + 2, none⟩ (.int .i64 q')) ys ∧ ys[j]? = some y ∧ y.A = x.A ∧ y.c = x.c ∧ y.ms.length = x.ms.length := by
  have hjl := (List.getElem?_eq_some_iff.1 hj).1
  have hr := h.own.2 x (List.mem_of_getElem? hj)
  rcases RowM.form hr with ⟨_, e2⟩ | ⟨b, c2, cur2, e1, hb, hg⟩
  · rw [e2] at hk; simp at hk
  · injection e1 with e3 _ e4
    have hr' : RowM W B (.slice (some ⟨b, 0, none⟩) x.ms.length x.c) x.ms := by rw [← e3]; exact hr
    have hc := hr'.cells (g := b) rfl (k * 4 + 2) (.int .i64 x.ms[k].q) (cellsOf_at encM_len x.ms k x.ms[k] 2 _ (List.getElem?_eq_getElem hk) rfl)
    rw [Addr_add, Nat.zero_add] at hc
    refine ⟨b, x.ms[k].q, e3, hc, hr'.frozenAt _, (Array.getElem?_eq_some_iff.1 hg).1, fun q' => ?_⟩
    obtain ⟨p1, p2, p3, p4⟩ := poke_same b k q' x
    refine ⟨xs.map (poke b k q'), poke b k q' x, ⟨spoMark h.own h.len (by rw [← h.len]; omega) hg q', by rw [List.length_map]; exact h.len, fun y hy => ?_, h.bel.setCell (p := ⟨b, k * 4 + 2, none⟩) hb _⟩, by rw [List.getElem?_map, hj]; rfl, p2, p3, p4⟩
    obtain ⟨z, hz, rfl⟩ := List.mem_map.1 hy
    rw [(poke_same b k q' z).1]
    exact h.nam z hz
end

theorem Spo.name1 {W0 W : World} {B g c n lim : Nat} {xs : List ItV} (h : Spo W0 B g c n lim W xs) {j : Nat} {x : ItV} (hj : xs[j]? = some x) : Spo W0 B g c n (lim + 1) (W.setCell ⟨g, j * 2, none⟩ (.string (⟨x.nm.toArray⟩ ++ ⟨#[120]⟩))) (xs.set j { x with nm := x.nm ++ [120] }) := by
  rw [append_mk1]; exact h.name hj 120

set_option maxHeartbeats 4000000 in
theorem lawSpoil (v : Value) (B : Nat) (xs : List ItV) (w : World) (h : OwnI w B v xs) (hm : xs.length ≤ 100000) (hl : ∀ x ∈ xs, x.nm.length ≤ 100000) :
    Calls Tryz.prog 16 #[v] w fun e w' => e = .returned (.tuple #[]) ∧ Below B w w' := by
  by_cases h0 : 0 < xs.length
  · obtain ⟨g, c, _, rfl, _, _⟩ := h.1.form h0
    have K0 := Lib.hid (show Spo w B g c xs.length 100000 w xs from ⟨h, rfl, hl, Below.refl _ _⟩)
    generalize xs.length = n at K0 hm h0 ⊢
    clear h hl h0
    go_enter Tryz.func16, Tryz.ntmps16
    go_wp2_with fail
    go_loopw [2, 3, 6] (fun _ _ i wr => ∃ (k : Nat) (ys : List ItV), k ≤ n ∧ i = .int .i64 k ∧ Hid (Spo w B g c n (100000 + k) wr ys)) (fun _ _ i _ => n - (intOf i).toNat)
    case atStart => exact ⟨0, xs, by omega, rfl, K0⟩
    case round =>
      clear K0 xs
      obtain ⟨j, ys, hk, rfl, K⟩ := hrel
      by_cases hlt : j < n
      · have i0 : (j : Int) < (n : Int) := by omega
        obtain ⟨x, hx⟩ : ∃ x, ys[j]? = some x := ⟨_, List.getElem?_eq_getElem (by rw [K.out.len]; exact hlt)⟩
        obtain ⟨c0, c1, f0, hgl, _⟩ := K.out.cells hx
        have hxn := K.out.nam x (List.mem_of_getElem? hx)
        have hsz := size_mk x.nm
        have K1 := Lib.hid (K.out.name1 hx)
        have HX1 := Lib.hid (show (ys.set j { x with nm := x.nm ++ [120] })[j]? = some { x with nm := x.nm ++ [120] } from by rw [List.getElem?_set_self (by rw [K.out.len]; exact hlt)])
        obtain ⟨A, m, cx, hA, hm1, hcx⟩ : ∃ A m cx, x.A = A ∧ x.ms.length = m ∧ x.c = cx := ⟨_, _, _, rfl, rfl, rfl⟩
        have HX2 := Lib.hid (show ∃ ys y, Hid (Spo w B g c n (100000 + j + 1) (wr.setCell ⟨g, j * 2, none⟩ (.string (⟨x.nm.toArray⟩ ++ ⟨#[120]⟩))) ys) ∧ ys[j]? = some y ∧ y.A = A ∧ y.c = cx ∧ y.ms.length = m from ⟨_, _, K1, HX1.out, hA, hcx, hm1⟩)
        have hmm : m ≤ 9223372036854775807 := by
          obtain ⟨zs, z, K2, hz, _, _, hz3⟩ := HX2.out
          have := (RowM.ok (K2.out.own.2 z (List.mem_of_getElem? hz))).len
          unfold maxLen at this; omega
        rw [hA, hm1, hcx] at c1
        clear K K1 HX1 hx hA hm1 hcx
        go_wp2_with fail
        generalize World.setCell wr _ _ = w2 at HX2 ⊢
        go_loopw [3, 23] (fun _ i wr => ∃ (k : Nat) (ys : List ItV) (y : ItV), k ≤ m ∧ i = .int .i64 k ∧ Hid (Spo w B g c n (100000 + j + 1) wr ys) ∧ Hid (ys[j]? = some y) ∧ Hid (y.A = A) ∧ Hid (y.c = cx) ∧ Hid (y.ms.length = m)) (fun _ i _ => m - (intOf i).toNat)
        case atStart =>
          obtain ⟨zs, z, K2, hz, hz1, hz2, hz3⟩ := HX2.out
          exact ⟨0, zs, z, by omega, rfl, K2, Lib.hid hz, Lib.hid hz1, Lib.hid hz2, Lib.hid hz3⟩
        case round =>
          clear HX2
          obtain ⟨k, zs, z, hk2, rfl, K2, hz, hz1, hz2, hz3⟩ := hrel
          by_cases hkm : k < m
          · have i1 : (k : Int) < (m : Int) := by omega
            obtain ⟨d0, d1, _, hgl2, _⟩ := K2.out.cells hz.out
            rw [hz1.out, hz2.out, hz3.out] at d1
            obtain ⟨b, q, hA, e0, e1, hbl, hnx⟩ := K2.out.marks (k := k) hz.out (by rw [hz3.out]; exact hkm)
            rw [hz1.out] at hA
            subst hA
            have HNX := Lib.hid (hnx (wrap64 (q + 1)))
            clear hnx d0
            go_wp2_with fail
            go_roundw
            case rel =>
              obtain ⟨us, u, K3, hu, hu1, hu2, hu3⟩ := HNX.out
              exact ⟨k + 1, us, u, by omega, by go_num, Lib.hid K3, Lib.hid hu, Lib.hid (hu1.trans hz1.out), Lib.hid (hu2.trans hz2.out), Lib.hid (hu3.trans hz3.out)⟩
            case measure => simp [intOf]; omega
          · have i1 : ¬ (k : Int) < (m : Int) := by omega
            clear hz hz1 hz2 hz3
            go_wp2_with fail
            go_roundw
            case rel => exact ⟨j + 1, zs, by omega, by go_num, by rw [show 100000 + (j + 1) = 100000 + j + 1 by omega]; exact K2⟩
            case measure => simp [intOf]; omega
      · have i0 : ¬ (j : Int) < (n : Int) := by omega
        have HB := Lib.hid K.out.bel
        clear K
        go_wp2_with fail
        exact ⟨rfl, .tuple #[], results_none (by kernel_rfl) _ _ _, rfl, HB.out⟩
  · obtain ⟨A, c, rfl, _⟩ := SlAt.of_own encIt_len h.1
    have hz : xs.length = 0 := by omega
    rw [hz]
    clear h hl h0 hz hm
    go_enter Tryz.func16, Tryz.ntmps16
    go_wp2_with fail
    go_loopw [2, 3, 6] (fun _ _ i wr => i = .int .i64 0 ∧ wr = w) (fun _ _ _ _ => 0)
    case atStart => exact ⟨rfl, rfl⟩
    case round =>
      obtain ⟨rfl, rfl⟩ := hrel
      go_wp2_with fail
      exact ⟨rfl, .tuple #[], results_none (by kernel_rfl) _ _ _, rfl, Below.refl _ _⟩

end Go.Proofs.YtfbkhgajlklleaaGreat
