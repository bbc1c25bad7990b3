/- Several texts in one: ItmU, ItmV, CarF, CarG, CarH, CarI, DecJ. -/
import Derived.Test.YtpnemekkpifbaaaGreatMAV
import Derived.Test.YtpnemekkpifbaaaGreatMAU
import Derived.HandedShaped
namespace Go.Proofs.YtpnemekkpifbaaaGreat

section
open Go.RowKit

theorem HoldsX.drew {w : World} {v : Value} {xs : List ItV} (h : HoldsX w v xs) : HoldsX w.drew v xs := h.below (Below.refl _ _).drew
theorem itValid_h (v : Value) (xs : List ItV) (b : Bool) (w : World) (h : HoldsX w v xs) (hf : Fits xs) (hb : validL (its xs) = b) : Calls Tryz.prog 32 #[v] w (OneB (.bool b) w) := by
  obtain ⟨A, c, rfl, h1, _⟩ := h
  exact itemsValid A xs c b w h1 hf hb
theorem itDots_h (v : Value) (xs : List ItV) (w : World) (h : HoldsX w v xs) (hf : Fits xs) : Calls Tryz.prog 34 #[v] w fun e w' => (∃ v, e = .returned v ∧ Holds w' v (dotsI (its xs))) ∧ Below w.heap.size w w' := by
  obtain ⟨A, c', rfl, h1, _⟩ := h
  exact itDots A xs c' w h1 hf

end

section
open Go.RowKit

theorem RowT.form {W : World} {B : Nat} {v : Value} {xs : List ItV} (h : RowT W B v xs) (h0 : 0 < xs.length) :
    ∃ g c cur, v = .slice (some ⟨g, 0, none⟩) xs.length c ∧ B ≤ g ∧ W.heap[g]? = some (.cells cur 57 (0, 0)) := by
  rcases h.2 with ⟨_, h2⟩ | ⟨g, cap, cur, hv, hb, hg, _⟩
  · omega
  · exact ⟨g, cap, cur, hv, hb, hg⟩
theorem RowM.form {W : World} {B : Nat} {v : Value} {ms : List Mk} (h : RowM W B v ms) :
    (v = .slice none 0 0 ∧ ms = []) ∨ ∃ g c cur, v = .slice (some ⟨g, 0, none⟩) ms.length c ∧ B ≤ g ∧ W.heap[g]? = some (.cells cur 54 (0, 0)) := by
  rcases h.2 with ⟨h1, h2⟩ | ⟨g, cap, cur, hv, hb, hg, _⟩
  · exact .inl ⟨h1, List.eq_nil_of_length_eq_zero h2⟩
  · exact .inr ⟨g, cap, cur, hv, hb, hg⟩
/-- A block of items is no block of marks. -/
theorem RowM.ne {W : World} {B g : Nat} {v : Value} {ms : List Mk} {cur : Array Value} (h : RowM W B v ms) (hg : W.heap[g]? = some (.cells cur 57 (0, 0))) : v.ownBlock ≠ some g := by
  rcases RowM.form h with ⟨rfl, _⟩ | ⟨g', c, cur', rfl, _, hg'⟩
  · simp [Value.ownBlock]
  · intro e
    have e' : g' = g := by simpa [Value.ownBlock] using e
    subst e'
    rw [hg] at hg'
    injection hg' with h1
    injection h1 with _ h2 _
    exact absurd h2 (by decide)

/-- The name of one item in its row. -/
theorem cells_setN (ys : List ItV) (j : Nat) (s : List UInt8) (y : ItV) (hj : ys[j]? = some y) : (cellsOf encIt ys).set (j * 2) (.string ⟨s.toArray⟩) = cellsOf encIt (ys.set j { y with nm := s }) := by
  induction ys generalizing j with
  | nil => simp at hj
  | cons z l ih =>
    cases j with
    | zero =>
      obtain rfl : z = y := by simpa using hj
      rfl
    | succ n =>
      have hj' : l[n]? = some y := by simpa using hj
      rw [List.set_cons_succ, show cellsOf encIt (z :: l) = encIt z ++ cellsOf encIt l from rfl, show cellsOf encIt (z :: l.set n { y with nm := s }) = encIt z ++ cellsOf encIt (l.set n { y with nm := s }) from rfl, ← ih n hj', show (n + 1) * 2 = (encIt z).length + n * 2 by rw [encIt_len]; omega, List.set_append_right _ _ (by omega), show (encIt z).length + n * 2 - (encIt z).length = n * 2 by omega]
theorem spoName {W : World} {B g c n j : Nat} {xs : List ItV} {x : ItV} (h : OwnI W B (.slice (some ⟨g, 0, none⟩) n c) xs) (hn : xs.length = n) (hj : xs[j]? = some x) (s : List UInt8) :
    OwnI (W.setCell ⟨g, j * 2, none⟩ (.string ⟨s.toArray⟩)) B (.slice (some ⟨g, 0, none⟩) n c) (xs.set j { x with nm := s }) := by
  subst hn
  have hjl := (List.getElem?_eq_some_iff.1 hj).1
  obtain ⟨g', c', cur, hv, _, hg⟩ := h.1.form (by omega)
  have hgg : g = g' := by injection hv with h1; injection h1 with h1; injection h1
  subst hgg
  refine ⟨?_, fun y hy => ?_⟩
  · have h1 := (World.ownsRow.stored h.1 (j * 2) (.string ⟨s.toArray⟩)).1
    rw [cells_setN xs j s x hj] at h1
    show World.ownsRow _ _ _ _ _ (xs.set j { x with nm := s }).length _
    rw [List.length_set]
    exact h1
  · have hk : RowM W B (slV y) y.ms := by
      rcases List.mem_or_eq_of_mem_set hy with h' | h'
      · exact h.2 y h'
      · subst h'; exact h.2 x (List.mem_of_getElem? hj)
    exact ownsRow_setCell_other hk (a := ⟨g, j * 2, none⟩) (RowM.ne hk hg) _

/-- One mark with another quantity. -/
def setQ (ms : List Mk) (k : Nat) (q : Int) : List Mk := ms.modify k fun m => { m with q := q }
theorem setQ_len (ms : List Mk) (k : Nat) (q : Int) : (setQ ms k q).length = ms.length := by simp [setQ]
theorem cells_setQ : ∀ (ms : List Mk) (k : Nat) (q : Int), (cellsOf encM ms).set (k * 4 + 2) (.int .i64 q) = cellsOf encM (setQ ms k q)
  | [], k, q => by simp [setQ, cellsOf]
  | m :: r, 0, q => by rfl
  | m :: r, k + 1, q => by
    have ih := cells_setQ r k q
    have e : setQ (m :: r) (k + 1) q = m :: setQ r k q := by simp [setQ]
    rw [e, show cellsOf encM (m :: r) = encM m ++ cellsOf encM r from rfl, show cellsOf encM (m :: setQ r k q) = encM m ++ cellsOf encM (setQ r k q) from rfl, ← ih, show (k + 1) * 4 + 2 = (encM m).length + (k * 4 + 2) by rw [encM_len]; omega, List.set_append_right _ _ (by omega), show (encM m).length + (k * 4 + 2) - (encM m).length = k * 4 + 2 by omega]
/-- The item with one quantity changed, if its marks lie there. -/
def poke (h k : Nat) (q : Int) (y : ItV) : ItV := if y.A = some ⟨h, 0, none⟩ then { y with ms := setQ y.ms k q } else y
theorem poke_same (h k : Nat) (q : Int) (y : ItV) : (poke h k q y).nm = y.nm ∧ (poke h k q y).A = y.A ∧ (poke h k q y).c = y.c ∧ (poke h k q y).ms.length = y.ms.length := by
  unfold poke
  split
  · exact ⟨rfl, rfl, rfl, setQ_len _ _ _⟩
  · exact ⟨rfl, rfl, rfl, rfl⟩
theorem encIt_poke (h k : Nat) (q : Int) (y : ItV) : encIt (poke h k q y) = encIt y := by
  obtain ⟨h1, h2, h3, h4⟩ := poke_same h k q y
  unfold encIt
  rw [h1, h2, h3, h4]
theorem cells_poke (h k : Nat) (q : Int) (xs : List ItV) : cellsOf encIt (xs.map (poke h k q)) = cellsOf encIt xs := by
  unfold cellsOf
  rw [List.flatMap_map]
  exact congrArg List.flatten (List.map_congr_left fun y _ => encIt_poke h k q y)
theorem spoMark {W : World} {B g c n h k : Nat} {xs : List ItV} (hx : OwnI W B (.slice (some ⟨g, 0, none⟩) n c) xs) (hn : xs.length = n) (h0 : 0 < n) {cur : Array Value} (hh : W.heap[h]? = some (.cells cur 54 (0, 0))) (q : Int) :
    OwnI (W.setCell ⟨h, k * 4 + 2, none⟩ (.int .i64 q)) B (.slice (some ⟨g, 0, none⟩) n c) (xs.map (poke h k q)) := by
  subst hn
  obtain ⟨g', c', cur', hv, _, hg⟩ := hx.1.form h0
  have hgg : g = g' := by injection hv with h1; injection h1 with h1; injection h1
  subst hgg
  refine ⟨?_, fun y hy => ?_⟩
  · have hne : (Value.slice (some ⟨g, 0, none⟩) xs.length c).ownBlock ≠ some h := fun e => by
      have e' : g = h := by simpa [Value.ownBlock] using e
      subst e'
      rw [hg] at hh
      injection hh with h1
      injection h1 with _ h2 _
      exact absurd h2 (by decide)
    have h1 := ownsRow_setCell_other hx.1 (a := ⟨h, k * 4 + 2, none⟩) hne (.int .i64 q)
    show World.ownsRow _ _ _ _ _ (xs.map (poke h k q)).length _
    rw [List.length_map, cells_poke]
    exact h1
  · obtain ⟨z, hz, rfl⟩ := List.mem_map.1 hy
    have hk := hx.2 z hz
    by_cases he : z.A = some ⟨h, 0, none⟩
    · have e : poke h k q z = { z with ms := setQ z.ms k q } := by unfold poke; rw [if_pos he]
      have h1 : RowM W B (.slice (some ⟨h, 0, none⟩) z.ms.length z.c) z.ms := by rw [← he]; exact hk
      have h2 := (World.ownsRow.stored h1 (k * 4 + 2) (.int .i64 q)).1
      rw [cells_setQ] at h2
      rw [e]
      show World.ownsRow _ _ _ _ (.slice z.A (setQ z.ms k q).length z.c) (setQ z.ms k q).length _
      rw [setQ_len, he]
      exact h2
    · have e : poke h k q z = z := by unfold poke; rw [if_neg he]
      rw [e]
      refine ownsRow_setCell_other hk (a := ⟨h, k * 4 + 2, none⟩) (fun ek => ?_) _
      rcases RowM.form hk with ⟨e1, _⟩ | ⟨g2, c2, cur2, e1, _⟩
      · rw [e1] at ek; simp [Value.ownBlock] at ek
      · rw [e1] at ek
        have e2 : g2 = h := by simpa [Value.ownBlock] using ek
        subst e2
        injection e1 with e3
        exact he e3

/-- What was returned, as it is spoilt: the row of the items, names not too long. -/
structure Spo (W0 : World) (B g c n lim : Nat) (W : World) (xs : List ItV) : Prop where
  own : OwnI W B (.slice (some ⟨g, 0, none⟩) n c) xs
  len : xs.length = n
  nam : ∀ x ∈ xs, x.nm.length ≤ lim
  bel : Below B W0 W
theorem append_mk1 (l : List UInt8) (b : UInt8) : (ByteArray.mk l.toArray) ++ (ByteArray.mk #[b]) = ByteArray.mk (l ++ [b]).toArray := app_mk l [b]
section
variable {W0 W : World} {B g c n lim : Nat} {xs : List ItV}
theorem Spo.cells (h : Spo W0 B g c n lim W xs) {j : Nat} {x : ItV} (hj : xs[j]? = some x) : W.cell? ⟨g, j * 2, none⟩ = some (.string ⟨x.nm.toArray⟩) ∧ W.cell? ⟨g, j * 2 + 1, none⟩ = some (.slice x.A x.ms.length x.c) ∧ W.frozen? ⟨g, j * 2, none⟩ = false ∧ g < W.heap.size ∧ B ≤ g := by
  have ho := h.own.1
  rw [show RowT W B (.slice (some ⟨g, 0, none⟩) n c) xs = W.ownsRow B 57 2 (.slice (some ⟨g, 0, none⟩) n c) xs.length (cellsOf encIt xs) from rfl, h.len] at ho
  obtain ⟨a1, a2, a3, _⟩ := own_it ho hj
  have := ho.lt g rfl
  exact ⟨a1, a2, a3, this.2, this.1⟩
theorem Spo.name (h : Spo W0 B g c n lim W xs) {j : Nat} {x : ItV} (hj : xs[j]? = some x) (b : UInt8) : Spo W0 B g c n (lim + 1) (W.setCell ⟨g, j * 2, none⟩ (.string ⟨(x.nm ++ [b]).toArray⟩)) (xs.set j { x with nm := x.nm ++ [b] }) :=
  ⟨spoName h.own h.len hj _, by rw [List.length_set]; exact h.len, fun y hy => by
    rcases List.mem_or_eq_of_mem_set hy with h' | h'
    · have := h.nam y h'; omega
    · subst h'
      have := h.nam x (List.mem_of_getElem? hj)
      simp; omega, h.bel.setCell (p := ⟨g, j * 2, none⟩) (h.cells hj).2.2.2.2 _⟩
theorem Spo.marks (h : Spo W0 B g c n lim W xs) {j k : Nat} {x : ItV} (hj : xs[j]? = some x) (hk : k < x.ms.length) :
    ∃ b q, x.A = some ⟨b, 0, none⟩ ∧ W.cell? ⟨b, k * 4 + 2, none⟩ = some (.int .i64 q) ∧ W.frozen? ⟨b, k * 4 + 2, none⟩ = false ∧ b < W.heap.size ∧
      ∀ q', ∃ ys y, Spo W0 B g c n lim (W.setCell ⟨b, k * 4 + 2, none⟩ (.int .i64 q')) ys ∧ ys[j]? = some y ∧ y.A = x.A ∧ y.c = x.c ∧ y.ms.length = x.ms.length := by
  have hjl := (List.getElem?_eq_some_iff.1 hj).1
  have hr := h.own.2 x (List.mem_of_getElem? hj)
  rcases RowM.form hr with ⟨_, e2⟩ | ⟨b, c2, cur2, e1, hb, hg⟩
  · rw [e2] at hk; simp at hk
  · injection e1 with e3 _ e4
    have hr' : RowM W B (.slice (some ⟨b, 0, none⟩) x.ms.length x.c) x.ms := by rw [← e3]; exact hr
    have hc := hr'.cells (g := b) rfl (k * 4 + 2) (.int .i64 x.ms[k].q) (cellsOf_at encM_len x.ms k x.ms[k] 2 _ (List.getElem?_eq_getElem hk) rfl)
    rw [Addr_add, Nat.zero_add] at hc
    refine ⟨b, x.ms[k].q, e3, hc, hr'.frozenAt _, (Array.getElem?_eq_some_iff.1 hg).1, fun q' => ?_⟩
    obtain ⟨p1, p2, p3, p4⟩ := poke_same b k q' x
    refine ⟨xs.map (poke b k q'), poke b k q' x, ⟨spoMark h.own h.len (by rw [← h.len]; omega) hg q', by rw [List.length_map]; exact h.len, fun y hy => ?_, h.bel.setCell (p := ⟨b, k * 4 + 2, none⟩) hb _⟩, by rw [List.getElem?_map, hj]; rfl, p2, p3, p4⟩
    obtain ⟨z, hz, rfl⟩ := List.mem_map.1 hy
    rw [(poke_same b k q' z).1]
    exact h.nam z hz
end

theorem Spo.name1 {W0 W : World} {B g c n lim : Nat} {xs : List ItV} (h : Spo W0 B g c n lim W xs) {j : Nat} {x : ItV} (hj : xs[j]? = some x) : Spo W0 B g c n (lim + 1) (W.setCell ⟨g, j * 2, none⟩ (.string (⟨x.nm.toArray⟩ ++ ⟨#[120]⟩))) (xs.set j { x with nm := x.nm ++ [120] }) := by
  rw [append_mk1]; exact h.name hj 120

end

section
open Go.RowKit

end

section
open Go.RowKit

/-- The cart in its box, the result in its box. -/
structure KR (w : World) (c : CaV) (W : World) : Prop where
  kb : KB1 w c W
  res : W.heap[w.heap.size + 1]? = some (.cells #[.slice none 0 0, .slice none 0 0, .slice none 0 0] 31 (0, 0))
theorem KR.next {w W W' : World} {c : CaV} (h : KR w c W) (hb : Below W.heap.size W W') : KR w c W' := ⟨h.kb.next hb, (hb.block _ (Array.getElem?_eq_some_iff.1 h.res).1).trans h.res⟩
theorem KR.drew {w W : World} {c : CaV} (h : KR w c W) : KR w c W.drew := h.next (Below.refl _ _).drew
theorem KR.alloc {w W : World} {c : CaV} (h : KR w c W) (o : Obj) : KR w c (W.alloc o) := h.next ((Below.refl _ _).alloc (Nat.le_refl _) _)
theorem KR.lt {w W : World} {c : CaV} (h : KR w c W) : w.heap.size + 1 < W.heap.size := (Array.getElem?_eq_some_iff.1 h.res).1
theorem KR.new (w : World) (c : CaV) (ho : CaOK w c) : KR w c ((w.alloc (.cells #[c.v, c.l, c.i] 31)).alloc (.cells #[.slice none 0 0, .slice none 0 0, .slice none 0 0] 31)) := by
  refine ⟨(KB1.new w c ho).alloc _, ?_⟩
  have h := heap_alloc_new (w.alloc (.cells #[c.v, c.l, c.i] 31)) (.cells #[.slice none 0 0, .slice none 0 0, .slice none 0 0] 31)
  rwa [World.size_alloc] at h
/-- Two cells are written behind both boxes. -/
theorem KR.set2 {w W : World} {c : CaV} (h : KR w c W) {g : Nat} (hg : w.heap.size + 1 < g) (u v : Value) : KR w c ((W.setCell ⟨g, 0, none⟩ u).setCell ⟨g, 1, none⟩ v) := by
  have hk : ∀ k, k ≤ w.heap.size + 1 → ((W.setCell ⟨g, 0, none⟩ u).setCell ⟨g, 1, none⟩ v).heap[k]? = W.heap[k]? := fun k hk =>
    (Below.heap_setCell _ ⟨g, 1, none⟩ v k (by simp; omega)).trans (Below.heap_setCell W ⟨g, 0, none⟩ u k (by simp; omega))
  exact ⟨⟨(hk _ (by omega)).trans h.kb.blk, (h.kb.bel.setCell (p := ⟨g, 0, none⟩) (by simp; omega) _).setCell (p := ⟨g, 1, none⟩) (by simp; omega) _, h.kb.ok0⟩, (hk _ (by omega)).trans h.res⟩
/-- The same, and the items so far, and the item at hand in its box. -/
structure KCn (w : World) (c : CaV) (gy : Nat) (y : ItV) (vl : Value) (ls : List ItV) (W : World) : Prop where
  kr : KR w c W
  blk : BlkI W gy y
  oky : ItOK W y
  hl : HoldsX W vl ls
section
variable {w W W' : World} {c : CaV} {gy : Nat} {y : ItV} {vl : Value} {ls : List ItV}
theorem KCn.next (h : KCn w c gy y vl ls W) (hb : Below W.heap.size W W') : KCn w c gy y vl ls W' := ⟨h.kr.next hb, h.blk.below hb, h.oky.below hb, h.hl.below hb⟩
theorem KCn.far (h : KCn w c gy y vl ls W) (p : FarBy) : KCn w c gy y vl ls (Go.Proofs.YtpnemekkpifbaaaGreat.far W p) := h.next (below_far W p)
end

theorem KR.cells {w W : World} {c : CaV} (h : KR w c W) : W.cell? ⟨w.heap.size + 1, 0, none⟩ = some (.slice none 0 0) ∧ W.cell? ⟨w.heap.size + 1, 1, none⟩ = some (.slice none 0 0) ∧ W.cell? ⟨w.heap.size + 1, 2, none⟩ = some (.slice none 0 0) ∧ W.frozen? ⟨w.heap.size + 1, 0, none⟩ = false ∧ W.frozen? ⟨w.heap.size + 1, 1, none⟩ = false ∧ W.frozen? ⟨w.heap.size + 1, 2, none⟩ = false ∧ w.heap.size + 1 < W.heap.size := by
  have hres := h.res
  exact ⟨by simp [World.cell?, hres], by simp [World.cell?, hres], by simp [World.cell?, hres], by simp [World.frozen?, hres], by simp [World.frozen?, hres], by simp [World.frozen?, hres], h.lt⟩
theorem KR.stored {w W : World} {c : CaV} (h : KR w c W) (u v z : Value) : Below w.heap.size w (((W.setCell ⟨w.heap.size + 1, 0, none⟩ u).setCell ⟨w.heap.size + 1, 1, none⟩ v).setCell ⟨w.heap.size + 1, 2, none⟩ z) :=
  ((h.kb.bel.setCell (p := ⟨w.heap.size + 1, 0, none⟩) (by simp) _).setCell (p := ⟨w.heap.size + 1, 1, none⟩) (by simp) _).setCell (p := ⟨w.heap.size + 1, 2, none⟩) (by simp) _
theorem KCn.items {w W : World} {c : CaV} {gy n d : Nat} {D : Option Addr} {y : ItV} {ls : List ItV} (h : KCn w c gy y (.slice D n d) ls W) : ItemsAt W D ls := by
  obtain ⟨A, m, e, h1, _⟩ := h.hl
  injection e with e1 e2 e3
  rw [e1]; exact h1
theorem set3_other (W : World) (g b : Nat) (u v z : Value) (h : b ≠ g) : (((W.setCell ⟨g, 0, none⟩ u).setCell ⟨g, 1, none⟩ v).setCell ⟨g, 2, none⟩ z).heap[b]? = W.heap[b]? :=
  ((Below.heap_setCell _ ⟨g, 2, none⟩ z b h).trans (Below.heap_setCell _ ⟨g, 1, none⟩ v b h)).trans (Below.heap_setCell _ ⟨g, 0, none⟩ u b h)
theorem KB1.set3 {w W : World} {c : CaV} (h : KB1 w c W) (u v z : Value) : KB1 w c (((W.setCell ⟨w.heap.size + 1, 0, none⟩ u).setCell ⟨w.heap.size + 1, 1, none⟩ v).setCell ⟨w.heap.size + 1, 2, none⟩ z) :=
  ⟨(set3_other W (w.heap.size + 1) w.heap.size u v z (by omega)).trans h.blk, ((h.bel.setCell (p := ⟨w.heap.size + 1, 0, none⟩) (by simp) _).setCell (p := ⟨w.heap.size + 1, 1, none⟩) (by simp) _).setCell (p := ⟨w.heap.size + 1, 2, none⟩) (by simp) _, h.ok0⟩
end

section
open Go.RowKit

/-- What the region in of leans on. -/
def KD0 (w : World) (g k : Nat) (r c : Int) (W : World) : Prop := W.cell? ⟨g, k, none⟩ = some (.int .i64 r) ∧ W.cell? ⟨g, k + 1, none⟩ = some (.int .i64 c) ∧ g < w.heap.size ∧ Below w.heap.size w W
section
variable {w W W' : World} {g k : Nat} {r c : Int}
theorem KD0.below (h : KD0 w g k r c W) (hb : Below w.heap.size w W → Below w.heap.size w W') (hc : ∀ o, W'.cell? ⟨g, o, none⟩ = W.cell? ⟨g, o, none⟩) : KD0 w g k r c W' := ⟨(hc _).trans h.1, (hc _).trans h.2.1, h.2.2.1, hb h.2.2.2⟩
theorem KD0.lt (h : KD0 w g k r c W) : g < W.heap.size := Nat.lt_of_lt_of_le h.2.2.1 h.2.2.2.size
theorem KD0.drew (h : KD0 w g k r c W) : KD0 w g k r c W.drew := h.below (fun h => h.drew) fun _ => rfl
theorem KD0.alloc (h : KD0 w g k r c W) (o : Obj) : KD0 w g k r c (W.alloc o) := h.below (fun hb => hb.alloc hb.size o) fun q => ((Below.refl _ W).alloc (Nat.le_refl _) o).cell (p := ⟨g, q, none⟩) h.lt
theorem KD0.size (h : KD0 w g k r c W) : w.heap.size ≤ W.heap.size := h.2.2.2.size
theorem KD0.grown (h : KD0 w g k r c W) {row : Option Nat} (hg : W.grownBy W' row) (hr : ∀ j, row = some j → w.heap.size ≤ j) : KD0 w g k r c W' :=
  h.below (fun hb => hb.grown hg hb.size hr) fun q => World.cell?_of_block (a := ⟨g, q, none⟩) (hg.block g h.lt (fun e => by have := hr g e.symm; have := h.2.2.1; omega))
end

end

section
open Go.RowKit

theorem row_ne {W : World} {B g k n : Nat} {e t : TypeId} {v : Value} {xs : List Value} {cur : Array Value} {z : Nat × Nat} (h : W.ownsRow B e k v n xs) (hg : W.heap[g]? = some (.cells cur t z)) (ht : t ≠ e) : v.ownBlock ≠ some g := by
  rcases h.2 with ⟨rfl, _⟩ | ⟨g', cap, cur', rfl, _, hg', _⟩
  · simp [Value.ownBlock]
  · intro e1
    have e2 : g' = g := by simpa [Value.ownBlock] using e1
    subst e2
    rw [hg] at hg'
    injection hg' with h1
    injection h1 with _ h2 _
    exact ht h2
theorem OwnI.store {W : World} {B g o : Nat} {v x : Value} {xs : List ItV} {cur : Array Value} {t : TypeId} {z : Nat × Nat} (h : OwnI W B v xs) (hg : W.heap[g]? = some (.cells cur t z)) (h1 : t ≠ 57) (h2 : t ≠ 54) : OwnI (W.setCell ⟨g, o, none⟩ x) B v xs :=
  ⟨ownsRow_setCell_other (a := ⟨g, o, none⟩) h.1 (row_ne h.1 hg h1) x, fun y hy => ownsRow_setCell_other (a := ⟨g, o, none⟩) (h.2 y hy) (row_ne (h.2 y hy) hg h2) x⟩
theorem BlkC.store {W : World} {bx g o : Nat} {c : CaV} {x : Value} {cur : Array Value} {t : TypeId} {z : Nat × Nat} (h : BlkC W bx c) (hg : W.heap[g]? = some (.cells cur t z)) (ht : t ≠ 31) : BlkC (W.setCell ⟨g, o, none⟩ x) bx c := by
  refine (Below.heap_setCell W ⟨g, o, none⟩ x bx ?_).trans h
  rintro rfl
  have h' := h
  unfold BlkC at h'
  rw [show W.heap[(⟨bx, o, none⟩ : Addr).block]? = W.heap[bx]? from rfl] at *
  rw [hg] at h'
  injection h' with h1
  injection h1 with _ h2 _
  exact ht h2

/-- A row of dots whose counters may be written. -/
structure Dts (W : World) (B g n : Nat) : Prop where
  ge : B ≤ g
  typ : ∃ cur, W.heap[g]? = some (.cells cur 52 (0, 0))
  num : ∀ j, j < n → ∃ q, W.cell? ⟨g, j * 2 + 1, none⟩ = some (.int .i64 q)
theorem Dts.frozen {W : World} {B g n : Nat} (h : Dts W B g n) (k : Nat) : W.frozen? ⟨g, k, none⟩ = false := by
  obtain ⟨cur, hg⟩ := h.typ
  simp [World.frozen?, hg]
theorem Dts.lt {W : World} {B g n : Nat} (h : Dts W B g n) : g < W.heap.size := by
  obtain ⟨cur, hg⟩ := h.typ
  exact (Array.getElem?_eq_some_iff.1 hg).1
theorem Dts.store {W : World} {B g n : Nat} (h : Dts W B g n) (g' o : Nat) (x : Int) : Dts (W.setCell ⟨g', o, none⟩ (.int .i64 x)) B g n := by
  refine ⟨h.ge, ?_, fun j hj => someInt_setCell (h.num j hj) _ _⟩
  obtain ⟨cur, hg⟩ := h.typ
  by_cases e : g = g'
  · subst e
    show ∃ cur', (W.heap.modify g _)[g]? = _
    rw [Array.getElem?_modify, if_pos rfl, hg]
    exact ⟨_, rfl⟩
  · exact ⟨cur, (Below.heap_setCell W ⟨g', o, none⟩ _ g e).trans hg⟩
/-- A list of dots that was returned. -/
def DtsO (W : World) (B : Nat) (A : Option Addr) (n : Nat) : Prop := n = 0 ∨ ∃ g, A = some ⟨g, 0, none⟩ ∧ Dts W B g n
theorem DtsO.store {W : World} {B n : Nat} {A : Option Addr} (h : DtsO W B A n) (g' o : Nat) (x : Int) : DtsO (W.setCell ⟨g', o, none⟩ (.int .i64 x)) B A n := by
  rcases h with h | ⟨g, h1, h2⟩
  · exact .inl h
  · exact .inr ⟨g, h1, h2.store g' o x⟩
theorem Dts.below {W W' : World} {B g n : Nat} (h : Dts W B g n) (hb : Below W.heap.size W W') : Dts W' B g n := by
  obtain ⟨cur, hg⟩ := h.typ
  refine ⟨h.ge, ⟨cur, (hb.block g h.lt).trans hg⟩, fun j hj => ?_⟩
  obtain ⟨q, hq⟩ := h.num j hj
  exact ⟨q, (hb.cell (p := ⟨g, j * 2 + 1, none⟩) h.lt).trans hq⟩
theorem DtsO.below {W W' : World} {B n : Nat} {A : Option Addr} (h : DtsO W B A n) (hb : Below W.heap.size W W') : DtsO W' B A n := by
  rcases h with h | ⟨g, h1, h2⟩
  · exact .inl h
  · exact .inr ⟨g, h1, h2.below hb⟩
theorem DtsO.of_own {W : World} {B n c : Nat} {A : Option Addr} {ds : List (Int × Int)} (h : W.ownsRow B 52 2 (.slice A n c) ds.length (cellsOf encD ds)) (hn : n = ds.length) : DtsO W B A n := by
  subst hn
  by_cases h0 : ds.length = 0
  · exact .inl h0
  refine .inr ?_
  have h2 := h.2
  rcases h2 with ⟨_, h2⟩ | ⟨g, cap, cur, hv, hb, hg, _⟩
  · exact absurd h2 h0
  · injection hv with e1 e2 e3
    subst e1
    refine ⟨g, rfl, hb, ⟨cur, hg⟩, fun j hj => ⟨ds[j].2, ?_⟩⟩
    have hc := World.ownsRow.cells h (g := g) rfl (j * 2 + 1) (.int .i64 ds[j].2) (cellsOf_at encD_len ds j ds[j] 1 _ (List.getElem?_eq_getElem hj) rfl)
    rw [Addr_add, Nat.zero_add] at hc
    exact hc

/-- What was returned, its dots being spoilt. -/
structure KP (w : World) (B : Nat) (c : CaV) (W : World) : Prop where
  box : BlkC W w.heap.size c
  dv : DtsO W B c.V c.vs.length
  dl : DtsO W B c.L c.ls.length
  own : OwnI W B c.i c.xs
  bel : Below B w W
theorem KP.store {w W : World} {B g n o : Nat} {c : CaV} (h : KP w B c W) (hd : Dts W B g n) (x : Int) : KP w B c (W.setCell ⟨g, o, none⟩ (.int .i64 x)) := by
  obtain ⟨cur, hg⟩ := hd.typ
  exact ⟨h.box.store hg (by decide), h.dv.store _ _ _, h.dl.store _ _ _, h.own.store hg (by decide) (by decide), h.bel.setCell (p := ⟨g, o, none⟩) hd.ge _⟩

theorem mark_block {W : World} {B b : Nat} {x : ItV} (h : RowM W B (slV x) x.ms) (hA : x.A = some ⟨b, 0, none⟩) (h0 : 0 < x.ms.length) : ∃ cur, W.heap[b]? = some (.cells cur 54 (0, 0)) := by
  rcases RowM.form h with ⟨_, e2⟩ | ⟨g, c2, cur2, e1, _, hg⟩
  · rw [e2] at h0; cases h0
  · injection e1 with e3 _ _
    rw [hA] at e3
    injection e3 with e4
    injection e4 with e5
    subst e5
    exact ⟨cur2, hg⟩
/-- The items being spoilt, the cart in its box. -/
structure KQ (w : World) (B g n d lim : Nat) (c : CaV) (W : World) (ys : List ItV) : Prop where
  box : BlkC W w.heap.size c
  spo : Spo w B g d n lim W ys

section
variable {w W : World} {B g n d lim : Nat} {c : CaV} {ys : List ItV}
theorem KQ.name1 (h : KQ w B g n d lim c W ys) {j : Nat} {x : ItV} (hj : ys[j]? = some x) : KQ w B g n d (lim + 1) c (W.setCell ⟨g, j * 2, none⟩ (.string (⟨x.nm.toArray⟩ ++ ⟨#[120]⟩))) (ys.set j { x with nm := x.nm ++ [120] }) := by
  have hjl := (List.getElem?_eq_some_iff.1 hj).1
  obtain ⟨g', c', cur', hv, _, hg⟩ := h.spo.own.1.form (by omega)
  have hgg : g = g' := by injection hv with h1; injection h1 with h1; injection h1
  subst hgg
  exact ⟨h.box.store hg (by decide), h.spo.name1 hj⟩
theorem KQ.marks (h : KQ w B g n d lim c W ys) {j k : Nat} {x : ItV} (hj : ys[j]? = some x) (hk : k < x.ms.length) :
    ∃ b q, x.A = some ⟨b, 0, none⟩ ∧ W.cell? ⟨b, k * 4 + 2, none⟩ = some (.int .i64 q) ∧ W.frozen? ⟨b, k * 4 + 2, none⟩ = false ∧ b < W.heap.size ∧
      ∀ q', ∃ zs y, KQ w B g n d lim c (W.setCell ⟨b, k * 4 + 2, none⟩ (.int .i64 q')) zs ∧ zs[j]? = some y ∧ y.A = x.A ∧ y.c = x.c ∧ y.ms.length = x.ms.length := by
  obtain ⟨b, q, hA, e0, e1, hbl, hnx⟩ := h.spo.marks hj hk
  obtain ⟨cur, hg⟩ := mark_block (h.spo.own.2 x (List.mem_of_getElem? hj)) hA (by omega)
  refine ⟨b, q, hA, e0, e1, hbl, fun q' => ?_⟩
  obtain ⟨zs, y, k1, k2⟩ := hnx q'
  exact ⟨zs, y, ⟨h.box.store hg (by decide), k1⟩, k2⟩
end

end

section
open Go.RowKit

/-- The list of both lists of dots in its block, the cart as KP says. -/
structure KP2 (w : World) (B gl : Nat) (c : CaV) (W : World) : Prop where
  kp : KP w B c W
  lst : W.heap[gl]? = some (.cells #[c.v, c.l] 25 (0, 0))
theorem KP2.store {w W : World} {B gl g n o : Nat} {c : CaV} (h : KP2 w B gl c W) (hd : Dts W B g n) (x : Int) : KP2 w B gl c (W.setCell ⟨g, o, none⟩ (.int .i64 x)) := by
  refine ⟨h.kp.store hd x, (Below.heap_setCell W ⟨g, o, none⟩ _ gl fun e => ?_).trans h.lst⟩
  have e : gl = g := e
  subst e
  obtain ⟨cur, hg⟩ := hd.typ
  rw [h.lst] at hg
  injection hg with h1
  injection h1 with _ h2 _
  exact absurd h2 (by decide)
theorem KP.next {w W W' : World} {B : Nat} {c : CaV} (h : KP w B c W) (hb : Below W.heap.size W W') (hB : B ≤ W.heap.size) : KP w B c W' := ⟨h.box.below hb, h.dv.below hb, h.dl.below hb, h.own.below hb, ⟨(hb.mono hB).os.trans h.bel.os, (hb.mono hB).tape.trans h.bel.tape, (hb.mono hB).output.trans h.bel.output, Nat.le_trans h.bel.size (hb.mono hB).size, fun i hi => ((hb.mono hB).block i hi).trans (h.bel.block i hi)⟩⟩

theorem KQ.next15 {w W W' : World} {B g n d lim : Nat} {c : CaV} {ys : List ItV} (h : KQ w B g n d lim c W ys) (hb : Below W.heap.size W W') (hB : B ≤ w.heap.size) : KQ w B g n d lim c W' ys :=
  have hm : Below B W W' := hb.mono (Nat.le_trans hB h.spo.bel.size)
  ⟨h.box.below hb, ⟨h.spo.own.below hb, h.spo.len, h.spo.nam, ⟨hm.os.trans h.spo.bel.os, hm.tape.trans h.spo.bel.tape, hm.output.trans h.spo.bel.output, Nat.le_trans h.spo.bel.size hm.size, fun i hi => (hm.block i hi).trans (h.spo.bel.block i hi)⟩⟩⟩

set_option maxRecDepth 100000 in
set_option maxHeartbeats 8000000 in
theorem refStain14 (c : CaV) (B : Nat) (w : World) (hv : DtsO w B c.V c.vs.length) (hd : DtsO w B c.L c.ls.length) (hi : OwnI w B c.i c.xs) (hB : B ≤ w.heap.size) (h1 : c.vs.length ≤ 100000) (h2 : c.ls.length ≤ 100000) (hm : c.xs.length ≤ 100000) (hl : ∀ x ∈ c.xs, x.nm.length ≤ 100000) :
    Calls Tryz.prog 24 #[mkC c] w fun e w' => e = .returned (.tuple #[]) ∧ Below B w w' := by
  have hba : Below w.heap.size w (w.alloc (.cells #[c.v, c.l, c.i] 31)) := (Below.refl _ w).alloc (Nat.le_refl _) _
  have K0 := Lib.hid (show KP w B c (w.alloc (.cells #[c.v, c.l, c.i] 31)) from ⟨BlkC.new w c, hv.below hba, hd.below hba, hi.below hba, hba.mono hB⟩)
  have HB0 := Lib.hid (show B ≤ (w.alloc (.cells #[c.v, c.l, c.i] 31)).heap.size from Nat.le_trans hB hba.size)
  have HL := Lib.hid hl
  clear hv hd hi hl hba
  go_enter Tryz.func24, Tryz.ntmps24
  go_upto_region 1 with fail
  generalize World.alloc w _ = w2 at K0 HB0 ⊢
  have x0 := K0.out.box.cell0
  have x1 := K0.out.box.cell1
  have x2 := K0.out.box.cell2
  have xl := K0.out.box.lt
  have hb2 : Below w2.heap.size w2 (w2.alloc (.cells #[c.v, c.l] 25)) := (Below.refl _ _).alloc (Nat.le_refl _) _
  have K1 := Lib.hid (show KP2 w B w2.heap.size c (w2.alloc (.cells #[c.v, c.l] 25)) from ⟨K0.out.next hb2 HB0.out, heap_alloc_new w2 _⟩)
  have HGL := Lib.hid (Array.getElem?_eq_some_iff.1 K1.out.lst).1
  clear hb2
  go_wp2_with fail
  clear x0 x1 x2 xl K0
  generalize w2.heap.size = gl at *
  generalize World.alloc w2 _ = w3 at *
  go_loopw [15] (fun i wr => ∃ k : Nat, k ≤ 2 ∧ i = .int .i64 k ∧ Hid (KP2 w B gl c wr)) (fun i _ => 2 - (intOf i).toNat)
  case atStart => exact ⟨0, by omega, rfl, K1⟩
  case round =>
    clear K1 HGL
    obtain ⟨k, hk, rfl, K⟩ := hrel
    have xl := (Array.getElem?_eq_some_iff.1 K.out.lst).1
    by_cases hlt : k < 2
    · have i0 : (k : Int) < 2 := by omega
      obtain ⟨A, n, cp, hc, hn, hD⟩ : ∃ (A : Option Addr) (n cp : Nat), wr.cell? ⟨gl, k, none⟩ = some (.slice A n cp) ∧ n ≤ 100000 ∧ ∀ W, KP2 w B gl c W → DtsO W B A n := by
        have h := K.out.lst
        rcases (show k = 0 ∨ k = 1 by omega) with rfl | rfl
        · exact ⟨c.V, c.vs.length, c.nv, by simp [World.cell?, h], h1, fun W h => h.kp.dv⟩
        · exact ⟨c.L, c.ls.length, c.nl, by simp [World.cell?, h], h2, fun W h => h.kp.dl⟩
      have HD := Lib.hid hD
      clear hD
      go_wp2_with fail
      clear hc xl
      go_loopw [4] (fun i wr => ∃ q : Nat, q ≤ n ∧ i = .int .i64 q ∧ Hid (KP2 w B gl c wr)) (fun i _ => n - (intOf i).toNat)
      case atStart => exact ⟨0, by omega, rfl, K⟩
      case round =>
        clear K
        obtain ⟨q, hq, rfl, K⟩ := hrel
        by_cases hqn : q < n
        · have i1 : (q : Int) < (n : Int) := by omega
          obtain h0 | ⟨g, hA, hDD⟩ := HD.out _ K.out
          · omega
          · obtain ⟨u, hu⟩ := hDD.num q hqn
            have hf := hDD.frozen (q * 2 + 1)
            have hgl := hDD.lt
            have HK := Lib.hid fun x => K.out.store (o := q * 2 + 1) hDD x
            subst hA
            clear hDD K
            go_wp2_with fail
            go_roundw
            case rel => exact ⟨q + 1, by omega, by go_num, HK.out _⟩
            case measure => simp [intOf]; omega
        · have i1 : ¬ (q : Int) < (n : Int) := by omega
          go_wp2_with fail
          go_roundw
          case rel => exact ⟨k + 1, by omega, by go_num, K⟩
          case measure => simp [intOf]; omega
    · have i0 : ¬ (k : Int) < 2 := by omega
      clear hlt hk
      have x2 := K.out.kp.box.cell2
      have x2l := K.out.kp.box.lt
      have K := Lib.hid K.out.kp
      clear xl
      by_cases hx0 : 0 < c.xs.length
      · obtain ⟨g, d, _, hI, _, _⟩ := K.out.own.1.form hx0
        have HKQ := Lib.hid (show KQ w B g c.xs.length d 100000 c wr c.xs from ⟨K.out.box, ⟨by rw [← hI]; exact K.out.own, rfl, HL.out, K.out.bel⟩⟩)
        clear K HL
        go_wp2_with fail
        have HI := Lib.hid hI
        clear hI
        generalize hn : c.xs.length = n at *
        have HN := Lib.hid hn
        clear hn
        have HKQ' := Lib.hid (show ∃ ys, KQ w B g n d 100000 c wr ys from ⟨_, HKQ.out⟩)
        clear HKQ
        go_loopw [5] (fun i wr => ∃ (k : Nat) (ys : List ItV), k ≤ n ∧ i = .int .i64 k ∧ Hid (KQ w B g n d (100000 + k) c wr ys)) (fun i _ => n - (intOf i).toNat)
        case atStart =>
          obtain ⟨ys, hys⟩ := HKQ'.out
          exact ⟨0, ys, by omega, rfl, hys⟩
        case round =>
          clear HKQ'
          obtain ⟨j, ys, hk, rfl, K⟩ := hrel
          have y2 := K.out.box.cell2
          rw [HI.out] at y2
          have yl := K.out.box.lt
          by_cases hlt : j < n
          · have i0 : (j : Int) < (n : Int) := by omega
            obtain ⟨x, hx⟩ : ∃ x, ys[j]? = some x := ⟨_, List.getElem?_eq_getElem (by rw [K.out.spo.len]; exact hlt)⟩
            obtain ⟨A, m, cx, hA, hm1, hcx⟩ : ∃ A m cx, x.A = A ∧ x.ms.length = m ∧ x.c = cx := ⟨_, _, _, rfl, rfl, rfl⟩
            have HX2 := Lib.hid (show ∃ ys y, Hid (KQ w B g n d (100000 + j) c wr ys) ∧ ys[j]? = some y ∧ y.A = A ∧ y.c = cx ∧ y.ms.length = m from ⟨_, _, K, hx, hA, hcx, hm1⟩)
            have hmm : m ≤ 9223372036854775807 := by
              have := (RowM.ok (K.out.spo.own.2 x (List.mem_of_getElem? hx))).len
              unfold maxLen at this; omega
            clear K hx hA hm1 hcx
            go_wp2_with fail
            clear y2 yl
            go_loopw [6] (fun i wr => ∃ (k : Nat) (ys : List ItV) (y : ItV), k ≤ m ∧ i = .int .i64 k ∧ Hid (KQ w B g n d (100000 + j) c wr ys) ∧ Hid (ys[j]? = some y) ∧ Hid (y.A = A) ∧ Hid (y.c = cx) ∧ Hid (y.ms.length = m)) (fun i _ => m - (intOf i).toNat)
            case atStart =>
              obtain ⟨zs, z, K2, hz, hz1, hz2, hz3⟩ := HX2.out
              exact ⟨0, zs, z, by omega, rfl, K2, Lib.hid hz, Lib.hid hz1, Lib.hid hz2, Lib.hid hz3⟩
            case round =>
              clear HX2
              obtain ⟨k, zs, z, hk2, rfl, K2, hz, hz1, hz2, hz3⟩ := hrel
              have y2 := K2.out.box.cell2
              rw [HI.out] at y2
              have yl := K2.out.box.lt
              obtain ⟨d0, d1, f0, hgl2, _⟩ := K2.out.spo.cells hz.out
              rw [hz1.out, hz2.out, hz3.out] at d1
              by_cases hkm : k < m
              · have i1 : (k : Int) < (m : Int) := by omega
                obtain ⟨b, q, hA, e0, e1, hbl, hnx⟩ := K2.out.marks (k := k) hz.out (by rw [hz3.out]; exact hkm)
                rw [hz1.out] at hA
                subst hA
                have HNX := Lib.hid (hnx (wrap64 (q + 1)))
                clear hnx d0 f0
                go_wp2_with fail
                go_roundw
                case rel =>
                  obtain ⟨us, u, K3, hu, hu1, hu2, hu3⟩ := HNX.out
                  exact ⟨k + 1, us, u, by omega, by go_num, Lib.hid K3, Lib.hid hu, Lib.hid (hu1.trans hz1.out), Lib.hid (hu2.trans hz2.out), Lib.hid (hu3.trans hz3.out)⟩
                case measure => simp [intOf]; omega
              · have i1 : ¬ (k : Int) < (m : Int) := by omega
                have hzn := K2.out.spo.nam z (List.mem_of_getElem? hz.out)
                have K1 := Lib.hid fun W (hb : Below wr.heap.size wr W) => (K2.out.next15 hb hB).name1 hz.out
                clear hz hz1 hz2 hz3 K2
                go_wp2_with fail
                go_region
                go_wp2_with fail
                go_roundw
                case rel => exact ⟨j + 1, _, by omega, by go_num, by rw [show 100000 + (j + 1) = 100000 + j + 1 by omega]; first | exact K1.out _ (Below.refl _ _).drew | exact (K1.out _ (Below.refl _ _)).next15 (Below.refl _ _).drew hB⟩
                case measure => simp [intOf]; omega
          · have i0 : ¬ (j : Int) < (n : Int) := by omega
            have HB := Lib.hid K.out.spo.bel
            clear K
            go_wp2_with fail
            exact ⟨rfl, .tuple #[], results_none (by kernel_rfl) _ _ _, rfl, HB.out⟩
      · have hz : c.xs.length = 0 := by omega
        have x2 := K.out.box.cell2
        have x2l := K.out.box.lt
        have HB := Lib.hid K.out.bel
        change _ = some (Value.slice c.I c.xs.length c.ni) at x2
        rw [hz] at x2
        clear K HL
        go_wp2_with fail
        have HX := Lib.hid (show wr.cell? ⟨w.heap.size, 2, none⟩ = some (.slice c.I 0 c.ni) ∧ w.heap.size < wr.heap.size ∧ Below B w wr from ⟨x2, x2l, HB.out⟩)
        clear x2 x2l HB
        go_loopw [5] (fun i wx => i = .int .i64 0 ∧ Hid (wx.cell? ⟨w.heap.size, 2, none⟩ = some (.slice c.I 0 c.ni) ∧ w.heap.size < wx.heap.size ∧ Below B w wx)) (fun _ _ => 0)
        case atStart => exact ⟨rfl, HX⟩
        case round =>
          obtain ⟨rfl, hx⟩ := hrel
          obtain ⟨y2, y2l, _⟩ := hx.out
          go_wp2_with fail
          exact ⟨rfl, .tuple #[], results_none (by kernel_rfl) _ _ _, rfl, hx.out.2.2⟩

end

end Go.Proofs.YtpnemekkpifbaaaGreat
