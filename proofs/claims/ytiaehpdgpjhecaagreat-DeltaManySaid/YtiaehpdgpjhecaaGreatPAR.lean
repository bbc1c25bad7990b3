/- Several texts in one: DelL, CarE, ItmV, CarF, CarG, CarH, CarI, ItmW. -/
import Derived.Test.YtiaehpdgpjhecaaGreatPAQ
import Derived.Test.YtiaehpdgpjhecaaGreatPAN
import Derived.HandedShaped
namespace Go.Proofs.YtiaehpdgpjhecaaGreat

section
open Go.RowKit

/-- A dot is fresh; an item of a name is there. -/
def freshK (c : Ca) (d : Int × Int) : Bool := validK c && (validD d.1 d.2 && !hasK c d)
def thereN (c : Ca) (nm : List UInt8) : Bool := c.2.any fun x => x.1 == nm
/-- The error of Add and Set, the delta. -/
def putE (c : Ca) (d : Int × Int) (nm : List UInt8) (q : Int) (set : Bool) : Nat :=
  if (freshK c d && itemN nm) = false then 2 else if qtyN q = false then 14 else
  if set = true ∧ thereN c nm = false then 9 else if set = false ∧ thereN c nm = false ∧ 256 ≤ c.2.length then 13 else (timeC c).2
def putD (c : Ca) (d : Int × Int) (nm : List UInt8) (q : Int) (set : Bool) : Ca := if putE c d nm q set = 0 then deltaD d nm q (timeC c).1 (dotsC c nm) else zeroK
def remE (c : Ca) (nm : List UInt8) : Nat := if (validK c && itemN nm) = false then 2 else if thereN c nm = false then 9 else 0
def remD (c : Ca) (nm : List UInt8) : Ca := if remE c nm = 0 then goneD (dotsC c nm) else zeroK
def cleE (c : Ca) : Nat := if validK c = false then 2 else 0
def cleD (c : Ca) : Ca := if cleE c = 0 then goneD (dotsC c []) else zeroK
def emptyK (c : Ca) : Bool := c.1.1.isEmpty && (c.1.2.isEmpty && c.2.isEmpty)

theorem fresh_iff {c : Ca} {d : Int × Int} : freshK c d = true ↔ validK c = true ∧ validD d.1 d.2 = true ∧ hasK c d = false := by
  unfold freshK; simp
theorem item_ne {nm : List UInt8} (h : itemN nm = true) : nm ≠ [] := by
  rintro rfl
  revert h; decide
theorem dotsC_t {c : Ca} (h : validK c = true) (nm : List UInt8) : dotsC c nm = dotsK c.2 nm := if_pos h
theorem dotsC_valid {c : Ca} (h : validK c = true) {nm : List UInt8} : ∀ p ∈ dotsC c nm, validD p.1 p.2 = true := fun p hp => by
  rw [dotsC_t h] at hp
  exact (dotsI_valid h (sub_dotsK hp)).2
section
variable {c : Ca} {d : Int × Int} {nm : List UInt8} {q : Int} {set : Bool}
theorem putD_t (h : putE c d nm q set = 0) : putD c d nm q set = deltaD d nm q (timeC c).1 (dotsC c nm) := if_pos h
theorem putD_f (h : putE c d nm q set ≠ 0) : putD c d nm q set = zeroK := if_neg h
theorem remD_t (h : remE c nm = 0) : remD c nm = goneD (dotsC c nm) := if_pos h
theorem remD_f (h : remE c nm ≠ 0) : remD c nm = zeroK := if_neg h
theorem cleD_t (h : cleE c = 0) : cleD c = goneD (dotsC c []) := if_pos h
theorem cleD_f (h : cleE c ≠ 0) : cleD c = zeroK := if_neg h
end
theorem putD_len (c : Ca) (d : Int × Int) (nm : List UInt8) (q : Int) (set : Bool) : (putD c d nm q set).2.length ≤ 1 := by
  unfold putD
  split
  · exact Nat.le_refl _
  · exact Nat.zero_le _
theorem delta_congr {d : Int × Int} {nm : List UInt8} {q : Int} {t : Nat} {l k : List (Int × Int)} (h : ∀ p, p ∈ k ↔ p ∈ d :: l) : (addC [] [] k, [(nm, [(⟨d.1, d.2, q, t⟩ : Mk)])]) = deltaD d nm q t l := by
  unfold deltaD; rw [addC_congr h]

end

section
open Go.RowKit

end

section
open Go.RowKit

theorem RowT.form {W : World} {B : Nat} {v : Value} {xs : List ItV} (h : RowT W B v xs) (h0 : 0 < xs.length) :
    ∃ g c cur, v = .slice (some ⟨g, 0, none⟩) xs.length c ∧ B ≤ g ∧ W.heap[g]? = some (.cells cur 50 (0, 0)) := by
  rcases h.2 with ⟨_, h2⟩ | ⟨g, cap, cur, hv, hb, hg, _⟩
  · omega
  · exact ⟨g, cap, cur, hv, hb, hg⟩
theorem RowM.form {W : World} {B : Nat} {v : Value} {ms : List Mk} (h : RowM W B v ms) :
    (v = .slice none 0 0 ∧ ms = []) ∨ ∃ g c cur, v = .slice (some ⟨g, 0, none⟩) ms.length c ∧ B ≤ g ∧ W.heap[g]? = some (.cells cur 55 (0, 0)) := by
  rcases h.2 with ⟨h1, h2⟩ | ⟨g, cap, cur, hv, hb, hg, _⟩
  · exact .inl ⟨h1, List.eq_nil_of_length_eq_zero h2⟩
  · exact .inr ⟨g, cap, cur, hv, hb, hg⟩
/-- A block of items is no block of marks. -/
theorem RowM.ne {W : World} {B g : Nat} {v : Value} {ms : List Mk} {cur : Array Value} (h : RowM W B v ms) (hg : W.heap[g]? = some (.cells cur 50 (0, 0))) : v.ownBlock ≠ some g := by
  rcases RowM.form h with ⟨rfl, _⟩ | ⟨g', c, cur', rfl, _, hg'⟩
  · simp [Value.ownBlock]
  · intro e
    have e' : g' = g := by simpa [Value.ownBlock] using e
    subst e'
    rw [hg] at hg'
    injection hg' with h1
    injection h1 with _ h2 _
    exact absurd h2 (by decide)

/-- The name of one item in its row. -/
theorem cells_setN (ys : List ItV) (j : Nat) (s : List UInt8) (y : ItV) (hj : ys[j]? = some y) : (cellsOf encIt ys).set (j * 2) (.string ⟨s.toArray⟩) = cellsOf encIt (ys.set j { y with nm := s }) := by
  induction ys generalizing j with
  | nil => simp at hj
  | cons z l ih =>
    cases j with
    | zero =>
      obtain rfl : z = y := by simpa using hj
      rfl
    | succ n =>
      have hj' : l[n]? = some y := by simpa using hj
      rw [List.set_cons_succ, show cellsOf encIt (z :: l) = encIt z ++ cellsOf encIt l from rfl, show cellsOf encIt (z :: l.set n { y with nm := s }) = encIt z ++ cellsOf encIt (l.set n { y with nm := s }) from rfl, ← ih n hj', show (n + 1) * 2 = (encIt z).length + n * 2 by rw [encIt_len]; omega, List.set_append_right _ _ (by omega), show (encIt z).length + n * 2 - (encIt z).length = n * 2 by omega]
theorem spoName {W : World} {B g c n j : Nat} {xs : List ItV} {x : ItV} (h : OwnI W B (.slice (some ⟨g, 0, none⟩) n c) xs) (hn : xs.length = n) (hj : xs[j]? = some x) (s : List UInt8) :
    OwnI (W.setCell ⟨g, j * 2, none⟩ (.string ⟨s.toArray⟩)) B (.slice (some ⟨g, 0, none⟩) n c) (xs.set j { x with nm := s }) := by
  subst hn
  have hjl := (List.getElem?_eq_some_iff.1 hj).1
  obtain ⟨g', c', cur, hv, _, hg⟩ := h.1.form (by omega)
  have hgg : g = g' := by injection hv with h1; injection h1 with h1; injection h1
  subst hgg
  refine ⟨?_, fun y hy => ?_⟩
  · have h1 := (World.ownsRow.stored h.1 (j * 2) (.string ⟨s.toArray⟩)).1
    rw [cells_setN xs j s x hj] at h1
    show World.ownsRow _ _ _ _ _ (xs.set j { x with nm := s }).length _
    rw [List.length_set]
    exact h1
  · have hk : RowM W B (slV y) y.ms := by
      rcases List.mem_or_eq_of_mem_set hy with h' | h'
      · exact h.2 y h'
      · subst h'; exact h.2 x (List.mem_of_getElem? hj)
    exact ownsRow_setCell_other hk (a := ⟨g, j * 2, none⟩) (RowM.ne hk hg) _

/-- One mark with another quantity. -/
def setQ (ms : List Mk) (k : Nat) (q : Int) : List Mk := ms.modify k fun m => { m with q := q }
theorem setQ_len (ms : List Mk) (k : Nat) (q : Int) : (setQ ms k q).length = ms.length := by simp [setQ]
theorem cells_setQ : ∀ (ms : List Mk) (k : Nat) (q : Int), (cellsOf encM ms).set (k * 4 + 2) (.int .i64 q) = cellsOf encM (setQ ms k q)
  | [], k, q => by simp [setQ, cellsOf]
  | m :: r, 0, q => by rfl
  | m :: r, k + 1, q => by
    have ih := cells_setQ r k q
    have e : setQ (m :: r) (k + 1) q = m :: setQ r k q := by simp [setQ]
    rw [e, show cellsOf encM (m :: r) = encM m ++ cellsOf encM r from rfl, show cellsOf encM (m :: setQ r k q) = encM m ++ cellsOf encM (setQ r k q) from rfl, ← ih, show (k + 1) * 4 + 2 = (encM m).length + (k * 4 + 2) by rw [encM_len]; omega, List.set_append_right _ _ (by omega), show (encM m).length + (k * 4 + 2) - (encM m).length = k * 4 + 2 by omega]
/-- The item with one quantity changed, if its marks lie there. -/
def poke (h k : Nat) (q : Int) (y : ItV) : ItV := if y.A = some ⟨h, 0, none⟩ then { y with ms := setQ y.ms k q } else y
theorem poke_same (h k : Nat) (q : Int) (y : ItV) : (poke h k q y).nm = y.nm ∧ (poke h k q y).A = y.A ∧ (poke h k q y).c = y.c ∧ (poke h k q y).ms.length = y.ms.length := by
  unfold poke
  split
  · exact ⟨rfl, rfl, rfl, setQ_len _ _ _⟩
  · exact ⟨rfl, rfl, rfl, rfl⟩
theorem encIt_poke (h k : Nat) (q : Int) (y : ItV) : encIt (poke h k q y) = encIt y := by
  obtain ⟨h1, h2, h3, h4⟩ := poke_same h k q y
  unfold encIt
  rw [h1, h2, h3, h4]
theorem cells_poke (h k : Nat) (q : Int) (xs : List ItV) : cellsOf encIt (xs.map (poke h k q)) = cellsOf encIt xs := by
  unfold cellsOf
  rw [List.flatMap_map]
  exact congrArg List.flatten (List.map_congr_left fun y _ => encIt_poke h k q y)
theorem spoMark {W : World} {B g c n h k : Nat} {xs : List ItV} (hx : OwnI W B (.slice (some ⟨g, 0, none⟩) n c) xs) (hn : xs.length = n) (h0 : 0 < n) {cur : Array Value} (hh : W.heap[h]? = some (.cells cur 55 (0, 0))) (q : Int) :
    OwnI (W.setCell ⟨h, k * 4 + 2, none⟩ (.int .i64 q)) B (.slice (some ⟨g, 0, none⟩) n c) (xs.map (poke h k q)) := by
  subst hn
  obtain ⟨g', c', cur', hv, _, hg⟩ := hx.1.form h0
  have hgg : g = g' := by injection hv with h1; injection h1 with h1; injection h1
  subst hgg
  refine ⟨?_, fun y hy => ?_⟩
  · have hne : (Value.slice (some ⟨g, 0, none⟩) xs.length c).ownBlock ≠ some h := fun e => by
      have e' : g = h := by simpa [Value.ownBlock] using e
      subst e'
      rw [hg] at hh
      injection hh with h1
      injection h1 with _ h2 _
      exact absurd h2 (by decide)
    have h1 := ownsRow_setCell_other hx.1 (a := ⟨h, k * 4 + 2, none⟩) hne (.int .i64 q)
    show World.ownsRow _ _ _ _ _ (xs.map (poke h k q)).length _
    rw [List.length_map, cells_poke]
    exact h1
  · obtain ⟨z, hz, rfl⟩ := List.mem_map.1 hy
    have hk := hx.2 z hz
    by_cases he : z.A = some ⟨h, 0, none⟩
    · have e : poke h k q z = { z with ms := setQ z.ms k q } := by unfold poke; rw [if_pos he]
      have h1 : RowM W B (.slice (some ⟨h, 0, none⟩) z.ms.length z.c) z.ms := by rw [← he]; exact hk
      have h2 := (World.ownsRow.stored h1 (k * 4 + 2) (.int .i64 q)).1
      rw [cells_setQ] at h2
      rw [e]
      show World.ownsRow _ _ _ _ (.slice z.A (setQ z.ms k q).length z.c) (setQ z.ms k q).length _
      rw [setQ_len, he]
      exact h2
    · have e : poke h k q z = z := by unfold poke; rw [if_neg he]
      rw [e]
      refine ownsRow_setCell_other hk (a := ⟨h, k * 4 + 2, none⟩) (fun ek => ?_) _
      rcases RowM.form hk with ⟨e1, _⟩ | ⟨g2, c2, cur2, e1, _⟩
      · rw [e1] at ek; simp [Value.ownBlock] at ek
      · rw [e1] at ek
        have e2 : g2 = h := by simpa [Value.ownBlock] using ek
        subst e2
        injection e1 with e3
        exact he e3

/-- What was returned, as it is spoilt: the row of the items, names not too long. -/
structure Spo (W0 : World) (B g c n lim : Nat) (W : World) (xs : List ItV) : Prop where
  own : OwnI W B (.slice (some ⟨g, 0, none⟩) n c) xs
  len : xs.length = n
  nam : ∀ x ∈ xs, x.nm.length ≤ lim
  bel : Below B W0 W
section
variable {W0 W : World} {B g c n lim : Nat} {xs : List ItV}
theorem Spo.cells (h : Spo W0 B g c n lim W xs) {j : Nat} {x : ItV} (hj : xs[j]? = some x) : W.cell? ⟨g, j * 2, none⟩ = some (.string ⟨x.nm.toArray⟩) ∧ W.cell? ⟨g, j * 2 + 1, none⟩ = some (.slice x.A x.ms.length x.c) ∧ W.frozen? ⟨g, j * 2, none⟩ = false ∧ g < W.heap.size ∧ B ≤ g := by
  have ho := h.own.1
  rw [show RowT W B (.slice (some ⟨g, 0, none⟩) n c) xs = W.ownsRow B 50 2 (.slice (some ⟨g, 0, none⟩) n c) xs.length (cellsOf encIt xs) from rfl, h.len] at ho
  obtain ⟨a1, a2, a3, _⟩ := own_it ho hj
  have := ho.lt g rfl
  exact ⟨a1, a2, a3, this.2, this.1⟩
theorem Spo.name (h : Spo W0 B g c n lim W xs) {j : Nat} {x : ItV} (hj : xs[j]? = some x) (b : UInt8) : Spo W0 B g c n (lim + 1) (W.setCell ⟨g, j * 2, none⟩ (.string ⟨(x.nm ++ [b]).toArray⟩)) (xs.set j { x with nm := x.nm ++ [b] }) :=
  ⟨spoName h.own h.len hj _, by rw [List.length_set]; exact h.len, fun y hy => by
    rcases List.mem_or_eq_of_mem_set hy with h' | h'
    · have := h.nam y h'; omega
    · subst h'
      have := h.nam x (List.mem_of_getElem? hj)
      simp; omega, h.bel.setCell (p := ⟨g, j * 2, none⟩) (h.cells hj).2.2.2.2 _⟩
theorem Spo.marks (h : Spo W0 B g c n lim W xs) {j k : Nat} {x : ItV} (hj : xs[j]? = some x) (hk : k < x.ms.length) :
    ∃ b q, x.A = some ⟨b, 0, none⟩ ∧ W.cell? ⟨b, k * 4 + 2, none⟩ = some (.int .i64 q) ∧ W.frozen? ⟨b, k * 4 + 2, none⟩ = false ∧ b < W.heap.size ∧
      ∀ q', ∃ ys y, Spo W0 B g c n lim (W.setCell ⟨b, k * 4 + 2, none⟩ (.int .i64 q')) ys ∧ ys[j]? = some y ∧ y.A = x.A ∧ y.c = x.c ∧ y.ms.length = x.ms.length := by
  have hjl := (List.getElem?_eq_some_iff.1 hj).1
  have hr := h.own.2 x (List.mem_of_getElem? hj)
  rcases RowM.form hr with ⟨_, e2⟩ | ⟨b, c2, cur2, e1, hb, hg⟩
  · rw [e2] at hk; simp at hk
  · injection e1 with e3 _ e4
    have hr' : RowM W B (.slice (some ⟨b, 0, none⟩) x.ms.length x.c) x.ms := by rw [← e3]; exact hr
    have hc := hr'.cells (g := b) rfl (k * 4 + 2) (.int .i64 x.ms[k].q) (cellsOf_at encM_len x.ms k x.ms[k] 2 _ (List.getElem?_eq_getElem hk) rfl)
    rw [Addr_add, Nat.zero_add] at hc
    refine ⟨b, x.ms[k].q, e3, hc, hr'.frozenAt _, (Array.getElem?_eq_some_iff.1 hg).1, fun q' => ?_⟩
    obtain ⟨p1, p2, p3, p4⟩ := poke_same b k q' x
    refine ⟨xs.map (poke b k q'), poke b k q' x, ⟨spoMark h.own h.len (by rw [← h.len]; omega) hg q', by rw [List.length_map]; exact h.len, fun y hy => ?_, h.bel.setCell (p := ⟨b, k * 4 + 2, none⟩) hb _⟩, by rw [List.getElem?_map, hj]; rfl, p2, p3, p4⟩
    obtain ⟨z, hz, rfl⟩ := List.mem_map.1 hy
    rw [(poke_same b k q' z).1]
    exact h.nam z hz
end

end

section
open Go.RowKit

end

section
open Go.RowKit

/-- The cart in its box, the result in its box. -/
structure KR (w : World) (c : CaV) (W : World) : Prop where
  kb : KB1 w c W
  res : W.heap[w.heap.size + 1]? = some (.cells #[.slice none 0 0, .slice none 0 0, .slice none 0 0] 28 (0, 0))
theorem KR.next {w W W' : World} {c : CaV} (h : KR w c W) (hb : Below W.heap.size W W') : KR w c W' := ⟨h.kb.next hb, (hb.block _ (Array.getElem?_eq_some_iff.1 h.res).1).trans h.res⟩
theorem KR.drew {w W : World} {c : CaV} (h : KR w c W) : KR w c W.drew := h.next (Below.refl _ _).drew
theorem KR.alloc {w W : World} {c : CaV} (h : KR w c W) (o : Obj) : KR w c (W.alloc o) := h.next ((Below.refl _ _).alloc (Nat.le_refl _) _)
theorem KR.lt {w W : World} {c : CaV} (h : KR w c W) : w.heap.size + 1 < W.heap.size := (Array.getElem?_eq_some_iff.1 h.res).1
theorem KR.new (w : World) (c : CaV) (ho : CaOK w c) : KR w c ((w.alloc (.cells #[c.v, c.l, c.i] 28)).alloc (.cells #[.slice none 0 0, .slice none 0 0, .slice none 0 0] 28)) := by
  refine ⟨(KB1.new w c ho).alloc _, ?_⟩
  have h := heap_alloc_new (w.alloc (.cells #[c.v, c.l, c.i] 28)) (.cells #[.slice none 0 0, .slice none 0 0, .slice none 0 0] 28)
  rwa [World.size_alloc] at h
/-- Two cells are written behind both boxes. -/
theorem KR.set2 {w W : World} {c : CaV} (h : KR w c W) {g : Nat} (hg : w.heap.size + 1 < g) (u v : Value) : KR w c ((W.setCell ⟨g, 0, none⟩ u).setCell ⟨g, 1, none⟩ v) := by
  have hk : ∀ k, k ≤ w.heap.size + 1 → ((W.setCell ⟨g, 0, none⟩ u).setCell ⟨g, 1, none⟩ v).heap[k]? = W.heap[k]? := fun k hk =>
    (Below.heap_setCell _ ⟨g, 1, none⟩ v k (by simp; omega)).trans (Below.heap_setCell W ⟨g, 0, none⟩ u k (by simp; omega))
  exact ⟨⟨(hk _ (by omega)).trans h.kb.blk, (h.kb.bel.setCell (p := ⟨g, 0, none⟩) (by simp; omega) _).setCell (p := ⟨g, 1, none⟩) (by simp; omega) _, h.kb.ok0⟩, (hk _ (by omega)).trans h.res⟩
/-- The same, and the items so far, and the item at hand in its box. -/
structure KCn (w : World) (c : CaV) (gy : Nat) (y : ItV) (vl : Value) (ls : List ItV) (W : World) : Prop where
  kr : KR w c W
  blk : BlkI W gy y
  oky : ItOK W y
  hl : HoldsX W vl ls
section
variable {w W W' : World} {c : CaV} {gy : Nat} {y : ItV} {vl : Value} {ls : List ItV}
theorem KCn.next (h : KCn w c gy y vl ls W) (hb : Below W.heap.size W W') : KCn w c gy y vl ls W' := ⟨h.kr.next hb, h.blk.below hb, h.oky.below hb, h.hl.below hb⟩
theorem KCn.far (h : KCn w c gy y vl ls W) (p : FarBy) : KCn w c gy y vl ls (Go.Proofs.YtiaehpdgpjhecaaGreat.far W p) := h.next (below_far W p)
end

theorem KR.cells {w W : World} {c : CaV} (h : KR w c W) : W.cell? ⟨w.heap.size + 1, 0, none⟩ = some (.slice none 0 0) ∧ W.cell? ⟨w.heap.size + 1, 1, none⟩ = some (.slice none 0 0) ∧ W.cell? ⟨w.heap.size + 1, 2, none⟩ = some (.slice none 0 0) ∧ W.frozen? ⟨w.heap.size + 1, 0, none⟩ = false ∧ W.frozen? ⟨w.heap.size + 1, 1, none⟩ = false ∧ W.frozen? ⟨w.heap.size + 1, 2, none⟩ = false ∧ w.heap.size + 1 < W.heap.size := by
  have hres := h.res
  exact ⟨by simp [World.cell?, hres], by simp [World.cell?, hres], by simp [World.cell?, hres], by simp [World.frozen?, hres], by simp [World.frozen?, hres], by simp [World.frozen?, hres], h.lt⟩
theorem KR.stored {w W : World} {c : CaV} (h : KR w c W) (u v z : Value) : Below w.heap.size w (((W.setCell ⟨w.heap.size + 1, 0, none⟩ u).setCell ⟨w.heap.size + 1, 1, none⟩ v).setCell ⟨w.heap.size + 1, 2, none⟩ z) :=
  ((h.kb.bel.setCell (p := ⟨w.heap.size + 1, 0, none⟩) (by simp) _).setCell (p := ⟨w.heap.size + 1, 1, none⟩) (by simp) _).setCell (p := ⟨w.heap.size + 1, 2, none⟩) (by simp) _
theorem KCn.items {w W : World} {c : CaV} {gy n d : Nat} {D : Option Addr} {y : ItV} {ls : List ItV} (h : KCn w c gy y (.slice D n d) ls W) : ItemsAt W D ls := by
  obtain ⟨A, m, e, h1, _⟩ := h.hl
  injection e with e1 e2 e3
  rw [e1]; exact h1
theorem set3_other (W : World) (g b : Nat) (u v z : Value) (h : b ≠ g) : (((W.setCell ⟨g, 0, none⟩ u).setCell ⟨g, 1, none⟩ v).setCell ⟨g, 2, none⟩ z).heap[b]? = W.heap[b]? :=
  ((Below.heap_setCell _ ⟨g, 2, none⟩ z b h).trans (Below.heap_setCell _ ⟨g, 1, none⟩ v b h)).trans (Below.heap_setCell _ ⟨g, 0, none⟩ u b h)
theorem KB1.set3 {w W : World} {c : CaV} (h : KB1 w c W) (u v z : Value) : KB1 w c (((W.setCell ⟨w.heap.size + 1, 0, none⟩ u).setCell ⟨w.heap.size + 1, 1, none⟩ v).setCell ⟨w.heap.size + 1, 2, none⟩ z) :=
  ⟨(set3_other W (w.heap.size + 1) w.heap.size u v z (by omega)).trans h.blk, ((h.bel.setCell (p := ⟨w.heap.size + 1, 0, none⟩) (by simp) _).setCell (p := ⟨w.heap.size + 1, 1, none⟩) (by simp) _).setCell (p := ⟨w.heap.size + 1, 2, none⟩) (by simp) _, h.ok0⟩
end

section
open Go.RowKit

/-- What the region in of leans on. -/
def KD0 (w : World) (g k : Nat) (r c : Int) (W : World) : Prop := W.cell? ⟨g, k, none⟩ = some (.int .i64 r) ∧ W.cell? ⟨g, k + 1, none⟩ = some (.int .i64 c) ∧ g < w.heap.size ∧ Below w.heap.size w W
section
variable {w W W' : World} {g k : Nat} {r c : Int}
theorem KD0.below (h : KD0 w g k r c W) (hb : Below w.heap.size w W → Below w.heap.size w W') (hc : ∀ o, W'.cell? ⟨g, o, none⟩ = W.cell? ⟨g, o, none⟩) : KD0 w g k r c W' := ⟨(hc _).trans h.1, (hc _).trans h.2.1, h.2.2.1, hb h.2.2.2⟩
theorem KD0.lt (h : KD0 w g k r c W) : g < W.heap.size := Nat.lt_of_lt_of_le h.2.2.1 h.2.2.2.size
theorem KD0.drew (h : KD0 w g k r c W) : KD0 w g k r c W.drew := h.below (fun h => h.drew) fun _ => rfl
theorem KD0.alloc (h : KD0 w g k r c W) (o : Obj) : KD0 w g k r c (W.alloc o) := h.below (fun hb => hb.alloc hb.size o) fun q => ((Below.refl _ W).alloc (Nat.le_refl _) o).cell (p := ⟨g, q, none⟩) h.lt
theorem KD0.size (h : KD0 w g k r c W) : w.heap.size ≤ W.heap.size := h.2.2.2.size
theorem KD0.grown (h : KD0 w g k r c W) {row : Option Nat} (hg : W.grownBy W' row) (hr : ∀ j, row = some j → w.heap.size ≤ j) : KD0 w g k r c W' :=
  h.below (fun hb => hb.grown hg hb.size hr) fun q => World.cell?_of_block (a := ⟨g, q, none⟩) (hg.block g h.lt (fun e => by have := hr g e.symm; have := h.2.2.1; omega))
end

set_option maxHeartbeats 400000 in
theorem lawItem10 (nm : List UInt8) (A : Option Addr) (c : Nat) (ms : List Mk) (w : World) (h : MarksAt w A ms) (h1 : ms.length ≤ c) (h2 : c ≤ maxLen) :
    Calls Tryz.prog 26 #[.string ⟨nm.toArray⟩, .slice A ms.length c] w fun e w' => ∃ x : ItV, e = .returned (mkIt x) ∧ x = ⟨nm, A, c, ms⟩ ∧ ItOK w' x ∧ Below w.heap.size w w' := by
  have hB := BlkI.new w ⟨nm, A, c, ms⟩
  have s6 := hB.cell0
  have s7 := hB.cell1
  have hbe : Below w.heap.size w (w.alloc (.cells #[.string ⟨nm.toArray⟩, .slice A ms.length c] 50)) := (Below.refl _ w).alloc (Nat.le_refl _) _
  have HE := Lib.hid (show ∃ x : ItV, Ending.returned (.agg #[.string ⟨nm.toArray⟩, .slice A ms.length c]) = .returned (mkIt x) ∧ x = ⟨nm, A, c, ms⟩ ∧ ItOK (w.alloc (.cells #[.string ⟨nm.toArray⟩, .slice A ms.length c] 50)) x ∧ Below w.heap.size w (w.alloc (.cells #[.string ⟨nm.toArray⟩, .slice A ms.length c] 50)) from
    ⟨_, rfl, rfl, ⟨SlAt.below h hbe, h1, h2⟩, hbe⟩)
  clear hB hbe
  go_enter Tryz.func26, Tryz.ntmps26
  go_wp2_with fail
  exact bodyPost_ret (v := .agg #[.string ⟨nm.toArray⟩, .slice A ms.length c]) (by simp [results, Tryz.results26, go_sem, s6, s7]) rfl HE.out

end

section
open Go.RowKit

theorem row_ne {W : World} {B g k n : Nat} {e t : TypeId} {v : Value} {xs : List Value} {cur : Array Value} {z : Nat × Nat} (h : W.ownsRow B e k v n xs) (hg : W.heap[g]? = some (.cells cur t z)) (ht : t ≠ e) : v.ownBlock ≠ some g := by
  rcases h.2 with ⟨rfl, _⟩ | ⟨g', cap, cur', rfl, _, hg', _⟩
  · simp [Value.ownBlock]
  · intro e1
    have e2 : g' = g := by simpa [Value.ownBlock] using e1
    subst e2
    rw [hg] at hg'
    injection hg' with h1
    injection h1 with _ h2 _
    exact ht h2
theorem OwnI.store {W : World} {B g o : Nat} {v x : Value} {xs : List ItV} {cur : Array Value} {t : TypeId} {z : Nat × Nat} (h : OwnI W B v xs) (hg : W.heap[g]? = some (.cells cur t z)) (h1 : t ≠ 50) (h2 : t ≠ 55) : OwnI (W.setCell ⟨g, o, none⟩ x) B v xs :=
  ⟨ownsRow_setCell_other (a := ⟨g, o, none⟩) h.1 (row_ne h.1 hg h1) x, fun y hy => ownsRow_setCell_other (a := ⟨g, o, none⟩) (h.2 y hy) (row_ne (h.2 y hy) hg h2) x⟩
theorem BlkC.store {W : World} {bx g o : Nat} {c : CaV} {x : Value} {cur : Array Value} {t : TypeId} {z : Nat × Nat} (h : BlkC W bx c) (hg : W.heap[g]? = some (.cells cur t z)) (ht : t ≠ 28) : BlkC (W.setCell ⟨g, o, none⟩ x) bx c := by
  refine (Below.heap_setCell W ⟨g, o, none⟩ x bx ?_).trans h
  rintro rfl
  have h' := h
  unfold BlkC at h'
  rw [show W.heap[(⟨bx, o, none⟩ : Addr).block]? = W.heap[bx]? from rfl] at *
  rw [hg] at h'
  injection h' with h1
  injection h1 with _ h2 _
  exact ht h2

/-- A row of dots whose counters may be written. -/
structure Dts (W : World) (B g n : Nat) : Prop where
  ge : B ≤ g
  typ : ∃ cur, W.heap[g]? = some (.cells cur 30 (0, 0))
  num : ∀ j, j < n → ∃ q, W.cell? ⟨g, j * 2 + 1, none⟩ = some (.int .i64 q)
theorem Dts.frozen {W : World} {B g n : Nat} (h : Dts W B g n) (k : Nat) : W.frozen? ⟨g, k, none⟩ = false := by
  obtain ⟨cur, hg⟩ := h.typ
  simp [World.frozen?, hg]
theorem Dts.lt {W : World} {B g n : Nat} (h : Dts W B g n) : g < W.heap.size := by
  obtain ⟨cur, hg⟩ := h.typ
  exact (Array.getElem?_eq_some_iff.1 hg).1
theorem Dts.store {W : World} {B g n : Nat} (h : Dts W B g n) (g' o : Nat) (x : Int) : Dts (W.setCell ⟨g', o, none⟩ (.int .i64 x)) B g n := by
  refine ⟨h.ge, ?_, fun j hj => someInt_setCell (h.num j hj) _ _⟩
  obtain ⟨cur, hg⟩ := h.typ
  by_cases e : g = g'
  · subst e
    show ∃ cur', (W.heap.modify g _)[g]? = _
    rw [Array.getElem?_modify, if_pos rfl, hg]
    exact ⟨_, rfl⟩
  · exact ⟨cur, (Below.heap_setCell W ⟨g', o, none⟩ _ g e).trans hg⟩
/-- A list of dots that was returned. -/
def DtsO (W : World) (B : Nat) (A : Option Addr) (n : Nat) : Prop := n = 0 ∨ ∃ g, A = some ⟨g, 0, none⟩ ∧ Dts W B g n
theorem DtsO.store {W : World} {B n : Nat} {A : Option Addr} (h : DtsO W B A n) (g' o : Nat) (x : Int) : DtsO (W.setCell ⟨g', o, none⟩ (.int .i64 x)) B A n := by
  rcases h with h | ⟨g, h1, h2⟩
  · exact .inl h
  · exact .inr ⟨g, h1, h2.store g' o x⟩
theorem Dts.below {W W' : World} {B g n : Nat} (h : Dts W B g n) (hb : Below W.heap.size W W') : Dts W' B g n := by
  obtain ⟨cur, hg⟩ := h.typ
  refine ⟨h.ge, ⟨cur, (hb.block g h.lt).trans hg⟩, fun j hj => ?_⟩
  obtain ⟨q, hq⟩ := h.num j hj
  exact ⟨q, (hb.cell (p := ⟨g, j * 2 + 1, none⟩) h.lt).trans hq⟩
theorem DtsO.below {W W' : World} {B n : Nat} {A : Option Addr} (h : DtsO W B A n) (hb : Below W.heap.size W W') : DtsO W' B A n := by
  rcases h with h | ⟨g, h1, h2⟩
  · exact .inl h
  · exact .inr ⟨g, h1, h2.below hb⟩
theorem DtsO.of_own {W : World} {B n c : Nat} {A : Option Addr} {ds : List (Int × Int)} (h : W.ownsRow B 30 2 (.slice A n c) ds.length (cellsOf encD ds)) (hn : n = ds.length) : DtsO W B A n := by
  subst hn
  by_cases h0 : ds.length = 0
  · exact .inl h0
  refine .inr ?_
  have h2 := h.2
  rcases h2 with ⟨_, h2⟩ | ⟨g, cap, cur, hv, hb, hg, _⟩
  · exact absurd h2 h0
  · injection hv with e1 e2 e3
    subst e1
    refine ⟨g, rfl, hb, ⟨cur, hg⟩, fun j hj => ⟨ds[j].2, ?_⟩⟩
    have hc := World.ownsRow.cells h (g := g) rfl (j * 2 + 1) (.int .i64 ds[j].2) (cellsOf_at encD_len ds j ds[j] 1 _ (List.getElem?_eq_getElem hj) rfl)
    rw [Addr_add, Nat.zero_add] at hc
    exact hc

/-- What was returned, its dots being spoilt. -/
structure KP (w : World) (B : Nat) (c : CaV) (W : World) : Prop where
  box : BlkC W w.heap.size c
  dv : DtsO W B c.V c.vs.length
  dl : DtsO W B c.L c.ls.length
  own : OwnI W B c.i c.xs
  bel : Below B w W
theorem KP.store {w W : World} {B g n o : Nat} {c : CaV} (h : KP w B c W) (hd : Dts W B g n) (x : Int) : KP w B c (W.setCell ⟨g, o, none⟩ (.int .i64 x)) := by
  obtain ⟨cur, hg⟩ := hd.typ
  exact ⟨h.box.store hg (by decide), h.dv.store _ _ _, h.dl.store _ _ _, h.own.store hg (by decide) (by decide), h.bel.setCell (p := ⟨g, o, none⟩) hd.ge _⟩

theorem mark_block {W : World} {B b : Nat} {x : ItV} (h : RowM W B (slV x) x.ms) (hA : x.A = some ⟨b, 0, none⟩) (h0 : 0 < x.ms.length) : ∃ cur, W.heap[b]? = some (.cells cur 55 (0, 0)) := by
  rcases RowM.form h with ⟨_, e2⟩ | ⟨g, c2, cur2, e1, _, hg⟩
  · rw [e2] at h0; cases h0
  · injection e1 with e3 _ _
    rw [hA] at e3
    injection e3 with e4
    injection e4 with e5
    subst e5
    exact ⟨cur2, hg⟩
/-- The items being spoilt, the cart in its box. -/
structure KQ (w : World) (B g n d lim : Nat) (c : CaV) (W : World) (ys : List ItV) : Prop where
  box : BlkC W w.heap.size c
  spo : Spo w B g d n lim W ys

section
variable {w W : World} {B g n d lim : Nat} {c : CaV} {ys : List ItV}
theorem KQ.marks (h : KQ w B g n d lim c W ys) {j k : Nat} {x : ItV} (hj : ys[j]? = some x) (hk : k < x.ms.length) :
    ∃ b q, x.A = some ⟨b, 0, none⟩ ∧ W.cell? ⟨b, k * 4 + 2, none⟩ = some (.int .i64 q) ∧ W.frozen? ⟨b, k * 4 + 2, none⟩ = false ∧ b < W.heap.size ∧
      ∀ q', ∃ zs y, KQ w B g n d lim c (W.setCell ⟨b, k * 4 + 2, none⟩ (.int .i64 q')) zs ∧ zs[j]? = some y ∧ y.A = x.A ∧ y.c = x.c ∧ y.ms.length = x.ms.length := by
  obtain ⟨b, q, hA, e0, e1, hbl, hnx⟩ := h.spo.marks hj hk
  obtain ⟨cur, hg⟩ := mark_block (h.spo.own.2 x (List.mem_of_getElem? hj)) hA (by omega)
  refine ⟨b, q, hA, e0, e1, hbl, fun q' => ?_⟩
  obtain ⟨zs, y, k1, k2⟩ := hnx q'
  exact ⟨zs, y, ⟨h.box.store hg (by decide), k1⟩, k2⟩
end

end

section
open Go.RowKit

theorem OwnI.grow {W W' : World} {B : Nat} {v v' : Value} {ys : List ItV} {y : ItV} (h : OwnI W B v ys) (hy : RowM W B (slV y) y.ms) (hr : RowT W' B v' (ys ++ [y])) (hg : W.grownBy W' v.ownBlock) : OwnI W' B v' (ys ++ [y]) := by
  refine ⟨hr, fun z hz => ?_⟩
  have hk : RowM W B (slV z) z.ms := by
    rcases List.mem_append.1 hz with h' | h'
    · exact h.2 z h'
    · obtain rfl : z = y := by simpa using h'
      exact hy
  refine World.ownsRow.kept hk hg ?_
  rcases h.1.2 with ⟨e, _⟩ | ⟨g, c, cur, e, _, hgg, _⟩
  · rw [e]
    rcases RowM.form hk with ⟨e1, _⟩ | ⟨g1, c1, cur1, e1, _⟩
    · left; rw [e1]; rfl
    · right; rw [e1]; simp [Value.ownBlock]
  · right
    rw [e]
    exact RowM.ne hk hgg

/-- The item in its box, the row that is being made. -/
structure KOwn (w : World) (bx : Nat) (x : ItV) (v : Value) (ys : List ItV) (W : World) : Prop where
  blk : BlkI W bx x
  own : OwnI W w.heap.size v ys
  bel : Below w.heap.size w W
  okx : ItOK W x
  ne : v.ownBlock ≠ some bx
section
variable {w W W' : World} {x : ItV} {bx : Nat} {v : Value} {ys : List ItV}
theorem KOwn.next (h : KOwn w bx x v ys W) (hb : Below W.heap.size W W') : KOwn w bx x v ys W' := ⟨h.blk.below hb, h.own.below hb, below_trans h.bel hb, h.okx.below hb, h.ne⟩
theorem KOwn.drew (h : KOwn w bx x v ys W) : KOwn w bx x v ys W.drew := h.next (Below.refl _ _).drew
theorem KOwn.alloc (h : KOwn w bx x v ys W) (o : Obj) : KOwn w bx x v ys (W.alloc o) := h.next ((Below.refl _ _).alloc (Nat.le_refl _) _)
theorem KOwn.grown (h : KOwn w bx x v ys W) (hg : W.grownBy W' none) : KOwn w bx x v ys W' := h.next ((Below.refl _ _).grown hg (Nat.le_refl _) (fun _ h => by cases h))
theorem KOwn.sp (h : KOwn w bx x v ys W) : W.cell? ⟨bx, 0, none⟩ = some (.string ⟨x.nm.toArray⟩) ∧ W.cell? ⟨bx, 1, none⟩ = some (.slice x.A x.ms.length x.c) ∧ bx < W.heap.size := ⟨h.blk.cell0, h.blk.cell1, h.blk.lt⟩
theorem KOwn.size (h : KOwn w bx x v ys W) : w.heap.size ≤ W.heap.size := h.bel.size
end

/-- Items in boxes, and nothing old has changed. -/
structure KZ (w : World) (L : List (Nat × ItV)) (W : World) : Prop where
  box : ∀ p ∈ L, BlkI W p.1 p.2 ∧ ItOK W p.2
  bel : Below w.heap.size w W
section
variable {w W W' : World} {L : List (Nat × ItV)}
theorem KZ.next (h : KZ w L W) (hb : Below W.heap.size W W') : KZ w L W' := ⟨fun p hp => ⟨(h.box p hp).1.below hb, (h.box p hp).2.below hb⟩, below_trans h.bel hb⟩
theorem KZ.drew (h : KZ w L W) : KZ w L W.drew := h.next (Below.refl _ _).drew
theorem KZ.alloc (h : KZ w L W) (o : Obj) : KZ w L (W.alloc o) := h.next ((Below.refl _ _).alloc (Nat.le_refl _) _)
theorem KZ.c0 (h : KZ w L W) {g : Nat} {x : ItV} (hm : (g, x) ∈ L) : W.cell? ⟨g, 0, none⟩ = some (.string ⟨x.nm.toArray⟩) := (h.box _ hm).1.cell0
theorem KZ.c1 (h : KZ w L W) {g : Nat} {x : ItV} (hm : (g, x) ∈ L) : W.cell? ⟨g, 1, none⟩ = some (.slice x.A x.ms.length x.c) := (h.box _ hm).1.cell1
theorem KZ.lt (h : KZ w L W) {g : Nat} {x : ItV} (hm : (g, x) ∈ L) : g < W.heap.size := (h.box _ hm).1.lt
theorem KZ.ok (h : KZ w L W) {g : Nat} {x : ItV} (hm : (g, x) ∈ L) : ItOK W x := (h.box _ hm).2
theorem KZ.push (h : KZ w L W) (x : ItV) (ho : ItOK W x) (n : Nat) (hn : W.heap.size = n) : KZ w (L ++ [(n, x)]) (W.alloc (.cells #[.string ⟨x.nm.toArray⟩, .slice x.A x.ms.length x.c] 50)) := by
  subst hn
  have hb := (Below.refl W.heap.size W).alloc (Nat.le_refl _) (.cells #[.string ⟨x.nm.toArray⟩, .slice x.A x.ms.length x.c] 50)
  refine ⟨fun p hp => ?_, (h.next hb).bel⟩
  rcases List.mem_append.1 hp with k | k
  · exact (h.next hb).box p k
  · obtain rfl : p = (W.heap.size, x) := by simpa using k
    exact ⟨BlkI.new W x, ho.below hb⟩
/-- The two boxes of one that looks at two. -/
theorem KZ.sp2 {g g' : Nat} {x y : ItV} (h : KZ w [(g, x), (g', y)] W) : W.cell? ⟨g, 0, none⟩ = some (.string ⟨x.nm.toArray⟩) ∧ W.cell? ⟨g, 1, none⟩ = some (.slice x.A x.ms.length x.c) ∧ W.cell? ⟨g', 0, none⟩ = some (.string ⟨y.nm.toArray⟩) ∧ W.cell? ⟨g', 1, none⟩ = some (.slice y.A y.ms.length y.c) ∧ g < W.heap.size ∧ g' < W.heap.size ∧ KZ w [(g, x), (g', y)] W :=
  ⟨h.c0 (by simp), h.c1 (by simp), h.c0 (by simp), h.c1 (by simp), h.lt (x := x) (by simp), h.lt (x := y) (by simp), h⟩
end
/-- One item, two items that were written out. -/
theorem holdsA (W : World) (n : Nat) (x : ItV) (hn : W.heap.size = n) (ho : ItOK W x) : HoldsX (W.alloc (.cells #[.string ⟨x.nm.toArray⟩, .slice x.A x.ms.length x.c] 50)) (.slice (some ⟨n, 0, none⟩) 1 1) [x] := by
  subst hn
  exact ⟨_, 1, rfl, ⟨SlAt.one (heap_alloc_new W _), fun y hy => by
    obtain rfl : y = x := by simpa using hy
    exact ho.below ((Below.refl _ _).alloc (Nat.le_refl _) _)⟩, by simp, by simp [maxLen]⟩
theorem holdsB (W : World) (n : Nat) (x y : ItV) (hn : W.heap.size = n) (ho : ItOK W x) (hp : ItOK W y) : HoldsX (W.alloc (.cells #[.string ⟨x.nm.toArray⟩, .slice x.A x.ms.length x.c, .string ⟨y.nm.toArray⟩, .slice y.A y.ms.length y.c] 50)) (.slice (some ⟨n, 0, none⟩) 2 2) [x, y] :=
  ⟨_, 2, rfl, ⟨SlAt.litAt encIt_len W n hn 50 [x, y] (by simp [maxLen]), fun z hz => by
    have hb := (Below.refl W.heap.size W).alloc (Nat.le_refl _) (.cells #[.string ⟨x.nm.toArray⟩, .slice x.A x.ms.length x.c, .string ⟨y.nm.toArray⟩, .slice y.A y.ms.length y.c] 50)
    rcases (by simpa using hz : z = x ∨ z = y) with e | e <;> subst e
    · exact ho.below hb
    · exact hp.below hb⟩, by simp, by simp [maxLen]⟩

end

end Go.Proofs.YtiaehpdgpjhecaaGreat
