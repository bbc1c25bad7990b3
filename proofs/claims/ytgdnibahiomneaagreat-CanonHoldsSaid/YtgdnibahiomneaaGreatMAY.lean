/- Several texts in one: ItmO, CarB, CarC, CarO, CanT, CanU, CanVA. -/
import Derived.Test.YtgdnibahiomneaaGreatMAH
import Derived.ChangeMaps
import Derived.ChangeSlices
import Derived.Deep.SlicePairs
import Derived.Lib.SmallJoins
import Derived.ProofKit
import Derived.OpenShut
import Derived.ChangeOld
import Derived.Below
import Derived.Carry
import Derived.Test.YtgdnibahiomneaaGreatMAM
import Derived.Test.YtgdnibahiomneaaGreatMAJ
import Derived.Test.YtgdnibahiomneaaGreatMAC
import Derived.Test.YtgdnibahiomneaaGreatMAX
namespace Go.Proofs.YtgdnibahiomneaaGreat

section
open Go.RowKit
open Go.ChangeShapes Go.WideShapes Go.ChangeAt

set_option maxRecDepth 1000000

theorem ownP : ownKnob Tryz.prog.godebug = none := by kernel_rfl
theorem laidP : laidOutB Tryz.prog = true := by kernel_rfl

theorem wfU {n : Int} (h : (Lit.int .u64 n).wf = true) : ∃ m : Nat, n = (m : Int) ∧ m < 18446744073709551616 := by
  have h1 : 0 ≤ n ∧ n ≤ IntKind.u64.max := by simpa [Lit.wf, IntKind.min, IntKind.bits, IntKind.signed] using h
  have h2 : IntKind.u64.max = 18446744073709551615 := by decide
  exact ⟨n.toNat, by omega, by omega⟩
theorem wfB {n : Int} (h : (Lit.int .u8 n).wf = true) : ∃ m : Nat, n = (m : Int) ∧ m < 256 := by
  have h1 : 0 ≤ n ∧ n ≤ IntKind.u8.max := by simpa [Lit.wf, IntKind.min, IntKind.bits, IntKind.signed] using h
  have h2 : IntKind.u8.max = 255 := by decide
  exact ⟨n.toNat, by omega, by omega⟩
theorem block_of_cell {w : World} {a : Addr} {v : Value} (h : w.cell? a = some v) : a.block < w.heap.size := by
  rcases Nat.lt_or_ge a.block w.heap.size with hlt | hge
  · exact hlt
  · simp [World.cell?, Array.getElem?_eq_none hge] at h

section
variable {H : Type} {enc : TypeId × Value → H} {W : World} {base b0 : Nat} {spare : Nat → Bool} {held : Bool} {v : Value} {d : DataW H} {p : List MemPlace} {t : TypeId}
/-- The four cells of a mark. -/
theorem open_markC {fuel : Nat} {x : DataW H × List MemPlace} {v0 v1 v2 v3 : Value} (h : DataW.trod enc Tryz.prog W base spare held fuel 53 [v0, v1, v2, v3] = some x) :
    ∃ m : Mk, v0 = .int .i64 m.r ∧ v1 = .int .i64 m.c ∧ v2 = .int .i64 m.q ∧ v3 = .int .u64 (m.t : Int) ∧ m.t < 18446744073709551616 := by
  obtain ⟨xs, k, hk, _, _, hxl, hfd⟩ := DataW.trod_struct Tryz.underlying53 h
  match xs, hxl with
  | [y0, y1, y2], _ =>
    have g0 := hfd 0 _ rfl
    have g1 := hfd 1 _ rfl
    have g2 := hfd 2 _ rfl
    have c0 : Tryz.prog.cellsOf 51 = 2 := by kernel_rfl
    have c1 : Tryz.prog.cellsOf 3 = 1 := by kernel_rfl
    have c2 : Tryz.prog.cellsOf 49 = 1 := by kernel_rfl
    simp [c0, c1, c2] at g0 g1 g2
    obtain ⟨zs, k2, hk2, _, _, hzl, hgd⟩ := DataW.trod_struct Tryz.underlying51 g0
    match zs, hzl with
    | [z0, z1], _ =>
      have q0 := hgd 0 _ rfl
      have q1 := hgd 1 _ rfl
      simp [c1] at q0 q1
      obtain ⟨r, hr, _, _⟩ := DataW.trod_int Tryz.underlying3 q0
      obtain ⟨c, hc, _, _⟩ := DataW.trod_int Tryz.underlying3 q1
      obtain ⟨q, hq, _, _⟩ := DataW.trod_int Tryz.underlying3 g1
      obtain ⟨t, ht, _, wt⟩ := DataW.trod_int Tryz.underlying49 g2
      injection hr with hr
      injection hc with hc
      injection hq with hq
      injection ht with ht
      obtain ⟨n, rfl, hn⟩ := wfU wt
      exact ⟨⟨r, c, q, n⟩, hr, hc, hq, ht, hn⟩
theorem open_marksF {fuel : Nat} {x : DataW H × List MemPlace} (ht : Tryz.prog.underlying t = some (.slice 53)) (hf : DataW.trod enc Tryz.prog W base spare held fuel t [v] = some x) :
    ∃ X cx, ∃ ms : List Mk, v = .slice X ms.length cx ∧ MarksAt W X ms ∧ ms.length ≤ cx ∧ cx ≤ maxLen ∧ ∀ m ∈ ms, m.t < 18446744073709551616 := by
  rcases Go.Deep.open_slice ht hf with ⟨hcs, _⟩ | ⟨a, len, cap, m, n, D, Pl, hcs, hb, hl, hm, hmm, _, hx⟩
  · obtain rfl : v = .slice none 0 0 := by simpa using hcs
    exact ⟨none, 0, [], rfl, SlAt.nil, by simp, by simp [maxLen], fun p hp => by cases hp⟩
  · obtain rfl : v = .slice (some a) len cap := by simpa using hcs
    have hlm : len ≤ m := by rw [hmm]; split <;> omega
    have each : ∀ i, ∃ p : Mk, i < len → W.cell? (a.add (i * 4)) = some (.int .i64 p.r) ∧ W.cell? (a.add (i * 4 + 1)) = some (.int .i64 p.c) ∧ W.cell? (a.add (i * 4 + 2)) = some (.int .i64 p.q) ∧ W.cell? (a.add (i * 4 + 3)) = some (.int .u64 (p.t : Int)) ∧ p.t < 18446744073709551616 := by
      intro i
      by_cases hi : i < len
      · obtain ⟨cs', h1, h2⟩ := hx i (by omega)
        rw [show Tryz.prog.cellsOf 53 = 4 from by kernel_rfl] at h1
        obtain ⟨_, hlen, hcell⟩ := World.cells?_some h1
        match cs', hlen with
        | [v0, v1, v2, v3], _ =>
          have e0 := hcell 0 (by omega)
          have e1 := hcell 1 (by omega)
          have e2 := hcell 2 (by omega)
          have e3 := hcell 3 (by omega)
          rw [Go.Deep.add_add] at e0 e1 e2 e3
          obtain ⟨q, q0, q1, q2, q3, hq⟩ := open_markC h2
          subst q0 q1 q2 q3
          exact ⟨q, fun _ => ⟨by simpa using e0, by simpa using e1, by simpa using e2, by simpa using e3, hq⟩⟩
      · exact ⟨Mk.zero, fun h => absurd h hi⟩
    obtain ⟨q, hq⟩ := Classical.axiomOfChoice each
    have hlen : ((List.range len).map q).length = len := by simp
    refine ⟨some a, cap, (List.range len).map q, by rw [hlen], ?_, by rw [hlen]; exact hl, hm, ?_⟩
    · intro hpos
      rw [hlen] at hpos
      obtain ⟨b, off, spot⟩ := a
      have hspot : spot = none := by simpa [Addr.add] using World.cell?_spot (hq 0 hpos).1
      subst hspot
      refine ⟨b, off, rfl, block_of_cell (hq 0 hpos).1, ?_⟩
      intro j x hjx i u hiu
      have hj : j < len := by
        rcases Nat.lt_or_ge j len with h | h
        · exact h
        · rw [List.getElem?_eq_none (by rw [hlen]; exact h)] at hjx; cases hjx
      have hxq : x = q j := by
        rw [List.getElem?_map, List.getElem?_range hj] at hjx
        exact (Option.some.inj hjx).symm
      subst hxq
      obtain ⟨g0, g1, g2, g3, _⟩ := hq j hj
      rw [add_plain] at g0 g1 g2 g3
      match i, hiu with
      | 0, hiu =>
        have e : Value.int .i64 (q j).r = u := Option.some.inj hiu
        rw [← e, ← g0]; rfl
      | 1, hiu =>
        have e : Value.int .i64 (q j).c = u := Option.some.inj hiu
        rw [← e, ← g1]; rfl
      | 2, hiu =>
        have e : Value.int .i64 (q j).q = u := Option.some.inj hiu
        rw [← e, ← g2]; rfl
      | 3, hiu =>
        have e : Value.int .u64 ((q j).t : Int) = u := Option.some.inj hiu
        rw [← e, ← g3]; rfl
      | i + 4, hiu => exact absurd hiu (by simp [encM])
    · intro p hp
      obtain ⟨j, hj, rfl⟩ := List.mem_map.1 hp
      obtain ⟨_, _, _, _, g4⟩ := hq j (List.mem_range.1 hj)
      exact g4
/-- The two cells of an item. -/
theorem open_itemC {fuel : Nat} {x : DataW H × List MemPlace} {v0 v1 : Value} (h : DataW.trod enc Tryz.prog W base spare held fuel 56 [v0, v1] = some x) :
    ∃ y : ItV, v0 = .string ⟨y.nm.toArray⟩ ∧ v1 = .slice y.A y.ms.length y.c ∧ ItOK W y ∧ ∀ m ∈ y.ms, m.t < 18446744073709551616 := by
  obtain ⟨xs, k, hk, _, _, hxl, hfd⟩ := DataW.trod_struct Tryz.underlying56 h
  match xs, hxl with
  | [y0, y1], _ =>
    have g0 := hfd 0 _ rfl
    have g1 := hfd 1 _ rfl
    have c0 : Tryz.prog.cellsOf 9 = 1 := by kernel_rfl
    have c1 : Tryz.prog.cellsOf 54 = 1 := by kernel_rfl
    simp [c0, c1] at g0 g1
    obtain ⟨s, hs, _, _⟩ := DataW.trod_string Tryz.underlying9 g0
    obtain ⟨A, c, ms, hv, hat, h1, h2, h3⟩ := open_marksF Tryz.underlying54 g1
    injection hs with hs
    refine ⟨⟨s.data.toList, A, c, ms⟩, ?_, hv, ⟨hat, h1, h2⟩, h3⟩
    rw [hs]
theorem open_itemsF {fuel : Nat} {x : DataW H × List MemPlace} (ht : Tryz.prog.underlying t = some (.slice 56)) (hf : DataW.trod enc Tryz.prog W base spare held fuel t [v] = some x) :
    ∃ xs : List ItV, HoldsX W v xs ∧ ∀ y ∈ xs, ∀ m ∈ y.ms, m.t < 18446744073709551616 := by
  rcases Go.Deep.open_slice ht hf with ⟨hcs, _⟩ | ⟨a, len, cap, m, n, D, Pl, hcs, hb, hl, hm, hmm, _, hx⟩
  · obtain rfl : v = .slice none 0 0 := by simpa using hcs
    exact ⟨[], HoldsX.nil _, fun p hp => by cases hp⟩
  · obtain rfl : v = .slice (some a) len cap := by simpa using hcs
    have hlm : len ≤ m := by rw [hmm]; split <;> omega
    have each : ∀ i, ∃ y : ItV, i < len → W.cell? (a.add (i * 2)) = some (.string ⟨y.nm.toArray⟩) ∧ W.cell? (a.add (i * 2 + 1)) = some (.slice y.A y.ms.length y.c) ∧ ItOK W y ∧ ∀ m ∈ y.ms, m.t < 18446744073709551616 := by
      intro i
      by_cases hi : i < len
      · obtain ⟨cs', h1, h2⟩ := hx i (by omega)
        rw [show Tryz.prog.cellsOf 56 = 2 from by kernel_rfl] at h1
        obtain ⟨_, hlen, hcell⟩ := World.cells?_some h1
        match cs', hlen with
        | [v0, v1], _ =>
          have e0 := hcell 0 (by omega)
          have e1 := hcell 1 (by omega)
          rw [Go.Deep.add_add] at e0 e1
          obtain ⟨y, q0, q1, hok, hq⟩ := open_itemC h2
          subst q0 q1
          exact ⟨y, fun _ => ⟨by simpa using e0, by simpa using e1, hok, hq⟩⟩
      · exact ⟨⟨[], none, 0, []⟩, fun h => absurd h hi⟩
    obtain ⟨q, hq⟩ := Classical.axiomOfChoice each
    have hlen : ((List.range len).map q).length = len := by simp
    refine ⟨(List.range len).map q, ⟨some a, cap, by rw [hlen], ⟨?_, ?_⟩, by rw [hlen]; exact hl, hm⟩, ?_⟩
    · intro hpos
      rw [hlen] at hpos
      obtain ⟨b, off, spot⟩ := a
      have hspot : spot = none := by simpa [Addr.add] using World.cell?_spot (hq 0 hpos).1
      subst hspot
      refine ⟨b, off, rfl, block_of_cell (hq 0 hpos).1, ?_⟩
      intro j x hjx i u hiu
      have hj : j < len := by
        rcases Nat.lt_or_ge j len with h | h
        · exact h
        · rw [List.getElem?_eq_none (by rw [hlen]; exact h)] at hjx; cases hjx
      have hxq : x = q j := by
        rw [List.getElem?_map, List.getElem?_range hj] at hjx
        exact (Option.some.inj hjx).symm
      subst hxq
      obtain ⟨g0, g1, _⟩ := hq j hj
      rw [add_plain] at g0 g1
      match i, hiu with
      | 0, hiu =>
        have e : Value.string ⟨(q j).nm.toArray⟩ = u := Option.some.inj hiu
        rw [← e, ← g0]; rfl
      | 1, hiu =>
        have e : Value.slice (q j).A (q j).ms.length (q j).c = u := Option.some.inj hiu
        rw [← e, ← g1]; rfl
      | i + 2, hiu => exact absurd hiu (by simp [encIt])
    · intro y hy
      obtain ⟨j, hj, rfl⟩ := List.mem_map.1 hy
      exact (hq j (List.mem_range.1 hj)).2.2.1
    · intro y hy
      obtain ⟨j, hj, rfl⟩ := List.mem_map.1 hy
      exact (hq j (List.mem_range.1 hj)).2.2.2
end
end

section
open Go.RowKit

end

section
open Go.RowKit

/-- A cart in its box, and nothing old has changed; it lies where it lay. -/
structure KB1 (w : World) (c : CaV) (W : World) : Prop where
  blk : BlkC W w.heap.size c
  bel : Below w.heap.size w W
  ok0 : CaOK w c
section
variable {w W W' : World} {c : CaV}
theorem KB1.new (w : World) (c : CaV) (ho : CaOK w c) : KB1 w c (w.alloc (.cells #[c.v, c.l, c.i] 28)) := ⟨BlkC.new w c, (Below.refl _ w).alloc (Nat.le_refl _) _, ho⟩
theorem KB1.ok (h : KB1 w c W) : CaOK W c := h.ok0.below h.bel
theorem KB1.next (h : KB1 w c W) (hb : Below W.heap.size W W') : KB1 w c W' := ⟨h.blk.below hb, below_trans h.bel hb, h.ok0⟩
theorem KB1.drew (h : KB1 w c W) : KB1 w c W.drew := h.next (Below.refl _ _).drew
theorem KB1.alloc (h : KB1 w c W) (o : Obj) : KB1 w c (W.alloc o) := h.next ((Below.refl _ _).alloc (Nat.le_refl _) _)
theorem KB1.size (h : KB1 w c W) : w.heap.size + 1 ≤ W.heap.size := h.blk.lt
theorem KB1.grown (h : KB1 w c W) {row : Option Nat} (hg : W.grownBy W' row) (hr : ∀ k, row = some k → w.heap.size + 1 ≤ k) : KB1 w c W' := by
  have hz := h.size
  exact ⟨(hg.block _ h.blk.lt (fun e => by have := hr _ e.symm; omega)).trans h.blk, h.bel.grown hg (by omega) (fun k hk => by have := hr k hk; omega), h.ok0⟩
theorem KB1.sp (h : KB1 w c W) : W.cell? ⟨w.heap.size, 0, none⟩ = some c.v ∧ W.cell? ⟨w.heap.size, 1, none⟩ = some c.l ∧ W.cell? ⟨w.heap.size, 2, none⟩ = some c.i ∧ w.heap.size < W.heap.size ∧ KB1 w c W := ⟨h.blk.cell0, h.blk.cell1, h.blk.cell2, h.blk.lt, h⟩
theorem KB1.items (h : KB1 w c W) : ItemsAt W c.I c.xs := by
  obtain ⟨A, n, e, h1, _⟩ := h.ok.2.2
  injection e with e1 e2 e3
  rw [e1]; exact h1
end

/-- All marks. -/
def marksX (xs : List ItV) : List Mk := xs.flatMap (·.ms)
end

section
open Go.RowKit
open Go.ChangeShapes Go.WideShapes Go.ChangeAt

set_option maxRecDepth 1000000

section
variable {H : Type} {enc : TypeId × Value → H} {W : World} {base b0 : Nat} {spare : Nat → Bool} {held : Bool} {v : Value} {d : DataW H} {p : List MemPlace} {t : TypeId}
theorem wf64 {n : Int} (h : (Lit.int .i64 n).wf = true) : -9223372036854775808 ≤ n ∧ n ≤ 9223372036854775807 := by
  simpa [Lit.wf, IntKind.min, IntKind.bits, IntKind.signed] using h

/-- A slice of dots, whatever its own type, by the reading of its one cell. -/
theorem open_dotsF {fuel : Nat} {x : DataW H × List MemPlace} (ht : Tryz.prog.underlying t = some (.slice 51)) (hf : DataW.trod enc Tryz.prog W base spare held fuel t [v] = some x) :
    ∃ A c, ∃ zs : List WD, v = .slice A (zs.map (·.1)).length c ∧ Holds W v (zs.map (·.1)) := by
  rcases Go.Deep.open_slice_pairs ht Tryz.underlying51 (by kernel_rfl) rfl rfl (by kernel_rfl) (by kernel_rfl) hf with ⟨hcs, _⟩ | ⟨a, len0, cap0, m, n, V0, V1, D0, D1, P0, P1, hcs, _, hl, hm, hmm, _, hx⟩
  · obtain rfl : v = .slice none 0 0 := by simpa using hcs
    exact ⟨none, 0, [], rfl, Holds.nil _⟩
  · obtain rfl : v = .slice (some a) len0 cap0 := by simpa using hcs
    have hlm : len0 ≤ m := by rw [hmm]; split <;> omega
    have each : ∀ i, ∃ q : WD, i < len0 → W.cell? (a.add (i * 2)) = some (.int .i64 q.1.1) ∧ W.cell? (a.add (i * 2 + 1)) = some (.int .i64 q.1.2) := by
      intro i
      by_cases hi : i < len0
      · obtain ⟨h0, h1, h2, h3⟩ := hx i (by omega)
        obtain ⟨r, hr, _, wr⟩ := DataW.trod_int Tryz.underlying3 h2
        obtain ⟨c, hc, _, wc⟩ := DataW.trod_int Tryz.underlying3 h3
        injection hr with hr
        injection hc with hc
        exact ⟨⟨(r, c), (wf64 wr).1, (wf64 wr).2, (wf64 wc).1, (wf64 wc).2⟩, fun _ => ⟨by rw [h0, hr], by rw [h1, hc]⟩⟩
      · exact ⟨default, fun h => absurd h hi⟩
    obtain ⟨q, hq⟩ := Classical.axiomOfChoice each
    have hlen : (((List.range len0).map q).map (·.1)).length = len0 := by simp
    refine ⟨some a, cap0, (List.range len0).map q, by rw [hlen], some a, cap0, by rw [hlen], ?_, by rw [hlen]; exact hl, hm⟩
    intro hpos
    rw [hlen] at hpos
    obtain ⟨b, off, spot⟩ := a
    have hspot : spot = none := by simpa [Addr.add] using World.cell?_spot (hq 0 hpos).1
    subst hspot
    refine ⟨b, off, rfl, block_of_cell (hq 0 hpos).1, ?_⟩
    intro j x hjx i u hiu
    have hj : j < len0 := by
      rcases Nat.lt_or_ge j len0 with h | h
      · exact h
      · rw [List.getElem?_eq_none (by rw [hlen]; exact h)] at hjx; cases hjx
    have hxq : x = (q j).1 := by
      rw [List.getElem?_map, List.getElem?_map, List.getElem?_range hj] at hjx
      exact (Option.some.inj hjx).symm
    subst hxq
    obtain ⟨g0, g1⟩ := hq j hj
    rw [add_plain] at g0 g1
    match i, hiu with
    | 0, hiu =>
      have e : Value.int .i64 (q j).1.1 = u := Option.some.inj hiu
      rw [← e, ← g0]; rfl
    | 1, hiu =>
      have e : Value.int .i64 (q j).1.2 = u := Option.some.inj hiu
      rw [← e, ← g1]; rfl
    | i + 2, hiu => exact absurd hiu (by simp [encD])

/-- A cart that comes in, opened. -/
theorem open_cart (hv : Value.okWide Tryz.prog W .any b0 28 v) (h : DataW.Trod enc Tryz.prog W base spare held 28 v d p) :
    ∃ c : CaV, v = mkC c ∧ CaOK W c ∧ ∀ m ∈ marksX c.xs, m.t < 18446744073709551616 := by
  obtain ⟨cs, rfl, hsz⟩ := okWide_struct Tryz.underlying28 hv
  have hC : Tryz.prog.cellsOf 28 = 3 := by kernel_rfl
  rw [hC] at hsz
  obtain ⟨fuel, hf⟩ := h
  obtain ⟨l⟩ := cs
  match l, hsz with
  | [v0, v1, v2], _ =>
    have hf' : DataW.trod enc Tryz.prog W base spare held fuel 28 [v0, v1, v2] = some (d, p) := by simpa [Value.cells] using hf
    obtain ⟨xs, k, hk, _, _, hxl, hfd⟩ := DataW.trod_struct Tryz.underlying28 hf'
    match xs, hxl with
    | [y0, y1], _ =>
      have g0 := hfd 0 _ rfl
      have g1 := hfd 1 _ rfl
      have c0 : Tryz.prog.cellsOf 25 = 2 := by kernel_rfl
      have c1 : Tryz.prog.cellsOf 26 = 1 := by kernel_rfl
      have c2 : Tryz.prog.cellsOf 23 = 1 := by kernel_rfl
      have c3 : Tryz.prog.cellsOf 22 = 1 := by kernel_rfl
      simp [c0, c1] at g0 g1
      obtain ⟨zs, k2, hk2, _, _, hzl, hgd⟩ := DataW.trod_struct Tryz.underlying25 g0
      match zs, hzl with
      | [z0, z1], _ =>
        have q0 := hgd 0 _ rfl
        have q1 := hgd 1 _ rfl
        simp [c2, c3] at q0 q1
        obtain ⟨A, a, us, rfl, hA⟩ := open_dotsF Tryz.underlying23 q0
        obtain ⟨B, b, ls, rfl, hB⟩ := open_dotsF Tryz.underlying22 q1
        obtain ⟨ys, hY, ht⟩ := open_itemsF Tryz.underlying26 g1
        obtain ⟨C, c, rfl, hc⟩ := hY
        refine ⟨⟨A, a, us.map (·.1), B, b, ls.map (·.1), C, c, ys⟩, rfl, ⟨hA, hB, C, c, rfl, hc⟩, fun m hm => ?_⟩
        obtain ⟨y, hy, hym⟩ := List.mem_flatMap.1 hm
        exact ht y hy m hym
end

end

section
open Go.RowKit
open Go.ChangeShapes Go.WideShapes Go.ChangeAt

set_option maxRecDepth 1000000

section
variable {H : Type} {enc : TypeId × Value → H} {W : World} {base b0 : Nat} {spare : Nat → Bool} {held : Bool} {v : Value} {d : DataW H} {p : List MemPlace} {t : TypeId}
/-- A slice of bytes that comes in, opened. -/
theorem open_bytesF {fuel : Nat} {x : DataW H × List MemPlace} (ht : Tryz.prog.underlying t = some (.slice 5)) (hf : DataW.trod enc Tryz.prog W base spare held fuel t [v] = some x) :
    ∃ A c xs, v = .slice A (xs : List UInt8).length c ∧ HoldsB W v xs := by
  rcases open_ints ht Tryz.underlying5 (by kernel_rfl) hf with ⟨hcs, _⟩ | ⟨a, len, cap, zs, hcs, _, hl, hm, hz, _, hx, hw⟩
  · obtain rfl : v = .slice none 0 0 := by simpa using hcs
    exact ⟨none, 0, [], rfl, HoldsB.nil _⟩
  · obtain rfl : v = .slice (some a) len cap := by simpa using hcs
    have hlz : len ≤ zs.length := by rw [hz]; split <;> omega
    have hlen : ((zs.take len).map fun z => UInt8.ofNat z.toNat).length = len := by rw [List.length_map, List.length_take]; omega
    refine ⟨some a, cap, (zs.take len).map fun z => UInt8.ofNat z.toNat, by rw [hlen], some a, cap, by rw [hlen], ?_, by rw [hlen]; exact hl, hm⟩
    intro hpos
    rw [hlen] at hpos
    obtain ⟨b, off, spot⟩ := a
    have hspot : spot = none := by simpa [Addr.add] using World.cell?_spot (hx 0 (by omega))
    subst hspot
    refine ⟨b, off, rfl, block_of_cell (hx 0 (by omega)), ?_⟩
    intro j x hjx i u hiu
    have hj : j < len := by
      rcases Nat.lt_or_ge j len with h | h
      · exact h
      · rw [List.getElem?_eq_none (by rw [hlen]; exact h)] at hjx; cases hjx
    have hjz : j < zs.length := by omega
    rw [List.getElem?_map, List.getElem?_take, if_pos hj, List.getElem?_eq_getElem hjz] at hjx
    have hxq : UInt8.ofNat (zs[j]).toNat = x := Option.some.inj hjx
    have h8 := wfB (hw zs[j] (List.getElem_mem hjz))
    have hg : zs.getD j 0 = (x.toNat : Int) := by
      rw [List.getD, List.getElem?_eq_getElem hjz, ← hxq, UInt8.toNat_ofNat']
      show zs[j] = _
      omega
    have g := hx j hjz
    rw [hg] at g
    match i, hiu with
    | 0, hiu =>
      have e : Value.int .u8 (x.toNat : Int) = u := Option.some.inj hiu
      rw [← e, ← g]
      rw [add_plain]; simp
    | i + 1, hiu => exact absurd hiu (by simp)
theorem open_bytesT (ht : Tryz.prog.underlying t = some (.slice 5)) (hv : Value.okWide Tryz.prog W .any b0 t v) (h : DataW.Trod enc Tryz.prog W base spare held t v d p) :
    ∃ A c xs, v = .slice A (xs : List UInt8).length c ∧ HoldsB W v xs := by
  obtain ⟨a0, len0, cap0, rfl⟩ := okWide_slice ht hv
  obtain ⟨fuel, hf⟩ := h
  exact open_bytesF ht (v := .slice a0 len0 cap0) (by simpa [Value.cells] using hf)
end

end

section
open Go.RowKit
open Go.ChangeShapes Go.WideShapes Go.ChangeAt

theorem wf14_u8 {n : Int} (h : (Lit.int .u8 n).wf = true) : ∃ m : Nat, n = (m : Int) ∧ m < 256 := by
  have h1 : 0 ≤ n ∧ n ≤ IntKind.u8.max := by simpa [Lit.wf, IntKind.min, IntKind.bits, IntKind.signed] using h
  have h2 : IntKind.u8.max = 255 := by decide
  exact ⟨n.toNat, by omega, by omega⟩
theorem wf14_u16 {n : Int} (h : (Lit.int .u16 n).wf = true) : ∃ m : Nat, n = (m : Int) ∧ m < 65536 := by
  have h1 : 0 ≤ n ∧ n ≤ IntKind.u16.max := by simpa [Lit.wf, IntKind.min, IntKind.bits, IntKind.signed] using h
  have h2 : IntKind.u16.max = 65535 := by decide
  exact ⟨n.toNat, by omega, by omega⟩
theorem wf14_u32 {n : Int} (h : (Lit.int .u32 n).wf = true) : ∃ m : Nat, n = (m : Int) ∧ m < 4294967296 := by
  have h1 : 0 ≤ n ∧ n ≤ IntKind.u32.max := by simpa [Lit.wf, IntKind.min, IntKind.bits, IntKind.signed] using h
  have h2 : IntKind.u32.max = 4294967295 := by decide
  exact ⟨n.toNat, by omega, by omega⟩
theorem wf14_i32 {n : Int} (h : (Lit.int .i32 n).wf = true) : -2147483648 ≤ n ∧ n ≤ 2147483647 := by
  have h1 : -2147483648 ≤ n ∧ n ≤ IntKind.i32.max := by simpa [Lit.wf, IntKind.min, IntKind.bits, IntKind.signed] using h
  have h2 : IntKind.i32.max = 2147483647 := by decide
  exact ⟨h1.1, by omega⟩
theorem timC_of {c : CaV} (h : ∀ m ∈ marksX c.xs, m.t < 18446744073709551616) : TimC c.ca := fun x hx m hm => by
  obtain ⟨y, hy, rfl⟩ := List.mem_map.1 hx
  exact h m (List.mem_flatMap.2 ⟨y, hy, hm⟩)
theorem known14_T {w : World} (_ : CanOK w) (up : ∀ W, Below w.heap.size w W → CanOK W) : Known14 w := fun W hB => known14_w W (up W hB)

section
variable {H : Type} {enc : TypeId × Value → H} {P : Program} {w : World} {base : Nat} {spare : Nat → Bool} {held : Bool}
theorem trodAll_five {t0 t1 t2 t3 t4 : TypeId} {args : Array Value} {ds : List (DataW H)} {ps : List MemPlace} (h : DataW.TrodAll enc P w base spare held [t0, t1, t2, t3, t4] args.toList ds ps) :
    ∃ v0 v1 v2 v3 v4 d0 d1 d2 d3 d4 p0 p1 p2 p3 p4, args = #[v0, v1, v2, v3, v4] ∧ ds = [d0, d1, d2, d3, d4] ∧ ps = p0 ++ (p1 ++ (p2 ++ (p3 ++ p4))) ∧
      DataW.Trod enc P w base spare held t0 v0 d0 p0 ∧ DataW.Trod enc P w base spare held t1 v1 d1 p1 ∧ DataW.Trod enc P w base spare held t2 v2 d2 p2 ∧ DataW.Trod enc P w base spare held t3 v3 d3 p3 ∧ DataW.Trod enc P w base spare held t4 v4 d4 p4 := by
  obtain ⟨v0, r0, d0, e0, p0, q0, ha, rfl, rfl, h0, g0⟩ := trodAll_cons h
  obtain ⟨v1, r1, d1, e1, p1, q1, rfl, rfl, rfl, h1, g1⟩ := trodAll_cons g0
  obtain ⟨v2, r2, d2, e2, p2, q2, rfl, rfl, rfl, h2, g2⟩ := trodAll_cons g1
  obtain ⟨v3, r3, d3, e3, p3, q3, rfl, rfl, rfl, h3, g3⟩ := trodAll_cons g2
  obtain ⟨v4, r4, d4, e4, p4, q4, rfl, rfl, rfl, h4, g4⟩ := trodAll_cons g3
  obtain ⟨rfl, rfl, rfl⟩ := trodAll_nil g4
  exact ⟨v0, v1, v2, v3, v4, d0, d1, d2, d3, d4, p0, p1, p2, p3, p4, by cases args; simp_all, rfl, by simp, h0, h1, h2, h3, h4⟩
theorem trodAll_mk5 {t0 t1 t2 t3 t4 : TypeId} {v0 v1 v2 v3 v4 : Value} {d0 d1 d2 d3 d4 : DataW H} {p0 p1 p2 p3 p4 : List MemPlace} (h0 : DataW.Trod enc P w base spare held t0 v0 d0 p0) (h1 : DataW.Trod enc P w base spare held t1 v1 d1 p1)
    (h2 : DataW.Trod enc P w base spare held t2 v2 d2 p2) (h3 : DataW.Trod enc P w base spare held t3 v3 d3 p3) (h4 : DataW.Trod enc P w base spare held t4 v4 d4 p4) :
    DataW.TrodAll enc P w base spare held [t0, t1, t2, t3, t4] [v0, v1, v2, v3, v4] [d0, d1, d2, d3, d4] (p0 ++ (p1 ++ (p2 ++ (p3 ++ p4)))) :=
  ⟨p0, _, h0, trodAll_mk4 h1 h2 h3 h4, rfl⟩
end

end

section
open Go.RowKit

theorem Wr.old {W : World} {g : Nat} {v : Value} {xs : List UInt8} (h : Wr W g v xs) {k : Nat} (hk : W.heap.size ≤ k) : ¬ (k = g ∨ v.ownBlock = some k) := by
  rintro (rfl | e)
  · have := h.lt; omega
  · rcases h.2.1.2 with ⟨rfl, _⟩ | ⟨r, cap, cur, rfl, _, hg, _⟩
    · cases e
    · have := (Array.getElem?_eq_some_iff.1 hg).1
      injection e with e
      have e2 : r = k := e
      omega
/-- What lies in w0 is none of the writer's. -/
structure FarW (w0 : World) (g : Nat) (v : Value) (w : World) : Prop where
  bel : Below w0.heap.size w0 w
  g : w0.heap.size ≤ g
  v : ∀ k, v.ownBlock = some k → w0.heap.size ≤ k
theorem FarW.next {w0 w w' : World} {g : Nat} {v : Value} (h : FarW w0 g v w) (hb : Below w.heap.size w w') : FarW w0 g v w' := ⟨below_trans h.bel hb, h.g, h.v⟩
/-- A world in which a writer has gone on. -/
theorem Wrote.on {w w' : World} {g : Nat} {v : Value} {zs : List UInt8} (hw : Wrote w g v zs w') :
    ∃ v', Hid (Wr w' g v' zs) ∧ Hid (∀ ys w'', Wrote w' g v' ys w'' → Wrote w g v ys w'') ∧ Hid (∀ b, ¬ (b = g ∨ v.ownBlock = some b) → b < w.heap.size → w'.heap[b]? = w.heap[b]?) ∧ Hid (∀ w0, FarW w0 g v w → FarW w0 g v' w') := by
  obtain ⟨v', h1, h2, h3⟩ := hw
  refine ⟨v', h1, fun ys w'' h => h.next h2 h3, fun b hb hl => h3.block b hl hb, fun w0 hF => ⟨⟨h3.os.trans hF.bel.os, h3.tape.trans hF.bel.tape, h3.output.trans hF.bel.output, Nat.le_trans hF.bel.size h3.size, fun k hk => ?_⟩, hF.g, ?_⟩⟩
  · refine (h3.block k (Nat.lt_of_lt_of_le hk hF.bel.size) ?_).trans (hF.bel.block k hk)
    rintro (rfl | e)
    · have := hF.g; omega
    · have := hF.v k e; omega
  · intro k hk
    rcases h2 with e | ⟨j, e, hj⟩
    · exact hF.v k (e ▸ hk)
    · rw [e] at hk; injection hk with hk; have := hF.bel.size; omega

theorem cellW {W : World} {b i : Nat} {cs : Array Value} {t : TypeId} (h : W.heap[b]? = some (.cells cs t (0, 0))) : W.cell? ⟨b, i, none⟩ = cs[i]? := by simp [World.cell?, h]
theorem byZ_nat {n : Nat} (h : n < 18446744073709551616) : byZ (n : Int) = enc n := by unfold byZ; rw [Int.emod_eq_of_lt (by omega) (by omega), Int.toNat_natCast]

set_option maxHeartbeats 1000000 in
theorem cnNum (g : Nat) (v : Value) (xs : List UInt8) (z : Int) (w : World) (h : Wr w g v xs) (hm : xs.length ≤ 800000) :
    Calls Tryz.prog 56 #[.pointer (some ⟨g, 0, none⟩), .int .i64 z] w fun e w' => e = .returned (.tuple #[]) ∧ Wrote w g v (xs ++ byZ z) w' := by
  have hn := numAt g v xs (z % 18446744073709551616).toNat w h (by omega) (by omega)
  have e1 : (((z % 18446744073709551616).toNat : Nat) : Int) = IntKind.u64.wrap z := by rw [IntKind.wrap_u64]; omega
  rw [e1] at hn
  have HN := Lib.hid hn
  clear h e1 hn
  go_enter Tryz.func56, Tryz.ntmps56
  go_wp2_with fail
  refine HN.out.mono ?_
  rintro e w1 ⟨rfl, h1⟩
  have H1 := Lib.hid h1
  clear h1
  go_wp2
  exact ⟨rfl, .tuple #[], results_none (by kernel_rfl) _ _ _, rfl, H1.out⟩

set_option maxHeartbeats 1000000 in
theorem cnDot (g : Nat) (v : Value) (xs : List UInt8) (r c : Int) (w : World) (h : Wr w g v xs) (hm : xs.length ≤ 700000) :
    Calls Tryz.prog 59 #[.pointer (some ⟨g, 0, none⟩), .agg #[.int .i64 r, .int .i64 c]] w fun e w' => e = .returned (.tuple #[]) ∧ Wrote w g v (xs ++ byD (r, c)) w' := by
  have hal : Below w.heap.size w (w.alloc (.cells #[.int .i64 r, .int .i64 c] 51)) := (Below.refl _ _).alloc (Nat.le_refl _) _
  have hnew : (w.alloc (.cells #[.int .i64 r, .int .i64 c] 51)).heap[w.heap.size]? = some (.cells #[.int .i64 r, .int .i64 c] 51 (0, 0)) := heap_alloc_new w _
  have q0 : (w.alloc (.cells #[.int .i64 r, .int .i64 c] 51)).cell? ⟨w.heap.size, 0, none⟩ = some (.int .i64 r) := cellW hnew
  have HQ := Lib.hid (fun (W : World) (h : W.heap[w.heap.size]? = (w.alloc (.cells #[.int .i64 r, .int .i64 c] 51)).heap[w.heap.size]?) => show W.cell? ⟨w.heap.size, 1, none⟩ = some (.int .i64 c) from cellW (h.trans hnew))
  have HS := Lib.hid (h.old (Nat.le_refl _))
  have HA := Lib.hid hal
  have HN := Lib.hid (cnNum g v xs r _ (h.below hal) (by omega))
  have HL := Lib.hid (by have := (Array.getElem?_eq_some_iff.1 hnew).1; exact this : w.heap.size < (w.alloc (.cells #[.int .i64 r, .int .i64 c] 51)).heap.size)
  clear h hal hnew
  go_enter Tryz.func59, Tryz.ntmps59
  go_wp2_with fail
  refine HN.out.mono ?_
  rintro e w1 ⟨rfl, h1⟩
  obtain ⟨v1, W1, N1, B1, _⟩ := h1.on
  have q1 := HQ.out w1 (B1.out _ HS.out HL.out)
  have HM := Lib.hid (cnNum g v1 _ c w1 W1.out (by have := byZ_ten r; rw [List.length_append]; omega))
  clear h1 q0
  go_wp2_with fail
  refine HM.out.mono ?_
  rintro e w2 ⟨rfl, h2⟩
  have H2 := Lib.hid (Wrote.before HA.out (N1.out _ _ h2))
  clear h2
  go_wp2
  exact ⟨rfl, .tuple #[], results_none (by kernel_rfl) _ _ _, rfl, by rw [byD, ← List.append_assoc]; exact H2.out⟩

set_option maxHeartbeats 2000000 in
theorem cnDots (g : Nat) (v : Value) (xs : List UInt8) (A : Option Addr) (l : List (Int × Int)) (cap : Nat) (w0 w : World) (h : Wr w g v xs) (hF : FarW w0 g v w) (hx : DotsAt w0 A l) (hm : xs.length + (byL byD l).length ≤ 700000) (hl : l.length ≤ 100000) :
    Calls Tryz.prog 39 #[.pointer (some ⟨g, 0, none⟩), .slice A l.length cap] w fun e w' => e = .returned (.tuple #[]) ∧ Wrote w g v (xs ++ byL byD l) w' := by
  have HX := Lib.hid hx
  have HF := Lib.hid hF
  have HM := Lib.hid hm
  have HN := Lib.hid (cnNum g v xs (l.length : Int) w h (by omega))
  clear hx hF hm h
  go_enter Tryz.func39, Tryz.ntmps39
  go_wp2_with fail
  refine HN.out.mono ?_
  rintro e w1 ⟨rfl, h1⟩
  have H1 := Lib.hid (show Wrote w g v (xs ++ (enc l.length ++ (l.take 0).flatMap byD)) w1 from by rw [byZ_nat (by omega)] at h1; simpa using h1)
  clear h1 HN
  go_wp2_with fail
  go_loopw [12] (fun i wr => ∃ k : Nat, k ≤ l.length ∧ i = .int .i64 k ∧ Hid (Wrote w g v (xs ++ (enc l.length ++ (l.take k).flatMap byD)) wr)) (fun i _ => l.length - (intOf i).toNat)
  case atStart => exact ⟨0, by omega, rfl, H1⟩
  case round =>
    clear H1
    obtain ⟨k, hk, rfl, HW⟩ := hrel
    by_cases hlt : k < l.length
    · have i0 : (k : Int) < (l.length : Int) := by omega
      obtain ⟨b, off, r, c, rfl, hbl, hx1, hc0, hc1⟩ := HX.out.dot (j := k) hlt
      obtain ⟨v1, W1, N1, _, F1⟩ := HW.out.on
      have F2 := F1.out _ HF.out
      have c0 := (F2.bel.cell (p := ⟨b, off + k * 2, none⟩) hbl).trans hc0
      have c1 := (F2.bel.cell (p := ⟨b, off + k * 2 + 1, none⟩) hbl).trans hc1
      have HSTEP := Lib.hid (show xs ++ (enc l.length ++ (l.take (k + 1)).flatMap byD) = (xs ++ (enc l.length ++ (l.take k).flatMap byD)) ++ byD (r, c) from by rw [take_snoc hx1, List.flatMap_append]; simp)
      have hle : (xs ++ (enc l.length ++ (l.take k).flatMap byD)).length ≤ 700000 := by
        have h1 := HM.out
        have h2 : ((l.take k).flatMap byD).length ≤ (l.flatMap byD).length := by
          conv => rhs; rw [← List.take_append_drop k l, List.flatMap_append, List.length_append]
          omega
        unfold byL at h1
        rw [List.length_append] at h1 ⊢
        rw [List.length_append]
        omega
      have HD := Lib.hid (cnDot g v1 _ r c _ (W1.out.below ((Below.refl _ _).alloc (Nat.le_refl _) (.cells #[.int .i64 r, .int .i64 c] 51))) hle)
      have HAL := Lib.hid ((Below.refl wr.heap.size wr).alloc (Nat.le_refl _) (.cells #[.int .i64 r, .int .i64 c] 51))
      have hbw : b < wr.heap.size := Nat.lt_of_lt_of_le hbl F2.bel.size
      clear hc0 hc1 hx1 F2 hle hbl
      go_wp2_with fail
      refine HD.out.mono ?_
      rintro e w2 ⟨rfl, h2⟩
      have H2 := Lib.hid (N1.out _ _ (Wrote.before HAL.out h2))
      clear h2 c0 c1
      go_wp2_with fail
      go_roundw
      case rel => exact ⟨k + 1, by omega, by go_num, by rw [HSTEP.out]; exact H2⟩
      case measure => simp [intOf]; omega
    · obtain rfl : k = l.length := by omega
      have i0 : ¬ (l.length : Int) < (l.length : Int) := by omega
      have HE := Lib.hid (show Wrote w g v (xs ++ byL byD l) wr from by have := HW.out; rw [List.take_length] at this; exact this)
      clear hlt hk
      go_wp2_with fail
      exact ⟨rfl, .tuple #[], results_none (by kernel_rfl) _ _ _, rfl, HE.out⟩

end

end Go.Proofs.YtgdnibahiomneaaGreat
