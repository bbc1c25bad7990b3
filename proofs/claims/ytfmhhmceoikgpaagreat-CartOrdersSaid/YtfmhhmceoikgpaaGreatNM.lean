/- Several texts in one: ItmO, CarO. -/
import Derived.Test.YtfmhhmceoikgpaaGreatMK
import Derived.ChangeMaps
import Derived.ChangeSlices
import Derived.Deep.SlicePairs
import Derived.Lib.SmallJoins
import Derived.ProofKit
import Derived.OpenShut
import Derived.ChangeOld
import Derived.Below
import Derived.Carry
import Derived.Test.YtfmhhmceoikgpaaGreatNA
import Derived.Test.YtfmhhmceoikgpaaGreatMT
namespace Go.Proofs.YtfmhhmceoikgpaaGreat

section
open Go.RowKit
open Go.ChangeShapes Go.WideShapes Go.ChangeAt

set_option maxRecDepth 1000000

theorem ownP : ownKnob Tryz.prog.godebug = none := by kernel_rfl
theorem laidP : laidOutB Tryz.prog = true := by kernel_rfl

theorem wfU {n : Int} (h : (Lit.int .u64 n).wf = true) : ∃ m : Nat, n = (m : Int) ∧ m < 18446744073709551616 := by
  have h1 : 0 ≤ n ∧ n ≤ IntKind.u64.max := by simpa [Lit.wf, IntKind.min, IntKind.bits, IntKind.signed] using h
  have h2 : IntKind.u64.max = 18446744073709551615 := by decide
  exact ⟨n.toNat, by omega, by omega⟩
theorem block_of_cell {w : World} {a : Addr} {v : Value} (h : w.cell? a = some v) : a.block < w.heap.size := by
  rcases Nat.lt_or_ge a.block w.heap.size with hlt | hge
  · exact hlt
  · simp [World.cell?, Array.getElem?_eq_none hge] at h

section
variable {H : Type} {enc : TypeId × Value → H} {W : World} {base b0 : Nat} {spare : Nat → Bool} {held : Bool} {v : Value} {d : DataW H} {p : List MemPlace} {t : TypeId}
/-- The four cells of a mark. -/
theorem open_markC {fuel : Nat} {x : DataW H × List MemPlace} {v0 v1 v2 v3 : Value} (h : DataW.trod enc Tryz.prog W base spare held fuel 65 [v0, v1, v2, v3] = some x) :
    ∃ m : Mk, v0 = .int .i64 m.r ∧ v1 = .int .i64 m.c ∧ v2 = .int .i64 m.q ∧ v3 = .int .u64 (m.t : Int) ∧ m.t < 18446744073709551616 := by
  obtain ⟨xs, k, hk, _, _, hxl, hfd⟩ := DataW.trod_struct Tryz.underlying65 h
  match xs, hxl with
  | [y0, y1, y2], _ =>
    have g0 := hfd 0 _ rfl
    have g1 := hfd 1 _ rfl
    have g2 := hfd 2 _ rfl
    have c0 : Tryz.prog.cellsOf 63 = 2 := by kernel_rfl
    have c1 : Tryz.prog.cellsOf 3 = 1 := by kernel_rfl
    have c2 : Tryz.prog.cellsOf 46 = 1 := by kernel_rfl
    simp [c0, c1, c2] at g0 g1 g2
    obtain ⟨zs, k2, hk2, _, _, hzl, hgd⟩ := DataW.trod_struct Tryz.underlying63 g0
    match zs, hzl with
    | [z0, z1], _ =>
      have q0 := hgd 0 _ rfl
      have q1 := hgd 1 _ rfl
      simp [c1] at q0 q1
      obtain ⟨r, hr, _, _⟩ := DataW.trod_int Tryz.underlying3 q0
      obtain ⟨c, hc, _, _⟩ := DataW.trod_int Tryz.underlying3 q1
      obtain ⟨q, hq, _, _⟩ := DataW.trod_int Tryz.underlying3 g1
      obtain ⟨t, ht, _, wt⟩ := DataW.trod_int Tryz.underlying46 g2
      injection hr with hr
      injection hc with hc
      injection hq with hq
      injection ht with ht
      obtain ⟨n, rfl, hn⟩ := wfU wt
      exact ⟨⟨r, c, q, n⟩, hr, hc, hq, ht, hn⟩
theorem open_marksF {fuel : Nat} {x : DataW H × List MemPlace} (ht : Tryz.prog.underlying t = some (.slice 65)) (hf : DataW.trod enc Tryz.prog W base spare held fuel t [v] = some x) :
    ∃ X cx, ∃ ms : List Mk, v = .slice X ms.length cx ∧ MarksAt W X ms ∧ ms.length ≤ cx ∧ cx ≤ maxLen ∧ ∀ m ∈ ms, m.t < 18446744073709551616 := by
  rcases Go.Deep.open_slice ht hf with ⟨hcs, _⟩ | ⟨a, len, cap, m, n, D, Pl, hcs, hb, hl, hm, hmm, _, hx⟩
  · obtain rfl : v = .slice none 0 0 := by simpa using hcs
    exact ⟨none, 0, [], rfl, SlAt.nil, by simp, by simp [maxLen], fun p hp => by cases hp⟩
  · obtain rfl : v = .slice (some a) len cap := by simpa using hcs
    have hlm : len ≤ m := by rw [hmm]; split <;> omega
    have each : ∀ i, ∃ p : Mk, i < len → W.cell? (a.add (i * 4)) = some (.int .i64 p.r) ∧ W.cell? (a.add (i * 4 + 1)) = some (.int .i64 p.c) ∧ W.cell? (a.add (i * 4 + 2)) = some (.int .i64 p.q) ∧ W.cell? (a.add (i * 4 + 3)) = some (.int .u64 (p.t : Int)) ∧ p.t < 18446744073709551616 := by
      intro i
      by_cases hi : i < len
      · obtain ⟨cs', h1, h2⟩ := hx i (by omega)
        rw [show Tryz.prog.cellsOf 65 = 4 from by kernel_rfl] at h1
        obtain ⟨_, hlen, hcell⟩ := World.cells?_some h1
        match cs', hlen with
        | [v0, v1, v2, v3], _ =>
          have e0 := hcell 0 (by omega)
          have e1 := hcell 1 (by omega)
          have e2 := hcell 2 (by omega)
          have e3 := hcell 3 (by omega)
          rw [Go.Deep.add_add] at e0 e1 e2 e3
          obtain ⟨q, q0, q1, q2, q3, hq⟩ := open_markC h2
          subst q0 q1 q2 q3
          exact ⟨q, fun _ => ⟨by simpa using e0, by simpa using e1, by simpa using e2, by simpa using e3, hq⟩⟩
      · exact ⟨Mk.zero, fun h => absurd h hi⟩
    obtain ⟨q, hq⟩ := Classical.axiomOfChoice each
    have hlen : ((List.range len).map q).length = len := by simp
    refine ⟨some a, cap, (List.range len).map q, by rw [hlen], ?_, by rw [hlen]; exact hl, hm, ?_⟩
    · intro hpos
      rw [hlen] at hpos
      obtain ⟨b, off, spot⟩ := a
      have hspot : spot = none := by simpa [Addr.add] using World.cell?_spot (hq 0 hpos).1
      subst hspot
      refine ⟨b, off, rfl, block_of_cell (hq 0 hpos).1, ?_⟩
      intro j x hjx i u hiu
      have hj : j < len := by
        rcases Nat.lt_or_ge j len with h | h
        · exact h
        · rw [List.getElem?_eq_none (by rw [hlen]; exact h)] at hjx; cases hjx
      have hxq : x = q j := by
        rw [List.getElem?_map, List.getElem?_range hj] at hjx
        exact (Option.some.inj hjx).symm
      subst hxq
      obtain ⟨g0, g1, g2, g3, _⟩ := hq j hj
      rw [add_plain] at g0 g1 g2 g3
      match i, hiu with
      | 0, hiu =>
        have e : Value.int .i64 (q j).r = u := Option.some.inj hiu
        rw [← e, ← g0]; rfl
      | 1, hiu =>
        have e : Value.int .i64 (q j).c = u := Option.some.inj hiu
        rw [← e, ← g1]; rfl
      | 2, hiu =>
        have e : Value.int .i64 (q j).q = u := Option.some.inj hiu
        rw [← e, ← g2]; rfl
      | 3, hiu =>
        have e : Value.int .u64 ((q j).t : Int) = u := Option.some.inj hiu
        rw [← e, ← g3]; rfl
      | i + 4, hiu => exact absurd hiu (by simp [encM])
    · intro p hp
      obtain ⟨j, hj, rfl⟩ := List.mem_map.1 hp
      obtain ⟨_, _, _, _, g4⟩ := hq j (List.mem_range.1 hj)
      exact g4
/-- The two cells of an item. -/
theorem open_itemC {fuel : Nat} {x : DataW H × List MemPlace} {v0 v1 : Value} (h : DataW.trod enc Tryz.prog W base spare held fuel 56 [v0, v1] = some x) :
    ∃ y : ItV, v0 = .string ⟨y.nm.toArray⟩ ∧ v1 = .slice y.A y.ms.length y.c ∧ ItOK W y ∧ ∀ m ∈ y.ms, m.t < 18446744073709551616 := by
  obtain ⟨xs, k, hk, _, _, hxl, hfd⟩ := DataW.trod_struct Tryz.underlying56 h
  match xs, hxl with
  | [y0, y1], _ =>
    have g0 := hfd 0 _ rfl
    have g1 := hfd 1 _ rfl
    have c0 : Tryz.prog.cellsOf 9 = 1 := by kernel_rfl
    have c1 : Tryz.prog.cellsOf 54 = 1 := by kernel_rfl
    simp [c0, c1] at g0 g1
    obtain ⟨s, hs, _, _⟩ := DataW.trod_string Tryz.underlying9 g0
    obtain ⟨A, c, ms, hv, hat, h1, h2, h3⟩ := open_marksF Tryz.underlying54 g1
    injection hs with hs
    refine ⟨⟨s.data.toList, A, c, ms⟩, ?_, hv, ⟨hat, h1, h2⟩, h3⟩
    rw [hs]
theorem open_itemsF {fuel : Nat} {x : DataW H × List MemPlace} (ht : Tryz.prog.underlying t = some (.slice 56)) (hf : DataW.trod enc Tryz.prog W base spare held fuel t [v] = some x) :
    ∃ xs : List ItV, HoldsX W v xs ∧ ∀ y ∈ xs, ∀ m ∈ y.ms, m.t < 18446744073709551616 := by
  rcases Go.Deep.open_slice ht hf with ⟨hcs, _⟩ | ⟨a, len, cap, m, n, D, Pl, hcs, hb, hl, hm, hmm, _, hx⟩
  · obtain rfl : v = .slice none 0 0 := by simpa using hcs
    exact ⟨[], HoldsX.nil _, fun p hp => by cases hp⟩
  · obtain rfl : v = .slice (some a) len cap := by simpa using hcs
    have hlm : len ≤ m := by rw [hmm]; split <;> omega
    have each : ∀ i, ∃ y : ItV, i < len → W.cell? (a.add (i * 2)) = some (.string ⟨y.nm.toArray⟩) ∧ W.cell? (a.add (i * 2 + 1)) = some (.slice y.A y.ms.length y.c) ∧ ItOK W y ∧ ∀ m ∈ y.ms, m.t < 18446744073709551616 := by
      intro i
      by_cases hi : i < len
      · obtain ⟨cs', h1, h2⟩ := hx i (by omega)
        rw [show Tryz.prog.cellsOf 56 = 2 from by kernel_rfl] at h1
        obtain ⟨_, hlen, hcell⟩ := World.cells?_some h1
        match cs', hlen with
        | [v0, v1], _ =>
          have e0 := hcell 0 (by omega)
          have e1 := hcell 1 (by omega)
          rw [Go.Deep.add_add] at e0 e1
          obtain ⟨y, q0, q1, hok, hq⟩ := open_itemC h2
          subst q0 q1
          exact ⟨y, fun _ => ⟨by simpa using e0, by simpa using e1, hok, hq⟩⟩
      · exact ⟨⟨[], none, 0, []⟩, fun h => absurd h hi⟩
    obtain ⟨q, hq⟩ := Classical.axiomOfChoice each
    have hlen : ((List.range len).map q).length = len := by simp
    refine ⟨(List.range len).map q, ⟨some a, cap, by rw [hlen], ⟨?_, ?_⟩, by rw [hlen]; exact hl, hm⟩, ?_⟩
    · intro hpos
      rw [hlen] at hpos
      obtain ⟨b, off, spot⟩ := a
      have hspot : spot = none := by simpa [Addr.add] using World.cell?_spot (hq 0 hpos).1
      subst hspot
      refine ⟨b, off, rfl, block_of_cell (hq 0 hpos).1, ?_⟩
      intro j x hjx i u hiu
      have hj : j < len := by
        rcases Nat.lt_or_ge j len with h | h
        · exact h
        · rw [List.getElem?_eq_none (by rw [hlen]; exact h)] at hjx; cases hjx
      have hxq : x = q j := by
        rw [List.getElem?_map, List.getElem?_range hj] at hjx
        exact (Option.some.inj hjx).symm
      subst hxq
      obtain ⟨g0, g1, _⟩ := hq j hj
      rw [add_plain] at g0 g1
      match i, hiu with
      | 0, hiu =>
        have e : Value.string ⟨(q j).nm.toArray⟩ = u := Option.some.inj hiu
        rw [← e, ← g0]; rfl
      | 1, hiu =>
        have e : Value.slice (q j).A (q j).ms.length (q j).c = u := Option.some.inj hiu
        rw [← e, ← g1]; rfl
      | i + 2, hiu => exact absurd hiu (by simp [encIt])
    · intro y hy
      obtain ⟨j, hj, rfl⟩ := List.mem_map.1 hy
      exact (hq j (List.mem_range.1 hj)).2.2.1
    · intro y hy
      obtain ⟨j, hj, rfl⟩ := List.mem_map.1 hy
      exact (hq j (List.mem_range.1 hj)).2.2.2
end
theorem str_list9 (s : ByteArray) : s = ⟨s.data.toList.toArray⟩ := by cases s; simp

end

section
open Go.RowKit
open Go.ChangeShapes Go.WideShapes Go.ChangeAt

set_option maxRecDepth 1000000

section
variable {H : Type} {enc : TypeId × Value → H} {W : World} {base b0 : Nat} {spare : Nat → Bool} {held : Bool} {v : Value} {d : DataW H} {p : List MemPlace} {t : TypeId}
theorem wf64 {n : Int} (h : (Lit.int .i64 n).wf = true) : -9223372036854775808 ≤ n ∧ n ≤ 9223372036854775807 := by
  simpa [Lit.wf, IntKind.min, IntKind.bits, IntKind.signed] using h

/-- A slice of dots, whatever its own type, by the reading of its one cell. -/
theorem open_dotsF {fuel : Nat} {x : DataW H × List MemPlace} (ht : Tryz.prog.underlying t = some (.slice 63)) (hf : DataW.trod enc Tryz.prog W base spare held fuel t [v] = some x) :
    ∃ A c, ∃ zs : List WD, v = .slice A (zs.map (·.1)).length c ∧ Holds W v (zs.map (·.1)) := by
  rcases Go.Deep.open_slice_pairs ht Tryz.underlying63 (by kernel_rfl) rfl rfl (by kernel_rfl) (by kernel_rfl) hf with ⟨hcs, _⟩ | ⟨a, len0, cap0, m, n, V0, V1, D0, D1, P0, P1, hcs, _, hl, hm, hmm, _, hx⟩
  · obtain rfl : v = .slice none 0 0 := by simpa using hcs
    exact ⟨none, 0, [], rfl, Holds.nil _⟩
  · obtain rfl : v = .slice (some a) len0 cap0 := by simpa using hcs
    have hlm : len0 ≤ m := by rw [hmm]; split <;> omega
    have each : ∀ i, ∃ q : WD, i < len0 → W.cell? (a.add (i * 2)) = some (.int .i64 q.1.1) ∧ W.cell? (a.add (i * 2 + 1)) = some (.int .i64 q.1.2) := by
      intro i
      by_cases hi : i < len0
      · obtain ⟨h0, h1, h2, h3⟩ := hx i (by omega)
        obtain ⟨r, hr, _, wr⟩ := DataW.trod_int Tryz.underlying3 h2
        obtain ⟨c, hc, _, wc⟩ := DataW.trod_int Tryz.underlying3 h3
        injection hr with hr
        injection hc with hc
        exact ⟨⟨(r, c), (wf64 wr).1, (wf64 wr).2, (wf64 wc).1, (wf64 wc).2⟩, fun _ => ⟨by rw [h0, hr], by rw [h1, hc]⟩⟩
      · exact ⟨default, fun h => absurd h hi⟩
    obtain ⟨q, hq⟩ := Classical.axiomOfChoice each
    have hlen : (((List.range len0).map q).map (·.1)).length = len0 := by simp
    refine ⟨some a, cap0, (List.range len0).map q, by rw [hlen], some a, cap0, by rw [hlen], ?_, by rw [hlen]; exact hl, hm⟩
    intro hpos
    rw [hlen] at hpos
    obtain ⟨b, off, spot⟩ := a
    have hspot : spot = none := by simpa [Addr.add] using World.cell?_spot (hq 0 hpos).1
    subst hspot
    refine ⟨b, off, rfl, block_of_cell (hq 0 hpos).1, ?_⟩
    intro j x hjx i u hiu
    have hj : j < len0 := by
      rcases Nat.lt_or_ge j len0 with h | h
      · exact h
      · rw [List.getElem?_eq_none (by rw [hlen]; exact h)] at hjx; cases hjx
    have hxq : x = (q j).1 := by
      rw [List.getElem?_map, List.getElem?_map, List.getElem?_range hj] at hjx
      exact (Option.some.inj hjx).symm
    subst hxq
    obtain ⟨g0, g1⟩ := hq j hj
    rw [add_plain] at g0 g1
    match i, hiu with
    | 0, hiu =>
      have e : Value.int .i64 (q j).1.1 = u := Option.some.inj hiu
      rw [← e, ← g0]; rfl
    | 1, hiu =>
      have e : Value.int .i64 (q j).1.2 = u := Option.some.inj hiu
      rw [← e, ← g1]; rfl
    | i + 2, hiu => exact absurd hiu (by simp [encD])

/-- A cart that comes in, opened. -/
theorem open_cart (hv : Value.okWide Tryz.prog W .any b0 28 v) (h : DataW.Trod enc Tryz.prog W base spare held 28 v d p) :
    ∃ c : CaV, v = mkC c ∧ CaOK W c ∧ ∀ m ∈ marksX c.xs, m.t < 18446744073709551616 := by
  obtain ⟨cs, rfl, hsz⟩ := okWide_struct Tryz.underlying28 hv
  have hC : Tryz.prog.cellsOf 28 = 3 := by kernel_rfl
  rw [hC] at hsz
  obtain ⟨fuel, hf⟩ := h
  obtain ⟨l⟩ := cs
  match l, hsz with
  | [v0, v1, v2], _ =>
    have hf' : DataW.trod enc Tryz.prog W base spare held fuel 28 [v0, v1, v2] = some (d, p) := by simpa [Value.cells] using hf
    obtain ⟨xs, k, hk, _, _, hxl, hfd⟩ := DataW.trod_struct Tryz.underlying28 hf'
    match xs, hxl with
    | [y0, y1], _ =>
      have g0 := hfd 0 _ rfl
      have g1 := hfd 1 _ rfl
      have c0 : Tryz.prog.cellsOf 25 = 2 := by kernel_rfl
      have c1 : Tryz.prog.cellsOf 26 = 1 := by kernel_rfl
      have c2 : Tryz.prog.cellsOf 23 = 1 := by kernel_rfl
      have c3 : Tryz.prog.cellsOf 22 = 1 := by kernel_rfl
      simp [c0, c1] at g0 g1
      obtain ⟨zs, k2, hk2, _, _, hzl, hgd⟩ := DataW.trod_struct Tryz.underlying25 g0
      match zs, hzl with
      | [z0, z1], _ =>
        have q0 := hgd 0 _ rfl
        have q1 := hgd 1 _ rfl
        simp [c2, c3] at q0 q1
        obtain ⟨A, a, us, rfl, hA⟩ := open_dotsF Tryz.underlying23 q0
        obtain ⟨B, b, ls, rfl, hB⟩ := open_dotsF Tryz.underlying22 q1
        obtain ⟨ys, hY, ht⟩ := open_itemsF Tryz.underlying26 g1
        obtain ⟨C, c, rfl, hc⟩ := hY
        refine ⟨⟨A, a, us.map (·.1), B, b, ls.map (·.1), C, c, ys⟩, rfl, ⟨hA, hB, C, c, rfl, hc⟩, fun m hm => ?_⟩
        obtain ⟨y, hy, hym⟩ := List.mem_flatMap.1 hm
        exact ht y hy m hym
end

end

end Go.Proofs.YtfmhhmceoikgpaaGreat
