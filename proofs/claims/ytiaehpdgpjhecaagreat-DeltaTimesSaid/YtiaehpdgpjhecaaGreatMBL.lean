/- Several texts in one: ItmO, CarO, DelU, DelV. -/
import Derived.Test.YtiaehpdgpjhecaaGreatMAK
import Derived.ChangeMaps
import Derived.ChangeSlices
import Derived.Deep.SlicePairs
import Derived.Lib.SmallJoins
import Derived.ProofKit
import Derived.OpenShut
import Derived.ChangeOld
import Derived.Below
import Derived.Carry
import Derived.Test.YtiaehpdgpjhecaaGreatMAR
import Derived.Test.YtiaehpdgpjhecaaGreatMAN
import Derived.Test.YtiaehpdgpjhecaaGreatMBG
import Derived.Test.YtiaehpdgpjhecaaGreatMBJ
import Derived.Test.YtiaehpdgpjhecaaGreatMBK
import Derived.Test.YtiaehpdgpjhecaaGreatMBF
import Derived.Test.YtiaehpdgpjhecaaGreatMBI
namespace Go.Proofs.YtiaehpdgpjhecaaGreat

section
open Go.RowKit
open Go.ChangeShapes Go.WideShapes Go.ChangeAt

set_option maxRecDepth 1000000

theorem ownP : ownKnob Tryz.prog.godebug = none := by kernel_rfl
theorem laidP : laidOutB Tryz.prog = true := by kernel_rfl

theorem wfU {n : Int} (h : (Lit.int .u64 n).wf = true) : ∃ m : Nat, n = (m : Int) ∧ m < 18446744073709551616 := by
  have h1 : 0 ≤ n ∧ n ≤ IntKind.u64.max := by simpa [Lit.wf, IntKind.min, IntKind.bits, IntKind.signed] using h
  have h2 : IntKind.u64.max = 18446744073709551615 := by decide
  exact ⟨n.toNat, by omega, by omega⟩
theorem block_of_cell {w : World} {a : Addr} {v : Value} (h : w.cell? a = some v) : a.block < w.heap.size := by
  rcases Nat.lt_or_ge a.block w.heap.size with hlt | hge
  · exact hlt
  · simp [World.cell?, Array.getElem?_eq_none hge] at h

section
variable {H : Type} {enc : TypeId × Value → H} {W : World} {base b0 : Nat} {spare : Nat → Bool} {held : Bool} {v : Value} {d : DataW H} {p : List MemPlace} {t : TypeId}
/-- The four cells of a mark. -/
theorem open_markC {fuel : Nat} {x : DataW H × List MemPlace} {v0 v1 v2 v3 : Value} (h : DataW.trod enc Tryz.prog W base spare held fuel 55 [v0, v1, v2, v3] = some x) :
    ∃ m : Mk, v0 = .int .i64 m.r ∧ v1 = .int .i64 m.c ∧ v2 = .int .i64 m.q ∧ v3 = .int .u64 (m.t : Int) ∧ m.t < 18446744073709551616 := by
  obtain ⟨xs, k, hk, _, _, hxl, hfd⟩ := DataW.trod_struct Tryz.underlying55 h
  match xs, hxl with
  | [y0, y1, y2], _ =>
    have g0 := hfd 0 _ rfl
    have g1 := hfd 1 _ rfl
    have g2 := hfd 2 _ rfl
    have c0 : Tryz.prog.cellsOf 30 = 2 := by kernel_rfl
    have c1 : Tryz.prog.cellsOf 3 = 1 := by kernel_rfl
    have c2 : Tryz.prog.cellsOf 53 = 1 := by kernel_rfl
    simp [c0, c1, c2] at g0 g1 g2
    obtain ⟨zs, k2, hk2, _, _, hzl, hgd⟩ := DataW.trod_struct Tryz.underlying30 g0
    match zs, hzl with
    | [z0, z1], _ =>
      have q0 := hgd 0 _ rfl
      have q1 := hgd 1 _ rfl
      simp [c1] at q0 q1
      obtain ⟨r, hr, _, _⟩ := DataW.trod_int Tryz.underlying3 q0
      obtain ⟨c, hc, _, _⟩ := DataW.trod_int Tryz.underlying3 q1
      obtain ⟨q, hq, _, _⟩ := DataW.trod_int Tryz.underlying3 g1
      obtain ⟨t, ht, _, wt⟩ := DataW.trod_int Tryz.underlying53 g2
      injection hr with hr
      injection hc with hc
      injection hq with hq
      injection ht with ht
      obtain ⟨n, rfl, hn⟩ := wfU wt
      exact ⟨⟨r, c, q, n⟩, hr, hc, hq, ht, hn⟩
theorem open_marksF {fuel : Nat} {x : DataW H × List MemPlace} (ht : Tryz.prog.underlying t = some (.slice 55)) (hf : DataW.trod enc Tryz.prog W base spare held fuel t [v] = some x) :
    ∃ X cx, ∃ ms : List Mk, v = .slice X ms.length cx ∧ MarksAt W X ms ∧ ms.length ≤ cx ∧ cx ≤ maxLen ∧ ∀ m ∈ ms, m.t < 18446744073709551616 := by
  rcases Go.Deep.open_slice ht hf with ⟨hcs, _⟩ | ⟨a, len, cap, m, n, D, Pl, hcs, hb, hl, hm, hmm, _, hx⟩
  · obtain rfl : v = .slice none 0 0 := by simpa using hcs
    exact ⟨none, 0, [], rfl, SlAt.nil, by simp, by simp [maxLen], fun p hp => by cases hp⟩
  · obtain rfl : v = .slice (some a) len cap := by simpa using hcs
    have hlm : len ≤ m := by rw [hmm]; split <;> omega
    have each : ∀ i, ∃ p : Mk, i < len → W.cell? (a.add (i * 4)) = some (.int .i64 p.r) ∧ W.cell? (a.add (i * 4 + 1)) = some (.int .i64 p.c) ∧ W.cell? (a.add (i * 4 + 2)) = some (.int .i64 p.q) ∧ W.cell? (a.add (i * 4 + 3)) = some (.int .u64 (p.t : Int)) ∧ p.t < 18446744073709551616 := by
      intro i
      by_cases hi : i < len
      · obtain ⟨cs', h1, h2⟩ := hx i (by omega)
        rw [show Tryz.prog.cellsOf 55 = 4 from by kernel_rfl] at h1
        obtain ⟨_, hlen, hcell⟩ := World.cells?_some h1
        match cs', hlen with
        | [v0, v1, v2, v3], _ =>
          have e0 := hcell 0 (by omega)
          have e1 := hcell 1 (by omega)
          have e2 := hcell 2 (by omega)
          have e3 := hcell 3 (by omega)
          rw [Go.Deep.add_add] at e0 e1 e2 e3
          obtain ⟨q, q0, q1, q2, q3, hq⟩ := open_markC h2
          subst q0 q1 q2 q3
          exact ⟨q, fun _ => ⟨by simpa using e0, by simpa using e1, by simpa using e2, by simpa using e3, hq⟩⟩
      · exact ⟨Mk.zero, fun h => absurd h hi⟩
    obtain ⟨q, hq⟩ := Classical.axiomOfChoice each
    have hlen : ((List.range len).map q).length = len := by simp
    refine ⟨some a, cap, (List.range len).map q, by rw [hlen], ?_, by rw [hlen]; exact hl, hm, ?_⟩
    · intro hpos
      rw [hlen] at hpos
      obtain ⟨b, off, spot⟩ := a
      have hspot : spot = none := by simpa [Addr.add] using World.cell?_spot (hq 0 hpos).1
      subst hspot
      refine ⟨b, off, rfl, block_of_cell (hq 0 hpos).1, ?_⟩
      intro j x hjx i u hiu
      have hj : j < len := by
        rcases Nat.lt_or_ge j len with h | h
        · exact h
        · rw [List.getElem?_eq_none (by rw [hlen]; exact h)] at hjx; cases hjx
      have hxq : x = q j := by
        rw [List.getElem?_map, List.getElem?_range hj] at hjx
        exact (Option.some.inj hjx).symm
      subst hxq
      obtain ⟨g0, g1, g2, g3, _⟩ := hq j hj
      rw [add_plain] at g0 g1 g2 g3
      match i, hiu with
      | 0, hiu =>
        have e : Value.int .i64 (q j).r = u := Option.some.inj hiu
        rw [← e, ← g0]; rfl
      | 1, hiu =>
        have e : Value.int .i64 (q j).c = u := Option.some.inj hiu
        rw [← e, ← g1]; rfl
      | 2, hiu =>
        have e : Value.int .i64 (q j).q = u := Option.some.inj hiu
        rw [← e, ← g2]; rfl
      | 3, hiu =>
        have e : Value.int .u64 ((q j).t : Int) = u := Option.some.inj hiu
        rw [← e, ← g3]; rfl
      | i + 4, hiu => exact absurd hiu (by simp [encM])
    · intro p hp
      obtain ⟨j, hj, rfl⟩ := List.mem_map.1 hp
      obtain ⟨_, _, _, _, g4⟩ := hq j (List.mem_range.1 hj)
      exact g4
/-- The two cells of an item. -/
theorem open_itemC {fuel : Nat} {x : DataW H × List MemPlace} {v0 v1 : Value} (h : DataW.trod enc Tryz.prog W base spare held fuel 50 [v0, v1] = some x) :
    ∃ y : ItV, v0 = .string ⟨y.nm.toArray⟩ ∧ v1 = .slice y.A y.ms.length y.c ∧ ItOK W y ∧ ∀ m ∈ y.ms, m.t < 18446744073709551616 := by
  obtain ⟨xs, k, hk, _, _, hxl, hfd⟩ := DataW.trod_struct Tryz.underlying50 h
  match xs, hxl with
  | [y0, y1], _ =>
    have g0 := hfd 0 _ rfl
    have g1 := hfd 1 _ rfl
    have c0 : Tryz.prog.cellsOf 9 = 1 := by kernel_rfl
    have c1 : Tryz.prog.cellsOf 48 = 1 := by kernel_rfl
    simp [c0, c1] at g0 g1
    obtain ⟨s, hs, _, _⟩ := DataW.trod_string Tryz.underlying9 g0
    obtain ⟨A, c, ms, hv, hat, h1, h2, h3⟩ := open_marksF Tryz.underlying48 g1
    injection hs with hs
    refine ⟨⟨s.data.toList, A, c, ms⟩, ?_, hv, ⟨hat, h1, h2⟩, h3⟩
    rw [hs]
theorem open_itemsF {fuel : Nat} {x : DataW H × List MemPlace} (ht : Tryz.prog.underlying t = some (.slice 50)) (hf : DataW.trod enc Tryz.prog W base spare held fuel t [v] = some x) :
    ∃ xs : List ItV, HoldsX W v xs ∧ ∀ y ∈ xs, ∀ m ∈ y.ms, m.t < 18446744073709551616 := by
  rcases Go.Deep.open_slice ht hf with ⟨hcs, _⟩ | ⟨a, len, cap, m, n, D, Pl, hcs, hb, hl, hm, hmm, _, hx⟩
  · obtain rfl : v = .slice none 0 0 := by simpa using hcs
    exact ⟨[], HoldsX.nil _, fun p hp => by cases hp⟩
  · obtain rfl : v = .slice (some a) len cap := by simpa using hcs
    have hlm : len ≤ m := by rw [hmm]; split <;> omega
    have each : ∀ i, ∃ y : ItV, i < len → W.cell? (a.add (i * 2)) = some (.string ⟨y.nm.toArray⟩) ∧ W.cell? (a.add (i * 2 + 1)) = some (.slice y.A y.ms.length y.c) ∧ ItOK W y ∧ ∀ m ∈ y.ms, m.t < 18446744073709551616 := by
      intro i
      by_cases hi : i < len
      · obtain ⟨cs', h1, h2⟩ := hx i (by omega)
        rw [show Tryz.prog.cellsOf 50 = 2 from by kernel_rfl] at h1
        obtain ⟨_, hlen, hcell⟩ := World.cells?_some h1
        match cs', hlen with
        | [v0, v1], _ =>
          have e0 := hcell 0 (by omega)
          have e1 := hcell 1 (by omega)
          rw [Go.Deep.add_add] at e0 e1
          obtain ⟨y, q0, q1, hok, hq⟩ := open_itemC h2
          subst q0 q1
          exact ⟨y, fun _ => ⟨by simpa using e0, by simpa using e1, hok, hq⟩⟩
      · exact ⟨⟨[], none, 0, []⟩, fun h => absurd h hi⟩
    obtain ⟨q, hq⟩ := Classical.axiomOfChoice each
    have hlen : ((List.range len).map q).length = len := by simp
    refine ⟨(List.range len).map q, ⟨some a, cap, by rw [hlen], ⟨?_, ?_⟩, by rw [hlen]; exact hl, hm⟩, ?_⟩
    · intro hpos
      rw [hlen] at hpos
      obtain ⟨b, off, spot⟩ := a
      have hspot : spot = none := by simpa [Addr.add] using World.cell?_spot (hq 0 hpos).1
      subst hspot
      refine ⟨b, off, rfl, block_of_cell (hq 0 hpos).1, ?_⟩
      intro j x hjx i u hiu
      have hj : j < len := by
        rcases Nat.lt_or_ge j len with h | h
        · exact h
        · rw [List.getElem?_eq_none (by rw [hlen]; exact h)] at hjx; cases hjx
      have hxq : x = q j := by
        rw [List.getElem?_map, List.getElem?_range hj] at hjx
        exact (Option.some.inj hjx).symm
      subst hxq
      obtain ⟨g0, g1, _⟩ := hq j hj
      rw [add_plain] at g0 g1
      match i, hiu with
      | 0, hiu =>
        have e : Value.string ⟨(q j).nm.toArray⟩ = u := Option.some.inj hiu
        rw [← e, ← g0]; rfl
      | 1, hiu =>
        have e : Value.slice (q j).A (q j).ms.length (q j).c = u := Option.some.inj hiu
        rw [← e, ← g1]; rfl
      | i + 2, hiu => exact absurd hiu (by simp [encIt])
    · intro y hy
      obtain ⟨j, hj, rfl⟩ := List.mem_map.1 hy
      exact (hq j (List.mem_range.1 hj)).2.2.1
    · intro y hy
      obtain ⟨j, hj, rfl⟩ := List.mem_map.1 hy
      exact (hq j (List.mem_range.1 hj)).2.2.2
theorem open_dot9 (hv : Value.okWide Tryz.prog W .any b0 30 v) (h : DataW.Trod enc Tryz.prog W base spare held 30 v d p) :
    ∃ r c, v = .agg #[.int .i64 r, .int .i64 c] := by
  obtain ⟨v0, v1, y0, y1, n, rfl, _, _, h0, h1⟩ := Go.Joins.open_agg2 Tryz.underlying30 (by kernel_rfl) (by kernel_rfl) hv h
  obtain ⟨r, hr, _, _⟩ := DataW.trod_int Tryz.underlying3 h0
  obtain ⟨c, hc, _, _⟩ := DataW.trod_int Tryz.underlying3 h1
  cases hr
  cases hc
  exact ⟨r, c, rfl⟩
end
theorem str_list9 (s : ByteArray) : s = ⟨s.data.toList.toArray⟩ := by cases s; simp

end

section
open Go.RowKit
open Go.ChangeShapes Go.WideShapes Go.ChangeAt

set_option maxRecDepth 1000000

section
variable {H : Type} {enc : TypeId × Value → H} {W : World} {base b0 : Nat} {spare : Nat → Bool} {held : Bool} {v : Value} {d : DataW H} {p : List MemPlace} {t : TypeId}
theorem wf64 {n : Int} (h : (Lit.int .i64 n).wf = true) : -9223372036854775808 ≤ n ∧ n ≤ 9223372036854775807 := by
  simpa [Lit.wf, IntKind.min, IntKind.bits, IntKind.signed] using h

/-- A slice of dots, whatever its own type, by the reading of its one cell. -/
theorem open_dotsF {fuel : Nat} {x : DataW H × List MemPlace} (ht : Tryz.prog.underlying t = some (.slice 30)) (hf : DataW.trod enc Tryz.prog W base spare held fuel t [v] = some x) :
    ∃ A c, ∃ zs : List WD, v = .slice A (zs.map (·.1)).length c ∧ Holds W v (zs.map (·.1)) := by
  rcases Go.Deep.open_slice_pairs ht Tryz.underlying30 (by kernel_rfl) rfl rfl (by kernel_rfl) (by kernel_rfl) hf with ⟨hcs, _⟩ | ⟨a, len0, cap0, m, n, V0, V1, D0, D1, P0, P1, hcs, _, hl, hm, hmm, _, hx⟩
  · obtain rfl : v = .slice none 0 0 := by simpa using hcs
    exact ⟨none, 0, [], rfl, Holds.nil _⟩
  · obtain rfl : v = .slice (some a) len0 cap0 := by simpa using hcs
    have hlm : len0 ≤ m := by rw [hmm]; split <;> omega
    have each : ∀ i, ∃ q : WD, i < len0 → W.cell? (a.add (i * 2)) = some (.int .i64 q.1.1) ∧ W.cell? (a.add (i * 2 + 1)) = some (.int .i64 q.1.2) := by
      intro i
      by_cases hi : i < len0
      · obtain ⟨h0, h1, h2, h3⟩ := hx i (by omega)
        obtain ⟨r, hr, _, wr⟩ := DataW.trod_int Tryz.underlying3 h2
        obtain ⟨c, hc, _, wc⟩ := DataW.trod_int Tryz.underlying3 h3
        injection hr with hr
        injection hc with hc
        exact ⟨⟨(r, c), (wf64 wr).1, (wf64 wr).2, (wf64 wc).1, (wf64 wc).2⟩, fun _ => ⟨by rw [h0, hr], by rw [h1, hc]⟩⟩
      · exact ⟨default, fun h => absurd h hi⟩
    obtain ⟨q, hq⟩ := Classical.axiomOfChoice each
    have hlen : (((List.range len0).map q).map (·.1)).length = len0 := by simp
    refine ⟨some a, cap0, (List.range len0).map q, by rw [hlen], some a, cap0, by rw [hlen], ?_, by rw [hlen]; exact hl, hm⟩
    intro hpos
    rw [hlen] at hpos
    obtain ⟨b, off, spot⟩ := a
    have hspot : spot = none := by simpa [Addr.add] using World.cell?_spot (hq 0 hpos).1
    subst hspot
    refine ⟨b, off, rfl, block_of_cell (hq 0 hpos).1, ?_⟩
    intro j x hjx i u hiu
    have hj : j < len0 := by
      rcases Nat.lt_or_ge j len0 with h | h
      · exact h
      · rw [List.getElem?_eq_none (by rw [hlen]; exact h)] at hjx; cases hjx
    have hxq : x = (q j).1 := by
      rw [List.getElem?_map, List.getElem?_map, List.getElem?_range hj] at hjx
      exact (Option.some.inj hjx).symm
    subst hxq
    obtain ⟨g0, g1⟩ := hq j hj
    rw [add_plain] at g0 g1
    match i, hiu with
    | 0, hiu =>
      have e : Value.int .i64 (q j).1.1 = u := Option.some.inj hiu
      rw [← e, ← g0]; rfl
    | 1, hiu =>
      have e : Value.int .i64 (q j).1.2 = u := Option.some.inj hiu
      rw [← e, ← g1]; rfl
    | i + 2, hiu => exact absurd hiu (by simp [encD])

/-- A cart that comes in, opened. -/
theorem open_cart (hv : Value.okWide Tryz.prog W .any b0 28 v) (h : DataW.Trod enc Tryz.prog W base spare held 28 v d p) :
    ∃ c : CaV, v = mkC c ∧ CaOK W c ∧ ∀ m ∈ marksX c.xs, m.t < 18446744073709551616 := by
  obtain ⟨cs, rfl, hsz⟩ := okWide_struct Tryz.underlying28 hv
  have hC : Tryz.prog.cellsOf 28 = 3 := by kernel_rfl
  rw [hC] at hsz
  obtain ⟨fuel, hf⟩ := h
  obtain ⟨l⟩ := cs
  match l, hsz with
  | [v0, v1, v2], _ =>
    have hf' : DataW.trod enc Tryz.prog W base spare held fuel 28 [v0, v1, v2] = some (d, p) := by simpa [Value.cells] using hf
    obtain ⟨xs, k, hk, _, _, hxl, hfd⟩ := DataW.trod_struct Tryz.underlying28 hf'
    match xs, hxl with
    | [y0, y1], _ =>
      have g0 := hfd 0 _ rfl
      have g1 := hfd 1 _ rfl
      have c0 : Tryz.prog.cellsOf 25 = 2 := by kernel_rfl
      have c1 : Tryz.prog.cellsOf 26 = 1 := by kernel_rfl
      have c2 : Tryz.prog.cellsOf 23 = 1 := by kernel_rfl
      have c3 : Tryz.prog.cellsOf 22 = 1 := by kernel_rfl
      simp [c0, c1] at g0 g1
      obtain ⟨zs, k2, hk2, _, _, hzl, hgd⟩ := DataW.trod_struct Tryz.underlying25 g0
      match zs, hzl with
      | [z0, z1], _ =>
        have q0 := hgd 0 _ rfl
        have q1 := hgd 1 _ rfl
        simp [c2, c3] at q0 q1
        obtain ⟨A, a, us, rfl, hA⟩ := open_dotsF Tryz.underlying23 q0
        obtain ⟨B, b, ls, rfl, hB⟩ := open_dotsF Tryz.underlying22 q1
        obtain ⟨ys, hY, ht⟩ := open_itemsF Tryz.underlying26 g1
        obtain ⟨C, c, rfl, hc⟩ := hY
        refine ⟨⟨A, a, us.map (·.1), B, b, ls.map (·.1), C, c, ys⟩, rfl, ⟨hA, hB, C, c, rfl, hc⟩, fun m hm => ?_⟩
        obtain ⟨y, hy, hym⟩ := List.mem_flatMap.1 hm
        exact ht y hy m hym
end

end

section
open Go.RowKit
open Go.ChangeShapes Go.WideShapes Go.ChangeAt

theorem delOK : DelOK where
  add := fun c r s nm q W hc hf hl => delAdd c r s nm q W hc hf hl
  set := fun c r s nm q W hc hf hl => delSet c r s nm q W hc hf hl
  rem := fun c nm W hc hf hl => delRemove c nm W hc hf.k hl
  cle := fun c W hc hf => delClear c W hc hf.k
  emp := fun c b W hc hm hb => delEmpty c b W hc hm hb
  fre := fun c r s b W hc hf hb => delFresh c r s b W hc hf.k hb
theorem known12T : KnownD := known12 delOK

section
variable {H : Type} {enc : TypeId × Value → H} {P : Program} {w : World} {base : Nat} {spare : Nat → Bool} {held : Bool}
end

end

section
open Go.RowKit

abbrev kT (a b : Nat) : Ca := (([(1, 2)], []), [([97], [⟨1, 1, 5, a⟩]), ([98], [⟨1, 2, 5, b⟩])])
section
variable {a b : Nat}
theorem kT_valid (ha : a ≠ 0) (hb : b ≠ 0) : validK (kT a b) = true := by
  obtain ⟨n, rfl⟩ := Nat.exists_eq_succ_of_ne_zero ha
  obtain ⟨m, rfl⟩ := Nat.exists_eq_succ_of_ne_zero hb
  kernel_rfl
theorem kT_time (ha : a ≠ 0) (hb : b ≠ 0) : timeC (kT a b) = if max a b = 18446744073709551615 then (0, 15) else (max a b + 1, 0) := by
  unfold timeC
  rw [if_pos (kT_valid ha hb)]
  show nextV validM [⟨1, 1, 5, a⟩, ⟨1, 2, 5, b⟩] = _
  obtain ⟨m, hm⟩ : ∃ m, newestN [(⟨1, 1, 5, a⟩ : Mk), ⟨1, 2, 5, b⟩] = some m := ⟨_, rfl⟩
  have hM := newestN_max hm
  have h1 := hM.2 ⟨1, 1, 5, a⟩ (by simp)
  have h2 := hM.2 ⟨1, 2, 5, b⟩ (by simp)
  have t1 : a ≤ m.t := by
    rcases Nat.lt_or_ge m.t a with h | h
    · have := (newerN_iff ⟨1, 1, 5, a⟩ m).2 (.inl h)
      rw [h1] at this; cases this
    · exact h
  have t2 : b ≤ m.t := by
    rcases Nat.lt_or_ge m.t b with h | h
    · have := (newerN_iff ⟨1, 2, 5, b⟩ m).2 (.inl h)
      rw [h2] at this; cases this
    · exact h
  have ht : m.t = max a b := by
    have := hM.1
    rcases List.mem_cons.1 this with rfl | h
    · dsimp only at t1 t2 ⊢; omega
    · obtain rfl : m = ⟨1, 2, 5, b⟩ := by simpa using h
      dsimp only at t1 t2 ⊢; omega
  have hv : ([⟨1, 1, 5, a⟩, ⟨1, 2, 5, b⟩] : List Mk).all validM = true := by
    simp only [List.all_cons, List.all_nil, Bool.and_true, Bool.and_eq_true]
    constructor
    · unfold validM; simp [ha]; decide
    · unfold validM; simp [hb]; decide
  unfold nextV
  rw [if_pos hv, hm]
  dsimp only
  rw [ht]
theorem kT_fresh (ha : a ≠ 0) (hb : b ≠ 0) : freshK (kT a b) (1, 3) = true := fresh_iff.2 ⟨kT_valid ha hb, by decide, by kernel_rfl⟩
theorem kT_add (ha : a ≠ 0) (hb : b ≠ 0) {nm : List UInt8} (h : itemN nm = true) : putE (kT a b) (1, 3) nm 1 false = (timeC (kT a b)).2 :=
  (putE_add (kT_fresh ha hb) h (by decide) (b := true) rfl).trans (if_pos rfl)
theorem kT_set (ha : a ≠ 0) (hb : b ≠ 0) {nm : List UInt8} (h : itemN nm = true) (ht : thereN (kT a b) nm = true) : putE (kT a b) (1, 3) nm 1 true = (timeC (kT a b)).2 :=
  (putE_set (kT_fresh ha hb) h (by decide) (b := true) ht).trans (if_pos rfl)
theorem putB_no {c : Ca} {d : Int × Int} {nm : List UInt8} {q : Int} {set : Bool} {k : Nat} (h : putE c d nm q set = k) (hk : k ≠ 0) : putB c d nm q set kZ (k : Int) = true := by
  unfold putB
  rw [putD_f (by rw [h]; exact hk), h, sameC_iff.2 (show zeroK = kZ from rfl)]
  simp
theorem kt1 (ha : a ≠ 0) (hb : b ≠ 0) (hm : max a b = 18446744073709551615) : putB (kT a b) (1, 3) [97] 1 false kZ 15 = true :=
  putB_no (k := 15) (by rw [kT_add ha hb (by decide), kT_time ha hb, if_pos hm]) (by decide)
theorem kt2 (ha : a ≠ 0) (hb : b ≠ 0) (hm : max a b = 18446744073709551615) : putB (kT a b) (1, 3) [98] 1 true kZ 15 = true :=
  putB_no (k := 15) (by rw [kT_set ha hb (by decide) rfl, kT_time ha hb, if_pos hm]) (by decide)
theorem kt3 (ha : a ≠ 0) (hb : b ≠ 0) : putB (kT a b) (1, 3) [99] 1 true kZ 9 = true :=
  putB_no (k := 9) ((putE_set (kT_fresh ha hb) (by decide) (by decide) (b := false) rfl).trans (if_neg (by decide))) (by decide)
theorem kt4 (ha : a ≠ 0) (hb : b ≠ 0) (hm : max a b ≠ 18446744073709551615) : putE (kT a b) (1, 3) [122] 1 false = 0 ∧ putD (kT a b) (1, 3) [122] 1 false = (([], [(1, 3)]), [([122], [⟨1, 3, 1, max a b + 1⟩])]) := by
  have h : putE (kT a b) (1, 3) [122] 1 false = 0 := by rw [kT_add ha hb (by decide), kT_time ha hb, if_neg hm]
  refine ⟨h, ?_⟩
  rw [putD_t h, kT_time ha hb, if_neg hm, dotsC_t (kT_valid ha hb)]
  show ((addC [] [] [(1, 3)], [([122], [(⟨1, 3, 1, max a b + 1⟩ : Mk)])]) : Ca) = _
  rw [show addC [] [] [(1, 3)] = ([], [(1, 3)]) from by decide +kernel]
theorem kt5 (ha : a ≠ 0) (hb : b ≠ 0) (hm : max a b ≠ 18446744073709551615) : putE (kT a b) (1, 3) [98] 1 true = 0 ∧ (putD (kT a b) (1, 3) [98] 1 true).2 = [([98], [⟨1, 3, 1, max a b + 1⟩])] := by
  have h : putE (kT a b) (1, 3) [98] 1 true = 0 := by rw [kT_set ha hb (by decide) rfl, kT_time ha hb, if_neg hm]
  refine ⟨h, ?_⟩
  rw [putD_t h, kT_time ha hb, if_neg hm]
  rfl
theorem fitsD_kT {c : CaV} (e : c.ca = kT a b) (ha : a < 18446744073709551616) (hb : b < 18446744073709551616) : FitsD c := by
  refine fitsD_of e ?_
  have h1 : (dotsI (kT a b).2).length = 2 := by kernel_rfl
  simp only [Bool.and_eq_true, decide_eq_true_eq, List.all_eq_true]
  refine ⟨by rw [h1]; decide, by simp, fun x hx => ?_, fun m hm => ?_⟩
  · simp at hx
    rcases hx with rfl | rfl <;> simp
  · simp at hm
    rcases hm with rfl | rfl
    · exact ha
    · exact hb
/-- One item with one mark, as it lies there. -/
theorem one_mark {z : CaV} {nm : List UInt8} {m : Mk} {W : World} (h : z.ca.2 = [(nm, [m])]) (hz : CaOK W z) :
    ∃ g o g' o' cap, z.i = .slice (some ⟨g, o, none⟩) 1 z.ni ∧ W.cell? ⟨g, o + 1, none⟩ = some (.slice (some ⟨g', o', none⟩) 1 cap) ∧ W.cell? ⟨g', o' + 3, none⟩ = some (.int .u64 (m.t : Int)) := by
  have hx : its z.xs = [(nm, [m])] := h
  have hI := hz.items
  obtain ⟨y, hy⟩ : ∃ y, z.xs = [y] := by
    have := congrArg List.length hx
    rw [its_len] at this
    exact List.length_eq_one_iff.1 (by simpa using this)
  rw [hy] at hI hx
  have hym : y.ms = [m] := by
    have : y.it = (nm, [m]) := by simpa [its] using hx
    exact congrArg Prod.snd this
  obtain ⟨g, o, hA, _, hc⟩ := hI.1 (by simp)
  have hM := (hI.2 y (by simp)).1
  rw [hym] at hM
  obtain ⟨g', o', hA', _, hc'⟩ := hM (by simp)
  refine ⟨g, o, g', o', y.c, ?_, ?_, ?_⟩
  · show Value.slice z.I z.xs.length z.ni = _
    rw [hy, hA]; rfl
  · have := hc 0 y rfl 1 _ rfl
    rw [hA', hym] at this
    simpa using this
  · simpa using hc' 0 m rfl 3 _ rfl
end

/-- Add and Set at known carts. -/
theorem add_l (DO : DelOK) {c : CaV} {a x : Ca} (r s : Int) (nm : List UInt8) (q : Int) (W : World) (h : putE a (r, s) nm q false = 0) (hx : putD a (r, s) nm q false = x) (ec : c.ca = a) (hf : FitsD c) (hl : nm.length ≤ 1000) (hc : CaOK W c) :
    Calls Tryz.prog 28 #[mkC c, .agg #[.int .i64 r, .int .i64 s], .string ⟨nm.toArray⟩, .int .i64 q] W (MadeD x 0 W) := by
  have := DO.add c r s nm q W hc hf hl
  rw [ec, h, hx] at this
  exact this
theorem set_l (DO : DelOK) {c : CaV} {a x : Ca} (r s : Int) (nm : List UInt8) (q : Int) (W : World) (h : putE a (r, s) nm q true = 0) (hx : putD a (r, s) nm q true = x) (ec : c.ca = a) (hf : FitsD c) (hl : nm.length ≤ 1000) (hc : CaOK W c) :
    Calls Tryz.prog 29 #[mkC c, .agg #[.int .i64 r, .int .i64 s], .string ⟨nm.toArray⟩, .int .i64 q] W (MadeD x 0 W) := by
  have := DO.set c r s nm q W hc hf hl
  rw [ec, h, hx] at this
  exact this
theorem KSr.add {w W : World} {B : List (Nat × CaV)} {D : List (Nat × (Int × Int))} {L : List (Value × Sr)} {g : Nat} {z : CaV} (h : KSr w B D L W) (hb : BlkC W g z) (ho : CaOK W z) : KSr w (B ++ [(g, z)]) D [] W :=
  ⟨⟨fun p hp => by
    rcases List.mem_append.1 hp with k | k
    · exact h.kk.box p k
    · obtain rfl : p = (g, z) := by simpa using k
      exact ⟨hb, ho⟩, h.kk.bel⟩, h.dd, fun _ h => (by cases h)⟩

end

end Go.Proofs.YtiaehpdgpjhecaaGreat
