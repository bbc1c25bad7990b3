/- Several texts in one: ItmO, CarO, DelU, DelT, JoiRT. -/
import Derived.Test.YtiaehpdgpjhecaaGreatNAG
import Derived.ChangeMaps
import Derived.ChangeSlices
import Derived.Deep.SlicePairs
import Derived.Lib.SmallJoins
import Derived.ProofKit
import Derived.OpenShut
import Derived.ChangeOld
import Derived.Below
import Derived.Carry
import Derived.Test.YtiaehpdgpjhecaaGreatNAN
import Derived.Test.YtiaehpdgpjhecaaGreatNAK
import Derived.Test.YtiaehpdgpjhecaaGreatNBG
import Derived.Test.YtiaehpdgpjhecaaGreatNBJ
import Derived.Test.YtiaehpdgpjhecaaGreatNBK
import Derived.Test.YtiaehpdgpjhecaaGreatNAS
import Derived.Test.YtiaehpdgpjhecaaGreatNBC
namespace Go.Proofs.YtiaehpdgpjhecaaGreat

section
open Go.RowKit
open Go.ChangeShapes Go.WideShapes Go.ChangeAt

set_option maxRecDepth 1000000

theorem ownP : ownKnob Tryz.prog.godebug = none := by kernel_rfl
theorem laidP : laidOutB Tryz.prog = true := by kernel_rfl

theorem wfU {n : Int} (h : (Lit.int .u64 n).wf = true) : ∃ m : Nat, n = (m : Int) ∧ m < 18446744073709551616 := by
  have h1 : 0 ≤ n ∧ n ≤ IntKind.u64.max := by simpa [Lit.wf, IntKind.min, IntKind.bits, IntKind.signed] using h
  have h2 : IntKind.u64.max = 18446744073709551615 := by decide
  exact ⟨n.toNat, by omega, by omega⟩
theorem wfB {n : Int} (h : (Lit.int .u8 n).wf = true) : ∃ m : Nat, n = (m : Int) ∧ m < 256 := by
  have h1 : 0 ≤ n ∧ n ≤ IntKind.u8.max := by simpa [Lit.wf, IntKind.min, IntKind.bits, IntKind.signed] using h
  have h2 : IntKind.u8.max = 255 := by decide
  exact ⟨n.toNat, by omega, by omega⟩
theorem block_of_cell {w : World} {a : Addr} {v : Value} (h : w.cell? a = some v) : a.block < w.heap.size := by
  rcases Nat.lt_or_ge a.block w.heap.size with hlt | hge
  · exact hlt
  · simp [World.cell?, Array.getElem?_eq_none hge] at h

section
variable {H : Type} {enc : TypeId × Value → H} {W : World} {base b0 : Nat} {spare : Nat → Bool} {held : Bool} {v : Value} {d : DataW H} {p : List MemPlace} {t : TypeId}
/-- The four cells of a mark. -/
theorem open_markC {fuel : Nat} {x : DataW H × List MemPlace} {v0 v1 v2 v3 : Value} (h : DataW.trod enc Tryz.prog W base spare held fuel 55 [v0, v1, v2, v3] = some x) :
    ∃ m : Mk, v0 = .int .i64 m.r ∧ v1 = .int .i64 m.c ∧ v2 = .int .i64 m.q ∧ v3 = .int .u64 (m.t : Int) ∧ m.t < 18446744073709551616 := by
  obtain ⟨xs, k, hk, _, _, hxl, hfd⟩ := DataW.trod_struct Tryz.underlying55 h
  match xs, hxl with
  | [y0, y1, y2], _ =>
    have g0 := hfd 0 _ rfl
    have g1 := hfd 1 _ rfl
    have g2 := hfd 2 _ rfl
    have c0 : Tryz.prog.cellsOf 30 = 2 := by kernel_rfl
    have c1 : Tryz.prog.cellsOf 3 = 1 := by kernel_rfl
    have c2 : Tryz.prog.cellsOf 53 = 1 := by kernel_rfl
    simp [c0, c1, c2] at g0 g1 g2
    obtain ⟨zs, k2, hk2, _, _, hzl, hgd⟩ := DataW.trod_struct Tryz.underlying30 g0
    match zs, hzl with
    | [z0, z1], _ =>
      have q0 := hgd 0 _ rfl
      have q1 := hgd 1 _ rfl
      simp [c1] at q0 q1
      obtain ⟨r, hr, _, _⟩ := DataW.trod_int Tryz.underlying3 q0
      obtain ⟨c, hc, _, _⟩ := DataW.trod_int Tryz.underlying3 q1
      obtain ⟨q, hq, _, _⟩ := DataW.trod_int Tryz.underlying3 g1
      obtain ⟨t, ht, _, wt⟩ := DataW.trod_int Tryz.underlying53 g2
      injection hr with hr
      injection hc with hc
      injection hq with hq
      injection ht with ht
      obtain ⟨n, rfl, hn⟩ := wfU wt
      exact ⟨⟨r, c, q, n⟩, hr, hc, hq, ht, hn⟩
theorem open_marksF {fuel : Nat} {x : DataW H × List MemPlace} (ht : Tryz.prog.underlying t = some (.slice 55)) (hf : DataW.trod enc Tryz.prog W base spare held fuel t [v] = some x) :
    ∃ X cx, ∃ ms : List Mk, v = .slice X ms.length cx ∧ MarksAt W X ms ∧ ms.length ≤ cx ∧ cx ≤ maxLen ∧ ∀ m ∈ ms, m.t < 18446744073709551616 := by
  rcases Go.Deep.open_slice ht hf with ⟨hcs, _⟩ | ⟨a, len, cap, m, n, D, Pl, hcs, hb, hl, hm, hmm, _, hx⟩
  · obtain rfl : v = .slice none 0 0 := by simpa using hcs
    exact ⟨none, 0, [], rfl, SlAt.nil, by simp, by simp [maxLen], fun p hp => by cases hp⟩
  · obtain rfl : v = .slice (some a) len cap := by simpa using hcs
    have hlm : len ≤ m := by rw [hmm]; split <;> omega
    have each : ∀ i, ∃ p : Mk, i < len → W.cell? (a.add (i * 4)) = some (.int .i64 p.r) ∧ W.cell? (a.add (i * 4 + 1)) = some (.int .i64 p.c) ∧ W.cell? (a.add (i * 4 + 2)) = some (.int .i64 p.q) ∧ W.cell? (a.add (i * 4 + 3)) = some (.int .u64 (p.t : Int)) ∧ p.t < 18446744073709551616 := by
      intro i
      by_cases hi : i < len
      · obtain ⟨cs', h1, h2⟩ := hx i (by omega)
        rw [show Tryz.prog.cellsOf 55 = 4 from by kernel_rfl] at h1
        obtain ⟨_, hlen, hcell⟩ := World.cells?_some h1
        match cs', hlen with
        | [v0, v1, v2, v3], _ =>
          have e0 := hcell 0 (by omega)
          have e1 := hcell 1 (by omega)
          have e2 := hcell 2 (by omega)
          have e3 := hcell 3 (by omega)
          rw [Go.Deep.add_add] at e0 e1 e2 e3
          obtain ⟨q, q0, q1, q2, q3, hq⟩ := open_markC h2
          subst q0 q1 q2 q3
          exact ⟨q, fun _ => ⟨by simpa using e0, by simpa using e1, by simpa using e2, by simpa using e3, hq⟩⟩
      · exact ⟨Mk.zero, fun h => absurd h hi⟩
    obtain ⟨q, hq⟩ := Classical.axiomOfChoice each
    have hlen : ((List.range len).map q).length = len := by simp
    refine ⟨some a, cap, (List.range len).map q, by rw [hlen], ?_, by rw [hlen]; exact hl, hm, ?_⟩
    · intro hpos
      rw [hlen] at hpos
      obtain ⟨b, off, spot⟩ := a
      have hspot : spot = none := by simpa [Addr.add] using World.cell?_spot (hq 0 hpos).1
      subst hspot
      refine ⟨b, off, rfl, block_of_cell (hq 0 hpos).1, ?_⟩
      intro j x hjx i u hiu
      have hj : j < len := by
        rcases Nat.lt_or_ge j len with h | h
        · exact h
        · rw [List.getElem?_eq_none (by rw [hlen]; exact h)] at hjx; cases hjx
      have hxq : x = q j := by
        rw [List.getElem?_map, List.getElem?_range hj] at hjx
        exact (Option.some.inj hjx).symm
      subst hxq
      obtain ⟨g0, g1, g2, g3, _⟩ := hq j hj
      rw [add_plain] at g0 g1 g2 g3
      match i, hiu with
      | 0, hiu =>
        have e : Value.int .i64 (q j).r = u := Option.some.inj hiu
        rw [← e, ← g0]; rfl
      | 1, hiu =>
        have e : Value.int .i64 (q j).c = u := Option.some.inj hiu
        rw [← e, ← g1]; rfl
      | 2, hiu =>
        have e : Value.int .i64 (q j).q = u := Option.some.inj hiu
        rw [← e, ← g2]; rfl
      | 3, hiu =>
        have e : Value.int .u64 ((q j).t : Int) = u := Option.some.inj hiu
        rw [← e, ← g3]; rfl
      | i + 4, hiu => exact absurd hiu (by simp [encM])
    · intro p hp
      obtain ⟨j, hj, rfl⟩ := List.mem_map.1 hp
      obtain ⟨_, _, _, _, g4⟩ := hq j (List.mem_range.1 hj)
      exact g4
/-- The two cells of an item. -/
theorem open_itemC {fuel : Nat} {x : DataW H × List MemPlace} {v0 v1 : Value} (h : DataW.trod enc Tryz.prog W base spare held fuel 50 [v0, v1] = some x) :
    ∃ y : ItV, v0 = .string ⟨y.nm.toArray⟩ ∧ v1 = .slice y.A y.ms.length y.c ∧ ItOK W y ∧ ∀ m ∈ y.ms, m.t < 18446744073709551616 := by
  obtain ⟨xs, k, hk, _, _, hxl, hfd⟩ := DataW.trod_struct Tryz.underlying50 h
  match xs, hxl with
  | [y0, y1], _ =>
    have g0 := hfd 0 _ rfl
    have g1 := hfd 1 _ rfl
    have c0 : Tryz.prog.cellsOf 9 = 1 := by kernel_rfl
    have c1 : Tryz.prog.cellsOf 48 = 1 := by kernel_rfl
    simp [c0, c1] at g0 g1
    obtain ⟨s, hs, _, _⟩ := DataW.trod_string Tryz.underlying9 g0
    obtain ⟨A, c, ms, hv, hat, h1, h2, h3⟩ := open_marksF Tryz.underlying48 g1
    injection hs with hs
    refine ⟨⟨s.data.toList, A, c, ms⟩, ?_, hv, ⟨hat, h1, h2⟩, h3⟩
    rw [hs]
theorem open_itemsF {fuel : Nat} {x : DataW H × List MemPlace} (ht : Tryz.prog.underlying t = some (.slice 50)) (hf : DataW.trod enc Tryz.prog W base spare held fuel t [v] = some x) :
    ∃ xs : List ItV, HoldsX W v xs ∧ ∀ y ∈ xs, ∀ m ∈ y.ms, m.t < 18446744073709551616 := by
  rcases Go.Deep.open_slice ht hf with ⟨hcs, _⟩ | ⟨a, len, cap, m, n, D, Pl, hcs, hb, hl, hm, hmm, _, hx⟩
  · obtain rfl : v = .slice none 0 0 := by simpa using hcs
    exact ⟨[], HoldsX.nil _, fun p hp => by cases hp⟩
  · obtain rfl : v = .slice (some a) len cap := by simpa using hcs
    have hlm : len ≤ m := by rw [hmm]; split <;> omega
    have each : ∀ i, ∃ y : ItV, i < len → W.cell? (a.add (i * 2)) = some (.string ⟨y.nm.toArray⟩) ∧ W.cell? (a.add (i * 2 + 1)) = some (.slice y.A y.ms.length y.c) ∧ ItOK W y ∧ ∀ m ∈ y.ms, m.t < 18446744073709551616 := by
      intro i
      by_cases hi : i < len
      · obtain ⟨cs', h1, h2⟩ := hx i (by omega)
        rw [show Tryz.prog.cellsOf 50 = 2 from by kernel_rfl] at h1
        obtain ⟨_, hlen, hcell⟩ := World.cells?_some h1
        match cs', hlen with
        | [v0, v1], _ =>
          have e0 := hcell 0 (by omega)
          have e1 := hcell 1 (by omega)
          rw [Go.Deep.add_add] at e0 e1
          obtain ⟨y, q0, q1, hok, hq⟩ := open_itemC h2
          subst q0 q1
          exact ⟨y, fun _ => ⟨by simpa using e0, by simpa using e1, hok, hq⟩⟩
      · exact ⟨⟨[], none, 0, []⟩, fun h => absurd h hi⟩
    obtain ⟨q, hq⟩ := Classical.axiomOfChoice each
    have hlen : ((List.range len).map q).length = len := by simp
    refine ⟨(List.range len).map q, ⟨some a, cap, by rw [hlen], ⟨?_, ?_⟩, by rw [hlen]; exact hl, hm⟩, ?_⟩
    · intro hpos
      rw [hlen] at hpos
      obtain ⟨b, off, spot⟩ := a
      have hspot : spot = none := by simpa [Addr.add] using World.cell?_spot (hq 0 hpos).1
      subst hspot
      refine ⟨b, off, rfl, block_of_cell (hq 0 hpos).1, ?_⟩
      intro j x hjx i u hiu
      have hj : j < len := by
        rcases Nat.lt_or_ge j len with h | h
        · exact h
        · rw [List.getElem?_eq_none (by rw [hlen]; exact h)] at hjx; cases hjx
      have hxq : x = q j := by
        rw [List.getElem?_map, List.getElem?_range hj] at hjx
        exact (Option.some.inj hjx).symm
      subst hxq
      obtain ⟨g0, g1, _⟩ := hq j hj
      rw [add_plain] at g0 g1
      match i, hiu with
      | 0, hiu =>
        have e : Value.string ⟨(q j).nm.toArray⟩ = u := Option.some.inj hiu
        rw [← e, ← g0]; rfl
      | 1, hiu =>
        have e : Value.slice (q j).A (q j).ms.length (q j).c = u := Option.some.inj hiu
        rw [← e, ← g1]; rfl
      | i + 2, hiu => exact absurd hiu (by simp [encIt])
    · intro y hy
      obtain ⟨j, hj, rfl⟩ := List.mem_map.1 hy
      exact (hq j (List.mem_range.1 hj)).2.2.1
    · intro y hy
      obtain ⟨j, hj, rfl⟩ := List.mem_map.1 hy
      exact (hq j (List.mem_range.1 hj)).2.2.2
theorem open_dot9 (hv : Value.okWide Tryz.prog W .any b0 30 v) (h : DataW.Trod enc Tryz.prog W base spare held 30 v d p) :
    ∃ r c, v = .agg #[.int .i64 r, .int .i64 c] := by
  obtain ⟨v0, v1, y0, y1, n, rfl, _, _, h0, h1⟩ := Go.Joins.open_agg2 Tryz.underlying30 (by kernel_rfl) (by kernel_rfl) hv h
  obtain ⟨r, hr, _, _⟩ := DataW.trod_int Tryz.underlying3 h0
  obtain ⟨c, hc, _, _⟩ := DataW.trod_int Tryz.underlying3 h1
  cases hr
  cases hc
  exact ⟨r, c, rfl⟩
end
theorem str_list9 (s : ByteArray) : s = ⟨s.data.toList.toArray⟩ := by cases s; simp

end

section
open Go.RowKit
open Go.ChangeShapes Go.WideShapes Go.ChangeAt

set_option maxRecDepth 1000000

section
variable {H : Type} {enc : TypeId × Value → H} {W : World} {base b0 : Nat} {spare : Nat → Bool} {held : Bool} {v : Value} {d : DataW H} {p : List MemPlace} {t : TypeId}
theorem wf64 {n : Int} (h : (Lit.int .i64 n).wf = true) : -9223372036854775808 ≤ n ∧ n ≤ 9223372036854775807 := by
  simpa [Lit.wf, IntKind.min, IntKind.bits, IntKind.signed] using h

/-- A slice of dots, whatever its own type, by the reading of its one cell. -/
theorem open_dotsF {fuel : Nat} {x : DataW H × List MemPlace} (ht : Tryz.prog.underlying t = some (.slice 30)) (hf : DataW.trod enc Tryz.prog W base spare held fuel t [v] = some x) :
    ∃ A c, ∃ zs : List WD, v = .slice A (zs.map (·.1)).length c ∧ Holds W v (zs.map (·.1)) := by
  rcases Go.Deep.open_slice_pairs ht Tryz.underlying30 (by kernel_rfl) rfl rfl (by kernel_rfl) (by kernel_rfl) hf with ⟨hcs, _⟩ | ⟨a, len0, cap0, m, n, V0, V1, D0, D1, P0, P1, hcs, _, hl, hm, hmm, _, hx⟩
  · obtain rfl : v = .slice none 0 0 := by simpa using hcs
    exact ⟨none, 0, [], rfl, Holds.nil _⟩
  · obtain rfl : v = .slice (some a) len0 cap0 := by simpa using hcs
    have hlm : len0 ≤ m := by rw [hmm]; split <;> omega
    have each : ∀ i, ∃ q : WD, i < len0 → W.cell? (a.add (i * 2)) = some (.int .i64 q.1.1) ∧ W.cell? (a.add (i * 2 + 1)) = some (.int .i64 q.1.2) := by
      intro i
      by_cases hi : i < len0
      · obtain ⟨h0, h1, h2, h3⟩ := hx i (by omega)
        obtain ⟨r, hr, _, wr⟩ := DataW.trod_int Tryz.underlying3 h2
        obtain ⟨c, hc, _, wc⟩ := DataW.trod_int Tryz.underlying3 h3
        injection hr with hr
        injection hc with hc
        exact ⟨⟨(r, c), (wf64 wr).1, (wf64 wr).2, (wf64 wc).1, (wf64 wc).2⟩, fun _ => ⟨by rw [h0, hr], by rw [h1, hc]⟩⟩
      · exact ⟨default, fun h => absurd h hi⟩
    obtain ⟨q, hq⟩ := Classical.axiomOfChoice each
    have hlen : (((List.range len0).map q).map (·.1)).length = len0 := by simp
    refine ⟨some a, cap0, (List.range len0).map q, by rw [hlen], some a, cap0, by rw [hlen], ?_, by rw [hlen]; exact hl, hm⟩
    intro hpos
    rw [hlen] at hpos
    obtain ⟨b, off, spot⟩ := a
    have hspot : spot = none := by simpa [Addr.add] using World.cell?_spot (hq 0 hpos).1
    subst hspot
    refine ⟨b, off, rfl, block_of_cell (hq 0 hpos).1, ?_⟩
    intro j x hjx i u hiu
    have hj : j < len0 := by
      rcases Nat.lt_or_ge j len0 with h | h
      · exact h
      · rw [List.getElem?_eq_none (by rw [hlen]; exact h)] at hjx; cases hjx
    have hxq : x = (q j).1 := by
      rw [List.getElem?_map, List.getElem?_map, List.getElem?_range hj] at hjx
      exact (Option.some.inj hjx).symm
    subst hxq
    obtain ⟨g0, g1⟩ := hq j hj
    rw [add_plain] at g0 g1
    match i, hiu with
    | 0, hiu =>
      have e : Value.int .i64 (q j).1.1 = u := Option.some.inj hiu
      rw [← e, ← g0]; rfl
    | 1, hiu =>
      have e : Value.int .i64 (q j).1.2 = u := Option.some.inj hiu
      rw [← e, ← g1]; rfl
    | i + 2, hiu => exact absurd hiu (by simp [encD])

/-- A cart that comes in, opened. -/
theorem open_cart (hv : Value.okWide Tryz.prog W .any b0 28 v) (h : DataW.Trod enc Tryz.prog W base spare held 28 v d p) :
    ∃ c : CaV, v = mkC c ∧ CaOK W c ∧ ∀ m ∈ marksX c.xs, m.t < 18446744073709551616 := by
  obtain ⟨cs, rfl, hsz⟩ := okWide_struct Tryz.underlying28 hv
  have hC : Tryz.prog.cellsOf 28 = 3 := by kernel_rfl
  rw [hC] at hsz
  obtain ⟨fuel, hf⟩ := h
  obtain ⟨l⟩ := cs
  match l, hsz with
  | [v0, v1, v2], _ =>
    have hf' : DataW.trod enc Tryz.prog W base spare held fuel 28 [v0, v1, v2] = some (d, p) := by simpa [Value.cells] using hf
    obtain ⟨xs, k, hk, _, _, hxl, hfd⟩ := DataW.trod_struct Tryz.underlying28 hf'
    match xs, hxl with
    | [y0, y1], _ =>
      have g0 := hfd 0 _ rfl
      have g1 := hfd 1 _ rfl
      have c0 : Tryz.prog.cellsOf 25 = 2 := by kernel_rfl
      have c1 : Tryz.prog.cellsOf 26 = 1 := by kernel_rfl
      have c2 : Tryz.prog.cellsOf 23 = 1 := by kernel_rfl
      have c3 : Tryz.prog.cellsOf 22 = 1 := by kernel_rfl
      simp [c0, c1] at g0 g1
      obtain ⟨zs, k2, hk2, _, _, hzl, hgd⟩ := DataW.trod_struct Tryz.underlying25 g0
      match zs, hzl with
      | [z0, z1], _ =>
        have q0 := hgd 0 _ rfl
        have q1 := hgd 1 _ rfl
        simp [c2, c3] at q0 q1
        obtain ⟨A, a, us, rfl, hA⟩ := open_dotsF Tryz.underlying23 q0
        obtain ⟨B, b, ls, rfl, hB⟩ := open_dotsF Tryz.underlying22 q1
        obtain ⟨ys, hY, ht⟩ := open_itemsF Tryz.underlying26 g1
        obtain ⟨C, c, rfl, hc⟩ := hY
        refine ⟨⟨A, a, us.map (·.1), B, b, ls.map (·.1), C, c, ys⟩, rfl, ⟨hA, hB, C, c, rfl, hc⟩, fun m hm => ?_⟩
        obtain ⟨y, hy, hym⟩ := List.mem_flatMap.1 hm
        exact ht y hy m hym
end

end

section
open Go.RowKit
open Go.ChangeShapes Go.WideShapes Go.ChangeAt

theorem delOK : DelOK where
  add := fun c r s nm q W hc hf hl => delAdd c r s nm q W hc hf hl
  set := fun c r s nm q W hc hf hl => delSet c r s nm q W hc hf hl
  rem := fun c nm W hc hf hl => delRemove c nm W hc hf.k hl
  cle := fun c W hc hf => delClear c W hc hf.k
  emp := fun c b W hc hm hb => delEmpty c b W hc hm hb
  fre := fun c r s b W hc hf hb => delFresh c r s b W hc hf.k hb
theorem known12T : KnownD := known12 delOK

section
variable {H : Type} {enc : TypeId × Value → H} {P : Program} {w : World} {base : Nat} {spare : Nat → Bool} {held : Bool}
theorem trodAll_mk5 {t0 t1 t2 t3 t4 : TypeId} {v0 v1 v2 v3 v4 : Value} {d0 d1 d2 d3 d4 : DataW H} {p0 p1 p2 p3 p4 : List MemPlace} (h0 : DataW.Trod enc P w base spare held t0 v0 d0 p0) (h1 : DataW.Trod enc P w base spare held t1 v1 d1 p1)
    (h2 : DataW.Trod enc P w base spare held t2 v2 d2 p2) (h3 : DataW.Trod enc P w base spare held t3 v3 d3 p3) (h4 : DataW.Trod enc P w base spare held t4 v4 d4 p4) :
    DataW.TrodAll enc P w base spare held [t0, t1, t2, t3, t4] [v0, v1, v2, v3, v4] [d0, d1, d2, d3, d4] (p0 ++ (p1 ++ (p2 ++ (p3 ++ p4)))) :=
  ⟨p0, _, h0, trodAll_mk4 h1 h2 h3 h4, rfl⟩
theorem trodAll_seven {t0 t1 t2 t3 t4 t5 t6 : TypeId} {args : Array Value} {ds : List (DataW H)} {ps : List MemPlace} (h : DataW.TrodAll enc P w base spare held [t0, t1, t2, t3, t4, t5, t6] args.toList ds ps) :
    ∃ v0 v1 v2 v3 v4 v5 v6 d0 d1 d2 d3 d4 d5 d6 p0 p1 p2 p3 p4 p5 p6, args = #[v0, v1, v2, v3, v4, v5, v6] ∧ ds = [d0, d1, d2, d3, d4, d5, d6] ∧ ps = p0 ++ (p1 ++ (p2 ++ (p3 ++ (p4 ++ (p5 ++ p6))))) ∧
      DataW.Trod enc P w base spare held t0 v0 d0 p0 ∧ DataW.Trod enc P w base spare held t1 v1 d1 p1 ∧ DataW.Trod enc P w base spare held t2 v2 d2 p2 ∧ DataW.Trod enc P w base spare held t3 v3 d3 p3 ∧ DataW.Trod enc P w base spare held t4 v4 d4 p4 ∧ DataW.Trod enc P w base spare held t5 v5 d5 p5 ∧ DataW.Trod enc P w base spare held t6 v6 d6 p6 := by
  obtain ⟨v0, r0, d0, e0, p0, q0, ha, rfl, rfl, h0, g0⟩ := trodAll_cons h
  obtain ⟨v1, r1, d1, e1, p1, q1, rfl, rfl, rfl, h1, g1⟩ := trodAll_cons g0
  obtain ⟨v2, r2, d2, e2, p2, q2, rfl, rfl, rfl, h2, g2⟩ := trodAll_cons g1
  obtain ⟨v3, r3, d3, e3, p3, q3, rfl, rfl, rfl, h3, g3⟩ := trodAll_cons g2
  obtain ⟨v4, r4, d4, e4, p4, q4, rfl, rfl, rfl, h4, g4⟩ := trodAll_cons g3
  obtain ⟨v5, r5, d5, e5, p5, q5, rfl, rfl, rfl, h5, g5⟩ := trodAll_cons g4
  obtain ⟨v6, r6, d6, e6, p6, q6, rfl, rfl, rfl, h6, g6⟩ := trodAll_cons g5
  obtain ⟨rfl, rfl, rfl⟩ := trodAll_nil g6
  exact ⟨v0, v1, v2, v3, v4, v5, v6, d0, d1, d2, d3, d4, d5, d6, p0, p1, p2, p3, p4, p5, p6, by cases args; simp_all, rfl, by simp, h0, h1, h2, h3, h4, h5, h6⟩
theorem trodAll_mk7 {t0 t1 t2 t3 t4 t5 t6 : TypeId} {v0 v1 v2 v3 v4 v5 v6 : Value} {d0 d1 d2 d3 d4 d5 d6 : DataW H} {p0 p1 p2 p3 p4 p5 p6 : List MemPlace} (h0 : DataW.Trod enc P w base spare held t0 v0 d0 p0) (h1 : DataW.Trod enc P w base spare held t1 v1 d1 p1)
    (h2 : DataW.Trod enc P w base spare held t2 v2 d2 p2) (h3 : DataW.Trod enc P w base spare held t3 v3 d3 p3) (h4 : DataW.Trod enc P w base spare held t4 v4 d4 p4) (h5 : DataW.Trod enc P w base spare held t5 v5 d5 p5) (h6 : DataW.Trod enc P w base spare held t6 v6 d6 p6) :
    DataW.TrodAll enc P w base spare held [t0, t1, t2, t3, t4, t5, t6] [v0, v1, v2, v3, v4, v5, v6] [d0, d1, d2, d3, d4, d5, d6] (p0 ++ (p1 ++ (p2 ++ (p3 ++ (p4 ++ (p5 ++ p6)))))) :=
  ⟨p0, _, h0, ⟨p1, _, h1, trodAll_mk5 h2 h3 h4 h5 h6, rfl⟩, rfl⟩
end

end

section
open Go.RowKit

section
variable {c : Ca} {d : Int × Int} {nm : List UInt8} {q : Int} {set : Bool}
/-- The new mark. -/
abbrev newM (c : Ca) (d : Int × Int) (q : Int) : Mk := ⟨d.1, d.2, q, (timeC c).1⟩
theorem put_mark (h : putE c d nm q set = 0) (p : Int × Int) : markL (joinK c (putD c d nm q set)).2 nm p = if p = d then some (newM c d q) else none := by
  have hv := joinK_valid (putE_ok h).1 (putD_valid (c := c) (d := d) (nm := nm) (q := q) (set := set))
  rw [join_putD h] at hv ⊢
  have hg : Good (insN (remN c.2 nm) (nm, [newM c d q])) := (validK_iff.1 hv).2.1
  show markL (insN (remN c.2 nm) (nm, [newM c d q])) nm p = _
  rw [hg.find_ins nm p (rem_names c.2 nm), if_pos rfl]
  unfold markM
  by_cases e : p = d
  · subst e
    rw [List.find?_cons_of_pos (by simp [dotM]), if_pos rfl]
  · have e2 : ¬ d = p := fun k => e k.symm
    rw [List.find?_cons_of_neg (by simpa [dotM, newM] using e2), List.find?_nil, if_neg e]
/-- Joined with what has not seen the new dot and has no mark of this name, the item still has the new mark alone. -/
theorem two_qty (h : putE c d nm q set = 0) {y : Ca} (hy : validK y = true) (hyd : hasK y d = false) (hyn : ∀ p, markL y.2 nm p = none) : qtyC (joinK (joinK c (putD c d nm q set)) y) nm = (q, 0) := by
  have hx := joinK_valid (putE_ok h).1 (putD_valid (c := c) (d := d) (nm := nm) (q := q) (set := set))
  have hm : ∀ p, markL (joinK (joinK c (putD c d nm q set)) y).2 nm p = if p = d then some (newM c d q) else none := fun p => by
    show markL (joinI (joinK c (putD c d nm q set)) y) nm p = _
    rw [joinI_mark hx hy]
    unfold joinedK
    rw [put_mark h, hyn]
    by_cases e : p = d
    · subst e
      rw [if_pos rfl, hyd]; rfl
    · rw [if_neg e]; rfl
  refine (qty_one (m := newM c d q) (joinK_valid hx hy) ?_ fun p m' hp => ?_).1
  · rw [hm]; exact if_pos rfl
  · rw [hm] at hp
    by_cases e : p = d
    · rw [if_pos e] at hp; exact (Option.some.inj hp).symm
    · rw [if_neg e] at hp; cases hp
theorem rem_seen {other : List UInt8} (h : remE c other = 0) (hd : hasK c d = false) : hasK (remD c other) d = false := by
  have a1 := (remE_ok h).1
  rw [remD_t h, gone_has (dotsC_valid a1)]
  refine decide_eq_false fun hp => ?_
  rw [dotsC_t a1] at hp
  have := (dotsI_valid a1 (sub_dotsK hp)).1
  rw [hd] at this; cases this
theorem rem_mark {other n : List UInt8} (p : Int × Int) : markL (remD c other).2 n p = none := by
  by_cases h : remE c other = 0
  · rw [remD_t h]; rfl
  · rw [remD_f h]; rfl
theorem cle_seen (h : cleE c = 0) (hd : hasK c d = false) : hasK (cleD c) d = false := by
  have a1 := cleE_ok h
  rw [cleD_t h, gone_has (dotsC_valid a1)]
  refine decide_eq_false fun hp => ?_
  rw [dotsC_t a1] at hp
  have := (dotsI_valid a1 (sub_dotsK hp)).1
  rw [hd] at this; cases this
theorem cle_mark {n : List UInt8} (p : Int × Int) : markL (cleD c).2 n p = none := by
  by_cases h : cleE c = 0
  · rw [cleD_t h]; rfl
  · rw [cleD_f h]; rfl
theorem set_seen {f : Int × Int} {other : List UInt8} {k : Int} (h : putE c f other k set = 0) (hd : hasK c d = false) (hdf : d ≠ f) : hasK (putD c f other k set) d = false := by
  obtain ⟨a1, a2, _⟩ := putE_ok h
  rw [putD_t h, delta_has a2 (dotsC_valid a1)]
  refine decide_eq_false fun hp => ?_
  rcases hp with hp | hp
  · exact hdf hp
  · rw [dotsC_t a1] at hp
    have := (dotsI_valid a1 (sub_dotsK hp)).1
    rw [hd] at this; cases this
theorem set_mark {f : Int × Int} {other n : List UInt8} {k : Int} (hn : n ≠ other) (p : Int × Int) : markL (putD c f other k set).2 n p = none := by
  by_cases h : putE c f other k set = 0
  · rw [putD_t h, delta_mark, if_neg (fun e => hn e.1)]
  · rw [putD_f h]; rfl
end

end

section
open Go.RowKit

theorem foldJ_sizeT : ∀ {l : List Ca} {s : Ca} {n : Nat}, validK s = true → (∀ x ∈ l, validK x = true) → SizeK n s → (∀ x ∈ l, SizeK 3 x) → SizeK (n + 3 * l.length) (l.foldl joinK s)
  | [], s, n, _, _, h, _ => h
  | x :: l, s, n, hs, hv, h, hx => by
    have h1 := foldJ_sizeT (l := l) (joinK_valid hs (hv x (by simp))) (fun y hy => hv y (by simp [hy])) (joinK_size hs (hv x (by simp)) h (hx x (by simp))) (fun y hy => hx y (by simp [hy]))
    rw [List.foldl_cons, List.length_cons, show n + 3 * (l.length + 1) = n + 3 + 3 * l.length by omega]
    exact h1
theorem allV_sizeT {l : List Ca} (h : ∀ x ∈ l, SizeK 3 x) : SizeK (3 * l.length) (allV l) := by
  cases ho : okA l with
  | true =>
    rw [allV_t ho]
    have := foldJ_sizeT validK_zeroK (okA_iff.1 ho) SizeK.zero h
    rwa [Nat.zero_add] at this
  | false => rw [allV_f ho]; exact SizeK.mono SizeK.zero (Nat.zero_le _)

set_option maxRecDepth 100000 in
set_option maxHeartbeats 8000000 in
theorem joAll1T (A : Option Addr) (c : CaV) (cap : Nat) (w : World) (hx : CartsAt w A [c]) (hs : SizeK 3 c.ca) :
    Calls Tryz.prog 33 #[.slice A 1 cap] w (MadeE (allV [c.ca]) (allE [c.ca]) w) := by
  obtain ⟨b, off, c', rfl, hlt, hc', c0, c1, c2, hok⟩ := hx.at (j := 0) (by simp)
  obtain rfl : c = c' := by simpa using hc'
  rw [Nat.zero_mul, Nat.add_zero] at c0 c1 c2
  have K0 := Lib.hid (BlkC.new w zC)
  have hba := (Below.refl w.heap.size w).alloc (Nat.le_refl _) (.cells #[.slice none 0 0, .slice none 0 0, .slice none 0 0] 28)
  have HC := Lib.hid (hok.below hba)
  have HB := Lib.hid hba
  have hj := fun W (h : CaOK W c) => joJoin zC c 0 3 W (zC_ok W) h SizeK.zero hs (by omega) (by omega)
  rw [zC_ca, (allV_one c.ca).1, (allV_one c.ca).2] at hj
  have HJ := Lib.hid hj
  clear hx hc' hok hj hba
  go_enter Tryz.func33, Tryz.ntmps33
  go_wp2_with fail
  refine (HJ.out _ HC.out).mono ?_
  rintro e w2 ⟨⟨z, rfl, hz, ho⟩, hb⟩
  have K1 := Lib.hid (K0.out.below hb)
  have HB1 := Lib.hid (below_trans HB.out hb)
  have HO := Lib.hid (ho.le (Nat.le_of_lt K0.out.lt))
  have HZ := Lib.hid hz
  clear hz ho hb c0 c1 c2 hlt HB K0 HJ HC
  obtain ⟨r0, r1, r2, f0, f1, f2⟩ := results_zero K1.out
  go_wp2_with fail
  obtain ⟨s0, s1, s2⟩ := fill_cells K1.out z.v z.l z.i
  exact bodyPost_ret (v := .tuple #[.agg #[z.v, z.l, z.i], .int .i64 _]) (by simp [results, Tryz.results33, go_sem, s0, s1, s2]) rfl (MadeE.fill HZ.out HO.out K1.out HB1.out)

set_option maxRecDepth 100000 in
set_option maxHeartbeats 8000000 in
theorem joAllT : ∀ (N : Nat) (A : Option Addr) (cs : List CaV) (cap : Nat) (w : World), cs.length ≤ N → CartsAt w A cs → cs.length ≤ cap → cap ≤ maxLen → cs.length ≤ 3 → (∀ c ∈ cs, SizeK 3 c.ca) →
    Calls Tryz.prog 33 #[.slice A cs.length cap] w (MadeE (allV (cs.map (·.ca))) (allE (cs.map (·.ca))) w) := by
  intro N
  induction N with
  | zero =>
    intro A cs cap w hN hx hc hcm h7 hs
    obtain rfl : cs = [] := List.length_eq_zero_iff.1 (by omega)
    exact joAll0 A cap w
  | succ N ih =>
    intro A cs cap w hN hx hc hcm h7 hs
    match cs, hN, hx, hc, h7, hs with
    | [], hN, hx, hc, h7, hs => exact joAll0 A cap w
    | [c], hN, hx, hc, h7, hs => exact joAll1T A c cap w hx (hs c (by simp))
    | c0 :: c1 :: cs, hN, hx, hc, h7, hs =>
      generalize hcs : c0 :: c1 :: cs = l at *
      have hl2 : 2 ≤ l.length := by rw [← hcs]; simp
      clear hcs
      have hne0 : ¬ (l.length : Int) = 0 := by omega
      have hne1 : ¬ (l.length : Int) = 1 := by omega
      have hk1 : l.length / 2 ≤ l.length := by omega
      have hk2 : l.length / 2 ≤ cap := by omega
      have ht : (l.take (l.length / 2)).length = l.length / 2 := by rw [List.length_take]; omega
      have hd : (l.drop (l.length / 2)).length = l.length - l.length / 2 := List.length_drop
      have hi1 := fun W (h : CartsAt W A l) => ih A (l.take (l.length / 2)) cap W (by omega) (h.take _) (by omega) hcm (by omega) (fun c hc => hs c (List.mem_of_mem_take hc))
      have hi2 := fun W (h : CartsAt W A l) => ih (if cap = l.length / 2 then A else A.map (·.add (l.length / 2 * 3))) (l.drop (l.length / 2)) (cap - l.length / 2) W (by omega) (h.cut _ _ hc) (by omega) (by omega) (by omega) (fun c hc => hs c (List.mem_of_mem_drop hc))
      rw [ht] at hi1
      rw [hd, if_neg (show ¬ cap = l.length / 2 by omega)] at hi2
      have hs1 := allV_sizeT (l := (l.take (l.length / 2)).map (·.ca)) (fun x hx => by obtain ⟨c, hc, rfl⟩ := List.mem_map.1 hx; exact hs c (List.mem_of_mem_take hc))
      have hs2 := allV_sizeT (l := (l.drop (l.length / 2)).map (·.ca)) (fun x hx => by obtain ⟨c, hc, rfl⟩ := List.mem_map.1 hx; exact hs c (List.mem_of_mem_drop hc))
      rw [List.length_map] at hs1 hs2
      have happ : (l.map (·.ca)) = (l.take (l.length / 2)).map (·.ca) ++ (l.drop (l.length / 2)).map (·.ca) := by rw [← List.map_append, List.take_append_drop]
      rw [happ]
      generalize (l.take (l.length / 2)).map (·.ca) = x at *
      generalize (l.drop (l.length / 2)).map (·.ca) = y at *
      have HI1 := Lib.hid hi1
      have HI2 := Lib.hid hi2
      have HX := Lib.hid hx
      have hba := (Below.refl w.heap.size w).alloc (Nat.le_refl _) (.cells #[.slice none 0 0, .slice none 0 0, .slice none 0 0] 28)
      have K0 := Lib.hid (KK.new w zC (zC_ok w))
      have HX0 := Lib.hid (hx.below hba)
      clear hx ih hi1 hi2 hba happ
      cases hx1 : okA x with
      | false =>
        have hxy : okA (x ++ y) = false := by rw [okA_app, hx1]; rfl
        rw [allV_f hx1, allE_f hx1] at HI1
        rw [allV_f hxy, allE_f hxy]
        clear hx1 hxy
        go_enter Tryz.func33, Tryz.ntmps33
        go_wp2_with fail
        refine (HI1.out _ HX0.out).mono ?_
        rintro e w2 ⟨⟨z, rfl, hz, ho⟩, hb⟩
        have hBZ := (K0.out.next hb).blk (g := w.heap.size) (c := zC) (by simp)
        have HR := Lib.hid (fun o => (MadeE.fill (k := 2) (z := zC) rfl (OwnC.nil _ _) hBZ (K0.out.next hb).bel).alloc o)
        have HFA := Lib.hid (fun o => fill_alloc hBZ (.slice none 0 0) (.slice none 0 0) (.slice none 0 0) o)
        obtain ⟨r0, r1, r2, f0, f1, f2⟩ := results_zero hBZ
        have hlt := hBZ.lt
        clear hz ho hb HX0 K0 HI1 HI2 HX hBZ
        go_wp2_with fail
        obtain ⟨s0, s1, s2⟩ := HFA.out (.cells #[.slice z.V z.vs.length z.nv, .slice z.L z.ls.length z.nl, .slice z.I z.xs.length z.ni] 28)
        exact bodyPost_ret (v := .tuple #[.agg #[.slice none 0 0, .slice none 0 0, .slice none 0 0], .int .i64 2]) (by simp [results, Tryz.results33, go_sem, s0, s1, s2]) rfl (HR.out _)
      | true =>
        rw [allV_t hx1, allE_t hx1] at HI1
        rw [allV_t hx1] at hs1
        have HX1 := Lib.hid hx1
        cases hy1 : okA y with
        | false =>
          have hxy : okA (x ++ y) = false := by rw [okA_app, hy1]; simp
          rw [allV_f hy1, allE_f hy1] at HI2
          rw [allV_f hxy, allE_f hxy]
          clear hx1 hxy hy1
          go_enter Tryz.func33, Tryz.ntmps33
          go_wp2_with fail
          refine (HI1.out _ HX0.out).mono ?_
          rintro e w2 ⟨⟨z, rfl, hz, ho⟩, hb⟩
          have K1 := Lib.hid (KK.push (K0.out.next hb) z ho.ok _ rfl)
          have HX2 := Lib.hid ((HX0.out.below hb).below ((Below.refl _ _).alloc (Nat.le_refl _) (.cells #[z.v, z.l, z.i] 28)))
          clear hz ho hb HX0 K0 HI1 HX
          go_wp2_with fail
          refine (HI2.out _ HX2.out).mono ?_
          rintro e w4 ⟨⟨z2, rfl, hz, ho⟩, hb⟩
          have hBZ := (K1.out.next hb).blk (g := w.heap.size) (c := zC) (by simp)
          have HR := Lib.hid (fun o => (MadeE.fill (k := 2) (z := zC) rfl (OwnC.nil _ _) hBZ (K1.out.next hb).bel).alloc o)
          have HFA := Lib.hid (fun o => fill_alloc hBZ (.slice none 0 0) (.slice none 0 0) (.slice none 0 0) o)
          obtain ⟨r0, r1, r2, f0, f1, f2⟩ := results_zero hBZ
          have hlt := hBZ.lt
          clear hz ho hb HX2 K1 HI2 hBZ
          go_wp2_with fail
          obtain ⟨s0, s1, s2⟩ := HFA.out (.cells #[.slice z2.V z2.vs.length z2.nv, .slice z2.L z2.ls.length z2.nl, .slice z2.I z2.xs.length z2.ni] 28)
          exact bodyPost_ret (v := .tuple #[.agg #[.slice none 0 0, .slice none 0 0, .slice none 0 0], .int .i64 2]) (by simp [results, Tryz.results33, go_sem, s0, s1, s2]) rfl (HR.out _)
        | true =>
          obtain ⟨e1, e2⟩ := allV_app hx1 hy1
          have hxy : okA (x ++ y) = true := by rw [okA_app, hx1, hy1]; rfl
          have HY1 := Lib.hid hy1
          rw [allV_t hx1, allV_t hy1] at e1 e2
          rw [allV_t hy1, allE_t hy1] at HI2
          rw [allV_t hy1] at hs2
          rw [allE_t hxy, ← e1]
          have hjj := fun (z z2 : CaV) W (hz : z.ca = allK x) (hz2 : z2.ca = allK y) (h : CaOK W z) (h' : CaOK W z2) => joJoin z z2 (3 * (l.take (l.length / 2)).length) (3 * (l.drop (l.length / 2)).length) W h h' (hz ▸ hs1) (hz2 ▸ hs2) (by omega) (by omega)
          have hjj2 := fun (z z2 : CaV) W (hz : z.ca = allK x) (hz2 : z2.ca = allK y) (h : CaOK W z) (h' : CaOK W z2) => show Calls Tryz.prog 34 #[mkC z, mkC z2] W (MadeE (joinV (allK x) (allK y)) 0 W) from by
            have := hjj z z2 W hz hz2 h h'
            rw [hz, hz2, e2] at this
            exact this
          have HJ := Lib.hid hjj2
          generalize joinV (allK x) (allK y) = xy at *
          clear hx1 hxy hy1 e1 e2 hjj hjj2 HX1 HY1
          go_enter Tryz.func33, Tryz.ntmps33
          go_wp2_with fail
          refine (HI1.out _ HX0.out).mono ?_
          rintro e w2 ⟨⟨z, rfl, hz, ho⟩, hb⟩
          have K1 := Lib.hid (KK.push (K0.out.next hb) z ho.ok _ rfl)
          have HX2 := Lib.hid ((HX0.out.below hb).below ((Below.refl _ _).alloc (Nat.le_refl _) (.cells #[z.v, z.l, z.i] 28)))
          have HZ := Lib.hid hz
          clear hz ho hb HX0 K0 HI1 HX
          go_wp2_with fail
          obtain ⟨g1, hg1⟩ : ∃ g, w2.heap.size = g := ⟨_, rfl⟩
          rw [hg1] at K1 ⊢
          refine (HI2.out _ HX2.out).mono ?_
          rintro e w4 ⟨⟨z2, rfl, hz, ho⟩, hb⟩
          have K2 := Lib.hid (KK.push (K1.out.next hb) z2 ho.ok _ rfl)
          have hB1 := (K1.out.next hb).blk (g := g1) (c := z) (by simp)
          have t0 := hB1.cell0
          have t1 := hB1.cell1
          have t2 := hB1.cell2
          have tl := hB1.lt
          have HZ2 := Lib.hid hz
          clear hz ho hb HX2 K1 HI2 hB1 hg1
          go_wp2_with fail
          refine (HJ.out z z2 _ HZ.out HZ2.out (K2.out.ok (g := g1) (by simp)) (K2.out.ok (g := w4.heap.size) (by simp))).mono ?_
          rintro e w6 ⟨⟨z3, rfl, hz, ho⟩, hb⟩
          have hBZ := (K2.out.next hb).blk (g := w.heap.size) (c := zC) (by simp)
          have HR := Lib.hid (MadeE.fill (k := 0) hz (ho.le K2.out.bel.size) hBZ (K2.out.next hb).bel)
          have HFA := Lib.hid (fill_cells hBZ z3.v z3.l z3.i)
          obtain ⟨r0, r1, r2, f0, f1, f2⟩ := results_zero hBZ
          have hlt := hBZ.lt
          clear hz ho hb K2 HJ hBZ t0 t1 t2 tl HZ HZ2
          go_wp2_with fail
          obtain ⟨s0, s1, s2⟩ := HFA.out
          exact bodyPost_ret (v := .tuple #[.agg #[z3.v, z3.l, z3.i], .int .i64 0]) (by simp [results, Tryz.results33, go_sem, s0, s1, s2]) rfl HR.out

end

end Go.Proofs.YtiaehpdgpjhecaaGreat
