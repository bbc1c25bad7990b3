/- Several texts in one: ItmO, CarO, DelU, DelT, JoiRT, DelE, ItmQ. -/
import Derived.Test.YtiaehpdgpjhecaaGreatQAG
import Derived.ChangeMaps
import Derived.ChangeSlices
import Derived.Deep.SlicePairs
import Derived.Lib.SmallJoins
import Derived.ProofKit
import Derived.OpenShut
import Derived.ChangeOld
import Derived.Below
import Derived.Carry
import Derived.Test.YtiaehpdgpjhecaaGreatQAO
import Derived.Test.YtiaehpdgpjhecaaGreatQAK
import Derived.Test.YtiaehpdgpjhecaaGreatQBG
import Derived.Test.YtiaehpdgpjhecaaGreatQBJ
import Derived.Test.YtiaehpdgpjhecaaGreatQBK
import Derived.Test.YtiaehpdgpjhecaaGreatQAT
import Derived.Test.YtiaehpdgpjhecaaGreatQBD
import Derived.Test.YtiaehpdgpjhecaaGreatQBF
import Derived.Test.YtiaehpdgpjhecaaGreatQAS
namespace Go.Proofs.YtiaehpdgpjhecaaGreat

section
open Go.RowKit
open Go.ChangeShapes Go.WideShapes Go.ChangeAt

set_option maxRecDepth 1000000

theorem ownP : ownKnob Tryz.prog.godebug = none := by kernel_rfl
theorem laidP : laidOutB Tryz.prog = true := by kernel_rfl

theorem wfU {n : Int} (h : (Lit.int .u64 n).wf = true) : ∃ m : Nat, n = (m : Int) ∧ m < 18446744073709551616 := by
  have h1 : 0 ≤ n ∧ n ≤ IntKind.u64.max := by simpa [Lit.wf, IntKind.min, IntKind.bits, IntKind.signed] using h
  have h2 : IntKind.u64.max = 18446744073709551615 := by decide
  exact ⟨n.toNat, by omega, by omega⟩
theorem wfB {n : Int} (h : (Lit.int .u8 n).wf = true) : ∃ m : Nat, n = (m : Int) ∧ m < 256 := by
  have h1 : 0 ≤ n ∧ n ≤ IntKind.u8.max := by simpa [Lit.wf, IntKind.min, IntKind.bits, IntKind.signed] using h
  have h2 : IntKind.u8.max = 255 := by decide
  exact ⟨n.toNat, by omega, by omega⟩
theorem block_of_cell {w : World} {a : Addr} {v : Value} (h : w.cell? a = some v) : a.block < w.heap.size := by
  rcases Nat.lt_or_ge a.block w.heap.size with hlt | hge
  · exact hlt
  · simp [World.cell?, Array.getElem?_eq_none hge] at h

section
variable {H : Type} {enc : TypeId × Value → H} {W : World} {base b0 : Nat} {spare : Nat → Bool} {held : Bool} {v : Value} {d : DataW H} {p : List MemPlace} {t : TypeId}
/-- The four cells of a mark. -/
theorem open_markC {fuel : Nat} {x : DataW H × List MemPlace} {v0 v1 v2 v3 : Value} (h : DataW.trod enc Tryz.prog W base spare held fuel 55 [v0, v1, v2, v3] = some x) :
    ∃ m : Mk, v0 = .int .i64 m.r ∧ v1 = .int .i64 m.c ∧ v2 = .int .i64 m.q ∧ v3 = .int .u64 (m.t : Int) ∧ m.t < 18446744073709551616 := by
  obtain ⟨xs, k, hk, _, _, hxl, hfd⟩ := DataW.trod_struct Tryz.underlying55 h
  match xs, hxl with
  | [y0, y1, y2], _ =>
    have g0 := hfd 0 _ rfl
    have g1 := hfd 1 _ rfl
    have g2 := hfd 2 _ rfl
    have c0 : Tryz.prog.cellsOf 30 = 2 := by kernel_rfl
    have c1 : Tryz.prog.cellsOf 3 = 1 := by kernel_rfl
    have c2 : Tryz.prog.cellsOf 53 = 1 := by kernel_rfl
    simp [c0, c1, c2] at g0 g1 g2
    obtain ⟨zs, k2, hk2, _, _, hzl, hgd⟩ := DataW.trod_struct Tryz.underlying30 g0
    match zs, hzl with
    | [z0, z1], _ =>
      have q0 := hgd 0 _ rfl
      have q1 := hgd 1 _ rfl
      simp [c1] at q0 q1
      obtain ⟨r, hr, _, _⟩ := DataW.trod_int Tryz.underlying3 q0
      obtain ⟨c, hc, _, _⟩ := DataW.trod_int Tryz.underlying3 q1
      obtain ⟨q, hq, _, _⟩ := DataW.trod_int Tryz.underlying3 g1
      obtain ⟨t, ht, _, wt⟩ := DataW.trod_int Tryz.underlying53 g2
      injection hr with hr
      injection hc with hc
      injection hq with hq
      injection ht with ht
      obtain ⟨n, rfl, hn⟩ := wfU wt
      exact ⟨⟨r, c, q, n⟩, hr, hc, hq, ht, hn⟩
theorem open_marksF {fuel : Nat} {x : DataW H × List MemPlace} (ht : Tryz.prog.underlying t = some (.slice 55)) (hf : DataW.trod enc Tryz.prog W base spare held fuel t [v] = some x) :
    ∃ X cx, ∃ ms : List Mk, v = .slice X ms.length cx ∧ MarksAt W X ms ∧ ms.length ≤ cx ∧ cx ≤ maxLen ∧ ∀ m ∈ ms, m.t < 18446744073709551616 := by
  rcases Go.Deep.open_slice ht hf with ⟨hcs, _⟩ | ⟨a, len, cap, m, n, D, Pl, hcs, hb, hl, hm, hmm, _, hx⟩
  · obtain rfl : v = .slice none 0 0 := by simpa using hcs
    exact ⟨none, 0, [], rfl, SlAt.nil, by simp, by simp [maxLen], fun p hp => by cases hp⟩
  · obtain rfl : v = .slice (some a) len cap := by simpa using hcs
    have hlm : len ≤ m := by rw [hmm]; split <;> omega
    have each : ∀ i, ∃ p : Mk, i < len → W.cell? (a.add (i * 4)) = some (.int .i64 p.r) ∧ W.cell? (a.add (i * 4 + 1)) = some (.int .i64 p.c) ∧ W.cell? (a.add (i * 4 + 2)) = some (.int .i64 p.q) ∧ W.cell? (a.add (i * 4 + 3)) = some (.int .u64 (p.t : Int)) ∧ p.t < 18446744073709551616 := by
      intro i
      by_cases hi : i < len
      · obtain ⟨cs', h1, h2⟩ := hx i (by omega)
        rw [show Tryz.prog.cellsOf 55 = 4 from by kernel_rfl] at h1
        obtain ⟨_, hlen, hcell⟩ := World.cells?_some h1
        match cs', hlen with
        | [v0, v1, v2, v3], _ =>
          have e0 := hcell 0 (by omega)
          have e1 := hcell 1 (by omega)
          have e2 := hcell 2 (by omega)
          have e3 := hcell 3 (by omega)
          rw [Go.Deep.add_add] at e0 e1 e2 e3
          obtain ⟨q, q0, q1, q2, q3, hq⟩ := open_markC h2
          subst q0 q1 q2 q3
          exact ⟨q, fun _ => ⟨by simpa using e0, by simpa using e1, by simpa using e2, by simpa using e3, hq⟩⟩
      · exact ⟨Mk.zero, fun h => absurd h hi⟩
    obtain ⟨q, hq⟩ := Classical.axiomOfChoice each
    have hlen : ((List.range len).map q).length = len := by simp
    refine ⟨some a, cap, (List.range len).map q, by rw [hlen], ?_, by rw [hlen]; exact hl, hm, ?_⟩
    · intro hpos
      rw [hlen] at hpos
      obtain ⟨b, off, spot⟩ := a
      have hspot : spot = none := by simpa [Addr.add] using World.cell?_spot (hq 0 hpos).1
      subst hspot
      refine ⟨b, off, rfl, block_of_cell (hq 0 hpos).1, ?_⟩
      intro j x hjx i u hiu
      have hj : j < len := by
        rcases Nat.lt_or_ge j len with h | h
        · exact h
        · rw [List.getElem?_eq_none (by rw [hlen]; exact h)] at hjx; cases hjx
      have hxq : x = q j := by
        rw [List.getElem?_map, List.getElem?_range hj] at hjx
        exact (Option.some.inj hjx).symm
      subst hxq
      obtain ⟨g0, g1, g2, g3, _⟩ := hq j hj
      rw [add_plain] at g0 g1 g2 g3
      match i, hiu with
      | 0, hiu =>
        have e : Value.int .i64 (q j).r = u := Option.some.inj hiu
        rw [← e, ← g0]; rfl
      | 1, hiu =>
        have e : Value.int .i64 (q j).c = u := Option.some.inj hiu
        rw [← e, ← g1]; rfl
      | 2, hiu =>
        have e : Value.int .i64 (q j).q = u := Option.some.inj hiu
        rw [← e, ← g2]; rfl
      | 3, hiu =>
        have e : Value.int .u64 ((q j).t : Int) = u := Option.some.inj hiu
        rw [← e, ← g3]; rfl
      | i + 4, hiu => exact absurd hiu (by simp [encM])
    · intro p hp
      obtain ⟨j, hj, rfl⟩ := List.mem_map.1 hp
      obtain ⟨_, _, _, _, g4⟩ := hq j (List.mem_range.1 hj)
      exact g4
/-- The two cells of an item. -/
theorem open_itemC {fuel : Nat} {x : DataW H × List MemPlace} {v0 v1 : Value} (h : DataW.trod enc Tryz.prog W base spare held fuel 50 [v0, v1] = some x) :
    ∃ y : ItV, v0 = .string ⟨y.nm.toArray⟩ ∧ v1 = .slice y.A y.ms.length y.c ∧ ItOK W y ∧ ∀ m ∈ y.ms, m.t < 18446744073709551616 := by
  obtain ⟨xs, k, hk, _, _, hxl, hfd⟩ := DataW.trod_struct Tryz.underlying50 h
  match xs, hxl with
  | [y0, y1], _ =>
    have g0 := hfd 0 _ rfl
    have g1 := hfd 1 _ rfl
    have c0 : Tryz.prog.cellsOf 9 = 1 := by kernel_rfl
    have c1 : Tryz.prog.cellsOf 48 = 1 := by kernel_rfl
    simp [c0, c1] at g0 g1
    obtain ⟨s, hs, _, _⟩ := DataW.trod_string Tryz.underlying9 g0
    obtain ⟨A, c, ms, hv, hat, h1, h2, h3⟩ := open_marksF Tryz.underlying48 g1
    injection hs with hs
    refine ⟨⟨s.data.toList, A, c, ms⟩, ?_, hv, ⟨hat, h1, h2⟩, h3⟩
    rw [hs]
theorem open_itemsF {fuel : Nat} {x : DataW H × List MemPlace} (ht : Tryz.prog.underlying t = some (.slice 50)) (hf : DataW.trod enc Tryz.prog W base spare held fuel t [v] = some x) :
    ∃ xs : List ItV, HoldsX W v xs ∧ ∀ y ∈ xs, ∀ m ∈ y.ms, m.t < 18446744073709551616 := by
  rcases Go.Deep.open_slice ht hf with ⟨hcs, _⟩ | ⟨a, len, cap, m, n, D, Pl, hcs, hb, hl, hm, hmm, _, hx⟩
  · obtain rfl : v = .slice none 0 0 := by simpa using hcs
    exact ⟨[], HoldsX.nil _, fun p hp => by cases hp⟩
  · obtain rfl : v = .slice (some a) len cap := by simpa using hcs
    have hlm : len ≤ m := by rw [hmm]; split <;> omega
    have each : ∀ i, ∃ y : ItV, i < len → W.cell? (a.add (i * 2)) = some (.string ⟨y.nm.toArray⟩) ∧ W.cell? (a.add (i * 2 + 1)) = some (.slice y.A y.ms.length y.c) ∧ ItOK W y ∧ ∀ m ∈ y.ms, m.t < 18446744073709551616 := by
      intro i
      by_cases hi : i < len
      · obtain ⟨cs', h1, h2⟩ := hx i (by omega)
        rw [show Tryz.prog.cellsOf 50 = 2 from by kernel_rfl] at h1
        obtain ⟨_, hlen, hcell⟩ := World.cells?_some h1
        match cs', hlen with
        | [v0, v1], _ =>
          have e0 := hcell 0 (by omega)
          have e1 := hcell 1 (by omega)
          rw [Go.Deep.add_add] at e0 e1
          obtain ⟨y, q0, q1, hok, hq⟩ := open_itemC h2
          subst q0 q1
          exact ⟨y, fun _ => ⟨by simpa using e0, by simpa using e1, hok, hq⟩⟩
      · exact ⟨⟨[], none, 0, []⟩, fun h => absurd h hi⟩
    obtain ⟨q, hq⟩ := Classical.axiomOfChoice each
    have hlen : ((List.range len).map q).length = len := by simp
    refine ⟨(List.range len).map q, ⟨some a, cap, by rw [hlen], ⟨?_, ?_⟩, by rw [hlen]; exact hl, hm⟩, ?_⟩
    · intro hpos
      rw [hlen] at hpos
      obtain ⟨b, off, spot⟩ := a
      have hspot : spot = none := by simpa [Addr.add] using World.cell?_spot (hq 0 hpos).1
      subst hspot
      refine ⟨b, off, rfl, block_of_cell (hq 0 hpos).1, ?_⟩
      intro j x hjx i u hiu
      have hj : j < len := by
        rcases Nat.lt_or_ge j len with h | h
        · exact h
        · rw [List.getElem?_eq_none (by rw [hlen]; exact h)] at hjx; cases hjx
      have hxq : x = q j := by
        rw [List.getElem?_map, List.getElem?_range hj] at hjx
        exact (Option.some.inj hjx).symm
      subst hxq
      obtain ⟨g0, g1, _⟩ := hq j hj
      rw [add_plain] at g0 g1
      match i, hiu with
      | 0, hiu =>
        have e : Value.string ⟨(q j).nm.toArray⟩ = u := Option.some.inj hiu
        rw [← e, ← g0]; rfl
      | 1, hiu =>
        have e : Value.slice (q j).A (q j).ms.length (q j).c = u := Option.some.inj hiu
        rw [← e, ← g1]; rfl
      | i + 2, hiu => exact absurd hiu (by simp [encIt])
    · intro y hy
      obtain ⟨j, hj, rfl⟩ := List.mem_map.1 hy
      exact (hq j (List.mem_range.1 hj)).2.2.1
    · intro y hy
      obtain ⟨j, hj, rfl⟩ := List.mem_map.1 hy
      exact (hq j (List.mem_range.1 hj)).2.2.2
theorem open_dot9 (hv : Value.okWide Tryz.prog W .any b0 30 v) (h : DataW.Trod enc Tryz.prog W base spare held 30 v d p) :
    ∃ r c, v = .agg #[.int .i64 r, .int .i64 c] := by
  obtain ⟨v0, v1, y0, y1, n, rfl, _, _, h0, h1⟩ := Go.Joins.open_agg2 Tryz.underlying30 (by kernel_rfl) (by kernel_rfl) hv h
  obtain ⟨r, hr, _, _⟩ := DataW.trod_int Tryz.underlying3 h0
  obtain ⟨c, hc, _, _⟩ := DataW.trod_int Tryz.underlying3 h1
  cases hr
  cases hc
  exact ⟨r, c, rfl⟩
end
theorem str_list9 (s : ByteArray) : s = ⟨s.data.toList.toArray⟩ := by cases s; simp

end

section
open Go.RowKit
open Go.ChangeShapes Go.WideShapes Go.ChangeAt

set_option maxRecDepth 1000000

section
variable {H : Type} {enc : TypeId × Value → H} {W : World} {base b0 : Nat} {spare : Nat → Bool} {held : Bool} {v : Value} {d : DataW H} {p : List MemPlace} {t : TypeId}
theorem wf64 {n : Int} (h : (Lit.int .i64 n).wf = true) : -9223372036854775808 ≤ n ∧ n ≤ 9223372036854775807 := by
  simpa [Lit.wf, IntKind.min, IntKind.bits, IntKind.signed] using h

/-- A slice of dots, whatever its own type, by the reading of its one cell. -/
theorem open_dotsF {fuel : Nat} {x : DataW H × List MemPlace} (ht : Tryz.prog.underlying t = some (.slice 30)) (hf : DataW.trod enc Tryz.prog W base spare held fuel t [v] = some x) :
    ∃ A c, ∃ zs : List WD, v = .slice A (zs.map (·.1)).length c ∧ Holds W v (zs.map (·.1)) := by
  rcases Go.Deep.open_slice_pairs ht Tryz.underlying30 (by kernel_rfl) rfl rfl (by kernel_rfl) (by kernel_rfl) hf with ⟨hcs, _⟩ | ⟨a, len0, cap0, m, n, V0, V1, D0, D1, P0, P1, hcs, _, hl, hm, hmm, _, hx⟩
  · obtain rfl : v = .slice none 0 0 := by simpa using hcs
    exact ⟨none, 0, [], rfl, Holds.nil _⟩
  · obtain rfl : v = .slice (some a) len0 cap0 := by simpa using hcs
    have hlm : len0 ≤ m := by rw [hmm]; split <;> omega
    have each : ∀ i, ∃ q : WD, i < len0 → W.cell? (a.add (i * 2)) = some (.int .i64 q.1.1) ∧ W.cell? (a.add (i * 2 + 1)) = some (.int .i64 q.1.2) := by
      intro i
      by_cases hi : i < len0
      · obtain ⟨h0, h1, h2, h3⟩ := hx i (by omega)
        obtain ⟨r, hr, _, wr⟩ := DataW.trod_int Tryz.underlying3 h2
        obtain ⟨c, hc, _, wc⟩ := DataW.trod_int Tryz.underlying3 h3
        injection hr with hr
        injection hc with hc
        exact ⟨⟨(r, c), (wf64 wr).1, (wf64 wr).2, (wf64 wc).1, (wf64 wc).2⟩, fun _ => ⟨by rw [h0, hr], by rw [h1, hc]⟩⟩
      · exact ⟨default, fun h => absurd h hi⟩
    obtain ⟨q, hq⟩ := Classical.axiomOfChoice each
    have hlen : (((List.range len0).map q).map (·.1)).length = len0 := by simp
    refine ⟨some a, cap0, (List.range len0).map q, by rw [hlen], some a, cap0, by rw [hlen], ?_, by rw [hlen]; exact hl, hm⟩
    intro hpos
    rw [hlen] at hpos
    obtain ⟨b, off, spot⟩ := a
    have hspot : spot = none := by simpa [Addr.add] using World.cell?_spot (hq 0 hpos).1
    subst hspot
    refine ⟨b, off, rfl, block_of_cell (hq 0 hpos).1, ?_⟩
    intro j x hjx i u hiu
    have hj : j < len0 := by
      rcases Nat.lt_or_ge j len0 with h | h
      · exact h
      · rw [List.getElem?_eq_none (by rw [hlen]; exact h)] at hjx; cases hjx
    have hxq : x = (q j).1 := by
      rw [List.getElem?_map, List.getElem?_map, List.getElem?_range hj] at hjx
      exact (Option.some.inj hjx).symm
    subst hxq
    obtain ⟨g0, g1⟩ := hq j hj
    rw [add_plain] at g0 g1
    match i, hiu with
    | 0, hiu =>
      have e : Value.int .i64 (q j).1.1 = u := Option.some.inj hiu
      rw [← e, ← g0]; rfl
    | 1, hiu =>
      have e : Value.int .i64 (q j).1.2 = u := Option.some.inj hiu
      rw [← e, ← g1]; rfl
    | i + 2, hiu => exact absurd hiu (by simp [encD])

/-- A cart that comes in, opened. -/
theorem open_cart (hv : Value.okWide Tryz.prog W .any b0 28 v) (h : DataW.Trod enc Tryz.prog W base spare held 28 v d p) :
    ∃ c : CaV, v = mkC c ∧ CaOK W c ∧ ∀ m ∈ marksX c.xs, m.t < 18446744073709551616 := by
  obtain ⟨cs, rfl, hsz⟩ := okWide_struct Tryz.underlying28 hv
  have hC : Tryz.prog.cellsOf 28 = 3 := by kernel_rfl
  rw [hC] at hsz
  obtain ⟨fuel, hf⟩ := h
  obtain ⟨l⟩ := cs
  match l, hsz with
  | [v0, v1, v2], _ =>
    have hf' : DataW.trod enc Tryz.prog W base spare held fuel 28 [v0, v1, v2] = some (d, p) := by simpa [Value.cells] using hf
    obtain ⟨xs, k, hk, _, _, hxl, hfd⟩ := DataW.trod_struct Tryz.underlying28 hf'
    match xs, hxl with
    | [y0, y1], _ =>
      have g0 := hfd 0 _ rfl
      have g1 := hfd 1 _ rfl
      have c0 : Tryz.prog.cellsOf 25 = 2 := by kernel_rfl
      have c1 : Tryz.prog.cellsOf 26 = 1 := by kernel_rfl
      have c2 : Tryz.prog.cellsOf 23 = 1 := by kernel_rfl
      have c3 : Tryz.prog.cellsOf 22 = 1 := by kernel_rfl
      simp [c0, c1] at g0 g1
      obtain ⟨zs, k2, hk2, _, _, hzl, hgd⟩ := DataW.trod_struct Tryz.underlying25 g0
      match zs, hzl with
      | [z0, z1], _ =>
        have q0 := hgd 0 _ rfl
        have q1 := hgd 1 _ rfl
        simp [c2, c3] at q0 q1
        obtain ⟨A, a, us, rfl, hA⟩ := open_dotsF Tryz.underlying23 q0
        obtain ⟨B, b, ls, rfl, hB⟩ := open_dotsF Tryz.underlying22 q1
        obtain ⟨ys, hY, ht⟩ := open_itemsF Tryz.underlying26 g1
        obtain ⟨C, c, rfl, hc⟩ := hY
        refine ⟨⟨A, a, us.map (·.1), B, b, ls.map (·.1), C, c, ys⟩, rfl, ⟨hA, hB, C, c, rfl, hc⟩, fun m hm => ?_⟩
        obtain ⟨y, hy, hym⟩ := List.mem_flatMap.1 hm
        exact ht y hy m hym
end

end

section
open Go.RowKit
open Go.ChangeShapes Go.WideShapes Go.ChangeAt

theorem delOK : DelOK where
  add := fun c r s nm q W hc hf hl => delAdd c r s nm q W hc hf hl
  set := fun c r s nm q W hc hf hl => delSet c r s nm q W hc hf hl
  rem := fun c nm W hc hf hl => delRemove c nm W hc hf.k hl
  cle := fun c W hc hf => delClear c W hc hf.k
  emp := fun c b W hc hm hb => delEmpty c b W hc hm hb
  fre := fun c r s b W hc hf hb => delFresh c r s b W hc hf.k hb
theorem known12T : KnownD := known12 delOK

section
variable {H : Type} {enc : TypeId × Value → H} {P : Program} {w : World} {base : Nat} {spare : Nat → Bool} {held : Bool}
theorem trodAll_five {t0 t1 t2 t3 t4 : TypeId} {args : Array Value} {ds : List (DataW H)} {ps : List MemPlace} (h : DataW.TrodAll enc P w base spare held [t0, t1, t2, t3, t4] args.toList ds ps) :
    ∃ v0 v1 v2 v3 v4 d0 d1 d2 d3 d4 p0 p1 p2 p3 p4, args = #[v0, v1, v2, v3, v4] ∧ ds = [d0, d1, d2, d3, d4] ∧ ps = p0 ++ (p1 ++ (p2 ++ (p3 ++ p4))) ∧
      DataW.Trod enc P w base spare held t0 v0 d0 p0 ∧ DataW.Trod enc P w base spare held t1 v1 d1 p1 ∧ DataW.Trod enc P w base spare held t2 v2 d2 p2 ∧ DataW.Trod enc P w base spare held t3 v3 d3 p3 ∧ DataW.Trod enc P w base spare held t4 v4 d4 p4 := by
  obtain ⟨v0, r0, d0, e0, p0, q0, ha, rfl, rfl, h0, g0⟩ := trodAll_cons h
  obtain ⟨v1, r1, d1, e1, p1, q1, rfl, rfl, rfl, h1, g1⟩ := trodAll_cons g0
  obtain ⟨v2, r2, d2, e2, p2, q2, rfl, rfl, rfl, h2, g2⟩ := trodAll_cons g1
  obtain ⟨v3, r3, d3, e3, p3, q3, rfl, rfl, rfl, h3, g3⟩ := trodAll_cons g2
  obtain ⟨v4, r4, d4, e4, p4, q4, rfl, rfl, rfl, h4, g4⟩ := trodAll_cons g3
  obtain ⟨rfl, rfl, rfl⟩ := trodAll_nil g4
  exact ⟨v0, v1, v2, v3, v4, d0, d1, d2, d3, d4, p0, p1, p2, p3, p4, by cases args; simp_all, rfl, by simp, h0, h1, h2, h3, h4⟩
theorem trodAll_mk5 {t0 t1 t2 t3 t4 : TypeId} {v0 v1 v2 v3 v4 : Value} {d0 d1 d2 d3 d4 : DataW H} {p0 p1 p2 p3 p4 : List MemPlace} (h0 : DataW.Trod enc P w base spare held t0 v0 d0 p0) (h1 : DataW.Trod enc P w base spare held t1 v1 d1 p1)
    (h2 : DataW.Trod enc P w base spare held t2 v2 d2 p2) (h3 : DataW.Trod enc P w base spare held t3 v3 d3 p3) (h4 : DataW.Trod enc P w base spare held t4 v4 d4 p4) :
    DataW.TrodAll enc P w base spare held [t0, t1, t2, t3, t4] [v0, v1, v2, v3, v4] [d0, d1, d2, d3, d4] (p0 ++ (p1 ++ (p2 ++ (p3 ++ p4)))) :=
  ⟨p0, _, h0, trodAll_mk4 h1 h2 h3 h4, rfl⟩
end

end

section
open Go.RowKit

section
variable {c : Ca} {d : Int × Int} {nm : List UInt8} {q : Int} {set : Bool}
/-- The new mark. -/
abbrev newM (c : Ca) (d : Int × Int) (q : Int) : Mk := ⟨d.1, d.2, q, (timeC c).1⟩
theorem put_mark (h : putE c d nm q set = 0) (p : Int × Int) : markL (joinK c (putD c d nm q set)).2 nm p = if p = d then some (newM c d q) else none := by
  have hv := joinK_valid (putE_ok h).1 (putD_valid (c := c) (d := d) (nm := nm) (q := q) (set := set))
  rw [join_putD h] at hv ⊢
  have hg : Good (insN (remN c.2 nm) (nm, [newM c d q])) := (validK_iff.1 hv).2.1
  show markL (insN (remN c.2 nm) (nm, [newM c d q])) nm p = _
  rw [hg.find_ins nm p (rem_names c.2 nm), if_pos rfl]
  unfold markM
  by_cases e : p = d
  · subst e
    rw [List.find?_cons_of_pos (by simp [dotM]), if_pos rfl]
  · have e2 : ¬ d = p := fun k => e k.symm
    rw [List.find?_cons_of_neg (by simpa [dotM, newM] using e2), List.find?_nil, if_neg e]
/-- What joining the delta of Add or Set leaves to be found. -/
theorem put_found (h : putE c d nm q set = 0) : qtyC (joinK c (putD c d nm q set)) nm = (q, 0) ∧ (joinK c (putD c d nm q set)).2.find? (fun x => x.1 == nm) = some (nm, [newM c d q]) := by
  have hx := joinK_valid (putE_ok h).1 (putD_valid (c := c) (d := d) (nm := nm) (q := q) (set := set))
  refine qty_one (m := newM c d q) hx ?_ fun p m' hp => ?_
  · rw [put_mark h]; exact if_pos rfl
  · rw [put_mark h] at hp
    by_cases e : p = d
    · rw [if_pos e] at hp; exact (Option.some.inj hp).symm
    · rw [if_neg e] at hp; cases hp
theorem put_fresh (h : putE c d nm q set = 0) : freshK c d = true ∧ freshK (joinK c (putD c d nm q set)) d = false := by
  obtain ⟨a1, a2, a3, _⟩ := putE_ok h
  refine ⟨fresh_iff.2 ⟨a1, a2, a3⟩, ?_⟩
  cases hf : freshK (joinK c (putD c d nm q set)) d with
  | false => rfl
  | true =>
    have := (fresh_iff.1 hf).2.2
    rw [joinK_has a1 putD_valid, putD_t h, delta_has a2 (dotsC_valid a1)] at this
    simp at this
theorem put_items (h : putE c d nm q set = 0) : validL c.2 = true ∧ okI (nm, [newM c d q]) = true ∧ ((remN c.2 nm).any fun y => meetN y.2 [newM c d q]) = false := by
  obtain ⟨a1, a2, a3, a4, _, _, _, _, a9⟩ := putE_ok h
  have hg := (validK_iff.1 a1).2.1
  refine ⟨validL_good.2 hg, okI_one a4 a9, ?_⟩
  rw [List.any_eq_false]
  intro y hy hm
  refine absurd hm (by
    rw [Bool.not_eq_true]
    exact meet_no.2 fun a ha b hb => by
      have hb : b = d := by simpa [dotsM, dotM, newM] using hb
      subst hb
      rintro rfl
      obtain ⟨m, hm, he⟩ := List.mem_map.1 ha
      have := (dotsI_valid a1 (mem_dotsI.2 ⟨y, (mem_remN.1 hy).1, m, hm, he⟩)).1
      rw [a3] at this; cases this)
end

end

section
open Go.RowKit

end

section
open Go.RowKit

/-- Carts in boxes, dots in boxes. -/
structure KKE (w : World) (L : List (Nat × CaV)) (D : List (Nat × Int × Int)) (W : World) : Prop where
  kk : KK w L W
  dot : ∀ p ∈ D, W.heap[p.1]? = some (.cells #[.int .i64 p.2.1, .int .i64 p.2.2] 30 (0, 0))
/-- And a box of a cart that is to be filled. -/
structure KYE (w : World) (L : List (Nat × CaV)) (D : List (Nat × Int × Int)) (g : Nat) (W : World) : Prop where
  k : KKE w L D W
  y : BlkC W g zC
  ge : w.heap.size ≤ g
section
variable {w W W' : World} {L : List (Nat × CaV)} {D : List (Nat × Int × Int)} {g : Nat} {r s : Int}
theorem KKE.next (h : KKE w L D W) (hb : Below W.heap.size W W') : KKE w L D W' := ⟨h.kk.next hb, fun p hp => (hb.block _ (Array.getElem?_eq_some_iff.1 (h.dot p hp)).1).trans (h.dot p hp)⟩
theorem KKE.dot2 (h : KKE w L D W) {g : Nat} {r s : Int} (hm : (g, r, s) ∈ D) : W.cell? ⟨g, 0, none⟩ = some (.int .i64 r) ∧ W.cell? ⟨g, 1, none⟩ = some (.int .i64 s) ∧ g < W.heap.size := by
  have := h.dot _ hm
  exact ⟨by simp only [World.cell?, this]; rfl, by simp only [World.cell?, this]; rfl, (Array.getElem?_eq_some_iff.1 this).1⟩
theorem KKE.push (h : KKE w L D W) (z : CaV) (hz : CaOK W z) : KKE w (L ++ [(W.heap.size, z)]) D (W.alloc (.cells #[z.v, z.l, z.i] 28)) := ⟨h.kk.push z hz _ rfl, (h.next ((Below.refl _ W).alloc (Nat.le_refl _) _)).dot⟩
theorem KYE.new (h : KKE w L D W) (hg : W.heap.size = g) : KYE w L D g (W.alloc (.cells #[.slice none 0 0, .slice none 0 0, .slice none 0 0] 28)) := by
  subst hg
  exact ⟨h.next ((Below.refl _ W).alloc (Nat.le_refl _) _), BlkC.new W zC, h.kk.bel.size⟩
theorem KYE.next (h : KYE w L D g W) (hb : Below W.heap.size W W') : KYE w L D g W' := ⟨h.k.next hb, h.y.below hb, h.ge⟩
theorem KYE.ycells (h : KYE w L D g W) : W.cell? ⟨g, 0, none⟩ = some (.slice none 0 0) ∧ W.cell? ⟨g, 1, none⟩ = some (.slice none 0 0) ∧ W.cell? ⟨g, 2, none⟩ = some (.slice none 0 0) ∧ W.frozen? ⟨g, 0, none⟩ = false ∧ W.frozen? ⟨g, 1, none⟩ = false ∧ W.frozen? ⟨g, 2, none⟩ = false ∧ g < W.heap.size := ⟨h.y.cell0, h.y.cell1, h.y.cell2, h.y.frozen _, h.y.frozen _, h.y.frozen _, h.y.lt⟩
theorem KYE.fill (h : KYE w L D g W) (z : CaV) (hz : CaOK W z) (hL : ∀ p ∈ L, p.1 ≠ g) (hD : ∀ p ∈ D, p.1 ≠ g) : KKE w (L ++ [(g, z)]) D (((W.setCell ⟨g, 0, none⟩ z.v).setCell ⟨g, 1, none⟩ z.l).setCell ⟨g, 2, none⟩ z.i) := by
  obtain ⟨_, t2, t3⟩ := store_cart h.y hz
  have hk : ∀ k, k ≠ g → (((W.setCell ⟨g, 0, none⟩ z.v).setCell ⟨g, 1, none⟩ z.l).setCell ⟨g, 2, none⟩ z.i).heap[k]? = W.heap[k]? := fun k hk => set3_other W g k _ _ _ hk
  refine ⟨⟨fun p hp => ?_, below_fill h.k.kk.bel h.ge _ _ _⟩, fun p hp => (hk _ (hD p hp)).trans (h.k.dot p hp)⟩
  rcases List.mem_append.1 hp with hp | hp
  · have := h.k.kk.box p hp
    exact ⟨(hk _ (hL p hp)).trans this.1, this.2.off_only h.y (by simp) hk⟩
  · obtain rfl : p = (g, z) := by simpa using hp
    exact ⟨t2, t3⟩
end
theorem KKE.start (w : World) (c : CaV) (r s r2 s2 : Int) (hc : CaOK w c) : KKE w [(w.heap.size, c)] [(w.heap.size + 1, r, s), (w.heap.size + 2, r2, s2)] (((w.alloc (.cells #[c.v, c.l, c.i] 28)).alloc (.cells #[.int .i64 r, .int .i64 s] 30)).alloc (.cells #[.int .i64 r2, .int .i64 s2] 30)) := by
  have h0 := KFr.new w c r s hc
  have hal := (Below.refl _ ((w.alloc (.cells #[c.v, c.l, c.i] 28)).alloc (.cells #[.int .i64 r, .int .i64 s] 30))).alloc (Nat.le_refl _) (.cells #[.int .i64 r2, .int .i64 s2] 30)
  have h1 := h0.next hal
  have hn := heap_alloc_new ((w.alloc (.cells #[c.v, c.l, c.i] 28)).alloc (.cells #[.int .i64 r, .int .i64 s] 30)) (.cells #[.int .i64 r2, .int .i64 s2] 30)
  rw [World.size_alloc, World.size_alloc] at hn
  refine ⟨⟨fun p hp => ?_, h1.bel⟩, fun p hp => ?_⟩
  · obtain rfl : p = (w.heap.size, c) := by simpa using hp
    exact ⟨h1.cart, h1.ok⟩
  · simp only [List.mem_cons, List.not_mem_nil, or_false] at hp
    rcases hp with rfl | rfl
    · exact h1.dot
    · exact hn
theorem pass_sum : ∀ (l v rest : List (Int × Int)), (passC v rest l).1.length + (passC v rest l).2.length ≤ v.length + rest.length + l.length
  | [], v, rest => by simp [passC]
  | d :: l, v, rest => by
    unfold passC
    by_cases h : hasV v d.1 d.2 = true
    · rw [if_pos h]; have := pass_sum l v rest; simp only [List.length_cons]; omega
    · rw [if_neg h]
      by_cases h2 : d.2 = getV v d.1 + 1
      · rw [if_pos h2]; have := pass_sum l (raiseV v d) rest; have := raiseV_len v d; simp only [List.length_cons]; omega
      · rw [if_neg h2]; have := pass_sum l v (rest ++ [d]); simp only [List.length_cons, List.length_append, List.length_nil] at *; omega
theorem compN_sum : ∀ (n : Nat) (v l : List (Int × Int)), (compN n v l).1.length + (compN n v l).2.length ≤ v.length + l.length
  | 0, v, l => by simp [compN]
  | n + 1, v, l => by
    unfold compN
    split
    · exact Nat.le_refl _
    · have h1 := compN_sum n (passC v [] l).1 (passC v [] l).2
      have h2 := pass_sum l v []
      simp only [List.length_nil] at h2
      omega
theorem addC_sum (v l m : List (Int × Int)) : (addC v l m).1.length + (addC v l m).2.length ≤ v.length + l.length + m.length := by
  have h1 := compN_sum (setL (l ++ m)).length v (setL (l ++ m))
  have h2 := setL_len (l ++ m)
  rw [List.length_append] at h2
  unfold addC compactC
  omega
theorem goneC_size (l : List (Int × Int)) : (addC [] [] l).1.length + (addC [] [] l).2.length ≤ l.length := by
  have := addC_sum [] [] l
  simpa using this
theorem dots_len {c : CaV} (h : SizeK 1 c.ca) (nm : List UInt8) : (dotsC c.ca nm).length ≤ 200 := by
  unfold dotsC
  split
  · have h1 := dotsI_cnt (its c.xs)
    have h2 := h.cnt
    rw [ca_x] at h2
    exact dotsK_le (FitsP.of h h (by omega) (by omega)).kc.1 (by omega) (by omega)
  · simp
theorem gone_size {l : List (Int × Int)} (h : l.length ≤ 240) : SizeK 3 (goneD l) := by
  have h1 := goneC_size l
  exact ⟨by show (addC [] [] l).1.length + (addC [] [] l).2.length ≤ 80 * 3; omega, Nat.zero_le _, Nat.zero_le _, fun x hx => by cases hx⟩
theorem putD_size {c : CaV} (h : SizeK 1 c.ca) {d : Int × Int} {nm : List UInt8} {q : Int} {set : Bool} (hn : nm.length ≤ 100) : SizeK 3 (putD c.ca d nm q set) := by
  unfold putD
  split
  · have h1 := goneC_size (d :: dotsC c.ca nm)
    have h2 := dots_len h nm
    rw [List.length_cons] at h1
    exact ⟨by show (addC [] [] (d :: dotsC c.ca nm)).1.length + (addC [] [] (d :: dotsC c.ca nm)).2.length ≤ 80 * 3; omega, by simp [deltaD], by simp [deltaD, cntM], fun x hx => by
      obtain rfl : x = (nm, [⟨d.1, d.2, q, (timeC c.ca).1⟩]) := List.mem_singleton.1 hx
      exact ⟨hn, by simp⟩⟩
  · exact SizeK.mono SizeK.zero (by omega)
theorem remD_size {c : CaV} (h : SizeK 1 c.ca) {nm : List UInt8} : SizeK 3 (remD c.ca nm) := by
  unfold remD
  split
  · exact gone_size (by have := dots_len h nm; omega)
  · exact SizeK.mono SizeK.zero (by omega)
theorem cleD_size {c : CaV} (h : SizeK 1 c.ca) : SizeK 3 (cleD c.ca) := by
  unfold cleD
  split
  · exact gone_size (by have := dots_len h []; omega)
  · exact SizeK.mono SizeK.zero (by omega)

/-- Join of valid carts. -/
theorem join_v (c d : CaV) (n m : Nat) (w : World) (hc : CaOK w c) (hd : CaOK w d) (hn : SizeK n c.ca) (hm : SizeK m d.ca) (h1 : n ≤ 9) (h2 : m ≤ 9) (hv : validK c.ca = true) (hv' : validK d.ca = true) :
    Calls Tryz.prog 34 #[mkC c, mkC d] w (MadeE (joinK c.ca d.ca) 0 w) := by
  have ho : okJ c.ca d.ca = true := okJ_iff.2 ⟨hv, hv'⟩
  have := joJoin c d n m w hc hd hn hm h1 h2
  rwa [joinV_t ho, joinE_t ho] at this
end

section
open Go.RowKit

set_option maxHeartbeats 400000 in
theorem put1 (x : ItV) (nm : List UInt8) (w : World) : Calls Tryz.prog 84 #[mkIt x, .string ⟨nm.toArray⟩] w (OneB (.int .i64 (Lib.compareBytes x.nm nm)) w) := by
  have H := Lib.hid fun W => strCompare x.nm nm W
  have HB := Lib.hid ((Below.refl w.heap.size w).alloc (Nat.le_refl _) (.cells #[.string ⟨x.nm.toArray⟩, .slice x.A x.ms.length x.c] 50))
  generalize Lib.compareBytes x.nm nm = z at *
  go_enter Tryz.func84, Tryz.ntmps84
  go_wp2_with fail
  refine (H.out _).mono ?_
  rintro e w1 ⟨rfl, rfl⟩
  go_wp2_with fail
  go_ret
  exact OneB.int rfl HB.out

set_option maxHeartbeats 2000000 in
theorem binarySearchI (A : Option Addr) (xs : List ItV) (cap : Nat) (nm : List UInt8) (w : World) (hx : ItemsAt w A xs) (hm : xs.length ≤ 1000000) (hs : IncN (its xs)) :
    Calls Tryz.prog 83 #[.slice A xs.length cap, .string ⟨nm.toArray⟩, .func (.func 84) #[] #[]] w fun e w' =>
      (∃ (i : Nat) (z : Value), e = .returned (.tuple #[.int .i64 (i : Int), z]) ∧ i ≤ xs.length ∧ (∀ (j : Nat) (y : ItV), j < i → xs[j]? = some y → beforeN y.nm nm = true) ∧ ∀ (j : Nat) (y : ItV), i ≤ j → xs[j]? = some y → beforeN y.nm nm = false) ∧ Below w.heap.size w w' := by
  have HX := Lib.hid hx
  have HS := Lib.hid hs
  clear hx hs
  go_enter Tryz.func83, Tryz.ntmps83
  go_wp2
  go_loopw [9, 10] (fun i j wr => ∃ a b : Nat, a ≤ b ∧ b ≤ xs.length ∧ i = .int .i64 a ∧ j = .int .i64 b ∧ Hid (Below w.heap.size w wr) ∧ Hid (∀ (j : Nat) (y : ItV), j < a → xs[j]? = some y → beforeN y.nm nm = true) ∧ Hid (∀ (j : Nat) (y : ItV), b ≤ j → xs[j]? = some y → beforeN y.nm nm = false)) (fun i j _ => (intOf j).toNat - (intOf i).toNat)
  case atStart => exact ⟨0, xs.length, by omega, by omega, rfl, rfl, Below.refl _ _, Lib.hid (fun j y h => by omega), Lib.hid (fun j y h hp => by rw [List.getElem?_eq_none h] at hp; cases hp)⟩
  case round =>
    obtain ⟨a, b, hab, hbn, rfl, rfl, hb, hlo, hhi⟩ := hrel
    by_cases hlt : a < b
    · obtain ⟨h, hh1, hh2⟩ : ∃ h : Nat, h * 2 ≤ a + b ∧ a + b < h * 2 + 2 := ⟨(a + b) / 2, by omega, by omega⟩
      have he : ((a : Int) + (b : Int)) / 2 = (h : Int) := by omega
      have HE := Lib.hid he; clear he
      obtain ⟨g, off, x, rfl, hbl, hx1, hxj, hc0, hc1, hok⟩ := (HX.out.below hb.out).cells (j := h) (by omega)
      have hr := fun W => put1 x nm W
      have hneg := cmpBytes_neg x.nm nm
      have HX1 := Lib.hid hx1
      clear hx1 hxj hok
      generalize hv : Lib.compareBytes x.nm nm = v at hr hneg
      clear hv
      have HR := Lib.hid hr; clear hr
      cases hq : beforeN x.nm nm
      · rw [hq] at hneg
        have hv0 : 0 ≤ v := by
          rcases Int.lt_or_le v 0 with h' | h'
          · exact absurd (hneg.1 h') (by simp)
          · exact h'
        have HQ := Lib.hid hq; clear hq hneg
        go_upto_region 5 with fail
        rw [HE.out]
        have i1 : (h : Int) < (xs.length : Int) := by omega
        go_wp2_with fail
        refine (HR.out _).mono ?_
        rintro e w1 ⟨rfl, hb1⟩
        have HB1 := Lib.hid (below_trans hb.out hb1)
        clear hb1 hc0 hc1
        go_wp2_with fail
        go_roundw
        case rel =>
          refine ⟨a, h, by omega, by omega, rfl, rfl, HB1, hlo, (show Hid _ from fun j p hj hp => ?_)⟩
          rcases Nat.lt_or_ge h j with h' | h'
          · have := HS.out.get (its_at HX1.out) (its_at hp) h'
            cases hc : beforeN p.nm nm
            · rfl
            · have := beforeN_trans this hc
              rw [show x.it.1 = x.nm from rfl, HQ.out] at this; cases this
          · obtain rfl : j = h := by omega
            rw [HX1.out] at hp; cases hp
            exact HQ.out
        case measure => simp [intOf]; omega
      · rw [hq] at hneg
        have hv0 : v < 0 := hneg.2 rfl
        have HQ := Lib.hid hq; clear hq hneg
        go_upto_region 5 with fail
        rw [HE.out]
        have i1 : (h : Int) < (xs.length : Int) := by omega
        go_wp2_with fail
        refine (HR.out _).mono ?_
        rintro e w1 ⟨rfl, hb1⟩
        have HB1 := Lib.hid (below_trans hb.out hb1)
        clear hb1 hc0 hc1
        go_wp2_with fail
        go_roundw
        case rel =>
          refine ⟨h + 1, b, by omega, by omega, by go_num, rfl, HB1, (show Hid _ from fun j p hj hp => ?_), hhi⟩
          rcases Nat.lt_or_ge j h with h' | h'
          · exact beforeN_trans (HS.out.get (its_at hp) (its_at HX1.out) h') HQ.out
          · obtain rfl : j = h := by omega
            rw [HX1.out] at hp; cases hp
            exact HQ.out
        case measure => simp [intOf]; omega
    · have hab' : a = b := by omega
      subst hab'
      by_cases hal : a < xs.length
      · have i1 : (a : Int) < (xs.length : Int) := by omega
        obtain ⟨g, off, x, rfl, hbl, hx1, hxj, hc0, hc1, hok⟩ := (HX.out.below hb.out).cells (j := a) (by omega)
        have HR := Lib.hid fun W => put1 x nm W
        clear hx1 hxj hok
        generalize Lib.compareBytes x.nm nm = v at HR
        go_wp2_with fail
        refine (HR.out _).mono ?_
        rintro e w1 ⟨rfl, hb1⟩
        have HB1 := Lib.hid (below_trans hb.out hb1)
        clear hb1 hc0 hc1
        go_wp2_with fail
        go_ret2
        exact ⟨⟨a, _, rfl, hbn, hlo.out, hhi.out⟩, HB1.out⟩
      · have i1 : ¬ (a : Int) < (xs.length : Int) := by omega
        go_wp2_with fail
        go_ret2
        first | exact ⟨⟨a, rfl, hbn, hlo.out, hhi.out⟩, hb.out⟩ | exact ⟨⟨a, ⟨_, rfl⟩, hbn, hlo.out, hhi.out⟩, hb.out⟩

end

end Go.Proofs.YtiaehpdgpjhecaaGreat
