/- Asks that come in, opened. -/
import Derived.Test.YtkloheabbbpboaaBytO
import Derived.Test.YtkloheabbbpboaaBytS
import Derived.Test.YtkloheabbbpboaaBytW
namespace Go.Proofs.Ytkloheabbbpboaa
open Go.RowKit
open Go.ChangeShapes Go.WideShapes Go.ChangeAt

set_option maxRecDepth 1000000

section
variable {H : Type} {enc : TypeId × Value → H} {W : World} {base b0 : Nat} {spare : Nat → Bool} {held : Bool} {v : Value} {d : DataW H} {p : List MemPlace} {t : TypeId}
theorem open_asksF {fuel : Nat} {x : DataW H × List MemPlace} (ht : Try.prog.underlying t = some (.slice 43)) (hf : DataW.trod enc Try.prog W base spare held fuel t [v] = some x) :
    ∃ X cx, ∃ ps : List AskV, v = .slice X ps.length cx ∧ AsksAt W X ps ∧ ps.length ≤ cx ∧ cx ≤ maxLen := by
  rcases Go.Deep.open_slice ht hf with ⟨hcs, _⟩ | ⟨a, len, cap, m, n, D, Pl, hcs, hb, hl, hm, hmm, _, hx⟩
  · obtain rfl : v = .slice none 0 0 := by simpa using hcs
    exact ⟨none, 0, [], rfl, ⟨SlAt.nil, fun p hp => by cases hp⟩, by simp, by simp [maxLen]⟩
  · obtain rfl : v = .slice (some a) len cap := by simpa using hcs
    have hlm : len ≤ m := by rw [hmm]; split <;> omega
    have each : ∀ i, ∃ p : AskV, i < len → W.cell? (a.add (i * 3)) = some (.int .i64 p.what) ∧ W.cell? (a.add (i * 3 + 1)) = some (.int .u64 (p.n : Int)) ∧ W.cell? (a.add (i * 3 + 2)) = some (.int .i64 p.most) ∧ p.n < 18446744073709551616 ∧ -9223372036854775808 ≤ p.most ∧ p.most ≤ 9223372036854775807 := by
      intro i
      by_cases hi : i < len
      · obtain ⟨cs', h1, h2⟩ := hx i (by omega)
        rw [show Try.prog.cellsOf 43 = 3 from by kernel_rfl] at h1
        obtain ⟨_, hlen, hcell⟩ := World.cells?_some h1
        obtain ⟨xs, k, hk, hxy, _, hxl, hfd⟩ := DataW.trod_struct Try.underlying43 h2
        match xs, hxl, cs', hlen with
        | [y0, y1, y2], _, [v0, v1, v2], _ =>
          have g0 := hfd 0 _ rfl
          have g1 := hfd 1 _ rfl
          have g2 := hfd 2 _ rfl
          have e0 := hcell 0 (by omega)
          have e1 := hcell 1 (by omega)
          have e2 := hcell 2 (by omega)
          rw [Go.Deep.add_add] at e0 e1 e2
          have c0 : Try.prog.cellsOf 3 = 1 := by kernel_rfl
          have c1 : Try.prog.cellsOf 28 = 1 := by kernel_rfl
          simp [c0, c1] at g0 g1 g2
          obtain ⟨r, hr, _, _⟩ := DataW.trod_int Try.underlying3 g0
          obtain ⟨q, hq, _, wq⟩ := DataW.trod_int Try.underlying28 g1
          obtain ⟨s, hs, _, ws⟩ := DataW.trod_int Try.underlying3 g2
          injection hs with hs
          have hw := wf64i ws
          injection hr with hr
          injection hq with hq
          obtain ⟨qn, rfl, hqn⟩ := wfU wq
          subst hr hq hs
          exact ⟨⟨r, qn, s⟩, fun _ => ⟨by simpa using e0, by simpa using e1, by simpa using e2, hqn, hw⟩⟩
      · exact ⟨⟨0, 0, 0⟩, fun h => absurd h hi⟩
    obtain ⟨q, hq⟩ := Classical.axiomOfChoice each
    have hlen : ((List.range len).map q).length = len := by simp
    refine ⟨some a, cap, (List.range len).map q, by rw [hlen], ⟨?_, ?_⟩, by rw [hlen]; exact hl, hm⟩
    · intro hpos
      rw [hlen] at hpos
      obtain ⟨b, off, spot⟩ := a
      have hspot : spot = none := by simpa [Addr.add] using World.cell?_spot (hq 0 hpos).1
      subst hspot
      refine ⟨b, off, rfl, block_of_cell (hq 0 hpos).1, ?_⟩
      intro j x hjx i u hiu
      have hj : j < len := by
        rcases Nat.lt_or_ge j len with h | h
        · exact h
        · rw [List.getElem?_eq_none (by rw [hlen]; exact h)] at hjx; cases hjx
      have hxq : x = q j := by
        rw [List.getElem?_map, List.getElem?_range hj] at hjx
        exact (Option.some.inj hjx).symm
      subst hxq
      obtain ⟨g0, g1, g2, _, _⟩ := hq j hj
      rw [add_plain] at g0 g1 g2
      match i, hiu with
      | 0, hiu =>
        have e : Value.int .i64 (q j).what = u := Option.some.inj hiu
        rw [← e, ← g0]; rfl
      | 1, hiu =>
        have e : Value.int .u64 ((q j).n : Int) = u := Option.some.inj hiu
        rw [← e, ← g1]; rfl
      | 2, hiu =>
        have e : Value.int .i64 (q j).most = u := Option.some.inj hiu
        rw [← e, ← g2]; rfl
      | i + 3, hiu => exact absurd hiu (by simp [encA])
    · intro p hp
      obtain ⟨j, hj, rfl⟩ := List.mem_map.1 hp
      obtain ⟨_, _, _, g3, g4⟩ := hq j (List.mem_range.1 hj)
      exact ⟨g3, g4⟩
theorem open_asksT (ht : Try.prog.underlying t = some (.slice 43)) (hv : Value.okWide Try.prog W .any b0 t v) (h : DataW.Trod enc Try.prog W base spare held t v d p) :
    ∃ X cx, ∃ ps : List AskV, v = .slice X ps.length cx ∧ AsksAt W X ps ∧ ps.length ≤ cx ∧ cx ≤ maxLen := by
  obtain ⟨a0, len0, cap0, rfl⟩ := okWide_slice ht hv
  obtain ⟨fuel, hf⟩ := h
  exact open_asksF ht (v := .slice a0 len0 cap0) (by simpa [Value.cells] using hf)
end

end Go.Proofs.Ytkloheabbbpboaa
