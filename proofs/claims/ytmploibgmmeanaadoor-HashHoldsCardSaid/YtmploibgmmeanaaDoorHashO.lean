/- What comes in, opened; the table as it is laid: what the cards of layer 6 lean on. -/
import Derived.Test.YtmploibgmmeanaaDoorHashE
import Derived.Test.YtmploibgmmeanaaDoorTie
import Derived.Test.YtmploibgmmeanaaDoorCards
import Derived.ShutString
import Derived.LaidMore
import Derived.Lib.LaidTab
import Derived.SevenTiedAt
import Derived.ChangeSlices
import Derived.SliceStrings
import Derived.Deep.SlicePairs
import Derived.Lib.SmallJoins
import Derived.ProofKit
import Derived.OpenShut
import Derived.ChangeOld
import Derived.Below
import Derived.Carry
namespace Go.Proofs.YtmploibgmmeanaaDoor
open Go.RowKit
open Go.ChangeShapes Go.WideShapes Go.ChangeAt

set_option maxRecDepth 1000000

theorem ownP : ownKnob Tryd.prog.godebug = none := by kernel_rfl
theorem laidP : laidOutB Tryd.prog = true := by kernel_rfl

theorem wfB {n : Int} (h : (Lit.int .u8 n).wf = true) : 0 ≤ n ∧ n ≤ 255 := by
  have h1 : 0 ≤ n ∧ n ≤ IntKind.u8.max := by simpa [Lit.wf, IntKind.min, IntKind.bits, IntKind.signed] using h
  have h2 : IntKind.u8.max = 255 := by decide
  omega
theorem wf16 {n : Int} (h : (Lit.int .u16 n).wf = true) : ∃ m : Nat, n = (m : Int) ∧ m < 65536 := by
  have h1 : 0 ≤ n ∧ n ≤ IntKind.u16.max := by simpa [Lit.wf, IntKind.min, IntKind.bits, IntKind.signed] using h
  have h2 : IntKind.u16.max = 65535 := by decide
  exact ⟨n.toNat, by omega, by omega⟩
theorem wfI {n : Int} (h : (Lit.int .i64 n).wf = true) : -9223372036854775808 ≤ n ∧ n ≤ 9223372036854775807 := by
  simpa [Lit.wf, IntKind.min, IntKind.bits, IntKind.signed] using h
theorem str_list (s : ByteArray) : s = ⟨s.data.toList.toArray⟩ := by
  apply ByteArray.ext
  simp

theorem block_of_cell {w : World} {a : Addr} {v : Value} (h : w.cell? a = some v) : a.block < w.heap.size := by
  rcases Nat.lt_or_ge a.block w.heap.size with hlt | hge
  · exact hlt
  · simp [World.cell?, Array.getElem?_eq_none hge] at h

section
variable {H : Type} {enc : TypeId × Value → H} {W : World} {base b0 : Nat} {spare : Nat → Bool} {held : Bool} {v : Value} {d : DataW H} {p : List MemPlace} {t : TypeId}
/-- A slice of strings that comes in, opened. -/
theorem open_strsF {fuel : Nat} {x : DataW H × List MemPlace} (ht : Tryd.prog.underlying t = some (.slice 9)) (hf : DataW.trod enc Tryd.prog W base spare held fuel t [v] = some x) :
    ∃ A c xs, v = .slice A (xs : List (List UInt8)).length c ∧ HoldsS W v xs := by
  rcases open_strings ht Tryd.underlying9 (by kernel_rfl) hf with ⟨hcs, _⟩ | ⟨a, len, cap, zs, hcs, _, hl, hm, hz, _, hx, hw⟩
  · obtain rfl : v = .slice none 0 0 := by simpa using hcs
    exact ⟨none, 0, [], rfl, HoldsS.nil _⟩
  · obtain rfl : v = .slice (some a) len cap := by simpa using hcs
    have hlz : len ≤ zs.length := by rw [hz]; split <;> omega
    have hlen : ((zs.take len).map fun z => z.data.toList).length = len := by rw [List.length_map, List.length_take]; omega
    refine ⟨some a, cap, (zs.take len).map fun z => z.data.toList, by rw [hlen], some a, cap, by rw [hlen], ?_, by rw [hlen]; exact hl, hm⟩
    intro hpos
    rw [hlen] at hpos
    obtain ⟨b, off, spot⟩ := a
    have hspot : spot = none := by simpa [Addr.add] using World.cell?_spot (hx 0 (by omega))
    subst hspot
    refine ⟨b, off, rfl, block_of_cell (hx 0 (by omega)), ?_⟩
    intro j x hjx i u hiu
    have hj : j < len := by
      rcases Nat.lt_or_ge j len with h | h
      · exact h
      · rw [List.getElem?_eq_none (by rw [hlen]; exact h)] at hjx; cases hjx
    have hjz : j < zs.length := by omega
    rw [List.getElem?_map, List.getElem?_take, if_pos hj, List.getElem?_eq_getElem hjz] at hjx
    have hxq : (zs[j]).data.toList = x := Option.some.inj hjx
    have hg : zs.getD j ByteArray.empty = ⟨x.toArray⟩ := by
      rw [List.getD, List.getElem?_eq_getElem hjz, ← hxq]
      exact str_list _
    have g := hx j hjz
    rw [hg] at g
    match i, hiu with
    | 0, hiu =>
      have e : Value.string ⟨x.toArray⟩ = u := Option.some.inj hiu
      rw [← e, ← g]
      rw [add_plain]; simp
    | i + 1, hiu => exact absurd hiu (by simp)
theorem open_strsT (ht : Tryd.prog.underlying t = some (.slice 9)) (hv : Value.okWide Tryd.prog W .any b0 t v) (h : DataW.Trod enc Tryd.prog W base spare held t v d p) :
    ∃ A c xs, v = .slice A (xs : List (List UInt8)).length c ∧ HoldsS W v xs := by
  obtain ⟨a0, len0, cap0, rfl⟩ := okWide_slice ht hv
  obtain ⟨fuel, hf⟩ := h
  exact open_strsF ht (v := .slice a0 len0 cap0) (by simpa [Value.cells] using hf)
end

def cLaid : List (String × DataW Unit) := [("pannier/hash.sizes", Rows.laid_pannier_hash_sizes)]
theorem door_met (os : Os) (args : Array Value) : laidMetH Tryd.prog cLaid ((World.doorLaid Tryd.prog 400 os).forCall (fun _ _ => 0) ⟨#[], args, []⟩).memory :=
  laidMetH_of_parts3 (fuel := 8) (laidMet_of_run' 8 (by kernel_rfl) (by kernel_rfl)) (by kernel_rfl) (by kernel_rfl)
/-- The table's four cells. -/
theorem laidOK_of {W : World} (h : laidMetH Tryd.prog cLaid W) : SizesOK W := by
  rw [MakeChecks.laidMetH_plain _ _ _ (by kernel_rfl)] at h
  obtain ⟨ps, ⟨g, t, cs, fuel, p, q, hg, ht, hvar, hd, _, _⟩, _⟩ := h
  obtain rfl : 0 = g := Option.some.inj ((show Tryd.prog.globalNamed "pannier/hash.sizes" = some 0 by kernel_rfl).symm.trans hg)
  obtain rfl : 50 = t := Option.some.inj ((show (Tryd.prog.globals[0]?).map (·.type) = some 50 by kernel_rfl).symm.trans ht)
  obtain ⟨xs, m, rfl, hx, hl, hn, hel⟩ := DataW.trod_array Tryd.underlying50 hd
  have c2 : Tryd.prog.cellsOf 49 = 2 := by kernel_rfl
  have c4 : Tryd.prog.cellsOf 50 = 4 := by kernel_rfl
  rw [c4] at hl
  rw [c2] at hel
  have hxs : xs.map (·.1) = [Lib.tabData .u64 [2166136261, 16777619], Lib.tabData .u64 [14695981039346656037, 1099511628211]] := by
    have := congrArg Prod.fst hx
    simpa [Rows.laid_pannier_hash_sizes, Lib.tabData] using this.symm
  match xs, hxs with
  | [(d0, p0), (d1, p1)], hxs =>
    obtain ⟨rfl, rfl⟩ : d0 = Lib.tabData .u64 [2166136261, 16777619] ∧ d1 = Lib.tabData .u64 [14695981039346656037, 1099511628211] := by simpa using hxs
    have k0 := Lib.cells_of_tab Tryd.underlying49 Tryd.underlying25 (by kernel_rfl) (by kernel_rfl) (hel 0 (by decide))
    have k1 := Lib.cells_of_tab Tryd.underlying49 Tryd.underlying25 (by kernel_rfl) (by kernel_rfl) (hel 1 (by decide))
    have e : cs.toList = [.int .u64 2166136261, .int .u64 16777619, .int .u64 14695981039346656037, .int .u64 1099511628211] := by
      match h : cs.toList, hl with
      | [a, b, c, d], _ =>
        rw [h] at k0 k1
        simp at k0 k1
        rw [k0.1, k0.2, k1.1, k1.2]
    have hc : ∀ i, W.cell? ⟨0, i, none⟩ = cs.toList[i]? := fun i => by rw [Array.getElem?_toList]; exact World.var?_cell hg hvar i
    rw [e] at hc
    exact ⟨hc 0, hc 1, hc 2, hc 3⟩

end Go.Proofs.YtmploibgmmeanaaDoor
