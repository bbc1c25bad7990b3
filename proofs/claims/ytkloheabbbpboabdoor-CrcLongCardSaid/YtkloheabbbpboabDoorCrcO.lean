/- What comes in, opened; the library's variables as they are laid: what the cards of layer 5 lean on. -/
import Derived.Test.YtkloheabbbpboabDoorCrcX
import Derived.Test.YtkloheabbbpboabDoorTie
import Derived.Test.YtkloheabbbpboabDoorCards
import Derived.ShutString
import Derived.LaidMore
import Derived.Stop.Joined
import Derived.Stop.LaidErr
import Derived.Stop.ErrReads
import Derived.Stop.Texts
import Derived.Lib.LaidTab
import Derived.Lib.TrailingZeros
import Derived.SevenTiedAt
import Derived.ChangeSlices
import Derived.Deep.SlicePairs
import Derived.Lib.SmallJoins
import Derived.ProofKit
import Derived.OpenShut
import Derived.ChangeOld
import Derived.Below
import Derived.Carry
namespace Go.Proofs.YtkloheabbbpboabDoor
open Go.RowKit
open Go.ChangeShapes Go.WideShapes Go.ChangeAt

set_option maxRecDepth 1000000

theorem ownP : ownKnob Tryd.prog.godebug = none := by kernel_rfl
theorem laidP : laidOutB Tryd.prog = true := by kernel_rfl

theorem wfU {n : Int} (h : (Lit.int .u64 n).wf = true) : ∃ m : Nat, n = (m : Int) ∧ m < 18446744073709551616 := by
  have h1 : 0 ≤ n ∧ n ≤ IntKind.u64.max := by simpa [Lit.wf, IntKind.min, IntKind.bits, IntKind.signed] using h
  have h2 : IntKind.u64.max = 18446744073709551615 := by decide
  exact ⟨n.toNat, by omega, by omega⟩

theorem wfB {n : Int} (h : (Lit.int .u8 n).wf = true) : 0 ≤ n ∧ n ≤ 255 := by
  have h1 : 0 ≤ n ∧ n ≤ IntKind.u8.max := by simpa [Lit.wf, IntKind.min, IntKind.bits, IntKind.signed] using h
  have h2 : IntKind.u8.max = 255 := by decide
  omega

theorem block_of_cell {w : World} {a : Addr} {v : Value} (h : w.cell? a = some v) : a.block < w.heap.size := by
  rcases Nat.lt_or_ge a.block w.heap.size with hlt | hge
  · exact hlt
  · simp [World.cell?, Array.getElem?_eq_none hge] at h

section
variable {H : Type} {enc : TypeId × Value → H} {W : World} {base b0 : Nat} {spare : Nat → Bool} {held : Bool} {v : Value} {d : DataW H} {p : List MemPlace} {t : TypeId}
/-- A slice of bytes that comes in, opened. -/
theorem open_bytesF {fuel : Nat} {x : DataW H × List MemPlace} (ht : Tryd.prog.underlying t = some (.slice 5)) (hf : DataW.trod enc Tryd.prog W base spare held fuel t [v] = some x) :
    ∃ A c xs, v = .slice A (xs : List UInt8).length c ∧ HoldsB W v xs := by
  rcases open_ints ht Tryd.underlying5 (by kernel_rfl) hf with ⟨hcs, _⟩ | ⟨a, len, cap, zs, hcs, _, hl, hm, hz, _, hx, hw⟩
  · obtain rfl : v = .slice none 0 0 := by simpa using hcs
    exact ⟨none, 0, [], rfl, HoldsB.nil _⟩
  · obtain rfl : v = .slice (some a) len cap := by simpa using hcs
    have hlz : len ≤ zs.length := by rw [hz]; split <;> omega
    have hlen : ((zs.take len).map fun z => UInt8.ofNat z.toNat).length = len := by rw [List.length_map, List.length_take]; omega
    refine ⟨some a, cap, (zs.take len).map fun z => UInt8.ofNat z.toNat, by rw [hlen], some a, cap, by rw [hlen], ?_, by rw [hlen]; exact hl, hm⟩
    intro hpos
    rw [hlen] at hpos
    obtain ⟨b, off, spot⟩ := a
    have hspot : spot = none := by simpa [Addr.add] using World.cell?_spot (hx 0 (by omega))
    subst hspot
    refine ⟨b, off, rfl, block_of_cell (hx 0 (by omega)), ?_⟩
    intro j x hjx i u hiu
    have hj : j < len := by
      rcases Nat.lt_or_ge j len with h | h
      · exact h
      · rw [List.getElem?_eq_none (by rw [hlen]; exact h)] at hjx; cases hjx
    have hjz : j < zs.length := by omega
    rw [List.getElem?_map, List.getElem?_take, if_pos hj, List.getElem?_eq_getElem hjz] at hjx
    have hxq : UInt8.ofNat (zs[j]).toNat = x := Option.some.inj hjx
    have h8 := wfB (hw zs[j] (List.getElem_mem hjz))
    have hg : zs.getD j 0 = (x.toNat : Int) := by
      rw [List.getD, List.getElem?_eq_getElem hjz, ← hxq, UInt8.toNat_ofNat']
      show zs[j] = _
      omega
    have g := hx j hjz
    rw [hg] at g
    match i, hiu with
    | 0, hiu =>
      have e : Value.int .u8 (x.toNat : Int) = u := Option.some.inj hiu
      rw [← e, ← g]
      rw [add_plain]; simp
    | i + 1, hiu => exact absurd hiu (by simp)
theorem open_bytesT (ht : Tryd.prog.underlying t = some (.slice 5)) (hv : Value.okWide Tryd.prog W .any b0 t v) (h : DataW.Trod enc Tryd.prog W base spare held t v d p) :
    ∃ A c xs, v = .slice A (xs : List UInt8).length c ∧ HoldsB W v xs := by
  obtain ⟨a0, len0, cap0, rfl⟩ := okWide_slice ht hv
  obtain ⟨fuel, hf⟩ := h
  exact open_bytesF ht (v := .slice a0 len0 cap0) (by simpa [Value.cells] using hf)
end

theorem wf32 {n : Int} (h : (Lit.int .u32 n).wf = true) : ∃ m : Nat, n = (m : Int) ∧ m < 4294967296 := by
  have h1 : 0 ≤ n ∧ n ≤ IntKind.u32.max := by simpa [Lit.wf, IntKind.min, IntKind.bits, IntKind.signed] using h
  have h2 : IntKind.u32.max = 4294967295 := by decide
  exact ⟨n.toNat, by omega, by omega⟩
theorem wf16 {n : Int} (h : (Lit.int .u16 n).wf = true) : ∃ m : Nat, n = (m : Int) ∧ m < 65536 := by
  have h1 : 0 ≤ n ∧ n ≤ IntKind.u16.max := by simpa [Lit.wf, IntKind.min, IntKind.bits, IntKind.signed] using h
  have h2 : IntKind.u16.max = 65535 := by decide
  exact ⟨n.toNat, by omega, by omega⟩
theorem wfI {n : Int} (h : (Lit.int .i64 n).wf = true) : -9223372036854775808 ≤ n ∧ n ≤ 9223372036854775807 := by
  simpa [Lit.wf, IntKind.min, IntKind.bits, IntKind.signed] using h
theorem str_list (s : ByteArray) : s = ⟨s.data.toList.toArray⟩ := by
  apply ByteArray.ext
  simp

def cLaid : List (String × DataW Unit) := [("math/bits.deBruijn32tab", Rows.laid_math_bits_deBruijn32tab), ("math/bits.deBruijn64tab", Rows.laid_math_bits_deBruijn64tab), ("internal/strconv.uint64pow10", Rows.laid_internal_strconv_uint64pow10), ("strconv.ErrRange", Rows.laid_strconv_ErrRange), ("strconv.ErrSyntax", Rows.laid_strconv_ErrSyntax)]
theorem starE : "*" ++ "errors.errorString" = "*errors.errorString" := by decide
theorem rowE (u : TypeId) (h : Tryd.prog.typeName? 3 u = some "*errors.errorString") : u = 79 :=
  typeName_ptr_named (nm := "errors.errorString") (by rw [starE]; kernel_rfl) (by kernel_rfl) (by decide) u (by rw [starE]; exact h)
theorem laidOK_of {W : World} (h : laidMetH Tryd.prog cLaid W) : LaidOK W := by
  rw [MakeChecks.laidMetH_plain _ _ _ (by kernel_rfl)] at h
  have h1 : laidMet Tryd.prog [("math/bits.deBruijn32tab", Rows.laid_math_bits_deBruijn32tab), ("math/bits.deBruijn64tab", Lib.tabData .u8 (Lib.deBruijn64tab.map fun (n : Nat) => (n : Int))), ("internal/strconv.uint64pow10", Rows.laid_internal_strconv_uint64pow10), ("strconv.ErrRange", Rows.laid_strconv_ErrRange), ("strconv.ErrSyntax", Rows.laid_strconv_ErrSyntax)] W := h
  have hT := Lib.tabIs_of_head (g := 4) (by kernel_rfl) (by kernel_rfl) Tryd.underlying77 Tryd.underlying5 (by kernel_rfl) (by kernel_rfl) h1.tail
  have hc := hT.cell (g := 4) (by kernel_rfl) 15 (by decide)
  have h3 := h1.tail.tail.tail
  obtain ⟨a1, s1, v1, _⟩ := laid_sentinel (g := 2) h3 (by kernel_rfl) (by kernel_rfl) Tryd.underlying48 rowE Tryd.underlying79 Tryd.underlying81 rfl rfl Tryd.underlying9 (by kernel_rfl) (by kernel_rfl)
  obtain ⟨a2, s2, v2, _⟩ := laid_sentinel (g := 1) h3.tail (by kernel_rfl) (by kernel_rfl) Tryd.underlying48 rowE Tryd.underlying79 Tryd.underlying81 rfl rfl Tryd.underlying9 (by kernel_rfl) (by kernel_rfl)
  exact ⟨hc, ⟨_, _, by simpa using World.var?_cell (g := 1) (by kernel_rfl) v2 0⟩, ⟨_, _, by simpa using World.var?_cell (g := 2) (by kernel_rfl) v1 0⟩⟩
theorem door_met (os : Os) (args : Array Value) : laidMetH Tryd.prog cLaid ((World.doorLaid Tryd.prog 400 os).forCall (fun _ _ => 0) ⟨#[], args, []⟩).memory :=
  laidMetH_of_parts3 (fuel := 8) (laidMet_of_run' 8 (by kernel_rfl) (by kernel_rfl)) (by kernel_rfl) (by kernel_rfl)

end Go.Proofs.YtkloheabbbpboabDoor
