/- The library's variables as they are laid: what the cards of layer 13 lean on. -/
import Derived.Test.YtobkhoednecljaaDoorFloAA
import Derived.Test.YtobkhoednecljaaDoorFloO
import Derived.Test.YtobkhoednecljaaDoorTie
import Derived.Test.YtobkhoednecljaaDoorCards
import Derived.ShutString
import Derived.LaidMore
import Derived.Stop.Joined
import Derived.Stop.LaidErr
import Derived.Stop.ErrReads
import Derived.Stop.Texts
import Derived.Lib.LaidTab
import Derived.Lib.TrailingZeros
import Derived.SevenTiedAt
namespace Go.Proofs.YtobkhoednecljaaDoor
open Go.RowKit
open Go.ChangeShapes Go.WideShapes Go.ChangeAt

set_option maxRecDepth 1000000

theorem str_list (s : ByteArray) : s = ⟨s.data.toList.toArray⟩ := by
  apply ByteArray.ext
  simp

def cLaid : List (String × DataW Unit) := [("math/bits.deBruijn32tab", Rows.laid_math_bits_deBruijn32tab), ("math/bits.deBruijn64tab", Rows.laid_math_bits_deBruijn64tab), ("internal/strconv.uint64pow10", Rows.laid_internal_strconv_uint64pow10), ("strconv.ErrRange", Rows.laid_strconv_ErrRange), ("strconv.ErrSyntax", Rows.laid_strconv_ErrSyntax)]
theorem starE : "*" ++ "errors.errorString" = "*errors.errorString" := by decide
theorem rowE (u : TypeId) (h : Tryd.prog.typeName? 3 u = some "*errors.errorString") : u = 131 :=
  typeName_ptr_named (nm := "errors.errorString") (by rw [starE]; kernel_rfl) (by kernel_rfl) (by decide) u (by rw [starE]; exact h)
theorem laidOK_of {W : World} (h : laidMetH Tryd.prog cLaid W) : LaidOK W := by
  rw [MakeChecks.laidMetH_plain _ _ _ (by kernel_rfl)] at h
  have h1 : laidMet Tryd.prog [("math/bits.deBruijn32tab", Rows.laid_math_bits_deBruijn32tab), ("math/bits.deBruijn64tab", Lib.tabData .u8 (Lib.deBruijn64tab.map fun (n : Nat) => (n : Int))), ("internal/strconv.uint64pow10", Rows.laid_internal_strconv_uint64pow10), ("strconv.ErrRange", Rows.laid_strconv_ErrRange), ("strconv.ErrSyntax", Rows.laid_strconv_ErrSyntax)] W := h
  have hT := Lib.tabIs_of_head (g := 6) (by kernel_rfl) (by kernel_rfl) Tryd.underlying130 Tryd.underlying5 (by kernel_rfl) (by kernel_rfl) h1.tail
  have hc := hT.cell (g := 6) (by kernel_rfl) 15 (by decide)
  have h3 := h1.tail.tail.tail
  obtain ⟨a1, s1, v1, _⟩ := laid_sentinel (g := 4) h3 (by kernel_rfl) (by kernel_rfl) Tryd.underlying73 rowE Tryd.underlying131 Tryd.underlying133 rfl rfl Tryd.underlying9 (by kernel_rfl) (by kernel_rfl)
  obtain ⟨a2, s2, v2, _⟩ := laid_sentinel (g := 3) h3.tail (by kernel_rfl) (by kernel_rfl) Tryd.underlying73 rowE Tryd.underlying131 Tryd.underlying133 rfl rfl Tryd.underlying9 (by kernel_rfl) (by kernel_rfl)
  exact ⟨hc, ⟨_, _, by simpa using World.var?_cell (g := 3) (by kernel_rfl) v2 0⟩, ⟨_, _, by simpa using World.var?_cell (g := 4) (by kernel_rfl) v1 0⟩⟩
theorem door_met (os : Os) (args : Array Value) : laidMetH Tryd.prog cLaid ((World.doorLaid Tryd.prog 400 os).forCall (fun _ _ => 0) ⟨#[], args, []⟩).memory :=
  laidMetH_of_parts3 (fuel := 8) (laidMet_of_run' 8 (by kernel_rfl) (by kernel_rfl)) (by kernel_rfl) (by kernel_rfl)

/-- The examples, from what is laid. -/
theorem known13_L {w : World} (h : LaidOK w) : KnownF w := fun W hW => known13_w W (floOK (h.below hW))

end Go.Proofs.YtobkhoednecljaaDoor
