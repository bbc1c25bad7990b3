/- isPowerOfTwo and TrailingZeros at 16; what of the library's variables is used (package floats' seats). -/
import Derived.Test.YtobkhoednecljaaDoorFloA
import Derived.Test.YtobkhoednecljaaDoorFloX
import Derived.Lib.LaidTab
namespace Go.Proofs.YtobkhoednecljaaDoor
open Go.RowKit

/-- What of the library's variables is used: the place of the bit 4, and that the two errors are there. -/
def LaidOK (w : World) : Prop :=
  w.cell? ⟨6, 15, none⟩ = some (.int .u8 4) ∧ (∃ t p, w.cell? ⟨3, 0, none⟩ = some (.iface t p)) ∧ (∃ t p, w.cell? ⟨4, 0, none⟩ = some (.iface t p))
theorem LaidOK.below {w w' : World} (h : LaidOK w) (hb : Below w.heap.size w w') : LaidOK w' := by
  have k : ∀ {p : Addr} {v : Value}, w.cell? p = some v → w'.cell? p = some v := fun hp => (hb.cell (World.block_lt_of_cell? w _ hp)).trans hp
  obtain ⟨h1, ⟨t, p, h2⟩, ⟨t', p', h3⟩⟩ := h
  exact ⟨k h1, ⟨t, p, k h2⟩, ⟨t', p', k h3⟩⟩

theorem pow16 (w : World) : Calls Tryd.prog 82 #[.int .i64 16] w (One (.bool true) w) := by
  have e1 : bits BinOp.and IntKind.i64 16 15 = 0 := by kernel_rfl
  go_enter Tryd.func82, Tryd.ntmps82
  go_wp2_with fail
  go_ret
  exact ⟨rfl, rfl⟩
theorem tz64 (w : World) (h : LaidOK w) : Calls Tryd.prog 94 #[.int .u64 16] w (One (.int .i64 4) w) := by
  have h1 := h.1
  have e1 : IntKind.u64.wrap (bits BinOp.and IntKind.u64 16 (IntKind.u64.wrap (-16)) * 285870213051353865) / 288230376151711744 = 15 := by kernel_rfl
  clear h
  go_enter Tryd.func94, Tryd.ntmps94
  go_wp2_with fail
  go_ret
  exact ⟨rfl, rfl⟩
theorem tz16 (w : World) (h : LaidOK w) : Calls Tryd.prog 83 #[.int .u64 16] w (One (.int .i64 4) w) := by
  have H := Lib.hid (tz64 w h)
  clear h
  go_enter Tryd.func83, Tryd.ntmps83
  go_wp2_with fail
  refine H.out.mono ?_
  rintro e w1 ⟨rfl, rfl⟩
  go_wp2_with fail
  go_ret
  exact ⟨rfl, rfl⟩
end Go.Proofs.YtobkhoednecljaaDoor
