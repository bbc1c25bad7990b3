/- Hexadecimal digits; isPowerOfTwo and TrailingZeros at 16. -/
import Derived.Test.YtkloheabbbpboabDoorCrcA
import Derived.Lib.LaidTab
namespace Go.Proofs.YtkloheabbbpboabDoor
open Go.RowKit

/-- The digit of a number below 16. -/
def hexD (d : Nat) : UInt8 := if d < 10 then UInt8.ofNat (48 + d) else UInt8.ofNat (87 + d)
/-- The k lowest digits. -/
def hexL : Nat → Nat → List UInt8
  | 0, _ => []
  | k + 1, n => hexD (n / 16 ^ k % 16) :: hexL k n
theorem hexL_len (k n : Nat) : (hexL k n).length = k := by
  induction k with
  | zero => rfl
  | succ k ih => rw [hexL, List.length_cons, ih]
theorem hexL_mod (k j n : Nat) (h : k ≤ j) : hexL k (n % 16 ^ j) = hexL k n := by
  induction k with
  | zero => rfl
  | succ k ih =>
    rw [hexL, hexL, ih (by omega)]
    congr 2
    obtain ⟨m, rfl⟩ : ∃ m, j = k + 1 + m := ⟨j - (k + 1), by omega⟩
    rw [Nat.pow_add, Nat.pow_succ, Nat.mul_assoc, Nat.mod_mul_right_div_self, Nat.mod_mul_right_mod]
theorem hexD_lt (d : Nat) (h : d < 16) : (hexD d).toNat < 103 := by
  unfold hexD
  split <;> rw [ofNat_toNat (by omega)] <;> omega

/-- What of the library's variables is used: the place of the bit 4, and that the two errors are there. -/
def LaidOK (w : World) : Prop :=
  w.cell? ⟨4, 15, none⟩ = some (.int .u8 4) ∧ (∃ t p, w.cell? ⟨1, 0, none⟩ = some (.iface t p)) ∧ (∃ t p, w.cell? ⟨2, 0, none⟩ = some (.iface t p))
theorem LaidOK.below {w w' : World} (h : LaidOK w) (hb : Below w.heap.size w w') : LaidOK w' := by
  have k : ∀ {p : Addr} {v : Value}, w.cell? p = some v → w'.cell? p = some v := fun hp => (hb.cell (World.block_lt_of_cell? w _ hp)).trans hp
  obtain ⟨h1, ⟨t, p, h2⟩, ⟨t', p', h3⟩⟩ := h
  exact ⟨k h1, ⟨t, p, k h2⟩, ⟨t', p', k h3⟩⟩

theorem pow16 (w : World) : Calls Tryd.prog 34 #[.int .i64 16] w (One (.bool true) w) := by
  have e1 : bits BinOp.and IntKind.i64 16 15 = 0 := by kernel_rfl
  go_enter Tryd.func34, Tryd.ntmps34
  go_wp2_with fail
  go_ret
  exact ⟨rfl, rfl⟩
theorem tz64 (w : World) (h : LaidOK w) : Calls Tryd.prog 43 #[.int .u64 16] w (One (.int .i64 4) w) := by
  have h1 := h.1
  have e1 : IntKind.u64.wrap (bits BinOp.and IntKind.u64 16 (IntKind.u64.wrap (-16)) * 285870213051353865) / 288230376151711744 = 15 := by kernel_rfl
  clear h
  go_enter Tryd.func43, Tryd.ntmps43
  go_wp2_with fail
  go_ret
  exact ⟨rfl, rfl⟩
theorem tz16 (w : World) (h : LaidOK w) : Calls Tryd.prog 35 #[.int .u64 16] w (One (.int .i64 4) w) := by
  have H := Lib.hid (tz64 w h)
  clear h
  go_enter Tryd.func35, Tryd.ntmps35
  go_wp2_with fail
  refine H.out.mono ?_
  rintro e w1 ⟨rfl, rfl⟩
  go_wp2_with fail
  go_ret
  exact ⟨rfl, rfl⟩
end Go.Proofs.YtkloheabbbpboabDoor
