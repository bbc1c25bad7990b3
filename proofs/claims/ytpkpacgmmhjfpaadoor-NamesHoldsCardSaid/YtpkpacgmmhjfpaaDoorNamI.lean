/- The library's unhex and UnquoteChar: they end, and what UnquoteChar leaves is shorter. -/
import Derived.Test.YtpkpacgmmhjfpaaDoorNamL
import Derived.Test.YtpkpacgmmhjfpaaDoorNamH
import Derived.Test.YtpkpacgmmhjfpaaDoorNamW
import Derived.Lib.Bytealg
namespace Go.Proofs.YtpkpacgmmhjfpaaDoor
open Go.RowKit

/-- A hexadecimal digit of either kind. -/
def hexU (b : UInt8) : Option Nat := if 48 ≤ b.toNat ∧ b.toNat ≤ 57 then some (b.toNat - 48) else if 97 ≤ b.toNat ∧ b.toNat ≤ 102 then some (b.toNat - 87) else if 65 ≤ b.toNat ∧ b.toNat ≤ 70 then some (b.toNat - 55) else none
theorem hexU_C : ∀ d : Fin 16, hexU (hexC d.val) = some d.val := by decide +kernel
def unhV : Option Nat → Value
  | some d => .tuple #[.int .i32 (d : Int), .bool true]
  | none => .tuple #[.int .i32 0, .bool false]
theorem unhV_some {o : Option Nat} {d : Nat} {n : Int} (w : World) (h : o = some d) (hn : n = (d : Int)) : One (unhV o) w (.returned (.tuple #[.int .i32 n, .bool true])) w := by subst h; subst hn; exact ⟨rfl, rfl⟩
theorem unhV_none {o : Option Nat} (w : World) (h : o = none) : One (unhV o) w (.returned (.tuple #[.int .i32 0, .bool false])) w := by subst h; exact ⟨rfl, rfl⟩
theorem wrap32 {x : Int} (h0 : -2147483648 ≤ x) (h1 : x ≤ 2147483647) : IntKind.i32.wrap x = x := by simp [IntKind.wrap, IntKind.bits, IntKind.signed]; omega
theorem unhex (b : UInt8) (w : World) : Calls Tryd.prog 71 #[.int .u8 (b.toNat : Int)] w (One (unhV (hexU b)) w) := by
  have h8 := toNat8 b
  have ew := wrap32 (x := (b.toNat : Int)) (by omega) (by omega)
  have ew1 := wrap32 (x := (b.toNat : Int) - 48) (by omega) (by omega)
  have ew2 := wrap32 (x := (b.toNat : Int) - 97) (by omega) (by omega)
  have ew3 := wrap32 (x := (b.toNat : Int) - 97 + 10) (by omega) (by omega)
  have ew4 := wrap32 (x := (b.toNat : Int) - 65) (by omega) (by omega)
  have ew5 := wrap32 (x := (b.toNat : Int) - 65 + 10) (by omega) (by omega)
  by_cases d1 : 48 ≤ b.toNat ∧ b.toNat ≤ 57
  · have HN := Lib.hid (show hexU b = some (b.toNat - 48) from by unfold hexU; rw [if_pos d1])
    have k1 : (48 : Int) ≤ (b.toNat : Int) := by omega
    have k2 : (b.toNat : Int) ≤ 57 := by omega
    go_enter Tryd.func71, Tryd.ntmps71
    go_wp2_with fail
    go_ret2
    exact unhV_some _ HN.out (by omega)
  by_cases d2 : 97 ≤ b.toNat ∧ b.toNat ≤ 102
  · have HN := Lib.hid (show hexU b = some (b.toNat - 87) from by unfold hexU; rw [if_neg d1, if_pos d2])
    have k1 : (48 : Int) ≤ (b.toNat : Int) := by omega
    have k2 : ¬ (b.toNat : Int) ≤ 57 := by omega
    have k3 : (97 : Int) ≤ (b.toNat : Int) := by omega
    have k4 : (b.toNat : Int) ≤ 102 := by omega
    go_enter Tryd.func71, Tryd.ntmps71
    go_wp2_with fail
    go_ret2
    exact unhV_some _ HN.out (by omega)
  by_cases d3 : 65 ≤ b.toNat ∧ b.toNat ≤ 70
  · have HN := Lib.hid (show hexU b = some (b.toNat - 55) from by unfold hexU; rw [if_neg d1, if_neg d2, if_pos d3])
    have k1 : (48 : Int) ≤ (b.toNat : Int) := by omega
    have k2 : ¬ (b.toNat : Int) ≤ 57 := by omega
    have k3 : ¬ (97 : Int) ≤ (b.toNat : Int) := by omega
    have k5 : (65 : Int) ≤ (b.toNat : Int) := by omega
    have k6 : (b.toNat : Int) ≤ 70 := by omega
    go_enter Tryd.func71, Tryd.ntmps71
    go_wp2_with fail
    go_ret2
    exact unhV_some _ HN.out (by omega)
  · have HN := Lib.hid (show hexU b = none from by unfold hexU; rw [if_neg d1, if_neg d2, if_neg d3])
    have c1 : (48 : Int) ≤ (b.toNat : Int) ∨ ¬ (48 : Int) ≤ (b.toNat : Int) := Classical.em _
    have c2 : (b.toNat : Int) ≤ 57 ∨ ¬ (b.toNat : Int) ≤ 57 := Classical.em _
    have c3 : (97 : Int) ≤ (b.toNat : Int) ∨ ¬ (97 : Int) ≤ (b.toNat : Int) := Classical.em _
    have c4 : (b.toNat : Int) ≤ 102 ∨ ¬ (b.toNat : Int) ≤ 102 := Classical.em _
    have c5 : (65 : Int) ≤ (b.toNat : Int) ∨ ¬ (65 : Int) ≤ (b.toNat : Int) := Classical.em _
    have c6 : (b.toNat : Int) ≤ 70 ∨ ¬ (b.toNat : Int) ≤ 70 := Classical.em _
    rcases c1 with c1 | c1 <;> rcases c2 with c2 | c2 <;> rcases c3 with c3 | c3 <;> rcases c4 with c4 | c4 <;> rcases c5 with c5 | c5 <;> rcases c6 with c6 | c6 <;> first | (exfalso; omega) | skip
    all_goals
      clear d1 d2 d3
      go_enter Tryd.func71, Tryd.ntmps71
      go_wp2_with fail
      go_ret2
      exact unhV_none _ HN.out

/-- strconv.index, strconv.contains. -/
theorem sIndex (l : List UInt8) (c : UInt8) (w : World) : Calls Tryd.prog 53 #[.string ⟨l.toArray⟩, .int .u8 (c.toNat : Int)] w (One (.int .i64 (Lib.indexByte l c)) w) := by
  have e : ((c.toNat : Int)).toNat.toUInt8 = c := by simp
  go_enter Tryd.func53, Tryd.ntmps53
  go_wp2_with fail
  rw [run_callFunc_extern Tryd.func68 (by kernel_rfl) (by kernel_rfl) (by kernel_rfl) (e := Extern.BytealgIndexByte.indexByte) (by kernel_rfl), Lib.run_indexByteString]
  simp only [Result.andThen]
  rw [Oper.upon_value, e]
  go_wp2_with fail
  go_ret
  exact ⟨rfl, rfl⟩
def hasC (l : List UInt8) (c : UInt8) : Bool := Lib.indexByte l c != -1
theorem sContains (l : List UInt8) (c : UInt8) (w : World) : Calls Tryd.prog 54 #[.string ⟨l.toArray⟩, .int .u8 (c.toNat : Int)] w (One (.bool (hasC l c)) w) := by
  have H := Lib.hid (sIndex l c w)
  have HE := Lib.hid (show hasC l c = (Lib.indexByte l c != -1) from rfl)
  generalize hasC l c = b at *
  generalize Lib.indexByte l c = n at *
  go_enter Tryd.func54, Tryd.ntmps54
  go_wp2_with fail
  refine H.out.mono ?_
  rintro e w1 ⟨rfl, rfl⟩
  go_wp2_with fail
  go_ret
  exact One.bool _ HE.out.symm
end Go.Proofs.YtpkpacgmmhjfpaaDoor
