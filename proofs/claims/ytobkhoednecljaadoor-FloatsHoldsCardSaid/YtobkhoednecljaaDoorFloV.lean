/- strconv.FormatUint at base 16, of any number of 64 bits. -/
import Derived.Test.YtobkhoednecljaaDoorFloU
namespace Go.Proofs.YtobkhoednecljaaDoor
open Go.RowKit

/-- Some digits of a number, all that it has. -/
def FmtF (U : Nat) (w : World) (e : Ending) (w' : World) : Prop := (∃ k, 1 ≤ k ∧ k ≤ 16 ∧ U < 16 ^ k ∧ e = .returned (.string ⟨(hexL k U).toArray⟩)) ∧ Below w.heap.size w w'
set_option maxHeartbeats 400000 in
theorem fmtUintIF (U : Nat) (w : World) (h1 : U < 18446744073709551616) (ht : LaidOK w) :
    Calls Tryd.prog 46 #[.int .u64 (U : Int), .int .i64 16] w (FmtF U w) := by
  have H := Lib.hid (fmtBitsF U w h1 ht)
  clear ht
  go_enter Tryd.func46, Tryd.ntmps46
  go_wp2_with fail
  refine H.out.mono ?_
  rintro e w1 ⟨⟨k, h1, h2, h3, rfl⟩, hb⟩
  have HB := Lib.hid hb
  have HK := Lib.hid h3
  clear hb h3
  go_wp2_with fail
  go_ret
  exact ⟨⟨k, h1, h2, HK.out, rfl⟩, HB.out⟩
set_option maxHeartbeats 400000 in
theorem fmtUintF (U : Nat) (w : World) (h1 : U < 18446744073709551616) (ht : LaidOK w) :
    Calls Tryd.prog 39 #[.int .u64 (U : Int), .int .i64 16] w (FmtF U w) := by
  have H := Lib.hid (fmtUintIF U w h1 ht)
  clear ht
  go_enter Tryd.func39, Tryd.ntmps39
  go_wp2_with fail
  refine H.out.mono ?_
  rintro e w1 ⟨⟨k, h1, h2, h3, rfl⟩, hb⟩
  have HB := Lib.hid hb
  have HK := Lib.hid h3
  clear hb h3
  go_wp2_with fail
  go_ret
  exact ⟨⟨k, h1, h2, HK.out, rfl⟩, HB.out⟩
/-- Zeros before it make the text of 16 digits. -/
theorem pad16 (k U : Nat) (h1 : 1 ≤ k) (h2 : k ≤ 16) (h3 : U < 16 ^ k) : (⟨(List.replicate (16 - k) 48).toArray⟩ : ByteArray) ++ ⟨(hexL k U).toArray⟩ = txtF U := by
  have e := hexL_top k (16 - k) U h3
  rw [show k + (16 - k) = 16 by omega] at e
  unfold txtF
  rw [e]
  apply ByteArray.ext
  simp

end Go.Proofs.YtobkhoednecljaaDoor
