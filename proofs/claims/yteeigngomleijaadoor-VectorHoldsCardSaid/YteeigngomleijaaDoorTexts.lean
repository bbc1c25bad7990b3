/- The law of texts returns true, whatever the dot and the text. -/
import Derived.Test.YteeigngomleijaaDoorScanW
namespace Go.Proofs.YteeigngomleijaaDoor
open Go.RowKit

theorem str_eq_self (s : ByteArray) : (s.toList == s.toList) = true := by simp

set_option maxHeartbeats 800000 in
theorem lawTexts1 (r c no : Int) (want : ByteArray) (w : World) (ht : TabOK w) (h : textV r c = .tuple #[.string want, .int .i64 no]) :
    Calls Tryd.prog 12 #[.agg #[.int .i64 r, .int .i64 c], .string want, .int .i64 no] w fun e w' => e = .returned (.bool true) ∧ Below w.heap.size w w' := by
  have T := fun W (hW : TabOK W) => dotText r c W hW
  rw [h] at T
  clear h
  have HT := Lib.hid T; clear T
  have hal := (Below.refl _ w).alloc (Nat.le_refl _) (.cells #[.int .i64 r, .int .i64 c] 23)
  have HO := Lib.hid (ht.below hal)
  have HAL := Lib.hid hal
  have hn := str_eq_self want
  clear hal ht
  go_enter Tryd.func12, Tryd.ntmps12
  go_wp2_with fail
  refine (HT.out _ HO.out).mono ?_
  rintro e w1 ⟨rfl, hb⟩
  have HB := Lib.hid (below_trans HAL.out hb)
  clear hb
  go_wp2
  go_ret
  exact ⟨ret_bool (by simp), HB.out⟩

end Go.Proofs.YteeigngomleijaaDoor
