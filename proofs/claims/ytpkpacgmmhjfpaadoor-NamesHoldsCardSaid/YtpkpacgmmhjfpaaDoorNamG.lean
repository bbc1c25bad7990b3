/- The reference's Unquote, Fields. -/
import Derived.Test.YtpkpacgmmhjfpaaDoorNamF
namespace Go.Proofs.YtpkpacgmmhjfpaaDoor
open Go.RowKit

/-- What Unquote of the reference returns. -/
def unqV : Option (List UInt8) → Value
  | some x => .tuple #[.string ⟨x.toArray⟩, .bool true]
  | none => .tuple #[.string ⟨#[]⟩, .bool false]
theorem unqV_none {o : Option (List UInt8)} {w w' : World} (h : o = none) (hb : Below w.heap.size w w') : OneB (unqV o) w (.returned (.tuple #[.string ⟨#[]⟩, .bool false])) w' := by subst h; exact ⟨rfl, hb⟩
theorem unqV_some {o : Option (List UInt8)} {x : List UInt8} {w w' : World} (h : o = some x) (hb : Below w.heap.size w w') : OneB (unqV o) w (.returned (.tuple #[.string ⟨x.toArray⟩, .bool true])) w' := by subst h; exact ⟨rfl, hb⟩

set_option maxHeartbeats 1000000 in
theorem refUnquote (l : List UInt8) (w : World) (hl : l.length ≤ 100000) :
    Calls Tryd.prog 18 #[.string ⟨l.toArray⟩] w (OneB (unqV (unquoteN l)) w) := by
  have hsz := size_mk l
  have HF := refFirst l w hl
  cases hf : firstN l with
  | none =>
    rw [hf] at HF
    have H1 := Lib.hid HF
    have HN := Lib.hid (show unquoteN l = none from by unfold unquoteN; rw [hf])
    clear HF hf
    go_enter Tryd.func18, Tryd.ntmps18
    go_wp2_with fail
    refine H1.out.mono ?_
    rintro e w1 ⟨rfl, hb⟩
    have HB := Lib.hid hb
    clear hb
    unfold firstV
    go_wp2_with fail
    go_ret2
    exact unqV_none HN.out HB.out
  | some y =>
    obtain ⟨x, n⟩ := y
    rw [hf] at HF
    have H1 := Lib.hid HF
    by_cases hn : n = l.length
    · have HN := Lib.hid (show unquoteN l = some x from by unfold unquoteN; rw [hf]; simp only; rw [if_pos hn])
      have k1 : ((n : Int) != (l.length : Int)) = false := neF (by omega)
      clear HF hf hn
      go_enter Tryd.func18, Tryd.ntmps18
      go_wp2_with fail
      refine H1.out.mono ?_
      rintro e w1 ⟨rfl, hb⟩
      have HB := Lib.hid hb
      clear hb
      unfold firstV
      go_wp2_with fail
      go_ret2
      exact unqV_some HN.out HB.out
    · have HN := Lib.hid (show unquoteN l = none from by unfold unquoteN; rw [hf]; simp only; rw [if_neg hn])
      have k1 : ((n : Int) != (l.length : Int)) = true := neT (by omega)
      clear HF hf hn
      go_enter Tryd.func18, Tryd.ntmps18
      go_wp2_with fail
      refine H1.out.mono ?_
      rintro e w1 ⟨rfl, hb⟩
      have HB := Lib.hid hb
      clear hb
      unfold firstV
      go_wp2_with fail
      go_ret2
      exact unqV_none HN.out HB.out

end Go.Proofs.YtpkpacgmmhjfpaaDoor
