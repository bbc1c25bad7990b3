/- Package names: what its functions return, in the laws' words. -/
import Derived.Test.YtpkpacgmmhjfpaaDoorNamP4
namespace Go.Proofs.YtpkpacgmmhjfpaaDoor
open Go.RowKit

/-- What Canon and Unquote return. -/
def canonV (l : List UInt8) : List UInt8 × Nat := if itemN (canonN l) then (canonN l, 0) else ([], 2)
def unquoteV (l : List UInt8) : List UInt8 × Nat := match unquoteN l with
  | some x => (x, 0)
  | none => ([], 6)
def pairV (p : List UInt8 × Nat) : Value := .tuple #[.string ⟨p.1.toArray⟩, .int .i64 (p.2 : Int)]
/-- What Fields returns. -/
def FldP (o : Option (List (List UInt8))) (w : World) (e : Ending) (w' : World) : Prop :=
  (∀ v, o = some v → ∃ x, e = .returned (.tuple #[x, .int .i64 0]) ∧ HoldsS w' x v) ∧ (o = none → e = .returned (.tuple #[.slice none 0 0, .int .i64 6])) ∧ Below w.heap.size w w'

theorem namKey (l : List UInt8) (w : World) (hl : l.length ≤ 1000) (_h : LaidOK w) : Calls Tryd.prog 9 #[.string ⟨l.toArray⟩] w (OneB (.bool (keyN l)) w) := nmKey l w (by omega)
theorem namItem (l : List UInt8) (w : World) (hl : l.length ≤ 1000) (_h : LaidOK w) : Calls Tryd.prog 11 #[.string ⟨l.toArray⟩] w (OneB (.bool (itemN l)) w) := nmItem l w (by omega)
theorem namQuote (l : List UInt8) (w : World) (hl : l.length ≤ 1000) (_h : LaidOK w) : Calls Tryd.prog 15 #[.string ⟨l.toArray⟩] w (OneB (.string ⟨(quoteN l).toArray⟩) w) := nmQuote l w (by omega)
theorem canonN_len (l : List UInt8) : (canonN l).length ≤ 2 * l.length := canonS_len l
theorem namCanon (l : List UInt8) (w : World) (hl : l.length ≤ 500) (_h : LaidOK w) : Calls Tryd.prog 21 #[.string ⟨l.toArray⟩] w (OneB (pairV (canonV l)) w) := by
  have h := nmCanon l w (by omega)
  unfold canonV
  cases hi : itemN (canonN l) with
  | true => rw [hi, if_pos rfl] at h; rw [if_pos rfl]; exact h
  | false => rw [hi, if_neg (by decide)] at h; rw [if_neg (by decide)]; exact h
theorem namUnquote (l : List UInt8) (w : World) (hl : l.length ≤ 5000) (h : LaidOK w) : Calls Tryd.prog 27 #[.string ⟨l.toArray⟩] w (OneB (pairV (unquoteV l)) w) := by
  have H := nmUnquote l w (by omega) h
  unfold unquoteV
  cases hu : unquoteN l with
  | some x => rw [hu] at H; exact H
  | none => rw [hu] at H; exact H
theorem namFields (l : List UInt8) (w : World) (hl : l.length ≤ 20000) (h : LaidOK w) : Calls Tryd.prog 29 #[.string ⟨l.toArray⟩] w (FldP (fieldsN l) w) := nmFields l w hl h

end Go.Proofs.YtpkpacgmmhjfpaaDoor
