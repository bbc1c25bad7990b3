/- What is used of the library's variables, and the library's contracts at this dump, in our words. -/
import Derived.Test.YtpkpacgmmhjfpaaDoorNamL
import Derived.Test.YtpkpacgmmhjfpaaDoorNamH
import Derived.Test.YtpkpacgmmhjfpaaDoorShelf
namespace Go.Proofs.YtpkpacgmmhjfpaaDoor
open Go.RowKit

/-- What of the library's variables is used: the two tables of UTF-8, and that the error is there. -/
def LaidOK (w : World) : Prop := Lib.Utf8Tabs 1 2 w ∧ ∃ t p, w.cell? ⟨0, 0, none⟩ = some (.iface t p)
theorem LaidOK.below {w w' : World} (h : LaidOK w) (hb : Below w.heap.size w w') : LaidOK w' := by
  obtain ⟨h1, t, p, h2⟩ := h
  exact ⟨Utf8Tabs_below h1 hb, t, p, (hb.cell (World.block_lt_of_cell? w _ h2)).trans h2⟩

/-- A rune that is decoded: what it is, how long. -/
structure RuneAt (l : List UInt8) (r n : Int) : Prop where
  rlo : 0 ≤ r
  rhi : r ≤ 1114111
  nlo : 1 ≤ n
  nhi : n ≤ l.length
theorem decodeRune (l : List UInt8) (w : World) (hl : 0 < l.length) (h : LaidOK w) :
    Calls Tryd.prog 56 #[.string ⟨l.toArray⟩] w fun e w' => (∃ r n, e = .returned (.tuple #[.int .i32 r, .int .i64 n]) ∧ RuneAt l r n) ∧ Below w.heap.size w w' := by
  have hsz := size_mk l
  refine (Any.utf8_DecodeRuneInString Tryd.laysDecode ⟨l.toArray⟩ w h.1).mono ?_
  rintro e w' ⟨he, hb⟩
  refine ⟨⟨_, _, he, ?_⟩, hb⟩
  have e0 : Lib.decodeGo ⟨l.toArray⟩ = Utf8.decode ⟨l.toArray⟩ 0 := by unfold Lib.decodeGo; rw [if_neg (by omega)]
  obtain ⟨r, n, hd⟩ : ∃ r n, Utf8.decode ⟨l.toArray⟩ 0 = (r, n) := ⟨_, _, rfl⟩
  obtain ⟨w1, w2, _⟩ := rune_step l 0 hl r n hd
  have h1 := Lib.rune_le ⟨l.toArray⟩ 0
  rw [e0, hd] at *
  exact ⟨by simp, by simp only at *; omega, by simp only; omega, by simp only; omega⟩
/-- The same at no bytes, too. -/
structure RuneAt0 (l : List UInt8) (r n : Int) : Prop where
  rlo : 0 ≤ r
  rhi : r ≤ 1114111
  nlo : 0 ≤ n
  nhi : n ≤ l.length
theorem decodeAny (l : List UInt8) (w : World) (h : LaidOK w) :
    Calls Tryd.prog 56 #[.string ⟨l.toArray⟩] w fun e w' => (∃ r n, e = .returned (.tuple #[.int .i32 r, .int .i64 n]) ∧ RuneAt0 l r n) ∧ Below w.heap.size w w' := by
  by_cases hl : 0 < l.length
  · refine (decodeRune l w hl h).mono ?_
    rintro e w' ⟨⟨r, n, he, hR⟩, hb⟩
    exact ⟨⟨r, n, he, hR.rlo, hR.rhi, by have := hR.nlo; omega, hR.nhi⟩, hb⟩
  · have hsz := size_mk l
    refine (Any.utf8_DecodeRuneInString Tryd.laysDecode ⟨l.toArray⟩ w h.1).mono ?_
    rintro e w' ⟨he, hb⟩
    have e0 : Lib.decodeGo ⟨l.toArray⟩ = (65533, 0) := by unfold Lib.decodeGo; rw [if_pos (by omega)]
    rw [e0] at he
    exact ⟨⟨_, _, he, by simp, by simp, by simp, by simp⟩, hb⟩
theorem validRune (r : Int) (w : World) : Calls Tryd.prog 72 #[.int .i32 r] w fun e w' => (∃ b, e = .returned (.bool b) ∧ (b = true → 0 ≤ r ∧ r ≤ 1114111)) ∧ w' = w := by
  refine (Any.utf8_ValidRune Tryd.laysRune r w).mono ?_
  rintro e w' ⟨rfl, rfl⟩
  refine ⟨⟨_, rfl, fun h => ?_⟩, rfl⟩
  unfold Lib.validRune at h
  simp at h
  omega
theorem validStr (l : List UInt8) (w : World) (hl : l.length ≤ 1000000) (h : LaidOK w) : Calls Tryd.prog 55 #[.string ⟨l.toArray⟩] w (OneB (.bool (Lib.validD l)) w) := by
  have hsz := size_mk l
  exact Any.utf8_ValidString Tryd.laysValid ⟨l.toArray⟩ w (by omega) h.1
end Go.Proofs.YtpkpacgmmhjfpaaDoor
