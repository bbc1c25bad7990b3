/- The laws' helpers of layer 7: canon, unquotes, fields; known. -/
import Derived.Test.YtpkpacgmmhjfpaaDoorNamP
namespace Go.Proofs.YtpkpacgmmhjfpaaDoor
open Go.RowKit

/-- What holds all along. -/
structure KK (w W : World) : Prop where
  below : Below w.heap.size w W
  laid : LaidOK W
theorem KK.next {w W W' : World} (h : KK w W) (hb : Below W.heap.size W W') : KK w W' := ⟨below_trans h.below hb, h.laid.below hb⟩
theorem KK.alloc {w W : World} (h : KK w W) (o : Obj) : KK w (W.alloc o) := h.next ((Below.refl _ _).alloc (Nat.le_refl _) _)
theorem beq_self (x : List UInt8) : (x == x) = true := by simp

theorem lawCanon (l x : List UInt8) (n : Nat) (w : World) (hl : l.length ≤ 500) (h : LaidOK w) (hv : canonV l = (x, n)) :
    Calls Tryd.prog 14 #[.string ⟨l.toArray⟩, .string ⟨x.toArray⟩, .int .i64 (n : Int)] w (TrueB w) := by
  have H := namCanon l w hl h
  rw [hv] at H
  have HC := Lib.hid H
  have e1 := beq_self x
  clear H hv h
  go_enter Tryd.func14, Tryd.ntmps14
  go_wp2_with fail
  refine HC.out.mono ?_
  rintro e w1 ⟨rfl, hb⟩
  have HB := Lib.hid hb
  clear hb
  unfold pairV
  go_wp2_with fail
  go_ret
  exact ⟨rfl, HB.out⟩
theorem lawUnq (l x : List UInt8) (n : Nat) (w : World) (hl : l.length ≤ 5000) (h : LaidOK w) (hv : unquoteV l = (x, n)) :
    Calls Tryd.prog 17 #[.string ⟨l.toArray⟩, .string ⟨x.toArray⟩, .int .i64 (n : Int)] w (TrueB w) := by
  have H := namUnquote l w hl h
  rw [hv] at H
  have HC := Lib.hid H
  have e1 := beq_self x
  clear H hv h
  go_enter Tryd.func17, Tryd.ntmps17
  go_wp2_with fail
  refine HC.out.mono ?_
  rintro e w1 ⟨rfl, hb⟩
  have HB := Lib.hid hb
  clear hb
  unfold pairV
  go_wp2_with fail
  go_ret
  exact ⟨rfl, HB.out⟩
theorem refSameYes (A B : Option Addr) (xs : List (List UInt8)) (cap cap' : Nat) (w : World) (hx : StrsAt w A xs) (hy : StrsAt w B xs) (hm : xs.length ≤ 100000) :
    Calls Tryd.prog 30 #[.slice A xs.length cap, .slice B xs.length cap'] w (TrueB w) := by
  have h := refSame A B xs xs cap cap' w hx hy hm hm
  have e : decide (xs = xs) = true := by simp
  rw [e] at h
  exact h
theorem lawFlds (l : List UInt8) (v : List (List UInt8)) (B : Option Addr) (d : Nat) (w : World) (hl : l.length ≤ 20000) (h : LaidOK w) (hv : fieldsN l = some v) (hm : v.length ≤ 100000) (hB : StrsAt w B v) :
    Calls Tryd.prog 20 #[.string ⟨l.toArray⟩, .int .i64 0, .slice B v.length d] w (TrueB w) := by
  have HC := Lib.hid (namFields l w hl h)
  have HV := Lib.hid hv
  have HBB := Lib.hid hB
  clear hv h hB
  go_enter Tryd.func20, Tryd.ntmps20
  go_wp2_with fail
  refine HC.out.mono ?_
  rintro e w1 ⟨h1, _, hb⟩
  obtain ⟨x, he, hx⟩ := h1 v HV.out
  obtain ⟨A, c, rfl, hx1, _⟩ := hx
  subst he
  have HB := Lib.hid hb
  have HS := Lib.hid (refSameYes A B v c d w1 hx1 (HBB.out.below hb) hm)
  clear hb h1 hx1
  go_wp2_with fail
  refine HS.out.mono ?_
  rintro e w2 ⟨rfl, hb⟩
  have HB2 := Lib.hid (below_trans HB.out hb)
  clear hb
  go_wp2_with fail
  go_ret
  exact ⟨rfl, HB2.out⟩
theorem lawFldsNo (l : List UInt8) (w : World) (hl : l.length ≤ 20000) (h : LaidOK w) (hv : fieldsN l = none) :
    Calls Tryd.prog 20 #[.string ⟨l.toArray⟩, .int .i64 6, .slice none 0 0] w (TrueB w) := by
  have HC := Lib.hid (namFields l w hl h)
  have HV := Lib.hid hv
  clear hv h
  go_enter Tryd.func20, Tryd.ntmps20
  go_wp2_with fail
  refine HC.out.mono ?_
  rintro e w1 ⟨_, h2, hb⟩
  have he := h2 HV.out
  subst he
  have HB := Lib.hid hb
  have HS := Lib.hid (refSameYes none none [] 0 0 w1 SlAt.nil SlAt.nil (by decide))
  clear hb h2
  go_wp2_with fail
  refine HS.out.mono ?_
  rintro e w2 ⟨rfl, hb⟩
  have HB2 := Lib.hid (below_trans HB.out hb)
  clear hb
  go_wp2_with fail
  go_ret
  exact ⟨rfl, HB2.out⟩

end Go.Proofs.YtpkpacgmmhjfpaaDoor
