/- The law ContextHolds, from known. -/
import Derived.Test.YtibnlifdeknicaaCtxB2
namespace Go.Proofs.Ytibnlifdeknicaa
open Go.RowKit

theorem equal_within {vs ls vs' ls' : List (Int × Int)} (h : validC vs ls = true) (h' : validC vs' ls' = true) {us rs us' rs' : List (Int × Int)} (hz : compactC vs ls = (us, rs)) (hz' : compactC vs' ls' = (us', rs')) :
    (decide (us = us') && decide (rs = rs')) = (withinC vs ls vs' ls' && withinC vs' ls' vs ls) := by
  rw [Bool.eq_iff_iff, Bool.and_eq_true, Bool.and_eq_true, decide_eq_true_eq, decide_eq_true_eq, withinC_iff h h', withinC_iff h' h]
  have e : (us = us' ∧ rs = rs') ↔ compactC vs ls = compactC vs' ls' := by rw [hz, hz', Prod.mk.injEq]
  rw [e, compact_iff h h']
  constructor
  · intro hh
    exact ⟨fun r c hc => by rw [← hh]; exact hc, fun r c hc => by rw [hh]; exact hc⟩
  · rintro ⟨h1, h2⟩ r c
    rw [Bool.eq_iff_iff]
    exact ⟨h1 r c, h2 r c⟩
theorem within_union_left {vs ls vs' ls' us rs : List (Int × Int)} (h : validC vs ls = true) (h' : validC vs' ls' = true) (hz : unionC vs ls vs' ls' = (us, rs)) : withinC vs ls us rs = true := by
  have hu := unionC_valid2 h h'
  have hh := unionC_has h h'
  rw [hz] at hu hh
  rw [withinC_iff h hu]
  intro r c hc
  rw [hh, hc, Bool.true_or]
theorem union_len {vs ls vs' ls' us rs : List (Int × Int)} (h : validC vs ls = true) (h' : validC vs' ls' = true) (hz : unionC vs ls vs' ls' = (us, rs)) : us.length + rs.length ≤ vs.length + ls.length + (vs'.length + ls'.length) := by
  have h1 := compact_len (unionC_valid h h') (show compactC _ _ = (us, rs) from hz)
  have h2 := mergeV_len vs' vs
  have h3 := setL_len (ls ++ ls')
  rw [List.length_append] at h3
  omega
def KB2X (w : World) (b0 b1 : Nat) (x0 y0 x1 y1 : Value) (L : List (Value × List (Int × Int))) (W : World) : Prop := W.cell? ⟨b0, 0, none⟩ = some (x0) ∧ W.cell? ⟨b0, 1, none⟩ = some (y0) ∧ W.cell? ⟨b1, 0, none⟩ = some (x1) ∧ W.cell? ⟨b1, 1, none⟩ = some (y1) ∧ KX w [(⟨b0, 0, none⟩, x0), (⟨b0, 1, none⟩, y0), (⟨b1, 0, none⟩, x1), (⟨b1, 1, none⟩, y1)] L W
section
variable {w W W' : World} {b0 b1 : Nat} {x0 y0 x1 y1 : Value} {L : List (Value × List (Int × Int))}
theorem KB2X.of (h : KX w [(⟨b0, 0, none⟩, x0), (⟨b0, 1, none⟩, y0), (⟨b1, 0, none⟩, x1), (⟨b1, 1, none⟩, y1)] L W) : KB2X w b0 b1 x0 y0 x1 y1 L W := ⟨h.cell (by simp), h.cell (by simp), h.cell (by simp), h.cell (by simp), h⟩
theorem KB2X.kx (h : KB2X w b0 b1 x0 y0 x1 y1 L W) : KX w [(⟨b0, 0, none⟩, x0), (⟨b0, 1, none⟩, y0), (⟨b1, 0, none⟩, x1), (⟨b1, 1, none⟩, y1)] L W := h.2.2.2.2
theorem KB2X.below (h : KB2X w b0 b1 x0 y0 x1 y1 L W) (hb : Below W.heap.size W W') : KB2X w b0 b1 x0 y0 x1 y1 L W' := .of (h.kx.below hb)
theorem KB2X.drew (h : KB2X w b0 b1 x0 y0 x1 y1 L W) : KB2X w b0 b1 x0 y0 x1 y1 L W.drew := .of h.kx.drew
end
def KB3X (w : World) (b0 b1 b2 : Nat) (x0 y0 x1 y1 x2 y2 : Value) (L : List (Value × List (Int × Int))) (W : World) : Prop := W.cell? ⟨b0, 0, none⟩ = some (x0) ∧ W.cell? ⟨b0, 1, none⟩ = some (y0) ∧ W.cell? ⟨b1, 0, none⟩ = some (x1) ∧ W.cell? ⟨b1, 1, none⟩ = some (y1) ∧ W.cell? ⟨b2, 0, none⟩ = some (x2) ∧ W.cell? ⟨b2, 1, none⟩ = some (y2) ∧ KX w [(⟨b0, 0, none⟩, x0), (⟨b0, 1, none⟩, y0), (⟨b1, 0, none⟩, x1), (⟨b1, 1, none⟩, y1), (⟨b2, 0, none⟩, x2), (⟨b2, 1, none⟩, y2)] L W
section
variable {w W W' : World} {b0 b1 b2 : Nat} {x0 y0 x1 y1 x2 y2 : Value} {L : List (Value × List (Int × Int))}
theorem KB3X.of (h : KX w [(⟨b0, 0, none⟩, x0), (⟨b0, 1, none⟩, y0), (⟨b1, 0, none⟩, x1), (⟨b1, 1, none⟩, y1), (⟨b2, 0, none⟩, x2), (⟨b2, 1, none⟩, y2)] L W) : KB3X w b0 b1 b2 x0 y0 x1 y1 x2 y2 L W := ⟨h.cell (by simp), h.cell (by simp), h.cell (by simp), h.cell (by simp), h.cell (by simp), h.cell (by simp), h⟩
theorem KB3X.kx (h : KB3X w b0 b1 b2 x0 y0 x1 y1 x2 y2 L W) : KX w [(⟨b0, 0, none⟩, x0), (⟨b0, 1, none⟩, y0), (⟨b1, 0, none⟩, x1), (⟨b1, 1, none⟩, y1), (⟨b2, 0, none⟩, x2), (⟨b2, 1, none⟩, y2)] L W := h.2.2.2.2.2.2
theorem KB3X.below (h : KB3X w b0 b1 b2 x0 y0 x1 y1 x2 y2 L W) (hb : Below W.heap.size W W') : KB3X w b0 b1 b2 x0 y0 x1 y1 x2 y2 L W' := .of (h.kx.below hb)
theorem KB3X.drew (h : KB3X w b0 b1 b2 x0 y0 x1 y1 x2 y2 L W) : KB3X w b0 b1 b2 x0 y0 x1 y1 x2 y2 L W.drew := .of h.kx.drew
end
def KB4X (w : World) (b0 b1 b2 b3 : Nat) (x0 y0 x1 y1 x2 y2 x3 y3 : Value) (L : List (Value × List (Int × Int))) (W : World) : Prop := W.cell? ⟨b0, 0, none⟩ = some (x0) ∧ W.cell? ⟨b0, 1, none⟩ = some (y0) ∧ W.cell? ⟨b1, 0, none⟩ = some (x1) ∧ W.cell? ⟨b1, 1, none⟩ = some (y1) ∧ W.cell? ⟨b2, 0, none⟩ = some (x2) ∧ W.cell? ⟨b2, 1, none⟩ = some (y2) ∧ W.cell? ⟨b3, 0, none⟩ = some (x3) ∧ W.cell? ⟨b3, 1, none⟩ = some (y3) ∧ KX w [(⟨b0, 0, none⟩, x0), (⟨b0, 1, none⟩, y0), (⟨b1, 0, none⟩, x1), (⟨b1, 1, none⟩, y1), (⟨b2, 0, none⟩, x2), (⟨b2, 1, none⟩, y2), (⟨b3, 0, none⟩, x3), (⟨b3, 1, none⟩, y3)] L W
section
variable {w W W' : World} {b0 b1 b2 b3 : Nat} {x0 y0 x1 y1 x2 y2 x3 y3 : Value} {L : List (Value × List (Int × Int))}
theorem KB4X.of (h : KX w [(⟨b0, 0, none⟩, x0), (⟨b0, 1, none⟩, y0), (⟨b1, 0, none⟩, x1), (⟨b1, 1, none⟩, y1), (⟨b2, 0, none⟩, x2), (⟨b2, 1, none⟩, y2), (⟨b3, 0, none⟩, x3), (⟨b3, 1, none⟩, y3)] L W) : KB4X w b0 b1 b2 b3 x0 y0 x1 y1 x2 y2 x3 y3 L W := ⟨h.cell (by simp), h.cell (by simp), h.cell (by simp), h.cell (by simp), h.cell (by simp), h.cell (by simp), h.cell (by simp), h.cell (by simp), h⟩
theorem KB4X.kx (h : KB4X w b0 b1 b2 b3 x0 y0 x1 y1 x2 y2 x3 y3 L W) : KX w [(⟨b0, 0, none⟩, x0), (⟨b0, 1, none⟩, y0), (⟨b1, 0, none⟩, x1), (⟨b1, 1, none⟩, y1), (⟨b2, 0, none⟩, x2), (⟨b2, 1, none⟩, y2), (⟨b3, 0, none⟩, x3), (⟨b3, 1, none⟩, y3)] L W := h.2.2.2.2.2.2.2.2
theorem KB4X.below (h : KB4X w b0 b1 b2 b3 x0 y0 x1 y1 x2 y2 x3 y3 L W) (hb : Below W.heap.size W W') : KB4X w b0 b1 b2 b3 x0 y0 x1 y1 x2 y2 x3 y3 L W' := .of (h.kx.below hb)
theorem KB4X.drew (h : KB4X w b0 b1 b2 b3 x0 y0 x1 y1 x2 y2 x3 y3 L W) : KB4X w b0 b1 b2 b3 x0 y0 x1 y1 x2 y2 x3 y3 L W.drew := .of h.kx.drew
end
def KB5X (w : World) (b0 b1 b2 b3 b4 : Nat) (x0 y0 x1 y1 x2 y2 x3 y3 x4 y4 : Value) (L : List (Value × List (Int × Int))) (W : World) : Prop := W.cell? ⟨b0, 0, none⟩ = some (x0) ∧ W.cell? ⟨b0, 1, none⟩ = some (y0) ∧ W.cell? ⟨b1, 0, none⟩ = some (x1) ∧ W.cell? ⟨b1, 1, none⟩ = some (y1) ∧ W.cell? ⟨b2, 0, none⟩ = some (x2) ∧ W.cell? ⟨b2, 1, none⟩ = some (y2) ∧ W.cell? ⟨b3, 0, none⟩ = some (x3) ∧ W.cell? ⟨b3, 1, none⟩ = some (y3) ∧ W.cell? ⟨b4, 0, none⟩ = some (x4) ∧ W.cell? ⟨b4, 1, none⟩ = some (y4) ∧ KX w [(⟨b0, 0, none⟩, x0), (⟨b0, 1, none⟩, y0), (⟨b1, 0, none⟩, x1), (⟨b1, 1, none⟩, y1), (⟨b2, 0, none⟩, x2), (⟨b2, 1, none⟩, y2), (⟨b3, 0, none⟩, x3), (⟨b3, 1, none⟩, y3), (⟨b4, 0, none⟩, x4), (⟨b4, 1, none⟩, y4)] L W
section
variable {w W W' : World} {b0 b1 b2 b3 b4 : Nat} {x0 y0 x1 y1 x2 y2 x3 y3 x4 y4 : Value} {L : List (Value × List (Int × Int))}
theorem KB5X.of (h : KX w [(⟨b0, 0, none⟩, x0), (⟨b0, 1, none⟩, y0), (⟨b1, 0, none⟩, x1), (⟨b1, 1, none⟩, y1), (⟨b2, 0, none⟩, x2), (⟨b2, 1, none⟩, y2), (⟨b3, 0, none⟩, x3), (⟨b3, 1, none⟩, y3), (⟨b4, 0, none⟩, x4), (⟨b4, 1, none⟩, y4)] L W) : KB5X w b0 b1 b2 b3 b4 x0 y0 x1 y1 x2 y2 x3 y3 x4 y4 L W := ⟨h.cell (by simp), h.cell (by simp), h.cell (by simp), h.cell (by simp), h.cell (by simp), h.cell (by simp), h.cell (by simp), h.cell (by simp), h.cell (by simp), h.cell (by simp), h⟩
theorem KB5X.kx (h : KB5X w b0 b1 b2 b3 b4 x0 y0 x1 y1 x2 y2 x3 y3 x4 y4 L W) : KX w [(⟨b0, 0, none⟩, x0), (⟨b0, 1, none⟩, y0), (⟨b1, 0, none⟩, x1), (⟨b1, 1, none⟩, y1), (⟨b2, 0, none⟩, x2), (⟨b2, 1, none⟩, y2), (⟨b3, 0, none⟩, x3), (⟨b3, 1, none⟩, y3), (⟨b4, 0, none⟩, x4), (⟨b4, 1, none⟩, y4)] L W := h.2.2.2.2.2.2.2.2.2.2
theorem KB5X.below (h : KB5X w b0 b1 b2 b3 b4 x0 y0 x1 y1 x2 y2 x3 y3 x4 y4 L W) (hb : Below W.heap.size W W') : KB5X w b0 b1 b2 b3 b4 x0 y0 x1 y1 x2 y2 x3 y3 x4 y4 L W' := .of (h.kx.below hb)
theorem KB5X.drew (h : KB5X w b0 b1 b2 b3 b4 x0 y0 x1 y1 x2 y2 x3 y3 x4 y4 L W) : KB5X w b0 b1 b2 b3 b4 x0 y0 x1 y1 x2 y2 x3 y3 x4 y4 L W.drew := .of h.kx.drew
end
def KB6X (w : World) (b0 b1 b2 b3 b4 b5 : Nat) (x0 y0 x1 y1 x2 y2 x3 y3 x4 y4 x5 y5 : Value) (L : List (Value × List (Int × Int))) (W : World) : Prop := W.cell? ⟨b0, 0, none⟩ = some (x0) ∧ W.cell? ⟨b0, 1, none⟩ = some (y0) ∧ W.cell? ⟨b1, 0, none⟩ = some (x1) ∧ W.cell? ⟨b1, 1, none⟩ = some (y1) ∧ W.cell? ⟨b2, 0, none⟩ = some (x2) ∧ W.cell? ⟨b2, 1, none⟩ = some (y2) ∧ W.cell? ⟨b3, 0, none⟩ = some (x3) ∧ W.cell? ⟨b3, 1, none⟩ = some (y3) ∧ W.cell? ⟨b4, 0, none⟩ = some (x4) ∧ W.cell? ⟨b4, 1, none⟩ = some (y4) ∧ W.cell? ⟨b5, 0, none⟩ = some (x5) ∧ W.cell? ⟨b5, 1, none⟩ = some (y5) ∧ KX w [(⟨b0, 0, none⟩, x0), (⟨b0, 1, none⟩, y0), (⟨b1, 0, none⟩, x1), (⟨b1, 1, none⟩, y1), (⟨b2, 0, none⟩, x2), (⟨b2, 1, none⟩, y2), (⟨b3, 0, none⟩, x3), (⟨b3, 1, none⟩, y3), (⟨b4, 0, none⟩, x4), (⟨b4, 1, none⟩, y4), (⟨b5, 0, none⟩, x5), (⟨b5, 1, none⟩, y5)] L W
section
variable {w W W' : World} {b0 b1 b2 b3 b4 b5 : Nat} {x0 y0 x1 y1 x2 y2 x3 y3 x4 y4 x5 y5 : Value} {L : List (Value × List (Int × Int))}
theorem KB6X.of (h : KX w [(⟨b0, 0, none⟩, x0), (⟨b0, 1, none⟩, y0), (⟨b1, 0, none⟩, x1), (⟨b1, 1, none⟩, y1), (⟨b2, 0, none⟩, x2), (⟨b2, 1, none⟩, y2), (⟨b3, 0, none⟩, x3), (⟨b3, 1, none⟩, y3), (⟨b4, 0, none⟩, x4), (⟨b4, 1, none⟩, y4), (⟨b5, 0, none⟩, x5), (⟨b5, 1, none⟩, y5)] L W) : KB6X w b0 b1 b2 b3 b4 b5 x0 y0 x1 y1 x2 y2 x3 y3 x4 y4 x5 y5 L W := ⟨h.cell (by simp), h.cell (by simp), h.cell (by simp), h.cell (by simp), h.cell (by simp), h.cell (by simp), h.cell (by simp), h.cell (by simp), h.cell (by simp), h.cell (by simp), h.cell (by simp), h.cell (by simp), h⟩
theorem KB6X.kx (h : KB6X w b0 b1 b2 b3 b4 b5 x0 y0 x1 y1 x2 y2 x3 y3 x4 y4 x5 y5 L W) : KX w [(⟨b0, 0, none⟩, x0), (⟨b0, 1, none⟩, y0), (⟨b1, 0, none⟩, x1), (⟨b1, 1, none⟩, y1), (⟨b2, 0, none⟩, x2), (⟨b2, 1, none⟩, y2), (⟨b3, 0, none⟩, x3), (⟨b3, 1, none⟩, y3), (⟨b4, 0, none⟩, x4), (⟨b4, 1, none⟩, y4), (⟨b5, 0, none⟩, x5), (⟨b5, 1, none⟩, y5)] L W := h.2.2.2.2.2.2.2.2.2.2.2.2
theorem KB6X.below (h : KB6X w b0 b1 b2 b3 b4 b5 x0 y0 x1 y1 x2 y2 x3 y3 x4 y4 x5 y5 L W) (hb : Below W.heap.size W W') : KB6X w b0 b1 b2 b3 b4 b5 x0 y0 x1 y1 x2 y2 x3 y3 x4 y4 x5 y5 L W' := .of (h.kx.below hb)
theorem KB6X.drew (h : KB6X w b0 b1 b2 b3 b4 b5 x0 y0 x1 y1 x2 y2 x3 y3 x4 y4 x5 y5 L W) : KB6X w b0 b1 b2 b3 b4 b5 x0 y0 x1 y1 x2 y2 x3 y3 x4 y4 x5 y5 L W.drew := .of h.kx.drew
end
def KB7X (w : World) (b0 b1 b2 b3 b4 b5 b6 : Nat) (x0 y0 x1 y1 x2 y2 x3 y3 x4 y4 x5 y5 x6 y6 : Value) (L : List (Value × List (Int × Int))) (W : World) : Prop := W.cell? ⟨b0, 0, none⟩ = some (x0) ∧ W.cell? ⟨b0, 1, none⟩ = some (y0) ∧ W.cell? ⟨b1, 0, none⟩ = some (x1) ∧ W.cell? ⟨b1, 1, none⟩ = some (y1) ∧ W.cell? ⟨b2, 0, none⟩ = some (x2) ∧ W.cell? ⟨b2, 1, none⟩ = some (y2) ∧ W.cell? ⟨b3, 0, none⟩ = some (x3) ∧ W.cell? ⟨b3, 1, none⟩ = some (y3) ∧ W.cell? ⟨b4, 0, none⟩ = some (x4) ∧ W.cell? ⟨b4, 1, none⟩ = some (y4) ∧ W.cell? ⟨b5, 0, none⟩ = some (x5) ∧ W.cell? ⟨b5, 1, none⟩ = some (y5) ∧ W.cell? ⟨b6, 0, none⟩ = some (x6) ∧ W.cell? ⟨b6, 1, none⟩ = some (y6) ∧ KX w [(⟨b0, 0, none⟩, x0), (⟨b0, 1, none⟩, y0), (⟨b1, 0, none⟩, x1), (⟨b1, 1, none⟩, y1), (⟨b2, 0, none⟩, x2), (⟨b2, 1, none⟩, y2), (⟨b3, 0, none⟩, x3), (⟨b3, 1, none⟩, y3), (⟨b4, 0, none⟩, x4), (⟨b4, 1, none⟩, y4), (⟨b5, 0, none⟩, x5), (⟨b5, 1, none⟩, y5), (⟨b6, 0, none⟩, x6), (⟨b6, 1, none⟩, y6)] L W
section
variable {w W W' : World} {b0 b1 b2 b3 b4 b5 b6 : Nat} {x0 y0 x1 y1 x2 y2 x3 y3 x4 y4 x5 y5 x6 y6 : Value} {L : List (Value × List (Int × Int))}
theorem KB7X.of (h : KX w [(⟨b0, 0, none⟩, x0), (⟨b0, 1, none⟩, y0), (⟨b1, 0, none⟩, x1), (⟨b1, 1, none⟩, y1), (⟨b2, 0, none⟩, x2), (⟨b2, 1, none⟩, y2), (⟨b3, 0, none⟩, x3), (⟨b3, 1, none⟩, y3), (⟨b4, 0, none⟩, x4), (⟨b4, 1, none⟩, y4), (⟨b5, 0, none⟩, x5), (⟨b5, 1, none⟩, y5), (⟨b6, 0, none⟩, x6), (⟨b6, 1, none⟩, y6)] L W) : KB7X w b0 b1 b2 b3 b4 b5 b6 x0 y0 x1 y1 x2 y2 x3 y3 x4 y4 x5 y5 x6 y6 L W := ⟨h.cell (by simp), h.cell (by simp), h.cell (by simp), h.cell (by simp), h.cell (by simp), h.cell (by simp), h.cell (by simp), h.cell (by simp), h.cell (by simp), h.cell (by simp), h.cell (by simp), h.cell (by simp), h.cell (by simp), h.cell (by simp), h⟩
theorem KB7X.kx (h : KB7X w b0 b1 b2 b3 b4 b5 b6 x0 y0 x1 y1 x2 y2 x3 y3 x4 y4 x5 y5 x6 y6 L W) : KX w [(⟨b0, 0, none⟩, x0), (⟨b0, 1, none⟩, y0), (⟨b1, 0, none⟩, x1), (⟨b1, 1, none⟩, y1), (⟨b2, 0, none⟩, x2), (⟨b2, 1, none⟩, y2), (⟨b3, 0, none⟩, x3), (⟨b3, 1, none⟩, y3), (⟨b4, 0, none⟩, x4), (⟨b4, 1, none⟩, y4), (⟨b5, 0, none⟩, x5), (⟨b5, 1, none⟩, y5), (⟨b6, 0, none⟩, x6), (⟨b6, 1, none⟩, y6)] L W := h.2.2.2.2.2.2.2.2.2.2.2.2.2.2
theorem KB7X.below (h : KB7X w b0 b1 b2 b3 b4 b5 b6 x0 y0 x1 y1 x2 y2 x3 y3 x4 y4 x5 y5 x6 y6 L W) (hb : Below W.heap.size W W') : KB7X w b0 b1 b2 b3 b4 b5 b6 x0 y0 x1 y1 x2 y2 x3 y3 x4 y4 x5 y5 x6 y6 L W' := .of (h.kx.below hb)
theorem KB7X.drew (h : KB7X w b0 b1 b2 b3 b4 b5 b6 x0 y0 x1 y1 x2 y2 x3 y3 x4 y4 x5 y5 x6 y6 L W) : KB7X w b0 b1 b2 b3 b4 b5 b6 x0 y0 x1 y1 x2 y2 x3 y3 x4 y4 x5 y5 x6 y6 L W.drew := .of h.kx.drew
end
def KB8X (w : World) (b0 b1 b2 b3 b4 b5 b6 b7 : Nat) (x0 y0 x1 y1 x2 y2 x3 y3 x4 y4 x5 y5 x6 y6 x7 y7 : Value) (L : List (Value × List (Int × Int))) (W : World) : Prop := W.cell? ⟨b0, 0, none⟩ = some (x0) ∧ W.cell? ⟨b0, 1, none⟩ = some (y0) ∧ W.cell? ⟨b1, 0, none⟩ = some (x1) ∧ W.cell? ⟨b1, 1, none⟩ = some (y1) ∧ W.cell? ⟨b2, 0, none⟩ = some (x2) ∧ W.cell? ⟨b2, 1, none⟩ = some (y2) ∧ W.cell? ⟨b3, 0, none⟩ = some (x3) ∧ W.cell? ⟨b3, 1, none⟩ = some (y3) ∧ W.cell? ⟨b4, 0, none⟩ = some (x4) ∧ W.cell? ⟨b4, 1, none⟩ = some (y4) ∧ W.cell? ⟨b5, 0, none⟩ = some (x5) ∧ W.cell? ⟨b5, 1, none⟩ = some (y5) ∧ W.cell? ⟨b6, 0, none⟩ = some (x6) ∧ W.cell? ⟨b6, 1, none⟩ = some (y6) ∧ W.cell? ⟨b7, 0, none⟩ = some (x7) ∧ W.cell? ⟨b7, 1, none⟩ = some (y7) ∧ KX w [(⟨b0, 0, none⟩, x0), (⟨b0, 1, none⟩, y0), (⟨b1, 0, none⟩, x1), (⟨b1, 1, none⟩, y1), (⟨b2, 0, none⟩, x2), (⟨b2, 1, none⟩, y2), (⟨b3, 0, none⟩, x3), (⟨b3, 1, none⟩, y3), (⟨b4, 0, none⟩, x4), (⟨b4, 1, none⟩, y4), (⟨b5, 0, none⟩, x5), (⟨b5, 1, none⟩, y5), (⟨b6, 0, none⟩, x6), (⟨b6, 1, none⟩, y6), (⟨b7, 0, none⟩, x7), (⟨b7, 1, none⟩, y7)] L W
section
variable {w W W' : World} {b0 b1 b2 b3 b4 b5 b6 b7 : Nat} {x0 y0 x1 y1 x2 y2 x3 y3 x4 y4 x5 y5 x6 y6 x7 y7 : Value} {L : List (Value × List (Int × Int))}
theorem KB8X.of (h : KX w [(⟨b0, 0, none⟩, x0), (⟨b0, 1, none⟩, y0), (⟨b1, 0, none⟩, x1), (⟨b1, 1, none⟩, y1), (⟨b2, 0, none⟩, x2), (⟨b2, 1, none⟩, y2), (⟨b3, 0, none⟩, x3), (⟨b3, 1, none⟩, y3), (⟨b4, 0, none⟩, x4), (⟨b4, 1, none⟩, y4), (⟨b5, 0, none⟩, x5), (⟨b5, 1, none⟩, y5), (⟨b6, 0, none⟩, x6), (⟨b6, 1, none⟩, y6), (⟨b7, 0, none⟩, x7), (⟨b7, 1, none⟩, y7)] L W) : KB8X w b0 b1 b2 b3 b4 b5 b6 b7 x0 y0 x1 y1 x2 y2 x3 y3 x4 y4 x5 y5 x6 y6 x7 y7 L W := ⟨h.cell (by simp), h.cell (by simp), h.cell (by simp), h.cell (by simp), h.cell (by simp), h.cell (by simp), h.cell (by simp), h.cell (by simp), h.cell (by simp), h.cell (by simp), h.cell (by simp), h.cell (by simp), h.cell (by simp), h.cell (by simp), h.cell (by simp), h.cell (by simp), h⟩
theorem KB8X.kx (h : KB8X w b0 b1 b2 b3 b4 b5 b6 b7 x0 y0 x1 y1 x2 y2 x3 y3 x4 y4 x5 y5 x6 y6 x7 y7 L W) : KX w [(⟨b0, 0, none⟩, x0), (⟨b0, 1, none⟩, y0), (⟨b1, 0, none⟩, x1), (⟨b1, 1, none⟩, y1), (⟨b2, 0, none⟩, x2), (⟨b2, 1, none⟩, y2), (⟨b3, 0, none⟩, x3), (⟨b3, 1, none⟩, y3), (⟨b4, 0, none⟩, x4), (⟨b4, 1, none⟩, y4), (⟨b5, 0, none⟩, x5), (⟨b5, 1, none⟩, y5), (⟨b6, 0, none⟩, x6), (⟨b6, 1, none⟩, y6), (⟨b7, 0, none⟩, x7), (⟨b7, 1, none⟩, y7)] L W := h.2.2.2.2.2.2.2.2.2.2.2.2.2.2.2.2
theorem KB8X.below (h : KB8X w b0 b1 b2 b3 b4 b5 b6 b7 x0 y0 x1 y1 x2 y2 x3 y3 x4 y4 x5 y5 x6 y6 x7 y7 L W) (hb : Below W.heap.size W W') : KB8X w b0 b1 b2 b3 b4 b5 b6 b7 x0 y0 x1 y1 x2 y2 x3 y3 x4 y4 x5 y5 x6 y6 x7 y7 L W' := .of (h.kx.below hb)
theorem KB8X.drew (h : KB8X w b0 b1 b2 b3 b4 b5 b6 b7 x0 y0 x1 y1 x2 y2 x3 y3 x4 y4 x5 y5 x6 y6 x7 y7 L W) : KB8X w b0 b1 b2 b3 b4 b5 b6 b7 x0 y0 x1 y1 x2 y2 x3 y3 x4 y4 x5 y5 x6 y6 x7 y7 L W.drew := .of h.kx.drew
end
def KB9X (w : World) (b0 b1 b2 b3 b4 b5 b6 b7 b8 : Nat) (x0 y0 x1 y1 x2 y2 x3 y3 x4 y4 x5 y5 x6 y6 x7 y7 x8 y8 : Value) (L : List (Value × List (Int × Int))) (W : World) : Prop := W.cell? ⟨b0, 0, none⟩ = some (x0) ∧ W.cell? ⟨b0, 1, none⟩ = some (y0) ∧ W.cell? ⟨b1, 0, none⟩ = some (x1) ∧ W.cell? ⟨b1, 1, none⟩ = some (y1) ∧ W.cell? ⟨b2, 0, none⟩ = some (x2) ∧ W.cell? ⟨b2, 1, none⟩ = some (y2) ∧ W.cell? ⟨b3, 0, none⟩ = some (x3) ∧ W.cell? ⟨b3, 1, none⟩ = some (y3) ∧ W.cell? ⟨b4, 0, none⟩ = some (x4) ∧ W.cell? ⟨b4, 1, none⟩ = some (y4) ∧ W.cell? ⟨b5, 0, none⟩ = some (x5) ∧ W.cell? ⟨b5, 1, none⟩ = some (y5) ∧ W.cell? ⟨b6, 0, none⟩ = some (x6) ∧ W.cell? ⟨b6, 1, none⟩ = some (y6) ∧ W.cell? ⟨b7, 0, none⟩ = some (x7) ∧ W.cell? ⟨b7, 1, none⟩ = some (y7) ∧ W.cell? ⟨b8, 0, none⟩ = some (x8) ∧ W.cell? ⟨b8, 1, none⟩ = some (y8) ∧ KX w [(⟨b0, 0, none⟩, x0), (⟨b0, 1, none⟩, y0), (⟨b1, 0, none⟩, x1), (⟨b1, 1, none⟩, y1), (⟨b2, 0, none⟩, x2), (⟨b2, 1, none⟩, y2), (⟨b3, 0, none⟩, x3), (⟨b3, 1, none⟩, y3), (⟨b4, 0, none⟩, x4), (⟨b4, 1, none⟩, y4), (⟨b5, 0, none⟩, x5), (⟨b5, 1, none⟩, y5), (⟨b6, 0, none⟩, x6), (⟨b6, 1, none⟩, y6), (⟨b7, 0, none⟩, x7), (⟨b7, 1, none⟩, y7), (⟨b8, 0, none⟩, x8), (⟨b8, 1, none⟩, y8)] L W
section
variable {w W W' : World} {b0 b1 b2 b3 b4 b5 b6 b7 b8 : Nat} {x0 y0 x1 y1 x2 y2 x3 y3 x4 y4 x5 y5 x6 y6 x7 y7 x8 y8 : Value} {L : List (Value × List (Int × Int))}
theorem KB9X.of (h : KX w [(⟨b0, 0, none⟩, x0), (⟨b0, 1, none⟩, y0), (⟨b1, 0, none⟩, x1), (⟨b1, 1, none⟩, y1), (⟨b2, 0, none⟩, x2), (⟨b2, 1, none⟩, y2), (⟨b3, 0, none⟩, x3), (⟨b3, 1, none⟩, y3), (⟨b4, 0, none⟩, x4), (⟨b4, 1, none⟩, y4), (⟨b5, 0, none⟩, x5), (⟨b5, 1, none⟩, y5), (⟨b6, 0, none⟩, x6), (⟨b6, 1, none⟩, y6), (⟨b7, 0, none⟩, x7), (⟨b7, 1, none⟩, y7), (⟨b8, 0, none⟩, x8), (⟨b8, 1, none⟩, y8)] L W) : KB9X w b0 b1 b2 b3 b4 b5 b6 b7 b8 x0 y0 x1 y1 x2 y2 x3 y3 x4 y4 x5 y5 x6 y6 x7 y7 x8 y8 L W := ⟨h.cell (by simp), h.cell (by simp), h.cell (by simp), h.cell (by simp), h.cell (by simp), h.cell (by simp), h.cell (by simp), h.cell (by simp), h.cell (by simp), h.cell (by simp), h.cell (by simp), h.cell (by simp), h.cell (by simp), h.cell (by simp), h.cell (by simp), h.cell (by simp), h.cell (by simp), h.cell (by simp), h⟩
theorem KB9X.kx (h : KB9X w b0 b1 b2 b3 b4 b5 b6 b7 b8 x0 y0 x1 y1 x2 y2 x3 y3 x4 y4 x5 y5 x6 y6 x7 y7 x8 y8 L W) : KX w [(⟨b0, 0, none⟩, x0), (⟨b0, 1, none⟩, y0), (⟨b1, 0, none⟩, x1), (⟨b1, 1, none⟩, y1), (⟨b2, 0, none⟩, x2), (⟨b2, 1, none⟩, y2), (⟨b3, 0, none⟩, x3), (⟨b3, 1, none⟩, y3), (⟨b4, 0, none⟩, x4), (⟨b4, 1, none⟩, y4), (⟨b5, 0, none⟩, x5), (⟨b5, 1, none⟩, y5), (⟨b6, 0, none⟩, x6), (⟨b6, 1, none⟩, y6), (⟨b7, 0, none⟩, x7), (⟨b7, 1, none⟩, y7), (⟨b8, 0, none⟩, x8), (⟨b8, 1, none⟩, y8)] L W := h.2.2.2.2.2.2.2.2.2.2.2.2.2.2.2.2.2.2
theorem KB9X.below (h : KB9X w b0 b1 b2 b3 b4 b5 b6 b7 b8 x0 y0 x1 y1 x2 y2 x3 y3 x4 y4 x5 y5 x6 y6 x7 y7 x8 y8 L W) (hb : Below W.heap.size W W') : KB9X w b0 b1 b2 b3 b4 b5 b6 b7 b8 x0 y0 x1 y1 x2 y2 x3 y3 x4 y4 x5 y5 x6 y6 x7 y7 x8 y8 L W' := .of (h.kx.below hb)
theorem KB9X.drew (h : KB9X w b0 b1 b2 b3 b4 b5 b6 b7 b8 x0 y0 x1 y1 x2 y2 x3 y3 x4 y4 x5 y5 x6 y6 x7 y7 x8 y8 L W) : KB9X w b0 b1 b2 b3 b4 b5 b6 b7 b8 x0 y0 x1 y1 x2 y2 x3 y3 x4 y4 x5 y5 x6 y6 x7 y7 x8 y8 L W.drew := .of h.kx.drew
end

set_option maxRecDepth 100000 in
set_option maxHeartbeats 16000000 in
theorem lawHolds3 (KN : KnownOK) (v vp vq : Value) (vs ls vsp lsp vsq lsq : List (Int × Int)) (r c : Int) (w : World) (h : HoldsC w v vs ls) (hp : HoldsC w vp vsp lsp) (hq : HoldsC w vq vsq lsq) :
    Calls Try.prog 8 #[v, vp, vq, .agg #[.int .i64 r, .int .i64 c]] w fun e w' => e = .returned (.bool true) ∧ Below w.heap.size w w' := by
  obtain ⟨A, n, B, k, rfl, h1, h2⟩ := h
  obtain ⟨Ap, np, Bp, kp, rfl, h1p, h2p⟩ := hp
  obtain ⟨Aq, nq, Bq, kq, rfl, h1q, h2q⟩ := hq
  have K := (((((((((((KX.nil w).push h1).push h2).push h1p).push h2p).push h1q).push h2q).box (.slice A vs.length n) (.slice B ls.length k) 25).box (.slice Ap vsp.length np) (.slice Bp lsp.length kp) 25).box (.slice Aq vsq.length nq) (.slice Bq lsq.length kq) 25).box (.int .i64 r) (.int .i64 c) 38)
  simp only [World.size_alloc] at K
  have K := Lib.hid K
  have HKN := Lib.hid KN
  clear h1 h2 h1p h2p h1q h2q KN
  have hcc : ∀ W, KX w [(⟨w.heap.size + 1 + 1 + 1, 0, none⟩, .int .i64 r), (⟨w.heap.size + 1 + 1 + 1, 1, none⟩, .int .i64 c), (⟨w.heap.size + 1 + 1, 0, none⟩, .slice Aq vsq.length nq), (⟨w.heap.size + 1 + 1, 1, none⟩, .slice Bq lsq.length kq), (⟨w.heap.size + 1, 0, none⟩, .slice Ap vsp.length np), (⟨w.heap.size + 1, 1, none⟩, .slice Bp lsp.length kp), (⟨w.heap.size, 0, none⟩, .slice A vs.length n), (⟨w.heap.size, 1, none⟩, .slice B ls.length k)] [(.slice Bq lsq.length kq, lsq), (.slice Aq vsq.length nq, vsq), (.slice Bp lsp.length kp, lsp), (.slice Ap vsp.length np, vsp), (.slice B ls.length k, ls), (.slice A vs.length n, vs)] W → HoldsC W (.agg #[.slice A vs.length n, .slice B ls.length k]) vs ls ∧ HoldsC W (.agg #[.slice Ap vsp.length np, .slice Bp lsp.length kp]) vsp lsp ∧ HoldsC W (.agg #[.slice Aq vsq.length nq, .slice Bq lsq.length kq]) vsq lsq ∧ W.cell? ⟨w.heap.size, 0, none⟩ = some (.slice A vs.length n) ∧ W.cell? ⟨w.heap.size, 1, none⟩ = some (.slice B ls.length k) ∧ W.cell? ⟨w.heap.size + 1, 0, none⟩ = some (.slice Ap vsp.length np) ∧ W.cell? ⟨w.heap.size + 1, 1, none⟩ = some (.slice Bp lsp.length kp) ∧ W.cell? ⟨w.heap.size + 1 + 1, 0, none⟩ = some (.slice Aq vsq.length nq) ∧ W.cell? ⟨w.heap.size + 1 + 1, 1, none⟩ = some (.slice Bq lsq.length kq) ∧ W.cell? ⟨w.heap.size + 1 + 1 + 1, 0, none⟩ = some (.int .i64 r) ∧ W.cell? ⟨w.heap.size + 1 + 1 + 1, 1, none⟩ = some (.int .i64 c) :=
    fun W K => ⟨HoldsC.mk (K.h (by simp)) (K.h (by simp)), HoldsC.mk (K.h (by simp)) (K.h (by simp)), HoldsC.mk (K.h (by simp)) (K.h (by simp)), K.cell (by simp), K.cell (by simp), K.cell (by simp), K.cell (by simp), K.cell (by simp), K.cell (by simp), K.cell (by simp), K.cell (by simp)⟩
  have HCC := Lib.hid hcc
  clear hcc
  cases hl : (decide (vs.length ≤ 40) && decide (ls.length ≤ 40)) with
  | false =>
    have HC0 := Lib.hid fun W K => law3Light (.agg #[.slice A vs.length n, .slice B ls.length k]) vs ls false W (HCC.out W K).1 hl
    clear hl
    go_enter Try.func8, Try.ntmps8
    go_wp2_with fail
    refine (HC0.out _ K.out).mono ?_
    rintro e w1 ⟨rfl, hb1⟩
    have K1 := Lib.hid (K.out.below hb1)
    clear hb1
    go_wp2_with fail
    refine (HKN.out _).mono ?_
    rintro e wz ⟨rfl, hb1⟩
    have KZ := Lib.hid (K1.out.below hb1)
    clear hb1
    go_wp2
    go_ret
    exact ⟨rfl, KZ.out.bel⟩
  | true =>
    have HC0 := Lib.hid fun W K => law3Light (.agg #[.slice A vs.length n, .slice B ls.length k]) vs ls true W (HCC.out W K).1 hl
    cases hlp : (decide (vsp.length ≤ 40) && decide (lsp.length ≤ 40)) with
    | false =>
      have HC1 := Lib.hid fun W K => law3Light (.agg #[.slice Ap vsp.length np, .slice Bp lsp.length kp]) vsp lsp false W (HCC.out W K).2.1 hlp
      clear hl hlp
      go_enter Try.func8, Try.ntmps8
      go_wp2_with fail
      refine (HC0.out _ K.out).mono ?_
      rintro e w1 ⟨rfl, hb1⟩
      have K1 := Lib.hid (K.out.below hb1)
      clear hb1
      obtain ⟨_, _, _, j0, j1, j2, j3, j4, j5, j6, j7⟩ := HCC.out _ K1.out
      go_wp2_with fail
      refine (HC1.out _ K1.out).mono ?_
      rintro e w2 ⟨rfl, hb1⟩
      have K2 := Lib.hid (K1.out.below hb1)
      clear hb1 j0 j1 j2 j3 j4 j5 j6 j7
      go_wp2_with fail
      refine (HKN.out _).mono ?_
      rintro e wz ⟨rfl, hb1⟩
      have KZ := Lib.hid (K2.out.below hb1)
      clear hb1
      go_wp2
      go_ret
      exact ⟨rfl, KZ.out.bel⟩
    | true =>
      have HC1 := Lib.hid fun W K => law3Light (.agg #[.slice Ap vsp.length np, .slice Bp lsp.length kp]) vsp lsp true W (HCC.out W K).2.1 hlp
      cases hlq : (decide (vsq.length ≤ 40) && decide (lsq.length ≤ 40)) with
      | false =>
        have HC2 := Lib.hid fun W K => law3Light (.agg #[.slice Aq vsq.length nq, .slice Bq lsq.length kq]) vsq lsq false W (HCC.out W K).2.2.1 hlq
        clear hl hlp hlq
        go_enter Try.func8, Try.ntmps8
        go_wp2_with fail
        refine (HC0.out _ K.out).mono ?_
        rintro e w1 ⟨rfl, hb1⟩
        have K1 := Lib.hid (K.out.below hb1)
        clear hb1
        obtain ⟨_, _, _, j0, j1, j2, j3, j4, j5, j6, j7⟩ := HCC.out _ K1.out
        go_wp2_with fail
        refine (HC1.out _ K1.out).mono ?_
        rintro e w2 ⟨rfl, hb1⟩
        have K2 := Lib.hid (K1.out.below hb1)
        clear hb1 j0 j1 j2 j3 j4 j5 j6 j7
        obtain ⟨_, _, _, j0, j1, j2, j3, j4, j5, j6, j7⟩ := HCC.out _ K2.out
        go_wp2_with fail
        refine (HC2.out _ K2.out).mono ?_
        rintro e w3 ⟨rfl, hb1⟩
        have K3 := Lib.hid (K2.out.below hb1)
        clear hb1 j0 j1 j2 j3 j4 j5 j6 j7
        go_wp2_with fail
        refine (HKN.out _).mono ?_
        rintro e wz ⟨rfl, hb1⟩
        have KZ := Lib.hid (K3.out.below hb1)
        clear hb1
        go_wp2
        go_ret
        exact ⟨rfl, KZ.out.bel⟩
      | true =>
        have HC2 := Lib.hid fun W K => law3Light (.agg #[.slice Aq vsq.length nq, .slice Bq lsq.length kq]) vsq lsq true W (HCC.out W K).2.2.1 hlq
        cases hv : validC vs ls with
        | false =>
          have HC3 := Lib.hid fun W K => ctxValid (.agg #[.slice A vs.length n, .slice B ls.length k]) vs ls false W (HCC.out W K).1 hv
          clear hl hlp hlq hv
          go_enter Try.func8, Try.ntmps8
          go_wp2_with fail
          refine (HC0.out _ K.out).mono ?_
          rintro e w1 ⟨rfl, hb1⟩
          have K1 := Lib.hid (K.out.below hb1)
          clear hb1
          obtain ⟨_, _, _, j0, j1, j2, j3, j4, j5, j6, j7⟩ := HCC.out _ K1.out
          go_wp2_with fail
          refine (HC1.out _ K1.out).mono ?_
          rintro e w2 ⟨rfl, hb1⟩
          have K2 := Lib.hid (K1.out.below hb1)
          clear hb1 j0 j1 j2 j3 j4 j5 j6 j7
          obtain ⟨_, _, _, j0, j1, j2, j3, j4, j5, j6, j7⟩ := HCC.out _ K2.out
          go_wp2_with fail
          refine (HC2.out _ K2.out).mono ?_
          rintro e w3 ⟨rfl, hb1⟩
          have K3 := Lib.hid (K2.out.below hb1)
          clear hb1 j0 j1 j2 j3 j4 j5 j6 j7
          obtain ⟨_, _, _, j0, j1, j2, j3, j4, j5, j6, j7⟩ := HCC.out _ K3.out
          go_wp2_with fail
          refine (HC3.out _ K3.out).mono ?_
          rintro e w4 ⟨rfl, hb1⟩
          have K4 := Lib.hid (K3.out.below hb1)
          clear hb1 j0 j1 j2 j3 j4 j5 j6 j7
          go_wp2_with fail
          refine (HKN.out _).mono ?_
          rintro e wz ⟨rfl, hb1⟩
          have KZ := Lib.hid (K4.out.below hb1)
          clear hb1
          go_wp2
          go_ret
          exact ⟨rfl, KZ.out.bel⟩
        | true =>
          have HC3 := Lib.hid fun W K => ctxValid (.agg #[.slice A vs.length n, .slice B ls.length k]) vs ls true W (HCC.out W K).1 hv
          cases hvp : validC vsp lsp with
          | false =>
            have HC4 := Lib.hid fun W K => ctxValid (.agg #[.slice Ap vsp.length np, .slice Bp lsp.length kp]) vsp lsp false W (HCC.out W K).2.1 hvp
            clear hl hlp hlq hv hvp
            go_enter Try.func8, Try.ntmps8
            go_wp2_with fail
            refine (HC0.out _ K.out).mono ?_
            rintro e w1 ⟨rfl, hb1⟩
            have K1 := Lib.hid (K.out.below hb1)
            clear hb1
            obtain ⟨_, _, _, j0, j1, j2, j3, j4, j5, j6, j7⟩ := HCC.out _ K1.out
            go_wp2_with fail
            refine (HC1.out _ K1.out).mono ?_
            rintro e w2 ⟨rfl, hb1⟩
            have K2 := Lib.hid (K1.out.below hb1)
            clear hb1 j0 j1 j2 j3 j4 j5 j6 j7
            obtain ⟨_, _, _, j0, j1, j2, j3, j4, j5, j6, j7⟩ := HCC.out _ K2.out
            go_wp2_with fail
            refine (HC2.out _ K2.out).mono ?_
            rintro e w3 ⟨rfl, hb1⟩
            have K3 := Lib.hid (K2.out.below hb1)
            clear hb1 j0 j1 j2 j3 j4 j5 j6 j7
            obtain ⟨_, _, _, j0, j1, j2, j3, j4, j5, j6, j7⟩ := HCC.out _ K3.out
            go_wp2_with fail
            refine (HC3.out _ K3.out).mono ?_
            rintro e w4 ⟨rfl, hb1⟩
            have K4 := Lib.hid (K3.out.below hb1)
            clear hb1 j0 j1 j2 j3 j4 j5 j6 j7
            obtain ⟨_, _, _, j0, j1, j2, j3, j4, j5, j6, j7⟩ := HCC.out _ K4.out
            go_wp2_with fail
            refine (HC4.out _ K4.out).mono ?_
            rintro e w5 ⟨rfl, hb1⟩
            have K5 := Lib.hid (K4.out.below hb1)
            clear hb1 j0 j1 j2 j3 j4 j5 j6 j7
            go_wp2_with fail
            refine (HKN.out _).mono ?_
            rintro e wz ⟨rfl, hb1⟩
            have KZ := Lib.hid (K5.out.below hb1)
            clear hb1
            go_wp2
            go_ret
            exact ⟨rfl, KZ.out.bel⟩
          | true =>
            have HC4 := Lib.hid fun W K => ctxValid (.agg #[.slice Ap vsp.length np, .slice Bp lsp.length kp]) vsp lsp true W (HCC.out W K).2.1 hvp
            cases hvq : validC vsq lsq with
            | false =>
              have HC5 := Lib.hid fun W K => ctxValid (.agg #[.slice Aq vsq.length nq, .slice Bq lsq.length kq]) vsq lsq false W (HCC.out W K).2.2.1 hvq
              clear hl hlp hlq hv hvp hvq
              go_enter Try.func8, Try.ntmps8
              go_wp2_with fail
              refine (HC0.out _ K.out).mono ?_
              rintro e w1 ⟨rfl, hb1⟩
              have K1 := Lib.hid (K.out.below hb1)
              clear hb1
              obtain ⟨_, _, _, j0, j1, j2, j3, j4, j5, j6, j7⟩ := HCC.out _ K1.out
              go_wp2_with fail
              refine (HC1.out _ K1.out).mono ?_
              rintro e w2 ⟨rfl, hb1⟩
              have K2 := Lib.hid (K1.out.below hb1)
              clear hb1 j0 j1 j2 j3 j4 j5 j6 j7
              obtain ⟨_, _, _, j0, j1, j2, j3, j4, j5, j6, j7⟩ := HCC.out _ K2.out
              go_wp2_with fail
              refine (HC2.out _ K2.out).mono ?_
              rintro e w3 ⟨rfl, hb1⟩
              have K3 := Lib.hid (K2.out.below hb1)
              clear hb1 j0 j1 j2 j3 j4 j5 j6 j7
              obtain ⟨_, _, _, j0, j1, j2, j3, j4, j5, j6, j7⟩ := HCC.out _ K3.out
              go_wp2_with fail
              refine (HC3.out _ K3.out).mono ?_
              rintro e w4 ⟨rfl, hb1⟩
              have K4 := Lib.hid (K3.out.below hb1)
              clear hb1 j0 j1 j2 j3 j4 j5 j6 j7
              obtain ⟨_, _, _, j0, j1, j2, j3, j4, j5, j6, j7⟩ := HCC.out _ K4.out
              go_wp2_with fail
              refine (HC4.out _ K4.out).mono ?_
              rintro e w5 ⟨rfl, hb1⟩
              have K5 := Lib.hid (K4.out.below hb1)
              clear hb1 j0 j1 j2 j3 j4 j5 j6 j7
              obtain ⟨_, _, _, j0, j1, j2, j3, j4, j5, j6, j7⟩ := HCC.out _ K5.out
              go_wp2_with fail
              refine (HC5.out _ K5.out).mono ?_
              rintro e w6 ⟨rfl, hb1⟩
              have K6 := Lib.hid (K5.out.below hb1)
              clear hb1 j0 j1 j2 j3 j4 j5 j6 j7
              go_wp2_with fail
              refine (HKN.out _).mono ?_
              rintro e wz ⟨rfl, hb1⟩
              have KZ := Lib.hid (K6.out.below hb1)
              clear hb1
              go_wp2
              go_ret
              exact ⟨rfl, KZ.out.bel⟩
            | true =>
              have HC5 := Lib.hid fun W K => ctxValid (.agg #[.slice Aq vsq.length nq, .slice Bq lsq.length kq]) vsq lsq true W (HCC.out W K).2.2.1 hvq
              have hl1 : vs.length ≤ 40 ∧ ls.length ≤ 40 := by simpa using hl
              have hl2 : vsp.length ≤ 40 ∧ lsp.length ≤ 40 := by simpa using hlp
              have hl3 : vsq.length ≤ 40 ∧ lsq.length ≤ 40 := by simpa using hlq
              obtain ⟨xa, ya, hza⟩ : ∃ us rs, compactC vs ls = (us, rs) := ⟨_, _, rfl⟩
              obtain ⟨xb, yb, hzb⟩ : ∃ us rs, compactC vsp lsp = (us, rs) := ⟨_, _, rfl⟩
              obtain ⟨xu, yu, hzu⟩ : ∃ us rs, unionC vs ls vsp lsp = (us, rs) := ⟨_, _, rfl⟩
              obtain ⟨xt, yt, hzt⟩ : ∃ us rs, unionC vsp lsp vsq lsq = (us, rs) := ⟨_, _, rfl⟩
              obtain ⟨xz, yz, hzz⟩ : ∃ us rs, unionC xu yu vsq lsq = (us, rs) := ⟨_, _, rfl⟩
              have hlu := union_len hv hvp hzu
              have hlt := union_len hvp hvq hzt
              have hva : validC xa ya = true := by have := compactC_valid hv; rwa [hza] at this
              have hca : compC xa ya = true := by have := compactC_comp hv; rwa [hza] at this
              have hvu : validC xu yu = true := by have := unionC_valid2 hv hvp; rwa [hzu] at this
              have hvt : validC xt yt = true := by have := unionC_valid2 hvp hvq; rwa [hzt] at this
              have hla := compact_len hv hza
              have HQA := Lib.hid fun v W (h : HoldsC W v vs ls) => ctxCompact_t v vs ls xa ya W h hv (by omega) hza
              have HQB := Lib.hid fun v W (h : HoldsC W v vsp lsp) => ctxCompact_t v vsp lsp xb yb W h hvp (by omega) hzb
              obtain ⟨p, hp⟩ : ∃ p, withinC vs ls vsp lsp = p := ⟨_, rfl⟩
              obtain ⟨q, hq⟩ : ∃ q, withinC vsp lsp vs ls = q := ⟨_, rfl⟩
              have HW1 := Lib.hid fun v v' W (h : HoldsC W v vs ls) (h' : HoldsC W v' vsp lsp) => (ctxWithin v v' vs ls vsp lsp p W h h' (by omega) hp).mono fun e w' hh => (⟨hh.1.1 (by rw [hv, hvp]; rfl), hh.2⟩ : e = .returned (.tuple #[.bool p, .int .i64 0]) ∧ Below W.heap.size W w')
              have HW2 := Lib.hid fun v v' W (h : HoldsC W v vsp lsp) (h' : HoldsC W v' vs ls) => (ctxWithin v v' vsp lsp vs ls q W h h' (by omega) hq).mono fun e w' hh => (⟨hh.1.1 (by rw [hv, hvp]; rfl), hh.2⟩ : e = .returned (.tuple #[.bool q, .int .i64 0]) ∧ Below W.heap.size W w')
              have hE := equal_within hv hvp hza hzb
              rw [hp, hq] at hE
              have HIC := Lib.hid fun v W (h : HoldsC W v xa ya) => ctxIsCompact v xa ya true W h (by omega) hca
              have HCP := Lib.hid (show isC (ctxP (validC xa ya) (compactC xa ya)) xa ya 0 = true by rw [hva]; exact isC_yes (compactC_self hca))
              have HLA := Lib.hid (show xa.length + ya.length ≤ 1000 by omega)
              obtain ⟨sz, hsz⟩ : ∃ s, sizeC vs ls = s := ⟨_, rfl⟩
              have hsa : sizeC xa ya = sz := by have := compactC_size hv; rw [hza, hsz] at this; exact this
              have HS1 := Lib.hid fun v W (h : HoldsC W v xa ya) => ctxSize v xa ya sz W h (by omega) (by rw [hva, if_pos rfl]; exact hsa)
              have HS2 := Lib.hid fun v W (h : HoldsC W v vs ls) => ctxSize v vs ls sz W h (by omega) (by rw [hv, if_pos rfl]; exact hsz)
              have HU1 := Lib.hid fun v v' W (h : HoldsC W v vs ls) (h' : HoldsC W v' vsp lsp) => (ctxUnion v v' vs ls vsp lsp W h h' (by omega)).mono fun e w' hh => CtxR.t (us := xu) (rs := yu) (by rw [hv, hvp, hzu] at hh; exact hh)
              have HU2 := Lib.hid fun v v' W (h : HoldsC W v vsp lsp) (h' : HoldsC W v' vsq lsq) => (ctxUnion v v' vsp lsp vsq lsq W h h' (by omega)).mono fun e w' hh => CtxR.t (us := xt) (rs := yt) (by rw [hvp, hvq, hzt] at hh; exact hh)
              have HU3 := Lib.hid fun v v' W (h : HoldsC W v xu yu) (h' : HoldsC W v' vsq lsq) => (ctxUnion v v' xu yu vsq lsq W h h' (by omega)).mono fun e w' hh => CtxR.t (us := xz) (rs := yz) (by rw [hvu, hvq, hzz] at hh; exact hh)
              have HT1 := Lib.hid (show isC (ctxP (validC vsp lsp && validC vs ls) (unionC vsp lsp vs ls)) xu yu 0 = true by rw [hv, hvp]; exact isC_yes (by rw [unionC_comm hvp hv]; exact hzu))
              have HT2 := Lib.hid (show isC (ctxP (validC vs ls && validC xt yt) (unionC vs ls xt yt)) xz yz 0 = true by
                rw [hv, hvt]
                refine isC_yes ?_
                have := unionC_assoc hv hvp hvq
                rw [hzu, hzt] at this
                rw [← this]; exact hzz)
              have HWI := Lib.hid (show (((withP (validC vs ls && validC xu yu) (withinC vs ls xu yu)).1 == true) && ((withP (validC vs ls && validC xu yu) (withinC vs ls xu yu)).2 == 0)) = true by
                rw [hv, hvu, within_union_left hv hvp hzu]; rfl)
              have HM1 := Lib.hid (show vsp.length + lsp.length + (vs.length + ls.length) ≤ 1000 by omega)
              have HM2 := Lib.hid (show vs.length + ls.length + (xt.length + yt.length) ≤ 1000 by omega)
              have HM3 := Lib.hid (show vs.length + ls.length + (xu.length + yu.length) ≤ 1000 by omega)
              obtain ⟨ga, hga⟩ : ∃ g, hasC vs ls r c = g := ⟨_, rfl⟩
              obtain ⟨gb, hgb⟩ : ∃ g, hasC vsp lsp r c = g := ⟨_, rfl⟩
              have hgu : hasC xu yu r c = (ga || gb) := by
                have := unionC_has hv hvp r c
                rw [hzu, hga, hgb] at this; exact this
              have HG1 := Lib.hid fun v W (h : HoldsC W v vs ls) => ctxHas v vs ls r c ga W h hga
              have HG2 := Lib.hid fun v W (h : HoldsC W v vsp lsp) => ctxHas v vsp lsp r c gb W h hgb
              have HG3 := Lib.hid fun v W (h : HoldsC W v xu yu) => ctxHas v xu yu r c (ga || gb) W h hgu
              clear hl hlp hlq hv hvp hvq hza hzb hzu hzt hzz hlu hlt hva hca hvu hvt hla hp hq hsz hsa hga hgb hgu hl1 hl2 hl3
              cases p <;> cases q
              all_goals
                have HE := Lib.hid hE
                simp only [Bool.and_true, Bool.and_false, Bool.true_and, Bool.false_and, Bool.and_self] at HE
                clear hE
                go_enter Try.func8, Try.ntmps8
                go_wp2_with fail
                refine (HC0.out _ K.out).mono ?_
                rintro e w1 ⟨rfl, hb1⟩
                have K1 := Lib.hid (K.out.below hb1)
                clear hb1
                obtain ⟨_, _, _, j0, j1, j2, j3, j4, j5, j6, j7⟩ := HCC.out _ K1.out
                go_wp2_with fail
                refine (HC1.out _ K1.out).mono ?_
                rintro e w2 ⟨rfl, hb1⟩
                have K2 := Lib.hid (K1.out.below hb1)
                clear hb1 j0 j1 j2 j3 j4 j5 j6 j7
                obtain ⟨_, _, _, j0, j1, j2, j3, j4, j5, j6, j7⟩ := HCC.out _ K2.out
                go_wp2_with fail
                refine (HC2.out _ K2.out).mono ?_
                rintro e w3 ⟨rfl, hb1⟩
                have K3 := Lib.hid (K2.out.below hb1)
                clear hb1 j0 j1 j2 j3 j4 j5 j6 j7
                obtain ⟨_, _, _, j0, j1, j2, j3, j4, j5, j6, j7⟩ := HCC.out _ K3.out
                go_wp2_with fail
                refine (HC3.out _ K3.out).mono ?_
                rintro e w4 ⟨rfl, hb1⟩
                have K4 := Lib.hid (K3.out.below hb1)
                clear hb1 j0 j1 j2 j3 j4 j5 j6 j7
                obtain ⟨_, _, _, j0, j1, j2, j3, j4, j5, j6, j7⟩ := HCC.out _ K4.out
                go_wp2_with fail
                refine (HC4.out _ K4.out).mono ?_
                rintro e w5 ⟨rfl, hb1⟩
                have K5 := Lib.hid (K4.out.below hb1)
                clear hb1 j0 j1 j2 j3 j4 j5 j6 j7
                obtain ⟨_, _, _, j0, j1, j2, j3, j4, j5, j6, j7⟩ := HCC.out _ K5.out
                go_wp2_with fail
                refine (HC5.out _ K5.out).mono ?_
                rintro e w6 ⟨rfl, hb1⟩
                have K6 := Lib.hid (K5.out.below hb1)
                clear hb1 j0 j1 j2 j3 j4 j5 j6 j7
                have j0 := K6.out.cell (a := ⟨w.heap.size, 0, none⟩) (v := .slice A vs.length n) (by simp)
                have j1 := K6.out.cell (a := ⟨w.heap.size, 1, none⟩) (v := .slice B ls.length k) (by simp)
                go_wp2_with fail
                refine (HQA.out _ _ (HoldsC.mk (K6.out.h (v := .slice A vs.length n) (xs := vs) (by simp)) (K6.out.h (v := .slice B ls.length k) (xs := ls) (by simp)))).mono ?_
                rintro e w7 ⟨⟨Ax, nx, Bx, kx, rfl, hxx, hyx⟩, hb1⟩
                have K7 := Lib.hid ((((K6.out.below hb1).push hxx.holds).push hyx.holds).box (.slice Ax xa.length nx) (.slice Bx ya.length kx) 25)
                clear hb1 hxx hyx
                clear j0 j1
                have j0 := K7.out.cell (a := ⟨w.heap.size + 1, 0, none⟩) (v := .slice Ap vsp.length np) (by simp)
                have j1 := K7.out.cell (a := ⟨w.heap.size + 1, 1, none⟩) (v := .slice Bp lsp.length kp) (by simp)
                go_wp2_with fail
                refine (HQB.out _ _ (HoldsC.mk (K7.out.h (v := .slice Ap vsp.length np) (xs := vsp) (by simp)) (K7.out.h (v := .slice Bp lsp.length kp) (xs := lsp) (by simp)))).mono ?_
                rintro e w8 ⟨⟨Ay, ny, By, ky, rfl, hxy, hyy⟩, hb1⟩
                have K8 := Lib.hid ((((K7.out.below hb1).push hxy.holds).push hyy.holds).box (.slice Ay xb.length ny) (.slice By yb.length ky) 25)
                clear hb1 hxy hyy
                clear j0 j1
                have j0 := K8.out.cell (a := ⟨w.heap.size, 0, none⟩) (v := .slice A vs.length n) (by simp)
                have j1 := K8.out.cell (a := ⟨w.heap.size, 1, none⟩) (v := .slice B ls.length k) (by simp)
                have j2 := K8.out.cell (a := ⟨w.heap.size + 1, 0, none⟩) (v := .slice Ap vsp.length np) (by simp)
                have j3 := K8.out.cell (a := ⟨w.heap.size + 1, 1, none⟩) (v := .slice Bp lsp.length kp) (by simp)
                go_wp2_with fail
                refine (HW1.out _ _ _ (HoldsC.mk (K8.out.h (v := .slice A vs.length n) (xs := vs) (by simp)) (K8.out.h (v := .slice B ls.length k) (xs := ls) (by simp))) (HoldsC.mk (K8.out.h (v := .slice Ap vsp.length np) (xs := vsp) (by simp)) (K8.out.h (v := .slice Bp lsp.length kp) (xs := lsp) (by simp)))).mono ?_
                rintro e w9 ⟨rfl, hb1⟩
                have K9 := Lib.hid (K8.out.below hb1)
                clear hb1
                clear j0 j1 j2 j3
                have j0 := K9.out.cell (a := ⟨w.heap.size + 1, 0, none⟩) (v := .slice Ap vsp.length np) (by simp)
                have j1 := K9.out.cell (a := ⟨w.heap.size + 1, 1, none⟩) (v := .slice Bp lsp.length kp) (by simp)
                have j2 := K9.out.cell (a := ⟨w.heap.size, 0, none⟩) (v := .slice A vs.length n) (by simp)
                have j3 := K9.out.cell (a := ⟨w.heap.size, 1, none⟩) (v := .slice B ls.length k) (by simp)
                go_wp2_with fail
                refine (HW2.out _ _ _ (HoldsC.mk (K9.out.h (v := .slice Ap vsp.length np) (xs := vsp) (by simp)) (K9.out.h (v := .slice Bp lsp.length kp) (xs := lsp) (by simp))) (HoldsC.mk (K9.out.h (v := .slice A vs.length n) (xs := vs) (by simp)) (K9.out.h (v := .slice B ls.length k) (xs := ls) (by simp)))).mono ?_
                rintro e w10 ⟨rfl, hb1⟩
                have K10 := Lib.hid (K9.out.below hb1)
                clear hb1
                clear j0 j1 j2 j3
                have j0 := fun z => (K10.out.far z).cell (a := ⟨w7.heap.size, 0, none⟩) (v := .slice Ax xa.length nx) (by simp)
                have j1 := fun z => (K10.out.far z).cell (a := ⟨w7.heap.size, 1, none⟩) (v := .slice Bx ya.length kx) (by simp)
                have j2 := fun z => (K10.out.far z).cell (a := ⟨w8.heap.size, 0, none⟩) (v := .slice Ay xb.length ny) (by simp)
                have j3 := fun z => (K10.out.far z).cell (a := ⟨w8.heap.size, 1, none⟩) (v := .slice By yb.length ky) (by simp)
                have j4 := fun z => (K10.out.far z).cell (a := ⟨w.heap.size, 0, none⟩) (v := .slice A vs.length n) (by simp)
                have j5 := fun z => (K10.out.far z).cell (a := ⟨w.heap.size, 1, none⟩) (v := .slice B ls.length k) (by simp)
                have HQ0 := Lib.hid fun z => (have hK := K10.out.far z; ref3Equal (.agg #[.slice Ax xa.length nx, .slice Bx ya.length kx]) (.agg #[.slice Ay xb.length ny, .slice By yb.length ky]) xa ya xb yb _ _ (HoldsC.mk (hK.h (v := .slice Ax xa.length nx) (xs := xa) (by simp)) (hK.h (v := .slice Bx ya.length kx) (xs := ya) (by simp))) (HoldsC.mk (hK.h (v := .slice Ay xb.length ny) (xs := xb) (by simp)) (hK.h (v := .slice By yb.length ky) (xs := yb) (by simp))) HE.out)
                have HQ1 := Lib.hid fun z => (have hK := K10.out.far z; HIC.out (.agg #[.slice Ax xa.length nx, .slice Bx ya.length kx]) _ (HoldsC.mk (hK.h (v := .slice Ax xa.length nx) (xs := xa) (by simp)) (hK.h (v := .slice Bx ya.length kx) (xs := ya) (by simp))))
                have HQ2 := Lib.hid fun z => (have hK := K10.out.far z; law3Compacts (.agg #[.slice Ax xa.length nx, .slice Bx ya.length kx]) (.agg #[.slice Ax xa.length nx, .slice Bx ya.length kx]) xa ya xa ya 0 true _ (HoldsC.mk (hK.h (v := .slice Ax xa.length nx) (xs := xa) (by simp)) (hK.h (v := .slice Bx ya.length kx) (xs := ya) (by simp))) (HoldsC.mk (hK.h (v := .slice Ax xa.length nx) (xs := xa) (by simp)) (hK.h (v := .slice Bx ya.length kx) (xs := ya) (by simp))) HLA.out HCP.out)
                have HQ3 := Lib.hid fun z => (have hK := K10.out.far z; HS1.out (.agg #[.slice Ax xa.length nx, .slice Bx ya.length kx]) _ (HoldsC.mk (hK.h (v := .slice Ax xa.length nx) (xs := xa) (by simp)) (hK.h (v := .slice Bx ya.length kx) (xs := ya) (by simp))))
                have HQ4 := Lib.hid fun z => (have hK := K10.out.far z; HS2.out (.agg #[.slice A vs.length n, .slice B ls.length k]) _ (HoldsC.mk (hK.h (v := .slice A vs.length n) (xs := vs) (by simp)) (hK.h (v := .slice B ls.length k) (xs := ls) (by simp))))
                go_wp2_with fail
                refine wp_region_far (by kernel_rfl) (by kernel_rfl) ?_
                repeat (go_big_quiet_step ((first | (go_at_call 16; exact far_of (HQ0.out _)) | (go_at_call 13; exact far_of (HQ1.out _)) | (go_at_call 17; exact far_of (HQ2.out _)) | (go_at_call 18; with_reducible first | exact far_of (HQ3.out _) | exact far_of (HQ4.out _)))))
                refine wpQuiet_nil ?_
                rintro _ ⟨p, rfl⟩
                have K11 := Lib.hid (K10.out.far p)
                clear j0 j1 j2 j3 j4 j5
                generalize far w10 p = w11 at K11 ⊢
                have j0 := K11.out.cell (a := ⟨w.heap.size, 0, none⟩) (v := .slice A vs.length n) (by simp)
                have j1 := K11.out.cell (a := ⟨w.heap.size, 1, none⟩) (v := .slice B ls.length k) (by simp)
                have j2 := K11.out.cell (a := ⟨w.heap.size + 1, 0, none⟩) (v := .slice Ap vsp.length np) (by simp)
                have j3 := K11.out.cell (a := ⟨w.heap.size + 1, 1, none⟩) (v := .slice Bp lsp.length kp) (by simp)
                go_wp2_with fail
                refine (HU1.out _ _ _ (HoldsC.mk (K11.out.h (v := .slice A vs.length n) (xs := vs) (by simp)) (K11.out.h (v := .slice B ls.length k) (xs := ls) (by simp))) (HoldsC.mk (K11.out.h (v := .slice Ap vsp.length np) (xs := vsp) (by simp)) (K11.out.h (v := .slice Bp lsp.length kp) (xs := lsp) (by simp)))).mono ?_
                rintro e w12 ⟨⟨Au, nu, Bu, ku, rfl, hxu, hyu⟩, hb1⟩
                have K12 := Lib.hid ((((K11.out.below hb1).push hxu.holds).push hyu.holds).box (.slice Au xu.length nu) (.slice Bu yu.length ku) 25)
                clear hb1 hxu hyu
                clear j0 j1 j2 j3
                have j0 := K12.out.cell (a := ⟨w.heap.size + 1, 0, none⟩) (v := .slice Ap vsp.length np) (by simp)
                have j1 := K12.out.cell (a := ⟨w.heap.size + 1, 1, none⟩) (v := .slice Bp lsp.length kp) (by simp)
                have j2 := K12.out.cell (a := ⟨w.heap.size + 1 + 1, 0, none⟩) (v := .slice Aq vsq.length nq) (by simp)
                have j3 := K12.out.cell (a := ⟨w.heap.size + 1 + 1, 1, none⟩) (v := .slice Bq lsq.length kq) (by simp)
                go_wp2_with fail
                refine (HU2.out _ _ _ (HoldsC.mk (K12.out.h (v := .slice Ap vsp.length np) (xs := vsp) (by simp)) (K12.out.h (v := .slice Bp lsp.length kp) (xs := lsp) (by simp))) (HoldsC.mk (K12.out.h (v := .slice Aq vsq.length nq) (xs := vsq) (by simp)) (K12.out.h (v := .slice Bq lsq.length kq) (xs := lsq) (by simp)))).mono ?_
                rintro e w13 ⟨⟨At, nt, Bt, kt, rfl, hxt, hyt⟩, hb1⟩
                have K13 := Lib.hid ((((K12.out.below hb1).push hxt.holds).push hyt.holds).box (.slice At xt.length nt) (.slice Bt yt.length kt) 25)
                clear hb1 hxt hyt
                clear j0 j1 j2 j3
                obtain ⟨ww, hww⟩ : ∃ ww, (w13.alloc (.cells #[.slice At xt.length nt, .slice Bt yt.length kt] 25)) = ww := ⟨_, rfl⟩
                rw [hww] at K13
                have hwz : w13.heap.size + 1 = ww.heap.size := by rw [← hww]; simp
                have HWZ := Lib.hid hwz
                clear hwz
                cases ga <;> cases gb
                all_goals
                  simp only [Bool.or_false, Bool.or_true, Bool.false_or, Bool.true_or, Bool.or_self] at HG3
                  have j0 := fun z => (K13.out.far z).cell (a := ⟨w.heap.size + 1, 0, none⟩) (v := .slice Ap vsp.length np) (by simp)
                  have j1 := fun z => (K13.out.far z).cell (a := ⟨w.heap.size + 1, 1, none⟩) (v := .slice Bp lsp.length kp) (by simp)
                  have j2 := fun z => (K13.out.far z).cell (a := ⟨w.heap.size, 0, none⟩) (v := .slice A vs.length n) (by simp)
                  have j3 := fun z => (K13.out.far z).cell (a := ⟨w.heap.size, 1, none⟩) (v := .slice B ls.length k) (by simp)
                  have j4 := fun z => (K13.out.far z).cell (a := ⟨w12.heap.size, 0, none⟩) (v := .slice Au xu.length nu) (by simp)
                  have j5 := fun z => (K13.out.far z).cell (a := ⟨w12.heap.size, 1, none⟩) (v := .slice Bu yu.length ku) (by simp)
                  have j6 := fun z => (K13.out.far z).cell (a := ⟨w.heap.size + 1 + 1 + 1, 0, none⟩) (v := .int .i64 r) (by simp)
                  have j7 := fun z => (K13.out.far z).cell (a := ⟨w.heap.size + 1 + 1 + 1, 1, none⟩) (v := .int .i64 c) (by simp)
                  have HQ0 := Lib.hid fun z => (have hK := K13.out.far z; law3United (.agg #[.slice Ap vsp.length np, .slice Bp lsp.length kp]) (.agg #[.slice A vs.length n, .slice B ls.length k]) (.agg #[.slice Au xu.length nu, .slice Bu yu.length ku]) vsp lsp vs ls xu yu 0 true _ (HoldsC.mk (hK.h (v := .slice Ap vsp.length np) (xs := vsp) (by simp)) (hK.h (v := .slice Bp lsp.length kp) (xs := lsp) (by simp))) (HoldsC.mk (hK.h (v := .slice A vs.length n) (xs := vs) (by simp)) (hK.h (v := .slice B ls.length k) (xs := ls) (by simp))) (HoldsC.mk (hK.h (v := .slice Au xu.length nu) (xs := xu) (by simp)) (hK.h (v := .slice Bu yu.length ku) (xs := yu) (by simp))) HM1.out HT1.out)
                  have HQ1 := Lib.hid fun z => (have hK := K13.out.far z; HG3.out (.agg #[.slice Au xu.length nu, .slice Bu yu.length ku]) _ (HoldsC.mk (hK.h (v := .slice Au xu.length nu) (xs := xu) (by simp)) (hK.h (v := .slice Bu yu.length ku) (xs := yu) (by simp))))
                  have HQ2 := Lib.hid fun z => (have hK := K13.out.far z; HG1.out (.agg #[.slice A vs.length n, .slice B ls.length k]) _ (HoldsC.mk (hK.h (v := .slice A vs.length n) (xs := vs) (by simp)) (hK.h (v := .slice B ls.length k) (xs := ls) (by simp))))
                  have HQ3 := Lib.hid fun z => (have hK := K13.out.far z; HG2.out (.agg #[.slice Ap vsp.length np, .slice Bp lsp.length kp]) _ (HoldsC.mk (hK.h (v := .slice Ap vsp.length np) (xs := vsp) (by simp)) (hK.h (v := .slice Bp lsp.length kp) (xs := lsp) (by simp))))
                  have HQ4 := Lib.hid fun z => (have hK := K13.out.far z; law3Within (.agg #[.slice A vs.length n, .slice B ls.length k]) (.agg #[.slice Au xu.length nu, .slice Bu yu.length ku]) vs ls xu yu true 0 true _ (HoldsC.mk (hK.h (v := .slice A vs.length n) (xs := vs) (by simp)) (hK.h (v := .slice B ls.length k) (xs := ls) (by simp))) (HoldsC.mk (hK.h (v := .slice Au xu.length nu) (xs := xu) (by simp)) (hK.h (v := .slice Bu yu.length ku) (xs := yu) (by simp))) HM3.out HWI.out)
                  go_wp2_with fail
                  refine wp_region_far (by kernel_rfl) (by kernel_rfl) ?_
                  repeat (go_big_quiet_step ((first | (go_at_call 33; exact far_of (HQ0.out _)) | (go_at_call 24; with_reducible first | exact far_of (HQ1.out _) | exact far_of (HQ2.out _) | exact far_of (HQ3.out _)) | (go_at_call 34; exact far_of (HQ4.out _)))))
                  refine wpQuiet_nil ?_
                  rintro _ ⟨p, rfl⟩
                  have K14 := Lib.hid (K13.out.far p)
                  clear j0 j1 j2 j3 j4 j5 j6 j7
                  generalize far ww p = w14 at K14 ⊢
                  have j0 := K14.out.cell (a := ⟨w12.heap.size, 0, none⟩) (v := .slice Au xu.length nu) (by simp)
                  have j1 := K14.out.cell (a := ⟨w12.heap.size, 1, none⟩) (v := .slice Bu yu.length ku) (by simp)
                  have j2 := K14.out.cell (a := ⟨w.heap.size + 1 + 1, 0, none⟩) (v := .slice Aq vsq.length nq) (by simp)
                  have j3 := K14.out.cell (a := ⟨w.heap.size + 1 + 1, 1, none⟩) (v := .slice Bq lsq.length kq) (by simp)
                  go_wp2_with fail
                  refine (HU3.out _ _ _ (HoldsC.mk (K14.out.h (v := .slice Au xu.length nu) (xs := xu) (by simp)) (K14.out.h (v := .slice Bu yu.length ku) (xs := yu) (by simp))) (HoldsC.mk (K14.out.h (v := .slice Aq vsq.length nq) (xs := vsq) (by simp)) (K14.out.h (v := .slice Bq lsq.length kq) (xs := lsq) (by simp)))).mono ?_
                  rintro e w15 ⟨⟨Az, nz, Bz, kz, rfl, hxz, hyz⟩, hb1⟩
                  have K15 := Lib.hid ((((K14.out.below hb1).push hxz.holds).push hyz.holds).box (.slice Az xz.length nz) (.slice Bz yz.length kz) 25)
                  clear hb1 hxz hyz
                  clear j0 j1 j2 j3
                  have j0 := K15.out.cell (a := ⟨w.heap.size, 0, none⟩) (v := .slice A vs.length n) (by simp)
                  have j1 := K15.out.cell (a := ⟨w.heap.size, 1, none⟩) (v := .slice B ls.length k) (by simp)
                  have j2 := K15.out.cell (a := ⟨w13.heap.size, 0, none⟩) (v := .slice At xt.length nt) (by simp)
                  have j3 := K15.out.cell (a := ⟨w13.heap.size, 1, none⟩) (v := .slice Bt yt.length kt) (by simp)
                  go_wp2_with fail
                  refine (law3United (.agg #[.slice A vs.length n, .slice B ls.length k]) (.agg #[.slice At xt.length nt, .slice Bt yt.length kt]) (.agg #[.slice Az xz.length nz, .slice Bz yz.length kz]) vs ls xt yt xz yz 0 true _ (HoldsC.mk (K15.out.h (v := .slice A vs.length n) (xs := vs) (by simp)) (K15.out.h (v := .slice B ls.length k) (xs := ls) (by simp))) (HoldsC.mk (K15.out.h (v := .slice At xt.length nt) (xs := xt) (by simp)) (K15.out.h (v := .slice Bt yt.length kt) (xs := yt) (by simp))) (HoldsC.mk (K15.out.h (v := .slice Az xz.length nz) (xs := xz) (by simp)) (K15.out.h (v := .slice Bz yz.length kz) (xs := yz) (by simp))) HM2.out HT2.out).mono ?_
                  rintro e wy ⟨rfl, hb1⟩
                  have KY := Lib.hid (K15.out.below hb1)
                  clear hb1
                  clear j0 j1 j2 j3
                  go_wp2_with fail
                  refine (HKN.out _).mono ?_
                  rintro e wx ⟨rfl, hb1⟩
                  have KZ := Lib.hid (KY.out.below hb1)
                  clear hb1
                  go_wp2
                  go_ret
                  exact ⟨rfl, KZ.out.bel⟩

end Go.Proofs.Ytibnlifdeknicaa
