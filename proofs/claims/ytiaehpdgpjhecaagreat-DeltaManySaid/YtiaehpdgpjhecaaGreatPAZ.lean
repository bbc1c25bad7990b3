/- Several texts in one: DelG. -/
import Derived.Test.YtiaehpdgpjhecaaGreatPAY
import Derived.Test.YtiaehpdgpjhecaaGreatPAV
import Derived.Test.YtiaehpdgpjhecaaGreatPAW
namespace Go.Proofs.YtiaehpdgpjhecaaGreat

section
open Go.RowKit

section
variable {c : Ca} {d : Int × Int} {nm : List UInt8} {q : Int}
theorem putE_f2 {set : Bool} (h : freshK c d = false) : putE c d nm q set = 2 := by unfold putE; rw [h]; rfl
theorem putE_i2 {set : Bool} (h : freshK c d = true) (h2 : itemN nm = false) : putE c d nm q set = 2 := by unfold putE; rw [h, h2]; rfl
theorem putE_q14 {set : Bool} (h : freshK c d = true) (h2 : itemN nm = true) (h3 : qtyN q = false) : putE c d nm q set = 14 := by unfold putE; rw [h, h2, h3]; rfl
theorem putE_add (h : freshK c d = true) (h2 : itemN nm = true) (h3 : qtyN q = true) {b : Bool} (hb : (decide (c.2.length < 256) || thereN c nm) = b) : putE c d nm q false = if b = true then (timeC c).2 else 13 := by
  unfold putE
  rw [h, h2, h3]
  subst hb
  by_cases hl : c.2.length < 256
  · have : ¬ 256 ≤ c.2.length := by omega
    simp [hl, this]
  · have hg : 256 ≤ c.2.length := by omega
    cases ht : thereN c nm <;> simp [hl, hg]
theorem putE_set (h : freshK c d = true) (h2 : itemN nm = true) (h3 : qtyN q = true) {b : Bool} (hb : thereN c nm = b) : putE c d nm q true = if b = true then (timeC c).2 else 9 := by
  unfold putE
  rw [h, h2, h3]
  subst hb
  cases ht : thereN c nm <;> simp
end

/-- A cart and a dot in boxes, what else must be true, the box of the result. -/
structure KPd (w : World) (c : CaV) (r s : Int) (fv : Value) (no : Int) (W : World) : Prop where
  k : KFr w c r s W
  al : W.heap[w.heap.size + 2]? = some (.cells #[fv, .int .i64 no] 90 (0, 0))
  res : BlkC W (w.heap.size + 3) zC
section
variable {w W W' : World} {c : CaV} {r s : Int} {fv : Value} {no : Int}
theorem KPd.next (h : KPd w c r s fv no W) (hb : Below W.heap.size W W') : KPd w c r s fv no W' := ⟨h.k.next hb, (hb.block _ (Array.getElem?_eq_some_iff.1 h.al).1).trans h.al, h.res.below hb⟩
theorem KPd.sp (h : KPd w c r s fv no W) : W.cell? ⟨w.heap.size, 0, none⟩ = some c.v ∧ W.cell? ⟨w.heap.size, 1, none⟩ = some c.l ∧ W.cell? ⟨w.heap.size, 2, none⟩ = some c.i ∧ W.cell? ⟨w.heap.size + 1, 0, none⟩ = some (.int .i64 r) ∧ W.cell? ⟨w.heap.size + 1, 1, none⟩ = some (.int .i64 s) ∧ W.cell? ⟨w.heap.size + 2, 0, none⟩ = some fv ∧ W.cell? ⟨w.heap.size + 2, 1, none⟩ = some (.int .i64 no) ∧ w.heap.size < W.heap.size ∧ w.heap.size + 1 < W.heap.size ∧ w.heap.size + 2 < W.heap.size := by
  obtain ⟨a0, a1, a2, a3, a4, a5, a6⟩ := h.k.sp
  exact ⟨a0, a1, a2, a3, a4, by simp [World.cell?, h.al], by simp [World.cell?, h.al], a5, a6, (Array.getElem?_eq_some_iff.1 h.al).1⟩
theorem KPd.ok (h : KPd w c r s fv no W) : CaOK W c := h.k.ok
theorem KPd.bel (h : KPd w c r s fv no W) : Below w.heap.size w W := h.k.bel
theorem KPd.new (w : World) (c : CaV) (r s : Int) (fv : Value) (no : Int) (hc : CaOK w c) : KPd w c r s fv no ((((w.alloc (.cells #[c.v, c.l, c.i] 28)).alloc (.cells #[.int .i64 r, .int .i64 s] 30)).alloc (.cells #[fv, .int .i64 no] 90)).alloc (.cells #[zC.v, zC.l, zC.i] 28)) := by
  have hk := KFr.new w c r s hc
  generalize hW : (w.alloc (.cells #[c.v, c.l, c.i] 28)).alloc (.cells #[.int .i64 r, .int .i64 s] 30) = W2 at *
  have hs : W2.heap.size = w.heap.size + 2 := by rw [← hW, World.size_alloc, World.size_alloc]
  have a3 := (Below.refl W2.heap.size W2).alloc (Nat.le_refl _) (.cells #[fv, .int .i64 no] 90)
  have h3 := heap_alloc_new W2 (.cells #[fv, .int .i64 no] 90)
  have a4 := (Below.refl _ (W2.alloc (.cells #[fv, .int .i64 no] 90))).alloc (Nat.le_refl _) (.cells #[zC.v, zC.l, zC.i] 28)
  have h4 := BlkC.new (W2.alloc (.cells #[fv, .int .i64 no] 90)) zC
  rw [World.size_alloc, hs] at h4
  rw [hs] at h3
  exact ⟨hk.next (below_trans a3 a4), (a4.block _ (Array.getElem?_eq_some_iff.1 h3).1).trans h3, h4⟩
end

/-- What the values of put's last region say. -/
def fiP (X : Ca) (cv : Value) (nm : List UInt8) (m : Mk) : Nat → Value → World → Prop
  | 0, v, _ => v = cv
  | 1, v, _ => v = .string ⟨nm.toArray⟩
  | 2, v, _ => v = .string ⟨nm.toArray⟩
  | 3, v, _ => v = mkV m
  | 4, v, W => ∃ g, v = .slice (some ⟨g, 0, none⟩) 1 1 ∧ MarksAt W (some ⟨g, 0, none⟩) [m]
  | 5, v, W => ∃ g, v = .agg #[.string ⟨nm.toArray⟩, .slice (some ⟨g, 0, none⟩) 1 1] ∧ MarksAt W (some ⟨g, 0, none⟩) [m]
  | 6, v, W => ∃ p g, v = .slice (some ⟨p, 0, none⟩) 1 1 ∧ ItemsAt W (some ⟨p, 0, none⟩) [⟨nm, some ⟨g, 0, none⟩, 1, [m]⟩]
  | 7, v, W => ∃ z : CaV, v = mkC z ∧ z.ca = X ∧ CaOK W z
  | 8, v, _ => v = .int .i64 0
  | 10, v, _ => v = .int .i64 0
  | _, _, _ => True
theorem fiP_turn {X : Ca} {cv : Value} {nm : List UInt8} {m : Mk} {j : Nat} {v : Value} {W W' : World} (h : fiP X cv nm m j v W) (hm : ∀ A ms, MarksAt W A ms → MarksAt W' A ms) (hi : ∀ A xs, ItemsAt W A xs → ItemsAt W' A xs) (hc : ∀ z : CaV, CaOK W z → CaOK W' z) : fiP X cv nm m j v W' := by
  match j, h with
  | 0, h => exact h
  | 1, h => exact h
  | 2, h => exact h
  | 3, h => exact h
  | 4, ⟨g, e, h⟩ => exact ⟨g, e, hm _ _ h⟩
  | 5, ⟨g, e, h⟩ => exact ⟨g, e, hm _ _ h⟩
  | 6, ⟨p, g, e, h⟩ => exact ⟨p, g, e, hi _ _ h⟩
  | 7, ⟨z, e, h1, h2⟩ => exact ⟨z, e, h1, hc _ h2⟩
  | 8, h => exact h
  | 9, _ => exact trivial
  | 10, h => exact h
  | j + 11, _ => exact trivial
theorem fiP_keep {X : Ca} {cv : Value} {nm : List UInt8} {m : Mk} {j : Nat} {v : Value} {W W' : World} (h : fiP X cv nm m j v W) (hb : BelW W W') : fiP X cv nm m j v W' :=
  fiP_turn h (fun _ _ h => h.below hb) (fun _ _ h => h.below hb) (fun _ h => h.below hb)
/-- What holds all along in put's last region. -/
def fiG (w : World) (g b gm : Nat) (x y : Value) (us rs : List (Int × Int)) (m : Mk) (X : Ca) (L : Nat → Bool) (W : World) : Prop :=
  Below w.heap.size w W ∧ (L 9 = false → BlkC W g zC ∧ Blk2 W b x y ∧ BlkM W gm m ∧ Holds W x us ∧ Holds W y rs) ∧ (L 9 = true → ∃ z : CaV, BlkC W g z ∧ z.ca = X ∧ CaOK W z)
theorem fiG_keep {w W W' : World} {g b gm : Nat} {x y : Value} {us rs : List (Int × Int)} {m : Mk} {X : Ca} {L : Nat → Bool} (h : fiG w g b gm x y us rs m X L W) (hb : BelW W W') (k : Nat) (hk : 9 ≠ k) : fiG w g b gm x y us rs m X (moreL L k) W' := by
  obtain ⟨h1, h2, h3⟩ := h
  unfold fiG
  rw [moreL_ne hk]
  refine ⟨below_trans h1 hb, fun h => ?_, fun h => ?_⟩
  · obtain ⟨p1, p2, p3, p4, p5⟩ := h2 h
    exact ⟨p1.below hb, p2.below hb, p3.below hb, p4.below hb, p5.below hb⟩
  · obtain ⟨z, q1, q2, q3⟩ := h3 h
    exact ⟨z, q1.below hb, q2, q3.below hb⟩
theorem one_item {W : World} {nm : List UInt8} {g : Nat} {m : Mk} (hm : MarksAt W (some ⟨g, 0, none⟩) [m]) : ItemsAt (W.alloc (.cells #[.string ⟨nm.toArray⟩, .slice (some ⟨g, 0, none⟩) 1 1] 50)) (some ⟨W.heap.size, 0, none⟩) [⟨nm, some ⟨g, 0, none⟩, 1, [m]⟩] :=
  ⟨SlAt.one (enc := encIt) (heap_alloc_new W _), fun x hx => by
    obtain rfl : x = ⟨nm, some ⟨g, 0, none⟩, 1, [m]⟩ := by simpa using hx
    exact ⟨SlAt.below hm ((Below.refl _ W).alloc (Nat.le_refl _) _), by simp, by simp [maxLen]⟩⟩

/-- The functions that Add and Set hand on: whether there is room; whether the item is there. -/
theorem delRoom (c : CaV) (nm : List UInt8) (b : Bool) (gc gn : Nat) (w : World) (hB : BlkC w gc c) (hc : CaOK w c) (hn : w.heap[gn]? = some (.cells #[.string ⟨nm.toArray⟩] 9 (0, 0))) (hf : FitsK c) (hb : (decide (c.xs.length < 256) || decide (0 < (dotsC c.ca nm).length)) = b) :
    Calls Tryz.prog 55 #[.pointer (some ⟨gc, 0, none⟩), .pointer (some ⟨gn, 0, none⟩)] w (OneB (.bool b) w) := by
  obtain ⟨t, ht⟩ : ∃ t, decide (0 < (dotsC c.ca nm).length) = t := ⟨_, rfl⟩
  have HH := Lib.hid fun W (h : CaOK W c) => delHas c nm t W h hf ht
  rw [ht] at hb
  have HC := Lib.hid hc
  have x0 := hB.cell0
  have x1 := hB.cell1
  have x2 := hB.cell2
  have xl := hB.lt
  have n0 : w.cell? ⟨gn, 0, none⟩ = some (.string ⟨nm.toArray⟩) := by simp [World.cell?, hn]
  have nl := (Array.getElem?_eq_some_iff.1 hn).1
  obtain ⟨V, nv, vs, L, nl', ls, I, ni, xs⟩ := c
  by_cases hl : xs.length < 256
  · have HB := Lib.hid (show true = b from by rw [← hb, decide_eq_true (show xs.length < 256 from hl)]; rfl)
    have i0 : (xs.length : Int) < 256 := by omega
    clear hB hc hn hf hb ht hl
    go_enter Tryz.func55, Tryz.ntmps55
    go_wp2_with fail
    go_ret
    exact OneB.bool HB.out (Below.refl _ _)
  · have HB := Lib.hid (show t = b from by rw [← hb, decide_eq_false (show ¬ xs.length < 256 from hl)]; rfl)
    have i0 : ¬ (xs.length : Int) < 256 := by omega
    clear hB hc hn hf hb ht hl
    go_enter Tryz.func55, Tryz.ntmps55
    go_wp2_with fail
    refine (HH.out _ HC.out).mono ?_
    rintro e w1 ⟨rfl, hb⟩
    have KB := Lib.hid hb
    clear hb x0 x1 x2 xl n0 nl HH
    go_wp2_with fail
    go_ret
    exact OneB.bool HB.out KB.out
theorem delThere (c : CaV) (nm : List UInt8) (b : Bool) (gc gn : Nat) (w : World) (hB : BlkC w gc c) (hc : CaOK w c) (hn : w.heap[gn]? = some (.cells #[.string ⟨nm.toArray⟩] 9 (0, 0))) (hf : FitsK c) (hb : decide (0 < (dotsC c.ca nm).length) = b) :
    Calls Tryz.prog 58 #[.pointer (some ⟨gc, 0, none⟩), .pointer (some ⟨gn, 0, none⟩)] w (OneB (.bool b) w) := by
  have HH := Lib.hid fun W (h : CaOK W c) => delHas c nm b W h hf hb
  have HC := Lib.hid hc
  have x0 := hB.cell0
  have x1 := hB.cell1
  have x2 := hB.cell2
  have xl := hB.lt
  have n0 : w.cell? ⟨gn, 0, none⟩ = some (.string ⟨nm.toArray⟩) := by simp [World.cell?, hn]
  have nl := (Array.getElem?_eq_some_iff.1 hn).1
  clear hB hc hn hf hb
  go_enter Tryz.func58, Tryz.ntmps58
  go_wp2_with fail
  refine (HH.out _ HC.out).mono ?_
  rintro e w1 ⟨rfl, hb⟩
  have KB := Lib.hid hb
  clear hb x0 x1 x2 xl n0 nl HH
  go_wp2_with fail
  go_ret
  exact OneB.bool rfl KB.out

/-- A cart, a dot and a name in boxes, the box of the result. -/
structure KAs (w : World) (c : CaV) (r s : Int) (nm : List UInt8) (W : World) : Prop where
  k : KFr w c r s W
  nb : W.heap[w.heap.size + 2]? = some (.cells #[.string ⟨nm.toArray⟩] 9 (0, 0))
  res : BlkC W (w.heap.size + 3) zC
section
variable {w W W' : World} {c : CaV} {r s : Int} {nm : List UInt8}
theorem KAs.next (h : KAs w c r s nm W) (hb : Below W.heap.size W W') : KAs w c r s nm W' := ⟨h.k.next hb, (hb.block _ (Array.getElem?_eq_some_iff.1 h.nb).1).trans h.nb, h.res.below hb⟩
theorem KAs.sp (h : KAs w c r s nm W) : W.cell? ⟨w.heap.size, 0, none⟩ = some c.v ∧ W.cell? ⟨w.heap.size, 1, none⟩ = some c.l ∧ W.cell? ⟨w.heap.size, 2, none⟩ = some c.i ∧ W.cell? ⟨w.heap.size + 1, 0, none⟩ = some (.int .i64 r) ∧ W.cell? ⟨w.heap.size + 1, 1, none⟩ = some (.int .i64 s) ∧ W.cell? ⟨w.heap.size + 2, 0, none⟩ = some (.string ⟨nm.toArray⟩) ∧ w.heap.size < W.heap.size ∧ w.heap.size + 1 < W.heap.size ∧ w.heap.size + 2 < W.heap.size := by
  obtain ⟨a0, a1, a2, a3, a4, a5, a6⟩ := h.k.sp
  exact ⟨a0, a1, a2, a3, a4, by simp [World.cell?, h.nb], a5, a6, (Array.getElem?_eq_some_iff.1 h.nb).1⟩
theorem KAs.new (w : World) (c : CaV) (r s : Int) (nm : List UInt8) (hc : CaOK w c) : KAs w c r s nm ((((w.alloc (.cells #[c.v, c.l, c.i] 28)).alloc (.cells #[.int .i64 r, .int .i64 s] 30)).alloc (.cells #[.string ⟨nm.toArray⟩] 9)).alloc (.cells #[zC.v, zC.l, zC.i] 28)) := by
  have hk := KFr.new w c r s hc
  generalize hW : (w.alloc (.cells #[c.v, c.l, c.i] 28)).alloc (.cells #[.int .i64 r, .int .i64 s] 30) = W2 at *
  have hs : W2.heap.size = w.heap.size + 2 := by rw [← hW, World.size_alloc, World.size_alloc]
  have a3 := (Below.refl W2.heap.size W2).alloc (Nat.le_refl _) (.cells #[.string ⟨nm.toArray⟩] 9)
  have h3 := heap_alloc_new W2 (.cells #[.string ⟨nm.toArray⟩] 9)
  have a4 := (Below.refl _ (W2.alloc (.cells #[.string ⟨nm.toArray⟩] 9))).alloc (Nat.le_refl _) (.cells #[zC.v, zC.l, zC.i] 28)
  have h4 := BlkC.new (W2.alloc (.cells #[.string ⟨nm.toArray⟩] 9)) zC
  rw [World.size_alloc, hs] at h4
  rw [hs] at h3
  exact ⟨hk.next (below_trans a3 a4), (a4.block _ (Array.getElem?_eq_some_iff.1 h3).1).trans h3, h4⟩
end

end

end Go.Proofs.YtiaehpdgpjhecaaGreat
