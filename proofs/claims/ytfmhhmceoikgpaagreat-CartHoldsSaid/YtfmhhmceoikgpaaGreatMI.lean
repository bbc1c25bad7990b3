/- Several texts in one: ItmA, ItmB. -/
import Derived.Test.YtfmhhmceoikgpaaGreatMH
import Derived.Test.YtfmhhmceoikgpaaGreatMD
import Derived.Deep.CutBlock
namespace Go.Proofs.YtfmhhmceoikgpaaGreat

section
open Go.RowKit

/-- An item: its name and its marks. -/
abbrev It := List UInt8 × List Mk
/-- One name comes before another one. -/
def beforeN : List UInt8 → List UInt8 → Bool
  | [], [] => false
  | [], _ :: _ => true
  | _ :: _, [] => false
  | a :: r, b :: s => if a = b then beforeN r s else decide (a.toNat < b.toNat)
theorem beforeN_same {a b : List UInt8} {i : Nat} {x : UInt8} (ha : a[i]? = some x) (hb : b[i]? = some x) : beforeN (a.drop i) (b.drop i) = beforeN (a.drop (i + 1)) (b.drop (i + 1)) := by
  obtain ⟨h1, e1⟩ := List.getElem?_eq_some_iff.1 ha
  obtain ⟨h2, e2⟩ := List.getElem?_eq_some_iff.1 hb
  rw [List.drop_eq_getElem_cons h1, List.drop_eq_getElem_cons h2, e1, e2, beforeN, if_pos rfl]
theorem beforeN_diff {a b : List UInt8} {i : Nat} {x y : UInt8} (ha : a[i]? = some x) (hb : b[i]? = some y) (h : x ≠ y) : beforeN (a.drop i) (b.drop i) = decide (x.toNat < y.toNat) := by
  obtain ⟨h1, e1⟩ := List.getElem?_eq_some_iff.1 ha
  obtain ⟨h2, e2⟩ := List.getElem?_eq_some_iff.1 hb
  rw [List.drop_eq_getElem_cons h1, List.drop_eq_getElem_cons h2, e1, e2, beforeN, if_neg h]
theorem beforeN_end {a b : List UInt8} {i : Nat} (h : i ≤ a.length ∧ i ≤ b.length) (h2 : i = a.length ∨ i = b.length) : beforeN (a.drop i) (b.drop i) = decide (a.length < b.length) := by
  rcases h2 with h2 | h2
  · rw [List.drop_eq_nil_of_le (by omega : a.length ≤ i)]
    cases hb : b.drop i with
    | nil => have := congrArg List.length hb; simp at this; simp [beforeN]; omega
    | cons y r => have := congrArg List.length hb; simp at this; simp [beforeN]; omega
  · rw [List.drop_eq_nil_of_le (by omega : b.length ≤ i)]
    cases ha : a.drop i with
    | nil => have := congrArg List.length ha; simp at this; simp [beforeN]; omega
    | cons y r => have := congrArg List.length ha; simp at this; simp [beforeN]; omega
/-- A mark with a dot; two items with a dot in common. -/
def hasD (ms : List Mk) (r c : Int) : Bool := ms.any fun m => decide (m.r = r ∧ m.c = c)
def meetN (a b : List Mk) : Bool := a.any fun m => hasD b m.r m.c

/-- An item where it lies: its name, where the marks lie, the marks. -/
structure ItV where
  nm : List UInt8
  A : Option Addr
  c : Nat
  ms : List Mk
def ItV.it (x : ItV) : It := (x.nm, x.ms)
/-- An item as a value, and its two cells. -/
abbrev mkIt (x : ItV) : Value := .agg #[.string ⟨x.nm.toArray⟩, .slice x.A x.ms.length x.c]
def encIt (x : ItV) : List Value := [.string ⟨x.nm.toArray⟩, .slice x.A x.ms.length x.c]
theorem encIt_len (x : ItV) : (encIt x).length = 2 := rfl
theorem encIt_one (x : ItV) : ∀ u ∈ encIt x, u.oneCell' = true := by
  intro u hu
  simp [encIt] at hu
  rcases hu with rfl | rfl <;> rfl
theorem infoIt : (Tryz.prog.info? 56).map (fun i => (i.zero, i.size, i.bytes)) = some (some (.agg #[.string ⟨#[]⟩, .slice none 0 0]), 2, 40) := by kernel_rfl
/-- The marks of an item lie where they should. -/
def ItOK (W : World) (x : ItV) : Prop := MarksAt W x.A x.ms ∧ x.ms.length ≤ x.c ∧ x.c ≤ maxLen
theorem ItOK.below {W W' : World} {x : ItV} (h : ItOK W x) (hb : Below W.heap.size W W') : ItOK W' x := ⟨SlAt.below h.1 hb, h.2⟩
theorem ItOK.len {W : World} {x : ItV} (h : ItOK W x) : x.ms.length ≤ maxLen := Nat.le_trans h.2.1 h.2.2
/-- Items in memory. -/
def ItemsAt (W : World) (A : Option Addr) (xs : List ItV) : Prop := SlAt encIt 2 W A xs ∧ ∀ x ∈ xs, ItOK W x
theorem ItemsAt.below {W W' : World} {A : Option Addr} {xs : List ItV} (h : ItemsAt W A xs) (hb : Below W.heap.size W W') : ItemsAt W' A xs := ⟨SlAt.below h.1 hb, fun x hx => (h.2 x hx).below hb⟩
theorem ItemsAt.far {W : World} {A : Option Addr} {xs : List ItV} (h : ItemsAt W A xs) (p : FarBy) : ItemsAt (Go.Proofs.YtfmhhmceoikgpaaGreat.far W p) A xs := h.below (below_far W p)
theorem ItemsAt.nil (W : World) (A : Option Addr) : ItemsAt W A [] := ⟨SlAt.nil, fun _ h => by cases h⟩
theorem ItemsAt.cells {W : World} {A : Option Addr} {xs : List ItV} (h : ItemsAt W A xs) {j : Nat} (hj : j < xs.length) :
    ∃ b off, ∃ x : ItV, A = some ⟨b, off, none⟩ ∧ b < W.heap.size ∧ xs[j]? = some x ∧ xs[j] = x ∧ W.cell? ⟨b, off + j * 2, none⟩ = some (.string ⟨x.nm.toArray⟩) ∧ W.cell? ⟨b, off + j * 2 + 1, none⟩ = some (.slice x.A x.ms.length x.c) ∧ ItOK W x := by
  obtain ⟨b, off, rfl, hb, hc⟩ := h.1 (by omega)
  have hx := List.getElem?_eq_getElem hj
  exact ⟨b, off, xs[j], rfl, hb, hx, rfl, by simpa using hc j _ hx 0 _ rfl, hc j _ hx 1 _ rfl, h.2 _ (List.getElem_mem hj)⟩
/-- A block that holds an item. -/
def BlkI (W : World) (g : Nat) (x : ItV) : Prop := W.heap[g]? = some (.cells #[.string ⟨x.nm.toArray⟩, .slice x.A x.ms.length x.c] 56 (0, 0))
section
variable {W W' : World} {g : Nat} {x : ItV}
theorem BlkI.lt (h : BlkI W g x) : g < W.heap.size := (Array.getElem?_eq_some_iff.1 h).1
theorem BlkI.cell0 (h : BlkI W g x) : W.cell? ⟨g, 0, none⟩ = some (.string ⟨x.nm.toArray⟩) := by simp [World.cell?, show W.heap[g]? = _ from h]
theorem BlkI.cell1 (h : BlkI W g x) : W.cell? ⟨g, 1, none⟩ = some (.slice x.A x.ms.length x.c) := by simp [World.cell?, show W.heap[g]? = _ from h]
theorem BlkI.frozen (h : BlkI W g x) (k : Nat) : W.frozen? ⟨g, k, none⟩ = false := by simp [World.frozen?, show W.heap[g]? = _ from h]
theorem BlkI.below (h : BlkI W g x) (hb : Below W.heap.size W W') : BlkI W' g x := (hb.block g h.lt).trans h
theorem BlkI.new (W : World) (x : ItV) : BlkI (W.alloc (.cells #[.string ⟨x.nm.toArray⟩, .slice x.A x.ms.length x.c] 56)) W.heap.size x := heap_alloc_new W _
end

set_option maxHeartbeats 2000000 in
theorem refBefore (a b : List UInt8) (w : World) (ha : a.length ≤ 100000) (hb : b.length ≤ 100000) :
    Calls Tryz.prog 86 #[.string ⟨a.toArray⟩, .string ⟨b.toArray⟩] w (OneB (.bool (beforeN a b)) w) := by
  have hsa := size_mk a
  have hsb := size_mk b
  go_enter Tryz.func86, Tryz.ntmps86
  go_wp2_with fail
  go_loopw [5] (fun i wr => ∃ (k : Nat), k ≤ a.length ∧ k ≤ b.length ∧ i = .int .i64 k ∧ Hid (Below w.heap.size w wr) ∧ Hid (beforeN a b = beforeN (a.drop k) (b.drop k))) (fun i _ => a.length - (intOf i).toNat)
  case atStart => exact ⟨0, by omega, by omega, rfl, Below.refl _ _, show Hid (beforeN a b = beforeN (a.drop 0) (b.drop 0)) from rfl⟩
  case round =>
    obtain ⟨k, hk1, hk2, rfl, hb0, hs⟩ := hrel
    by_cases h1 : k < a.length
    · have i0 : (k : Int) < (a.length : Int) := by omega
      by_cases h2 : k < b.length
      · have i1 : (k : Int) < (b.length : Int) := by omega
        obtain ⟨x, hx⟩ : ∃ x, a[k]? = some x := ⟨_, List.getElem?_eq_getElem h1⟩
        obtain ⟨y, hy⟩ : ∃ y, b[k]? = some y := ⟨_, List.getElem?_eq_getElem h2⟩
        have ex : ∀ h : k < (ByteArray.mk a.toArray).size, (ByteArray.mk a.toArray)[k]'h = x := fun h => by
          have := (List.getElem?_eq_some_iff.1 hx).2; rw [← this]; rfl
        have ey : ∀ h : k < (ByteArray.mk b.toArray).size, (ByteArray.mk b.toArray)[k]'h = y := fun h => by
          have := (List.getElem?_eq_some_iff.1 hy).2; rw [← this]; rfl
        have ex2 : a[k] = x := (List.getElem?_eq_some_iff.1 hx).2
        have ey2 : b[k] = y := (List.getElem?_eq_some_iff.1 hy).2
        by_cases hxy : x = y
        · subst hxy
          have HF := Lib.hid (hs.out.trans (beforeN_same hx hy))
          clear hx hy hs
          go_wp2_with fail
          refine wp_region_far (by kernel_rfl) (by kernel_rfl) ?_
          repeat (go_big_quiet_step ((fail)))
          refine wpQuiet_nil ?_
          rintro _ ⟨p, rfl⟩
          go_wp2_with fail
          go_roundw
          case rel => exact ⟨k + 1, by omega, by omega, by go_num, hb0.out.trans ((below_far wr p).mono hb0.out.size), HF⟩
          case measure => simp [intOf]; omega
        · have HF := Lib.hid (hs.out.trans (beforeN_diff hx hy hxy))
          have hne : ((x.toNat : Int) != (y.toNat : Int)) = true := neT (fun h => hxy (by have : x.toNat = y.toNat := by omega
                                                                                          exact UInt8.toNat_inj.1 this))
          clear hx hy hs hxy
          go_wp2_with fail
          refine wp_region_far (by kernel_rfl) (by kernel_rfl) ?_
          repeat (go_big_quiet_step ((fail)))
          refine wpQuiet_nil ?_
          rintro _ ⟨p, rfl⟩
          go_wp2_with fail
          have hbb := Lib.hid (hb0.out.trans ((below_far wr p).mono hb0.out.size))
          generalize far wr p = wz at hbb ⊢
          refine wp_region_far (by kernel_rfl) (by kernel_rfl) ?_
          repeat (go_big_quiet_step ((fail)))
          refine wpQuiet_nil ?_
          rintro _ ⟨p, rfl⟩
          go_wp2_with fail
          go_ret
          exact OneB.bool (by rw [HF.out]) (hbb.out.trans ((below_far wz p).mono hbb.out.size))
      · obtain rfl : k = b.length := by omega
        have HF := Lib.hid (hs.out.trans (beforeN_end ⟨hk1, hk2⟩ (.inr rfl)))
        have i1 : ¬ (b.length : Int) < (b.length : Int) := by omega
        clear hs
        go_wp2_with fail
        go_ret
        exact OneB.bool (by rw [HF.out]) hb0.out
    · obtain rfl : k = a.length := by omega
      have HF := Lib.hid (hs.out.trans (beforeN_end ⟨hk1, hk2⟩ (.inl rfl)))
      have i1 : ¬ (a.length : Int) < (a.length : Int) := by omega
      clear hs
      go_wp2_with fail
      go_ret
      exact OneB.bool (by rw [HF.out]) hb0.out

end

section
open Go.RowKit

theorem any_false_step {α : Type} {p : α → Bool} {xs : List α} {m : Nat} {x : α} (h : (xs.take m).any p = false) (hx : xs[m]? = some x) (hp : p x = false) : (xs.take (m + 1)).any p = false := by
  rw [any_step hx, h, hp]; rfl
theorem any_true_at {α : Type} {p : α → Bool} {xs : List α} {m : Nat} {x : α} (hx : xs[m]? = some x) (hp : p x = true) : xs.any p = true := by
  rw [List.any_eq_true]; exact ⟨x, List.mem_of_getElem? hx, hp⟩

set_option maxHeartbeats 2000000 in
theorem refHas9 (x : ItV) (r c : Int) (w : World) (hx : ItOK w x) :
    Calls Tryz.prog 104 #[mkIt x, .agg #[.int .i64 r, .int .i64 c]] w (OneB (.bool (hasD x.ms r c)) w) := by
  have hm := hx.len
  unfold maxLen at hm
  have h1 : Below w.heap.size w ((w.alloc (.cells #[.string ⟨x.nm.toArray⟩, .slice x.A x.ms.length x.c] 56)).alloc (.cells #[.int .i64 r, .int .i64 c] 63)) := ((Below.refl _ w).alloc (Nat.le_refl _) _).alloc (by simp) _
  have B0 := Lib.hid ((BlkI.new w x).below ((Below.refl _ _).alloc (Nat.le_refl _) (.cells #[.int .i64 r, .int .i64 c] 63)))
  have D0 := Lib.hid (show ((w.alloc (.cells #[.string ⟨x.nm.toArray⟩, .slice x.A x.ms.length x.c] 56)).alloc (.cells #[.int .i64 r, .int .i64 c] 63)).heap[w.heap.size + 1]? = some (.cells #[.int .i64 r, .int .i64 c] 63 (0, 0)) from by
    have h := heap_alloc_new (w.alloc (.cells #[.string ⟨x.nm.toArray⟩, .slice x.A x.ms.length x.c] 56)) (.cells #[.int .i64 r, .int .i64 c] 63)
    rwa [World.size_alloc] at h)
  have HX := Lib.hid hx.1
  have HB := Lib.hid h1
  clear hx h1
  go_enter Tryz.func104, Tryz.ntmps104
  go_wp2_with fail
  generalize World.alloc (World.alloc w _) _ = w2 at B0 D0 HB ⊢
  go_loopw [5] (fun i wr => ∃ (k : Nat), k ≤ x.ms.length ∧ i = .int .i64 k ∧ Hid (Below w2.heap.size w2 wr) ∧ Hid ((x.ms.take k).any (fun m => decide (m.r = r ∧ m.c = c)) = false)) (fun i _ => x.ms.length - (intOf i).toNat)
  case atStart => exact ⟨0, by omega, rfl, Below.refl _ _, show Hid _ from rfl⟩
  case round =>
    obtain ⟨k, hk, rfl, hb, hs⟩ := hrel
    have hlw := (B0.out.below hb.out).lt
    have b0 := (B0.out.below hb.out).cell0
    have b1 := (B0.out.below hb.out).cell1
    by_cases hlt : k < x.ms.length
    · have i0 : (k : Int) < (x.ms.length : Int) := by omega
      have hld : w.heap.size + 1 < wr.heap.size := Nat.lt_of_lt_of_le (Array.getElem?_eq_some_iff.1 D0.out).1 hb.out.size
      obtain ⟨g, off, y, hA, hbl, hx1, _, hc0, hc1, hc2, hc3⟩ := ((HX.out.below HB.out).below hb.out).mark (j := k) hlt
      rw [hA] at b1
      have l0 := fun p => cell_far (p := p) hlw b0
      have l1 := fun p => cell_far (p := p) hlw b1
      have m0 := fun p => cell_far (p := p) hbl hc0
      have m1 := fun p => cell_far (p := p) hbl hc1
      have hd := (hb.out.block _ (Array.getElem?_eq_some_iff.1 D0.out).1).trans D0.out
      have d0 : wr.cell? ⟨w.heap.size + 1, 0, none⟩ = some (.int .i64 r) := by simp [World.cell?, hd]
      have d1 : wr.cell? ⟨w.heap.size + 1, 1, none⟩ = some (.int .i64 c) := by simp [World.cell?, hd]
      have n0 := fun p => cell_far (p := p) hld d0
      have n1 := fun p => cell_far (p := p) hld d1
      clear hc0 hc1 hc2 hc3 hd d0 d1
      by_cases hr : y.r = r
      · by_cases hc : y.c = c
        · have HF := Lib.hid (show true = hasD x.ms r c from (any_true_at hx1 (by simp [hr, hc])).symm)
          subst hr hc
          clear hx1
          go_wp2_with fail
          refine wp_region_far (by kernel_rfl) (by kernel_rfl) ?_
          repeat (go_big_quiet_step ((fail)))
          refine wpQuiet_nil ?_
          rintro _ ⟨p, rfl⟩
          go_wp2_with fail
          go_ret
          exact OneB.bool HF.out (below_trans HB.out (hb.out.trans ((below_far wr p).mono hb.out.size)))
        · have HF := Lib.hid (any_false_step hs.out hx1 (by simp [hc]))
          subst hr
          clear hx1
          go_wp2_with fail
          refine wp_region_far (by kernel_rfl) (by kernel_rfl) ?_
          repeat (go_big_quiet_step ((fail)))
          refine wpQuiet_nil ?_
          rintro _ ⟨p, rfl⟩
          go_wp2_with fail
          go_roundw
          case rel => exact ⟨k + 1, by omega, by go_num, hb.out.trans ((below_far wr p).mono hb.out.size), HF⟩
          case measure => simp [intOf]; omega
      · have HF := Lib.hid (any_false_step hs.out hx1 (by simp [hr]))
        clear hx1
        go_wp2_with fail
        refine wp_region_far (by kernel_rfl) (by kernel_rfl) ?_
        repeat (go_big_quiet_step ((fail)))
        refine wpQuiet_nil ?_
        rintro _ ⟨p, rfl⟩
        go_wp2_with fail
        go_roundw
        case rel => exact ⟨k + 1, by omega, by go_num, hb.out.trans ((below_far wr p).mono hb.out.size), HF⟩
        case measure => simp [intOf]; omega
    · obtain rfl : k = x.ms.length := by omega
      rw [List.take_length] at hs
      have i0 : ¬ (x.ms.length : Int) < (x.ms.length : Int) := by omega
      have HF := Lib.hid (show false = hasD x.ms r c from hs.out.symm)
      clear hs
      go_wp2_with fail
      go_ret
      exact OneB.bool HF.out (below_trans HB.out hb.out)

set_option maxHeartbeats 2000000 in
theorem refMeet (x y : ItV) (w : World) (hx : ItOK w x) (hy : ItOK w y) :
    Calls Tryz.prog 55 #[mkIt x, mkIt y] w (OneB (.bool (meetN x.ms y.ms)) w) := by
  have hm := hx.len
  unfold maxLen at hm
  have h1 : Below w.heap.size w ((w.alloc (.cells #[.string ⟨x.nm.toArray⟩, .slice x.A x.ms.length x.c] 56)).alloc (.cells #[.string ⟨y.nm.toArray⟩, .slice y.A y.ms.length y.c] 56)) := ((Below.refl _ w).alloc (Nat.le_refl _) _).alloc (by simp) _
  have B0 := Lib.hid ((BlkI.new w x).below ((Below.refl _ _).alloc (Nat.le_refl _) (.cells #[.string ⟨y.nm.toArray⟩, .slice y.A y.ms.length y.c] 56)))
  have D0 := Lib.hid (show BlkI ((w.alloc (.cells #[.string ⟨x.nm.toArray⟩, .slice x.A x.ms.length x.c] 56)).alloc (.cells #[.string ⟨y.nm.toArray⟩, .slice y.A y.ms.length y.c] 56)) (w.heap.size + 1) y from by
    have h := BlkI.new (w.alloc (.cells #[.string ⟨x.nm.toArray⟩, .slice x.A x.ms.length x.c] 56)) y
    rwa [World.size_alloc] at h)
  have HX := Lib.hid hx.1
  have HY := Lib.hid hy
  have HB := Lib.hid h1
  clear hx hy h1
  go_enter Tryz.func55, Tryz.ntmps55
  go_wp2_with fail
  generalize World.alloc (World.alloc w _) _ = w2 at B0 D0 HB ⊢
  go_loopw [5] (fun i wr => ∃ (k : Nat), k ≤ x.ms.length ∧ i = .int .i64 k ∧ Hid (Below w2.heap.size w2 wr) ∧ Hid ((x.ms.take k).any (fun m => hasD y.ms m.r m.c) = false)) (fun i _ => x.ms.length - (intOf i).toNat)
  case atStart => exact ⟨0, by omega, rfl, Below.refl _ _, show Hid _ from rfl⟩
  case round =>
    obtain ⟨k, hk, rfl, hb, hs⟩ := hrel
    have hlw := (B0.out.below hb.out).lt
    have b0 := (B0.out.below hb.out).cell0
    have b1 := (B0.out.below hb.out).cell1
    by_cases hlt : k < x.ms.length
    · have i0 : (k : Int) < (x.ms.length : Int) := by omega
      have hld := (D0.out.below hb.out).lt
      obtain ⟨g, off, z, hA, hbl, hx1, _, hc0, hc1, hc2, hc3⟩ := ((HX.out.below HB.out).below hb.out).mark (j := k) hlt
      rw [hA] at b1
      have HR := Lib.hid fun p => refHas9 y z.r z.c (far wr p) ((((HY.out.below HB.out).below hb.out)).below (below_far wr p))
      have l1 := fun p => cell_far (p := p) hlw b1
      have m0 := fun p => cell_far (p := p) hbl hc0
      have m1 := fun p => cell_far (p := p) hbl hc1
      have n0 := fun p => cell_far (p := p) hld (D0.out.below hb.out).cell0
      have n1 := fun p => cell_far (p := p) hld (D0.out.below hb.out).cell1
      clear hc0 hc1 hc2 hc3
      cases hq : hasD y.ms z.r z.c with
      | true =>
        have HF := Lib.hid (show true = meetN x.ms y.ms from (any_true_at hx1 hq).symm)
        rw [hq] at HR
        clear hx1 hq
        go_wp2_with fail
        refine wp_region_far (by kernel_rfl) (by kernel_rfl) ?_
        repeat (go_big_quiet_step ((go_at_call 104; exact OneB.far (HR.out _))))
        refine wpQuiet_nil ?_
        rintro _ ⟨p, rfl⟩
        go_wp2_with fail
        go_ret
        exact OneB.bool HF.out (below_trans HB.out (hb.out.trans ((below_far wr p).mono hb.out.size)))
      | false =>
        have HF := Lib.hid (any_false_step (p := fun m => hasD y.ms m.r m.c) hs.out hx1 hq)
        simp only [hq] at HR
        clear hx1 hq
        go_wp2_with fail
        refine wp_region_far (by kernel_rfl) (by kernel_rfl) ?_
        repeat (go_big_quiet_step ((go_at_call 104; exact OneB.far (HR.out _))))
        refine wpQuiet_nil ?_
        rintro _ ⟨p, rfl⟩
        go_wp2_with fail
        go_roundw
        case rel => exact ⟨k + 1, by omega, by go_num, hb.out.trans ((below_far wr p).mono hb.out.size), HF⟩
        case measure => simp [intOf]; omega
    · obtain rfl : k = x.ms.length := by omega
      rw [List.take_length] at hs
      have i0 : ¬ (x.ms.length : Int) < (x.ms.length : Int) := by omega
      have HF := Lib.hid (show false = meetN x.ms y.ms from hs.out.symm)
      clear hs
      go_wp2_with fail
      go_ret
      exact OneB.bool HF.out (below_trans HB.out hb.out)

/-- Which items are valid. -/
def okI (x : It) : Bool := itemN x.1 && (decide (0 < x.2.length) && (x.2.all validM && isSetB (dotsM x.2)))

set_option maxHeartbeats 2000000 in
theorem refOne (x : ItV) (b : Bool) (w : World) (hx : ItOK w x) (hn : x.nm.length ≤ 1000) (hm : x.ms.length ≤ 100000) (hb : okI x.it = b) :
    Calls Tryz.prog 53 #[mkIt x] w (OneB (.bool b) w) := by
  have hml := hx.len
  have HI := Lib.hid fun W => refItem x.nm W hn
  have HM := Lib.hid fun W (h : MarksAt W x.A x.ms) => refMarks x.A x.ms x.c W h hml
  have HL := Lib.hid fun W b (h : MarksAt W x.A x.ms) (hb : isSetB (dotsM x.ms) = b) => refIsList x.A x.ms x.c b W h hm hb
  have HX := Lib.hid hx.1
  have hb' : (itemN x.nm && (decide (0 < x.ms.length) && (x.ms.all validM && isSetB (dotsM x.ms)))) = b := hb
  have B0 := Lib.hid (BlkI.new w x)
  have HB := Lib.hid ((Below.refl w.heap.size w).alloc (Nat.le_refl _) (.cells #[.string ⟨x.nm.toArray⟩, .slice x.A x.ms.length x.c] 56))
  obtain ⟨p1, h1⟩ : ∃ p, itemN x.nm = p := ⟨_, rfl⟩
  obtain ⟨p2, h2⟩ : ∃ p, x.ms.all validM = p := ⟨_, rfl⟩
  obtain ⟨p3, h3⟩ : ∃ p, isSetB (dotsM x.ms) = p := ⟨_, rfl⟩
  rw [h1] at HI hb'
  rw [h2] at HM hb'
  rw [h3] at hb'
  have H3 := Lib.hid h3
  have hlw := B0.out.lt
  have c0 := B0.out.cell0
  have c1 := B0.out.cell1
  clear hb hx h1 h2 h3 hml
  cases p1 with
  | false =>
    obtain rfl : b = false := by simpa using hb'.symm
    clear hb' c0 c1 hlw
    go_enter Tryz.func53, Tryz.ntmps53
    go_wp2_with fail
    refine (HI.out _).mono ?_
    rintro e w1 ⟨rfl, rfl⟩
    go_wp2_with fail
    go_ret
    exact ⟨rfl, HB.out⟩
  | true =>
    by_cases h0 : 0 < x.ms.length
    · have i0 : (0 : Int) < (x.ms.length : Int) := by omega
      have hd : decide (0 < x.ms.length) = true := decide_eq_true h0
      rw [hd] at hb'
      clear h0 hd
      cases p2 with
      | false =>
        obtain rfl : b = false := by simpa using hb'.symm
        clear hb'
        go_enter Tryz.func53, Tryz.ntmps53
        go_wp2_with fail
        refine (HI.out _).mono ?_
        rintro e w1 ⟨rfl, rfl⟩
        go_wp2_with fail
        refine (HM.out _ (HX.out.below HB.out)).mono ?_
        rintro e w2 ⟨rfl, hb2⟩
        have HB2 := Lib.hid (below_trans HB.out hb2)
        clear hb2 c0 c1 hlw
        go_wp2_with fail
        go_ret
        exact ⟨rfl, HB2.out⟩
      | true =>
        obtain rfl : b = p3 := by simpa using hb'.symm
        clear hb'
        go_enter Tryz.func53, Tryz.ntmps53
        go_wp2_with fail
        refine (HI.out _).mono ?_
        rintro e w1 ⟨rfl, rfl⟩
        go_wp2_with fail
        refine (HM.out _ (HX.out.below HB.out)).mono ?_
        rintro e w2 ⟨rfl, hb2⟩
        have HB2 := Lib.hid (below_trans HB.out hb2)
        have B2 := Lib.hid (B0.out.below hb2)
        clear hb2 c0 c1 hlw
        have c0 := B2.out.cell0
        have c1 := B2.out.cell1
        go_wp2_with fail
        refine (HL.out _ _ (HX.out.below HB2.out) H3.out).mono ?_
        rintro e w3 ⟨rfl, hb3⟩
        have HB3 := Lib.hid (below_trans HB2.out hb3)
        clear hb3 c0 c1
        go_wp2_with fail
        go_ret
        exact ⟨rfl, HB3.out⟩
    · have i0 : ¬ (0 : Int) < (x.ms.length : Int) := by omega
      have hd : decide (0 < x.ms.length) = false := decide_eq_false (by omega)
      rw [hd] at hb'
      obtain rfl : b = false := by simpa using hb'.symm
      clear h0 hd hb'
      go_enter Tryz.func53, Tryz.ntmps53
      go_wp2_with fail
      refine (HI.out _).mono ?_
      rintro e w1 ⟨rfl, rfl⟩
      go_wp2_with fail
      go_ret
      exact ⟨rfl, HB.out⟩

end

end Go.Proofs.YtfmhhmceoikgpaaGreat
