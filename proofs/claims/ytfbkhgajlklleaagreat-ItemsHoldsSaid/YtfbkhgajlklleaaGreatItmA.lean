/- Items: plain facts and how they lie in memory; the reference's before, has, Meet. -/
import Derived.Test.YtfbkhgajlklleaaGreatQtyI
import Derived.Test.YtfbkhgajlklleaaGreatNamB
import Derived.Deep.CutBlock
namespace Go.Proofs.YtfbkhgajlklleaaGreat
open Go.RowKit

/-- An item: its name and its marks. -/
abbrev It := List UInt8 × List Mk
/-- One name comes before another one. -/
def beforeN : List UInt8 → List UInt8 → Bool
  | [], [] => false
  | [], _ :: _ => true
  | _ :: _, [] => false
  | a :: r, b :: s => if a = b then beforeN r s else decide (a.toNat < b.toNat)
theorem beforeN_same {a b : List UInt8} {i : Nat} {x : UInt8} (ha : a[i]? = some x) (hb : b[i]? = some x) : beforeN (a.drop i) (b.drop i) = beforeN (a.drop (i + 1)) (b.drop (i + 1)) := by
  obtain ⟨h1, e1⟩ := List.getElem?_eq_some_iff.1 ha
  obtain ⟨h2, e2⟩ := List.getElem?_eq_some_iff.1 hb
  rw [List.drop_eq_getElem_cons h1, List.drop_eq_getElem_cons h2, e1, e2, beforeN, if_pos rfl]
theorem beforeN_diff {a b : List UInt8} {i : Nat} {x y : UInt8} (ha : a[i]? = some x) (hb : b[i]? = some y) (h : x ≠ y) : beforeN (a.drop i) (b.drop i) = decide (x.toNat < y.toNat) := by
  obtain ⟨h1, e1⟩ := List.getElem?_eq_some_iff.1 ha
  obtain ⟨h2, e2⟩ := List.getElem?_eq_some_iff.1 hb
  rw [List.drop_eq_getElem_cons h1, List.drop_eq_getElem_cons h2, e1, e2, beforeN, if_neg h]
theorem beforeN_end {a b : List UInt8} {i : Nat} (h : i ≤ a.length ∧ i ≤ b.length) (h2 : i = a.length ∨ i = b.length) : beforeN (a.drop i) (b.drop i) = decide (a.length < b.length) := by
  rcases h2 with h2 | h2
  · rw [List.drop_eq_nil_of_le (by omega : a.length ≤ i)]
    cases hb : b.drop i with
    | nil => have := congrArg List.length hb; simp at this; simp [beforeN]; omega
    | cons y r => have := congrArg List.length hb; simp at this; simp [beforeN]; omega
  · rw [List.drop_eq_nil_of_le (by omega : b.length ≤ i)]
    cases ha : a.drop i with
    | nil => have := congrArg List.length ha; simp at this; simp [beforeN]; omega
    | cons y r => have := congrArg List.length ha; simp at this; simp [beforeN]; omega
/-- A mark with a dot; two items with a dot in common. -/
def hasD (ms : List Mk) (r c : Int) : Bool := ms.any fun m => decide (m.r = r ∧ m.c = c)
def meetN (a b : List Mk) : Bool := a.any fun m => hasD b m.r m.c

/-- An item where it lies: its name, where the marks lie, the marks. -/
structure ItV where
  nm : List UInt8
  A : Option Addr
  c : Nat
  ms : List Mk
def ItV.it (x : ItV) : It := (x.nm, x.ms)
/-- An item as a value, and its two cells. -/
abbrev mkIt (x : ItV) : Value := .agg #[.string ⟨x.nm.toArray⟩, .slice x.A x.ms.length x.c]
def encIt (x : ItV) : List Value := [.string ⟨x.nm.toArray⟩, .slice x.A x.ms.length x.c]
theorem encIt_len (x : ItV) : (encIt x).length = 2 := rfl
theorem encIt_one (x : ItV) : ∀ u ∈ encIt x, u.oneCell' = true := by
  intro u hu
  simp [encIt] at hu
  rcases hu with rfl | rfl <;> rfl
theorem infoIt : (Tryz.prog.info? 34).map (fun i => (i.zero, i.size, i.bytes)) = some (some (.agg #[.string ⟨#[]⟩, .slice none 0 0]), 2, 40) := by kernel_rfl
/-- The marks of an item lie where they should. -/
def ItOK (W : World) (x : ItV) : Prop := MarksAt W x.A x.ms ∧ x.ms.length ≤ x.c ∧ x.c ≤ maxLen
theorem ItOK.below {W W' : World} {x : ItV} (h : ItOK W x) (hb : Below W.heap.size W W') : ItOK W' x := ⟨SlAt.below h.1 hb, h.2⟩
theorem ItOK.len {W : World} {x : ItV} (h : ItOK W x) : x.ms.length ≤ maxLen := Nat.le_trans h.2.1 h.2.2
/-- Items in memory. -/
def ItemsAt (W : World) (A : Option Addr) (xs : List ItV) : Prop := SlAt encIt 2 W A xs ∧ ∀ x ∈ xs, ItOK W x
theorem ItemsAt.below {W W' : World} {A : Option Addr} {xs : List ItV} (h : ItemsAt W A xs) (hb : Below W.heap.size W W') : ItemsAt W' A xs := ⟨SlAt.below h.1 hb, fun x hx => (h.2 x hx).below hb⟩
theorem ItemsAt.far {W : World} {A : Option Addr} {xs : List ItV} (h : ItemsAt W A xs) (p : FarBy) : ItemsAt (Go.Proofs.YtfbkhgajlklleaaGreat.far W p) A xs := h.below (below_far W p)
theorem ItemsAt.nil (W : World) (A : Option Addr) : ItemsAt W A [] := ⟨SlAt.nil, fun _ h => by cases h⟩
theorem ItemsAt.cells {W : World} {A : Option Addr} {xs : List ItV} (h : ItemsAt W A xs) {j : Nat} (hj : j < xs.length) :
    ∃ b off, ∃ x : ItV, A = some ⟨b, off, none⟩ ∧ b < W.heap.size ∧ xs[j]? = some x ∧ xs[j] = x ∧ W.cell? ⟨b, off + j * 2, none⟩ = some (.string ⟨x.nm.toArray⟩) ∧ W.cell? ⟨b, off + j * 2 + 1, none⟩ = some (.slice x.A x.ms.length x.c) ∧ ItOK W x := by
  obtain ⟨b, off, rfl, hb, hc⟩ := h.1 (by omega)
  have hx := List.getElem?_eq_getElem hj
  exact ⟨b, off, xs[j], rfl, hb, hx, rfl, by simpa using hc j _ hx 0 _ rfl, hc j _ hx 1 _ rfl, h.2 _ (List.getElem_mem hj)⟩
/-- A block that holds an item. -/
def BlkI (W : World) (g : Nat) (x : ItV) : Prop := W.heap[g]? = some (.cells #[.string ⟨x.nm.toArray⟩, .slice x.A x.ms.length x.c] 34 (0, 0))
section
variable {W W' : World} {g : Nat} {x : ItV}
theorem BlkI.lt (h : BlkI W g x) : g < W.heap.size := (Array.getElem?_eq_some_iff.1 h).1
theorem BlkI.cell0 (h : BlkI W g x) : W.cell? ⟨g, 0, none⟩ = some (.string ⟨x.nm.toArray⟩) := by simp [World.cell?, show W.heap[g]? = _ from h]
theorem BlkI.cell1 (h : BlkI W g x) : W.cell? ⟨g, 1, none⟩ = some (.slice x.A x.ms.length x.c) := by simp [World.cell?, show W.heap[g]? = _ from h]
theorem BlkI.frozen (h : BlkI W g x) (k : Nat) : W.frozen? ⟨g, k, none⟩ = false := by simp [World.frozen?, show W.heap[g]? = _ from h]
theorem BlkI.below (h : BlkI W g x) (hb : Below W.heap.size W W') : BlkI W' g x := (hb.block g h.lt).trans h
theorem BlkI.new (W : World) (x : ItV) : BlkI (W.alloc (.cells #[.string ⟨x.nm.toArray⟩, .slice x.A x.ms.length x.c] 34)) W.heap.size x := heap_alloc_new W _
end

set_option maxHeartbeats 2000000 in
theorem refBefore (a b : List UInt8) (w : World) (ha : a.length ≤ 100000) (hb : b.length ≤ 100000) :
    Calls Tryz.prog 40 #[.string ⟨a.toArray⟩, .string ⟨b.toArray⟩] w (OneB (.bool (beforeN a b)) w) := by
  have hsa := size_mk a
  have hsb := size_mk b
  go_enter Tryz.func40, Tryz.ntmps40
  go_wp2_with fail
  go_loopw [5] (fun i wr => ∃ (k : Nat), k ≤ a.length ∧ k ≤ b.length ∧ i = .int .i64 k ∧ Hid (Below w.heap.size w wr) ∧ Hid (beforeN a b = beforeN (a.drop k) (b.drop k))) (fun i _ => a.length - (intOf i).toNat)
  case atStart => exact ⟨0, by omega, by omega, rfl, Below.refl _ _, show Hid (beforeN a b = beforeN (a.drop 0) (b.drop 0)) from rfl⟩
  case round =>
    obtain ⟨k, hk1, hk2, rfl, hb0, hs⟩ := hrel
    by_cases h1 : k < a.length
    · have i0 : (k : Int) < (a.length : Int) := by omega
      by_cases h2 : k < b.length
      · have i1 : (k : Int) < (b.length : Int) := by omega
        obtain ⟨x, hx⟩ : ∃ x, a[k]? = some x := ⟨_, List.getElem?_eq_getElem h1⟩
        obtain ⟨y, hy⟩ : ∃ y, b[k]? = some y := ⟨_, List.getElem?_eq_getElem h2⟩
        have ex : ∀ h : k < (ByteArray.mk a.toArray).size, (ByteArray.mk a.toArray)[k]'h = x := fun h => by
          have := (List.getElem?_eq_some_iff.1 hx).2; rw [← this]; rfl
        have ey : ∀ h : k < (ByteArray.mk b.toArray).size, (ByteArray.mk b.toArray)[k]'h = y := fun h => by
          have := (List.getElem?_eq_some_iff.1 hy).2; rw [← this]; rfl
        have ex2 : a[k] = x := (List.getElem?_eq_some_iff.1 hx).2
        have ey2 : b[k] = y := (List.getElem?_eq_some_iff.1 hy).2
        by_cases hxy : x = y
        · subst hxy
          have HF := Lib.hid (hs.out.trans (beforeN_same hx hy))
          clear hx hy hs
          go_wp2_with fail
          refine wp_region_far (by kernel_rfl) (by kernel_rfl) ?_
          repeat (go_big_quiet_step ((fail)))
          refine wpQuiet_nil ?_
          rintro _ ⟨p, rfl⟩
          go_wp2_with fail
          go_roundw
          case rel => exact ⟨k + 1, by omega, by omega, by go_num, hb0.out.trans ((below_far wr p).mono hb0.out.size), HF⟩
          case measure => simp [intOf]; omega
        · have HF := Lib.hid (hs.out.trans (beforeN_diff hx hy hxy))
          have hne : ((x.toNat : Int) != (y.toNat : Int)) = true := neT (fun h => hxy (by have : x.toNat = y.toNat := by omega
                                                                                          exact UInt8.toNat_inj.1 this))
          clear hx hy hs hxy
          go_wp2_with fail
          refine wp_region_far (by kernel_rfl) (by kernel_rfl) ?_
          repeat (go_big_quiet_step ((fail)))
          refine wpQuiet_nil ?_
          rintro _ ⟨p, rfl⟩
          go_wp2_with fail
          have hbb := Lib.hid (hb0.out.trans ((below_far wr p).mono hb0.out.size))
          generalize far wr p = wz at hbb ⊢
          refine wp_region_far (by kernel_rfl) (by kernel_rfl) ?_
          repeat (go_big_quiet_step ((fail)))
          refine wpQuiet_nil ?_
          rintro _ ⟨p, rfl⟩
          go_wp2_with fail
          go_ret
          exact OneB.bool (by rw [HF.out]) (hbb.out.trans ((below_far wz p).mono hbb.out.size))
      · obtain rfl : k = b.length := by omega
        have HF := Lib.hid (hs.out.trans (beforeN_end ⟨hk1, hk2⟩ (.inr rfl)))
        have i1 : ¬ (b.length : Int) < (b.length : Int) := by omega
        clear hs
        go_wp2_with fail
        go_ret
        exact OneB.bool (by rw [HF.out]) hb0.out
    · obtain rfl : k = a.length := by omega
      have HF := Lib.hid (hs.out.trans (beforeN_end ⟨hk1, hk2⟩ (.inl rfl)))
      have i1 : ¬ (a.length : Int) < (a.length : Int) := by omega
      clear hs
      go_wp2_with fail
      go_ret
      exact OneB.bool (by rw [HF.out]) hb0.out

end Go.Proofs.YtfbkhgajlklleaaGreat
