/- Several texts in one: ItmM, ItmN. -/
import Derived.Test.YtfmhhmceoikgpaaGreatMX
import Derived.Test.YtfmhhmceoikgpaaGreatMS
namespace Go.Proofs.YtfmhhmceoikgpaaGreat

section
open Go.RowKit

def ItV.zero : ItV := ⟨[], none, 0, []⟩
theorem cellsI_rep (n : Nat) : cellsOf encIt (List.replicate (n + 1) ItV.zero) = .string ⟨#[]⟩ :: .slice none 0 0 :: cellsOf encIt (List.replicate n ItV.zero) := rfl
theorem cellsI_get (n j : Nat) : (cellsOf encIt (List.replicate n ItV.zero))[j]? = if j < n * 2 then (if j % 2 = 0 then some (.string ⟨#[]⟩) else some (.slice none 0 0)) else none := by
  induction n generalizing j with
  | zero => simp [cellsOf]
  | succ n ih =>
    rw [cellsI_rep]
    match j with
    | 0 => simp
    | 1 => simp; omega
    | j + 2 =>
      simp only [List.getElem?_cons_succ]
      rw [ih]
      rw [show (j + 2) % 2 = j % 2 by omega]
      by_cases h : j < n * 2
      · have h2 : j + 2 < (n + 1) * 2 := by omega
        rw [if_pos h, if_pos h2]
      · have h2 : ¬ j + 2 < (n + 1) * 2 := by omega
        rw [if_neg h, if_neg h2]
theorem cellsI_made (n : Nat) : (madeCells (Value.agg #[.string ⟨#[]⟩, .slice none 0 0]).cells (n * 2)).toList = cellsOf encIt (List.replicate n ItV.zero) := by
  apply List.ext_getElem?
  intro j
  rw [cellsI_get]
  by_cases hj : j < n * 2
  · have h2 : j % 2 = 0 ∨ j % 2 = 1 := by omega
    rcases h2 with h | h <;> simp [madeCells, hj, Value.cells, h]
  · simp [madeCells, hj]

/-- Items that a call owns: their row, and the rows of their marks. -/
def OwnI (W : World) (B : Nat) (v : Value) (xs : List ItV) : Prop := RowT W B v xs ∧ ∀ x ∈ xs, RowM W B (slV x) x.ms
theorem RowM.ok {W : World} {B : Nat} {x : ItV} (h : RowM W B (slV x) x.ms) : ItOK W x := by
  obtain ⟨A, c, e, h1, h2, h3⟩ := RowM.at h
  injection e with e1 e2 e3
  refine ⟨?_, ?_, ?_⟩
  · rw [e1]; exact h3
  · rw [e3]; exact h1
  · rw [e3]; exact h2
theorem OwnI.holds {W : World} {B : Nat} {v : Value} {xs : List ItV} (h : OwnI W B v xs) : HoldsX W v xs := HoldsX.of_own h.1 fun x hx => RowM.ok (h.2 x hx)
theorem RowT.below {W W' : World} {B : Nat} {v : Value} {xs : List ItV} (h : RowT W B v xs) (hb : Below W.heap.size W W') : RowT W' B v xs := by
  refine World.ownsRow.kept h (grown_of_below hb none) ?_
  obtain ⟨A, c, rfl, _⟩ := SlAt.of_own encIt_len h
  cases A <;> simp [Value.ownBlock]
theorem OwnI.below {W W' : World} {B : Nat} {v : Value} {xs : List ItV} (h : OwnI W B v xs) (hb : Below W.heap.size W W') : OwnI W' B v xs := ⟨RowT.below h.1 hb, fun x hx => RowM.below (h.2 x hx) hb⟩
theorem OwnI.nil (W : World) (B : Nat) : OwnI W B (.slice none 0 0) [] := ⟨World.ownsRow_nil _ _ _ _, fun _ h => by cases h⟩
theorem OwnI.le {W : World} {B B' : Nat} {v : Value} {xs : List ItV} (h : OwnI W B v xs) (hb : B' ≤ B) : OwnI W B' v xs := ⟨Joins.ownsRow_le h.1 hb, fun x hx => Joins.ownsRow_le (h.2 x hx) hb⟩

theorem set_rep {ys : List ItV} {y : ItV} {n : Nat} (h : ys.length < n) : (ys ++ List.replicate (n - ys.length) ItV.zero).set ys.length y = (ys ++ [y]) ++ List.replicate (n - (ys ++ [y]).length) ItV.zero := by
  have e : n - ys.length = (n - (ys ++ [y]).length) + 1 := by simp; omega
  rw [List.set_append_right _ _ (Nat.le_refl _), Nat.sub_self, e, List.replicate_succ, List.set_cons_zero]
  simp
theorem its_snoc {xs ys : List ItV} {k : Nat} {x y : ItV} (h : its ys = (its xs).take k) (hx : xs[k]? = some x) (he : y.it = x.it) : its (ys ++ [y]) = (its xs).take (k + 1) := by
  rw [take_step (its_at hx), ← h, ← he]; simp

set_option maxHeartbeats 4000000 in
theorem itCopy (A : Option Addr) (xs : List ItV) (cap : Nat) (w : World) (hx : ItemsAt w A xs) (hm : xs.length ≤ 1000000) (hl : ∀ x ∈ xs, x.nm.length ≤ 1000000 ∧ x.ms.length ≤ 1000000) :
    Calls Tryz.prog 50 #[.slice A xs.length cap] w fun e w' => ∃ v ys, e = .returned v ∧ its ys = its xs ∧ OwnI w' w.heap.size v ys ∧ Below w.heap.size w w' := by
  obtain ⟨ti0, hi0, hz0, hz1, hz2⟩ := info_parts infoIt
  have HX := Lib.hid hx
  have HL := Lib.hid hl
  clear hx hl
  go_enter Tryz.func50, Tryz.ntmps50
  go_wp2_with (refine wpList_make_full _ rfl (.tmp 7) (.tmp 7) 26 rfl w.heap.size 56 ti0 _ 2 Tryz.underlying26 hi0 hz0 hz1 .i64 .i64 _ _ xs.length rfl rfl rfl rfl (by rw [hz2]; omega) (by simp [maxLen]; omega) (Nat.le_refl _) ?_; intro w1 hown hg)
  rw [cellsI_made] at hown
  have HO := Lib.hid hown
  have HB := Lib.hid ((Below.refl w.heap.size w).grown hg (Nat.le_refl _) (fun _ h => by cases h))
  clear hown hg hi0 hz0 hz1 hz2
  go_loopw [4, 5, 11] (fun _ _ i wr => ∃ (ys : List ItV), ys.length ≤ xs.length ∧ i = .int .i64 (ys.length : Int) ∧ Hid (its ys = (its xs).take ys.length) ∧ Hid (wr.ownsRow w.heap.size 56 2 (.slice (some ⟨w.heap.size, 0, none⟩) xs.length xs.length) xs.length (cellsOf encIt (ys ++ List.replicate (xs.length - ys.length) ItV.zero))) ∧ Hid (∀ y ∈ ys, RowM wr w.heap.size (slV y) y.ms ∧ (slV y).ownBlock ≠ some w.heap.size) ∧ Hid (Below w.heap.size w wr)) (fun _ _ i _ => xs.length - (intOf i).toNat)
  case atStart => exact ⟨[], by simp, rfl, rfl, HO, Lib.hid (fun y (h : y ∈ ([] : List ItV)) => by cases h), HB⟩
  case round =>
    clear HO HB
    obtain ⟨ys, hk, rfl, hys, HO, HR, HB⟩ := hrel
    by_cases hlt : ys.length < xs.length
    · have i0 : (ys.length : Int) < (xs.length : Int) := by omega
      obtain ⟨g, off, x, rfl, hbl, hx1, _, hc0, hc1, hok⟩ := (HX.out.below HB.out).cells (j := ys.length) hlt
      have hlx := HL.out x (List.mem_of_getElem? hx1)
      have hba : Below wr.heap.size wr (wr.alloc (.cells #[.string ⟨x.nm.toArray⟩, .slice x.A x.ms.length x.c] 56)) := (Below.refl _ wr).alloc (Nat.le_refl _) _
      have HBA := Lib.hid hba
      have HC := Lib.hid (itClone x _ (hok.below hba) hlx.1 hlx.2)
      have hgw : w.heap.size < wr.heap.size := (HO.out.lt _ rfl).2
      have HX1 := Lib.hid hx1
      clear hx1 hlx hba hok
      go_wp2_with fail
      refine HC.out.mono ?_
      rintro e w2 ⟨y, rfl, hyx, hry, hb2⟩
      have hb3 := below_trans HBA.out hb2
      have hz2 := hb2.size
      have ho2 : w2.ownsRow w.heap.size 56 2 (.slice (some ⟨w.heap.size, 0, none⟩) xs.length xs.length) xs.length (cellsOf encIt (ys ++ List.replicate (xs.length - ys.length) ItV.zero)) := HO.out.kept (grown_of_below hb3 none) (by simp [Value.ownBlock])
      have hzl : (ys ++ List.replicate (xs.length - ys.length) ItV.zero).length = xs.length := by simp; omega
      have d0 : ∃ u, w2.cell? ⟨w.heap.size, ys.length * 2, none⟩ = some u := by
        rw [ho2.cellAt (ys.length * 2) (by omega)]
        exact ⟨_, List.getElem?_eq_getElem (by rw [cellsOf_length encIt_len, hzl]; omega)⟩
      have d1 : ∃ u, w2.cell? ⟨w.heap.size, ys.length * 2 + 1, none⟩ = some u := by
        rw [ho2.cellAt (ys.length * 2 + 1) (by omega)]
        exact ⟨_, List.getElem?_eq_getElem (by rw [cellsOf_length encIt_len, hzl]; omega)⟩
      obtain ⟨u0, d0⟩ := d0
      obtain ⟨u1, d1⟩ := d1
      have f0 := ho2.frozenAt (ys.length * 2)
      have f1 := ho2.frozenAt (ys.length * 2 + 1)
      have hlw : w.heap.size < w2.heap.size := World.block_lt_of_cell? w2 _ d0
      have hos := own_storeI (x := y) ho2 (j := ys.length) (by rw [hzl]; exact hlt)
      rw [set_rep hlt] at hos
      have HOS := Lib.hid hos.1
      have hyb : (slV y).ownBlock ≠ some w.heap.size := fun e => by have := (hry.lt _ e).1; simp at this; omega
      have HRS := Lib.hid (show ∀ z ∈ ys ++ [y], RowM ((w2.setCell ⟨w.heap.size, ys.length * 2, none⟩ (.string ⟨y.nm.toArray⟩)).setCell ⟨w.heap.size, ys.length * 2 + 1, none⟩ (slV y)) w.heap.size (slV z) z.ms ∧ (slV z).ownBlock ≠ some w.heap.size from fun z hz => by
        have hzr : RowM w2 w.heap.size (slV z) z.ms ∧ (slV z).ownBlock ≠ some w.heap.size := by
          rcases List.mem_append.1 hz with h | h
          · exact ⟨RowM.below (HR.out z h).1 hb3, (HR.out z h).2⟩
          · obtain rfl : z = y := by simpa using h
            exact ⟨Joins.ownsRow_le hry (by simp; omega), hyb⟩
        exact ⟨ownsRow_setCell_other (ownsRow_setCell_other hzr.1 (a := ⟨w.heap.size, ys.length * 2, none⟩) hzr.2 _) (a := ⟨w.heap.size, ys.length * 2 + 1, none⟩) hzr.2 _, hzr.2⟩)
      have HBS := Lib.hid ((below_trans HB.out hb3).grown hos.2 (by omega) (fun _ h => by cases h; exact Nat.le_refl _))
      have HYS := Lib.hid (its_snoc hys.out HX1.out hyx)
      clear ho2 hos hry hb2 hb3 hz2 hzl hyb hc0 hc1 hyx
      go_wp2_with fail
      go_roundw
      case rel => exact ⟨ys ++ [y], by simp; omega, by rw [List.length_append, List.length_singleton]; go_num, (by rw [List.length_append, List.length_singleton]; exact HYS), HOS, HRS, HBS⟩
      case measure => simp [intOf]; omega
    · have hyl : ys.length = xs.length := by omega
      have i0 : ¬ (ys.length : Int) < (xs.length : Int) := by omega
      have HE := Lib.hid (show its ys = its xs ∧ OwnI wr w.heap.size (.slice (some ⟨w.heap.size, 0, none⟩) xs.length xs.length) ys from by
        refine ⟨by rw [hys.out, hyl, ← its_len xs, List.take_length], ?_, fun y hy => (HR.out y hy).1⟩
        have h := HO.out
        rw [hyl, Nat.sub_self, List.replicate_zero, List.append_nil] at h
        show wr.ownsRow _ _ _ _ ys.length _
        rw [hyl]; exact h)
      clear hlt hk
      go_wp2_with fail
      go_ret
      exact ⟨_, rfl, ys, HE.out.1, HE.out.2, HB.out⟩

/-- The item with a name, and the error. -/
def findV (l : List It) (nm : List UInt8) : It × Nat := match l.find? (fun x => x.1 == nm) with
  | some x => (x, 0)
  | none => (([], []), 9)
theorem findV_some {l : List It} {nm : List UInt8} {k : Nat} {x : It} (hx : l[k]? = some x) (he : (x.1 == nm) = true) (h : ∀ (j : Nat) (y : It), j < k → l[j]? = some y → (y.1 == nm) = false) : findV l nm = (x, 0) := by
  obtain ⟨hk, hkx⟩ := List.getElem?_eq_some_iff.1 hx
  have : l.find? (fun x => x.1 == nm) = some x := by
    rw [List.find?_eq_some_iff_getElem]
    exact ⟨he, k, hk, hkx, fun j hj => by have := h j l[j] hj (List.getElem?_eq_getElem (by omega)); simp [this]⟩
  unfold findV; rw [this]
theorem findV_none {l : List It} {nm : List UInt8} (h : ∀ (j : Nat) (y : It), j < l.length → l[j]? = some y → (y.1 == nm) = false) : findV l nm = (([], []), 9) := by
  have : l.find? (fun x => x.1 == nm) = none := by
    rw [List.find?_eq_none]
    intro x hx
    obtain ⟨j, hj⟩ := List.mem_iff_getElem?.1 hx
    simp [h j x (List.getElem?_eq_some_iff.1 hj).1 hj]
  unfold findV; rw [this]

set_option maxHeartbeats 4000000 in
theorem itFind (A : Option Addr) (xs : List ItV) (cap : Nat) (nm : List UInt8) (w : World) (hx : ItemsAt w A xs) (hm : xs.length ≤ 1000000) (hl : ∀ x ∈ xs, x.nm.length ≤ 1000000 ∧ x.ms.length ≤ 1000000) :
    Calls Tryz.prog 70 #[.slice A xs.length cap, .string ⟨nm.toArray⟩] w fun e w' => (∃ (y : ItV) (n : Nat), e = .returned (.tuple #[mkIt y, .int .i64 (n : Int)]) ∧ findV (its xs) nm = (y.it, n) ∧ ItOK w' y) ∧ Below w.heap.size w w' := by
  have HX := Lib.hid hx
  have HL := Lib.hid hl
  have hB0 := Lib.hid (show Blk2I (w.alloc (.cells #[.string ⟨#[]⟩, .slice none 0 0] 56)) w.heap.size (.string ⟨#[]⟩) (.slice none 0 0) from heap_alloc_new w _)
  have hb0 := Lib.hid ((Below.refl w.heap.size w).alloc (Nat.le_refl _) (.cells #[.string ⟨#[]⟩, .slice none 0 0] 56))
  clear hx hl
  go_enter Tryz.func70, Tryz.ntmps70
  go_wp2_with fail
  generalize w.alloc _ = w1 at hB0 hb0 ⊢
  go_loopw [7, 10] (fun _ i wr => ∃ k : Nat, k ≤ xs.length ∧ i = .int .i64 k ∧ Hid (∀ (j : Nat) (y : It), j < k → (its xs)[j]? = some y → (y.1 == nm) = false) ∧ Hid (Blk2I wr w.heap.size (.string ⟨#[]⟩) (.slice none 0 0)) ∧ Hid (Below w.heap.size w wr)) (fun _ i _ => xs.length - (intOf i).toNat)
  case atStart => exact ⟨0, by omega, rfl, fun j y h => by omega, hB0, hb0⟩
  case round =>
    clear hB0 hb0
    obtain ⟨k, hk, rfl, hs, hB, hb⟩ := hrel
    have hlw := hB.out.lt
    have z0 := hB.out.cell0
    have z1 := hB.out.cell1
    have f0 := hB.out.frozen 0
    have f1 := hB.out.frozen 1
    by_cases hlt : k < xs.length
    · have i0 : (k : Int) < (xs.length : Int) := by omega
      obtain ⟨g, off, x, rfl, hbl, hx1, _, hc0, hc1, hok⟩ := (HX.out.below hb.out).cells (j := k) hlt
      have hba : Below wr.heap.size wr (wr.alloc (.cells #[.string ⟨x.nm.toArray⟩, .slice x.A x.ms.length x.c] 56)) := (Below.refl _ wr).alloc (Nat.le_refl _) _
      cases hq : (x.nm == nm) with
      | true =>
        have hlx := HL.out x (List.mem_of_getElem? hx1)
        have HC := Lib.hid (itClone x _ (hok.below hba) hlx.1 hlx.2)
        have HF := Lib.hid (findV_some (its_at hx1) hq hs.out)
        have HBA := Lib.hid hba
        clear hx1 hok hba hlx
        go_wp2_with fail
        refine HC.out.mono ?_
        rintro e w2 ⟨y, rfl, hyx, hry, hb2⟩
        have hb3 := below_trans HBA.out hb2
        have hB2 := hB.out.below hb3
        have hlw2 := hB2.lt
        have e0 := hB2.cell0
        have e1 := hB2.cell1
        have k0 := hB2.frozen 0
        have k1 := hB2.frozen 1
        have hset := hB2.set (.string ⟨y.nm.toArray⟩) (slV y)
        have s6 := hset.cell0
        have s7 := hset.cell1
        have HE := Lib.hid (show (∃ (y' : ItV) (n : Nat), Ending.returned (.tuple #[mkIt y, .int .i64 0]) = .returned (.tuple #[mkIt y', .int .i64 (n : Int)]) ∧ findV (its xs) nm = (y'.it, n) ∧ ItOK ((w2.setCell ⟨w.heap.size, 0, none⟩ (.string ⟨y.nm.toArray⟩)).setCell ⟨w.heap.size, 1, none⟩ (slV y)) y') ∧ Below w.heap.size w ((w2.setCell ⟨w.heap.size, 0, none⟩ (.string ⟨y.nm.toArray⟩)).setCell ⟨w.heap.size, 1, none⟩ (slV y)) from
          ⟨⟨y, 0, rfl, by rw [HF.out, hyx], RowM.ok (B := wr.heap.size) (row_set2I (Joins.ownsRow_le hry (by simp)) (fun e => by have := (hry.lt _ e).1; simp at this; omega) _ _)⟩, below_set2I (below_trans hb.out hb3) (Nat.le_refl _) _ _⟩)
        clear hyx hry hb2 hb3 hB2 hset hB z0 z1 f0 f1 hc0 hc1
        go_wp2_with fail
        exact bodyPost_ret (v := .tuple #[mkIt y, .int .i64 0]) (by simp [results, Tryz.results70, go_sem, s6, s7]) rfl HE.out
      | false =>
        have HF := Lib.hid (step_none (p := fun y => y.1 == nm) hs.out (its_at hx1) hq)
        have HB' := Lib.hid (hB.out.below hba)
        have Hb' := Lib.hid (below_trans hb.out hba)
        clear hx1 hok hba
        go_wp2_with fail
        go_roundw
        case rel => exact ⟨k + 1, by omega, by go_num, HF, HB', Hb'⟩
        case measure => simp [intOf]; omega
    · obtain rfl : k = xs.length := by omega
      have i0 : ¬ (xs.length : Int) < (xs.length : Int) := by omega
      have hset := hB.out.set (.string ⟨#[]⟩) (.slice none 0 0)
      have s6 := hset.cell0
      have s7 := hset.cell1
      have HE := Lib.hid (show (∃ (y' : ItV) (n : Nat), Ending.returned (.tuple #[.agg #[.string ⟨#[]⟩, .slice none 0 0], .int .i64 9]) = .returned (.tuple #[mkIt y', .int .i64 (n : Int)]) ∧ findV (its xs) nm = (y'.it, n) ∧ ItOK ((wr.setCell ⟨w.heap.size, 0, none⟩ (.string ⟨#[]⟩)).setCell ⟨w.heap.size, 1, none⟩ (.slice none 0 0)) y') ∧ Below w.heap.size w ((wr.setCell ⟨w.heap.size, 0, none⟩ (.string ⟨#[]⟩)).setCell ⟨w.heap.size, 1, none⟩ (.slice none 0 0)) from
        ⟨⟨ItV.zero, 9, rfl, findV_none (by rw [its_len]; exact hs.out), ⟨SlAt.nil, by simp [ItV.zero], by simp [ItV.zero, maxLen]⟩⟩, below_set2I hb.out (Nat.le_refl _) _ _⟩)
      clear hlt hk hset
      go_wp2_with fail
      exact bodyPost_ret (v := .tuple #[.agg #[.string ⟨#[]⟩, .slice none 0 0], .int .i64 9]) (by simp [results, Tryz.results70, go_sem, s6, s7]) rfl HE.out

/-- The quantity of an item, and the error. -/
def qtyI (x : It) : Int × Nat := if okI x then ((newV validM x.2).1.q, (newV validM x.2).2) else (0, 2)
set_option maxHeartbeats 1000000 in
theorem itQty (x : ItV) (q : Int) (n : Nat) (w : World) (hx : ItOK w x) (hn : x.nm.length ≤ 1000) (hm : x.ms.length ≤ 100000) (hv : qtyI x.it = (q, n)) :
    Calls Tryz.prog 69 #[mkIt x] w (OneB (.tuple #[.int .i64 q, .int .i64 (n : Int)]) w) := by
  have B0 := Lib.hid (BlkI.new w x)
  have HB := Lib.hid ((Below.refl w.heap.size w).alloc (Nat.le_refl _) (.cells #[.string ⟨x.nm.toArray⟩, .slice x.A x.ms.length x.c] 56))
  obtain ⟨b, hbo⟩ : ∃ b, okI x.it = b := ⟨_, rfl⟩
  have HV := Lib.hid fun W (h : ItOK W x) => itValid x b W h hn hm hbo
  have HX := Lib.hid hx
  have hml := hx.len
  unfold qtyI at hv
  rw [hbo] at hv
  have hlw := B0.out.lt
  have c0 := B0.out.cell0
  have c1 := B0.out.cell1
  clear hx
  cases b with
  | false =>
    rw [if_neg (by simp)] at hv
    have hq := congrArg Prod.fst hv
    have hn' := congrArg Prod.snd hv
    simp only at hq hn'
    subst hq hn'
    clear hv hbo
    go_enter Tryz.func69, Tryz.ntmps69
    go_wp2_with fail
    refine (HV.out _ (HX.out.below HB.out)).mono ?_
    rintro e w1 ⟨rfl, hb1⟩
    have HB1 := Lib.hid (below_trans HB.out hb1)
    clear hb1 c0 c1
    go_wp2_with fail
    go_ret2
    exact ⟨rfl, HB1.out⟩
  | true =>
    rw [if_pos rfl] at hv
    obtain ⟨m, n', hnv⟩ : ∃ m n', newV validM x.ms = (m, n') := ⟨_, _, rfl⟩
    rw [show x.it.2 = x.ms from rfl, hnv] at hv
    have hq := congrArg Prod.fst hv
    have hn' := congrArg Prod.snd hv
    simp only at hq hn'
    subst hq hn'
    have HN := Lib.hid fun W (h : MarksAt W x.A x.ms) => qtyNewest x.A x.ms x.c m n' W h hml hnv
    clear hv hnv hbo
    obtain ⟨r, c, q, t⟩ := m
    go_enter Tryz.func69, Tryz.ntmps69
    go_wp2_with fail
    refine (HV.out _ (HX.out.below HB.out)).mono ?_
    rintro e w1 ⟨rfl, hb1⟩
    have HB1 := Lib.hid (below_trans HB.out hb1)
    have B1 := Lib.hid (B0.out.below hb1)
    clear hb1 c0 c1 hlw
    have c1 := B1.out.cell1
    go_wp2_with fail
    refine (HN.out _ (HX.out.below HB1.out).1).mono ?_
    rintro e w2 ⟨rfl, hb2⟩
    have HB2 := Lib.hid (below_trans HB1.out hb2)
    clear hb2 c1
    go_wp2_with fail
    go_ret2
    exact ⟨rfl, HB2.out.alloc HB2.out.size _⟩

end

section
open Go.RowKit

/-- A dot and an item in their blocks. -/
structure KO (W0 : World) (gd g : Nat) (r c : Int) (x : ItV) (W : World) : Prop where
  dot : W.heap[gd]? = some (.cells #[.int .i64 r, .int .i64 c] 63 (0, 0))
  blk : BlkI W g x
  bel : Below W0.heap.size W0 W
  ok : ItOK W x
section
variable {W0 W W' : World} {gd g : Nat} {r c : Int} {x : ItV}
theorem KO.lt (h : KO W0 gd g r c x W) : gd < W.heap.size := (Array.getElem?_eq_some_iff.1 h.dot).1
theorem KO.next (h : KO W0 gd g r c x W) (hb : Below W.heap.size W W') : KO W0 gd g r c x W' := ⟨(hb.block _ h.lt).trans h.dot, h.blk.below hb, below_trans h.bel hb, h.ok.below hb⟩
theorem KO.drew (h : KO W0 gd g r c x W) : KO W0 gd g r c x W.drew := h.next (Below.refl _ _).drew
theorem KO.sp (h : KO W0 gd g r c x W) : W.cell? ⟨gd, 0, none⟩ = some (.int .i64 r) ∧ W.cell? ⟨gd, 1, none⟩ = some (.int .i64 c) ∧ W.cell? ⟨g, 1, none⟩ = some (.slice x.A x.ms.length x.c) ∧ gd < W.heap.size ∧ g < W.heap.size ∧ KO W0 gd g r c x W :=
  ⟨by simp [World.cell?, h.dot], by simp [World.cell?, h.dot], h.blk.cell1, h.lt, h.blk.lt, h⟩
end
theorem Holds.drew {w : World} {v : Value} {xs : List (Int × Int)} (h : Holds w v xs) : Holds w.drew v xs := h.below (Below.refl _ _).drew

theorem allD_snoc (l : List It) (x : It) : allD (l ++ [x]) = allD l ++ dotsM x.2 := by simp [allD]
set_option maxRecDepth 100000 in
set_option maxHeartbeats 4000000 in
theorem itDots (A : Option Addr) (xs : List ItV) (cap : Nat) (w : World) (hx : ItemsAt w A xs) (hf : Fits xs) :
    Calls Tryz.prog 39 #[.slice A xs.length cap] w fun e w' => (∃ v, e = .returned v ∧ Holds w' v (dotsI (its xs))) ∧ Below w.heap.size w w' := by
  obtain ⟨ti0, hi0, hz0, hz1, hz2⟩ := info_parts infoD
  have hm := hf.1
  have HX := Lib.hid hx
  have HF := Lib.hid hf.2
  clear hx hf
  go_enter Tryz.func39, Tryz.ntmps39
  go_wp2_with fail
  go_loopw [3, 5, 8] (fun s3 _ i wr => ∃ (k : Nat) (D : Option Addr) (d : Nat) (ds : List (Int × Int)), k ≤ xs.length ∧ s3 = .slice D ds.length d ∧ i = .int .i64 k ∧ Hid (allD ((its xs).take k) = ds) ∧ Hid (ds.length ≤ 100 * k) ∧ Hid (wr.ownsRow w.heap.size 63 2 (.slice D ds.length d) ds.length (cellsOf encD ds)) ∧ Hid (Below w.heap.size w wr)) (fun _ _ i _ => xs.length - (intOf i).toNat)
  case atStart => exact ⟨0, none, 0, [], by omega, rfl, rfl, rfl, Nat.zero_le _, World.ownsRow_nil _ _ _ _, Below.refl _ _⟩
  case round =>
    obtain ⟨k, D, d, ds, hk, rfl, rfl, hds, hdl, HO, HB⟩ := hrel
    by_cases hlt : k < xs.length
    · have i0 : (k : Int) < (xs.length : Int) := by omega
      obtain ⟨g, off, x, rfl, hbl, hx1, _, hc0, hc1, hok⟩ := (HX.out.below HB.out).cells (j := k) hlt
      have hxm := (HF.out x (List.mem_of_getElem? hx1)).2
      have hba : Below wr.heap.size wr (wr.alloc (.cells #[.string ⟨x.nm.toArray⟩, .slice x.A x.ms.length x.c] 56)) := (Below.refl _ wr).alloc (Nat.le_refl _) _
      have HBA := Lib.hid hba
      have HD := Lib.hid (qtyDots x.A x.ms x.c _ (hok.below hba).1 (by omega))
      have HE := Lib.hid (show allD ((its xs).take (k + 1)) = ds ++ dotsM x.ms from by rw [take_step (its_at hx1), allD_snoc, hds.out]; rfl)
      have HML := Lib.hid (dotsM_len x.ms)
      clear hx1 hok hba
      go_wp2_with fail
      refine HD.out.mono ?_
      rintro e w1 ⟨⟨v1, rfl, A1, c1, rfl, ha1, hl1, hl2⟩, hb1⟩
      have hb3 := below_trans HBA.out hb1
      have HA1 := Lib.hid ha1
      have HO1 := Lib.hid (show w1.ownsRow w.heap.size 63 2 (.slice D ds.length d) ds.length (cellsOf encD ds) from HO.out.kept (grown_of_below hb3 none) (by cases D <;> simp [Value.ownBlock]))
      have HB1 := Lib.hid (below_trans HB.out hb3)
      have hdl2 := hdl.out
      clear ha1 hb1 hb3 hc0 hc1
      generalize dotsM x.ms = ms1 at *
      go_wp2_with (at_builtin; go_loud (refine wpList_append_sl _ encD 2 rfl (.tmp 12) (.tmp 15) 22 rfl encD_len (by omega) encD_one w.heap.size 63 ti0 _ 16 Tryz.underlying22 hi0 hz0 hz1 hz2 rfl (.slice D ds.length d) ds rfl HO1.out A1 _ c1 ms1 rfl rfl HA1.out (by have := HML.out; unfold maxLen; omega) (by have := HML.out; omega) HB1.out.size ?_; intro v2 w2 hown hg hat; have HB2 := Lib.hid (HB1.out.grown hg HB1.out.size (fun k hk => (HO1.out.lt k hk).1)); obtain ⟨D2, d2, rfl, _⟩ := SlAt.of_own encD_len hown; have HO2 := Lib.hid hown; clear hown hg hat))
      go_roundw
      case rel => exact ⟨k + 1, D2, d2, ds ++ ms1, by omega, by rw [List.length_append], by go_num, HE, (show (ds ++ ms1).length ≤ 100 * (k + 1) from by have := HML.out; rw [List.length_append]; omega), HO2, HB2⟩
      case measure => simp [intOf]; omega
    · obtain rfl : k = xs.length := by omega
      have i0 : ¬ (xs.length : Int) < (xs.length : Int) := by omega
      obtain ⟨A1, c1, e1, _, _, ha1⟩ := SlAt.of_own encD_len HO.out
      injection e1 with e2 e3 e4
      subst e2 e4
      have hdl2 := hdl.out
      have HS := Lib.hid (dotSet D ds d wr ha1 (by omega))
      have HE := Lib.hid (show ordL ds = dotsI (its xs) from by rw [ordL_eq, dotsI_all, ← hds.out, ← its_len xs, List.take_length])
      clear ha1 hlt hk
      go_wp2_with fail
      refine HS.out.mono ?_
      rintro e w1 ⟨v1, rfl, hm1⟩
      have HM := Lib.hid hm1
      clear hm1
      go_wp2_with fail
      go_ret
      exact ⟨⟨_, rfl, by rw [← HE.out]; exact HM.out.holds⟩, below_trans HB.out HM.out.2⟩

end

end Go.Proofs.YtfmhhmceoikgpaaGreat
