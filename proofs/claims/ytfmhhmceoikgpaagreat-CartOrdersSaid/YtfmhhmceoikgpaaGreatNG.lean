/- Several texts in one: CarS, CarT, CarU. -/
import Derived.Test.YtfmhhmceoikgpaaGreatNB
import Derived.Test.YtfmhhmceoikgpaaGreatMY
import Derived.Test.YtfmhhmceoikgpaaGreatML
import Derived.Test.YtfmhhmceoikgpaaGreatND
import Derived.Test.YtfmhhmceoikgpaaGreatNF
import Derived.Test.YtfmhhmceoikgpaaGreatNE
namespace Go.Proofs.YtfmhhmceoikgpaaGreat

section
open Go.RowKit Go.Sort

instance : Inhabited Mk := ⟨Mk.zero⟩
instance : Inhabited ItV := ⟨ItV.zero⟩
theorem drewN_grow (w : World) (os : Array Obj) (n : Nat) : (grow w os).drewN n = grow (w.drewN n) os := rfl

set_option maxHeartbeats 1000000 in
theorem markLess (a b : Mk) (w : World) :
    Calls Tryz.prog 59 #[mkV a, mkV b] w fun e w' => e = .returned (.int .i64 (cmpD a.r a.c b.r b.c)) ∧ ∃ q os', w' = Sort.grow (w.drewN q) os' := by
  go_enter Tryz.func59, Tryz.ntmps59
  go_wp2_with (go_at_call 60; refine (dotCompareG _ _ _ _ _).mono ?_; rintro e w1 ⟨rfl, q, os, rfl⟩)
  go_ret
  exact ⟨rfl, q, _, by rw [Sort.alloc_eq_grow, Sort.alloc_eq_grow, Sort.grow_grow, drewN_grow, Sort.grow_grow]⟩
theorem ltOf_mark : (ltOf fun a b : Mk => cmpD a.r a.c b.r b.c) = fun a b => ltD (dotM a) (dotM b) := by
  funext a b
  have h := congrFun (congrFun ltOf_cmpD (dotM a)) (dotM b)
  exact h
theorem swoM : SWO (fun a b : Mk => ltD (dotM a) (dotM b)) where
  irrefl _ := swoD.irrefl _
  trans _ _ _ := swoD.trans _ _ _
  ntrans _ _ _ := swoD.ntrans _ _ _
theorem markLays (blk off size : Nat) (w : World) : CmpLays Tryz.prog 59 #[] encM 4 (fun a b : Mk => cmpD a.r a.c b.r b.c) blk off size w :=
  fun _ _ _ _ x y => markLess x y _

/-- From the library's words to lists. -/
theorem perm_sorted {α : Type} [Inhabited α] {lt : α → α → Bool} {xs : List α} {d : Array α} (hp : PermIn 0 xs.toArray.size xs.toArray d) (hs : SortedIn lt 0 xs.toArray.size d) : d.size = xs.length ∧ d.toList.Perm xs ∧ d.toList.Pairwise fun a b => lt b a = false := by
  obtain ⟨hsz, _, hperm⟩ := hp
  have e1 : d.extract 0 xs.toArray.size = d := by rw [← hsz]; exact Array.extract_size
  rw [e1, Array.extract_size] at hperm
  refine ⟨by simpa using hsz, by simpa using hperm, ?_⟩
  rw [List.pairwise_iff_getElem]
  intro i j hi hj hij
  have := hs i j (Nat.zero_le _) hij (by rw [← hsz]; simpa using hj)
  simp only [Array.length_toList] at hi hj
  rw [getElem!_pos d i hi, getElem!_pos d j hj] at this
  simpa using this

theorem sortMarksF (v : Value) (base : Nat) (xs : List Mk) (w : World) (h : w.ownsRow base 65 4 v xs.length (cellsOf encM xs)) (hm : xs.length ≤ 1000000) :
    Calls Tryz.prog 58 #[v, .func (.func 59) #[] #[]] w fun e w' => e = .returned (.tuple #[]) ∧ ∃ ys : List Mk, ys.Perm xs ∧ SortW ys ∧ w'.ownsRow base 65 4 v ys.length (cellsOf encM ys) ∧ w.grownBy w' v.ownBlock := by
  rcases Nat.eq_zero_or_pos xs.length with h0 | h0
  · have hn : xs = [] := List.eq_nil_of_length_eq_zero h0
    subst hn
    obtain ⟨A, c, rfl, _⟩ := SlAt.of_own encM_len h
    have hc := AnyF.slices_SortFunc_none (P := Tryz.prog) (ρ := Tryz.sortMarks_ren) { Tryz.sortMarks with } A c (.func (.func 59) #[] #[]) w
    refine Calls.mono (show Calls Tryz.prog 58 _ _ _ from hc) ?_
    rintro e w' ⟨he, rfl⟩
    exact ⟨he, [], List.Perm.refl _, List.Pairwise.nil, h, World.grownBy.refl _ _⟩
  · obtain ⟨g, cap, rfl, hb, hg⟩ := h.form h0
    have eg : ∀ args w, (callFunc 59 args).run Tryz.prog w = .ok (.enter 59 args) w := enters_of Tryz.func59 (by kernel_rfl) rfl
    have hc := AnyQ.slices_SortFunc Tryz.sortMarks 4 Tryz.isAgg65 Tryz.sizeOf65 encM encM_len encM_one (fun a b : Mk => cmpD a.r a.c b.r b.c) (by rw [ltOf_mark]; exact swoM) 59 #[] g 0 cap xs.toArray w eg (markLays g 0 _ w) (holdsK_of_own encM_len (by omega) h) hg (by simp; omega)
    have hc' : Calls Tryz.prog 58 #[.slice (some ⟨g, 0, none⟩) xs.length cap, .func (.func 59) #[] #[]] w _ := hc
    refine hc'.mono ?_
    rintro e w' ⟨he, d, n, os, hp, hs, rfl⟩
    obtain ⟨k1, k2, k3⟩ := perm_sorted hp hs
    obtain ⟨h1, h2⟩ := own_of_sort (m := n) (os := os) (d := d) encM_len (by omega) h k1
    refine ⟨he, d.toList, k2, ?_, h1, h2⟩
    rw [ltOf_mark] at k3
    exact k3

set_option maxHeartbeats 1000000 in
theorem itemLess (a b : ItV) (w : World) :
    Calls Tryz.prog 66 #[mkIt a, mkIt b] w fun e w' => e = .returned (.int .i64 (Lib.compareBytes a.nm b.nm)) ∧ ∃ q os', w' = Sort.grow (w.drewN q) os' := by
  have H := Lib.hid fun W => strCompare a.nm b.nm W
  generalize Lib.compareBytes a.nm b.nm = z at *
  go_enter Tryz.func66, Tryz.ntmps66
  go_wp2_with (go_at_call 67; refine (H.out _).mono ?_; rintro e w1 ⟨rfl, rfl⟩)
  go_ret
  exact ⟨rfl, 0, _, by rw [Sort.alloc_eq_grow, Sort.alloc_eq_grow, Sort.grow_grow]; rfl⟩
theorem ltOf_item : (ltOf fun a b : ItV => Lib.compareBytes a.nm b.nm) = fun a b => beforeN a.nm b.nm := by
  funext a b
  simp only [ltOf]
  rw [Bool.eq_iff_iff, decide_eq_true_eq, cmpBytes_neg]
theorem beforeN_ntrans {x y z : List UInt8} (h1 : beforeN x y = false) (h2 : beforeN y z = false) : beforeN x z = false := by
  cases k : beforeN x z with
  | false => rfl
  | true =>
    cases e : beforeN y x with
    | true => have := beforeN_trans e k; rw [this] at h2; cases h2
    | false =>
      have e2 := beforeN_total h1 e
      subst e2
      rw [k] at h2; cases h2
theorem swoI : SWO (fun a b : ItV => beforeN a.nm b.nm) where
  irrefl _ := beforeN_irrefl _
  trans _ _ _ := beforeN_trans
  ntrans _ _ _ := beforeN_ntrans
theorem itemLays (blk off size : Nat) (w : World) : CmpLays Tryz.prog 66 #[] encIt 2 (fun a b : ItV => Lib.compareBytes a.nm b.nm) blk off size w :=
  fun _ _ _ _ x y => itemLess x y _

theorem sortItemsF (v : Value) (base : Nat) (xs : List ItV) (w : World) (h : RowT w base v xs) (hm : xs.length ≤ 1000000) :
    Calls Tryz.prog 65 #[v, .func (.func 66) #[] #[]] w fun e w' => e = .returned (.tuple #[]) ∧ ∃ ys : List ItV, ys.Perm xs ∧ (ys.Pairwise fun a b => beforeN b.nm a.nm = false) ∧ RowT w' base v ys ∧ w.grownBy w' v.ownBlock := by
  rcases Nat.eq_zero_or_pos xs.length with h0 | h0
  · have hn : xs = [] := List.eq_nil_of_length_eq_zero h0
    subst hn
    obtain ⟨A, c, rfl, _⟩ := SlAt.of_own encIt_len h
    have hc := AnyF.slices_SortFunc_none (P := Tryz.prog) (ρ := Tryz.sortItems_ren) { Tryz.sortItems with } A c (.func (.func 66) #[] #[]) w
    refine Calls.mono (show Calls Tryz.prog 65 _ _ _ from hc) ?_
    rintro e w' ⟨he, rfl⟩
    exact ⟨he, [], List.Perm.refl _, List.Pairwise.nil, h, World.grownBy.refl _ _⟩
  · obtain ⟨g, cap, rfl, hb, hg⟩ := World.ownsRow.form h h0
    have eg : ∀ args w, (callFunc 66 args).run Tryz.prog w = .ok (.enter 66 args) w := enters_of Tryz.func66 (by kernel_rfl) rfl
    have hc := AnyQ.slices_SortFunc Tryz.sortItems 2 Tryz.isAgg56 Tryz.sizeOf56 encIt encIt_len encIt_one (fun a b : ItV => Lib.compareBytes a.nm b.nm) (by rw [ltOf_item]; exact swoI) 66 #[] g 0 cap xs.toArray w eg (itemLays g 0 _ w) (holdsK_of_own encIt_len (by omega) h) hg (by simp; omega)
    have hc' : Calls Tryz.prog 65 #[.slice (some ⟨g, 0, none⟩) xs.length cap, .func (.func 66) #[] #[]] w _ := hc
    refine hc'.mono ?_
    rintro e w' ⟨he, d, n, os, hp, hs, rfl⟩
    obtain ⟨k1, k2, k3⟩ := perm_sorted hp hs
    obtain ⟨h1, h2⟩ := own_of_sort (m := n) (os := os) (d := d) encIt_len (by omega) h k1
    refine ⟨he, d.toList, k2, ?_, h1, h2⟩
    rw [ltOf_item] at k3
    exact k3

end

section
open Go.RowKit

/-- No two items share a row of marks. -/
def ApartI (ys : List ItV) : Prop := ys.Pairwise fun a b => ∀ g, (slV a).ownBlock = some g → (slV b).ownBlock ≠ some g
theorem ApartI.snoc {ys : List ItV} {y : ItV} {W W' : World} {B B' : Nat} (h : ApartI ys) (hr : ∀ z ∈ ys, RowM W B (slV z) z.ms ∧ (slV z).ownBlock ≠ some B) (hy : RowM W' B' (slV y) y.ms) (hs : W.heap.size ≤ B') : ApartI (ys ++ [y]) := by
  unfold ApartI
  rw [List.pairwise_append]
  refine ⟨h, List.pairwise_singleton _ _, fun a ha b hb g e1 e2 => ?_⟩
  obtain rfl : b = y := by simpa using hb
  have h1 := ((hr a ha).1.lt g e1).2
  have h2 := (hy.lt g e2).1
  omega

set_option maxHeartbeats 4000000 in
theorem itCopyD (A : Option Addr) (xs : List ItV) (cap : Nat) (w : World) (hx : ItemsAt w A xs) (hm : xs.length ≤ 1000000) (hl : ∀ x ∈ xs, x.nm.length ≤ 1000000 ∧ x.ms.length ≤ 1000000) :
    Calls Tryz.prog 50 #[.slice A xs.length cap] w fun e w' => ∃ v ys, e = .returned v ∧ its ys = its xs ∧ OwnI w' w.heap.size v ys ∧ ApartI ys ∧ Below w.heap.size w w' := by
  obtain ⟨ti0, hi0, hz0, hz1, hz2⟩ := info_parts infoIt
  have HX := Lib.hid hx
  have HL := Lib.hid hl
  clear hx hl
  go_enter Tryz.func50, Tryz.ntmps50
  go_wp2_with (refine wpList_make_full _ rfl (.tmp 7) (.tmp 7) 26 rfl w.heap.size 56 ti0 _ 2 Tryz.underlying26 hi0 hz0 hz1 .i64 .i64 _ _ xs.length rfl rfl rfl rfl (by rw [hz2]; omega) (by simp [maxLen]; omega) (Nat.le_refl _) ?_; intro w1 hown hg)
  rw [cellsI_made] at hown
  have HO := Lib.hid hown
  have HB := Lib.hid ((Below.refl w.heap.size w).grown hg (Nat.le_refl _) (fun _ h => by cases h))
  clear hown hg hi0 hz0 hz1 hz2
  go_loopw [4, 5, 11] (fun _ _ i wr => ∃ (ys : List ItV), ys.length ≤ xs.length ∧ i = .int .i64 (ys.length : Int) ∧ Hid (its ys = (its xs).take ys.length) ∧ Hid (wr.ownsRow w.heap.size 56 2 (.slice (some ⟨w.heap.size, 0, none⟩) xs.length xs.length) xs.length (cellsOf encIt (ys ++ List.replicate (xs.length - ys.length) ItV.zero))) ∧ Hid (∀ y ∈ ys, RowM wr w.heap.size (slV y) y.ms ∧ (slV y).ownBlock ≠ some w.heap.size) ∧ Hid (ApartI ys) ∧ Hid (Below w.heap.size w wr)) (fun _ _ i _ => xs.length - (intOf i).toNat)
  case atStart => exact ⟨[], by simp, rfl, rfl, HO, Lib.hid (fun y (h : y ∈ ([] : List ItV)) => by cases h), Lib.hid List.Pairwise.nil, HB⟩
  case round =>
    clear HO HB
    obtain ⟨ys, hk, rfl, hys, HO, HR, HP, HB⟩ := hrel
    by_cases hlt : ys.length < xs.length
    · have i0 : (ys.length : Int) < (xs.length : Int) := by omega
      obtain ⟨g, off, x, rfl, hbl, hx1, _, hc0, hc1, hok⟩ := (HX.out.below HB.out).cells (j := ys.length) hlt
      have hlx := HL.out x (List.mem_of_getElem? hx1)
      have hba : Below wr.heap.size wr (wr.alloc (.cells #[.string ⟨x.nm.toArray⟩, .slice x.A x.ms.length x.c] 56)) := (Below.refl _ wr).alloc (Nat.le_refl _) _
      have HBA := Lib.hid hba
      have HC := Lib.hid (itClone x _ (hok.below hba) hlx.1 hlx.2)
      have hgw : w.heap.size < wr.heap.size := (HO.out.lt _ rfl).2
      have HX1 := Lib.hid hx1
      clear hx1 hlx hba hok
      go_wp2_with fail
      refine HC.out.mono ?_
      rintro e w2 ⟨y, rfl, hyx, hry, hb2⟩
      have hb3 := below_trans HBA.out hb2
      have hz2 := hb2.size
      have HPS := Lib.hid (HP.out.snoc HR.out hry (by simp))
      have ho2 : w2.ownsRow w.heap.size 56 2 (.slice (some ⟨w.heap.size, 0, none⟩) xs.length xs.length) xs.length (cellsOf encIt (ys ++ List.replicate (xs.length - ys.length) ItV.zero)) := HO.out.kept (grown_of_below hb3 none) (by simp [Value.ownBlock])
      have hzl : (ys ++ List.replicate (xs.length - ys.length) ItV.zero).length = xs.length := by simp; omega
      have d0 : ∃ u, w2.cell? ⟨w.heap.size, ys.length * 2, none⟩ = some u := by
        rw [ho2.cellAt (ys.length * 2) (by omega)]
        exact ⟨_, List.getElem?_eq_getElem (by rw [cellsOf_length encIt_len, hzl]; omega)⟩
      have d1 : ∃ u, w2.cell? ⟨w.heap.size, ys.length * 2 + 1, none⟩ = some u := by
        rw [ho2.cellAt (ys.length * 2 + 1) (by omega)]
        exact ⟨_, List.getElem?_eq_getElem (by rw [cellsOf_length encIt_len, hzl]; omega)⟩
      obtain ⟨u0, d0⟩ := d0
      obtain ⟨u1, d1⟩ := d1
      have f0 := ho2.frozenAt (ys.length * 2)
      have f1 := ho2.frozenAt (ys.length * 2 + 1)
      have hlw : w.heap.size < w2.heap.size := World.block_lt_of_cell? w2 _ d0
      have hos := own_storeI (x := y) ho2 (j := ys.length) (by rw [hzl]; exact hlt)
      rw [set_rep hlt] at hos
      have HOS := Lib.hid hos.1
      have hyb : (slV y).ownBlock ≠ some w.heap.size := fun e => by have := (hry.lt _ e).1; simp at this; omega
      have HRS := Lib.hid (show ∀ z ∈ ys ++ [y], RowM ((w2.setCell ⟨w.heap.size, ys.length * 2, none⟩ (.string ⟨y.nm.toArray⟩)).setCell ⟨w.heap.size, ys.length * 2 + 1, none⟩ (slV y)) w.heap.size (slV z) z.ms ∧ (slV z).ownBlock ≠ some w.heap.size from fun z hz => by
        have hzr : RowM w2 w.heap.size (slV z) z.ms ∧ (slV z).ownBlock ≠ some w.heap.size := by
          rcases List.mem_append.1 hz with h | h
          · exact ⟨RowM.below (HR.out z h).1 hb3, (HR.out z h).2⟩
          · obtain rfl : z = y := by simpa using h
            exact ⟨Joins.ownsRow_le hry (by simp; omega), hyb⟩
        exact ⟨ownsRow_setCell_other (ownsRow_setCell_other hzr.1 (a := ⟨w.heap.size, ys.length * 2, none⟩) hzr.2 _) (a := ⟨w.heap.size, ys.length * 2 + 1, none⟩) hzr.2 _, hzr.2⟩)
      have HBS := Lib.hid ((below_trans HB.out hb3).grown hos.2 (by omega) (fun _ h => by cases h; exact Nat.le_refl _))
      have HYS := Lib.hid (its_snoc hys.out HX1.out hyx)
      clear ho2 hos hry hb2 hb3 hz2 hzl hyb hc0 hc1 hyx
      go_wp2_with fail
      go_roundw
      case rel => exact ⟨ys ++ [y], by simp; omega, by rw [List.length_append, List.length_singleton]; go_num, (by rw [List.length_append, List.length_singleton]; exact HYS), HOS, HRS, HPS, HBS⟩
      case measure => simp [intOf]; omega
    · have hyl : ys.length = xs.length := by omega
      have i0 : ¬ (ys.length : Int) < (xs.length : Int) := by omega
      have HE := Lib.hid (show its ys = its xs ∧ OwnI wr w.heap.size (.slice (some ⟨w.heap.size, 0, none⟩) xs.length xs.length) ys from by
        refine ⟨by rw [hys.out, hyl, ← its_len xs, List.take_length], ?_, fun y hy => (HR.out y hy).1⟩
        have h := HO.out
        rw [hyl, Nat.sub_self, List.replicate_zero, List.append_nil] at h
        show wr.ownsRow _ _ _ _ ys.length _
        rw [hyl]; exact h)
      clear hlt hk
      go_wp2_with fail
      go_ret
      exact ⟨_, rfl, ys, HE.out.1, HE.out.2, HP.out, HB.out⟩


theorem itCopyD_h (v : Value) (xs : List ItV) (w : World) (h : HoldsX w v xs) (hf : Fits xs) : Calls Tryz.prog 50 #[v] w fun e w' => ∃ v ys, e = .returned v ∧ its ys = its xs ∧ OwnI w' w.heap.size v ys ∧ ApartI ys ∧ Below w.heap.size w w' := by
  obtain ⟨A, c, rfl, h1, _⟩ := h
  exact itCopyD A xs c w h1 (by have := hf.1; omega) (fits_wide hf)

/-- A box of two cells that was there ahead of a step; written. -/
theorem box2_kept {W Wb : World} {n : Nat} {a b : Value} {t : TypeId} (hb : Below W.heap.size W Wb) (hn : W.heap[n]? = some (.cells #[a, b] t (0, 0))) :
    Wb.heap[n]? = some (.cells #[a, b] t (0, 0)) ∧ Wb.cell? ⟨n, 0, none⟩ = some a ∧ Wb.cell? ⟨n, 1, none⟩ = some b ∧ Wb.frozen? ⟨n, 0, none⟩ = false ∧ Wb.frozen? ⟨n, 1, none⟩ = false ∧ n < Wb.heap.size := by
  have h := (hb.block n (Array.getElem?_eq_some_iff.1 hn).1).trans hn
  exact ⟨h, by simp [World.cell?, h], by simp [World.cell?, h], by simp [World.frozen?, h], by simp [World.frozen?, h], (Array.getElem?_eq_some_iff.1 h).1⟩
theorem box2_filled {W : World} {n : Nat} {a b : Value} {t : TypeId} (h : W.heap[n]? = some (.cells #[a, b] t (0, 0))) (u v : Value) : ((W.setCell ⟨n, 0, none⟩ u).setCell ⟨n, 1, none⟩ v).heap[n]? = some (.cells #[u, v] t (0, 0)) := by
  have e1 : (W.setCell ⟨n, 0, none⟩ u).heap[n]? = some (.cells #[u, b] t (0, 0)) := by
    show (W.heap.modify n _)[n]? = _
    rw [Array.getElem?_modify, if_pos rfl, h]
    rfl
  show ((W.setCell ⟨n, 0, none⟩ u).heap.modify n _)[n]? = _
  rw [Array.getElem?_modify, if_pos rfl, e1]
  rfl
theorem row_set2c {W : World} {B k m n : Nat} {e t : TypeId} {x u v : Value} {xs : List Value} {cur : Array Value} {z : Nat × Nat} (h : W.ownsRow B e k x m xs) (hg : W.heap[n]? = some (.cells cur t z)) (ht : t ≠ e) : ((W.setCell ⟨n, 0, none⟩ u).setCell ⟨n, 1, none⟩ v).ownsRow B e k x m xs :=
  have hn := row_ne h hg ht
  ownsRow_setCell_other (a := ⟨n, 1, none⟩) (ownsRow_setCell_other (a := ⟨n, 0, none⟩) h hn u) hn v
/-- The context that is being made: its box, its rows. -/
structure KSc (w : World) (c : CaV) (g : Nat) (v l : Value) (W : World) : Prop where
  kr : KR w c W
  out : W.heap[g]? = some (.cells #[v, l] 25 (0, 0))
  gb : w.heap.size + 1 < g
  rv : RowC W w.heap.size v c.vs
  rl : RowC W w.heap.size l c.ls
theorem KSc.new {w W : World} {c : CaV} {v l : Value} (h : KR w c W) (hv : RowC W w.heap.size v c.vs) (hl : RowC W w.heap.size l c.ls) : KSc w c W.heap.size v l (W.alloc (.cells #[v, l] 25)) :=
  have hb := (Below.refl W.heap.size W).alloc (Nat.le_refl _) (.cells #[v, l] 25)
  ⟨h.alloc _, heap_alloc_new W _, h.lt, hv.below hb, hl.below hb⟩
theorem KSc.set {w W : World} {c : CaV} {v l a b : Value} {g : Nat} (h : KR w c W) (hg : W.heap[g]? = some (.cells #[a, b] 25 (0, 0))) (hgg : w.heap.size + 1 < g) (hv : RowC W w.heap.size v c.vs) (hl : RowC W w.heap.size l c.ls) : KSc w c g v l ((W.setCell ⟨g, 0, none⟩ v).setCell ⟨g, 1, none⟩ l) :=
  ⟨h.set2 hgg _ _, box2_filled hg _ _, hgg, row_set2c hv hg (by decide), row_set2c hl hg (by decide)⟩
theorem KSc.next {w W W' : World} {c : CaV} {g : Nat} {v l : Value} (h : KSc w c g v l W) (hb : Below W.heap.size W W') : KSc w c g v l W' := ⟨h.kr.next hb, (hb.block g (Array.getElem?_eq_some_iff.1 h.out).1).trans h.out, h.gb, h.rv.below hb, h.rl.below hb⟩
theorem KSc.sp {w W : World} {c : CaV} {g : Nat} {v l : Value} (h : KSc w c g v l W) : W.cell? ⟨w.heap.size, 2, none⟩ = some c.i ∧ W.cell? ⟨g, 0, none⟩ = some v ∧ W.cell? ⟨g, 1, none⟩ = some l ∧ w.heap.size < W.heap.size ∧ g < W.heap.size := by
  obtain ⟨_, s0, s1, f0, f1, hgl⟩ := box2_kept (Below.refl _ W) h.out
  exact ⟨h.kr.sp.2.2.1, s0, s1, h.kr.sp.2.2.2.1, hgl⟩
theorem cell_off3 {W : World} {b o n : Nat} {u v z x : Value} (h : W.cell? ⟨b, o, none⟩ = some x) (hb : b ≠ n) : (((W.setCell ⟨n, 0, none⟩ u).setCell ⟨n, 1, none⟩ v).setCell ⟨n, 2, none⟩ z).cell? ⟨b, o, none⟩ = some x := by
  unfold World.cell? at h ⊢
  rw [set3_other W n b u v z hb]; exact h
theorem KSc.sp3 {w W : World} {c : CaV} {g : Nat} {v l : Value} (h : KSc w c g v l W) (x y z : Value) : (((W.setCell ⟨w.heap.size + 1, 0, none⟩ x).setCell ⟨w.heap.size + 1, 1, none⟩ y).setCell ⟨w.heap.size + 1, 2, none⟩ z).cell? ⟨w.heap.size, 2, none⟩ = some c.i ∧ (((W.setCell ⟨w.heap.size + 1, 0, none⟩ x).setCell ⟨w.heap.size + 1, 1, none⟩ y).setCell ⟨w.heap.size + 1, 2, none⟩ z).cell? ⟨g, 0, none⟩ = some v ∧ (((W.setCell ⟨w.heap.size + 1, 0, none⟩ x).setCell ⟨w.heap.size + 1, 1, none⟩ y).setCell ⟨w.heap.size + 1, 2, none⟩ z).cell? ⟨g, 1, none⟩ = some l ∧ w.heap.size < (((W.setCell ⟨w.heap.size + 1, 0, none⟩ x).setCell ⟨w.heap.size + 1, 1, none⟩ y).setCell ⟨w.heap.size + 1, 2, none⟩ z).heap.size ∧ g < (((W.setCell ⟨w.heap.size + 1, 0, none⟩ x).setCell ⟨w.heap.size + 1, 1, none⟩ y).setCell ⟨w.heap.size + 1, 2, none⟩ z).heap.size := by
  have hg := h.gb
  obtain ⟨h1, h2, h3, h4, h5⟩ := h.sp
  exact ⟨cell_off3 h1 (by omega), cell_off3 h2 (by omega), cell_off3 h3 (by omega), by simpa using h4, by simpa using h5⟩
theorem KR.items {w W : World} {c : CaV} (h : KR w c W) : HoldsX W c.i c.xs := h.kb.ok.2.2
theorem MineV.rowC {w0 w w' : World} {v : Value} {ds : List (Int × Int)} (h : MineV w w' v ds) (hs : w0.heap.size ≤ w.heap.size) : RowC w' w0.heap.size v ds := Joins.ownsRow_le h.1 hs

set_option maxRecDepth 100000 in
set_option maxHeartbeats 8000000 in
theorem caCopy (c : CaV) (w : World) (hc : CaOK w c) (hf : FitsC c) :
    Calls Tryz.prog 14 #[mkC c] w fun e w' => ∃ k : CaV, e = .returned (mkC k) ∧ k.ca = c.ca ∧ RowC w' w.heap.size k.v c.vs ∧ RowC w' w.heap.size k.l c.ls ∧ OwnI w' w.heap.size k.i k.xs ∧ Below w.heap.size w w' := by
  have K0 := Lib.hid (KR.new w c hc)
  have HF := Lib.hid hf
  have HV := Lib.hid fun W (h : KR w c W) => cloneVec c.V c.vs c.nv W h.holdsV (by have := hf.1; omega)
  have HL := Lib.hid fun W (h : KR w c W) => slicesClone c.L c.ls c.nl W h.holdsL (by have := hf.2.1; omega)
  clear hc hf
  go_enter Tryz.func14, Tryz.ntmps14
  go_upto_region 1 with fail
  generalize World.alloc (World.alloc w _) _ = w2 at K0 ⊢
  go_cut [3] (fun v3 wx => ∃ (g : Nat) (v l : Value), v3 = .pointer (some ⟨g, 0, none⟩) ∧ Hid (KSc w c g v l wx))
  case first =>
    have hS := K0.out
    have hS' := KR.sp hS
    clear K0
    go_wp2_with fail
    go_region_held3 (fun W => W.cell? ⟨w.heap.size, 0, none⟩ = some c.v ∧ W.cell? ⟨w.heap.size, 1, none⟩ = some c.l ∧ W.cell? ⟨w.heap.size, 2, none⟩ = some c.i ∧ w.heap.size < W.heap.size ∧ KR w c W)
      (first
        | assumption
        | (exact KR.sp (by assumption))
        | (exact KR.sp (KR.drew (by assumption)))
        | (exact KR.sp (KR.alloc (by assumption) _))
        | (exact KR.sp (KR.drew (KR.alloc (by assumption) _)))
        | (exact KR.sp (KR.set2 (by assumption) (by first | exact KR.lt hS | exact KR.lt hS7 | exact KR.lt hS11) _ _)))
      (first
        | (go_at_call 48; refine (HV.out _ (by first | assumption | exact KR.drew (by assumption) | exact KR.alloc (by assumption) _ | exact KR.alloc (KR.drew (by assumption)) _ | exact KR.drew (KR.alloc (by assumption) _))).mono ?_
           rintro e w7 ⟨v7, rfl, hm7⟩
           have hb7 := hm7.2
           have hS7 := KR.next (by first | assumption | exact KR.drew (by assumption) | exact KR.alloc (by assumption) _ | exact KR.alloc (KR.drew (by assumption)) _ | exact KR.drew (KR.alloc (by assumption) _)) hb7
           have hr7 := MineV.rowC hm7 (by first | exact KR.size hS | exact KR.size hS.drew | exact KR.size (KR.alloc hS _) | exact KR.size (KR.alloc hS.drew _))
           obtain ⟨A7, d7, rfl, _, _, _⟩ := SlAt.of_own encD_len hr7
           first
             | (have hbx := box2_kept (n := w2.heap.size) hb7 (heap_alloc_new w2 (.cells #[.slice none 0 0, .slice none 0 0] 25)); obtain ⟨gb, g0, g1, g2, g3, g4⟩ := id hbx)
             | skip)
        | (go_at_call 49; refine (HL.out _ (by first | assumption | exact KR.drew (by assumption) | exact KR.alloc (by assumption) _ | exact KR.alloc (KR.drew (by assumption)) _ | exact KR.drew (KR.alloc (by assumption) _))).mono ?_
           rintro e w11 ⟨v11, rfl, hm11⟩
           have hb11 := hm11.2
           have hS11 := KR.next (by first | assumption | exact KR.drew (by assumption) | exact KR.alloc (by assumption) _ | exact KR.alloc (KR.drew (by assumption)) _ | exact KR.drew (KR.alloc (by assumption) _)) hb11
           have hr11 := MineV.rowC hm11 (by first | exact KR.size hS7 | exact KR.size hS7.drew | exact KR.size (KR.alloc hS7 _) | exact KR.size (KR.alloc hS7.drew _))
           obtain ⟨A11, d11, rfl, _, _, _⟩ := SlAt.of_own encD_len hr11
           first
             | (have hrow := RowC.below hr7 hb11)
             | (have hrow := RowC.below (RowC.below hr7 (Below.refl _ _).drew) hb11)
             | (have hrow := RowC.below (RowC.below hr7 ((Below.refl _ _).alloc (Nat.le_refl _) _)) hb11)
             | skip
           first
             | (have hbx := box2_kept (n := w2.heap.size) hb11 gb; obtain ⟨gb, g0, g1, g2, g3, g4⟩ := id hbx)
             | (have hbx := box2_kept (n := w7.heap.size) hb11 (heap_alloc_new w7 (.cells #[.slice none 0 0, .slice none 0 0] 25)); obtain ⟨gb, g0, g1, g2, g3, g4⟩ := id hbx)
             | skip))
    · have HK := Lib.hid (KSc.new hS11 hrow hr11)
      clear hS hS' hS7 hS11 hrow hr7 hr11 hm7 hm11 hb7 hb11
      go_wp2_with fail
      go_meet
      exact ⟨_, _, _, rfl, HK⟩
    · have HK := Lib.hid (KSc.set hS11 gb hS7.lt hrow hr11)
      clear hS hS' hS7 hS11 hrow hr7 hr11 hm7 hm11 hb7 hb11
      go_wp2_with fail
      go_meet
      exact ⟨_, _, _, rfl, HK⟩
    · have HK := Lib.hid (KSc.set hS11 gb hS.lt hrow hr11)
      clear hS hS' hS7 hS11 hrow hr7 hr11 hm7 hm11 hb7 hb11
      go_wp2_with fail
      go_meet
      exact ⟨_, _, _, rfl, HK⟩
  case rest =>
    clear K0
    obtain ⟨g, v, l, rfl, KY0⟩ := hcut
    obtain ⟨A1, d1, rfl, _, _, _⟩ := SlAt.of_own encD_len KY0.out.rv
    obtain ⟨A2, d2, rfl, _, _, _⟩ := SlAt.of_own encD_len KY0.out.rl
    obtain ⟨_, s0, s1, f0, f1, hgl⟩ := box2_kept (Below.refl _ wc) KY0.out.out
    have hS := KY0.out
    have hS' := hS.sp
    clear KY0
    go_wp2_with fail
    go_region_held3 (fun W => W.cell? ⟨w.heap.size, 2, none⟩ = some c.i ∧ W.cell? ⟨g, 0, none⟩ = some (.slice A1 c.vs.length d1) ∧ W.cell? ⟨g, 1, none⟩ = some (.slice A2 c.ls.length d2) ∧ w.heap.size < W.heap.size ∧ g < W.heap.size)
      (first
        | assumption
        | (exact KSc.sp (by assumption))
        | (exact KSc.sp (KSc.next (by assumption) (Below.refl _ _).drew))
        | (exact KSc.sp3 (by assumption) _ _ _)
        | (exact KSc.sp3 (KSc.next (by assumption) (Below.refl _ _).drew) _ _ _))
      (first
        | (go_at_call 50; refine (itCopy_h _ c.xs _ (by first | exact KR.items hS.kr | exact KR.items hS.kr.drew) HF.out.2.2).mono ?_
           rintro e w16 ⟨v16, ys, rfl, hys, ho, hb16⟩
           have hS16 := KSc.next (by first | exact hS | exact hS.next (Below.refl _ _).drew) hb16
           have hS16' := hS16.sp
           have ho' := OwnI.le ho (by first | exact KR.size hS.kr | exact KR.size hS.kr.drew)
           obtain ⟨A16, d16, rfl, _⟩ := SlAt.of_own encIt_len ho'.1
           obtain ⟨r0, r1, r2, t0, t1, t2, hrl⟩ := KR.cells hS16.kr))
    all_goals
      have hres := hS16.kr.res
      have HD := Lib.hid (show RowC (((w16.setCell ⟨w.heap.size + 1, 0, none⟩ (.slice A1 c.vs.length d1)).setCell ⟨w.heap.size + 1, 1, none⟩ (.slice A2 c.ls.length d2)).setCell ⟨w.heap.size + 1, 2, none⟩ (.slice A16 ys.length d16)) w.heap.size (.slice A1 c.vs.length d1) c.vs from row_set3 hS16.rv hres (by decide))
      have HE := Lib.hid (show RowC (((w16.setCell ⟨w.heap.size + 1, 0, none⟩ (.slice A1 c.vs.length d1)).setCell ⟨w.heap.size + 1, 1, none⟩ (.slice A2 c.ls.length d2)).setCell ⟨w.heap.size + 1, 2, none⟩ (.slice A16 ys.length d16)) w.heap.size (.slice A2 c.ls.length d2) c.ls from row_set3 hS16.rl hres (by decide))
      have HI := Lib.hid (show OwnI (((w16.setCell ⟨w.heap.size + 1, 0, none⟩ (.slice A1 c.vs.length d1)).setCell ⟨w.heap.size + 1, 1, none⟩ (.slice A2 c.ls.length d2)).setCell ⟨w.heap.size + 1, 2, none⟩ (.slice A16 ys.length d16)) w.heap.size (.slice A16 ys.length d16) ys from ⟨row_set3 ho'.1 hres (by decide), fun y hy => row_set3 (ho'.2 y hy) hres (by decide)⟩)
      have HB := Lib.hid (hS16.kr.stored (.slice A1 c.vs.length d1) (.slice A2 c.ls.length d2) (.slice A16 ys.length d16))
      have HY := Lib.hid hys
      clear hres hS hS' hS16 hS16' ho ho' hb16 hys
      go_wp2_with fail
      refine bodyPost_ret (v := mkC ⟨A1, d1, c.vs, A2, d2, c.ls, A16, d16, ys⟩) (by simp [results, Tryz.results14, go_sem, r0, r1, r2]) rfl ⟨⟨A1, d1, c.vs, A2, d2, c.ls, A16, d16, ys⟩, rfl, ?_, HD.out, HE.out, HI.out, HB.out⟩
      show ((c.vs, c.ls), its ys) = ((c.vs, c.ls), its c.xs)
      rw [HY.out]

end

section
open Go.RowKit

theorem ownBlock_or (v : Value) : v.ownBlock = none ∨ v.ownBlock ≠ none := by cases v.ownBlock <;> simp
theorem row_below {W W' : World} {B k n : Nat} {e : TypeId} {v : Value} {xs : List Value} (h : W.ownsRow B e k v n xs) (hb : Below W.heap.size W W') : W'.ownsRow B e k v n xs :=
  h.kept (grown_of_below hb none) (ownBlock_or v)
theorem keep_typed {W W' : World} {B B' k k' n n' : Nat} {e e' : TypeId} {v v' : Value} {xs xs' : List Value} (h : W.ownsRow B e k v n xs) (h' : W.ownsRow B' e' k' v' n' xs') (ht : e ≠ e') (hg : W.grownBy W' v'.ownBlock) : W'.ownsRow B e k v n xs := by
  refine h.kept hg ?_
  rcases h'.2 with ⟨e1, _⟩ | ⟨g, cap, cur, e1, _, hgg, _⟩
  · subst e1; exact ownBlock_or v
  · right; subst e1; exact row_ne h hgg (Ne.symm ht)
theorem blk_typed {W W' : World} {B' k' n' N : Nat} {e' t : TypeId} {v' : Value} {xs' : List Value} {cur : Array Value} {z : Nat × Nat} (h : W.heap[N]? = some (.cells cur t z)) (h' : W.ownsRow B' e' k' v' n' xs') (ht : t ≠ e') (hg : W.grownBy W' v'.ownBlock) : W'.heap[N]? = some (.cells cur t z) :=
  (hg.block N (Array.getElem?_eq_some_iff.1 h).1 (fun e => row_ne h' h ht e.symm)).trans h
theorem KR.far {w W W' : World} {c : CaV} {row : Option Nat} (h : KR w c W) (hg : W.grownBy W' row) (hr : ∀ k, row = some k → w.heap.size + 1 < k) : KR w c W' :=
  ⟨h.kb.grown hg (fun k hk => by have := hr k hk; omega), (hg.block _ h.lt (fun e => by have := hr _ e.symm; omega)).trans h.res⟩

/-- The state of Canon's loop: the list and its rows of marks, the names and the dots so far. -/
structure KL (w : World) (c : CaV) (B : Nat) (A : Option Addr) (d : Nat) (ys : List ItV) (u v : Value) (ns : List (List UInt8)) (ds : List (Int × Int)) (W : World) : Prop where
  kr : KR w c W
  own : OwnI W B (.slice A ys.length d) ys
  ap : ApartI ys
  rs : RowS W B u ns
  rd : RowC W B v ds
  hB : w.heap.size + 1 < B
  bB : B ≤ W.heap.size
section
variable {w W W' : World} {c : CaV} {B d : Nat} {A : Option Addr} {ys : List ItV} {u v : Value} {ns : List (List UInt8)} {ds : List (Int × Int)}
theorem KL.next (h : KL w c B A d ys u v ns ds W) (hb : Below W.heap.size W W') : KL w c B A d ys u v ns ds W' :=
  ⟨h.kr.next hb, h.own.below hb, h.ap, row_below h.rs hb, row_below h.rd hb, h.hB, Nat.le_trans h.bB hb.size⟩
theorem KL.alloc (h : KL w c B A d ys u v ns ds W) (o : Obj) : KL w c B A d ys u v ns ds (W.alloc o) := h.next ((Below.refl _ _).alloc (Nat.le_refl _) _)
theorem set_same {α β : Type} (f : α → β) {ys : List α} {k : Nat} {y y' : α} (hk : ys[k]? = some y) (he : f y' = f y) : (ys.set k y').map f = ys.map f := by
  rw [List.map_set, he]
  have : (ys.map f)[k]? = some (f y) := by rw [List.getElem?_map, hk]; rfl
  apply List.ext_getElem?
  intro j
  rw [List.getElem?_set]
  split
  · rename_i e
    subst e
    split
    · rw [this]
    · rw [List.getElem?_eq_none (by omega)]
  · rfl
theorem mem_set_or {α : Type} {ys : List α} {k : Nat} {y z : α} (h : z ∈ ys.set k y) : z = y ∨ ∃ j, j ≠ k ∧ ys[j]? = some z := by
  obtain ⟨j, hj⟩ := List.getElem?_of_mem h
  rw [List.getElem?_set] at hj
  split at hj
  · left
    split at hj
    · exact (Option.some.inj hj).symm
    · cases hj
  · rename_i hne
    exact .inr ⟨j, fun e => hne e.symm, hj⟩
theorem ApartI.ne (h : ApartI ys) {j k : Nat} {y z : ItV} (hj : ys[j]? = some z) (hk : ys[k]? = some y) (hne : j ≠ k) : (slV z).ownBlock = none ∨ (slV z).ownBlock ≠ (slV y).ownBlock := by
  obtain ⟨hj', ej⟩ := List.getElem?_eq_some_iff.1 hj
  obtain ⟨hk', ek⟩ := List.getElem?_eq_some_iff.1 hk
  unfold ApartI at h
  rw [List.pairwise_iff_getElem] at h
  cases e : (slV z).ownBlock with
  | none => exact .inl rfl
  | some g =>
    right
    rcases Nat.lt_or_ge j k with hlt | hge
    · have := h j k hj' hk' hlt g (by rw [ej]; exact e)
      rw [ek] at this
      exact fun e2 => this e2.symm
    · have hlt : k < j := by omega
      intro e2
      have := h k j hk' hj' hlt g (by rw [ek]; exact e2.symm)
      rw [ej] at this
      exact this e
theorem ApartI.map (h : ApartI ys) {zs : List ItV} (he : zs.map (fun y => (slV y).ownBlock) = ys.map (fun y => (slV y).ownBlock)) : ApartI zs := by
  unfold ApartI at h ⊢
  have h1 : (ys.map fun y => (slV y).ownBlock).Pairwise fun a b => ∀ g, a = some g → b ≠ some g := by rw [List.pairwise_map]; exact h
  rw [← he, List.pairwise_map] at h1
  exact h1
theorem KL.sort (h : KL w c B A d ys u v ns ds W) {k : Nat} {y : ItV} {ms : List Mk} (hk : ys[k]? = some y) (hg : W.grownBy W' (slV y).ownBlock) (hr : W'.ownsRow B 65 4 (slV y) ms.length (cellsOf encM ms)) (hl : ms.length = y.ms.length) :
    KL w c B A d (ys.set k { y with ms := ms }) u v ns ds W' := by
  have hy : RowM W B (slV y) y.ms := h.own.2 y (List.mem_of_getElem? hk)
  have es : slV { y with ms := ms } = slV y := by show Value.slice y.A ms.length y.c = Value.slice y.A y.ms.length y.c; rw [hl]
  have ec : encIt { y with ms := ms } = encIt y := by show [_, slV { y with ms := ms }] = [_, slV y]; rw [es]
  have hrow : W'.ownsRow B 56 2 (.slice A ys.length d) ys.length (cellsOf encIt ys) := keep_typed h.own.1 hy (by decide) hg
  refine ⟨h.kr.far hg fun j hj => ?_, ⟨?_, fun z hz => ?_⟩, h.ap.map (set_same _ hk (by rw [es])), keep_typed h.rs hy (by decide) hg, keep_typed h.rd hy (by decide) hg, h.hB, Nat.le_trans h.bB hg.size⟩
  · have := (hy.lt j hj).1; have := h.hB; omega
  · have e2 : cellsOf encIt (ys.set k { y with ms := ms }) = cellsOf encIt ys := by
      unfold cellsOf
      rw [List.flatMap_def, List.flatMap_def, set_same encIt hk ec]
    show W'.ownsRow B _ 2 _ (ys.set k { y with ms := ms }).length (cellsOf encIt (ys.set k { y with ms := ms }))
    rw [e2, List.length_set]
    exact hrow
  · rcases mem_set_or hz with rfl | ⟨j, hne, hj⟩
    · show W'.ownsRow B _ 4 (slV { y with ms := ms }) ms.length (cellsOf encM ms)
      rw [es]; exact hr
    · exact World.ownsRow.kept (h.own.2 z (List.mem_of_getElem? hj)) hg (h.ap.ne hj hk hne)
theorem KL.names (h : KL w c B A d ys u v ns ds W) {u' : Value} {ns' : List (List UInt8)} (hg : W.grownBy W' u.ownBlock) (hr : RowS W' B u' ns') : KL w c B A d ys u' v ns' ds W' :=
  ⟨h.kr.far hg fun j hj => by have := (h.rs.lt j hj).1; have := h.hB; omega, ⟨keep_typed h.own.1 h.rs (by decide) hg, fun z hz => keep_typed (h.own.2 z hz) h.rs (by decide) hg⟩, h.ap, hr, keep_typed h.rd h.rs (by decide) hg, h.hB, Nat.le_trans h.bB hg.size⟩
theorem KL.dots (h : KL w c B A d ys u v ns ds W) {v' : Value} {ds' : List (Int × Int)} (hg : W.grownBy W' v.ownBlock) (hr : RowC W' B v' ds') : KL w c B A d ys u v' ns ds' W' :=
  ⟨h.kr.far hg fun j hj => by have := (h.rd.lt j hj).1; have := h.hB; omega, ⟨keep_typed h.own.1 h.rd (by decide) hg, fun z hz => keep_typed (h.own.2 z hz) h.rd (by decide) hg⟩, h.ap, keep_typed h.rs h.rd (by decide) hg, hr, h.hB, Nat.le_trans h.bB hg.size⟩
theorem KL.items (h : KL w c B A d ys u v ns ds W) : ItemsAt W A ys := by
  obtain ⟨A', m, e, h1, _⟩ := h.own.holds
  injection e with e1 e2 e3
  rw [e1]; exact h1
end

/-- twice at lists. -/
theorem nodup_val {α : Type} {p : α → Prop} (l : List { x : α // p x }) : (l.map (·.1)).Nodup ↔ l.Nodup := by
  unfold List.Nodup
  rw [List.pairwise_map]
  constructor
  · exact fun h => h.imp fun {a b} hab e => hab (by rw [e])
  · exact fun h => h.imp fun {a b} hab e => hab (Subtype.ext e)
theorem attached {α : Type} {p : α → Prop} (l : List α) (h : ∀ x ∈ l, p x) : ∃ l' : List { x : α // p x }, l'.map (·.1) = l :=
  ⟨l.pmap (fun x h => ⟨x, h⟩) h, by simp [List.map_pmap]⟩
theorem twiceS_h (v : Value) (ns : List (List UInt8)) (b : Bool) (w : World) (h : HoldsS w v ns) (hm : ns.length ≤ 100000) (hl : ∀ x ∈ ns, x.length ≤ 1000000) (hb : (!decide ns.Nodup) = b) :
    Calls Tryz.prog 62 #[v] w (OneB (.bool b) w) := by
  obtain ⟨A, c, rfl, h1, _, _⟩ := h
  obtain ⟨l, rfl⟩ := attached ns hl
  have e : (!nodupB l) = b := by rw [← hb]; unfold nodupB; congr 1; rw [decide_eq_decide]; exact (nodup_val l).symm
  rw [List.length_map] at hm ⊢
  rw [← e]
  exact twiceS A c l w h1 hm
theorem twiceD_h (v : Value) (ds : List (Int × Int)) (b : Bool) (w : World) (h : Holds w v ds) (hm : ds.length ≤ 100000) (hl : ∀ x ∈ ds, validD x.1 x.2 = true) (hb : (!decide ds.Nodup) = b) :
    Calls Tryz.prog 63 #[v] w (OneB (.bool b) w) := by
  obtain ⟨A, c, rfl, h1, _, _⟩ := h
  obtain ⟨l, rfl⟩ := attached (p := fun d : Int × Int => validD d.1 d.2 = true) ds hl
  have e : (!nodupB l) = b := by rw [← hb]; unfold nodupB; congr 1; rw [decide_eq_decide]; exact (nodup_val l).symm
  rw [List.length_map] at hm ⊢
  rw [← e]
  exact twiceD A c l w h1 hm
theorem validL_single (x : It) : validL [x] = okI x := by
  rw [Bool.eq_iff_iff, validL_good]
  constructor
  · intro h; exact h.1 x (by simp)
  · intro h; exact ⟨fun z hz => by simp at hz; subst hz; exact h, List.pairwise_singleton _ _, List.pairwise_singleton _ _⟩

end

end Go.Proofs.YtfmhhmceoikgpaaGreat
