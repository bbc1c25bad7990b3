/- Several texts in one: CtxI, CarA, CarK, CarB, CarC. -/
import Derived.Test.YtiaehpdgpjhecaaGreatMAL
import Derived.Test.YtiaehpdgpjhecaaGreatMAQ
import Derived.Test.YtiaehpdgpjhecaaGreatMAP
namespace Go.Proofs.YtiaehpdgpjhecaaGreat

section
open Go.RowKit

set_option maxRecDepth 100000 in
set_option maxHeartbeats 2000000 in
theorem ref3Missing (v : Value) (X : Option Addr) (cx : Nat) (vs ls m : List (Int × Int)) (w : World) (h : HoldsC w v vs ls) (hx : Holds w (.slice X m.length cx) m) (hm : m.length ≤ 100000) :
    Calls Tryz.prog 100 #[v, .slice X m.length cx] w fun e w' => (∃ v', e = .returned v' ∧ Holds w' v' (missC vs ls m)) ∧ Below w.heap.size w w' := by
  obtain ⟨A, n, B, k0, rfl, h1, h2⟩ := h
  have K := Lib.hid (((((KX.nil w).push hx).push h1).push h2).box (.slice A vs.length n) (.slice B ls.length k0) 25)
  clear h1 h2 hx
  go_enter Tryz.func100, Tryz.ntmps100
  go_wp2_with fail
  go_loopw [5, 6] (fun out i wr => ∃ k : Nat, k ≤ m.length ∧ i = .int .i64 k ∧ Hid (KX w [(⟨w.heap.size, 0, none⟩, .slice A vs.length n), (⟨w.heap.size, 1, none⟩, .slice B ls.length k0)] [(.slice B ls.length k0, ls), (.slice A vs.length n, vs), (.slice X m.length cx, m)] wr) ∧ Hid (Holds wr out (missC vs ls (m.take k)))) (fun _ i _ => m.length - (intOf i).toNat)
  case atStart => exact ⟨0, by omega, rfl, K, Holds.nil _⟩
  case round =>
    obtain ⟨k, hk2, rfl, hK, hO⟩ := hrel
    by_cases hlt : k < m.length
    · have hxm : DotsAt wr X m := by
        obtain ⟨A', c', e, h, _⟩ := hK.out.h (v := .slice X m.length cx) (xs := m) (by simp)
        cases e; exact h
      obtain ⟨bb, off, r, c, rfl, hbl, hx1, hc0, hc1⟩ := hxm.dot (j := k) hlt
      have l0 := fun p => (hK.out.far p).cell (a := ⟨w.heap.size, 0, none⟩) (v := .slice A vs.length n) (by simp)
      have l1 := fun p => (hK.out.far p).cell (a := ⟨w.heap.size, 1, none⟩) (v := .slice B ls.length k0) (by simp)
      have l2 := fun p => cell_far (p := p) hbl hc0
      have l3 := fun p => cell_far (p := p) hbl hc1
      have hbl2 := hbl
      have HC0 := Lib.hid hc0
      have HC1 := Lib.hid hc1
      have htk := take_snoc hx1
      have hml : (missC vs ls (m.take k)).length ≤ m.length := by
        have h1 := setL_len ((m.take k).filter fun d => !hasC vs ls d.1 d.2)
        have h2 := List.length_filter_le (fun d : Int × Int => !hasC vs ls d.1 d.2) (m.take k)
        have h3 := List.length_take_le k m
        unfold missC; omega
      clear hx1 hxm hc0 hc1
      cases hbh : hasC vs ls r c with
      | true =>
        have HH := Lib.hid fun p => ref3Has _ vs ls r c true _ (HoldsC.mk ((hK.out.far p).h (v := .slice A vs.length n) (xs := vs) (by simp)) ((hK.out.far p).h (v := .slice B ls.length k0) (xs := ls) (by simp))) hbh
        have HN := Lib.hid (show missC vs ls (m.take (k + 1)) = missC vs ls (m.take k) from by rw [htk]; unfold missC; rw [List.filter_append]; simp [hbh])
        clear hbh htk
        go_wp2_with fail
        refine wp_region_far (by kernel_rfl) (by kernel_rfl) ?_
        repeat (go_big_quiet_step ((go_at_call 54; exact far_of (HH.out _))))
        refine wpQuiet_nil ?_
        rintro _ ⟨p, rfl⟩
        have KF := Lib.hid (hK.out.far p)
        have HO := Lib.hid (show Holds (far wr p) u5 (missC vs ls (m.take (k + 1))) from by rw [HN.out]; exact hO.out.below (below_far wr p))
        go_wp2
        go_roundw
        case rel => exact ⟨k + 1, by omega, by go_num, KF, HO⟩
        case measure => simp [intOf]; omega
      | false =>
        have HH := Lib.hid fun p => ref3Has _ vs ls r c false _ (HoldsC.mk ((hK.out.far p).h (v := .slice A vs.length n) (xs := vs) (by simp)) ((hK.out.far p).h (v := .slice B ls.length k0) (xs := ls) (by simp))) hbh
        have HN := Lib.hid (show missC vs ls (m.take (k + 1)) = insD (missC vs ls (m.take k)) (r, c) from by rw [htk]; unfold missC; rw [List.filter_append, ← setL_snoc]; simp [hbh])
        clear hbh htk
        go_wp2_with fail
        refine wp_region_far (by kernel_rfl) (by kernel_rfl) ?_
        repeat (go_big_quiet_step ((go_at_call 54; exact far_of (HH.out _))))
        refine wpQuiet_nil ?_
        rintro _ ⟨p, rfl⟩
        have KF := Lib.hid (hK.out.far p)
        have HO := Lib.hid (hO.out.below (below_far wr p))
        have m2 := l2 p
        have m3 := l3 p
        clear l0 l1 l2 l3
        generalize far wr p = w4 at KF HO m2 m3 ⊢
        go_wp2_with fail
        refine (refWith_h _ (missC vs ls (m.take k)) r c w4 HO.out (by omega)).mono ?_
        rintro e w5 ⟨⟨v', rfl, hv'⟩, hb⟩
        have K5 := Lib.hid (KF.out.below hb)
        have HO5 := Lib.hid (show Holds w5 v' (missC vs ls (m.take (k + 1))) from by rw [HN.out]; exact hv')
        clear hb hv' m2 m3
        go_wp2
        go_roundw
        case rel => exact ⟨k + 1, by omega, by go_num, K5, HO5⟩
        case measure => simp [intOf]; omega
    · have hO2 := hO.out
      rw [List.take_of_length_le (by omega)] at hO2
      have HO := Lib.hid hO2
      clear hO2
      go_wp2
      go_ret
      exact ⟨⟨_, rfl, HO.out⟩, hK.out.bel⟩

end

section
open Go.RowKit

/-- A cart: the vector and the cloud of its context, its items. -/
abbrev Ca := (List (Int × Int) × List (Int × Int)) × List It
/-- A cart where it lies. -/
structure CaV where
  V : Option Addr
  nv : Nat
  vs : List (Int × Int)
  L : Option Addr
  nl : Nat
  ls : List (Int × Int)
  I : Option Addr
  ni : Nat
  xs : List ItV
def CaV.ca (c : CaV) : Ca := ((c.vs, c.ls), its c.xs)
/-- Its three slices. -/
abbrev CaV.v (c : CaV) : Value := .slice c.V c.vs.length c.nv
abbrev CaV.l (c : CaV) : Value := .slice c.L c.ls.length c.nl
abbrev CaV.i (c : CaV) : Value := .slice c.I c.xs.length c.ni
/-- A cart as a value: one flat row of three cells. -/
abbrev mkC (c : CaV) : Value := .agg #[c.v, c.l, c.i]
def CaOK (W : World) (c : CaV) : Prop := Holds W c.v c.vs ∧ Holds W c.l c.ls ∧ HoldsX W c.i c.xs
theorem CaOK.below {W W' : World} {c : CaV} (h : CaOK W c) (hb : Below W.heap.size W W') : CaOK W' c := ⟨h.1.below hb, h.2.1.below hb, h.2.2.below hb⟩
theorem CaOK.ctx {W : World} {c : CaV} (h : CaOK W c) : HoldsC W (.agg #[c.v, c.l]) c.vs c.ls := HoldsC.mk h.1 h.2.1
/-- A block that holds a cart. -/
def BlkC (W : World) (g : Nat) (c : CaV) : Prop := W.heap[g]? = some (.cells #[c.v, c.l, c.i] 28 (0, 0))
section
variable {W W' : World} {g : Nat} {c : CaV}
theorem BlkC.lt (h : BlkC W g c) : g < W.heap.size := (Array.getElem?_eq_some_iff.1 h).1
theorem BlkC.cell0 (h : BlkC W g c) : W.cell? ⟨g, 0, none⟩ = some c.v := by simp [World.cell?, show W.heap[g]? = _ from h]
theorem BlkC.cell1 (h : BlkC W g c) : W.cell? ⟨g, 1, none⟩ = some c.l := by simp [World.cell?, show W.heap[g]? = _ from h]
theorem BlkC.cell2 (h : BlkC W g c) : W.cell? ⟨g, 2, none⟩ = some c.i := by simp [World.cell?, show W.heap[g]? = _ from h]
theorem BlkC.frozen (h : BlkC W g c) (k : Nat) : W.frozen? ⟨g, k, none⟩ = false := by simp [World.frozen?, show W.heap[g]? = _ from h]
theorem BlkC.below (h : BlkC W g c) (hb : Below W.heap.size W W') : BlkC W' g c := (hb.block g h.lt).trans h
theorem BlkC.new (W : World) (c : CaV) : BlkC (W.alloc (.cells #[c.v, c.l, c.i] 28)) W.heap.size c := heap_alloc_new W _
end
/-- Carts in boxes, and nothing old has changed. -/
structure KK (w : World) (L : List (Nat × CaV)) (W : World) : Prop where
  box : ∀ p ∈ L, BlkC W p.1 p.2 ∧ CaOK W p.2
  bel : Below w.heap.size w W
section
variable {w W W' : World} {L : List (Nat × CaV)}
theorem KK.next (h : KK w L W) (hb : Below W.heap.size W W') : KK w L W' := ⟨fun p hp => ⟨(h.box p hp).1.below hb, (h.box p hp).2.below hb⟩, below_trans h.bel hb⟩
theorem KK.drew (h : KK w L W) : KK w L W.drew := h.next (Below.refl _ _).drew
theorem KK.far (h : KK w L W) (p : FarBy) : KK w L (Go.Proofs.YtiaehpdgpjhecaaGreat.far W p) := h.next (below_far W p)
theorem KK.alloc (h : KK w L W) (o : Obj) : KK w L (W.alloc o) := h.next ((Below.refl _ _).alloc (Nat.le_refl _) _)
theorem KK.blk (h : KK w L W) {g : Nat} {c : CaV} (hm : (g, c) ∈ L) : BlkC W g c := (h.box _ hm).1
theorem KK.ok (h : KK w L W) {g : Nat} {c : CaV} (hm : (g, c) ∈ L) : CaOK W c := (h.box _ hm).2
theorem KK.push (h : KK w L W) (c : CaV) (ho : CaOK W c) (n : Nat) (hn : W.heap.size = n) : KK w (L ++ [(n, c)]) (W.alloc (.cells #[c.v, c.l, c.i] 28)) := by
  subst hn
  have hb := (Below.refl W.heap.size W).alloc (Nat.le_refl _) (.cells #[c.v, c.l, c.i] 28)
  refine ⟨fun p hp => ?_, (h.next hb).bel⟩
  rcases List.mem_append.1 hp with k | k
  · exact (h.next hb).box p k
  · obtain rfl : p = (W.heap.size, c) := by simpa using k
    exact ⟨BlkC.new W c, ho.below hb⟩
theorem KK.new (w : World) (c : CaV) (ho : CaOK w c) : KK w [(w.heap.size, c)] (w.alloc (.cells #[c.v, c.l, c.i] 28)) :=
  KK.push (L := []) ⟨fun p hp => (by cases hp), Below.refl _ _⟩ c ho w.heap.size rfl
theorem KK.sp {g : Nat} {c : CaV} (h : KK w [(g, c)] W) : W.cell? ⟨g, 0, none⟩ = some c.v ∧ W.cell? ⟨g, 1, none⟩ = some c.l ∧ W.cell? ⟨g, 2, none⟩ = some c.i ∧ g < W.heap.size ∧ KK w [(g, c)] W :=
  ⟨(h.blk (by simp)).cell0, (h.blk (by simp)).cell1, (h.blk (by simp)).cell2, (h.blk (c := c) (by simp)).lt, h⟩
theorem KK.sp2 {g g' : Nat} {c d : CaV} (h : KK w [(g, c), (g', d)] W) : W.cell? ⟨g, 0, none⟩ = some c.v ∧ W.cell? ⟨g, 1, none⟩ = some c.l ∧ W.cell? ⟨g, 2, none⟩ = some c.i ∧ W.cell? ⟨g', 0, none⟩ = some d.v ∧ W.cell? ⟨g', 1, none⟩ = some d.l ∧ W.cell? ⟨g', 2, none⟩ = some d.i ∧ g < W.heap.size ∧ g' < W.heap.size ∧ KK w [(g, c), (g', d)] W :=
  ⟨(h.blk (c := c) (by simp)).cell0, (h.blk (c := c) (by simp)).cell1, (h.blk (c := c) (by simp)).cell2, (h.blk (c := d) (by simp)).cell0, (h.blk (c := d) (by simp)).cell1, (h.blk (c := d) (by simp)).cell2, (h.blk (c := c) (by simp)).lt, (h.blk (c := d) (by simp)).lt, h⟩
end

/-- Not too much: dots, items. -/
def FitsC (c : CaV) : Prop := c.vs.length ≤ 400 ∧ c.ls.length ≤ 400 ∧ Fits c.xs
/-- Which carts are valid. -/
def validK (c : Ca) : Bool := compC c.1.1 c.1.2 && (validL c.2 && (missC c.1.1 c.1.2 (dotsI c.2)).isEmpty)

theorem refEqual_x (v u : Value) (xs ys : List ItV) (b : Bool) (w : World) (h : HoldsX w v xs) (k : HoldsX w u ys) (hm : xs.length ≤ 100000) (hm' : ys.length ≤ 100000) (hb : decide (its xs = its ys) = b) :
    Calls Tryz.prog 48 #[v, u] w (OneB (.bool b) w) := by
  obtain ⟨A, c, rfl, h1, _⟩ := h
  obtain ⟨A', c', rfl, h2, _⟩ := k
  subst hb
  exact refEqual9 A A' xs ys c c' w h1 h2 hm hm'
theorem refValid_x (v : Value) (xs : List ItV) (b : Bool) (w : World) (h : HoldsX w v xs) (hf : Fits xs) (hb : validL (its xs) = b) : Calls Tryz.prog 99 #[v] w (OneB (.bool b) w) := by
  obtain ⟨A, c, rfl, h1, _⟩ := h
  subst hb
  exact refValid9 A xs c w h1 hf
theorem refDots_x (v : Value) (xs : List ItV) (w : World) (h : HoldsX w v xs) (hf : Fits xs) : Calls Tryz.prog 95 #[v] w fun e w' => (∃ v, e = .returned v ∧ Holds w' v (dotsI (its xs))) ∧ Below w.heap.size w w' := by
  obtain ⟨A, c, rfl, h1, _⟩ := h
  exact refDots9 A xs c w h1 hf

/-- When two carts are equal. -/
def sameC (c d : Ca) : Bool := (decide (c.1.1 = d.1.1) && decide (c.1.2 = d.1.2)) && decide (c.2 = d.2)
theorem sameC_iff {c d : Ca} : sameC c d = true ↔ c = d := by
  obtain ⟨⟨a, b⟩, e⟩ := c
  obtain ⟨⟨a', b'⟩, e'⟩ := d
  simp [sameC]

set_option maxHeartbeats 1000000 in
theorem refEqual10 (c d : CaV) (b : Bool) (w : World) (hc : CaOK w c) (hd : CaOK w d) (hm : c.xs.length ≤ 100000) (hm' : d.xs.length ≤ 100000) (hb : sameC c.ca d.ca = b) :
    Calls Tryz.prog 15 #[mkC c, mkC d] w (OneB (.bool b) w) := by
  have h1 := (Below.refl w.heap.size w).alloc (Nat.le_refl _) (.cells #[c.v, c.l, c.i] 28)
  have K0 := Lib.hid (KK.push (L := [(w.heap.size, c)]) (KK.new w c hc) d (hd.below h1) (w.heap.size + 1) (by simp))
  obtain ⟨p, hp⟩ : ∃ p, (decide (c.vs = d.vs) && decide (c.ls = d.ls)) = p := ⟨_, rfl⟩
  obtain ⟨q, hq⟩ : ∃ q, decide (its c.xs = its d.xs) = q := ⟨_, rfl⟩
  have HP := Lib.hid hp
  have HQ := Lib.hid hq
  have HE := Lib.hid (show (p && q) = b from by rw [← hp, ← hq, ← hb]; rfl)
  clear hp hq hb h1 hc hd
  go_enter Tryz.func15, Tryz.ntmps15
  go_wp2_with fail
  generalize World.alloc (World.alloc w _) _ = w2 at K0 ⊢
  obtain ⟨x0, x1, x2, y0, y1, y2, xl, yl, _⟩ := K0.out.sp2
  go_wp2_with fail
  refine (ref3Equal _ _ c.vs c.ls d.vs d.ls p w2 (K0.out.ok (g := w.heap.size) (by simp)).ctx (K0.out.ok (g := w.heap.size + 1) (by simp)).ctx HP.out).mono ?_
  rintro e w3 ⟨rfl, hb⟩
  have K1 := Lib.hid (K0.out.next hb)
  clear hb K0 x0 x1 x2 y0 y1 y2 xl yl
  obtain ⟨x0, x1, x2, y0, y1, y2, xl, yl, _⟩ := K1.out.sp2
  cases p with
  | false =>
    go_wp2_with fail
    go_ret
    exact OneB.bool (by rw [← HE.out]; rfl) K1.out.bel
  | true =>
    go_wp2_with fail
    refine (refEqual_x _ _ c.xs d.xs q w3 (K1.out.ok (g := w.heap.size) (by simp)).2.2 (K1.out.ok (g := w.heap.size + 1) (by simp)).2.2 hm hm' HQ.out).mono ?_
    rintro e w4 ⟨rfl, hb⟩
    have K2 := Lib.hid (K1.out.next hb).bel
    clear hb K1 x0 x1 x2 y0 y1 y2 xl yl
    go_wp2_with fail
    go_ret
    exact OneB.bool (by rw [← HE.out]; rfl) K2.out

end

section
open Go.RowKit

/-- Two lists in a strict order with the same elements are the same. -/
theorem strict_ext {α : Type} {r : α → α → Prop} (irr : ∀ x, ¬ r x x) (tr : ∀ x y z, r x y → r y z → r x z) : ∀ {s t : List α}, s.Pairwise r → t.Pairwise r → (∀ d, d ∈ s ↔ d ∈ t) → s = t
  | [], [], _, _, _ => rfl
  | [], y :: t, _, _, h => by have := (h y).2 (by simp); simp at this
  | x :: s, [], _, _, h => by have := (h x).1 (by simp); simp at this
  | x :: s, y :: t, hs, ht, h => by
    have hs' := List.pairwise_cons.1 hs
    have ht' := List.pairwise_cons.1 ht
    have hxy : x = y := by
      have h1 := (h x).1 (by simp)
      have h2 := (h y).2 (by simp)
      rcases List.mem_cons.1 h1 with e | h1
      · exact e
      · rcases List.mem_cons.1 h2 with e | h2
        · exact e.symm
        · exact absurd (tr _ _ _ (ht'.1 x h1) (hs'.1 y h2)) (irr y)
    subst hxy
    have : s = t := strict_ext irr tr hs'.2 ht'.2 fun d => by
      have hd := h d
      simp only [List.mem_cons] at hd
      constructor
      · intro hm
        rcases hd.1 (.inr hm) with e | h'
        · subst e; exact absurd (hs'.1 d hm) (irr d)
        · exact h'
      · intro hm
        rcases hd.2 (.inr hm) with e | h'
        · subst e; exact absurd (ht'.1 d hm) (irr d)
        · exact h'
    rw [this]

/-- A mark's dot; a mark behind those whose dots are not greater; marks in order. -/
abbrev dotM (m : Mk) : Int × Int := (m.r, m.c)
def insM (l : List Mk) (m : Mk) : List Mk := l.takeWhile (fun y => !ltD (dotM m) (dotM y)) ++ m :: l.dropWhile (fun y => !ltD (dotM m) (dotM y))
def sortM (l : List Mk) : List Mk := l.foldl insM []
theorem insM_perm (l : List Mk) (m : Mk) : (insM l m).Perm (m :: l) := by
  have h := List.takeWhile_append_dropWhile (p := fun y => !ltD (dotM m) (dotM y)) (l := l)
  conv => rhs; rw [← h]
  exact List.perm_middle
theorem fold_insM_perm : ∀ (l s : List Mk), (l.foldl insM s).Perm (s ++ l)
  | [], s => by simp
  | m :: r, s => by
    rw [List.foldl_cons]
    refine (fold_insM_perm r (insM s m)).trans ?_
    refine ((insM_perm s m).append_right r).trans ?_
    exact List.perm_middle.symm
theorem sortM_perm (l : List Mk) : (sortM l).Perm l := by
  have := fold_insM_perm l []
  rwa [List.nil_append] at this
/-- Marks in the order of their dots, equal ones behind each other. -/
def SortW (l : List Mk) : Prop := l.Pairwise fun a b => ltD (dotM b) (dotM a) = false
theorem ltD_asymm {x y : Int × Int} (h : ltD x y = true) : ltD y x = false := by
  cases k : ltD y x with
  | false => rfl
  | true => have := ltD_trans h k; rw [ltD_irrefl] at this; cases this
theorem ltD_ntrans {x y z : Int × Int} (h1 : ltD y x = false) (h2 : ltD z y = false) : ltD z x = false := by
  cases k : ltD z x with
  | false => rfl
  | true =>
    rcases ltD_tri y x with e | e | e
    · rw [e] at h1; cases h1
    · subst e; rw [k] at h2; cases h2
    · have := ltD_trans k e; rw [this] at h2; cases h2
theorem SortW.tail {l : List Mk} {m : Mk} (h : SortW l) {z : Mk} (hz : z ∈ l.dropWhile (fun y => !ltD (dotM m) (dotM y))) : ltD (dotM m) (dotM z) = true := by
  induction l with
  | nil => simp at hz
  | cons a r ih =>
    rw [List.dropWhile_cons] at hz
    have h' := List.pairwise_cons.1 h
    by_cases ha : (!ltD (dotM m) (dotM a)) = true
    · rw [if_pos ha] at hz
      exact ih h'.2 hz
    · rw [if_neg ha] at hz
      have ha' : ltD (dotM m) (dotM a) = true := by simpa using ha
      rcases List.mem_cons.1 hz with e | hz
      · subst e; exact ha'
      · cases k : ltD (dotM m) (dotM z) with
        | true => rfl
        | false =>
          have := ltD_ntrans (h'.1 z hz) k
          rw [ha'] at this; cases this
theorem SortW.ins {l : List Mk} (h : SortW l) (m : Mk) : SortW (insM l m) := by
  unfold insM
  have ht : ∀ z ∈ l.takeWhile (fun y => !ltD (dotM m) (dotM y)), ltD (dotM m) (dotM z) = false := fun z hz => by
    have := tw_all (p := fun y => !ltD (dotM m) (dotM y)) hz
    simpa using this
  refine List.pairwise_append.2 ⟨h.sublist (List.takeWhile_sublist _), List.pairwise_cons.2 ⟨fun z hz => ltD_asymm (h.tail hz), h.sublist (List.dropWhile_sublist _)⟩, fun a ha b hb => ?_⟩
  rcases List.mem_cons.1 hb with e | hb
  · subst e; exact ht a ha
  · have h1 := h.tail hb
    cases k : ltD (dotM b) (dotM a) with
    | false => rfl
    | true => have := ltD_trans h1 k; rw [ht a ha] at this; cases this
theorem incM_ext {s t : List Mk} (hs : Inc (dotsM s)) (ht : Inc (dotsM t)) (h : ∀ d, d ∈ s ↔ d ∈ t) : s = t := by
  unfold Inc dotsM at hs ht
  rw [List.pairwise_map] at hs ht
  exact strict_ext (r := fun a b : Mk => ltD (a.r, a.c) (b.r, b.c) = true) (fun x hx => by rw [ltD_irrefl] at hx; cases hx) (fun x y z h1 h2 => ltD_trans h1 h2) hs ht h
theorem meetN_mem {a b a' b' : List Mk} (ha : ∀ m, m ∈ a ↔ m ∈ a') (hb : ∀ m, m ∈ b ↔ m ∈ b') : meetN a b = meetN a' b' := by
  rw [Bool.eq_iff_iff]
  simp only [meetN, hasD, List.any_eq_true, ha, hb]
theorem meetN_sort (a b : List Mk) : meetN (sortM a) (sortM b) = meetN a b := meetN_mem (fun _ => (sortM_perm a).mem_iff) (fun _ => (sortM_perm b).mem_iff)

/-- An item whose marks are put in order; one more item, or none; items put in order. -/
abbrev ordI (x : It) : It := (x.1, sortM x.2)
def stepI (o : Option (List It)) (x : It) : Option (List It) := o.bind fun l => if okI (ordI x) = true ∧ (l.any fun z => z.1 == x.1) = false ∧ (l.any fun z => meetN z.2 (sortM x.2)) = false then some (insN l (ordI x)) else none
def canonI (xs : List It) : Option (List It) := xs.foldl stepI (some [])
/-- Items that are loose. -/
def LooseI (xs : List It) : Prop := (∀ x ∈ xs, okI (ordI x) = true) ∧ xs.Pairwise fun x y => x.1 ≠ y.1 ∧ meetN x.2 y.2 = false
/-- What was put in order so far. -/
structure OrdInv (pre : List It) (l : List It) : Prop where
  loose : LooseI pre
  good : Good l
  mem : ∀ z, z ∈ l ↔ ∃ x ∈ pre, z = ordI x
theorem stepI_none : ∀ xs : List It, xs.foldl stepI none = none
  | [] => rfl
  | _ :: r => stepI_none r
theorem loose_snoc {pre : List It} {x : It} : LooseI (pre ++ [x]) ↔ LooseI pre ∧ okI (ordI x) = true ∧ ∀ y ∈ pre, y.1 ≠ x.1 ∧ meetN y.2 x.2 = false := by
  unfold LooseI
  rw [List.pairwise_append]
  constructor
  · rintro ⟨h1, h2, _, h3⟩
    exact ⟨⟨fun y hy => h1 y (by simp [hy]), h2⟩, h1 x (by simp), fun y hy => h3 y hy x (by simp)⟩
  · rintro ⟨⟨h1, h2⟩, h3, h4⟩
    refine ⟨fun y hy => ?_, h2, List.pairwise_singleton _ _, fun a ha b hb => ?_⟩
    · rcases List.mem_append.1 hy with k | k
      · exact h1 y k
      · obtain rfl : y = x := by simpa using k
        exact h3
    · obtain rfl : b = x := by simpa using hb
      exact h4 a ha
theorem OrdInv.step {pre l : List It} {x : It} (h : OrdInv pre l) : (stepI (some l) x = none ∧ ¬ LooseI (pre ++ [x])) ∨ (stepI (some l) x = some (insN l (ordI x)) ∧ OrdInv (pre ++ [x]) (insN l (ordI x))) := by
  by_cases hc : okI (ordI x) = true ∧ (l.any fun z => z.1 == x.1) = false ∧ (l.any fun z => meetN z.2 (sortM x.2)) = false
  · refine .inr ⟨by unfold stepI; rw [Option.bind_some, if_pos hc], ?_⟩
    obtain ⟨h1, h2, h3⟩ := hc
    rw [List.any_eq_false] at h2
    have hn : ∀ y ∈ l, y.1 ≠ (ordI x).1 := fun y hy e => h2 y hy (by simp [e])
    refine ⟨loose_snoc.2 ⟨h.loose, h1, fun y hy => ?_⟩, h.good.ins h1 hn h3, fun z => ?_⟩
    · have hz := (h.mem (ordI y)).2 ⟨y, hy, rfl⟩
      rw [List.any_eq_false] at h3
      refine ⟨hn (ordI y) hz, ?_⟩
      have := h3 (ordI y) hz
      rw [Bool.not_eq_true, meetN_sort] at this
      exact this
    · rw [mem_insN, h.mem]
      constructor
      · rintro (⟨y, hy, e⟩ | e)
        · exact ⟨y, by simp [hy], e⟩
        · exact ⟨x, by simp, e⟩
      · rintro ⟨y, hy, e⟩
        rcases List.mem_append.1 hy with k | k
        · exact .inl ⟨y, k, e⟩
        · obtain rfl : y = x := by simpa using k
          exact .inr e
  · refine .inl ⟨by unfold stepI; rw [Option.bind_some, if_neg hc], fun hl => hc ?_⟩
    obtain ⟨_, h1, h2⟩ := loose_snoc.1 hl
    refine ⟨h1, ?_, ?_⟩
    · rw [List.any_eq_false]
      intro z hz e
      obtain ⟨y, hy, rfl⟩ := (h.mem z).1 hz
      exact (h2 y hy).1 (by simpa using e)
    · rw [List.any_eq_false]
      intro z hz
      obtain ⟨y, hy, rfl⟩ := (h.mem z).1 hz
      rw [Bool.not_eq_true, meetN_sort]
      exact (h2 y hy).2
theorem loose_left {pre xs : List It} (h : LooseI (pre ++ xs)) : LooseI pre := ⟨fun x hx => h.1 x (by simp [hx]), (List.pairwise_append.1 h.2).1⟩
theorem fold_ord : ∀ (xs : List It) {pre l : List It}, OrdInv pre l → (∃ k, xs.foldl stepI (some l) = some k ∧ OrdInv (pre ++ xs) k) ∨ (xs.foldl stepI (some l) = none ∧ ¬ LooseI (pre ++ xs))
  | [], pre, l, h => .inl ⟨l, rfl, by simpa using h⟩
  | x :: r, pre, l, h => by
    rw [List.foldl_cons]
    rcases h.step (x := x) with ⟨h1, h2⟩ | ⟨h1, h2⟩
    · rw [h1, stepI_none]
      exact .inr ⟨rfl, fun hl => h2 (loose_left (xs := r) (by simpa using hl))⟩
    · rw [h1]
      rcases fold_ord r h2 with ⟨k, e, hk⟩ | ⟨e, hk⟩
      · exact .inl ⟨k, e, by simpa using hk⟩
      · exact .inr ⟨e, fun hl => hk (by simpa using hl)⟩
theorem canonI_cases (xs : List It) : (∃ k, canonI xs = some k ∧ OrdInv xs k) ∨ (canonI xs = none ∧ ¬ LooseI xs) := by
  have h0 : OrdInv [] [] := ⟨⟨fun x hx => (by cases hx), List.Pairwise.nil⟩, good_nil, fun z => ⟨fun hz => (by cases hz), fun ⟨x, hx, _⟩ => (by cases hx)⟩⟩
  simpa [canonI] using fold_ord xs h0
theorem OrdInv.canon {xs k : List It} (h : OrdInv xs k) : canonI xs = some k := by
  rcases canonI_cases xs with ⟨k', e, hk⟩ | ⟨_, hn⟩
  · rw [e]
    congr 1
    exact IncN.ext hk.good.2.1 h.good.2.1 fun d => by rw [hk.mem, h.mem]
  · exact absurd h.loose hn
/-- The same items in another order, their marks in another order. -/
theorem OrdInv.other {xs ys k : List It} (h : OrdInv xs k) (hl : LooseI ys) (hm : ∀ z, (∃ y ∈ ys, z = ordI y) ↔ ∃ x ∈ xs, z = ordI x) : canonI ys = some k :=
  OrdInv.canon ⟨hl, h.good, fun z => by rw [h.mem, hm]⟩

theorem missC_nil {v l m : List (Int × Int)} : (missC v l m).isEmpty = true ↔ ∀ d ∈ m, hasC v l d.1 d.2 = true := by
  rw [List.isEmpty_iff]
  constructor
  · intro h d hd
    cases e : hasC v l d.1 d.2 with
    | true => rfl
    | false =>
      have hm : d ∈ missC v l m := by
        unfold missC
        rw [mem_setL, List.mem_filter]
        exact ⟨hd, by simp [e]⟩
      rw [h] at hm; cases hm
  · intro h
    rw [List.eq_nil_iff_forall_not_mem]
    intro d hd
    unfold missC at hd
    rw [mem_setL, List.mem_filter] at hd
    rw [h d hd.1] at hd
    simp at hd
theorem validK_iff {c : Ca} : validK c = true ↔ compC c.1.1 c.1.2 = true ∧ Good c.2 ∧ ∀ d ∈ dotsI c.2, hasC c.1.1 c.1.2 d.1 d.2 = true := by
  unfold validK
  rw [Bool.and_eq_true, Bool.and_eq_true, missC_nil, validL_good]
end

section
open Go.RowKit

theorem dotsI_small {xs : List ItV} (hf : Fits xs) : (dotsI (its xs)).length ≤ 30000 := by
  have h := dotsI_len (its xs) fun y hy => by
    obtain ⟨z, hz, rfl⟩ := List.mem_map.1 hy
    exact (hf.2 z hz).2
  have := hf.1
  rw [its_len] at h; omega

set_option maxRecDepth 100000 in
set_option maxHeartbeats 4000000 in
theorem refValid10 (c : CaV) (b : Bool) (w : World) (hc : CaOK w c) (hf : Fits c.xs) (hb : validK c.ca = b) :
    Calls Tryz.prog 49 #[mkC c] w (OneB (.bool b) w) := by
  have K0 := Lib.hid (KK.new w c hc)
  obtain ⟨p, hp⟩ : ∃ p, compC c.vs c.ls = p := ⟨_, rfl⟩
  obtain ⟨q, hq⟩ : ∃ q, validL (its c.xs) = q := ⟨_, rfl⟩
  obtain ⟨mm, hmm⟩ : ∃ mm, missC c.vs c.ls (dotsI (its c.xs)) = mm := ⟨_, rfl⟩
  have HP := Lib.hid hp
  have HQ := Lib.hid hq
  have HM := Lib.hid hmm
  have HF := Lib.hid hf
  have HD := Lib.hid (dotsI_small hf)
  have HE := Lib.hid (show (p && (q && mm.isEmpty)) = b from by rw [← hp, ← hq, ← hmm, ← hb]; rfl)
  clear hp hq hmm hb hc hf
  cases p with
  | false =>
    obtain rfl : b = false := HE.out.symm
    go_enter Tryz.func49, Tryz.ntmps49
    go_wp2_with fail
    generalize w.heap.size = g at K0 ⊢
    generalize World.alloc w _ = w2 at K0 ⊢
    obtain ⟨x0, x1, x2, xl, _⟩ := K0.out.sp
    have l0 := fun p => cell_far (p := p) xl x0
    have l1 := fun p => cell_far (p := p) xl x1
    have l2 := fun p => cell_far (p := p) xl x2
    have HC := Lib.hid fun p => ref3IsCompact _ c.vs c.ls false (far w2 p) ((K0.out.far p).ok (g := g) (c := c) (by simp)).ctx HP.out
    go_wp2_with fail
    refine wp_region_far (by kernel_rfl) (by kernel_rfl) ?_
    repeat (go_big_quiet_step ((go_at_call 98; exact OneB.far (HC.out _))))
    refine wpQuiet_nil ?_
    rintro _ ⟨p, rfl⟩
    go_wp2_with fail
    go_ret
    exact OneB.bool rfl (K0.out.far p).bel
  | true =>
    cases q with
    | false =>
      obtain rfl : b = false := HE.out.symm
      go_enter Tryz.func49, Tryz.ntmps49
      go_wp2_with fail
      generalize w.heap.size = g at K0 ⊢
      generalize World.alloc w _ = w2 at K0 ⊢
      obtain ⟨x0, x1, x2, xl, _⟩ := K0.out.sp
      have l0 := fun p => cell_far (p := p) xl x0
      have l1 := fun p => cell_far (p := p) xl x1
      have l2 := fun p => cell_far (p := p) xl x2
      have HC := Lib.hid fun p => ref3IsCompact _ c.vs c.ls true (far w2 p) ((K0.out.far p).ok (g := g) (c := c) (by simp)).ctx HP.out
      have HV := Lib.hid fun p => refValid_x _ c.xs false (far w2 p) ((K0.out.far p).ok (g := g) (c := c) (by simp)).2.2 HF.out HQ.out
      go_wp2_with fail
      refine wp_region_far (by kernel_rfl) (by kernel_rfl) ?_
      repeat (go_big_quiet_step ((first | (go_at_call 98; exact OneB.far (HC.out _)) | (go_at_call 99; exact OneB.far (HV.out _)))))
      refine wpQuiet_nil ?_
      rintro _ ⟨p, rfl⟩
      go_wp2_with fail
      go_ret
      exact OneB.bool rfl (K0.out.far p).bel
    | true =>
      have HE2 := Lib.hid (show mm.isEmpty = b from by rw [← HE.out]; rfl)
      clear HE
      go_enter Tryz.func49, Tryz.ntmps49
      go_wp2_with fail
      generalize w.heap.size = g at K0 ⊢
      generalize World.alloc w _ = w2 at K0 ⊢
      have hS := K0.out
      have hS' := hS.sp
      clear K0
      go_wp2_with fail
      go_region_held3 (fun W => W.cell? ⟨g, 0, none⟩ = some c.v ∧ W.cell? ⟨g, 1, none⟩ = some c.l ∧ W.cell? ⟨g, 2, none⟩ = some c.i ∧ g < W.heap.size ∧ KK w [(g, c)] W)
        (first
          | assumption
          | (exact KK.sp (by assumption))
          | (exact KK.sp (KK.drew (by assumption))))
        (first
          | (go_at_call 98; refine (ref3IsCompact _ c.vs c.ls true _ (KK.ok (g := g) (c := c) (by first | assumption | exact KK.drew (by assumption)) (by simp)).ctx HP.out).mono ?_
             rintro e wa ⟨rfl, hb1⟩
             have hS1 := KK.next (by first | assumption | exact KK.drew (by assumption)) hb1
             have hS1' := hS1.sp)
          | (go_at_call 99; refine (refValid_x _ c.xs true _ (KK.ok (g := g) (c := c) (by first | assumption | exact KK.drew (by assumption)) (by simp)).2.2 HF.out HQ.out).mono ?_
             rintro e wb ⟨rfl, hb2⟩
             have hS2 := KK.next (by first | assumption | exact KK.drew (by assumption)) hb2
             have hS2' := hS2.sp)
          | (go_at_call 95; refine (refDots_x _ c.xs _ (KK.ok (g := g) (c := c) (by first | assumption | exact KK.drew (by assumption)) (by simp)).2.2 HF.out).mono ?_
             rintro e wc ⟨⟨v1, rfl, hv1⟩, hb3⟩
             have hS3 := KK.next (by first | assumption | exact KK.drew (by assumption)) hb3
             have hS3' := hS3.sp
             obtain ⟨D, dc, rfl, _⟩ := id hv1)
          | (go_at_call 100; refine (ref3Missing _ D dc c.vs c.ls (dotsI (its c.xs)) _ (KK.ok (g := g) (c := c) (by first | assumption | exact KK.drew (by assumption)) (by simp)).ctx (by first | exact hv1 | exact hv1.below (Below.refl _ _).drew) (by have := HD.out; omega)).mono ?_
             rintro e wd ⟨⟨v2, rfl, hv2⟩, hb4⟩
             rw [HM.out] at hv2
             have hS4 := KK.next (by first | assumption | exact KK.drew (by assumption)) hb4
             have hS4' := hS4.sp
             obtain ⟨E, ec, rfl, _⟩ := id hv2))
      all_goals
        have KF := Lib.hid hS4.bel
        clear hS hS' hS1 hS1' hS2 hS2' hS3 hS3' hS4 hS4' hv1 hv2 hb1 hb2 hb3 hb4
        go_wp2_with fail
        go_ret
        exact OneB.bool (by
          rw [← HE2.out]
          cases mm with
          | nil => simp
          | cons _ _ => simp; omega) KF.out

end

section
open Go.RowKit

/-- A cart in its box, and nothing old has changed; it lies where it lay. -/
structure KB1 (w : World) (c : CaV) (W : World) : Prop where
  blk : BlkC W w.heap.size c
  bel : Below w.heap.size w W
  ok0 : CaOK w c
section
variable {w W W' : World} {c : CaV}
theorem KB1.new (w : World) (c : CaV) (ho : CaOK w c) : KB1 w c (w.alloc (.cells #[c.v, c.l, c.i] 28)) := ⟨BlkC.new w c, (Below.refl _ w).alloc (Nat.le_refl _) _, ho⟩
theorem KB1.ok (h : KB1 w c W) : CaOK W c := h.ok0.below h.bel
theorem KB1.next (h : KB1 w c W) (hb : Below W.heap.size W W') : KB1 w c W' := ⟨h.blk.below hb, below_trans h.bel hb, h.ok0⟩
theorem KB1.drew (h : KB1 w c W) : KB1 w c W.drew := h.next (Below.refl _ _).drew
theorem KB1.alloc (h : KB1 w c W) (o : Obj) : KB1 w c (W.alloc o) := h.next ((Below.refl _ _).alloc (Nat.le_refl _) _)
theorem KB1.size (h : KB1 w c W) : w.heap.size + 1 ≤ W.heap.size := h.blk.lt
theorem KB1.grown (h : KB1 w c W) {row : Option Nat} (hg : W.grownBy W' row) (hr : ∀ k, row = some k → w.heap.size + 1 ≤ k) : KB1 w c W' := by
  have hz := h.size
  exact ⟨(hg.block _ h.blk.lt (fun e => by have := hr _ e.symm; omega)).trans h.blk, h.bel.grown hg (by omega) (fun k hk => by have := hr k hk; omega), h.ok0⟩
theorem KB1.sp (h : KB1 w c W) : W.cell? ⟨w.heap.size, 0, none⟩ = some c.v ∧ W.cell? ⟨w.heap.size, 1, none⟩ = some c.l ∧ W.cell? ⟨w.heap.size, 2, none⟩ = some c.i ∧ w.heap.size < W.heap.size ∧ KB1 w c W := ⟨h.blk.cell0, h.blk.cell1, h.blk.cell2, h.blk.lt, h⟩
theorem KB1.items (h : KB1 w c W) : ItemsAt W c.I c.xs := by
  obtain ⟨A, n, e, h1, _⟩ := h.ok.2.2
  injection e with e1 e2 e3
  rw [e1]; exact h1
end

/-- All marks. -/
def marksX (xs : List ItV) : List Mk := xs.flatMap (·.ms)
theorem marksX_step {xs : List ItV} {k : Nat} {x : ItV} (h : xs[k]? = some x) : marksX (xs.take (k + 1)) = marksX (xs.take k) ++ x.ms := by unfold marksX; rw [take_step h]; simp
theorem marksX_len {xs : List ItV} (hf : ∀ x ∈ xs, x.ms.length ≤ 100) : (marksX xs).length ≤ 100 * xs.length := by
  induction xs with
  | nil => simp [marksX]
  | cons x r ih =>
    have h1 := ih fun y hy => hf y (List.mem_cons_of_mem _ hy)
    have h2 := hf x (by simp)
    unfold marksX at h1 ⊢
    rw [List.flatMap_cons, List.length_append, List.length_cons]; omega

set_option maxHeartbeats 2000000 in
theorem refMarks10 (c : CaV) (w : World) (hc : CaOK w c) (hf : Fits c.xs) :
    Calls Tryz.prog 93 #[mkC c] w fun e w' => (∃ A n, e = .returned (.slice A (marksX c.xs).length n) ∧ MarksAt w' A (marksX c.xs)) ∧ Below w.heap.size w w' := by
  obtain ⟨ti0, hi0, hz0, hz1, hz2⟩ := info_parts infoM
  have hm := hf.1
  have HF := Lib.hid hf
  have K0 := Lib.hid (KB1.new w c hc)
  clear hc hf
  go_enter Tryz.func93, Tryz.ntmps93
  go_wp2_with fail
  generalize World.alloc w _ = w2 at K0 ⊢
  go_loopw [3, 4] (fun v i wr => ∃ k : Nat, k ≤ c.xs.length ∧ i = .int .i64 k ∧ Hid (wr.ownsRow (w.heap.size + 1) 55 4 v (marksX (c.xs.take k)).length (cellsOf encM (marksX (c.xs.take k)))) ∧ Hid (KB1 w c wr)) (fun _ i _ => c.xs.length - (intOf i).toNat)
  case atStart => exact ⟨0, by omega, rfl, Lib.hid (World.ownsRow_nil _ _ _ _), K0⟩
  case round =>
    clear K0
    obtain ⟨k, hk, rfl, hr, K⟩ := hrel
    obtain ⟨x0, x1, x2, xl, _⟩ := K.out.sp
    by_cases hlt : k < c.xs.length
    · have i0 : (k : Int) < (c.xs.length : Int) := by omega
      obtain ⟨b, off, x, hI, hbl, hx1, _, hc0, hc1, hok⟩ := K.out.items.cells (j := k) hlt
      change wr.cell? _ = some (.slice c.I c.xs.length c.ni) at x2
      rw [hI] at x2
      have HS := Lib.hid (marksX_step hx1)
      have hx100 := (HF.out.2 x (List.mem_of_getElem? hx1)).2
      have hl : (marksX (c.xs.take k)).length ≤ 30000 := by
        have h1 := marksX_len (xs := c.xs.take k) fun y hy => (HF.out.2 y (List.mem_of_mem_take hy)).2
        rw [List.length_take] at h1; omega
      have HOK := Lib.hid hok
      clear hx1 hok hI
      obtain ⟨D, d, rfl, _, _, _⟩ := SlAt.of_own encM_len hr.out
      generalize marksX (c.xs.take k) = ns at hr hl HS ⊢
      go_wp2_with (at_builtin; refine wpList_append_sl _ encM 4 rfl (.tmp 12) (.tmp 18) 48 rfl encM_len (by omega) encM_one (w.heap.size + 1) 55 ti0 _ 32 Tryz.underlying48 hi0 hz0 hz1 hz2 rfl _ ns rfl hr.out _ _ _ x.ms rfl rfl HOK.out.1 (by simp [maxLen]; omega) (by omega) (by have := K.out.size; omega) ?_; intro v1 w1 hown hg hat; have KG := Lib.hid (K.out.grown hg (fun k hk => (hr.out.lt k hk).1)); have HO := Lib.hid hown; clear hown hg hat)
      go_roundw
      case rel => exact ⟨k + 1, by omega, by go_num, by rw [HS.out]; exact HO, KG⟩
      case measure => simp [intOf]; omega
    · have i0 : ¬ (k : Int) < (c.xs.length : Int) := by omega
      obtain rfl : k = c.xs.length := by omega
      rw [List.take_length] at hr
      have HB := Lib.hid K.out.bel
      obtain ⟨D, d, rfl, _, _, hat⟩ := SlAt.of_own encM_len hr.out
      have HAT := Lib.hid hat
      clear hlt K hr hat
      go_wp2_with fail
      go_ret
      exact ⟨⟨D, ⟨d, rfl⟩, HAT.out⟩, HB.out⟩

end

end Go.Proofs.YtiaehpdgpjhecaaGreat
