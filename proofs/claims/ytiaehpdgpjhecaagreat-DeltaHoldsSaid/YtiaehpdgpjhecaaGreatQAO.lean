/- Several texts in one: CarA, CarK, CarB, CarC, CarD, CarL, JoiK. -/
import Derived.Test.YtiaehpdgpjhecaaGreatQAN
import Derived.Test.YtiaehpdgpjhecaaGreatQAL
namespace Go.Proofs.YtiaehpdgpjhecaaGreat

section
open Go.RowKit

/-- A cart: the vector and the cloud of its context, its items. -/
abbrev Ca := (List (Int × Int) × List (Int × Int)) × List It
/-- A cart where it lies. -/
structure CaV where
  V : Option Addr
  nv : Nat
  vs : List (Int × Int)
  L : Option Addr
  nl : Nat
  ls : List (Int × Int)
  I : Option Addr
  ni : Nat
  xs : List ItV
def CaV.ca (c : CaV) : Ca := ((c.vs, c.ls), its c.xs)
/-- Its three slices. -/
abbrev CaV.v (c : CaV) : Value := .slice c.V c.vs.length c.nv
abbrev CaV.l (c : CaV) : Value := .slice c.L c.ls.length c.nl
abbrev CaV.i (c : CaV) : Value := .slice c.I c.xs.length c.ni
/-- A cart as a value: one flat row of three cells. -/
abbrev mkC (c : CaV) : Value := .agg #[c.v, c.l, c.i]
def CaOK (W : World) (c : CaV) : Prop := Holds W c.v c.vs ∧ Holds W c.l c.ls ∧ HoldsX W c.i c.xs
theorem CaOK.below {W W' : World} {c : CaV} (h : CaOK W c) (hb : Below W.heap.size W W') : CaOK W' c := ⟨h.1.below hb, h.2.1.below hb, h.2.2.below hb⟩
theorem CaOK.ctx {W : World} {c : CaV} (h : CaOK W c) : HoldsC W (.agg #[c.v, c.l]) c.vs c.ls := HoldsC.mk h.1 h.2.1
/-- A block that holds a cart. -/
def BlkC (W : World) (g : Nat) (c : CaV) : Prop := W.heap[g]? = some (.cells #[c.v, c.l, c.i] 28 (0, 0))
section
variable {W W' : World} {g : Nat} {c : CaV}
theorem BlkC.lt (h : BlkC W g c) : g < W.heap.size := (Array.getElem?_eq_some_iff.1 h).1
theorem BlkC.cell0 (h : BlkC W g c) : W.cell? ⟨g, 0, none⟩ = some c.v := by simp [World.cell?, show W.heap[g]? = _ from h]
theorem BlkC.cell1 (h : BlkC W g c) : W.cell? ⟨g, 1, none⟩ = some c.l := by simp [World.cell?, show W.heap[g]? = _ from h]
theorem BlkC.cell2 (h : BlkC W g c) : W.cell? ⟨g, 2, none⟩ = some c.i := by simp [World.cell?, show W.heap[g]? = _ from h]
theorem BlkC.frozen (h : BlkC W g c) (k : Nat) : W.frozen? ⟨g, k, none⟩ = false := by simp [World.frozen?, show W.heap[g]? = _ from h]
theorem BlkC.below (h : BlkC W g c) (hb : Below W.heap.size W W') : BlkC W' g c := (hb.block g h.lt).trans h
theorem BlkC.new (W : World) (c : CaV) : BlkC (W.alloc (.cells #[c.v, c.l, c.i] 28)) W.heap.size c := heap_alloc_new W _
end
/-- Carts in boxes, and nothing old has changed. -/
structure KK (w : World) (L : List (Nat × CaV)) (W : World) : Prop where
  box : ∀ p ∈ L, BlkC W p.1 p.2 ∧ CaOK W p.2
  bel : Below w.heap.size w W
section
variable {w W W' : World} {L : List (Nat × CaV)}
theorem KK.next (h : KK w L W) (hb : Below W.heap.size W W') : KK w L W' := ⟨fun p hp => ⟨(h.box p hp).1.below hb, (h.box p hp).2.below hb⟩, below_trans h.bel hb⟩
theorem KK.drew (h : KK w L W) : KK w L W.drew := h.next (Below.refl _ _).drew
theorem KK.far (h : KK w L W) (p : FarBy) : KK w L (Go.Proofs.YtiaehpdgpjhecaaGreat.far W p) := h.next (below_far W p)
theorem KK.alloc (h : KK w L W) (o : Obj) : KK w L (W.alloc o) := h.next ((Below.refl _ _).alloc (Nat.le_refl _) _)
theorem KK.blk (h : KK w L W) {g : Nat} {c : CaV} (hm : (g, c) ∈ L) : BlkC W g c := (h.box _ hm).1
theorem KK.ok (h : KK w L W) {g : Nat} {c : CaV} (hm : (g, c) ∈ L) : CaOK W c := (h.box _ hm).2
theorem KK.push (h : KK w L W) (c : CaV) (ho : CaOK W c) (n : Nat) (hn : W.heap.size = n) : KK w (L ++ [(n, c)]) (W.alloc (.cells #[c.v, c.l, c.i] 28)) := by
  subst hn
  have hb := (Below.refl W.heap.size W).alloc (Nat.le_refl _) (.cells #[c.v, c.l, c.i] 28)
  refine ⟨fun p hp => ?_, (h.next hb).bel⟩
  rcases List.mem_append.1 hp with k | k
  · exact (h.next hb).box p k
  · obtain rfl : p = (W.heap.size, c) := by simpa using k
    exact ⟨BlkC.new W c, ho.below hb⟩
theorem KK.new (w : World) (c : CaV) (ho : CaOK w c) : KK w [(w.heap.size, c)] (w.alloc (.cells #[c.v, c.l, c.i] 28)) :=
  KK.push (L := []) ⟨fun p hp => (by cases hp), Below.refl _ _⟩ c ho w.heap.size rfl
theorem KK.sp {g : Nat} {c : CaV} (h : KK w [(g, c)] W) : W.cell? ⟨g, 0, none⟩ = some c.v ∧ W.cell? ⟨g, 1, none⟩ = some c.l ∧ W.cell? ⟨g, 2, none⟩ = some c.i ∧ g < W.heap.size ∧ KK w [(g, c)] W :=
  ⟨(h.blk (by simp)).cell0, (h.blk (by simp)).cell1, (h.blk (by simp)).cell2, (h.blk (c := c) (by simp)).lt, h⟩
theorem KK.sp2 {g g' : Nat} {c d : CaV} (h : KK w [(g, c), (g', d)] W) : W.cell? ⟨g, 0, none⟩ = some c.v ∧ W.cell? ⟨g, 1, none⟩ = some c.l ∧ W.cell? ⟨g, 2, none⟩ = some c.i ∧ W.cell? ⟨g', 0, none⟩ = some d.v ∧ W.cell? ⟨g', 1, none⟩ = some d.l ∧ W.cell? ⟨g', 2, none⟩ = some d.i ∧ g < W.heap.size ∧ g' < W.heap.size ∧ KK w [(g, c), (g', d)] W :=
  ⟨(h.blk (c := c) (by simp)).cell0, (h.blk (c := c) (by simp)).cell1, (h.blk (c := c) (by simp)).cell2, (h.blk (c := d) (by simp)).cell0, (h.blk (c := d) (by simp)).cell1, (h.blk (c := d) (by simp)).cell2, (h.blk (c := c) (by simp)).lt, (h.blk (c := d) (by simp)).lt, h⟩
end

/-- Not too much: dots, items. -/
def FitsC (c : CaV) : Prop := c.vs.length ≤ 400 ∧ c.ls.length ≤ 400 ∧ Fits c.xs
/-- Which carts are valid. -/
def validK (c : Ca) : Bool := compC c.1.1 c.1.2 && (validL c.2 && (missC c.1.1 c.1.2 (dotsI c.2)).isEmpty)

theorem refEqual_x (v u : Value) (xs ys : List ItV) (b : Bool) (w : World) (h : HoldsX w v xs) (k : HoldsX w u ys) (hm : xs.length ≤ 100000) (hm' : ys.length ≤ 100000) (hb : decide (its xs = its ys) = b) :
    Calls Tryz.prog 48 #[v, u] w (OneB (.bool b) w) := by
  obtain ⟨A, c, rfl, h1, _⟩ := h
  obtain ⟨A', c', rfl, h2, _⟩ := k
  subst hb
  exact refEqual9 A A' xs ys c c' w h1 h2 hm hm'
/-- When two carts are equal. -/
def sameC (c d : Ca) : Bool := (decide (c.1.1 = d.1.1) && decide (c.1.2 = d.1.2)) && decide (c.2 = d.2)
theorem sameC_iff {c d : Ca} : sameC c d = true ↔ c = d := by
  obtain ⟨⟨a, b⟩, e⟩ := c
  obtain ⟨⟨a', b'⟩, e'⟩ := d
  simp [sameC]

set_option maxHeartbeats 1000000 in
theorem refEqual10 (c d : CaV) (b : Bool) (w : World) (hc : CaOK w c) (hd : CaOK w d) (hm : c.xs.length ≤ 100000) (hm' : d.xs.length ≤ 100000) (hb : sameC c.ca d.ca = b) :
    Calls Tryz.prog 15 #[mkC c, mkC d] w (OneB (.bool b) w) := by
  have h1 := (Below.refl w.heap.size w).alloc (Nat.le_refl _) (.cells #[c.v, c.l, c.i] 28)
  have K0 := Lib.hid (KK.push (L := [(w.heap.size, c)]) (KK.new w c hc) d (hd.below h1) (w.heap.size + 1) (by simp))
  obtain ⟨p, hp⟩ : ∃ p, (decide (c.vs = d.vs) && decide (c.ls = d.ls)) = p := ⟨_, rfl⟩
  obtain ⟨q, hq⟩ : ∃ q, decide (its c.xs = its d.xs) = q := ⟨_, rfl⟩
  have HP := Lib.hid hp
  have HQ := Lib.hid hq
  have HE := Lib.hid (show (p && q) = b from by rw [← hp, ← hq, ← hb]; rfl)
  clear hp hq hb h1 hc hd
  go_enter Tryz.func15, Tryz.ntmps15
  go_wp2_with fail
  generalize World.alloc (World.alloc w _) _ = w2 at K0 ⊢
  obtain ⟨x0, x1, x2, y0, y1, y2, xl, yl, _⟩ := K0.out.sp2
  go_wp2_with fail
  refine (ref3Equal _ _ c.vs c.ls d.vs d.ls p w2 (K0.out.ok (g := w.heap.size) (by simp)).ctx (K0.out.ok (g := w.heap.size + 1) (by simp)).ctx HP.out).mono ?_
  rintro e w3 ⟨rfl, hb⟩
  have K1 := Lib.hid (K0.out.next hb)
  clear hb K0 x0 x1 x2 y0 y1 y2 xl yl
  obtain ⟨x0, x1, x2, y0, y1, y2, xl, yl, _⟩ := K1.out.sp2
  cases p with
  | false =>
    go_wp2_with fail
    go_ret
    exact OneB.bool (by rw [← HE.out]; rfl) K1.out.bel
  | true =>
    go_wp2_with fail
    refine (refEqual_x _ _ c.xs d.xs q w3 (K1.out.ok (g := w.heap.size) (by simp)).2.2 (K1.out.ok (g := w.heap.size + 1) (by simp)).2.2 hm hm' HQ.out).mono ?_
    rintro e w4 ⟨rfl, hb⟩
    have K2 := Lib.hid (K1.out.next hb).bel
    clear hb K1 x0 x1 x2 y0 y1 y2 xl yl
    go_wp2_with fail
    go_ret
    exact OneB.bool (by rw [← HE.out]; rfl) K2.out

end

section
open Go.RowKit

/-- Two lists in a strict order with the same elements are the same. -/
theorem strict_ext {α : Type} {r : α → α → Prop} (irr : ∀ x, ¬ r x x) (tr : ∀ x y z, r x y → r y z → r x z) : ∀ {s t : List α}, s.Pairwise r → t.Pairwise r → (∀ d, d ∈ s ↔ d ∈ t) → s = t
  | [], [], _, _, _ => rfl
  | [], y :: t, _, _, h => by have := (h y).2 (by simp); simp at this
  | x :: s, [], _, _, h => by have := (h x).1 (by simp); simp at this
  | x :: s, y :: t, hs, ht, h => by
    have hs' := List.pairwise_cons.1 hs
    have ht' := List.pairwise_cons.1 ht
    have hxy : x = y := by
      have h1 := (h x).1 (by simp)
      have h2 := (h y).2 (by simp)
      rcases List.mem_cons.1 h1 with e | h1
      · exact e
      · rcases List.mem_cons.1 h2 with e | h2
        · exact e.symm
        · exact absurd (tr _ _ _ (ht'.1 x h1) (hs'.1 y h2)) (irr y)
    subst hxy
    have : s = t := strict_ext irr tr hs'.2 ht'.2 fun d => by
      have hd := h d
      simp only [List.mem_cons] at hd
      constructor
      · intro hm
        rcases hd.1 (.inr hm) with e | h'
        · subst e; exact absurd (hs'.1 d hm) (irr d)
        · exact h'
      · intro hm
        rcases hd.2 (.inr hm) with e | h'
        · subst e; exact absurd (ht'.1 d hm) (irr d)
        · exact h'
    rw [this]

/-- A mark's dot; a mark behind those whose dots are not greater; marks in order. -/
abbrev dotM (m : Mk) : Int × Int := (m.r, m.c)
def insM (l : List Mk) (m : Mk) : List Mk := l.takeWhile (fun y => !ltD (dotM m) (dotM y)) ++ m :: l.dropWhile (fun y => !ltD (dotM m) (dotM y))
def sortM (l : List Mk) : List Mk := l.foldl insM []
theorem insM_perm (l : List Mk) (m : Mk) : (insM l m).Perm (m :: l) := by
  have h := List.takeWhile_append_dropWhile (p := fun y => !ltD (dotM m) (dotM y)) (l := l)
  conv => rhs; rw [← h]
  exact List.perm_middle
theorem fold_insM_perm : ∀ (l s : List Mk), (l.foldl insM s).Perm (s ++ l)
  | [], s => by simp
  | m :: r, s => by
    rw [List.foldl_cons]
    refine (fold_insM_perm r (insM s m)).trans ?_
    refine ((insM_perm s m).append_right r).trans ?_
    exact List.perm_middle.symm
theorem sortM_perm (l : List Mk) : (sortM l).Perm l := by
  have := fold_insM_perm l []
  rwa [List.nil_append] at this
/-- Marks in the order of their dots, equal ones behind each other. -/
def SortW (l : List Mk) : Prop := l.Pairwise fun a b => ltD (dotM b) (dotM a) = false
theorem ltD_asymm {x y : Int × Int} (h : ltD x y = true) : ltD y x = false := by
  cases k : ltD y x with
  | false => rfl
  | true => have := ltD_trans h k; rw [ltD_irrefl] at this; cases this
theorem ltD_ntrans {x y z : Int × Int} (h1 : ltD y x = false) (h2 : ltD z y = false) : ltD z x = false := by
  cases k : ltD z x with
  | false => rfl
  | true =>
    rcases ltD_tri y x with e | e | e
    · rw [e] at h1; cases h1
    · subst e; rw [k] at h2; cases h2
    · have := ltD_trans k e; rw [this] at h2; cases h2
theorem SortW.tail {l : List Mk} {m : Mk} (h : SortW l) {z : Mk} (hz : z ∈ l.dropWhile (fun y => !ltD (dotM m) (dotM y))) : ltD (dotM m) (dotM z) = true := by
  induction l with
  | nil => simp at hz
  | cons a r ih =>
    rw [List.dropWhile_cons] at hz
    have h' := List.pairwise_cons.1 h
    by_cases ha : (!ltD (dotM m) (dotM a)) = true
    · rw [if_pos ha] at hz
      exact ih h'.2 hz
    · rw [if_neg ha] at hz
      have ha' : ltD (dotM m) (dotM a) = true := by simpa using ha
      rcases List.mem_cons.1 hz with e | hz
      · subst e; exact ha'
      · cases k : ltD (dotM m) (dotM z) with
        | true => rfl
        | false =>
          have := ltD_ntrans (h'.1 z hz) k
          rw [ha'] at this; cases this
theorem SortW.ins {l : List Mk} (h : SortW l) (m : Mk) : SortW (insM l m) := by
  unfold insM
  have ht : ∀ z ∈ l.takeWhile (fun y => !ltD (dotM m) (dotM y)), ltD (dotM m) (dotM z) = false := fun z hz => by
    have := tw_all (p := fun y => !ltD (dotM m) (dotM y)) hz
    simpa using this
  refine List.pairwise_append.2 ⟨h.sublist (List.takeWhile_sublist _), List.pairwise_cons.2 ⟨fun z hz => ltD_asymm (h.tail hz), h.sublist (List.dropWhile_sublist _)⟩, fun a ha b hb => ?_⟩
  rcases List.mem_cons.1 hb with e | hb
  · subst e; exact ht a ha
  · have h1 := h.tail hb
    cases k : ltD (dotM b) (dotM a) with
    | false => rfl
    | true => have := ltD_trans h1 k; rw [ht a ha] at this; cases this
theorem incM_ext {s t : List Mk} (hs : Inc (dotsM s)) (ht : Inc (dotsM t)) (h : ∀ d, d ∈ s ↔ d ∈ t) : s = t := by
  unfold Inc dotsM at hs ht
  rw [List.pairwise_map] at hs ht
  exact strict_ext (r := fun a b : Mk => ltD (a.r, a.c) (b.r, b.c) = true) (fun x hx => by rw [ltD_irrefl] at hx; cases hx) (fun x y z h1 h2 => ltD_trans h1 h2) hs ht h
theorem meetN_mem {a b a' b' : List Mk} (ha : ∀ m, m ∈ a ↔ m ∈ a') (hb : ∀ m, m ∈ b ↔ m ∈ b') : meetN a b = meetN a' b' := by
  rw [Bool.eq_iff_iff]
  simp only [meetN, hasD, List.any_eq_true, ha, hb]
theorem meetN_sort (a b : List Mk) : meetN (sortM a) (sortM b) = meetN a b := meetN_mem (fun _ => (sortM_perm a).mem_iff) (fun _ => (sortM_perm b).mem_iff)

/-- An item whose marks are put in order; one more item, or none; items put in order. -/
abbrev ordI (x : It) : It := (x.1, sortM x.2)
def stepI (o : Option (List It)) (x : It) : Option (List It) := o.bind fun l => if okI (ordI x) = true ∧ (l.any fun z => z.1 == x.1) = false ∧ (l.any fun z => meetN z.2 (sortM x.2)) = false then some (insN l (ordI x)) else none
def canonI (xs : List It) : Option (List It) := xs.foldl stepI (some [])
/-- Items that are loose. -/
def LooseI (xs : List It) : Prop := (∀ x ∈ xs, okI (ordI x) = true) ∧ xs.Pairwise fun x y => x.1 ≠ y.1 ∧ meetN x.2 y.2 = false
/-- What was put in order so far. -/
structure OrdInv (pre : List It) (l : List It) : Prop where
  loose : LooseI pre
  good : Good l
  mem : ∀ z, z ∈ l ↔ ∃ x ∈ pre, z = ordI x
theorem stepI_none : ∀ xs : List It, xs.foldl stepI none = none
  | [] => rfl
  | _ :: r => stepI_none r
theorem loose_snoc {pre : List It} {x : It} : LooseI (pre ++ [x]) ↔ LooseI pre ∧ okI (ordI x) = true ∧ ∀ y ∈ pre, y.1 ≠ x.1 ∧ meetN y.2 x.2 = false := by
  unfold LooseI
  rw [List.pairwise_append]
  constructor
  · rintro ⟨h1, h2, _, h3⟩
    exact ⟨⟨fun y hy => h1 y (by simp [hy]), h2⟩, h1 x (by simp), fun y hy => h3 y hy x (by simp)⟩
  · rintro ⟨⟨h1, h2⟩, h3, h4⟩
    refine ⟨fun y hy => ?_, h2, List.pairwise_singleton _ _, fun a ha b hb => ?_⟩
    · rcases List.mem_append.1 hy with k | k
      · exact h1 y k
      · obtain rfl : y = x := by simpa using k
        exact h3
    · obtain rfl : b = x := by simpa using hb
      exact h4 a ha
theorem OrdInv.step {pre l : List It} {x : It} (h : OrdInv pre l) : (stepI (some l) x = none ∧ ¬ LooseI (pre ++ [x])) ∨ (stepI (some l) x = some (insN l (ordI x)) ∧ OrdInv (pre ++ [x]) (insN l (ordI x))) := by
  by_cases hc : okI (ordI x) = true ∧ (l.any fun z => z.1 == x.1) = false ∧ (l.any fun z => meetN z.2 (sortM x.2)) = false
  · refine .inr ⟨by unfold stepI; rw [Option.bind_some, if_pos hc], ?_⟩
    obtain ⟨h1, h2, h3⟩ := hc
    rw [List.any_eq_false] at h2
    have hn : ∀ y ∈ l, y.1 ≠ (ordI x).1 := fun y hy e => h2 y hy (by simp [e])
    refine ⟨loose_snoc.2 ⟨h.loose, h1, fun y hy => ?_⟩, h.good.ins h1 hn h3, fun z => ?_⟩
    · have hz := (h.mem (ordI y)).2 ⟨y, hy, rfl⟩
      rw [List.any_eq_false] at h3
      refine ⟨hn (ordI y) hz, ?_⟩
      have := h3 (ordI y) hz
      rw [Bool.not_eq_true, meetN_sort] at this
      exact this
    · rw [mem_insN, h.mem]
      constructor
      · rintro (⟨y, hy, e⟩ | e)
        · exact ⟨y, by simp [hy], e⟩
        · exact ⟨x, by simp, e⟩
      · rintro ⟨y, hy, e⟩
        rcases List.mem_append.1 hy with k | k
        · exact .inl ⟨y, k, e⟩
        · obtain rfl : y = x := by simpa using k
          exact .inr e
  · refine .inl ⟨by unfold stepI; rw [Option.bind_some, if_neg hc], fun hl => hc ?_⟩
    obtain ⟨_, h1, h2⟩ := loose_snoc.1 hl
    refine ⟨h1, ?_, ?_⟩
    · rw [List.any_eq_false]
      intro z hz e
      obtain ⟨y, hy, rfl⟩ := (h.mem z).1 hz
      exact (h2 y hy).1 (by simpa using e)
    · rw [List.any_eq_false]
      intro z hz
      obtain ⟨y, hy, rfl⟩ := (h.mem z).1 hz
      rw [Bool.not_eq_true, meetN_sort]
      exact (h2 y hy).2
theorem loose_left {pre xs : List It} (h : LooseI (pre ++ xs)) : LooseI pre := ⟨fun x hx => h.1 x (by simp [hx]), (List.pairwise_append.1 h.2).1⟩
theorem fold_ord : ∀ (xs : List It) {pre l : List It}, OrdInv pre l → (∃ k, xs.foldl stepI (some l) = some k ∧ OrdInv (pre ++ xs) k) ∨ (xs.foldl stepI (some l) = none ∧ ¬ LooseI (pre ++ xs))
  | [], pre, l, h => .inl ⟨l, rfl, by simpa using h⟩
  | x :: r, pre, l, h => by
    rw [List.foldl_cons]
    rcases h.step (x := x) with ⟨h1, h2⟩ | ⟨h1, h2⟩
    · rw [h1, stepI_none]
      exact .inr ⟨rfl, fun hl => h2 (loose_left (xs := r) (by simpa using hl))⟩
    · rw [h1]
      rcases fold_ord r h2 with ⟨k, e, hk⟩ | ⟨e, hk⟩
      · exact .inl ⟨k, e, by simpa using hk⟩
      · exact .inr ⟨e, fun hl => hk (by simpa using hl)⟩
theorem canonI_cases (xs : List It) : (∃ k, canonI xs = some k ∧ OrdInv xs k) ∨ (canonI xs = none ∧ ¬ LooseI xs) := by
  have h0 : OrdInv [] [] := ⟨⟨fun x hx => (by cases hx), List.Pairwise.nil⟩, good_nil, fun z => ⟨fun hz => (by cases hz), fun ⟨x, hx, _⟩ => (by cases hx)⟩⟩
  simpa [canonI] using fold_ord xs h0
theorem OrdInv.canon {xs k : List It} (h : OrdInv xs k) : canonI xs = some k := by
  rcases canonI_cases xs with ⟨k', e, hk⟩ | ⟨_, hn⟩
  · rw [e]
    congr 1
    exact IncN.ext hk.good.2.1 h.good.2.1 fun d => by rw [hk.mem, h.mem]
  · exact absurd h.loose hn
/-- The same items in another order, their marks in another order. -/
theorem OrdInv.other {xs ys k : List It} (h : OrdInv xs k) (hl : LooseI ys) (hm : ∀ z, (∃ y ∈ ys, z = ordI y) ↔ ∃ x ∈ xs, z = ordI x) : canonI ys = some k :=
  OrdInv.canon ⟨hl, h.good, fun z => by rw [h.mem, hm]⟩

theorem missC_nil {v l m : List (Int × Int)} : (missC v l m).isEmpty = true ↔ ∀ d ∈ m, hasC v l d.1 d.2 = true := by
  rw [List.isEmpty_iff]
  constructor
  · intro h d hd
    cases e : hasC v l d.1 d.2 with
    | true => rfl
    | false =>
      have hm : d ∈ missC v l m := by
        unfold missC
        rw [mem_setL, List.mem_filter]
        exact ⟨hd, by simp [e]⟩
      rw [h] at hm; cases hm
  · intro h
    rw [List.eq_nil_iff_forall_not_mem]
    intro d hd
    unfold missC at hd
    rw [mem_setL, List.mem_filter] at hd
    rw [h d hd.1] at hd
    simp at hd
theorem validK_iff {c : Ca} : validK c = true ↔ compC c.1.1 c.1.2 = true ∧ Good c.2 ∧ ∀ d ∈ dotsI c.2, hasC c.1.1 c.1.2 d.1 d.2 = true := by
  unfold validK
  rw [Bool.and_eq_true, Bool.and_eq_true, missC_nil, validL_good]
end

section
open Go.RowKit

end

section
open Go.RowKit

/-- A cart in its box, and nothing old has changed; it lies where it lay. -/
structure KB1 (w : World) (c : CaV) (W : World) : Prop where
  blk : BlkC W w.heap.size c
  bel : Below w.heap.size w W
  ok0 : CaOK w c
section
variable {w W W' : World} {c : CaV}
theorem KB1.new (w : World) (c : CaV) (ho : CaOK w c) : KB1 w c (w.alloc (.cells #[c.v, c.l, c.i] 28)) := ⟨BlkC.new w c, (Below.refl _ w).alloc (Nat.le_refl _) _, ho⟩
theorem KB1.ok (h : KB1 w c W) : CaOK W c := h.ok0.below h.bel
theorem KB1.next (h : KB1 w c W) (hb : Below W.heap.size W W') : KB1 w c W' := ⟨h.blk.below hb, below_trans h.bel hb, h.ok0⟩
theorem KB1.drew (h : KB1 w c W) : KB1 w c W.drew := h.next (Below.refl _ _).drew
theorem KB1.alloc (h : KB1 w c W) (o : Obj) : KB1 w c (W.alloc o) := h.next ((Below.refl _ _).alloc (Nat.le_refl _) _)
theorem KB1.size (h : KB1 w c W) : w.heap.size + 1 ≤ W.heap.size := h.blk.lt
theorem KB1.grown (h : KB1 w c W) {row : Option Nat} (hg : W.grownBy W' row) (hr : ∀ k, row = some k → w.heap.size + 1 ≤ k) : KB1 w c W' := by
  have hz := h.size
  exact ⟨(hg.block _ h.blk.lt (fun e => by have := hr _ e.symm; omega)).trans h.blk, h.bel.grown hg (by omega) (fun k hk => by have := hr k hk; omega), h.ok0⟩
theorem KB1.sp (h : KB1 w c W) : W.cell? ⟨w.heap.size, 0, none⟩ = some c.v ∧ W.cell? ⟨w.heap.size, 1, none⟩ = some c.l ∧ W.cell? ⟨w.heap.size, 2, none⟩ = some c.i ∧ w.heap.size < W.heap.size ∧ KB1 w c W := ⟨h.blk.cell0, h.blk.cell1, h.blk.cell2, h.blk.lt, h⟩
theorem KB1.items (h : KB1 w c W) : ItemsAt W c.I c.xs := by
  obtain ⟨A, n, e, h1, _⟩ := h.ok.2.2
  injection e with e1 e2 e3
  rw [e1]; exact h1
end

/-- All marks. -/
def marksX (xs : List ItV) : List Mk := xs.flatMap (·.ms)
theorem marksX_step {xs : List ItV} {k : Nat} {x : ItV} (h : xs[k]? = some x) : marksX (xs.take (k + 1)) = marksX (xs.take k) ++ x.ms := by unfold marksX; rw [take_step h]; simp
theorem marksX_len {xs : List ItV} (hf : ∀ x ∈ xs, x.ms.length ≤ 100) : (marksX xs).length ≤ 100 * xs.length := by
  induction xs with
  | nil => simp [marksX]
  | cons x r ih =>
    have h1 := ih fun y hy => hf y (List.mem_cons_of_mem _ hy)
    have h2 := hf x (by simp)
    unfold marksX at h1 ⊢
    rw [List.flatMap_cons, List.length_append, List.length_cons]; omega

end

section
open Go.RowKit

/-- The quantity of an item, or the error. -/
def qtyK (l : List It) (nm : List UInt8) : Int × Nat := match l.find? (fun y => y.1 == nm) with
  | some x => ((newR x.2).1.q, 0)
  | none => (0, 9)

/-- The dots of an item, or of all. -/
def dotsK (l : List It) (nm : List UInt8) : List (Int × Int) := if nm = [] then dotsI l else match l.find? (fun y => y.1 == nm) with
  | some x => dotsM x.2
  | none => []

end

section
open Go.RowKit

/-- Items in order: each is found by its name, has a quantity and dots. -/
theorem Good.find {l : List It} (h : Good l) {k : Nat} {x : It} (hx : l[k]? = some x) : l.find? (fun y => y.1 == x.1) = some x := by
  have hp := h.2.1
  have hm := List.mem_of_getElem? hx
  clear h hx
  induction l with
  | nil => cases hm
  | cons y r ih =>
    have hp' := List.pairwise_cons.1 hp
    rcases List.mem_cons.1 hm with rfl | hr
    · simp
    · have hne : (y.1 == x.1) = false := by
        rw [beq_eq_false_iff_ne]
        intro e
        have := hp'.1 x hr
        rw [e, beforeN_irrefl] at this; cases this
      rw [List.find?_cons, hne]
      exact ih hp'.2 hr
theorem Good.qty {l : List It} (h : Good l) {k : Nat} {x : It} (hx : l[k]? = some x) : qtyK l x.1 = ((newR x.2).1.q, 0) := by unfold qtyK; rw [h.find hx]
theorem Good.dots {l : List It} (h : Good l) {k : Nat} {x : It} (hx : l[k]? = some x) : dotsK l x.1 = dotsM x.2 ∧ 0 < (dotsM x.2).length := by
  have hk := h.1 x (List.mem_of_getElem? hx)
  have hn : x.1 ≠ [] := fun e => by
    have := (okI_parts hk).1
    rw [e] at this
    revert this; decide
  unfold dotsK
  rw [if_neg hn, h.find hx]
  exact ⟨rfl, by rw [dotsM_len]; exact (okI_parts hk).2.1⟩
end

section
open Go.RowKit

/-- The newer one of two marks. -/
def maxM (x y : Mk) : Mk := if newerN y x = true then y else x
theorem maxM_self (x : Mk) : maxM x x = x := by unfold maxM; simp
theorem maxM_assoc (x y z : Mk) : maxM (maxM x y) z = maxM x (maxM y z) := by
  unfold maxM
  cases h1 : newerN y x with
  | true =>
    cases h2 : newerN z y with
    | true => simp [h2, newerN_trans h2 h1]
    | false => simp [h1, h2]
  | false =>
    cases h2 : newerN z y with
    | true => simp
    | false => simp [h1, newerN_negtrans h2 h1]
theorem maxM_dot {x y : Mk} (h : dotM x = dotM y) : dotM (maxM x y) = dotM x := by
  unfold maxM
  split
  · exact h.symm
  · rfl
theorem maxM_or (x y : Mk) : maxM x y = x ∨ maxM x y = y := by
  unfold maxM
  split
  · exact .inr rfl
  · exact .inl rfl

/-- What stays of a name and a dot: p, q tell whether the first, the second one has seen the dot. -/
def meetO (p q : Bool) : Option Mk → Option Mk → Option Mk
  | some x, some y => some (maxM x y)
  | some x, none => if q = true then none else some x
  | none, some y => if p = true then none else some y
  | none, none => none
theorem meetO_self {p : Bool} {x : Option Mk} : meetO p p x x = x := by
  cases x <;> simp [meetO, maxM_self]
theorem meetO_assoc {p q r : Bool} {x y z : Option Mk} (hx : x.isSome = true → p = true) (hy : y.isSome = true → q = true) (hz : z.isSome = true → r = true) :
    meetO (p || q) r (meetO p q x y) z = meetO p (q || r) x (meetO q r y z) := by
  cases x <;> cases y <;> cases z <;> cases p <;> cases q <;> cases r <;> simp_all [meetO, maxM_assoc]
theorem meetO_seen {p q : Bool} {x y : Option Mk} (hx : x.isSome = true → p = true) (hy : y.isSome = true → q = true) : (meetO p q x y).isSome = true → (p || q) = true := by
  cases x <;> cases y <;> cases p <;> cases q <;> simp_all [meetO]
theorem meetO_mem {p q : Bool} {x y : Option Mk} {m : Mk} (h : meetO p q x y = some m) : x = some m ∨ y = some m := by
  cases x with
  | none =>
    cases y with
    | none => cases h
    | some y =>
      simp only [meetO] at h
      split at h
      · cases h
      · exact .inr h
  | some x =>
    cases y with
    | none =>
      simp only [meetO] at h
      split at h
      · cases h
      · exact .inl h
    | some y =>
      simp only [meetO] at h
      rcases maxM_or x y with e | e <;> rw [e] at h
      · exact .inl h
      · exact .inr h

/-- The mark with a dot in a list; in the item with a name. -/
def markM (l : List Mk) (d : Int × Int) : Option Mk := l.find? fun m => decide (dotM m = d)
def markL (l : List It) (nm : List UInt8) (d : Int × Int) : Option Mk := (l.find? fun x => x.1 == nm).bind fun x => markM x.2 d
/-- Whether a cart has seen a dot. -/
def hasK (c : Ca) (d : Int × Int) : Bool := hasC c.1.1 c.1.2 d.1 d.2

theorem markM_some {l : List Mk} {d : Int × Int} {m : Mk} (h : markM l d = some m) : m ∈ l ∧ dotM m = d :=
  ⟨List.mem_of_find?_eq_some h, by simpa using List.find?_some h⟩
theorem marks_inj {l : List Mk} (h : (dotsM l).Nodup) {a b : Mk} (ha : a ∈ l) (hb : b ∈ l) (e : dotM a = dotM b) : a = b := by
  induction l with
  | nil => cases ha
  | cons z l ih =>
    have h' : (dotM z :: dotsM l).Nodup := h
    rw [List.nodup_cons] at h'
    rcases List.mem_cons.1 ha with ha' | ha'
    · rcases List.mem_cons.1 hb with hb' | hb'
      · rw [ha', hb']
      · exact absurd (by rw [← ha', e]; exact List.mem_map.2 ⟨b, hb', rfl⟩) h'.1
    · rcases List.mem_cons.1 hb with hb' | hb'
      · exact absurd (by rw [← hb', ← e]; exact List.mem_map.2 ⟨a, ha', rfl⟩) h'.1
      · exact ih h'.2 ha' hb'
theorem markM_mem {l : List Mk} (h : Inc (dotsM l)) {m : Mk} (hm : m ∈ l) : markM l (dotM m) = some m := by
  cases hf : markM l (dotM m) with
  | none =>
    have := List.find?_eq_none.1 hf m hm
    simp at this
  | some z =>
    obtain ⟨hz, hd⟩ := markM_some hf
    have hn := inc_nodup h
    congr 1
    exact marks_inj hn hz hm hd

theorem Good.findN {l : List It} (h : Good l) {x : It} (hx : x ∈ l) : l.find? (fun y => y.1 == x.1) = some x := by
  obtain ⟨k, hk⟩ := List.getElem?_of_mem hx
  exact h.find hk
theorem markL_some {l : List It} {nm : List UInt8} {d : Int × Int} {m : Mk} (h : markL l nm d = some m) : ∃ x ∈ l, x.1 = nm ∧ m ∈ x.2 ∧ dotM m = d := by
  unfold markL at h
  cases hf : l.find? (fun x => x.1 == nm) with
  | none => rw [hf] at h; cases h
  | some x =>
    rw [hf] at h
    obtain ⟨h1, h2⟩ := markM_some (show markM x.2 d = some m from h)
    exact ⟨x, List.mem_of_find?_eq_some hf, by simpa using List.find?_some hf, h1, h2⟩
theorem Good.mark {l : List It} (h : Good l) {x : It} (hx : x ∈ l) {m : Mk} (hm : m ∈ x.2) : markL l x.1 (dotM m) = some m := by
  unfold markL
  rw [h.findN hx]
  exact markM_mem (okI_parts (h.1 x hx)).2.2.2 hm
theorem Good.mark_iff {l : List It} (h : Good l) {nm : List UInt8} {d : Int × Int} {m : Mk} : markL l nm d = some m ↔ ∃ x ∈ l, x.1 = nm ∧ m ∈ x.2 ∧ dotM m = d :=
  ⟨markL_some, fun ⟨x, hx, e, hm, hd⟩ => by subst e hd; exact h.mark hx hm⟩
/-- Lists of items that have the same marks are the same. -/
theorem Good.ext {l k : List It} (h : Good l) (h' : Good k) (he : ∀ nm d, markL l nm d = markL k nm d) : l = k := by
  have sub : ∀ {l k : List It}, Good l → Good k → (∀ nm d, markL l nm d = markL k nm d) → ∀ x ∈ l, ∃ y ∈ k, y.1 = x.1 ∧ ∀ m ∈ x.2, m ∈ y.2 := by
    intro l k h h' he x hx
    obtain ⟨m0, hm0⟩ : ∃ m, m ∈ x.2 := by
      have := (okI_parts (h.1 x hx)).2.1
      exact ⟨x.2[0], List.getElem_mem _⟩
    have h1 := h.mark hx hm0
    rw [he] at h1
    obtain ⟨y, hy, hyn, _⟩ := markL_some h1
    refine ⟨y, hy, hyn, fun m hm => ?_⟩
    have h2 := h.mark hx hm
    rw [he] at h2
    obtain ⟨z, hz, hzn, hmz, _⟩ := markL_some h2
    obtain rfl : z = y := h'.2.1.name hz hy (hzn.trans hyn.symm)
    exact hmz
  have mem : ∀ {l k : List It}, Good l → Good k → (∀ nm d, markL l nm d = markL k nm d) → ∀ x ∈ l, x ∈ k := by
    intro l k h h' he x hx
    obtain ⟨y, hy, hyn, hxy⟩ := sub h h' he x hx
    obtain ⟨z, hz, hzn, hyz⟩ := sub h' h (fun nm d => (he nm d).symm) y hy
    obtain rfl : z = x := h.2.1.name hz hx (hzn.trans hyn)
    have e : y.2 = z.2 := incM_ext (okI_parts (h'.1 y hy)).2.2.2 (okI_parts (h.1 z hx)).2.2.2 fun m => ⟨hyz m, hxy m⟩
    have e2 : y = z := Prod.ext hyn e
    rw [← e2]; exact hy
  exact h.2.1.ext h'.2.1 fun x => ⟨mem h h' he x, mem h' h (fun nm d => (he nm d).symm) x⟩
/-- Valid carts that have seen the same dots and have the same marks are the same. -/
theorem validK_ext {c d : Ca} (h : validK c = true) (h' : validK d = true) (hh : ∀ p, hasK c p = hasK d p) (hm : ∀ nm p, markL c.2 nm p = markL d.2 nm p) : c = d := by
  obtain ⟨h1, h2, _⟩ := validK_iff.1 h
  obtain ⟨k1, k2, _⟩ := validK_iff.1 h'
  obtain ⟨e1, e2⟩ := comp_unique h1 k1 fun r q => hh (r, q)
  have e3 := h2.ext k2 hm
  exact Prod.ext (Prod.ext e1 e2) e3
theorem validK_seen {c : Ca} (h : validK c = true) (nm : List UInt8) (p : Int × Int) : (markL c.2 nm p).isSome = true → hasK c p = true := by
  intro hs
  obtain ⟨_, h2, h3⟩ := validK_iff.1 h
  cases hm : markL c.2 nm p with
  | none => rw [hm] at hs; cases hs
  | some m =>
    obtain ⟨x, hx, _, hmx, hd⟩ := markL_some hm
    refine h3 p ?_
    rw [dotsI_all, mem_setL]
    exact List.mem_flatMap.2 ⟨x, hx, by rw [← hd]; exact List.mem_map.2 ⟨m, hmx, rfl⟩⟩

end

end Go.Proofs.YtiaehpdgpjhecaaGreat
