/- Several texts in one: VecD, VecE, VecF. -/
import Derived.Test.YtiaehpdgpjhecaaGreatPAH
import Derived.Test.YtiaehpdgpjhecaaGreatShelf
import Derived.Deep.AppendLies
import Derived.Sort.OwnSorted
import Derived.Lib.SmallJoins
namespace Go.Proofs.YtiaehpdgpjhecaaGreat

section
open Go.RowKit Go.Maps Go.Sort

theorem cmpI_neg {a b : Int} : cmpI a b < 0 ↔ a < b := by
  unfold cmpI
  by_cases h : a < b
  · simp [h]
  · by_cases h2 : b < a <;> simp [h, h2]

set_option maxHeartbeats 400000 in
theorem vecLess (r c r' c' : Int) (w : World) :
    Calls Tryz.prog 215 #[.agg #[.int .i64 r, .int .i64 c], .agg #[.int .i64 r', .int .i64 c']] w fun e w' => e = .returned (.int .i64 (cmpI r r')) ∧ ∃ q os', w' = Sort.grow (w.drewN q) os' := by
  go_enter Tryz.func215, Tryz.ntmps215
  go_wp2_with (go_at_call 168; refine (cmpCompare _ _ _).mono ?_; rintro e w' ⟨rfl, rfl⟩)
  go_ret
  exact ⟨rfl, 0, _, by rw [Sort.alloc_eq_grow, Sort.alloc_eq_grow, Sort.grow_grow]; rfl⟩

theorem ltOf_vec : (ltOf fun p q : Int × Int => cmpI p.1 q.1) = fun p q => decide (p.1 < q.1) := by
  funext p q
  simp only [ltOf]
  rw [Bool.eq_iff_iff]
  simp [cmpI_neg]
theorem swoV : SWO (fun p q : Int × Int => decide (p.1 < q.1)) where
  irrefl x := by simp
  trans x y z h1 h2 := by simp at *; omega
  ntrans x y z h1 h2 := by simp at *; omega

theorem vecLays (blk off size : Nat) (w : World) : CmpLays Tryz.prog 215 #[] encD 2 (fun p q : Int × Int => cmpI p.1 q.1) blk off size w :=
  fun _ _ _ _ x y => vecLess x.1 x.2 y.1 y.2 _

set_option maxRecDepth 100000 in
set_option maxHeartbeats 2000000 in
theorem sortVecEq (blk cap : Nat) (d : Array (Int × Int)) (w : World) (hH : HoldsK encD 2 w blk 0 d) (hblk : blk < w.heap.size) (hsz : d.size < 4611686018427387904) :
    Calls Tryz.prog 214 #[.slice (some ⟨blk, 0, none⟩) d.size cap, .func (.func 215) #[] #[]] w fun e w' =>
      e = .returned (.tuple #[]) ∧ ∃ n os, w' = sortWorldK encD 2 w blk 0 n (pdq (ltOf fun p q : Int × Int => cmpI p.1 q.1) d 0 d.size (Lib.bitLen d.size) true true) os := by
  have eg : ∀ args w, (callFunc 215 args).run Tryz.prog w = .ok (.enter 215 args) w := enters_of Tryz.func215 (by kernel_rfl) rfl
  have hO : SWO (ltOf fun p q : Int × Int => cmpI p.1 q.1) := by rw [ltOf_vec]; exact swoV
  have hlim : Lib.bitLen d.size < 4611686018427387904 := Nat.lt_of_le_of_lt (Lib.bitLen_le d.size 62 (by omega) (by omega)) (by omega)
  have hp := AnyQ.pdqsortCmpFunc_all (P := Tryz.prog) (ρ := Tryz.sortDots_ren) { Tryz.sortDots with } 2 Tryz.isAgg30 Tryz.sizeOf30 encD (fun p q : Int × Int => cmpI p.1 q.1) 215 #[] hO blk 0 cap d w eg (vecLays blk 0 d.size w) ⟨encD_len, encD_one, hH, hblk⟩ (d.size + 1) 0 d.size (Lib.bitLen d.size) d w (by omega) rfl (SWK.start hH) (Nat.zero_le _) (Nat.le_refl _) hsz hlim (Or.inl rfl)
  have hl : Calls Tryz.prog 126 #[.int .u64 (d.size : Int)] w fun e w' => e = .returned (.int .i64 (Lib.bitLen d.size : Nat)) ∧ w' = w := by
    have h := Any.bits_Len (SlLaysF0.n15.bits (P := Tryz.prog) (ρ := Tryz.sortDots_ren) { Tryz.sortDots with }) (d.size : Int) w (by omega) (by omega)
    rw [Int.toNat_natCast] at h
    exact h
  have wr : IntKind.u64.wrap (d.size : Int) = d.size := by simp [IntKind.wrap, IntKind.bits, IntKind.signed]; omega
  have hp' : Calls Tryz.prog 221 #[.slice (some ⟨blk, 0, none⟩) d.size cap, .int .i64 0, .int .i64 d.size, .int .i64 (Lib.bitLen d.size), .func (.func 215) #[] #[]] w _ := hp
  clear hp hH
  go_enter Tryz.func214, Tryz.ntmps214
  go_wp2_with (first | (go_at_call 126; refine hl.mono ?_; rintro e w' ⟨rfl, rfl⟩) | (go_at_call 221; refine hp'.mono ?_; rintro e w' ⟨rfl, n, os, rfl⟩))
  go_end0
  exact ⟨rfl, n, os, rfl⟩

theorem sortVec (g cap base : Nat) (xs : List (Int × Int)) (w : World) (h : w.ownsRow base 30 2 (.slice (some ⟨g, 0, none⟩) xs.length cap) xs.length (cellsOf encD xs)) (hm : xs.length ≤ 1000000) :
    Calls Tryz.prog 214 #[.slice (some ⟨g, 0, none⟩) xs.length cap, .func (.func 215) #[] #[]] w fun e w' => e = .returned (.tuple #[]) ∧
      ∃ ys : List (Int × Int), ys.Perm xs ∧ ys.Pairwise (fun p q => ¬ q.1 < p.1) ∧ w'.ownsRow base 30 2 (.slice (some ⟨g, 0, none⟩) xs.length cap) ys.length (cellsOf encD ys) ∧ w.grownBy w' (some g) := by
  have hg : g < w.heap.size := by
    rcases h.2 with ⟨h0, _⟩ | ⟨g', cap', cur, hv, hb, hg, _⟩
    · cases h0
    · cases hv; exact (Array.getElem?_eq_some_iff.1 hg).1
  have hc := sortVecEq g cap xs.toArray w (holdsK_of_own encD_len (by omega) h) hg (by simp; omega)
  have hO : SWO (ltOf fun p q : Int × Int => cmpI p.1 q.1) := by rw [ltOf_vec]; exact swoV
  obtain ⟨hp, hs⟩ := pdq_sorts (ltOf fun p q : Int × Int => cmpI p.1 q.1) hO xs.toArray 0 xs.toArray.size (Lib.bitLen xs.toArray.size) true true (Nat.zero_le _) (Nat.le_refl _) (Or.inl rfl)
  generalize pdq (ltOf fun p q : Int × Int => cmpI p.1 q.1) xs.toArray 0 xs.toArray.size (Lib.bitLen xs.toArray.size) true true = d at hp hs hc
  obtain ⟨hsz, _, hperm⟩ := hp
  have e1 : d.extract 0 xs.toArray.size = d := by rw [← hsz]; exact Array.extract_size
  rw [e1, Array.extract_size] at hperm
  refine Calls.mono (show Calls Tryz.prog 214 #[.slice (some ⟨g, 0, none⟩) xs.length cap, .func (.func 215) #[] #[]] w _ from hc) ?_
  rintro e w' ⟨he, n, os, rfl⟩
  obtain ⟨h1, h2⟩ := own_of_sort (m := n) (os := os) (d := d) encD_len (by omega) h (by simpa using hsz)
  refine ⟨he, d.toList, by simpa using hperm, ?_, h1, h2⟩
  rw [List.pairwise_iff_getElem]
  intro i j hi hj hij
  have := hs i j (Nat.zero_le _) hij (by rw [← hsz]; simpa using hj)
  rw [ltOf_vec] at this
  simp only [Array.length_toList] at hi hj
  rw [getElem!_pos d i hi, getElem!_pos d j hj] at this
  simpa using this

/-- What was met so far of a map: no key twice, each with its element. -/
def Coll (l : List (Int × Int)) (left : Lit → Bool) (ys : List (Int × Int)) : Prop :=
  ys.Pairwise (fun p q => p.1 ≠ q.1) ∧ (∀ p ∈ ys, p.2 = maxC l p.1 0 ∧ (∃ q ∈ l, q.1 = p.1) ∧ left (.int .i64 p.1) = false) ∧ ∀ q ∈ l, left (.int .i64 q.1) = false → ∃ p ∈ ys, p.1 = q.1
theorem Coll.start {D : DataW Unit} {l : List (Int × Int)} (h : MapIs D l) : Coll l (Maps.has D) [] :=
by
  refine ⟨List.Pairwise.nil, fun p hp => (by cases hp), fun q hq hl => ?_⟩
  rw [h.2] at hl
  have : (l.any fun p => p.1 == q.1) = true := List.any_eq_true.2 ⟨q, hq, by simp⟩
  rw [this] at hl; cases hl
theorem sameKey_self (x : Int) : (Lit.int .i64 x).sameKey (.int .i64 x) = true := by simp [Lit.sameKey]
theorem Coll.step {D : DataW Unit} {l : List (Int × Int)} {left : Lit → Bool} {ys : List (Int × Int)} (hD : MapIs D l) (h : Coll l left ys) {x c : Int} (hl : left (.int .i64 x) = true) (hh : ∃ q ∈ l, q.1 = x) (hat : ∀ zd, D.atKey (.int .i64 x) zd = .lit (.int .i64 c)) :
    Coll l (fun z => left z && !z.sameKey (.int .i64 x)) (ys ++ [(x, c)]) := by
  obtain ⟨h1, h2, h3⟩ := h
  have hc := hD.val (hat _)
  refine ⟨List.pairwise_append.2 ⟨h1, by simp, fun p hp q hq => ?_⟩, fun p hp => ?_, fun q hq hl' => ?_⟩
  · simp at hq; subst hq
    intro e
    have := (h2 p hp).2.2
    rw [e] at this
    simp only at this
    rw [hl] at this; cases this
  · rcases List.mem_append.1 hp with hp | hp
    · obtain ⟨a, b, c'⟩ := h2 p hp
      exact ⟨a, b, by simp [c']⟩
    · simp at hp; subst hp
      exact ⟨hc, hh, by simp [sameKey_self]⟩
  · by_cases e : q.1 = x
    · exact ⟨(x, c), by simp, e.symm⟩
    · have hne : (Lit.int .i64 q.1).sameKey (.int .i64 x) = false := sameKey_ne (lit_ne e)
      simp only [hne, Bool.not_false, Bool.and_true] at hl'
      obtain ⟨p, hp, e2⟩ := h3 q hq hl'
      exact ⟨p, by simp [hp], e2⟩
theorem coll_sorted {l ys zs : List (Int × Int)} {left : Lit → Bool} (hv : ∀ p ∈ l, validD p.1 p.2 = true) (h : Coll l left ys) (hl : ∀ k, left k = false) (hp : zs.Perm ys) (hs : zs.Pairwise fun p q => ¬ q.1 < p.1) : zs = ofV l := by
  obtain ⟨h1, h2, h3⟩ := h
  have hn : zs.Pairwise fun p q => p.1 ≠ q.1 := hp.symm.pairwise h1 (fun h => Ne.symm h)
  refine ofV_unique hv ?_ (fun p hp' => ?_) (fun q hq => ?_)
  · refine (hs.and hn).imp ?_
    rintro a b ⟨h, h'⟩
    omega
  · obtain ⟨a, b, _⟩ := h2 p (hp.mem_iff.1 hp')
    exact ⟨a, b⟩
  · obtain ⟨p, hp', e⟩ := h3 q hq (hl _)
    exact ⟨p, hp.mem_iff.2 hp', e⟩

end

section
open Go.RowKit Go.Maps

/-- A row of the call's own, and all that was there as it was. -/
def MineV (w w' : World) (v : Value) (xs : List (Int × Int)) : Prop := w'.ownsRow w.heap.size 30 2 v xs.length (cellsOf encD xs) ∧ RowKit.Below w.heap.size w w'
theorem MineV.holds {w w' : World} {v : Value} {xs : List (Int × Int)} (h : MineV w w' v xs) : Holds w' v xs := by
  obtain ⟨A, c, rfl, h1, h2, h3⟩ := SlAt.of_own encD_len h.1
  exact ⟨A, c, rfl, h3, h1, h2⟩
theorem MineV.base {w0 w w' : World} {v : Value} {xs : List (Int × Int)} (hb : RowKit.Below w0.heap.size w0 w) (h : MineV w w' v xs) : MineV w0 w' v xs := by
  refine ⟨⟨h.1.1, ?_⟩, below_trans hb h.2⟩
  rcases h.1.2 with h1 | ⟨g, cap, cur, hv, hg, r⟩
  · exact .inl h1
  · exact .inr ⟨g, cap, cur, hv, Nat.le_trans hb.size hg, r⟩

set_option maxRecDepth 100000 in
set_option maxHeartbeats 2000000 in
theorem vecOrdered (b n : Nat) (D : DataW Unit) (l : List (Int × Int)) (w : World) (hown : w.ownsMap Tryz.prog 3 (plainElem Tryz.prog 3) b n D) (hD : MapIs D l) (hv : ∀ p ∈ l, validD p.1 p.2 = true) (hs : Maps.size D ≤ 100000) :
    Calls Tryz.prog 174 #[.map (some b)] w fun e w' => ∃ v, e = .returned v ∧ MineV w w' v (ofV l) := by
  obtain ⟨i0, hi0, hz0, hz1, hz2⟩ := info_parts infoD
  have HV := Lib.hid hv; clear hv
  have HO := Lib.hid hown
  have HS := Lib.hid hs
  have HD := Lib.hid hD
  generalize hsz : Maps.size D = sz at hs
  have HSZ := Lib.hid hsz; clear hsz
  have hbl := hown.lt
  clear hown hD
  go_enter Tryz.func174, Tryz.ntmps174
  go_wp2_with (first
    | (at_len; refine wpList_len_own _ rfl _ mapT rfl 3 3 Tryz.underlying133 _ b n D rfl HO.out ?_; rw [HSZ.out])
    | (at_make; refine wpList_make_own _ rfl (.const (.int .i64 0)) (.tmp 7) 23 rfl w.heap.size 30 i0 _ 2 Tryz.underlying23 hi0 hz0 hz1 .i64 .i64 _ sz rfl rfl rfl (by rw [hz2]; omega) (by unfold maxLen; omega) (Nat.le_refl _) ?_; intro w1 hown1 hg1)
    | (at_range; refine wpList_range_own _ rfl _ mapT rfl 3 3 law3 Tryz.underlying133 _ b n D rfl (HO.out.kept hg1 (by simp)) ?_; intro w2 hrg2 hg2 hs2)
    | go_in)
  go_frame
  have hb2 := ((RowKit.Below.refl w.heap.size w).grown hg1 (Nat.le_refl _) (fun j hj => by cases hj)).grown hg2 hg1.size (fun j hj => by cases hj)
  have hown2 := hown1.kept hg2 (by cases hg : (Value.slice (some ⟨w.heap.size, 0, none⟩) 0 sz).ownBlock <;> simp)
  have hsz1 := hg1.size
  rw [HSZ.out] at hrg2
  have HRG := Lib.hid hrg2
  have HOW := Lib.hid hown2
  have HB2 := Lib.hid hb2
  clear hrg2 hown2 hb2 hown1 hs2
  go_loopw [3, 4, 5] (fun sv _ _ wr => ∃ (left : Lit → Bool) (cnt : Nat) (ys : List (Int × Int)), Hid (wr.ranges Tryz.prog 3 (plainElem Tryz.prog 3) b w1.heap.size n D left cnt) ∧ ys.length + cnt ≤ sz ∧
      Hid (wr.ownsRow w.heap.size 30 2 sv ys.length (cellsOf encD ys)) ∧ Hid (sv ≠ .slice none 0 0) ∧ Hid (Coll l left ys) ∧ Hid (RowKit.Below w.heap.size w wr))
    (fun _ _ _ wr => wr.rangeLeft b w1.heap.size)
  case atStart => exact ⟨_, _, [], HRG, by simp, HOW, (show Hid _ from fun h => by cases h), Coll.start HD.out, HB2⟩
  case round =>
    obtain ⟨left, cnt, ys, hrg, hcs, hrow, hnn, hC, hnx⟩ := hrel
    go_wp2_with (first
      | (at_next; refine wpList_next_ranges_ii _ rfl _ rfl 3 3 .i64 .i64 law3 Tryz.underlying3 Tryz.underlying3 b w1.heap.size n _ _ _ rfl hrg.out ?_ ?_)
      | go_in)
    · intro hc0 hl0
      rcases Go.Joins.ownsRow_forms hrow.out with ⟨hnil, _⟩ | ⟨g, cap, rfl⟩
      · exact absurd hnil hnn.out
      have hc := sortVec g cap w.heap.size ys wr hrow.out (by omega)
      have HC := Lib.hid hc; clear hc
      go_wp2_with fail
      refine HC.out.mono ?_
      rintro e w' ⟨rfl, zs, hp, hs', ho, hg'⟩
      have HZ := Lib.hid (coll_sorted HV.out hC.out hl0 hp (hs'.imp (by intro a b h; omega)))
      have hB' := hnx.out.grown hg' hnx.out.size (fun j hj => by cases hj; exact (hrow.out.lt g rfl).1)
      have HM : MineV w w' (.slice (some ⟨g, 0, none⟩) ys.length cap) zs := ⟨ho, hB'⟩
      have HM2 := Lib.hid HM
      clear hp hs' ho hg' hB' HM
      go_wp2_with fail
      go_ret
      exact ⟨_, rfl, by rw [← HZ.out]; exact HM2.out⟩
    · intro x c wn cnt1 hwx hwc hlx hat hrg1 hlt hg1' hs1 hen
      have hhas : ∃ q ∈ l, q.1 = x := by
        have h1 := has_true_of_atKey (D := D) (k := .int .i64 x) (y := .lit (.int .i64 c)) hat
        rw [HD.out.2] at h1
        obtain ⟨q, hq, e⟩ := List.any_eq_true.1 h1
        exact ⟨q, hq, by simpa using e⟩
      have hst := Coll.step HD.out hC.out hlx hhas hat
      have hrow2 := hrow.out.kept hg1' (Or.inr (row_ne_iter hrow.out hrg.out).symm)
      have hB1 := hnx.out.grown hg1' hnx.out.size (fun j hj => by cases hj; exact hsz1)
      have HST := Lib.hid hst
      have HR1 := Lib.hid hrg1
      have HROW := Lib.hid hrow2
      have HB1 := Lib.hid hB1
      clear hs1 hst hhas hat hwx hwc hlx hrow2 hB1 hrg1
      go_wp2_with (first
        | (at_builtin; refine wpList_append_sl (o := ⟨some 21, _, _, _, _, _⟩) _ encD 2 rfl (.tmp 16) (.tmp 20) 23 rfl encD_len (by omega) encD_one w.heap.size 30 i0 _ 16 Tryz.underlying23 hi0 hz0 hz1 hz2 rfl _ ys rfl (HROW.out.alloc _) _ 1 _ [(x, c)] rfl rfl (SlAt.one (heap_alloc_new _ _)) (by simp [maxLen]; omega) (by simp; omega) (by have := HB1.out.size; simp; omega) ?_; intro v3 w3 hown3 hg3 hat3; go_frame)
        | go_in)
      have hrg3 := (HR1.out.alloc _).kept hg3 (row_ne_low HROW.out hbl) (row_ne_iter HROW.out HR1.out)
      have hB3 := (HB1.out.alloc HB1.out.size _).grown hg3 (by have := HB1.out.size; simp; omega) (fun j hj => (HROW.out.lt j hj).1)
      have hnn3 : v3 ≠ .slice none 0 0 := fun e => by
        have h := hown3.1
        rw [e] at hown3
        rcases hown3.2 with ⟨_, h0⟩ | ⟨g, cap, cur, hv, _⟩
        · simp at h0
        · cases hv
      go_roundw
      case rel => exact ⟨_, cnt1, ys ++ [(x, c)], hrg3, by simp; omega, hown3, hnn3, HST, hB3⟩
      case measure => rw [hrg3.left_eq, hrg.out.left_eq]; exact hlt

end

section
open Go.RowKit Go.Maps

/-- Two slices in a new block. -/
theorem ListsAt.two {w : World} {A B : Option Addr} {xs ys : List (Int × Int)} {c c' : Nat} (hx : Holds w (.slice A xs.length c) xs) (hy : Holds w (.slice B ys.length c') ys) (t : TypeId) :
    ListsAt (w.alloc (.cells #[.slice A xs.length c, .slice B ys.length c'] t)) w.heap.size [.slice A xs.length c, .slice B ys.length c'] [xs, ys] := by
  have hal : RowKit.Below w.heap.size w (w.alloc (.cells #[.slice A xs.length c, .slice B ys.length c'] t)) := (RowKit.Below.refl _ w).alloc (Nat.le_refl _) _
  refine ⟨by simp, rfl, fun j v hj => ?_⟩
  match j, hj with
  | 0, hj =>
    have e : Value.slice A xs.length c = v := Option.some.inj hj
    subst e
    exact ⟨by go_simp, xs, rfl, hx.below hal⟩
  | 1, hj =>
    have e : Value.slice B ys.length c' = v := Option.some.inj hj
    subst e
    exact ⟨by go_simp, ys, rfl, hy.below hal⟩
  | j + 2, hj => simp at hj
theorem ListsAt.one {w : World} {A : Option Addr} {xs : List (Int × Int)} {c : Nat} (hx : Holds w (.slice A xs.length c) xs) (t : TypeId) :
    ListsAt (w.alloc (.cells #[.slice A xs.length c] t)) w.heap.size [.slice A xs.length c] [xs] := by
  have hal : RowKit.Below w.heap.size w (w.alloc (.cells #[.slice A xs.length c] t)) := (RowKit.Below.refl _ w).alloc (Nat.le_refl _) _
  refine ⟨by simp, rfl, fun j v hj => ?_⟩
  match j, hj with
  | 0, hj =>
    have e : Value.slice A xs.length c = v := Option.some.inj hj
    subst e
    exact ⟨by go_simp, xs, rfl, hx.below hal⟩
  | j + 1, hj => simp at hj

theorem vecCounters1 (A : Option Addr) (xs : List (Int × Int)) (c : Nat) (W : World) (h1 : Holds W (.slice A xs.length c) xs) (hm : xs.length ≤ 100000) (hv : ∀ p ∈ xs, validD p.1 p.2 = true) :
    Calls Tryz.prog 175 #[.slice (some ⟨W.heap.size, 0, none⟩) 1 1] (W.alloc (.cells #[.slice A xs.length c] 22)) fun e w' => e = .returned (.map (some (W.heap.size + 1))) ∧ RowKit.Below (W.heap.size + 1) (W.alloc (.cells #[.slice A xs.length c] 22)) w' ∧
      ∃ D, w'.ownsMap Tryz.prog 3 (plainElem Tryz.prog 3) (W.heap.size + 1) xs.length D ∧ MapIs D xs := by
  have hfl : [xs].flatten = xs := by simp
  have h := vecCounters W.heap.size 1 _ _ _ (ListsAt.one h1 22) (by rw [hfl]; exact hm) (by simp) (by rw [hfl]; exact hv)
  rw [hfl, World.size_alloc] at h
  exact h

/-- What Merge, Raise and Of return. -/
def MerR (ok : Bool) (zs : List (Int × Int)) (w : World) (e : Ending) (w' : World) : Prop :=
  (ok = true → ∃ v, e = .returned (.tuple #[v, .int .i64 0]) ∧ MineV w w' v zs) ∧ (ok = false → e = .returned (.tuple #[.slice none 0 0, .int .i64 2]) ∧ RowKit.Below w.heap.size w w')
theorem MerR.base {ok : Bool} {zs : List (Int × Int)} {w0 w : World} {e : Ending} {w' : World} (hb : RowKit.Below w0.heap.size w0 w) (h : MerR ok zs w e w') : MerR ok zs w0 e w' :=
  ⟨fun h1 => by obtain ⟨v, he, hm⟩ := h.1 h1; exact ⟨v, he, hm.base hb⟩, fun h1 => ⟨(h.2 h1).1, below_trans hb (h.2 h1).2⟩⟩

theorem vecValid_h (v : Value) (xs : List (Int × Int)) (b : Bool) (w : World) (h : Holds w v xs) (hb : validV xs = b) :
    Calls Tryz.prog 130 #[v] w fun e w' => e = .returned (.bool b) ∧ RowKit.Below w.heap.size w w' := by
  obtain ⟨A, n, rfl, h1, h2, h3⟩ := h
  subst hb
  exact vecValid A xs n w h1 (Nat.le_trans h2 h3)

set_option maxRecDepth 100000 in
set_option maxHeartbeats 2000000 in
theorem vecOf (A : Option Addr) (xs : List (Int × Int)) (c : Nat) (w : World) (hx : Holds w (.slice A xs.length c) xs) (hm : xs.length ≤ 100000) :
    Calls Tryz.prog 135 #[.slice A xs.length c] w fun e w' => MerR (ofOk xs) (ofV xs) w e w' := by
  have HX := Lib.hid hx
  obtain ⟨_, _, e0, hxA, _, _⟩ := hx
  cases e0
  have HXA := Lib.hid hxA
  clear hxA
  go_enter Tryz.func135, Tryz.ntmps135
  go_wp2
  go_loopw [5, 8] (fun _ i wr => ∃ m : Nat, m ≤ xs.length ∧ i = .int .i64 m ∧ RowKit.Below w.heap.size w wr ∧ Hid (ofOk xs = ofOk (xs.drop m))) (fun _ i _ => xs.length - (intOf i).toNat)
  case atStart => exact ⟨0, by omega, rfl, RowKit.Below.refl _ _, by rw [List.drop_zero]; rfl⟩
  case round =>
    obtain ⟨m, hk2, rfl, hb, ho⟩ := hrel
    by_cases hlt : m < xs.length
    · obtain ⟨b, off, r, q, rfl, hbl, hx1, hc0, hc1⟩ := (HXA.out.below hb).dot (j := m) hlt
      have hd : xs.drop m = (r, q) :: xs.drop (m + 1) := by
        obtain ⟨h1, h2⟩ := List.getElem?_eq_some_iff.1 hx1
        rw [← h2]; exact List.drop_eq_getElem_cons h1
      have hg := ho.out
      have hq0 : ofOk ((r, q) :: xs.drop (m + 1)) = (validD r q && ofOk (xs.drop (m + 1))) := by simp [ofOk]
      rw [hd, hq0] at hg
      have hr := fun W => dotValid r q W
      have HB := Lib.hid (hb.alloc hb.size (.cells #[.int .i64 r, .int .i64 q] 30))
      clear hx1 hd hq0 ho
      cases hq : validD r q
      · rw [hq] at hr hg
        have HG := Lib.hid (show ofOk xs = false by simpa using hg); clear hg hq
        have HR := Lib.hid hr; clear hr
        go_wp2_with fail
        refine (HR.out _).mono ?_
        rintro e w1 ⟨rfl, hb1⟩
        have HB2 := Lib.hid (HB.out.trans (hb1.mono HB.out.size)); clear hb1
        go_wp2
        go_ret2
        rw [HG.out]
        exact ⟨fun h => (by cases h), fun _ => ⟨rfl, HB2.out⟩⟩
      · rw [hq] at hr hg
        have HG := Lib.hid (show ofOk xs = ofOk (xs.drop (m + 1)) by simpa using hg); clear hg hq
        have HR := Lib.hid hr; clear hr
        go_wp2_with fail
        refine (HR.out _).mono ?_
        rintro e w1 ⟨rfl, hb1⟩
        have HB2 := Lib.hid (HB.out.trans (hb1.mono HB.out.size)); clear hb1
        go_wp2
        go_roundw
        case rel => exact ⟨m + 1, by omega, by go_num, HB2.out, HG⟩
        case measure => simp [intOf]; omega
    · have hg := ho.out
      rw [List.drop_eq_nil_of_le (by omega)] at hg
      have hok : ofOk xs = true := hg
      have hall : ∀ p ∈ xs, validD p.1 p.2 = true := by simpa [ofOk, List.all_eq_true] using hok
      have HOK := Lib.hid hok
      have HCN := Lib.hid (vecCounters1 A xs c wr (HX.out.below hb) hm hall)
      have HB := Lib.hid hb
      have HAL := Lib.hid hall
      clear hg hok ho hall hb
      go_wp2_with fail
      refine HCN.out.mono ?_
      rintro e w3 ⟨rfl, hb3, D, hoD, hD⟩
      have HB3 := Lib.hid ((HB.out.alloc HB.out.size _).trans (hb3.mono (by have := HB.out.size; omega)))
      have HOO := Lib.hid (vecOrdered _ _ D xs w3 hoD hD HAL.out (Nat.le_trans hoD.size_le hm))
      clear hb3 hoD hD
      go_wp2_with fail
      refine HOO.out.mono ?_
      rintro e w4 ⟨v, rfl, hmv⟩
      have HM := Lib.hid (hmv.base HB3.out)
      clear hmv
      go_wp2_with fail
      go_ret2
      rw [HOK.out]
      exact ⟨fun _ => ⟨_, rfl, HM.out⟩, fun h => (by cases h)⟩

end

end Go.Proofs.YtiaehpdgpjhecaaGreat
