/- Several texts in one: VecE, VecF, CtxQ, CtxR, CtxP, Rng. -/
import Derived.Test.YtpnemekkpifbaaaGreatMAF
import Derived.Sort.OwnSorted
import Derived.Lib.SmallJoins
import Derived.Test.YtpnemekkpifbaaaGreatMAB
import Derived.Test.YtpnemekkpifbaaaGreatShelf
import Derived.Test.YtpnemekkpifbaaaGreatMAE
import Derived.Test.YtpnemekkpifbaaaGreatMAA
import Derived.RangeFuncWrites
import Derived.RangeFuncBox
import Derived.RangeFuncLeaves
import Derived.RangeFuncCalls
import Derived.RangeFuncBound
namespace Go.Proofs.YtpnemekkpifbaaaGreat

section
open Go.RowKit Go.Maps

/-- A row of the call's own, and all that was there as it was. -/
def MineV (w w' : World) (v : Value) (xs : List (Int × Int)) : Prop := w'.ownsRow w.heap.size 52 2 v xs.length (cellsOf encD xs) ∧ RowKit.Below w.heap.size w w'
theorem MineV.holds {w w' : World} {v : Value} {xs : List (Int × Int)} (h : MineV w w' v xs) : Holds w' v xs := by
  obtain ⟨A, c, rfl, h1, h2, h3⟩ := SlAt.of_own encD_len h.1
  exact ⟨A, c, rfl, h3, h1, h2⟩
theorem MineV.base {w0 w w' : World} {v : Value} {xs : List (Int × Int)} (hb : RowKit.Below w0.heap.size w0 w) (h : MineV w w' v xs) : MineV w0 w' v xs := by
  refine ⟨⟨h.1.1, ?_⟩, below_trans hb h.2⟩
  rcases h.1.2 with h1 | ⟨g, cap, cur, hv, hg, r⟩
  · exact .inl h1
  · exact .inr ⟨g, cap, cur, hv, Nat.le_trans hb.size hg, r⟩

set_option maxRecDepth 100000 in
set_option maxHeartbeats 2000000 in
theorem vecOrdered (b n : Nat) (D : DataW Unit) (l : List (Int × Int)) (w : World) (hown : w.ownsMap Tryz.prog 3 (plainElem Tryz.prog 3) b n D) (hD : MapIs D l) (hv : ∀ p ∈ l, validD p.1 p.2 = true) (hs : Maps.size D ≤ 100000) :
    Calls Tryz.prog 97 #[.map (some b)] w fun e w' => ∃ v, e = .returned v ∧ MineV w w' v (ofV l) := by
  obtain ⟨i0, hi0, hz0, hz1, hz2⟩ := info_parts infoD
  have HV := Lib.hid hv; clear hv
  have HO := Lib.hid hown
  have HS := Lib.hid hs
  have HD := Lib.hid hD
  generalize hsz : Maps.size D = sz at hs
  have HSZ := Lib.hid hsz; clear hsz
  have hbl := hown.lt
  clear hown hD
  go_enter Tryz.func97, Tryz.ntmps97
  go_wp2_with (first
    | (at_len; refine wpList_len_own _ rfl _ mapT rfl 3 3 Tryz.underlying103 _ b n D rfl HO.out ?_; rw [HSZ.out])
    | (at_make; refine wpList_make_own _ rfl (.const (.int .i64 0)) (.tmp 7) 26 rfl w.heap.size 52 i0 _ 2 Tryz.underlying26 hi0 hz0 hz1 .i64 .i64 _ sz rfl rfl rfl (by rw [hz2]; omega) (by unfold maxLen; omega) (Nat.le_refl _) ?_; intro w1 hown1 hg1)
    | (at_range; refine wpList_range_own _ rfl _ mapT rfl 3 3 law3 Tryz.underlying103 _ b n D rfl (HO.out.kept hg1 (by simp)) ?_; intro w2 hrg2 hg2 hs2)
    | go_in)
  go_frame
  have hb2 := ((RowKit.Below.refl w.heap.size w).grown hg1 (Nat.le_refl _) (fun j hj => by cases hj)).grown hg2 hg1.size (fun j hj => by cases hj)
  have hown2 := hown1.kept hg2 (by cases hg : (Value.slice (some ⟨w.heap.size, 0, none⟩) 0 sz).ownBlock <;> simp)
  have hsz1 := hg1.size
  rw [HSZ.out] at hrg2
  have HRG := Lib.hid hrg2
  have HOW := Lib.hid hown2
  have HB2 := Lib.hid hb2
  clear hrg2 hown2 hb2 hown1 hs2
  go_loopw [3, 4, 5] (fun sv _ _ wr => ∃ (left : Lit → Bool) (cnt : Nat) (ys : List (Int × Int)), Hid (wr.ranges Tryz.prog 3 (plainElem Tryz.prog 3) b w1.heap.size n D left cnt) ∧ ys.length + cnt ≤ sz ∧
      Hid (wr.ownsRow w.heap.size 52 2 sv ys.length (cellsOf encD ys)) ∧ Hid (sv ≠ .slice none 0 0) ∧ Hid (Coll l left ys) ∧ Hid (RowKit.Below w.heap.size w wr))
    (fun _ _ _ wr => wr.rangeLeft b w1.heap.size)
  case atStart => exact ⟨_, _, [], HRG, by simp, HOW, (show Hid _ from fun h => by cases h), Coll.start HD.out, HB2⟩
  case round =>
    obtain ⟨left, cnt, ys, hrg, hcs, hrow, hnn, hC, hnx⟩ := hrel
    go_wp2_with (first
      | (at_next; refine wpList_next_ranges_ii _ rfl _ rfl 3 3 .i64 .i64 law3 Tryz.underlying3 Tryz.underlying3 b w1.heap.size n _ _ _ rfl hrg.out ?_ ?_)
      | go_in)
    · intro hc0 hl0
      rcases Go.Joins.ownsRow_forms hrow.out with ⟨hnil, _⟩ | ⟨g, cap, rfl⟩
      · exact absurd hnil hnn.out
      have hc := sortVec g cap w.heap.size ys wr hrow.out (by omega)
      have HC := Lib.hid hc; clear hc
      go_wp2_with fail
      refine HC.out.mono ?_
      rintro e w' ⟨rfl, zs, hp, hs', ho, hg'⟩
      have HZ := Lib.hid (coll_sorted HV.out hC.out hl0 hp (hs'.imp (by intro a b h; omega)))
      have hB' := hnx.out.grown hg' hnx.out.size (fun j hj => by cases hj; exact (hrow.out.lt g rfl).1)
      have HM : MineV w w' (.slice (some ⟨g, 0, none⟩) ys.length cap) zs := ⟨ho, hB'⟩
      have HM2 := Lib.hid HM
      clear hp hs' ho hg' hB' HM
      go_wp2_with fail
      go_ret
      exact ⟨_, rfl, by rw [← HZ.out]; exact HM2.out⟩
    · intro x c wn cnt1 hwx hwc hlx hat hrg1 hlt hg1' hs1 hen
      have hhas : ∃ q ∈ l, q.1 = x := by
        have h1 := has_true_of_atKey (D := D) (k := .int .i64 x) (y := .lit (.int .i64 c)) hat
        rw [HD.out.2] at h1
        obtain ⟨q, hq, e⟩ := List.any_eq_true.1 h1
        exact ⟨q, hq, by simpa using e⟩
      have hst := Coll.step HD.out hC.out hlx hhas hat
      have hrow2 := hrow.out.kept hg1' (Or.inr (row_ne_iter hrow.out hrg.out).symm)
      have hB1 := hnx.out.grown hg1' hnx.out.size (fun j hj => by cases hj; exact hsz1)
      have HST := Lib.hid hst
      have HR1 := Lib.hid hrg1
      have HROW := Lib.hid hrow2
      have HB1 := Lib.hid hB1
      clear hs1 hst hhas hat hwx hwc hlx hrow2 hB1 hrg1
      go_wp2_with (first
        | (at_builtin; refine wpList_append_sl (o := ⟨some 21, _, _, _, _, _⟩) _ encD 2 rfl (.tmp 16) (.tmp 20) 26 rfl encD_len (by omega) encD_one w.heap.size 52 i0 _ 16 Tryz.underlying26 hi0 hz0 hz1 hz2 rfl _ ys rfl (HROW.out.alloc _) _ 1 _ [(x, c)] rfl rfl (SlAt.one (heap_alloc_new _ _)) (by simp [maxLen]; omega) (by simp; omega) (by have := HB1.out.size; simp; omega) ?_; intro v3 w3 hown3 hg3 hat3; go_frame)
        | go_in)
      have hrg3 := (HR1.out.alloc _).kept hg3 (row_ne_low HROW.out hbl) (row_ne_iter HROW.out HR1.out)
      have hB3 := (HB1.out.alloc HB1.out.size _).grown hg3 (by have := HB1.out.size; simp; omega) (fun j hj => (HROW.out.lt j hj).1)
      have hnn3 : v3 ≠ .slice none 0 0 := fun e => by
        have h := hown3.1
        rw [e] at hown3
        rcases hown3.2 with ⟨_, h0⟩ | ⟨g, cap, cur, hv, _⟩
        · simp at h0
        · cases hv
      go_roundw
      case rel => exact ⟨_, cnt1, ys ++ [(x, c)], hrg3, by simp; omega, hown3, hnn3, HST, hB3⟩
      case measure => rw [hrg3.left_eq, hrg.out.left_eq]; exact hlt

end

section
open Go.RowKit Go.Maps

/-- Two slices in a new block. -/
theorem ListsAt.two {w : World} {A B : Option Addr} {xs ys : List (Int × Int)} {c c' : Nat} (hx : Holds w (.slice A xs.length c) xs) (hy : Holds w (.slice B ys.length c') ys) (t : TypeId) :
    ListsAt (w.alloc (.cells #[.slice A xs.length c, .slice B ys.length c'] t)) w.heap.size [.slice A xs.length c, .slice B ys.length c'] [xs, ys] := by
  have hal : RowKit.Below w.heap.size w (w.alloc (.cells #[.slice A xs.length c, .slice B ys.length c'] t)) := (RowKit.Below.refl _ w).alloc (Nat.le_refl _) _
  refine ⟨by simp, rfl, fun j v hj => ?_⟩
  match j, hj with
  | 0, hj =>
    have e : Value.slice A xs.length c = v := Option.some.inj hj
    subst e
    exact ⟨by go_simp, xs, rfl, hx.below hal⟩
  | 1, hj =>
    have e : Value.slice B ys.length c' = v := Option.some.inj hj
    subst e
    exact ⟨by go_simp, ys, rfl, hy.below hal⟩
  | j + 2, hj => simp at hj
theorem ListsAt.one {w : World} {A : Option Addr} {xs : List (Int × Int)} {c : Nat} (hx : Holds w (.slice A xs.length c) xs) (t : TypeId) :
    ListsAt (w.alloc (.cells #[.slice A xs.length c] t)) w.heap.size [.slice A xs.length c] [xs] := by
  have hal : RowKit.Below w.heap.size w (w.alloc (.cells #[.slice A xs.length c] t)) := (RowKit.Below.refl _ w).alloc (Nat.le_refl _) _
  refine ⟨by simp, rfl, fun j v hj => ?_⟩
  match j, hj with
  | 0, hj =>
    have e : Value.slice A xs.length c = v := Option.some.inj hj
    subst e
    exact ⟨by go_simp, xs, rfl, hx.below hal⟩
  | j + 1, hj => simp at hj

theorem vecCounters1 (A : Option Addr) (xs : List (Int × Int)) (c : Nat) (W : World) (h1 : Holds W (.slice A xs.length c) xs) (hm : xs.length ≤ 100000) (hv : ∀ p ∈ xs, validD p.1 p.2 = true) :
    Calls Tryz.prog 98 #[.slice (some ⟨W.heap.size, 0, none⟩) 1 1] (W.alloc (.cells #[.slice A xs.length c] 25)) fun e w' => e = .returned (.map (some (W.heap.size + 1))) ∧ RowKit.Below (W.heap.size + 1) (W.alloc (.cells #[.slice A xs.length c] 25)) w' ∧
      ∃ D, w'.ownsMap Tryz.prog 3 (plainElem Tryz.prog 3) (W.heap.size + 1) xs.length D ∧ MapIs D xs := by
  have hfl : [xs].flatten = xs := by simp
  have h := vecCounters W.heap.size 1 _ _ _ (ListsAt.one h1 25) (by rw [hfl]; exact hm) (by simp) (by rw [hfl]; exact hv)
  rw [hfl, World.size_alloc] at h
  exact h

/-- What Merge, Raise and Of return. -/
def MerR (ok : Bool) (zs : List (Int × Int)) (w : World) (e : Ending) (w' : World) : Prop :=
  (ok = true → ∃ v, e = .returned (.tuple #[v, .int .i64 0]) ∧ MineV w w' v zs) ∧ (ok = false → e = .returned (.tuple #[.slice none 0 0, .int .i64 2]) ∧ RowKit.Below w.heap.size w w')
theorem MerR.base {ok : Bool} {zs : List (Int × Int)} {w0 w : World} {e : Ending} {w' : World} (hb : RowKit.Below w0.heap.size w0 w) (h : MerR ok zs w e w') : MerR ok zs w0 e w' :=
  ⟨fun h1 => by obtain ⟨v, he, hm⟩ := h.1 h1; exact ⟨v, he, hm.base hb⟩, fun h1 => ⟨(h.2 h1).1, below_trans hb (h.2 h1).2⟩⟩

theorem vecValid_h (v : Value) (xs : List (Int × Int)) (b : Bool) (w : World) (h : Holds w v xs) (hb : validV xs = b) :
    Calls Tryz.prog 93 #[v] w fun e w' => e = .returned (.bool b) ∧ RowKit.Below w.heap.size w w' := by
  obtain ⟨A, n, rfl, h1, h2, h3⟩ := h
  subst hb
  exact vecValid A xs n w h1 (Nat.le_trans h2 h3)

set_option maxRecDepth 100000 in
set_option maxHeartbeats 2000000 in
theorem vecOf (A : Option Addr) (xs : List (Int × Int)) (c : Nat) (w : World) (hx : Holds w (.slice A xs.length c) xs) (hm : xs.length ≤ 100000) :
    Calls Tryz.prog 70 #[.slice A xs.length c] w fun e w' => MerR (ofOk xs) (ofV xs) w e w' := by
  have HX := Lib.hid hx
  obtain ⟨_, _, e0, hxA, _, _⟩ := hx
  cases e0
  have HXA := Lib.hid hxA
  clear hxA
  go_enter Tryz.func70, Tryz.ntmps70
  go_wp2
  go_loopw [5, 8] (fun _ i wr => ∃ m : Nat, m ≤ xs.length ∧ i = .int .i64 m ∧ RowKit.Below w.heap.size w wr ∧ Hid (ofOk xs = ofOk (xs.drop m))) (fun _ i _ => xs.length - (intOf i).toNat)
  case atStart => exact ⟨0, by omega, rfl, RowKit.Below.refl _ _, by rw [List.drop_zero]; rfl⟩
  case round =>
    obtain ⟨m, hk2, rfl, hb, ho⟩ := hrel
    by_cases hlt : m < xs.length
    · obtain ⟨b, off, r, q, rfl, hbl, hx1, hc0, hc1⟩ := (HXA.out.below hb).dot (j := m) hlt
      have hd : xs.drop m = (r, q) :: xs.drop (m + 1) := by
        obtain ⟨h1, h2⟩ := List.getElem?_eq_some_iff.1 hx1
        rw [← h2]; exact List.drop_eq_getElem_cons h1
      have hg := ho.out
      have hq0 : ofOk ((r, q) :: xs.drop (m + 1)) = (validD r q && ofOk (xs.drop (m + 1))) := by simp [ofOk]
      rw [hd, hq0] at hg
      have hr := fun W => dotValid r q W
      have HB := Lib.hid (hb.alloc hb.size (.cells #[.int .i64 r, .int .i64 q] 52))
      clear hx1 hd hq0 ho
      cases hq : validD r q
      · rw [hq] at hr hg
        have HG := Lib.hid (show ofOk xs = false by simpa using hg); clear hg hq
        have HR := Lib.hid hr; clear hr
        go_wp2_with fail
        refine (HR.out _).mono ?_
        rintro e w1 ⟨rfl, hb1⟩
        have HB2 := Lib.hid (HB.out.trans (hb1.mono HB.out.size)); clear hb1
        go_wp2
        go_ret2
        rw [HG.out]
        exact ⟨fun h => (by cases h), fun _ => ⟨rfl, HB2.out⟩⟩
      · rw [hq] at hr hg
        have HG := Lib.hid (show ofOk xs = ofOk (xs.drop (m + 1)) by simpa using hg); clear hg hq
        have HR := Lib.hid hr; clear hr
        go_wp2_with fail
        refine (HR.out _).mono ?_
        rintro e w1 ⟨rfl, hb1⟩
        have HB2 := Lib.hid (HB.out.trans (hb1.mono HB.out.size)); clear hb1
        go_wp2
        go_roundw
        case rel => exact ⟨m + 1, by omega, by go_num, HB2.out, HG⟩
        case measure => simp [intOf]; omega
    · have hg := ho.out
      rw [List.drop_eq_nil_of_le (by omega)] at hg
      have hok : ofOk xs = true := hg
      have hall : ∀ p ∈ xs, validD p.1 p.2 = true := by simpa [ofOk, List.all_eq_true] using hok
      have HOK := Lib.hid hok
      have HCN := Lib.hid (vecCounters1 A xs c wr (HX.out.below hb) hm hall)
      have HB := Lib.hid hb
      have HAL := Lib.hid hall
      clear hg hok ho hall hb
      go_wp2_with fail
      refine HCN.out.mono ?_
      rintro e w3 ⟨rfl, hb3, D, hoD, hD⟩
      have HB3 := Lib.hid ((HB.out.alloc HB.out.size _).trans (hb3.mono (by have := HB.out.size; omega)))
      have HOO := Lib.hid (vecOrdered _ _ D xs w3 hoD hD HAL.out (Nat.le_trans hoD.size_le hm))
      clear hb3 hoD hD
      go_wp2_with fail
      refine HOO.out.mono ?_
      rintro e w4 ⟨v, rfl, hmv⟩
      have HM := Lib.hid (hmv.base HB3.out)
      clear hmv
      go_wp2_with fail
      go_ret2
      rw [HOK.out]
      exact ⟨fun _ => ⟨_, rfl, HM.out⟩, fun h => (by cases h)⟩

end

section
open Go.RowKit

theorem neqAtDot : NeqAt Tryz.prog 52 (fun x : Int × Int => .agg (encD x).toArray) (fun x y => x.1 == y.1 && x.2 == y.2) :=
  ⟨fun x y w => neqDot x.1 x.2 y.1 y.2 w, GuardAt.agg _ (by kernel_rfl)⟩
theorem allEq_dots (xs ys : List (Int × Int)) : Lib.allEq (fun x y : Int × Int => x.1 == y.1 && x.2 == y.2) xs ys = decide (xs = ys) := by
  rw [Bool.eq_iff_iff, decide_eq_true_eq]
  constructor
  · intro h
    rcases Classical.em (xs.length = ys.length) with hl | hl
    · apply List.ext_getElem hl
      intro j h1 h2
      rcases Classical.em (xs[j] = ys[j]) with e | e
      · exact e
      · exfalso
        have := Lib.allEq_elem (fun x y : Int × Int => x.1 == y.1 && x.2 == y.2) xs ys j h1 h2 (by
          rw [getElem!_pos xs j h1, getElem!_pos ys j h2]
          cases e2 : ((xs[j]).1 == (ys[j]).1 && (xs[j]).2 == (ys[j]).2)
          · rfl
          · rw [Bool.and_eq_true, beq_iff_eq, beq_iff_eq] at e2
            exact absurd (Prod.ext e2.1 e2.2) e)
        rw [h] at this; cases this
    · rw [Lib.allEq_len _ _ _ hl] at h; cases h
  · rintro rfl
    exact Lib.allEq_all _ _ _ rfl fun j h => by simp

set_option maxHeartbeats 400000 in
theorem equalDotsLen (A B : Option Addr) (n m c c' : Nat) (w : World) (h : n ≠ m) (_ : n ≤ maxLen) (_ : m ≤ maxLen) :
    Calls Tryz.prog 72 #[.slice A n c, .slice B m c'] w fun e w' => e = .returned (.bool false) ∧ Below w.heap.size w w' := by
  have h2 : ¬ (n : Int) = (m : Int) := by omega
  go_enter Tryz.func72, Tryz.ntmps72
  go_wp2
  go_ret
  exact ⟨rfl, Below.refl _ _⟩
set_option maxHeartbeats 400000 in
theorem equalDotsNil (A B : Option Addr) (c c' : Nat) (w : World) :
    Calls Tryz.prog 72 #[.slice A 0 c, .slice B 0 c'] w fun e w' => e = .returned (.bool true) ∧ Below w.heap.size w w' := by
  go_enter Tryz.func72, Tryz.ntmps72
  go_wp2
  refine wp_loop_rounds 1 ?_
  rw [rounds_succ]
  go_wp2
  go_ret
  exact ⟨rfl, Below.refl _ _⟩
theorem equalDots (v v' : Value) (xs ys : List (Int × Int)) (b : Bool) (w : World) (h : Holds w v xs) (h' : Holds w v' ys) (hb : decide (xs = ys) = b) :
    Calls Tryz.prog 72 #[v, v'] w fun e w' => e = .returned (.bool b) ∧ Below w.heap.size w w' := by
  obtain ⟨A, c, rfl, hx, hl, hc⟩ := h
  obtain ⟨B, c', rfl, hy, hl', hc'⟩ := h'
  subst hb
  have hm : xs.length ≤ maxLen := Nat.le_trans hl hc
  have hm' : ys.length ≤ maxLen := Nat.le_trans hl' hc'
  rcases Classical.em (xs.length = ys.length) with he | he
  · rcases Nat.eq_zero_or_pos xs.length with h0 | h0
    · have e1 : xs = [] := List.eq_nil_of_length_eq_zero h0
      have e2 : ys = [] := List.eq_nil_of_length_eq_zero (by omega)
      subst e1; subst e2
      exact equalDotsNil A B c c' w
    · unfold maxLen at hm hm'
      obtain ⟨b1, o1, rfl, _, hc1⟩ := hx h0
      obtain ⟨b2, o2, rfl, _, hc2⟩ := hy (by omega)
      have h := AnyQ.slices_Equal Tryz.equalDots 2 Tryz.isAgg52 Tryz.sizeOf52 encD encD_len _ neqAtDot b1 o1 xs.length c b2 o2 ys.length c' xs ys w (Nat.le_refl _) (Nat.le_refl _) (by omega) (by omega)
        (fun j hj i v hi => hc1 j xs[j]! (by rw [getElem!_pos xs j hj]; exact List.getElem?_eq_getElem hj) i v hi)
        (fun j hj i v hi => hc2 j ys[j]! (by rw [getElem!_pos ys j hj]; exact List.getElem?_eq_getElem hj) i v hi)
      rw [List.take_length, List.take_length, allEq_dots] at h
      exact Calls.mono (show Calls Tryz.prog 72 #[.slice (some ⟨b1, o1, none⟩) xs.length c, .slice (some ⟨b2, o2, none⟩) ys.length c'] w _ from h) fun e w' ⟨h1, q, h2⟩ => ⟨h1, by rw [h2]; exact below_drewN_q (Below.refl _ w) q⟩
  · have : decide (xs = ys) = false := by simp; intro e; exact he (by rw [e])
    rw [this]
    exact equalDotsLen A B _ _ c c' w he hm hm'

set_option maxHeartbeats 400000 in
theorem equalVecLen (A B : Option Addr) (n m c c' : Nat) (w : World) (h : n ≠ m) (_ : n ≤ maxLen) (_ : m ≤ maxLen) :
    Calls Tryz.prog 71 #[.slice A n c, .slice B m c'] w fun e w' => e = .returned (.bool false) ∧ Below w.heap.size w w' := by
  have h2 : ¬ (n : Int) = (m : Int) := by omega
  go_enter Tryz.func71, Tryz.ntmps71
  go_wp2
  go_ret
  exact ⟨rfl, Below.refl _ _⟩
set_option maxHeartbeats 400000 in
theorem equalVecNil (A B : Option Addr) (c c' : Nat) (w : World) :
    Calls Tryz.prog 71 #[.slice A 0 c, .slice B 0 c'] w fun e w' => e = .returned (.bool true) ∧ Below w.heap.size w w' := by
  go_enter Tryz.func71, Tryz.ntmps71
  go_wp2
  refine wp_loop_rounds 1 ?_
  rw [rounds_succ]
  go_wp2
  go_ret
  exact ⟨rfl, Below.refl _ _⟩
theorem equalVec (v v' : Value) (xs ys : List (Int × Int)) (b : Bool) (w : World) (h : Holds w v xs) (h' : Holds w v' ys) (hb : decide (xs = ys) = b) :
    Calls Tryz.prog 71 #[v, v'] w fun e w' => e = .returned (.bool b) ∧ Below w.heap.size w w' := by
  obtain ⟨A, c, rfl, hx, hl, hc⟩ := h
  obtain ⟨B, c', rfl, hy, hl', hc'⟩ := h'
  subst hb
  have hm : xs.length ≤ maxLen := Nat.le_trans hl hc
  have hm' : ys.length ≤ maxLen := Nat.le_trans hl' hc'
  rcases Classical.em (xs.length = ys.length) with he | he
  · rcases Nat.eq_zero_or_pos xs.length with h0 | h0
    · have e1 : xs = [] := List.eq_nil_of_length_eq_zero h0
      have e2 : ys = [] := List.eq_nil_of_length_eq_zero (by omega)
      subst e1; subst e2
      exact equalVecNil A B c c' w
    · unfold maxLen at hm hm'
      obtain ⟨b1, o1, rfl, _, hc1⟩ := hx h0
      obtain ⟨b2, o2, rfl, _, hc2⟩ := hy (by omega)
      have h := AnyQ.slices_Equal Tryz.equalVec 2 Tryz.isAgg52 Tryz.sizeOf52 encD encD_len _ neqAtDot b1 o1 xs.length c b2 o2 ys.length c' xs ys w (Nat.le_refl _) (Nat.le_refl _) (by omega) (by omega)
        (fun j hj i v hi => hc1 j xs[j]! (by rw [getElem!_pos xs j hj]; exact List.getElem?_eq_getElem hj) i v hi)
        (fun j hj i v hi => hc2 j ys[j]! (by rw [getElem!_pos ys j hj]; exact List.getElem?_eq_getElem hj) i v hi)
      rw [List.take_length, List.take_length, allEq_dots] at h
      exact Calls.mono (show Calls Tryz.prog 71 #[.slice (some ⟨b1, o1, none⟩) xs.length c, .slice (some ⟨b2, o2, none⟩) ys.length c'] w _ from h) fun e w' ⟨h1, q, h2⟩ => ⟨h1, by rw [h2]; exact below_drewN_q (Below.refl _ w) q⟩
  · have : decide (xs = ys) = false := by simp; intro e; exact he (by rw [e])
    rw [this]
    exact equalVecLen A B _ _ c c' w he hm hm'

set_option maxHeartbeats 400000 in
theorem ctxValid1 (r c : Int) (w : World) :
    Calls Tryz.prog 96 #[.agg #[.int .i64 r, .int .i64 c]] w fun e w' => e = .returned (.bool (!validD r c)) ∧ Below w.heap.size w w' := by
  have VD := fun W => dotValid r c W
  have hal : Below w.heap.size w (w.alloc (.cells #[.int .i64 r, .int .i64 c] 52)) := (Below.refl _ w).alloc (Nat.le_refl _) _
  cases hd : validD r c
  all_goals
    rw [hd] at VD
    have HD := Lib.hid VD
    have HA := Lib.hid hal
    clear VD hd hal
    go_enter Tryz.func96, Tryz.ntmps96
    go_wp2_with fail
    refine (HD.out _).mono ?_
    rintro e w1 ⟨rfl, hb⟩
    have HB := Lib.hid (below_trans HA.out hb)
    clear hb
    go_wp2
    go_ret
    exact ⟨rfl, HB.out⟩
set_option maxHeartbeats 400000 in
theorem indexFNoneD (A : Option Addr) (cap : Nat) (fv : Value) (w : World) :
    Calls Tryz.prog 90 #[.slice A 0 cap, fv] w fun e w' => e = .returned (.int .i64 (-1)) ∧ Below w.heap.size w w' := by
  go_enter Tryz.func90, Tryz.ntmps90
  go_wp2
  refine wp_loop_rounds 1 ?_
  rw [rounds_succ]
  go_wp2
  go_ret
  exact ⟨rfl, Below.refl _ _⟩
set_option maxHeartbeats 400000 in
theorem containsFNoneD (A : Option Addr) (cap : Nat) (fv : Value) (w : World) :
    Calls Tryz.prog 95 #[.slice A 0 cap, fv] w fun e w' => e = .returned (.bool false) ∧ Below w.heap.size w w' := by
  have H := Lib.hid (indexFNoneD A cap fv)
  go_enter Tryz.func95, Tryz.ntmps95
  go_wp2_with fail
  refine (H.out _).mono ?_
  rintro e w1 ⟨rfl, hb⟩
  have HB := Lib.hid hb
  clear hb
  go_wp2
  go_ret
  exact ⟨rfl, HB.out⟩
theorem any_bad (xs : List (Int × Int)) : (xs.any fun d => !validD d.1 d.2) = !okL xs := by
  unfold okL
  rw [List.all_eq_not_any_not, Bool.not_not]
theorem containsBad (v : Value) (xs : List (Int × Int)) (b : Bool) (w : World) (h : Holds w v xs) (hb : okL xs = b) :
    Calls Tryz.prog 95 #[v, .func (.func 96) #[] #[]] w fun e w' => e = .returned (.bool (!b)) ∧ Below w.heap.size w w' := by
  obtain ⟨A, cap, rfl, hx, hl, hc⟩ := h
  have hm := Nat.le_trans hl hc
  unfold maxLen at hm
  subst hb
  rw [← any_bad]
  rcases Nat.eq_zero_or_pos xs.length with h1 | h1
  · have : xs = [] := List.eq_nil_of_length_eq_zero h1
    subst this
    exact containsFNoneD A cap _ w
  · obtain ⟨b, off, rfl, hb, hcc⟩ := hx h1
    have eg : ∀ args w, (callFunc 96 args).run Tryz.prog w = .ok (.enter 96 args) w := enters_of Tryz.func96 (by kernel_rfl) rfl
    have hp : PredBelow Tryz.prog 96 #[] (fun x : Int × Int => .agg (encD x).toArray) (fun x : Int × Int => !validD x.1 x.2) w := fun W x hW =>
      (ctxValid1 x.1 x.2 W).mono fun e w' ⟨he, hb'⟩ => ⟨he, below_trans hW hb'⟩
    have h := AnyQ.slices_ContainsFunc (α := Int × Int) Tryz.containsFDots 2 Tryz.isAgg52 Tryz.sizeOf52 encD encD_len (fun x : Int × Int => !validD x.1 x.2) 96 #[] eg b off xs.length cap xs w hp (Nat.le_refl _) (by omega) hb
      (fun j hj i v hi => hcc j xs[j]! (by rw [getElem!_pos xs j hj]; exact List.getElem?_eq_getElem hj) i v hi)
    rw [List.take_length] at h
    exact h

set_option maxHeartbeats 1000000 in
theorem ctxValid (v : Value) (vs ls : List (Int × Int)) (b : Bool) (w : World) (h : HoldsC w v vs ls) (hb : validC vs ls = b) :
    Calls Tryz.prog 68 #[v] w fun e w' => e = .returned (.bool b) ∧ Below w.heap.size w w' := by
  obtain ⟨A, n, B, m, rfl, h1, h2⟩ := h
  have K := Lib.hid ((((KX.nil w).push h1).push h2).box (.slice A vs.length n) (.slice B ls.length m) 28)
  clear h1 h2
  unfold validC at hb
  cases hv : validV vs with
  | false =>
    rw [hv] at hb
    have HB := Lib.hid (show false = b from hb)
    have HV := Lib.hid fun v W (h : Holds W v vs) => vecValid_h v vs false W h hv
    clear hb hv
    go_enter Tryz.func68, Tryz.ntmps68
    go_wp2_with fail
    refine (HV.out _ _ (K.out.h (by simp))).mono ?_
    rintro e w1 ⟨rfl, hb1⟩
    have K1 := Lib.hid (K.out.below hb1)
    clear hb1
    go_wp2
    go_ret
    exact ⟨ret_bool HB.out, K1.out.bel⟩
  | true =>
    have HV := Lib.hid fun v W (h : Holds W v vs) => vecValid_h v vs true W h hv
    rw [hv] at hb
    cases hs : isSetB ls with
    | false =>
      rw [hs] at hb
      have HB := Lib.hid (show false = b from hb)
      have HS := Lib.hid fun v W (h : Holds W v ls) => dotIsSet_h v ls false W h hs
      clear hb hv hs
      go_enter Tryz.func68, Tryz.ntmps68
      go_wp2_with fail
      refine (HV.out _ _ (K.out.h (by simp))).mono ?_
      rintro e w1 ⟨rfl, hb1⟩
      have K1 := Lib.hid (K.out.below hb1)
      have k2 := K1.out.cell (a := ⟨w.heap.size, 1, none⟩) (v := .slice B ls.length m) (by simp)
      clear hb1
      go_wp2_with fail
      refine (HS.out _ _ (K1.out.h (by simp))).mono ?_
      rintro e w2 ⟨rfl, hb1⟩
      have K2 := Lib.hid (K1.out.below hb1)
      clear hb1 k2
      go_wp2
      go_ret
      exact ⟨ret_bool HB.out, K2.out.bel⟩
    | true =>
      have HS := Lib.hid fun v W (h : Holds W v ls) => dotIsSet_h v ls true W h hs
      rw [hs] at hb
      have HB := Lib.hid (show okL ls = b from hb)
      have HD := Lib.hid fun v W (h : Holds W v ls) => containsBad v ls b W h HB.out
      clear hb hv hs
      go_enter Tryz.func68, Tryz.ntmps68
      go_wp2_with fail
      refine (HV.out _ _ (K.out.h (by simp))).mono ?_
      rintro e w1 ⟨rfl, hb1⟩
      have K1 := Lib.hid (K.out.below hb1)
      have k2 := K1.out.cell (a := ⟨w.heap.size, 1, none⟩) (v := .slice B ls.length m) (by simp)
      clear hb1
      go_wp2_with fail
      refine (HS.out _ _ (K1.out.h (by simp))).mono ?_
      rintro e w2 ⟨rfl, hb1⟩
      have K2 := Lib.hid (K1.out.below hb1)
      clear k2
      have k2 := K2.out.cell (a := ⟨w.heap.size, 1, none⟩) (v := .slice B ls.length m) (by simp)
      clear hb1
      go_wp2_with fail
      refine (HD.out _ _ (K2.out.h (by simp))).mono ?_
      rintro e w3 ⟨rfl, hb1⟩
      have K3 := Lib.hid (K2.out.below hb1)
      clear hb1 k2
      go_wp2
      go_ret
      exact ⟨rfl, K3.out.bel⟩

set_option maxHeartbeats 1000000 in
theorem ctxEqual (v v' : Value) (vs ls vs' ls' : List (Int × Int)) (b : Bool) (w : World) (h : HoldsC w v vs ls) (h' : HoldsC w v' vs' ls') (hb : (decide (vs = vs') && decide (ls = ls')) = b) :
    Calls Tryz.prog 43 #[v, v'] w fun e w' => e = .returned (.bool b) ∧ Below w.heap.size w w' := by
  obtain ⟨A, n, B, m, rfl, h1, h2⟩ := h
  obtain ⟨A', n', B', m', rfl, h1', h2'⟩ := h'
  have K := ((((((KX.nil w).push h1).push h2).push h1').push h2').box (.slice A vs.length n) (.slice B ls.length m) 28).box (.slice A' vs'.length n') (.slice B' ls'.length m') 28
  rw [World.size_alloc] at K
  have K := Lib.hid K
  clear h1 h2 h1' h2'
  cases hv : decide (vs = vs') with
  | false =>
    rw [hv] at hb
    have HB := Lib.hid (show false = b from hb)
    have HV := Lib.hid fun v v' W (h : Holds W v vs) (h' : Holds W v' vs') => equalVec v v' vs vs' false W h h' hv
    clear hb hv
    go_enter Tryz.func43, Tryz.ntmps43
    go_wp2_with fail
    refine (HV.out _ _ _ (K.out.h (by simp)) (K.out.h (by simp))).mono ?_
    rintro e w1 ⟨rfl, hb1⟩
    have K1 := Lib.hid (K.out.below hb1)
    clear hb1
    go_wp2
    go_ret
    exact ⟨ret_bool HB.out, K1.out.bel⟩
  | true =>
    have HV := Lib.hid fun v v' W (h : Holds W v vs) (h' : Holds W v' vs') => equalVec v v' vs vs' true W h h' hv
    rw [hv, Bool.true_and] at hb
    have HS := Lib.hid fun v v' W (h : Holds W v ls) (h' : Holds W v' ls') => equalDots v v' ls ls' b W h h' hb
    clear hb hv
    go_enter Tryz.func43, Tryz.ntmps43
    go_wp2_with fail
    refine (HV.out _ _ _ (K.out.h (by simp)) (K.out.h (by simp))).mono ?_
    rintro e w1 ⟨rfl, hb1⟩
    have K1 := Lib.hid (K.out.below hb1)
    have k2 := K1.out.cell (a := ⟨w.heap.size, 1, none⟩) (v := .slice B ls.length m) (by simp)
    have k3 := K1.out.cell (a := ⟨w.heap.size + 1, 1, none⟩) (v := .slice B' ls'.length m') (by simp)
    clear hb1
    go_wp2_with fail
    refine (HS.out _ _ _ (K1.out.h (by simp)) (K1.out.h (by simp))).mono ?_
    rintro e w2 ⟨rfl, hb1⟩
    have K2 := Lib.hid (K1.out.below hb1)
    clear hb1 k2 k3
    go_wp2
    go_ret
    exact ⟨rfl, K2.out.bel⟩


end

section
open Go.RowKit

theorem hasC_cases (vs ls : List (Int × Int)) (r c : Int) : hasC vs ls r c = (hasV vs r c || (validD r c && decide ((r, c) ∈ ls))) := by
  unfold hasC hasV
  cases validD r c <;> simp

end

section
open Go.RowKit

theorem inc_later {d e : Int × Int} {l : List (Int × Int)} (h : Inc (d :: l)) (he : e ∈ l) (hr : d.1 = e.1) : d.2 < e.2 := by
  have := (List.pairwise_cons.1 h).1 e he
  simp only [ltD, lessD, decide_eq_true_eq] at this
  omega
theorem goes_iff {v : List (Int × Int)} {d : Int × Int} (hd : validD d.1 d.2 = true) : goesC v d = false ↔ getV v d.1 + 1 < d.2 := by
  simp only [goesC, hasV, hd, Bool.true_and, Bool.or_eq_false_iff, decide_eq_false_iff_not, beq_eq_false_iff_ne]
  omega
theorem pass_comp : ∀ {l v rest : List (Int × Int)}, validV v = true → (∀ p ∈ l, validD p.1 p.2 = true) → (∀ p ∈ rest, validD p.1 p.2 = true) → Inc l → (∀ d ∈ rest, goesC v d = false) → (∀ d ∈ rest, ∀ e ∈ l, d.1 = e.1 → d.2 < e.2) →
    ∀ d ∈ (passC v rest l).2, goesC (passC v rest l).1 d = false
  | [], _, _, _, _, _, _, h, _ => h
  | x :: l, v, rest, hv, hl, hr, hi, hg, ho => by
    have hl' : ∀ p ∈ l, validD p.1 p.2 = true := fun p hp => hl p (by simp [hp])
    have hx := hl x (by simp)
    have hi' : Inc l := (List.pairwise_cons.1 hi).2
    have ho' : ∀ d ∈ rest, ∀ e ∈ l, d.1 = e.1 → d.2 < e.2 := fun d hd e he => ho d hd e (by simp [he])
    rw [passC]
    split
    · exact pass_comp hv hl' hr hi' hg ho'
    · rename_i h1
      split
      · rename_i h2
        refine pass_comp (valid_raiseV hv hx) hl' hr hi' (fun d hd => ?_) ho'
        rw [goes_iff (hr d hd), get_raiseV hv hx]
        have h3 := (goes_iff (hr d hd)).1 (hg d hd)
        have h4 := ho d hd x (by simp)
        split
        · rename_i e
          rw [e] at h3
          have := h4 e
          omega
        · exact h3
      · rename_i h2
        refine pass_comp hv hl' (fun p hp => ?_) hi' (fun d hd => ?_) (fun d hd e he hde => ?_)
        · rcases List.mem_append.1 hp with hp | hp
          · exact hr p hp
          · rw [List.mem_singleton.1 hp]; exact hx
        · rcases List.mem_append.1 hd with hd | hd
          · exact hg d hd
          · rw [List.mem_singleton.1 hd, goes_iff hx]
            have h3 : ¬ (x.2 ≤ getV v x.1) := fun h => h1 (hasV_iff.2 ⟨hx, h⟩)
            omega
        · rcases List.mem_append.1 hd with hd | hd
          · exact ho' d hd e he hde
          · rw [List.mem_singleton.1 hd] at hde ⊢
            exact inc_later hi he hde
/-- Of a valid context one pass makes the compact one. -/
theorem pass_compact {v l : List (Int × Int)} (h : validC v l = true) : passC v [] l = compactC v l := by
  obtain ⟨h1, h2, h3⟩ := validC_iff.1 h
  have hc := compC_iff.2 ⟨pass_comp h1 h3 (fun p hp => by cases hp) h2 (fun d hd => by cases hd) (fun d hd => by cases hd), pass_validC h⟩
  rw [compactC_eq h hc (fun r c => pass_hasC h r c)]
theorem ofV_self {v : List (Int × Int)} (h : validV v = true) : ofV v = v := by
  unfold ofV
  rw [merge_comm valid_nil h]
  rfl
theorem ofV_snoc (l : List (Int × Int)) (d : Int × Int) : ofV (l ++ [d]) = raiseV (ofV l) d := mergeV_snoc [] l d

/-- Where a walk through the cloud is, at its place k: the vector u, what was reached, the cloud so far. -/
def AtC (vs ls : List (Int × Int)) (k : Nat) (u re rs : List (Int × Int)) : Prop :=
  passC vs [] ls = passC u rs (ls.drop k) ∧ ofV re = u ∧ validV u = true ∧ (∀ p ∈ re, validD p.1 p.2 = true) ∧ re.length + rs.length ≤ vs.length + k
theorem AtC.start {vs ls : List (Int × Int)} (h : validV vs = true) : AtC vs ls 0 vs vs [] :=
  ⟨by rw [List.drop_zero], ofV_self h, h, ((validV_iff vs).1 h).1, by simp⟩
section
variable {vs ls u re rs : List (Int × Int)} {k : Nat} {d : Int × Int}
theorem AtC.goes (h : AtC vs ls k u re rs) (hd : ls[k]? = some d) : passC vs [] ls = (if hasV u d.1 d.2 then passC u rs (ls.drop (k + 1)) else if d.2 = getV u d.1 + 1 then passC (raiseV u d) rs (ls.drop (k + 1)) else passC u (rs ++ [d]) (ls.drop (k + 1))) := by
  obtain ⟨hl, e⟩ := List.getElem?_eq_some_iff.1 hd
  rw [h.1, ← e, List.drop_eq_getElem_cons hl, passC]
theorem AtC.next (h : AtC vs ls k u re rs) (hd : ls[k]? = some d) (hv : validD d.1 d.2 = true) (hn : d.2 = getV u d.1 + 1) : AtC vs ls (k + 1) (raiseV u d) (re ++ [d]) rs := by
  have hh : hasV u d.1 d.2 = false := by
    cases e : hasV u d.1 d.2
    · rfl
    · have := (hasV_iff.1 e).2; omega
  refine ⟨by rw [h.goes hd, hh, if_neg (by simp), if_pos hn], by rw [ofV_snoc, h.2.1], valid_raiseV h.2.2.1 hv, fun p hp => ?_, by have := h.2.2.2.2; simp; omega⟩
  rcases List.mem_append.1 hp with hp | hp
  · exact h.2.2.2.1 p hp
  · rw [List.mem_singleton.1 hp]; exact hv
theorem AtC.keep (h : AtC vs ls k u re rs) (hd : ls[k]? = some d) (hn : getV u d.1 + 1 < d.2) : AtC vs ls (k + 1) u re (rs ++ [d]) := by
  have hh : hasV u d.1 d.2 = false := by
    cases e : hasV u d.1 d.2
    · rfl
    · have := (hasV_iff.1 e).2; omega
  exact ⟨by rw [h.goes hd, hh, if_neg (by simp), if_neg (by omega)], h.2.1, h.2.2.1, h.2.2.2.1, by have := h.2.2.2.2; simp; omega⟩
theorem AtC.skip (h : AtC vs ls k u re rs) (hd : ls[k]? = some d) (hv : validD d.1 d.2 = true) (hn : d.2 ≤ getV u d.1) : AtC vs ls (k + 1) u re rs := by
  have hh : hasV u d.1 d.2 = true := hasV_iff.2 ⟨hv, hn⟩
  exact ⟨by rw [h.goes hd, if_pos hh], h.2.1, h.2.2.1, h.2.2.2.1, by have := h.2.2.2.2; omega⟩
theorem AtC.done (h : AtC vs ls ls.length u re rs) (hv : validC vs ls = true) : compactC vs ls = (u, rs) ∧ ofV re = u := by
  have h1 := h.1
  rw [List.drop_length, passC] at h1
  exact ⟨by rw [← pass_compact hv, h1], h.2.1⟩
/-- The counter of the replica after a dot went into the vector. -/
theorem get_next (hu : validV u = true) (hv : validD d.1 d.2 = true) (hn : d.2 = getV u d.1 + 1) (r : Int) : getV (raiseV u d) r = if r = d.1 then d.2 else getV u r := by
  rw [get_raiseV hu hv]
  split
  · rename_i e
    rw [e]; omega
  · rfl
end

end

section
open Go Go.RowKit

end

end Go.Proofs.YtpnemekkpifbaaaGreat
