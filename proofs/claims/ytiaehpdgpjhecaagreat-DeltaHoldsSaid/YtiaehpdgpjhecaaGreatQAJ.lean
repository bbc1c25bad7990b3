/- Several texts in one: CtxQ, CtxR, CtxP, Rng. -/
import Derived.Test.YtiaehpdgpjhecaaGreatQAG
import Derived.Test.YtiaehpdgpjhecaaGreatQAH
import Derived.Test.YtiaehpdgpjhecaaGreatQAI
import Derived.Test.YtiaehpdgpjhecaaGreatShelf
import Derived.Test.YtiaehpdgpjhecaaGreatQAD
import Derived.Test.YtiaehpdgpjhecaaGreatQAA
import Derived.RangeFuncWrites
import Derived.RangeFuncBox
import Derived.RangeFuncLeaves
import Derived.RangeFuncCalls
import Derived.RangeFuncBound
namespace Go.Proofs.YtiaehpdgpjhecaaGreat

section
open Go.RowKit

theorem neqAtDot : NeqAt Tryz.prog 30 (fun x : Int × Int => .agg (encD x).toArray) (fun x y => x.1 == y.1 && x.2 == y.2) :=
  ⟨fun x y w => neqDot x.1 x.2 y.1 y.2 w, GuardAt.agg _ (by kernel_rfl)⟩
theorem allEq_dots (xs ys : List (Int × Int)) : Lib.allEq (fun x y : Int × Int => x.1 == y.1 && x.2 == y.2) xs ys = decide (xs = ys) := by
  rw [Bool.eq_iff_iff, decide_eq_true_eq]
  constructor
  · intro h
    rcases Classical.em (xs.length = ys.length) with hl | hl
    · apply List.ext_getElem hl
      intro j h1 h2
      rcases Classical.em (xs[j] = ys[j]) with e | e
      · exact e
      · exfalso
        have := Lib.allEq_elem (fun x y : Int × Int => x.1 == y.1 && x.2 == y.2) xs ys j h1 h2 (by
          rw [getElem!_pos xs j h1, getElem!_pos ys j h2]
          cases e2 : ((xs[j]).1 == (ys[j]).1 && (xs[j]).2 == (ys[j]).2)
          · rfl
          · rw [Bool.and_eq_true, beq_iff_eq, beq_iff_eq] at e2
            exact absurd (Prod.ext e2.1 e2.2) e)
        rw [h] at this; cases this
    · rw [Lib.allEq_len _ _ _ hl] at h; cases h
  · rintro rfl
    exact Lib.allEq_all _ _ _ rfl fun j h => by simp

set_option maxHeartbeats 400000 in
theorem equalDotsLen (A B : Option Addr) (n m c c' : Nat) (w : World) (h : n ≠ m) (_ : n ≤ maxLen) (_ : m ≤ maxLen) :
    Calls Tryz.prog 160 #[.slice A n c, .slice B m c'] w fun e w' => e = .returned (.bool false) ∧ Below w.heap.size w w' := by
  have h2 : ¬ (n : Int) = (m : Int) := by omega
  go_enter Tryz.func160, Tryz.ntmps160
  go_wp2
  go_ret
  exact ⟨rfl, Below.refl _ _⟩
set_option maxHeartbeats 400000 in
theorem equalDotsNil (A B : Option Addr) (c c' : Nat) (w : World) :
    Calls Tryz.prog 160 #[.slice A 0 c, .slice B 0 c'] w fun e w' => e = .returned (.bool true) ∧ Below w.heap.size w w' := by
  go_enter Tryz.func160, Tryz.ntmps160
  go_wp2
  refine wp_loop_rounds 1 ?_
  rw [rounds_succ]
  go_wp2
  go_ret
  exact ⟨rfl, Below.refl _ _⟩
theorem equalDots (v v' : Value) (xs ys : List (Int × Int)) (b : Bool) (w : World) (h : Holds w v xs) (h' : Holds w v' ys) (hb : decide (xs = ys) = b) :
    Calls Tryz.prog 160 #[v, v'] w fun e w' => e = .returned (.bool b) ∧ Below w.heap.size w w' := by
  obtain ⟨A, c, rfl, hx, hl, hc⟩ := h
  obtain ⟨B, c', rfl, hy, hl', hc'⟩ := h'
  subst hb
  have hm : xs.length ≤ maxLen := Nat.le_trans hl hc
  have hm' : ys.length ≤ maxLen := Nat.le_trans hl' hc'
  rcases Classical.em (xs.length = ys.length) with he | he
  · rcases Nat.eq_zero_or_pos xs.length with h0 | h0
    · have e1 : xs = [] := List.eq_nil_of_length_eq_zero h0
      have e2 : ys = [] := List.eq_nil_of_length_eq_zero (by omega)
      subst e1; subst e2
      exact equalDotsNil A B c c' w
    · unfold maxLen at hm hm'
      obtain ⟨b1, o1, rfl, _, hc1⟩ := hx h0
      obtain ⟨b2, o2, rfl, _, hc2⟩ := hy (by omega)
      have h := AnyQ.slices_Equal Tryz.equalDots 2 Tryz.isAgg30 Tryz.sizeOf30 encD encD_len _ neqAtDot b1 o1 xs.length c b2 o2 ys.length c' xs ys w (Nat.le_refl _) (Nat.le_refl _) (by omega) (by omega)
        (fun j hj i v hi => hc1 j xs[j]! (by rw [getElem!_pos xs j hj]; exact List.getElem?_eq_getElem hj) i v hi)
        (fun j hj i v hi => hc2 j ys[j]! (by rw [getElem!_pos ys j hj]; exact List.getElem?_eq_getElem hj) i v hi)
      rw [List.take_length, List.take_length, allEq_dots] at h
      exact Calls.mono (show Calls Tryz.prog 160 #[.slice (some ⟨b1, o1, none⟩) xs.length c, .slice (some ⟨b2, o2, none⟩) ys.length c'] w _ from h) fun e w' ⟨h1, q, h2⟩ => ⟨h1, by rw [h2]; exact below_drewN_q (Below.refl _ w) q⟩
  · have : decide (xs = ys) = false := by simp; intro e; exact he (by rw [e])
    rw [this]
    exact equalDotsLen A B _ _ c c' w he hm hm'

set_option maxHeartbeats 400000 in
theorem equalVecLen (A B : Option Addr) (n m c c' : Nat) (w : World) (h : n ≠ m) (_ : n ≤ maxLen) (_ : m ≤ maxLen) :
    Calls Tryz.prog 159 #[.slice A n c, .slice B m c'] w fun e w' => e = .returned (.bool false) ∧ Below w.heap.size w w' := by
  have h2 : ¬ (n : Int) = (m : Int) := by omega
  go_enter Tryz.func159, Tryz.ntmps159
  go_wp2
  go_ret
  exact ⟨rfl, Below.refl _ _⟩
set_option maxHeartbeats 400000 in
theorem equalVecNil (A B : Option Addr) (c c' : Nat) (w : World) :
    Calls Tryz.prog 159 #[.slice A 0 c, .slice B 0 c'] w fun e w' => e = .returned (.bool true) ∧ Below w.heap.size w w' := by
  go_enter Tryz.func159, Tryz.ntmps159
  go_wp2
  refine wp_loop_rounds 1 ?_
  rw [rounds_succ]
  go_wp2
  go_ret
  exact ⟨rfl, Below.refl _ _⟩
theorem equalVec (v v' : Value) (xs ys : List (Int × Int)) (b : Bool) (w : World) (h : Holds w v xs) (h' : Holds w v' ys) (hb : decide (xs = ys) = b) :
    Calls Tryz.prog 159 #[v, v'] w fun e w' => e = .returned (.bool b) ∧ Below w.heap.size w w' := by
  obtain ⟨A, c, rfl, hx, hl, hc⟩ := h
  obtain ⟨B, c', rfl, hy, hl', hc'⟩ := h'
  subst hb
  have hm : xs.length ≤ maxLen := Nat.le_trans hl hc
  have hm' : ys.length ≤ maxLen := Nat.le_trans hl' hc'
  rcases Classical.em (xs.length = ys.length) with he | he
  · rcases Nat.eq_zero_or_pos xs.length with h0 | h0
    · have e1 : xs = [] := List.eq_nil_of_length_eq_zero h0
      have e2 : ys = [] := List.eq_nil_of_length_eq_zero (by omega)
      subst e1; subst e2
      exact equalVecNil A B c c' w
    · unfold maxLen at hm hm'
      obtain ⟨b1, o1, rfl, _, hc1⟩ := hx h0
      obtain ⟨b2, o2, rfl, _, hc2⟩ := hy (by omega)
      have h := AnyQ.slices_Equal Tryz.equalVec 2 Tryz.isAgg30 Tryz.sizeOf30 encD encD_len _ neqAtDot b1 o1 xs.length c b2 o2 ys.length c' xs ys w (Nat.le_refl _) (Nat.le_refl _) (by omega) (by omega)
        (fun j hj i v hi => hc1 j xs[j]! (by rw [getElem!_pos xs j hj]; exact List.getElem?_eq_getElem hj) i v hi)
        (fun j hj i v hi => hc2 j ys[j]! (by rw [getElem!_pos ys j hj]; exact List.getElem?_eq_getElem hj) i v hi)
      rw [List.take_length, List.take_length, allEq_dots] at h
      exact Calls.mono (show Calls Tryz.prog 159 #[.slice (some ⟨b1, o1, none⟩) xs.length c, .slice (some ⟨b2, o2, none⟩) ys.length c'] w _ from h) fun e w' ⟨h1, q, h2⟩ => ⟨h1, by rw [h2]; exact below_drewN_q (Below.refl _ w) q⟩
  · have : decide (xs = ys) = false := by simp; intro e; exact he (by rw [e])
    rw [this]
    exact equalVecLen A B _ _ c c' w he hm hm'

theorem eqAtDot : EqlAt Tryz.prog 30 (fun x : Int × Int => .agg (encD x).toArray) (fun x y => x.1 == y.1 && x.2 == y.2) :=
  ⟨fun x y w => eqlDot x.1 x.2 y.1 y.2 w, GuardAt.agg _ (by kernel_rfl)⟩

set_option maxHeartbeats 400000 in
theorem indexNone (A : Option Addr) (cap : Nat) (r c : Int) (w : World) :
    Calls Tryz.prog 207 #[.slice A 0 cap, .agg #[.int .i64 r, .int .i64 c]] w fun e w' => e = .returned (.int .i64 (-1)) ∧ Below w.heap.size w w' := by
  go_enter Tryz.func207, Tryz.ntmps207
  go_wp2
  refine wp_loop_rounds 1 ?_
  rw [rounds_succ]
  go_wp2
  go_ret
  exact ⟨rfl, (Below.refl _ _).alloc (Nat.le_refl _) _⟩

set_option maxHeartbeats 400000 in
theorem containsNone (A : Option Addr) (cap : Nat) (r c : Int) (w : World) :
    Calls Tryz.prog 162 #[.slice A 0 cap, .agg #[.int .i64 r, .int .i64 c]] w fun e w' => e = .returned (.bool false) ∧ Below w.heap.size w w' := by
  have H := Lib.hid (indexNone A cap r c)
  go_enter Tryz.func162, Tryz.ntmps162
  go_wp2_with fail
  refine (H.out _).mono ?_
  rintro e w1 ⟨rfl, hb⟩
  have HB := Lib.hid (below_trans ((Below.refl _ w).alloc (Nat.le_refl _) _) hb)
  clear hb
  go_wp2
  go_ret
  exact ⟨rfl, HB.out⟩

theorem any_has (xs : List (Int × Int)) (r c : Int) : (xs.any fun y => (r, c).1 == y.1 && (r, c).2 == y.2) = decide ((r, c) ∈ xs) := by
  rw [Bool.eq_iff_iff]
  simp only [List.any_eq_true, Bool.and_eq_true, beq_iff_eq, decide_eq_true_eq]
  constructor
  · rintro ⟨⟨a, b⟩, h, h1, h2⟩
    have e1 : r = a := h1
    have e2 : c = b := h2
    subst e1; subst e2; exact h
  · exact fun h => ⟨_, h, rfl, rfl⟩

theorem containsDot (A : Option Addr) (xs : List (Int × Int)) (cap : Nat) (r c : Int) (w : World) (hx : DotsAt w A xs) (hm : xs.length ≤ maxLen) :
    Calls Tryz.prog 162 #[.slice A xs.length cap, .agg #[.int .i64 r, .int .i64 c]] w fun e w' => e = .returned (.bool (decide ((r, c) ∈ xs))) ∧ Below w.heap.size w w' := by
  unfold maxLen at hm
  rcases Nat.eq_zero_or_pos xs.length with h0 | h0
  · have : xs = [] := List.eq_nil_of_length_eq_zero h0
    subst this
    exact containsNone A cap r c w
  · obtain ⟨b, off, rfl, _, hc⟩ := hx h0
    have h := AnyQ.slices_Contains Tryz.containsDots 2 Tryz.isAgg30 Tryz.sizeOf30 encD encD_len _ eqAtDot b off xs.length cap xs (r, c) w (Nat.le_refl _) (by omega)
      (fun j hj i v hi => hc j xs[j]! (by rw [getElem!_pos xs j hj]; exact List.getElem?_eq_getElem hj) i v hi)
    rw [List.take_length, any_has] at h
    exact h

set_option maxHeartbeats 400000 in
theorem dotHas (A : Option Addr) (xs : List (Int × Int)) (cap : Nat) (r c : Int) (w : World) (hx : DotsAt w A xs) (hm : xs.length ≤ maxLen) :
    Calls Tryz.prog 103 #[.slice A xs.length cap, .agg #[.int .i64 r, .int .i64 c]] w fun e w' => e = .returned (.bool (decide ((r, c) ∈ xs))) ∧ Below w.heap.size w w' := by
  have H := Lib.hid fun W hW => containsDot A xs cap r c W (hx.below hW) hm
  go_enter Tryz.func103, Tryz.ntmps103
  go_wp2_with fail
  refine (H.out _ ((Below.refl _ w).alloc (Nat.le_refl _) _)).mono ?_
  rintro e w1 ⟨rfl, hb⟩
  have HB := Lib.hid (below_trans ((Below.refl _ w).alloc (Nat.le_refl _) _) hb)
  clear hb
  go_wp2
  go_ret
  exact ⟨rfl, HB.out⟩

theorem has_h (v : Value) (xs : List (Int × Int)) (r c : Int) (b : Bool) (w : World) (h : Holds w v xs) (hb : decide ((r, c) ∈ xs) = b) :
    Calls Tryz.prog 103 #[v, .agg #[.int .i64 r, .int .i64 c]] w fun e w' => e = .returned (.bool b) ∧ Below w.heap.size w w' := by
  obtain ⟨A, n, rfl, h1, h2, h3⟩ := h
  subst hb
  exact dotHas A xs n r c w h1 (Nat.le_trans h2 h3)

set_option maxHeartbeats 400000 in
theorem ctxValid1 (r c : Int) (w : World) :
    Calls Tryz.prog 133 #[.agg #[.int .i64 r, .int .i64 c]] w fun e w' => e = .returned (.bool (!validD r c)) ∧ Below w.heap.size w w' := by
  have VD := fun W => dotValid r c W
  have hal : Below w.heap.size w (w.alloc (.cells #[.int .i64 r, .int .i64 c] 30)) := (Below.refl _ w).alloc (Nat.le_refl _) _
  cases hd : validD r c
  all_goals
    rw [hd] at VD
    have HD := Lib.hid VD
    have HA := Lib.hid hal
    clear VD hd hal
    go_enter Tryz.func133, Tryz.ntmps133
    go_wp2_with fail
    refine (HD.out _).mono ?_
    rintro e w1 ⟨rfl, hb⟩
    have HB := Lib.hid (below_trans HA.out hb)
    clear hb
    go_wp2
    go_ret
    exact ⟨rfl, HB.out⟩
set_option maxHeartbeats 400000 in
theorem indexFNoneD (A : Option Addr) (cap : Nat) (fv : Value) (w : World) :
    Calls Tryz.prog 167 #[.slice A 0 cap, fv] w fun e w' => e = .returned (.int .i64 (-1)) ∧ Below w.heap.size w w' := by
  go_enter Tryz.func167, Tryz.ntmps167
  go_wp2
  refine wp_loop_rounds 1 ?_
  rw [rounds_succ]
  go_wp2
  go_ret
  exact ⟨rfl, Below.refl _ _⟩
set_option maxHeartbeats 400000 in
theorem containsFNoneD (A : Option Addr) (cap : Nat) (fv : Value) (w : World) :
    Calls Tryz.prog 132 #[.slice A 0 cap, fv] w fun e w' => e = .returned (.bool false) ∧ Below w.heap.size w w' := by
  have H := Lib.hid (indexFNoneD A cap fv)
  go_enter Tryz.func132, Tryz.ntmps132
  go_wp2_with fail
  refine (H.out _).mono ?_
  rintro e w1 ⟨rfl, hb⟩
  have HB := Lib.hid hb
  clear hb
  go_wp2
  go_ret
  exact ⟨rfl, HB.out⟩
theorem any_bad (xs : List (Int × Int)) : (xs.any fun d => !validD d.1 d.2) = !okL xs := by
  unfold okL
  rw [List.all_eq_not_any_not, Bool.not_not]
theorem containsBad (v : Value) (xs : List (Int × Int)) (b : Bool) (w : World) (h : Holds w v xs) (hb : okL xs = b) :
    Calls Tryz.prog 132 #[v, .func (.func 133) #[] #[]] w fun e w' => e = .returned (.bool (!b)) ∧ Below w.heap.size w w' := by
  obtain ⟨A, cap, rfl, hx, hl, hc⟩ := h
  have hm := Nat.le_trans hl hc
  unfold maxLen at hm
  subst hb
  rw [← any_bad]
  rcases Nat.eq_zero_or_pos xs.length with h1 | h1
  · have : xs = [] := List.eq_nil_of_length_eq_zero h1
    subst this
    exact containsFNoneD A cap _ w
  · obtain ⟨b, off, rfl, hb, hcc⟩ := hx h1
    have eg : ∀ args w, (callFunc 133 args).run Tryz.prog w = .ok (.enter 133 args) w := enters_of Tryz.func133 (by kernel_rfl) rfl
    have hp : PredBelow Tryz.prog 133 #[] (fun x : Int × Int => .agg (encD x).toArray) (fun x : Int × Int => !validD x.1 x.2) w := fun W x hW =>
      (ctxValid1 x.1 x.2 W).mono fun e w' ⟨he, hb'⟩ => ⟨he, below_trans hW hb'⟩
    have h := AnyQ.slices_ContainsFunc (α := Int × Int) Tryz.containsFDots 2 Tryz.isAgg30 Tryz.sizeOf30 encD encD_len (fun x : Int × Int => !validD x.1 x.2) 133 #[] eg b off xs.length cap xs w hp (Nat.le_refl _) (by omega) hb
      (fun j hj i v hi => hcc j xs[j]! (by rw [getElem!_pos xs j hj]; exact List.getElem?_eq_getElem hj) i v hi)
    rw [List.take_length] at h
    exact h

theorem vecHas_h (v : Value) (xs : List (Int × Int)) (r q : Int) (b : Bool) (w : World) (h : Holds w v xs) (hb : hasV xs r q = b) :
    Calls Tryz.prog 102 #[v, .agg #[.int .i64 r, .int .i64 q]] w fun e w' => e = .returned (.bool b) ∧ Below w.heap.size w w' := by
  obtain ⟨A, c, rfl, h1, h2, h3⟩ := h
  subst hb
  exact vecHas A xs c r q w h1 (Nat.le_trans h2 h3)
set_option maxHeartbeats 1000000 in
theorem ctxValid (v : Value) (vs ls : List (Int × Int)) (b : Bool) (w : World) (h : HoldsC w v vs ls) (hb : validC vs ls = b) :
    Calls Tryz.prog 75 #[v] w fun e w' => e = .returned (.bool b) ∧ Below w.heap.size w w' := by
  obtain ⟨A, n, B, m, rfl, h1, h2⟩ := h
  have K := Lib.hid ((((KX.nil w).push h1).push h2).box (.slice A vs.length n) (.slice B ls.length m) 25)
  clear h1 h2
  unfold validC at hb
  cases hv : validV vs with
  | false =>
    rw [hv] at hb
    have HB := Lib.hid (show false = b from hb)
    have HV := Lib.hid fun v W (h : Holds W v vs) => vecValid_h v vs false W h hv
    clear hb hv
    go_enter Tryz.func75, Tryz.ntmps75
    go_wp2_with fail
    refine (HV.out _ _ (K.out.h (by simp))).mono ?_
    rintro e w1 ⟨rfl, hb1⟩
    have K1 := Lib.hid (K.out.below hb1)
    clear hb1
    go_wp2
    go_ret
    exact ⟨ret_bool HB.out, K1.out.bel⟩
  | true =>
    have HV := Lib.hid fun v W (h : Holds W v vs) => vecValid_h v vs true W h hv
    rw [hv] at hb
    cases hs : isSetB ls with
    | false =>
      rw [hs] at hb
      have HB := Lib.hid (show false = b from hb)
      have HS := Lib.hid fun v W (h : Holds W v ls) => dotIsSet_h v ls false W h hs
      clear hb hv hs
      go_enter Tryz.func75, Tryz.ntmps75
      go_wp2_with fail
      refine (HV.out _ _ (K.out.h (by simp))).mono ?_
      rintro e w1 ⟨rfl, hb1⟩
      have K1 := Lib.hid (K.out.below hb1)
      have k2 := K1.out.cell (a := ⟨w.heap.size, 1, none⟩) (v := .slice B ls.length m) (by simp)
      clear hb1
      go_wp2_with fail
      refine (HS.out _ _ (K1.out.h (by simp))).mono ?_
      rintro e w2 ⟨rfl, hb1⟩
      have K2 := Lib.hid (K1.out.below hb1)
      clear hb1 k2
      go_wp2
      go_ret
      exact ⟨ret_bool HB.out, K2.out.bel⟩
    | true =>
      have HS := Lib.hid fun v W (h : Holds W v ls) => dotIsSet_h v ls true W h hs
      rw [hs] at hb
      have HB := Lib.hid (show okL ls = b from hb)
      have HD := Lib.hid fun v W (h : Holds W v ls) => containsBad v ls b W h HB.out
      clear hb hv hs
      go_enter Tryz.func75, Tryz.ntmps75
      go_wp2_with fail
      refine (HV.out _ _ (K.out.h (by simp))).mono ?_
      rintro e w1 ⟨rfl, hb1⟩
      have K1 := Lib.hid (K.out.below hb1)
      have k2 := K1.out.cell (a := ⟨w.heap.size, 1, none⟩) (v := .slice B ls.length m) (by simp)
      clear hb1
      go_wp2_with fail
      refine (HS.out _ _ (K1.out.h (by simp))).mono ?_
      rintro e w2 ⟨rfl, hb1⟩
      have K2 := Lib.hid (K1.out.below hb1)
      clear k2
      have k2 := K2.out.cell (a := ⟨w.heap.size, 1, none⟩) (v := .slice B ls.length m) (by simp)
      clear hb1
      go_wp2_with fail
      refine (HD.out _ _ (K2.out.h (by simp))).mono ?_
      rintro e w3 ⟨rfl, hb1⟩
      have K3 := Lib.hid (K2.out.below hb1)
      clear hb1 k2
      go_wp2
      go_ret
      exact ⟨rfl, K3.out.bel⟩

set_option maxHeartbeats 1000000 in
theorem ctxEqual (v v' : Value) (vs ls vs' ls' : List (Int × Int)) (b : Bool) (w : World) (h : HoldsC w v vs ls) (h' : HoldsC w v' vs' ls') (hb : (decide (vs = vs') && decide (ls = ls')) = b) :
    Calls Tryz.prog 101 #[v, v'] w fun e w' => e = .returned (.bool b) ∧ Below w.heap.size w w' := by
  obtain ⟨A, n, B, m, rfl, h1, h2⟩ := h
  obtain ⟨A', n', B', m', rfl, h1', h2'⟩ := h'
  have K := ((((((KX.nil w).push h1).push h2).push h1').push h2').box (.slice A vs.length n) (.slice B ls.length m) 25).box (.slice A' vs'.length n') (.slice B' ls'.length m') 25
  rw [World.size_alloc] at K
  have K := Lib.hid K
  clear h1 h2 h1' h2'
  cases hv : decide (vs = vs') with
  | false =>
    rw [hv] at hb
    have HB := Lib.hid (show false = b from hb)
    have HV := Lib.hid fun v v' W (h : Holds W v vs) (h' : Holds W v' vs') => equalVec v v' vs vs' false W h h' hv
    clear hb hv
    go_enter Tryz.func101, Tryz.ntmps101
    go_wp2_with fail
    refine (HV.out _ _ _ (K.out.h (by simp)) (K.out.h (by simp))).mono ?_
    rintro e w1 ⟨rfl, hb1⟩
    have K1 := Lib.hid (K.out.below hb1)
    clear hb1
    go_wp2
    go_ret
    exact ⟨ret_bool HB.out, K1.out.bel⟩
  | true =>
    have HV := Lib.hid fun v v' W (h : Holds W v vs) (h' : Holds W v' vs') => equalVec v v' vs vs' true W h h' hv
    rw [hv, Bool.true_and] at hb
    have HS := Lib.hid fun v v' W (h : Holds W v ls) (h' : Holds W v' ls') => equalDots v v' ls ls' b W h h' hb
    clear hb hv
    go_enter Tryz.func101, Tryz.ntmps101
    go_wp2_with fail
    refine (HV.out _ _ _ (K.out.h (by simp)) (K.out.h (by simp))).mono ?_
    rintro e w1 ⟨rfl, hb1⟩
    have K1 := Lib.hid (K.out.below hb1)
    have k2 := K1.out.cell (a := ⟨w.heap.size, 1, none⟩) (v := .slice B ls.length m) (by simp)
    have k3 := K1.out.cell (a := ⟨w.heap.size + 1, 1, none⟩) (v := .slice B' ls'.length m') (by simp)
    clear hb1
    go_wp2_with fail
    refine (HS.out _ _ _ (K1.out.h (by simp)) (K1.out.h (by simp))).mono ?_
    rintro e w2 ⟨rfl, hb1⟩
    have K2 := Lib.hid (K1.out.below hb1)
    clear hb1 k2 k3
    go_wp2
    go_ret
    exact ⟨rfl, K2.out.bel⟩


end

section
open Go.RowKit

theorem hasC_cases (vs ls : List (Int × Int)) (r c : Int) : hasC vs ls r c = (hasV vs r c || (validD r c && decide ((r, c) ∈ ls))) := by
  unfold hasC hasV
  cases validD r c <;> simp

set_option maxRecDepth 100000 in
set_option maxHeartbeats 2000000 in
theorem ctxHas (v : Value) (vs ls : List (Int × Int)) (r c : Int) (b : Bool) (w : World) (h : HoldsC w v vs ls) (hb : hasC vs ls r c = b) :
    Calls Tryz.prog 52 #[v, .agg #[.int .i64 r, .int .i64 c]] w fun e w' => e = .returned (.bool b) ∧ Below w.heap.size w w' := by
  obtain ⟨A, n, B, m, rfl, h1, h2⟩ := h
  have K := ((((KX.nil w).push h1).push h2).box (.slice A vs.length n) (.slice B ls.length m) 25).box (.int .i64 r) (.int .i64 c) 30
  rw [World.size_alloc] at K
  have K := Lib.hid K
  clear h1 h2
  have VD := fun W => dotValid r c W
  rw [hasC_cases] at hb
  cases hv : hasV vs r c with
  | true =>
    rw [hv] at hb
    have HB := Lib.hid (show true = b from hb)
    have HV := Lib.hid fun v W (h : Holds W v vs) => vecHas_h v vs r c true W h hv
    clear hb VD hv
    go_enter Tryz.func52, Tryz.ntmps52
    go_wp2_with fail
    refine (HV.out _ _ (K.out.h (by simp))).mono ?_
    rintro e w1 ⟨rfl, hb1⟩
    have K1 := Lib.hid (K.out.below hb1)
    clear hb1
    go_wp2
    go_ret
    exact ⟨ret_bool HB.out, K1.out.bel⟩
  | false =>
    rw [hv, Bool.false_or] at hb
    have HV := Lib.hid fun v W (h : Holds W v vs) => vecHas_h v vs r c false W h hv
    cases hd : validD r c with
    | false =>
      rw [hd] at hb VD
      have HB := Lib.hid (show false = b from hb)
      have HD := Lib.hid VD
      clear hb VD hv hd
      go_enter Tryz.func52, Tryz.ntmps52
      go_wp2_with fail
      refine (HV.out _ _ (K.out.h (by simp))).mono ?_
      rintro e w1 ⟨rfl, hb1⟩
      have K1 := Lib.hid (K.out.below hb1)
      have k2 := K1.out.cell (a := ⟨w.heap.size + 1, 0, none⟩) (v := .int .i64 r) (by simp)
      have k3 := K1.out.cell (a := ⟨w.heap.size + 1, 1, none⟩) (v := .int .i64 c) (by simp)
      clear hb1
      go_wp2_with fail
      refine (HD.out _).mono ?_
      rintro e w2 ⟨rfl, hb1⟩
      have K2 := Lib.hid (K1.out.below hb1)
      clear hb1 k2 k3
      go_wp2
      go_ret
      exact ⟨ret_bool HB.out, K2.out.bel⟩
    | true =>
      rw [hd, Bool.true_and] at hb
      rw [hd] at VD
      have HD := Lib.hid VD
      have HL := Lib.hid fun v W (h : Holds W v ls) => has_h v ls r c b W h hb
      clear hb hd VD hv
      go_enter Tryz.func52, Tryz.ntmps52
      go_wp2_with fail
      refine (HV.out _ _ (K.out.h (by simp))).mono ?_
      rintro e w1 ⟨rfl, hb1⟩
      have K1 := Lib.hid (K.out.below hb1)
      have k2 := K1.out.cell (a := ⟨w.heap.size + 1, 0, none⟩) (v := .int .i64 r) (by simp)
      have k3 := K1.out.cell (a := ⟨w.heap.size + 1, 1, none⟩) (v := .int .i64 c) (by simp)
      clear hb1
      go_wp2_with fail
      refine (HD.out _).mono ?_
      rintro e w2 ⟨rfl, hb1⟩
      have K2 := Lib.hid (K1.out.below hb1)
      clear hb1 k2 k3
      have k1 := K2.out.cell (a := ⟨w.heap.size, 1, none⟩) (v := .slice B ls.length m) (by simp)
      have k2 := K2.out.cell (a := ⟨w.heap.size + 1, 0, none⟩) (v := .int .i64 r) (by simp)
      have k3 := K2.out.cell (a := ⟨w.heap.size + 1, 1, none⟩) (v := .int .i64 c) (by simp)
      go_wp2_with fail
      refine (HL.out _ _ (K2.out.h (by simp))).mono ?_
      rintro e w3 ⟨rfl, hb1⟩
      have K3 := Lib.hid (K2.out.below hb1)
      clear hb1 k1 k2 k3
      go_wp2
      go_ret
      exact ⟨rfl, K3.out.bel⟩

end

section
open Go.RowKit

theorem inc_later {d e : Int × Int} {l : List (Int × Int)} (h : Inc (d :: l)) (he : e ∈ l) (hr : d.1 = e.1) : d.2 < e.2 := by
  have := (List.pairwise_cons.1 h).1 e he
  simp only [ltD, lessD, decide_eq_true_eq] at this
  omega
theorem goes_iff {v : List (Int × Int)} {d : Int × Int} (hd : validD d.1 d.2 = true) : goesC v d = false ↔ getV v d.1 + 1 < d.2 := by
  simp only [goesC, hasV, hd, Bool.true_and, Bool.or_eq_false_iff, decide_eq_false_iff_not, beq_eq_false_iff_ne]
  omega
theorem pass_comp : ∀ {l v rest : List (Int × Int)}, validV v = true → (∀ p ∈ l, validD p.1 p.2 = true) → (∀ p ∈ rest, validD p.1 p.2 = true) → Inc l → (∀ d ∈ rest, goesC v d = false) → (∀ d ∈ rest, ∀ e ∈ l, d.1 = e.1 → d.2 < e.2) →
    ∀ d ∈ (passC v rest l).2, goesC (passC v rest l).1 d = false
  | [], _, _, _, _, _, _, h, _ => h
  | x :: l, v, rest, hv, hl, hr, hi, hg, ho => by
    have hl' : ∀ p ∈ l, validD p.1 p.2 = true := fun p hp => hl p (by simp [hp])
    have hx := hl x (by simp)
    have hi' : Inc l := (List.pairwise_cons.1 hi).2
    have ho' : ∀ d ∈ rest, ∀ e ∈ l, d.1 = e.1 → d.2 < e.2 := fun d hd e he => ho d hd e (by simp [he])
    rw [passC]
    split
    · exact pass_comp hv hl' hr hi' hg ho'
    · rename_i h1
      split
      · rename_i h2
        refine pass_comp (valid_raiseV hv hx) hl' hr hi' (fun d hd => ?_) ho'
        rw [goes_iff (hr d hd), get_raiseV hv hx]
        have h3 := (goes_iff (hr d hd)).1 (hg d hd)
        have h4 := ho d hd x (by simp)
        split
        · rename_i e
          rw [e] at h3
          have := h4 e
          omega
        · exact h3
      · rename_i h2
        refine pass_comp hv hl' (fun p hp => ?_) hi' (fun d hd => ?_) (fun d hd e he hde => ?_)
        · rcases List.mem_append.1 hp with hp | hp
          · exact hr p hp
          · rw [List.mem_singleton.1 hp]; exact hx
        · rcases List.mem_append.1 hd with hd | hd
          · exact hg d hd
          · rw [List.mem_singleton.1 hd, goes_iff hx]
            have h3 : ¬ (x.2 ≤ getV v x.1) := fun h => h1 (hasV_iff.2 ⟨hx, h⟩)
            omega
        · rcases List.mem_append.1 hd with hd | hd
          · exact ho' d hd e he hde
          · rw [List.mem_singleton.1 hd] at hde ⊢
            exact inc_later hi he hde
/-- Of a valid context one pass makes the compact one. -/
theorem pass_compact {v l : List (Int × Int)} (h : validC v l = true) : passC v [] l = compactC v l := by
  obtain ⟨h1, h2, h3⟩ := validC_iff.1 h
  have hc := compC_iff.2 ⟨pass_comp h1 h3 (fun p hp => by cases hp) h2 (fun d hd => by cases hd) (fun d hd => by cases hd), pass_validC h⟩
  rw [compactC_eq h hc (fun r c => pass_hasC h r c)]
theorem ofV_self {v : List (Int × Int)} (h : validV v = true) : ofV v = v := by
  unfold ofV
  rw [merge_comm valid_nil h]
  rfl
theorem ofV_snoc (l : List (Int × Int)) (d : Int × Int) : ofV (l ++ [d]) = raiseV (ofV l) d := mergeV_snoc [] l d

/-- Where a walk through the cloud is, at its place k: the vector u, what was reached, the cloud so far. -/
def AtC (vs ls : List (Int × Int)) (k : Nat) (u re rs : List (Int × Int)) : Prop :=
  passC vs [] ls = passC u rs (ls.drop k) ∧ ofV re = u ∧ validV u = true ∧ (∀ p ∈ re, validD p.1 p.2 = true) ∧ re.length + rs.length ≤ vs.length + k
theorem AtC.start {vs ls : List (Int × Int)} (h : validV vs = true) : AtC vs ls 0 vs vs [] :=
  ⟨by rw [List.drop_zero], ofV_self h, h, ((validV_iff vs).1 h).1, by simp⟩
section
variable {vs ls u re rs : List (Int × Int)} {k : Nat} {d : Int × Int}
theorem AtC.goes (h : AtC vs ls k u re rs) (hd : ls[k]? = some d) : passC vs [] ls = (if hasV u d.1 d.2 then passC u rs (ls.drop (k + 1)) else if d.2 = getV u d.1 + 1 then passC (raiseV u d) rs (ls.drop (k + 1)) else passC u (rs ++ [d]) (ls.drop (k + 1))) := by
  obtain ⟨hl, e⟩ := List.getElem?_eq_some_iff.1 hd
  rw [h.1, ← e, List.drop_eq_getElem_cons hl, passC]
theorem AtC.next (h : AtC vs ls k u re rs) (hd : ls[k]? = some d) (hv : validD d.1 d.2 = true) (hn : d.2 = getV u d.1 + 1) : AtC vs ls (k + 1) (raiseV u d) (re ++ [d]) rs := by
  have hh : hasV u d.1 d.2 = false := by
    cases e : hasV u d.1 d.2
    · rfl
    · have := (hasV_iff.1 e).2; omega
  refine ⟨by rw [h.goes hd, hh, if_neg (by simp), if_pos hn], by rw [ofV_snoc, h.2.1], valid_raiseV h.2.2.1 hv, fun p hp => ?_, by have := h.2.2.2.2; simp; omega⟩
  rcases List.mem_append.1 hp with hp | hp
  · exact h.2.2.2.1 p hp
  · rw [List.mem_singleton.1 hp]; exact hv
theorem AtC.keep (h : AtC vs ls k u re rs) (hd : ls[k]? = some d) (hn : getV u d.1 + 1 < d.2) : AtC vs ls (k + 1) u re (rs ++ [d]) := by
  have hh : hasV u d.1 d.2 = false := by
    cases e : hasV u d.1 d.2
    · rfl
    · have := (hasV_iff.1 e).2; omega
  exact ⟨by rw [h.goes hd, hh, if_neg (by simp), if_neg (by omega)], h.2.1, h.2.2.1, h.2.2.2.1, by have := h.2.2.2.2; simp; omega⟩
theorem AtC.skip (h : AtC vs ls k u re rs) (hd : ls[k]? = some d) (hv : validD d.1 d.2 = true) (hn : d.2 ≤ getV u d.1) : AtC vs ls (k + 1) u re rs := by
  have hh : hasV u d.1 d.2 = true := hasV_iff.2 ⟨hv, hn⟩
  exact ⟨by rw [h.goes hd, if_pos hh], h.2.1, h.2.2.1, h.2.2.2.1, by have := h.2.2.2.2; omega⟩
theorem AtC.done (h : AtC vs ls ls.length u re rs) (hv : validC vs ls = true) : compactC vs ls = (u, rs) ∧ ofV re = u := by
  have h1 := h.1
  rw [List.drop_length, passC] at h1
  exact ⟨by rw [← pass_compact hv, h1], h.2.1⟩
/-- The counter of the replica after a dot went into the vector. -/
theorem get_next (hu : validV u = true) (hv : validD d.1 d.2 = true) (hn : d.2 = getV u d.1 + 1) (r : Int) : getV (raiseV u d) r = if r = d.1 then d.2 else getV u r := by
  rw [get_raiseV hu hv]
  split
  · rename_i e
    rw [e]; omega
  · rfl
end

end

section
open Go Go.RowKit

end

end Go.Proofs.YtiaehpdgpjhecaaGreat
