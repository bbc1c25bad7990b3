/- Package context: what slices.Equal, slices.Contains, slices.ContainsFunc say of dots; Valid, Equal, Has. -/
import Derived.Test.YtibnlifdeknicaaCtxA
import Derived.Test.YtibnlifdeknicaaCtxC
import Derived.Test.YtibnlifdeknicaaVecF
import Derived.Test.YtibnlifdeknicaaShelf
namespace Go.Proofs.Ytibnlifdeknicaa
open Go.RowKit

theorem neqAtDot : NeqAt Try.prog 38 (fun x : Int × Int => .agg (encD x).toArray) (fun x y => x.1 == y.1 && x.2 == y.2) :=
  ⟨fun x y w => neqDot x.1 x.2 y.1 y.2 w, GuardAt.agg _ (by kernel_rfl)⟩
theorem allEq_dots (xs ys : List (Int × Int)) : Lib.allEq (fun x y : Int × Int => x.1 == y.1 && x.2 == y.2) xs ys = decide (xs = ys) := by
  rw [Bool.eq_iff_iff, decide_eq_true_eq]
  constructor
  · intro h
    rcases Classical.em (xs.length = ys.length) with hl | hl
    · apply List.ext_getElem hl
      intro j h1 h2
      rcases Classical.em (xs[j] = ys[j]) with e | e
      · exact e
      · exfalso
        have := Lib.allEq_elem (fun x y : Int × Int => x.1 == y.1 && x.2 == y.2) xs ys j h1 h2 (by
          rw [getElem!_pos xs j h1, getElem!_pos ys j h2]
          cases e2 : ((xs[j]).1 == (ys[j]).1 && (xs[j]).2 == (ys[j]).2)
          · rfl
          · rw [Bool.and_eq_true, beq_iff_eq, beq_iff_eq] at e2
            exact absurd (Prod.ext e2.1 e2.2) e)
        rw [h] at this; cases this
    · rw [Lib.allEq_len _ _ _ hl] at h; cases h
  · rintro rfl
    exact Lib.allEq_all _ _ _ rfl fun j h => by simp

set_option maxHeartbeats 400000 in
theorem equalDotsLen (A B : Option Addr) (n m c c' : Nat) (w : World) (h : n ≠ m) (hn : n ≤ maxLen) (hm : m ≤ maxLen) :
    Calls Try.prog 52 #[.slice A n c, .slice B m c'] w fun e w' => e = .returned (.bool false) ∧ Below w.heap.size w w' := by
  have h2 : ¬ (n : Int) = (m : Int) := by omega
  go_enter Try.func52, Try.ntmps52
  go_wp2
  go_ret
  exact ⟨rfl, Below.refl _ _⟩
set_option maxHeartbeats 400000 in
theorem equalDotsNil (A B : Option Addr) (c c' : Nat) (w : World) :
    Calls Try.prog 52 #[.slice A 0 c, .slice B 0 c'] w fun e w' => e = .returned (.bool true) ∧ Below w.heap.size w w' := by
  go_enter Try.func52, Try.ntmps52
  go_wp2
  refine wp_loop_rounds 1 ?_
  rw [rounds_succ]
  go_wp2
  go_ret
  exact ⟨rfl, Below.refl _ _⟩
theorem equalDots (v v' : Value) (xs ys : List (Int × Int)) (b : Bool) (w : World) (h : Holds w v xs) (h' : Holds w v' ys) (hb : decide (xs = ys) = b) :
    Calls Try.prog 52 #[v, v'] w fun e w' => e = .returned (.bool b) ∧ Below w.heap.size w w' := by
  obtain ⟨A, c, rfl, hx, hl, hc⟩ := h
  obtain ⟨B, c', rfl, hy, hl', hc'⟩ := h'
  subst hb
  have hm : xs.length ≤ maxLen := Nat.le_trans hl hc
  have hm' : ys.length ≤ maxLen := Nat.le_trans hl' hc'
  rcases Classical.em (xs.length = ys.length) with he | he
  · rcases Nat.eq_zero_or_pos xs.length with h0 | h0
    · have e1 : xs = [] := List.eq_nil_of_length_eq_zero h0
      have e2 : ys = [] := List.eq_nil_of_length_eq_zero (by omega)
      subst e1; subst e2
      exact equalDotsNil A B c c' w
    · unfold maxLen at hm hm'
      obtain ⟨b1, o1, rfl, _, hc1⟩ := hx h0
      obtain ⟨b2, o2, rfl, _, hc2⟩ := hy (by omega)
      have h := AnyQ.slices_Equal Try.equalDots 2 Try.isAgg38 Try.sizeOf38 encD encD_len _ neqAtDot b1 o1 xs.length c b2 o2 ys.length c' xs ys w (Nat.le_refl _) (Nat.le_refl _) (by omega) (by omega)
        (fun j hj i v hi => hc1 j xs[j]! (by rw [getElem!_pos xs j hj]; exact List.getElem?_eq_getElem hj) i v hi)
        (fun j hj i v hi => hc2 j ys[j]! (by rw [getElem!_pos ys j hj]; exact List.getElem?_eq_getElem hj) i v hi)
      rw [List.take_length, List.take_length, allEq_dots] at h
      exact Calls.mono (show Calls Try.prog 52 #[.slice (some ⟨b1, o1, none⟩) xs.length c, .slice (some ⟨b2, o2, none⟩) ys.length c'] w _ from h) fun e w' ⟨h1, q, h2⟩ => ⟨h1, by rw [h2]; exact below_drewN_q (Below.refl _ w) q⟩
  · have : decide (xs = ys) = false := by simp; intro e; exact he (by rw [e])
    rw [this]
    exact equalDotsLen A B _ _ c c' w he hm hm'

set_option maxHeartbeats 400000 in
theorem equalVecLen (A B : Option Addr) (n m c c' : Nat) (w : World) (h : n ≠ m) (hn : n ≤ maxLen) (hm : m ≤ maxLen) :
    Calls Try.prog 51 #[.slice A n c, .slice B m c'] w fun e w' => e = .returned (.bool false) ∧ Below w.heap.size w w' := by
  have h2 : ¬ (n : Int) = (m : Int) := by omega
  go_enter Try.func51, Try.ntmps51
  go_wp2
  go_ret
  exact ⟨rfl, Below.refl _ _⟩
set_option maxHeartbeats 400000 in
theorem equalVecNil (A B : Option Addr) (c c' : Nat) (w : World) :
    Calls Try.prog 51 #[.slice A 0 c, .slice B 0 c'] w fun e w' => e = .returned (.bool true) ∧ Below w.heap.size w w' := by
  go_enter Try.func51, Try.ntmps51
  go_wp2
  refine wp_loop_rounds 1 ?_
  rw [rounds_succ]
  go_wp2
  go_ret
  exact ⟨rfl, Below.refl _ _⟩
theorem equalVec (v v' : Value) (xs ys : List (Int × Int)) (b : Bool) (w : World) (h : Holds w v xs) (h' : Holds w v' ys) (hb : decide (xs = ys) = b) :
    Calls Try.prog 51 #[v, v'] w fun e w' => e = .returned (.bool b) ∧ Below w.heap.size w w' := by
  obtain ⟨A, c, rfl, hx, hl, hc⟩ := h
  obtain ⟨B, c', rfl, hy, hl', hc'⟩ := h'
  subst hb
  have hm : xs.length ≤ maxLen := Nat.le_trans hl hc
  have hm' : ys.length ≤ maxLen := Nat.le_trans hl' hc'
  rcases Classical.em (xs.length = ys.length) with he | he
  · rcases Nat.eq_zero_or_pos xs.length with h0 | h0
    · have e1 : xs = [] := List.eq_nil_of_length_eq_zero h0
      have e2 : ys = [] := List.eq_nil_of_length_eq_zero (by omega)
      subst e1; subst e2
      exact equalVecNil A B c c' w
    · unfold maxLen at hm hm'
      obtain ⟨b1, o1, rfl, _, hc1⟩ := hx h0
      obtain ⟨b2, o2, rfl, _, hc2⟩ := hy (by omega)
      have h := AnyQ.slices_Equal Try.equalVec 2 Try.isAgg38 Try.sizeOf38 encD encD_len _ neqAtDot b1 o1 xs.length c b2 o2 ys.length c' xs ys w (Nat.le_refl _) (Nat.le_refl _) (by omega) (by omega)
        (fun j hj i v hi => hc1 j xs[j]! (by rw [getElem!_pos xs j hj]; exact List.getElem?_eq_getElem hj) i v hi)
        (fun j hj i v hi => hc2 j ys[j]! (by rw [getElem!_pos ys j hj]; exact List.getElem?_eq_getElem hj) i v hi)
      rw [List.take_length, List.take_length, allEq_dots] at h
      exact Calls.mono (show Calls Try.prog 51 #[.slice (some ⟨b1, o1, none⟩) xs.length c, .slice (some ⟨b2, o2, none⟩) ys.length c'] w _ from h) fun e w' ⟨h1, q, h2⟩ => ⟨h1, by rw [h2]; exact below_drewN_q (Below.refl _ w) q⟩
  · have : decide (xs = ys) = false := by simp; intro e; exact he (by rw [e])
    rw [this]
    exact equalVecLen A B _ _ c c' w he hm hm'

theorem eqAtDot : EqlAt Try.prog 38 (fun x : Int × Int => .agg (encD x).toArray) (fun x y => x.1 == y.1 && x.2 == y.2) :=
  ⟨fun x y w => eqlDot x.1 x.2 y.1 y.2 w, GuardAt.agg _ (by kernel_rfl)⟩

set_option maxHeartbeats 400000 in
theorem indexNone (A : Option Addr) (cap : Nat) (r c : Int) (w : World) :
    Calls Try.prog 88 #[.slice A 0 cap, .agg #[.int .i64 r, .int .i64 c]] w fun e w' => e = .returned (.int .i64 (-1)) ∧ Below w.heap.size w w' := by
  go_enter Try.func88, Try.ntmps88
  go_wp2
  refine wp_loop_rounds 1 ?_
  rw [rounds_succ]
  go_wp2
  go_ret
  exact ⟨rfl, (Below.refl _ _).alloc (Nat.le_refl _) _⟩

set_option maxHeartbeats 400000 in
theorem containsNone (A : Option Addr) (cap : Nat) (r c : Int) (w : World) :
    Calls Try.prog 79 #[.slice A 0 cap, .agg #[.int .i64 r, .int .i64 c]] w fun e w' => e = .returned (.bool false) ∧ Below w.heap.size w w' := by
  have H := Lib.hid (indexNone A cap r c)
  go_enter Try.func79, Try.ntmps79
  go_wp2_with fail
  refine (H.out _).mono ?_
  rintro e w1 ⟨rfl, hb⟩
  have HB := Lib.hid (below_trans ((Below.refl _ w).alloc (Nat.le_refl _) _) hb)
  clear hb
  go_wp2
  go_ret
  exact ⟨rfl, HB.out⟩

theorem any_has (xs : List (Int × Int)) (r c : Int) : (xs.any fun y => (r, c).1 == y.1 && (r, c).2 == y.2) = decide ((r, c) ∈ xs) := by
  rw [Bool.eq_iff_iff]
  simp only [List.any_eq_true, Bool.and_eq_true, beq_iff_eq, decide_eq_true_eq]
  constructor
  · rintro ⟨⟨a, b⟩, h, h1, h2⟩
    have e1 : r = a := h1
    have e2 : c = b := h2
    subst e1; subst e2; exact h
  · exact fun h => ⟨_, h, rfl, rfl⟩

theorem containsDot (A : Option Addr) (xs : List (Int × Int)) (cap : Nat) (r c : Int) (w : World) (hx : DotsAt w A xs) (hm : xs.length ≤ maxLen) :
    Calls Try.prog 79 #[.slice A xs.length cap, .agg #[.int .i64 r, .int .i64 c]] w fun e w' => e = .returned (.bool (decide ((r, c) ∈ xs))) ∧ Below w.heap.size w w' := by
  unfold maxLen at hm
  rcases Nat.eq_zero_or_pos xs.length with h0 | h0
  · have : xs = [] := List.eq_nil_of_length_eq_zero h0
    subst this
    exact containsNone A cap r c w
  · obtain ⟨b, off, rfl, _, hc⟩ := hx h0
    have h := AnyQ.slices_Contains Try.containsDots 2 Try.isAgg38 Try.sizeOf38 encD encD_len _ eqAtDot b off xs.length cap xs (r, c) w (Nat.le_refl _) (by omega)
      (fun j hj i v hi => hc j xs[j]! (by rw [getElem!_pos xs j hj]; exact List.getElem?_eq_getElem hj) i v hi)
    rw [List.take_length, any_has] at h
    exact h

set_option maxHeartbeats 400000 in
theorem dotHas (A : Option Addr) (xs : List (Int × Int)) (cap : Nat) (r c : Int) (w : World) (hx : DotsAt w A xs) (hm : xs.length ≤ maxLen) :
    Calls Try.prog 58 #[.slice A xs.length cap, .agg #[.int .i64 r, .int .i64 c]] w fun e w' => e = .returned (.bool (decide ((r, c) ∈ xs))) ∧ Below w.heap.size w w' := by
  have H := Lib.hid fun W hW => containsDot A xs cap r c W (hx.below hW) hm
  go_enter Try.func58, Try.ntmps58
  go_wp2_with fail
  refine (H.out _ ((Below.refl _ w).alloc (Nat.le_refl _) _)).mono ?_
  rintro e w1 ⟨rfl, hb⟩
  have HB := Lib.hid (below_trans ((Below.refl _ w).alloc (Nat.le_refl _) _) hb)
  clear hb
  go_wp2
  go_ret
  exact ⟨rfl, HB.out⟩

theorem has_h (v : Value) (xs : List (Int × Int)) (r c : Int) (b : Bool) (w : World) (h : Holds w v xs) (hb : decide ((r, c) ∈ xs) = b) :
    Calls Try.prog 58 #[v, .agg #[.int .i64 r, .int .i64 c]] w fun e w' => e = .returned (.bool b) ∧ Below w.heap.size w w' := by
  obtain ⟨A, n, rfl, h1, h2, h3⟩ := h
  subst hb
  exact dotHas A xs n r c w h1 (Nat.le_trans h2 h3)

set_option maxHeartbeats 400000 in
theorem ctxValid1 (r c : Int) (w : World) :
    Calls Try.prog 45 #[.agg #[.int .i64 r, .int .i64 c]] w fun e w' => e = .returned (.bool (!validD r c)) ∧ Below w.heap.size w w' := by
  have VD := fun W => dotValid r c W
  have hal : Below w.heap.size w (w.alloc (.cells #[.int .i64 r, .int .i64 c] 38)) := (Below.refl _ w).alloc (Nat.le_refl _) _
  cases hd : validD r c
  all_goals
    rw [hd] at VD
    have HD := Lib.hid VD
    have HA := Lib.hid hal
    clear VD hd hal
    go_enter Try.func45, Try.ntmps45
    go_wp2_with fail
    refine (HD.out _).mono ?_
    rintro e w1 ⟨rfl, hb⟩
    have HB := Lib.hid (below_trans HA.out hb)
    clear hb
    go_wp2
    go_ret
    exact ⟨rfl, HB.out⟩
set_option maxHeartbeats 400000 in
theorem indexFNoneD (A : Option Addr) (cap : Nat) (fv : Value) (w : World) :
    Calls Try.prog 73 #[.slice A 0 cap, fv] w fun e w' => e = .returned (.int .i64 (-1)) ∧ Below w.heap.size w w' := by
  go_enter Try.func73, Try.ntmps73
  go_wp2
  refine wp_loop_rounds 1 ?_
  rw [rounds_succ]
  go_wp2
  go_ret
  exact ⟨rfl, Below.refl _ _⟩
set_option maxHeartbeats 400000 in
theorem containsFNoneD (A : Option Addr) (cap : Nat) (fv : Value) (w : World) :
    Calls Try.prog 44 #[.slice A 0 cap, fv] w fun e w' => e = .returned (.bool false) ∧ Below w.heap.size w w' := by
  have H := Lib.hid (indexFNoneD A cap fv)
  go_enter Try.func44, Try.ntmps44
  go_wp2_with fail
  refine (H.out _).mono ?_
  rintro e w1 ⟨rfl, hb⟩
  have HB := Lib.hid hb
  clear hb
  go_wp2
  go_ret
  exact ⟨rfl, HB.out⟩
theorem any_bad (xs : List (Int × Int)) : (xs.any fun d => !validD d.1 d.2) = !okL xs := by
  unfold okL
  rw [List.all_eq_not_any_not, Bool.not_not]
theorem containsBad (v : Value) (xs : List (Int × Int)) (b : Bool) (w : World) (h : Holds w v xs) (hb : okL xs = b) :
    Calls Try.prog 44 #[v, .func (.func 45) #[] #[]] w fun e w' => e = .returned (.bool (!b)) ∧ Below w.heap.size w w' := by
  obtain ⟨A, cap, rfl, hx, hl, hc⟩ := h
  have hm := Nat.le_trans hl hc
  unfold maxLen at hm
  subst hb
  rw [← any_bad]
  rcases Nat.eq_zero_or_pos xs.length with h1 | h1
  · have : xs = [] := List.eq_nil_of_length_eq_zero h1
    subst this
    exact containsFNoneD A cap _ w
  · obtain ⟨b, off, rfl, hb, hcc⟩ := hx h1
    have eg : ∀ args w, (callFunc 45 args).run Try.prog w = .ok (.enter 45 args) w := enters_of Try.func45 (by kernel_rfl) rfl
    have hp : PredBelow Try.prog 45 #[] (fun x : Int × Int => .agg (encD x).toArray) (fun x : Int × Int => !validD x.1 x.2) w := fun W x hW =>
      (ctxValid1 x.1 x.2 W).mono fun e w' ⟨he, hb'⟩ => ⟨he, below_trans hW hb'⟩
    have h := AnyQ.slices_ContainsFunc (α := Int × Int) Try.containsFDots 2 Try.isAgg38 Try.sizeOf38 encD encD_len (fun x : Int × Int => !validD x.1 x.2) 45 #[] eg b off xs.length cap xs w hp (Nat.le_refl _) (by omega) hb
      (fun j hj i v hi => hcc j xs[j]! (by rw [getElem!_pos xs j hj]; exact List.getElem?_eq_getElem hj) i v hi)
    rw [List.take_length] at h
    exact h

theorem dotIsSet_h (v : Value) (xs : List (Int × Int)) (b : Bool) (w : World) (h : Holds w v xs) (hb : isSetB xs = b) :
    Calls Try.prog 43 #[v] w fun e w' => e = .returned (.bool b) ∧ Below w.heap.size w w' := by
  obtain ⟨A, c, rfl, h1, h2, h3⟩ := h
  subst hb
  exact dotIsSet A xs c w h1 (Nat.le_trans h2 h3)
theorem vecHas_h (v : Value) (xs : List (Int × Int)) (r q : Int) (b : Bool) (w : World) (h : Holds w v xs) (hb : hasV xs r q = b) :
    Calls Try.prog 57 #[v, .agg #[.int .i64 r, .int .i64 q]] w fun e w' => e = .returned (.bool b) ∧ Below w.heap.size w w' := by
  obtain ⟨A, c, rfl, h1, h2, h3⟩ := h
  subst hb
  exact vecHas A xs c r q w h1 (Nat.le_trans h2 h3)
set_option maxHeartbeats 1000000 in
theorem ctxValid (v : Value) (vs ls : List (Int × Int)) (b : Bool) (w : World) (h : HoldsC w v vs ls) (hb : validC vs ls = b) :
    Calls Try.prog 11 #[v] w fun e w' => e = .returned (.bool b) ∧ Below w.heap.size w w' := by
  obtain ⟨A, n, B, m, rfl, h1, h2⟩ := h
  have K := Lib.hid ((((KX.nil w).push h1).push h2).box (.slice A vs.length n) (.slice B ls.length m) 25)
  clear h1 h2
  unfold validC at hb
  cases hv : validV vs with
  | false =>
    rw [hv] at hb
    have HB := Lib.hid (show false = b from hb)
    have HV := Lib.hid fun v W (h : Holds W v vs) => vecValid_h v vs false W h hv
    clear hb hv
    go_enter Try.func11, Try.ntmps11
    go_wp2_with fail
    refine (HV.out _ _ (K.out.h (by simp))).mono ?_
    rintro e w1 ⟨rfl, hb1⟩
    have K1 := Lib.hid (K.out.below hb1)
    clear hb1
    go_wp2
    go_ret
    exact ⟨ret_bool HB.out, K1.out.bel⟩
  | true =>
    have HV := Lib.hid fun v W (h : Holds W v vs) => vecValid_h v vs true W h hv
    rw [hv] at hb
    cases hs : isSetB ls with
    | false =>
      rw [hs] at hb
      have HB := Lib.hid (show false = b from hb)
      have HS := Lib.hid fun v W (h : Holds W v ls) => dotIsSet_h v ls false W h hs
      clear hb hv hs
      go_enter Try.func11, Try.ntmps11
      go_wp2_with fail
      refine (HV.out _ _ (K.out.h (by simp))).mono ?_
      rintro e w1 ⟨rfl, hb1⟩
      have K1 := Lib.hid (K.out.below hb1)
      have k2 := K1.out.cell (a := ⟨w.heap.size, 1, none⟩) (v := .slice B ls.length m) (by simp)
      clear hb1
      go_wp2_with fail
      refine (HS.out _ _ (K1.out.h (by simp))).mono ?_
      rintro e w2 ⟨rfl, hb1⟩
      have K2 := Lib.hid (K1.out.below hb1)
      clear hb1 k2
      go_wp2
      go_ret
      exact ⟨ret_bool HB.out, K2.out.bel⟩
    | true =>
      have HS := Lib.hid fun v W (h : Holds W v ls) => dotIsSet_h v ls true W h hs
      rw [hs] at hb
      have HB := Lib.hid (show okL ls = b from hb)
      have HD := Lib.hid fun v W (h : Holds W v ls) => containsBad v ls b W h HB.out
      clear hb hv hs
      go_enter Try.func11, Try.ntmps11
      go_wp2_with fail
      refine (HV.out _ _ (K.out.h (by simp))).mono ?_
      rintro e w1 ⟨rfl, hb1⟩
      have K1 := Lib.hid (K.out.below hb1)
      have k2 := K1.out.cell (a := ⟨w.heap.size, 1, none⟩) (v := .slice B ls.length m) (by simp)
      clear hb1
      go_wp2_with fail
      refine (HS.out _ _ (K1.out.h (by simp))).mono ?_
      rintro e w2 ⟨rfl, hb1⟩
      have K2 := Lib.hid (K1.out.below hb1)
      clear k2
      have k2 := K2.out.cell (a := ⟨w.heap.size, 1, none⟩) (v := .slice B ls.length m) (by simp)
      clear hb1
      go_wp2_with fail
      refine (HD.out _ _ (K2.out.h (by simp))).mono ?_
      rintro e w3 ⟨rfl, hb1⟩
      have K3 := Lib.hid (K2.out.below hb1)
      clear hb1 k2
      go_wp2
      go_ret
      exact ⟨rfl, K3.out.bel⟩

set_option maxHeartbeats 1000000 in
theorem ctxEqual (v v' : Value) (vs ls vs' ls' : List (Int × Int)) (b : Bool) (w : World) (h : HoldsC w v vs ls) (h' : HoldsC w v' vs' ls') (hb : (decide (vs = vs') && decide (ls = ls')) = b) :
    Calls Try.prog 15 #[v, v'] w fun e w' => e = .returned (.bool b) ∧ Below w.heap.size w w' := by
  obtain ⟨A, n, B, m, rfl, h1, h2⟩ := h
  obtain ⟨A', n', B', m', rfl, h1', h2'⟩ := h'
  have K := ((((((KX.nil w).push h1).push h2).push h1').push h2').box (.slice A vs.length n) (.slice B ls.length m) 25).box (.slice A' vs'.length n') (.slice B' ls'.length m') 25
  rw [World.size_alloc] at K
  have K := Lib.hid K
  clear h1 h2 h1' h2'
  cases hv : decide (vs = vs') with
  | false =>
    rw [hv] at hb
    have HB := Lib.hid (show false = b from hb)
    have HV := Lib.hid fun v v' W (h : Holds W v vs) (h' : Holds W v' vs') => equalVec v v' vs vs' false W h h' hv
    clear hb hv
    go_enter Try.func15, Try.ntmps15
    go_wp2_with fail
    refine (HV.out _ _ _ (K.out.h (by simp)) (K.out.h (by simp))).mono ?_
    rintro e w1 ⟨rfl, hb1⟩
    have K1 := Lib.hid (K.out.below hb1)
    clear hb1
    go_wp2
    go_ret
    exact ⟨ret_bool HB.out, K1.out.bel⟩
  | true =>
    have HV := Lib.hid fun v v' W (h : Holds W v vs) (h' : Holds W v' vs') => equalVec v v' vs vs' true W h h' hv
    rw [hv, Bool.true_and] at hb
    have HS := Lib.hid fun v v' W (h : Holds W v ls) (h' : Holds W v' ls') => equalDots v v' ls ls' b W h h' hb
    clear hb hv
    go_enter Try.func15, Try.ntmps15
    go_wp2_with fail
    refine (HV.out _ _ _ (K.out.h (by simp)) (K.out.h (by simp))).mono ?_
    rintro e w1 ⟨rfl, hb1⟩
    have K1 := Lib.hid (K.out.below hb1)
    have k2 := K1.out.cell (a := ⟨w.heap.size, 1, none⟩) (v := .slice B ls.length m) (by simp)
    have k3 := K1.out.cell (a := ⟨w.heap.size + 1, 1, none⟩) (v := .slice B' ls'.length m') (by simp)
    clear hb1
    go_wp2_with fail
    refine (HS.out _ _ _ (K1.out.h (by simp)) (K1.out.h (by simp))).mono ?_
    rintro e w2 ⟨rfl, hb1⟩
    have K2 := Lib.hid (K1.out.below hb1)
    clear hb1 k2 k3
    go_wp2
    go_ret
    exact ⟨rfl, K2.out.bel⟩


end Go.Proofs.Ytibnlifdeknicaa
