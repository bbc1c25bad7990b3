/- The reference of layer 3: Dots, Valid, Equal, Has. -/
import Derived.Test.YtibnlifdeknicaaCtxL
import Derived.Test.YtibnlifdeknicaaVecB
namespace Go.Proofs.Ytibnlifdeknicaa
open Go.RowKit

/-- What holds all along: some cells, the heap as it lay, some lists of dots. -/
def KX (w0 : World) (C : List (Addr × Value)) (L : List (Value × List (Int × Int))) (W : World) : Prop :=
  (∀ p ∈ C, W.cell? p.1 = some p.2 ∧ p.1.block < W.heap.size) ∧ Below w0.heap.size w0 W ∧ ∀ p ∈ L, Holds W p.1 p.2
section
variable {w0 : World} {C : List (Addr × Value)} {L : List (Value × List (Int × Int))} {W W' : World}
theorem KX.below (h : KX w0 C L W) (hb : Below W.heap.size W W') : KX w0 C L W' :=
  ⟨fun p hp => ⟨(hb.cell (h.1 p hp).2).trans (h.1 p hp).1, Nat.lt_of_lt_of_le (h.1 p hp).2 hb.size⟩, below_trans h.2.1 hb, fun p hp => (h.2.2 p hp).below hb⟩
theorem KX.alloc (h : KX w0 C L W) (o : Obj) : KX w0 C L (W.alloc o) := h.below ((Below.refl _ W).alloc (Nat.le_refl _) o)
theorem KX.drew (h : KX w0 C L W) : KX w0 C L W.drew := h.below (Below.refl _ W).drew
theorem KX.far (h : KX w0 C L W) (p : FarBy) : KX w0 C L (Go.Proofs.Ytibnlifdeknicaa.far W p) := h.below (below_far W p)
theorem KX.bel (h : KX w0 C L W) : Below w0.heap.size w0 W := h.2.1
theorem KX.cell {a : Addr} {v : Value} (h : KX w0 C L W) (hm : (a, v) ∈ C) : W.cell? a = some v := (h.1 _ hm).1
theorem KX.lt {a : Addr} {v : Value} (h : KX w0 C L W) (hm : (a, v) ∈ C) : a.block < W.heap.size := (h.1 _ hm).2
theorem KX.h {v : Value} {xs : List (Int × Int)} (h : KX w0 C L W) (hm : (v, xs) ∈ L) : Holds W v xs := h.2.2 _ hm
theorem KX.push {v : Value} {xs : List (Int × Int)} (h : KX w0 C L W) (hv : Holds W v xs) : KX w0 C ((v, xs) :: L) W :=
  ⟨h.1, h.2.1, fun p hp => by
    rcases List.mem_cons.1 hp with rfl | hp
    · exact hv
    · exact h.2.2 p hp⟩
theorem KX.nil (W : World) : KX W [] [] W := ⟨(fun p hp => by cases hp), Below.refl _ _, (fun p hp => by cases hp)⟩
/-- A block of two cells is laid. -/
theorem KX.box (h : KX w0 C L W) (x y : Value) (t : TypeId) : KX w0 ((⟨W.heap.size, 0, none⟩, x) :: (⟨W.heap.size, 1, none⟩, y) :: C) L (W.alloc (.cells #[x, y] t)) := by
  have h2 := h.alloc (.cells #[x, y] t)
  refine ⟨fun p hp => ?_, h2.2.1, h2.2.2⟩
  rcases List.mem_cons.1 hp with rfl | hp
  · exact ⟨by go_simp, by simp⟩
  · rcases List.mem_cons.1 hp with rfl | hp
    · exact ⟨by go_simp, by simp⟩
    · exact h2.1 p hp
end

set_option maxHeartbeats 1000000 in
theorem ref3Dots (A : Option Addr) (xs : List (Int × Int)) (cap : Nat) (w : World) (hx : DotsAt w A xs) (hm : xs.length ≤ maxLen) :
    Calls Try.prog 29 #[.slice A xs.length cap] w fun e w' => e = .returned (.bool (okL xs)) ∧ Below w.heap.size w w' := by
  unfold maxLen at hm
  go_enter Try.func29, Try.ntmps29
  go_wp2
  go_loopw [3] (fun i wr => ∃ m : Nat, m ≤ xs.length ∧ i = .int .i64 m ∧ Below w.heap.size w wr ∧ Hid (∀ j p, j < m → xs[j]? = some p → validD p.1 p.2 = true)) (fun i _ => xs.length - (intOf i).toNat)
  case atStart => exact ⟨0, by omega, rfl, Below.refl _ _, fun j p h => by omega⟩
  case round =>
    obtain ⟨m, hk2, rfl, hb, hs⟩ := hrel
    by_cases hlt : m < xs.length
    · obtain ⟨b, off, r, c, rfl, hbl, hx1, hc0, hc1⟩ := (hx.below hb).dot (j := m) hlt
      have hr := fun W => refValid r c W
      cases hq : validD r c
      · rw [hq] at hr
        have HR := Lib.hid hr
        have HV := Lib.hid (show okL xs = false from by
          cases e : okL xs
          · rfl
          · have := (okL_iff xs).1 e (r, c) (List.mem_of_getElem? hx1)
            rw [hq] at this; cases this)
        clear hr hq hx1
        go_wp2_with fail
        refine (HR.out _).mono ?_
        rintro e w1 ⟨rfl, hb1⟩
        clear hc0 hc1
        go_wp2
        go_ret
        exact ⟨ret_bool HV.out.symm, hb.trans (hb1.mono hb.size)⟩
      · rw [hq] at hr
        have HR := Lib.hid hr
        have HV := Lib.hid (show ∀ j p, j < m + 1 → xs[j]? = some p → validD p.1 p.2 = true from fun j p hj hp => by
          by_cases e : j = m
          · subst e; rw [hx1] at hp; cases hp; exact hq
          · exact hs.out j p (by omega) hp)
        clear hr hq hx1
        go_wp2_with fail
        refine (HR.out _).mono ?_
        rintro e w1 ⟨rfl, hb1⟩
        clear hc0 hc1
        go_wp2
        go_roundw
        case rel => exact ⟨m + 1, by omega, by go_num, hb.trans (hb1.mono hb.size), HV⟩
        case measure => simp [intOf]; omega
    · have HV := Lib.hid (show okL xs = true from (okL_iff xs).2 fun p hp => by
        obtain ⟨j, hj⟩ := List.mem_iff_getElem?.1 hp
        have hl := (List.getElem?_eq_some_iff.1 hj).1
        exact hs.out j p (by omega) hj)
      go_wp2
      go_ret
      exact ⟨ret_bool HV.out.symm, hb⟩

theorem ref3Dots_h (v : Value) (xs : List (Int × Int)) (b : Bool) (w : World) (h : Holds w v xs) (hb : okL xs = b) :
    Calls Try.prog 29 #[v] w fun e w' => e = .returned (.bool b) ∧ Below w.heap.size w w' := by
  obtain ⟨A, c, rfl, h1, h2, h3⟩ := h
  subst hb
  exact ref3Dots A xs c w h1 (Nat.le_trans h2 h3)
theorem refIsSet_h3 (v : Value) (xs : List (Int × Int)) (b : Bool) (w : World) (h : Holds w v xs) (hb : isSetB xs = b) :
    Calls Try.prog 48 #[v] w fun e w' => e = .returned (.bool b) ∧ Below w.heap.size w w' := by
  obtain ⟨A, c, rfl, h1, h2, h3⟩ := h
  subst hb
  exact refIsSet A xs c w h1 (Nat.le_trans h2 h3)
theorem ref2Valid_h3 (v : Value) (xs : List (Int × Int)) (b : Bool) (w : World) (h : Holds w v xs) (hb : validV xs = b) :
    Calls Try.prog 47 #[v] w fun e w' => e = .returned (.bool b) ∧ Below w.heap.size w w' := by
  obtain ⟨A, c, rfl, h1, h2, h3⟩ := h
  subst hb
  exact ref2Valid A xs c w h1 (Nat.le_trans h2 h3)
theorem same_h3 (v v' : Value) (xs ys : List (Int × Int)) (b : Bool) (w : World) (h : Holds w v xs) (h' : Holds w v' ys) (hb : decide (xs = ys) = b) :
    Calls Try.prog 26 #[v, v'] w fun e w' => e = .returned (.bool b) ∧ Below w.heap.size w w' := by
  obtain ⟨A, c, rfl, h1, h2, h3⟩ := h
  obtain ⟨A', c', rfl, h1', h2', h3'⟩ := h'
  subst hb
  exact refSame A A' xs ys c c' w h1 h1' (Nat.le_trans h2 h3) (Nat.le_trans h2' h3')

/-- A context that is handed in. -/
def HoldsC (W : World) (v : Value) (vs ls : List (Int × Int)) : Prop := ∃ A n B m, v = .agg #[.slice A vs.length n, .slice B ls.length m] ∧ Holds W (.slice A vs.length n) vs ∧ Holds W (.slice B ls.length m) ls
theorem HoldsC.below {W W' : World} {v : Value} {vs ls : List (Int × Int)} (h : HoldsC W v vs ls) (hb : Below W.heap.size W W') : HoldsC W' v vs ls := by
  obtain ⟨A, n, B, m, rfl, h1, h2⟩ := h
  exact ⟨A, n, B, m, rfl, h1.below hb, h2.below hb⟩
theorem HoldsC.mk {W : World} {x y : Value} {vs ls : List (Int × Int)} (h : Holds W x vs) (h' : Holds W y ls) : HoldsC W (.agg #[x, y]) vs ls := by
  have h0 := h
  have h0' := h'
  obtain ⟨A, n, rfl, _⟩ := h
  obtain ⟨B, m, rfl, _⟩ := h'
  exact ⟨A, n, B, m, rfl, h0, h0'⟩

set_option maxHeartbeats 1000000 in
theorem ref3Valid (v : Value) (vs ls : List (Int × Int)) (b : Bool) (w : World) (h : HoldsC w v vs ls) (hb : validC vs ls = b) :
    Calls Try.prog 12 #[v] w fun e w' => e = .returned (.bool b) ∧ Below w.heap.size w w' := by
  obtain ⟨A, n, B, m, rfl, h1, h2⟩ := h
  have K := Lib.hid ((((KX.nil w).push h1).push h2).box (.slice A vs.length n) (.slice B ls.length m) 25)
  clear h1 h2
  unfold validC at hb
  cases hv : validV vs with
  | false =>
    rw [hv] at hb
    have HB := Lib.hid (show false = b from hb)
    have HV := Lib.hid fun v W (h : Holds W v vs) => ref2Valid_h3 v vs false W h hv
    clear hb hv
    go_enter Try.func12, Try.ntmps12
    go_wp2_with fail
    refine (HV.out _ _ (K.out.h (by simp))).mono ?_
    rintro e w1 ⟨rfl, hb1⟩
    have K1 := Lib.hid (K.out.below hb1)
    clear hb1
    go_wp2
    go_ret
    exact ⟨ret_bool HB.out, K1.out.bel⟩
  | true =>
    have HV := Lib.hid fun v W (h : Holds W v vs) => ref2Valid_h3 v vs true W h hv
    rw [hv] at hb
    cases hs : isSetB ls with
    | false =>
      rw [hs] at hb
      have HB := Lib.hid (show false = b from hb)
      have HS := Lib.hid fun v W (h : Holds W v ls) => refIsSet_h3 v ls false W h hs
      clear hb hv hs
      go_enter Try.func12, Try.ntmps12
      go_wp2_with fail
      refine (HV.out _ _ (K.out.h (by simp))).mono ?_
      rintro e w1 ⟨rfl, hb1⟩
      have K1 := Lib.hid (K.out.below hb1)
      have k2 := K1.out.cell (a := ⟨w.heap.size, 1, none⟩) (v := .slice B ls.length m) (by simp)
      clear hb1
      go_wp2_with fail
      refine (HS.out _ _ (K1.out.h (by simp))).mono ?_
      rintro e w2 ⟨rfl, hb1⟩
      have K2 := Lib.hid (K1.out.below hb1)
      clear hb1 k2
      go_wp2
      go_ret
      exact ⟨ret_bool HB.out, K2.out.bel⟩
    | true =>
      have HS := Lib.hid fun v W (h : Holds W v ls) => refIsSet_h3 v ls true W h hs
      rw [hs] at hb
      have HB := Lib.hid (show okL ls = b from hb)
      have HD := Lib.hid fun v W (h : Holds W v ls) => ref3Dots_h v ls b W h HB.out
      clear hb hv hs
      go_enter Try.func12, Try.ntmps12
      go_wp2_with fail
      refine (HV.out _ _ (K.out.h (by simp))).mono ?_
      rintro e w1 ⟨rfl, hb1⟩
      have K1 := Lib.hid (K.out.below hb1)
      have k2 := K1.out.cell (a := ⟨w.heap.size, 1, none⟩) (v := .slice B ls.length m) (by simp)
      clear hb1
      go_wp2_with fail
      refine (HS.out _ _ (K1.out.h (by simp))).mono ?_
      rintro e w2 ⟨rfl, hb1⟩
      have K2 := Lib.hid (K1.out.below hb1)
      clear k2
      have k2 := K2.out.cell (a := ⟨w.heap.size, 1, none⟩) (v := .slice B ls.length m) (by simp)
      clear hb1
      go_wp2_with fail
      refine (HD.out _ _ (K2.out.h (by simp))).mono ?_
      rintro e w3 ⟨rfl, hb1⟩
      have K3 := Lib.hid (K2.out.below hb1)
      clear hb1 k2
      go_wp2
      go_ret
      exact ⟨rfl, K3.out.bel⟩

set_option maxHeartbeats 1000000 in
theorem ref3Equal (v v' : Value) (vs ls vs' ls' : List (Int × Int)) (b : Bool) (w : World) (h : HoldsC w v vs ls) (h' : HoldsC w v' vs' ls') (hb : (decide (vs = vs') && decide (ls = ls')) = b) :
    Calls Try.prog 16 #[v, v'] w fun e w' => e = .returned (.bool b) ∧ Below w.heap.size w w' := by
  obtain ⟨A, n, B, m, rfl, h1, h2⟩ := h
  obtain ⟨A', n', B', m', rfl, h1', h2'⟩ := h'
  have K := ((((((KX.nil w).push h1).push h2).push h1').push h2').box (.slice A vs.length n) (.slice B ls.length m) 25).box (.slice A' vs'.length n') (.slice B' ls'.length m') 25
  rw [World.size_alloc] at K
  have K := Lib.hid K
  clear h1 h2 h1' h2'
  cases hv : decide (vs = vs') with
  | false =>
    rw [hv] at hb
    have HB := Lib.hid (show false = b from hb)
    have HV := Lib.hid fun v v' W (h : Holds W v vs) (h' : Holds W v' vs') => same_h3 v v' vs vs' false W h h' hv
    clear hb hv
    go_enter Try.func16, Try.ntmps16
    go_wp2_with fail
    refine (HV.out _ _ _ (K.out.h (by simp)) (K.out.h (by simp))).mono ?_
    rintro e w1 ⟨rfl, hb1⟩
    have K1 := Lib.hid (K.out.below hb1)
    clear hb1
    go_wp2
    go_ret
    exact ⟨ret_bool HB.out, K1.out.bel⟩
  | true =>
    have HV := Lib.hid fun v v' W (h : Holds W v vs) (h' : Holds W v' vs') => same_h3 v v' vs vs' true W h h' hv
    rw [hv, Bool.true_and] at hb
    have HS := Lib.hid fun v v' W (h : Holds W v ls) (h' : Holds W v' ls') => same_h3 v v' ls ls' b W h h' hb
    clear hb hv
    go_enter Try.func16, Try.ntmps16
    go_wp2_with fail
    refine (HV.out _ _ _ (K.out.h (by simp)) (K.out.h (by simp))).mono ?_
    rintro e w1 ⟨rfl, hb1⟩
    have K1 := Lib.hid (K.out.below hb1)
    have k2 := K1.out.cell (a := ⟨w.heap.size, 1, none⟩) (v := .slice B ls.length m) (by simp)
    have k3 := K1.out.cell (a := ⟨w.heap.size + 1, 1, none⟩) (v := .slice B' ls'.length m') (by simp)
    clear hb1
    go_wp2_with fail
    refine (HS.out _ _ _ (K1.out.h (by simp)) (K1.out.h (by simp))).mono ?_
    rintro e w2 ⟨rfl, hb1⟩
    have K2 := Lib.hid (K1.out.below hb1)
    clear hb1 k2 k3
    go_wp2
    go_ret
    exact ⟨rfl, K2.out.bel⟩

end Go.Proofs.Ytibnlifdeknicaa
