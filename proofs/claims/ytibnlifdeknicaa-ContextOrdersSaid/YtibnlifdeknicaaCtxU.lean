/- Package context: IsCompact, Size. -/
import Derived.Test.YtibnlifdeknicaaCtxT
import Derived.Test.YtibnlifdeknicaaCtxJ
namespace Go.Proofs.Ytibnlifdeknicaa
open Go.RowKit

theorem MineV.set2 {w W wc : World} {x : Value} {us : List (Int × Int)} {g : Nat} (h : MineV W wc x us) (hw : w.heap.size ≤ W.heap.size) (hg : g < W.heap.size) (hb : Below w.heap.size w wc) (hwg : w.heap.size ≤ g) (a b : Value) :
    MineV w ((wc.setCell ⟨g, 0, none⟩ a).setCell ⟨g, 1, none⟩ b) x us :=
  ⟨row_set2 (Joins.ownsRow_le h.1 hw) (fun e => by have := (h.1.lt _ e).1; omega) _ _, below_set2 hb hwg _ _⟩

theorem ctxCompact_t (v : Value) (vs ls us rs : List (Int × Int)) (w : World) (h : HoldsC w v vs ls) (hv : validC vs ls = true) (hm : vs.length + ls.length ≤ 1000) (hz : compactC vs ls = (us, rs)) :
    Calls Try.prog 20 #[v] w fun e w' => (∃ A n B m, e = .returned (.tuple #[.agg #[.slice A us.length n, .slice B rs.length m], .int .i64 0]) ∧ MineV w w' (.slice A us.length n) us ∧ MineV w w' (.slice B rs.length m) rs) ∧ Below w.heap.size w w' := by
  refine (ctxCompact v vs ls w h hm).mono ?_
  rintro e w' ⟨⟨h1, _⟩, hb⟩
  rw [hz] at h1
  obtain ⟨x, y, he, hx, hy⟩ := h1 hv
  have hx0 := hx
  have hy0 := hy
  obtain ⟨A, n, rfl, _⟩ := hx.holds
  obtain ⟨B, m, rfl, _⟩ := hy.holds
  exact ⟨⟨A, n, B, m, he, hx0, hy0⟩, hb⟩
theorem ctxCompact_f (v : Value) (vs ls : List (Int × Int)) (w : World) (h : HoldsC w v vs ls) (hv : validC vs ls = false) (hm : vs.length + ls.length ≤ 1000) :
    Calls Try.prog 20 #[v] w fun e w' => e = .returned (.tuple #[.agg #[.slice none 0 0, .slice none 0 0], .int .i64 2]) ∧ Below w.heap.size w w' :=
  (ctxCompact v vs ls w h hm).mono fun e w' ⟨⟨_, h1⟩, hb⟩ => ⟨h1 hv, hb⟩

theorem compact_self_iff {vs ls us rs : List (Int × Int)} (h : validC vs ls = true) (hz : compactC vs ls = (us, rs)) : (decide (us = vs) && decide (rs = ls)) = compC vs ls := by
  rw [Bool.eq_iff_iff, Bool.and_eq_true, decide_eq_true_eq, decide_eq_true_eq]
  constructor
  · rintro ⟨rfl, rfl⟩
    have := compactC_comp h
    rwa [hz] at this
  · intro hc
    rw [compactC_self hc] at hz
    cases hz
    exact ⟨rfl, rfl⟩

set_option maxRecDepth 100000 in
set_option maxHeartbeats 2000000 in
theorem ctxIsCompact (v : Value) (vs ls : List (Int × Int)) (b : Bool) (w : World) (h : HoldsC w v vs ls) (hm : vs.length + ls.length ≤ 1000) (hb : compC vs ls = b) :
    Calls Try.prog 13 #[v] w fun e w' => e = .returned (.bool b) ∧ Below w.heap.size w w' := by
  obtain ⟨A, n, B, m, rfl, h1, h2⟩ := h
  have K := Lib.hid ((((KX.nil w).push h1).push h2).box (.slice A vs.length n) (.slice B ls.length m) 25)
  clear h1 h2
  obtain ⟨us, rs, hz⟩ : ∃ us rs, compactC vs ls = (us, rs) := ⟨_, _, rfl⟩
  cases hv : validC vs ls with
  | false =>
    have HB := Lib.hid (show false = b by rw [← hb]; unfold compC; rw [hv, Bool.and_false])
    have HC := Lib.hid fun W (h : HoldsC W (.agg #[.slice A vs.length n, .slice B ls.length m]) vs ls) => ctxCompact_f _ vs ls W h hv hm
    clear hv hb hz
    go_enter Try.func13, Try.ntmps13
    go_wp2_with fail
    refine (HC.out _ (HoldsC.mk (K.out.h (by simp)) (K.out.h (by simp)))).mono ?_
    rintro e w1 ⟨rfl, hb1⟩
    have K1 := Lib.hid ((K.out.below hb1).alloc (.cells #[.slice none 0 0, .slice none 0 0] 25))
    clear hb1
    go_wp2
    go_ret
    exact ⟨ret_bool HB.out, K1.out.bel⟩
  | true =>
    have HE := Lib.hid ((compact_self_iff hv hz).trans hb)
    have HC := Lib.hid fun W (h : HoldsC W (.agg #[.slice A vs.length n, .slice B ls.length m]) vs ls) => ctxCompact_t _ vs ls us rs W h hv hm hz
    clear hv hb hz
    go_enter Try.func13, Try.ntmps13
    go_wp2_with fail
    refine (HC.out _ (HoldsC.mk (K.out.h (by simp)) (K.out.h (by simp)))).mono ?_
    rintro e w1 ⟨⟨A1, n1, B1, m1, rfl, hx, hy⟩, hb1⟩
    have K0 := K.out.below hb1
    have K1 := Lib.hid (((K0.push hx.holds).push hy.holds).alloc (.cells #[.slice A1 us.length n1, .slice B1 rs.length m1] 25))
    have k0 := K1.out.cell (a := ⟨w.heap.size, 0, none⟩) (v := .slice A vs.length n) (by simp)
    have k1 := K1.out.cell (a := ⟨w.heap.size, 1, none⟩) (v := .slice B ls.length m) (by simp)
    clear hb1 hx hy K0
    go_wp2_with fail
    refine (ctxEqual _ _ us rs vs ls b _ (HoldsC.mk (K1.out.h (v := .slice A1 us.length n1) (xs := us) (by simp)) (K1.out.h (v := .slice B1 rs.length m1) (xs := rs) (by simp))) (HoldsC.mk (K1.out.h (v := .slice A vs.length n) (xs := vs) (by simp)) (K1.out.h (v := .slice B ls.length m) (xs := ls) (by simp))) HE.out).mono ?_
    rintro e w2 ⟨rfl, hb1⟩
    have K2 := Lib.hid (K1.out.below hb1)
    clear hb1
    go_wp2
    go_ret
    exact ⟨rfl, K2.out.bel⟩

theorem size_compact {vs ls us rs : List (Int × Int)} (h : validC vs ls = true) (hz : compactC vs ls = (us, rs)) : sizeC vs ls = rs.length + sumV us := by
  have h1 := compactC_size h
  have h2 := compactC_comp h
  rw [hz] at h1 h2
  rw [← h1]
  unfold sizeC
  have : cntV us rs = rs.length := by
    unfold cntV
    rw [List.filter_eq_self.2]
    intro d hd
    have := (goesC_no ((compC_iff.1 h2).1 d hd)).1
    simp [this]
  rw [this]
  show sumV us + (rs.length : Int) = (rs.length : Int) + sumV us
  omega

theorem pass_total : ∀ (l v rest : List (Int × Int)), (passC v rest l).1.length + (passC v rest l).2.length ≤ v.length + rest.length + l.length
  | [], v, rest => by simp [passC]
  | d :: l, v, rest => by
    rw [passC]
    split
    · have := pass_total l v rest; simp only [List.length_cons]; omega
    · split
      · have := pass_total l (raiseV v d) rest; have := raiseV_len v d; simp only [List.length_cons]; omega
      · have := pass_total l v (rest ++ [d]); simp only [List.length_cons, List.length_append, List.length_nil] at this ⊢; omega
theorem compact_len {vs ls us rs : List (Int × Int)} (h : validC vs ls = true) (hz : compactC vs ls = (us, rs)) : us.length + rs.length ≤ vs.length + ls.length := by
  rw [← pass_compact h] at hz
  have := pass_total ls vs []
  rw [hz] at this
  simpa using this

set_option maxRecDepth 100000 in
set_option maxHeartbeats 2000000 in
theorem ctxSize (v : Value) (vs ls : List (Int × Int)) (s : Int) (w : World) (h : HoldsC w v vs ls) (hm : vs.length + ls.length ≤ 1000) (hs : (if validC vs ls then sizeC vs ls else 0) = s) :
    Calls Try.prog 18 #[v] w fun e w' => e = .returned (.int .u64 s) ∧ Below w.heap.size w w' := by
  obtain ⟨A, n, B, m, rfl, h1, h2⟩ := h
  have K := Lib.hid ((((KX.nil w).push h1).push h2).box (.slice A vs.length n) (.slice B ls.length m) 25)
  clear h1 h2
  obtain ⟨us, rs, hz⟩ : ∃ us rs, compactC vs ls = (us, rs) := ⟨_, _, rfl⟩
  cases hv : validC vs ls with
  | false =>
    rw [hv, if_neg (by simp)] at hs
    subst hs
    have HC := Lib.hid fun W (h : HoldsC W (.agg #[.slice A vs.length n, .slice B ls.length m]) vs ls) => ctxCompact_f _ vs ls W h hv hm
    clear hv hz
    go_enter Try.func18, Try.ntmps18
    go_wp2_with fail
    refine (HC.out _ (HoldsC.mk (K.out.h (by simp)) (K.out.h (by simp)))).mono ?_
    rintro e w1 ⟨rfl, hb1⟩
    have K1 := Lib.hid ((K.out.below hb1).alloc (.cells #[.slice none 0 0, .slice none 0 0] 25))
    clear hb1
    go_wp2
    refine wp_loop_rounds 1 ?_
    rw [rounds_succ]
    go_wp2
    go_ret
    exact ⟨rfl, K1.out.bel⟩
  | true =>
    rw [hv, if_pos rfl, size_compact hv hz] at hs
    have hcv := compactC_valid hv
    rw [hz] at hcv
    obtain ⟨hcv1, _, _⟩ := validC_iff.1 hcv
    have HOK := Lib.hid ((validV_iff us).1 hcv1).1
    have hlen := compact_len hv hz
    have HC := Lib.hid fun W (h : HoldsC W (.agg #[.slice A vs.length n, .slice B ls.length m]) vs ls) => ctxCompact_t _ vs ls us rs W h hv hm hz
    have HS := Lib.hid hs
    clear hv hs hz hcv hcv1
    go_enter Try.func18, Try.ntmps18
    go_wp2_with fail
    refine (HC.out _ (HoldsC.mk (K.out.h (by simp)) (K.out.h (by simp)))).mono ?_
    rintro e w1 ⟨⟨A1, n1, B1, m1, rfl, hx, hy⟩, hb1⟩
    have K1 := Lib.hid (((((K.out.below hb1).push hx.holds).push hy.holds)).box (.slice A1 us.length n1) (.slice B1 rs.length m1) 25)
    clear hb1 hx hy
    have e0 : IntKind.u64.wrap (rs.length : Int) = rs.length := by simp [IntKind.wrap, IntKind.bits, IntKind.signed]; omega
    have e00 : (rs.length : Int) % 18446744073709551616 = rs.length := by omega
    go_wp2_with fail
    go_loopw [5, 20] (fun sv i wr => ∃ (k : Nat) (q : Int), k ≤ us.length ∧ i = .int .i64 k ∧ sv = .int .u64 q ∧ Hid (q = rs.length + sumV (us.take k)) ∧ Hid (KX w [(⟨w.heap.size, 0, none⟩, .slice A vs.length n), (⟨w.heap.size, 1, none⟩, .slice B ls.length m)] [(.slice B1 rs.length m1, rs), (.slice A1 us.length n1, us), (.slice B ls.length m, ls), (.slice A vs.length n, vs)] wr)) (fun _ i _ => us.length - (intOf i).toNat)
    case atStart => exact ⟨0, _, by omega, rfl, rfl, by simp [sumV, Hid], K1.out.drop2⟩
    case round =>
      obtain ⟨k, q, hk2, rfl, rfl, hq, hK⟩ := hrel
      by_cases hlt : k < us.length
      · have hxm : DotsAt wr A1 us := by
          obtain ⟨A', c', e, h, _⟩ := hK.out.h (v := .slice A1 us.length n1) (xs := us) (by simp)
          cases e; exact h
        obtain ⟨bb, off, r, c, rfl, hbl, hx1, hc0, hc1⟩ := hxm.dot (j := k) hlt
        have hvd := HOK.out _ (List.mem_of_getElem? hx1)
        have htop := sumV_top (v := us.take k) fun p hp => HOK.out p (List.mem_of_mem_take hp)
        have hlk := List.length_take_le k us
        have hq2 := hq.out
        have HN := Lib.hid (show q + c = rs.length + sumV (us.take (k + 1)) from by rw [take_snoc hx1, sumV_snoc, hq.out]; omega)
        simp [validD] at hvd
        have hqb : 0 ≤ q ∧ q ≤ 100000000000000 := by omega
        have e1 : IntKind.u64.wrap c = c := by simp [IntKind.wrap, IntKind.bits, IntKind.signed]; omega
        have e2 : IntKind.u64.wrap (q + c) = q + c := by simp [IntKind.wrap, IntKind.bits, IntKind.signed]; omega
        have e3 : c % 18446744073709551616 = c := by omega
        have e4 : (q + c) % 18446744073709551616 = q + c := by omega
        have hKA := Lib.hid (hK.out.alloc (.cells #[.int .i64 r, .int .i64 c] 38))
        clear hxm hx1 htop hlk hvd hq2
        go_wp2_with fail
        go_roundw
        case rel => exact ⟨k + 1, _, by omega, by go_num, rfl, HN, hKA⟩
        case measure => simp [intOf]; omega
      · have HF := Lib.hid (show q = s from by rw [hq.out, List.take_of_length_le (by omega)]; exact HS.out)
        go_wp2
        go_ret
        exact ⟨ret_int HF.out, hK.out.bel⟩

end Go.Proofs.Ytibnlifdeknicaa
