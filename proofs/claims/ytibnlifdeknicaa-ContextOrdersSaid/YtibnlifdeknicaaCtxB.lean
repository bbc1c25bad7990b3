/- The reference of layer 3: IsCompact. -/
import Derived.Test.YtibnlifdeknicaaCtxA
namespace Go.Proofs.Ytibnlifdeknicaa
open Go.RowKit

/-- As the reference reckons it, in 64 bits. -/
def goesW (v : List (Int × Int)) (d : Int × Int) : Bool := hasV v d.1 d.2 || (d.2 == wrap64 (getV v d.1 + 1))
theorem getV_top {v : List (Int × Int)} (h : validV v = true) (r : Int) : 0 ≤ getV v r ∧ getV v r ≤ 4294967295 := by
  have h0 := getV_nonneg ((validV_iff v).1 h).1 r
  by_cases e : getV v r = 0
  · omega
  · have hd := ((validV_iff v).1 h).1 _ (getV_of_pos e)
    simp [validD] at hd
    omega
theorem goesW_eq {v : List (Int × Int)} (h : validV v = true) (d : Int × Int) : goesW v d = goesC v d := by
  unfold goesW goesC
  have := getV_top h d.1
  rw [show wrap64 (getV v d.1 + 1) = getV v d.1 + 1 by unfold wrap64; omega]
theorem compC_no {vs ls : List (Int × Int)} {d : Int × Int} (hd : d ∈ ls) (hg : goesW vs d = true) : compC vs ls = false := by
  cases e : compC vs ls
  · rfl
  · obtain ⟨h1, h2⟩ := compC_iff.1 e
    have := h1 d hd
    rw [← goesW_eq (validC_iff.1 h2).1, hg] at this; cases this
theorem compC_all {vs ls : List (Int × Int)} (h : ∀ d ∈ ls, goesW vs d = false) : compC vs ls = validC vs ls := by
  cases e : validC vs ls
  · unfold compC; rw [e, Bool.and_false]
  · exact compC_iff.2 ⟨fun d hd => by rw [← goesW_eq (validC_iff.1 e).1]; exact h d hd, e⟩

theorem KX.drop2 {w0 W : World} {a b : Addr × Value} {C : List (Addr × Value)} {L : List (Value × List (Int × Int))} (h : KX w0 (a :: b :: C) L W) : KX w0 C L W := ⟨fun p hp => h.1 p (by simp [hp]), h.2.1, h.2.2⟩

set_option maxRecDepth 100000 in
set_option maxHeartbeats 2000000 in
theorem ref3IsCompact (v : Value) (vs ls : List (Int × Int)) (b : Bool) (w : World) (h : HoldsC w v vs ls) (hb : compC vs ls = b) :
    Calls Try.prog 14 #[v] w fun e w' => e = .returned (.bool b) ∧ Below w.heap.size w w' := by
  obtain ⟨A, n, B, m0, rfl, h1, h2⟩ := h
  have LA : vs.length ≤ maxLen := by obtain ⟨_, _, h, _, h2, h3⟩ := h1; omega
  have LB : ls.length ≤ maxLen := by obtain ⟨_, _, h, _, h2, h3⟩ := h2; omega
  have K := Lib.hid ((((KX.nil w).push h1).push h2).box (.slice A vs.length n) (.slice B ls.length m0) 25)
  have LA2 := Lib.hid LA
  unfold maxLen at LA LB
  have HB := Lib.hid hb
  clear h1 h2 hb
  go_enter Try.func14, Try.ntmps14
  go_wp2_with fail
  go_loopw [3] (fun i wr => ∃ m : Nat, m ≤ ls.length ∧ i = .int .i64 m ∧ Hid (KX w [(⟨w.heap.size, 0, none⟩, .slice A vs.length n), (⟨w.heap.size, 1, none⟩, .slice B ls.length m0)] [(.slice B ls.length m0, ls), (.slice A vs.length n, vs)] wr) ∧ Hid (∀ j p, j < m → ls[j]? = some p → goesW vs p = false)) (fun i _ => ls.length - (intOf i).toNat)
  case atStart => exact ⟨0, by omega, rfl, K, fun j p h => by omega⟩
  case round =>
    obtain ⟨m, hk2, rfl, hK, hs⟩ := hrel
    have c0 := hK.out.cell (a := ⟨w.heap.size, 0, none⟩) (v := .slice A vs.length n) (by simp)
    have c1 := hK.out.cell (a := ⟨w.heap.size, 1, none⟩) (v := .slice B ls.length m0) (by simp)
    by_cases hlt : m < ls.length
    · have hx : DotsAt wr B ls := by
        obtain ⟨A', c', e, h, _⟩ := hK.out.h (v := .slice B ls.length m0) (xs := ls) (by simp)
        cases e; exact h
      obtain ⟨bb, off, r, c, rfl, hbl, hx1, hc0, hc1⟩ := hx.dot (j := m) hlt
      have hva : DotsAt wr A vs := by
        obtain ⟨A', c', e, h, _⟩ := hK.out.h (v := .slice A vs.length n) (xs := vs) (by simp)
        cases e; exact h
      have KW := hK.out.box (.int .i64 r) (.int .i64 c) 38
      have hal : Below wr.heap.size wr (wr.alloc (.cells #[.int .i64 r, .int .i64 c] 38)) := (Below.refl _ wr).alloc (Nat.le_refl _) _
      have l0 := fun p => (KW.far p).cell (a := ⟨w.heap.size, 0, none⟩) (v := .slice A vs.length n) (by simp)
      have l2 := fun p => (KW.far p).cell (a := ⟨wr.heap.size, 0, none⟩) (v := .int .i64 r) (by simp)
      have l3 := fun p => (KW.far p).cell (a := ⟨wr.heap.size, 1, none⟩) (v := .int .i64 c) (by simp)
      have HH := fun p => ref2Has A vs n r c _ ((hva.below hal).far p) LA2.out
      have HG := fun p => ref2Get A vs n r _ ((hva.below hal).far p) LA2.out
      have HK := Lib.hid KW
      clear KW hx hva hal
      obtain ⟨bh, hbh⟩ : ∃ bh, hasV vs r c = bh := ⟨_, rfl⟩
      obtain ⟨g, hg⟩ : ∃ g, getV vs r = g := ⟨_, rfl⟩
      simp only [hbh] at HH
      simp only [hg] at HG
      have hgo : goesW vs (r, c) = (bh || (c == wrap64 (g + 1))) := by unfold goesW; rw [hbh, hg]
      have HH := Lib.hid HH
      have HG := Lib.hid HG
      cases bh with
      | true =>
        have HN := Lib.hid (show b = false from by rw [← HB.out]; exact compC_no (List.mem_of_getElem? hx1) (by rw [hgo]; rfl))
        clear hbh hg hgo hx1
        go_wp2_with fail
        generalize wr.alloc (.cells #[.int .i64 r, .int .i64 c] 38) = W at *
        refine wp_region_far (by kernel_rfl) (by kernel_rfl) ?_
        repeat (go_big_quiet_step ((first | (go_at_call 49; exact far_of (HH.out _)) | (go_at_call 50; exact far_of (HG.out _)))))
        refine wpQuiet_nil ?_
        rintro _ ⟨p, rfl⟩
        go_wp2
        go_ret
        exact ⟨ret_bool HN.out.symm, (HK.out.far p).bel⟩
      | false =>
        cases hn : (c == wrap64 (g + 1)) with
        | true =>
          have HN := Lib.hid (show b = false from by rw [← HB.out]; exact compC_no (List.mem_of_getElem? hx1) (by rw [hgo, hn]; rfl))
          clear hbh hg hgo hx1
          go_wp2_with fail
          generalize wr.alloc (.cells #[.int .i64 r, .int .i64 c] 38) = W at *
          refine wp_region_far (by kernel_rfl) (by kernel_rfl) ?_
          repeat (go_big_quiet_step ((first | (go_at_call 49; exact far_of (HH.out _)) | (go_at_call 50; exact far_of (HG.out _)))))
          refine wpQuiet_nil ?_
          rintro _ ⟨p, rfl⟩
          go_wp2
          go_ret
          exact ⟨ret_bool HN.out.symm, (HK.out.far p).bel⟩
        | false =>
          have hn2 : ¬ c = wrap64 (g + 1) := by simpa using hn
          have HN := Lib.hid (show ∀ j p, j < m + 1 → ls[j]? = some p → goesW vs p = false from fun j p hj hp => by
            by_cases e : j = m
            · subst e; rw [hx1] at hp; cases hp; rw [hgo, hn]; rfl
            · exact hs.out j p (by omega) hp)
          clear hbh hg hgo hx1
          go_wp2_with fail
          generalize hW : wr.alloc (.cells #[.int .i64 r, .int .i64 c] 38) = W at *
          refine wp_region_far (by kernel_rfl) (by kernel_rfl) ?_
          repeat (go_big_quiet_step ((first | (go_at_call 49; exact far_of (HH.out _)) | (go_at_call 50; exact far_of (HG.out _)))))
          refine wpQuiet_nil ?_
          rintro _ ⟨p, rfl⟩
          have KF := Lib.hid ((HK.out.far p).drop2)
          go_wp2
          go_roundw
          case rel => exact ⟨m + 1, by omega, by go_num, KF, HN⟩
          case measure => simp [intOf]; omega
    · have hall := Lib.hid (show compC vs ls = validC vs ls from compC_all fun d hd => by
        obtain ⟨j, hj⟩ := List.mem_iff_getElem?.1 hd
        have hl := (List.getElem?_eq_some_iff.1 hj).1
        exact hs.out j d (by omega) hj)
      have HV := Lib.hid (ref3Valid _ vs ls b wr (HoldsC.mk (hK.out.h (v := .slice A vs.length n) (xs := vs) (by simp)) (hK.out.h (v := .slice B ls.length m0) (xs := ls) (by simp))) (by rw [← hall.out]; exact HB.out))
      go_wp2_with fail
      refine HV.out.mono ?_
      rintro e w1 ⟨rfl, hb1⟩
      have K2 := Lib.hid (hK.out.below hb1)
      clear hb1
      go_wp2
      go_ret
      exact ⟨rfl, K2.out.bel⟩

end Go.Proofs.Ytibnlifdeknicaa
