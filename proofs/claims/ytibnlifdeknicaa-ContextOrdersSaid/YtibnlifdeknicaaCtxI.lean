/- The reference of layer 3: Missing. -/
import Derived.Test.YtibnlifdeknicaaCtxC
namespace Go.Proofs.Ytibnlifdeknicaa
open Go.RowKit

set_option maxRecDepth 100000 in
set_option maxHeartbeats 2000000 in
theorem ref3Missing (v : Value) (X : Option Addr) (cx : Nat) (vs ls m : List (Int × Int)) (w : World) (h : HoldsC w v vs ls) (hx : Holds w (.slice X m.length cx) m) (hm : m.length ≤ 100000) :
    Calls Try.prog 28 #[v, .slice X m.length cx] w fun e w' => (∃ v', e = .returned v' ∧ Holds w' v' (missC vs ls m)) ∧ Below w.heap.size w w' := by
  obtain ⟨A, n, B, k0, rfl, h1, h2⟩ := h
  have K := Lib.hid (((((KX.nil w).push hx).push h1).push h2).box (.slice A vs.length n) (.slice B ls.length k0) 25)
  clear h1 h2 hx
  go_enter Try.func28, Try.ntmps28
  go_wp2_with fail
  go_loopw [5, 6] (fun out i wr => ∃ k : Nat, k ≤ m.length ∧ i = .int .i64 k ∧ Hid (KX w [(⟨w.heap.size, 0, none⟩, .slice A vs.length n), (⟨w.heap.size, 1, none⟩, .slice B ls.length k0)] [(.slice B ls.length k0, ls), (.slice A vs.length n, vs), (.slice X m.length cx, m)] wr) ∧ Hid (Holds wr out (missC vs ls (m.take k)))) (fun _ i _ => m.length - (intOf i).toNat)
  case atStart => exact ⟨0, by omega, rfl, K, Holds.nil _⟩
  case round =>
    obtain ⟨k, hk2, rfl, hK, hO⟩ := hrel
    by_cases hlt : k < m.length
    · have hxm : DotsAt wr X m := by
        obtain ⟨A', c', e, h, _⟩ := hK.out.h (v := .slice X m.length cx) (xs := m) (by simp)
        cases e; exact h
      obtain ⟨bb, off, r, c, rfl, hbl, hx1, hc0, hc1⟩ := hxm.dot (j := k) hlt
      have l0 := fun p => (hK.out.far p).cell (a := ⟨w.heap.size, 0, none⟩) (v := .slice A vs.length n) (by simp)
      have l1 := fun p => (hK.out.far p).cell (a := ⟨w.heap.size, 1, none⟩) (v := .slice B ls.length k0) (by simp)
      have l2 := fun p => cell_far (p := p) hbl hc0
      have l3 := fun p => cell_far (p := p) hbl hc1
      have hbl2 := hbl
      have HC0 := Lib.hid hc0
      have HC1 := Lib.hid hc1
      have htk := take_snoc hx1
      have hml : (missC vs ls (m.take k)).length ≤ m.length := by
        have h1 := setL_len ((m.take k).filter fun d => !hasC vs ls d.1 d.2)
        have h2 := List.length_filter_le (fun d : Int × Int => !hasC vs ls d.1 d.2) (m.take k)
        have h3 := List.length_take_le k m
        unfold missC; omega
      clear hx1 hxm hc0 hc1
      cases hbh : hasC vs ls r c with
      | true =>
        have HH := Lib.hid fun p => ref3Has _ vs ls r c true _ (HoldsC.mk ((hK.out.far p).h (v := .slice A vs.length n) (xs := vs) (by simp)) ((hK.out.far p).h (v := .slice B ls.length k0) (xs := ls) (by simp))) hbh
        have HN := Lib.hid (show missC vs ls (m.take (k + 1)) = missC vs ls (m.take k) from by rw [htk]; unfold missC; rw [List.filter_append]; simp [hbh])
        clear hbh htk
        go_wp2_with fail
        refine wp_region_far (by kernel_rfl) (by kernel_rfl) ?_
        repeat (go_big_quiet_step ((go_at_call 25; exact far_of (HH.out _))))
        refine wpQuiet_nil ?_
        rintro _ ⟨p, rfl⟩
        have KF := Lib.hid (hK.out.far p)
        have HO := Lib.hid (show Holds (far wr p) u5 (missC vs ls (m.take (k + 1))) from by rw [HN.out]; exact hO.out.below (below_far wr p))
        go_wp2
        go_roundw
        case rel => exact ⟨k + 1, by omega, by go_num, KF, HO⟩
        case measure => simp [intOf]; omega
      | false =>
        have HH := Lib.hid fun p => ref3Has _ vs ls r c false _ (HoldsC.mk ((hK.out.far p).h (v := .slice A vs.length n) (xs := vs) (by simp)) ((hK.out.far p).h (v := .slice B ls.length k0) (xs := ls) (by simp))) hbh
        have HN := Lib.hid (show missC vs ls (m.take (k + 1)) = insD (missC vs ls (m.take k)) (r, c) from by rw [htk]; unfold missC; rw [List.filter_append, ← setL_snoc]; simp [hbh])
        clear hbh htk
        go_wp2_with fail
        refine wp_region_far (by kernel_rfl) (by kernel_rfl) ?_
        repeat (go_big_quiet_step ((go_at_call 25; exact far_of (HH.out _))))
        refine wpQuiet_nil ?_
        rintro _ ⟨p, rfl⟩
        have KF := Lib.hid (hK.out.far p)
        have HO := Lib.hid (hO.out.below (below_far wr p))
        have m2 := l2 p
        have m3 := l3 p
        clear l0 l1 l2 l3
        generalize far wr p = w4 at KF HO m2 m3 ⊢
        go_wp2_with fail
        refine (refWith_h _ (missC vs ls (m.take k)) r c w4 HO.out (by omega)).mono ?_
        rintro e w5 ⟨⟨v', rfl, hv'⟩, hb⟩
        have K5 := Lib.hid (KF.out.below hb)
        have HO5 := Lib.hid (show Holds w5 v' (missC vs ls (m.take (k + 1))) from by rw [HN.out]; exact hv')
        clear hb hv' m2 m3
        go_wp2
        go_roundw
        case rel => exact ⟨k + 1, by omega, by go_num, K5, HO5⟩
        case measure => simp [intOf]; omega
    · have hO2 := hO.out
      rw [List.take_of_length_le (by omega)] at hO2
      have HO := Lib.hid hO2
      clear hO2
      go_wp2
      go_ret
      exact ⟨⟨_, rfl, HO.out⟩, hK.out.bel⟩

end Go.Proofs.Ytibnlifdeknicaa
