/- The reference of layer 3: Size. -/
import Derived.Test.YtibnlifdeknicaaCtxC
namespace Go.Proofs.Ytibnlifdeknicaa
open Go.RowKit

theorem sumV_snoc : ∀ (v : List (Int × Int)) (d : Int × Int), sumV (v ++ [d]) = sumV v + d.2
  | [], d => by simp [sumV]
  | x :: v, d => by rw [List.cons_append, sumV, sumV, sumV_snoc v d]; omega
theorem sumV_top : ∀ {v : List (Int × Int)}, (∀ p ∈ v, validD p.1 p.2 = true) → 0 ≤ sumV v ∧ sumV v ≤ v.length * 4294967295
  | [], _ => by simp [sumV]
  | x :: v, h => by
    have ih := sumV_top (v := v) fun p hp => h p (by simp [hp])
    have hx := h x (by simp)
    simp [validD] at hx
    simp only [sumV, List.length_cons]
    omega
theorem cntV_snoc (v l : List (Int × Int)) (d : Int × Int) : cntV v (l ++ [d]) = cntV v l + (if hasV v d.1 d.2 then 0 else 1) := by
  rw [cnt_app]
  congr 1
  unfold cntV
  cases e : hasV v d.1 d.2 <;> simp [e]
theorem cntV_top (v l : List (Int × Int)) : cntV v l ≤ l.length := List.length_filter_le _ _

set_option maxRecDepth 100000 in
set_option maxHeartbeats 2000000 in
theorem ref3Size (v : Value) (vs ls : List (Int × Int)) (w : World) (h : HoldsC w v vs ls) (hv : ∀ p ∈ vs, validD p.1 p.2 = true) (hm : vs.length + ls.length ≤ 1000) :
    Calls Try.prog 23 #[v] w fun e w' => e = .returned (.int .u64 (sizeC vs ls)) ∧ Below w.heap.size w w' := by
  obtain ⟨A, n, B, k0, rfl, h1, h2⟩ := h
  have K := Lib.hid ((((KX.nil w).push h1).push h2).box (.slice A vs.length n) (.slice B ls.length k0) 25)
  have HV := Lib.hid hv
  clear h1 h2 hv
  go_enter Try.func23, Try.ntmps23
  go_wp2_with fail
  go_loopw [3, 4] (fun sv i wr => ∃ (k : Nat) (s : Int), k ≤ vs.length ∧ i = .int .i64 k ∧ sv = .int .u64 s ∧ Hid (s = sumV (vs.take k)) ∧ Hid (KX w [(⟨w.heap.size, 0, none⟩, .slice A vs.length n), (⟨w.heap.size, 1, none⟩, .slice B ls.length k0)] [(.slice B ls.length k0, ls), (.slice A vs.length n, vs)] wr)) (fun _ i _ => vs.length - (intOf i).toNat)
  case atStart => exact ⟨0, 0, by omega, rfl, rfl, rfl, K⟩
  case round =>
    obtain ⟨k, s, hk2, rfl, rfl, hs, hK⟩ := hrel
    have c0 := hK.out.cell (a := ⟨w.heap.size, 0, none⟩) (v := .slice A vs.length n) (by simp)
    by_cases hlt : k < vs.length
    · have hxm : DotsAt wr A vs := by
        obtain ⟨A', c', e, h, _⟩ := hK.out.h (v := .slice A vs.length n) (xs := vs) (by simp)
        cases e; exact h
      obtain ⟨bb, off, r, c, rfl, hbl, hx1, hc0, hc1⟩ := hxm.dot (j := k) hlt
      have hvd := HV.out _ (List.mem_of_getElem? hx1)
      have htop := sumV_top (v := vs.take k) fun p hp => HV.out p (List.mem_of_mem_take hp)
      rw [← hs.out] at htop
      have hlk := List.length_take_le k vs
      have HN := Lib.hid (show s + c = sumV (vs.take (k + 1)) from by rw [take_snoc hx1, sumV_snoc, hs.out])
      simp [validD] at hvd
      have e1 : IntKind.u64.wrap c = c := by simp [IntKind.wrap, IntKind.bits, IntKind.signed]; omega
      have e2 : IntKind.u64.wrap (s + c) = s + c := by simp [IntKind.wrap, IntKind.bits, IntKind.signed]; omega
      have e3 : c % 18446744073709551616 = c := by omega
      have e4 : (s + c) % 18446744073709551616 = s + c := by omega
      clear hxm hx1 hc0 htop hlk hvd
      go_wp2_with fail
      go_roundw
      case rel => exact ⟨k + 1, _, by omega, by go_num, rfl, HN, hK⟩
      case measure => simp [intOf]; omega
    · have HS := Lib.hid (show s = sumV vs from by rw [hs.out, List.take_of_length_le (by omega)])
      have htop := sumV_top (v := vs) HV.out
      rw [← HS.out] at htop
      go_wp2_with fail
      go_loopw [3, 5] (fun sv i wr => ∃ (k q : Nat), k ≤ ls.length ∧ i = .int .i64 k ∧ sv = .int .u64 (s + q) ∧ Hid (q = cntV vs (ls.take k)) ∧ q ≤ k ∧ Hid (KX w [(⟨w.heap.size, 0, none⟩, .slice A vs.length n), (⟨w.heap.size, 1, none⟩, .slice B ls.length k0)] [(.slice B ls.length k0, ls), (.slice A vs.length n, vs)] wr)) (fun _ i _ => ls.length - (intOf i).toNat)
      case atStart => exact ⟨0, 0, by omega, rfl, by simp, rfl, by omega, hK⟩
      case round =>
        obtain ⟨j, q, hj2, rfl, rfl, hq, hqj, hK3⟩ := hrel
        have c1 := hK3.out.cell (a := ⟨w.heap.size, 1, none⟩) (v := .slice B ls.length k0) (by simp)
        by_cases hlt2 : j < ls.length
        · have hxm : DotsAt wr B ls := by
            obtain ⟨A', c', e, h, _⟩ := hK3.out.h (v := .slice B ls.length k0) (xs := ls) (by simp)
            cases e; exact h
          obtain ⟨bb, off, r, c, rfl, hbl, hx1, hc0, hc1⟩ := hxm.dot (j := j) hlt2
          have l0 := fun p => (hK3.out.far p).cell (a := ⟨w.heap.size, 0, none⟩) (v := .slice A vs.length n) (by simp)
          have l1 := fun p => (hK3.out.far p).cell (a := ⟨w.heap.size, 1, none⟩) (v := .slice (some ⟨bb, off, none⟩) ls.length k0) (by simp)
          have l2 := fun p => cell_far (p := p) hbl hc0
          have l3 := fun p => cell_far (p := p) hbl hc1
          have hcs := cntV_snoc vs (ls.take j) (r, c)
          rw [← take_snoc hx1, ← hq.out] at hcs
          have e2 : IntKind.u64.wrap (s + q + 1) = s + q + 1 := by simp [IntKind.wrap, IntKind.bits, IntKind.signed]; omega
          have e4 : (s + q + 1) % 18446744073709551616 = s + q + 1 := by omega
          clear hxm hx1 hc0 hc1
          cases hbh : hasV vs r c with
          | true =>
            rw [hbh] at hcs
            have HC := Lib.hid (show q = cntV vs (ls.take (j + 1)) from by rw [hcs]; simp)
            have HH := Lib.hid fun p => ref2Has_h3 _ vs r c true _ ((hK3.out.far p).h (v := .slice A vs.length n) (xs := vs) (by simp)) hbh
            clear hbh hcs
            go_wp2_with fail
            refine wp_region_far (by kernel_rfl) (by kernel_rfl) ?_
            repeat (go_big_quiet_step ((go_at_call 49; exact far_of (HH.out _))))
            refine wpQuiet_nil ?_
            rintro _ ⟨p, rfl⟩
            have KF := Lib.hid (hK3.out.far p)
            go_wp2
            go_roundw
            case rel => exact ⟨j + 1, q, by omega, by go_num, rfl, HC, by omega, KF⟩
            case measure => simp [intOf]; omega
          | false =>
            rw [hbh] at hcs
            have HC := Lib.hid (show q + 1 = cntV vs (ls.take (j + 1)) from by rw [hcs]; simp)
            have HH := Lib.hid fun p => ref2Has_h3 _ vs r c false _ ((hK3.out.far p).h (v := .slice A vs.length n) (xs := vs) (by simp)) hbh
            clear hbh hcs
            go_wp2_with fail
            refine wp_region_far (by kernel_rfl) (by kernel_rfl) ?_
            repeat (go_big_quiet_step ((go_at_call 49; exact far_of (HH.out _))))
            refine wpQuiet_nil ?_
            rintro _ ⟨p, rfl⟩
            have KF := Lib.hid (hK3.out.far p)
            go_wp2
            go_roundw
            case rel => exact ⟨j + 1, q + 1, by omega, by go_num, by first | rfl | (congr 1; omega) | (simp; omega), HC, by omega, KF⟩
            case measure => simp [intOf]; omega
        · have HF := Lib.hid (show s + (q : Int) = sizeC vs ls from by unfold sizeC; rw [HS.out, hq.out, List.take_of_length_le (by omega)])
          go_wp2
          go_ret
          exact ⟨by rw [← HF.out]; rfl, hK3.out.bel⟩

end Go.Proofs.Ytibnlifdeknicaa
