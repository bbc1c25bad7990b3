/- Contracts of Valid, Get and Has of package vector and of its reference. -/
import Derived.Test.YtibnlifdeknicaaVecK
import Derived.Test.YtibnlifdeknicaaDotB
namespace Go.Proofs.Ytibnlifdeknicaa
open Go.RowKit

/-- The first k elements are valid, each of a greater replica than the one before. -/
def VOk (v : List (Int × Int)) (k : Nat) : Prop := ∀ j p, j < k → v[j]? = some p → validD p.1 p.2 = true ∧ ∀ i q, j = i + 1 → v[i]? = some q → q.1 < p.1
theorem VOk.step0 {v : List (Int × Int)} {p : Int × Int} (hp : v[0]? = some p) (h1 : validD p.1 p.2 = true) : VOk v 1 := fun j q hj hq => by
  obtain rfl : j = 0 := by omega
  rw [hp] at hq; cases hq
  exact ⟨h1, fun i q h => by omega⟩
theorem VOk.step {v : List (Int × Int)} {m : Nat} {p q : Int × Int} (h : VOk v (m + 1)) (hq : v[m]? = some q) (hp : v[m + 1]? = some p) (h1 : validD p.1 p.2 = true) (h2 : q.1 < p.1) : VOk v (m + 1 + 1) := fun j p' hj hp' => by
  by_cases e : j = m + 1
  · subst e
    rw [hp] at hp'; cases hp'
    refine ⟨h1, fun i q' hi hq' => ?_⟩
    obtain rfl : i = m := by omega
    rw [hq] at hq'; cases hq'
    exact h2
  · exact h j p' (by omega) hp'
theorem incR_of : ∀ {v : List (Int × Int)}, (∀ i q p, v[i]? = some q → v[i + 1]? = some p → q.1 < p.1) → IncR v
  | [], _ => by simp [IncR]
  | [_], _ => by simp [IncR]
  | x :: y :: v, h => by
    have hr : IncR (y :: v) := incR_of fun i q p h1 h2 => h (i + 1) q p (by simpa using h1) (by simpa using h2)
    have hxy := h 0 x y rfl rfl
    refine List.pairwise_cons.2 ⟨fun p hp => ?_, hr⟩
    rcases List.mem_cons.1 hp with e | hp
    · subst e; exact hxy
    · have := (List.pairwise_cons.1 hr).1 p hp; omega
theorem VOk.yes {v : List (Int × Int)} (h : VOk v v.length) : validV v = true := by
  refine (validV_iff v).2 ⟨fun p hp => ?_, incR_of fun i q p h1 h2 => ?_⟩
  · obtain ⟨j, hj⟩ := List.mem_iff_getElem?.1 hp
    exact (h j p (List.getElem?_eq_some_iff.1 hj).1 hj).1
  · exact (h (i + 1) p (List.getElem?_eq_some_iff.1 h2).1 h2).2 i q rfl h1
theorem validV_no1 {v : List (Int × Int)} {m : Nat} {p : Int × Int} (hp : v[m]? = some p) (h : validD p.1 p.2 = false) : validV v = false := by
  cases e : validV v
  · rfl
  · have := ((validV_iff v).1 e).1 p (List.mem_of_getElem? hp)
    rw [h] at this; cases this
theorem validV_no2 {v : List (Int × Int)} {m : Nat} {p q : Int × Int} (hq : v[m]? = some q) (hp : v[m + 1]? = some p) (h : ¬ q.1 < p.1) : validV v = false := by
  cases e : validV v
  · rfl
  · have hi := ((validV_iff v).1 e).2
    obtain ⟨h1, h2⟩ := List.getElem?_eq_some_iff.1 hq
    obtain ⟨h3, h4⟩ := List.getElem?_eq_some_iff.1 hp
    have := List.pairwise_iff_getElem.1 hi m (m + 1) h1 h3 (by omega)
    rw [h2, h4] at this
    exact absurd this h

set_option maxHeartbeats 1000000 in
theorem ref2Valid (A : Option Addr) (xs : List (Int × Int)) (cap : Nat) (w : World) (hx : DotsAt w A xs) (hm : xs.length ≤ maxLen) :
    Calls Try.prog 47 #[.slice A xs.length cap] w fun e w' => e = .returned (.bool (validV xs)) ∧ Below w.heap.size w w' := by
  unfold maxLen at hm
  go_enter Try.func47, Try.ntmps47
  go_wp2
  go_loopw [3] (fun i wr => ∃ m : Nat, m ≤ xs.length ∧ i = .int .i64 m ∧ Below w.heap.size w wr ∧ Hid (VOk xs m)) (fun i _ => xs.length - (intOf i).toNat)
  case atStart => exact ⟨0, by omega, rfl, Below.refl _ _, fun j p h => by omega⟩
  case round =>
    obtain ⟨m, hk2, rfl, hb, hs⟩ := hrel
    by_cases hlt : m < xs.length
    · obtain ⟨b, off, r, c, rfl, hbl, hx1, hc0, hc1⟩ := (hx.below hb).dot (j := m) hlt
      have hr := fun W => refValid r c W
      have l0 := fun p => cell_far (p := p) hbl hc0
      have l1 := fun p => cell_far (p := p) hbl hc1
      clear hc0 hc1
      have HX1 := Lib.hid hx1
      cases hq : validD r c
      · rw [hq] at hr
        have HR := Lib.hid hr; clear hr
        have HV := Lib.hid (validV_no1 hx1 hq); clear hq hx1
        go_wp2
        refine wp_region_far (by kernel_rfl) (by kernel_rfl) ?_
        repeat (go_big_quiet_step ((go_at_call 59; exact far_of (HR.out _))))
        refine wpQuiet_nil ?_
        rintro _ ⟨p, rfl⟩
        go_wp2
        go_ret
        exact ⟨ret_bool HV.out.symm, hb.trans ((below_far wr p).mono hb.size)⟩
      · rw [hq] at hr
        have HR := Lib.hid hr; clear hr
        have HQ := Lib.hid hq; clear hq
        cases m with
        | zero =>
          clear hx1
          simp only [Nat.zero_mul, Nat.add_zero] at l0 l1
          go_wp2
          refine wp_region_far (by kernel_rfl) (by kernel_rfl) ?_
          repeat (go_big_quiet_step ((go_at_call 59; exact far_of (HR.out _))))
          refine wpQuiet_nil ?_
          rintro _ ⟨p, rfl⟩
          go_wp2
          go_roundw
          case rel => exact ⟨1, by omega, by go_num, hb.trans ((below_far wr p).mono hb.size), VOk.step0 HX1.out HQ.out⟩
          case measure => simp [intOf]; omega
        | succ n =>
          obtain ⟨_, _, r', c', ho, _, hx2, hd0, hd1⟩ := (hx.below hb).dot (j := n) (by omega)
          cases ho
          have l2 := fun p => cell_far (p := p) hbl hd0
          have l3 := fun p => cell_far (p := p) hbl hd1
          have HX2 := Lib.hid hx2
          clear hd0 hd1
          by_cases hlt2 : r' < r
          · clear hx1 hx2
            go_wp2
            refine wp_region_far (by kernel_rfl) (by kernel_rfl) ?_
            repeat (go_big_quiet_step ((go_at_call 59; exact far_of (HR.out _))))
            refine wpQuiet_nil ?_
            rintro _ ⟨p, rfl⟩
            go_wp2
            go_roundw
            case rel => exact ⟨n + 1 + 1, by omega, by go_num, hb.trans ((below_far wr p).mono hb.size), hs.out.step HX2.out HX1.out HQ.out hlt2⟩
            case measure => simp [intOf]; omega
          · have HV := Lib.hid (validV_no2 hx2 hx1 hlt2)
            clear hx1 hx2
            go_wp2
            refine wp_region_far (by kernel_rfl) (by kernel_rfl) ?_
            repeat (go_big_quiet_step ((go_at_call 59; exact far_of (HR.out _))))
            refine wpQuiet_nil ?_
            rintro _ ⟨p, rfl⟩
            go_wp2
            go_ret
            exact ⟨ret_bool HV.out.symm, hb.trans ((below_far wr p).mono hb.size)⟩
    · have hv : validV xs = true := VOk.yes (by rw [show xs.length = m by omega]; exact hs.out)
      have HV := Lib.hid hv; clear hv
      go_wp2
      go_ret
      exact ⟨ret_bool HV.out.symm, hb⟩

set_option maxHeartbeats 1000000 in
theorem vecValid (A : Option Addr) (xs : List (Int × Int)) (cap : Nat) (w : World) (hx : DotsAt w A xs) (hm : xs.length ≤ maxLen) :
    Calls Try.prog 42 #[.slice A xs.length cap] w fun e w' => e = .returned (.bool (validV xs)) ∧ Below w.heap.size w w' := by
  unfold maxLen at hm
  go_enter Try.func42, Try.ntmps42
  go_wp2
  go_loopw [3, 4, 7] (fun _ _ i wr => ∃ m : Nat, m ≤ xs.length ∧ i = .int .i64 m ∧ Below w.heap.size w wr ∧ Hid (VOk xs m)) (fun _ _ i _ => xs.length - (intOf i).toNat)
  case atStart => exact ⟨0, by omega, rfl, Below.refl _ _, fun j p h => by omega⟩
  case round =>
    obtain ⟨m, hk2, rfl, hb0, hs⟩ := hrel
    by_cases hlt : m < xs.length
    · obtain ⟨b, off, r, c, rfl, hbl0, hx1, hc0, hc1⟩ := (hx.below hb0).dot (j := m) hlt
      have hr := fun W => dotValid r c W
      have HX1 := Lib.hid hx1
      have hal : Below wr.heap.size wr (wr.alloc (.cells #[.int .i64 r, .int .i64 c] 38)) := (Below.refl _ wr).alloc (Nat.le_refl _) _
      have g0 : (wr.alloc (.cells #[.int .i64 r, .int .i64 c] 38)).cell? ⟨wr.heap.size, 0, none⟩ = some (.int .i64 r) := by go_simp
      have g1 : (wr.alloc (.cells #[.int .i64 r, .int .i64 c] 38)).cell? ⟨wr.heap.size, 1, none⟩ = some (.int .i64 c) := by go_simp
      have gz : wr.heap.size < (wr.alloc (.cells #[.int .i64 r, .int .i64 c] 38)).heap.size := by simp
      have l4 := fun p => cell_far (p := p) (a := ⟨wr.heap.size, 0, none⟩) gz g0
      have l5 := fun p => cell_far (p := p) (a := ⟨wr.heap.size, 1, none⟩) gz g1
      have hb := hb0.trans (hal.mono hb0.size)
      have hz := hb.size
      cases hq : validD r c
      · rw [hq] at hr
        have HR := Lib.hid hr; clear hr
        have HV := Lib.hid (validV_no1 hx1 hq); clear hq hx1 g0 g1 gz
        go_wp2_with fail
        generalize wr.alloc (.cells #[.int .i64 r, .int .i64 c] 38) = W at *
        refine wp_region_far (by kernel_rfl) (by kernel_rfl) ?_
        repeat (go_big_quiet_step ((go_at_call 46; exact far_of (HR.out _))))
        refine wpQuiet_nil ?_
        rintro _ ⟨p, rfl⟩
        go_wp2
        go_ret
        exact ⟨ret_bool HV.out.symm, hb.trans ((below_far W p).mono hb.size)⟩
      · rw [hq] at hr
        have HR := Lib.hid hr; clear hr
        have HQ := Lib.hid hq; clear hq
        cases m with
        | zero =>
          clear hx1 g0 g1 gz
          simp only [Nat.zero_mul, Nat.add_zero] at hc0 hc1
          go_wp2_with fail
          generalize wr.alloc (.cells #[.int .i64 r, .int .i64 c] 38) = W at *
          refine wp_region_far (by kernel_rfl) (by kernel_rfl) ?_
          repeat (go_big_quiet_step ((go_at_call 46; exact far_of (HR.out _))))
          refine wpQuiet_nil ?_
          rintro _ ⟨p, rfl⟩
          go_wp2
          go_roundw
          case rel => exact ⟨1, by omega, by go_num, hb.trans ((below_far W p).mono hb.size), VOk.step0 HX1.out HQ.out⟩
          case measure => simp [intOf]; omega
        | succ n =>
          obtain ⟨_, _, r', c', ho, hbl2, hx2, hd0, hd1⟩ := (hx.below hb).dot (j := n) (by omega)
          cases ho
          have l2 := fun p => cell_far (p := p) hbl2 hd0
          have l3 := fun p => cell_far (p := p) hbl2 hd1
          have HX2 := Lib.hid hx2
          clear hd0 hd1 g0 g1 gz hbl2
          by_cases hlt2 : r' < r
          · clear hx1 hx2
            go_wp2_with fail
            generalize wr.alloc (.cells #[.int .i64 r, .int .i64 c] 38) = W at *
            refine wp_region_far (by kernel_rfl) (by kernel_rfl) ?_
            repeat (go_big_quiet_step ((go_at_call 46; exact far_of (HR.out _))))
            refine wpQuiet_nil ?_
            rintro _ ⟨p, rfl⟩
            go_wp2
            go_roundw
            case rel => exact ⟨n + 1 + 1, by omega, by go_num, hb.trans ((below_far W p).mono hb.size), hs.out.step HX2.out HX1.out HQ.out hlt2⟩
            case measure => simp [intOf]; omega
          · have HV := Lib.hid (validV_no2 hx2 hx1 hlt2)
            clear hx1 hx2
            go_wp2_with fail
            generalize wr.alloc (.cells #[.int .i64 r, .int .i64 c] 38) = W at *
            refine wp_region_far (by kernel_rfl) (by kernel_rfl) ?_
            repeat (go_big_quiet_step ((go_at_call 46; exact far_of (HR.out _))))
            refine wpQuiet_nil ?_
            rintro _ ⟨p, rfl⟩
            go_wp2
            go_ret
            exact ⟨ret_bool HV.out.symm, hb.trans ((below_far W p).mono hb.size)⟩
    · have hv : validV xs = true := VOk.yes (by rw [show xs.length = m by omega]; exact hs.out)
      have HV := Lib.hid hv; clear hv
      go_wp2
      go_ret
      exact ⟨ret_bool HV.out.symm, hb0⟩

set_option maxHeartbeats 1000000 in
theorem ref2Get (A : Option Addr) (xs : List (Int × Int)) (cap : Nat) (r0 : Int) (w : World) (hx : DotsAt w A xs) (hm : xs.length ≤ maxLen) :
    Calls Try.prog 50 #[.slice A xs.length cap, .int .i64 r0] w fun e w' => e = .returned (.int .i64 (getV xs r0)) ∧ Below w.heap.size w w' := by
  unfold maxLen at hm
  go_enter Try.func50, Try.ntmps50
  go_wp2
  go_loopw [5] (fun i wr => ∃ m : Nat, m ≤ xs.length ∧ i = .int .i64 m ∧ Below w.heap.size w wr ∧ Hid (getV xs r0 = getV (xs.drop m) r0)) (fun i _ => xs.length - (intOf i).toNat)
  case atStart => exact ⟨0, by omega, rfl, Below.refl _ _, by rw [List.drop_zero]; rfl⟩
  case round =>
    obtain ⟨m, hk2, rfl, hb, hs⟩ := hrel
    by_cases hlt : m < xs.length
    · obtain ⟨b, off, r, c, rfl, hbl, hx1, hc0, hc1⟩ := (hx.below hb).dot (j := m) hlt
      have hd : xs.drop m = (r, c) :: xs.drop (m + 1) := by
        obtain ⟨h1, h2⟩ := List.getElem?_eq_some_iff.1 hx1
        rw [← h2]; exact List.drop_eq_getElem_cons h1
      have hg := hs.out
      rw [hd, getV] at hg
      clear hd hx1
      by_cases hq : r = r0
      · rw [if_pos hq] at hg
        have HG := Lib.hid hg; clear hg
        subst hq
        go_wp2
        go_ret
        exact ⟨ret_int HG.out.symm, hb⟩
      · rw [if_neg hq] at hg
        have HG := Lib.hid hg; clear hg
        go_wp2
        go_roundw
        case rel => exact ⟨m + 1, by omega, by go_num, hb, HG⟩
        case measure => simp [intOf]; omega
    · have hg := hs.out
      rw [List.drop_eq_nil_of_le (by omega)] at hg
      have HG := Lib.hid (show getV xs r0 = 0 from hg); clear hg
      go_wp2
      go_ret
      exact ⟨ret_int HG.out.symm, hb⟩

set_option maxHeartbeats 1000000 in
theorem vecGet (A : Option Addr) (xs : List (Int × Int)) (cap : Nat) (r0 : Int) (w : World) (hx : DotsAt w A xs) (hm : xs.length ≤ maxLen) :
    Calls Try.prog 78 #[.slice A xs.length cap, .int .i64 r0] w fun e w' => e = .returned (.int .i64 (getV xs r0)) ∧ Below w.heap.size w w' := by
  unfold maxLen at hm
  go_enter Try.func78, Try.ntmps78
  go_wp2
  go_loopw [6, 9] (fun _ i wr => ∃ m : Nat, m ≤ xs.length ∧ i = .int .i64 m ∧ Below w.heap.size w wr ∧ Hid (getV xs r0 = getV (xs.drop m) r0)) (fun _ i _ => xs.length - (intOf i).toNat)
  case atStart => exact ⟨0, by omega, rfl, Below.refl _ _, by rw [List.drop_zero]; rfl⟩
  case round =>
    obtain ⟨m, hk2, rfl, hb, hs⟩ := hrel
    by_cases hlt : m < xs.length
    · obtain ⟨b, off, r, c, rfl, hbl, hx1, hc0, hc1⟩ := (hx.below hb).dot (j := m) hlt
      have hd : xs.drop m = (r, c) :: xs.drop (m + 1) := by
        obtain ⟨h1, h2⟩ := List.getElem?_eq_some_iff.1 hx1
        rw [← h2]; exact List.drop_eq_getElem_cons h1
      have hg := hs.out
      rw [hd, getV] at hg
      clear hd hx1
      have HB := Lib.hid (hb.trans (((Below.refl _ wr).alloc (Nat.le_refl _) (.cells #[.int .i64 r, .int .i64 c] 38)).mono hb.size))
      by_cases hq : r = r0
      · rw [if_pos hq] at hg
        have HG := Lib.hid hg; clear hg
        subst hq
        go_wp2
        go_ret
        exact ⟨ret_int HG.out.symm, HB.out⟩
      · rw [if_neg hq] at hg
        have HG := Lib.hid hg; clear hg
        go_wp2
        go_roundw
        case rel => exact ⟨m + 1, by omega, by go_num, HB.out, HG⟩
        case measure => simp [intOf]; omega
    · have hg := hs.out
      rw [List.drop_eq_nil_of_le (by omega)] at hg
      have HG := Lib.hid (show getV xs r0 = 0 from hg); clear hg
      go_wp2
      go_ret
      exact ⟨ret_int HG.out.symm, hb⟩

theorem hasV_of {v : List (Int × Int)} {r c : Int} (h : validD r c = true) : hasV v r c = decide (c ≤ getV v r) := by unfold hasV; rw [h]; rfl

set_option maxHeartbeats 1000000 in
theorem ref2Has (A : Option Addr) (xs : List (Int × Int)) (cap : Nat) (r c : Int) (w : World) (hx : DotsAt w A xs) (hm : xs.length ≤ maxLen) :
    Calls Try.prog 49 #[.slice A xs.length cap, .agg #[.int .i64 r, .int .i64 c]] w fun e w' => e = .returned (.bool (hasV xs r c)) ∧ Below w.heap.size w w' := by
  have hr := fun W => refValid r c W
  have hal : Below w.heap.size w (w.alloc (.cells #[.int .i64 r, .int .i64 c] 38)) := (Below.refl _ w).alloc (Nat.le_refl _) _
  have g0 : (w.alloc (.cells #[.int .i64 r, .int .i64 c] 38)).cell? ⟨w.heap.size, 0, none⟩ = some (.int .i64 r) := by go_simp
  have g1 : (w.alloc (.cells #[.int .i64 r, .int .i64 c] 38)).cell? ⟨w.heap.size, 1, none⟩ = some (.int .i64 c) := by go_simp
  have gz : w.heap.size < (w.alloc (.cells #[.int .i64 r, .int .i64 c] 38)).heap.size := by simp
  have l4 := fun p => cell_far (p := p) (a := ⟨w.heap.size, 0, none⟩) gz g0
  have l5 := fun p => cell_far (p := p) (a := ⟨w.heap.size, 1, none⟩) gz g1
  have hg := fun p => ref2Get A xs cap r _ ((hx.below hal).far p) hm
  have HAL := Lib.hid hal
  clear g0 g1 gz hal
  cases hq : validD r c
  · rw [hq] at hr
    have HR := Lib.hid hr; clear hr
    have HV := Lib.hid (show hasV xs r c = false by unfold hasV; rw [hq]; rfl); clear hq hg
    go_enter Try.func49, Try.ntmps49
    go_wp2_with fail
    generalize w.alloc (.cells #[.int .i64 r, .int .i64 c] 38) = W at *
    refine wp_region_far (by kernel_rfl) (by kernel_rfl) ?_
    repeat (go_big_quiet_step ((go_at_call 59; exact far_of (HR.out _))))
    refine wpQuiet_nil ?_
    rintro _ ⟨p, rfl⟩
    go_wp2
    go_ret
    exact ⟨ret_bool HV.out.symm, below_trans HAL.out (below_far W p)⟩
  · rw [hq] at hr
    have HR := Lib.hid hr; clear hr
    have HV := Lib.hid (hasV_of (v := xs) hq); clear hq
    generalize getV xs r = g at hg HV
    have HG := Lib.hid hg; clear hg
    go_enter Try.func49, Try.ntmps49
    go_wp2_with fail
    generalize w.alloc (.cells #[.int .i64 r, .int .i64 c] 38) = W at *
    refine wp_region_far (by kernel_rfl) (by kernel_rfl) ?_
    repeat (go_big_quiet_step ((first | (go_at_call 59; exact far_of (HR.out _)) | (go_at_call 50; exact far_of (HG.out _)))))
    refine wpQuiet_nil ?_
    rintro _ ⟨p, rfl⟩
    go_wp2
    go_ret
    exact ⟨ret_bool HV.out.symm, below_trans HAL.out (below_far W p)⟩

set_option maxHeartbeats 1000000 in
theorem vecHas (A : Option Addr) (xs : List (Int × Int)) (cap : Nat) (r c : Int) (w : World) (hx : DotsAt w A xs) (hm : xs.length ≤ maxLen) :
    Calls Try.prog 57 #[.slice A xs.length cap, .agg #[.int .i64 r, .int .i64 c]] w fun e w' => e = .returned (.bool (hasV xs r c)) ∧ Below w.heap.size w w' := by
  have hr := fun W => dotValid r c W
  have hal : Below w.heap.size w (w.alloc (.cells #[.int .i64 r, .int .i64 c] 38)) := (Below.refl _ w).alloc (Nat.le_refl _) _
  have g0 : (w.alloc (.cells #[.int .i64 r, .int .i64 c] 38)).cell? ⟨w.heap.size, 0, none⟩ = some (.int .i64 r) := by go_simp
  have g1 : (w.alloc (.cells #[.int .i64 r, .int .i64 c] 38)).cell? ⟨w.heap.size, 1, none⟩ = some (.int .i64 c) := by go_simp
  have gz : w.heap.size < (w.alloc (.cells #[.int .i64 r, .int .i64 c] 38)).heap.size := by simp
  have l4 := fun p => cell_far (p := p) (a := ⟨w.heap.size, 0, none⟩) gz g0
  have l5 := fun p => cell_far (p := p) (a := ⟨w.heap.size, 1, none⟩) gz g1
  have hg := fun p => vecGet A xs cap r _ ((hx.below hal).far p) hm
  have HAL := Lib.hid hal
  clear g0 g1 gz hal
  cases hq : validD r c
  · rw [hq] at hr
    have HR := Lib.hid hr; clear hr
    have HV := Lib.hid (show hasV xs r c = false by unfold hasV; rw [hq]; rfl); clear hq hg
    go_enter Try.func57, Try.ntmps57
    go_wp2_with fail
    generalize w.alloc (.cells #[.int .i64 r, .int .i64 c] 38) = W at *
    refine wp_region_far (by kernel_rfl) (by kernel_rfl) ?_
    repeat (go_big_quiet_step ((go_at_call 46; exact far_of (HR.out _))))
    refine wpQuiet_nil ?_
    rintro _ ⟨p, rfl⟩
    go_wp2
    go_ret
    exact ⟨ret_bool HV.out.symm, below_trans HAL.out (below_far W p)⟩
  · rw [hq] at hr
    have HR := Lib.hid hr; clear hr
    have HV := Lib.hid (hasV_of (v := xs) hq); clear hq
    generalize getV xs r = g at hg HV
    have HG := Lib.hid hg; clear hg
    go_enter Try.func57, Try.ntmps57
    go_wp2_with fail
    generalize w.alloc (.cells #[.int .i64 r, .int .i64 c] 38) = W at *
    refine wp_region_far (by kernel_rfl) (by kernel_rfl) ?_
    repeat (go_big_quiet_step ((first | (go_at_call 46; exact far_of (HR.out _)) | (go_at_call 78; exact far_of (HG.out _)))))
    refine wpQuiet_nil ?_
    rintro _ ⟨p, rfl⟩
    go_wp2
    go_ret
    exact ⟨ret_bool HV.out.symm, below_trans HAL.out (below_far W p)⟩

end Go.Proofs.Ytibnlifdeknicaa
