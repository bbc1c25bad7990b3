/- Several texts in one: VecA, VecB, CtxL. -/
import Derived.Test.YtiaehpdgpjhecaaGreatMAA
import Derived.Test.YtiaehpdgpjhecaaGreatMAB
import Derived.Test.YtiaehpdgpjhecaaGreatMAC
import Derived.Test.YtiaehpdgpjhecaaGreatMAE
namespace Go.Proofs.YtiaehpdgpjhecaaGreat

section
open Go.RowKit

/-- The first k elements are valid, each of a greater replica than the one before. -/
def VOk (v : List (Int × Int)) (k : Nat) : Prop := ∀ j p, j < k → v[j]? = some p → validD p.1 p.2 = true ∧ ∀ i q, j = i + 1 → v[i]? = some q → q.1 < p.1
theorem VOk.step0 {v : List (Int × Int)} {p : Int × Int} (hp : v[0]? = some p) (h1 : validD p.1 p.2 = true) : VOk v 1 := fun j q hj hq => by
  obtain rfl : j = 0 := by omega
  rw [hp] at hq; cases hq
  exact ⟨h1, fun i q h => by omega⟩
theorem VOk.step {v : List (Int × Int)} {m : Nat} {p q : Int × Int} (h : VOk v (m + 1)) (hq : v[m]? = some q) (hp : v[m + 1]? = some p) (h1 : validD p.1 p.2 = true) (h2 : q.1 < p.1) : VOk v (m + 1 + 1) := fun j p' hj hp' => by
  by_cases e : j = m + 1
  · subst e
    rw [hp] at hp'; cases hp'
    refine ⟨h1, fun i q' hi hq' => ?_⟩
    obtain rfl : i = m := by omega
    rw [hq] at hq'; cases hq'
    exact h2
  · exact h j p' (by omega) hp'
theorem incR_of : ∀ {v : List (Int × Int)}, (∀ i q p, v[i]? = some q → v[i + 1]? = some p → q.1 < p.1) → IncR v
  | [], _ => by simp [IncR]
  | [_], _ => by simp [IncR]
  | x :: y :: v, h => by
    have hr : IncR (y :: v) := incR_of fun i q p h1 h2 => h (i + 1) q p (by simpa using h1) (by simpa using h2)
    have hxy := h 0 x y rfl rfl
    refine List.pairwise_cons.2 ⟨fun p hp => ?_, hr⟩
    rcases List.mem_cons.1 hp with e | hp
    · subst e; exact hxy
    · have := (List.pairwise_cons.1 hr).1 p hp; omega
theorem VOk.yes {v : List (Int × Int)} (h : VOk v v.length) : validV v = true := by
  refine (validV_iff v).2 ⟨fun p hp => ?_, incR_of fun i q p h1 h2 => ?_⟩
  · obtain ⟨j, hj⟩ := List.mem_iff_getElem?.1 hp
    exact (h j p (List.getElem?_eq_some_iff.1 hj).1 hj).1
  · exact (h (i + 1) p (List.getElem?_eq_some_iff.1 h2).1 h2).2 i q rfl h1
theorem validV_no1 {v : List (Int × Int)} {m : Nat} {p : Int × Int} (hp : v[m]? = some p) (h : validD p.1 p.2 = false) : validV v = false := by
  cases e : validV v
  · rfl
  · have := ((validV_iff v).1 e).1 p (List.mem_of_getElem? hp)
    rw [h] at this; cases this
theorem validV_no2 {v : List (Int × Int)} {m : Nat} {p q : Int × Int} (hq : v[m]? = some q) (hp : v[m + 1]? = some p) (h : ¬ q.1 < p.1) : validV v = false := by
  cases e : validV v
  · rfl
  · have hi := ((validV_iff v).1 e).2
    obtain ⟨h1, h2⟩ := List.getElem?_eq_some_iff.1 hq
    obtain ⟨h3, h4⟩ := List.getElem?_eq_some_iff.1 hp
    have := List.pairwise_iff_getElem.1 hi m (m + 1) h1 h3 (by omega)
    rw [h2, h4] at this
    exact absurd this h

set_option maxHeartbeats 1000000 in
theorem ref2Valid (A : Option Addr) (xs : List (Int × Int)) (cap : Nat) (w : World) (hx : DotsAt w A xs) (hm : xs.length ≤ maxLen) :
    Calls Tryz.prog 200 #[.slice A xs.length cap] w fun e w' => e = .returned (.bool (validV xs)) ∧ Below w.heap.size w w' := by
  unfold maxLen at hm
  go_enter Tryz.func200, Tryz.ntmps200
  go_wp2
  go_loopw [3] (fun i wr => ∃ m : Nat, m ≤ xs.length ∧ i = .int .i64 m ∧ Below w.heap.size w wr ∧ Hid (VOk xs m)) (fun i _ => xs.length - (intOf i).toNat)
  case atStart => exact ⟨0, by omega, rfl, Below.refl _ _, fun j p h => by omega⟩
  case round =>
    obtain ⟨m, hk2, rfl, hb, hs⟩ := hrel
    by_cases hlt : m < xs.length
    · obtain ⟨b, off, r, c, rfl, hbl, hx1, hc0, hc1⟩ := (hx.below hb).dot (j := m) hlt
      have hr := fun W => refValid r c W
      have l0 := fun p => cell_far (p := p) hbl hc0
      have l1 := fun p => cell_far (p := p) hbl hc1
      clear hc0 hc1
      have HX1 := Lib.hid hx1
      cases hq : validD r c
      · rw [hq] at hr
        have HR := Lib.hid hr; clear hr
        have HV := Lib.hid (validV_no1 hx1 hq); clear hq hx1
        go_wp2
        refine wp_region_far (by kernel_rfl) (by kernel_rfl) ?_
        repeat (go_big_quiet_step ((go_at_call 53; exact far_of (HR.out _))))
        refine wpQuiet_nil ?_
        rintro _ ⟨p, rfl⟩
        go_wp2
        go_ret
        exact ⟨ret_bool HV.out.symm, hb.trans ((below_far wr p).mono hb.size)⟩
      · rw [hq] at hr
        have HR := Lib.hid hr; clear hr
        have HQ := Lib.hid hq; clear hq
        cases m with
        | zero =>
          clear hx1
          simp only [Nat.zero_mul, Nat.add_zero] at l0 l1
          go_wp2
          refine wp_region_far (by kernel_rfl) (by kernel_rfl) ?_
          repeat (go_big_quiet_step ((go_at_call 53; exact far_of (HR.out _))))
          refine wpQuiet_nil ?_
          rintro _ ⟨p, rfl⟩
          go_wp2
          go_roundw
          case rel => exact ⟨1, by omega, by go_num, hb.trans ((below_far wr p).mono hb.size), VOk.step0 HX1.out HQ.out⟩
          case measure => simp [intOf]; omega
        | succ n =>
          obtain ⟨_, _, r', c', ho, _, hx2, hd0, hd1⟩ := (hx.below hb).dot (j := n) (by omega)
          cases ho
          have l2 := fun p => cell_far (p := p) hbl hd0
          have l3 := fun p => cell_far (p := p) hbl hd1
          have HX2 := Lib.hid hx2
          clear hd0 hd1
          by_cases hlt2 : r' < r
          · clear hx1 hx2
            go_wp2
            refine wp_region_far (by kernel_rfl) (by kernel_rfl) ?_
            repeat (go_big_quiet_step ((go_at_call 53; exact far_of (HR.out _))))
            refine wpQuiet_nil ?_
            rintro _ ⟨p, rfl⟩
            go_wp2
            go_roundw
            case rel => exact ⟨n + 1 + 1, by omega, by go_num, hb.trans ((below_far wr p).mono hb.size), hs.out.step HX2.out HX1.out HQ.out hlt2⟩
            case measure => simp [intOf]; omega
          · have HV := Lib.hid (validV_no2 hx2 hx1 hlt2)
            clear hx1 hx2
            go_wp2
            refine wp_region_far (by kernel_rfl) (by kernel_rfl) ?_
            repeat (go_big_quiet_step ((go_at_call 53; exact far_of (HR.out _))))
            refine wpQuiet_nil ?_
            rintro _ ⟨p, rfl⟩
            go_wp2
            go_ret
            exact ⟨ret_bool HV.out.symm, hb.trans ((below_far wr p).mono hb.size)⟩
    · have hv : validV xs = true := VOk.yes (by rw [show xs.length = m by omega]; exact hs.out)
      have HV := Lib.hid hv; clear hv
      go_wp2
      go_ret
      exact ⟨ret_bool HV.out.symm, hb⟩

set_option maxHeartbeats 1000000 in
theorem vecValid (A : Option Addr) (xs : List (Int × Int)) (cap : Nat) (w : World) (hx : DotsAt w A xs) (hm : xs.length ≤ maxLen) :
    Calls Tryz.prog 130 #[.slice A xs.length cap] w fun e w' => e = .returned (.bool (validV xs)) ∧ Below w.heap.size w w' := by
  unfold maxLen at hm
  go_enter Tryz.func130, Tryz.ntmps130
  go_wp2
  go_loopw [3, 4, 7] (fun _ _ i wr => ∃ m : Nat, m ≤ xs.length ∧ i = .int .i64 m ∧ Below w.heap.size w wr ∧ Hid (VOk xs m)) (fun _ _ i _ => xs.length - (intOf i).toNat)
  case atStart => exact ⟨0, by omega, rfl, Below.refl _ _, fun j p h => by omega⟩
  case round =>
    obtain ⟨m, hk2, rfl, hb0, hs⟩ := hrel
    by_cases hlt : m < xs.length
    · obtain ⟨b, off, r, c, rfl, hbl0, hx1, hc0, hc1⟩ := (hx.below hb0).dot (j := m) hlt
      have hr := fun W => dotValid r c W
      have HX1 := Lib.hid hx1
      have hal : Below wr.heap.size wr (wr.alloc (.cells #[.int .i64 r, .int .i64 c] 30)) := (Below.refl _ wr).alloc (Nat.le_refl _) _
      have g0 : (wr.alloc (.cells #[.int .i64 r, .int .i64 c] 30)).cell? ⟨wr.heap.size, 0, none⟩ = some (.int .i64 r) := by go_simp
      have g1 : (wr.alloc (.cells #[.int .i64 r, .int .i64 c] 30)).cell? ⟨wr.heap.size, 1, none⟩ = some (.int .i64 c) := by go_simp
      have gz : wr.heap.size < (wr.alloc (.cells #[.int .i64 r, .int .i64 c] 30)).heap.size := by simp
      have l4 := fun p => cell_far (p := p) (a := ⟨wr.heap.size, 0, none⟩) gz g0
      have l5 := fun p => cell_far (p := p) (a := ⟨wr.heap.size, 1, none⟩) gz g1
      have hb := hb0.trans (hal.mono hb0.size)
      have hz := hb.size
      cases hq : validD r c
      · rw [hq] at hr
        have HR := Lib.hid hr; clear hr
        have HV := Lib.hid (validV_no1 hx1 hq); clear hq hx1 g0 g1 gz
        go_wp2_with fail
        generalize wr.alloc (.cells #[.int .i64 r, .int .i64 c] 30) = W at *
        refine wp_region_far (by kernel_rfl) (by kernel_rfl) ?_
        repeat (go_big_quiet_step ((go_at_call 51; exact far_of (HR.out _))))
        refine wpQuiet_nil ?_
        rintro _ ⟨p, rfl⟩
        go_wp2
        go_ret
        exact ⟨ret_bool HV.out.symm, hb.trans ((below_far W p).mono hb.size)⟩
      · rw [hq] at hr
        have HR := Lib.hid hr; clear hr
        have HQ := Lib.hid hq; clear hq
        cases m with
        | zero =>
          clear hx1 g0 g1 gz
          simp only [Nat.zero_mul, Nat.add_zero] at hc0 hc1
          go_wp2_with fail
          generalize wr.alloc (.cells #[.int .i64 r, .int .i64 c] 30) = W at *
          refine wp_region_far (by kernel_rfl) (by kernel_rfl) ?_
          repeat (go_big_quiet_step ((go_at_call 51; exact far_of (HR.out _))))
          refine wpQuiet_nil ?_
          rintro _ ⟨p, rfl⟩
          go_wp2
          go_roundw
          case rel => exact ⟨1, by omega, by go_num, hb.trans ((below_far W p).mono hb.size), VOk.step0 HX1.out HQ.out⟩
          case measure => simp [intOf]; omega
        | succ n =>
          obtain ⟨_, _, r', c', ho, hbl2, hx2, hd0, hd1⟩ := (hx.below hb).dot (j := n) (by omega)
          cases ho
          have l2 := fun p => cell_far (p := p) hbl2 hd0
          have l3 := fun p => cell_far (p := p) hbl2 hd1
          have HX2 := Lib.hid hx2
          clear hd0 hd1 g0 g1 gz hbl2
          by_cases hlt2 : r' < r
          · clear hx1 hx2
            go_wp2_with fail
            generalize wr.alloc (.cells #[.int .i64 r, .int .i64 c] 30) = W at *
            refine wp_region_far (by kernel_rfl) (by kernel_rfl) ?_
            repeat (go_big_quiet_step ((go_at_call 51; exact far_of (HR.out _))))
            refine wpQuiet_nil ?_
            rintro _ ⟨p, rfl⟩
            go_wp2
            go_roundw
            case rel => exact ⟨n + 1 + 1, by omega, by go_num, hb.trans ((below_far W p).mono hb.size), hs.out.step HX2.out HX1.out HQ.out hlt2⟩
            case measure => simp [intOf]; omega
          · have HV := Lib.hid (validV_no2 hx2 hx1 hlt2)
            clear hx1 hx2
            go_wp2_with fail
            generalize wr.alloc (.cells #[.int .i64 r, .int .i64 c] 30) = W at *
            refine wp_region_far (by kernel_rfl) (by kernel_rfl) ?_
            repeat (go_big_quiet_step ((go_at_call 51; exact far_of (HR.out _))))
            refine wpQuiet_nil ?_
            rintro _ ⟨p, rfl⟩
            go_wp2
            go_ret
            exact ⟨ret_bool HV.out.symm, hb.trans ((below_far W p).mono hb.size)⟩
    · have hv : validV xs = true := VOk.yes (by rw [show xs.length = m by omega]; exact hs.out)
      have HV := Lib.hid hv; clear hv
      go_wp2
      go_ret
      exact ⟨ret_bool HV.out.symm, hb0⟩

set_option maxHeartbeats 1000000 in
theorem ref2Get (A : Option Addr) (xs : List (Int × Int)) (cap : Nat) (r0 : Int) (w : World) (hx : DotsAt w A xs) (hm : xs.length ≤ maxLen) :
    Calls Tryz.prog 153 #[.slice A xs.length cap, .int .i64 r0] w fun e w' => e = .returned (.int .i64 (getV xs r0)) ∧ Below w.heap.size w w' := by
  unfold maxLen at hm
  go_enter Tryz.func153, Tryz.ntmps153
  go_wp2
  go_loopw [5] (fun i wr => ∃ m : Nat, m ≤ xs.length ∧ i = .int .i64 m ∧ Below w.heap.size w wr ∧ Hid (getV xs r0 = getV (xs.drop m) r0)) (fun i _ => xs.length - (intOf i).toNat)
  case atStart => exact ⟨0, by omega, rfl, Below.refl _ _, by rw [List.drop_zero]; rfl⟩
  case round =>
    obtain ⟨m, hk2, rfl, hb, hs⟩ := hrel
    by_cases hlt : m < xs.length
    · obtain ⟨b, off, r, c, rfl, hbl, hx1, hc0, hc1⟩ := (hx.below hb).dot (j := m) hlt
      have hd : xs.drop m = (r, c) :: xs.drop (m + 1) := by
        obtain ⟨h1, h2⟩ := List.getElem?_eq_some_iff.1 hx1
        rw [← h2]; exact List.drop_eq_getElem_cons h1
      have hg := hs.out
      rw [hd, getV] at hg
      clear hd hx1
      by_cases hq : r = r0
      · rw [if_pos hq] at hg
        have HG := Lib.hid hg; clear hg
        subst hq
        go_wp2
        go_ret
        exact ⟨ret_int HG.out.symm, hb⟩
      · rw [if_neg hq] at hg
        have HG := Lib.hid hg; clear hg
        go_wp2
        go_roundw
        case rel => exact ⟨m + 1, by omega, by go_num, hb, HG⟩
        case measure => simp [intOf]; omega
    · have hg := hs.out
      rw [List.drop_eq_nil_of_le (by omega)] at hg
      have HG := Lib.hid (show getV xs r0 = 0 from hg); clear hg
      go_wp2
      go_ret
      exact ⟨ret_int HG.out.symm, hb⟩

set_option maxHeartbeats 1000000 in
theorem vecGet (A : Option Addr) (xs : List (Int × Int)) (cap : Nat) (r0 : Int) (w : World) (hx : DotsAt w A xs) (hm : xs.length ≤ maxLen) :
    Calls Tryz.prog 161 #[.slice A xs.length cap, .int .i64 r0] w fun e w' => e = .returned (.int .i64 (getV xs r0)) ∧ Below w.heap.size w w' := by
  unfold maxLen at hm
  go_enter Tryz.func161, Tryz.ntmps161
  go_wp2
  go_loopw [6, 9] (fun _ i wr => ∃ m : Nat, m ≤ xs.length ∧ i = .int .i64 m ∧ Below w.heap.size w wr ∧ Hid (getV xs r0 = getV (xs.drop m) r0)) (fun _ i _ => xs.length - (intOf i).toNat)
  case atStart => exact ⟨0, by omega, rfl, Below.refl _ _, by rw [List.drop_zero]; rfl⟩
  case round =>
    obtain ⟨m, hk2, rfl, hb, hs⟩ := hrel
    by_cases hlt : m < xs.length
    · obtain ⟨b, off, r, c, rfl, hbl, hx1, hc0, hc1⟩ := (hx.below hb).dot (j := m) hlt
      have hd : xs.drop m = (r, c) :: xs.drop (m + 1) := by
        obtain ⟨h1, h2⟩ := List.getElem?_eq_some_iff.1 hx1
        rw [← h2]; exact List.drop_eq_getElem_cons h1
      have hg := hs.out
      rw [hd, getV] at hg
      clear hd hx1
      have HB := Lib.hid (hb.trans (((Below.refl _ wr).alloc (Nat.le_refl _) (.cells #[.int .i64 r, .int .i64 c] 30)).mono hb.size))
      by_cases hq : r = r0
      · rw [if_pos hq] at hg
        have HG := Lib.hid hg; clear hg
        subst hq
        go_wp2
        go_ret
        exact ⟨ret_int HG.out.symm, HB.out⟩
      · rw [if_neg hq] at hg
        have HG := Lib.hid hg; clear hg
        go_wp2
        go_roundw
        case rel => exact ⟨m + 1, by omega, by go_num, HB.out, HG⟩
        case measure => simp [intOf]; omega
    · have hg := hs.out
      rw [List.drop_eq_nil_of_le (by omega)] at hg
      have HG := Lib.hid (show getV xs r0 = 0 from hg); clear hg
      go_wp2
      go_ret
      exact ⟨ret_int HG.out.symm, hb⟩

theorem hasV_of {v : List (Int × Int)} {r c : Int} (h : validD r c = true) : hasV v r c = decide (c ≤ getV v r) := by unfold hasV; rw [h]; rfl

set_option maxHeartbeats 1000000 in
theorem ref2Has (A : Option Addr) (xs : List (Int × Int)) (cap : Nat) (r c : Int) (w : World) (hx : DotsAt w A xs) (hm : xs.length ≤ maxLen) :
    Calls Tryz.prog 104 #[.slice A xs.length cap, .agg #[.int .i64 r, .int .i64 c]] w fun e w' => e = .returned (.bool (hasV xs r c)) ∧ Below w.heap.size w w' := by
  have hr := fun W => refValid r c W
  have hal : Below w.heap.size w (w.alloc (.cells #[.int .i64 r, .int .i64 c] 30)) := (Below.refl _ w).alloc (Nat.le_refl _) _
  have g0 : (w.alloc (.cells #[.int .i64 r, .int .i64 c] 30)).cell? ⟨w.heap.size, 0, none⟩ = some (.int .i64 r) := by go_simp
  have g1 : (w.alloc (.cells #[.int .i64 r, .int .i64 c] 30)).cell? ⟨w.heap.size, 1, none⟩ = some (.int .i64 c) := by go_simp
  have gz : w.heap.size < (w.alloc (.cells #[.int .i64 r, .int .i64 c] 30)).heap.size := by simp
  have l4 := fun p => cell_far (p := p) (a := ⟨w.heap.size, 0, none⟩) gz g0
  have l5 := fun p => cell_far (p := p) (a := ⟨w.heap.size, 1, none⟩) gz g1
  have hg := fun p => ref2Get A xs cap r _ ((hx.below hal).far p) hm
  have HAL := Lib.hid hal
  clear g0 g1 gz hal
  cases hq : validD r c
  · rw [hq] at hr
    have HR := Lib.hid hr; clear hr
    have HV := Lib.hid (show hasV xs r c = false by unfold hasV; rw [hq]; rfl); clear hq hg
    go_enter Tryz.func104, Tryz.ntmps104
    go_wp2_with fail
    generalize w.alloc (.cells #[.int .i64 r, .int .i64 c] 30) = W at *
    refine wp_region_far (by kernel_rfl) (by kernel_rfl) ?_
    repeat (go_big_quiet_step ((go_at_call 53; exact far_of (HR.out _))))
    refine wpQuiet_nil ?_
    rintro _ ⟨p, rfl⟩
    go_wp2
    go_ret
    exact ⟨ret_bool HV.out.symm, below_trans HAL.out (below_far W p)⟩
  · rw [hq] at hr
    have HR := Lib.hid hr; clear hr
    have HV := Lib.hid (hasV_of (v := xs) hq); clear hq
    generalize getV xs r = g at hg HV
    have HG := Lib.hid hg; clear hg
    go_enter Tryz.func104, Tryz.ntmps104
    go_wp2_with fail
    generalize w.alloc (.cells #[.int .i64 r, .int .i64 c] 30) = W at *
    refine wp_region_far (by kernel_rfl) (by kernel_rfl) ?_
    repeat (go_big_quiet_step ((first | (go_at_call 53; exact far_of (HR.out _)) | (go_at_call 153; exact far_of (HG.out _)))))
    refine wpQuiet_nil ?_
    rintro _ ⟨p, rfl⟩
    go_wp2
    go_ret
    exact ⟨ret_bool HV.out.symm, below_trans HAL.out (below_far W p)⟩

set_option maxHeartbeats 1000000 in
theorem vecHas (A : Option Addr) (xs : List (Int × Int)) (cap : Nat) (r c : Int) (w : World) (hx : DotsAt w A xs) (hm : xs.length ≤ maxLen) :
    Calls Tryz.prog 102 #[.slice A xs.length cap, .agg #[.int .i64 r, .int .i64 c]] w fun e w' => e = .returned (.bool (hasV xs r c)) ∧ Below w.heap.size w w' := by
  have hr := fun W => dotValid r c W
  have hal : Below w.heap.size w (w.alloc (.cells #[.int .i64 r, .int .i64 c] 30)) := (Below.refl _ w).alloc (Nat.le_refl _) _
  have g0 : (w.alloc (.cells #[.int .i64 r, .int .i64 c] 30)).cell? ⟨w.heap.size, 0, none⟩ = some (.int .i64 r) := by go_simp
  have g1 : (w.alloc (.cells #[.int .i64 r, .int .i64 c] 30)).cell? ⟨w.heap.size, 1, none⟩ = some (.int .i64 c) := by go_simp
  have gz : w.heap.size < (w.alloc (.cells #[.int .i64 r, .int .i64 c] 30)).heap.size := by simp
  have l4 := fun p => cell_far (p := p) (a := ⟨w.heap.size, 0, none⟩) gz g0
  have l5 := fun p => cell_far (p := p) (a := ⟨w.heap.size, 1, none⟩) gz g1
  have hg := fun p => vecGet A xs cap r _ ((hx.below hal).far p) hm
  have HAL := Lib.hid hal
  clear g0 g1 gz hal
  cases hq : validD r c
  · rw [hq] at hr
    have HR := Lib.hid hr; clear hr
    have HV := Lib.hid (show hasV xs r c = false by unfold hasV; rw [hq]; rfl); clear hq hg
    go_enter Tryz.func102, Tryz.ntmps102
    go_wp2_with fail
    generalize w.alloc (.cells #[.int .i64 r, .int .i64 c] 30) = W at *
    refine wp_region_far (by kernel_rfl) (by kernel_rfl) ?_
    repeat (go_big_quiet_step ((go_at_call 51; exact far_of (HR.out _))))
    refine wpQuiet_nil ?_
    rintro _ ⟨p, rfl⟩
    go_wp2
    go_ret
    exact ⟨ret_bool HV.out.symm, below_trans HAL.out (below_far W p)⟩
  · rw [hq] at hr
    have HR := Lib.hid hr; clear hr
    have HV := Lib.hid (hasV_of (v := xs) hq); clear hq
    generalize getV xs r = g at hg HV
    have HG := Lib.hid hg; clear hg
    go_enter Tryz.func102, Tryz.ntmps102
    go_wp2_with fail
    generalize w.alloc (.cells #[.int .i64 r, .int .i64 c] 30) = W at *
    refine wp_region_far (by kernel_rfl) (by kernel_rfl) ?_
    repeat (go_big_quiet_step ((first | (go_at_call 51; exact far_of (HR.out _)) | (go_at_call 161; exact far_of (HG.out _)))))
    refine wpQuiet_nil ?_
    rintro _ ⟨p, rfl⟩
    go_wp2
    go_ret
    exact ⟨ret_bool HV.out.symm, below_trans HAL.out (below_far W p)⟩

end

section
open Go.RowKit

theorem raise_t_eq {d x : Int × Int} (h : x.1 = d.1) (v : List (Int × Int)) : raiseL d true (x :: v) = raiseL d true v := by rw [raiseL]; simp [h]
theorem raise_t_ne {d x : Int × Int} (h : ¬ x.1 = d.1) (v : List (Int × Int)) : raiseL d true (x :: v) = [x] ++ raiseL d true v := by rw [raiseL]; simp [h]
theorem raise_f_eq {d x : Int × Int} (h : x.1 = d.1) (v : List (Int × Int)) : raiseL d false (x :: v) = [d] ++ raiseL d true v := by rw [raiseL]; simp [h]
theorem raise_f_ne {d x : Int × Int} (h0 : d.1 ≤ x.1) (h : ¬ x.1 = d.1) (v : List (Int × Int)) : raiseL d false (x :: v) = [d] ++ ([x] ++ raiseL d true v) := by rw [raiseL]; simp [h, h0]
theorem raise_f_lt {d x : Int × Int} (h0 : ¬ d.1 ≤ x.1) (v : List (Int × Int)) : raiseL d false (x :: v) = [x] ++ raiseL d false v := by
  have h : ¬ x.1 = d.1 := by omega
  rw [raiseL]; simp [h, h0]
theorem raiseL_len (d : Int × Int) : ∀ (v : List (Int × Int)) (b : Bool), (raiseL d b v).length ≤ v.length + 1
  | [], b => by cases b <;> simp [raiseL]
  | x :: v, b => by
    have h1 := raiseL_len d v (b || decide (d.1 ≤ x.1))
    by_cases h0 : d.1 ≤ x.1
    · by_cases h : x.1 = d.1
      · cases b
        · rw [raise_f_eq h]
          have := raiseL_len d v true
          rw [raiseL_done] at this ⊢
          have := List.length_filter_le (fun x : Int × Int => x.1 != d.1) v
          simp; omega
        · rw [raise_t_eq h]; have := raiseL_len d v true; simp; omega
      · cases b
        · rw [raise_f_ne h0 h, raiseL_done]
          have := List.length_filter_le (fun x : Int × Int => x.1 != d.1) v
          simp; omega
        · rw [raise_t_ne h]; have := raiseL_len d v true; simp; omega
    · have h : ¬ x.1 = d.1 := by omega
      cases b
      · rw [raise_f_lt h0]; have := raiseL_len d v false; simp; omega
      · rw [raise_t_ne h]; have := raiseL_len d v true; simp; omega
theorem raiseV_len (v : List (Int × Int)) (d : Int × Int) : (raiseV v d).length ≤ v.length + 1 := by
  unfold raiseV
  split
  · omega
  · exact raiseL_len d v false
theorem grown_of_below2 {a w : World} (h : Below a.heap.size a w) (row : Option Nat) : a.grownBy w row := ⟨h.os, h.tape, h.output, h.size, fun i hi _ => h.block i hi⟩

/-- The box of the dot, and a row of the call's own. -/
def RV (w : World) (r0 c0 : Int) (v : Value) (ys : List (Int × Int)) (W : World) : Prop :=
  KS w r0 c0 W ∧ W.ownsRow (w.heap.size + 1) 30 2 v ys.length (cellsOf encD ys)
section
variable {w : World} {r0 c0 : Int} {v : Value} {ys : List (Int × Int)} {W W' : World}
theorem RV.below (h : RV w r0 c0 v ys W) (hb : Below W.heap.size W W') : RV w r0 c0 v ys W' :=
  ⟨.of (h.1.2.2.trans (hb.mono h.1.size)), h.2.kept (grown_of_below2 hb none) (by cases v.ownBlock <;> simp)⟩
theorem RV.far (h : RV w r0 c0 v ys W) (p : FarBy) : RV w r0 c0 v ys (far W p) := h.below (below_far W p)
theorem RV.app (h : RV w r0 c0 v ys W) (o : Obj) {v1 : Value} {w1 : World} {zs : List (Int × Int)} (ho : w1.ownsRow (w.heap.size + 1) 30 2 v1 (ys ++ zs).length (cellsOf encD (ys ++ zs))) (hg : (W.alloc o).grownBy w1 v.ownBlock) : RV w r0 c0 v1 (ys ++ zs) w1 :=
  ⟨KS.grown (h.1.alloc o) hg (fun k hk => (h.2.lt k hk).1), ho⟩
theorem RV.cells (h : RV w r0 c0 v ys W) : W.cell? ⟨w.heap.size, 0, none⟩ = some (.int .i64 r0) ∧ W.cell? ⟨w.heap.size, 1, none⟩ = some (.int .i64 c0) ∧ w.heap.size < W.heap.size ∧ Below w.heap.size w W :=
  ⟨h.1.1, h.1.2.1, by have := h.1.size; omega, h.1.below⟩
end


/-- What a round reads, wherever what was there is as it was. -/
theorem RV.reads {w : World} {r0 c0 : Int} {v : Value} {ys : List (Int × Int)} {W : World} (h : RV w r0 c0 v ys W) {b o : Nat} {r c : Int} (hb : b < w.heap.size) (h0 : w.cell? ⟨b, o, none⟩ = some (.int .i64 r)) (h1 : w.cell? ⟨b, o + 1, none⟩ = some (.int .i64 c)) :
    ∀ p, (Go.Proofs.YtiaehpdgpjhecaaGreat.far W p).cell? ⟨w.heap.size, 0, none⟩ = some (.int .i64 r0) ∧ (Go.Proofs.YtiaehpdgpjhecaaGreat.far W p).cell? ⟨w.heap.size, 1, none⟩ = some (.int .i64 c0) ∧ (Go.Proofs.YtiaehpdgpjhecaaGreat.far W p).cell? ⟨b, o, none⟩ = some (.int .i64 r) ∧ (Go.Proofs.YtiaehpdgpjhecaaGreat.far W p).cell? ⟨b, o + 1, none⟩ = some (.int .i64 c) := fun p => by
  obtain ⟨k0, k1, kz, kb⟩ := h.cells
  have hz := kb.size
  exact ⟨cell_far (p := p) (a := ⟨w.heap.size, 0, none⟩) kz k0, cell_far (p := p) (a := ⟨w.heap.size, 1, none⟩) kz k1,
    cell_far (p := p) (a := ⟨b, o, none⟩) (by show b < _; omega) ((kb.cell (p := ⟨b, o, none⟩) hb).trans h0), cell_far (p := p) (a := ⟨b, o + 1, none⟩) (by show b < _; omega) ((kb.cell (p := ⟨b, o + 1, none⟩) hb).trans h1)⟩
theorem RV.now {w : World} {r0 c0 : Int} {v : Value} {ys : List (Int × Int)} {W : World} (h : RV w r0 c0 v ys W) {b o : Nat} {r c : Int} (hb : b < w.heap.size) (h0 : w.cell? ⟨b, o, none⟩ = some (.int .i64 r)) (h1 : w.cell? ⟨b, o + 1, none⟩ = some (.int .i64 c)) :
    W.cell? ⟨w.heap.size, 0, none⟩ = some (.int .i64 r0) ∧ W.cell? ⟨w.heap.size, 1, none⟩ = some (.int .i64 c0) ∧ W.cell? ⟨b, o, none⟩ = some (.int .i64 r) ∧ W.cell? ⟨b, o + 1, none⟩ = some (.int .i64 c) := by
  have := h.reads hb h0 h1 ⟨W.drawn, #[]⟩
  rwa [far_self] at this

set_option maxRecDepth 100000 in
set_option maxHeartbeats 2000000 in
theorem ref2RaiseO (A : Option Addr) (xs : List (Int × Int)) (cap : Nat) (r0 c0 : Int) (w : World) (hx : DotsAt w A xs) (hm : xs.length ≤ 1000000) (hc : xs.length ≤ cap) (hcm : cap ≤ maxLen) (hin : hasV xs r0 c0 = false) :
    Calls Tryz.prog 199 #[.slice A xs.length cap, .agg #[.int .i64 r0, .int .i64 c0]] w fun e w' => (∃ v', e = .returned v' ∧ w'.ownsRow (w.heap.size + 1) 30 2 v' (raiseV xs (r0, c0)).length (cellsOf encD (raiseV xs (r0, c0)))) ∧ Below w.heap.size w w' := by
  obtain ⟨i0, hi0, hz0, hz1, hz2⟩ := info_parts infoD
  have hh := fun W hW => ref2Has A xs cap r0 c0 W hW (by simp only [maxLen]; omega)
  have hv : raiseV xs (r0, c0) = if hasV xs r0 c0 then xs else raiseL (r0, c0) false xs := rfl
  rw [hin] at hv
  simp only [Bool.false_eq_true, if_false] at hv
  simp only [hin] at hh
  have HH := Lib.hid hh
  have HV := Lib.hid hv
  have HM := Lib.hid hm
  clear hv hin hh
  unfold maxLen at hcm
  go_enter Tryz.func199, Tryz.ntmps199
  go_wp2_with fail
  refine (HH.out _ (hx.below ((Below.refl _ w).alloc (Nat.le_refl _) _))).mono ?_
  rintro e w1 ⟨rfl, hb1⟩
  have hb0 : Below (w.heap.size + 1) (w.alloc (.cells #[.int .i64 r0, .int .i64 c0] 30)) w1 := hb1.mono (by simp)
  clear hb1
  go_wp2_with fail
  go_loopw [5, 6, 7] (fun sv sd si wr => ∃ (m : Nat) (done : Bool) (ys : List (Int × Int)), m ≤ xs.length ∧ si = .int .i64 m ∧ sd = .bool done ∧ ys.length ≤ m + 1 ∧ (done = false → ys.length ≤ m) ∧ Hid (RV w r0 c0 sv ys wr) ∧ Hid (ys ++ raiseL (r0, c0) done (xs.drop m) = raiseL (r0, c0) false xs)) (fun _ _ i _ => xs.length - (intOf i).toNat)
  case atStart => exact ⟨0, false, [], by omega, rfl, rfl, by simp, by simp, ⟨KS.of hb0, World.ownsRow_nil _ _ _ _⟩, by simp [Hid]⟩
  case round =>
    obtain ⟨m, done, ys, hk2, rfl, rfl, hyl, hyd, hR, hE⟩ := hrel
    by_cases hlt : m < xs.length
    · obtain ⟨b, off, r, c, rfl, hbl, hx1, hc0, hc1⟩ := hx.dot (j := m) hlt
      have hd : xs.drop m = (r, c) :: xs.drop (m + 1) := by
        obtain ⟨h1, h2⟩ := List.getElem?_eq_some_iff.1 hx1
        rw [← h2]; exact List.drop_eq_getElem_cons h1
      have hE' := hE.out
      rw [hd] at hE'
      have H0 := Lib.hid hc0
      have H1 := Lib.hid hc1
      have rd := fun p => (hR.out.reads hbl hc0 hc1 p)
      have k0 := fun p => (rd p).1
      have l0 := fun p => (rd p).2.2.1
      clear hc0 hc1 hd hx1 hE rd
      cases done
      · replace hyd := hyd rfl
        by_cases hle : r0 ≤ r
        · by_cases hq : r = r0
          · rw [raise_f_eq (d := (r0, c0)) (x := (r, c)) hq, ← List.append_assoc] at hE'
            have HE := Lib.hid hE'; clear hE'
            go_wp2_with fail
            refine wp_region_far (by kernel_rfl) (by kernel_rfl) ?_
            repeat (go_big_quiet_step ((fail)))
            refine wpQuiet_nil ?_
            rintro _ ⟨p, rfl⟩
            have hR1 := Lib.hid (hR.out.far p)
            have rn := hR1.out.now hbl H0.out H1.out
            obtain ⟨n0, n1, n2, n3⟩ := rn
            clear k0 l0
            generalize far wr p = W1 at *
            go_wp2_with (at_builtin; (refine wpList_append_sl (o := ⟨some 33, _, _, _, _, _⟩) _ encD 2 rfl (.tmp 30) (.tmp 32) 23 rfl encD_len (by omega) encD_one (w.heap.size + 1) 30 i0 _ 16 Tryz.underlying23 hi0 hz0 hz1 hz2 rfl _ ys rfl (hR1.out.2.alloc _) _ 1 _ [(r0, c0)] rfl rfl (SlAt.one (heap_alloc_new _ _)) (by simp [maxLen]; have := HM.out; omega) (by simp; have := HM.out; omega) (by have := hR1.out.1.size; simp; omega) ?_; intro v1 w1 hown1 hg1 hat1; have R1 := Lib.hid (hR1.out.app _ hown1 hg1); clear hown1 hg1 hat1))
            have rd := fun p => (R1.out.reads hbl H0.out H1.out p)
            have k0 := fun p => (rd p).1
            have l0 := fun p => (rd p).2.2.1
            clear rd n0 n1 n2 n3
            refine wp_region_far (by kernel_rfl) (by kernel_rfl) ?_
            repeat (go_big_quiet_step ((fail)))
            refine wpQuiet_nil ?_
            rintro _ ⟨p, rfl⟩
            go_wp2
            go_roundw
            case rel => exact ⟨m + 1, true, ys ++ [(r0, c0)], by omega, by go_num, rfl, by simp; omega, by simp, R1.out.far _, HE⟩
            case measure => simp [intOf]; omega
          · rw [raise_f_ne (d := (r0, c0)) (x := (r, c)) hle hq, ← List.append_assoc, ← List.append_assoc] at hE'
            have HE := Lib.hid hE'; clear hE'
            go_wp2_with fail
            refine wp_region_far (by kernel_rfl) (by kernel_rfl) ?_
            repeat (go_big_quiet_step ((fail)))
            refine wpQuiet_nil ?_
            rintro _ ⟨p, rfl⟩
            have hR1 := Lib.hid (hR.out.far p)
            have rn := hR1.out.now hbl H0.out H1.out
            obtain ⟨n0, n1, n2, n3⟩ := rn
            clear k0 l0
            generalize far wr p = W1 at *
            go_wp2_with (at_builtin; (refine wpList_append_sl (o := ⟨some 33, _, _, _, _, _⟩) _ encD 2 rfl (.tmp 30) (.tmp 32) 23 rfl encD_len (by omega) encD_one (w.heap.size + 1) 30 i0 _ 16 Tryz.underlying23 hi0 hz0 hz1 hz2 rfl _ ys rfl (hR1.out.2.alloc _) _ 1 _ [(r0, c0)] rfl rfl (SlAt.one (heap_alloc_new _ _)) (by simp [maxLen]; have := HM.out; omega) (by simp; have := HM.out; omega) (by have := hR1.out.1.size; simp; omega) ?_; intro v1 w1 hown1 hg1 hat1; have R1 := Lib.hid (hR1.out.app _ hown1 hg1); clear hown1 hg1 hat1))
            have rd := fun p => (R1.out.reads hbl H0.out H1.out p)
            have k0 := fun p => (rd p).1
            have l0 := fun p => (rd p).2.2.1
            clear rd n0 n1 n2 n3
            refine wp_region_far (by kernel_rfl) (by kernel_rfl) ?_
            repeat (go_big_quiet_step ((fail)))
            refine wpQuiet_nil ?_
            rintro _ ⟨p, rfl⟩
            have hR2 := Lib.hid (R1.out.far p)
            have rn := hR2.out.now hbl H0.out H1.out
            obtain ⟨n0, n1, n2, n3⟩ := rn
            clear k0 l0
            generalize far w1 p = W2 at *
            go_wp2_with (at_builtin; (refine wpList_append_sl (o := ⟨some 48, _, _, _, _, _⟩) _ encD 2 rfl (.tmp 42) (.tmp 47) 23 rfl encD_len (by omega) encD_one (w.heap.size + 1) 30 i0 _ 16 Tryz.underlying23 hi0 hz0 hz1 hz2 rfl _ (ys ++ [(r0, c0)]) rfl (hR2.out.2.alloc _) _ 1 _ [(r, c)] rfl rfl (SlAt.one (heap_alloc_new _ _)) (by simp [maxLen]; have := HM.out; omega) (by simp; have := HM.out; omega) (by have := hR2.out.1.size; simp; omega) ?_; intro v2 w2 hown2 hg2 hat2; have R2 := Lib.hid (hR2.out.app _ hown2 hg2); clear hown2 hg2 hat2))
            go_roundw
            case rel => exact ⟨m + 1, true, ys ++ [(r0, c0)] ++ [(r, c)], by omega, by go_num, rfl, by simp; omega, by simp, R2, HE⟩
            case measure => simp [intOf]; omega
        · rw [raise_f_lt (d := (r0, c0)) (x := (r, c)) hle, ← List.append_assoc] at hE'
          have HE := Lib.hid hE'; clear hE'
          have hq : ¬ r = r0 := by omega
          go_wp2_with fail
          refine wp_region_far (by kernel_rfl) (by kernel_rfl) ?_
          repeat (go_big_quiet_step ((fail)))
          refine wpQuiet_nil ?_
          rintro _ ⟨p, rfl⟩
          have hR1 := Lib.hid (hR.out.far p)
          have rd := fun p => (hR1.out.reads hbl H0.out H1.out p)
          have k0 := fun p => (rd p).1
          have l0 := fun p => (rd p).2.2.1
          clear rd
          generalize far wr p = W1 at *
          go_wp2_with fail
          refine wp_region_far (by kernel_rfl) (by kernel_rfl) ?_
          repeat (go_big_quiet_step ((fail)))
          refine wpQuiet_nil ?_
          rintro _ ⟨p, rfl⟩
          have hR2 := Lib.hid (hR1.out.far p)
          have rn := hR2.out.now hbl H0.out H1.out
          obtain ⟨n0, n1, n2, n3⟩ := rn
          clear k0 l0
          generalize far W1 p = W2 at *
          go_wp2_with (at_builtin; (refine wpList_append_sl (o := ⟨some 48, _, _, _, _, _⟩) _ encD 2 rfl (.tmp 42) (.tmp 47) 23 rfl encD_len (by omega) encD_one (w.heap.size + 1) 30 i0 _ 16 Tryz.underlying23 hi0 hz0 hz1 hz2 rfl _ ys rfl (hR2.out.2.alloc _) _ 1 _ [(r, c)] rfl rfl (SlAt.one (heap_alloc_new _ _)) (by simp [maxLen]; have := HM.out; omega) (by simp; have := HM.out; omega) (by have := hR2.out.1.size; simp; omega) ?_; intro v3 w3 hown3 hg3 hat3; have R3 := Lib.hid (hR2.out.app _ hown3 hg3); clear hown3 hg3 hat3))
          go_roundw
          case rel => exact ⟨m + 1, false, ys ++ [(r, c)], by omega, by go_num, rfl, by simp; omega, by simp; omega, R3, HE⟩
          case measure => simp [intOf]; omega
      · by_cases hq : r = r0
        · rw [raise_t_eq (d := (r0, c0)) (x := (r, c)) hq] at hE'
          have HE := Lib.hid hE'; clear hE'
          go_wp2_with fail
          refine wp_region_far (by kernel_rfl) (by kernel_rfl) ?_
          repeat (go_big_quiet_step ((fail)))
          refine wpQuiet_nil ?_
          rintro _ ⟨p, rfl⟩
          have hR1 := Lib.hid (hR.out.far p)
          have rd := fun p => (hR1.out.reads hbl H0.out H1.out p)
          have k0 := fun p => (rd p).1
          have l0 := fun p => (rd p).2.2.1
          clear rd
          generalize far wr p = W1 at *
          go_wp2_with fail
          refine wp_region_far (by kernel_rfl) (by kernel_rfl) ?_
          repeat (go_big_quiet_step ((fail)))
          refine wpQuiet_nil ?_
          rintro _ ⟨p, rfl⟩
          go_wp2
          go_roundw
          case rel => exact ⟨m + 1, true, ys, by omega, by go_num, rfl, by omega, by simp, hR1.out.far _, HE⟩
          case measure => simp [intOf]; omega
        · rw [raise_t_ne (d := (r0, c0)) (x := (r, c)) hq, ← List.append_assoc] at hE'
          have HE := Lib.hid hE'; clear hE'
          go_wp2_with fail
          refine wp_region_far (by kernel_rfl) (by kernel_rfl) ?_
          repeat (go_big_quiet_step ((fail)))
          refine wpQuiet_nil ?_
          rintro _ ⟨p, rfl⟩
          have hR1 := Lib.hid (hR.out.far p)
          have rd := fun p => (hR1.out.reads hbl H0.out H1.out p)
          have k0 := fun p => (rd p).1
          have l0 := fun p => (rd p).2.2.1
          clear rd
          generalize far wr p = W1 at *
          go_wp2_with fail
          refine wp_region_far (by kernel_rfl) (by kernel_rfl) ?_
          repeat (go_big_quiet_step ((fail)))
          refine wpQuiet_nil ?_
          rintro _ ⟨p, rfl⟩
          have hR2 := Lib.hid (hR1.out.far p)
          have rn := hR2.out.now hbl H0.out H1.out
          obtain ⟨n0, n1, n2, n3⟩ := rn
          clear k0 l0
          generalize far W1 p = W2 at *
          go_wp2_with (at_builtin; (refine wpList_append_sl (o := ⟨some 48, _, _, _, _, _⟩) _ encD 2 rfl (.tmp 42) (.tmp 47) 23 rfl encD_len (by omega) encD_one (w.heap.size + 1) 30 i0 _ 16 Tryz.underlying23 hi0 hz0 hz1 hz2 rfl _ ys rfl (hR2.out.2.alloc _) _ 1 _ [(r, c)] rfl rfl (SlAt.one (heap_alloc_new _ _)) (by simp [maxLen]; have := HM.out; omega) (by simp; have := HM.out; omega) (by have := hR2.out.1.size; simp; omega) ?_; intro v3 w3 hown3 hg3 hat3; have R3 := Lib.hid (hR2.out.app _ hown3 hg3); clear hown3 hg3 hat3))
          go_roundw
          case rel => exact ⟨m + 1, true, ys ++ [(r, c)], by omega, by go_num, rfl, by simp; omega, by simp, R3, HE⟩
          case measure => simp [intOf]; omega
    · have hE' := hE.out
      rw [List.drop_eq_nil_of_le (by omega)] at hE'
      obtain ⟨k0, k1, kz, kb⟩ := hR.out.cells
      cases done
      · have HE := Lib.hid (show ys ++ [(r0, c0)] = raiseV xs (r0, c0) by rw [HV.out]; simpa [raiseL] using hE'); clear hE' hE
        clear kb
        go_wp2_with (at_builtin; (refine wpList_append_sl (o := ⟨some 54, _, _, _, _, _⟩) _ encD 2 rfl (.tmp 51) (.tmp 53) 23 rfl encD_len (by omega) encD_one (w.heap.size + 1) 30 i0 _ 16 Tryz.underlying23 hi0 hz0 hz1 hz2 rfl _ ys rfl (hR.out.2.alloc _) _ 1 _ [(r0, c0)] rfl rfl (SlAt.one (heap_alloc_new _ _)) (by simp [maxLen]; have := HM.out; omega) (by simp; have := HM.out; omega) (by have := hR.out.1.size; simp; omega) ?_; intro v4 w4 hown4 hg4 hat4; have R4 := Lib.hid (hR.out.app _ hown4 hg4); clear hown4 hg4 hat4))
        have hown := R4.out.2
        rw [HE.out] at hown
        obtain ⟨A', c', rfl, h1', h2', h3'⟩ := SlAt.of_own encD_len hown
        have HAT := Lib.hid hown
        clear hown h1' h2' h3' k0 k1
        go_wp2
        go_ret
        exact ⟨⟨_, rfl, HAT.out⟩, R4.out.cells.2.2.2⟩
      · have HE := Lib.hid (show ys = raiseV xs (r0, c0) by rw [HV.out]; simpa [raiseL] using hE'); clear hE' hE
        have hown := hR.out.2
        rw [HE.out] at hown
        obtain ⟨A', c', rfl, h1', h2', h3'⟩ := SlAt.of_own encD_len hown
        have HAT := Lib.hid hown
        clear hown h1' h2' h3' k0 k1
        go_wp2
        go_ret
        exact ⟨⟨_, rfl, HAT.out⟩, kb⟩

/-- All dots are valid. -/
def ofOk (l : List (Int × Int)) : Bool := l.all fun p => validD p.1 p.2
end

section
open Go.RowKit

theorem inc_nodup {l : List (Int × Int)} (h : Inc l) : l.Nodup := List.Pairwise.imp (fun {a b} hab e => by subst e; rw [ltD_irrefl] at hab; cases hab) h
end

end Go.Proofs.YtiaehpdgpjhecaaGreat
