/- Several texts in one: VecA, VecB, CtxL, GenA, QtyK, QtyA. -/
import Derived.Test.YtiaehpdgpjhecaaGreatQAA
import Derived.Test.YtiaehpdgpjhecaaGreatQAB
import Derived.Test.YtiaehpdgpjhecaaGreatQAD
import Derived.Outline
import Derived.WalkSpells
import Derived.IntWalk
import Derived.KernelRfl
namespace Go.Proofs.YtiaehpdgpjhecaaGreat

section
open Go.RowKit

/-- The first k elements are valid, each of a greater replica than the one before. -/
def VOk (v : List (Int × Int)) (k : Nat) : Prop := ∀ j p, j < k → v[j]? = some p → validD p.1 p.2 = true ∧ ∀ i q, j = i + 1 → v[i]? = some q → q.1 < p.1
theorem VOk.step0 {v : List (Int × Int)} {p : Int × Int} (hp : v[0]? = some p) (h1 : validD p.1 p.2 = true) : VOk v 1 := fun j q hj hq => by
  obtain rfl : j = 0 := by omega
  rw [hp] at hq; cases hq
  exact ⟨h1, fun i q h => by omega⟩
theorem VOk.step {v : List (Int × Int)} {m : Nat} {p q : Int × Int} (h : VOk v (m + 1)) (hq : v[m]? = some q) (hp : v[m + 1]? = some p) (h1 : validD p.1 p.2 = true) (h2 : q.1 < p.1) : VOk v (m + 1 + 1) := fun j p' hj hp' => by
  by_cases e : j = m + 1
  · subst e
    rw [hp] at hp'; cases hp'
    refine ⟨h1, fun i q' hi hq' => ?_⟩
    obtain rfl : i = m := by omega
    rw [hq] at hq'; cases hq'
    exact h2
  · exact h j p' (by omega) hp'
theorem incR_of : ∀ {v : List (Int × Int)}, (∀ i q p, v[i]? = some q → v[i + 1]? = some p → q.1 < p.1) → IncR v
  | [], _ => by simp [IncR]
  | [_], _ => by simp [IncR]
  | x :: y :: v, h => by
    have hr : IncR (y :: v) := incR_of fun i q p h1 h2 => h (i + 1) q p (by simpa using h1) (by simpa using h2)
    have hxy := h 0 x y rfl rfl
    refine List.pairwise_cons.2 ⟨fun p hp => ?_, hr⟩
    rcases List.mem_cons.1 hp with e | hp
    · subst e; exact hxy
    · have := (List.pairwise_cons.1 hr).1 p hp; omega
theorem VOk.yes {v : List (Int × Int)} (h : VOk v v.length) : validV v = true := by
  refine (validV_iff v).2 ⟨fun p hp => ?_, incR_of fun i q p h1 h2 => ?_⟩
  · obtain ⟨j, hj⟩ := List.mem_iff_getElem?.1 hp
    exact (h j p (List.getElem?_eq_some_iff.1 hj).1 hj).1
  · exact (h (i + 1) p (List.getElem?_eq_some_iff.1 h2).1 h2).2 i q rfl h1
theorem validV_no1 {v : List (Int × Int)} {m : Nat} {p : Int × Int} (hp : v[m]? = some p) (h : validD p.1 p.2 = false) : validV v = false := by
  cases e : validV v
  · rfl
  · have := ((validV_iff v).1 e).1 p (List.mem_of_getElem? hp)
    rw [h] at this; cases this
theorem validV_no2 {v : List (Int × Int)} {m : Nat} {p q : Int × Int} (hq : v[m]? = some q) (hp : v[m + 1]? = some p) (h : ¬ q.1 < p.1) : validV v = false := by
  cases e : validV v
  · rfl
  · have hi := ((validV_iff v).1 e).2
    obtain ⟨h1, h2⟩ := List.getElem?_eq_some_iff.1 hq
    obtain ⟨h3, h4⟩ := List.getElem?_eq_some_iff.1 hp
    have := List.pairwise_iff_getElem.1 hi m (m + 1) h1 h3 (by omega)
    rw [h2, h4] at this
    exact absurd this h

set_option maxHeartbeats 1000000 in
theorem vecValid (A : Option Addr) (xs : List (Int × Int)) (cap : Nat) (w : World) (hx : DotsAt w A xs) (hm : xs.length ≤ maxLen) :
    Calls Tryz.prog 130 #[.slice A xs.length cap] w fun e w' => e = .returned (.bool (validV xs)) ∧ Below w.heap.size w w' := by
  unfold maxLen at hm
  go_enter Tryz.func130, Tryz.ntmps130
  go_wp2
  go_loopw [3, 4, 7] (fun _ _ i wr => ∃ m : Nat, m ≤ xs.length ∧ i = .int .i64 m ∧ Below w.heap.size w wr ∧ Hid (VOk xs m)) (fun _ _ i _ => xs.length - (intOf i).toNat)
  case atStart => exact ⟨0, by omega, rfl, Below.refl _ _, fun j p h => by omega⟩
  case round =>
    obtain ⟨m, hk2, rfl, hb0, hs⟩ := hrel
    by_cases hlt : m < xs.length
    · obtain ⟨b, off, r, c, rfl, hbl0, hx1, hc0, hc1⟩ := (hx.below hb0).dot (j := m) hlt
      have hr := fun W => dotValid r c W
      have HX1 := Lib.hid hx1
      have hal : Below wr.heap.size wr (wr.alloc (.cells #[.int .i64 r, .int .i64 c] 30)) := (Below.refl _ wr).alloc (Nat.le_refl _) _
      have g0 : (wr.alloc (.cells #[.int .i64 r, .int .i64 c] 30)).cell? ⟨wr.heap.size, 0, none⟩ = some (.int .i64 r) := by go_simp
      have g1 : (wr.alloc (.cells #[.int .i64 r, .int .i64 c] 30)).cell? ⟨wr.heap.size, 1, none⟩ = some (.int .i64 c) := by go_simp
      have gz : wr.heap.size < (wr.alloc (.cells #[.int .i64 r, .int .i64 c] 30)).heap.size := by simp
      have l4 := fun p => cell_far (p := p) (a := ⟨wr.heap.size, 0, none⟩) gz g0
      have l5 := fun p => cell_far (p := p) (a := ⟨wr.heap.size, 1, none⟩) gz g1
      have hb := hb0.trans (hal.mono hb0.size)
      have hz := hb.size
      cases hq : validD r c
      · rw [hq] at hr
        have HR := Lib.hid hr; clear hr
        have HV := Lib.hid (validV_no1 hx1 hq); clear hq hx1 g0 g1 gz
        go_wp2_with fail
        generalize wr.alloc (.cells #[.int .i64 r, .int .i64 c] 30) = W at *
        refine wp_region_far (by kernel_rfl) (by kernel_rfl) ?_
        repeat (go_big_quiet_step ((go_at_call 51; exact far_of (HR.out _))))
        refine wpQuiet_nil ?_
        rintro _ ⟨p, rfl⟩
        go_wp2
        go_ret
        exact ⟨ret_bool HV.out.symm, hb.trans ((below_far W p).mono hb.size)⟩
      · rw [hq] at hr
        have HR := Lib.hid hr; clear hr
        have HQ := Lib.hid hq; clear hq
        cases m with
        | zero =>
          clear hx1 g0 g1 gz
          simp only [Nat.zero_mul, Nat.add_zero] at hc0 hc1
          go_wp2_with fail
          generalize wr.alloc (.cells #[.int .i64 r, .int .i64 c] 30) = W at *
          refine wp_region_far (by kernel_rfl) (by kernel_rfl) ?_
          repeat (go_big_quiet_step ((go_at_call 51; exact far_of (HR.out _))))
          refine wpQuiet_nil ?_
          rintro _ ⟨p, rfl⟩
          go_wp2
          go_roundw
          case rel => exact ⟨1, by omega, by go_num, hb.trans ((below_far W p).mono hb.size), VOk.step0 HX1.out HQ.out⟩
          case measure => simp [intOf]; omega
        | succ n =>
          obtain ⟨_, _, r', c', ho, hbl2, hx2, hd0, hd1⟩ := (hx.below hb).dot (j := n) (by omega)
          cases ho
          have l2 := fun p => cell_far (p := p) hbl2 hd0
          have l3 := fun p => cell_far (p := p) hbl2 hd1
          have HX2 := Lib.hid hx2
          clear hd0 hd1 g0 g1 gz hbl2
          by_cases hlt2 : r' < r
          · clear hx1 hx2
            go_wp2_with fail
            generalize wr.alloc (.cells #[.int .i64 r, .int .i64 c] 30) = W at *
            refine wp_region_far (by kernel_rfl) (by kernel_rfl) ?_
            repeat (go_big_quiet_step ((go_at_call 51; exact far_of (HR.out _))))
            refine wpQuiet_nil ?_
            rintro _ ⟨p, rfl⟩
            go_wp2
            go_roundw
            case rel => exact ⟨n + 1 + 1, by omega, by go_num, hb.trans ((below_far W p).mono hb.size), hs.out.step HX2.out HX1.out HQ.out hlt2⟩
            case measure => simp [intOf]; omega
          · have HV := Lib.hid (validV_no2 hx2 hx1 hlt2)
            clear hx1 hx2
            go_wp2_with fail
            generalize wr.alloc (.cells #[.int .i64 r, .int .i64 c] 30) = W at *
            refine wp_region_far (by kernel_rfl) (by kernel_rfl) ?_
            repeat (go_big_quiet_step ((go_at_call 51; exact far_of (HR.out _))))
            refine wpQuiet_nil ?_
            rintro _ ⟨p, rfl⟩
            go_wp2
            go_ret
            exact ⟨ret_bool HV.out.symm, hb.trans ((below_far W p).mono hb.size)⟩
    · have hv : validV xs = true := VOk.yes (by rw [show xs.length = m by omega]; exact hs.out)
      have HV := Lib.hid hv; clear hv
      go_wp2
      go_ret
      exact ⟨ret_bool HV.out.symm, hb0⟩

set_option maxHeartbeats 1000000 in
theorem vecGet (A : Option Addr) (xs : List (Int × Int)) (cap : Nat) (r0 : Int) (w : World) (hx : DotsAt w A xs) (hm : xs.length ≤ maxLen) :
    Calls Tryz.prog 161 #[.slice A xs.length cap, .int .i64 r0] w fun e w' => e = .returned (.int .i64 (getV xs r0)) ∧ Below w.heap.size w w' := by
  unfold maxLen at hm
  go_enter Tryz.func161, Tryz.ntmps161
  go_wp2
  go_loopw [6, 9] (fun _ i wr => ∃ m : Nat, m ≤ xs.length ∧ i = .int .i64 m ∧ Below w.heap.size w wr ∧ Hid (getV xs r0 = getV (xs.drop m) r0)) (fun _ i _ => xs.length - (intOf i).toNat)
  case atStart => exact ⟨0, by omega, rfl, Below.refl _ _, by rw [List.drop_zero]; rfl⟩
  case round =>
    obtain ⟨m, hk2, rfl, hb, hs⟩ := hrel
    by_cases hlt : m < xs.length
    · obtain ⟨b, off, r, c, rfl, hbl, hx1, hc0, hc1⟩ := (hx.below hb).dot (j := m) hlt
      have hd : xs.drop m = (r, c) :: xs.drop (m + 1) := by
        obtain ⟨h1, h2⟩ := List.getElem?_eq_some_iff.1 hx1
        rw [← h2]; exact List.drop_eq_getElem_cons h1
      have hg := hs.out
      rw [hd, getV] at hg
      clear hd hx1
      have HB := Lib.hid (hb.trans (((Below.refl _ wr).alloc (Nat.le_refl _) (.cells #[.int .i64 r, .int .i64 c] 30)).mono hb.size))
      by_cases hq : r = r0
      · rw [if_pos hq] at hg
        have HG := Lib.hid hg; clear hg
        subst hq
        go_wp2
        go_ret
        exact ⟨ret_int HG.out.symm, HB.out⟩
      · rw [if_neg hq] at hg
        have HG := Lib.hid hg; clear hg
        go_wp2
        go_roundw
        case rel => exact ⟨m + 1, by omega, by go_num, HB.out, HG⟩
        case measure => simp [intOf]; omega
    · have hg := hs.out
      rw [List.drop_eq_nil_of_le (by omega)] at hg
      have HG := Lib.hid (show getV xs r0 = 0 from hg); clear hg
      go_wp2
      go_ret
      exact ⟨ret_int HG.out.symm, hb⟩

theorem hasV_of {v : List (Int × Int)} {r c : Int} (h : validD r c = true) : hasV v r c = decide (c ≤ getV v r) := by unfold hasV; rw [h]; rfl

set_option maxHeartbeats 1000000 in
theorem vecHas (A : Option Addr) (xs : List (Int × Int)) (cap : Nat) (r c : Int) (w : World) (hx : DotsAt w A xs) (hm : xs.length ≤ maxLen) :
    Calls Tryz.prog 102 #[.slice A xs.length cap, .agg #[.int .i64 r, .int .i64 c]] w fun e w' => e = .returned (.bool (hasV xs r c)) ∧ Below w.heap.size w w' := by
  have hr := fun W => dotValid r c W
  have hal : Below w.heap.size w (w.alloc (.cells #[.int .i64 r, .int .i64 c] 30)) := (Below.refl _ w).alloc (Nat.le_refl _) _
  have g0 : (w.alloc (.cells #[.int .i64 r, .int .i64 c] 30)).cell? ⟨w.heap.size, 0, none⟩ = some (.int .i64 r) := by go_simp
  have g1 : (w.alloc (.cells #[.int .i64 r, .int .i64 c] 30)).cell? ⟨w.heap.size, 1, none⟩ = some (.int .i64 c) := by go_simp
  have gz : w.heap.size < (w.alloc (.cells #[.int .i64 r, .int .i64 c] 30)).heap.size := by simp
  have l4 := fun p => cell_far (p := p) (a := ⟨w.heap.size, 0, none⟩) gz g0
  have l5 := fun p => cell_far (p := p) (a := ⟨w.heap.size, 1, none⟩) gz g1
  have hg := fun p => vecGet A xs cap r _ ((hx.below hal).far p) hm
  have HAL := Lib.hid hal
  clear g0 g1 gz hal
  cases hq : validD r c
  · rw [hq] at hr
    have HR := Lib.hid hr; clear hr
    have HV := Lib.hid (show hasV xs r c = false by unfold hasV; rw [hq]; rfl); clear hq hg
    go_enter Tryz.func102, Tryz.ntmps102
    go_wp2_with fail
    generalize w.alloc (.cells #[.int .i64 r, .int .i64 c] 30) = W at *
    refine wp_region_far (by kernel_rfl) (by kernel_rfl) ?_
    repeat (go_big_quiet_step ((go_at_call 51; exact far_of (HR.out _))))
    refine wpQuiet_nil ?_
    rintro _ ⟨p, rfl⟩
    go_wp2
    go_ret
    exact ⟨ret_bool HV.out.symm, below_trans HAL.out (below_far W p)⟩
  · rw [hq] at hr
    have HR := Lib.hid hr; clear hr
    have HV := Lib.hid (hasV_of (v := xs) hq); clear hq
    generalize getV xs r = g at hg HV
    have HG := Lib.hid hg; clear hg
    go_enter Tryz.func102, Tryz.ntmps102
    go_wp2_with fail
    generalize w.alloc (.cells #[.int .i64 r, .int .i64 c] 30) = W at *
    refine wp_region_far (by kernel_rfl) (by kernel_rfl) ?_
    repeat (go_big_quiet_step ((first | (go_at_call 51; exact far_of (HR.out _)) | (go_at_call 161; exact far_of (HG.out _)))))
    refine wpQuiet_nil ?_
    rintro _ ⟨p, rfl⟩
    go_wp2
    go_ret
    exact ⟨ret_bool HV.out.symm, below_trans HAL.out (below_far W p)⟩

end

section
open Go.RowKit

theorem raise_t_eq {d x : Int × Int} (h : x.1 = d.1) (v : List (Int × Int)) : raiseL d true (x :: v) = raiseL d true v := by rw [raiseL]; simp [h]
theorem raise_t_ne {d x : Int × Int} (h : ¬ x.1 = d.1) (v : List (Int × Int)) : raiseL d true (x :: v) = [x] ++ raiseL d true v := by rw [raiseL]; simp [h]
theorem raise_f_eq {d x : Int × Int} (h : x.1 = d.1) (v : List (Int × Int)) : raiseL d false (x :: v) = [d] ++ raiseL d true v := by rw [raiseL]; simp [h]
theorem raise_f_ne {d x : Int × Int} (h0 : d.1 ≤ x.1) (h : ¬ x.1 = d.1) (v : List (Int × Int)) : raiseL d false (x :: v) = [d] ++ ([x] ++ raiseL d true v) := by rw [raiseL]; simp [h, h0]
theorem raise_f_lt {d x : Int × Int} (h0 : ¬ d.1 ≤ x.1) (v : List (Int × Int)) : raiseL d false (x :: v) = [x] ++ raiseL d false v := by
  have h : ¬ x.1 = d.1 := by omega
  rw [raiseL]; simp [h, h0]
theorem raiseL_len (d : Int × Int) : ∀ (v : List (Int × Int)) (b : Bool), (raiseL d b v).length ≤ v.length + 1
  | [], b => by cases b <;> simp [raiseL]
  | x :: v, b => by
    have h1 := raiseL_len d v (b || decide (d.1 ≤ x.1))
    by_cases h0 : d.1 ≤ x.1
    · by_cases h : x.1 = d.1
      · cases b
        · rw [raise_f_eq h]
          have := raiseL_len d v true
          rw [raiseL_done] at this ⊢
          have := List.length_filter_le (fun x : Int × Int => x.1 != d.1) v
          simp; omega
        · rw [raise_t_eq h]; have := raiseL_len d v true; simp; omega
      · cases b
        · rw [raise_f_ne h0 h, raiseL_done]
          have := List.length_filter_le (fun x : Int × Int => x.1 != d.1) v
          simp; omega
        · rw [raise_t_ne h]; have := raiseL_len d v true; simp; omega
    · have h : ¬ x.1 = d.1 := by omega
      cases b
      · rw [raise_f_lt h0]; have := raiseL_len d v false; simp; omega
      · rw [raise_t_ne h]; have := raiseL_len d v true; simp; omega
theorem raiseV_len (v : List (Int × Int)) (d : Int × Int) : (raiseV v d).length ≤ v.length + 1 := by
  unfold raiseV
  split
  · omega
  · exact raiseL_len d v false
theorem mergeV_len : ∀ (b a : List (Int × Int)), (mergeV a b).length ≤ a.length + b.length
  | [], a => by simp [mergeV]
  | d :: b, a => by
    have h1 := mergeV_len b (raiseV a d)
    have h2 := raiseV_len a d
    show (mergeV (raiseV a d) b).length ≤ _
    simp only [List.length_cons]; omega

theorem grown_of_below2 {a w : World} (h : Below a.heap.size a w) (row : Option Nat) : a.grownBy w row := ⟨h.os, h.tape, h.output, h.size, fun i hi _ => h.block i hi⟩

/-- The box of the dot, and a row of the call's own. -/
def RV (w : World) (r0 c0 : Int) (v : Value) (ys : List (Int × Int)) (W : World) : Prop :=
  KS w r0 c0 W ∧ W.ownsRow (w.heap.size + 1) 30 2 v ys.length (cellsOf encD ys)
section
variable {w : World} {r0 c0 : Int} {v : Value} {ys : List (Int × Int)} {W W' : World}
theorem RV.below (h : RV w r0 c0 v ys W) (hb : Below W.heap.size W W') : RV w r0 c0 v ys W' :=
  ⟨.of (h.1.2.2.trans (hb.mono h.1.size)), h.2.kept (grown_of_below2 hb none) (by cases v.ownBlock <;> simp)⟩
theorem RV.far (h : RV w r0 c0 v ys W) (p : FarBy) : RV w r0 c0 v ys (far W p) := h.below (below_far W p)
theorem RV.cells (h : RV w r0 c0 v ys W) : W.cell? ⟨w.heap.size, 0, none⟩ = some (.int .i64 r0) ∧ W.cell? ⟨w.heap.size, 1, none⟩ = some (.int .i64 c0) ∧ w.heap.size < W.heap.size ∧ Below w.heap.size w W :=
  ⟨h.1.1, h.1.2.1, by have := h.1.size; omega, h.1.below⟩
end


/-- What a round reads, wherever what was there is as it was. -/
theorem RV.reads {w : World} {r0 c0 : Int} {v : Value} {ys : List (Int × Int)} {W : World} (h : RV w r0 c0 v ys W) {b o : Nat} {r c : Int} (hb : b < w.heap.size) (h0 : w.cell? ⟨b, o, none⟩ = some (.int .i64 r)) (h1 : w.cell? ⟨b, o + 1, none⟩ = some (.int .i64 c)) :
    ∀ p, (Go.Proofs.YtiaehpdgpjhecaaGreat.far W p).cell? ⟨w.heap.size, 0, none⟩ = some (.int .i64 r0) ∧ (Go.Proofs.YtiaehpdgpjhecaaGreat.far W p).cell? ⟨w.heap.size, 1, none⟩ = some (.int .i64 c0) ∧ (Go.Proofs.YtiaehpdgpjhecaaGreat.far W p).cell? ⟨b, o, none⟩ = some (.int .i64 r) ∧ (Go.Proofs.YtiaehpdgpjhecaaGreat.far W p).cell? ⟨b, o + 1, none⟩ = some (.int .i64 c) := fun p => by
  obtain ⟨k0, k1, kz, kb⟩ := h.cells
  have hz := kb.size
  exact ⟨cell_far (p := p) (a := ⟨w.heap.size, 0, none⟩) kz k0, cell_far (p := p) (a := ⟨w.heap.size, 1, none⟩) kz k1,
    cell_far (p := p) (a := ⟨b, o, none⟩) (by show b < _; omega) ((kb.cell (p := ⟨b, o, none⟩) hb).trans h0), cell_far (p := p) (a := ⟨b, o + 1, none⟩) (by show b < _; omega) ((kb.cell (p := ⟨b, o + 1, none⟩) hb).trans h1)⟩
/-- All dots are valid. -/
def ofOk (l : List (Int × Int)) : Bool := l.all fun p => validD p.1 p.2
end

section
open Go.RowKit

theorem inc_nodup {l : List (Int × Int)} (h : Inc l) : l.Nodup := List.Pairwise.imp (fun {a b} hab e => by subst e; rw [ltD_irrefl] at hab; cases hab) h
end

section
open Go.RowKit

/-- One result that is known, nothing changed. -/
def One (v : Value) (w : World) (e : Ending) (w' : World) : Prop := e = .returned v ∧ w = w'
/-- One result that is known, nothing changed of what was there. -/
def OneB (v : Value) (w : World) (e : Ending) (w' : World) : Prop := e = .returned v ∧ Below w.heap.size w w'
theorem OneB.int {k : IntKind} {a b : Int} {w w' : World} (h : a = b) (hb : Below w.heap.size w w') : OneB (.int k b) w (.returned (.int k a)) w' := by subst h; exact ⟨rfl, hb⟩
theorem One.int {k : IntKind} {a b : Int} (w : World) (h : a = b) : One (.int k b) w (.returned (.int k a)) w := by subst h; exact ⟨rfl, rfl⟩
theorem One.bool {a b : Bool} (w : World) (h : a = b) : One (.bool b) w (.returned (.bool a)) w := by subst h; exact ⟨rfl, rfl⟩
theorem OneB.bool {a b : Bool} {w w' : World} (h : a = b) (hb : Below w.heap.size w w') : OneB (.bool b) w (.returned (.bool a)) w' := by subst h; exact ⟨rfl, hb⟩
theorem OneB.pair {v v' u u' : Value} {w w' : World} (h : v = v') (k : u = u') (hb : Below w.heap.size w w') : OneB (.tuple #[v', u']) w (.returned (.tuple #[v, u])) w' := by subst h k; exact ⟨rfl, hb⟩
theorem One.below {v : Value} {w w' : World} {e : Ending} (h : One v w e w') : OneB v w e w' := by obtain ⟨rfl, rfl⟩ := h; exact ⟨rfl, Below.refl _ _⟩
/-- True, nothing changed of what was there. -/
abbrev TrueB (w : World) : Ending → World → Prop := OneB (.bool true) w
theorem OneB.far {P : Program} {f : FuncId} {args : Array Value} {w : World} {p : FarBy} {v : Value}
    (h : Calls P f args (Go.Proofs.YtiaehpdgpjhecaaGreat.far w p) (OneB v (Go.Proofs.YtiaehpdgpjhecaaGreat.far w p))) :
    Calls P f args (Go.Proofs.YtiaehpdgpjhecaaGreat.far w p) fun e w'' => e = .returned v ∧ ∃ q : FarBy, w'' = Go.Proofs.YtiaehpdgpjhecaaGreat.far w q := far_of h
theorem One.far {P : Program} {f : FuncId} {args : Array Value} {w : World} {p : FarBy} {v : Value}
    (h : Calls P f args (Go.Proofs.YtiaehpdgpjhecaaGreat.far w p) (One v (Go.Proofs.YtiaehpdgpjhecaaGreat.far w p))) :
    Calls P f args (Go.Proofs.YtiaehpdgpjhecaaGreat.far w p) fun e w'' => e = .returned v ∧ ∃ q : FarBy, w'' = Go.Proofs.YtiaehpdgpjhecaaGreat.far w q := far_of_same h

theorem eqT {a b : Int} (h : a = b) : (a == b) = true := by simpa using h
theorem eqF {a b : Int} (h : a ≠ b) : (a == b) = false := by simpa using h
theorem neT {a b : Int} (h : a ≠ b) : (a != b) = true := by simpa using h
theorem neF {a b : Int} (h : a = b) : (a != b) = false := by simpa using h

theorem SlAt.cell1 {α : Type} {f : α → Value} {w : World} {A : Option Addr} {xs : List α} (h : SlAt (fun x => [f x]) 1 w A xs) {j : Nat} (hj : j < xs.length) :
    ∃ b off, A = some ⟨b, off, none⟩ ∧ b < w.heap.size ∧ w.cell? ⟨b, off + j, none⟩ = some (f xs[j]) := by
  obtain ⟨b, off, rfl, hb, hc⟩ := h (by omega)
  exact ⟨b, off, rfl, hb, by simpa using hc j _ (List.getElem?_eq_getElem hj) 0 _ rfl⟩
/-- A literal slice in a new block, at elements of k cells. -/
theorem SlAt.litK {α : Type} {enc : α → List Value} {k : Nat} (hk : ∀ x, (enc x).length = k) (W : World) (t : TypeId) (xs : List α) (hm : xs.length ≤ maxLen) :
    SlAt enc k (W.alloc (.cells (cellsOf enc xs).toArray t)) (some ⟨W.heap.size, 0, none⟩) xs := by
  have hl : (cellsOf enc xs).length = xs.length * k := cellsOf_length hk xs
  have h := World.ownsRow_lit (base := 0) (e := t) (size := k) W (cellsOf enc xs).toArray xs.length (Nat.zero_le _) hm (by rw [List.size_toArray, hl])
  rw [List.toList_toArray] at h
  obtain ⟨A, c, e, _, _, h3⟩ := SlAt.of_own hk h
  injection e with e1 e2 e3
  rw [e1]
  exact h3
theorem SlAt.litAt {α : Type} {enc : α → List Value} {k : Nat} (hk : ∀ x, (enc x).length = k) (W : World) (n : Nat) (hn : W.heap.size = n) (t : TypeId) (xs : List α) (hm : xs.length ≤ maxLen) :
    SlAt enc k (W.alloc (.cells (cellsOf enc xs).toArray t)) (some ⟨n, 0, none⟩) xs := by
  subst hn
  exact SlAt.litK hk W t xs hm

end

section

/-- A mark: replica and counter of its dot, quantity, time. -/
structure Mk where
  r : Int
  c : Int
  q : Int
  t : Nat
deriving DecidableEq
def Mk.zero : Mk := ⟨0, 0, 0, 0⟩
def qtyN (q : Int) : Bool := decide (1 ≤ q) && decide (q ≤ 2147483647)
def newerN (a b : Mk) : Bool :=
  if a.t = b.t then (if a.r = b.r then (if a.c = b.c then decide (b.q < a.q) else decide (b.c < a.c)) else decide (b.r < a.r)) else decide (b.t < a.t)
theorem newerN_iff (a b : Mk) : newerN a b = true ↔ b.t < a.t ∨ (a.t = b.t ∧ (b.r < a.r ∨ (a.r = b.r ∧ (b.c < a.c ∨ (a.c = b.c ∧ b.q < a.q))))) := by
  unfold newerN
  split
  · split
    · split <;> simp <;> omega
    · simp; omega
  · simp; omega
theorem newerN_irrefl (a : Mk) : newerN a a = false := by
  cases h : newerN a a with
  | false => rfl
  | true => rw [newerN_iff] at h; omega
theorem newerN_asymm {a b : Mk} (h : newerN a b = true) : newerN b a = false := by
  cases h2 : newerN b a with
  | false => rfl
  | true => rw [newerN_iff] at h h2; omega
theorem newerN_trans {a b c : Mk} (h1 : newerN a b = true) (h2 : newerN b c = true) : newerN a c = true := by
  rw [newerN_iff] at *; omega
theorem newerN_total {a b : Mk} (h1 : newerN a b = false) (h2 : newerN b a = false) : a = b := by
  have k1 : ¬ (b.t < a.t ∨ (a.t = b.t ∧ (b.r < a.r ∨ (a.r = b.r ∧ (b.c < a.c ∨ (a.c = b.c ∧ b.q < a.q)))))) := fun h => by rw [(newerN_iff a b).2 h] at h1; cases h1
  have k2 : ¬ (a.t < b.t ∨ (b.t = a.t ∧ (a.r < b.r ∨ (b.r = a.r ∧ (a.c < b.c ∨ (b.c = a.c ∧ a.q < b.q)))))) := fun h => by rw [(newerN_iff b a).2 h] at h2; cases h2
  cases a; cases b
  simp only at k1 k2
  simp only [Mk.mk.injEq]
  omega
theorem newerN_negtrans {a b c : Mk} (h1 : newerN a b = false) (h2 : newerN b c = false) : newerN a c = false := by
  cases h : newerN a c with
  | false => rfl
  | true =>
    have k1 : ¬ (b.t < a.t ∨ (a.t = b.t ∧ (b.r < a.r ∨ (a.r = b.r ∧ (b.c < a.c ∨ (a.c = b.c ∧ b.q < a.q)))))) := fun h => by rw [(newerN_iff a b).2 h] at h1; cases h1
    have k2 : ¬ (c.t < b.t ∨ (b.t = c.t ∧ (c.r < b.r ∨ (b.r = c.r ∧ (c.c < b.c ∨ (b.c = c.c ∧ c.q < b.q)))))) := fun h => by rw [(newerN_iff b c).2 h] at h2; cases h2
    rw [newerN_iff] at h; omega
/-- The order of two marks. -/
def cmpN (a b : Mk) : Int := if newerN a b then 1 else if newerN b a then -1 else 0
theorem cmpN_zero (a b : Mk) : cmpN a b = 0 ↔ a = b := by
  unfold cmpN
  constructor
  · intro h
    cases h1 : newerN a b with
    | true => rw [h1] at h; simp at h
    | false =>
      cases h2 : newerN b a with
      | true => rw [h1, h2] at h; simp at h
      | false => exact newerN_total h1 h2
  · rintro rfl; simp [newerN_irrefl]
theorem cmpN_neg (a b : Mk) : cmpN a b < 0 ↔ newerN b a = true := by
  unfold cmpN
  cases h1 : newerN a b with
  | true => rw [newerN_asymm h1]; simp
  | false => cases h2 : newerN b a <;> simp
theorem cmpN_pos (a b : Mk) : 0 < cmpN a b ↔ newerN a b = true := by
  unfold cmpN
  cases h1 : newerN a b with
  | true => simp
  | false => cases h2 : newerN b a <;> simp
theorem cmpN_one (a b : Mk) : cmpN a b = 1 ↔ newerN a b = true := by
  unfold cmpN
  cases h1 : newerN a b with
  | true => simp
  | false => cases h2 : newerN b a <;> simp
theorem cmpN_cases (a b : Mk) : cmpN a b = 1 ∨ cmpN a b = -1 ∨ cmpN a b = 0 := by
  unfold cmpN
  split
  · exact .inl rfl
  · split
    · exact .inr (.inl rfl)
    · exact .inr (.inr rfl)
/-- The newest of some marks. -/
def maxN (m : Mk) : List Mk → Mk
  | [] => m
  | x :: r => maxN (if newerN x m then x else m) r
theorem maxN_mem (m : Mk) (l : List Mk) : maxN m l ∈ m :: l := by
  induction l generalizing m with
  | nil => simp [maxN]
  | cons x r ih =>
    unfold maxN
    by_cases hx : newerN x m = true
    · rw [if_pos hx]
      exact List.mem_cons_of_mem _ (ih x)
    · rw [if_neg hx]
      rcases List.mem_cons.1 (ih m) with h | h
      · rw [List.mem_cons]; exact .inl h
      · exact List.mem_cons_of_mem _ (List.mem_cons_of_mem _ h)
theorem maxN_not (m : Mk) (l : List Mk) : ∀ x ∈ m :: l, newerN x (maxN m l) = false := by
  induction l generalizing m with
  | nil => intro x hx; simp at hx; subst hx; exact newerN_irrefl _
  | cons y r ih =>
    intro x hx
    unfold maxN
    have h := ih (if newerN y m then y else m)
    by_cases hy : newerN y m = true
    · rw [if_pos hy] at h ⊢
      rcases List.mem_cons.1 hx with e | e
      · subst e
        exact newerN_negtrans (newerN_asymm hy) (h y (by simp))
      · exact h x e
    · rw [if_neg hy] at h ⊢
      have hy' : newerN y m = false := by simpa using hy
      rcases List.mem_cons.1 hx with e | e
      · subst e; exact h x (by simp)
      · rcases List.mem_cons.1 e with e | e
        · subst e; exact newerN_negtrans hy' (h m (by simp))
        · exact h x (List.mem_cons_of_mem _ e)
/-- What is in the list, and what nothing in it is newer than. -/
def IsMax (l : List Mk) (m : Mk) : Prop := m ∈ l ∧ ∀ x ∈ l, newerN x m = false
theorem IsMax.unique {l : List Mk} {a b : Mk} (h1 : IsMax l a) (h2 : IsMax l b) : a = b := newerN_total (h2.2 a h1.1) (h1.2 b h2.1)
theorem IsMax.same {l k : List Mk} {a b : Mk} (h : ∀ x, x ∈ l ↔ x ∈ k) (h1 : IsMax l a) (h2 : IsMax k b) : a = b :=
  h1.unique ⟨(h b).2 h2.1, fun x hx => h2.2 x ((h x).1 hx)⟩
def newestN : List Mk → Option Mk
  | [] => none
  | m :: l => some (maxN m l)
theorem newestN_max {l : List Mk} {m : Mk} (h : newestN l = some m) : IsMax l m := by
  match l with
  | [] => cases h
  | x :: r => cases h; exact ⟨maxN_mem x r, maxN_not x r⟩
/-- The greatest time is that of the newest mark. -/
theorem IsMax.time {l : List Mk} {m : Mk} (h : IsMax l m) : ∀ x ∈ l, x.t ≤ m.t := fun x hx => by
  rcases Nat.lt_or_ge m.t x.t with h1 | h1
  · have := h.2 x hx
    rw [(newerN_iff x m).2 (.inl h1)] at this
    cases this
  · exact h1
/-- What is found out in a loop over a list. -/
theorem all_yes {α : Type} {p : α → Bool} {xs : List α} (h : ∀ (j : Nat) (x : α), j < xs.length → xs[j]? = some x → p x = true) : xs.all p = true := by
  rw [List.all_eq_true]
  intro x hx
  obtain ⟨j, hj⟩ := List.mem_iff_getElem?.1 hx
  exact h j x (List.getElem?_eq_some_iff.1 hj).1 hj
theorem all_no {α : Type} {p : α → Bool} {xs : List α} {j : Nat} {x : α} (hx : xs[j]? = some x) (h : p x = false) : xs.all p = false := by
  cases e : xs.all p with
  | false => rfl
  | true => rw [List.all_eq_true] at e; have := e x (List.mem_of_getElem? hx); rw [h] at this; cases this
theorem step_all {α : Type} {p : α → Bool} {xs : List α} {m : Nat} {x : α} (h : ∀ (j : Nat) (y : α), j < m → xs[j]? = some y → p y = true) (hx : xs[m]? = some x) (hp : p x = true) : ∀ (j : Nat) (y : α), j < m + 1 → xs[j]? = some y → p y = true := fun j y hj hy => by
  by_cases e : j = m
  · subst e; rw [hx] at hy; cases hy; exact hp
  · exact h j y (by omega) hy
theorem take_step {α : Type} {xs : List α} {m : Nat} {x : α} (hx : xs[m]? = some x) : xs.take (m + 1) = xs.take m ++ [x] := by
  obtain ⟨h1, h2⟩ := List.getElem?_eq_some_iff.1 hx
  rw [List.take_succ_eq_append_getElem h1, h2]
theorem maxN_snoc (m : Mk) (l : List Mk) (x : Mk) : maxN m (l ++ [x]) = if newerN x (maxN m l) then x else maxN m l := by
  induction l generalizing m with
  | nil => rfl
  | cons y r ih => rw [List.cons_append]; exact ih _
theorem newestN_snoc {l : List Mk} {m : Mk} (h : newestN l = some m) (x : Mk) : newestN (l ++ [x]) = some (if newerN x m then x else m) := by
  match l with
  | [] => cases h
  | y :: r =>
    have e : maxN y r = m := Option.some.inj h
    rw [List.cons_append, newestN, maxN_snoc, e]
/-- The newest one and whether there is one. -/
def newestF (l : List Mk) : Mk × Bool := match newestN l with
  | none => (Mk.zero, false)
  | some m => (m, true)
theorem newestF_nil : newestF [] = (Mk.zero, false) := rfl
theorem newestF_first {l : List Mk} {v : Mk} (h : newestF l = (v, false)) (x : Mk) : newestF (l ++ [x]) = (x, true) := by
  match l with
  | [] => rfl
  | y :: r => simp [newestF, newestN] at h
theorem newestF_step {l : List Mk} {v : Mk} (h : newestF l = (v, true)) (x : Mk) : newestF (l ++ [x]) = (if newerN x v then x else v, true) := by
  match l with
  | [] => simp [newestF, newestN] at h
  | y :: r =>
    have e : newestN (y :: r) = some v := by
      have : (maxN y r, true) = (v, true) := h
      cases this; rfl
    simp only [newestF, newestN_snoc e]
theorem newestF_new {l : List Mk} {v x : Mk} (h : newestF l = (v, true)) (hx : newerN x v = true) : newestF (l ++ [x]) = (x, true) := by rw [newestF_step h, if_pos hx]
theorem newestF_old {l : List Mk} {v x : Mk} (h : newestF l = (v, true)) (hx : newerN x v = false) : newestF (l ++ [x]) = (v, true) := by rw [newestF_step h, if_neg (by simp [hx])]
theorem newestF_some {l : List Mk} {v : Mk} : newestF l = (v, true) ↔ newestN l = some v := by
  cases h : newestN l with
  | none => simp [newestF, h]
  | some m => simp [newestF, h]
theorem newestF_none {l : List Mk} {v : Mk} : newestF l = (v, false) ↔ l = [] ∧ v = Mk.zero := by
  cases l with
  | nil => simp [newestF, newestN, eq_comm]
  | cons y r => simp [newestF, newestN]

/-- The newest of some marks and the error, the time after them and the error. -/
def newV (valid : Mk → Bool) (l : List Mk) : Mk × Nat := if l.all valid then (match newestN l with
  | none => (Mk.zero, 9)
  | some m => (m, 0)) else (Mk.zero, 2)
def nextV (valid : Mk → Bool) (l : List Mk) : Nat × Nat := if l.all valid then (match newestN l with
  | none => (1, 0)
  | some m => if m.t = 18446744073709551615 then (0, 15) else (m.t + 1, 0)) else (0, 2)
section
variable {valid : Mk → Bool} {l : List Mk} {m : Mk}
theorem newV_bad (h : l.all valid = false) : newV valid l = (Mk.zero, 2) := by unfold newV; rw [h]; rfl
theorem newV_none (h : newestF l = (m, false)) : newV valid l = (m, 9) := by
  obtain ⟨rfl, rfl⟩ := newestF_none.1 h
  rfl
theorem newV_some (ha : l.all valid = true) (h : newestF l = (m, true)) : newV valid l = (m, 0) := by
  unfold newV; rw [ha, newestF_some.1 h]; rfl
theorem nextV_of (h : newV valid l = (m, 0)) : nextV valid l = if m.t = 18446744073709551615 then (0, 15) else (m.t + 1, 0) := by
  unfold newV at h
  unfold nextV
  cases ha : l.all valid with
  | false => rw [ha] at h; simp at h
  | true =>
    rw [ha, if_pos rfl] at h
    rw [if_pos rfl]
    cases hn : newestN l with
    | none => rw [hn] at h; simp at h
    | some x => rw [hn] at h; simp at h; subst h; rfl
theorem nextV_none (h : newV valid l = (m, 9)) : nextV valid l = (1, 0) := by
  unfold newV at h
  unfold nextV
  cases ha : l.all valid with
  | false => rw [ha] at h; simp at h
  | true =>
    rw [ha, if_pos rfl] at h
    rw [if_pos rfl]
    cases hn : newestN l with
    | none => rfl
    | some x => rw [hn] at h; simp at h
theorem nextV_two (h : newV valid l = (m, 2)) : nextV valid l = (0, 2) := by
  unfold newV at h
  unfold nextV
  cases ha : l.all valid with
  | false => rfl
  | true =>
    rw [ha, if_pos rfl] at h
    cases hn : newestN l with
    | none => rw [hn] at h; simp at h
    | some x => rw [hn] at h; simp at h
theorem newV_cases (valid : Mk → Bool) (l : List Mk) : (∃ m, newV valid l = (m, 0)) ∨ (newV valid l = (Mk.zero, 9)) ∨ (newV valid l = (Mk.zero, 2)) := by
  unfold newV
  split
  · split
    · exact .inr (.inl rfl)
    · exact .inl ⟨_, rfl⟩
  · exact .inr (.inr rfl)
end

/-- The newest one as the reference finds it. -/
def newR (l : List Mk) : Mk × Nat := match newestN l with
  | none => (Mk.zero, 9)
  | some m => (m, 0)
section
variable {valid : Mk → Bool} {l : List Mk}
end

end

section
open Go.RowKit

/-- A mark as a value, and its four cells. -/
abbrev mkV (m : Mk) : Value := .agg #[.int .i64 m.r, .int .i64 m.c, .int .i64 m.q, .int .u64 (m.t : Int)]
abbrev encM (m : Mk) : List Value := [.int .i64 m.r, .int .i64 m.c, .int .i64 m.q, .int .u64 (m.t : Int)]
/-- Which marks are valid. -/
def validM (m : Mk) : Bool := validD m.r m.c && (qtyN m.q && decide (m.t ≠ 0))

set_option maxHeartbeats 400000 in
theorem qtyValid (q : Int) (w : World) : Calls Tryz.prog 106 #[.int .i64 q] w (One (.bool (qtyN q)) w) := by
  go_enter Tryz.func106, Tryz.ntmps106
  go_wp2
  all_goals
    go_ret
    refine One.bool _ ?_
    simp [qtyN, *]
    try omega
set_option maxHeartbeats 400000 in
theorem qtyMark (m : Mk) (w : World) : Calls Tryz.prog 142 #[mkV m] w (OneB (.bool (validM m)) w) := by
  obtain ⟨r, c, q, t⟩ := m
  have h1 := fun W => dotValid r c W
  have h2 := fun W => qtyValid q W
  have hv : validM ⟨r, c, q, t⟩ = (validD r c && (qtyN q && decide (t ≠ 0))) := rfl
  generalize validM ⟨r, c, q, t⟩ = v at hv ⊢
  generalize validD r c = x at h1 hv
  generalize qtyN q = y at h2 hv
  have H1 := Lib.hid h1
  have H2 := Lib.hid h2
  have ht : ((t : Int) != 0) = decide (t ≠ 0) := by
    rw [Bool.eq_iff_iff]; simp
  generalize decide (t ≠ 0) = z at ht hv
  clear h1 h2
  cases x with
  | false =>
    obtain rfl : v = false := hv
    go_enter Tryz.func142, Tryz.ntmps142
    go_wp2_with fail
    refine (H1.out _).mono ?_
    rintro e w1 ⟨rfl, hb1⟩
    have HB := Lib.hid (below_trans ((Below.refl _ w).alloc (Nat.le_refl _) _) hb1)
    clear hb1
    go_wp2_with fail
    go_ret
    exact ⟨rfl, HB.out⟩
  | true =>
    cases y with
    | false =>
      obtain rfl : v = false := hv
      go_enter Tryz.func142, Tryz.ntmps142
      go_wp2_with fail
      refine (H1.out _).mono ?_
      rintro e w1 ⟨rfl, hb1⟩
      obtain ⟨hc1, hf1⟩ := bcell hb1
      have HB := Lib.hid (below_trans ((Below.refl _ w).alloc (Nat.le_refl _) _) hb1)
      clear hb1
      go_wp2_with fail
      refine (H2.out _).mono ?_
      rintro e w2 ⟨rfl, rfl⟩
      go_wp2_with fail
      go_ret
      exact ⟨rfl, HB.out⟩
    | true =>
      obtain rfl : v = z := hv
      go_enter Tryz.func142, Tryz.ntmps142
      go_wp2_with fail
      refine (H1.out _).mono ?_
      rintro e w1 ⟨rfl, hb1⟩
      obtain ⟨hc1, hf1⟩ := bcell hb1
      have HB := Lib.hid (below_trans ((Below.refl _ w).alloc (Nat.le_refl _) _) hb1)
      clear hb1
      go_wp2_with fail
      refine (H2.out _).mono ?_
      rintro e w2 ⟨rfl, rfl⟩
      go_wp2_with fail
      go_ret
      exact ⟨rfl, HB.out⟩
set_option maxHeartbeats 1000000 in
theorem qtyNewer (a b : Mk) (w : World) : Calls Tryz.prog 187 #[mkV a, mkV b] w (OneB (.bool (newerN a b)) w) := by
  obtain ⟨r, c, q, t⟩ := a
  obtain ⟨r', c', q', t'⟩ := b
  go_enter Tryz.func187, Tryz.ntmps187
  go_wp2
  all_goals
    go_ret
    refine OneB.bool ?_ (((Below.refl _ _).alloc (Nat.le_refl _) _).alloc (by simp) _)
    rw [Bool.eq_iff_iff, newerN_iff]
    simp at *
    try omega

end

end Go.Proofs.YtiaehpdgpjhecaaGreat
