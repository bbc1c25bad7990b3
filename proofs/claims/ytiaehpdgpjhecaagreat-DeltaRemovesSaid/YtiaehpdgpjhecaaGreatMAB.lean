/- Several texts in one: DotB, App. -/
import Derived.Test.YtiaehpdgpjhecaaGreatMAA
import Derived.Maps.AppendAt
namespace Go.Proofs.YtiaehpdgpjhecaaGreat

section
open Go.RowKit

/-- A list in increasing order, each dot once: each one is before the next one. -/
def isSetL (xs : List (Int × Int)) (k : Nat) : Prop := ∀ j p q, j + 1 < k → xs[j]? = some p → xs[j + 1]? = some q → lessD p.1 p.2 q.1 q.2 = true

theorem isSetL_step {xs : List (Int × Int)} {m : Nat} {p q : Int × Int} (h : isSetL xs (m + 1)) (hp : xs[m]? = some p) (hq : xs[m + 1]? = some q) (hl : lessD p.1 p.2 q.1 q.2 = true) : isSetL xs (m + 1 + 1) := by
  intro j p' q' hj h1 h2
  by_cases e : j = m
  · subst e
    rw [hp] at h1; rw [hq] at h2
    cases h1; cases h2
    exact hl
  · exact h j p' q' (by omega) h1 h2
theorem isSetL_no {xs : List (Int × Int)} {m : Nat} {p q : Int × Int} (hm : m + 1 < xs.length) (hp : xs[m]? = some p) (hq : xs[m + 1]? = some q) (hl : lessD p.1 p.2 q.1 q.2 = false) : ¬ isSetL xs xs.length := fun h => by
  have := h m p q hm hp hq
  rw [hl] at this; cases this

/-- Whether a list is a set. -/
def isSetB : List (Int × Int) → Bool
  | [] => true
  | [_] => true
  | p :: q :: r => lessD p.1 p.2 q.1 q.2 && isSetB (q :: r)
theorem isSetB_iff : ∀ xs : List (Int × Int), isSetB xs = true ↔ isSetL xs xs.length
  | [] => ⟨fun _ j p q h => by simp at h, fun _ => rfl⟩
  | [_] => ⟨fun _ j p q h => by simp at h, fun _ => rfl⟩
  | p :: q :: r => by
    rw [isSetB, Bool.and_eq_true, isSetB_iff (q :: r)]
    constructor
    · rintro ⟨h1, h2⟩ j p' q' hj h3 h4
      match j with
      | 0 => simp at h3 h4; subst h3; subst h4; exact h1
      | j + 1 => exact h2 j p' q' (by simp at hj ⊢; omega) (by simpa using h3) (by simpa using h4)
    · intro h
      exact ⟨h 0 p q (by simp) rfl rfl, fun j p' q' hj h3 h4 => h (j + 1) p' q' (by simp at hj ⊢; omega) (by simpa using h3) (by simpa using h4)⟩
theorem isSetB_yes {xs : List (Int × Int)} (h : isSetL xs xs.length) : isSetB xs = true := (isSetB_iff xs).2 h
theorem isSetB_no {xs : List (Int × Int)} (h : ¬ isSetL xs xs.length) : isSetB xs = false := by
  cases e : isSetB xs
  · rfl
  · exact absurd ((isSetB_iff xs).1 e) h

set_option maxHeartbeats 400000 in
theorem refIsSet (A : Option Addr) (xs : List (Int × Int)) (cap : Nat) (w : World) (hx : DotsAt w A xs) (hm : xs.length ≤ maxLen) :
    Calls Tryz.prog 201 #[.slice A xs.length cap] w fun e w' => e = .returned (.bool (isSetB xs)) ∧ Below w.heap.size w w' := by
  unfold maxLen at hm
  go_enter Tryz.func201, Tryz.ntmps201
  go_wp2
  go_loopw [3] (fun i wr => ∃ m : Nat, m + 1 ≤ max xs.length 1 ∧ i = .int .i64 ((m : Int) + 1) ∧ Below w.heap.size w wr ∧ Hid (isSetL xs (m + 1))) (fun i _ => xs.length - (intOf i).toNat)
  case atStart => exact ⟨0, by omega, rfl, Below.refl _ _, fun j p q h => by omega⟩
  case round =>
    obtain ⟨m, hk2, rfl, hb, hs⟩ := hrel
    by_cases hlt : m + 1 < xs.length
    · obtain ⟨b, off, r, c, rfl, hbl, hx1, hc0, hc1⟩ := (hx.below hb).dot (j := m) (by omega)
      obtain ⟨_, _, r', c', ho, _, hx2, hd0, hd1⟩ := (hx.below hb).dot (j := m + 1) hlt
      cases ho
      have hr := fun W => refLess r c r' c' W
      have l0 := fun p => cell_far (p := p) hbl hc0
      have l1 := fun p => cell_far (p := p) hbl hc1
      have l2 := fun p => cell_far (p := p) hbl hd0
      have l3 := fun p => cell_far (p := p) hbl hd1
      clear hc0 hc1 hd0 hd1
      have HX1 := Lib.hid hx1; clear hx1
      have HX2 := Lib.hid hx2; clear hx2
      cases hq : lessD r c r' c'
      · rw [hq] at hr
        have HR := Lib.hid hr; clear hr
        have HQ := Lib.hid hq; clear hq
        go_wp2
        refine wp_region_far (by kernel_rfl) (by kernel_rfl) ?_
        repeat (go_big_quiet_step ((go_at_call 206; exact far_of (HR.out _))))
        refine wpQuiet_nil ?_
        rintro _ ⟨p, rfl⟩
        go_wp2
        go_ret
        exact ⟨ret_bool (isSetB_no (isSetL_no hlt HX1.out HX2.out HQ.out)).symm, hb.trans ((below_far wr p).mono hb.size)⟩
      · rw [hq] at hr
        have HR := Lib.hid hr; clear hr
        have HQ := Lib.hid hq; clear hq
        go_wp2
        refine wp_region_far (by kernel_rfl) (by kernel_rfl) ?_
        repeat (go_big_quiet_step ((go_at_call 206; exact far_of (HR.out _))))
        refine wpQuiet_nil ?_
        rintro _ ⟨p, rfl⟩
        go_wp2
        go_roundw
        case rel => exact ⟨m + 1, by omega, by go_num, hb.trans ((below_far wr p).mono hb.size), isSetL_step hs.out HX1.out HX2.out HQ.out⟩
        case measure => simp [intOf]; omega
    · go_wp2
      go_ret
      refine ⟨ret_bool (isSetB_yes ?_).symm, hb⟩
      intro j p q hj
      exact hs.out j p q (by omega)

set_option maxHeartbeats 400000 in
theorem dotIsSet (A : Option Addr) (xs : List (Int × Int)) (cap : Nat) (w : World) (hx : DotsAt w A xs) (hm : xs.length ≤ maxLen) :
    Calls Tryz.prog 131 #[.slice A xs.length cap] w fun e w' => e = .returned (.bool (isSetB xs)) ∧ Below w.heap.size w w' := by
  unfold maxLen at hm
  go_enter Tryz.func131, Tryz.ntmps131
  go_wp2
  go_loopw [3] (fun i wr => ∃ m : Nat, m + 1 ≤ max xs.length 1 ∧ i = .int .i64 ((m : Int) + 1) ∧ Below w.heap.size w wr ∧ Hid (isSetL xs (m + 1))) (fun i _ => xs.length - (intOf i).toNat)
  case atStart => exact ⟨0, by omega, rfl, Below.refl _ _, fun j p q h => by omega⟩
  case round =>
    obtain ⟨m, hk2, rfl, hb, hs⟩ := hrel
    by_cases hlt : m + 1 < xs.length
    · obtain ⟨b, off, r, c, rfl, hbl, hx1, hc0, hc1⟩ := (hx.below hb).dot (j := m) (by omega)
      obtain ⟨_, _, r', c', ho, _, hx2, hd0, hd1⟩ := (hx.below hb).dot (j := m + 1) hlt
      cases ho
      have hr := fun W => dotCompare r c r' c' W
      have l0 := fun p => cell_far (p := p) hbl hc0
      have l1 := fun p => cell_far (p := p) hbl hc1
      have l2 := fun p => cell_far (p := p) hbl hd0
      have l3 := fun p => cell_far (p := p) hbl hd1
      clear hc0 hc1 hd0 hd1
      have HX1 := Lib.hid hx1; clear hx1
      have HX2 := Lib.hid hx2; clear hx2
      have hv : (lessD r c r' c' = true ∧ cmpD r c r' c' < 0) ∨ (lessD r c r' c' = false ∧ 0 ≤ cmpD r c r' c') := by
        unfold cmpD; cases lessD r c r' c' <;> simp; split <;> simp
      generalize cmpD r c r' c' = v at hr hv
      have HR := Lib.hid hr; clear hr
      rcases hv with ⟨hq, hv⟩ | ⟨hq, hv⟩
      · have HQ := Lib.hid hq; clear hq
        go_wp2
        refine wp_region_far (by kernel_rfl) (by kernel_rfl) ?_
        repeat (go_big_quiet_step ((go_at_call 115; exact far_of (HR.out _))))
        refine wpQuiet_nil ?_
        rintro _ ⟨p, rfl⟩
        go_wp2
        go_roundw
        case rel => exact ⟨m + 1, by omega, by go_num, hb.trans ((below_far wr p).mono hb.size), isSetL_step hs.out HX1.out HX2.out HQ.out⟩
        case measure => simp [intOf]; omega
      · have HQ := Lib.hid hq; clear hq
        go_wp2
        refine wp_region_far (by kernel_rfl) (by kernel_rfl) ?_
        repeat (go_big_quiet_step ((go_at_call 115; exact far_of (HR.out _))))
        refine wpQuiet_nil ?_
        rintro _ ⟨p, rfl⟩
        go_wp2
        go_ret
        exact ⟨ret_bool (isSetB_no (isSetL_no hlt HX1.out HX2.out HQ.out)).symm, hb.trans ((below_far wr p).mono hb.size)⟩
    · go_wp2
      go_ret
      refine ⟨ret_bool (isSetB_yes ?_).symm, hb⟩
      intro j p q hj
      exact hs.out j p q (by omega)

/-- '==' and '!=' of two dots. -/
theorem eqlDot : ∀ (r c r' c' : Int) (w : World), (binOp .eql 30 (.agg #[.int .i64 r, .int .i64 c]) (.agg #[.int .i64 r', .int .i64 c'])).run Tryz.prog w = .ok (.bool (r == r' && c == c')) w := by
  intro r c r' c' w
  have hS : Tryz.prog.underlying 30 = some (.struct (Tryz.prog.fieldsOf 30)) := by kernel_rfl
  have hp : Tryz.prog.stoodInHeld 30 = false := by kernel_rfl
  rw [run_eql_struct, show (10000 : Nat) = 9999 + 1 from rfl, run_equalIn_agg w 9999 30 _ _ hS hp]
  simp only [Program.fieldsOf, Tryz.underlying30]
  go_simp
  by_cases h1 : r = r' <;> by_cases h2 : c = c' <;> simp [h1, h2]

theorem neqDot : ∀ (r c r' c' : Int) (w : World), (binOp .neq 30 (.agg #[.int .i64 r, .int .i64 c]) (.agg #[.int .i64 r', .int .i64 c'])).run Tryz.prog w = .ok (.bool (!(r == r' && c == c'))) w := by
  intro r c r' c' w
  have hS : Tryz.prog.underlying 30 = some (.struct (Tryz.prog.fieldsOf 30)) := by kernel_rfl
  have hp : Tryz.prog.stoodInHeld 30 = false := by kernel_rfl
  rw [run_neq_struct, show (10000 : Nat) = 9999 + 1 from rfl, run_equalIn_agg w 9999 30 _ _ hS hp]
  simp only [Program.fieldsOf, Tryz.underlying30]
  go_simp
  by_cases h1 : r = r' <;> by_cases h2 : c = c' <;> simp [h1, h2]

/-- The first k elements of both lists are the same. -/
def SameTo (xs ys : List (Int × Int)) (k : Nat) : Prop := ∀ j, j < k → xs[j]? = ys[j]?

set_option maxHeartbeats 400000 in
theorem refSame (A B : Option Addr) (xs ys : List (Int × Int)) (cap cap' : Nat) (w : World) (hx : DotsAt w A xs) (hy : DotsAt w B ys) (hm : xs.length ≤ maxLen) (_ : ys.length ≤ maxLen) :
    Calls Tryz.prog 91 #[.slice A xs.length cap, .slice B ys.length cap'] w fun e w' => e = .returned (.bool (decide (xs = ys))) ∧ Below w.heap.size w w' := by
  unfold maxLen at hm
  by_cases hl : xs.length = ys.length
  · have hl' : ((xs.length : Int) != (ys.length : Int)) = false := by simp [hl]
    have HL := Lib.hid hl; clear hl
    go_enter Tryz.func91, Tryz.ntmps91
    go_wp2
    go_loopw [5] (fun i wr => ∃ m : Nat, m ≤ xs.length ∧ i = .int .i64 m ∧ Below w.heap.size w wr ∧ Hid (SameTo xs ys m)) (fun i _ => xs.length - (intOf i).toNat)
    case atStart => exact ⟨0, by omega, rfl, Below.refl _ _, fun j h => by omega⟩
    case round =>
      obtain ⟨m, hk2, rfl, hb, hs⟩ := hrel
      by_cases hlt : m < xs.length
      · obtain ⟨b, off, r, c, rfl, hbl, hx1, hc0, hc1⟩ := (hx.below hb).dot (j := m) (by omega)
        obtain ⟨b', off', r', c', rfl, hbl', hx2, hd0, hd1⟩ := (hy.below hb).dot (j := m) (by have := HL.out; omega)
        have hlt2 : m < ys.length := by have := HL.out; omega
        have l0 := fun p => cell_far (p := p) hbl hc0
        have l1 := fun p => cell_far (p := p) hbl hc1
        have l2 := fun p => cell_far (p := p) hbl' hd0
        have l3 := fun p => cell_far (p := p) hbl' hd1
        clear hc0 hc1 hd0 hd1
        have HX1 := Lib.hid hx1; clear hx1
        have HX2 := Lib.hid hx2; clear hx2
        by_cases hq : r = r' ∧ c = c'
        · obtain ⟨rfl, rfl⟩ := hq
          go_wp2
          refine wp_region_far (by kernel_rfl) (by kernel_rfl) ?_
          repeat (go_big_quiet_step ((fail)))
          refine wpQuiet_nil ?_
          rintro _ ⟨p, rfl⟩
          go_wp2
          go_roundw
          case rel => 
            refine ⟨m + 1, by omega, by go_num, hb.trans ((below_far wr p).mono hb.size), (show Hid _ from fun j hj => ?_)⟩
            by_cases e : j = m
            · subst e; rw [HX1.out, HX2.out]
            · exact hs.out j (by omega)
          case measure => simp [intOf]; omega
        · have hne : ¬ xs = ys := fun e => by
            have h1 := HX1.out
            have h2 := HX2.out
            rw [e, h2] at h1
            cases h1
            exact hq ⟨rfl, rfl⟩
          have HN := Lib.hid hne; clear hne
          by_cases hr : r = r'
          · by_cases hc : c = c'
            · exact absurd ⟨hr, hc⟩ hq
            · clear hq
              subst hr
              go_wp2
              refine wp_region_far (by kernel_rfl) (by kernel_rfl) ?_
              repeat (go_big_quiet_step ((fail)))
              refine wpQuiet_nil ?_
              rintro _ ⟨p, rfl⟩
              go_wp2
              go_ret
              exact ⟨ret_bool (by simp [HN.out]), hb.trans ((below_far wr p).mono hb.size)⟩
          · clear hq
            go_wp2
            refine wp_region_far (by kernel_rfl) (by kernel_rfl) ?_
            repeat (go_big_quiet_step ((fail)))
            refine wpQuiet_nil ?_
            rintro _ ⟨p, rfl⟩
            go_wp2
            go_ret
            exact ⟨ret_bool (by simp [HN.out]), hb.trans ((below_far wr p).mono hb.size)⟩
      · go_wp2
        go_ret
        refine ⟨ret_bool ?_, hb⟩
        have : xs = ys := List.ext_getElem? fun j => by
          by_cases e : j < m
          · exact hs.out j e
          · have := HL.out
            rw [List.getElem?_eq_none (by omega), List.getElem?_eq_none (by omega)]
        simp [this]
  · have hl' : ((xs.length : Int) != (ys.length : Int)) = true := by
      simp only [bne_iff_ne]
      omega
    have HL := Lib.hid hl; clear hl
    go_enter Tryz.func91, Tryz.ntmps91
    go_wp2
    go_ret
    refine ⟨ret_bool ?_, Below.refl _ _⟩
    have : ¬ xs = ys := fun e => HL.out (by rw [e])
    simp [this]

set_option maxHeartbeats 400000 in
theorem refHas (A : Option Addr) (xs : List (Int × Int)) (cap : Nat) (r0 c0 : Int) (w : World) (hx : DotsAt w A xs) (hm : xs.length ≤ maxLen) :
    Calls Tryz.prog 105 #[.slice A xs.length cap, .agg #[.int .i64 r0, .int .i64 c0]] w fun e w' => e = .returned (.bool (decide ((r0, c0) ∈ xs))) ∧ Below w.heap.size w w' := by
  unfold maxLen at hm
  go_enter Tryz.func105, Tryz.ntmps105
  go_wp2
  go_loopw [5] (fun i wr => ∃ m : Nat, m ≤ xs.length ∧ i = .int .i64 m ∧ Below (w.heap.size + 1) (w.alloc (.cells #[.int .i64 r0, .int .i64 c0] 30)) wr ∧ Hid (∀ j, j < m → xs[j]? ≠ some (r0, c0))) (fun i _ => xs.length - (intOf i).toNat)
  case atStart => exact ⟨0, by omega, rfl, Below.refl _ _, fun j h => by omega⟩
  case round =>
    obtain ⟨m, hk2, rfl, hb1, hs⟩ := hrel
    have hb : Below w.heap.size w wr := ((Below.refl _ w).alloc (Nat.le_refl _) _).trans (hb1.mono (by omega))
    have hz : w.heap.size + 1 ≤ wr.heap.size := by have := hb1.size; simpa using this
    have k0 := cell_far (w := wr) (a := ⟨w.heap.size, 0, none⟩) (v := .int .i64 r0) (show w.heap.size < wr.heap.size by omega) ((hb1.cell (p := ⟨w.heap.size, 0, none⟩) (by simp)).trans (by simp [World.cell?_alloc_new]))
    have k1 := cell_far (w := wr) (a := ⟨w.heap.size, 1, none⟩) (v := .int .i64 c0) (show w.heap.size < wr.heap.size by omega) ((hb1.cell (p := ⟨w.heap.size, 1, none⟩) (by simp)).trans (by simp [World.cell?_alloc_new]))
    by_cases hlt : m < xs.length
    · obtain ⟨b, off, r, c, rfl, hbl, hx1, hc0, hc1⟩ := (hx.below hb).dot (j := m) (by omega)
      have l0 := fun p => cell_far (p := p) hbl hc0
      have l1 := fun p => cell_far (p := p) hbl hc1
      clear hc0 hc1
      have HX1 := Lib.hid hx1; clear hx1
      by_cases hq : r = r0 ∧ c = c0
      · obtain ⟨rfl, rfl⟩ := hq
        go_wp2
        refine wp_region_far (by kernel_rfl) (by kernel_rfl) ?_
        repeat (go_big_quiet_step ((fail)))
        refine wpQuiet_nil ?_
        rintro _ ⟨p, rfl⟩
        go_wp2
        go_ret
        exact ⟨ret_bool (by simp [List.mem_of_getElem? HX1.out]), hb.trans ((below_far wr p).mono hb.size)⟩
      · have hnx : ∀ j, j < m + 1 → xs[j]? ≠ some (r0, c0) := fun j hj => by
          by_cases e : j = m
          · subst e; rw [HX1.out]; intro h; injection h with h; injection h with h1 h2; exact hq ⟨h1, h2⟩
          · exact hs.out j (by omega)
        have HNX := Lib.hid hnx; clear hnx
        by_cases hr : r = r0
        · have hc : ¬ c = c0 := fun h => hq ⟨hr, h⟩
          clear hq
          subst hr
          go_wp2
          refine wp_region_far (by kernel_rfl) (by kernel_rfl) ?_
          repeat (go_big_quiet_step ((fail)))
          refine wpQuiet_nil ?_
          rintro _ ⟨p, rfl⟩
          go_wp2
          go_roundw
          case rel => exact ⟨m + 1, by omega, by go_num, hb1.trans ((below_far wr p).mono hz), HNX⟩
          case measure => simp [intOf]; omega
        · clear hq
          go_wp2
          refine wp_region_far (by kernel_rfl) (by kernel_rfl) ?_
          repeat (go_big_quiet_step ((fail)))
          refine wpQuiet_nil ?_
          rintro _ ⟨p, rfl⟩
          go_wp2
          go_roundw
          case rel => exact ⟨m + 1, by omega, by go_num, hb1.trans ((below_far wr p).mono hz), HNX⟩
          case measure => simp [intOf]; omega
    · go_wp2
      go_ret
      refine ⟨ret_bool ?_, hb⟩
      have : ¬ (r0, c0) ∈ xs := fun h => by
        obtain ⟨j, hj⟩ := List.mem_iff_getElem?.1 h
        have hjl : j < xs.length := by
          rcases Nat.lt_or_ge j xs.length with h | h
          · exact h
          · rw [List.getElem?_eq_none h] at hj; cases hj
        exact hs.out j (by omega) hj
      simp [this]

end

section
open Go.RowKit

/-- The cells of a list of elements. -/
abbrev cellsOf {α : Type} (enc : α → List Value) (xs : List α) : List Value := xs.flatMap enc

theorem cellsOf_length {α : Type} {enc : α → List Value} {k : Nat} (hk : ∀ x, (enc x).length = k) (xs : List α) : (cellsOf enc xs).length = xs.length * k := by
  induction xs with
  | nil => simp
  | cons x r ih => simp only [cellsOf, List.flatMap_cons, List.length_append, hk, List.length_cons] at ih ⊢; rw [ih, Nat.add_mul]; omega

theorem cellsOf_get {α : Type} {enc : α → List Value} {k : Nat} (hk : ∀ x, (enc x).length = k) (hk0 : 0 < k) : ∀ (xs : List α) (t : Nat) (u : Value), (cellsOf enc xs)[t]? = some u → ∃ x, xs[t / k]? = some x ∧ (enc x)[t % k]? = some u
  | [], t, u, h => by simp at h
  | x :: r, t, u, h => by
    simp only [cellsOf, List.flatMap_cons] at h
    by_cases ht : t < k
    · rw [List.getElem?_append_left (by rw [hk]; exact ht)] at h
      rw [Nat.div_eq_of_lt ht, Nat.mod_eq_of_lt ht]
      exact ⟨x, rfl, h⟩
    · rw [List.getElem?_append_right (by rw [hk]; omega), hk] at h
      obtain ⟨y, h1, h2⟩ := cellsOf_get hk hk0 r (t - k) u h
      have e1 : t / k = (t - k) / k + 1 := by rw [Nat.div_eq_sub_div hk0 (by omega)]
      have e2 : t % k = (t - k) % k := by rw [Nat.mod_eq_sub_mod (by omega)]
      rw [e1, e2]
      exact ⟨y, by simpa using h1, h2⟩
theorem cellsOf_at {α : Type} {enc : α → List Value} {k : Nat} (hk : ∀ x, (enc x).length = k) : ∀ (xs : List α) (j : Nat) (x : α) (i : Nat) (u : Value), xs[j]? = some x → (enc x)[i]? = some u → (cellsOf enc xs)[j * k + i]? = some u
  | [], j, x, i, u, h, _ => by simp at h
  | y :: r, 0, x, i, u, h, hu => by
    simp at h; subst h
    have hi : i < (enc y).length := by
      rcases Nat.lt_or_ge i (enc y).length with h | h
      · exact h
      · rw [List.getElem?_eq_none h] at hu; cases hu
    simp only [cellsOf, List.flatMap_cons, Nat.zero_mul, Nat.zero_add]
    rw [List.getElem?_append_left hi]; exact hu
  | y :: r, j + 1, x, i, u, h, hu => by
    simp only [cellsOf, List.flatMap_cons]
    rw [List.getElem?_append_right (by rw [hk, Nat.add_mul]; omega), hk]
    have := cellsOf_at hk r j x i u (by simpa using h) hu
    rw [show (j + 1) * k + i - k = j * k + i by rw [Nat.add_mul]; omega]
    exact this

theorem Addr_add (b off t : Nat) : (⟨b, off, none⟩ : Addr).add t = ⟨b, off + t, none⟩ := by
  unfold Addr.add; split
  · subst_vars; rfl
  · rfl

/-- A slice that reads as a list has its cells in a row. -/
theorem SlAt.row {α : Type} {enc : α → List Value} {k : Nat} {w : World} {xs : List α} (hk : ∀ x, (enc x).length = k) (hk0 : 0 < k) {a : Addr} (h : SlAt enc k w (some a) xs) :
    ∀ t u, (cellsOf enc xs)[t]? = some u → w.cell? (a.add t) = some u := by
  intro t u hu
  obtain ⟨x, h1, h2⟩ := cellsOf_get hk hk0 xs t u hu
  have hn : 0 < xs.length := by
    rcases Nat.eq_zero_or_pos xs.length with h | h
    · rw [List.getElem?_eq_none (by rw [h]; exact Nat.zero_le _)] at h1; cases h1
    · exact h
  obtain ⟨b, off, e, _, hc⟩ := h hn
  cases e
  rw [Addr_add]
  have := hc (t / k) x h1 (t % k) u h2
  rw [Nat.add_assoc, Nat.div_add_mod'] at this
  exact this

/-- What a call owns reads as a list. -/
theorem SlAt.of_own {α : Type} {enc : α → List Value} {k : Nat} (hk : ∀ x, (enc x).length = k) {w : World} {base : Nat} {e : TypeId} {v : Value} {xs : List α} (h : w.ownsRow base e k v xs.length (cellsOf enc xs)) :
    ∃ A c, v = .slice A xs.length c ∧ xs.length ≤ c ∧ c ≤ maxLen ∧ SlAt enc k w A xs := by
  obtain ⟨h1, h2⟩ := h
  rcases h2 with ⟨rfl, h0⟩ | ⟨g, cap, cur, rfl, hb, hg, hn, hc, hs, ht⟩
  · refine ⟨none, 0, by rw [h0], by omega, by simp [maxLen], fun h => by omega⟩
  · refine ⟨_, _, rfl, hn, hc, fun hp => ⟨g, 0, rfl, (Array.getElem?_eq_some_iff.1 hg).1, fun j x hx i u hu => ?_⟩⟩
    have hcl := cellsOf_at hk xs j x i u hx hu
    rw [← ht, List.getElem?_take] at hcl
    rw [Nat.zero_add, cell_of_row w g _ cur e (0, 0) hg]
    split at hcl
    · simpa using hcl
    · cases hcl

section
variable {P : Program} (w : World) {α : Type} (enc : α → List Value) (k : Nat)

theorem run_append_nothing (base : Nat) (t ty e : TypeId) (i : TypeInfo) (ht : P.underlying t = some (.slice e)) (hi : P.info? e = some i)
    (v : Value) (n : Nat) (cs : List Value) (hown : w.ownsRow base e k v n cs) (c : Nat) : (Builtin.append_ #[t, t] ty #[v, .slice none 0 c]).run P w = .ok v w := by
  rcases hown.2 with ⟨rfl, rfl⟩ | ⟨g, cap, cur, rfl, _, _, hnc, _⟩ <;>
    simp [Builtin.append_, run_underlying ht, sizeOf, typeInfo, hi, Builtin.lenOf, Builtin.firstCells]
  simp [hnc, storeCells]

theorem run_append_sl (hk : ∀ x, (enc x).length = k) (hk0 : 0 < k) (h1 : ∀ x, ∀ u ∈ enc x, u.oneCell' = true)
    (base : Nat) (t ty e : TypeId) (i : TypeInfo) (z : Value) (bytes : Nat) (ht : P.underlying t = some (.slice e)) (hi : P.info? e = some i) (hz : i.zero = some z)
    (hsize : i.size = k) (hby : i.bytes = bytes) (hzs : z.cells.size = k)
    (v : Value) (ys : List α) (hown : w.ownsRow base e k v ys.length (cellsOf enc ys))
    (A : Option Addr) (c : Nat) (xs : List α) (hx : SlAt enc k w A xs)
    (h63 : ys.length + xs.length ≤ maxLen) (hbytes : (ys.length + xs.length) * bytes ≤ 140737488355328) (hbase : base ≤ w.heap.size) :
    ∃ v' w', (Builtin.append_ #[t, t] ty #[v, .slice A xs.length c]).run P w = .ok v' w' ∧ w'.ownsRow base e k v' (ys ++ xs).length (cellsOf enc (ys ++ xs)) ∧ w.grownBy w' v.ownBlock ∧ (v'.ownBlock = v.ownBlock ∨ v'.ownBlock = some w.heap.size) := by
  have he : cellsOf enc (ys ++ xs) = cellsOf enc ys ++ cellsOf enc xs := by simp [cellsOf]
  rw [he, List.length_append]
  match A with
  | none =>
    have h0 : xs = [] := by
      cases xs with
      | nil => rfl
      | cons x r => obtain ⟨_, _, h, _⟩ := hx (by simp); cases h
    subst h0
    exact ⟨v, w, run_append_nothing w k base t ty e i ht hi v _ _ hown c, by simpa using hown, World.grownBy.refl w _, .inl rfl⟩
  | some a =>
    obtain ⟨v', w', hr, h2, h3, _, h5⟩ := run_append_own_at (P := P) w base t ty e i z k bytes ht hi hz hsize hby hzs hk0 v ys.length (cellsOf enc ys) hown a xs.length c (cellsOf enc xs)
      (cellsOf_length hk xs) (hx.row hk hk0) (fun u hu => by obtain ⟨x, _, h⟩ := List.mem_flatMap.1 hu; exact h1 x u h) h63 hbytes hbase
    exact ⟨v', w', hr, h2, h3, h5⟩

theorem wp_append_sl {o : Oper} {a : Act} {K : Act → World → Prop} {Q : Exit → Act → World → Prop} (s x : Operand) (t : TypeId)
    (ho : o.op = .call { callee := .builtin .append, args := #[s, x], argTypes := #[t, t] })
    (hk : ∀ x, (enc x).length = k) (hk0 : 0 < k) (h1 : ∀ x, ∀ u ∈ enc x, u.oneCell' = true)
    (base : Nat) (e : TypeId) (i : TypeInfo) (z : Value) (bytes : Nat) (ht : P.underlying t = some (.slice e)) (hi : P.info? e = some i) (hz : i.zero = some z)
    (hsize : i.size = k) (hby : i.bytes = bytes) (hzs : z.cells.size = k)
    (v : Value) (ys : List α) (hs : a.eval s = v) (hown : w.ownsRow base e k v ys.length (cellsOf enc ys))
    (A : Option Addr) (n c : Nat) (xs : List α) (hxv : a.eval x = .slice A n c) (hn : n = xs.length) (hx : SlAt enc k w A xs)
    (h63 : ys.length + xs.length ≤ maxLen) (hbytes : (ys.length + xs.length) * bytes ≤ 140737488355328) (hbase : base ≤ w.heap.size)
    (h : ∀ v' w', w'.ownsRow base e k v' (ys ++ xs).length (cellsOf enc (ys ++ xs)) → w.grownBy w' v.ownBlock → (v'.ownBlock = v.ownBlock ∨ v'.ownBlock = some w.heap.size) → K (a.put o.dst v') w') : o.wp P a w K Q := by
  subst hn
  obtain ⟨v', w', hrun, h2, h3, h4⟩ := run_append_sl (P := P) w enc k hk hk0 h1 base t o.type e i z bytes ht hi hz hsize hby hzs v ys hown A c xs hx h63 hbytes hbase
  unfold Oper.wp execOp
  simp only [ho, resolve, invoke, builtin, Sem.run_bind, Sem.run_pure, Result.andThen_ok, List.map_toArray, List.map_cons, List.map_nil, hs, hxv, hrun]
  exact h v' w' h2 h3 h4

theorem wpList_append_sl {ops : Array Oper} {rest : List Oper} {o : Oper} {a : Act} {Q : Exit → Act → World → Prop} (hgd : o.guard = none) (s x : Operand) (t : TypeId)
    (ho : o.op = .call { callee := .builtin .append, args := #[s, x], argTypes := #[t, t] })
    (hk : ∀ x, (enc x).length = k) (hk0 : 0 < k) (h1 : ∀ x, ∀ u ∈ enc x, u.oneCell' = true)
    (base : Nat) (e : TypeId) (i : TypeInfo) (z : Value) (bytes : Nat) (ht : P.underlying t = some (.slice e)) (hi : P.info? e = some i) (hz : i.zero = some z)
    (hsize : i.size = k) (hby : i.bytes = bytes) (hzs : z.cells.size = k)
    (v : Value) (ys : List α) (hs : a.eval s = v) (hown : w.ownsRow base e k v ys.length (cellsOf enc ys))
    (A : Option Addr) (n c : Nat) (xs : List α) (hxv : a.eval x = .slice A n c) (hn : n = xs.length) (hx : SlAt enc k w A xs)
    (h63 : ys.length + xs.length ≤ maxLen) (hbytes : (ys.length + xs.length) * bytes ≤ 140737488355328) (hbase : base ≤ w.heap.size)
    (h : ∀ v' w', w'.ownsRow base e k v' (ys ++ xs).length (cellsOf enc (ys ++ xs)) → w.grownBy w' v.ownBlock → (v'.ownBlock = v.ownBlock ∨ v'.ownBlock = some w.heap.size) → wpList P ops Q rest (a.put o.dst v') w') : wpList P ops Q (o :: rest) a w :=
  wpList_plain hgd fun _ hK => wp_append_sl w enc k s x t ho hk hk0 h1 base e i z bytes ht hi hz hsize hby hzs v ys hs hown A n c xs hxv hn hx h63 hbytes hbase fun v' w' h2 h3 h4 => hK _ _ (h v' w' h2 h3 h4)

theorem step_append_sl {ops : Array Oper} {o : Oper} {a : Act} {K : Act → World → Prop} {Q : Exit → Act → World → Prop} {E : Prop} (hgd : o.guard = none) (s x : Operand) (t : TypeId)
    (ho : o.op = .call { callee := .builtin .append, args := #[s, x], argTypes := #[t, t] })
    (hk : ∀ x, (enc x).length = k) (hk0 : 0 < k) (h1 : ∀ x, ∀ u ∈ enc x, u.oneCell' = true)
    (base : Nat) (e : TypeId) (i : TypeInfo) (z : Value) (bytes : Nat) (ht : P.underlying t = some (.slice e)) (hi : P.info? e = some i) (hz : i.zero = some z)
    (hsize : i.size = k) (hby : i.bytes = bytes) (hzs : z.cells.size = k)
    (v : Value) (ys : List α) (hs : a.eval s = v) (hown : w.ownsRow base e k v ys.length (cellsOf enc ys))
    (A : Option Addr) (n c : Nat) (xs : List α) (hxv : a.eval x = .slice A n c) (hn : n = xs.length) (hx : SlAt enc k w A xs)
    (h63 : ys.length + xs.length ≤ maxLen) (hbytes : (ys.length + xs.length) * bytes ≤ 140737488355328) (hbase : base ≤ w.heap.size)
    (h : ∀ v' w', w'.ownsRow base e k v' (ys ++ xs).length (cellsOf enc (ys ++ xs)) → w.grownBy w' v.ownBlock → (v'.ownBlock = v.ownBlock ∨ v'.ownBlock = some w.heap.size) → K (a.put o.dst v') w') :
    if Region.wanted o (yielded ops a.tmps) = true then Oper.wp P o a w K Q else E := by
  have hw : Region.wanted o (yielded ops a.tmps) = true := by simp [Region.wanted, hgd]
  rw [if_pos hw]
  exact wp_append_sl w enc k s x t ho hk hk0 h1 base e i z bytes ht hi hz hsize hby hzs v ys hs hown A n c xs hxv hn hx h63 hbytes hbase h
end

end

end Go.Proofs.YtiaehpdgpjhecaaGreat
