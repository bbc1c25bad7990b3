/- Several texts in one: Base, DotA, DotB. -/
import Derived.Test.YtfjbocipjmpogaaGreatRows
import Derived.WalkKit
import Derived.WalkSpells
import Derived.WalkLawsBesides
import Derived.Lib.Hide
import Derived.Deep.QuietTactic
import Derived.BigQuiet
import Derived.Deep.RegionHeld3
import Derived.Deep.DeepCutAuto
import Derived.Sort.Grow
namespace Go.Proofs.YtfjbocipjmpogaaGreat

section
open Go.RowKit

/-- How far a world is from w: the count of draws, the blocks laid behind. -/
structure FarBy where
  n : Nat
  os : Array Obj
  deriving Inhabited

/-- w with another count of draws and with blocks laid behind its heap. -/
def far (w : World) (p : FarBy) : World := { w with heap := w.heap ++ p.os, drawn := p.n }

theorem far_self (w : World) : far w ⟨w.drawn, #[]⟩ = w := by simp [far]
theorem far_drew (w : World) : far w ⟨w.drawn + 1, #[]⟩ = w.drew := by
  cases w; simp only [far, World.drew, Array.append_empty]
theorem size_far (w : World) (p : FarBy) : (far w p).heap.size = w.heap.size + p.os.size := by simp [far]

theorem block_far (w : World) (p : FarBy) {k : Nat} (h : k < w.heap.size) : (far w p).heap[k]? = w.heap[k]? := by
  simp [far, Array.getElem?_append, h]
theorem cell_far {w : World} {a : Addr} {v : Value} (hb : a.block < w.heap.size) (h : w.cell? a = some v) (p : FarBy) : (far w p).cell? a = some v := by
  rw [← h]; exact World.cell?_of_block (w := w) (block_far w p hb)

theorem below_far (w : World) (p : FarBy) : Below w.heap.size w (far w p) :=
  ⟨rfl, rfl, rfl, by rw [size_far]; omega, fun _ hk => block_far w p hk⟩
theorem far_of_below {w w' : World} (h : Below w.heap.size w w') : ∃ p : FarBy, w' = far w p := by
  refine ⟨⟨w'.drawn, w'.heap.extract w.heap.size w'.heap.size⟩, ?_⟩
  obtain ⟨h1, h2, h3, h4, h5⟩ := h
  have hh : w'.heap = w.heap ++ w'.heap.extract w.heap.size w'.heap.size := by
    apply Array.ext_getElem?
    intro k
    rw [Array.getElem?_append]
    by_cases hk : k < w.heap.size
    · rw [if_pos hk, h5 k hk]
    · rw [if_neg hk, Array.getElem?_extract]
      by_cases hk2 : k < w'.heap.size
      · rw [if_pos (by omega)]; congr 1; omega
      · rw [if_neg (by omega), Array.getElem?_eq_none (by omega)]
  cases w'; cases w
  simp only [far, World.mk.injEq] at *
  exact ⟨hh, h2, trivial, h1, h3⟩

theorem below_trans {a b c : World} (h : Below a.heap.size a b) (k : Below b.heap.size b c) : Below a.heap.size a c := h.trans (k.mono h.size)

/-- What is behind a call that leaves what was there: two rules for the walk. -/
theorem bcell {W w1 : World} (hb : Below W.heap.size W w1) : (∀ b o, b < W.heap.size → w1.cell? ⟨b, o, none⟩ = W.cell? ⟨b, o, none⟩) ∧ (∀ b o, b < W.heap.size → w1.frozen? ⟨b, o, none⟩ = W.frozen? ⟨b, o, none⟩) :=
  ⟨fun b o h => hb.cell (p := ⟨b, o, none⟩) h, fun b o h => hb.frozen (p := ⟨b, o, none⟩) h⟩

/-- A callee's contract, met in a world of the class. -/
theorem far_of {P : Program} {f : FuncId} {args : Array Value} {w : World} {p : FarBy} {v : Value}
    (h : Calls P f args (far w p) fun e w' => e = .returned v ∧ Below (far w p).heap.size (far w p) w') :
    Calls P f args (far w p) fun e w'' => e = .returned v ∧ ∃ q : FarBy, w'' = far w q :=
  h.mono fun _ _ ⟨he, hb⟩ => ⟨he, far_of_below (below_trans (below_far w p) hb)⟩
theorem far_of_same {P : Program} {f : FuncId} {args : Array Value} {w : World} {p : FarBy} {v : Value}
    (h : Calls P f args (far w p) fun e w' => e = .returned v ∧ far w p = w') :
    Calls P f args (far w p) fun e w'' => e = .returned v ∧ ∃ q : FarBy, w'' = far w q :=
  h.mono fun _ _ ⟨he, hb⟩ => ⟨he, p, hb.symm⟩

/-- A region that draws its order, whose operations only read, and whose callees leave what was there as it was: one walk. -/
theorem wp_region_far {P : Program} {id : Nat} {Q : Exit → Act → World → Prop} {a : Act} {w : World} {l : List Oper} (hm : P.follows .mixedOrders = true) (hB : Region.lexB .any l.toArray = true)
    (h : wpQuiet P l.toArray (fun w' => ∃ p : FarBy, w' = far w p) (fun a' => ∀ w', (∃ p : FarBy, w' = far w p) → Q .normal a' w') l a) : (Code.region id l.toArray true).wp P Q a w :=
  wp_region_quiet (C := fun w' => ∃ p : FarBy, w' = far w p) hm hB ⟨⟨w.drawn + 1, #[]⟩, (far_drew w).symm⟩ (by simpa using h)

/-- The address A, with n elements of k cells behind it, reads as the list xs. -/
def SlAt {α : Type} (enc : α → List Value) (k : Nat) (w : World) (A : Option Addr) (xs : List α) : Prop :=
  0 < xs.length → ∃ b off, A = some ⟨b, off, none⟩ ∧ b < w.heap.size ∧ ∀ j x, xs[j]? = some x → ∀ i u, (enc x)[i]? = some u → w.cell? ⟨b, off + j * k + i, none⟩ = some u

theorem SlAt.below {α : Type} {enc : α → List Value} {k : Nat} {w w' : World} {A : Option Addr} {xs : List α} (h : SlAt enc k w A xs) (hb : Below w.heap.size w w') : SlAt enc k w' A xs := fun hn => by
  obtain ⟨b, off, rfl, hlt, hc⟩ := h hn
  exact ⟨b, off, rfl, Nat.lt_of_lt_of_le hlt hb.size, fun j x hx i u hu => (hb.cell (p := ⟨b, off + j * k + i, none⟩) hlt).trans (hc j x hx i u hu)⟩
theorem SlAt.far {α : Type} {enc : α → List Value} {k : Nat} {w : World} {A : Option Addr} {xs : List α} (h : SlAt enc k w A xs) (p : FarBy) : SlAt enc k (far w p) A xs := h.below (below_far w p)
theorem SlAt.nil {α : Type} {enc : α → List Value} {k : Nat} {w : World} {A : Option Addr} : SlAt enc k w A ([] : List α) := fun h => absurd h (by simp)

/-- A dot's two cells. -/
abbrev encD (d : Int × Int) : List Value := [.int .i64 d.1, .int .i64 d.2]
abbrev DotsAt (w : World) (A : Option Addr) (xs : List (Int × Int)) : Prop := SlAt encD 2 w A xs

theorem SlAt.dot {w : World} {A : Option Addr} {xs : List (Int × Int)} (h : DotsAt w A xs) {j : Nat} (hj : j < xs.length) :
    ∃ b off r c, A = some ⟨b, off, none⟩ ∧ b < w.heap.size ∧ xs[j]? = some (r, c) ∧ w.cell? ⟨b, off + j * 2, none⟩ = some (.int .i64 r) ∧ w.cell? ⟨b, off + j * 2 + 1, none⟩ = some (.int .i64 c) := by
  obtain ⟨b, off, rfl, hb, hc⟩ := h (by omega)
  have hx := List.getElem?_eq_getElem hj
  exact ⟨b, off, xs[j].1, xs[j].2, rfl, hb, hx, by simpa using hc j _ hx 0 _ rfl, hc j _ hx 1 _ rfl⟩

end

section
open Go.RowKit

/-- Which dots are valid. -/
def validD (r c : Int) : Bool := decide (1 ≤ r ∧ r ≤ 65535 ∧ 1 ≤ c ∧ c ≤ 4294967295)
/-- One dot comes before another one. -/
def lessD (r c r' c' : Int) : Bool := decide (c < c' ∨ c = c' ∧ r < r')
/-- The order of two dots. -/
def cmpD (r c r' c' : Int) : Int := if lessD r c r' c' then -1 else if lessD r' c' r c then 1 else 0
/-- The order of two numbers. -/
def cmpI (a b : Int) : Int := if a < b then -1 else if b < a then 1 else 0

theorem ret_bool {a b : Bool} (h : a = b) : Ending.returned (.bool a) = .returned (.bool b) := by rw [h]
theorem ret_int {k : IntKind} {a b : Int} (h : a = b) : Ending.returned (.int k a) = .returned (.int k b) := by rw [h]

set_option maxHeartbeats 400000 in
theorem dotValid (r c : Int) (w : World) :
    Calls Tryz.prog 98 #[.agg #[.int .i64 r, .int .i64 c]] w fun e w' => e = .returned (.bool (validD r c)) ∧ Below w.heap.size w w' := by
  go_enter Tryz.func98, Tryz.ntmps98
  go_wp2
  all_goals
    go_ret
    refine ⟨ret_bool ?_, (Below.refl _ _).alloc (Nat.le_refl _) _⟩
    rw [Bool.eq_iff_iff]
    simp [validD, *]
    try omega

set_option maxHeartbeats 400000 in
theorem refValid (r c : Int) (w : World) :
    Calls Tryz.prog 101 #[.agg #[.int .i64 r, .int .i64 c]] w fun e w' => e = .returned (.bool (validD r c)) ∧ Below w.heap.size w w' := by
  go_enter Tryz.func101, Tryz.ntmps101
  go_wp2
  all_goals
    go_ret
    refine ⟨ret_bool ?_, (Below.refl _ _).alloc (Nat.le_refl _) _⟩
    rw [Bool.eq_iff_iff]
    simp [validD, *]
    try omega

set_option maxHeartbeats 400000 in
theorem refLess (r c r' c' : Int) (w : World) :
    Calls Tryz.prog 109 #[.agg #[.int .i64 r, .int .i64 c], .agg #[.int .i64 r', .int .i64 c']] w fun e w' => e = .returned (.bool (lessD r c r' c')) ∧ Below w.heap.size w w' := by
  go_enter Tryz.func109, Tryz.ntmps109
  go_wp2
  all_goals
    go_ret
    refine ⟨ret_bool ?_, ((Below.refl _ _).alloc (Nat.le_refl _) _).alloc (by simp) _⟩
  · have h : (c != c') = true := by assumption
    simp [lessD] at h ⊢
    intro h'; exact absurd h' h
  · have h : (c != c') = false := by assumption
    simp at h
    simp [lessD, h]

set_option maxHeartbeats 400000 in
theorem cmpIsNaN (a : Int) (w : World) :
    Calls Tryz.prog 155 #[.int .i64 a] w fun e w' => e = .returned (.bool false) ∧ w = w' := by
  go_enter Tryz.func155, Tryz.ntmps155
  go_wp2
  go_ret
  simp

set_option maxHeartbeats 400000 in
theorem cmpCompare (a b : Int) (w : World) :
    Calls Tryz.prog 121 #[.int .i64 a, .int .i64 b] w fun e w' => e = .returned (.int .i64 (cmpI a b)) ∧ w = w' := by
  go_enter Tryz.func121, Tryz.ntmps121
  go_wp2_with (go_at_call 155; refine (cmpIsNaN _ _).mono ?_; rintro e w' ⟨rfl, rfl⟩)
  all_goals
    go_ret
    refine ⟨ret_int ?_, rfl⟩
  · have : a < b := by assumption
    simp [cmpI, this]
  · have h1 : b ≤ a := by assumption
    have h2 : b < a := by assumption
    simp [cmpI, h2, Int.not_lt.2 h1]
  · have h1 : b ≤ a := by assumption
    have h2 : a ≤ b := by assumption
    simp [cmpI, Int.not_lt.2 h1, Int.not_lt.2 h2]

/-- The first of two numbers that is not 0. -/
def orI (x y : Int) : Int := if x = 0 then y else x

set_option maxHeartbeats 400000 in
theorem cmpOr (b : Nat) (cap : Nat) (x y : Int) (w : World) (h0 : w.cell? ⟨b, 0, none⟩ = some (.int .i64 x)) (h1 : w.cell? ⟨b, 1, none⟩ = some (.int .i64 y)) :
    Calls Tryz.prog 79 #[.slice (some ⟨b, 0, none⟩) 2 cap] w fun e w' => e = .returned (.int .i64 (orI x y)) ∧ w = w' := by
  by_cases hx : x = 0
  · have hx' : (x != 0) = false := by simp [hx]
    by_cases hy : y = 0
    · have hy' : (y != 0) = false := by simp [hy]
      have HX := Lib.hid hx; clear hx
      have HY := Lib.hid hy; clear hy
      go_enter Tryz.func79, Tryz.ntmps79
      go_wp2
      refine wp_loop_rounds 3 ?_
      rw [rounds_succ]
      go_wp2
      rw [rounds_succ]
      go_wp2
      rw [rounds_succ]
      go_wp2
      go_ret
      exact ⟨by simp [orI, HX.out, HY.out], rfl⟩
    · have hy' : (y != 0) = true := by simp [hy]
      have HX := Lib.hid hx; clear hx
      have HY := Lib.hid hy; clear hy
      go_enter Tryz.func79, Tryz.ntmps79
      go_wp2
      refine wp_loop_rounds 2 ?_
      rw [rounds_succ]
      go_wp2
      rw [rounds_succ]
      go_wp2
      go_ret
      exact ⟨by simp [orI, HX.out], rfl⟩
  · have hx' : (x != 0) = true := by simp [hx]
    have HX := Lib.hid hx; clear hx
    go_enter Tryz.func79, Tryz.ntmps79
    go_wp2
    refine wp_loop_rounds 1 ?_
    rw [rounds_succ]
    go_wp2
    go_ret
    exact ⟨by simp [orI, HX.out], rfl⟩

theorem below_grow (w : World) (n : Nat) (os : Array Obj) : Below w.heap.size w (Sort.grow (w.drewN n) os) :=
  ⟨rfl, rfl, rfl, by simp, fun k hk => by rw [Sort.heap_grow_old _ _ (by exact hk)]; rfl⟩

theorem cmpD_or (r c r' c' : Int) : orI (cmpI c c') (cmpI r r') = cmpD r c r' c' := by
  unfold orI cmpI cmpD lessD
  by_cases h1 : c < c'
  · simp [h1]
  · by_cases h2 : c' < c
    · have : ¬ c = c' := by omega
      simp [h1, h2, this]
    · have : c = c' := by omega
      subst this
      simp

set_option maxHeartbeats 400000 in
theorem dotCompareG (r c r' c' : Int) (w : World) :
    Calls Tryz.prog 76 #[.agg #[.int .i64 r, .int .i64 c], .agg #[.int .i64 r', .int .i64 c']] w fun e w' => e = .returned (.int .i64 (cmpD r c r' c')) ∧ ∃ q os', w' = Sort.grow (w.drewN q) os' := by
  go_enter Tryz.func76, Tryz.ntmps76
  go_wp2
  go_region_held3 (fun w' => w'.cell? ⟨w.heap.size, 0, none⟩ = some (.int .i64 r) ∧ w'.cell? ⟨w.heap.size, 1, none⟩ = some (.int .i64 c) ∧ w'.cell? ⟨w.heap.size + 1, 0, none⟩ = some (.int .i64 r') ∧ w'.cell? ⟨w.heap.size + 1, 1, none⟩ = some (.int .i64 c')) (go_keep)
    (first
      | (go_at_call 121; refine (cmpCompare _ _ _).mono ?_; rintro e w' ⟨rfl, rfl⟩)
      | (go_at_call 79; refine (cmpOr _ _ (cmpI c c') (cmpI r r') _ (by go_simp) (by go_simp)).mono ?_; rintro e w' ⟨rfl, rfl⟩))
  go_wp2
  go_ret
  exact ⟨ret_int (cmpD_or r c r' c'), 1, _, by rw [Sort.alloc_eq_grow, Sort.alloc_eq_grow, Sort.alloc_eq_grow, Sort.grow_grow, Sort.grow_grow]; rfl⟩

theorem dotCompare (r c r' c' : Int) (w : World) :
    Calls Tryz.prog 76 #[.agg #[.int .i64 r, .int .i64 c], .agg #[.int .i64 r', .int .i64 c']] w fun e w' => e = .returned (.int .i64 (cmpD r c r' c')) ∧ Below w.heap.size w w' :=
  (dotCompareG r c r' c' w).mono fun _ _ ⟨he, q, os, hw⟩ => ⟨he, by rw [hw]; exact below_grow w q os⟩

end

section
open Go.RowKit

/-- A list in increasing order, each dot once: each one is before the next one. -/
def isSetL (xs : List (Int × Int)) (k : Nat) : Prop := ∀ j p q, j + 1 < k → xs[j]? = some p → xs[j + 1]? = some q → lessD p.1 p.2 q.1 q.2 = true

theorem isSetL_step {xs : List (Int × Int)} {m : Nat} {p q : Int × Int} (h : isSetL xs (m + 1)) (hp : xs[m]? = some p) (hq : xs[m + 1]? = some q) (hl : lessD p.1 p.2 q.1 q.2 = true) : isSetL xs (m + 1 + 1) := by
  intro j p' q' hj h1 h2
  by_cases e : j = m
  · subst e
    rw [hp] at h1; rw [hq] at h2
    cases h1; cases h2
    exact hl
  · exact h j p' q' (by omega) h1 h2
theorem isSetL_no {xs : List (Int × Int)} {m : Nat} {p q : Int × Int} (hm : m + 1 < xs.length) (hp : xs[m]? = some p) (hq : xs[m + 1]? = some q) (hl : lessD p.1 p.2 q.1 q.2 = false) : ¬ isSetL xs xs.length := fun h => by
  have := h m p q hm hp hq
  rw [hl] at this; cases this

/-- Whether a list is a set. -/
def isSetB : List (Int × Int) → Bool
  | [] => true
  | [_] => true
  | p :: q :: r => lessD p.1 p.2 q.1 q.2 && isSetB (q :: r)
theorem isSetB_iff : ∀ xs : List (Int × Int), isSetB xs = true ↔ isSetL xs xs.length
  | [] => ⟨fun _ j p q h => by simp at h, fun _ => rfl⟩
  | [_] => ⟨fun _ j p q h => by simp at h, fun _ => rfl⟩
  | p :: q :: r => by
    rw [isSetB, Bool.and_eq_true, isSetB_iff (q :: r)]
    constructor
    · rintro ⟨h1, h2⟩ j p' q' hj h3 h4
      match j with
      | 0 => simp at h3 h4; subst h3; subst h4; exact h1
      | j + 1 => exact h2 j p' q' (by simp at hj ⊢; omega) (by simpa using h3) (by simpa using h4)
    · intro h
      exact ⟨h 0 p q (by simp) rfl rfl, fun j p' q' hj h3 h4 => h (j + 1) p' q' (by simp at hj ⊢; omega) (by simpa using h3) (by simpa using h4)⟩
theorem isSetB_yes {xs : List (Int × Int)} (h : isSetL xs xs.length) : isSetB xs = true := (isSetB_iff xs).2 h
theorem isSetB_no {xs : List (Int × Int)} (h : ¬ isSetL xs xs.length) : isSetB xs = false := by
  cases e : isSetB xs
  · rfl
  · exact absurd ((isSetB_iff xs).1 e) h

set_option maxHeartbeats 400000 in
theorem refIsSet (A : Option Addr) (xs : List (Int × Int)) (cap : Nat) (w : World) (hx : DotsAt w A xs) (hm : xs.length ≤ maxLen) :
    Calls Tryz.prog 103 #[.slice A xs.length cap] w fun e w' => e = .returned (.bool (isSetB xs)) ∧ Below w.heap.size w w' := by
  unfold maxLen at hm
  go_enter Tryz.func103, Tryz.ntmps103
  go_wp2
  go_loopw [3] (fun i wr => ∃ m : Nat, m + 1 ≤ max xs.length 1 ∧ i = .int .i64 ((m : Int) + 1) ∧ Below w.heap.size w wr ∧ Hid (isSetL xs (m + 1))) (fun i _ => xs.length - (intOf i).toNat)
  case atStart => exact ⟨0, by omega, rfl, Below.refl _ _, fun j p q h => by omega⟩
  case round =>
    obtain ⟨m, hk2, rfl, hb, hs⟩ := hrel
    by_cases hlt : m + 1 < xs.length
    · obtain ⟨b, off, r, c, rfl, hbl, hx1, hc0, hc1⟩ := (hx.below hb).dot (j := m) (by omega)
      obtain ⟨_, _, r', c', ho, _, hx2, hd0, hd1⟩ := (hx.below hb).dot (j := m + 1) hlt
      cases ho
      have hr := fun W => refLess r c r' c' W
      have l0 := fun p => cell_far (p := p) hbl hc0
      have l1 := fun p => cell_far (p := p) hbl hc1
      have l2 := fun p => cell_far (p := p) hbl hd0
      have l3 := fun p => cell_far (p := p) hbl hd1
      clear hc0 hc1 hd0 hd1
      have HX1 := Lib.hid hx1; clear hx1
      have HX2 := Lib.hid hx2; clear hx2
      cases hq : lessD r c r' c'
      · rw [hq] at hr
        have HR := Lib.hid hr; clear hr
        have HQ := Lib.hid hq; clear hq
        go_wp2
        refine wp_region_far (by kernel_rfl) (by kernel_rfl) ?_
        repeat (go_big_quiet_step ((go_at_call 109; exact far_of (HR.out _))))
        refine wpQuiet_nil ?_
        rintro _ ⟨p, rfl⟩
        go_wp2
        go_ret
        exact ⟨ret_bool (isSetB_no (isSetL_no hlt HX1.out HX2.out HQ.out)).symm, hb.trans ((below_far wr p).mono hb.size)⟩
      · rw [hq] at hr
        have HR := Lib.hid hr; clear hr
        have HQ := Lib.hid hq; clear hq
        go_wp2
        refine wp_region_far (by kernel_rfl) (by kernel_rfl) ?_
        repeat (go_big_quiet_step ((go_at_call 109; exact far_of (HR.out _))))
        refine wpQuiet_nil ?_
        rintro _ ⟨p, rfl⟩
        go_wp2
        go_roundw
        case rel => exact ⟨m + 1, by omega, by go_num, hb.trans ((below_far wr p).mono hb.size), isSetL_step hs.out HX1.out HX2.out HQ.out⟩
        case measure => simp [intOf]; omega
    · go_wp2
      go_ret
      refine ⟨ret_bool (isSetB_yes ?_).symm, hb⟩
      intro j p q hj
      exact hs.out j p q (by omega)

set_option maxHeartbeats 400000 in
theorem dotIsSet (A : Option Addr) (xs : List (Int × Int)) (cap : Nat) (w : World) (hx : DotsAt w A xs) (hm : xs.length ≤ maxLen) :
    Calls Tryz.prog 111 #[.slice A xs.length cap] w fun e w' => e = .returned (.bool (isSetB xs)) ∧ Below w.heap.size w w' := by
  unfold maxLen at hm
  go_enter Tryz.func111, Tryz.ntmps111
  go_wp2
  go_loopw [3] (fun i wr => ∃ m : Nat, m + 1 ≤ max xs.length 1 ∧ i = .int .i64 ((m : Int) + 1) ∧ Below w.heap.size w wr ∧ Hid (isSetL xs (m + 1))) (fun i _ => xs.length - (intOf i).toNat)
  case atStart => exact ⟨0, by omega, rfl, Below.refl _ _, fun j p q h => by omega⟩
  case round =>
    obtain ⟨m, hk2, rfl, hb, hs⟩ := hrel
    by_cases hlt : m + 1 < xs.length
    · obtain ⟨b, off, r, c, rfl, hbl, hx1, hc0, hc1⟩ := (hx.below hb).dot (j := m) (by omega)
      obtain ⟨_, _, r', c', ho, _, hx2, hd0, hd1⟩ := (hx.below hb).dot (j := m + 1) hlt
      cases ho
      have hr := fun W => dotCompare r c r' c' W
      have l0 := fun p => cell_far (p := p) hbl hc0
      have l1 := fun p => cell_far (p := p) hbl hc1
      have l2 := fun p => cell_far (p := p) hbl hd0
      have l3 := fun p => cell_far (p := p) hbl hd1
      clear hc0 hc1 hd0 hd1
      have HX1 := Lib.hid hx1; clear hx1
      have HX2 := Lib.hid hx2; clear hx2
      have hv : (lessD r c r' c' = true ∧ cmpD r c r' c' < 0) ∨ (lessD r c r' c' = false ∧ 0 ≤ cmpD r c r' c') := by
        unfold cmpD; cases lessD r c r' c' <;> simp; split <;> simp
      generalize cmpD r c r' c' = v at hr hv
      have HR := Lib.hid hr; clear hr
      rcases hv with ⟨hq, hv⟩ | ⟨hq, hv⟩
      · have HQ := Lib.hid hq; clear hq
        go_wp2
        refine wp_region_far (by kernel_rfl) (by kernel_rfl) ?_
        repeat (go_big_quiet_step ((go_at_call 76; exact far_of (HR.out _))))
        refine wpQuiet_nil ?_
        rintro _ ⟨p, rfl⟩
        go_wp2
        go_roundw
        case rel => exact ⟨m + 1, by omega, by go_num, hb.trans ((below_far wr p).mono hb.size), isSetL_step hs.out HX1.out HX2.out HQ.out⟩
        case measure => simp [intOf]; omega
      · have HQ := Lib.hid hq; clear hq
        go_wp2
        refine wp_region_far (by kernel_rfl) (by kernel_rfl) ?_
        repeat (go_big_quiet_step ((go_at_call 76; exact far_of (HR.out _))))
        refine wpQuiet_nil ?_
        rintro _ ⟨p, rfl⟩
        go_wp2
        go_ret
        exact ⟨ret_bool (isSetB_no (isSetL_no hlt HX1.out HX2.out HQ.out)).symm, hb.trans ((below_far wr p).mono hb.size)⟩
    · go_wp2
      go_ret
      refine ⟨ret_bool (isSetB_yes ?_).symm, hb⟩
      intro j p q hj
      exact hs.out j p q (by omega)

/-- '==' and '!=' of two dots. -/
theorem eqlDot : ∀ (r c r' c' : Int) (w : World), (binOp .eql 51 (.agg #[.int .i64 r, .int .i64 c]) (.agg #[.int .i64 r', .int .i64 c'])).run Tryz.prog w = .ok (.bool (r == r' && c == c')) w := by
  intro r c r' c' w
  have hS : Tryz.prog.underlying 51 = some (.struct (Tryz.prog.fieldsOf 51)) := by kernel_rfl
  have hp : Tryz.prog.stoodInHeld 51 = false := by kernel_rfl
  rw [run_eql_struct, show (10000 : Nat) = 9999 + 1 from rfl, run_equalIn_agg w 9999 51 _ _ hS hp]
  simp only [Program.fieldsOf, Tryz.underlying51]
  go_simp
  by_cases h1 : r = r' <;> by_cases h2 : c = c' <;> simp [h1, h2]

theorem neqDot : ∀ (r c r' c' : Int) (w : World), (binOp .neq 51 (.agg #[.int .i64 r, .int .i64 c]) (.agg #[.int .i64 r', .int .i64 c'])).run Tryz.prog w = .ok (.bool (!(r == r' && c == c'))) w := by
  intro r c r' c' w
  have hS : Tryz.prog.underlying 51 = some (.struct (Tryz.prog.fieldsOf 51)) := by kernel_rfl
  have hp : Tryz.prog.stoodInHeld 51 = false := by kernel_rfl
  rw [run_neq_struct, show (10000 : Nat) = 9999 + 1 from rfl, run_equalIn_agg w 9999 51 _ _ hS hp]
  simp only [Program.fieldsOf, Tryz.underlying51]
  go_simp
  by_cases h1 : r = r' <;> by_cases h2 : c = c' <;> simp [h1, h2]

/-- The first k elements of both lists are the same. -/
def SameTo (xs ys : List (Int × Int)) (k : Nat) : Prop := ∀ j, j < k → xs[j]? = ys[j]?

set_option maxHeartbeats 400000 in
theorem refSame (A B : Option Addr) (xs ys : List (Int × Int)) (cap cap' : Nat) (w : World) (hx : DotsAt w A xs) (hy : DotsAt w B ys) (hm : xs.length ≤ maxLen) (_ : ys.length ≤ maxLen) :
    Calls Tryz.prog 83 #[.slice A xs.length cap, .slice B ys.length cap'] w fun e w' => e = .returned (.bool (decide (xs = ys))) ∧ Below w.heap.size w w' := by
  unfold maxLen at hm
  by_cases hl : xs.length = ys.length
  · have hl' : ((xs.length : Int) != (ys.length : Int)) = false := by simp [hl]
    have HL := Lib.hid hl; clear hl
    go_enter Tryz.func83, Tryz.ntmps83
    go_wp2
    go_loopw [5] (fun i wr => ∃ m : Nat, m ≤ xs.length ∧ i = .int .i64 m ∧ Below w.heap.size w wr ∧ Hid (SameTo xs ys m)) (fun i _ => xs.length - (intOf i).toNat)
    case atStart => exact ⟨0, by omega, rfl, Below.refl _ _, fun j h => by omega⟩
    case round =>
      obtain ⟨m, hk2, rfl, hb, hs⟩ := hrel
      by_cases hlt : m < xs.length
      · obtain ⟨b, off, r, c, rfl, hbl, hx1, hc0, hc1⟩ := (hx.below hb).dot (j := m) (by omega)
        obtain ⟨b', off', r', c', rfl, hbl', hx2, hd0, hd1⟩ := (hy.below hb).dot (j := m) (by have := HL.out; omega)
        have hlt2 : m < ys.length := by have := HL.out; omega
        have l0 := fun p => cell_far (p := p) hbl hc0
        have l1 := fun p => cell_far (p := p) hbl hc1
        have l2 := fun p => cell_far (p := p) hbl' hd0
        have l3 := fun p => cell_far (p := p) hbl' hd1
        clear hc0 hc1 hd0 hd1
        have HX1 := Lib.hid hx1; clear hx1
        have HX2 := Lib.hid hx2; clear hx2
        by_cases hq : r = r' ∧ c = c'
        · obtain ⟨rfl, rfl⟩ := hq
          go_wp2
          refine wp_region_far (by kernel_rfl) (by kernel_rfl) ?_
          repeat (go_big_quiet_step ((fail)))
          refine wpQuiet_nil ?_
          rintro _ ⟨p, rfl⟩
          go_wp2
          go_roundw
          case rel => 
            refine ⟨m + 1, by omega, by go_num, hb.trans ((below_far wr p).mono hb.size), (show Hid _ from fun j hj => ?_)⟩
            by_cases e : j = m
            · subst e; rw [HX1.out, HX2.out]
            · exact hs.out j (by omega)
          case measure => simp [intOf]; omega
        · have hne : ¬ xs = ys := fun e => by
            have h1 := HX1.out
            have h2 := HX2.out
            rw [e, h2] at h1
            cases h1
            exact hq ⟨rfl, rfl⟩
          have HN := Lib.hid hne; clear hne
          by_cases hr : r = r'
          · by_cases hc : c = c'
            · exact absurd ⟨hr, hc⟩ hq
            · clear hq
              subst hr
              go_wp2
              refine wp_region_far (by kernel_rfl) (by kernel_rfl) ?_
              repeat (go_big_quiet_step ((fail)))
              refine wpQuiet_nil ?_
              rintro _ ⟨p, rfl⟩
              go_wp2
              go_ret
              exact ⟨ret_bool (by simp [HN.out]), hb.trans ((below_far wr p).mono hb.size)⟩
          · clear hq
            go_wp2
            refine wp_region_far (by kernel_rfl) (by kernel_rfl) ?_
            repeat (go_big_quiet_step ((fail)))
            refine wpQuiet_nil ?_
            rintro _ ⟨p, rfl⟩
            go_wp2
            go_ret
            exact ⟨ret_bool (by simp [HN.out]), hb.trans ((below_far wr p).mono hb.size)⟩
      · go_wp2
        go_ret
        refine ⟨ret_bool ?_, hb⟩
        have : xs = ys := List.ext_getElem? fun j => by
          by_cases e : j < m
          · exact hs.out j e
          · have := HL.out
            rw [List.getElem?_eq_none (by omega), List.getElem?_eq_none (by omega)]
        simp [this]
  · have hl' : ((xs.length : Int) != (ys.length : Int)) = true := by
      simp only [bne_iff_ne]
      omega
    have HL := Lib.hid hl; clear hl
    go_enter Tryz.func83, Tryz.ntmps83
    go_wp2
    go_ret
    refine ⟨ret_bool ?_, Below.refl _ _⟩
    have : ¬ xs = ys := fun e => HL.out (by rw [e])
    simp [this]

set_option maxHeartbeats 400000 in
theorem refHas (A : Option Addr) (xs : List (Int × Int)) (cap : Nat) (r0 c0 : Int) (w : World) (hx : DotsAt w A xs) (hm : xs.length ≤ maxLen) :
    Calls Tryz.prog 108 #[.slice A xs.length cap, .agg #[.int .i64 r0, .int .i64 c0]] w fun e w' => e = .returned (.bool (decide ((r0, c0) ∈ xs))) ∧ Below w.heap.size w w' := by
  unfold maxLen at hm
  go_enter Tryz.func108, Tryz.ntmps108
  go_wp2
  go_loopw [5] (fun i wr => ∃ m : Nat, m ≤ xs.length ∧ i = .int .i64 m ∧ Below (w.heap.size + 1) (w.alloc (.cells #[.int .i64 r0, .int .i64 c0] 51)) wr ∧ Hid (∀ j, j < m → xs[j]? ≠ some (r0, c0))) (fun i _ => xs.length - (intOf i).toNat)
  case atStart => exact ⟨0, by omega, rfl, Below.refl _ _, fun j h => by omega⟩
  case round =>
    obtain ⟨m, hk2, rfl, hb1, hs⟩ := hrel
    have hb : Below w.heap.size w wr := ((Below.refl _ w).alloc (Nat.le_refl _) _).trans (hb1.mono (by omega))
    have hz : w.heap.size + 1 ≤ wr.heap.size := by have := hb1.size; simpa using this
    have k0 := cell_far (w := wr) (a := ⟨w.heap.size, 0, none⟩) (v := .int .i64 r0) (show w.heap.size < wr.heap.size by omega) ((hb1.cell (p := ⟨w.heap.size, 0, none⟩) (by simp)).trans (by simp [World.cell?_alloc_new]))
    have k1 := cell_far (w := wr) (a := ⟨w.heap.size, 1, none⟩) (v := .int .i64 c0) (show w.heap.size < wr.heap.size by omega) ((hb1.cell (p := ⟨w.heap.size, 1, none⟩) (by simp)).trans (by simp [World.cell?_alloc_new]))
    by_cases hlt : m < xs.length
    · obtain ⟨b, off, r, c, rfl, hbl, hx1, hc0, hc1⟩ := (hx.below hb).dot (j := m) (by omega)
      have l0 := fun p => cell_far (p := p) hbl hc0
      have l1 := fun p => cell_far (p := p) hbl hc1
      clear hc0 hc1
      have HX1 := Lib.hid hx1; clear hx1
      by_cases hq : r = r0 ∧ c = c0
      · obtain ⟨rfl, rfl⟩ := hq
        go_wp2
        refine wp_region_far (by kernel_rfl) (by kernel_rfl) ?_
        repeat (go_big_quiet_step ((fail)))
        refine wpQuiet_nil ?_
        rintro _ ⟨p, rfl⟩
        go_wp2
        go_ret
        exact ⟨ret_bool (by simp [List.mem_of_getElem? HX1.out]), hb.trans ((below_far wr p).mono hb.size)⟩
      · have hnx : ∀ j, j < m + 1 → xs[j]? ≠ some (r0, c0) := fun j hj => by
          by_cases e : j = m
          · subst e; rw [HX1.out]; intro h; injection h with h; injection h with h1 h2; exact hq ⟨h1, h2⟩
          · exact hs.out j (by omega)
        have HNX := Lib.hid hnx; clear hnx
        by_cases hr : r = r0
        · have hc : ¬ c = c0 := fun h => hq ⟨hr, h⟩
          clear hq
          subst hr
          go_wp2
          refine wp_region_far (by kernel_rfl) (by kernel_rfl) ?_
          repeat (go_big_quiet_step ((fail)))
          refine wpQuiet_nil ?_
          rintro _ ⟨p, rfl⟩
          go_wp2
          go_roundw
          case rel => exact ⟨m + 1, by omega, by go_num, hb1.trans ((below_far wr p).mono hz), HNX⟩
          case measure => simp [intOf]; omega
        · clear hq
          go_wp2
          refine wp_region_far (by kernel_rfl) (by kernel_rfl) ?_
          repeat (go_big_quiet_step ((fail)))
          refine wpQuiet_nil ?_
          rintro _ ⟨p, rfl⟩
          go_wp2
          go_roundw
          case rel => exact ⟨m + 1, by omega, by go_num, hb1.trans ((below_far wr p).mono hz), HNX⟩
          case measure => simp [intOf]; omega
    · go_wp2
      go_ret
      refine ⟨ret_bool ?_, hb⟩
      have : ¬ (r0, c0) ∈ xs := fun h => by
        obtain ⟨j, hj⟩ := List.mem_iff_getElem?.1 h
        have hjl : j < xs.length := by
          rcases Nat.lt_or_ge j xs.length with h | h
          · exact h
          · rw [List.getElem?_eq_none h] at hj; cases hj
        exact hs.out j (by omega) hj
      simp [this]

end

end Go.Proofs.YtfjbocipjmpogaaGreat
