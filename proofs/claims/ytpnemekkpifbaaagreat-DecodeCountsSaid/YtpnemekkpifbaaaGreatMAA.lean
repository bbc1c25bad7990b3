/- Several texts in one: Base, DotA, DotB, App, DotC, GenA. -/
import Derived.Test.YtpnemekkpifbaaaGreatRows
import Derived.WalkKit
import Derived.WalkSpells
import Derived.WalkLawsBesides
import Derived.Lib.Hide
import Derived.Deep.QuietTactic
import Derived.BigQuiet
import Derived.Deep.RegionHeld3
import Derived.Deep.DeepCutAuto
import Derived.Sort.Grow
import Derived.Maps.AppendAt
import Derived.Deep.CutBlock
import Derived.Outline
import Derived.IntWalk
namespace Go.Proofs.YtpnemekkpifbaaaGreat

section
open Go.RowKit

/-- How far a world is from w: the count of draws, the blocks laid behind. -/
structure FarBy where
  n : Nat
  os : Array Obj
  deriving Inhabited

/-- w with another count of draws and with blocks laid behind its heap. -/
def far (w : World) (p : FarBy) : World := { w with heap := w.heap ++ p.os, drawn := p.n }

theorem far_drew (w : World) : far w ⟨w.drawn + 1, #[]⟩ = w.drew := by
  cases w; simp only [far, World.drew, Array.append_empty]
theorem size_far (w : World) (p : FarBy) : (far w p).heap.size = w.heap.size + p.os.size := by simp [far]

theorem block_far (w : World) (p : FarBy) {k : Nat} (h : k < w.heap.size) : (far w p).heap[k]? = w.heap[k]? := by
  simp [far, Array.getElem?_append, h]
theorem cell_far {w : World} {a : Addr} {v : Value} (hb : a.block < w.heap.size) (h : w.cell? a = some v) (p : FarBy) : (far w p).cell? a = some v := by
  rw [← h]; exact World.cell?_of_block (w := w) (block_far w p hb)

theorem below_far (w : World) (p : FarBy) : Below w.heap.size w (far w p) :=
  ⟨rfl, rfl, rfl, by rw [size_far]; omega, fun _ hk => block_far w p hk⟩
theorem far_of_below {w w' : World} (h : Below w.heap.size w w') : ∃ p : FarBy, w' = far w p := by
  refine ⟨⟨w'.drawn, w'.heap.extract w.heap.size w'.heap.size⟩, ?_⟩
  obtain ⟨h1, h2, h3, h4, h5⟩ := h
  have hh : w'.heap = w.heap ++ w'.heap.extract w.heap.size w'.heap.size := by
    apply Array.ext_getElem?
    intro k
    rw [Array.getElem?_append]
    by_cases hk : k < w.heap.size
    · rw [if_pos hk, h5 k hk]
    · rw [if_neg hk, Array.getElem?_extract]
      by_cases hk2 : k < w'.heap.size
      · rw [if_pos (by omega)]; congr 1; omega
      · rw [if_neg (by omega), Array.getElem?_eq_none (by omega)]
  cases w'; cases w
  simp only [far, World.mk.injEq] at *
  exact ⟨hh, h2, trivial, h1, h3⟩

theorem below_trans {a b c : World} (h : Below a.heap.size a b) (k : Below b.heap.size b c) : Below a.heap.size a c := h.trans (k.mono h.size)

/-- What is behind a call that leaves what was there: two rules for the walk. -/
theorem bcell {W w1 : World} (hb : Below W.heap.size W w1) : (∀ b o, b < W.heap.size → w1.cell? ⟨b, o, none⟩ = W.cell? ⟨b, o, none⟩) ∧ (∀ b o, b < W.heap.size → w1.frozen? ⟨b, o, none⟩ = W.frozen? ⟨b, o, none⟩) :=
  ⟨fun b o h => hb.cell (p := ⟨b, o, none⟩) h, fun b o h => hb.frozen (p := ⟨b, o, none⟩) h⟩

/-- A callee's contract, met in a world of the class. -/
theorem far_of {P : Program} {f : FuncId} {args : Array Value} {w : World} {p : FarBy} {v : Value}
    (h : Calls P f args (far w p) fun e w' => e = .returned v ∧ Below (far w p).heap.size (far w p) w') :
    Calls P f args (far w p) fun e w'' => e = .returned v ∧ ∃ q : FarBy, w'' = far w q :=
  h.mono fun _ _ ⟨he, hb⟩ => ⟨he, far_of_below (below_trans (below_far w p) hb)⟩
theorem far_of_same {P : Program} {f : FuncId} {args : Array Value} {w : World} {p : FarBy} {v : Value}
    (h : Calls P f args (far w p) fun e w' => e = .returned v ∧ far w p = w') :
    Calls P f args (far w p) fun e w'' => e = .returned v ∧ ∃ q : FarBy, w'' = far w q :=
  h.mono fun _ _ ⟨he, hb⟩ => ⟨he, p, hb.symm⟩

/-- A region that draws its order, whose operations only read, and whose callees leave what was there as it was: one walk. -/
theorem wp_region_far {P : Program} {id : Nat} {Q : Exit → Act → World → Prop} {a : Act} {w : World} {l : List Oper} (hm : P.follows .mixedOrders = true) (hB : Region.lexB .any l.toArray = true)
    (h : wpQuiet P l.toArray (fun w' => ∃ p : FarBy, w' = far w p) (fun a' => ∀ w', (∃ p : FarBy, w' = far w p) → Q .normal a' w') l a) : (Code.region id l.toArray true).wp P Q a w :=
  wp_region_quiet (C := fun w' => ∃ p : FarBy, w' = far w p) hm hB ⟨⟨w.drawn + 1, #[]⟩, (far_drew w).symm⟩ (by simpa using h)

/-- The address A, with n elements of k cells behind it, reads as the list xs. -/
def SlAt {α : Type} (enc : α → List Value) (k : Nat) (w : World) (A : Option Addr) (xs : List α) : Prop :=
  0 < xs.length → ∃ b off, A = some ⟨b, off, none⟩ ∧ b < w.heap.size ∧ ∀ j x, xs[j]? = some x → ∀ i u, (enc x)[i]? = some u → w.cell? ⟨b, off + j * k + i, none⟩ = some u

theorem SlAt.below {α : Type} {enc : α → List Value} {k : Nat} {w w' : World} {A : Option Addr} {xs : List α} (h : SlAt enc k w A xs) (hb : Below w.heap.size w w') : SlAt enc k w' A xs := fun hn => by
  obtain ⟨b, off, rfl, hlt, hc⟩ := h hn
  exact ⟨b, off, rfl, Nat.lt_of_lt_of_le hlt hb.size, fun j x hx i u hu => (hb.cell (p := ⟨b, off + j * k + i, none⟩) hlt).trans (hc j x hx i u hu)⟩
theorem SlAt.far {α : Type} {enc : α → List Value} {k : Nat} {w : World} {A : Option Addr} {xs : List α} (h : SlAt enc k w A xs) (p : FarBy) : SlAt enc k (far w p) A xs := h.below (below_far w p)
theorem SlAt.nil {α : Type} {enc : α → List Value} {k : Nat} {w : World} {A : Option Addr} : SlAt enc k w A ([] : List α) := fun h => absurd h (by simp)

/-- A dot's two cells. -/
abbrev encD (d : Int × Int) : List Value := [.int .i64 d.1, .int .i64 d.2]
abbrev DotsAt (w : World) (A : Option Addr) (xs : List (Int × Int)) : Prop := SlAt encD 2 w A xs

theorem SlAt.dot {w : World} {A : Option Addr} {xs : List (Int × Int)} (h : DotsAt w A xs) {j : Nat} (hj : j < xs.length) :
    ∃ b off r c, A = some ⟨b, off, none⟩ ∧ b < w.heap.size ∧ xs[j]? = some (r, c) ∧ w.cell? ⟨b, off + j * 2, none⟩ = some (.int .i64 r) ∧ w.cell? ⟨b, off + j * 2 + 1, none⟩ = some (.int .i64 c) := by
  obtain ⟨b, off, rfl, hb, hc⟩ := h (by omega)
  have hx := List.getElem?_eq_getElem hj
  exact ⟨b, off, xs[j].1, xs[j].2, rfl, hb, hx, by simpa using hc j _ hx 0 _ rfl, hc j _ hx 1 _ rfl⟩

end

section
open Go.RowKit

/-- Which dots are valid. -/
def validD (r c : Int) : Bool := decide (1 ≤ r ∧ r ≤ 65535 ∧ 1 ≤ c ∧ c ≤ 4294967295)
/-- One dot comes before another one. -/
def lessD (r c r' c' : Int) : Bool := decide (c < c' ∨ c = c' ∧ r < r')
/-- The order of two dots. -/
def cmpD (r c r' c' : Int) : Int := if lessD r c r' c' then -1 else if lessD r' c' r c then 1 else 0
/-- The order of two numbers. -/
def cmpI (a b : Int) : Int := if a < b then -1 else if b < a then 1 else 0

theorem ret_bool {a b : Bool} (h : a = b) : Ending.returned (.bool a) = .returned (.bool b) := by rw [h]
theorem ret_int {k : IntKind} {a b : Int} (h : a = b) : Ending.returned (.int k a) = .returned (.int k b) := by rw [h]

set_option maxHeartbeats 400000 in
theorem dotValid (r c : Int) (w : World) :
    Calls Tryz.prog 60 #[.agg #[.int .i64 r, .int .i64 c]] w fun e w' => e = .returned (.bool (validD r c)) ∧ Below w.heap.size w w' := by
  go_enter Tryz.func60, Tryz.ntmps60
  go_wp2
  all_goals
    go_ret
    refine ⟨ret_bool ?_, (Below.refl _ _).alloc (Nat.le_refl _) _⟩
    rw [Bool.eq_iff_iff]
    simp [validD, *]
    try omega

set_option maxHeartbeats 400000 in
theorem cmpIsNaN (a : Int) (w : World) :
    Calls Tryz.prog 111 #[.int .i64 a] w fun e w' => e = .returned (.bool false) ∧ w = w' := by
  go_enter Tryz.func111, Tryz.ntmps111
  go_wp2
  go_ret
  simp

set_option maxHeartbeats 400000 in
theorem cmpCompare (a b : Int) (w : World) :
    Calls Tryz.prog 92 #[.int .i64 a, .int .i64 b] w fun e w' => e = .returned (.int .i64 (cmpI a b)) ∧ w = w' := by
  go_enter Tryz.func92, Tryz.ntmps92
  go_wp2_with (go_at_call 111; refine (cmpIsNaN _ _).mono ?_; rintro e w' ⟨rfl, rfl⟩)
  all_goals
    go_ret
    refine ⟨ret_int ?_, rfl⟩
  · have : a < b := by assumption
    simp [cmpI, this]
  · have h1 : b ≤ a := by assumption
    have h2 : b < a := by assumption
    simp [cmpI, h2, Int.not_lt.2 h1]
  · have h1 : b ≤ a := by assumption
    have h2 : a ≤ b := by assumption
    simp [cmpI, Int.not_lt.2 h1, Int.not_lt.2 h2]

/-- The first of two numbers that is not 0. -/
def orI (x y : Int) : Int := if x = 0 then y else x

set_option maxHeartbeats 400000 in
theorem cmpOr (b : Nat) (cap : Nat) (x y : Int) (w : World) (h0 : w.cell? ⟨b, 0, none⟩ = some (.int .i64 x)) (h1 : w.cell? ⟨b, 1, none⟩ = some (.int .i64 y)) :
    Calls Tryz.prog 91 #[.slice (some ⟨b, 0, none⟩) 2 cap] w fun e w' => e = .returned (.int .i64 (orI x y)) ∧ w = w' := by
  by_cases hx : x = 0
  · have hx' : (x != 0) = false := by simp [hx]
    by_cases hy : y = 0
    · have hy' : (y != 0) = false := by simp [hy]
      have HX := Lib.hid hx; clear hx
      have HY := Lib.hid hy; clear hy
      go_enter Tryz.func91, Tryz.ntmps91
      go_wp2
      refine wp_loop_rounds 3 ?_
      rw [rounds_succ]
      go_wp2
      rw [rounds_succ]
      go_wp2
      rw [rounds_succ]
      go_wp2
      go_ret
      exact ⟨by simp [orI, HX.out, HY.out], rfl⟩
    · have hy' : (y != 0) = true := by simp [hy]
      have HX := Lib.hid hx; clear hx
      have HY := Lib.hid hy; clear hy
      go_enter Tryz.func91, Tryz.ntmps91
      go_wp2
      refine wp_loop_rounds 2 ?_
      rw [rounds_succ]
      go_wp2
      rw [rounds_succ]
      go_wp2
      go_ret
      exact ⟨by simp [orI, HX.out], rfl⟩
  · have hx' : (x != 0) = true := by simp [hx]
    have HX := Lib.hid hx; clear hx
    go_enter Tryz.func91, Tryz.ntmps91
    go_wp2
    refine wp_loop_rounds 1 ?_
    rw [rounds_succ]
    go_wp2
    go_ret
    exact ⟨by simp [orI, HX.out], rfl⟩

theorem below_grow (w : World) (n : Nat) (os : Array Obj) : Below w.heap.size w (Sort.grow (w.drewN n) os) :=
  ⟨rfl, rfl, rfl, by simp, fun k hk => by rw [Sort.heap_grow_old _ _ (by exact hk)]; rfl⟩

theorem cmpD_or (r c r' c' : Int) : orI (cmpI c c') (cmpI r r') = cmpD r c r' c' := by
  unfold orI cmpI cmpD lessD
  by_cases h1 : c < c'
  · simp [h1]
  · by_cases h2 : c' < c
    · have : ¬ c = c' := by omega
      simp [h1, h2, this]
    · have : c = c' := by omega
      subst this
      simp

set_option maxHeartbeats 400000 in
theorem dotCompareG (r c r' c' : Int) (w : World) :
    Calls Tryz.prog 59 #[.agg #[.int .i64 r, .int .i64 c], .agg #[.int .i64 r', .int .i64 c']] w fun e w' => e = .returned (.int .i64 (cmpD r c r' c')) ∧ ∃ q os', w' = Sort.grow (w.drewN q) os' := by
  go_enter Tryz.func59, Tryz.ntmps59
  go_wp2
  go_region_held3 (fun w' => w'.cell? ⟨w.heap.size, 0, none⟩ = some (.int .i64 r) ∧ w'.cell? ⟨w.heap.size, 1, none⟩ = some (.int .i64 c) ∧ w'.cell? ⟨w.heap.size + 1, 0, none⟩ = some (.int .i64 r') ∧ w'.cell? ⟨w.heap.size + 1, 1, none⟩ = some (.int .i64 c')) (go_keep)
    (first
      | (go_at_call 92; refine (cmpCompare _ _ _).mono ?_; rintro e w' ⟨rfl, rfl⟩)
      | (go_at_call 91; refine (cmpOr _ _ (cmpI c c') (cmpI r r') _ (by go_simp) (by go_simp)).mono ?_; rintro e w' ⟨rfl, rfl⟩))
  go_wp2
  go_ret
  exact ⟨ret_int (cmpD_or r c r' c'), 1, _, by rw [Sort.alloc_eq_grow, Sort.alloc_eq_grow, Sort.alloc_eq_grow, Sort.grow_grow, Sort.grow_grow]; rfl⟩

theorem dotCompare (r c r' c' : Int) (w : World) :
    Calls Tryz.prog 59 #[.agg #[.int .i64 r, .int .i64 c], .agg #[.int .i64 r', .int .i64 c']] w fun e w' => e = .returned (.int .i64 (cmpD r c r' c')) ∧ Below w.heap.size w w' :=
  (dotCompareG r c r' c' w).mono fun _ _ ⟨he, q, os, hw⟩ => ⟨he, by rw [hw]; exact below_grow w q os⟩

end

section
open Go.RowKit

/-- A list in increasing order, each dot once: each one is before the next one. -/
def isSetL (xs : List (Int × Int)) (k : Nat) : Prop := ∀ j p q, j + 1 < k → xs[j]? = some p → xs[j + 1]? = some q → lessD p.1 p.2 q.1 q.2 = true

theorem isSetL_step {xs : List (Int × Int)} {m : Nat} {p q : Int × Int} (h : isSetL xs (m + 1)) (hp : xs[m]? = some p) (hq : xs[m + 1]? = some q) (hl : lessD p.1 p.2 q.1 q.2 = true) : isSetL xs (m + 1 + 1) := by
  intro j p' q' hj h1 h2
  by_cases e : j = m
  · subst e
    rw [hp] at h1; rw [hq] at h2
    cases h1; cases h2
    exact hl
  · exact h j p' q' (by omega) h1 h2
theorem isSetL_no {xs : List (Int × Int)} {m : Nat} {p q : Int × Int} (hm : m + 1 < xs.length) (hp : xs[m]? = some p) (hq : xs[m + 1]? = some q) (hl : lessD p.1 p.2 q.1 q.2 = false) : ¬ isSetL xs xs.length := fun h => by
  have := h m p q hm hp hq
  rw [hl] at this; cases this

/-- Whether a list is a set. -/
def isSetB : List (Int × Int) → Bool
  | [] => true
  | [_] => true
  | p :: q :: r => lessD p.1 p.2 q.1 q.2 && isSetB (q :: r)
theorem isSetB_iff : ∀ xs : List (Int × Int), isSetB xs = true ↔ isSetL xs xs.length
  | [] => ⟨fun _ j p q h => by simp at h, fun _ => rfl⟩
  | [_] => ⟨fun _ j p q h => by simp at h, fun _ => rfl⟩
  | p :: q :: r => by
    rw [isSetB, Bool.and_eq_true, isSetB_iff (q :: r)]
    constructor
    · rintro ⟨h1, h2⟩ j p' q' hj h3 h4
      match j with
      | 0 => simp at h3 h4; subst h3; subst h4; exact h1
      | j + 1 => exact h2 j p' q' (by simp at hj ⊢; omega) (by simpa using h3) (by simpa using h4)
    · intro h
      exact ⟨h 0 p q (by simp) rfl rfl, fun j p' q' hj h3 h4 => h (j + 1) p' q' (by simp at hj ⊢; omega) (by simpa using h3) (by simpa using h4)⟩
theorem isSetB_yes {xs : List (Int × Int)} (h : isSetL xs xs.length) : isSetB xs = true := (isSetB_iff xs).2 h
theorem isSetB_no {xs : List (Int × Int)} (h : ¬ isSetL xs xs.length) : isSetB xs = false := by
  cases e : isSetB xs
  · rfl
  · exact absurd ((isSetB_iff xs).1 e) h

set_option maxHeartbeats 400000 in
theorem dotIsSet (A : Option Addr) (xs : List (Int × Int)) (cap : Nat) (w : World) (hx : DotsAt w A xs) (hm : xs.length ≤ maxLen) :
    Calls Tryz.prog 94 #[.slice A xs.length cap] w fun e w' => e = .returned (.bool (isSetB xs)) ∧ Below w.heap.size w w' := by
  unfold maxLen at hm
  go_enter Tryz.func94, Tryz.ntmps94
  go_wp2
  go_loopw [3] (fun i wr => ∃ m : Nat, m + 1 ≤ max xs.length 1 ∧ i = .int .i64 ((m : Int) + 1) ∧ Below w.heap.size w wr ∧ Hid (isSetL xs (m + 1))) (fun i _ => xs.length - (intOf i).toNat)
  case atStart => exact ⟨0, by omega, rfl, Below.refl _ _, fun j p q h => by omega⟩
  case round =>
    obtain ⟨m, hk2, rfl, hb, hs⟩ := hrel
    by_cases hlt : m + 1 < xs.length
    · obtain ⟨b, off, r, c, rfl, hbl, hx1, hc0, hc1⟩ := (hx.below hb).dot (j := m) (by omega)
      obtain ⟨_, _, r', c', ho, _, hx2, hd0, hd1⟩ := (hx.below hb).dot (j := m + 1) hlt
      cases ho
      have hr := fun W => dotCompare r c r' c' W
      have l0 := fun p => cell_far (p := p) hbl hc0
      have l1 := fun p => cell_far (p := p) hbl hc1
      have l2 := fun p => cell_far (p := p) hbl hd0
      have l3 := fun p => cell_far (p := p) hbl hd1
      clear hc0 hc1 hd0 hd1
      have HX1 := Lib.hid hx1; clear hx1
      have HX2 := Lib.hid hx2; clear hx2
      have hv : (lessD r c r' c' = true ∧ cmpD r c r' c' < 0) ∨ (lessD r c r' c' = false ∧ 0 ≤ cmpD r c r' c') := by
        unfold cmpD; cases lessD r c r' c' <;> simp; split <;> simp
      generalize cmpD r c r' c' = v at hr hv
      have HR := Lib.hid hr; clear hr
      rcases hv with ⟨hq, hv⟩ | ⟨hq, hv⟩
      · have HQ := Lib.hid hq; clear hq
        go_wp2
        refine wp_region_far (by kernel_rfl) (by kernel_rfl) ?_
        repeat (go_big_quiet_step ((go_at_call 59; exact far_of (HR.out _))))
        refine wpQuiet_nil ?_
        rintro _ ⟨p, rfl⟩
        go_wp2
        go_roundw
        case rel => exact ⟨m + 1, by omega, by go_num, hb.trans ((below_far wr p).mono hb.size), isSetL_step hs.out HX1.out HX2.out HQ.out⟩
        case measure => simp [intOf]; omega
      · have HQ := Lib.hid hq; clear hq
        go_wp2
        refine wp_region_far (by kernel_rfl) (by kernel_rfl) ?_
        repeat (go_big_quiet_step ((go_at_call 59; exact far_of (HR.out _))))
        refine wpQuiet_nil ?_
        rintro _ ⟨p, rfl⟩
        go_wp2
        go_ret
        exact ⟨ret_bool (isSetB_no (isSetL_no hlt HX1.out HX2.out HQ.out)).symm, hb.trans ((below_far wr p).mono hb.size)⟩
    · go_wp2
      go_ret
      refine ⟨ret_bool (isSetB_yes ?_).symm, hb⟩
      intro j p q hj
      exact hs.out j p q (by omega)

theorem neqDot : ∀ (r c r' c' : Int) (w : World), (binOp .neq 52 (.agg #[.int .i64 r, .int .i64 c]) (.agg #[.int .i64 r', .int .i64 c'])).run Tryz.prog w = .ok (.bool (!(r == r' && c == c'))) w := by
  intro r c r' c' w
  have hS : Tryz.prog.underlying 52 = some (.struct (Tryz.prog.fieldsOf 52)) := by kernel_rfl
  have hp : Tryz.prog.stoodInHeld 52 = false := by kernel_rfl
  rw [run_neq_struct, show (10000 : Nat) = 9999 + 1 from rfl, run_equalIn_agg w 9999 52 _ _ hS hp]
  simp only [Program.fieldsOf, Tryz.underlying52]
  go_simp
  by_cases h1 : r = r' <;> by_cases h2 : c = c' <;> simp [h1, h2]

/-- The first k elements of both lists are the same. -/
def SameTo (xs ys : List (Int × Int)) (k : Nat) : Prop := ∀ j, j < k → xs[j]? = ys[j]?

end

section
open Go.RowKit

/-- The cells of a list of elements. -/
abbrev cellsOf {α : Type} (enc : α → List Value) (xs : List α) : List Value := xs.flatMap enc

theorem cellsOf_length {α : Type} {enc : α → List Value} {k : Nat} (hk : ∀ x, (enc x).length = k) (xs : List α) : (cellsOf enc xs).length = xs.length * k := by
  induction xs with
  | nil => simp
  | cons x r ih => simp only [cellsOf, List.flatMap_cons, List.length_append, hk, List.length_cons] at ih ⊢; rw [ih, Nat.add_mul]; omega

theorem cellsOf_get {α : Type} {enc : α → List Value} {k : Nat} (hk : ∀ x, (enc x).length = k) (hk0 : 0 < k) : ∀ (xs : List α) (t : Nat) (u : Value), (cellsOf enc xs)[t]? = some u → ∃ x, xs[t / k]? = some x ∧ (enc x)[t % k]? = some u
  | [], t, u, h => by simp at h
  | x :: r, t, u, h => by
    simp only [cellsOf, List.flatMap_cons] at h
    by_cases ht : t < k
    · rw [List.getElem?_append_left (by rw [hk]; exact ht)] at h
      rw [Nat.div_eq_of_lt ht, Nat.mod_eq_of_lt ht]
      exact ⟨x, rfl, h⟩
    · rw [List.getElem?_append_right (by rw [hk]; omega), hk] at h
      obtain ⟨y, h1, h2⟩ := cellsOf_get hk hk0 r (t - k) u h
      have e1 : t / k = (t - k) / k + 1 := by rw [Nat.div_eq_sub_div hk0 (by omega)]
      have e2 : t % k = (t - k) % k := by rw [Nat.mod_eq_sub_mod (by omega)]
      rw [e1, e2]
      exact ⟨y, by simpa using h1, h2⟩
theorem cellsOf_at {α : Type} {enc : α → List Value} {k : Nat} (hk : ∀ x, (enc x).length = k) : ∀ (xs : List α) (j : Nat) (x : α) (i : Nat) (u : Value), xs[j]? = some x → (enc x)[i]? = some u → (cellsOf enc xs)[j * k + i]? = some u
  | [], j, x, i, u, h, _ => by simp at h
  | y :: r, 0, x, i, u, h, hu => by
    simp at h; subst h
    have hi : i < (enc y).length := by
      rcases Nat.lt_or_ge i (enc y).length with h | h
      · exact h
      · rw [List.getElem?_eq_none h] at hu; cases hu
    simp only [cellsOf, List.flatMap_cons, Nat.zero_mul, Nat.zero_add]
    rw [List.getElem?_append_left hi]; exact hu
  | y :: r, j + 1, x, i, u, h, hu => by
    simp only [cellsOf, List.flatMap_cons]
    rw [List.getElem?_append_right (by rw [hk, Nat.add_mul]; omega), hk]
    have := cellsOf_at hk r j x i u (by simpa using h) hu
    rw [show (j + 1) * k + i - k = j * k + i by rw [Nat.add_mul]; omega]
    exact this

theorem Addr_add (b off t : Nat) : (⟨b, off, none⟩ : Addr).add t = ⟨b, off + t, none⟩ := by
  unfold Addr.add; split
  · subst_vars; rfl
  · rfl

/-- A slice that reads as a list has its cells in a row. -/
theorem SlAt.row {α : Type} {enc : α → List Value} {k : Nat} {w : World} {xs : List α} (hk : ∀ x, (enc x).length = k) (hk0 : 0 < k) {a : Addr} (h : SlAt enc k w (some a) xs) :
    ∀ t u, (cellsOf enc xs)[t]? = some u → w.cell? (a.add t) = some u := by
  intro t u hu
  obtain ⟨x, h1, h2⟩ := cellsOf_get hk hk0 xs t u hu
  have hn : 0 < xs.length := by
    rcases Nat.eq_zero_or_pos xs.length with h | h
    · rw [List.getElem?_eq_none (by rw [h]; exact Nat.zero_le _)] at h1; cases h1
    · exact h
  obtain ⟨b, off, e, _, hc⟩ := h hn
  cases e
  rw [Addr_add]
  have := hc (t / k) x h1 (t % k) u h2
  rw [Nat.add_assoc, Nat.div_add_mod'] at this
  exact this

/-- What a call owns reads as a list. -/
theorem SlAt.of_own {α : Type} {enc : α → List Value} {k : Nat} (hk : ∀ x, (enc x).length = k) {w : World} {base : Nat} {e : TypeId} {v : Value} {xs : List α} (h : w.ownsRow base e k v xs.length (cellsOf enc xs)) :
    ∃ A c, v = .slice A xs.length c ∧ xs.length ≤ c ∧ c ≤ maxLen ∧ SlAt enc k w A xs := by
  obtain ⟨h1, h2⟩ := h
  rcases h2 with ⟨rfl, h0⟩ | ⟨g, cap, cur, rfl, hb, hg, hn, hc, hs, ht⟩
  · refine ⟨none, 0, by rw [h0], by omega, by simp [maxLen], fun h => by omega⟩
  · refine ⟨_, _, rfl, hn, hc, fun hp => ⟨g, 0, rfl, (Array.getElem?_eq_some_iff.1 hg).1, fun j x hx i u hu => ?_⟩⟩
    have hcl := cellsOf_at hk xs j x i u hx hu
    rw [← ht, List.getElem?_take] at hcl
    rw [Nat.zero_add, cell_of_row w g _ cur e (0, 0) hg]
    split at hcl
    · simpa using hcl
    · cases hcl

section
variable {P : Program} (w : World) {α : Type} (enc : α → List Value) (k : Nat)

theorem run_append_nothing (base : Nat) (t ty e : TypeId) (i : TypeInfo) (ht : P.underlying t = some (.slice e)) (hi : P.info? e = some i)
    (v : Value) (n : Nat) (cs : List Value) (hown : w.ownsRow base e k v n cs) (c : Nat) : (Builtin.append_ #[t, t] ty #[v, .slice none 0 c]).run P w = .ok v w := by
  rcases hown.2 with ⟨rfl, rfl⟩ | ⟨g, cap, cur, rfl, _, _, hnc, _⟩ <;>
    simp [Builtin.append_, run_underlying ht, sizeOf, typeInfo, hi, Builtin.lenOf, Builtin.firstCells]
  simp [hnc, storeCells]

theorem run_append_sl (hk : ∀ x, (enc x).length = k) (hk0 : 0 < k) (h1 : ∀ x, ∀ u ∈ enc x, u.oneCell' = true)
    (base : Nat) (t ty e : TypeId) (i : TypeInfo) (z : Value) (bytes : Nat) (ht : P.underlying t = some (.slice e)) (hi : P.info? e = some i) (hz : i.zero = some z)
    (hsize : i.size = k) (hby : i.bytes = bytes) (hzs : z.cells.size = k)
    (v : Value) (ys : List α) (hown : w.ownsRow base e k v ys.length (cellsOf enc ys))
    (A : Option Addr) (c : Nat) (xs : List α) (hx : SlAt enc k w A xs)
    (h63 : ys.length + xs.length ≤ maxLen) (hbytes : (ys.length + xs.length) * bytes ≤ 140737488355328) (hbase : base ≤ w.heap.size) :
    ∃ v' w', (Builtin.append_ #[t, t] ty #[v, .slice A xs.length c]).run P w = .ok v' w' ∧ w'.ownsRow base e k v' (ys ++ xs).length (cellsOf enc (ys ++ xs)) ∧ w.grownBy w' v.ownBlock ∧ (v'.ownBlock = v.ownBlock ∨ v'.ownBlock = some w.heap.size) := by
  have he : cellsOf enc (ys ++ xs) = cellsOf enc ys ++ cellsOf enc xs := by simp [cellsOf]
  rw [he, List.length_append]
  match A with
  | none =>
    have h0 : xs = [] := by
      cases xs with
      | nil => rfl
      | cons x r => obtain ⟨_, _, h, _⟩ := hx (by simp); cases h
    subst h0
    exact ⟨v, w, run_append_nothing w k base t ty e i ht hi v _ _ hown c, by simpa using hown, World.grownBy.refl w _, .inl rfl⟩
  | some a =>
    obtain ⟨v', w', hr, h2, h3, _, h5⟩ := run_append_own_at (P := P) w base t ty e i z k bytes ht hi hz hsize hby hzs hk0 v ys.length (cellsOf enc ys) hown a xs.length c (cellsOf enc xs)
      (cellsOf_length hk xs) (hx.row hk hk0) (fun u hu => by obtain ⟨x, _, h⟩ := List.mem_flatMap.1 hu; exact h1 x u h) h63 hbytes hbase
    exact ⟨v', w', hr, h2, h3, h5⟩

theorem wp_append_sl {o : Oper} {a : Act} {K : Act → World → Prop} {Q : Exit → Act → World → Prop} (s x : Operand) (t : TypeId)
    (ho : o.op = .call { callee := .builtin .append, args := #[s, x], argTypes := #[t, t] })
    (hk : ∀ x, (enc x).length = k) (hk0 : 0 < k) (h1 : ∀ x, ∀ u ∈ enc x, u.oneCell' = true)
    (base : Nat) (e : TypeId) (i : TypeInfo) (z : Value) (bytes : Nat) (ht : P.underlying t = some (.slice e)) (hi : P.info? e = some i) (hz : i.zero = some z)
    (hsize : i.size = k) (hby : i.bytes = bytes) (hzs : z.cells.size = k)
    (v : Value) (ys : List α) (hs : a.eval s = v) (hown : w.ownsRow base e k v ys.length (cellsOf enc ys))
    (A : Option Addr) (n c : Nat) (xs : List α) (hxv : a.eval x = .slice A n c) (hn : n = xs.length) (hx : SlAt enc k w A xs)
    (h63 : ys.length + xs.length ≤ maxLen) (hbytes : (ys.length + xs.length) * bytes ≤ 140737488355328) (hbase : base ≤ w.heap.size)
    (h : ∀ v' w', w'.ownsRow base e k v' (ys ++ xs).length (cellsOf enc (ys ++ xs)) → w.grownBy w' v.ownBlock → (v'.ownBlock = v.ownBlock ∨ v'.ownBlock = some w.heap.size) → K (a.put o.dst v') w') : o.wp P a w K Q := by
  subst hn
  obtain ⟨v', w', hrun, h2, h3, h4⟩ := run_append_sl (P := P) w enc k hk hk0 h1 base t o.type e i z bytes ht hi hz hsize hby hzs v ys hown A c xs hx h63 hbytes hbase
  unfold Oper.wp execOp
  simp only [ho, resolve, invoke, builtin, Sem.run_bind, Sem.run_pure, Result.andThen_ok, List.map_toArray, List.map_cons, List.map_nil, hs, hxv, hrun]
  exact h v' w' h2 h3 h4

theorem wpList_append_sl {ops : Array Oper} {rest : List Oper} {o : Oper} {a : Act} {Q : Exit → Act → World → Prop} (hgd : o.guard = none) (s x : Operand) (t : TypeId)
    (ho : o.op = .call { callee := .builtin .append, args := #[s, x], argTypes := #[t, t] })
    (hk : ∀ x, (enc x).length = k) (hk0 : 0 < k) (h1 : ∀ x, ∀ u ∈ enc x, u.oneCell' = true)
    (base : Nat) (e : TypeId) (i : TypeInfo) (z : Value) (bytes : Nat) (ht : P.underlying t = some (.slice e)) (hi : P.info? e = some i) (hz : i.zero = some z)
    (hsize : i.size = k) (hby : i.bytes = bytes) (hzs : z.cells.size = k)
    (v : Value) (ys : List α) (hs : a.eval s = v) (hown : w.ownsRow base e k v ys.length (cellsOf enc ys))
    (A : Option Addr) (n c : Nat) (xs : List α) (hxv : a.eval x = .slice A n c) (hn : n = xs.length) (hx : SlAt enc k w A xs)
    (h63 : ys.length + xs.length ≤ maxLen) (hbytes : (ys.length + xs.length) * bytes ≤ 140737488355328) (hbase : base ≤ w.heap.size)
    (h : ∀ v' w', w'.ownsRow base e k v' (ys ++ xs).length (cellsOf enc (ys ++ xs)) → w.grownBy w' v.ownBlock → (v'.ownBlock = v.ownBlock ∨ v'.ownBlock = some w.heap.size) → wpList P ops Q rest (a.put o.dst v') w') : wpList P ops Q (o :: rest) a w :=
  wpList_plain hgd fun _ hK => wp_append_sl w enc k s x t ho hk hk0 h1 base e i z bytes ht hi hz hsize hby hzs v ys hs hown A n c xs hxv hn hx h63 hbytes hbase fun v' w' h2 h3 h4 => hK _ _ (h v' w' h2 h3 h4)

end

end

section
open Go.RowKit

abbrev ltD (p q : Int × Int) : Bool := lessD p.1 p.2 q.1 q.2

/-- A set with one more dot. -/
def insD (xs : List (Int × Int)) (d : Int × Int) : List (Int × Int) := if d ∈ xs then xs else xs.takeWhile (ltD · d) ++ d :: xs.dropWhile (ltD · d)

theorem infoD : (Tryz.prog.info? 52).map (fun i => (i.zero, i.size, i.bytes)) = some (some (.agg #[.int .i64 0, .int .i64 0]), 2, 16) := by kernel_rfl
theorem encD_len : ∀ d, (encD d).length = 2 := fun _ => rfl
theorem encD_one : ∀ d, ∀ u ∈ encD d, u.oneCell' = true := fun d u hu => by
  simp [encD] at hu; rcases hu with rfl | rfl <;> rfl

/-- What the last statement of With leans on in every order. -/
def KS (w : World) (r0 c0 : Int) (W : World) : Prop :=
  W.cell? ⟨w.heap.size, 0, none⟩ = some (.int .i64 r0) ∧ W.cell? ⟨w.heap.size, 1, none⟩ = some (.int .i64 c0) ∧ Below (w.heap.size + 1) (w.alloc (.cells #[.int .i64 r0, .int .i64 c0] 52)) W
theorem KS.of {w W : World} {r0 c0 : Int} (h : Below (w.heap.size + 1) (w.alloc (.cells #[.int .i64 r0, .int .i64 c0] 52)) W) : KS w r0 c0 W :=
  ⟨(h.cell (p := ⟨w.heap.size, 0, none⟩) (by simp)).trans (by simp [World.cell?_alloc_new]), (h.cell (p := ⟨w.heap.size, 1, none⟩) (by simp)).trans (by simp [World.cell?_alloc_new]), h⟩
theorem KS.size {w W : World} {r0 c0 : Int} (h : KS w r0 c0 W) : w.heap.size + 1 ≤ W.heap.size := by have := h.2.2.size; simpa using this
theorem KS.alloc {w W : World} {r0 c0 : Int} (h : KS w r0 c0 W) (o : Obj) : KS w r0 c0 (W.alloc o) := .of (h.2.2.alloc h.size o)
theorem KS.drew {w W : World} {r0 c0 : Int} (h : KS w r0 c0 W) : KS w r0 c0 W.drew := .of h.2.2.drew
theorem KS.grown {w W W' : World} {r0 c0 : Int} (h : KS w r0 c0 W) {row : Option Nat} (hg : W.grownBy W' row) (hr : ∀ k, row = some k → w.heap.size + 1 ≤ k) : KS w r0 c0 W' := .of (h.2.2.grown hg h.size hr)
theorem KS.below {w W : World} {r0 c0 : Int} (h : KS w r0 c0 W) : Below w.heap.size w W := ((Below.refl _ w).alloc (Nat.le_refl _) _).trans (h.2.2.mono (by omega))

theorem SlAt.take {α : Type} {enc : α → List Value} {k : Nat} {w : World} {A : Option Addr} {xs : List α} (h : SlAt enc k w A xs) (m : Nat) : SlAt enc k w A (xs.take m) := fun hn => by
  obtain ⟨b, off, rfl, hb, hc⟩ := h (by simp at hn; omega)
  refine ⟨b, off, rfl, hb, fun j x hx => hc j x ?_⟩
  rw [List.getElem?_take] at hx
  split at hx
  · exact hx
  · cases hx
theorem SlAt.cut {α : Type} {enc : α → List Value} {k : Nat} {w : World} {A : Option Addr} {xs : List α} (h : SlAt enc k w A xs) (m cap : Nat) (hc : xs.length ≤ cap) : SlAt enc k w (if cap = m then A else A.map (·.add (m * k))) (xs.drop m) := fun hn => by
  obtain ⟨b, off, rfl, hb, hcell⟩ := h (by simp at hn; omega)
  have hne : ¬ cap = m := by simp at hn; omega
  rw [if_neg hne]
  refine ⟨b, off + m * k, by simp [Addr_add], hb, fun j x hx i u hu => ?_⟩
  rw [List.getElem?_drop] at hx
  have := hcell (m + j) x hx i u hu
  rw [Nat.add_mul] at this
  rw [show off + m * k + j * k + i = off + (m * k + j * k) + i by omega]
  exact this
/-- One element in a new block. -/
theorem SlAt.one {α : Type} {enc : α → List Value} {k : Nat} {w : World} {g : Nat} {x : α} {t : TypeId} (h : w.heap[g]? = some (.cells (enc x).toArray t (0, 0))) : SlAt enc k w (some ⟨g, 0, none⟩) [x] := fun _ =>
  ⟨g, 0, rfl, (Array.getElem?_eq_some_iff.1 h).1, fun j y hy i u hu => by
    match j, hy with
    | 0, hy => simp at hy; subst hy; rw [cell_of_row w g _ _ t (0, 0) h]; simpa using hu⟩

/-- The set of a list. -/
def setL (xs : List (Int × Int)) : List (Int × Int) := xs.foldl insD []
theorem insD_len (xs : List (Int × Int)) (d : Int × Int) : (insD xs d).length ≤ xs.length + 1 := by
  unfold insD
  split
  · omega
  · have := congrArg List.length (List.takeWhile_append_dropWhile (p := (ltD · d)) (l := xs))
    simp only [List.length_append, List.length_cons] at this ⊢
    omega
theorem foldl_ins_len : ∀ (l s : List (Int × Int)), (l.foldl insD s).length ≤ s.length + l.length
  | [], s => by simp
  | d :: l, s => by
    have h1 := foldl_ins_len l (insD s d)
    have h2 := insD_len s d
    simp only [List.foldl_cons, List.length_cons]; omega
theorem setL_len (xs : List (Int × Int)) : (setL xs).length ≤ xs.length := by
  have := foldl_ins_len xs []
  simpa [setL] using this
theorem take_snoc {α : Type} {xs : List α} {m : Nat} {x : α} (h : xs[m]? = some x) : xs.take (m + 1) = xs.take m ++ [x] := by
  rw [List.take_add_one, h]; rfl

/-- What a slot holds that reads as a list of dots. -/
def Holds (w : World) (v : Value) (xs : List (Int × Int)) : Prop := ∃ A c, v = .slice A xs.length c ∧ DotsAt w A xs ∧ xs.length ≤ c ∧ c ≤ maxLen
theorem Holds.below {w w' : World} {v : Value} {xs : List (Int × Int)} (h : Holds w v xs) (hb : Below w.heap.size w w') : Holds w' v xs := by
  obtain ⟨A, c, rfl, h1, h2, h3⟩ := h
  exact ⟨A, c, rfl, h1.below hb, h2, h3⟩
theorem Holds.nil (w : World) : Holds w (.slice none 0 0) [] := ⟨none, 0, rfl, SlAt.nil, by simp, by simp [maxLen]⟩

end

section
open Go.RowKit

/-- One result that is known, nothing changed. -/
def One (v : Value) (w : World) (e : Ending) (w' : World) : Prop := e = .returned v ∧ w = w'
/-- One result that is known, nothing changed of what was there. -/
def OneB (v : Value) (w : World) (e : Ending) (w' : World) : Prop := e = .returned v ∧ Below w.heap.size w w'
theorem OneB.int {k : IntKind} {a b : Int} {w w' : World} (h : a = b) (hb : Below w.heap.size w w') : OneB (.int k b) w (.returned (.int k a)) w' := by subst h; exact ⟨rfl, hb⟩
theorem One.int {k : IntKind} {a b : Int} (w : World) (h : a = b) : One (.int k b) w (.returned (.int k a)) w := by subst h; exact ⟨rfl, rfl⟩
theorem One.bool {a b : Bool} (w : World) (h : a = b) : One (.bool b) w (.returned (.bool a)) w := by subst h; exact ⟨rfl, rfl⟩
theorem OneB.bool {a b : Bool} {w w' : World} (h : a = b) (hb : Below w.heap.size w w') : OneB (.bool b) w (.returned (.bool a)) w' := by subst h; exact ⟨rfl, hb⟩
theorem OneB.pair {v v' u u' : Value} {w w' : World} (h : v = v') (k : u = u') (hb : Below w.heap.size w w') : OneB (.tuple #[v', u']) w (.returned (.tuple #[v, u])) w' := by subst h k; exact ⟨rfl, hb⟩
theorem One.below {v : Value} {w w' : World} {e : Ending} (h : One v w e w') : OneB v w e w' := by obtain ⟨rfl, rfl⟩ := h; exact ⟨rfl, Below.refl _ _⟩
theorem OneB.far {P : Program} {f : FuncId} {args : Array Value} {w : World} {p : FarBy} {v : Value}
    (h : Calls P f args (Go.Proofs.YtpnemekkpifbaaaGreat.far w p) (OneB v (Go.Proofs.YtpnemekkpifbaaaGreat.far w p))) :
    Calls P f args (Go.Proofs.YtpnemekkpifbaaaGreat.far w p) fun e w'' => e = .returned v ∧ ∃ q : FarBy, w'' = Go.Proofs.YtpnemekkpifbaaaGreat.far w q := far_of h
theorem One.far {P : Program} {f : FuncId} {args : Array Value} {w : World} {p : FarBy} {v : Value}
    (h : Calls P f args (Go.Proofs.YtpnemekkpifbaaaGreat.far w p) (One v (Go.Proofs.YtpnemekkpifbaaaGreat.far w p))) :
    Calls P f args (Go.Proofs.YtpnemekkpifbaaaGreat.far w p) fun e w'' => e = .returned v ∧ ∃ q : FarBy, w'' = Go.Proofs.YtpnemekkpifbaaaGreat.far w q := far_of_same h

theorem eqT {a b : Int} (h : a = b) : (a == b) = true := by simpa using h
theorem eqF {a b : Int} (h : a ≠ b) : (a == b) = false := by simpa using h
theorem SlAt.cell1 {α : Type} {f : α → Value} {w : World} {A : Option Addr} {xs : List α} (h : SlAt (fun x => [f x]) 1 w A xs) {j : Nat} (hj : j < xs.length) :
    ∃ b off, A = some ⟨b, off, none⟩ ∧ b < w.heap.size ∧ w.cell? ⟨b, off + j, none⟩ = some (f xs[j]) := by
  obtain ⟨b, off, rfl, hb, hc⟩ := h (by omega)
  exact ⟨b, off, rfl, hb, by simpa using hc j _ (List.getElem?_eq_getElem hj) 0 _ rfl⟩
end

end Go.Proofs.YtpnemekkpifbaaaGreat
