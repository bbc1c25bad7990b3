/- Lists of ints and of strings in memory; Same, allowed, Stripe; the reference's Allowed, Stripe. -/
import Derived.Test.YtmploibgmmeanaaDoorHashA
namespace Go.Proofs.YtmploibgmmeanaaDoor
open Go.RowKit

/-- An int's cell. -/
abbrev encI (n : Nat) : List Value := [.int .i64 n]
theorem encI_len (x : Nat) : (encI x).length = 1 := rfl
theorem encI_one (x : Nat) : ∀ u ∈ encI x, u.oneCell' = true := by intro u hu; simp at hu; subst hu; rfl
abbrev IntsAt (w : World) (A : Option Addr) (xs : List Nat) : Prop := SlAt encI 1 w A xs
theorem infoI : (Tryd.prog.info? 3).map (fun i => (i.zero, i.size, i.bytes)) = some (some (.int .i64 0), 1, 8) := by kernel_rfl
/-- A slice of ints that reads as a list. -/
def HoldsI (w : World) (v : Value) (xs : List Nat) : Prop := ∃ A c, v = .slice A xs.length c ∧ IntsAt w A xs ∧ xs.length ≤ c ∧ c ≤ maxLen
theorem HoldsI.below {w w' : World} {v : Value} {xs : List Nat} (h : HoldsI w v xs) (hb : Below w.heap.size w w') : HoldsI w' v xs := by
  obtain ⟨A, c, rfl, h1, h2, h3⟩ := h
  exact ⟨A, c, rfl, h1.below hb, h2, h3⟩
theorem HoldsI.nil (w : World) : HoldsI w (.slice none 0 0) [] := ⟨none, 0, rfl, SlAt.nil, by simp, by simp [maxLen]⟩
/-- A row of ints of the call's own. -/
abbrev RowI (W : World) (B : Nat) (v : Value) (xs : List Nat) : Prop := W.ownsRow B 3 1 v xs.length (cellsOf encI xs)
theorem HoldsI.of_own {w : World} {B : Nat} {v : Value} {xs : List Nat} (h : RowI w B v xs) : HoldsI w v xs := by
  obtain ⟨A, c, rfl, h1, h2, h3⟩ := SlAt.of_own encI_len h
  exact ⟨A, c, rfl, h3, h1, h2⟩
theorem own_below {w w' : World} {B : Nat} {e : TypeId} {v : Value} {n : Nat} {xs : List Value} (h : w.ownsRow B e 1 v n xs) (hb : Below w.heap.size w w') : w'.ownsRow B e 1 v n xs := own_keep h hb
theorem cellsI_set (l : List Nat) (j b : Nat) : (cellsOf encI l).set j (.int .i64 b) = cellsOf encI (l.set j b) := by
  induction l generalizing j with
  | nil => rfl
  | cons x r ih =>
    cases j with
    | zero => rfl
    | succ j =>
      show Value.int .i64 x :: (cellsOf encI r).set j _ = _
      rw [ih]; rfl
theorem cellsI_at (l : List Nat) (j : Nat) : (cellsOf encI l)[j]? = l[j]?.map fun b => Value.int .i64 (b : Int) := by
  induction l generalizing j with
  | nil => rfl
  | cons x r ih =>
    cases j with
    | zero => rfl
    | succ j => exact ih j
theorem cellsI_zero (n : Nat) : List.replicate n (Value.int .i64 0) = cellsOf encI (List.replicate n 0) := by
  induction n with
  | zero => rfl
  | succ n ih => rw [List.replicate_succ, List.replicate_succ, ih]; rfl
theorem RowI.made {W : World} {B : Nat} {v : Value} {n : Nat} (h : W.ownsRow B 3 1 v n (madeCells (Value.int .i64 0).cells (n * 1)).toList) : RowI W B v (List.replicate n 0) := by
  have e : (madeCells (Value.int .i64 0).cells (n * 1)).toList = cellsOf encI (List.replicate n 0) := by
    rw [Nat.mul_one, ← cellsI_zero]; exact toList_madeCells_one _ n
  rw [e] at h
  show W.ownsRow B _ 1 v (List.replicate n 0).length _
  rw [List.length_replicate]; exact h
/-- A row's cell. -/
theorem RowI.cell {W : World} {B g n c : Nat} {xs : List Nat} (h : W.ownsRow B 3 1 (.slice (some ⟨g, 0, none⟩) n c) n (cellsOf encI xs)) (hn : xs.length = n) {j : Nat} (hj : j < n) {x : Nat} (hx : xs[j]? = some x) : W.cell? ⟨g, j, none⟩ = some (.int .i64 (x : Int)) := by
  rw [h.cellAt j (by omega), cellsI_at, hx]; rfl

/-- A string's cell. -/
abbrev encS (l : List UInt8) : List Value := [.string ⟨l.toArray⟩]
theorem encS_len (x : List UInt8) : (encS x).length = 1 := rfl
theorem encS_one (x : List UInt8) : ∀ u ∈ encS x, u.oneCell' = true := by intro u hu; simp at hu; subst hu; rfl
theorem infoS : (Tryd.prog.info? 9).map (fun i => (i.zero, i.size, i.bytes)) = some (some (.string ⟨#[]⟩), 1, 16) := by kernel_rfl
abbrev StrsAt (w : World) (A : Option Addr) (xs : List (List UInt8)) : Prop := SlAt encS 1 w A xs
/-- A slice of strings that reads as a list. -/
def HoldsS (w : World) (v : Value) (xs : List (List UInt8)) : Prop := ∃ A c, v = .slice A xs.length c ∧ StrsAt w A xs ∧ xs.length ≤ c ∧ c ≤ maxLen
theorem HoldsS.below {w w' : World} {v : Value} {xs : List (List UInt8)} (h : HoldsS w v xs) (hb : Below w.heap.size w w') : HoldsS w' v xs := by
  obtain ⟨A, c, rfl, h1, h2, h3⟩ := h
  exact ⟨A, c, rfl, h1.below hb, h2, h3⟩
theorem HoldsS.nil (w : World) : HoldsS w (.slice none 0 0) [] := ⟨none, 0, rfl, SlAt.nil, by simp, by simp [maxLen]⟩
theorem SlAt.cell1 {α : Type} {f : α → Value} {w : World} {A : Option Addr} {xs : List α} (h : SlAt (fun x => [f x]) 1 w A xs) {j : Nat} (hj : j < xs.length) :
    ∃ b off, A = some ⟨b, off, none⟩ ∧ b < w.heap.size ∧ w.cell? ⟨b, off + j, none⟩ = some (f xs[j]) := by
  obtain ⟨b, off, rfl, hb, hc⟩ := h (by omega)
  exact ⟨b, off, rfl, hb, by simpa using hc j _ (List.getElem?_eq_getElem hj) 0 _ rfl⟩

/-- One element in a new block. -/
theorem SlAt.one {α : Type} {enc : α → List Value} {k : Nat} {w : World} {g : Nat} {x : α} {t : TypeId} (h : w.heap[g]? = some (.cells (enc x).toArray t (0, 0))) : SlAt enc k w (some ⟨g, 0, none⟩) [x] := fun _ =>
  ⟨g, 0, rfl, (Array.getElem?_eq_some_iff.1 h).1, fun j y hy i u hu => by
    match j, hy with
    | 0, hy => simp at hy; subst hy; rw [cell_of_row w g _ _ t (0, 0) h]; simpa using hu⟩
theorem ret_bool {a b : Bool} (h : a = b) : Ending.returned (.bool a) = .returned (.bool b) := by rw [h]
/-- The lists agree up to m. -/
def SameTo (xs ys : List Nat) (m : Nat) : Prop := ∀ j, j < m → xs[j]? = ys[j]?

set_option maxHeartbeats 1000000 in
theorem refSame (A B : Option Addr) (xs ys : List Nat) (cap cap' : Nat) (w : World) (hx : IntsAt w A xs) (hy : IntsAt w B ys) (hm : xs.length ≤ 100000) (hm' : ys.length ≤ 100000) :
    Calls Tryd.prog 25 #[.slice A xs.length cap, .slice B ys.length cap'] w (OneB (.bool (decide (xs = ys))) w) := by
  by_cases hl : xs.length = ys.length
  · have hl' : ((xs.length : Int) != (ys.length : Int)) = false := by simp [hl]
    have HL := Lib.hid hl; clear hl
    go_enter Tryd.func25, Tryd.ntmps25
    go_wp2_with fail
    go_loopw [5] (fun i wr => ∃ m : Nat, m ≤ xs.length ∧ i = .int .i64 m ∧ Below w.heap.size w wr ∧ Hid (SameTo xs ys m)) (fun i _ => xs.length - (intOf i).toNat)
    case atStart => exact ⟨0, by omega, rfl, Below.refl _ _, fun j h => by omega⟩
    case round =>
      obtain ⟨m, hk2, rfl, hb, hs⟩ := hrel
      by_cases hlt : m < xs.length
      · have hlt2 : m < ys.length := by have := HL.out; omega
        have i0 : (m : Int) < (xs.length : Int) := by omega
        obtain ⟨b, off, rfl, hbl, hc0⟩ := (SlAt.cell1 (f := fun n : Nat => Value.int .i64 n) (hx.below hb) (j := m) (by omega))
        obtain ⟨b', off', rfl, hbl', hd0⟩ := (SlAt.cell1 (f := fun n : Nat => Value.int .i64 n) (hy.below hb) (j := m) (by omega))
        have l0 := fun p => cell_far (p := p) hbl hc0
        have l2 := fun p => cell_far (p := p) hbl' hd0
        have HX := Lib.hid (List.getElem?_eq_getElem hlt)
        have HY := Lib.hid (List.getElem?_eq_getElem hlt2)
        clear hc0 hd0
        generalize xs[m] = x at *
        generalize ys[m] = y at *
        by_cases hq : x = y
        · subst hq
          go_wp2_with fail
          refine wp_region_far (by kernel_rfl) (by kernel_rfl) ?_
          repeat (go_big_quiet_step ((fail)))
          refine wpQuiet_nil ?_
          rintro _ ⟨p, rfl⟩
          go_wp2_with fail
          go_roundw
          case rel =>
            refine ⟨m + 1, by omega, by go_num, hb.trans ((below_far wr p).mono hb.size), (show Hid _ from fun j hj => ?_)⟩
            by_cases e : j = m
            · subst e; rw [HX.out, HY.out]
            · exact hs.out j (by omega)
          case measure => simp [intOf]; omega
        · have hne : ¬ xs = ys := fun e => by
            have h1 := HX.out
            have h2 := HY.out
            rw [e, h2] at h1
            cases h1
            exact hq rfl
          have HN := Lib.hid hne; clear hne
          have hq' : ((x : Int) != (y : Int)) = true := by simp only [bne_iff_ne]; omega
          clear hq
          go_wp2_with fail
          refine wp_region_far (by kernel_rfl) (by kernel_rfl) ?_
          repeat (go_big_quiet_step ((fail)))
          refine wpQuiet_nil ?_
          rintro _ ⟨p, rfl⟩
          go_wp2_with fail
          go_ret
          exact ⟨ret_bool (by simp [HN.out]), hb.trans ((below_far wr p).mono hb.size)⟩
      · have i0 : ¬ (m : Int) < (xs.length : Int) := by omega
        go_wp2_with fail
        go_ret
        refine ⟨ret_bool ?_, hb⟩
        have : xs = ys := List.ext_getElem? fun j => by
          by_cases e : j < m
          · exact hs.out j e
          · have := HL.out
            rw [List.getElem?_eq_none (by omega), List.getElem?_eq_none (by omega)]
        simp [this]
  · have hl' : ((xs.length : Int) != (ys.length : Int)) = true := by
      simp only [bne_iff_ne]
      omega
    have HL := Lib.hid hl; clear hl
    go_enter Tryd.func25, Tryd.ntmps25
    go_wp2_with fail
    go_ret
    refine ⟨ret_bool ?_, Below.refl _ _⟩
    have : ¬ xs = ys := fun e => HL.out (by rw [e])
    simp [this]

theorem hashAllowed (n : Nat) (w : World) (h1 : 1 ≤ n) (h2 : n ≤ 1024) : Calls Tryd.prog 26 #[.int .i64 (n : Int)] w (One (.bool true) w) := by
  have i1 : (1 : Int) ≤ (n : Int) := by omega
  have i2 : (n : Int) ≤ 1024 := by omega
  clear h1 h2
  go_enter Tryd.func26, Tryd.ntmps26
  go_wp2_with fail
  go_ret
  exact ⟨rfl, rfl⟩
theorem hashAllowedNo (n : Int) (w : World) (h : ¬ (1 ≤ n ∧ n ≤ 1024)) : Calls Tryd.prog 26 #[.int .i64 n] w (One (.bool false) w) := by
  by_cases i1 : 1 ≤ n
  · have i2 : ¬ n ≤ 1024 := fun h2 => h ⟨i1, h2⟩
    clear h
    go_enter Tryd.func26, Tryd.ntmps26
    go_wp2_with fail
    go_ret
    exact ⟨rfl, rfl⟩
  · clear h
    go_enter Tryd.func26, Tryd.ntmps26
    go_wp2_with fail
    go_ret
    exact ⟨rfl, rfl⟩
theorem refAllowed (n : Nat) (w : World) (h1 : 1 ≤ n) (h2 : n ≤ 1024) : Calls Tryd.prog 13 #[.int .i64 (n : Int)] w (One (.bool true) w) := by
  have i1 : (1 : Int) ≤ (n : Int) := by omega
  have i2 : (n : Int) ≤ 1024 := by omega
  clear h1 h2
  go_enter Tryd.func13, Tryd.ntmps13
  go_wp2_with fail
  go_ret
  exact ⟨rfl, rfl⟩
theorem refAllowedNo (n : Int) (w : World) (h : ¬ (1 ≤ n ∧ n ≤ 1024)) : Calls Tryd.prog 13 #[.int .i64 n] w (One (.bool false) w) := by
  by_cases i1 : 1 ≤ n
  · have i2 : ¬ n ≤ 1024 := fun h2 => h ⟨i1, h2⟩
    clear h
    go_enter Tryd.func13, Tryd.ntmps13
    go_wp2_with fail
    go_ret
    exact ⟨rfl, rfl⟩
  · clear h
    go_enter Tryd.func13, Tryd.ntmps13
    go_wp2_with fail
    go_ret
    exact ⟨rfl, rfl⟩

theorem OneB.two {k : IntKind} {a b : Int} {v : Value} {w w' : World} (h : a = b) (hb : Below w.heap.size w w') : OneB (.tuple #[.int k b, v]) w (.returned (.tuple #[.int k a, v])) w' := by subst h; exact ⟨rfl, hb⟩
theorem hashStripe (l : List UInt8) (n : Nat) (w : World) (hl : l.length ≤ 1000) (h1 : 1 ≤ n) (h2 : n ≤ 1024) (ht : SizesOK w) :
    Calls Tryd.prog 22 #[.string ⟨l.toArray⟩, .int .i64 (n : Int)] w (OneB (.tuple #[.int .i64 ((stripeN l n : Nat) : Int), .int .i64 0]) w) := by
  have HA := Lib.hid (hashAllowed n w h1 h2)
  have HS := Lib.hid (hashSum32 l w hl ht)
  have HE := Lib.hid (show stripeN l n = h32 l % n from rfl)
  have HL := Lib.hid (h32_lt l)
  have HN := Lib.hid (show 1 ≤ n ∧ n ≤ 1024 from ⟨h1, h2⟩)
  clear h1 h2 ht hl
  generalize stripeN l n = z at *
  generalize h32 l = y at *
  go_enter Tryd.func22, Tryd.ntmps22
  go_wp2_with fail
  refine HA.out.mono ?_
  rintro e w1 ⟨rfl, rfl⟩
  have e1 : IntKind.u32.wrap (n : Int) = (n : Int) := by have := HN.out; simp [IntKind.wrap, IntKind.bits, IntKind.signed]; omega
  go_wp2_with fail
  refine HS.out.mono ?_
  rintro e w1 ⟨rfl, hb⟩
  have HB := Lib.hid hb
  clear hb
  have n0 : ¬ (n : Int) = 0 := by have := HN.out; omega
  have e2 : RowKit.wrap64 ((y : Int) % (n : Int)) = (z : Int) := by
    rw [← Int.natCast_emod, ← HE.out]
    have hz : z < n := by rw [HE.out]; exact Nat.mod_lt _ (by have := HN.out; omega)
    have := HN.out
    simp [RowKit.wrap64]
    omega
  go_wp2_with fail
  go_ret2
  exact OneB.two e2 HB.out
theorem hashStripeNo (l : List UInt8) (n : Int) (w : World) (h : ¬ (1 ≤ n ∧ n ≤ 1024)) :
    Calls Tryd.prog 22 #[.string ⟨l.toArray⟩, .int .i64 n] w (One (.tuple #[.int .i64 0, .int .i64 2]) w) := by
  have HA := Lib.hid (hashAllowedNo n w h)
  clear h
  go_enter Tryd.func22, Tryd.ntmps22
  go_wp2_with fail
  refine HA.out.mono ?_
  rintro e w1 ⟨rfl, rfl⟩
  go_wp2_with fail
  go_ret2
  exact ⟨rfl, rfl⟩
theorem refStripe (l : List UInt8) (n : Nat) (w : World) (hl : l.length ≤ 1000) (h1 : 1 ≤ n) (h2 : n ≤ 1024) :
    Calls Tryd.prog 15 #[.string ⟨l.toArray⟩, .int .i64 (n : Int)] w (One (.int .i64 ((stripeN l n : Nat) : Int)) w) := by
  have HS := Lib.hid (refSum32 l w hl)
  have HE := Lib.hid (show stripeN l n = h32 l % n from rfl)
  have HL := Lib.hid (h32_lt l)
  have HN := Lib.hid (show 1 ≤ n ∧ n ≤ 1024 from ⟨h1, h2⟩)
  clear h1 h2 hl
  generalize stripeN l n = z at *
  generalize h32 l = y at *
  go_enter Tryd.func15, Tryd.ntmps15
  go_wp2_with fail
  refine HS.out.mono ?_
  rintro e w1 ⟨rfl, rfl⟩
  have n0 : ¬ (n : Int) = 0 := by have := HN.out; omega
  have e2 : (RowKit.wrap64 (y : Int)).tmod (n : Int) = (z : Int) := by
    have e3 : RowKit.wrap64 (y : Int) = (y : Int) := by have := HL.out; simp [RowKit.wrap64]; omega
    rw [e3, HE.out]
    rfl
  go_wp2_with fail
  go_ret
  exact ⟨rfl, rfl⟩

end Go.Proofs.YtmploibgmmeanaaDoor
