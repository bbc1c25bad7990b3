/- Marks: ==, Compare of both, lists of marks in memory, which of them are valid. -/
import Derived.Test.YtfbkhgajlklleaaGreatQtyA
namespace Go.Proofs.YtfbkhgajlklleaaGreat
open Go.RowKit

set_option maxHeartbeats 1000000 in
theorem eqInDot (d : Nat) (r c r' c' : Int) (w : World) : (Op.equalIn (d + 2) 29 (.agg #[.int .i64 r, .int .i64 c]) (.agg #[.int .i64 r', .int .i64 c'])).run Tryz.prog w = .ok (r == r' && c == c') w := by
  have hS : Tryz.prog.underlying 29 = some (.struct (Tryz.prog.fieldsOf 29)) := by kernel_rfl
  have hp : Tryz.prog.stoodInHeld 29 = false := by kernel_rfl
  rw [run_equalIn_agg w (d + 1) 29 _ _ hS hp]
  simp only [Program.fieldsOf, Tryz.underlying29]
  go_simp
  by_cases h1 : r = r' <;> by_cases h2 : c = c' <;> simp [h1, h2]
set_option maxHeartbeats 1000000 in
theorem eqInMark (d : Nat) (a b : Mk) (w : World) : (Op.equalIn (d + 3) 62 (mkV a) (mkV b)).run Tryz.prog w = .ok (decide (a = b)) w := by
  obtain ⟨r, c, q, t⟩ := a
  obtain ⟨r', c', q', t'⟩ := b
  have hS : Tryz.prog.underlying 62 = some (.struct (Tryz.prog.fieldsOf 62)) := by kernel_rfl
  have hp : Tryz.prog.stoodInHeld 62 = false := by kernel_rfl
  have hD := fun w => eqInDot d r c r' c' w
  rw [run_equalIn_agg w (d + 2) 62 _ _ hS hp]
  simp only [Program.fieldsOf, Tryz.underlying62]
  go_simp
  have ht : ((t : Int) = (t' : Int)) = (t = t') := by rw [Int.natCast_inj]
  simp only [ht]
  by_cases h1 : r = r' <;> by_cases h2 : c = c' <;> by_cases h3 : q = q' <;> by_cases h4 : t = t' <;> simp [h1, h2, h3, h4]
/-- '==' and '!=' of two marks. -/
theorem eqlMark (a b : Mk) (w : World) : (binOp .eql 62 (mkV a) (mkV b)).run Tryz.prog w = .ok (.bool (decide (a = b))) w := by
  rw [run_eql_struct, show (10000 : Nat) = 9997 + 3 from rfl, eqInMark]; rfl
theorem neqMark (a b : Mk) (w : World) : (binOp .neq 62 (mkV a) (mkV b)).run Tryz.prog w = .ok (.bool (!decide (a = b))) w := by
  rw [run_neq_struct, show (10000 : Nat) = 9997 + 3 from rfl, eqInMark]; rfl
theorem eqlMarkE (r c q : Int) (t : Nat) (r' c' q' : Int) (t' : Nat) (b : Bool) (h : decide ((⟨r, c, q, t⟩ : Mk) = ⟨r', c', q', t'⟩) = b) (w : World) :
    (binOp .eql 62 (.agg #[.int .i64 r, .int .i64 c, .int .i64 q, .int .u64 (t : Int)]) (.agg #[.int .i64 r', .int .i64 c', .int .i64 q', .int .u64 (t' : Int)])).run Tryz.prog w = .ok (.bool b) w := by
  subst h; exact eqlMark ⟨r, c, q, t⟩ ⟨r', c', q', t'⟩ w

set_option maxHeartbeats 1000000 in
theorem qtyCompare (a b : Mk) (w : World) : Calls Tryz.prog 104 #[mkV a, mkV b] w (OneB (.int .i64 (cmpN a b)) w) := by
  obtain ⟨v, hv⟩ : ∃ v, cmpN a b = v := ⟨_, rfl⟩
  have hn := fun W => qtyNewer a b W
  have hc : v = if a = b then 0 else if newerN a b then 1 else -1 := by
    rw [← hv]
    by_cases h : a = b
    · rw [if_pos h, (cmpN_zero a b).2 h]
    · rw [if_neg h]
      cases h2 : newerN a b with
      | true => rw [(cmpN_one a b).2 h2]; rfl
      | false => 
        rcases cmpN_cases a b with k | k | k
        · rw [(cmpN_one a b).1 k] at h2; cases h2
        · rw [k]; rfl
        · exact absurd ((cmpN_zero a b).1 k) h
  rw [hv]
  generalize newerN a b = x at hn hc
  have HN := Lib.hid hn
  clear hn hv
  by_cases hab : a = b
  · rw [if_pos hab] at hc
    subst hc
    subst hab
    obtain ⟨r, c, q, t⟩ := a
    go_enter Tryz.func104, Tryz.ntmps104
    go_wp2_with fail
    go_ret
    exact ⟨rfl, ((Below.refl _ _).alloc (Nat.le_refl _) _).alloc (by simp) _⟩
  · rw [if_neg hab] at hc
    obtain ⟨r, c, q, t⟩ := a
    obtain ⟨r', c', q', t'⟩ := b
    have HC := Lib.hid hc
    clear hc
    by_cases h1 : r = r'
    · subst h1
      by_cases h2 : c = c'
      · subst h2
        by_cases h3 : q = q'
        · subst h3
          have h4 : ¬ (t : Int) = (t' : Int) := fun h => hab (by rw [Int.natCast_inj] at h; rw [h])
          clear hab
          cases x with
          | true =>
            go_enter Tryz.func104, Tryz.ntmps104
            go_wp2_with fail
            refine (HN.out _).mono ?_
            rintro e w1 ⟨rfl, hb1⟩
            have HB := Lib.hid (below_trans (((Below.refl _ w).alloc (Nat.le_refl _) _).alloc (by simp) _) hb1)
            clear hb1
            go_wp2_with fail
            go_ret
            exact ⟨by rw [HC.out]; rfl, HB.out⟩
          | false =>
            go_enter Tryz.func104, Tryz.ntmps104
            go_wp2_with fail
            refine (HN.out _).mono ?_
            rintro e w1 ⟨rfl, hb1⟩
            have HB := Lib.hid (below_trans (((Below.refl _ w).alloc (Nat.le_refl _) _).alloc (by simp) _) hb1)
            clear hb1
            go_wp2_with fail
            go_ret
            exact ⟨by rw [HC.out]; rfl, HB.out⟩
        · clear hab
          cases x with
          | true =>
            go_enter Tryz.func104, Tryz.ntmps104
            go_wp2_with fail
            refine (HN.out _).mono ?_
            rintro e w1 ⟨rfl, hb1⟩
            have HB := Lib.hid (below_trans (((Below.refl _ w).alloc (Nat.le_refl _) _).alloc (by simp) _) hb1)
            clear hb1
            go_wp2_with fail
            go_ret
            exact ⟨by rw [HC.out]; rfl, HB.out⟩
          | false =>
            go_enter Tryz.func104, Tryz.ntmps104
            go_wp2_with fail
            refine (HN.out _).mono ?_
            rintro e w1 ⟨rfl, hb1⟩
            have HB := Lib.hid (below_trans (((Below.refl _ w).alloc (Nat.le_refl _) _).alloc (by simp) _) hb1)
            clear hb1
            go_wp2_with fail
            go_ret
            exact ⟨by rw [HC.out]; rfl, HB.out⟩
      · clear hab
        cases x with
        | true =>
          go_enter Tryz.func104, Tryz.ntmps104
          go_wp2_with fail
          refine (HN.out _).mono ?_
          rintro e w1 ⟨rfl, hb1⟩
          have HB := Lib.hid (below_trans (((Below.refl _ w).alloc (Nat.le_refl _) _).alloc (by simp) _) hb1)
          clear hb1
          go_wp2_with fail
          go_ret
          exact ⟨by rw [HC.out]; rfl, HB.out⟩
        | false =>
          go_enter Tryz.func104, Tryz.ntmps104
          go_wp2_with fail
          refine (HN.out _).mono ?_
          rintro e w1 ⟨rfl, hb1⟩
          have HB := Lib.hid (below_trans (((Below.refl _ w).alloc (Nat.le_refl _) _).alloc (by simp) _) hb1)
          clear hb1
          go_wp2_with fail
          go_ret
          exact ⟨by rw [HC.out]; rfl, HB.out⟩
    · clear hab
      cases x with
      | true =>
        go_enter Tryz.func104, Tryz.ntmps104
        go_wp2_with fail
        refine (HN.out _).mono ?_
        rintro e w1 ⟨rfl, hb1⟩
        have HB := Lib.hid (below_trans (((Below.refl _ w).alloc (Nat.le_refl _) _).alloc (by simp) _) hb1)
        clear hb1
        go_wp2_with fail
        go_ret
        exact ⟨by rw [HC.out]; rfl, HB.out⟩
      | false =>
        go_enter Tryz.func104, Tryz.ntmps104
        go_wp2_with fail
        refine (HN.out _).mono ?_
        rintro e w1 ⟨rfl, hb1⟩
        have HB := Lib.hid (below_trans (((Below.refl _ w).alloc (Nat.le_refl _) _).alloc (by simp) _) hb1)
        clear hb1
        go_wp2_with fail
        go_ret
        exact ⟨by rw [HC.out]; rfl, HB.out⟩

theorem encM_len (m : Mk) : (encM m).length = 4 := rfl
theorem encM_one (m : Mk) : ∀ u ∈ encM m, u.oneCell' = true := by
  intro u hu
  simp [encM] at hu
  rcases hu with rfl | rfl | rfl | rfl <;> rfl
theorem infoM : (Tryz.prog.info? 62).map (fun i => (i.zero, i.size, i.bytes)) = some (some (.agg #[.int .i64 0, .int .i64 0, .int .i64 0, .int .u64 0]), 4, 32) := by kernel_rfl
abbrev MarksAt (w : World) (A : Option Addr) (xs : List Mk) : Prop := SlAt encM 4 w A xs
/-- A slice of marks that reads as a list. -/
def HoldsM (w : World) (v : Value) (xs : List Mk) : Prop := ∃ A c, v = .slice A xs.length c ∧ MarksAt w A xs ∧ xs.length ≤ c ∧ c ≤ maxLen
theorem HoldsM.below {w w' : World} {v : Value} {xs : List Mk} (h : HoldsM w v xs) (hb : Below w.heap.size w w') : HoldsM w' v xs := by
  obtain ⟨A, c, rfl, h1, h2, h3⟩ := h
  exact ⟨A, c, rfl, h1.below hb, h2, h3⟩
theorem HoldsM.nil (w : World) : HoldsM w (.slice none 0 0) [] := ⟨none, 0, rfl, SlAt.nil, by simp, by simp [maxLen]⟩
theorem HoldsM.at {w : World} {A : Option Addr} {n c : Nat} {xs : List Mk} (h : HoldsM w (.slice A n c) xs) : n = xs.length ∧ MarksAt w A xs ∧ xs.length ≤ maxLen := by
  obtain ⟨_, _, e, h1, h2, h3⟩ := h
  cases e
  exact ⟨rfl, h1, by omega⟩
theorem SlAt.mark {w : World} {A : Option Addr} {xs : List Mk} (h : MarksAt w A xs) {j : Nat} (hj : j < xs.length) :
    ∃ b off, ∃ m : Mk, A = some ⟨b, off, none⟩ ∧ b < w.heap.size ∧ xs[j]? = some m ∧ xs[j] = m ∧ w.cell? ⟨b, off + j * 4, none⟩ = some (.int .i64 m.r) ∧ w.cell? ⟨b, off + j * 4 + 1, none⟩ = some (.int .i64 m.c) ∧ w.cell? ⟨b, off + j * 4 + 2, none⟩ = some (.int .i64 m.q) ∧ w.cell? ⟨b, off + j * 4 + 3, none⟩ = some (.int .u64 (m.t : Int)) := by
  obtain ⟨b, off, rfl, hb, hc⟩ := h (by omega)
  have hx := List.getElem?_eq_getElem hj
  exact ⟨b, off, xs[j], rfl, hb, hx, rfl, by simpa using hc j _ hx 0 _ rfl, hc j _ hx 1 _ rfl, hc j _ hx 2 _ rfl, hc j _ hx 3 _ rfl⟩

end Go.Proofs.YtfbkhgajlklleaaGreat
