/- Sums of both; the laws' sums, newest, next; the reference's Same. -/
import Derived.Test.YtimamilmaobgcaaQtyE
import Derived.Test.YtimamilmaobgcaaQtyF
namespace Go.Proofs.Ytimamilmaobgcaa
open Go.RowKit

/-- A number's cell. -/
abbrev encZ (n : Int) : List Value := [.int .i64 n]
theorem encZ_len (x : Int) : (encZ x).length = 1 := rfl
theorem encZ_one (x : Int) : ∀ u ∈ encZ x, u.oneCell' = true := by intro u hu; simp at hu; subst hu; rfl
theorem infoZ : (Try.prog.info? 3).map (fun i => (i.zero, i.size, i.bytes)) = some (some (.int .i64 0), 1, 8) := by kernel_rfl
abbrev NumsAt (w : World) (A : Option Addr) (xs : List Int) : Prop := SlAt encZ 1 w A xs
/-- A slice of numbers that reads as a list. -/
def HoldsZ (w : World) (v : Value) (xs : List Int) : Prop := ∃ A c, v = .slice A xs.length c ∧ NumsAt w A xs ∧ xs.length ≤ c ∧ c ≤ maxLen
theorem HoldsZ.below {w w' : World} {v : Value} {xs : List Int} (h : HoldsZ w v xs) (hb : Below w.heap.size w w') : HoldsZ w' v xs := by
  obtain ⟨A, c, rfl, h1, h2, h3⟩ := h
  exact ⟨A, c, rfl, h1.below hb, h2, h3⟩
theorem HoldsZ.nil (w : World) : HoldsZ w (.slice none 0 0) [] := ⟨none, 0, rfl, SlAt.nil, by simp, by simp [maxLen]⟩

theorem totN_pos {l : List Int} {k : Nat} (h : ∀ (j : Nat) (x : Int), j < k → l[j]? = some x → qtyN x = true) : 0 ≤ totN (l.take k) ∧ totN (l.take k) ≤ 2147483647 * (k : Int) := by
  have ha : (l.take k).all qtyN = true := all_yes fun j x hj hx => by
    rw [List.getElem?_take] at hx
    split at hx
    · exact h j x (by assumption) hx
    · cases hx
  have := totN_bounds _ ha
  have h2 : (l.take k).length ≤ k := by rw [List.length_take]; omega
  omega

set_option maxHeartbeats 2000000 in
theorem qtySum (A : Option Addr) (xs : List Int) (cap : Nat) (s : Int) (n : Nat) (w : World) (hx : NumsAt w A xs) (hm : xs.length ≤ maxLen) (hv : sumV xs = (s, n)) :
    Calls Try.prog 28 #[.slice A xs.length cap] w (One (.tuple #[.int .i64 s, .int .i64 (n : Int)]) w) := by
  unfold maxLen at hm
  have HX := Lib.hid hx
  have HN := Lib.hid hv
  clear hx hv
  by_cases h0 : xs.length = 0
  · obtain rfl : xs = [] := List.eq_nil_of_length_eq_zero h0
    obtain ⟨rfl, rfl⟩ : 0 = s ∧ 9 = n := by have h := HN.out; cases h; exact ⟨rfl, rfl⟩
    clear HX HN hm h0
    go_enter Try.func28, Try.ntmps28
    go_wp2_with fail
    go_ret2
    exact ⟨rfl, rfl⟩
  · have hne : ((xs.length : Int) == 0) = false := by simp; intro h; exact h0 (by rw [h]; rfl)
    have hnn : xs ≠ [] := fun h => h0 (by rw [h]; rfl)
    go_enter Try.func28, Try.ntmps28
    go_wp2_with fail
    go_loopw [4, 6, 12] (fun a _ i wr => ∃ (k : Nat) (u : Int), k ≤ xs.length ∧ a = .int .i64 u ∧ i = .int .i64 k ∧ 0 ≤ u ∧ u ≤ 2147483647 ∧ wr = w ∧ Hid (totN (xs.take k) = u) ∧ Hid (∀ (j : Nat) (x : Int), j < k → xs[j]? = some x → qtyN x = true)) (fun _ _ i _ => xs.length - (intOf i).toNat)
    case atStart => exact ⟨0, 0, by omega, rfl, rfl, by omega, by omega, rfl, rfl, fun j y h => by omega⟩
    case round =>
      obtain ⟨k, u, hk, rfl, rfl, hu0, hu1, rfl, hs, ha⟩ := hrel
      by_cases hlt : k < xs.length
      · have i0 : (k : Int) < (xs.length : Int) := by omega
        obtain ⟨b, off, rfl, hbl, hc0⟩ := SlAt.cell1 (f := fun n : Int => Value.int .i64 n) HX.out hlt
        have hx1 := List.getElem?_eq_getElem hlt
        generalize xs[k] = q at *
        have hr := fun W => qtyValid q W
        cases hq : qtyN q with
        | false =>
          rw [hq] at hr
          have HR := Lib.hid hr
          have HF := Lib.hid (sumV_bad hx1 hq)
          clear hr hq hx1
          go_wp2_with fail
          refine (HR.out _).mono ?_
          rintro e w1 ⟨rfl, rfl⟩
          go_wp2_with fail
          go_ret2
          obtain ⟨rfl, rfl⟩ : 0 = s ∧ 14 = n := by have h := HN.out; rw [HF.out] at h; cases h; exact ⟨rfl, rfl⟩
          exact ⟨rfl, rfl⟩
        | true =>
          rw [hq] at hr
          have HR := Lib.hid hr
          have hq2 : 1 ≤ q ∧ q ≤ 2147483647 := by simpa [qtyN] using hq
          have hT : totN (xs.take (k + 1)) = u + q := by rw [take_step hx1, totN_snoc, hs.out]
          by_cases hg : 2147483647 - u < q
          · have HF := Lib.hid (sumV_great (l := xs) (k := k + 1) (by rw [hT]; omega))
            clear hr hq hx1 hT
            go_wp2_with fail
            refine (HR.out _).mono ?_
            rintro e w1 ⟨rfl, rfl⟩
            go_wp2_with fail
            go_ret2
            obtain ⟨rfl, rfl⟩ : 0 = s ∧ 14 = n := by have h := HN.out; rw [HF.out] at h; cases h; exact ⟨rfl, rfl⟩
            exact ⟨rfl, rfl⟩
          · have HT := Lib.hid hT
            have HA := Lib.hid (step_all ha.out hx1 hq)
            clear hr hq hx1 hT
            go_wp2_with fail
            refine (HR.out _).mono ?_
            rintro e w1 ⟨rfl, rfl⟩
            go_wp2_with fail
            go_roundw
            case rel => exact ⟨k + 1, u + q, by omega, by go_num, by go_num, by omega, by omega, trivial, HT, HA⟩
            case measure => simp [intOf]; omega
      · obtain rfl : k = xs.length := by omega
        have i0 : ¬ (xs.length : Int) < (xs.length : Int) := by omega
        rw [List.take_length] at hs
        have HF := Lib.hid (sumV_ok hnn (all_yes ha.out) (by rw [hs.out]; exact hu1))
        clear hlt hk
        go_wp2_with fail
        go_ret2
        obtain ⟨rfl, rfl⟩ : u = s ∧ 0 = n := by have h := HN.out; rw [HF.out, hs.out] at h; exact ⟨congrArg Prod.fst h, congrArg Prod.snd h⟩
        exact ⟨rfl, rfl⟩

set_option maxHeartbeats 2000000 in
theorem refSum (A : Option Addr) (xs : List Int) (cap : Nat) (s : Int) (n : Nat) (w : World) (hx : NumsAt w A xs) (hm : xs.length ≤ 100000) (hv : sumV xs = (s, n)) :
    Calls Try.prog 9 #[.slice A xs.length cap] w (One (.tuple #[.int .i64 s, .int .i64 (n : Int)]) w) := by
  have HX := Lib.hid hx
  have HN := Lib.hid hv
  clear hx hv
  by_cases h0 : xs.length = 0
  · obtain rfl : xs = [] := List.eq_nil_of_length_eq_zero h0
    obtain ⟨rfl, rfl⟩ : 0 = s ∧ 9 = n := by have h := HN.out; cases h; exact ⟨rfl, rfl⟩
    clear HX HN hm h0
    go_enter Try.func9, Try.ntmps9
    go_wp2_with fail
    go_ret2
    exact ⟨rfl, rfl⟩
  · have hne : ((xs.length : Int) == 0) = false := by simp; intro h; exact h0 (by rw [h]; rfl)
    have hnn : xs ≠ [] := fun h => h0 (by rw [h]; rfl)
    go_enter Try.func9, Try.ntmps9
    go_wp2_with fail
    go_loopw [4, 5] (fun a i wr => ∃ (k : Nat) (u : Int), k ≤ xs.length ∧ a = .int .i64 u ∧ i = .int .i64 k ∧ 0 ≤ u ∧ u ≤ 2147483647 * (k : Int) ∧ wr = w ∧ Hid (totN (xs.take k) = u) ∧ Hid (∀ (j : Nat) (x : Int), j < k → xs[j]? = some x → qtyN x = true)) (fun _ i _ => xs.length - (intOf i).toNat)
    case atStart => exact ⟨0, 0, by omega, rfl, rfl, by omega, by omega, rfl, rfl, fun j y h => by omega⟩
    case round =>
      obtain ⟨k, u, hk, rfl, rfl, hu0, hu1, rfl, hs, ha⟩ := hrel
      by_cases hlt : k < xs.length
      · have i0 : (k : Int) < (xs.length : Int) := by omega
        obtain ⟨b, off, rfl, hbl, hc0⟩ := SlAt.cell1 (f := fun n : Int => Value.int .i64 n) HX.out hlt
        have hx1 := List.getElem?_eq_getElem hlt
        generalize xs[k] = q at *
        have hr := fun W => refQty q W
        cases hq : qtyN q with
        | false =>
          rw [hq] at hr
          have HR := Lib.hid hr
          have HF := Lib.hid (sumV_bad hx1 hq)
          clear hr hq hx1
          go_wp2_with fail
          refine (HR.out _).mono ?_
          rintro e w1 ⟨rfl, rfl⟩
          go_wp2_with fail
          go_ret2
          obtain ⟨rfl, rfl⟩ : 0 = s ∧ 14 = n := by have h := HN.out; rw [HF.out] at h; cases h; exact ⟨rfl, rfl⟩
          exact ⟨rfl, rfl⟩
        | true =>
          rw [hq] at hr
          have HR := Lib.hid hr
          have hq2 : 1 ≤ q ∧ q ≤ 2147483647 := by simpa [qtyN] using hq
          have HT := Lib.hid (show totN (xs.take (k + 1)) = u + q from by rw [take_step hx1, totN_snoc, hs.out])
          have HA := Lib.hid (step_all ha.out hx1 hq)
          have hu2 : u + q ≤ 214748364700000 := by omega
          clear hr hq hx1
          go_wp2_with fail
          refine (HR.out _).mono ?_
          rintro e w1 ⟨rfl, rfl⟩
          go_wp2_with fail
          go_roundw
          case rel => exact ⟨k + 1, u + q, by omega, by go_num, by go_num, by omega, by omega, trivial, HT, HA⟩
          case measure => simp [intOf]; omega
      · obtain rfl : k = xs.length := by omega
        have i0 : ¬ (xs.length : Int) < (xs.length : Int) := by omega
        rw [List.take_length] at hs
        clear hlt hk
        by_cases hg : 2147483647 < u
        · have HF := Lib.hid (sumV_great (l := xs) (k := xs.length) (by rw [List.take_length, hs.out]; exact hg))
          go_wp2_with fail
          go_ret2
          obtain ⟨rfl, rfl⟩ : 0 = s ∧ 14 = n := by have h := HN.out; rw [HF.out] at h; cases h; exact ⟨rfl, rfl⟩
          exact ⟨rfl, rfl⟩
        · have HF := Lib.hid (sumV_ok hnn (all_yes ha.out) (by rw [hs.out]; omega))
          go_wp2_with fail
          go_ret2
          obtain ⟨rfl, rfl⟩ : u = s ∧ 0 = n := by have h := HN.out; rw [HF.out, hs.out] at h; exact ⟨congrArg Prod.fst h, congrArg Prod.snd h⟩
          exact ⟨rfl, rfl⟩

theorem lawSums (A : Option Addr) (xs : List Int) (cap : Nat) (s : Int) (n : Nat) (w : World) (hx : NumsAt w A xs) (hm : xs.length ≤ maxLen) (hv : sumV xs = (s, n)) :
    Calls Try.prog 14 #[.slice A xs.length cap, .int .i64 s, .int .i64 (n : Int)] w (One (.bool true) w) := by
  have H := Lib.hid (qtySum A xs cap s n w hx hm hv)
  clear hx hm hv
  go_enter Try.func14, Try.ntmps14
  go_wp2_with fail
  refine H.out.mono ?_
  rintro e w1 ⟨rfl, rfl⟩
  go_wp2_with fail
  go_ret
  exact ⟨rfl, rfl⟩
theorem lawNext (A : Option Addr) (xs : List Mk) (cap : Nat) (t n : Nat) (w : World) (hx : MarksAt w A xs) (hm : xs.length ≤ maxLen) (ht : ∀ m ∈ xs, m.t < 18446744073709551616) (hv : nextV validM xs = (t, n)) :
    Calls Try.prog 19 #[.slice A xs.length cap, .int .u64 (t : Int), .int .i64 (n : Int)] w (TrueB w) := by
  have H := Lib.hid (qtyNext A xs cap t n w hx hm ht hv)
  clear hx hm hv ht
  go_enter Try.func19, Try.ntmps19
  go_wp2_with fail
  refine H.out.mono ?_
  rintro e w1 ⟨rfl, hb⟩
  have HB := Lib.hid hb
  clear hb
  go_wp2_with fail
  go_ret
  exact ⟨rfl, HB.out⟩
set_option maxHeartbeats 1000000 in
theorem lawNewest (A : Option Addr) (xs : List Mk) (cap : Nat) (v : Mk) (n : Nat) (w : World) (hx : MarksAt w A xs) (hm : xs.length ≤ maxLen) (hv : newV validM xs = (v, n)) :
    Calls Try.prog 18 #[.slice A xs.length cap, mkV v, .int .i64 (n : Int)] w (TrueB w) := by
  have H := Lib.hid fun W hW => qtyNewest A xs cap v n W (hx.below hW) hm hv
  clear hx hm hv
  have hB0 := Lib.hid (BlkM.new w v)
  have hb0 := Lib.hid ((Below.refl w.heap.size w).alloc (Nat.le_refl _) (.cells #[.int .i64 v.r, .int .i64 v.c, .int .i64 v.q, .int .u64 (v.t : Int)] 26))
  go_enter Try.func18, Try.ntmps18
  go_wp2_with fail
  refine (H.out _ hb0.out).mono ?_
  rintro e w1 ⟨rfl, hb1⟩
  have hB1 := Lib.hid (hB0.out.below hb1)
  have hb2 := Lib.hid (below_trans hb0.out hb1)
  clear hb1 hB0 hb0 H
  have hlw := hB1.out.lt
  have c0 := hB1.out.cell0
  have c1 := hB1.out.cell1
  have c2 := hB1.out.cell2
  have c3 := hB1.out.cell3
  go_wp2_with fail
  go_ret
  exact ⟨rfl, hb2.out.alloc hb2.out.size _⟩

end Go.Proofs.Ytimamilmaobgcaa
