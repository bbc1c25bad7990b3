/- The laws QtyLists, QtyNewest. -/
import Derived.Test.YtimamilmaobgcaaQtyJ
namespace Go.Proofs.Ytimamilmaobgcaa
open Go.RowKit

set_option maxRecDepth 100000 in
set_option maxHeartbeats 2000000 in
theorem lawLists8 (A : Option Addr) (xs : List Mk) (c : Nat) (w : World) (hx : MarksAt w A xs) (hm : xs.length ≤ maxLen) :
    Calls Try.prog 6 #[.slice A xs.length c] w (TrueB w) := by
  unfold maxLen at hm
  by_cases h40 : 40 < xs.length
  · have i0 : (40 : Int) < (xs.length : Int) := by omega
    go_enter Try.func6, Try.ntmps6
    go_wp2_with fail
    refine (known8 _).mono ?_
    rintro e w1 ⟨rfl, hb⟩
    have HB := Lib.hid hb
    clear hb
    go_wp2_with fail
    go_ret
    exact ⟨rfl, HB.out⟩
  · have i0 : ¬ (40 : Int) < (xs.length : Int) := by omega
    have h41 : xs.length ≤ 100000 := by omega
    obtain ⟨b, hb⟩ : ∃ b, isSetB (dotsM xs) = b := ⟨_, rfl⟩
    have HX := Lib.hid hx
    have H1 := Lib.hid fun W (h : MarksAt W A xs) => qtyIsList A xs c b W h h41 hb
    have H2 := Lib.hid fun W (h : MarksAt W A xs) => refIsList A xs c b W h h41 hb
    have H3 := Lib.hid fun W (h : MarksAt W A xs) => qtyDots A xs c W h h41
    have H4 := Lib.hid fun W (h : MarksAt W A xs) => refDots A xs c W h h41
    have H5 := Lib.hid fun W v v' (h : Holds W v (dotsM xs)) (h' : Holds W v' (dotsM xs)) => refSame_h v v' (dotsM xs) W h h'
    clear hx hb h40 h41
    go_enter Try.func6, Try.ntmps6
    go_wp2_with fail
    refine (H1.out _ HX.out).mono ?_
    rintro e w1 ⟨rfl, hb⟩
    have B1 := Lib.hid hb
    clear hb
    go_wp2_with fail
    refine (H2.out _ (HX.out.below B1.out)).mono ?_
    rintro e w2 ⟨rfl, hb⟩
    have B2 := Lib.hid (below_trans B1.out hb)
    clear hb B1
    go_wp2_with fail
    refine (H3.out _ (HX.out.below B2.out)).mono ?_
    rintro e w3 ⟨⟨v, rfl, hv⟩, hb⟩
    have B3 := Lib.hid (below_trans B2.out hb)
    have HV := Lib.hid hv
    clear hb hv B2
    go_wp2_with fail
    refine (H4.out _ (HX.out.below B3.out)).mono ?_
    rintro e w4 ⟨⟨v', rfl, hv'⟩, hb⟩
    have B4 := Lib.hid (below_trans B3.out hb)
    have HV4 := Lib.hid (HV.out.below hb)
    have HV' := Lib.hid hv'
    clear hb hv' B3 HV
    go_wp2_with fail
    refine (H5.out _ _ _ HV4.out HV'.out).mono ?_
    rintro e w5 ⟨rfl, hb⟩
    have B5 := Lib.hid (below_trans B4.out hb)
    clear hb B4 HV4 HV'
    go_wp2_with fail
    refine (known8 _).mono ?_
    rintro e w6 ⟨rfl, hb⟩
    have B6 := Lib.hid (below_trans B5.out hb)
    clear hb B5
    go_wp2_with fail
    go_ret
    exact ⟨rfl, B6.out⟩

/-- A slice of marks in a row of the call's own. -/
abbrev RowM (W : World) (B : Nat) (v : Value) (xs : List Mk) : Prop := W.ownsRow B 26 4 v xs.length (cellsOf encM xs)

set_option maxRecDepth 100000 in
set_option maxHeartbeats 4000000 in
theorem lawNewest8 (A : Option Addr) (xs : List Mk) (c : Nat) (w : World) (hx : MarksAt w A xs) (hm : xs.length ≤ maxLen) (ht : ∀ m ∈ xs, m.t < 18446744073709551616) :
    Calls Try.prog 5 #[.slice A xs.length c] w (TrueB w) := by
  obtain ⟨ti0, hi0, hz0, hz1, hz2⟩ := info_parts infoM
  have hm0 := hm
  unfold maxLen at hm
  by_cases h40 : 40 < xs.length
  · have i0 : (40 : Int) < (xs.length : Int) := by omega
    go_enter Try.func5, Try.ntmps5
    go_wp2_with fail
    refine (known8 _).mono ?_
    rintro e w1 ⟨rfl, hb⟩
    have HB := Lib.hid hb
    clear hb
    go_wp2_with fail
    go_ret
    exact ⟨rfl, HB.out⟩
  · have i0 : ¬ (40 : Int) < (xs.length : Int) := by omega
    have h41 : xs.length ≤ 100000 := by omega
    have HX := Lib.hid hx
    have H1 := Lib.hid fun W (h : MarksAt W A xs) => refMarks A xs c W h hm0
    obtain ⟨v, n, hv⟩ : ∃ v n, newV validM xs = (v, n) := ⟨_, _, rfl⟩
    obtain ⟨t, k, hk⟩ : ∃ t k, nextV validM xs = (t, k) := ⟨_, _, rfl⟩
    have N1 := Lib.hid fun W B d (h : MarksAt W B xs) => lawNewest B xs d v n W h hm0 hv
    have N2 := Lib.hid fun W B d (h : MarksAt W B xs) => lawNext B xs d t k W h hm0 ht hk
    have N3 := Lib.hid fun W B d (h : MarksAt W A xs) (h' : MarksAt W B xs) => refSameM B A xs d c W h' h hm0
    clear hx h40
    cases ha : xs.all validM with
    | false =>
      obtain ⟨rfl, rfl⟩ : Mk.zero = v ∧ 2 = n := by rw [newV_bad ha] at hv; cases hv; exact ⟨rfl, rfl⟩
      obtain ⟨rfl, rfl⟩ : 0 = t ∧ 2 = k := by rw [nextV_bad ha] at hk; cases hk; exact ⟨rfl, rfl⟩
      rw [ha] at H1
      clear hv hk ha ht hm0
      go_enter Try.func5, Try.ntmps5
      go_wp2_with (at_builtin; refine wpList_append_sl _ encM 4 rfl (.const (.slice none 0 0)) (.tmp 12) 38 rfl encM_len (by omega) encM_one w.heap.size 26 ti0 _ 32 Try.underlying38 hi0 hz0 hz1 hz2 rfl (.slice none 0 0) [] rfl (World.ownsRow_nil _ _ _ _) A xs.length c xs rfl rfl HX.out (by simp [maxLen]; omega) (by simp; omega) (Nat.le_refl _) ?_; intro v1 w1 hown hg hat; rw [List.nil_append] at hown; have HB := Lib.hid ((Below.refl w.heap.size w).grown hg (Nat.le_refl _) (by simp [Value.ownBlock])); obtain ⟨D, d, rfl, _, _, hD⟩ := SlAt.of_own encM_len hown; have HD := Lib.hid hD; clear hown hg hat hD)
      clear hi0 hz0 hz1 hz2
      refine (H1.out _ (HX.out.below HB.out)).mono ?_
      rintro e w2 ⟨rfl, hb⟩
      have B2 := Lib.hid (below_trans HB.out hb)
      have D2 := Lib.hid (HD.out.below hb)
      clear hb HB HD
      go_wp2_with fail
      refine (N1.out _ _ d D2.out).mono ?_
      rintro e w3 ⟨rfl, hb⟩
      have B3 := Lib.hid (below_trans B2.out hb)
      have D3 := Lib.hid (D2.out.below hb)
      clear hb B2 D2
      go_wp2_with fail
      refine (N2.out _ _ d D3.out).mono ?_
      rintro e w4 ⟨rfl, hb⟩
      have B4 := Lib.hid (below_trans B3.out hb)
      clear hb B3 D3
      go_wp2_with fail
      refine (known8 _).mono ?_
      rintro e w5 ⟨rfl, hb⟩
      have B5 := Lib.hid (below_trans B4.out hb)
      clear hb B4
      go_wp2_with fail
      go_ret
      exact ⟨rfl, B5.out⟩
    | true =>
      rw [ha] at H1
      have R1 := Lib.hid fun W (h : MarksAt W A xs) => refNewest A xs c v n W h hm0 (by rw [← newV_R ha]; exact hv)
      have R2 := Lib.hid fun W (h : MarksAt W A xs) => refNext A xs c t k W h hm0 ht (by rw [← nextV_R ha]; exact hk)
      clear hv hk ha ht hm0
      go_enter Try.func5, Try.ntmps5
      go_wp2_with (at_builtin; refine wpList_append_sl _ encM 4 rfl (.const (.slice none 0 0)) (.tmp 12) 38 rfl encM_len (by omega) encM_one w.heap.size 26 ti0 _ 32 Try.underlying38 hi0 hz0 hz1 hz2 rfl (.slice none 0 0) [] rfl (World.ownsRow_nil _ _ _ _) A xs.length c xs rfl rfl HX.out (by simp [maxLen]; omega) (by simp; omega) (Nat.le_refl _) ?_; intro v1 w1 hown hg hat; rw [List.nil_append] at hown; have HB := Lib.hid ((Below.refl w.heap.size w).grown hg (Nat.le_refl _) (by simp [Value.ownBlock])); obtain ⟨D, d, rfl, _, _, hD⟩ := SlAt.of_own encM_len hown; have HD := Lib.hid hD; clear hown hg hat hD)
      clear hi0 hz0 hz1 hz2
      refine (H1.out _ (HX.out.below HB.out)).mono ?_
      rintro e w2 ⟨rfl, hb⟩
      have B2 := Lib.hid (below_trans HB.out hb)
      have D2 := Lib.hid (HD.out.below hb)
      clear hb HB HD
      go_wp2_with fail
      refine (R1.out _ (HX.out.below B2.out)).mono ?_
      rintro e w3 ⟨rfl, hb⟩
      have B3 := Lib.hid ((below_trans B2.out hb).alloc (below_trans B2.out hb).size (.cells #[.int .i64 v.r, .int .i64 v.c, .int .i64 v.q, .int .u64 (v.t : Int)] 26))
      have D3 := Lib.hid ((D2.out.below hb).below ((Below.refl _ w3).alloc (Nat.le_refl _) (.cells #[.int .i64 v.r, .int .i64 v.c, .int .i64 v.q, .int .u64 (v.t : Int)] 26)))
      have M3 := Lib.hid (BlkM.new w3 v)
      clear hb B2 D2
      go_wp2_with fail
      obtain ⟨g, hg⟩ : ∃ g, w3.heap.size = g := ⟨_, rfl⟩
      rw [hg] at M3 ⊢
      generalize World.alloc w3 _ = w4 at B3 D3 M3 ⊢
      clear hg
      refine (R2.out _ (HX.out.below B3.out)).mono ?_
      rintro e w5 ⟨rfl, hb⟩
      have B5 := Lib.hid (below_trans B3.out hb)
      have D5 := Lib.hid (D3.out.below hb)
      have M5 := Lib.hid (M3.out.below hb)
      clear hb B3 D3 M3
      have hlw := M5.out.lt
      have c0 := M5.out.cell0
      have c1 := M5.out.cell1
      have c2 := M5.out.cell2
      have c3 := M5.out.cell3
      go_wp2_with fail
      refine (N1.out _ _ d D5.out).mono ?_
      rintro e w6 ⟨rfl, hb⟩
      have B6 := Lib.hid (below_trans B5.out hb)
      have D6 := Lib.hid (D5.out.below hb)
      clear hb B5 D5 M5 c0 c1 c2 c3 hlw
      go_wp2_with fail
      refine (N2.out _ _ d D6.out).mono ?_
      rintro e w7 ⟨rfl, hb⟩
      have B7 := Lib.hid (below_trans B6.out hb)
      have D7 := Lib.hid (D6.out.below hb)
      clear hb B6 D6
      go_wp2_with fail
      refine (N3.out _ _ d (HX.out.below B7.out) D7.out).mono ?_
      rintro e w8 ⟨rfl, hb⟩
      have B8 := Lib.hid (below_trans B7.out hb)
      clear hb B7 D7
      go_wp2_with fail
      refine (known8 _).mono ?_
      rintro e w9 ⟨rfl, hb⟩
      have B9 := Lib.hid (below_trans B8.out hb)
      clear hb B8
      go_wp2_with fail
      go_ret
      exact ⟨rfl, B9.out⟩

end Go.Proofs.Ytimamilmaobgcaa
