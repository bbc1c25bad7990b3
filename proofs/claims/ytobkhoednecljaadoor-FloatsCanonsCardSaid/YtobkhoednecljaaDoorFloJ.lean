/- The law Holds, from package floats' contracts. -/
import Derived.Test.YtobkhoednecljaaDoorFloI
namespace Go.Proofs.YtobkhoednecljaaDoor
open Go.RowKit

theorem icmp_ltD {x y : Int} (h : compare x y = .lt) : x < y := by
  rcases Int.lt_trichotomy x y with h1 | h1 | h1
  · exact h1
  · subst h1; rw [icmp_eq] at h; cases h
  · rw [icmp_gt h1] at h; cases h
theorem icmp_gtD {x y : Int} (h : compare x y = .gt) : y < x := by
  rcases Int.lt_trichotomy x y with h1 | h1 | h1
  · rw [icmp_lt h1] at h; cases h
  · subst h1; rw [icmp_eq] at h; cases h
  · exact h1
theorem ord_num {a b : Nat} {o : Ordering} (h : Ieee.double.order a b = some o) : isNanF a = false ∧ isNanF b = false := by
  constructor
  · cases e : isNanF a with
    | false => rfl
    | true => rw [order_nanL e] at h; cases h
  · cases e : isNanF b with
    | false => rfl
    | true => rw [order_nanR e] at h; cases h
theorem ord_lt {a b : Nat} (ha : a < 18446744073709551616) (hb : b < 18446744073709551616) (h : Ieee.double.order a b = some .lt) : cmpF a b = -1 := by
  obtain ⟨na, nb⟩ := ord_num h
  rw [orderF ha hb na nb] at h
  have := val_key ha hb (icmp_ltD (by injection h))
  unfold cmpF; rw [if_pos this]
theorem ord_gt {a b : Nat} (ha : a < 18446744073709551616) (hb : b < 18446744073709551616) (h : Ieee.double.order a b = some .gt) : cmpF a b = 1 := by
  obtain ⟨na, nb⟩ := ord_num h
  rw [orderF ha hb na nb] at h
  have := val_key hb ha (icmp_gtD (by injection h))
  unfold cmpF; rw [if_neg (by omega), if_pos this]
theorem ord_self {a : Nat} (ha : a < 18446744073709551616) (na : isNanF a = false) : Ieee.double.order a a = some .eq := by
  rw [orderF ha ha na na, icmp_eq]
theorem magF_zero : magF 0 = 0 := by decide
theorem valF_canon {a : Nat} (na : isNanF a = false) : valF (canonF a) = valF a ∧ isNanF (canonF a) = false := by
  have h1 : ¬ infF < a % 9223372036854775808 := by unfold isNanF at na; exact of_decide_eq_false na
  unfold canonF
  rw [if_neg h1]
  by_cases h2 : a % 9223372036854775808 = 0
  · rw [if_pos h2]
    refine ⟨?_, by decide⟩
    unfold valF
    rw [h2]
    simp [magF_zero]
  · rw [if_neg h2]; exact ⟨rfl, na⟩
theorem ord_canon {a : Nat} (ha : a < 18446744073709551616) (na : isNanF a = false) : Ieee.double.order (canonF a) a = some .eq := by
  obtain ⟨h1, h2⟩ := valF_canon na
  rw [orderF (canonF_lt ha) ha h2 na, h1, icmp_eq]
theorem same_canon (a : Nat) : sameF a (canonF a) = true := by unfold sameF; rw [canonF_idem]; simp
theorem sorted_le {xs : List Nat} {k : Nat} (h : k + 1 < (sortF xs).length) : cmpF ((sortF xs)[k]'(by omega)) ((sortF xs)[k + 1]) ≤ 0 := by
  have h1 := List.pairwise_iff_getElem.1 (sortF_sorted xs) k (k + 1) (by omega) h (by omega)
  unfold leF at h1
  unfold cmpF
  split
  · decide
  · rw [if_neg (by omega)]; decide
/-- How two values compare, and what of it the law asks. -/
theorem cmp_cases {a b : Nat} (ha : a < 18446744073709551616) (hb : b < 18446744073709551616) :
    (cmpF a b = -1 ∧ cmpF b a = 1 ∧ ((a : Int) == (b : Int)) = false ∧ (FloatKind.f64.format.order a b == some Ordering.lt) = true ∧ (FloatKind.f64.format.order a b == some Ordering.gt) = false) ∨
    (cmpF a b = -1 ∧ cmpF b a = 1 ∧ ((a : Int) == (b : Int)) = false ∧ (FloatKind.f64.format.order a b == some Ordering.lt) = false ∧ (FloatKind.f64.format.order a b == some Ordering.gt) = false) ∨
    (cmpF a b = 1 ∧ cmpF b a = -1 ∧ ((a : Int) == (b : Int)) = false ∧ (FloatKind.f64.format.order a b == some Ordering.lt) = false ∧ (FloatKind.f64.format.order a b == some Ordering.gt) = true) ∨
    (cmpF a b = 1 ∧ cmpF b a = -1 ∧ ((a : Int) == (b : Int)) = false ∧ (FloatKind.f64.format.order a b == some Ordering.lt) = false ∧ (FloatKind.f64.format.order a b == some Ordering.gt) = false) ∨
    (cmpF a b = 0 ∧ cmpF b a = 0 ∧ ((a : Int) == (b : Int)) = true ∧ (FloatKind.f64.format.order a b == some Ordering.lt) = false ∧ (FloatKind.f64.format.order a b == some Ordering.gt) = false) := by
  have hs := cmpF_swap b a
  have hz := cmpF_zero ha hb
  have e1 : FloatKind.f64.format = Ieee.double := rfl
  rw [e1]
  have hl : (Ieee.double.order a b == some Ordering.lt) = true → cmpF a b = -1 := fun h => ord_lt ha hb (by simpa using h)
  have hg : (Ieee.double.order a b == some Ordering.gt) = true → cmpF a b = 1 := fun h => ord_gt ha hb (by simpa using h)
  have hc : cmpF a b = -1 ∨ cmpF a b = 1 ∨ cmpF a b = 0 := by unfold cmpF; split <;> (try split) <;> simp
  have hab : cmpF a b ≠ 0 → ((a : Int) == (b : Int)) = false := fun h => by
    have : ¬ a = b := fun e => h (hz.2 e)
    simp; omega
  rcases hc with h | h | h
  · have h2 : cmpF b a = 1 := by rw [hs, h]; rfl
    have h3 := hab (by rw [h]; decide)
    cases e2 : Ieee.double.order a b == some Ordering.gt with
    | true => rw [hg e2] at h; cases h
    | false =>
      cases e3 : Ieee.double.order a b == some Ordering.lt with
      | true => exact .inl ⟨h, h2, h3, rfl, rfl⟩
      | false => exact .inr (.inl ⟨h, h2, h3, rfl, rfl⟩)
  · have h2 : cmpF b a = -1 := by rw [hs, h]
    have h3 := hab (by rw [h]; decide)
    cases e3 : Ieee.double.order a b == some Ordering.lt with
    | true => rw [hl e3] at h; cases h
    | false =>
      cases e2 : Ieee.double.order a b == some Ordering.gt with
      | true => exact .inr (.inr (.inl ⟨h, h2, h3, rfl, rfl⟩))
      | false => exact .inr (.inr (.inr (.inl ⟨h, h2, h3, rfl, rfl⟩)))
  · have h2 : cmpF b a = 0 := by rw [hs, h]; rfl
    have h3 : ((a : Int) == (b : Int)) = true := by rw [hz.1 h]; simp
    cases e3 : Ieee.double.order a b == some Ordering.lt with
    | true => rw [hl e3] at h; cases h
    | false =>
      cases e2 : Ieee.double.order a b == some Ordering.gt with
      | true => rw [hg e2] at h; cases h
      | false => exact .inr (.inr (.inr (.inr ⟨h, h2, h3, rfl, rfl⟩)))
/-- What the law asks of a value and of its canonical value. -/
theorem can_cases {a : Nat} (ha : a < 18446744073709551616) :
    ((FloatKind.f64.format.order a a == some Ordering.eq) = true ∧ (FloatKind.f64.format.order a a != some Ordering.eq) = false ∧ (FloatKind.f64.format.order (canonF a) a != some Ordering.eq) = false) ∨
    ((FloatKind.f64.format.order a a == some Ordering.eq) = false ∧ (FloatKind.f64.format.order a a != some Ordering.eq) = true ∧ (FloatKind.f64.format.order (canonF a) (canonF a) == some Ordering.eq) = false) := by
  have e1 : FloatKind.f64.format = Ieee.double := rfl
  rw [e1]
  cases na : isNanF a with
  | false => rw [ord_self ha na, ord_canon ha na]; exact .inl ⟨rfl, rfl, rfl⟩
  | true => rw [order_nanL na, canonF_nan na, order_nanL (show isNanF nanF = true from by decide)]; exact .inr ⟨rfl, rfl, rfl⟩

set_option maxRecDepth 100000 in
set_option maxHeartbeats 4000000 in
theorem lawHolds13 (a b : Nat) (A : Option Addr) (xs : List Nat) (cap : Nat) (w : World) (hf : FloOK w) (hk : KnownF w) (ha : a < 18446744073709551616) (hb : b < 18446744073709551616) (hx : NumsU w A xs) (hv : ∀ x ∈ xs, x < 18446744073709551616) :
    Calls Tryd.prog 8 #[.int .u64 (a : Int), .int .u64 (b : Int), .slice A xs.length cap] w (OneB (.bool true) w) := by
  have HF := Lib.hid hf
  have HK := Lib.hid hk
  have HX := Lib.hid hx
  have HV := Lib.hid hv
  have HA := Lib.hid ha
  have HBB := Lib.hid hb
  have HB := Lib.hid (Below.refl w.heap.size w)
  clear hf hk hx hv ha hb
  by_cases h40 : xs.length ≤ 40
  · have i0 : ¬ (40 : Int) < (xs.length : Int) := by omega
    go_enter Tryd.func8, Tryd.ntmps8
    go_wp2_with fail
    refine (lawOf13 a _).mono ?_
    rintro e y1 ⟨rfl, rfl⟩
    go_wp2_with fail
    refine (lawOf13 b _).mono ?_
    rintro e y2 ⟨rfl, rfl⟩
    have HKF := Lib.hid fun W hW => HF.out.key a W hW HA.out
    have HKI := Lib.hid fun W hW => HF.out.inv (keyF a) W hW (keyF_lt HA.out)
    rw [of_keyF HA.out] at HKI
    have HOF := Lib.hid fun W hW => HF.out.inv a W hW HA.out
    have HOK := Lib.hid fun W hW => HF.out.key (ofF a) W hW (ofF_lt HA.out)
    rw [key_ofF HA.out] at HOK
    have HTX := Lib.hid fun W hW => HF.out.txt a W hW HA.out
    have HPL := Lib.hid fun W hW => lawParses13 (hexL 16 a) a 0 a 0 w HF.out W hW (by rw [hexL_len]; decide) (.inl ⟨prsF_hex HA.out, rfl⟩) rfl rfl
    change Hid (∀ W, Below w.heap.size w W → Calls _ _ #[.string (txtF a), _, _] W _) at HPL
    generalize txtF a = ta at HTX HPL
    generalize keyF a = ka at HKF HKI
    generalize ofF a = oa at HOF HOK
    go_wp2_with fail
    refine (HKF.out _ HB.out).mono ?_
    rintro e w3 ⟨rfl, hb⟩
    replace HB := Lib.hid (below_trans HB.out hb)
    clear hb
    go_wp2_with fail
    refine (HKI.out _ HB.out).mono ?_
    rintro e w4 ⟨rfl, hb⟩
    replace HB := Lib.hid (below_trans HB.out hb)
    clear hb
    go_wp2_with fail
    refine (lawIs13_v a a true _ (by simp)).mono ?_
    rintro e y5 ⟨rfl, rfl⟩
    go_wp2_with fail
    refine (HOF.out _ HB.out).mono ?_
    rintro e w6 ⟨rfl, hb⟩
    replace HB := Lib.hid (below_trans HB.out hb)
    clear hb
    go_wp2_with fail
    refine (HOK.out _ HB.out).mono ?_
    rintro e w7 ⟨rfl, hb⟩
    replace HB := Lib.hid (below_trans HB.out hb)
    clear hb
    go_wp2_with fail
    refine (HTX.out _ HB.out).mono ?_
    rintro e w8 ⟨rfl, hb⟩
    replace HB := Lib.hid (below_trans HB.out hb)
    clear hb
    go_wp2_with fail
    refine (HPL.out _ HB.out).mono ?_
    rintro e w9 ⟨rfl, hb⟩
    replace HB := Lib.hid (below_trans HB.out hb)
    clear hb
    clear HKF HKI HOF HOK HTX HPL
    go_upto_region 6 with fail
    have HCC := Lib.hid fun W hW => HF.out.cmp a b W hW HA.out HBB.out
    have HCD := Lib.hid fun W hW => HF.out.cmp b a W hW HBB.out HA.out
    go_cut [80] (fun v wx => v = .bool false ∧ Hid (Below w.heap.size w wx))
    case first =>
      rcases cmp_cases HA.out HBB.out with ⟨c1, c2, c3, c4, c5⟩ | ⟨c1, c2, c3, c4, c5⟩ | ⟨c1, c2, c3, c4, c5⟩ | ⟨c1, c2, c3, c4, c5⟩ | ⟨c1, c2, c3, c4, c5⟩
      · rw [c1] at HCC
        rw [c2] at HCD
        clear c1 c2
        go_wp2_with fail
        refine (HCC.out _ HB.out).mono ?_
        rintro e w10 ⟨rfl, hb⟩
        replace HB := Lib.hid (below_trans HB.out hb)
        clear hb
        go_wp2_with fail
        refine (HCC.out _ HB.out).mono ?_
        rintro e w11 ⟨rfl, hb⟩
        replace HB := Lib.hid (below_trans HB.out hb)
        clear hb
        go_wp2_with fail
        refine (HCD.out _ HB.out).mono ?_
        rintro e w12 ⟨rfl, hb⟩
        replace HB := Lib.hid (below_trans HB.out hb)
        clear hb
        go_wp2_with fail
        refine (HCC.out _ HB.out).mono ?_
        rintro e w13 ⟨rfl, hb⟩
        replace HB := Lib.hid (below_trans HB.out hb)
        clear hb
        go_wp2_with fail
        go_meet
        exact ⟨rfl, HB⟩
      · rw [c1] at HCC
        rw [c2] at HCD
        clear c1 c2
        go_wp2_with fail
        refine (HCC.out _ HB.out).mono ?_
        rintro e w14 ⟨rfl, hb⟩
        replace HB := Lib.hid (below_trans HB.out hb)
        clear hb
        go_wp2_with fail
        refine (HCD.out _ HB.out).mono ?_
        rintro e w15 ⟨rfl, hb⟩
        replace HB := Lib.hid (below_trans HB.out hb)
        clear hb
        go_wp2_with fail
        refine (HCC.out _ HB.out).mono ?_
        rintro e w16 ⟨rfl, hb⟩
        replace HB := Lib.hid (below_trans HB.out hb)
        clear hb
        go_wp2_with fail
        go_meet
        exact ⟨rfl, HB⟩
      · rw [c1] at HCC
        rw [c2] at HCD
        clear c1 c2
        go_wp2_with fail
        refine (HCC.out _ HB.out).mono ?_
        rintro e w17 ⟨rfl, hb⟩
        replace HB := Lib.hid (below_trans HB.out hb)
        clear hb
        go_wp2_with fail
        refine (HCC.out _ HB.out).mono ?_
        rintro e w18 ⟨rfl, hb⟩
        replace HB := Lib.hid (below_trans HB.out hb)
        clear hb
        go_wp2_with fail
        refine (HCD.out _ HB.out).mono ?_
        rintro e w19 ⟨rfl, hb⟩
        replace HB := Lib.hid (below_trans HB.out hb)
        clear hb
        go_wp2_with fail
        refine (HCC.out _ HB.out).mono ?_
        rintro e w20 ⟨rfl, hb⟩
        replace HB := Lib.hid (below_trans HB.out hb)
        clear hb
        go_wp2_with fail
        go_meet
        exact ⟨rfl, HB⟩
      · rw [c1] at HCC
        rw [c2] at HCD
        clear c1 c2
        go_wp2_with fail
        refine (HCC.out _ HB.out).mono ?_
        rintro e w21 ⟨rfl, hb⟩
        replace HB := Lib.hid (below_trans HB.out hb)
        clear hb
        go_wp2_with fail
        refine (HCD.out _ HB.out).mono ?_
        rintro e w22 ⟨rfl, hb⟩
        replace HB := Lib.hid (below_trans HB.out hb)
        clear hb
        go_wp2_with fail
        refine (HCC.out _ HB.out).mono ?_
        rintro e w23 ⟨rfl, hb⟩
        replace HB := Lib.hid (below_trans HB.out hb)
        clear hb
        go_wp2_with fail
        go_meet
        exact ⟨rfl, HB⟩
      · rw [c1] at HCC
        rw [c2] at HCD
        clear c1 c2
        go_wp2_with fail
        refine (HCC.out _ HB.out).mono ?_
        rintro e w24 ⟨rfl, hb⟩
        replace HB := Lib.hid (below_trans HB.out hb)
        clear hb
        go_wp2_with fail
        refine (HCD.out _ HB.out).mono ?_
        rintro e w25 ⟨rfl, hb⟩
        replace HB := Lib.hid (below_trans HB.out hb)
        clear hb
        go_wp2_with fail
        refine (HCC.out _ HB.out).mono ?_
        rintro e w26 ⟨rfl, hb⟩
        replace HB := Lib.hid (below_trans HB.out hb)
        clear hb
        go_wp2_with fail
        go_meet
        exact ⟨rfl, HB⟩
    case rest =>
      clear HB HCC HCD
      obtain ⟨rfl, HB⟩ := hcut
      have HC1 := Lib.hid fun W hW => HF.out.can a W hW HA.out
      have HC2 := Lib.hid fun W hW => HF.out.can (canonF a) W hW (canonF_lt HA.out)
      rw [canonF_idem] at HC2
      have HSA := Lib.hid fun W hW => HF.out.sam a (canonF a) W hW HA.out (canonF_lt HA.out)
      rw [same_canon] at HSA
      have HCN := Lib.hid (can_cases HA.out)
      generalize canonF a = ca at HC1 HC2 HSA HCN
      go_wp2_with fail
      refine (HC1.out _ HB.out).mono ?_
      rintro e w27 ⟨rfl, hb⟩
      replace HB := Lib.hid (below_trans HB.out hb)
      clear hb
      go_upto_region 9 with fail
      have hd := run_toBits ca
      go_cut [114] (fun v wx => v = .bool false ∧ Hid (Below w.heap.size w wx))
      case first =>
        rcases HCN.out with ⟨c1, c2, c3⟩ | ⟨c1, c2, c3⟩
        · skip
          go_wp2_with fail
          refine (HC2.out _ HB.out).mono ?_
          rintro e w28 ⟨rfl, hb⟩
          replace HB := Lib.hid (below_trans HB.out hb)
          clear hb
          go_wp2_with fail
          refine (lawIs13_v ca ca true _ (by simp)).mono ?_
          rintro e y29 ⟨rfl, rfl⟩
          go_wp2_with fail
          refine (HSA.out _ HB.out).mono ?_
          rintro e w30 ⟨rfl, hb⟩
          replace HB := Lib.hid (below_trans HB.out hb)
          clear hb
          go_wp2_with fail
          go_meet
          exact ⟨rfl, HB⟩
        · skip
          go_wp2_with fail
          refine (HC2.out _ HB.out).mono ?_
          rintro e w31 ⟨rfl, hb⟩
          replace HB := Lib.hid (below_trans HB.out hb)
          clear hb
          go_wp2_with fail
          refine (lawIs13_v ca ca true _ (by simp)).mono ?_
          rintro e y32 ⟨rfl, rfl⟩
          go_wp2_with fail
          refine (HSA.out _ HB.out).mono ?_
          rintro e w33 ⟨rfl, hb⟩
          replace HB := Lib.hid (below_trans HB.out hb)
          clear hb
          go_wp2_with fail
          go_meet
          exact ⟨rfl, HB⟩
      case rest =>
        clear HB HC1 HC2 HSA HCN hd
        obtain ⟨rfl, HB⟩ := hcut
        obtain ⟨ss, hss⟩ : ∃ ss, sortF xs = ss := ⟨_, rfl⟩
        have hsl : ss.length = xs.length := by rw [← hss]; exact sortF_len xs
        have hs40 : ss.length ≤ 40 := by omega
        have hsv : ∀ x ∈ ss, x < 18446744073709551616 := fun x hx => HV.out x (sortF_mem.1 (by rw [hss]; exact hx))
        have HSV := Lib.hid hsv
        have HS := Lib.hid hss
        have HLE := Lib.hid (show ∀ (k : Nat) (h : k + 1 < ss.length), cmpF (ss[k]'(by omega)) ss[k + 1] ≤ 0 from by subst hss; exact fun k h => sorted_le h)
        have HSL := Lib.hid hsl
        clear hss hsl hsv
        go_wp2_with fail
        refine (refValues13 A xs cap _ (HX.out.below HB.out) (by omega)).mono ?_
        rintro e w1 ⟨v1, rfl, h1⟩
        obtain ⟨D1, d1, rfl, _, _, hn1⟩ := SlAt.of_own encG_len h1.1
        have HN1 := Lib.hid hn1
        replace HB := Lib.hid (below_trans HB.out h1.2)
        clear h1 hn1
        go_wp2_with fail
        have hq := HF.out.srt D1 xs d1 _ HB.out HN1.out (by omega) HV.out
        rw [HS.out] at hq
        refine hq.mono ?_
        clear hq
        rintro e w2 ⟨v2, rfl, h2⟩
        obtain ⟨D2, d2, rfl, _, _, hn2⟩ := SlAt.of_own encG_len h2.1
        replace HB := Lib.hid (below_trans HB.out h2.2)
        have HN2 := Lib.hid hn2
        clear h2 hn2 HN1
        go_wp2_with fail
        go_loopw [11] (fun i wr => ∃ k : Nat, 1 ≤ k ∧ k ≤ ss.length + 1 ∧ i = .int .i64 k ∧ Hid (Below w2.heap.size w2 wr)) (fun i _ => ss.length + 1 - (intOf i).toNat)
        case atStart => exact ⟨1, by omega, by omega, rfl, Lib.hid (Below.refl _ _)⟩
        case round =>
          obtain ⟨k, hk1, hk2, rfl, HC⟩ := hrel
          by_cases hlt : k < ss.length
          · have i1 : (k : Int) < (ss.length : Int) := by omega
            obtain ⟨j, rfl⟩ : ∃ j, k = j + 1 := ⟨k - 1, by omega⟩
            obtain ⟨g, off, rfl, hbl, hc0⟩ := (SlAt.cell1 (f := fun n : Nat => Value.float .f64 n) (HN2.out.below HC.out) (j := j) (by omega))
            obtain ⟨_, _, e0, _, hc1⟩ := (SlAt.cell1 (f := fun n : Nat => Value.float .f64 n) (HN2.out.below HC.out) (j := j + 1) hlt)
            cases e0
            have l0 := fun p => cell_far (p := p) hbl hc0
            have l1 := fun p => cell_far (p := p) hbl hc1
            have hle := HLE.out j hlt
            have hcm := fun W hW => HF.out.cmp (ss[j]'(by omega)) (ss[j + 1]) W hW (HSV.out _ (List.getElem_mem _)) (HSV.out _ (List.getElem_mem _))
            generalize cmpF (ss[j]'(by omega)) (ss[j + 1]) = c at hle hcm
            have HCM := Lib.hid hcm
            have i2 : ¬ (0 : Int) < c := by omega
            have i3 : ((j + 1 : Nat) : Int) - 1 = (j : Int) := by omega
            have HBR := Lib.hid (below_trans HB.out HC.out)
            generalize (ss[j]'(by omega)) = x at hc0 l0 HCM
            generalize ss[j + 1] = y at hc1 l1 HCM
            clear hle hcm hc0 hc1
            go_wp2_with fail
            refine wp_region_far (by kernel_rfl) (by kernel_rfl) ?_
            repeat (go_big_quiet_step ((go_at_call 15; exact OneB.far (HCM.out _ (below_trans HBR.out (below_far _ _))))))
            refine wpQuiet_nil ?_
            rintro _ ⟨p, rfl⟩
            go_wp2_with fail
            go_roundw
            case rel => exact ⟨j + 1 + 1, by omega, by omega, by go_num, HC.out.trans ((below_far wr p).mono HC.out.size)⟩
            case measure => simp [intOf]; omega
          · have i1 : ¬ (k : Int) < (ss.length : Int) := by omega
            have HBR := Lib.hid (below_trans HB.out HC.out)
            obtain ⟨t, ht⟩ : ∃ t, sumF ss = t := ⟨_, rfl⟩
            have hq := HF.out.sum D2 ss d2 wr HBR.out (HN2.out.below HC.out) (by omega) HSV.out
            have htl := sumF_lt HSV.out
            have htc := sumF_canon ss
            rw [ht] at hq htl htc
            have HCT := Lib.hid fun W hW => HF.out.can t W hW htl
            rw [htc] at HCT
            have HQ := Lib.hid hq
            have hd := run_toBits t
            have hsl : ((ss.length : Int) == (xs.length : Int)) = true := by rw [HSL.out]; simp
            clear hq htl htc ht HB HC hlt
            go_wp2_with fail
            refine HQ.out.mono ?_
            rintro e w3 ⟨rfl, hb⟩
            have HB := Lib.hid (below_trans HBR.out hb)
            clear hb HQ
            go_wp2_with fail
            refine (HCT.out _ HB.out).mono ?_
            rintro e w34 ⟨rfl, hb⟩
            replace HB := Lib.hid (below_trans HB.out hb)
            clear hb
            go_wp2_with fail
            refine (lawIs13_v t t true _ (by simp)).mono ?_
            rintro e y35 ⟨rfl, rfl⟩
            go_wp2_with fail
            refine (HK.out _ HB.out).mono ?_
            rintro e w36 ⟨rfl, hb⟩
            replace HB := Lib.hid (below_trans HB.out hb)
            clear hb
            go_wp2_with fail
            go_ret
            exact ⟨rfl, HB.out⟩
  · have i0 : (40 : Int) < (xs.length : Int) := by omega
    clear h40
    go_enter Tryd.func8, Tryd.ntmps8
    go_wp2_with fail
    refine (HK.out _ HB.out).mono ?_
    rintro e wb ⟨rfl, hb⟩
    replace HB := Lib.hid (below_trans HB.out hb)
    clear hb
    go_wp2_with fail
    go_ret
    exact ⟨rfl, HB.out⟩

end Go.Proofs.YtobkhoednecljaaDoor
