/- slices.BinarySearchFunc at items. -/
import Derived.Test.YtfbkhgajlklleaaGreatItmP
namespace Go.Proofs.YtfbkhgajlklleaaGreat
open Go.RowKit

set_option maxHeartbeats 400000 in
theorem put1 (x : ItV) (nm : List UInt8) (w : World) : Calls Tryz.prog 61 #[mkIt x, .string ⟨nm.toArray⟩] w (OneB (.int .i64 (Lib.compareBytes x.nm nm)) w) := by
  have H := Lib.hid fun W => strCompare x.nm nm W
  have HB := Lib.hid ((Below.refl w.heap.size w).alloc (Nat.le_refl _) (.cells #[.string ⟨x.nm.toArray⟩, .slice x.A x.ms.length x.c] 34))
  generalize Lib.compareBytes x.nm nm = z at *
  go_enter Tryz.func61, Tryz.ntmps61
  go_wp2_with fail
  refine (H.out _).mono ?_
  rintro e w1 ⟨rfl, rfl⟩
  go_wp2_with fail
  go_ret
  exact OneB.int rfl HB.out

set_option maxHeartbeats 2000000 in
theorem binarySearchI (A : Option Addr) (xs : List ItV) (cap : Nat) (nm : List UInt8) (w : World) (hx : ItemsAt w A xs) (hm : xs.length ≤ 1000000) (hs : IncN (its xs)) :
    Calls Tryz.prog 60 #[.slice A xs.length cap, .string ⟨nm.toArray⟩, .func (.func 61) #[] #[]] w fun e w' =>
      (∃ (i : Nat) (z : Value), e = .returned (.tuple #[.int .i64 (i : Int), z]) ∧ i ≤ xs.length ∧ (∀ (j : Nat) (y : ItV), j < i → xs[j]? = some y → beforeN y.nm nm = true) ∧ ∀ (j : Nat) (y : ItV), i ≤ j → xs[j]? = some y → beforeN y.nm nm = false) ∧ Below w.heap.size w w' := by
  have HX := Lib.hid hx
  have HS := Lib.hid hs
  clear hx hs
  go_enter Tryz.func60, Tryz.ntmps60
  go_wp2
  go_loopw [9, 10] (fun i j wr => ∃ a b : Nat, a ≤ b ∧ b ≤ xs.length ∧ i = .int .i64 a ∧ j = .int .i64 b ∧ Hid (Below w.heap.size w wr) ∧ Hid (∀ (j : Nat) (y : ItV), j < a → xs[j]? = some y → beforeN y.nm nm = true) ∧ Hid (∀ (j : Nat) (y : ItV), b ≤ j → xs[j]? = some y → beforeN y.nm nm = false)) (fun i j _ => (intOf j).toNat - (intOf i).toNat)
  case atStart => exact ⟨0, xs.length, by omega, by omega, rfl, rfl, Below.refl _ _, Lib.hid (fun j y h => by omega), Lib.hid (fun j y h hp => by rw [List.getElem?_eq_none h] at hp; cases hp)⟩
  case round =>
    obtain ⟨a, b, hab, hbn, rfl, rfl, hb, hlo, hhi⟩ := hrel
    by_cases hlt : a < b
    · obtain ⟨h, hh1, hh2⟩ : ∃ h : Nat, h * 2 ≤ a + b ∧ a + b < h * 2 + 2 := ⟨(a + b) / 2, by omega, by omega⟩
      have he : ((a : Int) + (b : Int)) / 2 = (h : Int) := by omega
      have HE := Lib.hid he; clear he
      obtain ⟨g, off, x, rfl, hbl, hx1, hxj, hc0, hc1, hok⟩ := (HX.out.below hb.out).cells (j := h) (by omega)
      have hr := fun W => put1 x nm W
      have hneg := cmpBytes_neg x.nm nm
      have HX1 := Lib.hid hx1
      clear hx1 hxj hok
      generalize hv : Lib.compareBytes x.nm nm = v at hr hneg
      clear hv
      have HR := Lib.hid hr; clear hr
      cases hq : beforeN x.nm nm
      · rw [hq] at hneg
        have hv0 : 0 ≤ v := by
          rcases Int.lt_or_le v 0 with h' | h'
          · exact absurd (hneg.1 h') (by simp)
          · exact h'
        have HQ := Lib.hid hq; clear hq hneg
        go_upto_region 5 with fail
        rw [HE.out]
        have i1 : (h : Int) < (xs.length : Int) := by omega
        go_wp2_with fail
        refine (HR.out _).mono ?_
        rintro e w1 ⟨rfl, hb1⟩
        have HB1 := Lib.hid (below_trans hb.out hb1)
        clear hb1 hc0 hc1
        go_wp2_with fail
        go_roundw
        case rel =>
          refine ⟨a, h, by omega, by omega, rfl, rfl, HB1, hlo, (show Hid _ from fun j p hj hp => ?_)⟩
          rcases Nat.lt_or_ge h j with h' | h'
          · have := HS.out.get (its_at HX1.out) (its_at hp) h'
            cases hc : beforeN p.nm nm
            · rfl
            · have := beforeN_trans this hc
              rw [show x.it.1 = x.nm from rfl, HQ.out] at this; cases this
          · obtain rfl : j = h := by omega
            rw [HX1.out] at hp; cases hp
            exact HQ.out
        case measure => simp [intOf]; omega
      · rw [hq] at hneg
        have hv0 : v < 0 := hneg.2 rfl
        have HQ := Lib.hid hq; clear hq hneg
        go_upto_region 5 with fail
        rw [HE.out]
        have i1 : (h : Int) < (xs.length : Int) := by omega
        go_wp2_with fail
        refine (HR.out _).mono ?_
        rintro e w1 ⟨rfl, hb1⟩
        have HB1 := Lib.hid (below_trans hb.out hb1)
        clear hb1 hc0 hc1
        go_wp2_with fail
        go_roundw
        case rel =>
          refine ⟨h + 1, b, by omega, by omega, by go_num, rfl, HB1, (show Hid _ from fun j p hj hp => ?_), hhi⟩
          rcases Nat.lt_or_ge j h with h' | h'
          · exact beforeN_trans (HS.out.get (its_at hp) (its_at HX1.out) h') HQ.out
          · obtain rfl : j = h := by omega
            rw [HX1.out] at hp; cases hp
            exact HQ.out
        case measure => simp [intOf]; omega
    · have hab' : a = b := by omega
      subst hab'
      by_cases hal : a < xs.length
      · have i1 : (a : Int) < (xs.length : Int) := by omega
        obtain ⟨g, off, x, rfl, hbl, hx1, hxj, hc0, hc1, hok⟩ := (HX.out.below hb.out).cells (j := a) (by omega)
        have HR := Lib.hid fun W => put1 x nm W
        clear hx1 hxj hok
        generalize Lib.compareBytes x.nm nm = v at HR
        go_wp2_with fail
        refine (HR.out _).mono ?_
        rintro e w1 ⟨rfl, hb1⟩
        have HB1 := Lib.hid (below_trans hb.out hb1)
        clear hb1 hc0 hc1
        go_wp2_with fail
        go_ret2
        exact ⟨⟨a, _, rfl, hbn, hlo.out, hhi.out⟩, HB1.out⟩
      · have i1 : ¬ (a : Int) < (xs.length : Int) := by omega
        go_wp2_with fail
        go_ret2
        first | exact ⟨⟨a, rfl, hbn, hlo.out, hhi.out⟩, hb.out⟩ | exact ⟨⟨a, ⟨_, rfl⟩, hbn, hlo.out, hhi.out⟩, hb.out⟩

end Go.Proofs.YtfbkhgajlklleaaGreat
