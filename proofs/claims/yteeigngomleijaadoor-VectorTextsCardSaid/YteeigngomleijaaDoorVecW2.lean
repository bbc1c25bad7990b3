/- The law of texts of layer 2 returns true. -/
import Derived.Test.YteeigngomleijaaDoorVecW1
namespace Go.Proofs.YteeigngomleijaaDoor
open Go.RowKit

theorem ref2Text_h (v : Value) (xs : List (Int × Int)) (s : ByteArray) (w : World) (h : Holds w v xs) (hm : xs.length ≤ 100000) (hv : validV xs = true) (hs : s = ⟨(textVL xs).toArray⟩) :
    Calls Tryd.prog 43 #[v] w fun e w' => e = .returned (.string s) ∧ Below w.heap.size w w' := by
  obtain ⟨A, c, rfl, h1, h2, h3⟩ := h
  subst hs
  exact ref2Text A xs c w h1 hm ((validV_iff xs).1 hv).1


set_option maxRecDepth 100000 in
set_option maxHeartbeats 4000000 in
theorem lawVectorTexts (A : Option Addr) (xs : List (Int × Int)) (c : Nat) (s : ByteArray) (w : World) (hx : Holds w (.slice A xs.length c) xs) (ht : TabOK w) (hsm : s.size ≤ maxLen) :
    Calls Tryd.prog 8 #[.slice A xs.length c, .string s] w fun e w' => e = .returned (.bool true) ∧ Below w.heap.size w w' := by
  have LX : xs.length ≤ maxLen := by obtain ⟨_, _, h, _, h2, h3⟩ := hx; omega
  unfold maxLen at LX hsm
  have KN := Lib.hid fun W (h : TabOK W) => known2 W h
  have HX := Lib.hid hx
  have HT := Lib.hid ht
  clear hx ht
  by_cases h1 : xs.length ≤ 40
  · have t1 : ¬ (40 < (xs.length : Int)) := by omega
    by_cases h2 : s.size ≤ 300
    · have t2 : ¬ (300 < (s.size : Int)) := by omega
      have P2 := fun W => ref2Parse s W (by omega)
      have hPB : ∀ o, parseVL s.data.toList = o → isB (parP (parseVL s.data.toList)) (parP o).1 (parP o).2 = true := by
        rintro o rfl; simp [isB]
      obtain ⟨o, ho⟩ : ∃ o, o = parseVL s.data.toList := ⟨_, rfl⟩
      have hPB := hPB o ho.symm
      rw [← ho] at P2
      have HPB := Lib.hid hPB
      have HP2 := Lib.hid P2
      have LS := Lib.hid (show s.size ≤ 1000 by omega)
      clear hPB P2 ho h2
      cases hv : validV xs with
      | false =>
        have HV := Lib.hid (ref2Valid_h _ xs false w HX.out hv)
        have HTX := Lib.hid fun W (h : Holds W (.slice A xs.length c) xs) (ht : TabOK W) => lawTexts2 _ xs ⟨#[]⟩ 2 true W h ht (by omega) (by unfold txtP; rw [hv]; simp)
        clear hv
        go_enter Tryd.func8, Tryd.ntmps8
        go_wp2_with fail
        refine HV.out.mono ?_
        rintro e w1 ⟨rfl, hb1⟩
        have HB1 := Lib.hid hb1
        clear hb1
        go_wp2_with fail
        refine (HTX.out _ (HX.out.below HB1.out) (HT.out.below HB1.out)).mono ?_
        rintro e w2 ⟨rfl, hb2⟩
        have HB2 := Lib.hid (below_trans HB1.out hb2)
        clear hb2
        go_wp2_with fail
        refine (HP2.out _).mono ?_
        rintro e w3 ⟨hR, hb3⟩
        have HB3 := Lib.hid (below_trans HB2.out hb3)
        clear hb3
        cases o with
        | none =>
          obtain rfl := hR.2 rfl
          clear hR
          go_wp2_with fail
          refine (lawParses2 s _ [] 6 true _ (Holds.nil _) LS.out HPB.out).mono ?_
          rintro e w4 ⟨rfl, hb4⟩
          have HB4 := Lib.hid (below_trans HB3.out hb4)
          clear hb4
          go_wp2_with fail
          refine (KN.out _ (HT.out.below HB4.out)).mono ?_
          rintro e w5 ⟨rfl, hb5⟩
          have HB5 := Lib.hid (below_trans HB4.out hb5)
          clear hb5
          go_wp2_with fail
          go_ret
          exact ⟨rfl, HB5.out⟩
        | some ys =>
          obtain ⟨x, rfl, hx⟩ := hR.1 _ rfl
          have HX2 := Lib.hid hx
          clear hR hx
          go_wp2_with fail
          refine (lawParses2 s x ys 0 true _ HX2.out LS.out HPB.out).mono ?_
          rintro e w4 ⟨rfl, hb4⟩
          have HB4 := Lib.hid (below_trans HB3.out hb4)
          clear hb4
          go_wp2_with fail
          refine (KN.out _ (HT.out.below HB4.out)).mono ?_
          rintro e w5 ⟨rfl, hb5⟩
          have HB5 := Lib.hid (below_trans HB4.out hb5)
          clear hb5
          go_wp2_with fail
          go_ret
          exact ⟨rfl, HB5.out⟩
      | true =>
        have HV := Lib.hid (ref2Valid_h _ xs true w HX.out hv)
        obtain ⟨tx, htx⟩ : ∃ tx : ByteArray, tx = ⟨(textVL xs).toArray⟩ := ⟨_, rfl⟩
        have HRT := Lib.hid fun W (h : Holds W (.slice A xs.length c) xs) => ref2Text_h _ xs tx W h (by omega) hv htx
        have HTX := Lib.hid fun W (h : Holds W (.slice A xs.length c) xs) (ht : TabOK W) => lawTexts2 _ xs tx 0 true W h ht (by omega) (by unfold txtP; rw [hv, htx]; simp)
        clear hv htx
        go_enter Tryd.func8, Tryd.ntmps8
        go_wp2_with fail
        refine HV.out.mono ?_
        rintro e w1 ⟨rfl, hb1⟩
        have HB1 := Lib.hid hb1
        clear hb1
        go_wp2_with fail
        refine (HRT.out _ (HX.out.below HB1.out)).mono ?_
        rintro e w1' ⟨rfl, hb1⟩
        have HB1' := Lib.hid (below_trans HB1.out hb1)
        clear hb1
        go_wp2_with fail
        refine (HTX.out _ (HX.out.below HB1'.out) (HT.out.below HB1'.out)).mono ?_
        rintro e w2 ⟨rfl, hb2⟩
        have HB2 := Lib.hid (below_trans HB1'.out hb2)
        clear hb2
        go_wp2_with fail
        refine (HP2.out _).mono ?_
        rintro e w3 ⟨hR, hb3⟩
        have HB3 := Lib.hid (below_trans HB2.out hb3)
        clear hb3
        cases o with
        | none =>
          obtain rfl := hR.2 rfl
          clear hR
          go_wp2_with fail
          refine (lawParses2 s _ [] 6 true _ (Holds.nil _) LS.out HPB.out).mono ?_
          rintro e w4 ⟨rfl, hb4⟩
          have HB4 := Lib.hid (below_trans HB3.out hb4)
          clear hb4
          go_wp2_with fail
          refine (KN.out _ (HT.out.below HB4.out)).mono ?_
          rintro e w5 ⟨rfl, hb5⟩
          have HB5 := Lib.hid (below_trans HB4.out hb5)
          clear hb5
          go_wp2_with fail
          go_ret
          exact ⟨rfl, HB5.out⟩
        | some ys =>
          obtain ⟨x, rfl, hx⟩ := hR.1 _ rfl
          have HX2 := Lib.hid hx
          clear hR hx
          go_wp2_with fail
          refine (lawParses2 s x ys 0 true _ HX2.out LS.out HPB.out).mono ?_
          rintro e w4 ⟨rfl, hb4⟩
          have HB4 := Lib.hid (below_trans HB3.out hb4)
          clear hb4
          go_wp2_with fail
          refine (KN.out _ (HT.out.below HB4.out)).mono ?_
          rintro e w5 ⟨rfl, hb5⟩
          have HB5 := Lib.hid (below_trans HB4.out hb5)
          clear hb5
          go_wp2_with fail
          go_ret
          exact ⟨rfl, HB5.out⟩
    · have t2 : 300 < (s.size : Int) := by omega
      go_enter Tryd.func8, Tryd.ntmps8
      go_wp2_with (go_at_call 25; refine (KN.out _ HT.out).mono ?_; rintro e w1 ⟨rfl, hb⟩)
      go_ret
      exact ⟨rfl, hb⟩
  · have t1 : 40 < (xs.length : Int) := by omega
    go_enter Tryd.func8, Tryd.ntmps8
    go_wp2_with (go_at_call 25; refine (KN.out _ HT.out).mono ?_; rintro e w1 ⟨rfl, hb⟩)
    go_ret
    exact ⟨rfl, hb⟩

end Go.Proofs.YteeigngomleijaaDoor
