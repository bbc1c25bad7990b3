/- The laws CrcTexts and CrcJoins. -/
import Derived.Test.YtkloheabbbpboabDoorCrcZ
namespace Go.Proofs.YtkloheabbbpboabDoor
open Go.RowKit

set_option maxRecDepth 100000 in
set_option maxHeartbeats 1000000 in
theorem lawTexts5 (s : Nat) (l : List UInt8) (w : World) (hs : s < 4294967296) (ht : LaidOK w) :
    Calls Tryd.prog 5 #[.int .u32 (s : Int), .string ⟨l.toArray⟩] w (TrueB w) := by
  have K0 := Lib.hid (show KK w w from ⟨Below.refl _ _, ht⟩)
  have HT := Lib.hid ht
  have HS := Lib.hid hs
  clear ht hs
  by_cases h60 : 60 < l.length
  · have z0 : (60 : Int) < (l.length : Int) := by omega
    clear h60
    go_enter Tryd.func5, Tryd.ntmps5
    go_wp2_with fail
    refine (known5 _ HT.out).mono ?_
    rintro e w1 ⟨rfl, hk⟩
    have K1 := Lib.hid hk
    clear hk
    go_wp2_with fail
    go_ret
    exact ⟨rfl, K1.out.1⟩
  · have z0 : ¬ (60 : Int) < (l.length : Int) := by omega
    have HL := Lib.hid (show l.length ≤ 1000 from by omega)
    clear h60
    obtain ⟨t, htx⟩ : ∃ t, txt s = t := ⟨_, rfl⟩
    have HTX := Lib.hid htx
    clear htx
    go_enter Tryd.func5, Tryd.ntmps5
    go_wp2_with fail
    refine (textLit s t w w HS.out K0.out HTX.out).mono ?_
    rintro e w1 ⟨rfl, hk⟩
    have K1 := Lib.hid hk
    clear hk K0
    go_wp2_with fail
    have HR := Lib.hid (refText s w1 HS.out)
    rw [HTX.out] at HR
    refine HR.out.mono ?_
    rintro e w2 ⟨rfl, rfl⟩
    clear HR
    go_wp2_with fail
    refine (refParse l _ HL.out).mono ?_
    rintro e w2 ⟨rfl, rfl⟩
    cases hp : prs l with
    | none =>
      have HP := Lib.hid hp
      clear hp
      go_wp2_with fail
      refine (parseLit l 0 6 w _ HL.out K1.out (.inr ⟨HP.out, rfl, rfl⟩)).mono ?_
      rintro e w3 ⟨rfl, hk⟩
      have K3 := Lib.hid hk
      clear hk K1
      go_wp2_with fail
      refine (known5 _ K3.out.2).mono ?_
      rintro e w4 ⟨rfl, hk⟩
      have K4 := Lib.hid (below_trans K3.out.1 hk.1)
      clear hk K3
      go_wp2_with fail
      go_ret
      exact ⟨rfl, K4.out⟩
    | some n =>
      have HP := Lib.hid hp
      clear hp
      go_wp2_with fail
      refine (parseLit l n 0 w _ HL.out K1.out (.inl ⟨HP.out, rfl⟩)).mono ?_
      rintro e w3 ⟨rfl, hk⟩
      have K3 := Lib.hid hk
      clear hk K1
      go_wp2_with fail
      refine (known5 _ K3.out.2).mono ?_
      rintro e w4 ⟨rfl, hk⟩
      have K4 := Lib.hid (below_trans K3.out.1 hk.1)
      clear hk K3
      go_wp2_with fail
      go_ret
      exact ⟨rfl, K4.out⟩

set_option maxRecDepth 100000 in
set_option maxHeartbeats 1000000 in
theorem lawJoins5 (a b : Nat) (len : Int) (w : World) (ha : a < 4294967296) (hb : b < 4294967296) (ht : LaidOK w) :
    Calls Tryd.prog 3 #[.int .u32 (a : Int), .int .u32 (b : Int), .int .i64 len] w (TrueB w) := by
  have HT := Lib.hid ht
  have HA := Lib.hid (show a < 4294967296 ∧ b < 4294967296 from ⟨ha, hb⟩)
  clear ht ha hb
  have fin : ∀ W, KK w W → Calls Tryd.prog 8 #[] W fun e w' => e = .returned (.bool true) ∧ Below w.heap.size w w' := fun W K => (known5 W K.2).mono fun e w' ⟨he, hk⟩ => ⟨he, below_trans K.1 hk.1⟩
  have FIN := Lib.hid fin
  clear fin
  by_cases h0 : len < 0
  · skip
    go_enter Tryd.func3, Tryd.ntmps3
    go_wp2_with fail
    refine (lawJoins _ _ _ _ _ _ (crcJoinArg _ _ len w (.inl h0))).mono ?_
    rintro e w1 ⟨rfl, rfl⟩
    go_wp2_with fail
    refine (FIN.out _ ⟨Below.refl _ _, HT.out⟩).mono ?_
    rintro e w4 ⟨rfl, hk⟩
    have K4 := Lib.hid hk
    clear hk
    go_wp2_with fail
    go_ret
    exact ⟨rfl, K4.out⟩
  · by_cases h1 : 16777216 < len
    · skip
      go_enter Tryd.func3, Tryd.ntmps3
      go_wp2_with fail
      refine (lawJoins _ _ _ _ _ _ (crcJoinArg _ _ len w (.inr h1))).mono ?_
      rintro e w1 ⟨rfl, rfl⟩
      go_wp2_with fail
      refine (FIN.out _ ⟨Below.refl _ _, HT.out⟩).mono ?_
      rintro e w4 ⟨rfl, hk⟩
      have K4 := Lib.hid hk
      clear hk
      go_wp2_with fail
      go_ret
      exact ⟨rfl, K4.out⟩
    · by_cases h3 : 3000 < len
      · skip
        go_enter Tryd.func3, Tryd.ntmps3
        go_wp2_with fail
        refine (FIN.out _ ⟨Below.refl _ _, HT.out⟩).mono ?_
        rintro e w4 ⟨rfl, hk⟩
        have K4 := Lib.hid hk
        clear hk
        go_wp2_with fail
        go_ret
        exact ⟨rfl, K4.out⟩
      · obtain ⟨k, rfl⟩ : ∃ k : Nat, len = (k : Int) := ⟨len.toNat, by omega⟩
        have HK := Lib.hid (show k ≤ 16777216 from by omega)
        have HR := Lib.hid (refJoin a b k w HA.out.1 HA.out.2 (by omega))
        have HJ := Lib.hid (crcJoin a b k w HA.out.1 HA.out.2 HK.out)
        generalize joinN a b k = n at HR HJ
        go_enter Tryd.func3, Tryd.ntmps3
        go_wp2_with fail
        refine HR.out.mono ?_
        rintro e w1 ⟨rfl, rfl⟩
        go_wp2_with fail
        refine (lawJoins _ _ _ _ _ _ HJ.out).mono ?_
        rintro e w1 ⟨rfl, rfl⟩
        go_wp2_with fail
        refine (FIN.out _ ⟨Below.refl _ _, HT.out⟩).mono ?_
        rintro e w4 ⟨rfl, hk⟩
        have K4 := Lib.hid hk
        clear hk
        go_wp2_with fail
        go_ret
        exact ⟨rfl, K4.out⟩

end Go.Proofs.YtkloheabbbpboabDoor
