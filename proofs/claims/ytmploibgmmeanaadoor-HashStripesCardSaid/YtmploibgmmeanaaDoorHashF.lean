/- The laws HashSums and HashStripes. -/
import Derived.Test.YtmploibgmmeanaaDoorHashE
namespace Go.Proofs.YtmploibgmmeanaaDoor
open Go.RowKit

set_option maxHeartbeats 1000000 in
theorem lawSums6 (l : List UInt8) (w : World) (ht : SizesOK w) :
    Calls Tryd.prog 3 #[.string ⟨l.toArray⟩] w (TrueB w) := by
  have K0 := Lib.hid (show KK w w from ⟨Below.refl _ _, ht⟩)
  clear ht
  by_cases hl : 1000 < l.length
  · have z0 : (1000 : Int) < (l.length : Int) := by omega
    clear hl
    go_enter Tryd.func3, Tryd.ntmps3
    go_wp2_with fail
    refine (known6 _ K0.out.sizes).mono ?_
    rintro e w1 ⟨rfl, hb⟩
    have HB := Lib.hid hb
    clear hb
    go_wp2_with fail
    go_ret
    exact ⟨rfl, HB.out⟩
  · have z0 : ¬ (1000 : Int) < (l.length : Int) := by omega
    have HL := Lib.hid (show l.length ≤ 1000 from by omega)
    clear hl
    go_enter Tryd.func3, Tryd.ntmps3
    go_wp2_with fail
    obtain ⟨p, hp⟩ : ∃ p, h32 l = p := ⟨_, rfl⟩
    obtain ⟨q, hq⟩ : ∃ q, h64 l = q := ⟨_, rfl⟩
    have C1 := Lib.hid (fun (W : World) (h : SizesOK W) => hashSum32 l W HL.out h)
    have C2 := Lib.hid (fun (W : World) => refSum32 l W HL.out)
    have C3 := Lib.hid (fun (W : World) (h : SizesOK W) => hashSum64 l W HL.out h)
    have C4 := Lib.hid (fun (W : World) => refSum64 l W HL.out)
    rw [hp] at C1 C2
    rw [hq] at C3 C4
    clear hp hq
    refine (C1.out _ K0.out.sizes).mono ?_
    rintro e w1 ⟨rfl, hb⟩
    have K1 := Lib.hid (K0.out.next hb)
    clear hb K0
    go_wp2_with fail
    refine (C2.out _).mono ?_
    rintro e w2 ⟨rfl, rfl⟩
    go_wp2_with fail
    refine (C3.out _ K1.out.sizes).mono ?_
    rintro e w2 ⟨rfl, hb⟩
    have K2 := Lib.hid (K1.out.next hb)
    clear hb K1
    go_wp2_with fail
    refine (C4.out _).mono ?_
    rintro e w3 ⟨rfl, rfl⟩
    go_wp2_with fail
    refine (known6 _ K2.out.sizes).mono ?_
    rintro e w3 ⟨rfl, hb⟩
    have K3 := Lib.hid (K2.out.next hb)
    clear hb K2
    go_wp2_with fail
    go_ret
    exact ⟨rfl, K3.out.below⟩

set_option maxHeartbeats 1000000 in
theorem lawStripes6 (l : List UInt8) (n : Int) (w : World) (ht : SizesOK w) :
    Calls Tryd.prog 4 #[.string ⟨l.toArray⟩, .int .i64 n] w (TrueB w) := by
  have K0 := Lib.hid (show KK w w from ⟨Below.refl _ _, ht⟩)
  clear ht
  by_cases hl : 1000 < l.length
  · have z0 : (1000 : Int) < (l.length : Int) := by omega
    clear hl
    go_enter Tryd.func4, Tryd.ntmps4
    go_wp2_with fail
    refine (known6 _ K0.out.sizes).mono ?_
    rintro e w1 ⟨rfl, hb⟩
    have HB := Lib.hid hb
    clear hb
    go_wp2_with fail
    go_ret
    exact ⟨rfl, HB.out⟩
  · have z0 : ¬ (1000 : Int) < (l.length : Int) := by omega
    have HL := Lib.hid (show l.length ≤ 1000 from by omega)
    clear hl
    by_cases hn : 1 ≤ n ∧ n ≤ 1024
    · obtain ⟨m, rfl⟩ : ∃ m : Nat, n = (m : Int) := ⟨n.toNat, by omega⟩
      have HN := Lib.hid (show 1 ≤ m ∧ m ≤ 1024 from by omega)
      obtain ⟨z, hz⟩ : ∃ z, stripeN l m = z := ⟨_, rfl⟩
      have C1 := Lib.hid (refAllowed m w HN.out.1 HN.out.2)
      have C2 := Lib.hid (refStripe l m w HL.out HN.out.1 HN.out.2)
      have C3 := Lib.hid (lawStripe l m z w HL.out HN.out.1 HN.out.2 K0.out.sizes hz)
      rw [hz] at C2
      clear hz hn
      go_enter Tryd.func4, Tryd.ntmps4
      go_wp2_with fail
      refine C1.out.mono ?_
      rintro e w1 ⟨rfl, rfl⟩
      clear C1
      go_wp2_with fail
      refine C2.out.mono ?_
      rintro e w1 ⟨rfl, rfl⟩
      clear C2
      go_wp2_with fail
      refine C3.out.mono ?_
      rintro e w1 ⟨rfl, hb⟩
      have K1 := Lib.hid (K0.out.next hb)
      clear hb K0 C3
      go_wp2_with fail
      refine (known6 _ K1.out.sizes).mono ?_
      rintro e w2 ⟨rfl, hb⟩
      have K2 := Lib.hid (K1.out.next hb)
      clear hb K1
      go_wp2_with fail
      go_ret
      exact ⟨rfl, K2.out.below⟩
    · have C1 := Lib.hid (refAllowedNo n w hn)
      have C2 := Lib.hid (lawStripeNo l n w hn)
      clear hn
      go_enter Tryd.func4, Tryd.ntmps4
      go_wp2_with fail
      refine C1.out.mono ?_
      rintro e w1 ⟨rfl, rfl⟩
      clear C1
      go_wp2_with fail
      refine C2.out.mono ?_
      rintro e w1 ⟨rfl, hb⟩
      have K1 := Lib.hid (K0.out.next hb)
      clear hb K0 C2
      go_wp2_with fail
      refine (known6 _ K1.out.sizes).mono ?_
      rintro e w2 ⟨rfl, hb⟩
      have K2 := Lib.hid (K1.out.next hb)
      clear hb K1
      go_wp2_with fail
      go_ret
      exact ⟨rfl, K2.out.below⟩

end Go.Proofs.YtmploibgmmeanaaDoor
