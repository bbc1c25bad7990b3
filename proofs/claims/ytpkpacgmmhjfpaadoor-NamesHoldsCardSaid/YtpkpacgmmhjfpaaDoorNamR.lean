/- The examples of the chapter: known. -/
import Derived.Test.YtpkpacgmmhjfpaaDoorNamQ
namespace Go.Proofs.YtpkpacgmmhjfpaaDoor
open Go.RowKit

set_option maxRecDepth 100000 in
set_option maxHeartbeats 4000000 in
theorem known7 (w : World) (h : LaidOK w) : Calls Tryd.prog 8 #[] w (TrueB w) := by
  have K0 := Lib.hid (show KK w w from ⟨Below.refl _ _, h⟩)
  clear h
  go_enter Tryd.func8, Tryd.ntmps8
  go_wp2_with fail
  have c1 := Lib.hid (namKey [99, 97, 114, 116, 47, 49] w (by decide) K0.out.laid)
  rw [show keyN [99, 97, 114, 116, 47, 49] = true from by decide +kernel] at c1
  refine c1.out.mono ?_
  clear c1
  rintro e w1 ⟨rfl, hb⟩
  have K1 := Lib.hid (K0.out.next hb)
  clear hb K0
  go_wp2_with fail
  have c1 := Lib.hid (namKey [67, 97, 114, 116] w1 (by decide) K1.out.laid)
  rw [show keyN [67, 97, 114, 116] = false from by decide +kernel] at c1
  refine c1.out.mono ?_
  clear c1
  rintro e w2 ⟨rfl, hb⟩
  have K2 := Lib.hid (K1.out.next hb)
  clear hb K1
  go_wp2_with fail
  have c1 := Lib.hid (namKey [] w2 (by decide) K2.out.laid)
  rw [show keyN [] = false from by decide +kernel] at c1
  refine c1.out.mono ?_
  clear c1
  rintro e w3 ⟨rfl, hb⟩
  have K3 := Lib.hid (K2.out.next hb)
  clear hb K2
  go_wp2_with fail
  have c1 := Lib.hid (namItem [82, 101, 100, 32, 97, 112, 112, 108, 101] w3 (by decide) K3.out.laid)
  rw [show itemN [82, 101, 100, 32, 97, 112, 112, 108, 101] = true from by decide +kernel] at c1
  refine c1.out.mono ?_
  clear c1
  rintro e w4 ⟨rfl, hb⟩
  have K4 := Lib.hid (K3.out.next hb)
  clear hb K3
  go_wp2_with fail
  have c1 := Lib.hid (namItem [82, 101, 100, 32, 32, 97, 112, 112, 108, 101] w4 (by decide) K4.out.laid)
  rw [show itemN [82, 101, 100, 32, 32, 97, 112, 112, 108, 101] = false from by decide +kernel] at c1
  refine c1.out.mono ?_
  clear c1
  rintro e w5 ⟨rfl, hb⟩
  have K5 := Lib.hid (K4.out.next hb)
  clear hb K4
  go_wp2_with fail
  have c1 := Lib.hid (namItem [32, 120] w5 (by decide) K5.out.laid)
  rw [show itemN [32, 120] = false from by decide +kernel] at c1
  refine c1.out.mono ?_
  clear c1
  rintro e w6 ⟨rfl, hb⟩
  have K6 := Lib.hid (K5.out.next hb)
  clear hb K5
  go_wp2_with fail
  have c1 := Lib.hid (namItem [195, 169] w6 (by decide) K6.out.laid)
  rw [show itemN [195, 169] = false from by decide +kernel] at c1
  refine c1.out.mono ?_
  clear c1
  rintro e w7 ⟨rfl, hb⟩
  have K7 := Lib.hid (K6.out.next hb)
  clear hb K6
  go_wp2_with fail
  refine (lawCanon [32, 82, 101, 100, 9, 32, 97, 112, 112, 108, 101, 10] [82, 101, 100, 32, 97, 112, 112, 108, 101] 0 w7 (by decide) K7.out.laid (by decide +kernel)).mono ?_
  rintro e w8 ⟨rfl, hb⟩
  have K8 := Lib.hid (K7.out.next hb)
  clear hb K7
  go_wp2_with fail
  refine (lawCanon [32, 32] [] 2 w8 (by decide) K8.out.laid (by decide +kernel)).mono ?_
  rintro e w9 ⟨rfl, hb⟩
  have K9 := Lib.hid (K8.out.next hb)
  clear hb K8
  go_wp2_with fail
  refine (lawCanon [195, 169] [] 2 w9 (by decide) K9.out.laid (by decide +kernel)).mono ?_
  rintro e w10 ⟨rfl, hb⟩
  have K10 := Lib.hid (K9.out.next hb)
  clear hb K9
  go_wp2_with fail
  have c1 := Lib.hid (namQuote [97, 34, 98, 92, 99, 10] w10 (by decide) K10.out.laid)
  rw [show quoteN [97, 34, 98, 92, 99, 10] = [34, 97, 92, 34, 98, 92, 92, 99, 92, 120, 48, 97, 34] from by decide +kernel] at c1
  refine c1.out.mono ?_
  clear c1
  rintro e w11 ⟨rfl, hb⟩
  have K11 := Lib.hid (K10.out.next hb)
  clear hb K10
  go_wp2_with fail
  have c1 := Lib.hid (namQuote [97, 34, 98, 92, 99, 10] w11 (by decide) K11.out.laid)
  rw [show quoteN [97, 34, 98, 92, 99, 10] = [34, 97, 92, 34, 98, 92, 92, 99, 92, 120, 48, 97, 34] from by decide +kernel] at c1
  refine c1.out.mono ?_
  clear c1
  rintro e w12 ⟨rfl, hb⟩
  have K12 := Lib.hid (K11.out.next hb)
  clear hb K11
  go_wp2_with fail
  refine (lawUnq [34, 97, 92, 34, 98, 92, 92, 99, 92, 120, 48, 97, 34] [97, 34, 98, 92, 99, 10] 0 w12 (by decide) K12.out.laid (by decide +kernel)).mono ?_
  rintro e w13 ⟨rfl, hb⟩
  have K13 := Lib.hid (K12.out.next hb)
  clear hb K12
  go_wp2_with fail
  refine (lawUnq [34, 97] [] 6 w13 (by decide) K13.out.laid (by decide +kernel)).mono ?_
  rintro e w14 ⟨rfl, hb⟩
  have K14 := Lib.hid (K13.out.next hb)
  clear hb K13
  go_wp2_with fail
  refine (lawUnq [34, 92, 120, 52, 49, 34] [] 6 w14 (by decide) K14.out.laid (by decide +kernel)).mono ?_
  rintro e w15 ⟨rfl, hb⟩
  have K15 := Lib.hid (K14.out.next hb)
  clear hb K14
  go_wp2_with fail
  refine (lawUnq [34, 92, 120, 48, 65, 34] [] 6 w15 (by decide) K15.out.laid (by decide +kernel)).mono ?_
  rintro e w16 ⟨rfl, hb⟩
  have K16 := Lib.hid (K15.out.next hb)
  clear hb K15
  go_wp2_with fail
  refine (lawUnq [34, 34] [] 0 w16 (by decide) K16.out.laid (by decide +kernel)).mono ?_
  rintro e w17 ⟨rfl, hb⟩
  have K17 := Lib.hid (K16.out.next hb)
  clear hb K16
  go_wp2_with fail
  have HS := Lib.hid (show StrsAt (w17.alloc (.cells #[.string ⟨#[97, 100, 100]⟩, .string ⟨#[82, 101, 100, 32, 97, 112, 112, 108, 101]⟩, .string ⟨#[51]⟩] 9)) (some ⟨w17.heap.size, 0, none⟩) [[97, 100, 100], [82, 101, 100, 32, 97, 112, 112, 108, 101], [51]] from SlAt.lit encS_len w17 9 [[97, 100, 100], [82, 101, 100, 32, 97, 112, 112, 108, 101], [51]] (by decide))
  have KA := Lib.hid (K17.out.alloc (.cells #[.string ⟨#[97, 100, 100]⟩, .string ⟨#[82, 101, 100, 32, 97, 112, 112, 108, 101]⟩, .string ⟨#[51]⟩] 9))
  generalize World.alloc w17 _ = WA at HS KA ⊢
  refine (lawFlds [97, 100, 100, 32, 34, 82, 101, 100, 32, 97, 112, 112, 108, 101, 34, 32, 51] [[97, 100, 100], [82, 101, 100, 32, 97, 112, 112, 108, 101], [51]] (some ⟨w17.heap.size, 0, none⟩) 3 WA (by decide) KA.out.laid (by decide +kernel) (by decide) HS.out).mono ?_
  rintro e w18 ⟨rfl, hb⟩
  have K18 := Lib.hid (KA.out.next hb)
  clear hb K17 KA HS
  go_wp2_with fail
  refine (lawFlds [] [] none 0 w18 (by decide) K18.out.laid (by decide +kernel) (by decide) SlAt.nil).mono ?_
  rintro e w19 ⟨rfl, hb⟩
  have K19 := Lib.hid (K18.out.next hb)
  clear hb K18
  go_wp2_with fail
  refine (lawFldsNo [34, 97, 34, 34, 98, 34] w19 (by decide) K19.out.laid (by decide +kernel)).mono ?_
  rintro e w20 ⟨rfl, hb⟩
  have K20 := Lib.hid (K19.out.next hb)
  clear hb K19
  go_wp2_with fail
  refine (lawFldsNo [97, 34, 98, 34] w20 (by decide) K20.out.laid (by decide +kernel)).mono ?_
  rintro e w21 ⟨rfl, hb⟩
  have K21 := Lib.hid (K20.out.next hb)
  clear hb K20
  go_wp2_with fail
  refine (lawFldsNo [34, 97] w21 (by decide) K21.out.laid (by decide +kernel)).mono ?_
  rintro e w22 ⟨rfl, hb⟩
  have K22 := Lib.hid (K21.out.next hb)
  clear hb K21
  go_wp2_with fail
  go_ret
  exact ⟨rfl, K22.out.below⟩

end Go.Proofs.YtpkpacgmmhjfpaaDoor
