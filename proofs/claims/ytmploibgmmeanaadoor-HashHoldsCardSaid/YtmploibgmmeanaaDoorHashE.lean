/- The examples of the chapter: known. -/
import Derived.Test.YtmploibgmmeanaaDoorHashD
namespace Go.Proofs.YtmploibgmmeanaaDoor
open Go.RowKit

theorem SlAt.lit {α : Type} {enc : α → List Value} (hk : ∀ x, (enc x).length = 1) (W : World) (t : TypeId) (xs : List α) (hm : xs.length ≤ maxLen) :
    SlAt enc 1 (W.alloc (.cells (cellsOf enc xs).toArray t)) (some ⟨W.heap.size, 0, none⟩) xs := by
  have hl : (cellsOf enc xs).length = xs.length := by rw [cellsOf_length hk, Nat.mul_one]
  have h := World.ownsRow_lit (base := 0) (e := t) (size := 1) W (cellsOf enc xs).toArray xs.length (Nat.zero_le _) hm (by rw [List.size_toArray, hl, Nat.mul_one])
  rw [List.toList_toArray] at h
  obtain ⟨A, c, e, _, _, h3⟩ := SlAt.of_own hk h
  injection e with e1 e2 e3
  rw [e1]
  exact h3

theorem SlAt.lit2 {α : Type} {enc : α → List Value} (hk : ∀ x, (enc x).length = 1) (W : World) (o : Obj) (t : TypeId) (xs : List α) (hm : xs.length ≤ maxLen) :
    SlAt enc 1 ((W.alloc o).alloc (.cells (cellsOf enc xs).toArray t)) (some ⟨W.heap.size + 1, 0, none⟩) xs := by
  have h := SlAt.lit hk (W.alloc o) t xs hm
  have e : (W.alloc o).heap.size = W.heap.size + 1 := by simp
  rw [e] at h
  exact h
theorem v1 : h32 [] = 2166136261 := by decide +kernel
theorem v2 : h32 [97] = 3826002220 := by decide +kernel
theorem v3 : h32 [102, 111, 111, 98, 97, 114] = 3214735720 := by decide +kernel
theorem v4 : h64 [] = 14695981039346656037 := by decide +kernel
theorem v5 : h64 [97] = 12638187200555641996 := by decide +kernel
theorem v6 : stripeN [97] 16 = 12 := by decide +kernel
theorem v7 : stripeN [97] 256 = 44 := by decide +kernel
theorem v8 : stripeN [97] 1 = 0 := by decide +kernel
abbrev kL : List (List UInt8) := [[102, 111, 111, 98, 97, 114], [97], [97]]
theorem v9 : orderN kL 16 = [8, 12] := by decide +kernel
theorem v10 : spreadN kL 4 = [3, 0, 0, 0] := by decide +kernel
theorem v11 : orderN [] 4 = [] := by decide +kernel
theorem v12 : spreadN [] 2 = [0, 0] := by decide +kernel
theorem shortL : ShortK kL := fun l hl => by
  have : ∀ l ∈ kL, l.length ≤ 1000 := by decide
  exact this l hl
theorem shortE : ShortK [] := fun l hl => by cases hl

/-- What holds all along. -/
structure KK (w W : World) : Prop where
  below : Below w.heap.size w W
  sizes : SizesOK W
theorem KK.next {w W W' : World} (h : KK w W) (hb : Below W.heap.size W W') : KK w W' := ⟨below_trans h.below hb, h.sizes.below hb⟩
theorem KK.alloc {w W : World} (h : KK w W) (o : Obj) : KK w (W.alloc o) := h.next ((Below.refl _ _).alloc (Nat.le_refl _) _)

set_option maxRecDepth 100000 in
set_option maxHeartbeats 2000000 in
theorem known6 (w : World) (h : SizesOK w) : Calls Tryd.prog 8 #[] w (TrueB w) := by
  have K0 := Lib.hid (show KK w w from ⟨Below.refl _ _, h⟩)
  clear h
  go_enter Tryd.func8, Tryd.ntmps8
  go_wp2_with fail
  have c1 := Lib.hid (hashSum32 [] w (by decide) K0.out.sizes)
  rw [v1] at c1
  refine c1.out.mono ?_
  rintro e w1 ⟨rfl, hb⟩
  have K1 := Lib.hid (K0.out.next hb)
  clear hb c1
  go_wp2_with fail
  have c1 := Lib.hid (hashSum32 [97] w1 (by decide) K1.out.sizes)
  rw [v2] at c1
  refine c1.out.mono ?_
  rintro e w2 ⟨rfl, hb⟩
  have K2 := Lib.hid (K1.out.next hb)
  clear hb c1
  go_wp2_with fail
  have c1 := Lib.hid (hashSum32 [102, 111, 111, 98, 97, 114] w2 (by decide) K2.out.sizes)
  rw [v3] at c1
  refine c1.out.mono ?_
  rintro e w3 ⟨rfl, hb⟩
  have K3 := Lib.hid (K2.out.next hb)
  clear hb c1
  go_wp2_with fail
  have c1 := Lib.hid (hashSum64 [] w3 (by decide) K3.out.sizes)
  rw [v4] at c1
  refine c1.out.mono ?_
  rintro e w4 ⟨rfl, hb⟩
  have K4 := Lib.hid (K3.out.next hb)
  clear hb c1
  go_wp2_with fail
  have c1 := Lib.hid (hashSum64 [97] w4 (by decide) K4.out.sizes)
  rw [v5] at c1
  refine c1.out.mono ?_
  rintro e w5 ⟨rfl, hb⟩
  have K5 := Lib.hid (K4.out.next hb)
  clear hb c1
  go_wp2_with fail
  refine (lawStripe [97] 16 12 w5 (by decide) (by decide) (by decide) K5.out.sizes v6).mono ?_
  rintro e w6 ⟨rfl, hb⟩
  have K6 := Lib.hid (K5.out.next hb)
  clear hb
  go_wp2_with fail
  refine (lawStripe [97] 256 44 w6 (by decide) (by decide) (by decide) K6.out.sizes v7).mono ?_
  rintro e w7 ⟨rfl, hb⟩
  have K7 := Lib.hid (K6.out.next hb)
  clear hb
  go_wp2_with fail
  refine (lawStripe [97] 1 0 w7 (by decide) (by decide) (by decide) K7.out.sizes v8).mono ?_
  rintro e w8 ⟨rfl, hb⟩
  have K8 := Lib.hid (K7.out.next hb)
  clear hb
  go_wp2_with fail
  refine (lawStripeNo [97] 0 w8 (by decide)).mono ?_
  rintro e w9 ⟨rfl, hb⟩
  have K9 := Lib.hid (K8.out.next hb)
  clear hb
  go_wp2_with fail
  refine (lawStripeNo [97] 1025 w9 (by decide)).mono ?_
  rintro e w10 ⟨rfl, hb⟩
  have K10 := Lib.hid (K9.out.next hb)
  clear hb K0 K1 K2 K3 K4 K5 K6 K7 K8 K9
  go_wp2_with fail
  have HS := Lib.hid (show StrsAt ((w10.alloc (.cells #[.string ⟨#[102, 111, 111, 98, 97, 114]⟩, .string ⟨#[97]⟩, .string ⟨#[97]⟩] 9)).alloc (.cells #[.int .i64 8, .int .i64 12] 3)) (some ⟨w10.heap.size, 0, none⟩) kL from (SlAt.lit encS_len w10 9 kL (by decide)).below ((Below.refl _ _).alloc (Nat.le_refl _) _))
  have HI := Lib.hid (show IntsAt ((w10.alloc (.cells #[.string ⟨#[102, 111, 111, 98, 97, 114]⟩, .string ⟨#[97]⟩, .string ⟨#[97]⟩] 9)).alloc (.cells #[.int .i64 8, .int .i64 12] 3)) (some ⟨w10.heap.size + 1, 0, none⟩) [8, 12] from SlAt.lit2 encI_len w10 _ 3 [8, 12] (by decide))
  have K12 := Lib.hid ((K10.out.alloc (.cells #[.string ⟨#[102, 111, 111, 98, 97, 114]⟩, .string ⟨#[97]⟩, .string ⟨#[97]⟩] 9)).alloc (.cells #[.int .i64 8, .int .i64 12] 3))
  clear K10
  generalize World.alloc (World.alloc w10 _) _ = W12 at HS HI K12 ⊢
  refine (lawOrder (some ⟨w10.heap.size, 0, none⟩) 3 kL 16 (some ⟨w10.heap.size + 1, 0, none⟩) 2 [8, 12] W12 HS.out shortL (by decide) (by decide) (by decide) K12.out.sizes HI.out v9).mono ?_
  rintro e W13 ⟨rfl, hb⟩
  have K13 := Lib.hid (K12.out.next hb)
  have HS13 := Lib.hid (show StrsAt W13 (some ⟨w10.heap.size, 0, none⟩) kL from HS.out.below hb)
  clear hb K12 HS HI
  generalize w10.heap.size = g at *
  go_wp2_with fail
  have HS := Lib.hid (show StrsAt (W13.alloc (.cells #[.int .i64 3, .int .i64 0, .int .i64 0, .int .i64 0] 3)) (some ⟨g, 0, none⟩) kL from HS13.out.below ((Below.refl _ _).alloc (Nat.le_refl _) _))
  have HI := Lib.hid (show IntsAt (W13.alloc (.cells #[.int .i64 3, .int .i64 0, .int .i64 0, .int .i64 0] 3)) (some ⟨W13.heap.size, 0, none⟩) [3, 0, 0, 0] from SlAt.lit encI_len W13 3 [3, 0, 0, 0] (by decide))
  have K14 := Lib.hid (K13.out.alloc (.cells #[.int .i64 3, .int .i64 0, .int .i64 0, .int .i64 0] 3))
  clear K13 HS13
  generalize World.alloc W13 _ = W14 at HS HI K14 ⊢
  refine (lawSpread (some ⟨g, 0, none⟩) 3 kL 4 (some ⟨W13.heap.size, 0, none⟩) 4 [3, 0, 0, 0] W14 HS.out shortL (by decide) (by decide) (by decide) K14.out.sizes HI.out v10).mono ?_
  rintro e W15 ⟨rfl, hb⟩
  have K15 := Lib.hid (K14.out.next hb)
  clear hb K14 HS HI
  go_wp2_with fail
  refine (lawOrder none 0 [] 4 none 0 [] W15 SlAt.nil shortE (by decide) (by decide) (by decide) K15.out.sizes SlAt.nil v11).mono ?_
  rintro e W16 ⟨rfl, hb⟩
  have K16 := Lib.hid (K15.out.next hb)
  clear hb K15
  go_wp2_with fail
  have HI := Lib.hid (show IntsAt (W16.alloc (.cells #[.int .i64 0, .int .i64 0] 3)) (some ⟨W16.heap.size, 0, none⟩) [0, 0] from SlAt.lit encI_len W16 3 [0, 0] (by decide))
  have K17 := Lib.hid (K16.out.alloc (.cells #[.int .i64 0, .int .i64 0] 3))
  clear K16
  generalize World.alloc W16 _ = W17 at HI K17 ⊢
  refine (lawSpread none 0 [] 2 (some ⟨W16.heap.size, 0, none⟩) 2 [0, 0] W17 SlAt.nil shortE (by decide) (by decide) (by decide) K17.out.sizes HI.out v12).mono ?_
  rintro e W18 ⟨rfl, hb⟩
  have K18 := Lib.hid (K17.out.next hb)
  clear hb K17 HI
  go_wp2_with fail
  go_ret
  exact ⟨rfl, K18.out.below⟩

end Go.Proofs.YtmploibgmmeanaaDoor
