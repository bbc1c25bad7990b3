/- The chapter's examples of joins: known is true (written by mkK2.py). -/
import Derived.Test.YtfjbocipjmpogaaGreatMBM
import Derived.Test.YtfjbocipjmpogaaGreatMAZ
namespace Go.Proofs.YtfjbocipjmpogaaGreat
open Go.RowKit

def kn2P : Nat → Sp
  | 0 => .nums [1, 1]
  | 1 => .eq (mkV kOne)
  | 2 => .marks [kOne]
  | 3 => .cart (cartOf [(1, 1)] [kOne])
  | 4 => .nums [2, 1]
  | 5 => .eq (mkV kTwo)
  | 6 => .marks [kTwo]
  | 7 => .cart (cartOf [(2, 1)] [kTwo])
  | 8 => .nums [1, 1, 2, 1]
  | 9 => .cart (cartOf [(1, 1), (2, 1)] [])
  | 10 => .nums [1, 1]
  | 11 => .eq (mkV kSix)
  | 12 => .marks [kSix]
  | 13 => .cart (cartOf [(1, 1)] [kSix])
  | 14 => .eq (mkC zC)
  | 15 => .cbox
  | 16 => .cbox
  | 17 => .cbox
  | 18 => .cbox
  | 19 => .cbox
  | _ => .any
def kn2B : Nat → Option Nat
  | 20 => some 15
  | 21 => some 16
  | 22 => some 17
  | 23 => some 18
  | 24 => some 19
  | _ => none
def kn2Q : Nat → Sq
  | 20 => .cart (cartOf [(1, 1)] [kOne])
  | 21 => .cart (cartOf [(2, 1)] [kTwo])
  | 22 => .cart (cartOf [(1, 1), (2, 1)] [])
  | 23 => .cart (cartOf [(1, 1)] [kSix])
  | 24 => .cart jO
  | _ => .none
def kn4P (cX cY cZ cT cO cW : CaV) : Nat → Sp
  | 0 => .eq (mkC cX)
  | 1 => .eq (mkC cY)
  | 2 => .eq (mkC cW)
  | 3 => .eq (.bool true)
  | 4 => .eq (.bool false)
  | 5 => .eq (.bool false)
  | 6 => .eq (mkC cX)
  | 7 => .eq (mkC cZ)
  | 8 => .eq (mkC cZ)
  | 9 => .eq (.bool true)
  | 10 => .eq (.bool false)
  | 11 => .eq (.bool false)
  | 12 => .eq (.bool false)
  | 13 => .eq (mkC cW)
  | 14 => .eq (mkC cZ)
  | 15 => .eq (mkC cZ)
  | 16 => .eq (.bool true)
  | 17 => .eq (.bool false)
  | 18 => .eq (.bool false)
  | 19 => .eq (.bool false)
  | 20 => .eq (mkC cX)
  | 21 => .eq (mkC cO)
  | 22 => .eq (mkC cX)
  | 23 => .eq (.bool true)
  | 24 => .eq (.bool false)
  | 25 => .eq (.bool false)
  | 26 => .eq (.bool false)
  | 27 => .eq (mkC cX)
  | 28 => .eq (mkC cT)
  | 29 => .eq (mkC cT)
  | 30 => .eq (.bool true)
  | 31 => .eq (.bool false)
  | 32 => .eq (.bool false)
  | 33 => .eq (.bool false)
  | 34 => .eq (mkC cY)
  | 35 => .eq (mkC cX)
  | 36 => .eq (mkC cY)
  | 37 => .eq (mkC cZ)
  | 38 => .carts [jY, jX, jY, jZ]
  | 39 => .eq (mkC cZ)
  | 40 => .eq (.bool true)
  | 41 => .eq (.bool false)
  | 42 => .eq (.bool false)
  | 43 => .eq (.bool false)
  | 44 => .eq (mkC cY)
  | 45 => .nums [1, 1]
  | 46 => .cart (cartOf [(1, 1)] [])
  | 47 => .nums [1, 1, 2, 1]
  | 48 => .eq (mkV kTwo)
  | 49 => .marks [kTwo]
  | 50 => .cart (cartOf [(1, 1), (2, 1)] [kTwo])
  | 51 => .eq (.bool true)
  | 52 => .eq (.bool false)
  | 53 => .eq (.bool false)
  | _ => .any
def kn6P (cX cY cZ cT cO cW : CaV) : Nat → Sp
  | 0 => .eq (mkC cX)
  | 1 => .eq (mkC cW)
  | 2 => .eq (.bool true)
  | 3 => .eq (.bool true)
  | 4 => .eq (mkC cX)
  | 5 => .eq (mkC cY)
  | 6 => .eq (.bool true)
  | 7 => .eq (.bool true)
  | 8 => .eq (.bool true)
  | 9 => .eq (mkC cX)
  | 10 => .eq (mkC cZ)
  | 11 => .eq (.bool true)
  | 12 => .eq (.bool true)
  | 13 => .eq (.bool true)
  | 14 => .eq (mkC cX)
  | 15 => .eq (mkC cY)
  | 16 => .eq (.bool true)
  | 17 => .eq (.bool true)
  | 18 => .eq (.bool true)
  | 19 => .eq (mkC cX)
  | 20 => .eq (mkC cT)
  | 21 => .eq (.bool true)
  | 22 => .eq (.bool true)
  | 23 => .eq (.bool true)
  | 24 => .eq (mkC cX)
  | 25 => .eq (mkC cZ)
  | 26 => .eq (.bool true)
  | 27 => .eq (.bool true)
  | 28 => .eq (.bool true)
  | 29 => .eq (mkC cX)
  | 30 => .eq (mkV kOne)
  | 31 => .marks [kOne]
  | 32 => .cart (cartOf [] [kOne])
  | 33 => .eq (mkC cO)
  | 34 => .eq (.bool true)
  | 35 => .eq (.bool true)
  | 36 => .eq (.bool true)
  | _ => .any
theorem kn2P_hp : ∀ j, (kn2P j).calm = true := by
  intro j; unfold kn2P; split <;> rfl
theorem kn2Q_hp : ∀ j, (kn2Q j).calm = true := by
  intro j; unfold kn2Q; split <;> rfl
theorem kn2B_cases {j k : Nat} (h : kn2B j = some k) : kn2P k = .cbox ∧ (∃ x, kn2Q j = .cart x) ∧ 20 ≤ j ∧ j ≤ 24 ∧ j = k + 5 := by
  unfold kn2B at h
  split at h
  all_goals first
    | (cases h; exact ⟨rfl, ⟨_, rfl⟩, by omega, by omega, rfl⟩)
    | cases h

theorem kn2B_dst {l : List Oper} (h : ∀ j, 20 ≤ j → j ≤ 24 → dstOf l.toArray j = none) : ∀ j k, kn2B j = some k → dstOf l.toArray j = none := fun j k hb => by
  have := kn2B_cases hb
  exact h j this.2.2.1 this.2.2.2.1
set_option maxRecDepth 100000 in
set_option maxHeartbeats 16000000 in
theorem known11 (w : World) : Calls Tryz.prog 9 #[] w (TrueB w) := by
  go_enter Tryz.func9, Tryz.ntmps9
  go_wp2_with fail
  refine (lawMark10 1 1 5 3 w).mono ?_
  rintro e w1 ⟨rfl, hb1⟩
  go_wp2_with fail
  refine (lawMark10 2 1 7 4 w1).mono ?_
  rintro e w2 ⟨rfl, hb2⟩
  have HB2 := Lib.hid (below_trans hb1 hb2)
  clear hb1 hb2
  go_upto_region 2 with fail
  have hm1 := BlkM.new w2 kOne
  have ha1 := (Below.refl w2.heap.size w2).alloc (Nat.le_refl _) (.cells #[.int .i64 1, .int .i64 1, .int .i64 5, .int .u64 3] 54)
  have hm2 := BlkM.new (w2.alloc (.cells #[.int .i64 1, .int .i64 1, .int .i64 5, .int .u64 3] 54)) kTwo
  have ha2 := (Below.refl (w2.alloc (.cells #[.int .i64 1, .int .i64 1, .int .i64 5, .int .u64 3] 54)).heap.size (w2.alloc (.cells #[.int .i64 1, .int .i64 1, .int .i64 5, .int .u64 3] 54))).alloc (Nat.le_refl _) (.cells #[.int .i64 2, .int .i64 1, .int .i64 7, .int .u64 4] 54)
  have hm1 := BlkM.below hm1 ha2
  rw [World.size_alloc] at hm2
  have HB3 := Lib.hid (below_trans HB2.out (below_trans ha1 ha2))
  have HM1 := Lib.hid hm1
  have HM2 := Lib.hid hm2
  clear hm1 hm2 ha1 ha2 HB2
  change Hid (BlkM (World.alloc (World.alloc w2 _) _) _ kOne) at HM1
  change Hid (BlkM (World.alloc (World.alloc w2 _) _) _ kTwo) at HM2
  generalize World.alloc (World.alloc w2 _) _ = wE at HB3 HM1 HM2 ⊢
  generalize hg2 : w2.heap.size + 1 = m2 at *
  generalize hg1 : w2.heap.size = m1 at *
  clear hg1 hg2
  have KM0 : ∀ W, Below wE.heap.size wE W → KB w [] [(m1, kOne), (m2, kTwo)] W := fun W hb => ⟨⟨fun p hp => (by cases hp), below_trans HB3.out hb⟩, fun p hp => by
    simp only [List.mem_cons, List.not_mem_nil, or_false] at hp
    rcases hp with rfl | rfl
    · exact HM1.out.below hb
    · exact HM2.out.below hb⟩
  have hkp : ∀ (q : Nat) (L : Nat → Bool) (W W' : World), Below wE.heap.size wE W → BelW W W' → KeepsR (sqS wE kn2B kn2P kn2Q) L W W' ∧ Below wE.heap.size wE W' := fun _ _ _ _ h hb => sq_keep h hb
  refine wp_region_sq (bx := kn2B) (sp := kn2P) (sq := kn2Q) (by kernel_rfl) (by kernel_rfl) (by kernel_rfl) (dst_small (n := 121) (by kernel_rfl)) (kn2B_dst (fun j h1 h2 => by
      obtain rfl | rfl | rfl | rfl | rfl : j = 20 ∨ j = 21 ∨ j = 22 ∨ j = 23 ∨ j = 24 := by omega
      all_goals rfl)) (fun j j' k h1 h2 => by have e1 := (kn2B_cases h1).2.2; have e2 := (kn2B_cases h2).2.2; omega) (fun j k h => ⟨(kn2B_cases h).1, (kn2B_cases h).2.1⟩) kn2P_hp kn2Q_hp ?_ ?_
  ·
    refine ⟨?_, ?_, ?_, ?_, ?_, ?_, ?_, ?_, ?_, ?_, ?_, ?_, ?_, ?_, ?_, ?_, ?_, ?_, ?_, ?_, ?_, ?_, ?_, ?_, ?_, trivial⟩
    · refine StepR.made rfl rfl (fun j h => by have := (kn2B_cases h).2.2; omega) (hkp 0) fun L a W hI hk hd => ?_
      exact ⟨rfl, .slice (some ⟨W.heap.size, 0, none⟩) 2 2, W.alloc (.cells #[.int .i64 1, .int .i64 1] 3), by go_simp, (Below.refl _ W).alloc (Nat.le_refl _) _, W.heap.size, rfl, SlAt.litAt encZ_len W _ rfl 3 [1, 1] (by simp [maxLen])⟩
    · refine StepR.pure rfl rfl (fun j h => by have := (kn2B_cases h).2.2; omega) (fun W => Below.refl _ W) (hkp 1) fun L a W hI hk hd => ?_
      have e1 : a.tmps[1]?.getD undef = .pointer (some ⟨m1, 0, none⟩) := hI.at 1 (by kernel_rfl)
      obtain ⟨c0, c1, c2, c3⟩ := (KM0 W hI.glob).mkb (g := m1) (m := kOne) (by simp)
      exact ⟨rfl, mkV kOne, by go_simp, rfl⟩
    · refine StepR.made rfl rfl (fun j h => by have := (kn2B_cases h).2.2; omega) (hkp 2) fun L a W hI hk hd => ?_
      obtain ⟨_, e12, rfl⟩ := hI.get 1 12 (hd 1 rfl) rfl
      exact ⟨rfl, .slice (some ⟨W.heap.size, 0, none⟩) 1 1, W.alloc (.cells #[.int .i64 kOne.r, .int .i64 kOne.c, .int .i64 kOne.q, .int .u64 (kOne.t : Int)] 54), by go_simp, (Below.refl _ W).alloc (Nat.le_refl _) _, some ⟨W.heap.size, 0, none⟩, 1, rfl, SlAt.litAt encM_len W _ rfl 54 [kOne] (by simp [maxLen]), Nat.le_refl _, by simp [maxLen]⟩
    · refine StepR.call rfl rfl (fun j h => by have := (kn2B_cases h).2.2; omega) (hkp 3) fun L a W hI hk hd => ?_
      obtain ⟨_, e11, q11, rfl, hq11⟩ := hI.get 0 11 (hd 0 rfl) rfl
      obtain ⟨_, e13, A13, m13, rfl, hq13, hl13, hm13⟩ := hI.get 2 13 (hd 2 rfl) rfl
      refine ⟨rfl, 26, #[.slice (some ⟨q11, 0, none⟩) 2 2, .slice A13 1 m13], by go_simp, (lawOf11 (some ⟨q11, 0, none⟩) 2 [(1, 1)] A13 m13 [kOne] W hq11 (by simp) hq13 (hl13) (hm13)).mono ?_⟩
      rintro e W' ⟨⟨z, rfl, hz, ho⟩, hb⟩
      exact ⟨_, rfl, hb, z, rfl, hz, ho⟩
    · refine StepR.made rfl rfl (fun j h => by have := (kn2B_cases h).2.2; omega) (hkp 4) fun L a W hI hk hd => ?_
      exact ⟨rfl, .slice (some ⟨W.heap.size, 0, none⟩) 2 2, W.alloc (.cells #[.int .i64 2, .int .i64 1] 3), by go_simp, (Below.refl _ W).alloc (Nat.le_refl _) _, W.heap.size, rfl, SlAt.litAt encZ_len W _ rfl 3 [2, 1] (by simp [maxLen])⟩
    · refine StepR.pure rfl rfl (fun j h => by have := (kn2B_cases h).2.2; omega) (fun W => Below.refl _ W) (hkp 5) fun L a W hI hk hd => ?_
      have e2 : a.tmps[2]?.getD undef = .pointer (some ⟨m2, 0, none⟩) := hI.at 2 (by kernel_rfl)
      obtain ⟨c0, c1, c2, c3⟩ := (KM0 W hI.glob).mkb (g := m2) (m := kTwo) (by simp)
      exact ⟨rfl, mkV kTwo, by go_simp, rfl⟩
    · refine StepR.made rfl rfl (fun j h => by have := (kn2B_cases h).2.2; omega) (hkp 6) fun L a W hI hk hd => ?_
      obtain ⟨_, e16, rfl⟩ := hI.get 5 16 (hd 5 rfl) rfl
      exact ⟨rfl, .slice (some ⟨W.heap.size, 0, none⟩) 1 1, W.alloc (.cells #[.int .i64 kTwo.r, .int .i64 kTwo.c, .int .i64 kTwo.q, .int .u64 (kTwo.t : Int)] 54), by go_simp, (Below.refl _ W).alloc (Nat.le_refl _) _, some ⟨W.heap.size, 0, none⟩, 1, rfl, SlAt.litAt encM_len W _ rfl 54 [kTwo] (by simp [maxLen]), Nat.le_refl _, by simp [maxLen]⟩
    · refine StepR.call rfl rfl (fun j h => by have := (kn2B_cases h).2.2; omega) (hkp 7) fun L a W hI hk hd => ?_
      obtain ⟨_, e15, q15, rfl, hq15⟩ := hI.get 4 15 (hd 4 rfl) rfl
      obtain ⟨_, e17, A17, m17, rfl, hq17, hl17, hm17⟩ := hI.get 6 17 (hd 6 rfl) rfl
      refine ⟨rfl, 26, #[.slice (some ⟨q15, 0, none⟩) 2 2, .slice A17 1 m17], by go_simp, (lawOf11 (some ⟨q15, 0, none⟩) 2 [(2, 1)] A17 m17 [kTwo] W hq15 (by simp) hq17 (hl17) (hm17)).mono ?_⟩
      rintro e W' ⟨⟨z, rfl, hz, ho⟩, hb⟩
      exact ⟨_, rfl, hb, z, rfl, hz, ho⟩
    · refine StepR.made rfl rfl (fun j h => by have := (kn2B_cases h).2.2; omega) (hkp 8) fun L a W hI hk hd => ?_
      exact ⟨rfl, .slice (some ⟨W.heap.size, 0, none⟩) 4 4, W.alloc (.cells #[.int .i64 1, .int .i64 1, .int .i64 2, .int .i64 1] 3), by go_simp, (Below.refl _ W).alloc (Nat.le_refl _) _, W.heap.size, rfl, SlAt.litAt encZ_len W _ rfl 3 [1, 1, 2, 1] (by simp [maxLen])⟩
    · refine StepR.call rfl rfl (fun j h => by have := (kn2B_cases h).2.2; omega) (hkp 9) fun L a W hI hk hd => ?_
      obtain ⟨_, e19, q19, rfl, hq19⟩ := hI.get 8 19 (hd 8 rfl) rfl
      refine ⟨rfl, 26, #[.slice (some ⟨q19, 0, none⟩) 4 4, .slice none 0 0], by go_simp, (lawOf11 (some ⟨q19, 0, none⟩) 4 [(1, 1), (2, 1)] none 0 [] W hq19 (by simp) SlAt.nil (Nat.le_refl _) (by simp [maxLen])).mono ?_⟩
      rintro e W' ⟨⟨z, rfl, hz, ho⟩, hb⟩
      exact ⟨_, rfl, hb, z, rfl, hz, ho⟩
    · refine StepR.made rfl rfl (fun j h => by have := (kn2B_cases h).2.2; omega) (hkp 10) fun L a W hI hk hd => ?_
      exact ⟨rfl, .slice (some ⟨W.heap.size, 0, none⟩) 2 2, W.alloc (.cells #[.int .i64 1, .int .i64 1] 3), by go_simp, (Below.refl _ W).alloc (Nat.le_refl _) _, W.heap.size, rfl, SlAt.litAt encZ_len W _ rfl 3 [1, 1] (by simp [maxLen])⟩
    · refine StepR.call rfl rfl (fun j h => by have := (kn2B_cases h).2.2; omega) (hkp 11) fun L a W hI hk hd => ?_
      refine ⟨rfl, 25, #[.int .i64 1, .int .i64 1, .int .i64 6, .int .u64 3], by go_simp, (lawMark10 1 1 6 3 W).mono ?_⟩
      rintro e W' ⟨rfl, hb⟩
      exact ⟨_, rfl, hb, rfl⟩
    · refine StepR.made rfl rfl (fun j h => by have := (kn2B_cases h).2.2; omega) (hkp 12) fun L a W hI hk hd => ?_
      obtain ⟨_, e22, rfl⟩ := hI.get 11 22 (hd 11 rfl) rfl
      exact ⟨rfl, .slice (some ⟨W.heap.size, 0, none⟩) 1 1, W.alloc (.cells #[.int .i64 kSix.r, .int .i64 kSix.c, .int .i64 kSix.q, .int .u64 (kSix.t : Int)] 54), by go_simp, (Below.refl _ W).alloc (Nat.le_refl _) _, some ⟨W.heap.size, 0, none⟩, 1, rfl, SlAt.litAt encM_len W _ rfl 54 [kSix] (by simp [maxLen]), Nat.le_refl _, by simp [maxLen]⟩
    · refine StepR.call rfl rfl (fun j h => by have := (kn2B_cases h).2.2; omega) (hkp 13) fun L a W hI hk hd => ?_
      obtain ⟨_, e21, q21, rfl, hq21⟩ := hI.get 10 21 (hd 10 rfl) rfl
      obtain ⟨_, e23, A23, m23, rfl, hq23, hl23, hm23⟩ := hI.get 12 23 (hd 12 rfl) rfl
      refine ⟨rfl, 26, #[.slice (some ⟨q21, 0, none⟩) 2 2, .slice A23 1 m23], by go_simp, (lawOf11 (some ⟨q21, 0, none⟩) 2 [(1, 1)] A23 m23 [kSix] W hq21 (by simp) hq23 (hl23) (hm23)).mono ?_⟩
      rintro e W' ⟨⟨z, rfl, hz, ho⟩, hb⟩
      exact ⟨_, rfl, hb, z, rfl, hz, ho⟩
    · refine StepR.pure rfl rfl (fun j h => by have := (kn2B_cases h).2.2; omega) (fun W => Below.refl _ W) (hkp 14) fun L a W hI hk hd => ?_
      exact ⟨rfl, mkC zC, by go_simp, rfl⟩
    · refine StepR.boxed rfl rfl (fun W o => (Below.refl _ W).alloc (Nat.le_refl _) o) (hkp 15) fun L a W hI => ?_
      exact ⟨rfl, .cells #[.slice none 0 0, .slice none 0 0, .slice none 0 0] 28, by go_simp, W.heap.size, zC, rfl, hI.glob.size, BlkC.new W zC⟩
    · refine StepR.boxed rfl rfl (fun W o => (Below.refl _ W).alloc (Nat.le_refl _) o) (hkp 16) fun L a W hI => ?_
      exact ⟨rfl, .cells #[.slice none 0 0, .slice none 0 0, .slice none 0 0] 28, by go_simp, W.heap.size, zC, rfl, hI.glob.size, BlkC.new W zC⟩
    · refine StepR.boxed rfl rfl (fun W o => (Below.refl _ W).alloc (Nat.le_refl _) o) (hkp 17) fun L a W hI => ?_
      exact ⟨rfl, .cells #[.slice none 0 0, .slice none 0 0, .slice none 0 0] 28, by go_simp, W.heap.size, zC, rfl, hI.glob.size, BlkC.new W zC⟩
    · refine StepR.boxed rfl rfl (fun W o => (Below.refl _ W).alloc (Nat.le_refl _) o) (hkp 18) fun L a W hI => ?_
      exact ⟨rfl, .cells #[.slice none 0 0, .slice none 0 0, .slice none 0 0] 28, by go_simp, W.heap.size, zC, rfl, hI.glob.size, BlkC.new W zC⟩
    · refine StepR.boxed rfl rfl (fun W o => (Below.refl _ W).alloc (Nat.le_refl _) o) (hkp 19) fun L a W hI => ?_
      exact ⟨rfl, .cells #[.slice none 0 0, .slice none 0 0, .slice none 0 0] 28, by go_simp, W.heap.size, zC, rfl, hI.glob.size, BlkC.new W zC⟩
    · refine StepR.store rfl rfl rfl fun L a W hI hd => ?_
      obtain ⟨_, e3, b3, d3, rfl, hn3, hB3⟩ := hI.get 15 3 (hd 15 rfl) rfl
      obtain ⟨_, e14, z14, rfl, hz14, ho14⟩ := hI.get 3 14 (hd 3 rfl) rfl
      obtain ⟨t1, t2, t3⟩ := store_cart hB3 ho14
      obtain ⟨fz0, fz1, fz2⟩ := BlkC.frozens hB3
      have x0 := hB3.cell0
      have x1 := hB3.cell1
      have x2 := hB3.cell2
      refine ⟨rfl, b3, 3, _, rfl, hd 15 rfl, by rw [eval_tmp]; exact e3, ?_, t1, below_fill hI.glob hn3 _ _ _, b3, z14, rfl, t2, hz14, t3⟩
      clear t1 t2 t3 hB3
      go_simp
      try rfl
    · refine StepR.store rfl rfl rfl fun L a W hI hd => ?_
      obtain ⟨_, e4, b4, d4, rfl, hn4, hB4⟩ := hI.get 16 4 (hd 16 rfl) rfl
      obtain ⟨_, e18, z18, rfl, hz18, ho18⟩ := hI.get 7 18 (hd 7 rfl) rfl
      obtain ⟨t1, t2, t3⟩ := store_cart hB4 ho18
      obtain ⟨fz0, fz1, fz2⟩ := BlkC.frozens hB4
      have x0 := hB4.cell0
      have x1 := hB4.cell1
      have x2 := hB4.cell2
      refine ⟨rfl, b4, 4, _, rfl, hd 16 rfl, by rw [eval_tmp]; exact e4, ?_, t1, below_fill hI.glob hn4 _ _ _, b4, z18, rfl, t2, hz18, t3⟩
      clear t1 t2 t3 hB4
      go_simp
      try rfl
    · refine StepR.store rfl rfl rfl fun L a W hI hd => ?_
      obtain ⟨_, e5, b5, d5, rfl, hn5, hB5⟩ := hI.get 17 5 (hd 17 rfl) rfl
      obtain ⟨_, e20, z20, rfl, hz20, ho20⟩ := hI.get 9 20 (hd 9 rfl) rfl
      obtain ⟨t1, t2, t3⟩ := store_cart hB5 ho20
      obtain ⟨fz0, fz1, fz2⟩ := BlkC.frozens hB5
      have x0 := hB5.cell0
      have x1 := hB5.cell1
      have x2 := hB5.cell2
      refine ⟨rfl, b5, 5, _, rfl, hd 17 rfl, by rw [eval_tmp]; exact e5, ?_, t1, below_fill hI.glob hn5 _ _ _, b5, z20, rfl, t2, hz20, t3⟩
      clear t1 t2 t3 hB5
      go_simp
      try rfl
    · refine StepR.store rfl rfl rfl fun L a W hI hd => ?_
      obtain ⟨_, e6, b6, d6, rfl, hn6, hB6⟩ := hI.get 18 6 (hd 18 rfl) rfl
      obtain ⟨_, e24, z24, rfl, hz24, ho24⟩ := hI.get 13 24 (hd 13 rfl) rfl
      obtain ⟨t1, t2, t3⟩ := store_cart hB6 ho24
      obtain ⟨fz0, fz1, fz2⟩ := BlkC.frozens hB6
      have x0 := hB6.cell0
      have x1 := hB6.cell1
      have x2 := hB6.cell2
      refine ⟨rfl, b6, 6, _, rfl, hd 18 rfl, by rw [eval_tmp]; exact e6, ?_, t1, below_fill hI.glob hn6 _ _ _, b6, z24, rfl, t2, hz24, t3⟩
      clear t1 t2 t3 hB6
      go_simp
      try rfl
    · refine StepR.store rfl rfl rfl fun L a W hI hd => ?_
      obtain ⟨_, e7, b7, d7, rfl, hn7, hB7⟩ := hI.get 19 7 (hd 19 rfl) rfl
      obtain ⟨_, e25, rfl⟩ := hI.get 14 25 (hd 14 rfl) rfl
      obtain ⟨t1, t2, t3⟩ := store_cart hB7 (zC_ok W)
      obtain ⟨fz0, fz1, fz2⟩ := BlkC.frozens hB7
      have x0 := hB7.cell0
      have x1 := hB7.cell1
      have x2 := hB7.cell2
      refine ⟨rfl, b7, 7, _, rfl, hd 19 rfl, by rw [eval_tmp]; exact e7, ?_, t1, below_fill hI.glob hn7 _ _ _, b7, zC, rfl, t2, rfl, t3⟩
      clear t1 t2 t3 hB7
      go_simp
      try rfl
  · intro a W L hL hI
    obtain ⟨gX, cX, eX, hBX, hzX, hoX⟩ := (hI.box 20 15 3 (hL 20 (by decide)) rfl rfl).2
    obtain ⟨gY, cY, eY, hBY, hzY, hoY⟩ := (hI.box 21 16 4 (hL 21 (by decide)) rfl rfl).2
    obtain ⟨gZ, cZ, eZ, hBZ, hzZ, hoZ⟩ := (hI.box 22 17 5 (hL 22 (by decide)) rfl rfl).2
    obtain ⟨gT, cT, eT, hBT, hzT, hoT⟩ := (hI.box 23 18 6 (hL 23 (by decide)) rfl rfl).2
    obtain ⟨gO, cO, eO, hBO, hzO, hoO⟩ := (hI.box 24 19 7 (hL 24 (by decide)) rfl rfl).2
    have KM := KM0 W hI.glob
    have HK := Lib.hid (show KB w [(gX, cX), (gY, cY), (gZ, cZ), (gT, cT), (gO, cO)] [(m1, kOne), (m2, kTwo)] W from ⟨⟨fun p hp => by
      simp only [List.mem_cons, List.not_mem_nil, or_false] at hp
      rcases hp with rfl | rfl | rfl | rfl | rfl
      · exact ⟨hBX, hoX⟩
      · exact ⟨hBY, hoY⟩
      · exact ⟨hBZ, hoZ⟩
      · exact ⟨hBT, hoT⟩
      · exact ⟨hBO, hoO⟩, KM.kk.bel⟩, KM.mm⟩)
    have EcX := Lib.hid hzX
    have EcY := Lib.hid hzY
    have EcZ := Lib.hid hzZ
    have EcT := Lib.hid hzT
    have EcO := Lib.hid hzO
    rw [hI.frame]
    simp only [List.filterMap, List.foldl]
    rw [eX, eY, eZ, eT, eO]
    generalize a.eval (.tmp 11) = v11
    generalize a.eval (.tmp 12) = v12
    generalize a.eval (.tmp 13) = v13
    generalize a.eval (.tmp 14) = v14
    generalize a.eval (.tmp 15) = v15
    generalize a.eval (.tmp 16) = v16
    generalize a.eval (.tmp 17) = v17
    generalize a.eval (.tmp 18) = v18
    generalize a.eval (.tmp 19) = v19
    generalize a.eval (.tmp 20) = v20
    generalize a.eval (.tmp 21) = v21
    generalize a.eval (.tmp 22) = v22
    generalize a.eval (.tmp 23) = v23
    generalize a.eval (.tmp 24) = v24
    generalize a.eval (.tmp 25) = v25
    clear hL hI KM0 KM hkp hBX hBY hBZ hBT hBO hoX hoY hoZ hoT hoO hzX hzY hzZ hzT hzO eX eY eZ eT eO HM1 HM2 HB3
    simp only [List.setIfInBounds_toArray, List.set_cons_succ, List.set_cons_zero]
    obtain ⟨p0, p1, p2, p3⟩ := HK.out.mkb (g := m1) (m := kOne) (by simp)
    obtain ⟨q0, q1, q2, q3⟩ := HK.out.mkb (g := m2) (m := kTwo) (by simp)
    have pl : m1 < W.heap.size := (HK.out.mm (m1, kOne) (by simp)).lt
    have ql : m2 < W.heap.size := (HK.out.mm (m2, kTwo) (by simp)).lt
    have hd1 := SlAt.litAt encZ_len W _ rfl 3 [1, 1, 2, 1] (by simp [maxLen])
    have hz1 : (W.alloc (.cells #[.int .i64 1, .int .i64 1, .int .i64 2, .int .i64 1] 3)).heap.size = W.heap.size + 1 := by simp
    have hd2 := SlAt.litAt encM_len (W.alloc (.cells #[.int .i64 1, .int .i64 1, .int .i64 2, .int .i64 1] 3)) _ hz1 54 [kOne, kTwo] (by simp [maxLen])
    have ha1 := (Below.refl W.heap.size W).alloc (Nat.le_refl _) (.cells #[.int .i64 1, .int .i64 1, .int .i64 2, .int .i64 1] 3)
    have ha2 := (Below.refl _ (W.alloc (.cells #[.int .i64 1, .int .i64 1, .int .i64 2, .int .i64 1] 3))).alloc (Nat.le_refl _) (.cells #[.int .i64 kOne.r, .int .i64 kOne.c, .int .i64 kOne.q, .int .u64 (kOne.t : Int), .int .i64 kTwo.r, .int .i64 kTwo.c, .int .i64 kTwo.q, .int .u64 (kTwo.t : Int)] 54)
    have HD1 := Lib.hid (SlAt.below hd1 ha2)
    have HD2 := Lib.hid hd2
    have HK2 := Lib.hid (HK.out.next (below_trans ha1 ha2))
    clear hd1 hd2 ha1 ha2 HK hz1
    go_wp2_with fail
    refine (lawOf11 (some ⟨W.heap.size, 0, none⟩) 4 [(1, 1), (2, 1)] (some ⟨W.heap.size + 1, 0, none⟩) 2 [kOne, kTwo] _ HD1.out (by simp) HD2.out (by simp) (by simp [maxLen])).mono ?_
    rintro e w4 ⟨⟨cW, rfl, hzW, hoW⟩, hbW⟩
    have HK4 := Lib.hid (HK2.out.next hbW)
    have EcW := Lib.hid hzW
    have HOW := Lib.hid hoW
    clear HD1 HD2 HK2 p0 p1 p2 p3 q0 q1 q2 q3 pl ql hbW hzW hoW
    go_upto_region 4 with fail
    have HK5 : KB w [(gX, cX), (gY, cY), (gZ, cZ), (gT, cT), (gO, cO), (w4.heap.size, cW)] [(m1, kOne), (m2, kTwo)] (w4.alloc (.cells #[cW.v, cW.l, cW.i] 28)) := ⟨HK4.out.kk.push cW HOW.out _ rfl, fun p hp => (HK4.out.mm p hp).below ((Below.refl _ w4).alloc (Nat.le_refl _) _)⟩
    have HK6 := Lib.hid HK5
    clear HK5 HK4 HOW
    generalize World.alloc w4 _ = w5 at HK6 ⊢
    generalize w4.heap.size = gW at HK6 ⊢
    have KK0 : ∀ V, Below w5.heap.size w5 V → KB w [(gX, cX), (gY, cY), (gZ, cZ), (gT, cT), (gO, cO), (gW, cW)] [(m1, kOne), (m2, kTwo)] V := fun V hb => HK6.out.next hb
    have hnb : ∀ {k : Nat}, ∀ j, (fun _ : Nat => (none : Option Nat)) j ≠ some k := fun j h => by cases h
    have hkp : ∀ (q : Nat) (L : Nat → Bool) (W W' : World), Below w5.heap.size w5 W → BelW W W' → KeepsR (spS w5 (kn4P cX cY cZ cT cO cW)) L W W' ∧ Below w5.heap.size w5 W' := fun _ _ _ _ h hb => sp_keep h hb
    refine wp_region_sp (sp := kn4P cX cY cZ cT cO cW) (by kernel_rfl) (by kernel_rfl) (by kernel_rfl) (dst_small (n := 121) (by kernel_rfl)) ?_ ?_
    ·
      refine ⟨?_, ?_, ?_, ?_, ?_, ?_, ?_, ?_, ?_, ?_, ?_, ?_, ?_, ?_, ?_, ?_, ?_, ?_, ?_, ?_, ?_, ?_, ?_, ?_, ?_, ?_, ?_, ?_, ?_, ?_, ?_, ?_, ?_, ?_, ?_, ?_, ?_, ?_, ?_, ?_, ?_, ?_, ?_, ?_, ?_, ?_, ?_, ?_, ?_, ?_, ?_, ?_, ?_, ?_, trivial⟩
      · refine StepR.pure rfl rfl hnb (fun W => Below.refl _ W) (hkp 0) fun L a W hI hk hd => ?_
        have e3 : a.tmps[3]?.getD undef = .pointer (some ⟨gX, 0, none⟩) := hI.at 3 (by kernel_rfl)
        obtain ⟨c0, c1, c2, _⟩ := (KK0 W hI.glob).ca (g := gX) (c := cX) (by simp)
        exact ⟨rfl, mkC cX, by go_simp, rfl⟩
      · refine StepR.pure rfl rfl hnb (fun W => Below.refl _ W) (hkp 1) fun L a W hI hk hd => ?_
        have e4 : a.tmps[4]?.getD undef = .pointer (some ⟨gY, 0, none⟩) := hI.at 4 (by kernel_rfl)
        obtain ⟨c0, c1, c2, _⟩ := (KK0 W hI.glob).ca (g := gY) (c := cY) (by simp)
        exact ⟨rfl, mkC cY, by go_simp, rfl⟩
      · refine StepR.pure rfl rfl hnb (fun W => Below.refl _ W) (hkp 2) fun L a W hI hk hd => ?_
        have e8 : a.tmps[8]?.getD undef = .pointer (some ⟨gW, 0, none⟩) := hI.at 8 (by kernel_rfl)
        obtain ⟨c0, c1, c2, _⟩ := (KK0 W hI.glob).ca (g := gW) (c := cW) (by simp)
        exact ⟨rfl, mkC cW, by go_simp, rfl⟩
      · refine StepR.call rfl rfl hnb (hkp 3) fun L a W hI hk hd => ?_
        obtain ⟨_, e31, rfl⟩ := hI.get 0 31 (hd 0 rfl) rfl
        obtain ⟨_, e32, rfl⟩ := hI.get 1 32 (hd 1 rfl) rfl
        obtain ⟨_, e33, rfl⟩ := hI.get 2 33 (hd 2 rfl) rfl
        refine ⟨rfl, 11, #[mkC cX, mkC cY, mkC cW, .int .i64 0], by go_simp, (joins_l 0 cX cY cW W kj1 sX sY sXY ((KK0 W hI.glob).ok (g := gX) (c := cX) (by simp)) ((KK0 W hI.glob).ok (g := gY) (c := cY) (by simp)) ((KK0 W hI.glob).ok (g := gW) (c := cW) (by simp)) EcX.out EcY.out EcW.out).mono ?_⟩
        rintro e W' ⟨rfl, hb⟩
        exact ⟨_, rfl, hb, rfl⟩
      · refine StepR.pure rfl rfl hnb (fun W => Below.refl _ W) (hkp 4) fun L a W hI hk hd => ?_
        obtain ⟨_, e34, rfl⟩ := hI.get 3 34 (hd 3 rfl) rfl
        exact ⟨rfl, .bool false, by go_simp, rfl⟩
      · refine StepR.pure rfl rfl hnb (fun W => Below.refl _ W) (hkp 5) fun L a W hI hk hd => ?_
        obtain ⟨_, e35, rfl⟩ := hI.get 4 35 (hd 4 rfl) rfl
        exact ⟨rfl, .bool false, by go_simp, rfl⟩
      · refine StepR.pure rfl rfl hnb (fun W => Below.refl _ W) (hkp 6) fun L a W hI hk hd => ?_
        have e3 : a.tmps[3]?.getD undef = .pointer (some ⟨gX, 0, none⟩) := hI.at 3 (by kernel_rfl)
        obtain ⟨c0, c1, c2, _⟩ := (KK0 W hI.glob).ca (g := gX) (c := cX) (by simp)
        exact ⟨hI.wants rfl (hd 5 rfl) rfl (fun _ h => h), mkC cX, by go_simp, rfl⟩
      · refine StepR.pure rfl rfl hnb (fun W => Below.refl _ W) (hkp 7) fun L a W hI hk hd => ?_
        have e5 : a.tmps[5]?.getD undef = .pointer (some ⟨gZ, 0, none⟩) := hI.at 5 (by kernel_rfl)
        obtain ⟨c0, c1, c2, _⟩ := (KK0 W hI.glob).ca (g := gZ) (c := cZ) (by simp)
        exact ⟨hI.wants rfl (hd 5 rfl) rfl (fun _ h => h), mkC cZ, by go_simp, rfl⟩
      · refine StepR.pure rfl rfl hnb (fun W => Below.refl _ W) (hkp 8) fun L a W hI hk hd => ?_
        have e5 : a.tmps[5]?.getD undef = .pointer (some ⟨gZ, 0, none⟩) := hI.at 5 (by kernel_rfl)
        obtain ⟨c0, c1, c2, _⟩ := (KK0 W hI.glob).ca (g := gZ) (c := cZ) (by simp)
        exact ⟨hI.wants rfl (hd 5 rfl) rfl (fun _ h => h), mkC cZ, by go_simp, rfl⟩
      · refine StepR.call rfl rfl hnb (hkp 9) fun L a W hI hk hd => ?_
        obtain ⟨_, e37, rfl⟩ := hI.get 6 37 (hd 6 rfl) rfl
        obtain ⟨_, e38, rfl⟩ := hI.get 7 38 (hd 7 rfl) rfl
        obtain ⟨_, e39, rfl⟩ := hI.get 8 39 (hd 8 rfl) rfl
        refine ⟨hI.wants rfl (hd 5 rfl) rfl (fun _ h => h), 11, #[mkC cX, mkC cZ, mkC cZ, .int .i64 0], by go_simp, (joins_l 0 cX cZ cZ W kj2 sX sZ sZ ((KK0 W hI.glob).ok (g := gX) (c := cX) (by simp)) ((KK0 W hI.glob).ok (g := gZ) (c := cZ) (by simp)) ((KK0 W hI.glob).ok (g := gZ) (c := cZ) (by simp)) EcX.out EcZ.out EcZ.out).mono ?_⟩
        rintro e W' ⟨rfl, hb⟩
        exact ⟨_, rfl, hb, rfl⟩
      · refine StepR.pure rfl rfl hnb (fun W => Below.refl _ W) (hkp 10) fun L a W hI hk hd => ?_
        obtain ⟨_, e40, rfl⟩ := hI.get 9 40 (hd 9 rfl) rfl
        exact ⟨hI.wants rfl (hd 5 rfl) rfl (fun _ h => h), .bool false, by go_simp, rfl⟩
      · refine StepR.pure rfl rfl hnb (fun W => Below.refl _ W) (hkp 11) fun L a W hI hk hd => ?_
        obtain ⟨_, e36, rfl⟩ := hI.get 5 36 (hd 5 rfl) rfl
        obtain ⟨_, e41, rfl⟩ := hI.get 10 41 (hd 10 rfl) rfl
        exact ⟨rfl, .bool false, by go_simp, rfl⟩
      · refine StepR.pure rfl rfl hnb (fun W => Below.refl _ W) (hkp 12) fun L a W hI hk hd => ?_
        obtain ⟨_, e42, rfl⟩ := hI.get 11 42 (hd 11 rfl) rfl
        exact ⟨rfl, .bool false, by go_simp, rfl⟩
      · refine StepR.pure rfl rfl hnb (fun W => Below.refl _ W) (hkp 13) fun L a W hI hk hd => ?_
        have e8 : a.tmps[8]?.getD undef = .pointer (some ⟨gW, 0, none⟩) := hI.at 8 (by kernel_rfl)
        obtain ⟨c0, c1, c2, _⟩ := (KK0 W hI.glob).ca (g := gW) (c := cW) (by simp)
        exact ⟨hI.wants rfl (hd 12 rfl) rfl (fun _ h => h), mkC cW, by go_simp, rfl⟩
      · refine StepR.pure rfl rfl hnb (fun W => Below.refl _ W) (hkp 14) fun L a W hI hk hd => ?_
        have e5 : a.tmps[5]?.getD undef = .pointer (some ⟨gZ, 0, none⟩) := hI.at 5 (by kernel_rfl)
        obtain ⟨c0, c1, c2, _⟩ := (KK0 W hI.glob).ca (g := gZ) (c := cZ) (by simp)
        exact ⟨hI.wants rfl (hd 12 rfl) rfl (fun _ h => h), mkC cZ, by go_simp, rfl⟩
      · refine StepR.pure rfl rfl hnb (fun W => Below.refl _ W) (hkp 15) fun L a W hI hk hd => ?_
        have e5 : a.tmps[5]?.getD undef = .pointer (some ⟨gZ, 0, none⟩) := hI.at 5 (by kernel_rfl)
        obtain ⟨c0, c1, c2, _⟩ := (KK0 W hI.glob).ca (g := gZ) (c := cZ) (by simp)
        exact ⟨hI.wants rfl (hd 12 rfl) rfl (fun _ h => h), mkC cZ, by go_simp, rfl⟩
      · refine StepR.call rfl rfl hnb (hkp 16) fun L a W hI hk hd => ?_
        obtain ⟨_, e44, rfl⟩ := hI.get 13 44 (hd 13 rfl) rfl
        obtain ⟨_, e45, rfl⟩ := hI.get 14 45 (hd 14 rfl) rfl
        obtain ⟨_, e46, rfl⟩ := hI.get 15 46 (hd 15 rfl) rfl
        refine ⟨hI.wants rfl (hd 12 rfl) rfl (fun _ h => h), 11, #[mkC cW, mkC cZ, mkC cZ, .int .i64 0], by go_simp, (joins_l 0 cW cZ cZ W kj3 sXY sZ sZ ((KK0 W hI.glob).ok (g := gW) (c := cW) (by simp)) ((KK0 W hI.glob).ok (g := gZ) (c := cZ) (by simp)) ((KK0 W hI.glob).ok (g := gZ) (c := cZ) (by simp)) EcW.out EcZ.out EcZ.out).mono ?_⟩
        rintro e W' ⟨rfl, hb⟩
        exact ⟨_, rfl, hb, rfl⟩
      · refine StepR.pure rfl rfl hnb (fun W => Below.refl _ W) (hkp 17) fun L a W hI hk hd => ?_
        obtain ⟨_, e47, rfl⟩ := hI.get 16 47 (hd 16 rfl) rfl
        exact ⟨hI.wants rfl (hd 12 rfl) rfl (fun _ h => h), .bool false, by go_simp, rfl⟩
      · refine StepR.pure rfl rfl hnb (fun W => Below.refl _ W) (hkp 18) fun L a W hI hk hd => ?_
        obtain ⟨_, e43, rfl⟩ := hI.get 12 43 (hd 12 rfl) rfl
        obtain ⟨_, e48, rfl⟩ := hI.get 17 48 (hd 17 rfl) rfl
        exact ⟨rfl, .bool false, by go_simp, rfl⟩
      · refine StepR.pure rfl rfl hnb (fun W => Below.refl _ W) (hkp 19) fun L a W hI hk hd => ?_
        obtain ⟨_, e49, rfl⟩ := hI.get 18 49 (hd 18 rfl) rfl
        exact ⟨rfl, .bool false, by go_simp, rfl⟩
      · refine StepR.pure rfl rfl hnb (fun W => Below.refl _ W) (hkp 20) fun L a W hI hk hd => ?_
        have e3 : a.tmps[3]?.getD undef = .pointer (some ⟨gX, 0, none⟩) := hI.at 3 (by kernel_rfl)
        obtain ⟨c0, c1, c2, _⟩ := (KK0 W hI.glob).ca (g := gX) (c := cX) (by simp)
        exact ⟨hI.wants rfl (hd 19 rfl) rfl (fun _ h => h), mkC cX, by go_simp, rfl⟩
      · refine StepR.pure rfl rfl hnb (fun W => Below.refl _ W) (hkp 21) fun L a W hI hk hd => ?_
        have e7 : a.tmps[7]?.getD undef = .pointer (some ⟨gO, 0, none⟩) := hI.at 7 (by kernel_rfl)
        obtain ⟨c0, c1, c2, _⟩ := (KK0 W hI.glob).ca (g := gO) (c := cO) (by simp)
        exact ⟨hI.wants rfl (hd 19 rfl) rfl (fun _ h => h), mkC cO, by go_simp, rfl⟩
      · refine StepR.pure rfl rfl hnb (fun W => Below.refl _ W) (hkp 22) fun L a W hI hk hd => ?_
        have e3 : a.tmps[3]?.getD undef = .pointer (some ⟨gX, 0, none⟩) := hI.at 3 (by kernel_rfl)
        obtain ⟨c0, c1, c2, _⟩ := (KK0 W hI.glob).ca (g := gX) (c := cX) (by simp)
        exact ⟨hI.wants rfl (hd 19 rfl) rfl (fun _ h => h), mkC cX, by go_simp, rfl⟩
      · refine StepR.call rfl rfl hnb (hkp 23) fun L a W hI hk hd => ?_
        obtain ⟨_, e51, rfl⟩ := hI.get 20 51 (hd 20 rfl) rfl
        obtain ⟨_, e52, rfl⟩ := hI.get 21 52 (hd 21 rfl) rfl
        obtain ⟨_, e53, rfl⟩ := hI.get 22 53 (hd 22 rfl) rfl
        refine ⟨hI.wants rfl (hd 19 rfl) rfl (fun _ h => h), 11, #[mkC cX, mkC cO, mkC cX, .int .i64 0], by go_simp, (joins_l 0 cX cO cX W kj4 sX sO sX ((KK0 W hI.glob).ok (g := gX) (c := cX) (by simp)) ((KK0 W hI.glob).ok (g := gO) (c := cO) (by simp)) ((KK0 W hI.glob).ok (g := gX) (c := cX) (by simp)) EcX.out EcO.out EcX.out).mono ?_⟩
        rintro e W' ⟨rfl, hb⟩
        exact ⟨_, rfl, hb, rfl⟩
      · refine StepR.pure rfl rfl hnb (fun W => Below.refl _ W) (hkp 24) fun L a W hI hk hd => ?_
        obtain ⟨_, e54, rfl⟩ := hI.get 23 54 (hd 23 rfl) rfl
        exact ⟨hI.wants rfl (hd 19 rfl) rfl (fun _ h => h), .bool false, by go_simp, rfl⟩
      · refine StepR.pure rfl rfl hnb (fun W => Below.refl _ W) (hkp 25) fun L a W hI hk hd => ?_
        obtain ⟨_, e50, rfl⟩ := hI.get 19 50 (hd 19 rfl) rfl
        obtain ⟨_, e55, rfl⟩ := hI.get 24 55 (hd 24 rfl) rfl
        exact ⟨rfl, .bool false, by go_simp, rfl⟩
      · refine StepR.pure rfl rfl hnb (fun W => Below.refl _ W) (hkp 26) fun L a W hI hk hd => ?_
        obtain ⟨_, e56, rfl⟩ := hI.get 25 56 (hd 25 rfl) rfl
        exact ⟨rfl, .bool false, by go_simp, rfl⟩
      · refine StepR.pure rfl rfl hnb (fun W => Below.refl _ W) (hkp 27) fun L a W hI hk hd => ?_
        have e3 : a.tmps[3]?.getD undef = .pointer (some ⟨gX, 0, none⟩) := hI.at 3 (by kernel_rfl)
        obtain ⟨c0, c1, c2, _⟩ := (KK0 W hI.glob).ca (g := gX) (c := cX) (by simp)
        exact ⟨hI.wants rfl (hd 26 rfl) rfl (fun _ h => h), mkC cX, by go_simp, rfl⟩
      · refine StepR.pure rfl rfl hnb (fun W => Below.refl _ W) (hkp 28) fun L a W hI hk hd => ?_
        have e6 : a.tmps[6]?.getD undef = .pointer (some ⟨gT, 0, none⟩) := hI.at 6 (by kernel_rfl)
        obtain ⟨c0, c1, c2, _⟩ := (KK0 W hI.glob).ca (g := gT) (c := cT) (by simp)
        exact ⟨hI.wants rfl (hd 26 rfl) rfl (fun _ h => h), mkC cT, by go_simp, rfl⟩
      · refine StepR.pure rfl rfl hnb (fun W => Below.refl _ W) (hkp 29) fun L a W hI hk hd => ?_
        have e6 : a.tmps[6]?.getD undef = .pointer (some ⟨gT, 0, none⟩) := hI.at 6 (by kernel_rfl)
        obtain ⟨c0, c1, c2, _⟩ := (KK0 W hI.glob).ca (g := gT) (c := cT) (by simp)
        exact ⟨hI.wants rfl (hd 26 rfl) rfl (fun _ h => h), mkC cT, by go_simp, rfl⟩
      · refine StepR.call rfl rfl hnb (hkp 30) fun L a W hI hk hd => ?_
        obtain ⟨_, e58, rfl⟩ := hI.get 27 58 (hd 27 rfl) rfl
        obtain ⟨_, e59, rfl⟩ := hI.get 28 59 (hd 28 rfl) rfl
        obtain ⟨_, e60, rfl⟩ := hI.get 29 60 (hd 29 rfl) rfl
        refine ⟨hI.wants rfl (hd 26 rfl) rfl (fun _ h => h), 11, #[mkC cX, mkC cT, mkC cT, .int .i64 0], by go_simp, (joins_l 0 cX cT cT W kj5 sX sT sT ((KK0 W hI.glob).ok (g := gX) (c := cX) (by simp)) ((KK0 W hI.glob).ok (g := gT) (c := cT) (by simp)) ((KK0 W hI.glob).ok (g := gT) (c := cT) (by simp)) EcX.out EcT.out EcT.out).mono ?_⟩
        rintro e W' ⟨rfl, hb⟩
        exact ⟨_, rfl, hb, rfl⟩
      · refine StepR.pure rfl rfl hnb (fun W => Below.refl _ W) (hkp 31) fun L a W hI hk hd => ?_
        obtain ⟨_, e61, rfl⟩ := hI.get 30 61 (hd 30 rfl) rfl
        exact ⟨hI.wants rfl (hd 26 rfl) rfl (fun _ h => h), .bool false, by go_simp, rfl⟩
      · refine StepR.pure rfl rfl hnb (fun W => Below.refl _ W) (hkp 32) fun L a W hI hk hd => ?_
        obtain ⟨_, e57, rfl⟩ := hI.get 26 57 (hd 26 rfl) rfl
        obtain ⟨_, e62, rfl⟩ := hI.get 31 62 (hd 31 rfl) rfl
        exact ⟨rfl, .bool false, by go_simp, rfl⟩
      · refine StepR.pure rfl rfl hnb (fun W => Below.refl _ W) (hkp 33) fun L a W hI hk hd => ?_
        obtain ⟨_, e63, rfl⟩ := hI.get 32 63 (hd 32 rfl) rfl
        exact ⟨rfl, .bool false, by go_simp, rfl⟩
      · refine StepR.pure rfl rfl hnb (fun W => Below.refl _ W) (hkp 34) fun L a W hI hk hd => ?_
        have e4 : a.tmps[4]?.getD undef = .pointer (some ⟨gY, 0, none⟩) := hI.at 4 (by kernel_rfl)
        obtain ⟨c0, c1, c2, _⟩ := (KK0 W hI.glob).ca (g := gY) (c := cY) (by simp)
        exact ⟨hI.wants rfl (hd 33 rfl) rfl (fun _ h => h), mkC cY, by go_simp, rfl⟩
      · refine StepR.pure rfl rfl hnb (fun W => Below.refl _ W) (hkp 35) fun L a W hI hk hd => ?_
        have e3 : a.tmps[3]?.getD undef = .pointer (some ⟨gX, 0, none⟩) := hI.at 3 (by kernel_rfl)
        obtain ⟨c0, c1, c2, _⟩ := (KK0 W hI.glob).ca (g := gX) (c := cX) (by simp)
        exact ⟨hI.wants rfl (hd 33 rfl) rfl (fun _ h => h), mkC cX, by go_simp, rfl⟩
      · refine StepR.pure rfl rfl hnb (fun W => Below.refl _ W) (hkp 36) fun L a W hI hk hd => ?_
        have e4 : a.tmps[4]?.getD undef = .pointer (some ⟨gY, 0, none⟩) := hI.at 4 (by kernel_rfl)
        obtain ⟨c0, c1, c2, _⟩ := (KK0 W hI.glob).ca (g := gY) (c := cY) (by simp)
        exact ⟨hI.wants rfl (hd 33 rfl) rfl (fun _ h => h), mkC cY, by go_simp, rfl⟩
      · refine StepR.pure rfl rfl hnb (fun W => Below.refl _ W) (hkp 37) fun L a W hI hk hd => ?_
        have e5 : a.tmps[5]?.getD undef = .pointer (some ⟨gZ, 0, none⟩) := hI.at 5 (by kernel_rfl)
        obtain ⟨c0, c1, c2, _⟩ := (KK0 W hI.glob).ca (g := gZ) (c := cZ) (by simp)
        exact ⟨hI.wants rfl (hd 33 rfl) rfl (fun _ h => h), mkC cZ, by go_simp, rfl⟩
      · refine StepR.made rfl rfl hnb (hkp 38) fun L a W hI hk hd => ?_
        obtain ⟨_, e65, rfl⟩ := hI.get 34 65 (hd 34 rfl) rfl
        obtain ⟨_, e66, rfl⟩ := hI.get 35 66 (hd 35 rfl) rfl
        obtain ⟨_, e67, rfl⟩ := hI.get 36 67 (hd 36 rfl) rfl
        obtain ⟨_, e68, rfl⟩ := hI.get 37 68 (hd 37 rfl) rfl
        have hba := (Below.refl _ W).alloc (Nat.le_refl _) (.cells #[cY.v, cY.l, cY.i, cX.v, cX.l, cX.i, cY.v, cY.l, cY.i, cZ.v, cZ.l, cZ.i] 28)
        have hall : ∀ c ∈ ([cY, cX, cY, cZ] : List CaV), CaOK (W.alloc (.cells #[cY.v, cY.l, cY.i, cX.v, cX.l, cX.i, cY.v, cY.l, cY.i, cZ.v, cZ.l, cZ.i] 28)) c := fun c hc => by
              simp only [List.mem_cons, List.not_mem_nil, or_false] at hc
              rcases hc with h | h | h | h
              · rw [h]; exact CaOK.below ((KK0 W hI.glob).ok (g := gY) (c := cY) (by simp)) hba
              · rw [h]; exact CaOK.below ((KK0 W hI.glob).ok (g := gX) (c := cX) (by simp)) hba
              · rw [h]; exact CaOK.below ((KK0 W hI.glob).ok (g := gY) (c := cY) (by simp)) hba
              · rw [h]; exact CaOK.below ((KK0 W hI.glob).ok (g := gZ) (c := cZ) (by simp)) hba
        exact ⟨hI.wants rfl (hd 33 rfl) rfl (fun _ h => h), .slice (some ⟨W.heap.size, 0, none⟩) 4 4, W.alloc (.cells #[cY.v, cY.l, cY.i, cX.v, cX.l, cX.i, cY.v, cY.l, cY.i, cZ.v, cZ.l, cZ.i] 28), by go_simp, (Below.refl _ W).alloc (Nat.le_refl _) _, some ⟨W.heap.size, 0, none⟩, 4, [cY, cX, cY, cZ], rfl, ⟨SlAt.litAt encCa_len W _ rfl 28 [cY, cX, cY, cZ] (by simp [maxLen]), hall⟩, by simp [EcX.out, EcY.out, EcZ.out], by simp, by simp [maxLen]⟩
      · refine StepR.pure rfl rfl hnb (fun W => Below.refl _ W) (hkp 39) fun L a W hI hk hd => ?_
        have e5 : a.tmps[5]?.getD undef = .pointer (some ⟨gZ, 0, none⟩) := hI.at 5 (by kernel_rfl)
        obtain ⟨c0, c1, c2, _⟩ := (KK0 W hI.glob).ca (g := gZ) (c := cZ) (by simp)
        exact ⟨hI.wants rfl (hd 33 rfl) rfl (fun _ h => h), mkC cZ, by go_simp, rfl⟩
      · refine StepR.call rfl rfl hnb (hkp 40) fun L a W hI hk hd => ?_
        obtain ⟨_, e69, A69, m69, cs69, rfl, hq69, hs69, hl69, hm69⟩ := hI.get 38 69 (hd 38 rfl) rfl
        obtain ⟨_, e70, rfl⟩ := hI.get 39 70 (hd 39 rfl) rfl
        refine ⟨hI.wants rfl (hd 33 rfl) rfl (fun _ h => h), 17, #[.slice A69 cs69.length m69, mkC cZ, .int .i64 0], by go_simp, (all_l A69 cs69 m69 cZ W kj6 (by intro x hx; simp only [List.mem_cons, List.not_mem_nil, or_false] at hx; rcases hx with rfl | rfl | rfl | rfl; all_goals first | exact sY | exact sX | exact sZ) sZ hq69 hl69 hm69 (by have h := congrArg List.length hs69; simp at h; omega) ((KK0 W hI.glob).ok (g := gZ) (by simp)) hs69 EcZ.out).mono ?_⟩
        rintro e W' ⟨rfl, hb⟩
        exact ⟨_, rfl, hb, rfl⟩
      · refine StepR.pure rfl rfl hnb (fun W => Below.refl _ W) (hkp 41) fun L a W hI hk hd => ?_
        obtain ⟨_, e71, rfl⟩ := hI.get 40 71 (hd 40 rfl) rfl
        exact ⟨hI.wants rfl (hd 33 rfl) rfl (fun _ h => h), .bool false, by go_simp, rfl⟩
      · refine StepR.pure rfl rfl hnb (fun W => Below.refl _ W) (hkp 42) fun L a W hI hk hd => ?_
        obtain ⟨_, e64, rfl⟩ := hI.get 33 64 (hd 33 rfl) rfl
        obtain ⟨_, e72, rfl⟩ := hI.get 41 72 (hd 41 rfl) rfl
        exact ⟨rfl, .bool false, by go_simp, rfl⟩
      · refine StepR.pure rfl rfl hnb (fun W => Below.refl _ W) (hkp 43) fun L a W hI hk hd => ?_
        obtain ⟨_, e73, rfl⟩ := hI.get 42 73 (hd 42 rfl) rfl
        exact ⟨rfl, .bool false, by go_simp, rfl⟩
      · refine StepR.pure rfl rfl hnb (fun W => Below.refl _ W) (hkp 44) fun L a W hI hk hd => ?_
        have e4 : a.tmps[4]?.getD undef = .pointer (some ⟨gY, 0, none⟩) := hI.at 4 (by kernel_rfl)
        obtain ⟨c0, c1, c2, _⟩ := (KK0 W hI.glob).ca (g := gY) (c := cY) (by simp)
        exact ⟨hI.wants rfl (hd 43 rfl) rfl (fun _ h => h), mkC cY, by go_simp, rfl⟩
      · refine StepR.made rfl rfl hnb (hkp 45) fun L a W hI hk hd => ?_
        exact ⟨hI.wants rfl (hd 43 rfl) rfl (fun _ h => h), .slice (some ⟨W.heap.size, 0, none⟩) 2 2, W.alloc (.cells #[.int .i64 1, .int .i64 1] 3), by go_simp, (Below.refl _ W).alloc (Nat.le_refl _) _, W.heap.size, rfl, SlAt.litAt encZ_len W _ rfl 3 [1, 1] (by simp [maxLen])⟩
      · refine StepR.call rfl rfl hnb (hkp 46) fun L a W hI hk hd => ?_
        obtain ⟨_, e76, q76, rfl, hq76⟩ := hI.get 45 76 (hd 45 rfl) rfl
        refine ⟨hI.wants rfl (hd 43 rfl) rfl (fun _ h => h), 26, #[.slice (some ⟨q76, 0, none⟩) 2 2, .slice none 0 0], by go_simp, (lawOf11 (some ⟨q76, 0, none⟩) 2 [(1, 1)] none 0 [] W hq76 (by simp) SlAt.nil (Nat.le_refl _) (by simp [maxLen])).mono ?_⟩
        rintro e W' ⟨⟨z, rfl, hz, ho⟩, hb⟩
        exact ⟨_, rfl, hb, z, rfl, hz, ho⟩
      · refine StepR.made rfl rfl hnb (hkp 47) fun L a W hI hk hd => ?_
        exact ⟨hI.wants rfl (hd 43 rfl) rfl (fun _ h => h), .slice (some ⟨W.heap.size, 0, none⟩) 4 4, W.alloc (.cells #[.int .i64 1, .int .i64 1, .int .i64 2, .int .i64 1] 3), by go_simp, (Below.refl _ W).alloc (Nat.le_refl _) _, W.heap.size, rfl, SlAt.litAt encZ_len W _ rfl 3 [1, 1, 2, 1] (by simp [maxLen])⟩
      · refine StepR.pure rfl rfl hnb (fun W => Below.refl _ W) (hkp 48) fun L a W hI hk hd => ?_
        have e2 : a.tmps[2]?.getD undef = .pointer (some ⟨m2, 0, none⟩) := hI.at 2 (by kernel_rfl)
        obtain ⟨c0, c1, c2, c3⟩ := (KK0 W hI.glob).mkb (g := m2) (m := kTwo) (by simp)
        exact ⟨hI.wants rfl (hd 43 rfl) rfl (fun _ h => h), mkV kTwo, by go_simp, rfl⟩
      · refine StepR.made rfl rfl hnb (hkp 49) fun L a W hI hk hd => ?_
        obtain ⟨_, e79, rfl⟩ := hI.get 48 79 (hd 48 rfl) rfl
        exact ⟨hI.wants rfl (hd 43 rfl) rfl (fun _ h => h), .slice (some ⟨W.heap.size, 0, none⟩) 1 1, W.alloc (.cells #[.int .i64 kTwo.r, .int .i64 kTwo.c, .int .i64 kTwo.q, .int .u64 (kTwo.t : Int)] 54), by go_simp, (Below.refl _ W).alloc (Nat.le_refl _) _, some ⟨W.heap.size, 0, none⟩, 1, rfl, SlAt.litAt encM_len W _ rfl 54 [kTwo] (by simp [maxLen]), Nat.le_refl _, by simp [maxLen]⟩
      · refine StepR.call rfl rfl hnb (hkp 50) fun L a W hI hk hd => ?_
        obtain ⟨_, e78, q78, rfl, hq78⟩ := hI.get 47 78 (hd 47 rfl) rfl
        obtain ⟨_, e80, A80, m80, rfl, hq80, hl80, hm80⟩ := hI.get 49 80 (hd 49 rfl) rfl
        refine ⟨hI.wants rfl (hd 43 rfl) rfl (fun _ h => h), 26, #[.slice (some ⟨q78, 0, none⟩) 4 4, .slice A80 1 m80], by go_simp, (lawOf11 (some ⟨q78, 0, none⟩) 4 [(1, 1), (2, 1)] A80 m80 [kTwo] W hq78 (by simp) hq80 (hl80) (hm80)).mono ?_⟩
        rintro e W' ⟨⟨z, rfl, hz, ho⟩, hb⟩
        exact ⟨_, rfl, hb, z, rfl, hz, ho⟩
      · refine StepR.call rfl rfl hnb (hkp 51) fun L a W hI hk hd => ?_
        obtain ⟨_, e75, rfl⟩ := hI.get 44 75 (hd 44 rfl) rfl
        obtain ⟨_, e77, z77, rfl, hz77, ho77⟩ := hI.get 46 77 (hd 46 rfl) rfl
        obtain ⟨_, e81, z81, rfl, hz81, ho81⟩ := hI.get 50 81 (hd 50 rfl) rfl
        refine ⟨hI.wants rfl (hd 43 rfl) rfl (fun _ h => h), 11, #[mkC cY, mkC z77, mkC z81, .int .i64 0], by go_simp, (joins_l 0 cY z77 z81 W kj7 sY sA sB ((KK0 W hI.glob).ok (g := gY) (c := cY) (by simp)) ho77 ho81 EcY.out hz77 hz81).mono ?_⟩
        rintro e W' ⟨rfl, hb⟩
        exact ⟨_, rfl, hb, rfl⟩
      · refine StepR.pure rfl rfl hnb (fun W => Below.refl _ W) (hkp 52) fun L a W hI hk hd => ?_
        obtain ⟨_, e82, rfl⟩ := hI.get 51 82 (hd 51 rfl) rfl
        exact ⟨hI.wants rfl (hd 43 rfl) rfl (fun _ h => h), .bool false, by go_simp, rfl⟩
      · refine StepR.pure rfl rfl hnb (fun W => Below.refl _ W) (hkp 53) fun L a W hI hk hd => ?_
        obtain ⟨_, e74, rfl⟩ := hI.get 43 74 (hd 43 rfl) rfl
        obtain ⟨_, e83, rfl⟩ := hI.get 52 83 (hd 52 rfl) rfl
        exact ⟨rfl, .bool false, by go_simp, rfl⟩
    · intro a W4 L hL hI
      have k84 : a.eval (.tmp 84) = .bool false := by
        obtain ⟨_, e84, rfl⟩ := hI.get 53 84 (hL 53 (by decide)) rfl
        rw [eval_tmp]; exact e84
      have HKV := Lib.hid (KK0 W4 hI.glob)
      rw [hI.frame]
      simp only [List.filterMap, List.foldl]
      rw [k84]
      generalize a.eval (.tmp 31) = v31
      generalize a.eval (.tmp 32) = v32
      generalize a.eval (.tmp 33) = v33
      generalize a.eval (.tmp 34) = v34
      generalize a.eval (.tmp 35) = v35
      generalize a.eval (.tmp 36) = v36
      generalize a.eval (.tmp 37) = v37
      generalize a.eval (.tmp 38) = v38
      generalize a.eval (.tmp 39) = v39
      generalize a.eval (.tmp 40) = v40
      generalize a.eval (.tmp 41) = v41
      generalize a.eval (.tmp 42) = v42
      generalize a.eval (.tmp 43) = v43
      generalize a.eval (.tmp 44) = v44
      generalize a.eval (.tmp 45) = v45
      generalize a.eval (.tmp 46) = v46
      generalize a.eval (.tmp 47) = v47
      generalize a.eval (.tmp 48) = v48
      generalize a.eval (.tmp 49) = v49
      generalize a.eval (.tmp 50) = v50
      generalize a.eval (.tmp 51) = v51
      generalize a.eval (.tmp 52) = v52
      generalize a.eval (.tmp 53) = v53
      generalize a.eval (.tmp 54) = v54
      generalize a.eval (.tmp 55) = v55
      generalize a.eval (.tmp 56) = v56
      generalize a.eval (.tmp 57) = v57
      generalize a.eval (.tmp 58) = v58
      generalize a.eval (.tmp 59) = v59
      generalize a.eval (.tmp 60) = v60
      generalize a.eval (.tmp 61) = v61
      generalize a.eval (.tmp 62) = v62
      generalize a.eval (.tmp 63) = v63
      generalize a.eval (.tmp 64) = v64
      generalize a.eval (.tmp 65) = v65
      generalize a.eval (.tmp 66) = v66
      generalize a.eval (.tmp 67) = v67
      generalize a.eval (.tmp 68) = v68
      generalize a.eval (.tmp 69) = v69
      generalize a.eval (.tmp 70) = v70
      generalize a.eval (.tmp 71) = v71
      generalize a.eval (.tmp 72) = v72
      generalize a.eval (.tmp 73) = v73
      generalize a.eval (.tmp 74) = v74
      generalize a.eval (.tmp 75) = v75
      generalize a.eval (.tmp 76) = v76
      generalize a.eval (.tmp 77) = v77
      generalize a.eval (.tmp 78) = v78
      generalize a.eval (.tmp 79) = v79
      generalize a.eval (.tmp 80) = v80
      generalize a.eval (.tmp 81) = v81
      generalize a.eval (.tmp 82) = v82
      generalize a.eval (.tmp 83) = v83
      clear hL hI KK0 hkp k84 HK6
      simp only [List.setIfInBounds_toArray, List.set_cons_succ, List.set_cons_zero]
      go_upto_region 6 with fail
      have KK0 : ∀ V, Below W4.heap.size W4 V → KB w [(gX, cX), (gY, cY), (gZ, cZ), (gT, cT), (gO, cO), (gW, cW)] [(m1, kOne), (m2, kTwo)] V := fun V hb => HKV.out.next hb
      have hkp : ∀ (q : Nat) (L : Nat → Bool) (W W' : World), Below W4.heap.size W4 W → BelW W W' → KeepsR (spS W4 (kn6P cX cY cZ cT cO cW)) L W W' ∧ Below W4.heap.size W4 W' := fun _ _ _ _ h hb => sp_keep h hb
      refine wp_region_sp (sp := kn6P cX cY cZ cT cO cW) (by kernel_rfl) (by kernel_rfl) (by kernel_rfl) (dst_small (n := 121) (by kernel_rfl)) ?_ ?_
      ·
        refine ⟨?_, ?_, ?_, ?_, ?_, ?_, ?_, ?_, ?_, ?_, ?_, ?_, ?_, ?_, ?_, ?_, ?_, ?_, ?_, ?_, ?_, ?_, ?_, ?_, ?_, ?_, ?_, ?_, ?_, ?_, ?_, ?_, ?_, ?_, ?_, ?_, ?_, trivial⟩
        · refine StepR.pure rfl rfl hnb (fun W => Below.refl _ W) (hkp 0) fun L a W hI hk hd => ?_
          have e3 : a.tmps[3]?.getD undef = .pointer (some ⟨gX, 0, none⟩) := hI.at 3 (by kernel_rfl)
          obtain ⟨c0, c1, c2, _⟩ := (KK0 W hI.glob).ca (g := gX) (c := cX) (by simp)
          exact ⟨rfl, mkC cX, by go_simp, rfl⟩
        · refine StepR.pure rfl rfl hnb (fun W => Below.refl _ W) (hkp 1) fun L a W hI hk hd => ?_
          have e8 : a.tmps[8]?.getD undef = .pointer (some ⟨gW, 0, none⟩) := hI.at 8 (by kernel_rfl)
          obtain ⟨c0, c1, c2, _⟩ := (KK0 W hI.glob).ca (g := gW) (c := cW) (by simp)
          exact ⟨rfl, mkC cW, by go_simp, rfl⟩
        · refine StepR.call rfl rfl hnb (hkp 2) fun L a W hI hk hd => ?_
          obtain ⟨_, e85, rfl⟩ := hI.get 0 85 (hd 0 rfl) rfl
          obtain ⟨_, e86, rfl⟩ := hI.get 1 86 (hd 1 rfl) rfl
          refine ⟨rfl, 19, #[mkC cX, mkC cW, .bool true, .int .i64 0], by go_simp, (within_l true 0 cX cW W kw1 sX sXY ((KK0 W hI.glob).ok (g := gX) (c := cX) (by simp)) ((KK0 W hI.glob).ok (g := gW) (c := cW) (by simp)) EcX.out EcW.out).mono ?_⟩
          rintro e W' ⟨rfl, hb⟩
          exact ⟨_, rfl, hb, rfl⟩
        · refine StepR.pure rfl rfl hnb (fun W => Below.refl _ W) (hkp 3) fun L a W hI hk hd => ?_
          obtain ⟨_, e87, rfl⟩ := hI.get 2 87 (hd 2 rfl) rfl
          exact ⟨rfl, .bool true, by go_simp, rfl⟩
        · refine StepR.pure rfl rfl hnb (fun W => Below.refl _ W) (hkp 4) fun L a W hI hk hd => ?_
          have e3 : a.tmps[3]?.getD undef = .pointer (some ⟨gX, 0, none⟩) := hI.at 3 (by kernel_rfl)
          obtain ⟨c0, c1, c2, _⟩ := (KK0 W hI.glob).ca (g := gX) (c := cX) (by simp)
          exact ⟨hI.wants rfl (hd 3 rfl) rfl (fun _ h => h), mkC cX, by go_simp, rfl⟩
        · refine StepR.pure rfl rfl hnb (fun W => Below.refl _ W) (hkp 5) fun L a W hI hk hd => ?_
          have e4 : a.tmps[4]?.getD undef = .pointer (some ⟨gY, 0, none⟩) := hI.at 4 (by kernel_rfl)
          obtain ⟨c0, c1, c2, _⟩ := (KK0 W hI.glob).ca (g := gY) (c := cY) (by simp)
          exact ⟨hI.wants rfl (hd 3 rfl) rfl (fun _ h => h), mkC cY, by go_simp, rfl⟩
        · refine StepR.call rfl rfl hnb (hkp 6) fun L a W hI hk hd => ?_
          obtain ⟨_, e89, rfl⟩ := hI.get 4 89 (hd 4 rfl) rfl
          obtain ⟨_, e90, rfl⟩ := hI.get 5 90 (hd 5 rfl) rfl
          refine ⟨hI.wants rfl (hd 3 rfl) rfl (fun _ h => h), 19, #[mkC cX, mkC cY, .bool false, .int .i64 0], by go_simp, (within_l false 0 cX cY W kw2 sX sY ((KK0 W hI.glob).ok (g := gX) (c := cX) (by simp)) ((KK0 W hI.glob).ok (g := gY) (c := cY) (by simp)) EcX.out EcY.out).mono ?_⟩
          rintro e W' ⟨rfl, hb⟩
          exact ⟨_, rfl, hb, rfl⟩
        · refine StepR.pure rfl rfl hnb (fun W => Below.refl _ W) (hkp 7) fun L a W hI hk hd => ?_
          obtain ⟨_, e88, rfl⟩ := hI.get 3 88 (hd 3 rfl) rfl
          obtain ⟨_, e91, rfl⟩ := hI.get 6 91 (hd 6 rfl) rfl
          exact ⟨rfl, .bool true, by go_simp, rfl⟩
        · refine StepR.pure rfl rfl hnb (fun W => Below.refl _ W) (hkp 8) fun L a W hI hk hd => ?_
          obtain ⟨_, e92, rfl⟩ := hI.get 7 92 (hd 7 rfl) rfl
          exact ⟨rfl, .bool true, by go_simp, rfl⟩
        · refine StepR.pure rfl rfl hnb (fun W => Below.refl _ W) (hkp 9) fun L a W hI hk hd => ?_
          have e3 : a.tmps[3]?.getD undef = .pointer (some ⟨gX, 0, none⟩) := hI.at 3 (by kernel_rfl)
          obtain ⟨c0, c1, c2, _⟩ := (KK0 W hI.glob).ca (g := gX) (c := cX) (by simp)
          exact ⟨hI.wants rfl (hd 8 rfl) rfl (fun _ h => h), mkC cX, by go_simp, rfl⟩
        · refine StepR.pure rfl rfl hnb (fun W => Below.refl _ W) (hkp 10) fun L a W hI hk hd => ?_
          have e5 : a.tmps[5]?.getD undef = .pointer (some ⟨gZ, 0, none⟩) := hI.at 5 (by kernel_rfl)
          obtain ⟨c0, c1, c2, _⟩ := (KK0 W hI.glob).ca (g := gZ) (c := cZ) (by simp)
          exact ⟨hI.wants rfl (hd 8 rfl) rfl (fun _ h => h), mkC cZ, by go_simp, rfl⟩
        · refine StepR.call rfl rfl hnb (hkp 11) fun L a W hI hk hd => ?_
          obtain ⟨_, e94, rfl⟩ := hI.get 9 94 (hd 9 rfl) rfl
          obtain ⟨_, e95, rfl⟩ := hI.get 10 95 (hd 10 rfl) rfl
          refine ⟨hI.wants rfl (hd 8 rfl) rfl (fun _ h => h), 19, #[mkC cX, mkC cZ, .bool true, .int .i64 0], by go_simp, (within_l true 0 cX cZ W kw3 sX sZ ((KK0 W hI.glob).ok (g := gX) (c := cX) (by simp)) ((KK0 W hI.glob).ok (g := gZ) (c := cZ) (by simp)) EcX.out EcZ.out).mono ?_⟩
          rintro e W' ⟨rfl, hb⟩
          exact ⟨_, rfl, hb, rfl⟩
        · refine StepR.pure rfl rfl hnb (fun W => Below.refl _ W) (hkp 12) fun L a W hI hk hd => ?_
          obtain ⟨_, e93, rfl⟩ := hI.get 8 93 (hd 8 rfl) rfl
          obtain ⟨_, e96, rfl⟩ := hI.get 11 96 (hd 11 rfl) rfl
          exact ⟨rfl, .bool true, by go_simp, rfl⟩
        · refine StepR.pure rfl rfl hnb (fun W => Below.refl _ W) (hkp 13) fun L a W hI hk hd => ?_
          obtain ⟨_, e97, rfl⟩ := hI.get 12 97 (hd 12 rfl) rfl
          exact ⟨rfl, .bool true, by go_simp, rfl⟩
        · refine StepR.pure rfl rfl hnb (fun W => Below.refl _ W) (hkp 14) fun L a W hI hk hd => ?_
          have e3 : a.tmps[3]?.getD undef = .pointer (some ⟨gX, 0, none⟩) := hI.at 3 (by kernel_rfl)
          obtain ⟨c0, c1, c2, _⟩ := (KK0 W hI.glob).ca (g := gX) (c := cX) (by simp)
          exact ⟨hI.wants rfl (hd 13 rfl) rfl (fun _ h => h), mkC cX, by go_simp, rfl⟩
        · refine StepR.pure rfl rfl hnb (fun W => Below.refl _ W) (hkp 15) fun L a W hI hk hd => ?_
          have e4 : a.tmps[4]?.getD undef = .pointer (some ⟨gY, 0, none⟩) := hI.at 4 (by kernel_rfl)
          obtain ⟨c0, c1, c2, _⟩ := (KK0 W hI.glob).ca (g := gY) (c := cY) (by simp)
          exact ⟨hI.wants rfl (hd 13 rfl) rfl (fun _ h => h), mkC cY, by go_simp, rfl⟩
        · refine StepR.call rfl rfl hnb (hkp 16) fun L a W hI hk hd => ?_
          obtain ⟨_, e99, rfl⟩ := hI.get 14 99 (hd 14 rfl) rfl
          obtain ⟨_, e100, rfl⟩ := hI.get 15 100 (hd 15 rfl) rfl
          refine ⟨hI.wants rfl (hd 13 rfl) rfl (fun _ h => h), 20, #[mkC cX, mkC cY, .bool true, .int .i64 0], by go_simp, (fits_l true 0 cX cY W kf1 sX sY ((KK0 W hI.glob).ok (g := gX) (c := cX) (by simp)) ((KK0 W hI.glob).ok (g := gY) (c := cY) (by simp)) EcX.out EcY.out).mono ?_⟩
          rintro e W' ⟨rfl, hb⟩
          exact ⟨_, rfl, hb, rfl⟩
        · refine StepR.pure rfl rfl hnb (fun W => Below.refl _ W) (hkp 17) fun L a W hI hk hd => ?_
          obtain ⟨_, e98, rfl⟩ := hI.get 13 98 (hd 13 rfl) rfl
          obtain ⟨_, e101, rfl⟩ := hI.get 16 101 (hd 16 rfl) rfl
          exact ⟨rfl, .bool true, by go_simp, rfl⟩
        · refine StepR.pure rfl rfl hnb (fun W => Below.refl _ W) (hkp 18) fun L a W hI hk hd => ?_
          obtain ⟨_, e102, rfl⟩ := hI.get 17 102 (hd 17 rfl) rfl
          exact ⟨rfl, .bool true, by go_simp, rfl⟩
        · refine StepR.pure rfl rfl hnb (fun W => Below.refl _ W) (hkp 19) fun L a W hI hk hd => ?_
          have e3 : a.tmps[3]?.getD undef = .pointer (some ⟨gX, 0, none⟩) := hI.at 3 (by kernel_rfl)
          obtain ⟨c0, c1, c2, _⟩ := (KK0 W hI.glob).ca (g := gX) (c := cX) (by simp)
          exact ⟨hI.wants rfl (hd 18 rfl) rfl (fun _ h => h), mkC cX, by go_simp, rfl⟩
        · refine StepR.pure rfl rfl hnb (fun W => Below.refl _ W) (hkp 20) fun L a W hI hk hd => ?_
          have e6 : a.tmps[6]?.getD undef = .pointer (some ⟨gT, 0, none⟩) := hI.at 6 (by kernel_rfl)
          obtain ⟨c0, c1, c2, _⟩ := (KK0 W hI.glob).ca (g := gT) (c := cT) (by simp)
          exact ⟨hI.wants rfl (hd 18 rfl) rfl (fun _ h => h), mkC cT, by go_simp, rfl⟩
        · refine StepR.call rfl rfl hnb (hkp 21) fun L a W hI hk hd => ?_
          obtain ⟨_, e104, rfl⟩ := hI.get 19 104 (hd 19 rfl) rfl
          obtain ⟨_, e105, rfl⟩ := hI.get 20 105 (hd 20 rfl) rfl
          refine ⟨hI.wants rfl (hd 18 rfl) rfl (fun _ h => h), 20, #[mkC cX, mkC cT, .bool false, .int .i64 0], by go_simp, (fits_l false 0 cX cT W kf2 sX sT ((KK0 W hI.glob).ok (g := gX) (c := cX) (by simp)) ((KK0 W hI.glob).ok (g := gT) (c := cT) (by simp)) EcX.out EcT.out).mono ?_⟩
          rintro e W' ⟨rfl, hb⟩
          exact ⟨_, rfl, hb, rfl⟩
        · refine StepR.pure rfl rfl hnb (fun W => Below.refl _ W) (hkp 22) fun L a W hI hk hd => ?_
          obtain ⟨_, e103, rfl⟩ := hI.get 18 103 (hd 18 rfl) rfl
          obtain ⟨_, e106, rfl⟩ := hI.get 21 106 (hd 21 rfl) rfl
          exact ⟨rfl, .bool true, by go_simp, rfl⟩
        · refine StepR.pure rfl rfl hnb (fun W => Below.refl _ W) (hkp 23) fun L a W hI hk hd => ?_
          obtain ⟨_, e107, rfl⟩ := hI.get 22 107 (hd 22 rfl) rfl
          exact ⟨rfl, .bool true, by go_simp, rfl⟩
        · refine StepR.pure rfl rfl hnb (fun W => Below.refl _ W) (hkp 24) fun L a W hI hk hd => ?_
          have e3 : a.tmps[3]?.getD undef = .pointer (some ⟨gX, 0, none⟩) := hI.at 3 (by kernel_rfl)
          obtain ⟨c0, c1, c2, _⟩ := (KK0 W hI.glob).ca (g := gX) (c := cX) (by simp)
          exact ⟨hI.wants rfl (hd 23 rfl) rfl (fun _ h => h), mkC cX, by go_simp, rfl⟩
        · refine StepR.pure rfl rfl hnb (fun W => Below.refl _ W) (hkp 25) fun L a W hI hk hd => ?_
          have e5 : a.tmps[5]?.getD undef = .pointer (some ⟨gZ, 0, none⟩) := hI.at 5 (by kernel_rfl)
          obtain ⟨c0, c1, c2, _⟩ := (KK0 W hI.glob).ca (g := gZ) (c := cZ) (by simp)
          exact ⟨hI.wants rfl (hd 23 rfl) rfl (fun _ h => h), mkC cZ, by go_simp, rfl⟩
        · refine StepR.call rfl rfl hnb (hkp 26) fun L a W hI hk hd => ?_
          obtain ⟨_, e109, rfl⟩ := hI.get 24 109 (hd 24 rfl) rfl
          obtain ⟨_, e110, rfl⟩ := hI.get 25 110 (hd 25 rfl) rfl
          refine ⟨hI.wants rfl (hd 23 rfl) rfl (fun _ h => h), 20, #[mkC cX, mkC cZ, .bool true, .int .i64 0], by go_simp, (fits_l true 0 cX cZ W kf3 sX sZ ((KK0 W hI.glob).ok (g := gX) (c := cX) (by simp)) ((KK0 W hI.glob).ok (g := gZ) (c := cZ) (by simp)) EcX.out EcZ.out).mono ?_⟩
          rintro e W' ⟨rfl, hb⟩
          exact ⟨_, rfl, hb, rfl⟩
        · refine StepR.pure rfl rfl hnb (fun W => Below.refl _ W) (hkp 27) fun L a W hI hk hd => ?_
          obtain ⟨_, e108, rfl⟩ := hI.get 23 108 (hd 23 rfl) rfl
          obtain ⟨_, e111, rfl⟩ := hI.get 26 111 (hd 26 rfl) rfl
          exact ⟨rfl, .bool true, by go_simp, rfl⟩
        · refine StepR.pure rfl rfl hnb (fun W => Below.refl _ W) (hkp 28) fun L a W hI hk hd => ?_
          obtain ⟨_, e112, rfl⟩ := hI.get 27 112 (hd 27 rfl) rfl
          exact ⟨rfl, .bool true, by go_simp, rfl⟩
        · refine StepR.pure rfl rfl hnb (fun W => Below.refl _ W) (hkp 29) fun L a W hI hk hd => ?_
          have e3 : a.tmps[3]?.getD undef = .pointer (some ⟨gX, 0, none⟩) := hI.at 3 (by kernel_rfl)
          obtain ⟨c0, c1, c2, _⟩ := (KK0 W hI.glob).ca (g := gX) (c := cX) (by simp)
          exact ⟨hI.wants rfl (hd 28 rfl) rfl (fun _ h => h), mkC cX, by go_simp, rfl⟩
        · refine StepR.pure rfl rfl hnb (fun W => Below.refl _ W) (hkp 30) fun L a W hI hk hd => ?_
          have e1 : a.tmps[1]?.getD undef = .pointer (some ⟨m1, 0, none⟩) := hI.at 1 (by kernel_rfl)
          obtain ⟨c0, c1, c2, c3⟩ := (KK0 W hI.glob).mkb (g := m1) (m := kOne) (by simp)
          exact ⟨hI.wants rfl (hd 28 rfl) rfl (fun _ h => h), mkV kOne, by go_simp, rfl⟩
        · refine StepR.made rfl rfl hnb (hkp 31) fun L a W hI hk hd => ?_
          obtain ⟨_, e115, rfl⟩ := hI.get 30 115 (hd 30 rfl) rfl
          exact ⟨hI.wants rfl (hd 28 rfl) rfl (fun _ h => h), .slice (some ⟨W.heap.size, 0, none⟩) 1 1, W.alloc (.cells #[.int .i64 kOne.r, .int .i64 kOne.c, .int .i64 kOne.q, .int .u64 (kOne.t : Int)] 54), by go_simp, (Below.refl _ W).alloc (Nat.le_refl _) _, some ⟨W.heap.size, 0, none⟩, 1, rfl, SlAt.litAt encM_len W _ rfl 54 [kOne] (by simp [maxLen]), Nat.le_refl _, by simp [maxLen]⟩
        · refine StepR.call rfl rfl hnb (hkp 32) fun L a W hI hk hd => ?_
          obtain ⟨_, e116, A116, m116, rfl, hq116, hl116, hm116⟩ := hI.get 31 116 (hd 31 rfl) rfl
          refine ⟨hI.wants rfl (hd 28 rfl) rfl (fun _ h => h), 26, #[.slice none 0 0, .slice A116 1 m116], by go_simp, (lawOf11 none 0 [] A116 m116 [kOne] W SlAt.nil (by simp) hq116 (hl116) (hm116)).mono ?_⟩
          rintro e W' ⟨⟨z, rfl, hz, ho⟩, hb⟩
          exact ⟨_, rfl, hb, z, rfl, hz, ho⟩
        · refine StepR.pure rfl rfl hnb (fun W => Below.refl _ W) (hkp 33) fun L a W hI hk hd => ?_
          have e7 : a.tmps[7]?.getD undef = .pointer (some ⟨gO, 0, none⟩) := hI.at 7 (by kernel_rfl)
          obtain ⟨c0, c1, c2, _⟩ := (KK0 W hI.glob).ca (g := gO) (c := cO) (by simp)
          exact ⟨hI.wants rfl (hd 28 rfl) rfl (fun _ h => h), mkC cO, by go_simp, rfl⟩
        · refine StepR.call rfl rfl hnb (hkp 34) fun L a W hI hk hd => ?_
          obtain ⟨_, e114, rfl⟩ := hI.get 29 114 (hd 29 rfl) rfl
          obtain ⟨_, e117, z117, rfl, hz117, ho117⟩ := hI.get 32 117 (hd 32 rfl) rfl
          obtain ⟨_, e118, rfl⟩ := hI.get 33 118 (hd 33 rfl) rfl
          refine ⟨hI.wants rfl (hd 28 rfl) rfl (fun _ h => h), 11, #[mkC cX, mkC z117, mkC cO, .int .i64 2], by go_simp, (joins_l 2 cX z117 cO W kj8 sX sN sO ((KK0 W hI.glob).ok (g := gX) (c := cX) (by simp)) ho117 ((KK0 W hI.glob).ok (g := gO) (c := cO) (by simp)) EcX.out hz117 EcO.out).mono ?_⟩
          rintro e W' ⟨rfl, hb⟩
          exact ⟨_, rfl, hb, rfl⟩
        · refine StepR.pure rfl rfl hnb (fun W => Below.refl _ W) (hkp 35) fun L a W hI hk hd => ?_
          obtain ⟨_, e113, rfl⟩ := hI.get 28 113 (hd 28 rfl) rfl
          obtain ⟨_, e119, rfl⟩ := hI.get 34 119 (hd 34 rfl) rfl
          exact ⟨rfl, .bool true, by go_simp, rfl⟩
        · refine StepR.pure rfl rfl hnb (fun W => Below.refl _ W) (hkp 36) fun L a W hI hk hd => ?_
          obtain ⟨_, e120, rfl⟩ := hI.get 35 120 (hd 35 rfl) rfl
          exact ⟨rfl, .bool true, by go_simp, rfl⟩
      · intro a W5 L hL hI
        have k0 : a.eval (.tmp 0) = .bool true := by
          obtain ⟨_, e0, rfl⟩ := hI.get 36 0 (hL 36 (by decide)) rfl
          rw [eval_tmp]; exact e0
        have HBW := Lib.hid (KK0 W5 hI.glob).kk.bel
        rw [hI.frame]
        simp only [List.filterMap, List.foldl]
        rw [k0]
        generalize a.eval (.tmp 85) = v85
        generalize a.eval (.tmp 86) = v86
        generalize a.eval (.tmp 87) = v87
        generalize a.eval (.tmp 88) = v88
        generalize a.eval (.tmp 89) = v89
        generalize a.eval (.tmp 90) = v90
        generalize a.eval (.tmp 91) = v91
        generalize a.eval (.tmp 92) = v92
        generalize a.eval (.tmp 93) = v93
        generalize a.eval (.tmp 94) = v94
        generalize a.eval (.tmp 95) = v95
        generalize a.eval (.tmp 96) = v96
        generalize a.eval (.tmp 97) = v97
        generalize a.eval (.tmp 98) = v98
        generalize a.eval (.tmp 99) = v99
        generalize a.eval (.tmp 100) = v100
        generalize a.eval (.tmp 101) = v101
        generalize a.eval (.tmp 102) = v102
        generalize a.eval (.tmp 103) = v103
        generalize a.eval (.tmp 104) = v104
        generalize a.eval (.tmp 105) = v105
        generalize a.eval (.tmp 106) = v106
        generalize a.eval (.tmp 107) = v107
        generalize a.eval (.tmp 108) = v108
        generalize a.eval (.tmp 109) = v109
        generalize a.eval (.tmp 110) = v110
        generalize a.eval (.tmp 111) = v111
        generalize a.eval (.tmp 112) = v112
        generalize a.eval (.tmp 113) = v113
        generalize a.eval (.tmp 114) = v114
        generalize a.eval (.tmp 115) = v115
        generalize a.eval (.tmp 116) = v116
        generalize a.eval (.tmp 117) = v117
        generalize a.eval (.tmp 118) = v118
        generalize a.eval (.tmp 119) = v119
        generalize a.eval (.tmp 120) = v120
        clear hL hI KK0 hkp k0 HKV
        simp only [List.setIfInBounds_toArray, List.set_cons_succ, List.set_cons_zero]
        go_wp2_with fail
        go_ret
        exact OneB.bool rfl HBW.out

end Go.Proofs.YtfjbocipjmpogaaGreat
