/- Several texts in one: DelZ. -/
import Derived.Test.YtiaehpdgpjhecaaGreatPBC
namespace Go.Proofs.YtiaehpdgpjhecaaGreat

section
open Go.RowKit

set_option maxHeartbeats 400000 in
theorem con11s (g : Nat) (w : World) : Calls Tryz.prog 24 #[.int .i64 1, .slice (some ⟨g, 0, none⟩) 1 1] w fun e w' => e = .returned (.agg #[.slice (some ⟨g, 0, none⟩) 1 1, .slice (some ⟨g, 0, none⟩) 0 0]) ∧ Below w.heap.size w w' := by
  have hb : Below w.heap.size w ((w.alloc (.cells #[.slice (some ⟨g, 0, none⟩) 1 1, .slice (some ⟨g, 0, none⟩) 0 0] 25)).drew) := ((Below.refl _ w).alloc (Nat.le_refl _) _).drew
  have hB : Blk2 ((w.alloc (.cells #[.slice (some ⟨g, 0, none⟩) 1 1, .slice (some ⟨g, 0, none⟩) 0 0] 25)).drew) w.heap.size (.slice (some ⟨g, 0, none⟩) 1 1) (.slice (some ⟨g, 0, none⟩) 0 0) := heap_alloc_new w _
  have HB := Lib.hid hb
  have HC := Lib.hid hB
  clear hb hB
  go_enter Tryz.func24, Tryz.ntmps24
  go_upto_region 1 with fail
  go_region
  go_wp2_with fail
  have s0 := HC.out.cell0
  have s1 := HC.out.cell1
  exact bodyPost_ret (v := .agg #[.slice (some ⟨g, 0, none⟩) 1 1, .slice (some ⟨g, 0, none⟩) 0 0]) (by simp [results, Tryz.results24, go_sem, s0, s1]) rfl ⟨rfl, HB.out⟩

def km12R (m : Int) (_ : CaV) (k : Nat) : Nat → Sr
  | 0 => .eq (.agg #[.int .i64 1, .int .i64 1])
  | 1 => .eq (.agg #[.int .i64 1, .int .i64 ((k : Int) + 1)])
  | 2 => .dots [(1, 1), (1, ((k : Int) + 1))]
  | 3 => .ctx [(1, 1)] [(1, ((k : Int) + 1))]
  | 4 => .eq (.int .i64 m)
  | 5 => .eq (.int .i64 ((k : Int) + 1))
  | 6 => .eq (mkV ⟨1, ((k : Int) + 1), 3, 8⟩)
  | 7 => .marks [⟨1, ((k : Int) + 1), 3, 8⟩]
  | 8 => .item ([97, 97], [⟨1, ((k : Int) + 1), 3, 8⟩])
  | 9 => .items [([97, 97], [⟨1, ((k : Int) + 1), 3, 8⟩])]
  | 10 => .cart (([(1, 1)], [(1, ((k : Int) + 1))]), [([97, 97], [⟨1, ((k : Int) + 1), 3, 8⟩])])
  | 11 => .cbox
  | _ => .any
def km12B : Nat → Option Nat
  | 12 => some 11
  | _ => none
def km12Q (X : Ca) : Nat → Sq
  | 12 => .cart X
  | _ => .none
theorem km12B_in {j k : Nat} (h : km12B j = some k) : j = 12 ∧ k = 11 := by
  unfold km12B at h
  split at h
  · cases h; exact ⟨rfl, rfl⟩
  · cases h
theorem km12Q_calm (X : Ca) (j : Nat) : (km12Q X j).calm = true := by unfold km12Q; split <;> rfl

set_option maxRecDepth 100000 in
set_option maxHeartbeats 16000000 in
theorem lawDeltaMany12 (KN : KnownD) (HDO : DelOK) (m : Int) (w0 : World) : Calls Tryz.prog 5 #[.int .i64 m] w0 (TrueB w0) := by
  obtain ⟨ti0, hii, hzi0, hzi1, hzi2⟩ := info_parts infoIt
  have DO := Lib.hid HDO
  have HKN := Lib.hid KN
  clear HDO KN
  by_cases h1 : m < -2
  · skip
    go_enter Tryz.func5, Tryz.ntmps5
    go_wp2_with fail
    refine (HKN.out _).mono ?_
    rintro e w1 ⟨rfl, hb⟩
    go_wp2_with fail
    go_ret
    exact OneB.bool rfl hb
  by_cases h2 : 2 < m
  · skip
    go_enter Tryz.func5, Tryz.ntmps5
    go_wp2_with fail
    refine (HKN.out _).mono ?_
    rintro e w1 ⟨rfl, hb⟩
    go_wp2_with fail
    go_ret
    exact OneB.bool rfl hb
  obtain ⟨n, hn⟩ : ∃ n : Nat, (256 : Int) + m = (n : Int) := ⟨(256 + m).toNat, by omega⟩
  have iN1 : (257 : Int) + m = (n : Int) + 1 := by omega
  have HN := Lib.hid (show 254 ≤ n ∧ n ≤ 258 from by omega)
  have hn1 : (n : Int) ≤ 258 := by omega
  have hn2 : (254 : Int) ≤ (n : Int) := by omega
  go_enter Tryz.func5, Tryz.ntmps5
  go_wp2_with fail
  refine (lawAt12 1 (n : Int) _).mono ?_
  rintro e w1 ⟨rfl, hb⟩
  have hal := (Below.refl w1.heap.size w1).alloc (Nat.le_refl _) (.cells #[.int .i64 1, .int .i64 (n : Int)] 30)
  have HR := Lib.hid (heap_alloc_new w1 (.cells #[.int .i64 1, .int .i64 (n : Int)] 30))
  have HB := Lib.hid (below_trans hb hal)
  clear hb hal
  go_wp2_with fail
  refine (con11s w1.heap.size _).mono ?_
  rintro e w2 ⟨rfl, hb⟩
  have hal := (Below.refl w2.heap.size w2).alloc (Nat.le_refl _) (.cells #[.slice (some ⟨w1.heap.size, 0, none⟩) 1 1, .slice (some ⟨w1.heap.size, 0, none⟩) 0 0, .slice none 0 0] 28)
  have K0 := Lib.hid (show KMy w0 w2.heap.size w1.heap.size n (.slice none 0 0) [] (w2.alloc (.cells #[.slice (some ⟨w1.heap.size, 0, none⟩) 1 1, .slice (some ⟨w1.heap.size, 0, none⟩) 0 0, .slice none 0 0] 28)) from
    ⟨below_trans HB.out (below_trans hb hal), Nat.le_trans HB.out.size hb.size, heap_alloc_new w2 _, ((below_trans hb hal).block _ (Array.getElem?_eq_some_iff.1 HR.out).1).trans HR.out, OwnI.nil _ _⟩)
  clear hb hal HR HB
  go_upto_region 4 with fail
  generalize World.alloc w2 _ = w3 at K0 ⊢
  generalize w2.heap.size = g at K0 ⊢
  generalize w1.heap.size = gd at K0 ⊢
  go_wp2_with fail
  go_loopw [4] (fun i wr => ∃ (k : Nat) (iv : Value) (ys : List ItV), k ≤ n ∧ i = .int .i64 k ∧ Hid (its ys = itsM k) ∧ Hid (KMy w0 g gd n iv ys wr)) (fun i _ => n - (intOf i).toNat)
  case atStart => exact ⟨0, _, [], by omega, rfl, Lib.hid rfl, K0⟩
  case round =>
    clear K0
    obtain ⟨k, iv, ys, hk, rfl, HY, K⟩ := hrel
    by_cases hlt : k < n
    · have i0 : (k : Int) < (n : Int) := by omega
      obtain ⟨u, hu⟩ : ∃ u, k / 16 = u := ⟨_, rfl⟩
      obtain ⟨r, hr⟩ : ∃ r, k % 16 = r := ⟨_, rfl⟩
      have HU := Lib.hid hu
      have HRR := Lib.hid hr
      have hu2 : u ≤ 18 := by omega
      have hr2 : r ≤ 15 := by omega
      have hk3 : (k : Int) ≤ 300 := by omega
      have HYL := Lib.hid (show ys.length = k from by have := congrArg List.length HY.out; rw [its_len, itsM_len] at this; exact this)
      have HKN3 := Lib.hid (show k < 300 from by omega)
      clear hu hr
      go_upto_region 7 with fail
      have hkp : ∀ (W W' : World) (L : Nat → Bool), KeepsT ⟨manG w0 g gd n k iv ys, manP g k u r iv⟩ L W W' := fun W W' L j v _ h => manP_turn h
      refine wp_region_T (S := ⟨manG w0 g gd n k iv ys, manP g k u r iv⟩) (by kernel_rfl) (by kernel_rfl) (by kernel_rfl) (dst_small (n := 110) (by kernel_rfl)) ⟨K.out.bel.drew, by rfl, fun _ => K.out.next (Below.refl _ _).drew, fun _ _ h => (by cases h), fun h => (by cases h), fun h => (by cases h)⟩ ?_ ?_
      · refine ⟨?_, ?_, ?_, ?_, ?_, ?_, ?_, ?_, ?_, ?_, ?_, ?_, ?_, ?_, ?_, ?_, ?_, ?_, ?_, ?_, ?_, trivial⟩
        · refine StepT.val rfl fun L a W hI hk hd => ?_
          have e3 : a.tmps[3]?.getD undef = .pointer (some ⟨g, 0, none⟩) := hI.at 3 (by kernel_rfl)
          exact ⟨rfl, .pointer (some ⟨g, 2, none⟩), W, by go_simp, hkp W W L, manG_keep hI.glob (Below.refl _ W) 0 (some 27) _ (by decide) (by decide), rfl⟩
        · refine StepT.val rfl fun L a W hI hk hd => ?_
          obtain ⟨_, e27, rfl⟩ := hI.get 0 27 (hd 0 rfl) rfl
          have h18 : L 18 = false := hI.before (j := 18) (o := _) rfl (k := 1) rfl hk
          have hK := hI.glob.2.2.1 h18
          obtain ⟨c0, c1, c2, cl⟩ := hK.cells
          exact ⟨rfl, iv, W, by go_simp, hkp W W L, manG_keep hI.glob (Below.refl _ W) 1 (some 28) _ (by decide) (by decide), rfl⟩
        · refine StepT.val rfl fun L a W hI hk hd => ?_
          have e4 : a.tmps[4]?.getD undef = .int .i64 (k : Int) := hI.at 4 (by kernel_rfl)
          exact ⟨rfl, .int .i64 (k : Int), W, by go_simp, hkp W W L, manG_keep hI.glob (Below.refl _ W) 2 (some 29) _ (by decide) (by decide), rfl⟩
        · refine StepT.val rfl fun L a W hI hk hd => ?_
          obtain ⟨_, e29, rfl⟩ := hI.get 2 29 (hd 2 rfl) rfl
          have hq : (k : Int).tdiv 16 = (u : Int) := by rw [Int.tdiv_eq_ediv_of_nonneg (by omega)]; have := HU.out; omega
          have hq2 : (k : Int) / 16 = (u : Int) := by have := HU.out; omega
          have wv : IntKind.i64.wrap ((u : Int)) = (u : Int) := by simp [IntKind.wrap, IntKind.bits, IntKind.signed]; omega
          exact ⟨rfl, .int .i64 (u : Int), W, by go_simp, hkp W W L, manG_keep hI.glob (Below.refl _ W) 3 (some 30) _ (by decide) (by decide), rfl⟩
        · refine StepT.val rfl fun L a W hI hk hd => ?_
          obtain ⟨_, e30, rfl⟩ := hI.get 3 30 (hd 3 rfl) rfl
          have wv : IntKind.i64.wrap (97 + (u : Int)) = 97 + (u : Int) := by simp [IntKind.wrap, IntKind.bits, IntKind.signed]; omega
          exact ⟨rfl, .int .i64 (97 + (u : Int)), W, by go_simp, hkp W W L, manG_keep hI.glob (Below.refl _ W) 4 (some 31) _ (by decide) (by decide), rfl⟩
        · refine StepT.val rfl fun L a W hI hk hd => ?_
          obtain ⟨_, e31, rfl⟩ := hI.get 4 31 (hd 4 rfl) rfl
          have wq : IntKind.u8.wrap (97 + (u : Int)) = 97 + (u : Int) := by simp [IntKind.wrap, IntKind.bits, IntKind.signed]; omega
          exact ⟨rfl, .int .u8 (97 + (u : Int)), W, by go_simp, hkp W W L, manG_keep hI.glob (Below.refl _ W) 5 (some 32) _ (by decide) (by decide), rfl⟩
        · refine StepT.val rfl fun L a W hI hk hd => ?_
          have e4 : a.tmps[4]?.getD undef = .int .i64 (k : Int) := hI.at 4 (by kernel_rfl)
          exact ⟨rfl, .int .i64 (k : Int), W, by go_simp, hkp W W L, manG_keep hI.glob (Below.refl _ W) 6 (some 33) _ (by decide) (by decide), rfl⟩
        · refine StepT.val rfl fun L a W hI hk hd => ?_
          obtain ⟨_, e33, rfl⟩ := hI.get 6 33 (hd 6 rfl) rfl
          have hq : (k : Int).tmod 16 = (r : Int) := by rw [Int.tmod_eq_emod_of_nonneg (by omega)]; have := HRR.out; omega
          have hq2 : (k : Int) % 16 = (r : Int) := by have := HRR.out; omega
          exact ⟨rfl, .int .i64 (r : Int), W, by go_simp, hkp W W L, manG_keep hI.glob (Below.refl _ W) 7 (some 34) _ (by decide) (by decide), rfl⟩
        · refine StepT.val rfl fun L a W hI hk hd => ?_
          obtain ⟨_, e34, rfl⟩ := hI.get 7 34 (hd 7 rfl) rfl
          have wv : IntKind.i64.wrap (97 + (r : Int)) = 97 + (r : Int) := by simp [IntKind.wrap, IntKind.bits, IntKind.signed]; omega
          exact ⟨rfl, .int .i64 (97 + (r : Int)), W, by go_simp, hkp W W L, manG_keep hI.glob (Below.refl _ W) 8 (some 35) _ (by decide) (by decide), rfl⟩
        · refine StepT.val rfl fun L a W hI hk hd => ?_
          obtain ⟨_, e35, rfl⟩ := hI.get 8 35 (hd 8 rfl) rfl
          have wq : IntKind.u8.wrap (97 + (r : Int)) = 97 + (r : Int) := by simp [IntKind.wrap, IntKind.bits, IntKind.signed]; omega
          exact ⟨rfl, .int .u8 (97 + (r : Int)), W, by go_simp, hkp W W L, manG_keep hI.glob (Below.refl _ W) 9 (some 36) _ (by decide) (by decide), rfl⟩
        · refine StepT.val rfl fun L a W hI hk hd => ?_
          obtain ⟨_, e32, rfl⟩ := hI.get 5 32 (hd 5 rfl) rfl
          obtain ⟨_, e36, rfl⟩ := hI.get 9 36 (hd 9 rfl) rfl
          exact ⟨rfl, .slice (some ⟨W.heap.size, 0, none⟩) 2 2, W.alloc (.cells #[.int .u8 (97 + (u : Int)), .int .u8 (97 + (r : Int))] 5), by go_simp, hkp W _ L, manG_step hI.glob ((Below.refl _ W).alloc (Nat.le_refl _) _) 10 (some 37) (by decide) (by decide) (inM_one 10 (fun _ => lit_bytes W k u r HU.out HRR.out HKN3.out)), trivial⟩
        · refine StepT.val rfl fun L a W hI hk hd => ?_
          have h10 : L 10 = true := hd 10 rfl
          have h16 : L 16 = false := hI.before (j := 16) (o := _) rfl (k := 11) rfl hk
          have h17 : L 17 = false := hI.before (j := 17) (o := _) rfl (k := 16) rfl h16
          have h18 : L 18 = false := hI.before (j := 18) (o := _) rfl (k := 17) rfl h17
          have hB : HoldsB W (a.eval (.tmp 37)) (nmM k) := hI.glob.2.2.2.1 10 (.inl rfl) h10 h18
          obtain ⟨A, c, e37, _⟩ := id hB
          rw [e37] at hB
          have hc := convB W A c (nmM k) hB
          have e37' : a.tmps[37]?.getD undef = .slice A (nmM k).length c := by rw [← eval_tmp]; exact e37
          generalize (nmM k).length = kl at *
          exact ⟨rfl, .string ⟨(nmM k).toArray⟩, W, by go_simp, hkp W W L, manG_keep hI.glob (Below.refl _ W) 11 (some 38) _ (by decide) (by decide), rfl⟩
        · refine StepT.val rfl fun L a W hI hk hd => ?_
          have e4 : a.tmps[4]?.getD undef = .int .i64 (k : Int) := hI.at 4 (by kernel_rfl)
          exact ⟨rfl, .int .i64 (k : Int), W, by go_simp, hkp W W L, manG_keep hI.glob (Below.refl _ W) 12 (some 39) _ (by decide) (by decide), rfl⟩
        · refine StepT.val rfl fun L a W hI hk hd => ?_
          obtain ⟨_, e39, rfl⟩ := hI.get 12 39 (hd 12 rfl) rfl
          have wv : IntKind.i64.wrap ((k : Int) + 1) = (k : Int) + 1 := by simp [IntKind.wrap, IntKind.bits, IntKind.signed]; omega
          exact ⟨rfl, .int .i64 ((k : Int) + 1), W, by go_simp, hkp W W L, manG_keep hI.glob (Below.refl _ W) 13 (some 40) _ (by decide) (by decide), rfl⟩
        · refine StepT.call rfl fun L a W hI hk hd => ?_
          obtain ⟨_, e40, rfl⟩ := hI.get 13 40 (hd 13 rfl) rfl
          refine ⟨rfl, 27, #[.int .i64 1, .int .i64 ((k : Int) + 1), .int .i64 5, .int .u64 7], by go_simp, (lawMark12 1 ((k : Int) + 1) 5 7 W).mono ?_⟩
          rintro e W' ⟨rfl, hb⟩
          exact ⟨_, rfl, hkp W W' L, manG_keep hI.glob hb 14 (some 41) _ (by decide) (by decide), rfl⟩
        · refine StepT.val rfl fun L a W hI hk hd => ?_
          obtain ⟨_, e41, rfl⟩ := hI.get 14 41 (hd 14 rfl) rfl
          have h16 : L 16 = false := hI.before (j := 16) (o := _) rfl (k := 15) rfl hk
          have h17 : L 17 = false := hI.before (j := 17) (o := _) rfl (k := 16) rfl h16
          have h18 : L 18 = false := hI.before (j := 18) (o := _) rfl (k := 17) rfl h17
          exact ⟨rfl, .slice (some ⟨W.heap.size, 0, none⟩) 1 1, W.alloc (.cells #[.int .i64 1, .int .i64 ((k : Int) + 1), .int .i64 5, .int .u64 7] 55), by go_simp, hkp W _ L, manG_step hI.glob ((Below.refl _ W).alloc (Nat.le_refl _) _) 15 (some 42) (by decide) (by decide) (inM_one 15 (fun _ => ⟨W.heap.size, rfl, own_mark W _ hI.glob.1.size k⟩)), trivial⟩
        · refine StepT.call rfl fun L a W hI hk hd => ?_
          obtain ⟨_, e38, rfl⟩ := hI.get 11 38 (hd 11 rfl) rfl
          have h15 : L 15 = true := hd 15 rfl
          have h17 : L 17 = false := hI.before (j := 17) (o := _) rfl (k := 16) rfl hk
          have h18 : L 18 = false := hI.before (j := 18) (o := _) rfl (k := 17) rfl h17
          obtain ⟨q, e42, hq⟩ : ∃ q, a.eval (.tmp 42) = .slice (some ⟨q, 0, none⟩) 1 1 ∧ RowM W w0.heap.size (.slice (some ⟨q, 0, none⟩) 1 1) [mkM k] := hI.glob.2.2.2.1 15 (.inr (.inl rfl)) h15 h18
          have e42' : a.tmps[42]?.getD undef = .slice (some ⟨q, 0, none⟩) 1 1 := by rw [← eval_tmp]; exact e42
          have hok : ItOK W (yM k q) := RowM.ok (x := yM k q) hq
          refine ⟨rfl, 26, #[.string ⟨(nmM k).toArray⟩, .slice (some ⟨q, 0, none⟩) 1 1], by go_simp, (lawItem10 (nmM k) (some ⟨q, 0, none⟩) 1 [mkM k] W hok.1 (by simp) (by simp [maxLen])).mono ?_⟩
          rintro e W' ⟨x, rfl, rfl, _, hb⟩
          exact ⟨_, rfl, hkp W W' L, manG_step hI.glob hb 16 (some 43) (by decide) (by decide) (inM_one 16 (fun _ => ⟨q, rfl, RowM.below hq hb⟩)), trivial⟩
        · refine StepT.val rfl fun L a W hI hk hd => ?_
          have h16 : L 16 = true := hd 16 rfl
          have h18 : L 18 = false := hI.before (j := 18) (o := _) rfl (k := 17) rfl hk
          obtain ⟨q, e43, hq⟩ : ∃ q, a.eval (.tmp 43) = mkIt (yM k q) ∧ RowM W w0.heap.size (.slice (some ⟨q, 0, none⟩) 1 1) [mkM k] := hI.glob.2.2.2.1 16 (.inr (.inr (.inl rfl))) h16 h18
          have e43' : a.tmps[43]?.getD undef = mkIt (yM k q) := by rw [← eval_tmp]; exact e43
          exact ⟨rfl, .slice (some ⟨W.heap.size, 0, none⟩) 1 1, W.alloc (.cells #[.string ⟨(nmM k).toArray⟩, .slice (some ⟨q, 0, none⟩) 1 1] 50), by go_simp, hkp W _ L, manG_step hI.glob ((Below.refl _ W).alloc (Nat.le_refl _) _) 17 (some 44) (by decide) (by decide) (inM_one 17 (fun _ => ⟨W.heap.size, q, rfl, SlAt.one (enc := encIt) (x := yM k q) (heap_alloc_new W _), RowM.below hq ((Below.refl _ W).alloc (Nat.le_refl _) _)⟩)), trivial⟩
        · refine StepT.val rfl fun L a W hI hk hd => ?_
          have h1 : L 1 = true := hd 1 rfl
          have h17 : L 17 = true := hd 17 rfl
          have h20 : L 20 = false := hI.before (j := 20) (o := _) rfl (k := 18) rfl hk
          obtain ⟨v28, e28, h28⟩ := hI.get 1 28 h1 rfl
          replace e28 : a.tmps[28]?.getD undef = iv := e28.trans h28
          have hK := hI.glob.2.2.1 hk
          obtain ⟨p, q, e44, hat, hq⟩ : ∃ p q, a.eval (.tmp 44) = .slice (some ⟨p, 0, none⟩) 1 1 ∧ SlAt encIt 2 W (some ⟨p, 0, none⟩) [yM k q] ∧ RowM W w0.heap.size (.slice (some ⟨q, 0, none⟩) 1 1) [mkM k] := hI.glob.2.2.2.1 17 (.inr (.inr (.inr rfl))) h17 hk
          have hown0 := hK.own.1
          have hylen := HYL.out
          obtain ⟨v', W', hrun, hown, hgr, _⟩ := run_append_sl (P := Tryz.prog) W encIt 2 encIt_len (by omega) encIt_one w0.heap.size 26 26 50 ti0 _ 40 Tryz.underlying26 hii hzi0 hzi1 hzi2 rfl iv ys hown0 (some ⟨p, 0, none⟩) 1 [yM k q] hat (by simp [maxLen]; omega) (by simp; omega) hI.glob.1.size
          have hrun2 : (Builtin.append_ #[26, 26] 26 #[iv, .slice (some ⟨p, 0, none⟩) 1 1]).run Tryz.prog W = .ok v' W' := hrun
          have hs2 : a.eval (.tmp 44) = .slice (some ⟨p, 0, none⟩) 1 1 := e44
          have hs1 : a.eval (.tmp 28) = iv := by rw [eval_tmp]; exact e28
          have hmo := hK.grow (y := yM k q) hq hown hgr
          refine ⟨rfl, v', W', ?_, hkp W W' L, manG_app hI.glob hmo.bel h20 q hmo, trivial⟩
          unfold execOp
          simp only [resolve, invoke, builtin, Sem.run_bind, Sem.run_pure, Result.andThen_ok, List.map_toArray, List.map_cons, List.map_nil, hs1, hs2, hrun2]
        · refine StepT.val rfl fun L a W hI hk hd => ?_
          have e3 : a.tmps[3]?.getD undef = .pointer (some ⟨g, 0, none⟩) := hI.at 3 (by kernel_rfl)
          exact ⟨rfl, .pointer (some ⟨g, 2, none⟩), W, by go_simp, hkp W W L, manG_keep hI.glob (Below.refl _ W) 19 (some 46) _ (by decide) (by decide), rfl⟩
        · refine StepT.skip rfl rfl fun L a W hI hk hd => ?_
          have h18 : L 18 = true := hd 18 rfl
          obtain ⟨_, e46, rfl⟩ := hI.get 19 46 (hd 19 rfl) rfl
          obtain ⟨q, hmo⟩ := hI.glob.2.2.2.2.1 h18 hk
          obtain ⟨c2, f2, cl⟩ := hmo.cells
          obtain ⟨A5, c5, e45, _⟩ := hmo.own.holds
          generalize (ys ++ [yM k q]).length = l5 at e45
          have hgs := manG_store hI.glob h18 hk
          rw [e45] at hgs
          have e45' : a.tmps[45]?.getD undef = .slice A5 l5 c5 := by rw [← eval_tmp]; exact e45
          refine ⟨rfl, _, ?_, hkp W _ L, hgs⟩
          clear hgs hmo
          go_simp
      · intro a W L hL hI
        obtain ⟨v, q, hK⟩ := hI.glob.2.2.2.2.2 (hL 20 (by decide))
        have HK := Lib.hid hK
        rw [hI.frame]
        simp only [List.filterMap, List.foldl]
        generalize a.eval (.tmp 27) = v27
        generalize a.eval (.tmp 28) = v28
        generalize a.eval (.tmp 29) = v29
        generalize a.eval (.tmp 30) = v30
        generalize a.eval (.tmp 31) = v31
        generalize a.eval (.tmp 32) = v32
        generalize a.eval (.tmp 33) = v33
        generalize a.eval (.tmp 34) = v34
        generalize a.eval (.tmp 35) = v35
        generalize a.eval (.tmp 36) = v36
        generalize a.eval (.tmp 37) = v37
        generalize a.eval (.tmp 38) = v38
        generalize a.eval (.tmp 39) = v39
        generalize a.eval (.tmp 40) = v40
        generalize a.eval (.tmp 41) = v41
        generalize a.eval (.tmp 42) = v42
        generalize a.eval (.tmp 43) = v43
        generalize a.eval (.tmp 44) = v44
        generalize a.eval (.tmp 45) = v45
        generalize a.eval (.tmp 46) = v46
        clear hI hL hkp hK K
        simp only [List.setIfInBounds_toArray, List.set_cons_succ, List.set_cons_zero]
        go_wp2_with fail
        go_roundw
        case rel => exact ⟨k + 1, v, ys ++ [yM k q], by omega, by go_num, Lib.hid (by rw [itsM_succ, ← HY.out]; simp [its]; rfl), HK⟩
        case measure => simp [intOf]; omega
    · have i0 : ¬ (k : Int) < (n : Int) := by omega
      obtain rfl : k = n := by omega
      obtain ⟨cC, hB, hz, hok⟩ := K.out.cart
      have K0 := Lib.hid (show KSr w0 [(g, cC)] [] [] wr from ⟨⟨fun p hp => by
        obtain rfl : p = (g, cC) := by simpa using hp
        exact ⟨hB, hok⟩, K.out.bel⟩, fun _ h => (by cases h), fun _ h => (by cases h)⟩)
      have EcC := Lib.hid (show cC.ca = kM k from by rw [hz, HY.out]; rfl)
      have HFT := Lib.hid (fitsD_kM EcC.out HN.out.2)
      clear hB hz hok K HY hlt hk
      obtain ⟨w40, hw40⟩ : ∃ W, wr = W := ⟨_, rfl⟩
      rw [hw40] at K0 ⊢
      clear hw40
      go_wp2_with fail
      refine (lawAt12 1 ((k : Int) + 1) _).mono ?_
      rintro e w41 ⟨rfl, hb⟩
      have K1 := Lib.hid (K0.out.next hb)
      clear hb K0
      have h := K1.out.dot 1 ((k : Int) + 1)
      have K2 := Lib.hid h
      clear h K1
      go_upto_region 9 with fail
      generalize World.alloc w41 _ = w50 at K2 ⊢
      generalize w41.heap.size = gD at K2 ⊢
      obtain ⟨d0, d1, dl⟩ := K2.out.da (g := gD) (r := 1) (s := (k : Int) + 1) (by simp)
      have hal := (Below.refl w50.heap.size w50).alloc (Nat.le_refl _) (.cells #[.int .i64 1, .int .i64 ((k : Int) + 1)] 30)
      have K3 := Lib.hid (K2.out.next hal)
      have HD1 := Lib.hid (sr_row (sr_dots1 (N := 0) w50 (1, ((k : Int) + 1))))
      clear hal K2
      go_wp2_with fail
      refine (con01 _ (1, ((k : Int) + 1)) _ HD1.out).mono ?_
      rintro e w51 ⟨⟨A1, n1, B1, m1, rfl, hc⟩, hb⟩
      have K4 := Lib.hid (K3.out.next hb)
      have HC1 := Lib.hid (show (Sr.ctx [] [(1, ((k : Int) + 1))]).holds 0 (.agg #[.slice A1 0 n1, .slice B1 1 m1]) w51 from hc)
      clear hb K3 hc HD1
      go_wp2_with fail
      refine (lawMark12 1 ((k : Int) + 1) 3 8 _).mono ?_
      rintro e w52 ⟨rfl, hb⟩
      have K5 := Lib.hid (K4.out.next hb)
      replace HC1 := Lib.hid (Sr.below HC1.out hb)
      clear hb K4
      have hal := (Below.refl w52.heap.size w52).alloc (Nat.le_refl _) (.cells #[.int .i64 1, .int .i64 ((k : Int) + 1), .int .i64 3, .int .u64 8] 55)
      have K6 := Lib.hid (K5.out.next hal)
      replace HC1 := Lib.hid (Sr.below HC1.out hal)
      have HM1 := Lib.hid (sr_mrow (sr_marks1 (N := 0) w52 ⟨1, ((k : Int) + 1), 3, 8⟩))
      clear hal K5
      go_wp2_with fail
      refine (lawItem12 [126] _ 1 [⟨1, ((k : Int) + 1), 3, 8⟩] _ HM1.out (by simp) (by simp [maxLen])).mono ?_
      rintro e w53 ⟨⟨y1, rfl, hy, ho⟩, hb⟩
      have K7 := Lib.hid (K6.out.next hb)
      replace HC1 := Lib.hid (Sr.below HC1.out hb)
      have HY1 := Lib.hid (ho)
      clear hb K6 ho HM1
      have HT1 := Lib.hid hy
      clear hy
      have hx := sr_items1 (N := 0) w53 y1 HY1.out
      rw [HT1.out] at hx
      have hal := (Below.refl w53.heap.size w53).alloc (Nat.le_refl _) (.cells #[.string ⟨y1.nm.toArray⟩, .slice y1.A y1.ms.length y1.c] 50)
      have K8 := Lib.hid (K7.out.next hal)
      replace HC1 := Lib.hid (Sr.below HC1.out hal)
      clear hal K7
      obtain ⟨cO, hcO, EcO, OcO⟩ := sr_cart HC1.out hx
      replace EcO := Lib.hid EcO
      clear hx HC1 HY1 HT1
      have h := K8.out.cart cO OcO
      rw [World.size_alloc] at h
      rw [show (#[cO.v, cO.l, cO.i] : Array Value) = #[.slice A1 0 n1, .slice B1 1 m1, .slice (some ⟨w53.heap.size, 0, none⟩) 1 1] from by injection hcO with h; exact h.symm] at h
      have K9 := Lib.hid h
      clear h hcO OcO K8
      clear d0 d1 dl
      go_upto_region 10 with fail
      generalize World.alloc (World.alloc w53 _) _ = w60 at K9 ⊢
      generalize w53.heap.size + 1 = gO at K9 ⊢
      have HF := Lib.hid (show ∃ w61, Below w60.heap.size w60 w61 from ⟨_, Below.refl _ _⟩)
      clear HF
      obtain ⟨x0, x1, x2, xl⟩ := K9.out.ca (g := g) (c := cC) (by simp)
      obtain ⟨d0, d1, dl⟩ := K9.out.da (g := gD) (r := 1) (s := (k : Int) + 1) (by simp)
      obtain ⟨y0, y1, y2, yl⟩ := K9.out.ca (g := gO) (c := cO) (by simp)
      go_cut [79] (fun v79 wx => v79 = .bool false ∧ Hid (KSr w0 [(g, cC), (gO, cO)] [(gD, (1, (k : Int) + 1))] [] wx))
      case first =>
        by_cases hm : 0 ≤ m
        · have hm2 : ¬ m < 0 := by omega
          go_wp2_with fail
          refine (adds_l DO.out 1 ((k : Int) + 1) [126] 3 13 _ (km1 (by omega) HN.out.2) EcC.out (show zC.ca = kZ from rfl) HFT.out (by decide) (by decide) (K9.out.ok (g := g) (c := cC) (by simp)) (zC_ok _)).mono ?_
          rintro e w70 ⟨rfl, hb⟩
          have KK := Lib.hid (K9.out.next hb)
          clear hb K9 x0 x1 x2 xl d0 d1 dl y0 y1 y2 yl
          go_wp2_with fail
          go_meet
          exact ⟨rfl, KK⟩
        · have hm2 : m < 0 := by omega
          go_wp2_with fail
          refine (adds_l DO.out 1 ((k : Int) + 1) [126] 3 0 _ (km2 HN.out.1 (by omega)) EcC.out EcO.out HFT.out (by simp) (by decide) (K9.out.ok (g := g) (c := cC) (by simp)) (K9.out.ok (g := gO) (c := cO) (by simp))).mono ?_
          rintro e w70 ⟨rfl, hb⟩
          have KK := Lib.hid (K9.out.next hb)
          clear hb K9 x0 x1 x2 xl d0 d1 dl y0 y1 y2 yl
          go_wp2_with fail
          go_meet
          exact ⟨rfl, KK⟩
      case rest =>
        clear x0 x1 x2 xl d0 d1 dl y0 y1 y2 yl K9
        obtain ⟨rfl, KK⟩ := hcut
        go_upto_region 12 with fail
        have KK0 : ∀ V, Below wc.heap.size wc V → KSr w0 [(g, cC), (gO, cO)] [(gD, (1, (k : Int) + 1))] [] V := fun V hb => KK.out.next hb
        have hkp : ∀ (q : Nat) (L : Nat → Bool) (W W' : World), Below wc.heap.size wc W → BelW W W' → KeepsR (ssS wc km12B (km12R m cC k) (km12Q ((([(1, 1)], [(1, (k : Int) + 1)]), [([97, 97], [⟨1, (k : Int) + 1, 3, 8⟩])]) : Ca))) L W W' ∧ Below wc.heap.size wc W' := fun _ _ _ _ h hb => ss_keep h hb
        refine wp_region_ss (bx := km12B) (sr := km12R m cC k) (sq := km12Q ((([(1, 1)], [(1, (k : Int) + 1)]), [([97, 97], [⟨1, (k : Int) + 1, 3, 8⟩])]) : Ca)) (by kernel_rfl) (by kernel_rfl) (by kernel_rfl) (dst_small (n := 110) (by kernel_rfl)) (fun j k h => by obtain ⟨rfl, rfl⟩ := km12B_in h; rfl) (fun j j' k h h' => by have := km12B_in h; have := km12B_in h'; omega) (fun j k h => by obtain ⟨rfl, rfl⟩ := km12B_in h; exact ⟨rfl, _, rfl⟩) (km12Q_calm _) ?_ ?_
        · refine ⟨?_, ?_, ?_, ?_, ?_, ?_, ?_, ?_, ?_, ?_, ?_, ?_, ?_, trivial⟩
          · refine StepR.call rfl rfl (fun j h => by have := km12B_in h; omega) (hkp 0) fun L a W hI hk hd => ?_
            refine ⟨rfl, 25, #[.int .i64 1, .int .i64 1], by go_simp, (lawAt12 1 1 W).mono ?_⟩
            rintro e W' ⟨rfl, hb⟩
            exact ⟨_, rfl, hb, rfl⟩
          · refine StepR.pure rfl rfl (fun j h => by have := km12B_in h; omega) (fun W => Below.refl _ W) (hkp 1) fun L a W hI hk hd => ?_
            have e5 : a.tmps[5]?.getD undef = .pointer (some ⟨gD, 0, none⟩) := hI.at 5 (by kernel_rfl)
            obtain ⟨c0, c1, _⟩ := (KK0 W hI.glob).da (g := gD) (r := 1) (s := ((k : Int) + 1)) (by simp)
            exact ⟨rfl, .agg #[.int .i64 1, .int .i64 ((k : Int) + 1)], by go_simp, rfl⟩
          · refine StepR.made rfl rfl (fun j h => by have := km12B_in h; omega) (hkp 2) fun L a W hI hk hd => ?_
            obtain ⟨_, e80, rfl⟩ := hI.get 0 80 (hd 0 rfl) rfl
            obtain ⟨_, e81, rfl⟩ := hI.get 1 81 (hd 1 rfl) rfl
            exact ⟨rfl, .slice (some ⟨W.heap.size, 0, none⟩) 2 2, W.alloc (.cells #[.int .i64 1, .int .i64 1, .int .i64 1, .int .i64 ((k : Int) + 1)] 30), by go_simp, (Below.refl _ W).alloc (Nat.le_refl _) _, sr_dots2 (N := 0) W (1, 1) (1, ((k : Int) + 1))⟩
          · refine StepR.call rfl rfl (fun j h => by have := km12B_in h; omega) (hkp 3) fun L a W hI hk hd => ?_
            obtain ⟨_, e82, g82, rfl, h82⟩ := hI.get 2 82 (hd 2 rfl) rfl
            refine ⟨rfl, 24, #[.int .i64 1, .slice (some ⟨g82, 0, none⟩) 2 2], by go_simp, (con12 g82 (1, 1) (1, ((k : Int) + 1)) W h82).mono ?_⟩
            rintro e W' ⟨⟨A, n, B, m, rfl, hc⟩, hb⟩
            exact ⟨_, rfl, hb, hc⟩
          · refine StepR.pure rfl rfl (fun j h => by have := km12B_in h; omega) (fun W => Below.refl _ W) (hkp 4) fun L a W hI hk hd => ?_
            have e0 : a.tmps[0]?.getD undef = .int .i64 m := hI.at 0 (by kernel_rfl)
            exact ⟨rfl, .int .i64 m, by go_simp, rfl⟩
          · refine StepR.pure rfl rfl (fun j h => by have := km12B_in h; omega) (fun W => Below.refl _ W) (hkp 5) fun L a W hI hk hd => ?_
            obtain ⟨_, e84, rfl⟩ := hI.get 4 84 (hd 4 rfl) rfl
            have wv : IntKind.i64.wrap ((k : Int) + 1) = (k : Int) + 1 := by simp [IntKind.wrap, IntKind.bits, IntKind.signed]; omega
            exact ⟨rfl, .int .i64 ((k : Int) + 1), by go_simp, rfl⟩
          · refine StepR.call rfl rfl (fun j h => by have := km12B_in h; omega) (hkp 6) fun L a W hI hk hd => ?_
            obtain ⟨_, e85, rfl⟩ := hI.get 5 85 (hd 5 rfl) rfl
            refine ⟨rfl, 27, #[.int .i64 1, .int .i64 ((k : Int) + 1), .int .i64 3, .int .u64 8], by go_simp, (lawMark12 1 ((k : Int) + 1) 3 8 W).mono ?_⟩
            rintro e W' ⟨rfl, hb⟩
            exact ⟨_, rfl, hb, rfl⟩
          · refine StepR.made rfl rfl (fun j h => by have := km12B_in h; omega) (hkp 7) fun L a W hI hk hd => ?_
            obtain ⟨_, e86, rfl⟩ := hI.get 6 86 (hd 6 rfl) rfl
            exact ⟨rfl, .slice (some ⟨W.heap.size, 0, none⟩) 1 1, W.alloc (.cells #[.int .i64 1, .int .i64 ((k : Int) + 1), .int .i64 3, .int .u64 8] 55), by go_simp, (Below.refl _ W).alloc (Nat.le_refl _) _, sr_marks1 (N := 0) W ⟨1, ((k : Int) + 1), 3, 8⟩⟩
          · refine StepR.call rfl rfl (fun j h => by have := km12B_in h; omega) (hkp 8) fun L a W hI hk hd => ?_
            obtain ⟨_, e87, A87, n87, rfl, h87, i87, j87⟩ := hI.get 7 87 (hd 7 rfl) rfl
            refine ⟨rfl, 26, #[.string ⟨#[97, 97]⟩, .slice A87 1 n87], by go_simp, (lawItem12 [97, 97] A87 n87 [⟨1, ((k : Int) + 1), 3, 8⟩] W h87 i87 j87).mono ?_⟩
            rintro e W' ⟨⟨y, rfl, hy, ho⟩, hb⟩
            exact ⟨_, rfl, hb, y, rfl, hy, ho⟩
          · refine StepR.made rfl rfl (fun j h => by have := km12B_in h; omega) (hkp 9) fun L a W hI hk hd => ?_
            obtain ⟨_, e88, y88, rfl, i88, h88⟩ := hI.get 8 88 (hd 8 rfl) rfl
            exact ⟨rfl, .slice (some ⟨W.heap.size, 0, none⟩) 1 1, W.alloc (.cells #[.string ⟨y88.nm.toArray⟩, .slice y88.A y88.ms.length y88.c] 50), by go_simp, (Below.refl _ W).alloc (Nat.le_refl _) _, (by have h := sr_items1 (N := 0) W y88 h88; rw [i88] at h; exact h)⟩
          · refine StepR.pure rfl rfl (fun j h => by have := km12B_in h; omega) (fun W => Below.refl _ W) (hkp 10) fun L a W hI hk hd => ?_
            obtain ⟨_, e83, A83, n83, B83, m83, rfl, h83, k83⟩ := hI.get 3 83 (hd 3 rfl) rfl
            obtain ⟨_, e89, x89, h89, i89⟩ := hI.get 9 89 (hd 9 rfl) rfl
            obtain ⟨A89, n89, rfl, _⟩ := id h89
            exact ⟨rfl, .agg #[.slice A83 1 n83, .slice B83 1 m83, .slice A89 x89.length n89], by go_simp, sr_cart (N := 0) ⟨A83, n83, B83, m83, rfl, h83, k83⟩ ⟨x89, h89, i89⟩⟩
          · refine StepR.boxed rfl rfl (fun W o => (Below.refl _ W).alloc (Nat.le_refl _) o) (hkp 11) fun L a W hI => ?_
            exact ⟨rfl, .cells #[.slice none 0 0, .slice none 0 0, .slice none 0 0] 28, by go_simp, W.heap.size, zC, rfl, hI.glob.size, BlkC.new W zC⟩
          · refine StepR.store rfl rfl rfl fun L a W hI hd => ?_
            obtain ⟨_, e7, b7, d7, rfl, n7, B7⟩ := hI.get 11 7 (hd 11 rfl) rfl
            obtain ⟨_, e90, z90, rfl, i90, h90⟩ := hI.get 10 90 (hd 10 rfl) rfl
            obtain ⟨t1, t2, t3⟩ := store_cart B7 h90
            obtain ⟨fz0, fz1, fz2⟩ := BlkC.frozens B7
            have x0 := B7.cell0
            have x1 := B7.cell1
            have x2 := B7.cell2
            refine ⟨rfl, b7, 7, _, rfl, hd 11 rfl, by rw [eval_tmp]; exact e7, ?_, t1, below_fill hI.glob n7 _ _ _, b7, z90, rfl, t2, i90, t3⟩
            clear t1 t2 t3 B7
            go_simp
            try rfl
        · intro a wd L hL hI
          obtain ⟨gA, cA, eb, hBz, hz, hoz⟩ := (hI.box 12 11 7 (hL 12 (by decide)) rfl rfl).2
          have KD := Lib.hid ((KK0 wd hI.glob).add hBz hoz)
          have EcA := Lib.hid (show cA.ca = ((([(1, 1)], [(1, (k : Int) + 1)]), [([97, 97], [⟨1, (k : Int) + 1, 3, 8⟩])]) : Ca) from hz)
          rw [hI.frame]
          simp only [List.filterMap, List.foldl]
          rw [eb]
          generalize a.eval (.tmp 80) = v80
          generalize a.eval (.tmp 81) = v81
          generalize a.eval (.tmp 82) = v82
          generalize a.eval (.tmp 83) = v83
          generalize a.eval (.tmp 84) = v84
          generalize a.eval (.tmp 85) = v85
          generalize a.eval (.tmp 86) = v86
          generalize a.eval (.tmp 87) = v87
          generalize a.eval (.tmp 88) = v88
          generalize a.eval (.tmp 89) = v89
          generalize a.eval (.tmp 90) = v90
          clear hL hI KK0 hkp eb hBz hz hoz KK
          simp only [List.setIfInBounds_toArray, List.set_cons_succ, List.set_cons_zero]
          obtain ⟨x0, x1, x2, xl⟩ := KD.out.ca (g := g) (c := cC) (by simp)
          obtain ⟨d0, d1, dl⟩ := KD.out.da (g := gD) (r := 1) (s := (k : Int) + 1) (by simp)
          obtain ⟨y0, y1, y2, yl⟩ := KD.out.ca (g := gA) (c := cA) (by simp)
          go_wp2_with fail
          refine (adds_l DO.out 1 ((k : Int) + 1) [97, 97] 3 0 _ (km3 HN.out.1 HN.out.2 false) EcC.out EcA.out HFT.out (by simp) (by decide) (KD.out.ok (g := g) (c := cC) (by simp)) (KD.out.ok (g := gA) (c := cA) (by simp))).mono ?_
          rintro e we ⟨rfl, hb⟩
          have KE := Lib.hid (KD.out.next hb)
          clear hb KD x0 x1 x2 xl d0 d1 dl y0 y1 y2 yl
          obtain ⟨x0, x1, x2, xl⟩ := KE.out.ca (g := g) (c := cC) (by simp)
          obtain ⟨d0, d1, dl⟩ := KE.out.da (g := gD) (r := 1) (s := (k : Int) + 1) (by simp)
          obtain ⟨y0, y1, y2, yl⟩ := KE.out.ca (g := gA) (c := cA) (by simp)
          go_wp2_with fail
          refine (sets_l DO.out 1 ((k : Int) + 1) [97, 97] 3 0 _ (km3 HN.out.1 HN.out.2 true) EcC.out EcA.out HFT.out (by simp) (by decide) (KE.out.ok (g := g) (c := cC) (by simp)) (KE.out.ok (g := gA) (c := cA) (by simp))).mono ?_
          rintro e wf ⟨rfl, hb⟩
          have KF := Lib.hid (KE.out.next hb)
          clear hb KE x0 x1 x2 xl d0 d1 dl y0 y1 y2 yl
          obtain ⟨x0, x1, x2, xl⟩ := KF.out.ca (g := g) (c := cC) (by simp)
          obtain ⟨d0, d1, dl⟩ := KF.out.da (g := gD) (r := 1) (s := (k : Int) + 1) (by simp)
          go_wp2_with fail
          refine (sets_l DO.out 1 ((k : Int) + 1) [126] 3 9 _ (km4 HN.out.1 HN.out.2) EcC.out (show zC.ca = kZ from rfl) HFT.out (by decide) (by decide) (KF.out.ok (g := g) (c := cC) (by simp)) (zC_ok _)).mono ?_
          rintro e wg ⟨rfl, hb⟩
          have KG := Lib.hid (KF.out.next hb)
          clear hb KF x0 x1 x2 xl d0 d1 dl
          go_wp2_with fail
          refine (HKN.out _).mono ?_
          rintro e wh ⟨rfl, hb⟩
          have KB := Lib.hid (below_trans KG.out.kk.bel hb)
          clear hb KG
          go_wp2_with fail
          go_ret
          exact OneB.bool rfl KB.out

end

end Go.Proofs.YtiaehpdgpjhecaaGreat
