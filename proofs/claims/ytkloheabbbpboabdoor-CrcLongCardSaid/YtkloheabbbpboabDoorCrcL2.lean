/- The laws CrcHolds and CrcLong. -/
import Derived.Test.YtkloheabbbpboabDoorCrcZ
import Derived.Outline
namespace Go.Proofs.YtkloheabbbpboabDoor
open Go.RowKit

theorem knownB5 (W : World) (h : LaidOK W) : Calls Tryd.prog 8 #[] W fun e w' => e = .returned (.bool true) ∧ Below W.heap.size W w' := (known5 W h).mono fun _ _ ⟨he, hk⟩ => ⟨he, hk.1⟩
theorem add_ne (x : UInt8) (y : Nat) (h0 : 0 < y) (h1 : y < 256) : UInt8.ofNat (x.toNat + y) ≠ x := by
  intro h
  have := congrArg UInt8.toNat h
  have hx := toNat8 x
  rw [UInt8.toNat_ofNat'] at this
  omega
theorem wrap_add8 (x : UInt8) (y : Nat) : IntKind.u8.wrap ((x.toNat : Int) + (y : Int)) = ((UInt8.ofNat (x.toNat + y)).toNat : Int) := by
  rw [UInt8.toNat_ofNat']
  simp [IntKind.wrap, IntKind.bits, IntKind.signed]

set_option maxRecDepth 100000 in
set_option maxHeartbeats 2000000 in
theorem lawHolds5 (A : Option Addr) (c : Nat) (xs : List UInt8) (B : Option Addr) (d : Nat) (ys : List UInt8) (k y : Nat) (w : World) (hx : HoldsB w (.slice A xs.length c) xs) (hy : HoldsB w (.slice B ys.length d) ys) (hk : k < 65536) (hy8 : y < 256) (ht : LaidOK w) :
    Calls Tryd.prog 6 #[.slice A xs.length c, .slice B ys.length d, .int .u16 (k : Int), .int .u8 (y : Int)] w (TrueB w) := by
  obtain ⟨i0, hi0, hz0, hz1, hz2⟩ := info_parts infoB
  have HT := Lib.hid ht
  obtain ⟨_, _, eV, hax, _⟩ := hx
  cases eV
  obtain ⟨_, _, eV, hay, _⟩ := hy
  cases eV
  have HX := Lib.hid hax
  have HY := Lib.hid hay
  have HK := Lib.hid (show k < 65536 ∧ y < 256 from ⟨hk, hy8⟩)
  clear ht hax hay hk hy8
  by_cases hlx : ¬ xs.length ≤ 1000
  · have z0 : (1000 : Int) < (xs.length : Int) := by omega
    clear hlx
    go_enter Tryd.func6, Tryd.ntmps6
    go_wp2_with fail
    refine (knownB5 _ HT.out).mono ?_
    rintro e w1 ⟨rfl, hb⟩
    have HB := Lib.hid hb
    clear hb
    go_wp2_with fail
    go_ret
    exact ⟨rfl, HB.out⟩
  by_cases hly : ¬ ys.length ≤ 1000
  · have z0 : ¬ (1000 : Int) < (xs.length : Int) := by omega
    have z1 : (1000 : Int) < (ys.length : Int) := by omega
    clear hlx hly
    go_enter Tryd.func6, Tryd.ntmps6
    go_wp2_with fail
    refine (knownB5 _ HT.out).mono ?_
    rintro e w1 ⟨rfl, hb⟩
    have HB := Lib.hid hb
    clear hb
    go_wp2_with fail
    go_ret
    exact ⟨rfl, HB.out⟩
  have z0 : ¬ (1000 : Int) < (xs.length : Int) := by omega
  have z1 : ¬ (1000 : Int) < (ys.length : Int) := by omega
  have HL := Lib.hid (show xs.length ≤ 1000 ∧ ys.length ≤ 1000 from ⟨by omega, by omega⟩)
  clear hlx hly
  go_enter Tryd.func6, Tryd.ntmps6
  go_wp2_with (at_builtin; first | (refine wpList_append_sl (o := ⟨some 23, _, _, _, _, _⟩) _ encB 1 rfl (.const (.slice none 0 0)) (.tmp 22) 28 rfl encB_len (by omega) encB_one w.heap.size 5 i0 _ 1 Tryd.underlying28 hi0 hz0 hz1 hz2 rfl (.slice none 0 0) [] rfl (World.ownsRow_nil _ _ _ _) _ _ _ xs rfl rfl HX.out (by simp [maxLen]; have := HL.out; omega) (by simp; have := HL.out; omega) (Nat.le_refl _) ?_; intro v1 w1 hown1 hg1 hat1; rw [List.nil_append] at hown1; have hb1 := (Below.refl w.heap.size w).grown hg1 (Nat.le_refl _) (fun k hk => by cases hk); have HO1 := Lib.hid hown1; have HB1 := Lib.hid hb1; clear hown1 hg1 hat1 hb1) | (refine wpList_append_sl (o := ⟨some 25, _, _, _, _, _⟩) _ encB 1 rfl (.tmp 23) (.tmp 24) 28 rfl encB_len (by omega) encB_one w.heap.size 5 i0 _ 1 Tryd.underlying28 hi0 hz0 hz1 hz2 rfl _ xs rfl HO1.out _ _ _ ys rfl rfl (HY.out.below HB1.out) (by simp [maxLen]; have := HL.out; omega) (by simp; have := HL.out; omega) HB1.out.size ?_; intro v2 w2 hown2 hg2 hat2; have hb2 := HB1.out.grown hg2 HB1.out.size (fun k hk => (HO1.out.lt k hk).1); obtain ⟨A2, c2, rfl, _⟩ := SlAt.of_own encB_len hown2; have HO2 := Lib.hid hown2; have HB2 := Lib.hid hb2; clear hown2 hg2 hat2 hb2))
  have HX2 := Lib.hid (HX.out.below HB2.out)
  have HY2 := Lib.hid (HY.out.below HB2.out)
  have KZ := Lib.hid (show KK w w2 from ⟨HB2.out, HT.out.below HB2.out⟩)
  have HO := Lib.hid HO2.out
  clear HO1 HO2 HB1 HB2 HX HY
  obtain ⟨zs, hzs⟩ : ∃ zs, xs ++ ys = zs := ⟨_, rfl⟩
  obtain ⟨L, hL⟩ : ∃ L, xs.length + ys.length = L := ⟨_, rfl⟩
  have hzl : zs.length = L := by rw [← hzs, List.length_append, hL]
  rw [hzs, hzl] at HO
  rw [hL]
  obtain ⟨p, hp⟩ : ∃ p, updN 0 xs = p := ⟨_, rfl⟩
  obtain ⟨q, hq⟩ : ∃ q, updN 0 ys = q := ⟨_, rfl⟩
  obtain ⟨r, hr⟩ : ∃ r, updN 0 zs = r := ⟨_, rfl⟩
  have HPQ := Lib.hid (show p < 4294967296 ∧ q < 4294967296 ∧ r < 4294967296 from ⟨by rw [← hp]; exact updN_lt _ _, by rw [← hq]; exact updN_lt _ _, by rw [← hr]; exact updN_lt _ _⟩)
  have HU := Lib.hid (show updN p ys = r from by rw [← hp, ← hr, ← hzs, updN_append])
  have HJ := Lib.hid (show joinN p q ys.length = r from by rw [← HU.out, ← hq, updN_join HPQ.out.1])
  have HP := Lib.hid hp
  have HQ := Lib.hid hq
  have HR := Lib.hid hr
  have HZL := Lib.hid hzl
  have HLL := Lib.hid (show L ≤ 2000 from by have := HL.out; omega)
  clear hp hq hr hzs hL hzl
  have S1 := Lib.hid (crcSum A c xs w2 HX2.out (by have := HL.out; omega))
  rw [HP.out] at S1
  refine S1.out.mono ?_
  rintro e w3 ⟨rfl, rfl⟩
  clear S1
  go_wp2_with fail
  have S1 := Lib.hid (crcSum B d ys _ HY2.out (by have := HL.out; omega))
  rw [HQ.out] at S1
  refine S1.out.mono ?_
  rintro e w3 ⟨rfl, rfl⟩
  clear S1
  go_wp2_with fail
  have HAT := Lib.hid (show BytesAt _ A2 zs from by
    obtain ⟨_, _, e, _, _, h⟩ := SlAt.of_own encB_len (xs := zs) (by rw [HZL.out]; exact HO.out)
    cases e
    exact h)
  have S1 := Lib.hid (crcSum A2 c2 zs _ HAT.out (by have := HLL.out; have := HZL.out; omega))
  rw [HR.out, HZL.out] at S1
  refine S1.out.mono ?_
  rintro e w3 ⟨rfl, rfl⟩
  clear S1
  go_wp2_with fail
  have S1 := Lib.hid (crcUpdate p B d ys _ HPQ.out.1 HY2.out (by have := HL.out; omega))
  rw [HU.out] at S1
  refine S1.out.mono ?_
  rintro e w3 ⟨rfl, rfl⟩
  clear S1
  go_wp2_with fail
  refine (joinLit p q ys.length r _ HPQ.out.1 HPQ.out.2.1 (by have := HL.out; omega) HJ.out).mono ?_
  rintro e w3 ⟨rfl, rfl⟩
  go_wp2_with fail
  have S1 := Lib.hid (crcText r _ HPQ.out.2.2 KZ.out.2)
  unfold txt at S1
  refine S1.out.mono ?_
  rintro e w3 ⟨rfl, hb⟩
  have HO3 := Lib.hid (own_keep HO.out hb)
  have KZ3 := Lib.hid (KZ.out.bel hb)
  clear hb S1 HO KZ HX2 HY2 HAT
  go_wp2_with fail
  refine (lawParses (hexL 8 r) r 0 _ (crcParse _ r 0 _ (by rw [hexL_len]; decide) KZ3.out.2 (.inl ⟨prs_hex HPQ.out.2.2, rfl⟩))).mono ?_
  rintro e w4 ⟨rfl, hb⟩
  have HO4 := Lib.hid (own_keep HO3.out hb)
  have KZ4 := Lib.hid (KZ3.out.bel hb)
  clear hb HO3 KZ3
  by_cases hL0 : L = 0
  · have y0 : ¬ (0 : Int) < (L : Int) := by omega
    clear hL0
    go_wp2_with fail
    refine (knownB5 _ KZ4.out.2).mono ?_
    rintro e w5 ⟨rfl, hb⟩
    have HB := Lib.hid (below_trans KZ4.out.1 hb)
    clear hb
    go_wp2_with fail
    go_ret
    exact ⟨rfl, HB.out⟩
  by_cases hy0 : y = 0
  · have y0 : (0 : Int) < (L : Int) := by omega
    have y1 : ¬ (0 : Int) < (y : Int) := by omega
    clear hL0 hy0
    go_wp2_with fail
    refine (knownB5 _ KZ4.out.2).mono ?_
    rintro e w5 ⟨rfl, hb⟩
    have HB := Lib.hid (below_trans KZ4.out.1 hb)
    clear hb
    go_wp2_with fail
    go_ret
    exact ⟨rfl, HB.out⟩
  have y0 : (0 : Int) < (L : Int) := by omega
  have y1 : (0 : Int) < (y : Int) := by omega
  obtain ⟨g, c3, e3⟩ := Joins.ownsRow_form HO4.out (by omega)
  cases e3
  obtain ⟨j, hj⟩ : ∃ j, k % L = j := ⟨_, rfl⟩
  have hjL : j < L := by rw [← hj]; exact Nat.mod_lt _ (by omega)
  have HJL := Lib.hid hjL
  have hjz : j < zs.length := by rw [HZL.out]; exact hjL
  obtain ⟨x, hx⟩ : ∃ x, zs[j] = x := ⟨_, rfl⟩
  have w64 : wrap64 (k : Int) = (k : Int) := by have := HK.out.1; unfold wrap64; omega
  have m1 : (k : Int).tmod (L : Int) = (j : Int) := by rw [Int.tmod_eq_emod_of_nonneg (by omega), ← hj, Int.natCast_emod]
  have m2 : ¬ (L : Int) = 0 := by omega
  have m3 : (j : Int) < (L : Int) := by omega
  have hc := HO4.out.cellAt j (by omega)
  rw [cells_at, List.getElem?_eq_getElem hjz, hx] at hc
  have d0 : w4.cell? ⟨g, j, none⟩ = some (.int .u8 (x.toNat : Int)) := hc
  have f0 := HO4.out.frozenAt j
  have e8 := wrap_add8 x y
  have HNE := Lib.hid (show updN 0 (zs.set j (UInt8.ofNat (x.toNat + y))) ≠ r from by
    rw [← HR.out]
    exact updN_set zs j hjz _ (by rw [hx]; exact add_ne x y (by omega) HK.out.2))
  clear hc hL0 hy0 hx hjz hjL hj
  go_wp2_with fail
  have e256 : ((x.toNat : Int) + (y : Int)) % 256 = ((UInt8.ofNat (x.toNat + y)).toNat : Int) := by rw [← e8]; simp [IntKind.wrap, IntKind.bits, IntKind.signed]
  rw [e256]
  have hst := (HO4.out.stored j (.int .u8 ((UInt8.ofNat (x.toNat + y)).toNat : Int))).1
  rw [cells_set] at hst
  have hb5 : Below w.heap.size w (w4.setCell ⟨g, j, none⟩ (.int .u8 ((UInt8.ofNat (x.toNat + y)).toNat : Int))) := KZ4.out.1.trans ((Chg.of_set (S := fun k => k = g) _ _ rfl).below KZ4.out.1.size fun k hk => by rw [hk]; exact (HO4.out.lt g rfl).1)
  have HB5 := Lib.hid hb5
  have HLS := Lib.hid (show (zs.set j (UInt8.ofNat (x.toNat + y))).length = L from by rw [List.length_set]; exact HZL.out)
  have HAT := Lib.hid (show BytesAt (w4.setCell ⟨g, j, none⟩ (.int .u8 ((UInt8.ofNat (x.toNat + y)).toNat : Int))) (some ⟨g, 0, none⟩) (zs.set j (UInt8.ofNat (x.toNat + y))) from by
    obtain ⟨_, _, e, _, _, h⟩ := SlAt.of_own encB_len (xs := zs.set j (UInt8.ofNat (x.toNat + y))) (by rw [HLS.out]; exact hst)
    cases e
    exact h)
  clear hst hb5 d0 f0 e8 e256 m1 m2 m3 w64 HO4 KZ4
  generalize w4.setCell ⟨g, j, none⟩ (.int .u8 ((UInt8.ofNat (x.toNat + y)).toNat : Int)) = w5 at HB5 HAT ⊢
  generalize zs.set j (UInt8.ofNat (x.toNat + y)) = ts at HAT HLS HNE
  obtain ⟨r2, hr2⟩ : ∃ r2, updN 0 ts = r2 := ⟨_, rfl⟩
  have hne := HNE.out
  rw [hr2] at hne
  have z2 : ((r2 : Int) != (r : Int)) = true := by simp; omega
  have S1 := Lib.hid (crcSum (some ⟨g, 0, none⟩) c2 ts w5 HAT.out (by have := HLS.out; have := HLL.out; omega))
  rw [hr2, HLS.out] at S1
  clear hne hr2
  refine S1.out.mono ?_
  rintro e w6 ⟨rfl, rfl⟩
  clear S1
  go_wp2_with fail
  refine (knownB5 _ (HT.out.below HB5.out)).mono ?_
  rintro e w7 ⟨rfl, hb⟩
  have HB := Lib.hid (below_trans HB5.out hb)
  clear hb
  go_wp2_with fail
  go_ret
  exact ⟨rfl, HB.out⟩

end Go.Proofs.YtkloheabbbpboabDoor
