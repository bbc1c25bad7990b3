/- The chapter's examples of carts: known is true. -/
import Derived.Test.YtfmhhmceoikgpaaGreatCarW3
import Derived.Test.YtfmhhmceoikgpaaGreatCarW4
import Derived.Test.YtfmhhmceoikgpaaGreatCarW5
import Derived.Test.YtfmhhmceoikgpaaGreatCarW6
namespace Go.Proofs.YtfmhhmceoikgpaaGreat
open Go.RowKit

set_option maxRecDepth 100000 in
set_option maxHeartbeats 8000000 in
theorem known10 (w : World) : Calls Tryz.prog 9 #[] w (TrueB w) := by
  have K0 := Lib.hid (show KZ w [] w from ⟨fun p hp => (by cases hp), Below.refl _ _⟩)
  go_enter Tryz.func9, Tryz.ntmps9
  go_wp2_with fail
  refine (mark10_l 2 1 7 4 w (by decide)).mono ?_
  rintro e w1 ⟨rfl, hb⟩
  have K1 := Lib.hid (K0.out.next hb)
  clear hb K0
  go_wp2_with fail
  have HL := Lib.hid (mlit1 w1 w1.heap.size 2 1 7 4 4 rfl rfl)
  have K2 := Lib.hid (K1.out.alloc (.cells #[.int .i64 2, .int .i64 1, .int .i64 7, .int .u64 4] 65))
  refine (item10_l ⟨#[78, 117, 116]⟩ nNut _ 1 [⟨2, 1, 7, 4⟩] _ HL.out rfl rfl (by decide)).mono ?_
  rintro e w3 ⟨N, rfl, hN, oN, hb⟩
  have K3 := Lib.hid (K2.out.next hb)
  have HN := Lib.hid hN
  have ON3 := Lib.hid oN
  clear hb HL K1 K2 hN oN
  go_wp2_with fail
  refine (mark10_l 1 1 5 3 w3 (by decide)).mono ?_
  rintro e w4 ⟨rfl, hb⟩
  have K4 := Lib.hid (K3.out.next hb)
  have ON4 := Lib.hid (ON3.out.below hb)
  clear hb K3 ON3
  go_wp2_with fail
  have HL := Lib.hid (mlit1 w4 w4.heap.size 1 1 5 3 3 rfl rfl)
  have K5 := Lib.hid (K4.out.alloc (.cells #[.int .i64 1, .int .i64 1, .int .i64 5, .int .u64 3] 65))
  have ON5 := Lib.hid (ON4.out.below ((Below.refl w4.heap.size w4).alloc (Nat.le_refl _) (.cells #[.int .i64 1, .int .i64 1, .int .i64 5, .int .u64 3] 65)))
  refine (item10_l ⟨#[84, 101, 97]⟩ nTea _ 1 [⟨1, 1, 5, 3⟩] _ HL.out rfl rfl (by decide)).mono ?_
  rintro e w6 ⟨T, rfl, hT, oT, hb⟩
  have K6 := Lib.hid (K5.out.next hb)
  have HT := Lib.hid hT
  have ON6 := Lib.hid (ON5.out.below hb)
  have K7 := Lib.hid (show KWk w [(w6.heap.size, N), (w6.heap.size + 1, T)] [] ((w6.alloc (.cells #[.string ⟨N.nm.toArray⟩, .slice N.A N.ms.length N.c] 56)).alloc (.cells #[.string ⟨T.nm.toArray⟩, .slice T.A T.ms.length T.c] 56)) from
    ⟨KZ.push (L := [(w6.heap.size, N)]) (KZ.push (L := []) K6.out N ON6.out w6.heap.size rfl) T (oT.below ((Below.refl _ _).alloc (Nat.le_refl _) _)) (w6.heap.size + 1) (by simp), ⟨fun p hp => (by cases hp), ((K6.out.bel).alloc K6.out.bel.size _).alloc (by have := K6.out.bel.size; simp; omega) _⟩⟩)
  clear hb HL K4 K5 K6 ON4 ON5 ON6 hT oT
  go_upto_region 2 with fail
  obtain ⟨g, hg⟩ : ∃ g, w6.heap.size = g := ⟨_, rfl⟩
  rw [hg] at K7 ⊢
  clear hg
  generalize World.alloc (World.alloc w6 _) _ = w7 at K7 ⊢
  go_cut [3] (fun s wx => ∃ (g' : Nat) (X' : CaV), s = .pointer (some ⟨g', 0, none⟩) ∧ Hid (X'.ca = cX) ∧ Hid (KWk w [(g, N), (g + 1, T)] ([] ++ [(g', X')]) wx))
  case first =>
    rename_i J1 K1 hj hm
    apply known_r2 (J := J1) HN HT K7 hj hm <;> first | exact fun _ _ => True | exact Value.bool false
  case rest =>
  clear K7
  obtain ⟨gx, X, rfl, HX, K8⟩ := hcut
  have K8 := Lib.hid (show KWk w [(g, N), (g + 1, T)] [(gx, X)] wc from K8.out)
  go_upto_region 3 with fail
  obtain ⟨w8, hw8⟩ : ∃ W, wc = W := ⟨_, rfl⟩
  rw [hw8] at K8 ⊢
  clear hw8
  go_cut [4] (fun s wx => ∃ (g' : Nat) (X' : CaV), s = .pointer (some ⟨g', 0, none⟩) ∧ Hid (X'.ca = cY) ∧ Hid (KWk w [(g, N), (g + 1, T)] ([(gx, X)] ++ [(g', X')]) wx))
  case first =>
    rename_i J1 K1 hj hm
    apply known_r3 (J := J1) HN HX K8 hj hm <;> first | exact fun _ _ => True | exact Value.bool false
  case rest =>
  clear K8
  obtain ⟨gy, Y, rfl, HY, K9⟩ := hcut
  have K9 := Lib.hid (show KWk w [(g, N), (g + 1, T)] [(gx, X), (gy, Y)] wc from K9.out)
  go_upto_region 4 with fail
  obtain ⟨w9, hw9⟩ : ∃ W, wc = W := ⟨_, rfl⟩
  rw [hw9] at K9 ⊢
  clear hw9
  go_cut [5] (fun s wx => ∃ (g' : Nat) (X' : CaV), s = .pointer (some ⟨g', 0, none⟩) ∧ Hid (X'.ca = cZ) ∧ Hid (KWk w [(g, N), (g + 1, T)] ([(gx, X), (gy, Y)] ++ [(g', X')]) wx))
  case first =>
    rename_i J1 K1 hj hm
    apply known_r4 (J := J1) HN HX K9 hj hm <;> first | exact fun _ _ => True | exact Value.bool false
  case rest =>
  clear K9
  obtain ⟨gz, Z, rfl, HZ, K10⟩ := hcut
  have K10 := Lib.hid (show KWk w [(g, N), (g + 1, T)] [(gx, X), (gy, Y), (gz, Z)] wc from K10.out)
  go_upto_region 6 with fail
  have K11 := Lib.hid (K10.out.push CaV.zero (CaV.zero_ok _) wc.heap.size rfl)
  obtain ⟨go, hgo⟩ : ∃ g, wc.heap.size = g := ⟨_, rfl⟩
  rw [hgo] at K11 ⊢
  clear hgo K10
  generalize World.alloc wc _ = w11 at K11 ⊢
  have K11 := Lib.hid (show KWk w [(g, N), (g + 1, T)] [(gx, X), (gy, Y), (gz, Z), (go, CaV.zero)] w11 from K11.out)
  go_cut [75] (fun s wx => s = .bool false ∧ Hid (KWk w [(g, N), (g + 1, T)] [(gx, X), (gy, Y), (gz, Z), (go, CaV.zero)] wx))
  case first =>
    rename_i J1 K1 hj hm
    apply known_r6 (J := J1) HX HY HZ K11 hj hm <;> first | exact fun _ _ => True | exact Value.bool false
  case rest =>
  clear K11
  obtain ⟨rfl, K12⟩ := hcut
  obtain ⟨x0, x1, x2⟩ := K12.out.ca (g := gx) (c := X) (by simp)
  obtain ⟨y0, y1, y2⟩ := K12.out.ca (g := gy) (c := Y) (by simp)
  obtain ⟨z0, z1, z2⟩ := K12.out.ca (g := gz) (c := Z) (by simp)
  obtain ⟨o0, o1, o2⟩ := K12.out.ca (g := go) (c := CaV.zero) (by simp)
  go_wp2_with fail
  refine (has10_l ⟨#[84, 101, 97]⟩ nTea X cX 5 0 0 _ (K12.out.ok (g := gx) (c := X) (by simp)) HX.out q1 rfl rfl p7).mono ?_
  rintro e v13 ⟨rfl, hb⟩
  have K13 := Lib.hid (K12.out.next hb)
  clear hb K12 x0 x1 x2 y0 y1 y2 z0 z1 z2 o0 o1 o2
  obtain ⟨x0, x1, x2⟩ := K13.out.ca (g := gx) (c := X) (by simp)
  obtain ⟨y0, y1, y2⟩ := K13.out.ca (g := gy) (c := Y) (by simp)
  obtain ⟨z0, z1, z2⟩ := K13.out.ca (g := gz) (c := Z) (by simp)
  obtain ⟨o0, o1, o2⟩ := K13.out.ca (g := go) (c := CaV.zero) (by simp)
  go_wp2_with fail
  refine (has10_l ⟨#[84, 101, 97]⟩ nTea Z cZ 2 0 0 _ (K13.out.ok (g := gz) (c := Z) (by simp)) HZ.out q3 rfl rfl p8).mono ?_
  rintro e v14 ⟨rfl, hb⟩
  have K14 := Lib.hid (K13.out.next hb)
  clear hb K13 x0 x1 x2 y0 y1 y2 z0 z1 z2 o0 o1 o2
  obtain ⟨x0, x1, x2⟩ := K14.out.ca (g := gx) (c := X) (by simp)
  obtain ⟨y0, y1, y2⟩ := K14.out.ca (g := gy) (c := Y) (by simp)
  obtain ⟨z0, z1, z2⟩ := K14.out.ca (g := gz) (c := Z) (by simp)
  obtain ⟨o0, o1, o2⟩ := K14.out.ca (g := go) (c := CaV.zero) (by simp)
  go_wp2_with fail
  refine (has10_l ⟨#[79, 105, 108]⟩ nOil X cX 0 9 9 _ (K14.out.ok (g := gx) (c := X) (by simp)) HX.out q1 rfl rfl p9).mono ?_
  rintro e v15 ⟨rfl, hb⟩
  have K15 := Lib.hid (K14.out.next hb)
  clear hb K14 x0 x1 x2 y0 y1 y2 z0 z1 z2 o0 o1 o2
  obtain ⟨x0, x1, x2⟩ := K15.out.ca (g := gx) (c := X) (by simp)
  obtain ⟨y0, y1, y2⟩ := K15.out.ca (g := gy) (c := Y) (by simp)
  obtain ⟨z0, z1, z2⟩ := K15.out.ca (g := gz) (c := Z) (by simp)
  obtain ⟨o0, o1, o2⟩ := K15.out.ca (g := go) (c := CaV.zero) (by simp)
  go_wp2_with fail
  refine (has10_l ⟨#[84, 101, 97]⟩ nTea Y cY 0 2 2 _ (K15.out.ok (g := gy) (c := Y) (by simp)) HY.out q2 rfl rfl p10).mono ?_
  rintro e v16 ⟨rfl, hb⟩
  have K16 := Lib.hid (K15.out.next hb)
  clear hb K15 x0 x1 x2 y0 y1 y2 z0 z1 z2 o0 o1 o2
  obtain ⟨x0, x1, x2⟩ := K16.out.ca (g := gx) (c := X) (by simp)
  obtain ⟨y0, y1, y2⟩ := K16.out.ca (g := gy) (c := Y) (by simp)
  obtain ⟨z0, z1, z2⟩ := K16.out.ca (g := gz) (c := Z) (by simp)
  obtain ⟨o0, o1, o2⟩ := K16.out.ca (g := go) (c := CaV.zero) (by simp)
  go_wp2_with fail
  refine (names_l X cX [nNut, nTea] _ (K16.out.ok (g := gx) (c := X) (by simp)) HX.out q1 p11).mono ?_
  rintro e v17 ⟨⟨u1, rfl, hu1⟩, hb⟩
  have K17 := Lib.hid (K16.out.next hb)
  have HU1 := Lib.hid hu1
  clear hu1
  clear hb K16 x0 x1 x2 y0 y1 y2 z0 z1 z2 o0 o1 o2
  obtain ⟨x0, x1, x2⟩ := K17.out.ca (g := gx) (c := X) (by simp)
  obtain ⟨y0, y1, y2⟩ := K17.out.ca (g := gy) (c := Y) (by simp)
  obtain ⟨z0, z1, z2⟩ := K17.out.ca (g := gz) (c := Z) (by simp)
  obtain ⟨o0, o1, o2⟩ := K17.out.ca (g := go) (c := CaV.zero) (by simp)
  go_wp2_with fail
  have hal := (Below.refl v17.heap.size v17).alloc (Nat.le_refl _) (.cells #[.string ⟨nNut.toArray⟩, .string ⟨nTea.toArray⟩] 9)
  have K18 := Lib.hid (K17.out.next hal)
  have HL2 := Lib.hid (slit2 v17 nNut nTea)
  have HU1' := Lib.hid (HU1.out.below hal)
  clear HU1
  have HU1 := HU1'
  clear HU1'
  clear hal K17 x0 x1 x2 y0 y1 y2 z0 z1 z2 o0 o1 o2
  obtain ⟨g18, hg⟩ : ∃ g, v17.heap.size = g := ⟨_, rfl⟩
  rw [hg] at HL2 ⊢
  clear hg
  generalize World.alloc v17 _ = v18 at K18 HL2 HU1 ⊢
  obtain ⟨x0, x1, x2⟩ := K18.out.ca (g := gx) (c := X) (by simp)
  obtain ⟨y0, y1, y2⟩ := K18.out.ca (g := gy) (c := Y) (by simp)
  obtain ⟨z0, z1, z2⟩ := K18.out.ca (g := gz) (c := Z) (by simp)
  obtain ⟨o0, o1, o2⟩ := K18.out.ca (g := go) (c := CaV.zero) (by simp)
  refine (refSameS_h _ _ [nNut, nTea] [nNut, nTea] true _ HU1.out HL2.out (by simp) (by simp) (by decide)).mono ?_
  rintro e v19 ⟨rfl, hb⟩
  have K19 := Lib.hid (K18.out.next hb)
  clear hb K18 x0 x1 x2 y0 y1 y2 z0 z1 z2 o0 o1 o2
  obtain ⟨x0, x1, x2⟩ := K19.out.ca (g := gx) (c := X) (by simp)
  obtain ⟨y0, y1, y2⟩ := K19.out.ca (g := gy) (c := Y) (by simp)
  obtain ⟨z0, z1, z2⟩ := K19.out.ca (g := gz) (c := Z) (by simp)
  obtain ⟨o0, o1, o2⟩ := K19.out.ca (g := go) (c := CaV.zero) (by simp)
  go_wp2_with fail
  refine (units_l X cX 12 _ (K19.out.ok (g := gx) (c := X) (by simp)) HX.out q1 p12).mono ?_
  rintro e v20 ⟨rfl, hb⟩
  have K20 := Lib.hid (K19.out.next hb)
  clear hb K19 x0 x1 x2 y0 y1 y2 z0 z1 z2 o0 o1 o2
  obtain ⟨x0, x1, x2⟩ := K20.out.ca (g := gx) (c := X) (by simp)
  obtain ⟨y0, y1, y2⟩ := K20.out.ca (g := gy) (c := Y) (by simp)
  obtain ⟨z0, z1, z2⟩ := K20.out.ca (g := gz) (c := Z) (by simp)
  obtain ⟨o0, o1, o2⟩ := K20.out.ca (g := go) (c := CaV.zero) (by simp)
  go_wp2_with fail
  refine (units_l Z cZ 9 _ (K20.out.ok (g := gz) (c := Z) (by simp)) HZ.out q3 p13).mono ?_
  rintro e v21 ⟨rfl, hb⟩
  have K21 := Lib.hid (K20.out.next hb)
  clear hb K20 x0 x1 x2 y0 y1 y2 z0 z1 z2 o0 o1 o2
  obtain ⟨x0, x1, x2⟩ := K21.out.ca (g := gx) (c := X) (by simp)
  obtain ⟨y0, y1, y2⟩ := K21.out.ca (g := gy) (c := Y) (by simp)
  obtain ⟨z0, z1, z2⟩ := K21.out.ca (g := gz) (c := Z) (by simp)
  obtain ⟨o0, o1, o2⟩ := K21.out.ca (g := go) (c := CaV.zero) (by simp)
  go_wp2_with fail
  refine (cdots_l ⟨#[84, 101, 97]⟩ nTea X cX [(1, 1)] _ (K21.out.ok (g := gx) (c := X) (by simp)) HX.out q1 rfl p14).mono ?_
  rintro e v22 ⟨⟨u2, rfl, hu⟩, hb⟩
  have K22 := Lib.hid (K21.out.next hb)
  have HU2 := Lib.hid hu
  clear hu
  clear hb K21 x0 x1 x2 y0 y1 y2 z0 z1 z2 o0 o1 o2
  obtain ⟨x0, x1, x2⟩ := K22.out.ca (g := gx) (c := X) (by simp)
  obtain ⟨y0, y1, y2⟩ := K22.out.ca (g := gy) (c := Y) (by simp)
  obtain ⟨z0, z1, z2⟩ := K22.out.ca (g := gz) (c := Z) (by simp)
  obtain ⟨o0, o1, o2⟩ := K22.out.ca (g := go) (c := CaV.zero) (by simp)
  go_wp2_with fail
  have hal := (Below.refl v22.heap.size v22).alloc (Nat.le_refl _) (.cells #[.int .i64 1, .int .i64 1] 3)
  have K23 := Lib.hid (K22.out.next hal)
  have HL3 := Lib.hid (ilit1 v22 1 1)
  have HU2' := Lib.hid (HU2.out.below hal)
  clear HU2
  have HU2 := HU2'
  clear HU2'
  clear hal K22 x0 x1 x2 y0 y1 y2 z0 z1 z2 o0 o1 o2
  obtain ⟨g23, hg⟩ : ∃ g, v22.heap.size = g := ⟨_, rfl⟩
  rw [hg] at HL3 ⊢
  clear hg
  generalize World.alloc v22 _ = v23 at K23 HL3 HU2 ⊢
  obtain ⟨x0, x1, x2⟩ := K23.out.ca (g := gx) (c := X) (by simp)
  obtain ⟨y0, y1, y2⟩ := K23.out.ca (g := gy) (c := Y) (by simp)
  obtain ⟨z0, z1, z2⟩ := K23.out.ca (g := gz) (c := Z) (by simp)
  obtain ⟨o0, o1, o2⟩ := K23.out.ca (g := go) (c := CaV.zero) (by simp)
  refine (dots1_l g23 1 1 _ HL3.out).mono ?_
  rintro e v24 ⟨⟨A3, c3, rfl, hu⟩, hb⟩
  have K24 := Lib.hid (K23.out.next hb)
  have HU2' := Lib.hid (HU2.out.below hb)
  clear HU2
  have HU2 := HU2'
  clear HU2'
  have HU3 := Lib.hid hu
  clear hu
  clear hb K23 x0 x1 x2 y0 y1 y2 z0 z1 z2 o0 o1 o2
  obtain ⟨x0, x1, x2⟩ := K24.out.ca (g := gx) (c := X) (by simp)
  obtain ⟨y0, y1, y2⟩ := K24.out.ca (g := gy) (c := Y) (by simp)
  obtain ⟨z0, z1, z2⟩ := K24.out.ca (g := gz) (c := Z) (by simp)
  obtain ⟨o0, o1, o2⟩ := K24.out.ca (g := go) (c := CaV.zero) (by simp)
  go_wp2_with fail
  refine (same_h3 _ _ [(1, 1)] [(1, 1)] true _ HU2.out HU3.out (by decide)).mono ?_
  rintro e v25 ⟨rfl, hb⟩
  have K25 := Lib.hid (K24.out.next hb)
  clear hb K24 x0 x1 x2 y0 y1 y2 z0 z1 z2 o0 o1 o2
  obtain ⟨x0, x1, x2⟩ := K25.out.ca (g := gx) (c := X) (by simp)
  obtain ⟨y0, y1, y2⟩ := K25.out.ca (g := gy) (c := Y) (by simp)
  obtain ⟨z0, z1, z2⟩ := K25.out.ca (g := gz) (c := Z) (by simp)
  obtain ⟨o0, o1, o2⟩ := K25.out.ca (g := go) (c := CaV.zero) (by simp)
  go_wp2_with fail
  refine (cdots_l ⟨#[79, 105, 108]⟩ nOil X cX [] _ (K25.out.ok (g := gx) (c := X) (by simp)) HX.out q1 rfl p15).mono ?_
  rintro e v26 ⟨⟨u4, rfl, hu⟩, hb⟩
  have K26 := Lib.hid (K25.out.next hb)
  obtain ⟨A4, c4, rfl, _⟩ := hu
  clear hb K25 x0 x1 x2 y0 y1 y2 z0 z1 z2 o0 o1 o2
  obtain ⟨x0, x1, x2⟩ := K26.out.ca (g := gx) (c := X) (by simp)
  obtain ⟨y0, y1, y2⟩ := K26.out.ca (g := gy) (c := Y) (by simp)
  obtain ⟨z0, z1, z2⟩ := K26.out.ca (g := gz) (c := Z) (by simp)
  obtain ⟨o0, o1, o2⟩ := K26.out.ca (g := go) (c := CaV.zero) (by simp)
  go_wp2_with fail
  refine (cdots_l ⟨#[]⟩ [] X cX [(1, 1), (2, 1)] _ (K26.out.ok (g := gx) (c := X) (by simp)) HX.out q1 rfl p16).mono ?_
  rintro e v27 ⟨⟨u5, rfl, hu⟩, hb⟩
  have K27 := Lib.hid (K26.out.next hb)
  have HU5 := Lib.hid hu
  clear hu
  clear hb K26 x0 x1 x2 y0 y1 y2 z0 z1 z2 o0 o1 o2
  obtain ⟨x0, x1, x2⟩ := K27.out.ca (g := gx) (c := X) (by simp)
  obtain ⟨y0, y1, y2⟩ := K27.out.ca (g := gy) (c := Y) (by simp)
  obtain ⟨z0, z1, z2⟩ := K27.out.ca (g := gz) (c := Z) (by simp)
  obtain ⟨o0, o1, o2⟩ := K27.out.ca (g := go) (c := CaV.zero) (by simp)
  go_wp2_with fail
  have hal := (Below.refl v27.heap.size v27).alloc (Nat.le_refl _) (.cells #[.int .i64 1, .int .i64 1, .int .i64 2, .int .i64 1] 3)
  have K28 := Lib.hid (K27.out.next hal)
  have HL5 := Lib.hid (ilit2 v27 1 1 2 1)
  have HU5' := Lib.hid (HU5.out.below hal)
  clear HU5
  have HU5 := HU5'
  clear HU5'
  clear hal K27 x0 x1 x2 y0 y1 y2 z0 z1 z2 o0 o1 o2
  obtain ⟨g28, hg⟩ : ∃ g, v27.heap.size = g := ⟨_, rfl⟩
  rw [hg] at HL5 ⊢
  clear hg
  generalize World.alloc v27 _ = v28 at K28 HL5 HU5 ⊢
  obtain ⟨x0, x1, x2⟩ := K28.out.ca (g := gx) (c := X) (by simp)
  obtain ⟨y0, y1, y2⟩ := K28.out.ca (g := gy) (c := Y) (by simp)
  obtain ⟨z0, z1, z2⟩ := K28.out.ca (g := gz) (c := Z) (by simp)
  obtain ⟨o0, o1, o2⟩ := K28.out.ca (g := go) (c := CaV.zero) (by simp)
  refine (dots2_l g28 1 1 2 1 _ HL5.out).mono ?_
  rintro e v29 ⟨⟨A6, c6, rfl, hu⟩, hb⟩
  have K29 := Lib.hid (K28.out.next hb)
  have HU5' := Lib.hid (HU5.out.below hb)
  clear HU5
  have HU5 := HU5'
  clear HU5'
  have HU6 := Lib.hid hu
  clear hu
  clear hb K28 x0 x1 x2 y0 y1 y2 z0 z1 z2 o0 o1 o2
  obtain ⟨x0, x1, x2⟩ := K29.out.ca (g := gx) (c := X) (by simp)
  obtain ⟨y0, y1, y2⟩ := K29.out.ca (g := gy) (c := Y) (by simp)
  obtain ⟨z0, z1, z2⟩ := K29.out.ca (g := gz) (c := Z) (by simp)
  obtain ⟨o0, o1, o2⟩ := K29.out.ca (g := go) (c := CaV.zero) (by simp)
  go_wp2_with fail
  refine (same_h3 _ _ [(1, 1), (2, 1)] [(1, 1), (2, 1)] true _ HU5.out HU6.out (by decide)).mono ?_
  rintro e v30 ⟨rfl, hb⟩
  have K30 := Lib.hid (K29.out.next hb)
  clear hb K29 x0 x1 x2 y0 y1 y2 z0 z1 z2 o0 o1 o2
  obtain ⟨x0, x1, x2⟩ := K30.out.ca (g := gx) (c := X) (by simp)
  obtain ⟨y0, y1, y2⟩ := K30.out.ca (g := gy) (c := Y) (by simp)
  obtain ⟨z0, z1, z2⟩ := K30.out.ca (g := gz) (c := Z) (by simp)
  obtain ⟨o0, o1, o2⟩ := K30.out.ca (g := go) (c := CaV.zero) (by simp)
  go_wp2_with fail
  refine (time10_l X cX 5 0 5 0 _ (K30.out.ok (g := gx) (c := X) (by simp)) HX.out q1 (by decide) rfl rfl p17).mono ?_
  rintro e v31 ⟨rfl, hb⟩
  have K31 := Lib.hid (K30.out.next hb)
  clear hb K30 x0 x1 x2 y0 y1 y2 z0 z1 z2 o0 o1 o2
  obtain ⟨x0, x1, x2⟩ := K31.out.ca (g := gx) (c := X) (by simp)
  obtain ⟨y0, y1, y2⟩ := K31.out.ca (g := gy) (c := Y) (by simp)
  obtain ⟨z0, z1, z2⟩ := K31.out.ca (g := gz) (c := Z) (by simp)
  obtain ⟨o0, o1, o2⟩ := K31.out.ca (g := go) (c := CaV.zero) (by simp)
  go_wp2_with fail
  refine (time10_l CaV.zero cO 1 0 1 0 _ (K31.out.ok (g := go) (c := CaV.zero) (by simp)) rfl q4 (by decide) rfl rfl p18).mono ?_
  rintro e vz ⟨rfl, hb⟩
  have KB := Lib.hid (K31.out.next hb).kz.bel
  clear hb K31 x0 x1 x2 y0 y1 y2 z0 z1 z2 o0 o1 o2
  go_wp2_with fail
  go_ret
  exact OneB.bool rfl KB.out

end Go.Proofs.YtfmhhmceoikgpaaGreat
