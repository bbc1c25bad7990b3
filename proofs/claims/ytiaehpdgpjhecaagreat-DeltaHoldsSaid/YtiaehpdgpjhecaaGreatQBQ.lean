/- Several texts in one: DelR2. -/
import Derived.Test.YtiaehpdgpjhecaaGreatQBN
namespace Go.Proofs.YtiaehpdgpjhecaaGreat

section
open Go.RowKit

set_option maxRecDepth 100000 in
set_option maxHeartbeats 16000000 in
theorem lawHolds12_2 (KN : KnownD) (HDO : DelOK) (c : CaV) (r s : Int) (nm : List UInt8) (q : Int) (m : Nat) (w : World) (hc : CaOK w c) (ht : Timed c) (hla : lightK c = true) (hn : nm.length ≤ 100) (hm : m < 256) (hm4 : m % 4 = 2) :
    Calls Tryz.prog 8 #[mkC c, .agg #[.int .i64 r, .int .i64 s], .string ⟨nm.toArray⟩, .int .i64 q, .int .u8 (m : Int)] w (TrueB w) := by
  have hk0 := KFr.new w c r s hc
  have K0 := Lib.hid (show KKE w [(w.heap.size, c)] [(w.heap.size + 1, r, s)] _ from ⟨⟨fun p hp => by
    obtain rfl : p = (w.heap.size, c) := by simpa using hp
    exact ⟨hk0.cart, hk0.ok⟩, hk0.bel⟩, fun p hp => by
    obtain rfl : p = (w.heap.size + 1, r, s) := by simpa using hp
    exact hk0.dot⟩)
  have HKN := Lib.hid KN
  have DO := Lib.hid HDO
  have HL := Lib.hid hla
  have HC := Lib.hid (lightK_size hla)
  have HFD := Lib.hid (FitsD.of HC.out ht)
  have hn1 := Lib.hid (show nm.length ≤ 1000 from by omega)
  have HNM := Lib.hid hn
  have hsz := size_mk nm
  have i0 : ¬ (100 : Int) < (nm.length : Int) := by omega
  have i3 : (m : Int).tmod 4 = 2 := by rw [Int.tmod_eq_emod_of_nonneg (Int.natCast_nonneg m)]; omega
  have hm2 : (m : Int) < 256 := by omega
  have HB := Lib.hid fun W (h : CaOK W c) => DO.out.rem c nm W h HFD.out hn1.out
  obtain ⟨e1, he1⟩ : ∃ e, remE c.ca nm = e := ⟨_, rfl⟩
  rw [he1] at HB
  have HE := Lib.hid he1
  clear hk0 hc ht hla hn KN HDO he1 hm hm4
  by_cases h1 : e1 = 0
  · subst h1
    go_enter Tryz.func8, Tryz.ntmps8
    go_upto_region 1 with fail
    generalize World.alloc (World.alloc w _) _ = w2 at K0 ⊢
    obtain ⟨x1a, x1b, x1c, x1l⟩ := K0.out.kk.cells4 (g := w.heap.size) (c := c) (by simp)
    obtain ⟨x2a, x2b, x2l⟩ := K0.out.dot2 (g := w.heap.size + 1) (r := r) (s := s) (by simp)
    go_wp2_with fail
    refine (lawLight10 c true _ (K0.out.kk.ok (g := w.heap.size) (c := c) (by simp)) HL.out).mono ?_
    rintro e w3 ⟨rfl, hb⟩
    have K1 := Lib.hid (show KKE w [(w.heap.size, c)] [(w.heap.size + 1, r, s)] w3 from K0.out.next hb)
    clear hb K0 x1a x1b x1c x1l x2a x2b x2l
    obtain ⟨x3a, x3b, x3c, x3l⟩ := K1.out.kk.cells4 (g := w.heap.size) (c := c) (by simp)
    obtain ⟨x4a, x4b, x4l⟩ := K1.out.dot2 (g := w.heap.size + 1) (r := r) (s := s) (by simp)
    have KY := Lib.hid (show KYE w [(w.heap.size, c)] [(w.heap.size + 1, r, s)] (w3.heap.size) (w3.alloc (.cells #[.slice none 0 0, .slice none 0 0, .slice none 0 0] 28)) from KYE.new K1.out (by simp))
    clear K1
    go_wp2_with fail
    refine (HB.out _ (KY.out.k.kk.ok (g := w.heap.size) (c := c) (by simp))).mono ?_
    rintro e w4 ⟨⟨x, rfl, hz, ho⟩, hb⟩
    have KZ := Lib.hid (KY.out.next hb)
    have Hx := Lib.hid hz
    have hK := (show KKE w [(w.heap.size, c), (w3.heap.size, x)] [(w.heap.size + 1, r, s)] (((w4.setCell ⟨w3.heap.size, 0, none⟩ x.v).setCell ⟨w3.heap.size, 1, none⟩ x.l).setCell ⟨w3.heap.size, 2, none⟩ x.i) from KZ.out.fill x ho (fun p hp => by simp only [List.mem_cons, List.not_mem_nil, or_false] at hp; rcases hp with rfl; (show _ ≠ _; dsimp only; have := KZ.out.k.kk.bel.size; omega)) (fun p hp => by simp only [List.mem_cons, List.not_mem_nil, or_false] at hp; rcases hp with rfl; (show _ ≠ _; dsimp only; omega)))
    obtain ⟨b0, b1, b2, bf0, bf1, bf2, bl⟩ := KZ.out.ycells
    clear hb hz ho KY x3a x3b x3c x3l x4a x4b x4l
    have KZK := Lib.hid KZ.out.k
    obtain ⟨x5a, x5b, x5c, x5l⟩ := KZK.out.kk.cells4 (g := w.heap.size) (c := c) (by simp)
    obtain ⟨x6a, x6b, x6l⟩ := KZK.out.dot2 (g := w.heap.size + 1) (r := r) (s := s) (by simp)
    clear KZ KZK
    go_upto_region 15 with fail
    generalize World.setCell (World.setCell (World.setCell w4 _ _) _ _) _ _ = W7 at hK ⊢
    have K20 := Lib.hid (show KKE w [(w.heap.size, c), (w3.heap.size, x)] [(w.heap.size + 1, r, s)] W7 from hK)
    clear hK x5a x5b x5c x5l x6a x6b x6l b0 b1 b2 bf0 bf1 bf2 bl
    obtain ⟨x7a, x7b, x7c, x7l⟩ := K20.out.kk.cells4 (g := w.heap.size) (c := c) (by simp)
    obtain ⟨x8a, x8b, x8c, x8l⟩ := K20.out.kk.cells4 (g := w3.heap.size) (c := x) (by simp)
    obtain ⟨x9a, x9b, x9l⟩ := K20.out.dot2 (g := w.heap.size + 1) (r := r) (s := s) (by simp)
    have HV := Lib.hid (show validK c.ca = true from (remE_ok HE.out).1)
    have VX := Lib.hid (show validK x.ca = true from by rw [Hx.out]; exact remD_valid)
    have SC3 := Lib.hid (show SizeK 3 c.ca from SizeK.mono HC.out (by omega))
    have SX := Lib.hid (show SizeK 3 x.ca from by rw [Hx.out]; exact remD_size HC.out)
    go_wp2_with fail
    refine (join_v c x 3 3 _ (K20.out.kk.ok (g := w.heap.size) (c := c) (by simp)) (K20.out.kk.ok (g := w3.heap.size) (c := x) (by simp)) SC3.out SX.out (by omega) (by omega) HV.out VX.out).mono ?_
    rintro e w21 ⟨⟨y, rfl, hz, ho⟩, hb⟩
    have KO := Lib.hid (show KKE w [(w.heap.size, c), (w3.heap.size, x)] [(w.heap.size + 1, r, s)] w21 from K20.out.next hb)
    have K21 := Lib.hid (show KKE w [(w.heap.size, c), (w3.heap.size, x), (w21.heap.size, y)] [(w.heap.size + 1, r, s)] (w21.alloc (.cells #[y.v, y.l, y.i] 28)) from KO.out.push y ho.ok)
    have Hy := Lib.hid hz
    clear hb hz ho K20 x7a x7b x7c x7l x8a x8b x8c x8l x9a x9b x9l
    obtain ⟨x10a, x10b, x10c, x10l⟩ := KO.out.kk.cells4 (g := w.heap.size) (c := c) (by simp)
    obtain ⟨x11a, x11b, x11c, x11l⟩ := KO.out.kk.cells4 (g := w3.heap.size) (c := x) (by simp)
    obtain ⟨x12a, x12b, x12l⟩ := KO.out.dot2 (g := w.heap.size + 1) (r := r) (s := s) (by simp)
    clear KO
    have VY := Lib.hid (show validK y.ca = true from by rw [Hy.out]; exact joinK_valid HV.out VX.out)
    have SY := Lib.hid (show SizeK 6 y.ca from by rw [Hy.out]; exact joinK_size HV.out VX.out SC3.out SX.out)
    go_wp2_with fail
    refine (join_v y x 6 3 _ (K21.out.kk.ok (g := w21.heap.size) (c := y) (by simp)) (K21.out.kk.ok (g := w3.heap.size) (c := x) (by simp)) SY.out SX.out (by omega) (by omega) VY.out VX.out).mono ?_
    rintro e w22 ⟨⟨z, rfl, hz, ho⟩, hb⟩
    have KO := Lib.hid (show KKE w [(w.heap.size, c), (w3.heap.size, x), (w21.heap.size, y)] [(w.heap.size + 1, r, s)] w22 from K21.out.next hb)
    have K22 := Lib.hid (show KKE w [(w.heap.size, c), (w3.heap.size, x), (w21.heap.size, y), (w22.heap.size, z)] [(w.heap.size + 1, r, s)] (w22.alloc (.cells #[z.v, z.l, z.i] 28)) from KO.out.push z ho.ok)
    have Hz := Lib.hid hz
    clear hb hz ho K21 x10a x10b x10c x10l x11a x11b x11c x11l x12a x12b x12l
    obtain ⟨x13a, x13b, x13c, x13l⟩ := KO.out.kk.cells4 (g := w.heap.size) (c := c) (by simp)
    obtain ⟨x14a, x14b, x14c, x14l⟩ := KO.out.kk.cells4 (g := w3.heap.size) (c := x) (by simp)
    obtain ⟨x15a, x15b, x15c, x15l⟩ := KO.out.kk.cells4 (g := w21.heap.size) (c := y) (by simp)
    obtain ⟨x16a, x16b, x16l⟩ := KO.out.dot2 (g := w.heap.size + 1) (r := r) (s := s) (by simp)
    clear KO
    have HZY := Lib.hid (show z.ca = y.ca from by rw [Hz.out, Hy.out, joinK_assoc HV.out VX.out VX.out, joinK_self VX.out])
    have SZ := Lib.hid (show SizeK 6 z.ca from by rw [HZY.out]; exact SY.out)
    go_wp2_with fail
    refine (caValid c true _ (K22.out.kk.ok (g := w.heap.size) (c := c) (by simp)) HFD.out.k HV.out).mono ?_
    rintro e w23 ⟨rfl, hb⟩
    have K23 := Lib.hid (show KKE w [(w.heap.size, c), (w3.heap.size, x), (w21.heap.size, y), (w22.heap.size, z)] [(w.heap.size + 1, r, s)] w23 from K22.out.next hb)
    clear hb K22 x13a x13b x13c x13l x14a x14b x14c x14l x15a x15b x15c x15l x16a x16b x16l
    obtain ⟨x17a, x17b, x17c, x17l⟩ := K23.out.kk.cells4 (g := w.heap.size) (c := c) (by simp)
    obtain ⟨x18a, x18b, x18c, x18l⟩ := K23.out.kk.cells4 (g := w3.heap.size) (c := x) (by simp)
    obtain ⟨x19a, x19b, x19c, x19l⟩ := K23.out.kk.cells4 (g := w21.heap.size) (c := y) (by simp)
    obtain ⟨x20a, x20b, x20c, x20l⟩ := K23.out.kk.cells4 (g := w22.heap.size) (c := z) (by simp)
    obtain ⟨x21a, x21b, x21l⟩ := K23.out.dot2 (g := w.heap.size + 1) (r := r) (s := s) (by simp)
    go_wp2_with fail
    refine (caValid x true _ (K23.out.kk.ok (g := w3.heap.size) (c := x) (by simp)) (FitsP.of SX.out SX.out (by omega) (by omega)).kc VX.out).mono ?_
    rintro e w24 ⟨rfl, hb⟩
    have K24 := Lib.hid (show KKE w [(w.heap.size, c), (w3.heap.size, x), (w21.heap.size, y), (w22.heap.size, z)] [(w.heap.size + 1, r, s)] w24 from K23.out.next hb)
    clear hb K23 x17a x17b x17c x17l x18a x18b x18c x18l x19a x19b x19c x19l x20a x20b x20c x20l x21a x21b x21l
    obtain ⟨x22a, x22b, x22c, x22l⟩ := K24.out.kk.cells4 (g := w.heap.size) (c := c) (by simp)
    obtain ⟨x23a, x23b, x23c, x23l⟩ := K24.out.kk.cells4 (g := w3.heap.size) (c := x) (by simp)
    obtain ⟨x24a, x24b, x24c, x24l⟩ := K24.out.kk.cells4 (g := w21.heap.size) (c := y) (by simp)
    obtain ⟨x25a, x25b, x25c, x25l⟩ := K24.out.kk.cells4 (g := w22.heap.size) (c := z) (by simp)
    obtain ⟨x26a, x26b, x26l⟩ := K24.out.dot2 (g := w.heap.size + 1) (r := r) (s := s) (by simp)
    go_wp2_with fail
    refine (refEqual10 y z true _ (K24.out.kk.ok (g := w21.heap.size) (c := y) (by simp)) (K24.out.kk.ok (g := w22.heap.size) (c := z) (by simp)) (SizeK.small SY.out (by omega)) (SizeK.small SZ.out (by omega)) (by rw [HZY.out]; exact sameJ_self _)).mono ?_
    rintro e w25 ⟨rfl, hb⟩
    have K25 := Lib.hid (show KKE w [(w.heap.size, c), (w3.heap.size, x), (w21.heap.size, y), (w22.heap.size, z)] [(w.heap.size + 1, r, s)] w25 from K24.out.next hb)
    clear hb K24 x22a x22b x22c x22l x23a x23b x23c x23l x24a x24b x24c x24l x25a x25b x25c x25l x26a x26b x26l
    obtain ⟨x27a, x27b, x27c, x27l⟩ := K25.out.kk.cells4 (g := w.heap.size) (c := c) (by simp)
    obtain ⟨x28a, x28b, x28c, x28l⟩ := K25.out.kk.cells4 (g := w3.heap.size) (c := x) (by simp)
    obtain ⟨x29a, x29b, x29c, x29l⟩ := K25.out.kk.cells4 (g := w21.heap.size) (c := y) (by simp)
    obtain ⟨x30a, x30b, x30c, x30l⟩ := K25.out.kk.cells4 (g := w22.heap.size) (c := z) (by simp)
    obtain ⟨x31a, x31b, x31l⟩ := K25.out.dot2 (g := w.heap.size + 1) (r := r) (s := s) (by simp)
    go_upto_region 19 with fail
    go_region
    have hbw := ((Below.refl w25.heap.size w25).alloc (Nat.le_refl _) (.cells #[c.v, c.l] 25)).drew
    have hK := (show KKE w [(w.heap.size, c), (w3.heap.size, x), (w21.heap.size, y), (w22.heap.size, z)] [(w.heap.size + 1, r, s)] (w25.alloc (.cells #[c.v, c.l] 25)).drew from K25.out.next hbw)
    have hW := (show Blk2 (w25.alloc (.cells #[c.v, c.l] 25)).drew w25.heap.size c.v c.l from heap_alloc_new w25 _)
    have hge := K25.out.kk.bel.size
    clear hbw K25 x27a x27b x27c x27l x28a x28b x28c x28l x29a x29b x29c x29l x30a x30b x30c x30l x31a x31b x31l
    generalize (World.alloc w25 _).drew = w30 at hK hW ⊢
    generalize w25.heap.size = gw at hW hge ⊢
    have K30 := Lib.hid (show KKE w [(w.heap.size, c), (w3.heap.size, x), (w21.heap.size, y), (w22.heap.size, z)] [(w.heap.size + 1, r, s)] w30 from hK)
    have HW := Lib.hid hW
    have HGE := Lib.hid hge
    clear hK hW hge
    obtain ⟨x32a, x32b, x32c, x32l⟩ := K30.out.kk.cells4 (g := w.heap.size) (c := c) (by simp)
    obtain ⟨x33a, x33b, x33c, x33l⟩ := K30.out.kk.cells4 (g := w3.heap.size) (c := x) (by simp)
    obtain ⟨x34a, x34b, x34c, x34l⟩ := K30.out.kk.cells4 (g := w21.heap.size) (c := y) (by simp)
    obtain ⟨x35a, x35b, x35c, x35l⟩ := K30.out.kk.cells4 (g := w22.heap.size) (c := z) (by simp)
    obtain ⟨x36a, x36b, x36l⟩ := K30.out.dot2 (g := w.heap.size + 1) (r := r) (s := s) (by simp)
    have ew0 := HW.out.cell0
    have ew1 := HW.out.cell1
    have ewl := HW.out.lt
    have HJ := Lib.hid (show y.ca = (c.ca.1, remN c.ca.2 nm) from by rw [Hy.out, Hx.out]; exact join_remD HE.out)
    have HJ1 := Lib.hid (show its y.xs = remN (its c.xs) nm from congrArg (fun a : Ca => a.2) HJ.out)
    have HJ2 := Lib.hid (show y.vs = c.vs ∧ y.ls = c.ls from ⟨congrArg (fun a : Ca => a.1.1) HJ.out, congrArg (fun a : Ca => a.1.2) HJ.out⟩)
    have HRL := Lib.hid (show (remN (its c.xs) nm).length ≤ 300 from Nat.le_trans (List.length_filter_le _ _) (by rw [its_len]; exact HFD.out.k.1.1))
    go_wp2_with fail
    refine (itRemove_h c.i c.xs nm (remN (its c.xs) nm) 0 _ (K30.out.kk.ok (g := w.heap.size) (c := c) (by simp)).2.2 HFD.out.k.1 (rem_one HE.out)).mono ?_
    rintro e w31 ⟨⟨v, zs, rfl, hz, ho⟩, hb⟩
    have K31 := Lib.hid (show KKE w [(w.heap.size, c), (w3.heap.size, x), (w21.heap.size, y), (w22.heap.size, z)] [(w.heap.size + 1, r, s)] w31 from K30.out.next hb)
    replace HW := Lib.hid (HW.out.below hb)
    have HZS := Lib.hid hz
    have HVZ := Lib.hid ho.holds
    clear hb hz ho K30 x32a x32b x32c x32l x33a x33b x33c x33l x34a x34b x34c x34l x35a x35b x35c x35l x36a x36b x36l ew0 ew1 ewl
    obtain ⟨x37a, x37b, x37c, x37l⟩ := K31.out.kk.cells4 (g := w.heap.size) (c := c) (by simp)
    obtain ⟨x38a, x38b, x38c, x38l⟩ := K31.out.kk.cells4 (g := w3.heap.size) (c := x) (by simp)
    obtain ⟨x39a, x39b, x39c, x39l⟩ := K31.out.kk.cells4 (g := w21.heap.size) (c := y) (by simp)
    obtain ⟨x40a, x40b, x40c, x40l⟩ := K31.out.kk.cells4 (g := w22.heap.size) (c := z) (by simp)
    obtain ⟨x41a, x41b, x41l⟩ := K31.out.dot2 (g := w.heap.size + 1) (r := r) (s := s) (by simp)
    have ew0 := HW.out.cell0
    have ew1 := HW.out.cell1
    have ewl := HW.out.lt
    have hzl : zs.length ≤ 100000 := by rw [← its_len, HZS.out]; have := HRL.out; omega
    obtain ⟨A5, c5, e5, _⟩ := id HVZ.out
    generalize zs.length = l5 at e5 hzl
    subst e5
    have HZL := Lib.hid (show zs.length ≤ 100000 from by rw [← its_len, HZS.out]; have := HRL.out; omega)
    clear hzl
    go_wp2_with fail
    refine (itEqual_h y.i (.slice A5 l5 c5) y.xs zs true _ (K31.out.kk.ok (g := w21.heap.size) (c := y) (by simp)).2.2 HVZ.out (SizeK.small SY.out (by omega)) HZL.out (decide_eq_true (HJ1.out.trans HZS.out.symm))).mono ?_
    rintro e w32 ⟨rfl, hb⟩
    have K32 := Lib.hid (show KKE w [(w.heap.size, c), (w3.heap.size, x), (w21.heap.size, y), (w22.heap.size, z)] [(w.heap.size + 1, r, s)] w32 from K31.out.next hb)
    replace HW := Lib.hid (HW.out.below hb)
    replace HVZ := Lib.hid (HVZ.out.below hb)
    clear hb K31 x37a x37b x37c x37l x38a x38b x38c x38l x39a x39b x39c x39l x40a x40b x40c x40l x41a x41b x41l ew0 ew1 ewl
    obtain ⟨x42a, x42b, x42c, x42l⟩ := K32.out.kk.cells4 (g := w.heap.size) (c := c) (by simp)
    obtain ⟨x43a, x43b, x43c, x43l⟩ := K32.out.kk.cells4 (g := w3.heap.size) (c := x) (by simp)
    obtain ⟨x44a, x44b, x44c, x44l⟩ := K32.out.kk.cells4 (g := w21.heap.size) (c := y) (by simp)
    obtain ⟨x45a, x45b, x45c, x45l⟩ := K32.out.kk.cells4 (g := w22.heap.size) (c := z) (by simp)
    obtain ⟨x46a, x46b, x46l⟩ := K32.out.dot2 (g := w.heap.size + 1) (r := r) (s := s) (by simp)
    have ew0 := HW.out.cell0
    have ew1 := HW.out.cell1
    have ewl := HW.out.lt
    go_wp2_with fail
    refine (ref3Equal (.agg #[y.v, y.l]) (.agg #[c.v, c.l]) y.vs y.ls c.vs c.ls true _ (K32.out.kk.ok (g := w21.heap.size) (c := y) (by simp)).ctx (K32.out.kk.ok (g := w.heap.size) (c := c) (by simp)).ctx (by rw [HJ2.out.1, HJ2.out.2]; simp)).mono ?_
    rintro e w33 ⟨rfl, hb⟩
    have K33 := Lib.hid (show KKE w [(w.heap.size, c), (w3.heap.size, x), (w21.heap.size, y), (w22.heap.size, z)] [(w.heap.size + 1, r, s)] w33 from K32.out.next hb)
    replace HW := Lib.hid (HW.out.below hb)
    replace HVZ := Lib.hid (HVZ.out.below hb)
    clear hb K32 x42a x42b x42c x42l x43a x43b x43c x43l x44a x44b x44c x44l x45a x45b x45c x45l x46a x46b x46l ew0 ew1 ewl
    obtain ⟨x47a, x47b, x47c, x47l⟩ := K33.out.kk.cells4 (g := w.heap.size) (c := c) (by simp)
    obtain ⟨x48a, x48b, x48c, x48l⟩ := K33.out.kk.cells4 (g := w3.heap.size) (c := x) (by simp)
    obtain ⟨x49a, x49b, x49c, x49l⟩ := K33.out.kk.cells4 (g := w21.heap.size) (c := y) (by simp)
    obtain ⟨x50a, x50b, x50c, x50l⟩ := K33.out.kk.cells4 (g := w22.heap.size) (c := z) (by simp)
    obtain ⟨x51a, x51b, x51l⟩ := K33.out.dot2 (g := w.heap.size + 1) (r := r) (s := s) (by simp)
    go_wp2_with fail
    refine (HKN.out _).mono ?_
    rintro e wk ⟨rfl, hb⟩
    have KC := Lib.hid (below_trans K33.out.kk.bel hb)
    clear hb K33 x47a x47b x47c x47l x48a x48b x48c x48l x49a x49b x49c x49l x50a x50b x50c x50l x51a x51b x51l
    go_wp2_with fail
    go_ret
    exact OneB.bool rfl KC.out
  · have h1n : ¬ (e1 : Int) = 0 := by omega
    go_enter Tryz.func8, Tryz.ntmps8
    go_upto_region 1 with fail
    generalize World.alloc (World.alloc w _) _ = w2 at K0 ⊢
    obtain ⟨x1a, x1b, x1c, x1l⟩ := K0.out.kk.cells4 (g := w.heap.size) (c := c) (by simp)
    obtain ⟨x2a, x2b, x2l⟩ := K0.out.dot2 (g := w.heap.size + 1) (r := r) (s := s) (by simp)
    go_wp2_with fail
    refine (lawLight10 c true _ (K0.out.kk.ok (g := w.heap.size) (c := c) (by simp)) HL.out).mono ?_
    rintro e w3 ⟨rfl, hb⟩
    have K1 := Lib.hid (show KKE w [(w.heap.size, c)] [(w.heap.size + 1, r, s)] w3 from K0.out.next hb)
    clear hb K0 x1a x1b x1c x1l x2a x2b x2l
    obtain ⟨x3a, x3b, x3c, x3l⟩ := K1.out.kk.cells4 (g := w.heap.size) (c := c) (by simp)
    obtain ⟨x4a, x4b, x4l⟩ := K1.out.dot2 (g := w.heap.size + 1) (r := r) (s := s) (by simp)
    have KY := Lib.hid (show KYE w [(w.heap.size, c)] [(w.heap.size + 1, r, s)] (w3.heap.size) (w3.alloc (.cells #[.slice none 0 0, .slice none 0 0, .slice none 0 0] 28)) from KYE.new K1.out (by simp))
    clear K1
    go_wp2_with fail
    refine (HB.out _ (KY.out.k.kk.ok (g := w.heap.size) (c := c) (by simp))).mono ?_
    rintro e w4 ⟨⟨x, rfl, hz, ho⟩, hb⟩
    have KZ := Lib.hid (KY.out.next hb)
    have Hx := Lib.hid hz
    have hK := (show KKE w [(w.heap.size, c), (w3.heap.size, x)] [(w.heap.size + 1, r, s)] (((w4.setCell ⟨w3.heap.size, 0, none⟩ x.v).setCell ⟨w3.heap.size, 1, none⟩ x.l).setCell ⟨w3.heap.size, 2, none⟩ x.i) from KZ.out.fill x ho (fun p hp => by simp only [List.mem_cons, List.not_mem_nil, or_false] at hp; rcases hp with rfl; (show _ ≠ _; dsimp only; have := KZ.out.k.kk.bel.size; omega)) (fun p hp => by simp only [List.mem_cons, List.not_mem_nil, or_false] at hp; rcases hp with rfl; (show _ ≠ _; dsimp only; omega)))
    obtain ⟨b0, b1, b2, bf0, bf1, bf2, bl⟩ := KZ.out.ycells
    clear hb hz ho KY x3a x3b x3c x3l x4a x4b x4l
    have KZK := Lib.hid KZ.out.k
    obtain ⟨x5a, x5b, x5c, x5l⟩ := KZK.out.kk.cells4 (g := w.heap.size) (c := c) (by simp)
    obtain ⟨x6a, x6b, x6l⟩ := KZK.out.dot2 (g := w.heap.size + 1) (r := r) (s := s) (by simp)
    clear KZ KZK
    go_upto_region 14 with fail
    generalize World.setCell (World.setCell (World.setCell w4 _ _) _ _) _ _ = W7 at hK ⊢
    have K20 := Lib.hid (show KKE w [(w.heap.size, c), (w3.heap.size, x)] [(w.heap.size + 1, r, s)] W7 from hK)
    clear hK x5a x5b x5c x5l x6a x6b x6l b0 b1 b2 bf0 bf1 bf2 bl
    obtain ⟨x7a, x7b, x7c, x7l⟩ := K20.out.kk.cells4 (g := w.heap.size) (c := c) (by simp)
    obtain ⟨x8a, x8b, x8c, x8l⟩ := K20.out.kk.cells4 (g := w3.heap.size) (c := x) (by simp)
    obtain ⟨x9a, x9b, x9l⟩ := K20.out.dot2 (g := w.heap.size + 1) (r := r) (s := s) (by simp)
    have HX0 := Lib.hid (show x.ca = zeroK from by rw [Hx.out]; exact remD_f (by rw [HE.out]; exact h1))
    go_wp2_with fail
    refine (DO.out.emp x true _ (K20.out.kk.ok (g := w3.heap.size) (c := x) (by simp)) (small_zero HX0.out) (empty_zero HX0.out)).mono ?_
    rintro e w21 ⟨rfl, hb⟩
    have K21 := Lib.hid (show KKE w [(w.heap.size, c), (w3.heap.size, x)] [(w.heap.size + 1, r, s)] w21 from K20.out.next hb)
    clear hb K20 x7a x7b x7c x7l x8a x8b x8c x8l x9a x9b x9l
    obtain ⟨x10a, x10b, x10c, x10l⟩ := K21.out.kk.cells4 (g := w.heap.size) (c := c) (by simp)
    obtain ⟨x11a, x11b, x11c, x11l⟩ := K21.out.kk.cells4 (g := w3.heap.size) (c := x) (by simp)
    obtain ⟨x12a, x12b, x12l⟩ := K21.out.dot2 (g := w.heap.size + 1) (r := r) (s := s) (by simp)
    go_wp2_with fail
    refine (HKN.out _).mono ?_
    rintro e wk ⟨rfl, hb⟩
    have KC := Lib.hid (below_trans K21.out.kk.bel hb)
    clear hb K21 x10a x10b x10c x10l x11a x11b x11c x11l x12a x12b x12l
    go_wp2_with fail
    go_ret
    exact OneB.bool rfl KC.out

end

end Go.Proofs.YtiaehpdgpjhecaaGreat
