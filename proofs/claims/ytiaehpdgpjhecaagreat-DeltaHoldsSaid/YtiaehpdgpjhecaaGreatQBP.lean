/- Several texts in one: DelR1. -/
import Derived.Test.YtiaehpdgpjhecaaGreatQBN
namespace Go.Proofs.YtiaehpdgpjhecaaGreat

section
open Go.RowKit

def kh27R1 (c y : CaV) (r s q : Int) (gi gm om : Nat) (o1 : ItV) : Nat → Sr
  | 0 => .eq (.int .i64 0)
  | 1 => .eq (.bool false)
  | 2 => .eq (.bool false)
  | 3 => .eq (.int .i64 0)
  | 4 => .eq (.bool false)
  | 5 => .eq (.bool false)
  | 6 => .eq (.bool false)
  | 7 => .eq (.int .i64 q)
  | 8 => .eq (.int .i64 q)
  | 9 => .eq (.bool false)
  | 10 => .eq (.bool false)
  | 11 => .eq (.bool false)
  | 12 => .eq (.int .i64 0)
  | 13 => .eq (.bool false)
  | 14 => .eq (.bool false)
  | 15 => .eq (.bool false)
  | 16 => .eq (.pointer (some ⟨gi, 1, none⟩))
  | 17 => .eq (.slice (some ⟨gm, om, none⟩) 1 o1.c)
  | 18 => .eq (.int .i64 1)
  | 19 => .eq (.bool false)
  | 20 => .eq (.bool false)
  | 21 => .eq (.bool false)
  | 22 => .eq (.pointer (some ⟨gi, 1, none⟩))
  | 23 => .eq (.slice (some ⟨gm, om, none⟩) 1 o1.c)
  | 24 => .eq (.pointer (some ⟨gm, om, none⟩))
  | 25 => .eq (.pointer (some ⟨gm, om, none⟩))
  | 26 => .eq (.agg #[.int .i64 r, .int .i64 s])
  | 27 => .eq (.agg #[.int .i64 r, .int .i64 s])
  | 28 => .eq (.bool false)
  | 29 => .eq (.bool false)
  | 30 => .eq (.bool false)
  | 31 => .eq (mkC c)
  | 32 => .eq (.agg #[.int .i64 r, .int .i64 s])
  | 33 => .eq (.bool true)
  | 34 => .eq (.bool false)
  | 35 => .eq (.bool false)
  | 36 => .eq (.bool false)
  | 37 => .eq (mkC y)
  | 38 => .eq (.agg #[.int .i64 r, .int .i64 s])
  | 39 => .eq (.bool false)
  | 40 => .eq (.bool false)
  | _ => .any

set_option maxRecDepth 100000 in
set_option maxHeartbeats 16000000 in
theorem lawHolds12_1 (KN : KnownD) (HDO : DelOK) (c : CaV) (r s : Int) (nm : List UInt8) (q : Int) (m : Nat) (w : World) (hc : CaOK w c) (ht : Timed c) (hla : lightK c = true) (hn : nm.length ≤ 100) (hm : m < 256) (hm4 : m % 4 = 1) :
    Calls Tryz.prog 8 #[mkC c, .agg #[.int .i64 r, .int .i64 s], .string ⟨nm.toArray⟩, .int .i64 q, .int .u8 (m : Int)] w (TrueB w) := by
  have hk0 := KFr.new w c r s hc
  have K0 := Lib.hid (show KKE w [(w.heap.size, c)] [(w.heap.size + 1, r, s)] _ from ⟨⟨fun p hp => by
    obtain rfl : p = (w.heap.size, c) := by simpa using hp
    exact ⟨hk0.cart, hk0.ok⟩, hk0.bel⟩, fun p hp => by
    obtain rfl : p = (w.heap.size + 1, r, s) := by simpa using hp
    exact hk0.dot⟩)
  have HKN := Lib.hid KN
  have DO := Lib.hid HDO
  have HL := Lib.hid hla
  have HC := Lib.hid (lightK_size hla)
  have HFD := Lib.hid (FitsD.of HC.out ht)
  have hn1 := Lib.hid (show nm.length ≤ 1000 from by omega)
  have HNM := Lib.hid hn
  have hsz := size_mk nm
  have i0 : ¬ (100 : Int) < (nm.length : Int) := by omega
  have i3 : (m : Int).tmod 4 = 1 := by rw [Int.tmod_eq_emod_of_nonneg (Int.natCast_nonneg m)]; omega
  have hm2 : (m : Int) < 256 := by omega
  have HB := Lib.hid fun W (h : CaOK W c) => DO.out.set c r s nm q W h HFD.out hn1.out
  obtain ⟨e1, he1⟩ : ∃ e, putE c.ca (r, s) nm q true = e := ⟨_, rfl⟩
  rw [he1] at HB
  have HE := Lib.hid he1
  clear hk0 hc ht hla hn KN HDO he1 hm hm4
  by_cases h1 : e1 = 0
  · subst h1
    go_enter Tryz.func8, Tryz.ntmps8
    go_upto_region 1 with fail
    generalize World.alloc (World.alloc w _) _ = w2 at K0 ⊢
    obtain ⟨x1a, x1b, x1c, x1l⟩ := K0.out.kk.cells4 (g := w.heap.size) (c := c) (by simp)
    obtain ⟨x2a, x2b, x2l⟩ := K0.out.dot2 (g := w.heap.size + 1) (r := r) (s := s) (by simp)
    go_wp2_with fail
    refine (lawLight10 c true _ (K0.out.kk.ok (g := w.heap.size) (c := c) (by simp)) HL.out).mono ?_
    rintro e w3 ⟨rfl, hb⟩
    have K1 := Lib.hid (show KKE w [(w.heap.size, c)] [(w.heap.size + 1, r, s)] w3 from K0.out.next hb)
    clear hb K0 x1a x1b x1c x1l x2a x2b x2l
    obtain ⟨x3a, x3b, x3c, x3l⟩ := K1.out.kk.cells4 (g := w.heap.size) (c := c) (by simp)
    obtain ⟨x4a, x4b, x4l⟩ := K1.out.dot2 (g := w.heap.size + 1) (r := r) (s := s) (by simp)
    have KY := Lib.hid (show KYE w [(w.heap.size, c)] [(w.heap.size + 1, r, s)] (w3.heap.size) (w3.alloc (.cells #[.slice none 0 0, .slice none 0 0, .slice none 0 0] 28)) from KYE.new K1.out (by simp))
    clear K1
    go_wp2_with fail
    refine (HB.out _ (KY.out.k.kk.ok (g := w.heap.size) (c := c) (by simp))).mono ?_
    rintro e w4 ⟨⟨x, rfl, hz, ho⟩, hb⟩
    have KZ := Lib.hid (KY.out.next hb)
    have Hx := Lib.hid hz
    have hK := (show KKE w [(w.heap.size, c), (w3.heap.size, x)] [(w.heap.size + 1, r, s)] (((w4.setCell ⟨w3.heap.size, 0, none⟩ x.v).setCell ⟨w3.heap.size, 1, none⟩ x.l).setCell ⟨w3.heap.size, 2, none⟩ x.i) from KZ.out.fill x ho (fun p hp => by simp only [List.mem_cons, List.not_mem_nil, or_false] at hp; rcases hp with rfl; (show _ ≠ _; dsimp only; have := KZ.out.k.kk.bel.size; omega)) (fun p hp => by simp only [List.mem_cons, List.not_mem_nil, or_false] at hp; rcases hp with rfl; (show _ ≠ _; dsimp only; omega)))
    obtain ⟨b0, b1, b2, bf0, bf1, bf2, bl⟩ := KZ.out.ycells
    clear hb hz ho KY x3a x3b x3c x3l x4a x4b x4l
    have KZK := Lib.hid KZ.out.k
    obtain ⟨x5a, x5b, x5c, x5l⟩ := KZK.out.kk.cells4 (g := w.heap.size) (c := c) (by simp)
    obtain ⟨x6a, x6b, x6l⟩ := KZK.out.dot2 (g := w.heap.size + 1) (r := r) (s := s) (by simp)
    clear KZ KZK
    go_upto_region 15 with fail
    generalize World.setCell (World.setCell (World.setCell w4 _ _) _ _) _ _ = W7 at hK ⊢
    have K20 := Lib.hid (show KKE w [(w.heap.size, c), (w3.heap.size, x)] [(w.heap.size + 1, r, s)] W7 from hK)
    clear hK x5a x5b x5c x5l x6a x6b x6l b0 b1 b2 bf0 bf1 bf2 bl
    obtain ⟨x7a, x7b, x7c, x7l⟩ := K20.out.kk.cells4 (g := w.heap.size) (c := c) (by simp)
    obtain ⟨x8a, x8b, x8c, x8l⟩ := K20.out.kk.cells4 (g := w3.heap.size) (c := x) (by simp)
    obtain ⟨x9a, x9b, x9l⟩ := K20.out.dot2 (g := w.heap.size + 1) (r := r) (s := s) (by simp)
    have HV := Lib.hid (show validK c.ca = true from (putE_ok HE.out).1)
    have VX := Lib.hid (show validK x.ca = true from by rw [Hx.out]; exact putD_valid)
    have SC3 := Lib.hid (show SizeK 3 c.ca from SizeK.mono HC.out (by omega))
    have SX := Lib.hid (show SizeK 3 x.ca from by rw [Hx.out]; exact putD_size HC.out HNM.out)
    go_wp2_with fail
    refine (join_v c x 3 3 _ (K20.out.kk.ok (g := w.heap.size) (c := c) (by simp)) (K20.out.kk.ok (g := w3.heap.size) (c := x) (by simp)) SC3.out SX.out (by omega) (by omega) HV.out VX.out).mono ?_
    rintro e w21 ⟨⟨y, rfl, hz, ho⟩, hb⟩
    have KO := Lib.hid (show KKE w [(w.heap.size, c), (w3.heap.size, x)] [(w.heap.size + 1, r, s)] w21 from K20.out.next hb)
    have K21 := Lib.hid (show KKE w [(w.heap.size, c), (w3.heap.size, x), (w21.heap.size, y)] [(w.heap.size + 1, r, s)] (w21.alloc (.cells #[y.v, y.l, y.i] 28)) from KO.out.push y ho.ok)
    have Hy := Lib.hid hz
    clear hb hz ho K20 x7a x7b x7c x7l x8a x8b x8c x8l x9a x9b x9l
    obtain ⟨x10a, x10b, x10c, x10l⟩ := KO.out.kk.cells4 (g := w.heap.size) (c := c) (by simp)
    obtain ⟨x11a, x11b, x11c, x11l⟩ := KO.out.kk.cells4 (g := w3.heap.size) (c := x) (by simp)
    obtain ⟨x12a, x12b, x12l⟩ := KO.out.dot2 (g := w.heap.size + 1) (r := r) (s := s) (by simp)
    clear KO
    have VY := Lib.hid (show validK y.ca = true from by rw [Hy.out]; exact joinK_valid HV.out VX.out)
    have SY := Lib.hid (show SizeK 6 y.ca from by rw [Hy.out]; exact joinK_size HV.out VX.out SC3.out SX.out)
    go_wp2_with fail
    refine (join_v y x 6 3 _ (K21.out.kk.ok (g := w21.heap.size) (c := y) (by simp)) (K21.out.kk.ok (g := w3.heap.size) (c := x) (by simp)) SY.out SX.out (by omega) (by omega) VY.out VX.out).mono ?_
    rintro e w22 ⟨⟨z, rfl, hz, ho⟩, hb⟩
    have KO := Lib.hid (show KKE w [(w.heap.size, c), (w3.heap.size, x), (w21.heap.size, y)] [(w.heap.size + 1, r, s)] w22 from K21.out.next hb)
    have K22 := Lib.hid (show KKE w [(w.heap.size, c), (w3.heap.size, x), (w21.heap.size, y), (w22.heap.size, z)] [(w.heap.size + 1, r, s)] (w22.alloc (.cells #[z.v, z.l, z.i] 28)) from KO.out.push z ho.ok)
    have Hz := Lib.hid hz
    clear hb hz ho K21 x10a x10b x10c x10l x11a x11b x11c x11l x12a x12b x12l
    obtain ⟨x13a, x13b, x13c, x13l⟩ := KO.out.kk.cells4 (g := w.heap.size) (c := c) (by simp)
    obtain ⟨x14a, x14b, x14c, x14l⟩ := KO.out.kk.cells4 (g := w3.heap.size) (c := x) (by simp)
    obtain ⟨x15a, x15b, x15c, x15l⟩ := KO.out.kk.cells4 (g := w21.heap.size) (c := y) (by simp)
    obtain ⟨x16a, x16b, x16l⟩ := KO.out.dot2 (g := w.heap.size + 1) (r := r) (s := s) (by simp)
    clear KO
    have HZY := Lib.hid (show z.ca = y.ca from by rw [Hz.out, Hy.out, joinK_assoc HV.out VX.out VX.out, joinK_self VX.out])
    have SZ := Lib.hid (show SizeK 6 z.ca from by rw [HZY.out]; exact SY.out)
    go_wp2_with fail
    refine (caValid c true _ (K22.out.kk.ok (g := w.heap.size) (c := c) (by simp)) HFD.out.k HV.out).mono ?_
    rintro e w23 ⟨rfl, hb⟩
    have K23 := Lib.hid (show KKE w [(w.heap.size, c), (w3.heap.size, x), (w21.heap.size, y), (w22.heap.size, z)] [(w.heap.size + 1, r, s)] w23 from K22.out.next hb)
    clear hb K22 x13a x13b x13c x13l x14a x14b x14c x14l x15a x15b x15c x15l x16a x16b x16l
    obtain ⟨x17a, x17b, x17c, x17l⟩ := K23.out.kk.cells4 (g := w.heap.size) (c := c) (by simp)
    obtain ⟨x18a, x18b, x18c, x18l⟩ := K23.out.kk.cells4 (g := w3.heap.size) (c := x) (by simp)
    obtain ⟨x19a, x19b, x19c, x19l⟩ := K23.out.kk.cells4 (g := w21.heap.size) (c := y) (by simp)
    obtain ⟨x20a, x20b, x20c, x20l⟩ := K23.out.kk.cells4 (g := w22.heap.size) (c := z) (by simp)
    obtain ⟨x21a, x21b, x21l⟩ := K23.out.dot2 (g := w.heap.size + 1) (r := r) (s := s) (by simp)
    go_wp2_with fail
    refine (caValid x true _ (K23.out.kk.ok (g := w3.heap.size) (c := x) (by simp)) (FitsP.of SX.out SX.out (by omega) (by omega)).kc VX.out).mono ?_
    rintro e w24 ⟨rfl, hb⟩
    have K24 := Lib.hid (show KKE w [(w.heap.size, c), (w3.heap.size, x), (w21.heap.size, y), (w22.heap.size, z)] [(w.heap.size + 1, r, s)] w24 from K23.out.next hb)
    clear hb K23 x17a x17b x17c x17l x18a x18b x18c x18l x19a x19b x19c x19l x20a x20b x20c x20l x21a x21b x21l
    obtain ⟨x22a, x22b, x22c, x22l⟩ := K24.out.kk.cells4 (g := w.heap.size) (c := c) (by simp)
    obtain ⟨x23a, x23b, x23c, x23l⟩ := K24.out.kk.cells4 (g := w3.heap.size) (c := x) (by simp)
    obtain ⟨x24a, x24b, x24c, x24l⟩ := K24.out.kk.cells4 (g := w21.heap.size) (c := y) (by simp)
    obtain ⟨x25a, x25b, x25c, x25l⟩ := K24.out.kk.cells4 (g := w22.heap.size) (c := z) (by simp)
    obtain ⟨x26a, x26b, x26l⟩ := K24.out.dot2 (g := w.heap.size + 1) (r := r) (s := s) (by simp)
    go_wp2_with fail
    refine (refEqual10 y z true _ (K24.out.kk.ok (g := w21.heap.size) (c := y) (by simp)) (K24.out.kk.ok (g := w22.heap.size) (c := z) (by simp)) (SizeK.small SY.out (by omega)) (SizeK.small SZ.out (by omega)) (by rw [HZY.out]; exact sameJ_self _)).mono ?_
    rintro e w25 ⟨rfl, hb⟩
    have K25 := Lib.hid (show KKE w [(w.heap.size, c), (w3.heap.size, x), (w21.heap.size, y), (w22.heap.size, z)] [(w.heap.size + 1, r, s)] w25 from K24.out.next hb)
    clear hb K24 x22a x22b x22c x22l x23a x23b x23c x23l x24a x24b x24c x24l x25a x25b x25c x25l x26a x26b x26l
    obtain ⟨x27a, x27b, x27c, x27l⟩ := K25.out.kk.cells4 (g := w.heap.size) (c := c) (by simp)
    obtain ⟨x28a, x28b, x28c, x28l⟩ := K25.out.kk.cells4 (g := w3.heap.size) (c := x) (by simp)
    obtain ⟨x29a, x29b, x29c, x29l⟩ := K25.out.kk.cells4 (g := w21.heap.size) (c := y) (by simp)
    obtain ⟨x30a, x30b, x30c, x30l⟩ := K25.out.kk.cells4 (g := w22.heap.size) (c := z) (by simp)
    obtain ⟨x31a, x31b, x31l⟩ := K25.out.dot2 (g := w.heap.size + 1) (r := r) (s := s) (by simp)
    go_upto_region 19 with fail
    go_region
    have hbw := ((Below.refl w25.heap.size w25).alloc (Nat.le_refl _) (.cells #[c.v, c.l] 25)).drew
    have hK := (show KKE w [(w.heap.size, c), (w3.heap.size, x), (w21.heap.size, y), (w22.heap.size, z)] [(w.heap.size + 1, r, s)] (w25.alloc (.cells #[c.v, c.l] 25)).drew from K25.out.next hbw)
    have hW := (show Blk2 (w25.alloc (.cells #[c.v, c.l] 25)).drew w25.heap.size c.v c.l from heap_alloc_new w25 _)
    have hge := K25.out.kk.bel.size
    clear hbw K25 x27a x27b x27c x27l x28a x28b x28c x28l x29a x29b x29c x29l x30a x30b x30c x30l x31a x31b x31l
    generalize (World.alloc w25 _).drew = w30 at hK hW ⊢
    generalize w25.heap.size = gw at hW hge ⊢
    have K30 := Lib.hid (show KKE w [(w.heap.size, c), (w3.heap.size, x), (w21.heap.size, y), (w22.heap.size, z)] [(w.heap.size + 1, r, s)] w30 from hK)
    have HW := Lib.hid hW
    have HGE := Lib.hid hge
    clear hK hW hge
    obtain ⟨x32a, x32b, x32c, x32l⟩ := K30.out.kk.cells4 (g := w.heap.size) (c := c) (by simp)
    obtain ⟨x33a, x33b, x33c, x33l⟩ := K30.out.kk.cells4 (g := w3.heap.size) (c := x) (by simp)
    obtain ⟨x34a, x34b, x34c, x34l⟩ := K30.out.kk.cells4 (g := w21.heap.size) (c := y) (by simp)
    obtain ⟨x35a, x35b, x35c, x35l⟩ := K30.out.kk.cells4 (g := w22.heap.size) (c := z) (by simp)
    obtain ⟨x36a, x36b, x36l⟩ := K30.out.dot2 (g := w.heap.size + 1) (r := r) (s := s) (by simp)
    have ew0 := HW.out.cell0
    have ew1 := HW.out.cell1
    have ewl := HW.out.lt
    obtain ⟨us, rs, hur⟩ : ∃ us rs, addC c.vs c.ls [(r, s)] = (us, rs) := ⟨_, _, rfl⟩
    have HUR := Lib.hid hur
    have HJ := Lib.hid (show y.ca = ((us, rs), insN (remN c.ca.2 nm) (nm, [newM c.ca (r, s) q])) from by rw [Hy.out, Hx.out, ← hur]; exact join_putD HE.out)
    have HJ1 := Lib.hid (show its y.xs = insN (remN (its c.xs) nm) (nm, [newM c.ca (r, s) q]) from congrArg (fun a : Ca => a.2) HJ.out)
    have HJ2 := Lib.hid (show y.vs = us ∧ y.ls = rs from ⟨congrArg (fun a : Ca => a.1.1) HJ.out, congrArg (fun a : Ca => a.1.2) HJ.out⟩)
    have HFO := Lib.hid (show qtyC y.ca nm = (q, 0) ∧ y.ca.2.find? (fun a => a.1 == nm) = some (nm, [newM c.ca (r, s) q]) from by rw [Hy.out, Hx.out]; exact put_found HE.out)
    have HFS := Lib.hid (show freshK c.ca (r, s) = true ∧ freshK y.ca (r, s) = false from by rw [Hy.out, Hx.out]; exact put_fresh HE.out)
    have HYK := Lib.hid (FitsP.of SY.out SY.out (by omega) (by omega)).kc
    have HCX := Lib.hid (show (validC c.vs c.ls && okL [(r, s)]) = true from by
      rw [Bool.and_eq_true]
      exact ⟨(compC_iff.1 (validK_iff.1 HV.out).1).2, by simpa [okL] using (putE_ok HE.out).2.1⟩)
    clear hur
    have hal := (Below.refl w30.heap.size w30).alloc (Nat.le_refl _) (.cells #[.int .i64 r, .int .i64 s] 30)
    have HRD := Lib.hid (own_lit w30 r s).holds
    have KA := Lib.hid (show KKE w [(w.heap.size, c), (w3.heap.size, x), (w21.heap.size, y), (w22.heap.size, z)] [(w.heap.size + 1, r, s)] (w30.alloc (.cells #[.int .i64 r, .int .i64 s] 30)) from K30.out.next hal)
    replace HW := Lib.hid (HW.out.below hal)
    have hcx := ctxAdd (.agg #[c.v, c.l]) (.slice (some ⟨w30.heap.size, 0, none⟩) 1 1) c.vs c.ls [(r, s)] _ (KA.out.kk.ok (g := w.heap.size) (c := c) (by simp)).ctx HRD.out (by have := HFD.out.k.2; have := HC.out.dots; rw [ca_v, ca_l] at this; simp; omega)
    rw [HCX.out, HUR.out] at hcx
    have HCA := Lib.hid hcx
    clear hal hcx K30 HRD
    go_wp2_with fail
    refine HCA.out.mono ?_
    intro e w40 hr
    obtain ⟨⟨A4, n4, B4, m4, rfl, hv4, hl4⟩, hb⟩ := CtxR.t hr
    have KB := (KA.out.next hb)
    have HWB := HW.out.below hb
    have bw0 := HWB.cell0
    have bw1 := HWB.cell1
    have fw0 := HWB.frozen 0
    have fw1 := HWB.frozen 1
    have bwl := HWB.lt
    have hoff : ∀ j, j ≠ gw → ((w40.setCell ⟨gw, 0, none⟩ (.slice A4 us.length n4)).setCell ⟨gw, 1, none⟩ (.slice B4 rs.length m4)).heap[j]? = w40.heap[j]? := fun j hj => (Below.heap_setCell _ ⟨gw, 1, none⟩ _ j hj).trans (Below.heap_setCell _ ⟨gw, 0, none⟩ _ j hj)
    have hK := KB.setW HWB HGE.out (.slice A4 us.length n4) (.slice B4 rs.length m4)
    have hW2 := HWB.set (.slice A4 us.length n4) (.slice B4 rs.length m4)
    have hH1 := holds_offW (W' := (w40.setCell ⟨gw, 0, none⟩ (.slice A4 us.length n4)).setCell ⟨gw, 1, none⟩ (.slice B4 rs.length m4)) hv4.holds HWB (by simp) hoff
    have hH2 := holds_offW (W' := (w40.setCell ⟨gw, 0, none⟩ (.slice A4 us.length n4)).setCell ⟨gw, 1, none⟩ (.slice B4 rs.length m4)) hl4.holds HWB (by simp) hoff
    clear hr hv4 hl4 hoff HWB HW KA x32a x32b x32c x32l x33a x33b x33c x33l x34a x34b x34c x34l x35a x35b x35c x35l x36a x36b x36l ew0 ew1 ewl
    have KBH := Lib.hid KB
    clear KB hb
    obtain ⟨x37a, x37b, x37c, x37l⟩ := KBH.out.kk.cells4 (g := w.heap.size) (c := c) (by simp)
    obtain ⟨x38a, x38b, x38c, x38l⟩ := KBH.out.kk.cells4 (g := w3.heap.size) (c := x) (by simp)
    obtain ⟨x39a, x39b, x39c, x39l⟩ := KBH.out.kk.cells4 (g := w21.heap.size) (c := y) (by simp)
    obtain ⟨x40a, x40b, x40c, x40l⟩ := KBH.out.kk.cells4 (g := w22.heap.size) (c := z) (by simp)
    obtain ⟨x41a, x41b, x41l⟩ := KBH.out.dot2 (g := w.heap.size + 1) (r := r) (s := s) (by simp)
    clear KBH
    go_upto_region 25 with fail
    generalize World.setCell (World.setCell w40 _ _) _ _ = w41 at hK hW2 hH1 hH2 ⊢
    have K41 := Lib.hid (show KKE w [(w.heap.size, c), (w3.heap.size, x), (w21.heap.size, y), (w22.heap.size, z)] [(w.heap.size + 1, r, s)] w41 from hK)
    have HW := Lib.hid hW2
    have HH := Lib.hid (show HoldsC w41 (.agg #[.slice A4 us.length n4, .slice B4 rs.length m4]) us rs from HoldsC.mk hH1 hH2)
    clear hK hW2 hH1 hH2 bw0 bw1 fw0 fw1 bwl x37a x37b x37c x37l x38a x38b x38c x38l x39a x39b x39c x39l x40a x40b x40c x40l x41a x41b x41l
    obtain ⟨x42a, x42b, x42c, x42l⟩ := K41.out.kk.cells4 (g := w.heap.size) (c := c) (by simp)
    obtain ⟨x43a, x43b, x43c, x43l⟩ := K41.out.kk.cells4 (g := w3.heap.size) (c := x) (by simp)
    obtain ⟨x44a, x44b, x44c, x44l⟩ := K41.out.kk.cells4 (g := w21.heap.size) (c := y) (by simp)
    obtain ⟨x45a, x45b, x45c, x45l⟩ := K41.out.kk.cells4 (g := w22.heap.size) (c := z) (by simp)
    obtain ⟨x46a, x46b, x46l⟩ := K41.out.dot2 (g := w.heap.size + 1) (r := r) (s := s) (by simp)
    have ew0 := HW.out.cell0
    have ew1 := HW.out.cell1
    have ewl := HW.out.lt
    go_wp2_with fail
    refine (caQty y nm q 0 _ (K41.out.kk.ok (g := w21.heap.size) (c := y) (by simp)) HYK.out HFO.out.1).mono ?_
    rintro e w42 ⟨rfl, hb⟩
    have K42 := Lib.hid (show KKE w [(w.heap.size, c), (w3.heap.size, x), (w21.heap.size, y), (w22.heap.size, z)] [(w.heap.size + 1, r, s)] w42 from K41.out.next hb)
    replace HW := Lib.hid (HW.out.below hb)
    replace HH := Lib.hid (HH.out.below hb)
    clear hb K41 x42a x42b x42c x42l x43a x43b x43c x43l x44a x44b x44c x44l x45a x45b x45c x45l x46a x46b x46l ew0 ew1 ewl
    obtain ⟨x47a, x47b, x47c, x47l⟩ := K42.out.kk.cells4 (g := w.heap.size) (c := c) (by simp)
    obtain ⟨x48a, x48b, x48c, x48l⟩ := K42.out.kk.cells4 (g := w3.heap.size) (c := x) (by simp)
    obtain ⟨x49a, x49b, x49c, x49l⟩ := K42.out.kk.cells4 (g := w21.heap.size) (c := y) (by simp)
    obtain ⟨x50a, x50b, x50c, x50l⟩ := K42.out.kk.cells4 (g := w22.heap.size) (c := z) (by simp)
    obtain ⟨x51a, x51b, x51l⟩ := K42.out.dot2 (g := w.heap.size + 1) (r := r) (s := s) (by simp)
    have ew0 := HW.out.cell0
    have ew1 := HW.out.cell1
    have ewl := HW.out.lt
    go_wp2_with fail
    refine (itFind_h y.i y.xs nm _ (K42.out.kk.ok (g := w21.heap.size) (c := y) (by simp)).2.2 HYK.out.1).mono ?_
    rintro e w43 ⟨⟨o1, n1, rfl, hk, ho⟩, hb⟩
    have hk2 := (find_one (l := its y.xs) HFO.out.2).symm.trans hk
    obtain ⟨ho1, rfl⟩ : (nm, [newM c.ca (r, s) q]) = o1.it ∧ 0 = n1 := ⟨congrArg Prod.fst hk2, congrArg Prod.snd hk2⟩
    have HO1 := Lib.hid ho1.symm
    have hali := (Below.refl w43.heap.size w43).alloc (Nat.le_refl _) (.cells #[.string ⟨o1.nm.toArray⟩, .slice o1.A o1.ms.length o1.c] 50)
    have hb2 := below_trans hb hali
    have HI := Lib.hid (show BlkI (w43.alloc (.cells #[.string ⟨o1.nm.toArray⟩, .slice o1.A o1.ms.length o1.c] 50)) w43.heap.size o1 from BlkI.new w43 o1)
    have HOK := Lib.hid (ho.below hali)
    have hK := (show KKE w [(w.heap.size, c), (w3.heap.size, x), (w21.heap.size, y), (w22.heap.size, z)] [(w.heap.size + 1, r, s)] (w43.alloc (.cells #[.string ⟨o1.nm.toArray⟩, .slice o1.A o1.ms.length o1.c] 50)) from K42.out.next hb2)
    replace HW := Lib.hid (HW.out.below hb2)
    replace HH := Lib.hid (HH.out.below hb2)
    clear hk hk2 ho1 ho hali hb hb2 K42 x47a x47b x47c x47l x48a x48b x48c x48l x49a x49b x49c x49l x50a x50b x50c x50l x51a x51b x51l ew0 ew1 ewl
    go_upto_region 27 with fail
    have HO1L := Lib.hid (show o1.ms.length = 1 from by rw [show o1.ms = [newM c.ca (r, s) q] from congrArg Prod.snd HO1.out]; rfl)
    generalize World.alloc w43 _ = w50 at hK HI HOK HW HH ⊢
    generalize w43.heap.size = gi at HI ⊢
    have K50 := Lib.hid (show KKE w [(w.heap.size, c), (w3.heap.size, x), (w21.heap.size, y), (w22.heap.size, z)] [(w.heap.size + 1, r, s)] w50 from hK)
    clear hK
    obtain ⟨gm, om, hA, hl1, hgm, hc0, hc1⟩ := one_cells HO1.out HOK.out
    have hi1 := HI.out.cell1
    rw [hA, hl1] at hi1
    have KK0 : ∀ V, Below w50.heap.size w50 V → KKE w [(w.heap.size, c), (w3.heap.size, x), (w21.heap.size, y), (w22.heap.size, z)] [(w.heap.size + 1, r, s)] V ∧ V.cell? ⟨gi, 1, none⟩ = some (.slice (some ⟨gm, om, none⟩) 1 o1.c) ∧ V.cell? ⟨gm, om, none⟩ = some (.int .i64 r) ∧ V.cell? ⟨gm, om + 1, none⟩ = some (.int .i64 s) := fun V hb => ⟨K50.out.next hb, (hb.cell (p := ⟨gi, 1, none⟩) HI.out.lt).trans hi1, (hb.cell (p := ⟨gm, om, none⟩) hgm).trans hc0, (hb.cell (p := ⟨gm, om + 1, none⟩) hgm).trans hc1⟩
    have hnb : ∀ {k : Nat}, ∀ j, (fun _ : Nat => (none : Option Nat)) j ≠ some k := fun j h => by cases h
    have hkp : ∀ (a : Nat) (L : Nat → Bool) (W W' : World), Below w50.heap.size w50 W → BelW W W' → KeepsR (srS w50 (kh27R1 c y r s q gi gm om o1)) L W W' ∧ Below w50.heap.size w50 W' := fun _ _ _ _ h hb => sr_keep h hb
    refine wp_region_sr (sr := kh27R1 c y r s q gi gm om o1) (by kernel_rfl) (by kernel_rfl) (by kernel_rfl) (dst_small (n := 209) (by kernel_rfl)) ?_ ?_
    · refine ⟨?_, ?_, ?_, ?_, ?_, ?_, ?_, ?_, ?_, ?_, ?_, ?_, ?_, ?_, ?_, ?_, ?_, ?_, ?_, ?_, ?_, ?_, ?_, ?_, ?_, ?_, ?_, ?_, ?_, ?_, ?_, ?_, ?_, ?_, ?_, ?_, ?_, ?_, ?_, ?_, ?_, trivial⟩
      · refine StepR.pure rfl rfl hnb (fun W => Below.refl _ W) (hkp 0) fun L a W hI hk hd => ?_
        have e12 : a.tmps[12]?.getD undef = .int .i64 0 := hI.at 12 (by kernel_rfl)
        exact ⟨rfl, .int .i64 0, by go_simp, rfl⟩
      · refine StepR.pure rfl rfl hnb (fun W => Below.refl _ W) (hkp 1) fun L a W hI hk hd => ?_
        obtain ⟨_, e137, rfl⟩ := hI.get 0 137 (hd 0 rfl) rfl
        exact ⟨rfl, .bool false, by go_simp, rfl⟩
      · refine StepR.pure rfl rfl hnb (fun W => Below.refl _ W) (hkp 2) fun L a W hI hk hd => ?_
        obtain ⟨_, e138, rfl⟩ := hI.get 1 138 (hd 1 rfl) rfl
        exact ⟨rfl, .bool false, by go_simp, rfl⟩
      · refine StepR.pure rfl rfl hnb (fun W => Below.refl _ W) (hkp 3) fun L a W hI hk hd => ?_
        have e19 : a.tmps[19]?.getD undef = .int .i64 0 := hI.at 19 (by kernel_rfl)
        exact ⟨hI.wants rfl (hd 2 rfl) rfl (fun _ h => h), .int .i64 0, by go_simp, rfl⟩
      · refine StepR.pure rfl rfl hnb (fun W => Below.refl _ W) (hkp 4) fun L a W hI hk hd => ?_
        obtain ⟨_, e140, rfl⟩ := hI.get 3 140 (hd 3 rfl) rfl
        exact ⟨hI.wants rfl (hd 2 rfl) rfl (fun _ h => h), .bool false, by go_simp, rfl⟩
      · refine StepR.pure rfl rfl hnb (fun W => Below.refl _ W) (hkp 5) fun L a W hI hk hd => ?_
        obtain ⟨_, e139, rfl⟩ := hI.get 2 139 (hd 2 rfl) rfl
        obtain ⟨_, e141, rfl⟩ := hI.get 4 141 (hd 4 rfl) rfl
        exact ⟨rfl, .bool false, by go_simp, rfl⟩
      · refine StepR.pure rfl rfl hnb (fun W => Below.refl _ W) (hkp 6) fun L a W hI hk hd => ?_
        obtain ⟨_, e142, rfl⟩ := hI.get 5 142 (hd 5 rfl) rfl
        exact ⟨rfl, .bool false, by go_simp, rfl⟩
      · refine StepR.pure rfl rfl hnb (fun W => Below.refl _ W) (hkp 7) fun L a W hI hk hd => ?_
        have e18 : a.tmps[18]?.getD undef = .int .i64 q := hI.at 18 (by kernel_rfl)
        exact ⟨hI.wants rfl (hd 6 rfl) rfl (fun _ h => h), .int .i64 q, by go_simp, rfl⟩
      · refine StepR.pure rfl rfl hnb (fun W => Below.refl _ W) (hkp 8) fun L a W hI hk hd => ?_
        have e3 : a.tmps[3]?.getD undef = .int .i64 q := hI.at 3 (by kernel_rfl)
        exact ⟨hI.wants rfl (hd 6 rfl) rfl (fun _ h => h), .int .i64 q, by go_simp, rfl⟩
      · refine StepR.pure rfl rfl hnb (fun W => Below.refl _ W) (hkp 9) fun L a W hI hk hd => ?_
        obtain ⟨_, e144, rfl⟩ := hI.get 7 144 (hd 7 rfl) rfl
        obtain ⟨_, e145, rfl⟩ := hI.get 8 145 (hd 8 rfl) rfl
        exact ⟨hI.wants rfl (hd 6 rfl) rfl (fun _ h => h), .bool false, by go_simp, rfl⟩
      · refine StepR.pure rfl rfl hnb (fun W => Below.refl _ W) (hkp 10) fun L a W hI hk hd => ?_
        obtain ⟨_, e143, rfl⟩ := hI.get 6 143 (hd 6 rfl) rfl
        obtain ⟨_, e146, rfl⟩ := hI.get 9 146 (hd 9 rfl) rfl
        exact ⟨rfl, .bool false, by go_simp, rfl⟩
      · refine StepR.pure rfl rfl hnb (fun W => Below.refl _ W) (hkp 11) fun L a W hI hk hd => ?_
        obtain ⟨_, e147, rfl⟩ := hI.get 10 147 (hd 10 rfl) rfl
        exact ⟨rfl, .bool false, by go_simp, rfl⟩
      · refine StepR.pure rfl rfl hnb (fun W => Below.refl _ W) (hkp 12) fun L a W hI hk hd => ?_
        have e21 : a.tmps[21]?.getD undef = .int .i64 0 := hI.at 21 (by kernel_rfl)
        exact ⟨hI.wants rfl (hd 11 rfl) rfl (fun _ h => h), .int .i64 0, by go_simp, rfl⟩
      · refine StepR.pure rfl rfl hnb (fun W => Below.refl _ W) (hkp 13) fun L a W hI hk hd => ?_
        obtain ⟨_, e149, rfl⟩ := hI.get 12 149 (hd 12 rfl) rfl
        exact ⟨hI.wants rfl (hd 11 rfl) rfl (fun _ h => h), .bool false, by go_simp, rfl⟩
      · refine StepR.pure rfl rfl hnb (fun W => Below.refl _ W) (hkp 14) fun L a W hI hk hd => ?_
        obtain ⟨_, e148, rfl⟩ := hI.get 11 148 (hd 11 rfl) rfl
        obtain ⟨_, e150, rfl⟩ := hI.get 13 150 (hd 13 rfl) rfl
        exact ⟨rfl, .bool false, by go_simp, rfl⟩
      · refine StepR.pure rfl rfl hnb (fun W => Below.refl _ W) (hkp 15) fun L a W hI hk hd => ?_
        obtain ⟨_, e151, rfl⟩ := hI.get 14 151 (hd 14 rfl) rfl
        exact ⟨rfl, .bool false, by go_simp, rfl⟩
      · refine StepR.pure rfl rfl hnb (fun W => Below.refl _ W) (hkp 16) fun L a W hI hk hd => ?_
        have e20 : a.tmps[20]?.getD undef = .pointer (some ⟨gi, 0, none⟩) := hI.at 20 (by kernel_rfl)
        exact ⟨hI.wants rfl (hd 15 rfl) rfl (fun _ h => h), .pointer (some ⟨gi, 1, none⟩), by go_simp, rfl⟩
      · refine StepR.pure rfl rfl hnb (fun W => Below.refl _ W) (hkp 17) fun L a W hI hk hd => ?_
        obtain ⟨_, e153, rfl⟩ := hI.get 16 153 (hd 16 rfl) rfl
        have c1 := (KK0 W hI.glob).2.1
        exact ⟨hI.wants rfl (hd 15 rfl) rfl (fun _ h => h), .slice (some ⟨gm, om, none⟩) 1 o1.c, by go_simp, rfl⟩
      · refine StepR.pure rfl rfl hnb (fun W => Below.refl _ W) (hkp 18) fun L a W hI hk hd => ?_
        obtain ⟨_, e154, rfl⟩ := hI.get 17 154 (hd 17 rfl) rfl
        exact ⟨hI.wants rfl (hd 15 rfl) rfl (fun _ h => h), .int .i64 1, by go_simp, rfl⟩
      · refine StepR.pure rfl rfl hnb (fun W => Below.refl _ W) (hkp 19) fun L a W hI hk hd => ?_
        obtain ⟨_, e155, rfl⟩ := hI.get 18 155 (hd 18 rfl) rfl
        exact ⟨hI.wants rfl (hd 15 rfl) rfl (fun _ h => h), .bool false, by go_simp, rfl⟩
      · refine StepR.pure rfl rfl hnb (fun W => Below.refl _ W) (hkp 20) fun L a W hI hk hd => ?_
        obtain ⟨_, e152, rfl⟩ := hI.get 15 152 (hd 15 rfl) rfl
        obtain ⟨_, e156, rfl⟩ := hI.get 19 156 (hd 19 rfl) rfl
        exact ⟨rfl, .bool false, by go_simp, rfl⟩
      · refine StepR.pure rfl rfl hnb (fun W => Below.refl _ W) (hkp 21) fun L a W hI hk hd => ?_
        obtain ⟨_, e157, rfl⟩ := hI.get 20 157 (hd 20 rfl) rfl
        exact ⟨rfl, .bool false, by go_simp, rfl⟩
      · refine StepR.pure rfl rfl hnb (fun W => Below.refl _ W) (hkp 22) fun L a W hI hk hd => ?_
        have e20 : a.tmps[20]?.getD undef = .pointer (some ⟨gi, 0, none⟩) := hI.at 20 (by kernel_rfl)
        exact ⟨hI.wants rfl (hd 21 rfl) rfl (fun _ h => h), .pointer (some ⟨gi, 1, none⟩), by go_simp, rfl⟩
      · refine StepR.pure rfl rfl hnb (fun W => Below.refl _ W) (hkp 23) fun L a W hI hk hd => ?_
        obtain ⟨_, e159, rfl⟩ := hI.get 22 159 (hd 22 rfl) rfl
        have c1 := (KK0 W hI.glob).2.1
        exact ⟨hI.wants rfl (hd 21 rfl) rfl (fun _ h => h), .slice (some ⟨gm, om, none⟩) 1 o1.c, by go_simp, rfl⟩
      · refine StepR.pure rfl rfl hnb (fun W => Below.refl _ W) (hkp 24) fun L a W hI hk hd => ?_
        obtain ⟨_, e160, rfl⟩ := hI.get 23 160 (hd 23 rfl) rfl
        exact ⟨hI.wants rfl (hd 21 rfl) rfl (fun _ h => h), .pointer (some ⟨gm, om, none⟩), by go_simp, rfl⟩
      · refine StepR.pure rfl rfl hnb (fun W => Below.refl _ W) (hkp 25) fun L a W hI hk hd => ?_
        obtain ⟨_, e161, rfl⟩ := hI.get 24 161 (hd 24 rfl) rfl
        exact ⟨hI.wants rfl (hd 21 rfl) rfl (fun _ h => h), .pointer (some ⟨gm, om, none⟩), by go_simp, rfl⟩
      · refine StepR.pure rfl rfl hnb (fun W => Below.refl _ W) (hkp 26) fun L a W hI hk hd => ?_
        obtain ⟨_, e162, rfl⟩ := hI.get 25 162 (hd 25 rfl) rfl
        obtain ⟨c0, c1⟩ := (KK0 W hI.glob).2.2
        exact ⟨hI.wants rfl (hd 21 rfl) rfl (fun _ h => h), .agg #[.int .i64 r, .int .i64 s], by go_simp, rfl⟩
      · refine StepR.pure rfl rfl hnb (fun W => Below.refl _ W) (hkp 27) fun L a W hI hk hd => ?_
        have e6 : a.tmps[6]?.getD undef = .pointer (some ⟨w.heap.size + 1, 0, none⟩) := hI.at 6 (by kernel_rfl)
        obtain ⟨c0, c1, _⟩ := (KK0 W hI.glob).1.dot2 (g := w.heap.size + 1) (r := r) (s := s) (by simp)
        exact ⟨hI.wants rfl (hd 21 rfl) rfl (fun _ h => h), .agg #[.int .i64 r, .int .i64 s], by go_simp, rfl⟩
      · refine StepR.pure rfl rfl hnb (fun W => Below.refl _ W) (hkp 28) fun L a W hI hk hd => ?_
        obtain ⟨_, e163, rfl⟩ := hI.get 26 163 (hd 26 rfl) rfl
        obtain ⟨_, e164, rfl⟩ := hI.get 27 164 (hd 27 rfl) rfl
        have hne := neqDot r s r s W
        rw [show (!(r == r && s == s)) = false from by simp] at hne
        exact ⟨hI.wants rfl (hd 21 rfl) rfl (fun _ h => h), .bool false, by go_simp, rfl⟩
      · refine StepR.pure rfl rfl hnb (fun W => Below.refl _ W) (hkp 29) fun L a W hI hk hd => ?_
        obtain ⟨_, e158, rfl⟩ := hI.get 21 158 (hd 21 rfl) rfl
        obtain ⟨_, e165, rfl⟩ := hI.get 28 165 (hd 28 rfl) rfl
        exact ⟨rfl, .bool false, by go_simp, rfl⟩
      · refine StepR.pure rfl rfl hnb (fun W => Below.refl _ W) (hkp 30) fun L a W hI hk hd => ?_
        obtain ⟨_, e166, rfl⟩ := hI.get 29 166 (hd 29 rfl) rfl
        exact ⟨rfl, .bool false, by go_simp, rfl⟩
      · refine StepR.pure rfl rfl hnb (fun W => Below.refl _ W) (hkp 31) fun L a W hI hk hd => ?_
        have e5 : a.tmps[5]?.getD undef = .pointer (some ⟨w.heap.size, 0, none⟩) := hI.at 5 (by kernel_rfl)
        obtain ⟨c0, c1, c2, _⟩ := (KK0 W hI.glob).1.kk.cells4 (g := w.heap.size) (c := c) (by simp)
        exact ⟨hI.wants rfl (hd 30 rfl) rfl (fun _ h => h), mkC c, by go_simp, rfl⟩
      · refine StepR.pure rfl rfl hnb (fun W => Below.refl _ W) (hkp 32) fun L a W hI hk hd => ?_
        have e6 : a.tmps[6]?.getD undef = .pointer (some ⟨w.heap.size + 1, 0, none⟩) := hI.at 6 (by kernel_rfl)
        obtain ⟨c0, c1, _⟩ := (KK0 W hI.glob).1.dot2 (g := w.heap.size + 1) (r := r) (s := s) (by simp)
        exact ⟨hI.wants rfl (hd 30 rfl) rfl (fun _ h => h), .agg #[.int .i64 r, .int .i64 s], by go_simp, rfl⟩
      · refine StepR.call rfl rfl hnb (hkp 33) fun L a W hI hk hd => ?_
        obtain ⟨_, e168, rfl⟩ := hI.get 31 168 (hd 31 rfl) rfl
        obtain ⟨_, e169, rfl⟩ := hI.get 32 169 (hd 32 rfl) rfl
        refine ⟨hI.wants rfl (hd 30 rfl) rfl (fun _ h => h), 22, #[mkC c, .agg #[.int .i64 r, .int .i64 s]], by go_simp, (delFresh c r s true W ((KK0 W hI.glob).1.kk.ok (g := w.heap.size) (c := c) (by simp)) HFD.out.k HFS.out.1).mono ?_⟩
        rintro e W' ⟨rfl, hb⟩
        exact ⟨_, rfl, hb, rfl⟩
      · refine StepR.pure rfl rfl hnb (fun W => Below.refl _ W) (hkp 34) fun L a W hI hk hd => ?_
        obtain ⟨_, e170, rfl⟩ := hI.get 33 170 (hd 33 rfl) rfl
        exact ⟨hI.wants rfl (hd 30 rfl) rfl (fun _ h => h), .bool false, by go_simp, rfl⟩
      · refine StepR.pure rfl rfl hnb (fun W => Below.refl _ W) (hkp 35) fun L a W hI hk hd => ?_
        obtain ⟨_, e167, rfl⟩ := hI.get 30 167 (hd 30 rfl) rfl
        obtain ⟨_, e171, rfl⟩ := hI.get 34 171 (hd 34 rfl) rfl
        exact ⟨rfl, .bool false, by go_simp, rfl⟩
      · refine StepR.pure rfl rfl hnb (fun W => Below.refl _ W) (hkp 36) fun L a W hI hk hd => ?_
        obtain ⟨_, e172, rfl⟩ := hI.get 35 172 (hd 35 rfl) rfl
        exact ⟨rfl, .bool false, by go_simp, rfl⟩
      · refine StepR.pure rfl rfl hnb (fun W => Below.refl _ W) (hkp 37) fun L a W hI hk hd => ?_
        have e13 : a.tmps[13]?.getD undef = .pointer (some ⟨w21.heap.size, 0, none⟩) := hI.at 13 (by kernel_rfl)
        obtain ⟨c0, c1, c2, _⟩ := (KK0 W hI.glob).1.kk.cells4 (g := w21.heap.size) (c := y) (by simp)
        exact ⟨hI.wants rfl (hd 36 rfl) rfl (fun _ h => h), mkC y, by go_simp, rfl⟩
      · refine StepR.pure rfl rfl hnb (fun W => Below.refl _ W) (hkp 38) fun L a W hI hk hd => ?_
        have e6 : a.tmps[6]?.getD undef = .pointer (some ⟨w.heap.size + 1, 0, none⟩) := hI.at 6 (by kernel_rfl)
        obtain ⟨c0, c1, _⟩ := (KK0 W hI.glob).1.dot2 (g := w.heap.size + 1) (r := r) (s := s) (by simp)
        exact ⟨hI.wants rfl (hd 36 rfl) rfl (fun _ h => h), .agg #[.int .i64 r, .int .i64 s], by go_simp, rfl⟩
      · refine StepR.call rfl rfl hnb (hkp 39) fun L a W hI hk hd => ?_
        obtain ⟨_, e174, rfl⟩ := hI.get 37 174 (hd 37 rfl) rfl
        obtain ⟨_, e175, rfl⟩ := hI.get 38 175 (hd 38 rfl) rfl
        refine ⟨hI.wants rfl (hd 36 rfl) rfl (fun _ h => h), 22, #[mkC y, .agg #[.int .i64 r, .int .i64 s]], by go_simp, (delFresh y r s false W ((KK0 W hI.glob).1.kk.ok (g := w21.heap.size) (c := y) (by simp)) HYK.out HFS.out.2).mono ?_⟩
        rintro e W' ⟨rfl, hb⟩
        exact ⟨_, rfl, hb, rfl⟩
      · refine StepR.pure rfl rfl hnb (fun W => Below.refl _ W) (hkp 40) fun L a W hI hk hd => ?_
        obtain ⟨_, e173, rfl⟩ := hI.get 36 173 (hd 36 rfl) rfl
        obtain ⟨_, e176, rfl⟩ := hI.get 39 176 (hd 39 rfl) rfl
        exact ⟨rfl, .bool false, by go_simp, rfl⟩
    · intro a w51 L hL hI
      have kv : a.eval (.tmp 177) = .bool false := by
        obtain ⟨_, e, rfl⟩ := hI.get 40 177 (hL 40 (by decide)) rfl
        rw [eval_tmp]; exact e
      have K51 := Lib.hid (KK0 w51 hI.glob).1
      have hbb : Below w50.heap.size w50 w51 := hI.glob
      replace HI := Lib.hid (HI.out.below hbb)
      replace HOK := Lib.hid (HOK.out.below hbb)
      replace HW := Lib.hid (HW.out.below hbb)
      replace HH := Lib.hid (HH.out.below hbb)
      rw [hI.frame]
      simp only [List.filterMap, List.foldl]
      rw [kv]
      generalize a.eval (.tmp 137) = v137
      generalize a.eval (.tmp 138) = v138
      generalize a.eval (.tmp 139) = v139
      generalize a.eval (.tmp 140) = v140
      generalize a.eval (.tmp 141) = v141
      generalize a.eval (.tmp 142) = v142
      generalize a.eval (.tmp 143) = v143
      generalize a.eval (.tmp 144) = v144
      generalize a.eval (.tmp 145) = v145
      generalize a.eval (.tmp 146) = v146
      generalize a.eval (.tmp 147) = v147
      generalize a.eval (.tmp 148) = v148
      generalize a.eval (.tmp 149) = v149
      generalize a.eval (.tmp 150) = v150
      generalize a.eval (.tmp 151) = v151
      generalize a.eval (.tmp 152) = v152
      generalize a.eval (.tmp 153) = v153
      generalize a.eval (.tmp 154) = v154
      generalize a.eval (.tmp 155) = v155
      generalize a.eval (.tmp 156) = v156
      generalize a.eval (.tmp 157) = v157
      generalize a.eval (.tmp 158) = v158
      generalize a.eval (.tmp 159) = v159
      generalize a.eval (.tmp 160) = v160
      generalize a.eval (.tmp 161) = v161
      generalize a.eval (.tmp 162) = v162
      generalize a.eval (.tmp 163) = v163
      generalize a.eval (.tmp 164) = v164
      generalize a.eval (.tmp 165) = v165
      generalize a.eval (.tmp 166) = v166
      generalize a.eval (.tmp 167) = v167
      generalize a.eval (.tmp 168) = v168
      generalize a.eval (.tmp 169) = v169
      generalize a.eval (.tmp 170) = v170
      generalize a.eval (.tmp 171) = v171
      generalize a.eval (.tmp 172) = v172
      generalize a.eval (.tmp 173) = v173
      generalize a.eval (.tmp 174) = v174
      generalize a.eval (.tmp 175) = v175
      generalize a.eval (.tmp 176) = v176
      clear hL hI KK0 hkp kv hbb hA hl1 hgm hc0 hc1 hi1 K50
      simp only [List.setIfInBounds_toArray, List.set_cons_succ, List.set_cons_zero]
      obtain ⟨x52a, x52b, x52c, x52l⟩ := K51.out.kk.cells4 (g := w.heap.size) (c := c) (by simp)
      obtain ⟨x53a, x53b, x53c, x53l⟩ := K51.out.kk.cells4 (g := w3.heap.size) (c := x) (by simp)
      obtain ⟨x54a, x54b, x54c, x54l⟩ := K51.out.kk.cells4 (g := w21.heap.size) (c := y) (by simp)
      obtain ⟨x55a, x55b, x55c, x55l⟩ := K51.out.kk.cells4 (g := w22.heap.size) (c := z) (by simp)
      obtain ⟨x56a, x56b, x56l⟩ := K51.out.dot2 (g := w.heap.size + 1) (r := r) (s := s) (by simp)
      have ew0 := HW.out.cell0
      have ew1 := HW.out.cell1
      have ewl := HW.out.lt
      have io0 := HI.out.cell0
      have io1 := HI.out.cell1
      have iol := HI.out.lt
      have HPO := Lib.hid (show putN (its c.xs) o1.it = (insN (remN (its c.xs) nm) (nm, [newM c.ca (r, s) q]), 0) from by rw [HO1.out]; exact put_one HE.out)
      have HOL := Lib.hid (show o1.nm.length ≤ 1000 ∧ o1.ms.length ≤ 100 from ⟨by rw [show o1.nm = nm from congrArg Prod.fst HO1.out]; exact hn1.out, by rw [HO1L.out]; omega⟩)
      go_wp2_with fail
      refine (itPut_h c.i c.xs o1 _ 0 _ (K51.out.kk.ok (g := w.heap.size) (c := c) (by simp)).2.2 HOK.out HFD.out.k.1 HOL.out.1 HOL.out.2 HPO.out).mono ?_
      rintro e w52 ⟨⟨v, zs, rfl, hz, ho⟩, hb⟩
      have K52 := Lib.hid (show KKE w [(w.heap.size, c), (w3.heap.size, x), (w21.heap.size, y), (w22.heap.size, z)] [(w.heap.size + 1, r, s)] w52 from K51.out.next hb)
      replace HW := Lib.hid (HW.out.below hb)
      replace HH := Lib.hid (HH.out.below hb)
      have HZS := Lib.hid hz
      have HVZ := Lib.hid ho.holds
      clear hb hz ho K51 HI HOK x52a x52b x52c x52l x53a x53b x53c x53l x54a x54b x54c x54l x55a x55b x55c x55l x56a x56b x56l ew0 ew1 ewl io0 io1 iol
      obtain ⟨x57a, x57b, x57c, x57l⟩ := K52.out.kk.cells4 (g := w.heap.size) (c := c) (by simp)
      obtain ⟨x58a, x58b, x58c, x58l⟩ := K52.out.kk.cells4 (g := w3.heap.size) (c := x) (by simp)
      obtain ⟨x59a, x59b, x59c, x59l⟩ := K52.out.kk.cells4 (g := w21.heap.size) (c := y) (by simp)
      obtain ⟨x60a, x60b, x60c, x60l⟩ := K52.out.kk.cells4 (g := w22.heap.size) (c := z) (by simp)
      obtain ⟨x61a, x61b, x61l⟩ := K52.out.dot2 (g := w.heap.size + 1) (r := r) (s := s) (by simp)
      have ew0 := HW.out.cell0
      have ew1 := HW.out.cell1
      have ewl := HW.out.lt
      have HZL := Lib.hid (show zs.length ≤ 100000 from by rw [← its_len, HZS.out, ← HJ1.out, its_len]; exact SizeK.small SY.out (by omega))
      obtain ⟨A5, c5, e5, _⟩ := id HVZ.out
      generalize zs.length = l5 at e5
      subst e5
      go_wp2_with fail
      refine (itEqual_h y.i (.slice A5 l5 c5) y.xs zs true _ (K52.out.kk.ok (g := w21.heap.size) (c := y) (by simp)).2.2 HVZ.out (SizeK.small SY.out (by omega)) HZL.out (decide_eq_true (HJ1.out.trans HZS.out.symm))).mono ?_
      rintro e w53 ⟨rfl, hb⟩
      have K53 := Lib.hid (show KKE w [(w.heap.size, c), (w3.heap.size, x), (w21.heap.size, y), (w22.heap.size, z)] [(w.heap.size + 1, r, s)] w53 from K52.out.next hb)
      replace HW := Lib.hid (HW.out.below hb)
      replace HH := Lib.hid (HH.out.below hb)
      replace HVZ := Lib.hid (HVZ.out.below hb)
      clear hb K52 x57a x57b x57c x57l x58a x58b x58c x58l x59a x59b x59c x59l x60a x60b x60c x60l x61a x61b x61l ew0 ew1 ewl
      obtain ⟨x62a, x62b, x62c, x62l⟩ := K53.out.kk.cells4 (g := w.heap.size) (c := c) (by simp)
      obtain ⟨x63a, x63b, x63c, x63l⟩ := K53.out.kk.cells4 (g := w3.heap.size) (c := x) (by simp)
      obtain ⟨x64a, x64b, x64c, x64l⟩ := K53.out.kk.cells4 (g := w21.heap.size) (c := y) (by simp)
      obtain ⟨x65a, x65b, x65c, x65l⟩ := K53.out.kk.cells4 (g := w22.heap.size) (c := z) (by simp)
      obtain ⟨x66a, x66b, x66l⟩ := K53.out.dot2 (g := w.heap.size + 1) (r := r) (s := s) (by simp)
      have ew0 := HW.out.cell0
      have ew1 := HW.out.cell1
      have ewl := HW.out.lt
      go_wp2_with fail
      refine (ref3Equal (.agg #[y.v, y.l]) (.agg #[.slice A4 us.length n4, .slice B4 rs.length m4]) y.vs y.ls us rs true _ (K53.out.kk.ok (g := w21.heap.size) (c := y) (by simp)).ctx HH.out (by rw [HJ2.out.1, HJ2.out.2]; simp)).mono ?_
      rintro e w54 ⟨rfl, hb⟩
      have K54 := Lib.hid (show KKE w [(w.heap.size, c), (w3.heap.size, x), (w21.heap.size, y), (w22.heap.size, z)] [(w.heap.size + 1, r, s)] w54 from K53.out.next hb)
      replace HW := Lib.hid (HW.out.below hb)
      replace HH := Lib.hid (HH.out.below hb)
      replace HVZ := Lib.hid (HVZ.out.below hb)
      clear hb K53 x62a x62b x62c x62l x63a x63b x63c x63l x64a x64b x64c x64l x65a x65b x65c x65l x66a x66b x66l ew0 ew1 ewl
      obtain ⟨x67a, x67b, x67c, x67l⟩ := K54.out.kk.cells4 (g := w.heap.size) (c := c) (by simp)
      obtain ⟨x68a, x68b, x68c, x68l⟩ := K54.out.kk.cells4 (g := w3.heap.size) (c := x) (by simp)
      obtain ⟨x69a, x69b, x69c, x69l⟩ := K54.out.kk.cells4 (g := w21.heap.size) (c := y) (by simp)
      obtain ⟨x70a, x70b, x70c, x70l⟩ := K54.out.kk.cells4 (g := w22.heap.size) (c := z) (by simp)
      obtain ⟨x71a, x71b, x71l⟩ := K54.out.dot2 (g := w.heap.size + 1) (r := r) (s := s) (by simp)
      go_wp2_with fail
      refine (HKN.out _).mono ?_
      rintro e wk ⟨rfl, hb⟩
      have KC := Lib.hid (below_trans K54.out.kk.bel hb)
      clear hb K54 x67a x67b x67c x67l x68a x68b x68c x68l x69a x69b x69c x69l x70a x70b x70c x70l x71a x71b x71l
      go_wp2_with fail
      go_ret
      exact OneB.bool rfl KC.out
  · have h1n : ¬ (e1 : Int) = 0 := by omega
    go_enter Tryz.func8, Tryz.ntmps8
    go_upto_region 1 with fail
    generalize World.alloc (World.alloc w _) _ = w2 at K0 ⊢
    obtain ⟨x1a, x1b, x1c, x1l⟩ := K0.out.kk.cells4 (g := w.heap.size) (c := c) (by simp)
    obtain ⟨x2a, x2b, x2l⟩ := K0.out.dot2 (g := w.heap.size + 1) (r := r) (s := s) (by simp)
    go_wp2_with fail
    refine (lawLight10 c true _ (K0.out.kk.ok (g := w.heap.size) (c := c) (by simp)) HL.out).mono ?_
    rintro e w3 ⟨rfl, hb⟩
    have K1 := Lib.hid (show KKE w [(w.heap.size, c)] [(w.heap.size + 1, r, s)] w3 from K0.out.next hb)
    clear hb K0 x1a x1b x1c x1l x2a x2b x2l
    obtain ⟨x3a, x3b, x3c, x3l⟩ := K1.out.kk.cells4 (g := w.heap.size) (c := c) (by simp)
    obtain ⟨x4a, x4b, x4l⟩ := K1.out.dot2 (g := w.heap.size + 1) (r := r) (s := s) (by simp)
    have KY := Lib.hid (show KYE w [(w.heap.size, c)] [(w.heap.size + 1, r, s)] (w3.heap.size) (w3.alloc (.cells #[.slice none 0 0, .slice none 0 0, .slice none 0 0] 28)) from KYE.new K1.out (by simp))
    clear K1
    go_wp2_with fail
    refine (HB.out _ (KY.out.k.kk.ok (g := w.heap.size) (c := c) (by simp))).mono ?_
    rintro e w4 ⟨⟨x, rfl, hz, ho⟩, hb⟩
    have KZ := Lib.hid (KY.out.next hb)
    have Hx := Lib.hid hz
    have hK := (show KKE w [(w.heap.size, c), (w3.heap.size, x)] [(w.heap.size + 1, r, s)] (((w4.setCell ⟨w3.heap.size, 0, none⟩ x.v).setCell ⟨w3.heap.size, 1, none⟩ x.l).setCell ⟨w3.heap.size, 2, none⟩ x.i) from KZ.out.fill x ho (fun p hp => by simp only [List.mem_cons, List.not_mem_nil, or_false] at hp; rcases hp with rfl; (show _ ≠ _; dsimp only; have := KZ.out.k.kk.bel.size; omega)) (fun p hp => by simp only [List.mem_cons, List.not_mem_nil, or_false] at hp; rcases hp with rfl; (show _ ≠ _; dsimp only; omega)))
    obtain ⟨b0, b1, b2, bf0, bf1, bf2, bl⟩ := KZ.out.ycells
    clear hb hz ho KY x3a x3b x3c x3l x4a x4b x4l
    have KZK := Lib.hid KZ.out.k
    obtain ⟨x5a, x5b, x5c, x5l⟩ := KZK.out.kk.cells4 (g := w.heap.size) (c := c) (by simp)
    obtain ⟨x6a, x6b, x6l⟩ := KZK.out.dot2 (g := w.heap.size + 1) (r := r) (s := s) (by simp)
    clear KZ KZK
    go_upto_region 14 with fail
    generalize World.setCell (World.setCell (World.setCell w4 _ _) _ _) _ _ = W7 at hK ⊢
    have K20 := Lib.hid (show KKE w [(w.heap.size, c), (w3.heap.size, x)] [(w.heap.size + 1, r, s)] W7 from hK)
    clear hK x5a x5b x5c x5l x6a x6b x6l b0 b1 b2 bf0 bf1 bf2 bl
    obtain ⟨x7a, x7b, x7c, x7l⟩ := K20.out.kk.cells4 (g := w.heap.size) (c := c) (by simp)
    obtain ⟨x8a, x8b, x8c, x8l⟩ := K20.out.kk.cells4 (g := w3.heap.size) (c := x) (by simp)
    obtain ⟨x9a, x9b, x9l⟩ := K20.out.dot2 (g := w.heap.size + 1) (r := r) (s := s) (by simp)
    have HX0 := Lib.hid (show x.ca = zeroK from by rw [Hx.out]; exact putD_f (by rw [HE.out]; exact h1))
    go_wp2_with fail
    refine (DO.out.emp x true _ (K20.out.kk.ok (g := w3.heap.size) (c := x) (by simp)) (small_zero HX0.out) (empty_zero HX0.out)).mono ?_
    rintro e w21 ⟨rfl, hb⟩
    have K21 := Lib.hid (show KKE w [(w.heap.size, c), (w3.heap.size, x)] [(w.heap.size + 1, r, s)] w21 from K20.out.next hb)
    clear hb K20 x7a x7b x7c x7l x8a x8b x8c x8l x9a x9b x9l
    obtain ⟨x10a, x10b, x10c, x10l⟩ := K21.out.kk.cells4 (g := w.heap.size) (c := c) (by simp)
    obtain ⟨x11a, x11b, x11c, x11l⟩ := K21.out.kk.cells4 (g := w3.heap.size) (c := x) (by simp)
    obtain ⟨x12a, x12b, x12l⟩ := K21.out.dot2 (g := w.heap.size + 1) (r := r) (s := s) (by simp)
    go_wp2_with fail
    refine (HKN.out _).mono ?_
    rintro e wk ⟨rfl, hb⟩
    have KC := Lib.hid (below_trans K21.out.kk.bel hb)
    clear hb K21 x10a x10b x10c x10l x11a x11b x11c x11l x12a x12b x12l
    go_wp2_with fail
    go_ret
    exact OneB.bool rfl KC.out

end

end Go.Proofs.YtiaehpdgpjhecaaGreat
