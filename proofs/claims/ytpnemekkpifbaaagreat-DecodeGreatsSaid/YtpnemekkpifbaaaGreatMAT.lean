/- Several texts in one: DecH. -/
import Derived.Test.YtpnemekkpifbaaaGreatMAS
namespace Go.Proofs.YtpnemekkpifbaaaGreat

section
open Go.RowKit

theorem set4c {W : World} {b : Nat} {x y u z v : Value} {t : TypeId} (h : W.heap[b]? = some (.cells #[x, y, u, z] t (0, 0))) : (W.setCell ⟨b, 2, none⟩ v).heap[b]? = some (.cells #[x, y, v, z] t (0, 0)) := by
  show (W.heap.modify b _)[b]? = _
  rw [Array.getElem?_modify, if_pos rfl, h]
  rfl
theorem set4d {W : World} {b : Nat} {x y u z v : Value} {t : TypeId} (h : W.heap[b]? = some (.cells #[x, y, u, z] t (0, 0))) : (W.setCell ⟨b, 3, none⟩ v).heap[b]? = some (.cells #[x, y, u, v] t (0, 0)) := by
  show (W.heap.modify b _)[b]? = _
  rw [Array.getElem?_modify, if_pos rfl, h]
  rfl
def PreQ (xs : List UInt8) (w : World) (e : Ending) (w' : World) : Prop :=
  (∃ (z : CaV) (m : Nat) (b : Bool), e = .returned (.tuple #[mkC z, .int .i64 (m : Nat), .bool b]) ∧ CaOK w' z ∧ (pC xs = if b then some (z.ca, m) else none) ∧ (b = false → z = nilC ∧ m = 0)) ∧ Below w.heap.size w w'

set_option maxRecDepth 100000 in
set_option maxHeartbeats 8000000 in
theorem refPrefix15 (A : Option Addr) (xs : List UInt8) (n : Nat) (w : World) (hx : HoldsB w (.slice A xs.length n) xs) (hm : xs.length ≤ 1000000) :
    Calls Tryz.prog 21 #[.slice A xs.length n] w (PreQ xs w) := by
  obtain ⟨tm0, him, hzm0, hzm1, hzm2⟩ := info_parts infoM
  obtain ⟨ti0, hii, hzi0, hzi1, hzi2⟩ := info_parts infoIt
  have hrow := bytesAt_of15 hx
  have hcap := caps_of15 hx
  have h1 : Below w.heap.size w (w.alloc (.cells #[.slice none 0 0, .slice none 0 0, .slice none 0 0] 31)) := (Below.refl _ _).alloc (Nat.le_refl _) _
  have h2 : Below w.heap.size w ((w.alloc (.cells #[.slice none 0 0, .slice none 0 0, .slice none 0 0] 31)).alloc (.cells #[.slice A xs.length n, .int .i64 0, .bool false] 83)) := h1.alloc h1.size _
  have hn0 : ((w.alloc (.cells #[.slice none 0 0, .slice none 0 0, .slice none 0 0] 31)).alloc (.cells #[.slice A xs.length n, .int .i64 0, .bool false] 83)).heap[w.heap.size]? = some (.cells #[.slice none 0 0, .slice none 0 0, .slice none 0 0] 31 (0, 0)) := by
    refine (((Below.refl _ (w.alloc (.cells #[.slice none 0 0, .slice none 0 0, .slice none 0 0] 31))).alloc (Nat.le_refl _) _).block _ ?_).trans (heap_alloc_new w _)
    simp
  have hn1 : ((w.alloc (.cells #[.slice none 0 0, .slice none 0 0, .slice none 0 0] 31)).alloc (.cells #[.slice A xs.length n, .int .i64 0, .bool false] 83)).heap[w.heap.size + 1]? = some (.cells #[.slice A xs.length n, .int .i64 0, .bool false] 83 (0, 0)) := by
    have := heap_alloc_new (w.alloc (.cells #[.slice none 0 0, .slice none 0 0, .slice none 0 0] 31)) (.cells #[.slice A xs.length n, .int .i64 0, .bool false] 83)
    simpa using this
  have HI := Lib.hid (show In15 ((w.alloc (.cells #[.slice none 0 0, .slice none 0 0, .slice none 0 0] 31)).alloc (.cells #[.slice A xs.length n, .int .i64 0, .bool false] 83)) (w.heap.size + 1) A n xs (some 0) from
    ⟨⟨0, false, hn1, Nat.zero_le _, rfl⟩, ⟨w, hrow, by omega, h2⟩, hm, hcap.1, hcap.2⟩)
  have HC := Lib.hid (refContextIn15 (w.heap.size + 1) A n xs (some 0) _ HI.out)
  have HB2 := Lib.hid h2
  have HN0 := Lib.hid hn0
  clear hx hrow h1 h2 hn0 hn1
  go_enter Tryz.func21, Tryz.ntmps21
  go_wp2_with fail
  have HSZ := Lib.hid (show ((w.alloc (.cells #[.slice none 0 0, .slice none 0 0, .slice none 0 0] 31)).alloc (.cells #[.slice A xs.length n, .int .i64 0, .bool false] 83)).heap.size = w.heap.size + 2 from by simp)
  generalize World.alloc (World.alloc w _) _ = w2 at *
  refine HC.out.mono ?_
  rintro e w3 ⟨⟨vs, ls, D, E, d, k, rfl, ho1, ho2, hv, hl, hs⟩, h3, hc3⟩
  have HS := Lib.hid hs
  have hsz := HSZ.out
  have hal : Below w3.heap.size w3 (w3.alloc (.cells #[.slice D vs.length d, .slice E ls.length k, .slice none 0 0] 31)) := (Below.refl _ _).alloc (Nat.le_refl _) _
  have hc0 := hc3.size
  have HP := Lib.hid (show PfI w (w3.alloc (.cells #[.slice D vs.length d, .slice E ls.length k, .slice none 0 0] 31)) w3.heap.size ⟨D, d, vs, E, k, ls, none, 0, []⟩ from
    ⟨(below_step HB2.out (hc3.below (B := w.heap.size) (by omega) fun j e => by omega)).alloc (by omega) _, by omega, heap_alloc_new w3 _, (hal.block _ (by omega)).trans ((hc3.block _ (by omega) (by omega)).trans HN0.out), (RowX.chg ⟨ho1, ho2⟩ (.of_below (S := fun _ => False) hal) fun _ _ e => e).le (by omega), World.ownsRow_nil _ _ _ _, fun y hy => by cases hy⟩)
  have HI1 := Lib.hid (h3.below hal)
  have HN1 := Lib.hid (refNum15 (w.heap.size + 1) A n xs (nx pX xs (some 0)) _ HI1.out)
  have HLE := Lib.hid (nx_le pN_le h3.le)
  clear ho1 ho2 hv hl hs h3 hc3 HC HI hal HB2 HN0 hc0
  generalize hb : w3.heap.size = b at HP
  go_wp2_with fail
  clear hb
  generalize World.alloc w3 _ = w4 at *
  refine HN1.out.mono ?_
  rintro e w5 ⟨rfl, h5, hc5⟩
  have HI5 := Lib.hid h5
  have HP5 := Lib.hid (HP.out.call hc5)
  have HT := Lib.hid (valN_top xs (nx pX xs (some 0)))
  obtain ⟨N, hN⟩ : ∃ N, valN xs (nx pX xs (some 0)) = N := ⟨_, rfl⟩
  rw [hN]
  have HN := Lib.hid hN
  rw [hN] at HT
  clear h5 hc5 HN1 HP HI1 hN
  go_wp2_with fail
  go_loopw [7] (fun v wr => ∃ (q m : Nat) (z : CaV) (s' : Option Nat), v = .int .u64 (m : Nat) ∧ m + q = N ∧ Hid (RepInv pI xs (nx pN xs (nx pX xs (some 0))) q (its z.xs) s') ∧ Hid (In15 wr (w.heap.size + 1) A n xs s') ∧ Hid (PfI w wr b z) ∧ Hid (z.vs = vs ∧ z.ls = ls) ∧ Hid (q ≤ xs.length + 1)) (fun v _ => (intOf v).toNat)
  case atStart => exact ⟨0, N, ⟨D, d, vs, E, k, ls, none, 0, []⟩, _, rfl, by omega, (show RepInv pI xs (nx pN xs (nx pX xs (some 0))) 0 (its []) (nx pN xs (nx pX xs (some 0))) from RepInv.zero _ _ _), HI5, HP5, ⟨rfl, rfl⟩, Nat.zero_le _⟩
  case round =>
    clear HI5 HP5
    obtain ⟨q, m, z, s', rfl, hmq, hR, hI, hP, hvl, hq⟩ := hrel
    have hmt : m < 18446744073709551616 := by have := HT.out; omega
    have FINR := Lib.hid (show q = N ∨ s' = none → pC xs = s'.map fun j => (z.ca, j) from fun he => by
      obtain ⟨e1, e2⟩ := hR.out.fin (s := nx pX xs (some 0)) (by rw [HN.out]; omega) (by rw [HN.out]; exact he)
      have e3 : nx pC xs (some 0) = s' := by rw [pC, nx_and]; exact e1
      have e4 := nx_st pC xs (some 0)
      rw [e3, st_at0] at e4
      cases h0 : pC xs with
      | none => rw [h0] at e4; rw [e4]; rfl
      | some v =>
        rw [h0] at e4
        subst e4
        have h1 : st pC xs (some 0) = some (v.1, v.2) := by rw [st_at0, h0]
        obtain ⟨j1, h2, h3⟩ := st_and_some h1
        have h4 := HS.out _ _ h2
        have h5 := e2 _ _ (by rw [nx_of h2]; exact h3)
        show some v = some (((z.vs, z.ls), its z.xs), v.2)
        rw [hvl.out.1, hvl.out.2, h4, h5])
    cases s' with
    | none =>
      by_cases hm0 : m = 0
      · subst hm0
        obtain ⟨i, h1, _⟩ := hI.out.bad
        have c2 := cellW (i := 2) h1
        have hr : pC xs = none := FINR.out (.inr rfl)
        have hP' := hP.out.fin (.slice none 0 0) (.slice none 0 0) (.slice none 0 0)
        have hres := hP.out.res
        have r0 := cellW (i := 0) hres
        have r1 := cellW (i := 1) hres
        have r2 := cellW (i := 2) hres
        have f0 := frozenW (i := 0) hres
        have f1 := frozenW (i := 1) hres
        have f2 := frozenW (i := 2) hres
        have hset := set3 hres (.slice none 0 0) (.slice none 0 0) (.slice none 0 0)
        have s0 := cellW (i := 0) hset
        have s1 := cellW (i := 1) hset
        have s2 := cellW (i := 2) hset
        have HF := Lib.hid (show PreQ xs w (.returned (.tuple #[mkC nilC, .int .i64 (0 : Nat), .bool false])) (((wr.setCell ⟨w.heap.size, 0, none⟩ (.slice none 0 0)).setCell ⟨w.heap.size, 1, none⟩ (.slice none 0 0)).setCell ⟨w.heap.size, 2, none⟩ (.slice none 0 0)) from ⟨⟨nilC, 0, false, rfl, nilC_ok _, hr, fun _ => ⟨rfl, rfl⟩⟩, hP'.2⟩)
        clear h1 hr hP' hres hset FINR hR hI hP hvl hq
        go_wp2_with fail
        exact bodyPost_ret (v := .tuple #[.agg #[.slice none 0 0, .slice none 0 0, .slice none 0 0], .int .i64 0, .bool false]) (by simp [results, Tryz.results21, go_sem, s0, s1, s2]) rfl HF.out
      · have i0 : (0 : Int) < (m : Int) := by omega
        obtain ⟨i, h1, _⟩ := hI.out.bad
        have c2 := cellW (i := 2) h1
        have hr : pC xs = none := FINR.out (.inr rfl)
        have hP' := hP.out.fin (.slice none 0 0) (.slice none 0 0) (.slice none 0 0)
        have hres := hP.out.res
        have r0 := cellW (i := 0) hres
        have r1 := cellW (i := 1) hres
        have r2 := cellW (i := 2) hres
        have f0 := frozenW (i := 0) hres
        have f1 := frozenW (i := 1) hres
        have f2 := frozenW (i := 2) hres
        have hset := set3 hres (.slice none 0 0) (.slice none 0 0) (.slice none 0 0)
        have s0 := cellW (i := 0) hset
        have s1 := cellW (i := 1) hset
        have s2 := cellW (i := 2) hset
        have HF := Lib.hid (show PreQ xs w (.returned (.tuple #[mkC nilC, .int .i64 (0 : Nat), .bool false])) (((wr.setCell ⟨w.heap.size, 0, none⟩ (.slice none 0 0)).setCell ⟨w.heap.size, 1, none⟩ (.slice none 0 0)).setCell ⟨w.heap.size, 2, none⟩ (.slice none 0 0)) from ⟨⟨nilC, 0, false, rfl, nilC_ok _, hr, fun _ => ⟨rfl, rfl⟩⟩, hP'.2⟩)
        clear h1 hr hP' hres hset FINR hR hI hP hvl hq
        go_wp2_with fail
        exact bodyPost_ret (v := .tuple #[.agg #[.slice none 0 0, .slice none 0 0, .slice none 0 0], .int .i64 0, .bool false]) (by simp [results, Tryz.results21, go_sem, s0, s1, s2]) rfl HF.out
    | some j =>
      by_cases hm0 : m = 0
      · subst hm0
        obtain ⟨h1, _⟩ := hI.out.good
        have c1 := cellW (i := 1) h1
        have c2 := cellW (i := 2) h1
        have hr : pC xs = some (z.ca, j) := FINR.out (.inl (by omega))
        have hres := hP.out.res
        have b0 := cellW (i := 0) hP.out.box
        have b1 := cellW (i := 1) hP.out.box
        have b2 := cellW (i := 2) hP.out.box
        have HPF := Lib.hid fun W (hb : BelW wr W) => (hP.out.call (Chg.of_below hb)).fin z.v z.l z.i
        have HR0 := Lib.hid hr
        have HRES := Lib.hid hres
        clear h1 hr hres FINR hR hI hP hvl hq
        have r0 := cellW (i := 0) HRES.out
        have r1 := cellW (i := 1) HRES.out
        have r2 := cellW (i := 2) HRES.out
        have f0 := frozenW (i := 0) HRES.out
        have f1 := frozenW (i := 1) HRES.out
        have f2 := frozenW (i := 2) HRES.out
        go_wp2_with fail
        go_region
        have hset := set3 HRES.out z.v z.l z.i
        have s0 : (((wr.setCell ⟨w.heap.size, 0, none⟩ z.v).setCell ⟨w.heap.size, 1, none⟩ z.l).setCell ⟨w.heap.size, 2, none⟩ z.i).drew.cell? ⟨w.heap.size, 0, none⟩ = some z.v := cellW (i := 0) hset
        have s1 : (((wr.setCell ⟨w.heap.size, 0, none⟩ z.v).setCell ⟨w.heap.size, 1, none⟩ z.l).setCell ⟨w.heap.size, 2, none⟩ z.i).drew.cell? ⟨w.heap.size, 1, none⟩ = some z.l := cellW (i := 1) hset
        have s2 : (((wr.setCell ⟨w.heap.size, 0, none⟩ z.v).setCell ⟨w.heap.size, 1, none⟩ z.l).setCell ⟨w.heap.size, 2, none⟩ z.i).drew.cell? ⟨w.heap.size, 2, none⟩ = some z.i := cellW (i := 2) hset
        have hfin := HPF.out wr (Below.refl _ _)
        have HF := Lib.hid (show PreQ xs w (.returned (.tuple #[mkC z, .int .i64 (j : Nat), .bool true])) (((wr.setCell ⟨w.heap.size, 0, none⟩ z.v).setCell ⟨w.heap.size, 1, none⟩ z.l).setCell ⟨w.heap.size, 2, none⟩ z.i).drew from ⟨⟨z, j, true, rfl, hfin.1.below (Below.refl _ _).drew, HR0.out, fun h => by cases h⟩, hfin.2.drew⟩)
        clear hset hfin r0 r1 r2 f0 f1 f2 b0 b1 b2 c1 c2
        generalize World.drew _ = w9 at *
        go_wp2_with fail
        exact bodyPost_ret (v := .tuple #[mkC z, .int .i64 (j : Nat), .bool true]) (by simp [results, Tryz.results21, go_sem, s0, s1, s2]) rfl HF.out
      · have i0 : (0 : Int) < (m : Int) := by omega
        obtain ⟨h1, _⟩ := hI.out.good
        have c2 := cellW (i := 2) h1
        have HTX := Lib.hid (refText15 (w.heap.size + 1) A n xs (some j) wr hI.out)
        have HQL := Lib.hid (show q ≤ xs.length from Nat.le_trans (hR.out.short pI_short HLE.out).1 (hR.out.short pI_short HLE.out).2)
        clear FINR h1
        go_wp2_with fail
        refine HTX.out.mono ?_
        rintro e wa ⟨⟨nm, rfl, hnl, hval⟩, ha, hca⟩
        have HVAL := Lib.hid hval
        have HPa := Lib.hid (hP.out.call hca)
        have hal : Below wa.heap.size wa (wa.alloc (.cells #[.string ⟨nm.toArray⟩, .slice none 0 0] 57)) := (Below.refl _ _).alloc (Nat.le_refl _) _
        have hnew : (wa.alloc (.cells #[.string ⟨nm.toArray⟩, .slice none 0 0] 57)).heap[wa.heap.size]? = some (.cells #[.string ⟨nm.toArray⟩, .slice none 0 0] 57 (0, 0)) := heap_alloc_new wa _
        have HIa := Lib.hid (ha.below hal)
        have HNa := Lib.hid (refNum15 (w.heap.size + 1) A n xs _ _ HIa.out)
        have HALa := Lib.hid hal
        have HNEWa := Lib.hid hnew
        have HSZa := Lib.hid (show w.heap.size + 1 < wa.heap.size from ha.lt)
        have HLE2 := Lib.hid (nx_le pN_le ha.le)
        clear hval ha hca hP c2 HTX hal hnew hI
        go_wp2_with fail
        have hszb : (wa.alloc (.cells #[.string ⟨nm.toArray⟩, .slice none 0 0] 57)).heap.size = wa.heap.size + 1 := by simp
        have HSZb := Lib.hid hszb
        clear hszb
        generalize World.alloc wa _ = wb at *
        refine HNa.out.mono ?_
        rintro e wc ⟨rfl, hc, hcc⟩
        have HIc := Lib.hid hc
        have HCc := Lib.hid (show Chg (fun k => k = w.heap.size + 1) wa wc from (Chg.of_below (S := fun k => k = w.heap.size + 1) HALa.out).trans hcc fun _ _ e => e)
        have HBc := Lib.hid (show wc.heap[wa.heap.size]? = some (.cells #[.string ⟨nm.toArray⟩, .slice none 0 0] 57 (0, 0)) from (hcc.block _ (by have := HSZb.out; omega) (by have := HSZa.out; omega)).trans HNEWa.out)
        have HSZc := Lib.hid (show wa.heap.size < wc.heap.size from by have := hcc.size; have := HSZb.out; omega)
        have HTc := Lib.hid (valN_top xs (nx pS xs (some j)))
        obtain ⟨N2, hN2⟩ : ∃ N2, valN xs (nx pS xs (some j)) = N2 := ⟨_, rfl⟩
        rw [hN2]
        have HN2 := Lib.hid hN2
        rw [hN2] at HTc
        clear hc hcc hN2 HNa HIa HALa HNEWa
        go_upto_block 2 with fail
        go_cut [9] (fun _ wx => ∃ (ms : List Mk) (M : Option Addr) (mc : Nat) (s2 : Option Nat), Hid (nx (pL pM) xs (nx pS xs (some j)) = s2 ∧ ∀ a j', st (pL pM) xs (nx pS xs (some j)) = some (a, j') → ms = a) ∧ Hid (In15 wx (w.heap.size + 1) A n xs s2) ∧ Hid (Chg (fun k => k = w.heap.size + 1) wa wx) ∧ Hid (wx.heap[wa.heap.size]? = some (.cells #[.string ⟨nm.toArray⟩, .slice M ms.length mc] 57 (0, 0))) ∧ Hid (RowM15 wx wa.heap.size (.slice M ms.length mc) ms) ∧ Hid (wa.heap.size < wx.heap.size) ∧ Hid (ms.length ≤ xs.length + 1))
        case first =>
          go_wp2_with fail
          go_loopw [9] (fun v wi => ∃ (r m2 : Nat) (ms : List Mk) (M : Option Addr) (mc : Nat) (s2 : Option Nat), v = .int .u64 (m2 : Nat) ∧ m2 + r = N2 ∧ Hid (RepInv pM xs (nx pN xs (nx pS xs (some j))) r ms s2) ∧ Hid (In15 wi (w.heap.size + 1) A n xs s2) ∧ Hid (Chg (fun k => k = w.heap.size + 1) wa wi) ∧ Hid (wi.heap[wa.heap.size]? = some (.cells #[.string ⟨nm.toArray⟩, .slice M ms.length mc] 57 (0, 0))) ∧ Hid (RowM15 wi wa.heap.size (.slice M ms.length mc) ms) ∧ Hid (wa.heap.size < wi.heap.size) ∧ Hid (r ≤ xs.length + 1)) (fun v _ => (intOf v).toNat)
          case atStart => exact ⟨0, N2, [], none, 0, _, rfl, by omega, RepInv.zero _ _ _, HIc, HCc, HBc, World.ownsRow_nil _ _ _ _, HSZc, Nat.zero_le _⟩
          case round =>
            clear HIc HCc HBc HSZc
            obtain ⟨r, m2, ms, M, mc, s2, rfl, hmr, hR2, hI2, hC2, hB2, hM2, hZ2, hr2⟩ := hrel
            have hmt2 : m2 < 18446744073709551616 := by have := HTc.out; omega
            have FIN2 := Lib.hid (show r = N2 ∨ s2 = none → ∃ (ms : List Mk) (M : Option Addr) (mc : Nat) (s2 : Option Nat), Hid (nx (pL pM) xs (nx pS xs (some j)) = s2 ∧ ∀ a j', st (pL pM) xs (nx pS xs (some j)) = some (a, j') → ms = a) ∧ Hid (In15 wr (w.heap.size + 1) A n xs s2) ∧ Hid (Chg (fun k => k = w.heap.size + 1) wa wr) ∧ Hid (wr.heap[wa.heap.size]? = some (.cells #[.string ⟨nm.toArray⟩, .slice M ms.length mc] 57 (0, 0))) ∧ Hid (RowM15 wr wa.heap.size (.slice M ms.length mc) ms) ∧ Hid (wa.heap.size < wr.heap.size) ∧ Hid (ms.length ≤ xs.length + 1) from fun he => by
              obtain ⟨e1, e2⟩ := hR2.out.fin (s := nx pS xs (some j)) (by rw [HN2.out]; omega) (by rw [HN2.out]; exact he)
              exact ⟨ms, M, mc, s2, ⟨e1, e2⟩, hI2, hC2, hB2, hM2, hZ2, by rw [hR2.out.len]; exact hr2.out⟩)
            by_cases hm0' : m2 = 0
            · subst hm0'
              have HF := Lib.hid (FIN2.out (.inl (by omega)))
              clear FIN2 hR2 hI2 hC2 hB2 hM2 hZ2 hr2 hmr
              go_wp2_with fail
              go_meet
              exact HF.out
            · have i1 : (0 : Int) < (m2 : Int) := by omega
              cases s2 with
              | none =>
                obtain ⟨i, h1, _⟩ := hI2.out.bad
                have c2 := cellW (i := 2) h1
                have HF := Lib.hid (FIN2.out (.inr rfl))
                clear FIN2 hR2 hI2 hC2 hB2 hM2 hZ2 hr2 hmr h1
                go_wp2_with fail
                go_meet
                exact HF.out
              | some j2 =>
                obtain ⟨h1, _⟩ := hI2.out.good
                have c2 := cellW (i := 2) h1
                have HDT := Lib.hid (refDot15 (w.heap.size + 1) A n xs (some j2) wr hI2.out)
                have HRL := Lib.hid (show r ≤ xs.length from Nat.le_trans (hR2.out.short pM_short HLE2.out).1 (hR2.out.short pM_short HLE2.out).2)
                have HLN := Lib.hid hR2.out.len
                clear FIN2 h1
                go_wp2_with fail
                refine HDT.out.mono ?_
                rintro e wd ⟨⟨⟨dr, dc⟩, rfl, hval⟩, hd, hcd⟩
                have HVD := Lib.hid hval
                have HCd := Lib.hid (hC2.out.trans hcd fun _ _ e => e)
                have HBd := Lib.hid (show wd.heap[wa.heap.size]? = some (.cells #[.string ⟨nm.toArray⟩, .slice M ms.length mc] 57 (0, 0)) from (hcd.block _ hZ2.out (by have := HSZa.out; omega)).trans hB2.out)
                have HMd := Lib.hid (show RowM15 wd wa.heap.size (.slice M ms.length mc) ms from own_chg hM2.out hcd fun b hb e => by have := HSZa.out; omega)
                have HZd := Lib.hid (show wa.heap.size < wd.heap.size from Nat.lt_of_lt_of_le hZ2.out hcd.size)
                have hal : Below wd.heap.size wd (wd.alloc (.cells #[.int .i64 dr, .int .i64 dc, .int .i64 0, .int .u64 0] 54)) := (Below.refl _ _).alloc (Nat.le_refl _) _
                have hnew : (wd.alloc (.cells #[.int .i64 dr, .int .i64 dc, .int .i64 0, .int .u64 0] 54)).heap[wd.heap.size]? = some (.cells #[.int .i64 dr, .int .i64 dc, .int .i64 0, .int .u64 0] 54 (0, 0)) := heap_alloc_new wd _
                have HId := Lib.hid (hd.below hal)
                have HNd := Lib.hid (refNum15 (w.heap.size + 1) A n xs _ _ HId.out)
                have HALd := Lib.hid hal
                have HNEWd := Lib.hid hnew
                have hszd : (wd.alloc (.cells #[.int .i64 dr, .int .i64 dc, .int .i64 0, .int .u64 0] 54)).heap.size = wd.heap.size + 1 := by simp
                have HSZd := Lib.hid hszd
                clear hval hd hcd hC2 hB2 hM2 hZ2 hI2 c2 HDT hal hnew hszd
                go_wp2_with fail
                generalize World.alloc wd _ = we at *
                refine HNd.out.mono ?_
                rintro e wf ⟨rfl, hf, hcf⟩
                have HCf := Lib.hid (show Chg (fun k => k = w.heap.size + 1) wd wf from (Chg.of_below (S := fun k => k = w.heap.size + 1) HALd.out).trans hcf fun _ _ e => e)
                have hbf : wf.heap[wd.heap.size]? = some (.cells #[.int .i64 dr, .int .i64 dc, .int .i64 0, .int .u64 0] 54 (0, 0)) := (hcf.block _ (by have := HSZd.out; omega) (by have := HSZa.out; have := HZd.out; omega)).trans HNEWd.out
                have f2 := frozenW (i := 2) hbf
                have g2 : wf.cell? ⟨wd.heap.size, 2, none⟩ = some (.int .i64 0) := cellW hbf
                have hset := set4c (v := .int .i64 (toI (valN xs (nx pD xs (some j2))))) hbf
                have hcs := chg_set wf wd.heap.size 2 (.int .i64 (toI (valN xs (nx pD xs (some j2)))))
                have HIf := Lib.hid (hf.chg hcs (by have := HSZa.out; have := HZd.out; omega) fun k e => by have := HSZa.out; have := HZd.out; omega)
                have HNf := Lib.hid (refNum15 (w.heap.size + 1) A n xs _ _ HIf.out)
                have HCg := Lib.hid (show Chg (fun k => k = w.heap.size + 1) wd (wf.setCell ⟨wd.heap.size, 2, none⟩ (.int .i64 (toI (valN xs (nx pD xs (some j2)))))) from HCf.out.trans hcs fun i hi e => by omega)
                have HSETf := Lib.hid hset
                have HSZf := Lib.hid (show wd.heap.size < (wf.setCell ⟨wd.heap.size, 2, none⟩ (.int .i64 (toI (valN xs (nx pD xs (some j2)))))).heap.size from (Array.getElem?_eq_some_iff.1 hset).1)
                unfold toI at HIf HNf HCg HSETf HSZf
                clear hf hcf hbf hset hcs HCf HIf HNd HId HALd HNEWd HSZd
                go_wp2_with fail
                generalize World.setCell wf _ _ = wg at *
                refine HNf.out.mono ?_
                rintro e wh ⟨rfl, hh, hch⟩
                have hbh := (hch.block _ HSZf.out (by have := HSZa.out; have := HZd.out; omega)).trans HSETf.out
                have f3 := frozenW (i := 3) hbh
                have g3 := cellW (i := 3) hbh
                have hset := set4d (v := .int .u64 (valN xs (nx pN xs (nx pD xs (some j2))) : Nat)) hbh
                have hcs := chg_set wh wd.heap.size 3 (.int .u64 (valN xs (nx pN xs (nx pD xs (some j2))) : Nat))
                have HIh := Lib.hid (hh.chg hcs (by have := HSZa.out; have := HZd.out; omega) fun k e => by have := HSZa.out; have := HZd.out; omega)
                have HCh := Lib.hid (show Chg (fun k => k = w.heap.size + 1) wd (wh.setCell ⟨wd.heap.size, 3, none⟩ (.int .u64 (valN xs (nx pN xs (nx pD xs (some j2))) : Nat))) from (HCg.out.trans hch fun _ _ e => e).trans hcs fun i hi e => by omega)
                have HSETh := Lib.hid hset
                have HMh := Lib.hid (own_chg HMd.out HCh.out fun b hb e => by have := HSZa.out; omega)
                have HBh := Lib.hid ((HCh.out.block _ HZd.out (by have := HSZa.out; omega)).trans HBd.out)
                have p0 := cellW (i := 0) hset
                have p1 := cellW (i := 1) hset
                have p2 := cellW (i := 2) hset
                have p3 := cellW (i := 3) hset
                have k1 := cellW (i := 1) HBh.out
                have HRR := Lib.hid (hR2.out.succ (⟨dr, dc, toI (valN xs (nx pD xs (some j2))), valN xs (nx pN xs (nx pD xs (some j2)))⟩ : Mk) fun a j e => st_pM HVD.out e)
                unfold toI at HRR
                rw [nx_pM] at HRR
                clear hh hch hbh hset hcs HNf HSETf HSZf HCg f2 g2 HMd HBd
                go_upto_region 13 with fail
                generalize World.setCell wh _ _ = wk at *
                go_wp2_with (at_builtin; refine wpList_append_sl _ encM 4 rfl (.tmp 57) (.tmp 59) 55 rfl encM_len (by omega) encM_one wa.heap.size 54 tm0 _ 32 Tryz.underlying55 him hzm0 hzm1 hzm2 rfl (.slice M ms.length mc) ms rfl (HMh.out.alloc _) _ 1 _ [⟨dr, dc, wrap64 (valN xs (nx pD xs (some j2))), valN xs (nx pN xs (nx pD xs (some j2)))⟩] rfl rfl (SlAt.one (heap_alloc_new _ _)) (by simp [maxLen]; have := HRL.out; have := HLN.out; omega) (by simp; have := HRL.out; have := HLN.out; omega) (by have := HCh.out.size; have := HZd.out; simp at *; omega) ?_; intro v3 w3 hown3 hg3 hat3; obtain ⟨M3, mc3, rfl, _⟩ := SlAt.of_own encM_len hown3; have hbk := (hg3.block wa.heap.size (by have := HCh.out.size; have := HZd.out; simp; omega) (fun e => ownNe15 HMh.out HBh.out (by decide) e.symm)).trans ((((Below.refl _ _).alloc (Nat.le_refl _) _).block _ (by have := HCh.out.size; have := HZd.out; omega)).trans HBh.out); have n1 := cellW (i := 1) hbk; have m1 := frozenW (i := 1) hbk)
                have hx3 := set2b (y := .slice M3 (ms.length + 1) mc3) hbk
                have hcs := chg_set w3 wa.heap.size 1 (.slice M3 (ms.length + 1) mc3)
                have hgr : Chg (fun b => wa.heap.size ≤ b) wk (w3.setCell ⟨wa.heap.size, 1, none⟩ (.slice M3 (ms.length + 1) mc3)) := ((Chg.of_below ((Below.refl _ _).alloc (Nat.le_refl _) _)).trans (Chg.of_grown (S := fun b => wa.heap.size ≤ b) hg3 fun b e => (HMh.out.lt b e).1) fun _ _ e => e).trans hcs fun _ _ e => by omega
                have HI9 := Lib.hid (HIh.out.chg hgr (by have := HSZa.out; omega) fun b e => by have := HSZa.out; omega)
                have HC9 := Lib.hid ((HCd.out.trans HCh.out fun _ _ e => e).trans hgr fun b hb e => by omega)
                have hlen : (ms ++ [(⟨dr, dc, wrap64 (valN xs (nx pD xs (some j2))), valN xs (nx pN xs (nx pD xs (some j2)))⟩ : Mk)]).length = ms.length + 1 := by simp
                rw [hlen] at hown3
                have HM9 := Lib.hid (show RowM15 (w3.setCell ⟨wa.heap.size, 1, none⟩ (.slice M3 (ms.length + 1) mc3)) wa.heap.size (.slice M3 (ms ++ [(⟨dr, dc, wrap64 (valN xs (nx pD xs (some j2))), valN xs (nx pN xs (nx pD xs (some j2)))⟩ : Mk)]).length mc3) (ms ++ [(⟨dr, dc, wrap64 (valN xs (nx pD xs (some j2))), valN xs (nx pN xs (nx pD xs (some j2)))⟩ : Mk)]) from by
                  show World.ownsRow _ _ _ _ _ _ _
                  rw [hlen]
                  exact ownKeep15 hown3 hcs fun i hi e => ownNe15 hown3 hbk (by decide) (e ▸ hi))
                have HB9 := Lib.hid (show (w3.setCell ⟨wa.heap.size, 1, none⟩ (.slice M3 (ms.length + 1) mc3)).heap[wa.heap.size]? = some (.cells #[.string ⟨nm.toArray⟩, .slice M3 (ms ++ [(⟨dr, dc, wrap64 (valN xs (nx pD xs (some j2))), valN xs (nx pN xs (nx pD xs (some j2)))⟩ : Mk)]).length mc3] 57 (0, 0)) from by rw [hlen]; exact hx3)
                have HZ9 := Lib.hid (Array.getElem?_eq_some_iff.1 hx3).1
                clear hx3 hcs hgr hown3 hg3 hat3 hbk n1 m1
                go_roundw
                case rel => exact ⟨r + 1, m2 - 1, _, M3, mc3, _, by go_num, by omega, HRR, HI9, HC9, HB9, HM9, HZ9, (show r + 1 ≤ xs.length + 1 from by have := HRL.out; omega)⟩
                case measure => simp [intOf]; omega
        case rest =>
          obtain ⟨ms, M, mc, s2, hS2, hI2, hC2, hB2, hM2, hZ2, hL2⟩ := hcut
          have HPc := Lib.hid (HPa.out.call hC2.out)
          have i0' := cellW (i := 0) hB2.out
          have i1' := cellW (i := 1) hB2.out
          obtain ⟨_, _, z2, _⟩ := HPc.out.cells
          have HRR := Lib.hid (show RepInv pI xs (nx pN xs (nx pX xs (some 0))) (q + 1) (its (z.xs ++ [⟨nm, M, mc, ms⟩])) s2 from by
            have h := hR.out.succ ((nm, ms) : It) fun a j' e => st_pI HVAL.out hS2.out.2 e
            rw [nx_pI, hS2.out.1] at h
            simpa [its, ItV.it] using h)
          have HQ2 := Lib.hid (show z.xs.length = q from by have := hR.out.len; simpa using this)
          have HMM := Lib.hid (show RowM15 wc (w.heap.size + 2) (slV15 ⟨nm, M, mc, ms⟩) ms from Go.Joins.ownsRow_le hM2.out (by have := HSZa.out; omega))
          clear hM2 hS2 hR HCc HBc HIc
          go_wp2_with (at_builtin; refine wpList_append_sl _ encIt 2 rfl (.tmp 63) (.tmp 65) 29 rfl encIt_len (by omega) encIt_one (w.heap.size + 2) 57 ti0 _ 40 Tryz.underlying29 hii hzi0 hzi1 hzi2 rfl z.i z.xs rfl (HPc.out.ri.alloc _) _ 1 _ [⟨nm, M, mc, ms⟩] rfl rfl (SlAt.one (heap_alloc_new _ _)) (by simp [maxLen]; have := HQL.out; have := HQ2.out; omega) (by simp; have := HQL.out; have := HQ2.out; omega) (by have := HPc.out.lt; have := HPc.out.hb; simp; omega) ?_; intro v3 w3 hown3 hg3 hat3; obtain ⟨A3, n3, rfl, _⟩ := SlAt.of_own encIt_len hown3; have hbk := (hg3.block b (by have := HPc.out.lt; simp; omega) (fun e => ownNe15 HPc.out.ri HPc.out.box (by decide) e.symm)).trans ((((Below.refl _ _).alloc (Nat.le_refl _) _).block _ HPc.out.lt).trans HPc.out.box); have n2 := cellW (i := 2) hbk; have m2 := frozenW (i := 2) hbk)
          have hlen : (z.xs ++ [(⟨nm, M, mc, ms⟩ : ItV)]).length = z.xs.length + 1 := by simp
          rw [hlen] at hown3
          have hal : Chg (fun k => k = w.heap.size + 1) wc (wc.alloc (.cells #[.string ⟨nm.toArray⟩, .slice M ms.length mc] 57)) := .of_below ((Below.refl _ _).alloc (Nat.le_refl _) _)
          obtain ⟨hp9, hc9⟩ := (HPc.out.call hal).add ⟨nm, M, mc, ms⟩ (A := A3) (n := n3) (by show World.ownsRow _ _ _ _ _ _ _; rw [hlen]; exact hown3) hg3 (own_chg HMM.out hal fun b hb e => by omega)
          have HP9 := Lib.hid hp9
          have HI9 := Lib.hid ((hI2.out.below ((Below.refl _ _).alloc (Nat.le_refl _) _)).chg hc9 (by omega) fun k e => by omega)
          clear hlen hal hp9 hc9 hown3 hg3 hat3 hbk n2 m2
          go_roundw
          case rel => exact ⟨q + 1, m - 1, _, s2, by go_num, by omega, HRR, HI9, HP9, hvl, (show q + 1 ≤ xs.length + 1 from by have := HQL.out; omega)⟩
          case measure => simp [intOf]; omega

end

end Go.Proofs.YtpnemekkpifbaaaGreat
