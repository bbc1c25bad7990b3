/- Several texts in one: CanVC, CanVE, CanV. -/
import Derived.Test.YtgdnibahiomneaaGreatMAZ
import Derived.Test.YtgdnibahiomneaaGreatMBB
import Derived.Test.YtgdnibahiomneaaGreatMAY
namespace Go.Proofs.YtgdnibahiomneaaGreat

section
open Go.RowKit

theorem dotsAt_of {w : World} {A : Option Addr} {n k : Nat} {xs : List (Int × Int)} (h : Holds w (.slice A n k) xs) : DotsAt w A xs := by
  obtain ⟨A', c', e, h1, _⟩ := h
  cases e; exact h1
theorem bytesAt_of {w : World} {A : Option Addr} {n k : Nat} {xs : List UInt8} (h : HoldsB w (.slice A n k) xs) : BytesAt w A xs := by
  obtain ⟨A', c', e, h1, _⟩ := h
  cases e; exact h1
theorem itemsAt_of {w : World} {A : Option Addr} {n k : Nat} {xs : List ItV} (h : HoldsX w (.slice A n k) xs) : ItemsAt w A xs := by
  obtain ⟨A', c', e, h1, _⟩ := h
  cases e; exact h1
theorem Fit14.fits {c : CaV} (h : Fit14 c.ca) : FitsK c := by
  obtain ⟨h1, h2, h3, h4, h5⟩ := h
  have h1 : c.vs.length ≤ 400 := h1
  have h2 : c.ls.length ≤ 400 := h2
  have h3 : (its c.xs).length ≤ 300 := h3
  have h4 : (dotsI (its c.xs)).length ≤ 1000 := h4
  refine ⟨⟨by simpa [its] using h3, fun x hx => ?_⟩, by omega⟩
  have h6 := h5 x.it (List.mem_map.2 ⟨x, hx, rfl⟩)
  have h7 : x.nm.length ≤ 100 := h6.1
  have h8 : x.ms.length ≤ 40 := h6.2.1
  exact ⟨by omega, by omega⟩
theorem wr_new (w : World) : Wr (w.alloc (.cells #[.slice none 0 0] 64)) w.heap.size (.slice none 0 0) [] := ⟨heap_alloc_new w _, World.ownsRow_nil _ _ _ _, by intro h; cases h⟩

set_option maxHeartbeats 1000000 in
theorem cnWritten_f (A : Option Addr) (n m : Nat) (c : CaV) (w : World) (hc : CaOK w c) (hf : Fit14 c.ca) (hb : validK c.ca = false) :
    Calls Tryz.prog 36 #[.slice A n m, mkC c] w fun e w' => e = .returned (.tuple #[.pointer none, .int .i64 2]) ∧ Below w.heap.size w w' := by
  have K0 := Lib.hid (KK.new w c hc)
  have HV := Lib.hid (caValid c false _ (K0.out.ok (g := w.heap.size) (c := c) (by simp)) hf.fits hb)
  have q0 := (K0.out.blk (g := w.heap.size) (c := c) (by simp)).cell0
  have q1 := (K0.out.blk (g := w.heap.size) (c := c) (by simp)).cell1
  have q2 := (K0.out.blk (g := w.heap.size) (c := c) (by simp)).cell2
  clear hc hf hb
  go_enter Tryz.func36, Tryz.ntmps36
  go_wp2_with fail
  refine HV.out.mono ?_
  rintro e w2 ⟨rfl, hb2⟩
  have HB := Lib.hid (below_trans K0.out.bel hb2)
  clear hb2 q0 q1 q2
  go_wp2_with fail
  go_ret2
  exact ⟨rfl, HB.out⟩

set_option maxRecDepth 100000 in
set_option maxHeartbeats 4000000 in
theorem cnWritten_t (A : Option Addr) (xs : List UInt8) (n : Nat) (c : CaV) (w : World) (hx : HoldsB w (.slice A xs.length n) xs) (hl : xs.length ≤ 1000) (hc : CaOK w c) (hf : Fit14 c.ca) (hb : validK c.ca = true) :
    Calls Tryz.prog 36 #[.slice A xs.length n, mkC c] w fun e w' => (∃ g v, e = .returned (.tuple #[.pointer (some ⟨g, 0, none⟩), .int .i64 0]) ∧ Wr w' g v (xs ++ byC c.ca)) ∧ Below w.heap.size w w' := by
  have K0 := Lib.hid (KK.new w c hc)
  have HV := Lib.hid (caValid c true _ (K0.out.ok (g := w.heap.size) (c := c) (by simp)) hf.fits hb)
  have q0 := (K0.out.blk (g := w.heap.size) (c := c) (by simp)).cell0
  have q1 := (K0.out.blk (g := w.heap.size) (c := c) (by simp)).cell1
  have q2 := (K0.out.blk (g := w.heap.size) (c := c) (by simp)).cell2
  have hlen := byC_len14 hf
  have HX := Lib.hid hx
  obtain ⟨V, nv, vs, L, nl, ls, I, ni, zs⟩ := c
  have hlen2 : (byX (vs, ls)).length + (byL byI (its zs)).length ≤ 600000 := by have := hlen; unfold byC at this; rw [List.length_append] at this; exact this
  have HF1 := Lib.hid (show vs.length ≤ 400 ∧ ls.length ≤ 400 from ⟨hf.1, hf.2.1⟩)
  have HFL := Lib.hid (show zs.length ≤ 300 from by have h3 : (its zs).length ≤ 300 := hf.2.2.1; simpa [its] using h3)
  have HFI := Lib.hid (show ∀ x ∈ zs, x.nm.length ≤ 100 ∧ x.ms.length ≤ 40 ∧ ∀ m ∈ x.ms, m.t < 18446744073709551616 from fun x hx => hf.2.2.2.2 x.it (List.mem_map.2 ⟨x, hx, rfl⟩))
  have HLEN := Lib.hid hlen2
  have hz300 := HFL.out
  have hil : (its zs).length = zs.length := by simp [its]
  have HIL := Lib.hid hil
  clear hc hf hb hx hlen hlen2 hil
  go_enter Tryz.func36, Tryz.ntmps36
  go_wp2_with fail
  refine HV.out.mono ?_
  rintro e w2 ⟨rfl, hb2⟩
  have K2 := Lib.hid (K0.out.next hb2)
  have hblk : BlkC w2 w.heap.size ⟨V, nv, vs, L, nl, ls, I, ni, zs⟩ := K2.out.blk (by simp)
  have hg0 : w.heap.size < w2.heap.size := hblk.lt
  have x0 : w2.cell? ⟨w.heap.size, 0, none⟩ = some (.slice V vs.length nv) := hblk.cell0
  have x1 : w2.cell? ⟨w.heap.size, 1, none⟩ = some (.slice L ls.length nl) := hblk.cell1
  have x2 : w2.cell? ⟨w.heap.size, 2, none⟩ = some (.slice I zs.length ni) := hblk.cell2
  have ho : CaOK w2 ⟨V, nv, vs, L, nl, ls, I, ni, zs⟩ := K2.out.ok (g := w.heap.size) (by simp)
  have HDV := Lib.hid (show DotsAt w2 V vs from dotsAt_of ho.1)
  have HDL := Lib.hid (show DotsAt w2 L ls from dotsAt_of ho.2.1)
  have HIX := Lib.hid (show ItemsAt w2 I zs from itemsAt_of ho.2.2)
  have HC0 := Lib.hid (x0)
  have HC1 := Lib.hid (x1)
  have HC2 := Lib.hid (x2)
  have hal : Below w2.heap.size w2 (w2.alloc (.cells #[.slice none 0 0] 64)) := (Below.refl _ _).alloc (Nat.le_refl _) _
  have HF := Lib.hid (show FarW w2 w2.heap.size (.slice none 0 0) (w2.alloc (.cells #[.slice none 0 0] 64)) from ⟨hal, Nat.le_refl _, by intro k h; cases h⟩)
  have HP := Lib.hid (putAt w2.heap.size (.slice none 0 0) [] xs A n _ (wr_new w2) (bytesAt_of (HX.out.below (below_trans K2.out.bel hal))) (by simp; omega))
  clear hb2 q0 q1 q2 x0 x1 x2 ho hal hblk
  go_wp2_with fail
  refine HP.out.mono ?_
  rintro e w4 ⟨rfl, h4⟩
  rw [List.nil_append] at h4
  obtain ⟨v4, W4, N4, _, F4⟩ := h4.on
  have F4' := F4.out _ HF.out
  have y0 : w4.cell? ⟨w.heap.size, 0, none⟩ = some (.slice V vs.length nv) := (F4'.bel.cell (p := ⟨w.heap.size, 0, none⟩) hg0).trans HC0.out
  have y1 : w4.cell? ⟨w.heap.size, 1, none⟩ = some (.slice L ls.length nl) := (F4'.bel.cell (p := ⟨w.heap.size, 1, none⟩) hg0).trans HC1.out
  have HC := Lib.hid (cnContext w2.heap.size v4 xs V L vs ls nv nl w2 w4 W4.out F4' HDV.out HDL.out (by have := HLEN.out; omega) (by have := HF1.out.1; omega) (by have := HF1.out.2; omega))
  have HF4 := Lib.hid F4'
  clear h4 F4' F4 HP
  go_wp2_with fail
  refine HC.out.mono ?_
  rintro e w5 ⟨rfl, h5⟩
  obtain ⟨v5, W5, N5, _, F5⟩ := h5.on
  have F5' := F5.out _ HF4.out
  have y2 : w5.cell? ⟨w.heap.size, 2, none⟩ = some (.slice I zs.length ni) := (F5'.bel.cell (p := ⟨w.heap.size, 2, none⟩) hg0).trans HC2.out
  have HN := Lib.hid (cnNum w2.heap.size v5 _ (zs.length : Int) w5 W5.out (by have := HLEN.out; rw [List.length_append]; omega))
  have HF5 := Lib.hid F5'
  clear h5 F5' F5 HC y0 y1
  go_wp2_with fail
  refine HN.out.mono ?_
  rintro e w6 ⟨rfl, h6⟩
  obtain ⟨v6, _, _, _, F6⟩ := h6.on
  have z2 : w6.cell? ⟨w.heap.size, 2, none⟩ = some (.slice I zs.length ni) := ((F6.out _ HF5.out).bel.cell (p := ⟨w.heap.size, 2, none⟩) hg0).trans HC2.out
  have H6 := Lib.hid (show Wrote (w2.alloc (.cells #[.slice none 0 0] 64)) w2.heap.size (.slice none 0 0) ((xs ++ byX (vs, ls)) ++ (enc (its zs).length ++ ((its zs).take 0).flatMap byI)) w6 from by have := N4.out _ _ (N5.out _ _ h6); rw [byZ_nat (by omega)] at this; rw [HIL.out]; simpa using this)
  clear h6 F6 HN y2 N4 N5 W4 W5 HF4 HF5
  go_wp2_with fail
  go_loopw [28] (fun i wr => ∃ k : Nat, k ≤ zs.length ∧ i = .int .i64 k ∧ Hid (Wrote (w2.alloc (.cells #[.slice none 0 0] 64)) w2.heap.size (.slice none 0 0) ((xs ++ byX (vs, ls)) ++ (enc (its zs).length ++ ((its zs).take k).flatMap byI)) wr)) (fun i _ => zs.length - (intOf i).toNat)
  case atStart => exact ⟨0, by omega, rfl, H6⟩
  case round =>
    clear H6 z2
    obtain ⟨k, hk, rfl, HW⟩ := hrel
    obtain ⟨v7, W7, N7, _, F7⟩ := HW.out.on
    have F8 := F7.out _ HF.out
    by_cases hlt : k < zs.length
    · have i0 : (k : Int) < (zs.length : Int) := by omega
      obtain ⟨b, off, x, rfl, hbl, hx1, _, hc0, hc1, hok⟩ := HIX.out.cells (j := k) hlt
      have c0 := (F8.bel.cell (p := ⟨b, off + k * 2, none⟩) hbl).trans hc0
      have c1 := (F8.bel.cell (p := ⟨b, off + k * 2 + 1, none⟩) hbl).trans hc1
      have hfi := HFI.out x (List.mem_of_getElem? hx1)
      have hit := its_at hx1
      have hle : ((xs ++ byX (vs, ls)) ++ (enc (its zs).length ++ ((its zs).take k).flatMap byI)).length ≤ 700000 := byL_take_le (by have := HLEN.out; rw [List.length_append]; omega)
      have hle2 : ((xs ++ byX (vs, ls)) ++ (enc (its zs).length ++ ((its zs).take (k + 1)).flatMap byI)).length ≤ 700000 := byL_take_le (by have := HLEN.out; rw [List.length_append]; omega)
      have hstep : (xs ++ byX (vs, ls)) ++ (enc (its zs).length ++ ((its zs).take (k + 1)).flatMap byI) = ((xs ++ byX (vs, ls)) ++ (enc (its zs).length ++ ((its zs).take k).flatMap byI)) ++ byI x.it := by rw [take_snoc hit, List.flatMap_append]; simp
      rw [hstep, List.length_append] at hle2
      have HSTEP := Lib.hid hstep
      generalize (xs ++ byX (vs, ls)) ++ (enc (its zs).length ++ ((its zs).take k).flatMap byI) = acc at W7 N7 HSTEP hle hle2
      obtain ⟨nm, A', cA, ms⟩ := x
      have hal : Below wr.heap.size wr (wr.alloc (.cells #[.string ⟨nm.toArray⟩, .slice A' ms.length cA] 56)) := (Below.refl _ _).alloc (Nat.le_refl _) _
      have HI := Lib.hid (cnItem w2.heap.size v7 acc ⟨nm, A', cA, ms⟩ w2 _ (W7.out.below hal) (F8.next hal) hok (by have := hfi.1; omega) (by have := hfi.2.1; omega) hfi.2.2 hle2)
      have HAL := Lib.hid hal
      have hbw : b < wr.heap.size := Nat.lt_of_lt_of_le hbl F8.bel.size
      clear hc0 hc1 hx1 F8 F7 hbl hal hle hle2 hstep hfi hok hit HW
      go_wp2_with fail
      refine HI.out.mono ?_
      rintro e w9 ⟨rfl, h9⟩
      have H9 := Lib.hid (N7.out _ _ (Wrote.before HAL.out h9))
      clear h9 c0 c1 HI
      go_wp2_with fail
      go_roundw
      case rel => exact ⟨k + 1, by omega, by go_num, by rw [HSTEP.out]; exact H9⟩
      case measure => simp [intOf]; omega
    · obtain rfl : k = zs.length := by omega
      have i0 : ¬ (zs.length : Int) < (zs.length : Int) := by omega
      have HE := Lib.hid (show Wr wr w2.heap.size v7 (xs ++ byC ((vs, ls), its zs)) from by
        have := W7.out
        rw [← HIL.out, List.take_length, List.append_assoc] at this
        exact this)
      have HB := Lib.hid (below_trans K2.out.bel F8.bel)
      clear hlt hk F8 F7 W7
      go_wp2_with fail
      go_ret2
      exact ⟨⟨_, rfl, _, HE.out⟩, HB.out⟩
end

section
open Go.RowKit

theorem BytR.before {w w1 w2 : World} {zs : List UInt8} {n : Int} {e : Ending} (hb : Below w.heap.size w w1) (h : BytR zs n w1 e w2) : BytR zs n w e w2 := by
  obtain ⟨⟨A, c, h1, h2⟩, h3⟩ := h
  exact ⟨⟨A, c, h1, Go.Joins.ownsRow_le h2 hb.size⟩, below_trans hb h3⟩
theorem BytR.of_own {w w2 : World} {zs : List UInt8} {n : Int} {v : Value} (h : w2.ownsRow w.heap.size 5 1 v zs.length (cellsOf encB zs)) (hb : Below w.heap.size w w2) : BytR zs n w (.returned (.tuple #[v, .int .i64 n])) w2 := by
  have h0 := h
  obtain ⟨A, c, rfl, _⟩ := SlAt.of_own encB_len h
  exact ⟨⟨A, c, rfl, h0⟩, hb⟩
theorem BytR.none {w w2 : World} {n : Int} (hb : Below w.heap.size w w2) : BytR [] n w (.returned (.tuple #[.slice none 0 0, .int .i64 n])) w2 := BytR.of_own (World.ownsRow_nil _ _ _ _) hb

set_option maxHeartbeats 1000000 in
theorem cnAppend (A : Option Addr) (xs : List UInt8) (n : Nat) (c : CaV) (w : World) (hx : HoldsB w (.slice A xs.length n) xs) (hl : xs.length ≤ 1000) (hc : CaOK w c) (hf : Fit14 c.ca) :
    Calls Tryz.prog 18 #[.slice A xs.length n, mkC c] w (BytR (appV xs c.ca) (errV (validK c.ca)) w) := by
  have K0 := Lib.hid (KK.new w c hc)
  have hlen := byC_len14 hf
  have q0 := (K0.out.blk (g := w.heap.size) (c := c) (by simp)).cell0
  have q1 := (K0.out.blk (g := w.heap.size) (c := c) (by simp)).cell1
  have q2 := (K0.out.blk (g := w.heap.size) (c := c) (by simp)).cell2
  unfold appV errV
  cases hb : validK c.ca with
  | false =>
    have HW := Lib.hid (cnWritten_f A xs.length n c _ (K0.out.ok (g := w.heap.size) (c := c) (by simp)) hf hb)
    have HN := Lib.hid fun W => bytesNil W
    clear hx hl hc hf hlen hb
    go_enter Tryz.func18, Tryz.ntmps18
    go_wp2_with fail
    refine HW.out.mono ?_
    rintro e w2 ⟨rfl, hb2⟩
    have HB := Lib.hid (below_trans K0.out.bel hb2)
    clear hb2 q0 q1 q2
    go_wp2_with fail
    refine (HN.out _).mono ?_
    rintro e w3 ⟨rfl, rfl⟩
    go_wp2_with fail
    go_ret2
    exact BytR.none HB.out
  | true =>
    have HW := Lib.hid (cnWritten_t A xs n c _ (hx.below K0.out.bel) hl (K0.out.ok (g := w.heap.size) (c := c) (by simp)) hf hb)
    clear hx hc hf hb
    go_enter Tryz.func18, Tryz.ntmps18
    go_wp2_with fail
    refine HW.out.mono ?_
    rintro e w2 ⟨⟨g, v, rfl, hw⟩, hb2⟩
    have HB := Lib.hid (below_trans K0.out.bel hb2)
    have HS := Lib.hid (bytesAt g v _ w2 hw (by rw [List.length_append]; omega))
    clear hb2 q0 q1 q2 hw
    go_wp2_with fail
    refine HS.out.mono ?_
    rintro e w3 ⟨⟨v3, rfl, ho⟩, hb3⟩
    have HO := Lib.hid (Go.Joins.ownsRow_le ho HB.out.size)
    have HB3 := Lib.hid (below_trans HB.out hb3)
    clear ho hb3
    go_wp2_with fail
    go_ret2
    exact BytR.of_own HO.out HB3.out

theorem cnEncode (c : CaV) (w : World) (hc : CaOK w c) (hf : Fit14 c.ca) :
    Calls Tryz.prog 22 #[mkC c] w (BytR (encV c.ca) (errV (validK c.ca)) w) := by
  have K0 := Lib.hid (KK.new w c hc)
  have q0 := (K0.out.blk (g := w.heap.size) (c := c) (by simp)).cell0
  have q1 := (K0.out.blk (g := w.heap.size) (c := c) (by simp)).cell1
  have q2 := (K0.out.blk (g := w.heap.size) (c := c) (by simp)).cell2
  have he : appV [] c.ca = encV c.ca := rfl
  have HA := Lib.hid (cnAppend none [] 0 c _ (HoldsB.nil _) (by simp) (K0.out.ok (g := w.heap.size) (c := c) (by simp)) hf)
  rw [he] at HA
  generalize errV (validK c.ca) = r at *
  clear hc hf he
  go_enter Tryz.func22, Tryz.ntmps22
  go_wp2_with fail
  refine HA.out.mono ?_
  rintro e w2 ⟨⟨A, n, rfl, ho⟩, hb2⟩
  have HO := Lib.hid (Go.Joins.ownsRow_le ho K0.out.bel.size)
  have HB := Lib.hid (below_trans K0.out.bel hb2)
  clear ho hb2 q0 q1 q2
  go_wp2_with fail
  go_ret2
  exact BytR.of_own HO.out HB.out

set_option maxHeartbeats 1000000 in
theorem cnSize (c : CaV) (w : World) (hc : CaOK w c) (hf : Fit14 c.ca) :
    Calls Tryz.prog 19 #[mkC c] w (OneB (.tuple #[.int .i64 ((encV c.ca).length : Int), .int .i64 (errV (validK c.ca))]) w) := by
  have K0 := Lib.hid (KK.new w c hc)
  have q0 := (K0.out.blk (g := w.heap.size) (c := c) (by simp)).cell0
  have q1 := (K0.out.blk (g := w.heap.size) (c := c) (by simp)).cell1
  have q2 := (K0.out.blk (g := w.heap.size) (c := c) (by simp)).cell2
  unfold encV errV
  cases hb : validK c.ca with
  | false =>
    have HW := Lib.hid (cnWritten_f none 0 0 c _ (K0.out.ok (g := w.heap.size) (c := c) (by simp)) hf hb)
    have HN := Lib.hid fun W => lenNil W
    clear hc hf hb
    go_enter Tryz.func19, Tryz.ntmps19
    go_wp2_with fail
    refine HW.out.mono ?_
    rintro e w2 ⟨rfl, hb2⟩
    have HB := Lib.hid (below_trans K0.out.bel hb2)
    clear hb2 q0 q1 q2
    go_wp2_with fail
    refine (HN.out _).mono ?_
    rintro e w3 ⟨rfl, rfl⟩
    go_wp2_with fail
    go_ret2
    exact ⟨rfl, HB.out⟩
  | true =>
    have HW := Lib.hid (cnWritten_t none [] 0 c _ (HoldsB.nil _) (by simp) (K0.out.ok (g := w.heap.size) (c := c) (by simp)) hf hb)
    clear hc hf hb
    go_enter Tryz.func19, Tryz.ntmps19
    go_wp2_with fail
    refine HW.out.mono ?_
    rintro e w2 ⟨⟨g, v, rfl, hw⟩, hb2⟩
    have HB := Lib.hid (below_trans K0.out.bel hb2)
    have HS := Lib.hid (lenAt g v _ w2 hw)
    clear hb2 q0 q1 q2 hw
    go_wp2_with fail
    refine HS.out.mono ?_
    rintro e w3 ⟨rfl, rfl⟩
    go_wp2_with fail
    go_ret2
    exact ⟨rfl, HB.out⟩

set_option maxHeartbeats 1000000 in
theorem cnContextF (V L : Option Addr) (vs ls : List (Int × Int)) (n k : Nat) (w : World) (hv : Holds w (.slice V vs.length n) vs) (hl : Holds w (.slice L ls.length k) ls) (hm : vs.length ≤ 400) (hm2 : ls.length ≤ 400) :
    Calls Tryz.prog 11 #[.agg #[.slice V vs.length n, .slice L ls.length k]] w (BytR (conV vs ls) (errV (compC vs ls)) w) := by
  have hal : Below w.heap.size w (w.alloc (.cells #[.slice V vs.length n, .slice L ls.length k] 25)) := (Below.refl _ _).alloc (Nat.le_refl _) _
  have hnew : (w.alloc (.cells #[.slice V vs.length n, .slice L ls.length k] 25)).heap[w.heap.size]? = some (.cells #[.slice V vs.length n, .slice L ls.length k] 25 (0, 0)) := heap_alloc_new w _
  have q0 : (w.alloc (.cells #[.slice V vs.length n, .slice L ls.length k] 25)).cell? ⟨w.heap.size, 0, none⟩ = some (.slice V vs.length n) := cellW hnew
  have q1 : (w.alloc (.cells #[.slice V vs.length n, .slice L ls.length k] 25)).cell? ⟨w.heap.size, 1, none⟩ = some (.slice L ls.length k) := cellW hnew
  have HNEW := Lib.hid hnew
  have HLT := Lib.hid (Array.getElem?_eq_some_iff.1 hnew).1
  have HAL := Lib.hid hal
  have HV := Lib.hid (hv.below hal)
  have HL := Lib.hid (hl.below hal)
  have hlen := byX_len14 (c := (vs, ls)) hm hm2
  unfold conV errV
  cases hb : compC vs ls with
  | false =>
    have HC := Lib.hid (ctxIsCompact_o _ vs ls false _ (HoldsC.mk HV.out HL.out) (by omega) hb)
    clear hv hl hal hnew hb hlen
    go_enter Tryz.func11, Tryz.ntmps11
    go_wp2_with fail
    refine HC.out.mono ?_
    rintro e w2 ⟨rfl, hb2⟩
    have HB := Lib.hid (below_trans HAL.out hb2)
    clear hb2 q0 q1
    go_wp2_with fail
    go_ret2
    exact BytR.none HB.out
  | true =>
    have HC := Lib.hid (ctxIsCompact_o _ vs ls true _ (HoldsC.mk HV.out HL.out) (by omega) hb)
    clear hv hl hal hnew hb
    go_enter Tryz.func11, Tryz.ntmps11
    go_wp2_with fail
    refine HC.out.mono ?_
    rintro e w2 ⟨rfl, hb2⟩
    have HB := Lib.hid (below_trans HAL.out hb2)
    have hal2 : Below w2.heap.size w2 (w2.alloc (.cells #[.slice none 0 0] 64)) := (Below.refl _ _).alloc (Nat.le_refl _) _
    have hn3 : (w2.alloc (.cells #[.slice none 0 0] 64)).heap[w.heap.size]? = some (.cells #[.slice V vs.length n, .slice L ls.length k] 25 (0, 0)) := (hal2.block _ (Nat.lt_of_lt_of_le HLT.out hb2.size)).trans ((hb2.block _ HLT.out).trans HNEW.out)
    have y0 : (w2.alloc (.cells #[.slice none 0 0] 64)).cell? ⟨w.heap.size, 0, none⟩ = some (.slice V vs.length n) := cellW hn3
    have y1 : (w2.alloc (.cells #[.slice none 0 0] 64)).cell? ⟨w.heap.size, 1, none⟩ = some (.slice L ls.length k) := cellW hn3
    have HP := Lib.hid (cnContext w2.heap.size (.slice none 0 0) [] V L vs ls n k w2 _ (wr_new w2) ⟨hal2, Nat.le_refl _, by intro k h; cases h⟩ (dotsAt_of (HV.out.below hb2)) (dotsAt_of (HL.out.below hb2)) (by simp; omega) (by omega) (by omega))
    have HA2 := Lib.hid hal2
    have hgl : w.heap.size < w2.heap.size := Nat.lt_of_lt_of_le HLT.out hb2.size
    clear hb2 q0 q1 hal2 hn3
    go_wp2_with fail
    refine HP.out.mono ?_
    rintro e w4 ⟨rfl, h4⟩
    obtain ⟨v4, W4, _, _, F4⟩ := h4.on
    have F5 := F4.out w2 ⟨HA2.out, Nat.le_refl _, by intro k h; cases h⟩
    have HB4 := Lib.hid (below_trans HB.out F5.bel)
    rw [List.nil_append] at W4
    have HS := Lib.hid (bytesAt _ v4 _ w4 W4.out (by omega))
    clear h4 F4 F5 y0 y1 HP
    go_wp2_with fail
    refine HS.out.mono ?_
    rintro e w5 ⟨⟨v5, rfl, ho⟩, hb5⟩
    have HO := Lib.hid (Go.Joins.ownsRow_le ho HB4.out.size)
    have HB5 := Lib.hid (below_trans HB4.out hb5)
    clear ho hb5
    go_wp2_with fail
    go_ret2
    exact BytR.of_own HO.out HB5.out

theorem encV_t {c : Ca} (h : validK c = true) : encV c = byC c := by unfold encV; rw [if_pos h]
theorem errV_t : errV true = 0 := rfl
theorem errV_f : errV false = 2 := rfl

set_option maxHeartbeats 2000000 in
theorem cnCompare (c d : CaV) (w : World) (hc : CaOK w c) (hd : CaOK w d) (hf : Fit14 c.ca) (hf2 : Fit14 d.ca) :
    Calls Tryz.prog 23 #[mkC c, mkC d] w (OneB (.tuple #[.int .i64 (cmpV14 c.ca d.ca), .int .i64 (errV (validK c.ca && validK d.ca))]) w) := by
  have h1 : Below w.heap.size w (w.alloc (.cells #[c.v, c.l, c.i] 28)) := (Below.refl _ w).alloc (Nat.le_refl _) _
  have K0 := Lib.hid (KK.push (L := [(w.heap.size, c)]) (KK.new w c hc) d (hd.below h1) (w.heap.size + 1) (by simp))
  have HE := Lib.hid fun (W : World) (h : CaOK W c) => cnEncode c W h hf
  have HE2 := Lib.hid fun (W : World) (h : CaOK W d) => cnEncode d W h hf2
  have hlc := byC_len14 hf
  have hld := byC_len14 hf2
  unfold cmpV14
  clear h1 hc hd hf hf2
  cases hv : validK c.ca with
  | false =>
    rw [hv, errV_f] at HE
    rw [show (false && validK d.ca) = false from rfl, errV_f, if_neg (by simp)]
    clear hv
    go_enter Tryz.func23, Tryz.ntmps23
    go_wp2_with fail
    generalize World.alloc (World.alloc w _) _ = w2 at K0 ⊢
    obtain ⟨x0, x1, x2, y0, y1, y2, xl, yl, _⟩ := K0.out.sp2
    go_wp2_with fail
    refine (HE.out _ (K0.out.ok (g := w.heap.size) (by simp))).mono ?_
    rintro e1 w3 ⟨⟨A, n, rfl, _⟩, hb2⟩
    have HB := Lib.hid (below_trans K0.out.bel hb2)
    clear hb2 x0 x1 x2 y0 y1 y2 xl yl
    go_wp2_with fail
    go_ret2
    exact ⟨rfl, HB.out⟩
  | true =>
    rw [hv, errV_t, encV_t hv] at HE
    rw [show (true && validK d.ca) = validK d.ca from rfl]
    clear hv
    cases hv2 : validK d.ca with
    | false =>
      rw [hv2, errV_f] at HE2
      rw [errV_f, if_neg (by simp)]
      clear hv2
      go_enter Tryz.func23, Tryz.ntmps23
      go_wp2_with fail
      generalize World.alloc (World.alloc w _) _ = w2 at K0 ⊢
      obtain ⟨x0, x1, x2, y0, y1, y2, xl, yl, _⟩ := K0.out.sp2
      go_wp2_with fail
      refine (HE.out _ (K0.out.ok (g := w.heap.size) (by simp))).mono ?_
      rintro e1 w3 ⟨⟨A, n, rfl, _⟩, hb2⟩
      have K3 := Lib.hid (K0.out.next hb2)
      clear hb2 x0 x1 x2 y0 y1 y2 xl yl
      obtain ⟨x0, x1, x2, y0, y1, y2, xl, yl, _⟩ := K3.out.sp2
      go_wp2_with fail
      refine (HE2.out _ (K3.out.ok (g := w.heap.size + 1) (by simp))).mono ?_
      rintro e2 w4 ⟨⟨A2, n2, rfl, _⟩, hb4⟩
      have HB := Lib.hid (below_trans K3.out.bel hb4)
      clear hb4 x0 x1 x2 y0 y1 y2 xl yl
      go_wp2_with fail
      go_ret2
      exact ⟨rfl, HB.out⟩
    | true =>
      rw [hv2, errV_t, encV_t hv2] at HE2
      rw [errV_t, if_pos rfl]
      clear hv2
      go_enter Tryz.func23, Tryz.ntmps23
      go_wp2_with fail
      generalize World.alloc (World.alloc w _) _ = w2 at K0 ⊢
      obtain ⟨x0, x1, x2, y0, y1, y2, xl, yl, _⟩ := K0.out.sp2
      go_wp2_with fail
      refine (HE.out _ (K0.out.ok (g := w.heap.size) (by simp))).mono ?_
      rintro e1 w3 ⟨⟨A, n, rfl, ho⟩, hb2⟩
      have K3 := Lib.hid (K0.out.next hb2)
      have HO := Lib.hid (HoldsB.of_own ho)
      clear hb2 ho x0 x1 x2 y0 y1 y2 xl yl
      obtain ⟨x0, x1, x2, y0, y1, y2, xl, yl, _⟩ := K3.out.sp2
      go_wp2_with fail
      refine (HE2.out _ (K3.out.ok (g := w.heap.size + 1) (by simp))).mono ?_
      rintro e2 w4 ⟨⟨A2, n2, rfl, ho2⟩, hb4⟩
      have HB := Lib.hid (below_trans K3.out.bel hb4)
      have HS := Lib.hid (slCompare A A2 (byC c.ca) (byC d.ca) n n2 _ w4 (bytesAt_of (HO.out.below hb4)) (bytesAt_of (HoldsB.of_own ho2)) (by omega) (by omega) rfl)
      clear hb4 ho2 x0 x1 x2 y0 y1 y2 xl yl
      go_wp2_with fail
      refine HS.out.mono ?_
      rintro e3 w5 ⟨rfl, hb5⟩
      have HB5 := Lib.hid (below_trans HB.out hb5)
      clear hb5
      go_wp2_with fail
      go_ret2
      exact ⟨rfl, HB5.out⟩

/-- All contracts that the laws lean on. -/
theorem canOK14 (w : World) : CanOK w where
  enc c W _ hc hf := cnEncode c W hc hf
  con V L vs ls n k W _ hv hl h1 h2 := cnContextF V L vs ls n k W hv hl h1 h2
  app A xs n c W _ hx hl hc hf := cnAppend A xs n c W hx hl hc hf
  siz c W _ hc hf := cnSize c W hc hf
  cmp a b W _ ha hb h1 h2 := cnCompare a b W ha hb h1 h2
  val c W _ hc hf := caValid c _ W hc hf.fits rfl
  com V L vs ls n k W _ hv hl h1 h2 := ctxIsCompact_o _ vs ls _ W (HoldsC.mk hv hl) (by omega) rfl

end

section
open Go.RowKit

theorem known14T (w : World) : Known14 w := known14_T (canOK14 w) fun W _ => canOK14 W

end

end Go.Proofs.YtgdnibahiomneaaGreat
