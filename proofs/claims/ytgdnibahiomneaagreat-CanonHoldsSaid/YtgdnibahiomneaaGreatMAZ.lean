/- Several texts in one: CanVB, CanVD, CtxZ. -/
import Derived.Test.YtgdnibahiomneaaGreatMAY
import Derived.Test.YtgdnibahiomneaaGreatMAO
import Derived.Test.YtgdnibahiomneaaGreatMAL
namespace Go.Proofs.YtgdnibahiomneaaGreat

section
open Go.RowKit

set_option maxHeartbeats 1000000 in
theorem cnContext (g : Nat) (v : Value) (xs : List UInt8) (V L : Option Addr) (vs ls : List (Int × Int)) (n k : Nat) (w0 w : World) (h : Wr w g v xs) (hF : FarW w0 g v w) (hx : DotsAt w0 V vs) (hy : DotsAt w0 L ls) (hm : xs.length + (byX (vs, ls)).length ≤ 700000) (hl : vs.length ≤ 100000) (hl2 : ls.length ≤ 100000) :
    Calls Tryz.prog 25 #[.pointer (some ⟨g, 0, none⟩), .agg #[.slice V vs.length n, .slice L ls.length k]] w fun e w' => e = .returned (.tuple #[]) ∧ Wrote w g v (xs ++ byX (vs, ls)) w' := by
  have hal : Below w.heap.size w (w.alloc (.cells #[.slice V vs.length n, .slice L ls.length k] 25)) := (Below.refl _ _).alloc (Nat.le_refl _) _
  have hnew : (w.alloc (.cells #[.slice V vs.length n, .slice L ls.length k] 25)).heap[w.heap.size]? = some (.cells #[.slice V vs.length n, .slice L ls.length k] 25 (0, 0)) := heap_alloc_new w _
  have q0 : (w.alloc (.cells #[.slice V vs.length n, .slice L ls.length k] 25)).cell? ⟨w.heap.size, 0, none⟩ = some (.slice V vs.length n) := cellW hnew
  have HQ := Lib.hid (fun (W : World) (h : W.heap[w.heap.size]? = (w.alloc (.cells #[.slice V vs.length n, .slice L ls.length k] 25)).heap[w.heap.size]?) => show W.cell? ⟨w.heap.size, 1, none⟩ = some (.slice L ls.length k) from cellW (h.trans hnew))
  have HS := Lib.hid (h.old (Nat.le_refl _))
  have HA := Lib.hid hal
  have HM := Lib.hid (show xs.length + ((byL byD vs).length + (byL byD ls).length) ≤ 700000 from by unfold byX at hm; simpa using hm)
  have HF := Lib.hid (hF.next hal)
  have HN := Lib.hid (cnDots g v xs V vs n w0 _ (h.below hal) HF.out hx (by have := HM.out; omega) hl)
  have HY := Lib.hid hy
  have HL := Lib.hid (by have := (Array.getElem?_eq_some_iff.1 hnew).1; exact this : w.heap.size < (w.alloc (.cells #[.slice V vs.length n, .slice L ls.length k] 25)).heap.size)
  clear h hal hnew hF hx hy hm hl
  go_enter Tryz.func25, Tryz.ntmps25
  go_wp2_with fail
  refine HN.out.mono ?_
  rintro e w1 ⟨rfl, h1⟩
  obtain ⟨v1, W1, N1, B1, F1⟩ := h1.on
  have q1 := HQ.out w1 (B1.out _ HS.out HL.out)
  have HM := Lib.hid (cnDots g v1 _ L ls k w0 w1 W1.out (F1.out _ HF.out) HY.out (by have := HM.out; rw [List.length_append]; omega) hl2)
  clear h1 q0 hl2
  go_wp2_with fail
  refine HM.out.mono ?_
  rintro e w2 ⟨rfl, h2⟩
  have H2 := Lib.hid (Wrote.before HA.out (N1.out _ _ h2))
  clear h2
  go_wp2
  exact ⟨rfl, .tuple #[], results_none (by kernel_rfl) _ _ _, rfl, by rw [byX, ← List.append_assoc]; exact H2.out⟩

theorem byL_take_le {α : Type} {f : α → List UInt8} {l : List α} {k m : Nat} {xs : List UInt8} (h : xs.length + (byL f l).length ≤ m) : (xs ++ (enc l.length ++ (l.take k).flatMap f)).length ≤ m := by
  have h2 : ((l.take k).flatMap f).length ≤ (l.flatMap f).length := by
    conv => rhs; rw [← List.take_append_drop k l, List.flatMap_append, List.length_append]
    omega
  unfold byL at h
  rw [List.length_append] at h ⊢
  rw [List.length_append]
  omega

set_option maxRecDepth 100000 in
set_option maxHeartbeats 4000000 in
theorem cnItem (g : Nat) (v : Value) (xs : List UInt8) (x : ItV) (w0 w : World) (h : Wr w g v xs) (hF : FarW w0 g v w) (hx : ItOK w0 x) (hn : x.nm.length ≤ 1000) (hk : x.ms.length ≤ 1000) (ht : ∀ m ∈ x.ms, m.t < 18446744073709551616) (hm : xs.length + (byI x.it).length ≤ 700000) :
    Calls Tryz.prog 57 #[.pointer (some ⟨g, 0, none⟩), mkIt x] w fun e w' => e = .returned (.tuple #[]) ∧ Wrote w g v (xs ++ byI x.it) w' := by
  obtain ⟨nm, A, cA, ms⟩ := x
  have hal : Below w.heap.size w (w.alloc (.cells #[.string ⟨nm.toArray⟩, .slice A ms.length cA] 56)) := (Below.refl _ _).alloc (Nat.le_refl _) _
  have hnew : BlkI (w.alloc (.cells #[.string ⟨nm.toArray⟩, .slice A ms.length cA] 56)) w.heap.size ⟨nm, A, cA, ms⟩ := BlkI.new w ⟨nm, A, cA, ms⟩
  have hn : nm.length ≤ 1000 := hn
  have hk : ms.length ≤ 1000 := hk
  have HT := Lib.hid (show ∀ m ∈ ms, m.t < 18446744073709551616 from ht)
  have HMS := Lib.hid (show MarksAt w0 A ms from hx.1)
  have hm2 : xs.length + ((byS nm).length + (byL byM ms).length) ≤ 700000 := by
    have h0 : (byI (nm, ms)).length = (byS nm).length + (byL byM ms).length := by unfold byI; rw [List.length_append]
    rw [← h0]; exact hm
  have HM := Lib.hid hm2
  have q0 := hnew.cell0
  have HB0 := Lib.hid hnew
  have HS := Lib.hid (h.old (Nat.le_refl _))
  have HA := Lib.hid hal
  have HF := Lib.hid (hF.next hal)
  have hs : (ByteArray.mk nm.toArray).size = nm.length := by show nm.toArray.size = _; simp
  have hst := strAt g v xs ⟨nm.toArray⟩ _ (h.below hal) (by rw [hs]; omega) (by omega)
  rw [hs] at hst
  have HST := Lib.hid (show Calls Tryz.prog 79 #[.pointer (some ⟨g, 0, none⟩), .string ⟨nm.toArray⟩] (w.alloc (.cells #[.string ⟨nm.toArray⟩, .slice A ms.length cA] 56)) (fun e w' => e = .returned (.tuple #[]) ∧ Wrote (w.alloc (.cells #[.string ⟨nm.toArray⟩, .slice A ms.length cA] 56)) g v (xs ++ byS nm) w') from by simpa [byS] using hst)
  clear h hal hnew hF hx hm hst ht hm2 hs
  go_enter Tryz.func57, Tryz.ntmps57
  go_wp2_with fail
  generalize w.alloc _ = w1 at *
  refine HST.out.mono ?_
  rintro e w2 ⟨rfl, h2⟩
  obtain ⟨v2, W2, N2, B2, _⟩ := h2.on
  have HB2 := Lib.hid (show BlkI w2 w.heap.size ⟨nm, A, cA, ms⟩ from (B2.out _ HS.out HB0.out.lt).trans HB0.out)
  have q1 := HB2.out.cell1
  have HN := Lib.hid (cnNum g v2 _ (ms.length : Int) w2 W2.out (by have := HM.out; rw [List.length_append]; omega))
  clear h2 q0
  go_wp2_with fail
  refine HN.out.mono ?_
  rintro e w3 ⟨rfl, h3⟩
  obtain ⟨v3, _, _, B3, _⟩ := (N2.out _ _ h3).on
  have HB3 := Lib.hid (show BlkI w3 w.heap.size ⟨nm, A, cA, ms⟩ from (B3.out _ HS.out HB0.out.lt).trans HB0.out)
  have q2 := HB3.out.cell1
  clear B3
  have H3 := Lib.hid (show Wrote w1 g v ((xs ++ byS nm) ++ (enc ms.length ++ (ms.take 0).flatMap byM)) w3 from by have := N2.out _ _ h3; rw [byZ_nat (by omega)] at this; simpa using this)
  clear h3 q1
  go_wp2_with fail
  go_loopw [18] (fun i wr => ∃ k : Nat, k ≤ ms.length ∧ i = .int .i64 k ∧ Hid (Wrote w1 g v ((xs ++ byS nm) ++ (enc ms.length ++ (ms.take k).flatMap byM)) wr)) (fun i _ => ms.length - (intOf i).toNat)
  case atStart => exact ⟨0, by omega, rfl, H3⟩
  case round =>
    clear H3 q2
    obtain ⟨k, hk, rfl, HW⟩ := hrel
    by_cases hlt : k < ms.length
    · have i0 : (k : Int) < (ms.length : Int) := by omega
      obtain ⟨b, off, y, rfl, hbl, hx1, hy1, hc0, hc1, hc2, hc3⟩ := HMS.out.mark (j := k) hlt
      obtain ⟨v4, W4, N4, _, F4⟩ := HW.out.on
      have F5 := F4.out _ HF.out
      have c0 := (F5.bel.cell (p := ⟨b, off + k * 4, none⟩) hbl).trans hc0
      have c1 := (F5.bel.cell (p := ⟨b, off + k * 4 + 1, none⟩) hbl).trans hc1
      have c2 := (F5.bel.cell (p := ⟨b, off + k * 4 + 2, none⟩) hbl).trans hc2
      have c3 := (F5.bel.cell (p := ⟨b, off + k * 4 + 3, none⟩) hbl).trans hc3
      obtain ⟨r, c, q, t⟩ := y
      have hle : ((xs ++ byS nm) ++ (enc ms.length ++ (ms.take k).flatMap byM)).length ≤ 700000 := byL_take_le (by have := HM.out; rw [List.length_append]; omega)
      have HSTEP := Lib.hid (show (xs ++ byS nm) ++ (enc ms.length ++ (ms.take (k + 1)).flatMap byM) = ((((xs ++ byS nm) ++ (enc ms.length ++ (ms.take k).flatMap byM)) ++ byD (r, c)) ++ byZ q) ++ enc t from by rw [take_snoc hx1, List.flatMap_append]; simp [byM, byD])
      have ht64 := HT.out _ (List.mem_of_getElem? hx1)
      have h10 := byZ_ten r
      have h11 := byZ_ten c
      have h12 := byZ_ten q
      have h20 : (byD (r, c)).length ≤ 20 := by show (byZ r ++ byZ c).length ≤ 20; rw [List.length_append]; omega
      generalize (xs ++ byS nm) ++ (enc ms.length ++ (ms.take k).flatMap byM) = acc at W4 N4 HSTEP hle
      have hal4 : Below wr.heap.size wr (wr.alloc (.cells #[.int .i64 r, .int .i64 c, .int .i64 q, .int .u64 (t : Int)] 53)) := (Below.refl _ _).alloc (Nat.le_refl _) _
      have hnew4 : (wr.alloc (.cells #[.int .i64 r, .int .i64 c, .int .i64 q, .int .u64 (t : Int)] 53)).heap[wr.heap.size]? = some (.cells #[.int .i64 r, .int .i64 c, .int .i64 q, .int .u64 (t : Int)] 53 (0, 0)) := heap_alloc_new wr _
      have m0 : (wr.alloc (.cells #[.int .i64 r, .int .i64 c, .int .i64 q, .int .u64 (t : Int)] 53)).cell? ⟨wr.heap.size, 0, none⟩ = some (.int .i64 r) := cellW hnew4
      have m1 : (wr.alloc (.cells #[.int .i64 r, .int .i64 c, .int .i64 q, .int .u64 (t : Int)] 53)).cell? ⟨wr.heap.size, 1, none⟩ = some (.int .i64 c) := cellW hnew4
      have HS4 := Lib.hid (W4.out.old (Nat.le_refl wr.heap.size))
      have HD := Lib.hid (cnDot g v4 acc r c _ (W4.out.below hal4) (by omega))
      have HAL := Lib.hid hal4
      have HNEW := Lib.hid hnew4
      have HLT := Lib.hid (Array.getElem?_eq_some_iff.1 hnew4).1
      have hbw : b < wr.heap.size := Nat.lt_of_lt_of_le hbl F5.bel.size
      clear hc0 hc1 hc2 hc3 hx1 hy1 F5 hbl hal4 hnew4 HW
      go_wp2_with fail
      generalize wr.alloc _ = wq at *
      refine HD.out.mono ?_
      rintro e wa ⟨rfl, ha⟩
      obtain ⟨va, Wa, Na, Ba, _⟩ := ha.on
      have p2 : wa.cell? ⟨wr.heap.size, 2, none⟩ = some (.int .i64 q) := cellW ((Ba.out _ HS4.out HLT.out).trans HNEW.out)
      have HQ := Lib.hid (cnNum g va _ q wa Wa.out (by rw [List.length_append]; omega))
      clear ha m0 m1 c0 c1 c2 c3 Ba
      go_wp2_with fail
      refine HQ.out.mono ?_
      rintro e wb ⟨rfl, hb⟩
      obtain ⟨vb, Wb, Nb, Bb, _⟩ := (Na.out _ _ hb).on
      have p3 : wb.cell? ⟨wr.heap.size, 3, none⟩ = some (.int .u64 (t : Int)) := cellW ((Bb.out _ HS4.out HLT.out).trans HNEW.out)
      have HU := Lib.hid (numAt g vb _ t wb Wb.out ht64 (by rw [List.length_append, List.length_append]; omega))
      clear hb p2 Bb Na
      go_wp2_with fail
      refine HU.out.mono ?_
      rintro e wc ⟨rfl, hc⟩
      have HC := Lib.hid (N4.out _ _ (Wrote.before HAL.out (Nb.out _ _ hc)))
      clear hc p3
      go_wp2_with fail
      go_roundw
      case rel => exact ⟨k + 1, by omega, by go_num, by rw [HSTEP.out]; exact HC⟩
      case measure => simp [intOf]; omega
    · obtain rfl : k = ms.length := by omega
      have i0 : ¬ (ms.length : Int) < (ms.length : Int) := by omega
      have HE := Lib.hid (show Wrote w1 g v (xs ++ byI (nm, ms)) wr from by have := HW.out; rw [List.take_length, List.append_assoc] at this; exact this)
      clear hlt hk
      go_wp2_with fail
      exact ⟨rfl, .tuple #[], results_none (by kernel_rfl) _ _ _, rfl, Wrote.before HA.out HE.out⟩

end

section
open Go.RowKit

set_option maxHeartbeats 400000 in
theorem nanByte (a : Int) (w : World) :
    Calls Tryz.prog 80 #[.int .u8 a] w fun e w' => e = .returned (.bool false) ∧ w = w' := by
  go_enter Tryz.func80, Tryz.ntmps80
  go_wp2
  go_ret
  simp

set_option maxHeartbeats 400000 in
theorem cmpByte (a b : Int) (w : World) :
    Calls Tryz.prog 58 #[.int .u8 a, .int .u8 b] w fun e w' => e = .returned (.int .i64 (cmpI a b)) ∧ w = w' := by
  go_enter Tryz.func58, Tryz.ntmps58
  go_wp2_with (go_at_call 80; refine (nanByte _ _).mono ?_; rintro e w' ⟨rfl, rfl⟩)
  all_goals
    go_ret
    refine ⟨ret_int ?_, rfl⟩
  · have : a < b := by assumption
    simp [cmpI, this]
  · have h1 : b ≤ a := by assumption
    have h2 : b < a := by assumption
    simp [cmpI, h2, Int.not_lt.2 h1]
  · have h1 : b ≤ a := by assumption
    have h2 : a ≤ b := by assumption
    simp [cmpI, Int.not_lt.2 h1, Int.not_lt.2 h2]

set_option maxHeartbeats 2000000 in
theorem slCompare (A B : Option Addr) (xs ys : List UInt8) (cap cap' : Nat) (n : Int) (w : World) (hx : BytesAt w A xs) (hy : BytesAt w B ys) (hm : xs.length ≤ 1000000) (hm' : ys.length ≤ 1000000) (hn : ordB xs ys = n) :
    Calls Tryz.prog 38 #[.slice A xs.length cap, .slice B ys.length cap'] w (OneB (.int .i64 n) w) := by
  have HX := Lib.hid hx
  have HY := Lib.hid hy
  have HS0 := Lib.hid (show ordB (xs.drop 0) (ys.drop 0) = n from hn)
  have HC := Lib.hid fun (a b : Int) => cmpByte a b w
  clear hx hy hn
  go_enter Tryz.func38, Tryz.ntmps38
  go_wp2_with fail
  go_loopw [11] (fun i wr => ∃ m : Nat, m ≤ xs.length ∧ m ≤ ys.length ∧ i = .int .i64 m ∧ wr = w ∧ Hid (ordB (xs.drop m) (ys.drop m) = n)) (fun i _ => xs.length - (intOf i).toNat)
  case atStart => exact ⟨0, by omega, by omega, rfl, rfl, HS0⟩
  case round =>
    clear HS0
    obtain ⟨m, hm1, hm2, rfl, rfl, HS⟩ := hrel
    by_cases k1 : m < xs.length
    · have i0 : (m : Int) < (xs.length : Int) := by omega
      obtain ⟨b, off, rfl, hbl, hc0⟩ := (SlAt.cell1 (f := fun n : UInt8 => Value.int .u8 n.toNat) HX.out (j := m) k1)
      by_cases k2 : m < ys.length
      · have i1 : (m : Int) < (ys.length : Int) := by omega
        have i2 : ¬ (ys.length : Int) ≤ (m : Int) := by omega
        obtain ⟨b', off', rfl, hbl', hd0⟩ := (SlAt.cell1 (f := fun n : UInt8 => Value.int .u8 n.toNat) HY.out (j := m) k2)
        have hs := HS.out
        rw [List.drop_eq_getElem_cons k1, List.drop_eq_getElem_cons k2, ordB] at hs
        generalize xs[m] = x at *
        generalize ys[m] = y at *
        have HK := Lib.hid (HC.out (x.toNat : Int) (y.toNat : Int))
        by_cases hq : x = y
        · subst hq
          rw [if_pos rfl] at hs
          have hz : cmpI (x.toNat : Int) (x.toNat : Int) = 0 := by simp [cmpI]
          rw [hz] at HK
          have HS2 := Lib.hid hs
          clear hs HS k1 k2 HC hz
          go_wp2_with fail
          refine HK.out.mono ?_
          rintro e w1 ⟨rfl, rfl⟩
          go_wp2_with fail
          go_roundw
          case rel => exact ⟨m + 1, by omega, by omega, by go_num, by trivial, HS2⟩
          case measure => simp [intOf]; omega
        · rw [if_neg hq] at hs
          have hne : x.toNat ≠ y.toNat := fun e => hq (UInt8.toNat_inj.1 e)
          have hz : cmpI (x.toNat : Int) (y.toNat : Int) = n ∧ (n != 0) = true := by
            by_cases hl : x.toNat < y.toNat
            · rw [if_pos hl] at hs
              have j0 : (x.toNat : Int) < (y.toNat : Int) := by omega
              simp [cmpI, j0, ← hs]
            · rw [if_neg hl] at hs
              have j0 : ¬ (x.toNat : Int) < (y.toNat : Int) := by omega
              have j1 : (y.toNat : Int) < (x.toNat : Int) := by omega
              simp [cmpI, j0, j1, ← hs]
          obtain ⟨hz1, hz2⟩ := hz
          rw [hz1] at HK
          clear hs HS k1 k2 HC hz1 hq hne
          go_wp2_with fail
          refine HK.out.mono ?_
          rintro e w1 ⟨rfl, rfl⟩
          go_wp2_with fail
          go_ret
          exact ⟨rfl, Below.refl _ _⟩
      · have i1 : (ys.length : Int) ≤ (m : Int) := by omega
        have HE := ord_end hm1 hm2 (fun h => k2 h.2)
        rw [HS.out, if_neg (by omega), if_pos (by omega)] at HE
        subst HE
        generalize xs[m] = x at *
        clear HS k1 k2 HC
        go_wp2_with fail
        go_ret
        exact ⟨rfl, Below.refl _ _⟩
    · have i0 : ¬ (m : Int) < (xs.length : Int) := by omega
      have HE := ord_end hm1 hm2 (fun h => k1 h.1)
      rw [HS.out] at HE
      obtain rfl : m = xs.length := by omega
      clear k1
      by_cases k2 : xs.length < ys.length
      · have i1 : (xs.length : Int) < (ys.length : Int) := by omega
        rw [if_pos k2] at HE
        subst HE
        clear HS k2 HC
        go_wp2_with fail
        go_ret
        exact ⟨rfl, Below.refl _ _⟩
      · have i1 : ¬ (xs.length : Int) < (ys.length : Int) := by omega
        rw [if_neg k2, if_neg (by omega)] at HE
        subst HE
        clear HS k2 HC
        go_wp2_with fail
        go_ret
        exact ⟨rfl, Below.refl _ _⟩

end

section
open Go.RowKit

/-- What holds while Missing's boxes are laid. -/
def KM (w : World) (x y : Value) (W : World) : Prop := Below (w.heap.size + 1) (w.alloc (.cells #[x, y] 25)) W
section
variable {w W W' : World} {x y : Value}
theorem KM.cells (h : KM w x y W) : W.cell? ⟨w.heap.size, 0, none⟩ = some x ∧ W.cell? ⟨w.heap.size, 1, none⟩ = some y := by
  have hb : Blk2 (w.alloc (.cells #[x, y] 25)) w.heap.size x y := heap_alloc_new w _
  exact ⟨(h.cell (p := ⟨w.heap.size, 0, none⟩) (by simp)).trans hb.cell0, (h.cell (p := ⟨w.heap.size, 1, none⟩) (by simp)).trans hb.cell1⟩
theorem KM.size (h : KM w x y W) : w.heap.size + 1 ≤ W.heap.size := by have := Below.size h; simpa using this
theorem KM.below (h : KM w x y W) (hb : Below W.heap.size W W') : KM w x y W' := Below.trans h (hb.mono h.size)
theorem KM.drew (h : KM w x y W) : KM w x y W.drew := h.below (Below.refl _ W).drew
theorem KM.alloc (h : KM w x y W) (o : Obj) : KM w x y (W.alloc o) := h.below ((Below.refl _ W).alloc (Nat.le_refl _) o)
theorem KM.store (h : KM w x y W) {b : Nat} (hb : w.heap.size + 1 ≤ b) (u : Value) : KM w x y (W.setCell ⟨b, 0, none⟩ u) := Below.setCell (p := ⟨b, 0, none⟩) h hb u
theorem KM.bel (h : KM w x y W) : Below w.heap.size w W := ((Below.refl _ w).alloc (Nat.le_refl _) _).trans (Below.mono h (by omega))
end

def KMS (w : World) (x y : Value) (W : World) : Prop := W.cell? ⟨w.heap.size, 0, none⟩ = some x ∧ W.cell? ⟨w.heap.size, 1, none⟩ = some y ∧ KM w x y W
section
variable {w W W' : World} {x y : Value}
theorem KMS.of (h : KM w x y W) : KMS w x y W := ⟨h.cells.1, h.cells.2, h⟩
theorem KMS.km (h : KMS w x y W) : KM w x y W := h.2.2
theorem KMS.drew (h : KMS w x y W) : KMS w x y W.drew := .of h.km.drew
theorem KMS.alloc (h : KMS w x y W) (o : Obj) : KMS w x y (W.alloc o) := .of (h.km.alloc o)
theorem KMS.store (h : KMS w x y W) {b : Nat} (hb : w.heap.size + 1 ≤ b) (u : Value) : KMS w x y (W.setCell ⟨b, 0, none⟩ u) := .of (h.km.store hb u)
theorem KMS.below (h : KMS w x y W) (hb : Below W.heap.size W W') : KMS w x y W' := .of (h.km.below hb)
theorem Boxed.below {b : Nat} {t : TypeId} {v : Value} (h : Boxed W b t v) (hb : Below W.heap.size W W') : Boxed W' b t v := (hb.block b h.lt).trans h
end

theorem lt_two (a : Nat) : a < a + 1 + 1 := by omega
theorem heap_drew (W : World) : W.drew.heap = W.heap := rfl
theorem cell_other {W : World} {a b : Addr} {u v : Value} (h : W.cell? a = some u) (hne : a.block ≠ b.block) : (W.setCell b v).cell? a = some u := (World.cell?_of_block (Below.heap_setCell W b v a.block hne)).trans h
theorem dots_of_row {W : World} {B n c : Nat} {A : Option Addr} {xs : List (Int × Int)} (h : W.ownsRow B 51 2 (.slice A n c) xs.length (cellsOf encD xs)) : DotsAt W A xs := by
  obtain ⟨A', c', e, _, _, hd⟩ := SlAt.of_own encD_len h
  cases e
  exact hd
/-- What the first region leaves. -/
def MisR (w : World) (vs ls : List (Int × Int)) (n : Nat) (p q : Value) (W : World) : Prop :=
  ∃ b5 b6 mb A cap, ∃ D : DataW Unit, p = .pointer (some ⟨b5, 0, none⟩) ∧ q = .pointer (some ⟨b6, 0, none⟩) ∧ W.cell? ⟨b5, 0, none⟩ = some (.map (some mb)) ∧ W.cell? ⟨b6, 0, none⟩ = some (.slice A (ordL ls).length cap) ∧
    DotsAt W A (ordL ls) ∧ W.ownsMap Tryz.prog 3 (plainElem Tryz.prog 3) mb n D ∧ GetF D (getV vs) ∧ Below w.heap.size w W
set_option maxRecDepth 100000 in
set_option maxHeartbeats 8000000 in
theorem ctxMissing (v : Value) (X : Option Addr) (cx : Nat) (zs : List WD) (ls m : List (Int × Int)) (w : World) (h : HoldsC w v (zs.map (·.1)) ls) (hx : Holds w (.slice X m.length cx) m) (hm : zs.length + ls.length + m.length ≤ 3000) :
    Calls Tryz.prog 31 #[v, .slice X m.length cx] w fun e w' => (∃ v', e = .returned v' ∧ MineV w w' v' (missC (zs.map (·.1)) ls m)) ∧ Below w.heap.size w w' := by
  obtain ⟨A, n, B, k0, rfl, h1, h2⟩ := h
  have K : KM w (.slice A zs.length n) (.slice B ls.length k0) (w.alloc (.cells #[.slice A zs.length n, .slice B ls.length k0] 25)) := Below.refl _ _
  have h1' : Holds w (.slice A zs.length n) (zs.map (·.1)) := by simpa using h1
  have HC := Lib.hid fun W (hW : KMS w (.slice A zs.length n) (.slice B ls.length k0) W) => ctxCounters A n zs W (h1'.below hW.km.bel) (by omega)
  have HS := Lib.hid fun W (hW : KMS w (.slice A zs.length n) (.slice B ls.length k0) W) => dotSet B ls k0 W (by obtain ⟨A', c', e, h, _⟩ := h2.below hW.km.bel; cases e; exact h) (by omega)
  have hl : (zs.map (·.1)).length = zs.length := by simp
  rw [hl]
  clear h1 h1' h2 hl
  go_enter Tryz.func31, Tryz.ntmps31
  go_wp2_with fail
  go_cut [5, 6] (fun p q wx => MisR w (zs.map (·.1)) ls zs.length p q wx)
  case first =>
    have KK := KMS.of K
    have hsw := KK.km.size
    generalize w.alloc (.cells #[.slice A zs.length n, .slice B ls.length k0] 25) = W0 at KK hsw ⊢
    clear K
    obtain ⟨q0, q1, q2⟩ := id KK
    go_region_held3 (fun W => W.cell? ⟨w.heap.size, 0, none⟩ = some (.slice A zs.length n) ∧ W.cell? ⟨w.heap.size, 1, none⟩ = some (.slice B ls.length k0) ∧ KM w (.slice A zs.length n) (.slice B ls.length k0) W)
      (first
        | assumption
        | (exact KMS.drew (by assumption))
        | (show KMS w (.slice A zs.length n) (.slice B ls.length k0) _
           repeat (first
             | assumption
             | refine KMS.drew ?_
             | refine KMS.alloc ?_ _
             | refine KMS.store ?_ (by first | omega | (simp; omega)) _)))
      (first
        | (go_at_call 42; refine (HC.out _ (by assumption)).mono ?_
           rintro e wa ⟨mb, D, rfl, hmb, hb9, hmap, hget⟩
           have hS9 := KMS.below (by assumption) hb9
           have hsz9 := hS9.km.size
           have hmb2 := hmb
           try simp only [heap_drew, World.size_alloc] at hmb2
           have hml := hmap.lt
           obtain ⟨hc9, hf9⟩ := bcell hb9
           have zs9 := hb9.size
           try simp only [heap_drew, World.size_alloc] at zs9
           try (have z0 : W0.heap.size + 2 ≤ wa.heap.size := zs9)
           try (have z0 : W0.heap.size + 1 ≤ wa.heap.size := zs9)
           have z0' : W0.heap.size ≤ wa.heap.size := by first | exact zs9 | omega
           clear zs9
           have p0 := hc9 W0.heap.size 0
           have p0f := hf9 W0.heap.size 0
           have p1 := hc9 (W0.heap.size + 1) 0
           have p1f := hf9 (W0.heap.size + 1) 0
           try simp [lt_two, heap_drew] at p0
           try simp [lt_two, heap_drew] at p0f
           try simp [heap_drew] at p1
           try simp [heap_drew] at p1f
           try (have n0 : ¬ W0.heap.size = wa.heap.size := by omega)
           try (have n1 : ¬ W0.heap.size + 1 = wa.heap.size := by omega)
           clear hc9 hf9)
        | (go_at_call 48; refine (HS.out _ (by assumption)).mono ?_
           rintro e wb ⟨v12, rfl, hmine⟩
           have hb12 := hmine.2
           have hv12 := hmine.holds
           have hS12 := KMS.below (by assumption) hb12
           have hrow : wb.ownsRow w.heap.size 51 2 v12 (ordL ls).length (cellsOf encD (ordL ls)) := Joins.ownsRow_le hmine.1 (by (try simp only [World.size_alloc]); omega)
           have hlt12 := hmine.1.lt
           try simp only [World.size_alloc] at hlt12
           have hmap12 : wb.ownsMap Tryz.prog 3 (plainElem Tryz.prog 3) mb zs.length D := World.ownsMap.kept (by repeat (first | exact hmap | refine World.ownsMap.alloc ?_ _)) (grown_of_below2 hb12 none) (by simp)
           have hsz12 := hS12.km.size
           obtain ⟨hc12, hf12⟩ := bcell hb12
           have zs12 := hb12.size
           try simp only [World.size_alloc] at zs12
           try (have y0 : wa.heap.size + 2 ≤ wb.heap.size := zs12)
           try (have y0 : wa.heap.size + 1 ≤ wb.heap.size := zs12)
           have y0' : wa.heap.size ≤ wb.heap.size := by first | exact zs12 | omega
           clear zs12
           have p2 := hc12 wa.heap.size 0
           have p2f := hf12 wa.heap.size 0
           have p3 := hc12 (wa.heap.size + 1) 0
           have p3f := hf12 (wa.heap.size + 1) 0
           have e4 : W0.heap.size < wa.heap.size → W0.heap.size < wa.heap.size + 1 := by omega
           have p4 := hc12 W0.heap.size 0
           have p4f := hf12 W0.heap.size 0
           have p5 := hc12 (W0.heap.size + 1) 0
           have p5f := hf12 (W0.heap.size + 1) 0
           try simp [lt_two] at p2
           try simp [lt_two] at p2f
           try simp [] at p3
           try simp [] at p3f
           have c4 : W0.heap.size < wa.heap.size + 1 := by omega
           first
             | (have z0s : W0.heap.size < wa.heap.size := by omega
                simp [c4, z0s, p0, p0f] at p4 p4f)
             | skip
           first
             | (have z1s : W0.heap.size + 1 < wa.heap.size := by omega
                have c5 : W0.heap.size + 1 < wa.heap.size + 1 := by omega
                simp [c5, z1s, p1, p1f] at p5 p5f)
             | skip
           clear e4 c4
           try (have m0 : ¬ W0.heap.size = wb.heap.size := by omega)
           try (have m1 : ¬ W0.heap.size + 1 = wb.heap.size := by omega)
           try (have m2 : ¬ wa.heap.size = wb.heap.size := by omega)
           try (have m3 : ¬ wa.heap.size + 1 = wb.heap.size := by omega)
           try (have m4 : ¬ wb.heap.size = W0.heap.size := by omega)
           try (have m5 : ¬ wb.heap.size = W0.heap.size + 1 := by omega)
           try (have m6 : ¬ wb.heap.size = wa.heap.size := by omega)
           try (have m7 : ¬ wb.heap.size = wa.heap.size + 1 := by omega)
           try (have m8 : wa.heap.size < wb.heap.size := by omega)
           try (have m9 : wa.heap.size + 1 < wb.heap.size := by omega)
           try (have ma : W0.heap.size < wb.heap.size := by omega)
           try (have mb2 : W0.heap.size + 1 < wb.heap.size := by omega)
           clear hc12 hf12
           obtain ⟨A12, c12, rfl, _⟩ := id hv12))
    all_goals
      have hF := KMS.km (x := .slice A zs.length n) (y := .slice B ls.length k0) (by assumption)
      go_wp2_with fail
      go_meet
      refine ⟨_, _, mb, A12, c12, D, rfl, rfl, ?_, ?_, ?_, ?_, hget, hF.bel⟩
      · first
          | (go_simp; done)
          | exact World.cell?_setCell_same _ _ _ (by assumption)
          | exact World.cell?_setCell_same _ _ _ (cell_other (by assumption) (by simp))
          | exact cell_other (World.cell?_setCell_same _ _ _ (by assumption)) (by simp)
      · first
          | (go_simp; done)
          | exact World.cell?_setCell_same _ _ _ (by assumption)
          | exact World.cell?_setCell_same _ _ _ (cell_other (by assumption) (by simp))
      · refine dots_of_row (B := w.heap.size) (n := (ordL ls).length) (c := c12) ?_
        repeat (first
          | exact hrow
          | refine World.ownsRow.alloc ?_ _
          | refine ownsRow_setCell_other ?_ (fun e => by have h9 := (hlt12 _ e).1; dsimp only at h9; omega) _)
      · repeat (first
          | exact hmap12
          | refine World.ownsMap.alloc ?_ _
          | refine World.ownsMap.kept ?_ (grownBy_setCell' _ _ _) (by intro e; injection e; omega))
  case rest =>
    obtain ⟨b5, b6, mb, A12, c12, D, rfl, rfl, k5, k6, hd, hmap, hget, hbel⟩ := hcut
    have hlo := ordL_len ls
    have hlm := ordL_len m
    have hsay := Says.missing (vs := zs.map (·.1)) hd (by omega) (inc_ordL ls) k6 k5 hmap hget
    have hset := fun W (hW : Below w.heap.size w W) => dotSet X m cx W (by obtain ⟨A', c', e, h, _⟩ := hx.below hW; cases e; exact h) (by omega)
    have HY := Lib.hid hsay
    have HT := Lib.hid hset
    have HB := Lib.hid hbel
    have hmis : (ordL m).filter (fun d => !(validD d.1 d.2 && (decide (d ∈ ordL ls) || decide (d.2 ≤ getV (zs.map (·.1)) d.1)))) = missC (zs.map (·.1)) ls m := by
      unfold missC
      rw [ordL_eq, ← filter_setL]
      congr 1
      funext d
      rw [hasC_set]
      first | rfl | (rw [ordL_eq])
    have HMIS := Lib.hid hmis
    clear hsay hset hbel hmis k5 k6 hd hmap hget hx
    go_wp2_with fail
    refine (HT.out _ HB.out).mono ?_
    rintro e w3 ⟨v2, rfl, h2⟩
    have hdel := deleteFunc _ _ _ _ v2 (ordL m) w3 HY.out h2.2 h2.2.size h2.1 (by omega)
    rw [HMIS.out] at hdel
    have HD := Lib.hid hdel
    have H2 := Lib.hid h2
    clear hdel h2
    go_wp2_with fail
    refine HD.out.mono ?_
    rintro e w4 ⟨v4, rfl, ho4, hg4⟩
    have H4 := Lib.hid (show MineV w w4 v4 (missC (zs.map (·.1)) ls m) from MineV.base HB.out (show MineV _ w4 v4 (missC (zs.map (·.1)) ls m) from H2.out.step ho4 hg4))
    clear ho4 hg4
    go_wp2
    go_ret
    exact ⟨⟨_, rfl, H4.out⟩, H4.out.2⟩

end

end Go.Proofs.YtgdnibahiomneaaGreat
