/- The law ItemsFinds. -/
import Derived.Test.YtfbkhgajlklleaaGreatItmY2
namespace Go.Proofs.YtfbkhgajlklleaaGreat
open Go.RowKit

theorem qty_of_newR {x : It} {m : Mk} {n : Nat} (h : okI x = true) (hr : newR x.2 = (m, n)) : qtyI x = (m.q, 0) := by
  obtain ⟨_, h0, hv, _⟩ := okI_parts h
  unfold qtyI
  rw [if_pos h, newV_R hv, hr]
  unfold newR at hr
  cases hn : newestN x.2 with
  | none =>
    rw [newestN_none] at hn
    rw [hn] at h0; simp at h0
  | some k =>
    rw [hn] at hr
    have e : 0 = n := congrArg Prod.snd hr
    subst e; rfl
theorem qty_bad {x : It} (h : okI x = false) : qtyI x = (0, 2) := by unfold qtyI; rw [h]; rfl
theorem ownV_some {l : List It} {r c : Int} {nm : List UInt8} (h : ownerL l r c = some nm) : ownV l r c = (nm, 0) := by unfold ownV; rw [h]
theorem ownV_none {l : List It} {r c : Int} (h : ownerL l r c = none) : ownV l r c = ([], 9) := by unfold ownV; rw [h]
theorem refDots_h (v : Value) (xs : List ItV) (w : World) (h : HoldsX w v xs) (hf : Fits xs) : Calls Tryz.prog 23 #[v] w fun e w' => (∃ v, e = .returned v ∧ Holds w' v (dotsI (its xs))) ∧ Below w.heap.size w w' := by
  obtain ⟨A, c, rfl, h1, _⟩ := h
  exact refDots9 A xs c w h1 hf
theorem refOwner_h (v : Value) (xs : List ItV) (r c : Int) (u : Value) (w : World) (h : HoldsX w v xs) (hm : xs.length ≤ 100000) (hv : ownerV (ownerL (its xs) r c) = u) : Calls Tryz.prog 19 #[v, .agg #[.int .i64 r, .int .i64 c]] w (OneB u w) := by
  obtain ⟨A, k, rfl, h1, _⟩ := h
  exact refOwner9 A xs k r c u w h1 hm hv
theorem has_x (x : ItV) (q e : Int) (n : Nat) (w : World) (ho : ItOK w x) (he : e = (n : Int)) (hl : x.nm.length ≤ 1000 ∧ x.ms.length ≤ 100) (hv : qtyI x.it = (q, n)) : Calls Tryz.prog 25 #[mkIt x, .int .i64 q, .int .i64 e] w (TrueB w) := by
  subst he
  exact lawHas x q n w ho hl.1 (by omega) hv
/-- A dot in its box, and nothing old has changed. -/
structure KDt (w : World) (g : Nat) (r c : Int) (W : World) : Prop where
  blk : W.heap[g]? = some (.cells #[.int .i64 r, .int .i64 c] 29 (0, 0))
  bel : Below w.heap.size w W
theorem KDt.next {w W W' : World} {g : Nat} {r c : Int} (h : KDt w g r c W) (hb : Below W.heap.size W W') : KDt w g r c W' := ⟨(hb.block _ (Array.getElem?_eq_some_iff.1 h.blk).1).trans h.blk, below_trans h.bel hb⟩
theorem KDt.sp {w W : World} {g : Nat} {r c : Int} (h : KDt w g r c W) : W.cell? ⟨g, 0, none⟩ = some (.int .i64 r) ∧ W.cell? ⟨g, 1, none⟩ = some (.int .i64 c) ∧ g < W.heap.size :=
  ⟨by simp [World.cell?, h.blk], by simp [World.cell?, h.blk], (Array.getElem?_eq_some_iff.1 h.blk).1⟩

set_option maxRecDepth 100000 in
set_option maxHeartbeats 8000000 in
theorem lawFinds9 (v : Value) (xs : List ItV) (nm : List UInt8) (r c : Int) (w : World) (h : HoldsX w v xs) : Calls Tryz.prog 4 #[v, .string ⟨nm.toArray⟩, .agg #[.int .i64 r, .int .i64 c]] w (TrueB w) := by
  have K0 := Lib.hid (show KDt w w.heap.size r c (w.alloc (.cells #[.int .i64 r, .int .i64 c] 29)) from ⟨heap_alloc_new w _, (Below.refl _ w).alloc (Nat.le_refl _) _⟩)
  have HA := Lib.hid h
  have hsz := size_mk nm
  obtain ⟨b1, hb1⟩ : ∃ b, lightX xs = b := ⟨_, rfl⟩
  have L1 := Lib.hid fun W h => lawLight v xs b1 W h hb1
  obtain ⟨A, cap, rfl, hat, _⟩ := h
  have HAT := Lib.hid hat
  clear hat
  go_enter Tryz.func4, Tryz.ntmps4
  go_wp2_with fail
  obtain ⟨g, hg⟩ : ∃ g, w.heap.size = g := ⟨_, rfl⟩
  rw [hg] at K0
  try rw [hg]
  clear hg
  generalize World.alloc w _ = w0 at K0 ⊢
  obtain ⟨x0, x1, xl⟩ := K0.out.sp
  refine (L1.out _ (HA.out.below K0.out.bel)).mono ?_
  rintro e wq ⟨rfl, rfl⟩
  cases b1 with
  | false =>
    go_wp2_with fail
    refine (known9 _).mono ?_
    rintro e wz ⟨rfl, hb⟩
    have KZZ := Lib.hid (below_trans K0.out.bel hb)
    clear hb K0 x0 x1 xl
    go_wp2_with fail
    go_ret
    exact ⟨rfl, KZZ.out⟩
  | true =>
    by_cases hn : nm.length ≤ 100
    · have j1 : ¬ (100 : Int) < (nm.length : Int) := by omega
      have F1 := Lib.hid (lightX_fits hb1).1
      clear hb1 L1 hn
      rcases find_cases xs nm with ⟨k, x, hk1, hk2, hk3, hk4⟩ | ⟨hk2, hk3, hk4⟩
      · have z0 : ¬ (k : Int) < 0 := by omega
        have z1 : (0 : Int) ≤ (k : Int) := by omega
        have hkl := (List.getElem?_eq_some_iff.1 hk1).1
        have i1 : (k : Int) < (xs.length : Int) := by omega
        have HF := Lib.hid hk3
        have HG := Lib.hid hk4
        have HK1 := Lib.hid hk1
        obtain ⟨bb, off, y, rfl, hbl, hy1, hyk, hc0, hc1, hok⟩ := (HAT.out.below K0.out.bel).cells (j := k) hkl
        obtain rfl : y = x := by rw [hk1] at hy1; exact (Option.some.inj hy1).symm
        have HOK := Lib.hid hok
        clear hyk
        clear hk1 hk2 hk3 hk4 hkl hy1 hok HK1
        go_wp2_with fail
        refine (refFind_h (.slice (some ⟨bb, off, none⟩) xs.length cap) xs nm (k : Int) w0 (HA.out.below K0.out.bel) F1.out.le HF.out).mono ?_
        rintro e wq ⟨rfl, rfl⟩
        go_wp2_with fail
        refine (lawFinds (.slice (some ⟨bb, off, none⟩) xs.length cap) xs nm y 0 w0 (HA.out.below K0.out.bel) HOK.out F1.out HG.out).mono ?_
        rintro e w1 ⟨rfl, hb⟩
        have K1 := Lib.hid (K0.out.next hb)
        clear hb K0 x0 x1 xl hc0 hc1 hbl z0 z1 i1 HF HG HOK
        obtain ⟨x0, x1, xl⟩ := K1.out.sp
        generalize (some (⟨bb, off, none⟩ : Addr)) = A at *
        go_wp2_with fail
        obtain ⟨o, ho⟩ : ∃ o, ownerL (its xs) r c = o := ⟨_, rfl⟩
        have HO := Lib.hid ho
        clear ho
        cases o with
        | none =>
          refine (refOwner_h (.slice A xs.length cap) xs r c (.tuple #[.string ⟨#[]⟩, .bool false]) w1 (HA.out.below K1.out.bel) F1.out.le (by rw [HO.out]; rfl)).mono ?_
          rintro e w2 ⟨rfl, hb⟩
          have K2 := Lib.hid (K1.out.next hb)
          clear hb K1 x0 x1 xl
          obtain ⟨x0, x1, xl⟩ := K2.out.sp
          go_wp2_with fail
          refine (lawOwns (.slice A xs.length cap) xs r c [] 9 w2 (HA.out.below K2.out.bel) F1.out (ownV_none HO.out)).mono ?_
          rintro e w3 ⟨rfl, hb⟩
          have K3 := Lib.hid (K2.out.next hb)
          clear hb K2 x0 x1 xl
          obtain ⟨x0, x1, xl⟩ := K3.out.sp
          go_wp2_with fail
          refine (itDots_h (.slice A xs.length cap) xs w3 (HA.out.below K3.out.bel) F1.out).mono ?_
          rintro e w4 ⟨⟨vd, rfl, hvd⟩, hb⟩
          have K4 := Lib.hid (K3.out.next hb)
          have HD := Lib.hid hvd
          clear hb K3 x0 x1 xl hvd
          obtain ⟨x0, x1, xl⟩ := K4.out.sp
          go_wp2_with fail
          refine (refDots_h (.slice A xs.length cap) xs w4 (HA.out.below K4.out.bel) F1.out).mono ?_
          rintro e w5 ⟨⟨ve, rfl, hve⟩, hb⟩
          have K5 := Lib.hid (K4.out.next hb)
          have HE := Lib.hid hve
          have HD2 := Lib.hid (HD.out.below hb)
          clear hb K4 x0 x1 xl hve HD
          obtain ⟨x0, x1, xl⟩ := K5.out.sp
          go_wp2_with fail
          refine (refSame_h vd ve (dotsI (its xs)) w5 HD2.out HE.out).mono ?_
          rintro e w6 ⟨rfl, hb⟩
          have K6 := Lib.hid (K5.out.next hb)
          clear hb K5 x0 x1 xl
          obtain ⟨x0, x1, xl⟩ := K6.out.sp
          go_wp2_with fail
          clear HD2 HE
          have KB := Lib.hid K6.out.bel
          clear K6 x0 x1 xl
          have hm20 : xs.length ≤ 100 := F1.out.1
          go_loopw [11, 81] (fun _ i wr => ∃ k : Nat, k ≤ xs.length ∧ i = .int .i64 k ∧ Hid (Below w.heap.size w wr)) (fun _ i _ => xs.length - (intOf i).toNat)
          case atStart => exact ⟨0, by omega, rfl, KB⟩
          case round =>
            clear KB
            obtain ⟨k, hk, rfl, hb⟩ := hrel
            by_cases hlt : k < xs.length
            · have i0 : (k : Int) < (xs.length : Int) := by omega
              obtain ⟨bb, off, x, rfl, hbl, hx1, _, hc0, hc1, hok⟩ := (HAT.out.below hb.out).cells (j := k) hlt
              have FX := Lib.hid (F1.out.2 x (List.mem_of_getElem? hx1))
              have F2 := Lib.hid (show Fits [x] from ⟨by simp, fun y hy => by
                obtain rfl : y = x := by simpa using hy
                exact FX.out⟩)
              have KX := Lib.hid (KZ.push (L := []) (w := w) (W := wr) ⟨fun p hp => (by cases hp), hb.out⟩ x hok wr.heap.size rfl)
              obtain ⟨b, hbv⟩ : ∃ b, okI x.it = b := ⟨_, rfl⟩
              obtain ⟨m, n, hmn⟩ : ∃ m n, newR x.ms = (m, n) := ⟨_, _, rfl⟩
              have HBV := Lib.hid hbv
              have HMN := Lib.hid hmn
              clear hx1 hok hb hbv hmn
              go_wp2_with fail
              obtain ⟨gx, hgx⟩ : ∃ g, wr.heap.size = g := ⟨_, rfl⟩
              rw [hgx] at KX ⊢
              clear hc0 hc1 hbl
              clear hgx
              generalize World.alloc wr _ = wa at KX ⊢
              obtain ⟨c0, c1, cl⟩ := KZ.sp1 KX.out
              refine (refOne_h x b wa (KX.out.ok (g := gx) (by simp)) F2.out HBV.out).mono ?_
              rintro e wb ⟨rfl, hb⟩
              have KY := Lib.hid (KX.out.next hb)
              clear hb KX c0 c1 cl
              obtain ⟨c0, c1, cl⟩ := KZ.sp1 KY.out
              cases b with
              | false =>
                go_wp2_with fail
                refine (has_x x 0 2 2 wb (KY.out.ok (g := gx) (by simp)) rfl FX.out (qty_bad HBV.out)).mono ?_
                rintro e wc ⟨rfl, hb⟩
                have KW2 := Lib.hid (KY.out.next hb).bel
                clear hb KY c0 c1 cl
                go_wp2_with fail
                go_roundw
                case rel => exact ⟨k + 1, by omega, by go_num, KW2⟩
                case measure => simp [intOf]; omega
              | true =>
                have HQ := Lib.hid fun p => refQty9 x m n (far wb p) ((KY.out.ok (g := gx) (by simp)).below (below_far wb p)) HMN.out
                have HH := Lib.hid fun p => has_x x m.q 0 0 (far wb p) ((KY.out.ok (g := gx) (by simp)).below (below_far wb p)) rfl FX.out (qty_of_newR HBV.out HMN.out)
                have l0 := fun p => cell_far (p := p) cl c0
                have l1 := fun p => cell_far (p := p) cl c1
                go_wp2_with fail
                refine wp_region_far (by kernel_rfl) (by kernel_rfl) ?_
                repeat (go_big_quiet_step ((first | (go_at_call 26; exact OneB.far (HQ.out _)) | (go_at_call 25; exact OneB.far (HH.out _)))))
                refine wpQuiet_nil ?_
                rintro _ ⟨p, rfl⟩
                have KW2 := Lib.hid (KY.out.next (below_far wb p)).bel
                go_wp2_with fail
                go_roundw
                case rel => exact ⟨k + 1, by omega, by go_num, KW2⟩
                case measure => simp [intOf]; omega
            · have i0 : ¬ (k : Int) < (xs.length : Int) := by omega
              clear hlt
              go_wp2_with fail
              refine (known9 _).mono ?_
              rintro e wz ⟨rfl, hbz⟩
              have KZZ := Lib.hid (below_trans hb.out hbz)
              clear hbz hb
              go_wp2_with fail
              go_ret
              exact ⟨rfl, KZZ.out⟩
        | some s =>
          refine (refOwner_h (.slice A xs.length cap) xs r c (.tuple #[.string ⟨s.toArray⟩, .bool true]) w1 (HA.out.below K1.out.bel) F1.out.le (by rw [HO.out]; rfl)).mono ?_
          rintro e w2 ⟨rfl, hb⟩
          have K2 := Lib.hid (K1.out.next hb)
          clear hb K1 x0 x1 xl
          obtain ⟨x0, x1, xl⟩ := K2.out.sp
          go_wp2_with fail
          refine (lawOwns (.slice A xs.length cap) xs r c s 0 w2 (HA.out.below K2.out.bel) F1.out (ownV_some HO.out)).mono ?_
          rintro e w3 ⟨rfl, hb⟩
          have K3 := Lib.hid (K2.out.next hb)
          clear hb K2 x0 x1 xl
          obtain ⟨x0, x1, xl⟩ := K3.out.sp
          go_wp2_with fail
          refine (itDots_h (.slice A xs.length cap) xs w3 (HA.out.below K3.out.bel) F1.out).mono ?_
          rintro e w4 ⟨⟨vd, rfl, hvd⟩, hb⟩
          have K4 := Lib.hid (K3.out.next hb)
          have HD := Lib.hid hvd
          clear hb K3 x0 x1 xl hvd
          obtain ⟨x0, x1, xl⟩ := K4.out.sp
          go_wp2_with fail
          refine (refDots_h (.slice A xs.length cap) xs w4 (HA.out.below K4.out.bel) F1.out).mono ?_
          rintro e w5 ⟨⟨ve, rfl, hve⟩, hb⟩
          have K5 := Lib.hid (K4.out.next hb)
          have HE := Lib.hid hve
          have HD2 := Lib.hid (HD.out.below hb)
          clear hb K4 x0 x1 xl hve HD
          obtain ⟨x0, x1, xl⟩ := K5.out.sp
          go_wp2_with fail
          refine (refSame_h vd ve (dotsI (its xs)) w5 HD2.out HE.out).mono ?_
          rintro e w6 ⟨rfl, hb⟩
          have K6 := Lib.hid (K5.out.next hb)
          clear hb K5 x0 x1 xl
          obtain ⟨x0, x1, xl⟩ := K6.out.sp
          go_wp2_with fail
          clear HD2 HE
          have KB := Lib.hid K6.out.bel
          clear K6 x0 x1 xl
          have hm20 : xs.length ≤ 100 := F1.out.1
          go_loopw [11, 81] (fun _ i wr => ∃ k : Nat, k ≤ xs.length ∧ i = .int .i64 k ∧ Hid (Below w.heap.size w wr)) (fun _ i _ => xs.length - (intOf i).toNat)
          case atStart => exact ⟨0, by omega, rfl, KB⟩
          case round =>
            clear KB
            obtain ⟨k, hk, rfl, hb⟩ := hrel
            by_cases hlt : k < xs.length
            · have i0 : (k : Int) < (xs.length : Int) := by omega
              obtain ⟨bb, off, x, rfl, hbl, hx1, _, hc0, hc1, hok⟩ := (HAT.out.below hb.out).cells (j := k) hlt
              have FX := Lib.hid (F1.out.2 x (List.mem_of_getElem? hx1))
              have F2 := Lib.hid (show Fits [x] from ⟨by simp, fun y hy => by
                obtain rfl : y = x := by simpa using hy
                exact FX.out⟩)
              have KX := Lib.hid (KZ.push (L := []) (w := w) (W := wr) ⟨fun p hp => (by cases hp), hb.out⟩ x hok wr.heap.size rfl)
              obtain ⟨b, hbv⟩ : ∃ b, okI x.it = b := ⟨_, rfl⟩
              obtain ⟨m, n, hmn⟩ : ∃ m n, newR x.ms = (m, n) := ⟨_, _, rfl⟩
              have HBV := Lib.hid hbv
              have HMN := Lib.hid hmn
              clear hx1 hok hb hbv hmn
              go_wp2_with fail
              obtain ⟨gx, hgx⟩ : ∃ g, wr.heap.size = g := ⟨_, rfl⟩
              rw [hgx] at KX ⊢
              clear hc0 hc1 hbl
              clear hgx
              generalize World.alloc wr _ = wa at KX ⊢
              obtain ⟨c0, c1, cl⟩ := KZ.sp1 KX.out
              refine (refOne_h x b wa (KX.out.ok (g := gx) (by simp)) F2.out HBV.out).mono ?_
              rintro e wb ⟨rfl, hb⟩
              have KY := Lib.hid (KX.out.next hb)
              clear hb KX c0 c1 cl
              obtain ⟨c0, c1, cl⟩ := KZ.sp1 KY.out
              cases b with
              | false =>
                go_wp2_with fail
                refine (has_x x 0 2 2 wb (KY.out.ok (g := gx) (by simp)) rfl FX.out (qty_bad HBV.out)).mono ?_
                rintro e wc ⟨rfl, hb⟩
                have KW2 := Lib.hid (KY.out.next hb).bel
                clear hb KY c0 c1 cl
                go_wp2_with fail
                go_roundw
                case rel => exact ⟨k + 1, by omega, by go_num, KW2⟩
                case measure => simp [intOf]; omega
              | true =>
                have HQ := Lib.hid fun p => refQty9 x m n (far wb p) ((KY.out.ok (g := gx) (by simp)).below (below_far wb p)) HMN.out
                have HH := Lib.hid fun p => has_x x m.q 0 0 (far wb p) ((KY.out.ok (g := gx) (by simp)).below (below_far wb p)) rfl FX.out (qty_of_newR HBV.out HMN.out)
                have l0 := fun p => cell_far (p := p) cl c0
                have l1 := fun p => cell_far (p := p) cl c1
                go_wp2_with fail
                refine wp_region_far (by kernel_rfl) (by kernel_rfl) ?_
                repeat (go_big_quiet_step ((first | (go_at_call 26; exact OneB.far (HQ.out _)) | (go_at_call 25; exact OneB.far (HH.out _)))))
                refine wpQuiet_nil ?_
                rintro _ ⟨p, rfl⟩
                have KW2 := Lib.hid (KY.out.next (below_far wb p)).bel
                go_wp2_with fail
                go_roundw
                case rel => exact ⟨k + 1, by omega, by go_num, KW2⟩
                case measure => simp [intOf]; omega
            · have i0 : ¬ (k : Int) < (xs.length : Int) := by omega
              clear hlt
              go_wp2_with fail
              refine (known9 _).mono ?_
              rintro e wz ⟨rfl, hbz⟩
              have KZZ := Lib.hid (below_trans hb.out hbz)
              clear hbz hb
              go_wp2_with fail
              go_ret
              exact ⟨rfl, KZZ.out⟩
      · have HF := Lib.hid hk3
        have HG := Lib.hid hk4
        clear hk2 hk3 hk4
        go_wp2_with fail
        refine (refFind_h (.slice A xs.length cap) xs nm (-1) w0 (HA.out.below K0.out.bel) F1.out.le HF.out).mono ?_
        rintro e wq ⟨rfl, rfl⟩
        go_wp2_with fail
        refine (lawFinds (.slice A xs.length cap) xs nm ItV.zero 9 w0 (HA.out.below K0.out.bel) ⟨SlAt.nil, by simp [ItV.zero], by simp [ItV.zero, maxLen]⟩ F1.out HG.out).mono ?_
        rintro e w1 ⟨rfl, hb⟩
        have K1 := Lib.hid (K0.out.next hb)
        clear hb K0 x0 x1 xl HF HG
        obtain ⟨x0, x1, xl⟩ := K1.out.sp
        go_wp2_with fail
        obtain ⟨o, ho⟩ : ∃ o, ownerL (its xs) r c = o := ⟨_, rfl⟩
        have HO := Lib.hid ho
        clear ho
        cases o with
        | none =>
          refine (refOwner_h (.slice A xs.length cap) xs r c (.tuple #[.string ⟨#[]⟩, .bool false]) w1 (HA.out.below K1.out.bel) F1.out.le (by rw [HO.out]; rfl)).mono ?_
          rintro e w2 ⟨rfl, hb⟩
          have K2 := Lib.hid (K1.out.next hb)
          clear hb K1 x0 x1 xl
          obtain ⟨x0, x1, xl⟩ := K2.out.sp
          go_wp2_with fail
          refine (lawOwns (.slice A xs.length cap) xs r c [] 9 w2 (HA.out.below K2.out.bel) F1.out (ownV_none HO.out)).mono ?_
          rintro e w3 ⟨rfl, hb⟩
          have K3 := Lib.hid (K2.out.next hb)
          clear hb K2 x0 x1 xl
          obtain ⟨x0, x1, xl⟩ := K3.out.sp
          go_wp2_with fail
          refine (itDots_h (.slice A xs.length cap) xs w3 (HA.out.below K3.out.bel) F1.out).mono ?_
          rintro e w4 ⟨⟨vd, rfl, hvd⟩, hb⟩
          have K4 := Lib.hid (K3.out.next hb)
          have HD := Lib.hid hvd
          clear hb K3 x0 x1 xl hvd
          obtain ⟨x0, x1, xl⟩ := K4.out.sp
          go_wp2_with fail
          refine (refDots_h (.slice A xs.length cap) xs w4 (HA.out.below K4.out.bel) F1.out).mono ?_
          rintro e w5 ⟨⟨ve, rfl, hve⟩, hb⟩
          have K5 := Lib.hid (K4.out.next hb)
          have HE := Lib.hid hve
          have HD2 := Lib.hid (HD.out.below hb)
          clear hb K4 x0 x1 xl hve HD
          obtain ⟨x0, x1, xl⟩ := K5.out.sp
          go_wp2_with fail
          refine (refSame_h vd ve (dotsI (its xs)) w5 HD2.out HE.out).mono ?_
          rintro e w6 ⟨rfl, hb⟩
          have K6 := Lib.hid (K5.out.next hb)
          clear hb K5 x0 x1 xl
          obtain ⟨x0, x1, xl⟩ := K6.out.sp
          go_wp2_with fail
          clear HD2 HE
          have KB := Lib.hid K6.out.bel
          clear K6 x0 x1 xl
          have hm20 : xs.length ≤ 100 := F1.out.1
          go_loopw [11, 81] (fun _ i wr => ∃ k : Nat, k ≤ xs.length ∧ i = .int .i64 k ∧ Hid (Below w.heap.size w wr)) (fun _ i _ => xs.length - (intOf i).toNat)
          case atStart => exact ⟨0, by omega, rfl, KB⟩
          case round =>
            clear KB
            obtain ⟨k, hk, rfl, hb⟩ := hrel
            by_cases hlt : k < xs.length
            · have i0 : (k : Int) < (xs.length : Int) := by omega
              obtain ⟨bb, off, x, rfl, hbl, hx1, _, hc0, hc1, hok⟩ := (HAT.out.below hb.out).cells (j := k) hlt
              have FX := Lib.hid (F1.out.2 x (List.mem_of_getElem? hx1))
              have F2 := Lib.hid (show Fits [x] from ⟨by simp, fun y hy => by
                obtain rfl : y = x := by simpa using hy
                exact FX.out⟩)
              have KX := Lib.hid (KZ.push (L := []) (w := w) (W := wr) ⟨fun p hp => (by cases hp), hb.out⟩ x hok wr.heap.size rfl)
              obtain ⟨b, hbv⟩ : ∃ b, okI x.it = b := ⟨_, rfl⟩
              obtain ⟨m, n, hmn⟩ : ∃ m n, newR x.ms = (m, n) := ⟨_, _, rfl⟩
              have HBV := Lib.hid hbv
              have HMN := Lib.hid hmn
              clear hx1 hok hb hbv hmn
              go_wp2_with fail
              obtain ⟨gx, hgx⟩ : ∃ g, wr.heap.size = g := ⟨_, rfl⟩
              rw [hgx] at KX ⊢
              clear hc0 hc1 hbl
              clear hgx
              generalize World.alloc wr _ = wa at KX ⊢
              obtain ⟨c0, c1, cl⟩ := KZ.sp1 KX.out
              refine (refOne_h x b wa (KX.out.ok (g := gx) (by simp)) F2.out HBV.out).mono ?_
              rintro e wb ⟨rfl, hb⟩
              have KY := Lib.hid (KX.out.next hb)
              clear hb KX c0 c1 cl
              obtain ⟨c0, c1, cl⟩ := KZ.sp1 KY.out
              cases b with
              | false =>
                go_wp2_with fail
                refine (has_x x 0 2 2 wb (KY.out.ok (g := gx) (by simp)) rfl FX.out (qty_bad HBV.out)).mono ?_
                rintro e wc ⟨rfl, hb⟩
                have KW2 := Lib.hid (KY.out.next hb).bel
                clear hb KY c0 c1 cl
                go_wp2_with fail
                go_roundw
                case rel => exact ⟨k + 1, by omega, by go_num, KW2⟩
                case measure => simp [intOf]; omega
              | true =>
                have HQ := Lib.hid fun p => refQty9 x m n (far wb p) ((KY.out.ok (g := gx) (by simp)).below (below_far wb p)) HMN.out
                have HH := Lib.hid fun p => has_x x m.q 0 0 (far wb p) ((KY.out.ok (g := gx) (by simp)).below (below_far wb p)) rfl FX.out (qty_of_newR HBV.out HMN.out)
                have l0 := fun p => cell_far (p := p) cl c0
                have l1 := fun p => cell_far (p := p) cl c1
                go_wp2_with fail
                refine wp_region_far (by kernel_rfl) (by kernel_rfl) ?_
                repeat (go_big_quiet_step ((first | (go_at_call 26; exact OneB.far (HQ.out _)) | (go_at_call 25; exact OneB.far (HH.out _)))))
                refine wpQuiet_nil ?_
                rintro _ ⟨p, rfl⟩
                have KW2 := Lib.hid (KY.out.next (below_far wb p)).bel
                go_wp2_with fail
                go_roundw
                case rel => exact ⟨k + 1, by omega, by go_num, KW2⟩
                case measure => simp [intOf]; omega
            · have i0 : ¬ (k : Int) < (xs.length : Int) := by omega
              clear hlt
              go_wp2_with fail
              refine (known9 _).mono ?_
              rintro e wz ⟨rfl, hbz⟩
              have KZZ := Lib.hid (below_trans hb.out hbz)
              clear hbz hb
              go_wp2_with fail
              go_ret
              exact ⟨rfl, KZZ.out⟩
        | some s =>
          refine (refOwner_h (.slice A xs.length cap) xs r c (.tuple #[.string ⟨s.toArray⟩, .bool true]) w1 (HA.out.below K1.out.bel) F1.out.le (by rw [HO.out]; rfl)).mono ?_
          rintro e w2 ⟨rfl, hb⟩
          have K2 := Lib.hid (K1.out.next hb)
          clear hb K1 x0 x1 xl
          obtain ⟨x0, x1, xl⟩ := K2.out.sp
          go_wp2_with fail
          refine (lawOwns (.slice A xs.length cap) xs r c s 0 w2 (HA.out.below K2.out.bel) F1.out (ownV_some HO.out)).mono ?_
          rintro e w3 ⟨rfl, hb⟩
          have K3 := Lib.hid (K2.out.next hb)
          clear hb K2 x0 x1 xl
          obtain ⟨x0, x1, xl⟩ := K3.out.sp
          go_wp2_with fail
          refine (itDots_h (.slice A xs.length cap) xs w3 (HA.out.below K3.out.bel) F1.out).mono ?_
          rintro e w4 ⟨⟨vd, rfl, hvd⟩, hb⟩
          have K4 := Lib.hid (K3.out.next hb)
          have HD := Lib.hid hvd
          clear hb K3 x0 x1 xl hvd
          obtain ⟨x0, x1, xl⟩ := K4.out.sp
          go_wp2_with fail
          refine (refDots_h (.slice A xs.length cap) xs w4 (HA.out.below K4.out.bel) F1.out).mono ?_
          rintro e w5 ⟨⟨ve, rfl, hve⟩, hb⟩
          have K5 := Lib.hid (K4.out.next hb)
          have HE := Lib.hid hve
          have HD2 := Lib.hid (HD.out.below hb)
          clear hb K4 x0 x1 xl hve HD
          obtain ⟨x0, x1, xl⟩ := K5.out.sp
          go_wp2_with fail
          refine (refSame_h vd ve (dotsI (its xs)) w5 HD2.out HE.out).mono ?_
          rintro e w6 ⟨rfl, hb⟩
          have K6 := Lib.hid (K5.out.next hb)
          clear hb K5 x0 x1 xl
          obtain ⟨x0, x1, xl⟩ := K6.out.sp
          go_wp2_with fail
          clear HD2 HE
          have KB := Lib.hid K6.out.bel
          clear K6 x0 x1 xl
          have hm20 : xs.length ≤ 100 := F1.out.1
          go_loopw [11, 81] (fun _ i wr => ∃ k : Nat, k ≤ xs.length ∧ i = .int .i64 k ∧ Hid (Below w.heap.size w wr)) (fun _ i _ => xs.length - (intOf i).toNat)
          case atStart => exact ⟨0, by omega, rfl, KB⟩
          case round =>
            clear KB
            obtain ⟨k, hk, rfl, hb⟩ := hrel
            by_cases hlt : k < xs.length
            · have i0 : (k : Int) < (xs.length : Int) := by omega
              obtain ⟨bb, off, x, rfl, hbl, hx1, _, hc0, hc1, hok⟩ := (HAT.out.below hb.out).cells (j := k) hlt
              have FX := Lib.hid (F1.out.2 x (List.mem_of_getElem? hx1))
              have F2 := Lib.hid (show Fits [x] from ⟨by simp, fun y hy => by
                obtain rfl : y = x := by simpa using hy
                exact FX.out⟩)
              have KX := Lib.hid (KZ.push (L := []) (w := w) (W := wr) ⟨fun p hp => (by cases hp), hb.out⟩ x hok wr.heap.size rfl)
              obtain ⟨b, hbv⟩ : ∃ b, okI x.it = b := ⟨_, rfl⟩
              obtain ⟨m, n, hmn⟩ : ∃ m n, newR x.ms = (m, n) := ⟨_, _, rfl⟩
              have HBV := Lib.hid hbv
              have HMN := Lib.hid hmn
              clear hx1 hok hb hbv hmn
              go_wp2_with fail
              obtain ⟨gx, hgx⟩ : ∃ g, wr.heap.size = g := ⟨_, rfl⟩
              rw [hgx] at KX ⊢
              clear hc0 hc1 hbl
              clear hgx
              generalize World.alloc wr _ = wa at KX ⊢
              obtain ⟨c0, c1, cl⟩ := KZ.sp1 KX.out
              refine (refOne_h x b wa (KX.out.ok (g := gx) (by simp)) F2.out HBV.out).mono ?_
              rintro e wb ⟨rfl, hb⟩
              have KY := Lib.hid (KX.out.next hb)
              clear hb KX c0 c1 cl
              obtain ⟨c0, c1, cl⟩ := KZ.sp1 KY.out
              cases b with
              | false =>
                go_wp2_with fail
                refine (has_x x 0 2 2 wb (KY.out.ok (g := gx) (by simp)) rfl FX.out (qty_bad HBV.out)).mono ?_
                rintro e wc ⟨rfl, hb⟩
                have KW2 := Lib.hid (KY.out.next hb).bel
                clear hb KY c0 c1 cl
                go_wp2_with fail
                go_roundw
                case rel => exact ⟨k + 1, by omega, by go_num, KW2⟩
                case measure => simp [intOf]; omega
              | true =>
                have HQ := Lib.hid fun p => refQty9 x m n (far wb p) ((KY.out.ok (g := gx) (by simp)).below (below_far wb p)) HMN.out
                have HH := Lib.hid fun p => has_x x m.q 0 0 (far wb p) ((KY.out.ok (g := gx) (by simp)).below (below_far wb p)) rfl FX.out (qty_of_newR HBV.out HMN.out)
                have l0 := fun p => cell_far (p := p) cl c0
                have l1 := fun p => cell_far (p := p) cl c1
                go_wp2_with fail
                refine wp_region_far (by kernel_rfl) (by kernel_rfl) ?_
                repeat (go_big_quiet_step ((first | (go_at_call 26; exact OneB.far (HQ.out _)) | (go_at_call 25; exact OneB.far (HH.out _)))))
                refine wpQuiet_nil ?_
                rintro _ ⟨p, rfl⟩
                have KW2 := Lib.hid (KY.out.next (below_far wb p)).bel
                go_wp2_with fail
                go_roundw
                case rel => exact ⟨k + 1, by omega, by go_num, KW2⟩
                case measure => simp [intOf]; omega
            · have i0 : ¬ (k : Int) < (xs.length : Int) := by omega
              clear hlt
              go_wp2_with fail
              refine (known9 _).mono ?_
              rintro e wz ⟨rfl, hbz⟩
              have KZZ := Lib.hid (below_trans hb.out hbz)
              clear hbz hb
              go_wp2_with fail
              go_ret
              exact ⟨rfl, KZZ.out⟩
    · have j1 : (100 : Int) < (nm.length : Int) := by omega
      go_wp2_with fail
      refine (known9 _).mono ?_
      rintro e wz ⟨rfl, hb⟩
      have KZZ := Lib.hid (below_trans K0.out.bel hb)
      clear hb K0 x0 x1 xl
      go_wp2_with fail
      go_ret
      exact ⟨rfl, KZZ.out⟩

end Go.Proofs.YtfbkhgajlklleaaGreat
