/- Several texts in one: DelB. -/
import Derived.Test.YtiaehpdgpjhecaaGreatMBA
namespace Go.Proofs.YtiaehpdgpjhecaaGreat

section
open Go.RowKit

/-- A cart and a dot in boxes, the box of the result. -/
structure KPt (w : World) (c : CaV) (r s : Int) (W : World) : Prop where
  k : KFr w c r s W
  res : BlkC W (w.heap.size + 2) zC
section
variable {w W W' : World} {c : CaV} {r s : Int}
theorem KPt.next (h : KPt w c r s W) (hb : Below W.heap.size W W') : KPt w c r s W' := ⟨h.k.next hb, h.res.below hb⟩
theorem KPt.sp (h : KPt w c r s W) : W.cell? ⟨w.heap.size, 0, none⟩ = some c.v ∧ W.cell? ⟨w.heap.size, 1, none⟩ = some c.l ∧ W.cell? ⟨w.heap.size, 2, none⟩ = some c.i ∧ W.cell? ⟨w.heap.size + 1, 0, none⟩ = some (.int .i64 r) ∧ W.cell? ⟨w.heap.size + 1, 1, none⟩ = some (.int .i64 s) ∧ w.heap.size < W.heap.size ∧ w.heap.size + 1 < W.heap.size := h.k.sp
theorem KPt.ok (h : KPt w c r s W) : CaOK W c := h.k.ok
theorem KPt.bel (h : KPt w c r s W) : Below w.heap.size w W := h.k.bel
theorem KPt.new (w : World) (c : CaV) (r s : Int) (hc : CaOK w c) : KPt w c r s (((w.alloc (.cells #[c.v, c.l, c.i] 28)).alloc (.cells #[.int .i64 r, .int .i64 s] 30)).alloc (.cells #[zC.v, zC.l, zC.i] 28)) := by
  have h := BlkC.new ((w.alloc (.cells #[c.v, c.l, c.i] 28)).alloc (.cells #[.int .i64 r, .int .i64 s] 30)) zC
  rw [World.size_alloc, World.size_alloc] at h
  exact ⟨(KFr.new w c r s hc).next ((Below.refl _ _).alloc (Nat.le_refl _) _), h⟩
end
/-- A cart in its box, the box of the result. -/
structure KRm (w : World) (c : CaV) (W : World) : Prop where
  cart : BlkC W w.heap.size c
  ok : CaOK W c
  res : BlkC W (w.heap.size + 1) zC
  bel : Below w.heap.size w W
section
variable {w W W' : World} {c : CaV}
theorem KRm.next (h : KRm w c W) (hb : Below W.heap.size W W') : KRm w c W' := ⟨h.cart.below hb, h.ok.below hb, h.res.below hb, below_trans h.bel hb⟩
theorem KRm.sp (h : KRm w c W) : W.cell? ⟨w.heap.size, 0, none⟩ = some c.v ∧ W.cell? ⟨w.heap.size, 1, none⟩ = some c.l ∧ W.cell? ⟨w.heap.size, 2, none⟩ = some c.i ∧ w.heap.size < W.heap.size := ⟨h.cart.cell0, h.cart.cell1, h.cart.cell2, h.cart.lt⟩
theorem KRm.new (w : World) (c : CaV) (hc : CaOK w c) : KRm w c ((w.alloc (.cells #[c.v, c.l, c.i] 28)).alloc (.cells #[zC.v, zC.l, zC.i] 28)) := by
  have h1 := (Below.refl w.heap.size w).alloc (Nat.le_refl _) (.cells #[c.v, c.l, c.i] 28)
  have h2 := (Below.refl _ (w.alloc (.cells #[c.v, c.l, c.i] 28))).alloc (Nat.le_refl _) (.cells #[zC.v, zC.l, zC.i] 28)
  have h := BlkC.new (w.alloc (.cells #[c.v, c.l, c.i] 28)) zC
  rw [World.size_alloc] at h
  exact ⟨(BlkC.new w c).below h2, (hc.below h1).below h2, h, below_trans h1 h2⟩
end
theorem own_lit (W : World) (r s : Int) : RowC (W.alloc (.cells #[.int .i64 r, .int .i64 s] 30)) W.heap.size (.slice (some ⟨W.heap.size, 0, none⟩) 1 1) [(r, s)] :=
  ⟨rfl, .inr ⟨W.heap.size, 1, #[.int .i64 r, .int .i64 s], rfl, Nat.le_refl _, heap_alloc_new W _, Nat.le_refl _, by simp [maxLen], rfl, rfl⟩⟩
/-- The delta's item is put into its box, the result is filled (the walk spells the stores first). -/
theorem put_item {W : World} {g b : Nat} {z : CaV} (hz : CaOK W z) (hb : BlkC W b z) (hr : BlkC W g zC) (hne : b ≠ g) (nm : List UInt8) (m : Mk) (F : World)
    (hF : F = (((((W.setCell ⟨b, 2, none⟩ (.slice (some ⟨W.heap.size + 1, 0, none⟩) 1 1)).setCell ⟨g, 0, none⟩ z.v).setCell ⟨g, 1, none⟩ z.l).setCell ⟨g, 2, none⟩ (.slice (some ⟨W.heap.size + 1, 0, none⟩) 1 1)).alloc (.cells #[.int .i64 m.r, .int .i64 m.c, .int .i64 m.q, .int .u64 (m.t : Int)] 55)).alloc (.cells #[.string ⟨nm.toArray⟩, .slice (some ⟨W.heap.size, 0, none⟩) 1 1] 50)) :
    F.cell? ⟨g, 0, none⟩ = some z.v ∧ F.cell? ⟨g, 1, none⟩ = some z.l ∧ F.cell? ⟨g, 2, none⟩ = some (.slice (some ⟨W.heap.size + 1, 0, none⟩) 1 1) ∧
      CaOK F ⟨z.V, z.nv, z.vs, z.L, z.nl, z.ls, some ⟨W.heap.size + 1, 0, none⟩, 1, [⟨nm, some ⟨W.heap.size, 0, none⟩, 1, [m]⟩]⟩ ∧ (∀ B w, B ≤ g → B ≤ b → Below B w W → Below B w F) := by
  have hblt := hb.lt
  have hglt := hr.lt
  have hk : ∀ k, k ≠ b → (W.setCell ⟨b, 2, none⟩ (.slice (some ⟨W.heap.size + 1, 0, none⟩) 1 1)).heap[k]? = W.heap[k]? := fun k hk => Below.heap_setCell W ⟨b, 2, none⟩ _ k hk
  have hok1 : CaOK (W.setCell ⟨b, 2, none⟩ (.slice (some ⟨W.heap.size + 1, 0, none⟩) 1 1)) z := hz.off_only hb (by simp) hk
  have hr1 : BlkC (W.setCell ⟨b, 2, none⟩ (.slice (some ⟨W.heap.size + 1, 0, none⟩) 1 1)) g zC := (hk g (Ne.symm hne)).trans hr
  have hbl1 : ∀ B w, B ≤ g → B ≤ b → Below B w W → Below B w (W.setCell ⟨b, 2, none⟩ (.slice (some ⟨W.heap.size + 1, 0, none⟩) 1 1)) := fun B w _ h h' => Below.setCell (p := ⟨b, 2, none⟩) h' h _
  have hs1 : (W.setCell ⟨b, 2, none⟩ (.slice (some ⟨W.heap.size + 1, 0, none⟩) 1 1)).heap.size = W.heap.size := by simp
  generalize hW1 : W.setCell ⟨b, 2, none⟩ (.slice (some ⟨W.heap.size + 1, 0, none⟩) 1 1) = W1 at *
  have hfill := BlkC.fill hr1 z.v z.l (.slice (some ⟨W.heap.size + 1, 0, none⟩) 1 1)
  have hok2 : CaOK (((W1.setCell ⟨g, 0, none⟩ z.v).setCell ⟨g, 1, none⟩ z.l).setCell ⟨g, 2, none⟩ (.slice (some ⟨W.heap.size + 1, 0, none⟩) 1 1)) z := hok1.off_only hr1 (by simp) (fun k hk => set3_other W1 g k _ _ _ hk)
  have hbl2 : ∀ B w, B ≤ g → B ≤ b → Below B w W → Below B w (((W1.setCell ⟨g, 0, none⟩ z.v).setCell ⟨g, 1, none⟩ z.l).setCell ⟨g, 2, none⟩ (.slice (some ⟨W.heap.size + 1, 0, none⟩) 1 1)) := fun B w h h' h'' => below_fill (hbl1 B w h h' h'') h _ _ _
  have hs2 : (((W1.setCell ⟨g, 0, none⟩ z.v).setCell ⟨g, 1, none⟩ z.l).setCell ⟨g, 2, none⟩ (.slice (some ⟨W.heap.size + 1, 0, none⟩) 1 1)).heap.size = W.heap.size := by simpa using hs1
  generalize hW2 : ((W1.setCell ⟨g, 0, none⟩ z.v).setCell ⟨g, 1, none⟩ z.l).setCell ⟨g, 2, none⟩ (.slice (some ⟨W.heap.size + 1, 0, none⟩) 1 1) = W2 at *
  have a1 := (Below.refl W2.heap.size W2).alloc (Nat.le_refl _) (.cells #[.int .i64 m.r, .int .i64 m.c, .int .i64 m.q, .int .u64 (m.t : Int)] 55)
  have a2 := (Below.refl _ (W2.alloc (.cells #[.int .i64 m.r, .int .i64 m.c, .int .i64 m.q, .int .u64 (m.t : Int)] 55))).alloc (Nat.le_refl _) (.cells #[.string ⟨nm.toArray⟩, .slice (some ⟨W.heap.size, 0, none⟩) 1 1] 50)
  have n1 : MarksAt (W2.alloc (.cells #[.int .i64 m.r, .int .i64 m.c, .int .i64 m.q, .int .u64 (m.t : Int)] 55)) (some ⟨W2.heap.size, 0, none⟩) [m] := SlAt.one (enc := encM) (heap_alloc_new W2 _)
  have n2 := heap_alloc_new (W2.alloc (.cells #[.int .i64 m.r, .int .i64 m.c, .int .i64 m.q, .int .u64 (m.t : Int)] 55)) (.cells #[.string ⟨nm.toArray⟩, .slice (some ⟨W.heap.size, 0, none⟩) 1 1] 50)
  rw [World.size_alloc, hs2] at n2
  rw [hs2] at n1
  have a12 := below_trans a1 a2
  have hg2 : F.heap[g]? = some (.cells #[z.v, z.l, .slice (some ⟨W.heap.size + 1, 0, none⟩) 1 1] 28 (0, 0)) := by
    rw [hF]
    exact (a12.block g (by rw [hs2]; exact hglt)).trans hfill
  subst hF
  refine ⟨by simp only [World.cell?, hg2]; rfl, by simp only [World.cell?, hg2]; rfl, by simp only [World.cell?, hg2]; rfl, ⟨hok2.1.below a12, hok2.2.1.below a12, _, 1, rfl, ⟨SlAt.one (enc := encIt) n2, fun x hx => ?_⟩, by simp, by simp [maxLen]⟩, fun B w h h' h'' => ?_⟩
  · obtain rfl : x = ⟨nm, some ⟨W.heap.size, 0, none⟩, 1, [m]⟩ := by simpa using hx
    exact ⟨n1.below a2, by simp, by simp [maxLen]⟩
  · exact Below.trans (hbl2 B w h h' h'') (a12.mono (by rw [hs2]; exact Nat.le_trans h (Nat.le_of_lt hglt)))
set_option maxRecDepth 100000 in
set_option maxHeartbeats 8000000 in
theorem refClear12 (c : CaV) (w : World) (hc : CaOK w c) (hf : FitsK c) :
    Calls Tryz.prog 17 #[mkC c] w (MadeD (cleD c.ca) (cleE c.ca) w) := by
  have K0 := Lib.hid (KRm.new w c hc)
  obtain ⟨v, hv⟩ : ∃ v, validK c.ca = v := ⟨_, rfl⟩
  have HV := Lib.hid hv
  have HF := Lib.hid hf
  clear hc hf hv
  cases v with
  | false =>
    have HE : cleE c.ca = 2 := by unfold cleE; rw [HV.out]; rfl
    rw [HE]
    have HZ := Lib.hid (show cleD c.ca = zC.ca from cleD_f (by rw [HE]; decide))
    clear HE
    go_enter Tryz.func17, Tryz.ntmps17
    go_upto_region 1 with fail
    generalize World.alloc (World.alloc w _) _ = w2 at K0 ⊢
    obtain ⟨x0, x1, x2, xl⟩ := K0.out.sp
    go_wp2_with fail
    refine (refValid10 c false w2 K0.out.ok HF.out.1 HV.out).mono ?_
    rintro e w3 ⟨rfl, hb⟩
    have K1 := Lib.hid (K0.out.next hb)
    clear hb K0 x0 x1 x2 xl
    obtain ⟨z0, z1, z2, f0, f1, f2⟩ := results_zero K1.out.res
    have hrl := K1.out.res.lt
    have HFA := Lib.hid (fill_cells K1.out.res (.slice none 0 0) (.slice none 0 0) (.slice none 0 0))
    have KB := Lib.hid (below_fill K1.out.bel (Nat.le_add_right _ 1) (.slice none 0 0) (.slice none 0 0) (.slice none 0 0))
    clear K1
    go_wp2_with fail
    obtain ⟨s0, s1, s2⟩ := HFA.out
    exact bodyPost_ret (v := .tuple #[mkC zC, .int .i64 2]) (by simp [results, Tryz.results17, go_sem, s0, s1, s2]) rfl ⟨⟨zC, rfl, HZ.out.symm, zC_ok _⟩, KB.out⟩
  | true =>
    have HE : cleE c.ca = 0 := by unfold cleE; rw [HV.out]; rfl
    rw [HE]
    have HZ := Lib.hid (show cleD c.ca = goneD (dotsK (its c.xs) []) from by rw [cleD_t HE, dotsC_t HV.out]; rfl)
    have HDV := Lib.hid (show ∀ p ∈ dotsK (its c.xs) [], validD p.1 p.2 = true from fun p hp => dotsC_valid (c := c.ca) HV.out (nm := []) p (by rw [dotsC_t HV.out]; exact hp))
    have HDL := Lib.hid (dotsK_size (nm := []) HF.out)
    clear HE
    go_enter Tryz.func17, Tryz.ntmps17
    go_upto_region 1 with fail
    generalize World.alloc (World.alloc w _) _ = w2 at K0 ⊢
    obtain ⟨x0, x1, x2, xl⟩ := K0.out.sp
    go_wp2_with fail
    refine (refValid10 c true w2 K0.out.ok HF.out.1 HV.out).mono ?_
    rintro e w3 ⟨rfl, hb⟩
    have K1 := Lib.hid (K0.out.next hb)
    clear hb K0 x0 x1 x2 xl
    obtain ⟨x0, x1, x2, xl⟩ := K1.out.sp
    go_wp2_with fail
    refine (refDots10 c [] w3 K1.out.ok HF.out.1).mono ?_
    rintro e w4 ⟨⟨u, rfl, hu⟩, hb⟩
    have K2 := Lib.hid (K1.out.next hb)
    have HU := Lib.hid hu
    clear hb hu K1 x0 x1 x2 xl
    go_wp2_with fail
    refine (refGone12 u _ _ HU.out HDV.out HDL.out).mono ?_
    rintro e w5 ⟨⟨z, rfl, hz, ho⟩, hb⟩
    have K3 := Lib.hid (K2.out.next hb)
    have HZZ := Lib.hid hz
    clear hb hz K2 HU
    obtain ⟨z0, z1, z2, f0, f1, f2⟩ := results_zero K3.out.res
    have hrl := K3.out.res.lt
    have HFA := Lib.hid (fill_cells K3.out.res z.v z.l z.i)
    have KB := Lib.hid (below_fill K3.out.bel (Nat.le_add_right _ 1) z.v z.l z.i)
    obtain ⟨_, _, t3⟩ := store_cart K3.out.res ho
    have HOK := Lib.hid t3
    clear K3 ho t3
    go_wp2_with fail
    obtain ⟨s0, s1, s2⟩ := HFA.out
    exact bodyPost_ret (v := .tuple #[mkC z, .int .i64 0]) (by simp [results, Tryz.results17, go_sem, s0, s1, s2]) rfl ⟨⟨z, rfl, by rw [HZZ.out, HZ.out], HOK.out⟩, KB.out⟩

set_option maxRecDepth 100000 in
set_option maxHeartbeats 8000000 in
theorem refRemove12 (c : CaV) (nm : List UInt8) (w : World) (hc : CaOK w c) (hf : FitsK c) (hl : nm.length ≤ 1000) :
    Calls Tryz.prog 16 #[mkC c, .string ⟨nm.toArray⟩] w (MadeD (remD c.ca nm) (remE c.ca nm) w) := by
  have K0 := Lib.hid (KRm.new w c hc)
  obtain ⟨v, hv⟩ : ∃ v, validK c.ca = v := ⟨_, rfl⟩
  obtain ⟨i, hi⟩ : ∃ i, itemN nm = i := ⟨_, rfl⟩
  have HV := Lib.hid hv
  have HI := Lib.hid hi
  have HF := Lib.hid hf
  have HL := Lib.hid hl
  have HIT := Lib.hid fun W => (show Calls Tryz.prog 42 #[.string ⟨nm.toArray⟩] W (One (.bool i) W) from hi ▸ refItem nm W hl)
  clear hc hf hv hi hl
  cases v with
  | false =>
    have HE : remE c.ca nm = 2 := by unfold remE; rw [HV.out]; rfl
    rw [HE]
    have HZ := Lib.hid (show remD c.ca nm = zC.ca from remD_f (by rw [HE]; decide))
    clear HE
    go_enter Tryz.func16, Tryz.ntmps16
    go_upto_region 1 with fail
    generalize World.alloc (World.alloc w _) _ = w2 at K0 ⊢
    obtain ⟨x0, x1, x2, xl⟩ := K0.out.sp
    go_wp2_with fail
    refine (refValid10 c false w2 K0.out.ok HF.out.1 HV.out).mono ?_
    rintro e w3 ⟨rfl, hb⟩
    have K1 := Lib.hid (K0.out.next hb)
    clear hb K0 x0 x1 x2 xl
    obtain ⟨z0, z1, z2, f0, f1, f2⟩ := results_zero K1.out.res
    have hrl := K1.out.res.lt
    have HFA := Lib.hid (fill_cells K1.out.res (.slice none 0 0) (.slice none 0 0) (.slice none 0 0))
    have KB := Lib.hid (below_fill K1.out.bel (Nat.le_add_right _ 1) (.slice none 0 0) (.slice none 0 0) (.slice none 0 0))
    clear K1
    go_wp2_with fail
    obtain ⟨s0, s1, s2⟩ := HFA.out
    exact bodyPost_ret (v := .tuple #[mkC zC, .int .i64 2]) (by simp [results, Tryz.results16, go_sem, s0, s1, s2]) rfl ⟨⟨zC, rfl, HZ.out.symm, zC_ok _⟩, KB.out⟩
  | true =>
    cases i with
    | false =>
      have HE : remE c.ca nm = 2 := by unfold remE; rw [HV.out, HI.out]; rfl
      rw [HE]
      have HZ := Lib.hid (show remD c.ca nm = zC.ca from remD_f (by rw [HE]; decide))
      clear HE
      go_enter Tryz.func16, Tryz.ntmps16
      go_upto_region 1 with fail
      generalize World.alloc (World.alloc w _) _ = w2 at K0 ⊢
      obtain ⟨x0, x1, x2, xl⟩ := K0.out.sp
      go_wp2_with fail
      refine (refValid10 c true w2 K0.out.ok HF.out.1 HV.out).mono ?_
      rintro e w3 ⟨rfl, hb⟩
      have K1 := Lib.hid (K0.out.next hb)
      clear hb K0 x0 x1 x2 xl
      go_wp2_with fail
      refine (HIT.out w3).mono ?_
      rintro e w4 ⟨rfl, rfl⟩
      obtain ⟨z0, z1, z2, f0, f1, f2⟩ := results_zero K1.out.res
      have hrl := K1.out.res.lt
      have HFA := Lib.hid (fill_cells K1.out.res (.slice none 0 0) (.slice none 0 0) (.slice none 0 0))
      have KB := Lib.hid (below_fill K1.out.bel (Nat.le_add_right _ 1) (.slice none 0 0) (.slice none 0 0) (.slice none 0 0))
      clear K1
      go_wp2_with fail
      obtain ⟨s0, s1, s2⟩ := HFA.out
      exact bodyPost_ret (v := .tuple #[mkC zC, .int .i64 2]) (by simp [results, Tryz.results16, go_sem, s0, s1, s2]) rfl ⟨⟨zC, rfl, HZ.out.symm, zC_ok _⟩, KB.out⟩
    | true =>
      rcases find_any c.xs nm with ⟨k, hk, hany⟩ | ⟨hk, hany⟩
      · have HE : remE c.ca nm = 0 := by
          unfold remE thereN
          rw [HV.out, HI.out, show c.ca.2 = its c.xs from rfl, hany]; rfl
        rw [HE]
        have HZ := Lib.hid (show remD c.ca nm = goneD (dotsK (its c.xs) nm) from by rw [remD_t HE, dotsC_t HV.out]; rfl)
        have HDV := Lib.hid (show ∀ p ∈ dotsK (its c.xs) nm, validD p.1 p.2 = true from fun p hp => dotsC_valid (c := c.ca) HV.out (nm := nm) p (by rw [dotsC_t HV.out]; exact hp))
        have HDL := Lib.hid (dotsK_size (nm := nm) HF.out)
        have HK := Lib.hid hk
        have i0 : ¬ (k : Int) < 0 := by omega
        clear HE hk hany
        go_enter Tryz.func16, Tryz.ntmps16
        go_upto_region 1 with fail
        generalize World.alloc (World.alloc w _) _ = w2 at K0 ⊢
        obtain ⟨x0, x1, x2, xl⟩ := K0.out.sp
        go_wp2_with fail
        refine (refValid10 c true w2 K0.out.ok HF.out.1 HV.out).mono ?_
        rintro e w3 ⟨rfl, hb⟩
        have K1 := Lib.hid (K0.out.next hb)
        clear hb K0 x0 x1 x2 xl
        obtain ⟨x0, x1, x2, xl⟩ := K1.out.sp
        go_wp2_with fail
        refine (HIT.out w3).mono ?_
        rintro e w4 ⟨rfl, rfl⟩
        go_wp2_with fail
        refine (refFind9 c.I c.xs c.ni nm k _ K1.out.ok.items (by have := HF.out.1.1; omega) HK.out).mono ?_
        rintro e w4 ⟨rfl, rfl⟩
        go_wp2_with fail
        refine (refDots10 c nm _ K1.out.ok HF.out.1).mono ?_
        rintro e w4 ⟨⟨u, rfl, hu⟩, hb⟩
        have K2 := Lib.hid (K1.out.next hb)
        have HU := Lib.hid hu
        clear hb hu K1 x0 x1 x2 xl
        go_wp2_with fail
        refine (refGone12 u _ _ HU.out HDV.out HDL.out).mono ?_
        rintro e w5 ⟨⟨z, rfl, hz, ho⟩, hb⟩
        have K3 := Lib.hid (K2.out.next hb)
        have HZZ := Lib.hid hz
        clear hb hz K2 HU
        obtain ⟨z0, z1, z2, f0, f1, f2⟩ := results_zero K3.out.res
        have hrl := K3.out.res.lt
        have HFA := Lib.hid (fill_cells K3.out.res z.v z.l z.i)
        have KB := Lib.hid (below_fill K3.out.bel (Nat.le_add_right _ 1) z.v z.l z.i)
        obtain ⟨_, _, t3⟩ := store_cart K3.out.res ho
        have HOK := Lib.hid t3
        clear K3 ho t3
        go_wp2_with fail
        obtain ⟨s0, s1, s2⟩ := HFA.out
        exact bodyPost_ret (v := .tuple #[mkC z, .int .i64 0]) (by simp [results, Tryz.results16, go_sem, s0, s1, s2]) rfl ⟨⟨z, rfl, by rw [HZZ.out, HZ.out], HOK.out⟩, KB.out⟩
      · have HE : remE c.ca nm = 9 := by
          unfold remE thereN
          rw [HV.out, HI.out, show c.ca.2 = its c.xs from rfl, hany]; rfl
        rw [HE]
        have HZ := Lib.hid (show remD c.ca nm = zC.ca from remD_f (by rw [HE]; decide))
        have HK := Lib.hid hk
        clear HE hk hany
        go_enter Tryz.func16, Tryz.ntmps16
        go_upto_region 1 with fail
        generalize World.alloc (World.alloc w _) _ = w2 at K0 ⊢
        obtain ⟨x0, x1, x2, xl⟩ := K0.out.sp
        go_wp2_with fail
        refine (refValid10 c true w2 K0.out.ok HF.out.1 HV.out).mono ?_
        rintro e w3 ⟨rfl, hb⟩
        have K1 := Lib.hid (K0.out.next hb)
        clear hb K0 x0 x1 x2 xl
        obtain ⟨x0, x1, x2, xl⟩ := K1.out.sp
        go_wp2_with fail
        refine (HIT.out w3).mono ?_
        rintro e w4 ⟨rfl, rfl⟩
        go_wp2_with fail
        refine (refFind9 c.I c.xs c.ni nm (-1) _ K1.out.ok.items (by have := HF.out.1.1; omega) HK.out).mono ?_
        rintro e w4 ⟨rfl, rfl⟩
        obtain ⟨z0, z1, z2, f0, f1, f2⟩ := results_zero K1.out.res
        have hrl := K1.out.res.lt
        have HFA := Lib.hid (fill_cells K1.out.res (.slice none 0 0) (.slice none 0 0) (.slice none 0 0))
        have KB := Lib.hid (below_fill K1.out.bel (Nat.le_add_right _ 1) (.slice none 0 0) (.slice none 0 0) (.slice none 0 0))
        clear K1 x0 x1 x2 xl
        go_wp2_with fail
        obtain ⟨s0, s1, s2⟩ := HFA.out
        exact bodyPost_ret (v := .tuple #[mkC zC, .int .i64 9]) (by simp [results, Tryz.results16, go_sem, s0, s1, s2]) rfl ⟨⟨zC, rfl, HZ.out.symm, zC_ok _⟩, KB.out⟩

/-- What the values of Put's last region say. -/
def ptP (c : CaV) (nm : List UInt8) (r s : Int) : Nat → Value → World → Prop
  | 0, v, _ => v = .agg #[.int .i64 r, .int .i64 s]
  | 2, v, _ => v = mkC c
  | 3, v, _ => v = .string ⟨nm.toArray⟩
  | _, _, _ => True
theorem ptP_keep {c : CaV} {nm : List UInt8} {r s : Int} {j : Nat} {v : Value} {W W' : World} (h : ptP c nm r s j v W) : ptP c nm r s j v W' := by
  match j, h with
  | 0, h => exact h
  | 1, _ => exact trivial
  | 2, h => exact h
  | 3, h => exact h
  | j + 4, _ => exact trivial
abbrev ptX : Gx := ⟨1, 4, 5, 6, 7, 8, 64, 67, 68, 69, 15, 80⟩
theorem ptX_ok : ptX.ok := by constructor <;> decide

set_option maxRecDepth 100000 in
set_option maxHeartbeats 8000000 in
theorem refPut12 (c : CaV) (r s : Int) (nm : List UInt8) (q : Int) (set : Bool) (w : World) (hc : CaOK w c) (hf : FitsK c) (hdn : (dotsI (its c.xs)).length ≤ 2900) (hl : nm.length ≤ 1000) (ht : ∀ m ∈ marksX c.xs, m.t < 18446744073709551616) :
    Calls Tryz.prog 12 #[mkC c, .agg #[.int .i64 r, .int .i64 s], .string ⟨nm.toArray⟩, .int .i64 q, .bool set] w (MadeD (putD c.ca (r, s) nm q set) (putE c.ca (r, s) nm q set) w) := by
  obtain ⟨td0, hid, hzd0, hzd1, hzd2⟩ := info_parts infoD
  have K0 := Lib.hid (KPt.new w c r s hc)
  have HF := Lib.hid hf
  obtain ⟨f, hf2⟩ : ∃ f, freshK c.ca (r, s) = f := ⟨_, rfl⟩
  obtain ⟨i, hi⟩ : ∃ i, itemN nm = i := ⟨_, rfl⟩
  obtain ⟨g, hg⟩ : ∃ g, qtyN q = g := ⟨_, rfl⟩
  have HFR := Lib.hid hf2
  have HI := Lib.hid hi
  have HQ := Lib.hid hg
  have HT := Lib.hid ht
  have HIT := Lib.hid fun W => (show Calls Tryz.prog 42 #[.string ⟨nm.toArray⟩] W (One (.bool i) W) from hi ▸ refItem nm W hl)
  have HQT := Lib.hid fun W => (show Calls Tryz.prog 43 #[.int .i64 q] W (One (.bool g) W) from hg ▸ refQty q W)
  have HDN := Lib.hid (dotsK_le (nm := nm) hf.1 hdn (by omega))
  clear hc hf hl ht hf2 hi hg hdn
  cases f with
  | false =>
    have HE : putE c.ca (r, s) nm q set = 2 := by
      unfold putE; rw [HFR.out]; rfl
    rw [HE]
    have HZ := Lib.hid (show putD c.ca (r, s) nm q set = zC.ca from putD_f (by rw [HE]; decide))
    clear HE
    go_enter Tryz.func12, Tryz.ntmps12
    go_upto_region 1 with fail
    generalize World.alloc (World.alloc (World.alloc w _) _) _ = w2 at K0 ⊢
    obtain ⟨x0, x1, x2, x3, x4, xl, xm⟩ := K0.out.sp
    go_wp2_with fail
    refine (refFresh12 c r s false _ K0.out.ok HF.out.1 HFR.out).mono ?_
    rintro e w3 ⟨rfl, hb⟩
    have K1 := Lib.hid (K0.out.next hb)
    clear hb K0 x0 x1 x2 x3 x4 xl xm
    obtain ⟨x0, x1, x2, x3, x4, xl, xm⟩ := K1.out.sp
    clear x0 x1 x2 x3 x4 xl xm
    obtain ⟨z0, z1, z2, f0, f1, f2⟩ := results_zero K1.out.res
    have hrl := K1.out.res.lt
    have HFA := Lib.hid (fill_cells K1.out.res (.slice none 0 0) (.slice none 0 0) (.slice none 0 0))
    have KB := Lib.hid (below_fill K1.out.bel (Nat.le_add_right _ 2) (.slice none 0 0) (.slice none 0 0) (.slice none 0 0))
    clear K1
    go_wp2_with fail
    obtain ⟨s0, s1, s2⟩ := HFA.out
    refine bodyPost_ret (v := .tuple #[mkC zC, .int .i64 2]) (by simp [results, Tryz.results12, go_sem, s0, s1, s2]) rfl ⟨⟨zC, rfl, HZ.out.symm, zC_ok _⟩, KB.out⟩
  | true =>
    cases i with
    | false =>
      have HE : putE c.ca (r, s) nm q set = 2 := by
        unfold putE; rw [HFR.out, HI.out]; rfl
      rw [HE]
      have HZ := Lib.hid (show putD c.ca (r, s) nm q set = zC.ca from putD_f (by rw [HE]; decide))
      clear HE
      go_enter Tryz.func12, Tryz.ntmps12
      go_upto_region 1 with fail
      generalize World.alloc (World.alloc (World.alloc w _) _) _ = w2 at K0 ⊢
      obtain ⟨x0, x1, x2, x3, x4, xl, xm⟩ := K0.out.sp
      go_wp2_with fail
      refine (refFresh12 c r s true _ K0.out.ok HF.out.1 HFR.out).mono ?_
      rintro e w3 ⟨rfl, hb⟩
      have K1 := Lib.hid (K0.out.next hb)
      clear hb K0 x0 x1 x2 x3 x4 xl xm
      obtain ⟨x0, x1, x2, x3, x4, xl, xm⟩ := K1.out.sp
      go_wp2_with fail
      refine (HIT.out _).mono ?_
      rintro e w4 ⟨rfl, rfl⟩
      clear x0 x1 x2 x3 x4 xl xm
      obtain ⟨z0, z1, z2, f0, f1, f2⟩ := results_zero K1.out.res
      have hrl := K1.out.res.lt
      have HFA := Lib.hid (fill_cells K1.out.res (.slice none 0 0) (.slice none 0 0) (.slice none 0 0))
      have KB := Lib.hid (below_fill K1.out.bel (Nat.le_add_right _ 2) (.slice none 0 0) (.slice none 0 0) (.slice none 0 0))
      clear K1
      go_wp2_with fail
      obtain ⟨s0, s1, s2⟩ := HFA.out
      refine bodyPost_ret (v := .tuple #[mkC zC, .int .i64 2]) (by simp [results, Tryz.results12, go_sem, s0, s1, s2]) rfl ⟨⟨zC, rfl, HZ.out.symm, zC_ok _⟩, KB.out⟩
    | true =>
      cases g with
      | false =>
        have HE : putE c.ca (r, s) nm q set = 14 := by
          unfold putE; rw [HFR.out, HI.out, HQ.out]; rfl
        rw [HE]
        have HZ := Lib.hid (show putD c.ca (r, s) nm q set = zC.ca from putD_f (by rw [HE]; decide))
        clear HE
        go_enter Tryz.func12, Tryz.ntmps12
        go_upto_region 1 with fail
        generalize World.alloc (World.alloc (World.alloc w _) _) _ = w2 at K0 ⊢
        obtain ⟨x0, x1, x2, x3, x4, xl, xm⟩ := K0.out.sp
        go_wp2_with fail
        refine (refFresh12 c r s true _ K0.out.ok HF.out.1 HFR.out).mono ?_
        rintro e w3 ⟨rfl, hb⟩
        have K1 := Lib.hid (K0.out.next hb)
        clear hb K0 x0 x1 x2 x3 x4 xl xm
        obtain ⟨x0, x1, x2, x3, x4, xl, xm⟩ := K1.out.sp
        go_wp2_with fail
        refine (HIT.out _).mono ?_
        rintro e w4 ⟨rfl, rfl⟩
        go_wp2_with fail
        refine (HQT.out _).mono ?_
        rintro e w5 ⟨rfl, rfl⟩
        clear x0 x1 x2 x3 x4 xl xm
        obtain ⟨z0, z1, z2, f0, f1, f2⟩ := results_zero K1.out.res
        have hrl := K1.out.res.lt
        have HFA := Lib.hid (fill_cells K1.out.res (.slice none 0 0) (.slice none 0 0) (.slice none 0 0))
        have KB := Lib.hid (below_fill K1.out.bel (Nat.le_add_right _ 2) (.slice none 0 0) (.slice none 0 0) (.slice none 0 0))
        clear K1
        go_wp2_with fail
        obtain ⟨s0, s1, s2⟩ := HFA.out
        refine bodyPost_ret (v := .tuple #[mkC zC, .int .i64 14]) (by simp [results, Tryz.results12, go_sem, s0, s1, s2]) rfl ⟨⟨zC, rfl, HZ.out.symm, zC_ok _⟩, KB.out⟩
      | true =>
        have HVD := Lib.hid (fresh_iff.1 HFR.out)
        obtain ⟨t, n, htn⟩ : ∃ t n, timeC c.ca = (t, n) := ⟨_, _, rfl⟩
        have HTN := Lib.hid htn
        have HDT := Lib.hid fun W (h : CaOK W c) => refDots10 c nm W h HF.out.1
        have HTC := Lib.hid fun W (h : CaOK W c) => refTime10 c t n W h HF.out.1 HT.out ((time_R HVD.out.1).trans htn)
        clear htn
        rcases find_any c.xs nm with ⟨k, hk, hany⟩ | ⟨hk, hany⟩
        · have HK := Lib.hid hk
          have i0 : (k : Int) ≥ 0 := by omega
          have HPE := Lib.hid (show putE c.ca (r, s) nm q set = n from by
            unfold putE thereN; rw [HFR.out, HI.out, HQ.out, show c.ca.2 = its c.xs from rfl, hany, HTN.out]; cases set <;> rfl)
          clear hk hany
          cases set
          all_goals
            go_enter Tryz.func12, Tryz.ntmps12
            go_upto_region 1 with fail
            generalize World.alloc (World.alloc (World.alloc w _) _) _ = w2 at K0 ⊢
            obtain ⟨x0, x1, x2, x3, x4, xl, xm⟩ := K0.out.sp
            go_wp2_with fail
            refine (refFresh12 c r s true _ K0.out.ok HF.out.1 HFR.out).mono ?_
            rintro e w3 ⟨rfl, hb⟩
            have K1 := Lib.hid (K0.out.next hb)
            clear hb K0 x0 x1 x2 x3 x4 xl xm
            obtain ⟨x0, x1, x2, x3, x4, xl, xm⟩ := K1.out.sp
            go_wp2_with fail
            refine (HIT.out _).mono ?_
            rintro e w4 ⟨rfl, rfl⟩
            go_wp2_with fail
            refine (HQT.out _).mono ?_
            rintro e w5 ⟨rfl, rfl⟩
            go_wp2_with fail
            refine (refFind9 c.I c.xs c.ni nm k _ K1.out.ok.items (by have := HF.out.1.1; omega) HK.out).mono ?_
            rintro e w6 ⟨rfl, rfl⟩
            go_wp2_with fail
            refine (HTC.out _ K1.out.ok).mono ?_
            rintro e w5 ⟨rfl, hb⟩
            have K5 := Lib.hid (K1.out.next hb)
            clear hb K1 x0 x1 x2 x3 x4 xl xm HTC
            rw [HPE.out]
            by_cases hn : n = 0
            · subst hn
              have HZ := Lib.hid (show ∀ S, S = putD c.ca (r, s) nm q _ → S = deltaD (r, s) nm q t (dotsK (its c.xs) nm) from fun S hS => by rw [hS, putD_t HPE.out, HTN.out, dotsC_t HVD.out.1]; rfl)
              have HDV := Lib.hid (show ∀ p ∈ [(r, s)] ++ dotsK (its c.xs) nm, validD p.1 p.2 = true from fun p hp => by
                rcases List.mem_append.1 hp with hp | hp
                · obtain rfl : p = (r, s) := by simpa using hp
                  exact HVD.out.2.1
                · exact dotsC_valid (c := c.ca) HVD.out.1 (nm := nm) p (by rw [dotsC_t HVD.out.1]; exact hp))
              have hdl : (dotsK (its c.xs) nm).length ≤ 2900 := HDN.out
              generalize dotsK (its c.xs) nm = ds at *
              have HDL := Lib.hid hdl
              obtain ⟨x0, x1, x2, x3, x4, xl, xm⟩ := K5.out.sp
              go_upto_region 13 with fail
              clear x0 x1 x2 x3 x4 xl xm
              have hkp : ∀ W W' L, KeepsT ⟨gonG w5 [(r, s)] ds (goneD ([(r, s)] ++ ds)) ptX, ptP c nm r s⟩ L W W' := fun W W' L j v _ h => ptP_keep h
              refine wp_region_T (S := ⟨gonG w5 [(r, s)] ds (goneD ([(r, s)] ++ ds)) ptX, ptP c nm r s⟩) (by kernel_rfl) (by kernel_rfl) (by kernel_rfl) (dst_small (n := 80) (by kernel_rfl)) ⟨(Below.refl _ _).drew, by rfl, fun h => (by cases h), fun h => (by cases h), fun h => (by cases h), fun h => (by cases h), fun h => (by cases h)⟩ ?_ ?_
              · refine ⟨?_, ?_, ?_, ?_, ?_, ?_, ?_, ?_, ?_, trivial⟩
                · refine StepT.val rfl fun L a W hI hk hd => ?_
                  have e6 : a.tmps[6]?.getD undef = .pointer (some ⟨w.heap.size + 1, 0, none⟩) := hI.at 6 (by kernel_rfl)
                  obtain ⟨_, _, _, c3, c4, _, _⟩ := (K5.out.next hI.glob.1).sp
                  exact ⟨rfl, .agg #[.int .i64 r, .int .i64 s], W, by go_simp, hkp W W L, gon_keep hI.glob (Below.refl _ W) 0 _ _ (by decide) (by decide), rfl⟩
                · refine StepT.val rfl fun L a W hI hk hd => ?_
                  obtain ⟨_, e63, rfl⟩ := hI.get 0 63 (hd 0 rfl) rfl
                  have h5 : L 5 = false := hI.before (j := 5) (o := _) rfl (k := 1) rfl hk
                  have h6 : L 6 = false := hI.before (j := 6) (o := _) rfl (k := 5) rfl h5
                  have h8 : L 8 = false := hI.before (j := 8) (o := _) rfl (k := 6) rfl h6
                  exact ⟨rfl, .slice (some ⟨W.heap.size, 0, none⟩) 1 1, W.alloc (.cells #[.int .i64 r, .int .i64 s] 30), by go_simp, hkp W _ L, gon_one ptX_ok hI.glob ((Below.refl _ W).alloc (Nat.le_refl _) _) h5 h8 (own_lit W r s), trivial⟩
                · refine StepT.val rfl fun L a W hI hk hd => ?_
                  have e5 : a.tmps[5]?.getD undef = .pointer (some ⟨w.heap.size, 0, none⟩) := hI.at 5 (by kernel_rfl)
                  obtain ⟨c0, c1, c2, _, _, _, _⟩ := (K5.out.next hI.glob.1).sp
                  exact ⟨rfl, mkC c, W, by go_simp, hkp W W L, gon_keep hI.glob (Below.refl _ W) 2 _ _ (by decide) (by decide), rfl⟩
                · refine StepT.val rfl fun L a W hI hk hd => ?_
                  have e2 : a.tmps[2]?.getD undef = .string ⟨nm.toArray⟩ := hI.at 2 (by kernel_rfl)
                  exact ⟨rfl, .string ⟨nm.toArray⟩, W, by go_simp, hkp W W L, gon_keep hI.glob (Below.refl _ W) 3 _ _ (by decide) (by decide), rfl⟩
                · refine StepT.call rfl fun L a W hI hk hd => ?_
                  obtain ⟨_, e65, rfl⟩ := hI.get 2 65 (hd 2 rfl) rfl
                  obtain ⟨_, e66, rfl⟩ := hI.get 3 66 (hd 3 rfl) rfl
                  have h5 : L 5 = false := hI.before (j := 5) (o := _) rfl (k := 4) rfl hk
                  refine ⟨rfl, 47, #[mkC c, .string ⟨nm.toArray⟩], by go_simp, (HDT.out W (K5.out.next hI.glob.1).ok).mono ?_⟩
                  rintro e W' ⟨⟨v, rfl, hv⟩, hb⟩
                  exact ⟨v, rfl, hkp W W' L, gon_two ptX_ok hI.glob hb h5 hv, trivial⟩
                · refine StepT.val rfl fun L a W hI hk hd => ?_
                  have h1 : L 1 = true := hd 1 rfl
                  have h4 : L 4 = true := hd 4 rfl
                  have h6 : L 6 = false := hI.before (j := 6) (o := _) rfl (k := 5) rfl hk
                  have h8 : L 8 = false := hI.before (j := 8) (o := _) rfl (k := 6) rfl h6
                  have hown0 := hI.glob.2.2.1 h1 hk
                  obtain ⟨A2, n2, e67, hat2, hn2, hm2⟩ := hI.glob.2.2.2.1 h4 hk
                  obtain ⟨v', W', hrun, hown, hgr, _⟩ := run_append_sl (P := Tryz.prog) W encD 2 encD_len (by omega) encD_one w5.heap.size 22 22 30 td0 _ 16 Tryz.underlying22 hid hzd0 hzd1 hzd2 rfl (a.eval (.tmp 64)) [(r, s)] hown0 A2 n2 ds hat2 (by simp [maxLen]; omega) (by simp; omega) hI.glob.1.size
                  have hrun2 : (Builtin.append_ #[22, 22] 22 #[a.eval (.tmp 64), .slice A2 ds.length n2]).run Tryz.prog W = .ok v' W' := hrun
                  have hs2 : a.eval (.tmp 67) = .slice A2 ds.length n2 := e67
                  refine ⟨rfl, v', W', ?_, hkp W W' L, gon_app ptX_ok hI.glob h1 hk h6 h8 hown hgr, trivial⟩
                  unfold execOp
                  simp only [resolve, invoke, builtin, Sem.run_bind, Sem.run_pure, Result.andThen_ok, List.map_toArray, List.map_cons, List.map_nil, hs2, hrun2]
                · refine StepT.call rfl fun L a W hI hk hd => ?_
                  have h5 : L 5 = true := hd 5 rfl
                  have h8 : L 8 = false := hI.before (j := 8) (o := _) rfl (k := 6) rfl hk
                  have hh := hI.glob.2.2.2.2.1 h5 hk
                  obtain ⟨A3, n3, e68, _⟩ := id hh
                  have hh2 : Holds W (a.eval (.tmp 68)) ([(r, s)] ++ ds) := hh
                  have e68' : a.tmps[68]?.getD undef = .slice A3 ([(r, s)] ++ ds).length n3 := by rw [← eval_tmp]; exact e68
                  rw [show a.eval (.tmp 68) = .slice A3 ([(r, s)] ++ ds).length n3 from e68] at hh2
                  have hcall := refGone12 (.slice A3 ([(r, s)] ++ ds).length n3) ([(r, s)] ++ ds) W hh2 HDV.out (by simp; have := HDL.out; omega)
                  generalize ([(r, s)] ++ ds).length = k3 at *
                  refine ⟨rfl, 46, #[.slice A3 k3 n3], by go_simp, hcall.mono ?_⟩
                  rintro e W' ⟨⟨z, rfl, hz, ho⟩, hb⟩
                  exact ⟨mkC z, rfl, hkp W W' L, gon_call ptX_ok hI.glob hb h5 h8 ⟨z, rfl, hz, ho⟩, trivial⟩
                · refine StepT.val rfl fun L a W hI hk hd => ?_
                  have h8 : L 8 = false := hI.before (j := 8) (o := _) rfl (k := 7) rfl hk
                  exact ⟨rfl, ptr0 W.heap.size, W.alloc (.cells #[.slice none 0 0, .slice none 0 0, .slice none 0 0] 28), by go_simp, hkp W _ L, gon_box ptX_ok hI.glob h8, trivial⟩
                · refine StepT.skip rfl rfl fun L a W hI hk hd => ?_
                  have h6 : L 6 = true := hd 6 rfl
                  have h7 : L 7 = true := hd 7 rfl
                  have h5 : L 5 = true := waits_spec (hI.clo 6 _ rfl h6) 5 rfl
                  obtain ⟨z, e69, hz, ho⟩ := hI.glob.2.2.2.2.2.1 h6 hk
                  obtain ⟨b, e15, _, _, hb3, _, _⟩ := hI.glob.2.2.2.2.2.2 h7
                  have hB := hb3 hk
                  have hgs := gon_store ptX_ok hI.glob h5 h6 h7 hk e15 e69 hz ho undef
                  have e69' : a.tmps[69]?.getD undef = mkC z := by rw [← eval_tmp]; exact e69
                  have e15' : a.tmps[15]?.getD undef = ptr0 b := by rw [← eval_tmp]; exact e15
                  obtain ⟨fz0, fz1, fz2⟩ := BlkC.frozens hB
                  have q0 := hB.cell0
                  have q1 := hB.cell1
                  have q2 := hB.cell2
                  refine ⟨rfl, _, ?_, hkp W _ L, hgs⟩
                  clear hgs hB e69 e15 hz ho
                  go_simp
              · intro a W L hL hI
                obtain ⟨b, e15, hb1, hb2, _, _, hb6⟩ := hI.glob.2.2.2.2.2.2 (hL 7 (by decide))
                obtain ⟨z, hB, hz, ho⟩ := hb6 (hL 8 (by decide))
                have e15' : a.eval (.tmp 15) = ptr0 b := e15
                have K6 := Lib.hid (K5.out.next hI.glob.1)
                have hrl5 := K5.out.res.lt
                have hne : b ≠ w.heap.size + 1 + 1 := by omega
                have hne2 : b ≠ w.heap.size + 1 := by omega
                have HPI := Lib.hid (put_item ho hB (show BlkC W (w.heap.size + 1 + 1) zC from K6.out.res) hne nm ⟨r, s, q, t⟩ _ rfl)
                have HZC := Lib.hid (show z.ca = goneD ([(r, s)] ++ ds) from hz)
                rw [hI.frame]
                simp only [List.filterMap, List.foldl]
                rw [e15']
                generalize a.eval (.tmp 63) = v63
                generalize a.eval (.tmp 64) = v64
                generalize a.eval (.tmp 65) = v65
                generalize a.eval (.tmp 66) = v66
                generalize a.eval (.tmp 67) = v67
                generalize a.eval (.tmp 68) = v68
                generalize a.eval (.tmp 69) = v69
                clear hI hL e15 e15' hkp hz hb6
                simp only [List.setIfInBounds_toArray, List.set_cons_succ, List.set_cons_zero]
                obtain ⟨_, _, _, x3, x4, xl, xm⟩ := K6.out.sp
                have q0 := hB.cell0
                have q1 := hB.cell1
                have q2 := hB.cell2
                obtain ⟨fz0, fz1, fz2⟩ := BlkC.frozens hB
                obtain ⟨z0, z1, z2, f0, f1, f2⟩ := results_zero K6.out.res
                have hrl := K6.out.res.lt
                have HBL := Lib.hid K6.out.bel
                have hbw : w.heap.size ≤ b := by omega
                clear ho hB K6
                go_wp2_with fail
                obtain ⟨s0, s1, s2, hok, hbl⟩ := HPI.out
                refine bodyPost_ret (v := .tuple #[.agg #[z.v, z.l, .slice (some ⟨W.heap.size + 1, 0, none⟩) 1 1], .int .i64 0]) (by simp [results, Tryz.results12, go_sem, s0, s1, s2]) rfl ⟨⟨⟨z.V, z.nv, z.vs, z.L, z.nl, z.ls, some ⟨W.heap.size + 1, 0, none⟩, 1, [⟨nm, some ⟨W.heap.size, 0, none⟩, 1, [⟨r, s, q, t⟩]⟩]⟩, by rw [HPE.out]; rfl, ?_, hok⟩, hbl _ _ (by omega) hbw HBL.out⟩
                rw [HZ.out _ rfl]
                show (z.ca.1, [(nm, [(⟨r, s, q, t⟩ : Mk)])]) = _
                rw [HZC.out]
                rfl
            · have HZ := Lib.hid (show ∀ S, S = putD c.ca (r, s) nm q _ → S = zC.ca from fun S hS => by rw [hS]; exact putD_f (by rw [HPE.out]; exact hn))
              have hnz : ¬ (n : Int) = 0 := by omega
              obtain ⟨z0, z1, z2, f0, f1, f2⟩ := results_zero K5.out.res
              have hrl := K5.out.res.lt
              have HFA := Lib.hid (fill_cells K5.out.res (.slice none 0 0) (.slice none 0 0) (.slice none 0 0))
              have KB := Lib.hid (below_fill K5.out.bel (Nat.le_add_right _ 2) (.slice none 0 0) (.slice none 0 0) (.slice none 0 0))
              clear K5
              go_wp2_with fail
              obtain ⟨s0, s1, s2⟩ := HFA.out
              exact bodyPost_ret (v := .tuple #[mkC zC, .int .i64 n]) (by simp [results, Tryz.results12, go_sem, s0, s1, s2]) rfl ⟨⟨zC, by rw [HPE.out], (HZ.out _ rfl).symm, zC_ok _⟩, KB.out⟩

        · have HK := Lib.hid hk
          cases set with
          | true =>
            have HE : putE c.ca (r, s) nm q true = 9 := by
              unfold putE thereN; rw [HFR.out, HI.out, HQ.out, show c.ca.2 = its c.xs from rfl, hany]; rfl
            rw [HE]
            have HZ := Lib.hid (show putD c.ca (r, s) nm q true = zC.ca from putD_f (by rw [HE]; decide))
            clear HE
            clear hk hany
            go_enter Tryz.func12, Tryz.ntmps12
            go_upto_region 1 with fail
            generalize World.alloc (World.alloc (World.alloc w _) _) _ = w2 at K0 ⊢
            obtain ⟨x0, x1, x2, x3, x4, xl, xm⟩ := K0.out.sp
            go_wp2_with fail
            refine (refFresh12 c r s true _ K0.out.ok HF.out.1 HFR.out).mono ?_
            rintro e w3 ⟨rfl, hb⟩
            have K1 := Lib.hid (K0.out.next hb)
            clear hb K0 x0 x1 x2 x3 x4 xl xm
            obtain ⟨x0, x1, x2, x3, x4, xl, xm⟩ := K1.out.sp
            go_wp2_with fail
            refine (HIT.out _).mono ?_
            rintro e w4 ⟨rfl, rfl⟩
            go_wp2_with fail
            refine (HQT.out _).mono ?_
            rintro e w5 ⟨rfl, rfl⟩
            go_wp2_with fail
            refine (refFind9 c.I c.xs c.ni nm (-1) _ K1.out.ok.items (by have := HF.out.1.1; omega) HK.out).mono ?_
            rintro e w6 ⟨rfl, rfl⟩
            clear x0 x1 x2 x3 x4 xl xm
            obtain ⟨z0, z1, z2, f0, f1, f2⟩ := results_zero K1.out.res
            have hrl := K1.out.res.lt
            have HFA := Lib.hid (fill_cells K1.out.res (.slice none 0 0) (.slice none 0 0) (.slice none 0 0))
            have KB := Lib.hid (below_fill K1.out.bel (Nat.le_add_right _ 2) (.slice none 0 0) (.slice none 0 0) (.slice none 0 0))
            clear K1
            go_wp2_with fail
            obtain ⟨s0, s1, s2⟩ := HFA.out
            refine bodyPost_ret (v := .tuple #[mkC zC, .int .i64 9]) (by simp [results, Tryz.results12, go_sem, s0, s1, s2]) rfl ⟨⟨zC, rfl, HZ.out.symm, zC_ok _⟩, KB.out⟩
          | false =>
            by_cases hbig : 256 ≤ c.xs.length
            · have i1 : (c.xs.length : Int) ≥ 256 := by omega
              have HE : putE c.ca (r, s) nm q false = 13 := by
                unfold putE thereN; rw [HFR.out, HI.out, HQ.out, show c.ca.2 = its c.xs from rfl, hany]; rw [show (its c.xs).length = c.xs.length from its_len c.xs]; simp [hbig]
              rw [HE]
              have HZ := Lib.hid (show putD c.ca (r, s) nm q false = zC.ca from putD_f (by rw [HE]; decide))
              clear HE
              clear hk hany hbig
              go_enter Tryz.func12, Tryz.ntmps12
              go_upto_region 1 with fail
              generalize World.alloc (World.alloc (World.alloc w _) _) _ = w2 at K0 ⊢
              obtain ⟨x0, x1, x2, x3, x4, xl, xm⟩ := K0.out.sp
              go_wp2_with fail
              refine (refFresh12 c r s true _ K0.out.ok HF.out.1 HFR.out).mono ?_
              rintro e w3 ⟨rfl, hb⟩
              have K1 := Lib.hid (K0.out.next hb)
              clear hb K0 x0 x1 x2 x3 x4 xl xm
              obtain ⟨x0, x1, x2, x3, x4, xl, xm⟩ := K1.out.sp
              go_wp2_with fail
              refine (HIT.out _).mono ?_
              rintro e w4 ⟨rfl, rfl⟩
              go_wp2_with fail
              refine (HQT.out _).mono ?_
              rintro e w5 ⟨rfl, rfl⟩
              go_wp2_with fail
              refine (refFind9 c.I c.xs c.ni nm (-1) _ K1.out.ok.items (by have := HF.out.1.1; omega) HK.out).mono ?_
              rintro e w6 ⟨rfl, rfl⟩
              obtain ⟨z0, z1, z2, f0, f1, f2⟩ := results_zero K1.out.res
              have hrl := K1.out.res.lt
              have HFA := Lib.hid (fill_cells K1.out.res (.slice none 0 0) (.slice none 0 0) (.slice none 0 0))
              have KB := Lib.hid (below_fill K1.out.bel (Nat.le_add_right _ 2) (.slice none 0 0) (.slice none 0 0) (.slice none 0 0))
              clear K1
              go_wp2_with fail
              obtain ⟨s0, s1, s2⟩ := HFA.out
              refine bodyPost_ret (v := .tuple #[mkC zC, .int .i64 13]) (by simp [results, Tryz.results12, go_sem, s0, s1, s2]) rfl ⟨⟨zC, rfl, HZ.out.symm, zC_ok _⟩, KB.out⟩
            · have i1 : ¬ (c.xs.length : Int) ≥ 256 := by omega
              have HPE := Lib.hid (show putE c.ca (r, s) nm q false = n from by
                unfold putE thereN; rw [HFR.out, HI.out, HQ.out, show c.ca.2 = its c.xs from rfl, hany]; rw [show (its c.xs).length = c.xs.length from its_len c.xs]; simp [hbig, HTN.out])
              clear hk hany hbig
              go_enter Tryz.func12, Tryz.ntmps12
              go_upto_region 1 with fail
              generalize World.alloc (World.alloc (World.alloc w _) _) _ = w2 at K0 ⊢
              obtain ⟨x0, x1, x2, x3, x4, xl, xm⟩ := K0.out.sp
              go_wp2_with fail
              refine (refFresh12 c r s true _ K0.out.ok HF.out.1 HFR.out).mono ?_
              rintro e w3 ⟨rfl, hb⟩
              have K1 := Lib.hid (K0.out.next hb)
              clear hb K0 x0 x1 x2 x3 x4 xl xm
              obtain ⟨x0, x1, x2, x3, x4, xl, xm⟩ := K1.out.sp
              go_wp2_with fail
              refine (HIT.out _).mono ?_
              rintro e w4 ⟨rfl, rfl⟩
              go_wp2_with fail
              refine (HQT.out _).mono ?_
              rintro e w5 ⟨rfl, rfl⟩
              go_wp2_with fail
              refine (refFind9 c.I c.xs c.ni nm (-1) _ K1.out.ok.items (by have := HF.out.1.1; omega) HK.out).mono ?_
              rintro e w6 ⟨rfl, rfl⟩
              go_wp2_with fail
              refine (HTC.out _ K1.out.ok).mono ?_
              rintro e w5 ⟨rfl, hb⟩
              have K5 := Lib.hid (K1.out.next hb)
              clear hb K1 x0 x1 x2 x3 x4 xl xm HTC
              rw [HPE.out]
              by_cases hn : n = 0
              · subst hn
                have HZ := Lib.hid (show ∀ S, S = putD c.ca (r, s) nm q _ → S = deltaD (r, s) nm q t (dotsK (its c.xs) nm) from fun S hS => by rw [hS, putD_t HPE.out, HTN.out, dotsC_t HVD.out.1]; rfl)
                have HDV := Lib.hid (show ∀ p ∈ [(r, s)] ++ dotsK (its c.xs) nm, validD p.1 p.2 = true from fun p hp => by
                  rcases List.mem_append.1 hp with hp | hp
                  · obtain rfl : p = (r, s) := by simpa using hp
                    exact HVD.out.2.1
                  · exact dotsC_valid (c := c.ca) HVD.out.1 (nm := nm) p (by rw [dotsC_t HVD.out.1]; exact hp))
                have hdl : (dotsK (its c.xs) nm).length ≤ 2900 := HDN.out
                generalize dotsK (its c.xs) nm = ds at *
                have HDL := Lib.hid hdl
                obtain ⟨x0, x1, x2, x3, x4, xl, xm⟩ := K5.out.sp
                go_upto_region 13 with fail
                clear x0 x1 x2 x3 x4 xl xm
                have hkp : ∀ W W' L, KeepsT ⟨gonG w5 [(r, s)] ds (goneD ([(r, s)] ++ ds)) ptX, ptP c nm r s⟩ L W W' := fun W W' L j v _ h => ptP_keep h
                refine wp_region_T (S := ⟨gonG w5 [(r, s)] ds (goneD ([(r, s)] ++ ds)) ptX, ptP c nm r s⟩) (by kernel_rfl) (by kernel_rfl) (by kernel_rfl) (dst_small (n := 80) (by kernel_rfl)) ⟨(Below.refl _ _).drew, by rfl, fun h => (by cases h), fun h => (by cases h), fun h => (by cases h), fun h => (by cases h), fun h => (by cases h)⟩ ?_ ?_
                · refine ⟨?_, ?_, ?_, ?_, ?_, ?_, ?_, ?_, ?_, trivial⟩
                  · refine StepT.val rfl fun L a W hI hk hd => ?_
                    have e6 : a.tmps[6]?.getD undef = .pointer (some ⟨w.heap.size + 1, 0, none⟩) := hI.at 6 (by kernel_rfl)
                    obtain ⟨_, _, _, c3, c4, _, _⟩ := (K5.out.next hI.glob.1).sp
                    exact ⟨rfl, .agg #[.int .i64 r, .int .i64 s], W, by go_simp, hkp W W L, gon_keep hI.glob (Below.refl _ W) 0 _ _ (by decide) (by decide), rfl⟩
                  · refine StepT.val rfl fun L a W hI hk hd => ?_
                    obtain ⟨_, e63, rfl⟩ := hI.get 0 63 (hd 0 rfl) rfl
                    have h5 : L 5 = false := hI.before (j := 5) (o := _) rfl (k := 1) rfl hk
                    have h6 : L 6 = false := hI.before (j := 6) (o := _) rfl (k := 5) rfl h5
                    have h8 : L 8 = false := hI.before (j := 8) (o := _) rfl (k := 6) rfl h6
                    exact ⟨rfl, .slice (some ⟨W.heap.size, 0, none⟩) 1 1, W.alloc (.cells #[.int .i64 r, .int .i64 s] 30), by go_simp, hkp W _ L, gon_one ptX_ok hI.glob ((Below.refl _ W).alloc (Nat.le_refl _) _) h5 h8 (own_lit W r s), trivial⟩
                  · refine StepT.val rfl fun L a W hI hk hd => ?_
                    have e5 : a.tmps[5]?.getD undef = .pointer (some ⟨w.heap.size, 0, none⟩) := hI.at 5 (by kernel_rfl)
                    obtain ⟨c0, c1, c2, _, _, _, _⟩ := (K5.out.next hI.glob.1).sp
                    exact ⟨rfl, mkC c, W, by go_simp, hkp W W L, gon_keep hI.glob (Below.refl _ W) 2 _ _ (by decide) (by decide), rfl⟩
                  · refine StepT.val rfl fun L a W hI hk hd => ?_
                    have e2 : a.tmps[2]?.getD undef = .string ⟨nm.toArray⟩ := hI.at 2 (by kernel_rfl)
                    exact ⟨rfl, .string ⟨nm.toArray⟩, W, by go_simp, hkp W W L, gon_keep hI.glob (Below.refl _ W) 3 _ _ (by decide) (by decide), rfl⟩
                  · refine StepT.call rfl fun L a W hI hk hd => ?_
                    obtain ⟨_, e65, rfl⟩ := hI.get 2 65 (hd 2 rfl) rfl
                    obtain ⟨_, e66, rfl⟩ := hI.get 3 66 (hd 3 rfl) rfl
                    have h5 : L 5 = false := hI.before (j := 5) (o := _) rfl (k := 4) rfl hk
                    refine ⟨rfl, 47, #[mkC c, .string ⟨nm.toArray⟩], by go_simp, (HDT.out W (K5.out.next hI.glob.1).ok).mono ?_⟩
                    rintro e W' ⟨⟨v, rfl, hv⟩, hb⟩
                    exact ⟨v, rfl, hkp W W' L, gon_two ptX_ok hI.glob hb h5 hv, trivial⟩
                  · refine StepT.val rfl fun L a W hI hk hd => ?_
                    have h1 : L 1 = true := hd 1 rfl
                    have h4 : L 4 = true := hd 4 rfl
                    have h6 : L 6 = false := hI.before (j := 6) (o := _) rfl (k := 5) rfl hk
                    have h8 : L 8 = false := hI.before (j := 8) (o := _) rfl (k := 6) rfl h6
                    have hown0 := hI.glob.2.2.1 h1 hk
                    obtain ⟨A2, n2, e67, hat2, hn2, hm2⟩ := hI.glob.2.2.2.1 h4 hk
                    obtain ⟨v', W', hrun, hown, hgr, _⟩ := run_append_sl (P := Tryz.prog) W encD 2 encD_len (by omega) encD_one w5.heap.size 22 22 30 td0 _ 16 Tryz.underlying22 hid hzd0 hzd1 hzd2 rfl (a.eval (.tmp 64)) [(r, s)] hown0 A2 n2 ds hat2 (by simp [maxLen]; omega) (by simp; omega) hI.glob.1.size
                    have hrun2 : (Builtin.append_ #[22, 22] 22 #[a.eval (.tmp 64), .slice A2 ds.length n2]).run Tryz.prog W = .ok v' W' := hrun
                    have hs2 : a.eval (.tmp 67) = .slice A2 ds.length n2 := e67
                    refine ⟨rfl, v', W', ?_, hkp W W' L, gon_app ptX_ok hI.glob h1 hk h6 h8 hown hgr, trivial⟩
                    unfold execOp
                    simp only [resolve, invoke, builtin, Sem.run_bind, Sem.run_pure, Result.andThen_ok, List.map_toArray, List.map_cons, List.map_nil, hs2, hrun2]
                  · refine StepT.call rfl fun L a W hI hk hd => ?_
                    have h5 : L 5 = true := hd 5 rfl
                    have h8 : L 8 = false := hI.before (j := 8) (o := _) rfl (k := 6) rfl hk
                    have hh := hI.glob.2.2.2.2.1 h5 hk
                    obtain ⟨A3, n3, e68, _⟩ := id hh
                    have hh2 : Holds W (a.eval (.tmp 68)) ([(r, s)] ++ ds) := hh
                    have e68' : a.tmps[68]?.getD undef = .slice A3 ([(r, s)] ++ ds).length n3 := by rw [← eval_tmp]; exact e68
                    rw [show a.eval (.tmp 68) = .slice A3 ([(r, s)] ++ ds).length n3 from e68] at hh2
                    have hcall := refGone12 (.slice A3 ([(r, s)] ++ ds).length n3) ([(r, s)] ++ ds) W hh2 HDV.out (by simp; have := HDL.out; omega)
                    generalize ([(r, s)] ++ ds).length = k3 at *
                    refine ⟨rfl, 46, #[.slice A3 k3 n3], by go_simp, hcall.mono ?_⟩
                    rintro e W' ⟨⟨z, rfl, hz, ho⟩, hb⟩
                    exact ⟨mkC z, rfl, hkp W W' L, gon_call ptX_ok hI.glob hb h5 h8 ⟨z, rfl, hz, ho⟩, trivial⟩
                  · refine StepT.val rfl fun L a W hI hk hd => ?_
                    have h8 : L 8 = false := hI.before (j := 8) (o := _) rfl (k := 7) rfl hk
                    exact ⟨rfl, ptr0 W.heap.size, W.alloc (.cells #[.slice none 0 0, .slice none 0 0, .slice none 0 0] 28), by go_simp, hkp W _ L, gon_box ptX_ok hI.glob h8, trivial⟩
                  · refine StepT.skip rfl rfl fun L a W hI hk hd => ?_
                    have h6 : L 6 = true := hd 6 rfl
                    have h7 : L 7 = true := hd 7 rfl
                    have h5 : L 5 = true := waits_spec (hI.clo 6 _ rfl h6) 5 rfl
                    obtain ⟨z, e69, hz, ho⟩ := hI.glob.2.2.2.2.2.1 h6 hk
                    obtain ⟨b, e15, _, _, hb3, _, _⟩ := hI.glob.2.2.2.2.2.2 h7
                    have hB := hb3 hk
                    have hgs := gon_store ptX_ok hI.glob h5 h6 h7 hk e15 e69 hz ho undef
                    have e69' : a.tmps[69]?.getD undef = mkC z := by rw [← eval_tmp]; exact e69
                    have e15' : a.tmps[15]?.getD undef = ptr0 b := by rw [← eval_tmp]; exact e15
                    obtain ⟨fz0, fz1, fz2⟩ := BlkC.frozens hB
                    have q0 := hB.cell0
                    have q1 := hB.cell1
                    have q2 := hB.cell2
                    refine ⟨rfl, _, ?_, hkp W _ L, hgs⟩
                    clear hgs hB e69 e15 hz ho
                    go_simp
                · intro a W L hL hI
                  obtain ⟨b, e15, hb1, hb2, _, _, hb6⟩ := hI.glob.2.2.2.2.2.2 (hL 7 (by decide))
                  obtain ⟨z, hB, hz, ho⟩ := hb6 (hL 8 (by decide))
                  have e15' : a.eval (.tmp 15) = ptr0 b := e15
                  have K6 := Lib.hid (K5.out.next hI.glob.1)
                  have hrl5 := K5.out.res.lt
                  have hne : b ≠ w.heap.size + 1 + 1 := by omega
                  have hne2 : b ≠ w.heap.size + 1 := by omega
                  have HPI := Lib.hid (put_item ho hB (show BlkC W (w.heap.size + 1 + 1) zC from K6.out.res) hne nm ⟨r, s, q, t⟩ _ rfl)
                  have HZC := Lib.hid (show z.ca = goneD ([(r, s)] ++ ds) from hz)
                  rw [hI.frame]
                  simp only [List.filterMap, List.foldl]
                  rw [e15']
                  generalize a.eval (.tmp 63) = v63
                  generalize a.eval (.tmp 64) = v64
                  generalize a.eval (.tmp 65) = v65
                  generalize a.eval (.tmp 66) = v66
                  generalize a.eval (.tmp 67) = v67
                  generalize a.eval (.tmp 68) = v68
                  generalize a.eval (.tmp 69) = v69
                  clear hI hL e15 e15' hkp hz hb6
                  simp only [List.setIfInBounds_toArray, List.set_cons_succ, List.set_cons_zero]
                  obtain ⟨_, _, _, x3, x4, xl, xm⟩ := K6.out.sp
                  have q0 := hB.cell0
                  have q1 := hB.cell1
                  have q2 := hB.cell2
                  obtain ⟨fz0, fz1, fz2⟩ := BlkC.frozens hB
                  obtain ⟨z0, z1, z2, f0, f1, f2⟩ := results_zero K6.out.res
                  have hrl := K6.out.res.lt
                  have HBL := Lib.hid K6.out.bel
                  have hbw : w.heap.size ≤ b := by omega
                  clear ho hB K6
                  go_wp2_with fail
                  obtain ⟨s0, s1, s2, hok, hbl⟩ := HPI.out
                  refine bodyPost_ret (v := .tuple #[.agg #[z.v, z.l, .slice (some ⟨W.heap.size + 1, 0, none⟩) 1 1], .int .i64 0]) (by simp [results, Tryz.results12, go_sem, s0, s1, s2]) rfl ⟨⟨⟨z.V, z.nv, z.vs, z.L, z.nl, z.ls, some ⟨W.heap.size + 1, 0, none⟩, 1, [⟨nm, some ⟨W.heap.size, 0, none⟩, 1, [⟨r, s, q, t⟩]⟩]⟩, by rw [HPE.out]; rfl, ?_, hok⟩, hbl _ _ (by omega) hbw HBL.out⟩
                  rw [HZ.out _ rfl]
                  show (z.ca.1, [(nm, [(⟨r, s, q, t⟩ : Mk)])]) = _
                  rw [HZC.out]
                  rfl
              · have HZ := Lib.hid (show ∀ S, S = putD c.ca (r, s) nm q _ → S = zC.ca from fun S hS => by rw [hS]; exact putD_f (by rw [HPE.out]; exact hn))
                have hnz : ¬ (n : Int) = 0 := by omega
                obtain ⟨z0, z1, z2, f0, f1, f2⟩ := results_zero K5.out.res
                have hrl := K5.out.res.lt
                have HFA := Lib.hid (fill_cells K5.out.res (.slice none 0 0) (.slice none 0 0) (.slice none 0 0))
                have KB := Lib.hid (below_fill K5.out.bel (Nat.le_add_right _ 2) (.slice none 0 0) (.slice none 0 0) (.slice none 0 0))
                clear K5
                go_wp2_with fail
                obtain ⟨s0, s1, s2⟩ := HFA.out
                exact bodyPost_ret (v := .tuple #[mkC zC, .int .i64 n]) (by simp [results, Tryz.results12, go_sem, s0, s1, s2]) rfl ⟨⟨zC, by rw [HPE.out], (HZ.out _ rfl).symm, zC_ok _⟩, KB.out⟩


end

end Go.Proofs.YtiaehpdgpjhecaaGreat
