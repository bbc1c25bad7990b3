/- Several texts in one: ItmP, ItmU, CarN, JoiA, CarS. -/
import Derived.Test.YtfjbocipjmpogaaGreatMAV
import Derived.Test.YtfjbocipjmpogaaGreatMAQ
import Derived.Test.YtfjbocipjmpogaaGreatMAU
import Derived.Test.YtfjbocipjmpogaaGreatMAT
import Derived.Test.YtfjbocipjmpogaaGreatMAK
import Derived.Shelf.SlSortCmp.QuietGrown
import Derived.Test.YtfjbocipjmpogaaGreatMAR
import Derived.Test.YtfjbocipjmpogaaGreatMAG
namespace Go.Proofs.YtfjbocipjmpogaaGreat

section
open Go.RowKit

theorem good_of_steps {l : List It} (h : ∀ (j : Nat) (x : It), j < l.length → l[j]? = some x → okI x = true ∧ behindAt l x j = true) : (∀ x ∈ l, okI x = true) ∧ IncN l := by
  refine ⟨fun x hx => ?_, IncN.of_next fun j x y hx hy => ?_⟩
  · obtain ⟨j, hj⟩ := List.mem_iff_getElem?.1 hx
    exact (h j x (List.getElem?_eq_some_iff.1 hj).1 hj).1
  · have := (h (j + 1) y (List.getElem?_eq_some_iff.1 hy).1 hy).2
    rwa [behindAt_succ rfl hx] at this
theorem validL_no {l : List It} {j : Nat} {x : It} (hx : l[j]? = some x) (h : okI x = false ∨ behindAt l x j = false) : validL l = false := by
  refine range_no (List.getElem?_eq_some_iff.1 hx).1 ?_
  unfold okAt
  rw [hx]
  rcases h with h | h <;> simp [h]
theorem step_ok {l : List It} {k : Nat} {x : It} {p : It → Nat → Prop} (h : ∀ (j : Nat) (y : It), j < k → l[j]? = some y → p y j) (hx : l[k]? = some x) (he : p x k) : ∀ (j : Nat) (y : It), j < k + 1 → l[j]? = some y → p y j := fun j y hj hy => by
  rcases Nat.lt_or_ge j k with h1 | h1
  · exact h j y h1 hy
  · obtain rfl : j = k := by omega
    rw [hx] at hy; cases hy; exact he

set_option maxRecDepth 100000 in
set_option maxHeartbeats 4000000 in
theorem itemsValid (A : Option Addr) (xs : List ItV) (cap : Nat) (b : Bool) (w : World) (hx : ItemsAt w A xs) (hf : Fits xs) (hb : validL (its xs) = b) :
    Calls Tryz.prog 53 #[.slice A xs.length cap] w (OneB (.bool b) w) := by
  have hm := hf.1
  have HX := Lib.hid hx
  have HF := Lib.hid hf.2
  have HV := Lib.hid hb
  have HDD := Lib.hid fun W (h : ItemsAt W A xs) => itDots A xs cap W h hf
  clear hx hf hb
  go_enter Tryz.func53, Tryz.ntmps53
  go_wp2_with fail
  go_loopw [3, 4, 5, 8] (fun s3 _ _ i wr => ∃ (k m : Nat), k ≤ xs.length ∧ s3 = .int .i64 (m : Int) ∧ i = .int .i64 k ∧ m ≤ 20000 ∧ Hid (m ≤ 100 * k) ∧ Hid (cntM ((its xs).take k) = m) ∧ Hid (Below w.heap.size w wr) ∧ Hid (∀ (j : Nat) (x : It), j < k → (its xs)[j]? = some x → okI x = true ∧ behindAt (its xs) x j = true)) (fun _ _ _ i _ => xs.length - (intOf i).toNat)
  case atStart => exact ⟨0, 0, by omega, rfl, rfl, by omega, Nat.zero_le _, rfl, Below.refl _ _, fun j x h => by omega⟩
  case round =>
    obtain ⟨k, m, hk, rfl, rfl, hm1, hmk, hcnt, hb, hs⟩ := hrel
    by_cases hlt : k < xs.length
    · have i0 : (k : Int) < (xs.length : Int) := by omega
      obtain ⟨bb, off, x, rfl, hbl, hx1, hx2, hc0, hc1, hok⟩ := (HX.out.below hb.out).cells (j := k) hlt
      have hxm := HF.out x (List.mem_of_getElem? hx1)
      have hba : Below wr.heap.size wr (wr.alloc (.cells #[.string ⟨x.nm.toArray⟩, .slice x.A x.ms.length x.c] 49)) := (Below.refl _ wr).alloc (Nat.le_refl _) _
      have hblk := BlkI.new wr x
      have HBA := Lib.hid (below_trans hb.out hba)
      obtain ⟨q1, hq1⟩ : ∃ b, okI x.it = b := ⟨_, rfl⟩
      have HO := Lib.hid fun p => itValid x q1 (far (wr.alloc (.cells #[.string ⟨x.nm.toArray⟩, .slice x.A x.ms.length x.c] 49)) p) ((hok.below hba).below (below_far _ p)) hxm.1 (by omega) hq1
      have HI := Lib.hid (its_at hx1)
      have HQ1 := Lib.hid hq1
      have HX1 := Lib.hid hx1
      have HK := Lib.hid hblk
      have HXW := Lib.hid ((HX.out.below hb.out).below hba)
      have HML := Lib.hid hxm.2
      have HNL := Lib.hid hxm.1
      clear hx1 hx2 hok hba hblk hq1 hxm
      go_wp2_with fail
      clear hc0 hc1
      generalize World.alloc wr _ = w3 at HBA HO HK HXW ⊢
      have hlw := HK.out.lt
      have n0 := fun p => cell_far (p := p) hlw HK.out.cell0
      have n1 := fun p => cell_far (p := p) hlw HK.out.cell1
      cases q1 with
      | false =>
        have HN := Lib.hid (show false = b from by rw [← HV.out]; exact (validL_no HI.out (.inl HQ1.out)).symm)
        refine wp_region_far (by kernel_rfl) (by kernel_rfl) ?_
        repeat (go_big_quiet_step ((go_at_call 93; exact OneB.far (HO.out _))))
        refine wpQuiet_nil ?_
        rintro _ ⟨p, rfl⟩
        go_wp2_with fail
        go_ret
        exact OneB.bool HN.out (below_trans HBA.out (below_far w3 p))
      | true =>
        have HC1 := Lib.hid (show cntM ((its xs).take (k + 1)) = m + x.ms.length from by rw [take_step HI.out, cntM_snoc, hcnt.out]; rfl)
        by_cases hk0 : k = 0
        · have h0n : ¬ 0 < k := by omega
          have h0d : decide ((0 : Int) < (k : Int)) = false := decide_eq_false (by omega)
          have HS := Lib.hid (step_ok (p := fun x j => okI x = true ∧ behindAt (its xs) x j = true) hs.out HI.out ⟨HQ1.out, by rw [hk0]; rfl⟩)
          clear hk0
          refine wp_region_far (by kernel_rfl) (by kernel_rfl) ?_
          repeat (go_big_quiet_step ((go_at_call 93; exact OneB.far (HO.out _))))
          refine wpQuiet_nil ?_
          rintro _ ⟨p, rfl⟩
          have hml := HML.out
          have hmk' := hmk.out
          go_wp2_with fail
          go_roundw
          case rel => exact ⟨k + 1, m + x.ms.length, by omega, by go_num, by go_num, by omega, (show m + x.ms.length ≤ 100 * (k + 1) from by omega), HC1, below_trans HBA.out (below_far w3 p), HS⟩
          case measure => simp [intOf]; omega
        · obtain ⟨n, hkn⟩ : ∃ n, k = n + 1 := ⟨k - 1, by omega⟩
          have h0n : 0 < k := by omega
          have h0d : (0 : Int) < (k : Int) := by omega
          have i1 : (k : Int) - 1 = (n : Int) := by omega
          have i2 : (n : Int) < (xs.length : Int) := by omega
          obtain ⟨b', off', y, ho, hbl', hy1, hyj, hd0, hd1, hok'⟩ := HXW.out.cells (j := n) (by omega)
          cases ho
          clear hyj
          have m0 := fun p => cell_far (p := p) hbl' hd0
          obtain ⟨q, hq⟩ : ∃ q, beforeN y.nm x.nm = q := ⟨_, rfl⟩
          have hls : Op.bytesLess y.nm x.nm = q := (bytesLess_eq y.nm x.nm).trans hq
          have HBH := Lib.hid (show behindAt (its xs) x.it k = q from by rw [behindAt_succ hkn (its_at hy1)]; exact hq)
          clear hd0 hd1 hok' hy1 hkn hk0
          cases q with
          | true =>
            have HS := Lib.hid (step_ok (p := fun x j => okI x = true ∧ behindAt (its xs) x j = true) hs.out HI.out ⟨HQ1.out, HBH.out⟩)
            clear hq
            refine wp_region_far (by kernel_rfl) (by kernel_rfl) ?_
            repeat (go_big_quiet_step ((go_at_call 93; exact OneB.far (HO.out _))))
            refine wpQuiet_nil ?_
            rintro _ ⟨p, rfl⟩
            have hml := HML.out
            have hmk' := hmk.out
            go_wp2_with fail
            go_roundw
            case rel => exact ⟨k + 1, m + x.ms.length, by omega, by go_num, by go_num, by omega, (show m + x.ms.length ≤ 100 * (k + 1) from by omega), HC1, below_trans HBA.out (below_far w3 p), HS⟩
            case measure => simp [intOf]; omega
          | false =>
            have HN := Lib.hid (show false = b from by rw [← HV.out]; exact (validL_no HI.out (.inr HBH.out)).symm)
            clear hq
            refine wp_region_far (by kernel_rfl) (by kernel_rfl) ?_
            repeat (go_big_quiet_step ((go_at_call 93; exact OneB.far (HO.out _))))
            refine wpQuiet_nil ?_
            rintro _ ⟨p, rfl⟩
            go_wp2_with fail
            go_ret
            exact OneB.bool HN.out (below_trans HBA.out (below_far w3 p))
    · obtain rfl : k = xs.length := by omega
      have i0 : ¬ (xs.length : Int) < (xs.length : Int) := by omega
      have HD := Lib.hid (HDD.out _ (HX.out.below hb.out))
      have hst := good_of_steps (l := its xs) (by rw [its_len]; exact hs.out)
      have hcn : cntM (its xs) = m := by have := hcnt.out; rwa [← its_len xs, List.take_length] at this
      have HG := Lib.hid (show (((dotsI (its xs)).length : Int) == (m : Int)) = b from by
        have h := good_count hst.1 hst.2
        rw [← validL_good, hcn] at h
        rw [← HV.out, Bool.eq_iff_iff, ← h, beq_iff_eq]
        omega)
      clear hlt hk hst hcn
      generalize dotsI (its xs) = ds at *
      go_wp2_with fail
      refine HD.out.mono ?_
      rintro e w1 ⟨⟨v1, rfl, A1, c1, rfl, ha1, hl1, hl2⟩, hb1⟩
      have HB1 := Lib.hid (below_trans hb.out hb1)
      clear ha1 hb1
      go_wp2_with fail
      go_ret
      exact OneB.bool HG.out HB1.out

end

section
open Go.RowKit

theorem HoldsX.drew {w : World} {v : Value} {xs : List ItV} (h : HoldsX w v xs) : HoldsX w.drew v xs := h.below (Below.refl _ _).drew
theorem itEqual_h (v u : Value) (xs ys : List ItV) (b : Bool) (w : World) (h : HoldsX w v xs) (k : HoldsX w u ys) (hm : xs.length ≤ 100000) (hm' : ys.length ≤ 100000) (hb : decide (its xs = its ys) = b) :
    Calls Tryz.prog 100 #[v, u] w (OneB (.bool b) w) := by
  obtain ⟨A, c, rfl, h1, _⟩ := h
  obtain ⟨A', c', rfl, h2, _⟩ := k
  subst hb
  exact itemsEqual A A' xs ys c c' w h1 h2 hm hm'
theorem itValid_h (v : Value) (xs : List ItV) (b : Bool) (w : World) (h : HoldsX w v xs) (hf : Fits xs) (hb : validL (its xs) = b) : Calls Tryz.prog 53 #[v] w (OneB (.bool b) w) := by
  obtain ⟨A, c, rfl, h1, _⟩ := h
  exact itemsValid A xs c b w h1 hf hb
theorem itDots_h (v : Value) (xs : List ItV) (w : World) (h : HoldsX w v xs) (hf : Fits xs) : Calls Tryz.prog 55 #[v] w fun e w' => (∃ v, e = .returned v ∧ Holds w' v (dotsI (its xs))) ∧ Below w.heap.size w w' := by
  obtain ⟨A, c', rfl, h1, _⟩ := h
  exact itDots A xs c' w h1 hf

end

section
open Go.RowKit

/-- Not too much for package context. -/
def FitsK (c : CaV) : Prop := Fits c.xs ∧ c.vs.length + c.ls.length + (dotsI (its c.xs)).length ≤ 3000
theorem compC_valid {vs ls : List (Int × Int)} (h : compC vs ls = true) : ∀ d ∈ vs, validD d.1 d.2 = true := ((validV_iff vs).1 (validC_iff.1 (compC_iff.1 h).2).1).1
theorem ctxIsCompact_o (v : Value) (vs ls : List (Int × Int)) (b : Bool) (w : World) (h : HoldsC w v vs ls) (hm : vs.length + ls.length ≤ 3000) (hb : compC vs ls = b) :
    Calls Tryz.prog 52 #[v] w (OneB (.bool b) w) := ctxIsCompact v vs ls b w h hm hb
theorem ctxMissing_v (v : Value) (X : Option Addr) (cx : Nat) (vs ls m : List (Int × Int)) (w : World) (h : HoldsC w v vs ls) (hx : Holds w (.slice X m.length cx) m) (hm : vs.length + ls.length + m.length ≤ 3000) (hv : ∀ d ∈ vs, validD d.1 d.2 = true) :
    Calls Tryz.prog 54 #[v, .slice X m.length cx] w fun e w' => (∃ v', e = .returned v' ∧ Holds w' v' (missC vs ls m)) ∧ Below w.heap.size w w' := by
  obtain ⟨zs, rfl⟩ := wf_list hv
  refine (ctxMissing v X cx zs ls m w h hx (by simpa using hm)).mono ?_
  rintro e w' ⟨⟨v', rfl, h1⟩, hb⟩
  exact ⟨⟨v', rfl, h1.holds⟩, hb⟩

set_option maxRecDepth 100000 in
set_option maxHeartbeats 4000000 in
theorem caValid (c : CaV) (b : Bool) (w : World) (hc : CaOK w c) (hf : FitsK c) (hb : validK c.ca = b) :
    Calls Tryz.prog 23 #[mkC c] w (OneB (.bool b) w) := by
  have K0 := Lib.hid (KK.new w c hc)
  obtain ⟨p, hp⟩ : ∃ p, compC c.vs c.ls = p := ⟨_, rfl⟩
  obtain ⟨q, hq⟩ : ∃ q, validL (its c.xs) = q := ⟨_, rfl⟩
  obtain ⟨mm, hmm⟩ : ∃ mm, missC c.vs c.ls (dotsI (its c.xs)) = mm := ⟨_, rfl⟩
  have HP := Lib.hid hp
  have HQ := Lib.hid hq
  have HM := Lib.hid hmm
  have HF := Lib.hid hf.1
  have HN := Lib.hid hf.2
  have HW := Lib.hid (show p = true → ∀ d ∈ c.vs, validD d.1 d.2 = true from fun e => compC_valid (by rw [hp, e]))
  have HE := Lib.hid (show (p && (q && mm.isEmpty)) = b from by rw [← hp, ← hq, ← hmm, ← hb]; rfl)
  clear hp hq hmm hb hc hf
  cases p with
  | false =>
    obtain rfl : b = false := HE.out.symm
    go_enter Tryz.func23, Tryz.ntmps23
    go_wp2_with fail
    generalize w.heap.size = g at K0 ⊢
    generalize World.alloc w _ = w2 at K0 ⊢
    obtain ⟨x0, x1, x2, xl, _⟩ := K0.out.sp
    have l0 := fun p => cell_far (p := p) xl x0
    have l1 := fun p => cell_far (p := p) xl x1
    have l2 := fun p => cell_far (p := p) xl x2
    have HC := Lib.hid fun p => ctxIsCompact_o _ c.vs c.ls false (far w2 p) ((K0.out.far p).ok (g := g) (c := c) (by simp)).ctx (by have := HN.out; omega) HP.out
    go_wp2_with fail
    refine wp_region_far (by kernel_rfl) (by kernel_rfl) ?_
    repeat (go_big_quiet_step ((go_at_call 52; exact OneB.far (HC.out _))))
    refine wpQuiet_nil ?_
    rintro _ ⟨p, rfl⟩
    go_wp2_with fail
    go_ret
    exact OneB.bool rfl (K0.out.far p).bel
  | true =>
    cases q with
    | false =>
      obtain rfl : b = false := HE.out.symm
      go_enter Tryz.func23, Tryz.ntmps23
      go_wp2_with fail
      generalize w.heap.size = g at K0 ⊢
      generalize World.alloc w _ = w2 at K0 ⊢
      obtain ⟨x0, x1, x2, xl, _⟩ := K0.out.sp
      have l0 := fun p => cell_far (p := p) xl x0
      have l1 := fun p => cell_far (p := p) xl x1
      have l2 := fun p => cell_far (p := p) xl x2
      have HC := Lib.hid fun p => ctxIsCompact_o _ c.vs c.ls true (far w2 p) ((K0.out.far p).ok (g := g) (c := c) (by simp)).ctx (by have := HN.out; omega) HP.out
      have HV := Lib.hid fun p => itValid_h _ c.xs false (far w2 p) ((K0.out.far p).ok (g := g) (c := c) (by simp)).2.2 HF.out HQ.out
      go_wp2_with fail
      refine wp_region_far (by kernel_rfl) (by kernel_rfl) ?_
      repeat (go_big_quiet_step ((first | (go_at_call 52; exact OneB.far (HC.out _)) | (go_at_call 53; exact OneB.far (HV.out _)))))
      refine wpQuiet_nil ?_
      rintro _ ⟨p, rfl⟩
      go_wp2_with fail
      go_ret
      exact OneB.bool rfl (K0.out.far p).bel
    | true =>
      have HE2 := Lib.hid (show mm.isEmpty = b from by rw [← HE.out]; rfl)
      clear HE
      go_enter Tryz.func23, Tryz.ntmps23
      go_wp2_with fail
      generalize w.heap.size = g at K0 ⊢
      generalize World.alloc w _ = w2 at K0 ⊢
      have hS := K0.out
      have hS' := hS.sp
      clear K0
      go_wp2_with fail
      go_region_held3 (fun W => W.cell? ⟨g, 0, none⟩ = some c.v ∧ W.cell? ⟨g, 1, none⟩ = some c.l ∧ W.cell? ⟨g, 2, none⟩ = some c.i ∧ g < W.heap.size ∧ KK w [(g, c)] W)
        (first
          | assumption
          | (exact KK.sp (by assumption))
          | (exact KK.sp (KK.drew (by assumption))))
        (first
          | (go_at_call 52; refine (ctxIsCompact_o _ c.vs c.ls true _ (KK.ok (g := g) (c := c) (by first | assumption | exact KK.drew (by assumption)) (by simp)).ctx (by have := HN.out; omega) HP.out).mono ?_
             rintro e wa ⟨rfl, hb1⟩
             have hS1 := KK.next (by first | assumption | exact KK.drew (by assumption)) hb1
             have hS1' := hS1.sp)
          | (go_at_call 53; refine (itValid_h _ c.xs true _ (KK.ok (g := g) (c := c) (by first | assumption | exact KK.drew (by assumption)) (by simp)).2.2 HF.out HQ.out).mono ?_
             rintro e wb ⟨rfl, hb2⟩
             have hS2 := KK.next (by first | assumption | exact KK.drew (by assumption)) hb2
             have hS2' := hS2.sp)
          | (go_at_call 55; refine (itDots_h _ c.xs _ (KK.ok (g := g) (c := c) (by first | assumption | exact KK.drew (by assumption)) (by simp)).2.2 HF.out).mono ?_
             rintro e wc ⟨⟨v1, rfl, hv1⟩, hb3⟩
             have hS3 := KK.next (by first | assumption | exact KK.drew (by assumption)) hb3
             have hS3' := hS3.sp
             obtain ⟨D, dc, rfl, _⟩ := id hv1)
          | (go_at_call 54; refine (ctxMissing_v _ D dc c.vs c.ls (dotsI (its c.xs)) _ (KK.ok (g := g) (c := c) (by first | assumption | exact KK.drew (by assumption)) (by simp)).ctx (by first | exact hv1 | exact hv1.below (Below.refl _ _).drew) HN.out (HW.out (by first | rfl | trivial))).mono ?_
             rintro e wd ⟨⟨v2, rfl, hv2⟩, hb4⟩
             rw [HM.out] at hv2
             have hS4 := KK.next (by first | assumption | exact KK.drew (by assumption)) hb4
             have hS4' := hS4.sp
             obtain ⟨E, ec, rfl, _⟩ := id hv2))
      all_goals
        have KF := Lib.hid hS4.bel
        clear hS hS' hS1 hS1' hS2 hS2' hS3 hS3' hS4 hS4' hv1 hv2 hb1 hb2 hb3 hb4
        go_wp2_with fail
        go_ret
        exact OneB.bool (by
          rw [← HE2.out]
          cases mm with
          | nil => simp
          | cons _ _ => simp; omega) KF.out

set_option maxHeartbeats 1000000 in
theorem caEqual (c d : CaV) (b : Bool) (w : World) (hc : CaOK w c) (hd : CaOK w d) (hm : c.xs.length ≤ 100000) (hm' : d.xs.length ≤ 100000) (hb : sameC c.ca d.ca = b) :
    Calls Tryz.prog 56 #[mkC c, mkC d] w (OneB (.bool b) w) := by
  have h1 := (Below.refl w.heap.size w).alloc (Nat.le_refl _) (.cells #[c.v, c.l, c.i] 28)
  have K0 := Lib.hid (KK.push (L := [(w.heap.size, c)]) (KK.new w c hc) d (hd.below h1) (w.heap.size + 1) (by simp))
  obtain ⟨p, hp⟩ : ∃ p, (decide (c.vs = d.vs) && decide (c.ls = d.ls)) = p := ⟨_, rfl⟩
  obtain ⟨q, hq⟩ : ∃ q, decide (its c.xs = its d.xs) = q := ⟨_, rfl⟩
  have HP := Lib.hid hp
  have HQ := Lib.hid hq
  have HE := Lib.hid (show (p && q) = b from by rw [← hp, ← hq, ← hb]; rfl)
  clear hp hq hb h1 hc hd
  go_enter Tryz.func56, Tryz.ntmps56
  go_wp2_with fail
  generalize World.alloc (World.alloc w _) _ = w2 at K0 ⊢
  obtain ⟨x0, x1, x2, y0, y1, y2, xl, yl, _⟩ := K0.out.sp2
  go_wp2_with fail
  refine (ctxEqual _ _ c.vs c.ls d.vs d.ls p w2 (K0.out.ok (g := w.heap.size) (by simp)).ctx (K0.out.ok (g := w.heap.size + 1) (by simp)).ctx HP.out).mono ?_
  rintro e w3 ⟨rfl, hb⟩
  have K1 := Lib.hid (K0.out.next hb)
  clear hb K0 x0 x1 x2 y0 y1 y2 xl yl
  obtain ⟨x0, x1, x2, y0, y1, y2, xl, yl, _⟩ := K1.out.sp2
  cases p with
  | false =>
    go_wp2_with fail
    go_ret
    exact OneB.bool (by rw [← HE.out]; rfl) K1.out.bel
  | true =>
    go_wp2_with fail
    refine (itEqual_h _ _ c.xs d.xs q w3 (K1.out.ok (g := w.heap.size) (by simp)).2.2 (K1.out.ok (g := w.heap.size + 1) (by simp)).2.2 hm hm' HQ.out).mono ?_
    rintro e w4 ⟨rfl, hb⟩
    have K2 := Lib.hid (K1.out.next hb).bel
    clear hb K1 x0 x1 x2 y0 y1 y2 xl yl
    go_wp2_with fail
    go_ret
    exact OneB.bool (by rw [← HE.out]; rfl) K2.out

end

section
open Go.RowKit Go.Sort

/-- A mark with a name as a value: one flat row of five cells. -/
abbrev mkH (x : Hd) : Value := .agg #[.string ⟨x.1.toArray⟩, .int .i64 x.2.r, .int .i64 x.2.c, .int .i64 x.2.q, .int .u64 (x.2.t : Int)]
abbrev encH (x : Hd) : List Value := [.string ⟨x.1.toArray⟩, .int .i64 x.2.r, .int .i64 x.2.c, .int .i64 x.2.q, .int .u64 (x.2.t : Int)]
theorem encH_len (x : Hd) : (encH x).length = 5 := rfl
theorem encH_one (x : Hd) : ∀ u ∈ encH x, u.oneCell' = true := by
  intro u hu
  simp [encH] at hu
  rcases hu with rfl | rfl | rfl | rfl | rfl <;> rfl
theorem infoH : (Tryz.prog.info? 67).map (fun i => (i.zero, i.size, i.bytes)) = some (some (.agg #[.string ⟨#[]⟩, .int .i64 0, .int .i64 0, .int .i64 0, .int .u64 0]), 5, 48) := by kernel_rfl
abbrev HeldAt (w : World) (A : Option Addr) (xs : List Hd) : Prop := SlAt encH 5 w A xs
/-- Such marks in a row of the call's own. -/
abbrev RowH (W : World) (B : Nat) (v : Value) (xs : List Hd) : Prop := W.ownsRow B 67 5 v xs.length (cellsOf encH xs)
def HoldsH (w : World) (v : Value) (xs : List Hd) : Prop := ∃ A c, v = .slice A xs.length c ∧ HeldAt w A xs ∧ xs.length ≤ c ∧ c ≤ maxLen
theorem HoldsH.below {w w' : World} {v : Value} {xs : List Hd} (h : HoldsH w v xs) (hb : Below w.heap.size w w') : HoldsH w' v xs := by
  obtain ⟨A, c, rfl, h1, h2, h3⟩ := h
  exact ⟨A, c, rfl, h1.below hb, h2, h3⟩
theorem RowH.holds {w : World} {B : Nat} {v : Value} {xs : List Hd} (h : RowH w B v xs) : HoldsH w v xs := by
  obtain ⟨A, c, rfl, h1, h2, h3⟩ := SlAt.of_own encH_len h
  exact ⟨A, c, rfl, h3, h1, h2⟩
theorem SlAt.held {w : World} {A : Option Addr} {xs : List Hd} (h : HeldAt w A xs) {j : Nat} (hj : j < xs.length) :
    ∃ b off, ∃ x : Hd, A = some ⟨b, off, none⟩ ∧ b < w.heap.size ∧ xs[j]? = some x ∧ w.cell? ⟨b, off + j * 5, none⟩ = some (.string ⟨x.1.toArray⟩) ∧ w.cell? ⟨b, off + j * 5 + 1, none⟩ = some (.int .i64 x.2.r) ∧ w.cell? ⟨b, off + j * 5 + 2, none⟩ = some (.int .i64 x.2.c) ∧ w.cell? ⟨b, off + j * 5 + 3, none⟩ = some (.int .i64 x.2.q) ∧ w.cell? ⟨b, off + j * 5 + 4, none⟩ = some (.int .u64 (x.2.t : Int)) := by
  obtain ⟨b, off, rfl, hb, hc⟩ := h (by omega)
  have hx := List.getElem?_eq_getElem hj
  exact ⟨b, off, xs[j], rfl, hb, hx, by simpa using hc j _ hx 0 _ rfl, hc j _ hx 1 _ rfl, hc j _ hx 2 _ rfl, hc j _ hx 3 _ rfl, hc j _ hx 4 _ rfl⟩
/-- A block that holds one. -/
def BlkH (W : World) (g : Nat) (x : Hd) : Prop := W.heap[g]? = some (.cells #[.string ⟨x.1.toArray⟩, .int .i64 x.2.r, .int .i64 x.2.c, .int .i64 x.2.q, .int .u64 (x.2.t : Int)] 67 (0, 0))
section
variable {W W' : World} {g : Nat} {x : Hd}
theorem BlkH.lt (h : BlkH W g x) : g < W.heap.size := (Array.getElem?_eq_some_iff.1 h).1
theorem BlkH.cell0 (h : BlkH W g x) : W.cell? ⟨g, 0, none⟩ = some (.string ⟨x.1.toArray⟩) := by simp [World.cell?, show W.heap[g]? = _ from h]
theorem BlkH.cell1 (h : BlkH W g x) : W.cell? ⟨g, 1, none⟩ = some (.int .i64 x.2.r) := by simp [World.cell?, show W.heap[g]? = _ from h]
theorem BlkH.cell2 (h : BlkH W g x) : W.cell? ⟨g, 2, none⟩ = some (.int .i64 x.2.c) := by simp [World.cell?, show W.heap[g]? = _ from h]
theorem BlkH.cell3 (h : BlkH W g x) : W.cell? ⟨g, 3, none⟩ = some (.int .i64 x.2.q) := by simp [World.cell?, show W.heap[g]? = _ from h]
theorem BlkH.cell4 (h : BlkH W g x) : W.cell? ⟨g, 4, none⟩ = some (.int .u64 (x.2.t : Int)) := by simp [World.cell?, show W.heap[g]? = _ from h]
theorem BlkH.frozen (h : BlkH W g x) (k : Nat) : W.frozen? ⟨g, k, none⟩ = false := by simp [World.frozen?, show W.heap[g]? = _ from h]
theorem BlkH.below (h : BlkH W g x) (hb : Below W.heap.size W W') : BlkH W' g x := (hb.block g h.lt).trans h
theorem BlkH.new (W : World) (x : Hd) : BlkH (W.alloc (.cells #[.string ⟨x.1.toArray⟩, .int .i64 x.2.r, .int .i64 x.2.c, .int .i64 x.2.q, .int .u64 (x.2.t : Int)] 67)) W.heap.size x := heap_alloc_new W _
end

/-- A known result, and no more than some draws and some blocks behind. -/
def OneG (v : Value) (w : World) (e : Ending) (w' : World) : Prop := e = .returned v ∧ ∃ q os', w' = Sort.grow (w.drewN q) os'

theorem drewN_growJ (w : World) (os : Array Obj) (n : Nat) : (grow w os).drewN n = grow (w.drewN n) os := rfl
set_option maxHeartbeats 400000 in
theorem qtyNewerG (a b : Mk) (w : World) : Calls Tryz.prog 133 #[mkV a, mkV b] w (OneG (.bool (newerN a b)) w) := by
  obtain ⟨r, c, q, t⟩ := a
  obtain ⟨r', c', q', t'⟩ := b
  go_enter Tryz.func133, Tryz.ntmps133
  go_wp2
  all_goals
    go_ret
    refine ⟨?_, 0, _, by rw [Sort.alloc_eq_grow, Sort.alloc_eq_grow, Sort.grow_grow]; rfl⟩
    refine congrArg (fun b => Ending.returned (.bool b)) ?_
    rw [Bool.eq_iff_iff, newerN_iff]
    simp at *
    try omega

set_option maxHeartbeats 1000000 in
theorem qtyCompareG (a b : Mk) (w : World) : Calls Tryz.prog 81 #[mkV a, mkV b] w (OneG (.int .i64 (cmpN a b)) w) := by
  have heq := eqlMark a b
  have hc : cmpN a b = if decide (a = b) = true then 0 else if newerN a b then 1 else -1 := by
    by_cases h : a = b
    · rw [if_pos (decide_eq_true h), (cmpN_zero a b).2 h]
    · rw [if_neg (by simpa using h)]
      cases h2 : newerN a b with
      | true => rw [(cmpN_one a b).2 h2]; rfl
      | false =>
        rcases cmpN_cases a b with k | k | k
        · rw [(cmpN_one a b).1 k] at h2; cases h2
        · rw [k]; rfl
        · exact absurd ((cmpN_zero a b).1 k) h
  have hn := fun W => qtyNewerG a b W
  generalize decide (a = b) = x at heq hc
  generalize newerN a b = y at hn hc
  generalize cmpN a b = z at hc ⊢
  have HC := Lib.hid hc
  have HN := Lib.hid hn
  clear hc hn
  obtain ⟨r, c, q, t⟩ := a
  obtain ⟨r', c', q', t'⟩ := b
  cases x with
  | true =>
    go_enter Tryz.func81, Tryz.ntmps81
    go_wp2_with fail
    go_ret
    exact ⟨by rw [HC.out]; rfl, 0, _, by rw [Sort.alloc_eq_grow, Sort.alloc_eq_grow, Sort.grow_grow]; rfl⟩
  | false =>
    cases y with
    | true =>
      go_enter Tryz.func81, Tryz.ntmps81
      go_wp2_with fail
      refine (HN.out _).mono ?_
      rintro e w1 ⟨rfl, q0, os0, rfl⟩
      go_wp2_with fail
      go_ret
      exact ⟨by rw [HC.out]; rfl, q0, _, by rw [Sort.alloc_eq_grow, Sort.alloc_eq_grow, Sort.grow_grow, drewN_growJ, Sort.grow_grow]⟩
    | false =>
      go_enter Tryz.func81, Tryz.ntmps81
      go_wp2_with fail
      refine (HN.out _).mono ?_
      rintro e w1 ⟨rfl, q0, os0, rfl⟩
      go_wp2_with fail
      go_ret
      exact ⟨by rw [HC.out]; rfl, q0, _, by rw [Sort.alloc_eq_grow, Sort.alloc_eq_grow, Sort.grow_grow, drewN_growJ, Sort.grow_grow]⟩

/-- The first one of three numbers that is not 0. -/
def or3 (x y z : Int) : Int := if x ≠ 0 then x else if y ≠ 0 then y else z
set_option maxHeartbeats 1000000 in
theorem cmpOr3 (b : Nat) (cap : Nat) (x y z : Int) (w : World) (h0 : w.cell? ⟨b, 0, none⟩ = some (.int .i64 x)) (h1 : w.cell? ⟨b, 1, none⟩ = some (.int .i64 y)) (h2 : w.cell? ⟨b, 2, none⟩ = some (.int .i64 z)) :
    Calls Tryz.prog 79 #[.slice (some ⟨b, 0, none⟩) 3 cap] w (One (.int .i64 (or3 x y z)) w) := by
  obtain ⟨v, hv⟩ : ∃ v, or3 x y z = v := ⟨_, rfl⟩
  rw [hv]
  unfold or3 at hv
  by_cases hx : x = 0
  · have hx' : (x != 0) = false := by simp [hx]
    rw [if_neg (by simpa using hx)] at hv
    by_cases hy : y = 0
    · have hy' : (y != 0) = false := by simp [hy]
      rw [if_neg (by simpa using hy)] at hv
      by_cases hz : z = 0
      · have hz' : (z != 0) = false := by simp [hz]
        rw [hz] at hv
        clear hx hy hz
        subst hv
        go_enter Tryz.func79, Tryz.ntmps79
        go_wp2
        refine wp_loop_rounds 4 ?_
        rw [rounds_succ]
        go_wp2
        rw [rounds_succ]
        go_wp2
        rw [rounds_succ]
        go_wp2
        rw [rounds_succ]
        go_wp2
        go_ret
        exact ⟨rfl, rfl⟩
      · have hz' : (z != 0) = true := by simp [hz]
        clear hx hy hz
        subst hv
        go_enter Tryz.func79, Tryz.ntmps79
        go_wp2
        refine wp_loop_rounds 3 ?_
        rw [rounds_succ]
        go_wp2
        rw [rounds_succ]
        go_wp2
        rw [rounds_succ]
        go_wp2
        go_ret
        exact ⟨rfl, rfl⟩
    · have hy' : (y != 0) = true := by simp [hy]
      rw [if_pos (by simpa using hy)] at hv
      clear hx hy
      subst hv
      go_enter Tryz.func79, Tryz.ntmps79
      go_wp2
      refine wp_loop_rounds 2 ?_
      rw [rounds_succ]
      go_wp2
      rw [rounds_succ]
      go_wp2
      go_ret
      exact ⟨rfl, rfl⟩
  · have hx' : (x != 0) = true := by simp [hx]
    rw [if_pos (by simpa using hx)] at hv
    clear hx
    subst hv
    go_enter Tryz.func79, Tryz.ntmps79
    go_wp2
    refine wp_loop_rounds 1 ?_
    rw [rounds_succ]
    go_wp2
    go_ret
    exact ⟨rfl, rfl⟩

/-- Two boxes of marks with names, some draws and some blocks behind. -/
def KHo (W0 : World) (x y : Hd) (W : World) : Prop := (∃ p : GrownBy, W = grow ((((W0.alloc (.cells #[.string ⟨x.1.toArray⟩, .int .i64 x.2.r, .int .i64 x.2.c, .int .i64 x.2.q, .int .u64 (x.2.t : Int)] 67)).alloc (.cells #[.string ⟨y.1.toArray⟩, .int .i64 y.2.r, .int .i64 y.2.c, .int .i64 y.2.q, .int .u64 (y.2.t : Int)] 67)).drewN p.n)) p.os)
section
variable {W0 W : World} {x y : Hd}
theorem KHo.blk (h : KHo W0 x y W) : BlkH W W0.heap.size x ∧ BlkH W (W0.heap.size + 1) y := by
  obtain ⟨p, rfl⟩ := h
  have h1 := BlkH.new W0 x
  have h2 := BlkH.new (W0.alloc (.cells #[.string ⟨x.1.toArray⟩, .int .i64 x.2.r, .int .i64 x.2.c, .int .i64 x.2.q, .int .u64 (x.2.t : Int)] 67)) y
  rw [World.size_alloc] at h2
  have hb := below_grow ((W0.alloc (.cells #[.string ⟨x.1.toArray⟩, .int .i64 x.2.r, .int .i64 x.2.c, .int .i64 x.2.q, .int .u64 (x.2.t : Int)] 67)).alloc (.cells #[.string ⟨y.1.toArray⟩, .int .i64 y.2.r, .int .i64 y.2.c, .int .i64 y.2.q, .int .u64 (y.2.t : Int)] 67)) p.n p.os
  exact ⟨(h1.below ((Below.refl _ _).alloc (Nat.le_refl _) _)).below hb, h2.below hb⟩
theorem KHo.sp (h : KHo W0 x y W) : W.cell? ⟨W0.heap.size, 0, none⟩ = some (.string ⟨x.1.toArray⟩) ∧ W.cell? ⟨W0.heap.size, 1, none⟩ = some (.int .i64 x.2.r) ∧ W.cell? ⟨W0.heap.size, 2, none⟩ = some (.int .i64 x.2.c) ∧ W.cell? ⟨W0.heap.size, 3, none⟩ = some (.int .i64 x.2.q) ∧ W.cell? ⟨W0.heap.size, 4, none⟩ = some (.int .u64 (x.2.t : Int)) ∧
    W.cell? ⟨W0.heap.size + 1, 0, none⟩ = some (.string ⟨y.1.toArray⟩) ∧ W.cell? ⟨W0.heap.size + 1, 1, none⟩ = some (.int .i64 y.2.r) ∧ W.cell? ⟨W0.heap.size + 1, 2, none⟩ = some (.int .i64 y.2.c) ∧ W.cell? ⟨W0.heap.size + 1, 3, none⟩ = some (.int .i64 y.2.q) ∧ W.cell? ⟨W0.heap.size + 1, 4, none⟩ = some (.int .u64 (y.2.t : Int)) ∧ KHo W0 x y W :=
  ⟨h.blk.1.cell0, h.blk.1.cell1, h.blk.1.cell2, h.blk.1.cell3, h.blk.1.cell4, h.blk.2.cell0, h.blk.2.cell1, h.blk.2.cell2, h.blk.2.cell3, h.blk.2.cell4, h⟩
theorem KHo.drew (h : KHo W0 x y W) : KHo W0 x y W.drew := by
  obtain ⟨p, rfl⟩ := h
  exact ⟨⟨p.n + 1, p.os⟩, by rw [← World.drewN_drewN]; rfl⟩
theorem KHo.next (h : KHo W0 x y W) {q : Nat} {os : Array Obj} : KHo W0 x y (grow (W.drewN q) os) := by
  obtain ⟨p, rfl⟩ := h
  exact ⟨⟨p.n + q, p.os ++ os⟩, by rw [drewN_growJ, grow_grow, World.drewN_drewN]⟩
theorem KHo.alloc (h : KHo W0 x y W) (o : Obj) : KHo W0 x y (W.alloc o) := by
  have := h.next (q := 0) (os := #[o])
  rw [Sort.alloc_eq_grow]; exact this
theorem KHo.fin (h : KHo W0 x y W) : ∃ q os', W = grow (W0.drewN q) os' := by
  obtain ⟨p, rfl⟩ := h
  exact ⟨p.n, _, by rw [Sort.alloc_eq_grow, Sort.alloc_eq_grow, grow_grow, drewN_growJ, grow_grow]⟩
theorem KHo.new (W0 : World) (x y : Hd) : KHo W0 x y ((W0.alloc (.cells #[.string ⟨x.1.toArray⟩, .int .i64 x.2.r, .int .i64 x.2.c, .int .i64 x.2.q, .int .u64 (x.2.t : Int)] 67)).alloc (.cells #[.string ⟨y.1.toArray⟩, .int .i64 y.2.r, .int .i64 y.2.c, .int .i64 y.2.q, .int .u64 (y.2.t : Int)] 67)) :=
  ⟨⟨0, #[]⟩, by rw [grow_empty]; rfl⟩
end

end

section
open Go.RowKit Go.Sort

instance : Inhabited Mk := ⟨Mk.zero⟩
instance : Inhabited ItV := ⟨ItV.zero⟩
/-- From the library's words to lists. -/
theorem perm_sorted {α : Type} [Inhabited α] {lt : α → α → Bool} {xs : List α} {d : Array α} (hp : PermIn 0 xs.toArray.size xs.toArray d) (hs : SortedIn lt 0 xs.toArray.size d) : d.size = xs.length ∧ d.toList.Perm xs ∧ d.toList.Pairwise fun a b => lt b a = false := by
  obtain ⟨hsz, _, hperm⟩ := hp
  have e1 : d.extract 0 xs.toArray.size = d := by rw [← hsz]; exact Array.extract_size
  rw [e1, Array.extract_size] at hperm
  refine ⟨by simpa using hsz, by simpa using hperm, ?_⟩
  rw [List.pairwise_iff_getElem]
  intro i j hi hj hij
  have := hs i j (Nat.zero_le _) hij (by rw [← hsz]; simpa using hj)
  simp only [Array.length_toList] at hi hj
  rw [getElem!_pos d i hi, getElem!_pos d j hj] at this
  simpa using this

end

end Go.Proofs.YtfjbocipjmpogaaGreat
