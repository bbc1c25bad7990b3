/- Several texts in one: ItmN, ItmP, ItmU, CarN, CarR, DelK. -/
import Derived.Test.YtiaehpdgpjhecaaGreatPAP
import Derived.Test.YtiaehpdgpjhecaaGreatPAN
import Derived.Test.YtiaehpdgpjhecaaGreatPAO
namespace Go.Proofs.YtiaehpdgpjhecaaGreat

section
open Go.RowKit

/-- A dot and an item in their blocks. -/
structure KO (W0 : World) (gd g : Nat) (r c : Int) (x : ItV) (W : World) : Prop where
  dot : W.heap[gd]? = some (.cells #[.int .i64 r, .int .i64 c] 30 (0, 0))
  blk : BlkI W g x
  bel : Below W0.heap.size W0 W
  ok : ItOK W x
section
variable {W0 W W' : World} {gd g : Nat} {r c : Int} {x : ItV}
theorem KO.lt (h : KO W0 gd g r c x W) : gd < W.heap.size := (Array.getElem?_eq_some_iff.1 h.dot).1
theorem KO.next (h : KO W0 gd g r c x W) (hb : Below W.heap.size W W') : KO W0 gd g r c x W' := ⟨(hb.block _ h.lt).trans h.dot, h.blk.below hb, below_trans h.bel hb, h.ok.below hb⟩
theorem KO.drew (h : KO W0 gd g r c x W) : KO W0 gd g r c x W.drew := h.next (Below.refl _ _).drew
theorem KO.sp (h : KO W0 gd g r c x W) : W.cell? ⟨gd, 0, none⟩ = some (.int .i64 r) ∧ W.cell? ⟨gd, 1, none⟩ = some (.int .i64 c) ∧ W.cell? ⟨g, 1, none⟩ = some (.slice x.A x.ms.length x.c) ∧ gd < W.heap.size ∧ g < W.heap.size ∧ KO W0 gd g r c x W :=
  ⟨by simp [World.cell?, h.dot], by simp [World.cell?, h.dot], h.blk.cell1, h.lt, h.blk.lt, h⟩
end
theorem Holds.drew {w : World} {v : Value} {xs : List (Int × Int)} (h : Holds w v xs) : Holds w.drew v xs := h.below (Below.refl _ _).drew

theorem allD_snoc (l : List It) (x : It) : allD (l ++ [x]) = allD l ++ dotsM x.2 := by simp [allD]
set_option maxRecDepth 100000 in
set_option maxHeartbeats 4000000 in
theorem itDotsO (A : Option Addr) (xs : List ItV) (cap : Nat) (w : World) (hx : ItemsAt w A xs) (hf : Fits xs) :
    Calls Tryz.prog 62 #[.slice A xs.length cap] w fun e w' => (∃ v, e = .returned v ∧ w'.ownsRow w.heap.size 30 2 v (dotsI (its xs)).length (cellsOf encD (dotsI (its xs)))) ∧ Below w.heap.size w w' := by
  obtain ⟨ti0, hi0, hz0, hz1, hz2⟩ := info_parts infoD
  have hm := hf.1
  have HX := Lib.hid hx
  have HF := Lib.hid hf.2
  clear hx hf
  go_enter Tryz.func62, Tryz.ntmps62
  go_wp2_with fail
  go_loopw [3, 5, 8] (fun s3 _ i wr => ∃ (k : Nat) (D : Option Addr) (d : Nat) (ds : List (Int × Int)), k ≤ xs.length ∧ s3 = .slice D ds.length d ∧ i = .int .i64 k ∧ Hid (allD ((its xs).take k) = ds) ∧ Hid (ds.length ≤ 100 * k) ∧ Hid (wr.ownsRow w.heap.size 30 2 (.slice D ds.length d) ds.length (cellsOf encD ds)) ∧ Hid (Below w.heap.size w wr)) (fun _ _ i _ => xs.length - (intOf i).toNat)
  case atStart => exact ⟨0, none, 0, [], by omega, rfl, rfl, rfl, Nat.zero_le _, World.ownsRow_nil _ _ _ _, Below.refl _ _⟩
  case round =>
    obtain ⟨k, D, d, ds, hk, rfl, rfl, hds, hdl, HO, HB⟩ := hrel
    by_cases hlt : k < xs.length
    · have i0 : (k : Int) < (xs.length : Int) := by omega
      obtain ⟨g, off, x, rfl, hbl, hx1, _, hc0, hc1, hok⟩ := (HX.out.below HB.out).cells (j := k) hlt
      have hxm := (HF.out x (List.mem_of_getElem? hx1)).2
      have hba : Below wr.heap.size wr (wr.alloc (.cells #[.string ⟨x.nm.toArray⟩, .slice x.A x.ms.length x.c] 50)) := (Below.refl _ wr).alloc (Nat.le_refl _) _
      have HBA := Lib.hid hba
      have HD := Lib.hid (qtyDots x.A x.ms x.c _ (hok.below hba).1 (by omega))
      have HE := Lib.hid (show allD ((its xs).take (k + 1)) = ds ++ dotsM x.ms from by rw [take_step (its_at hx1), allD_snoc, hds.out]; rfl)
      have HML := Lib.hid (dotsM_len x.ms)
      clear hx1 hok hba
      go_wp2_with fail
      refine HD.out.mono ?_
      rintro e w1 ⟨⟨v1, rfl, A1, c1, rfl, ha1, hl1, hl2⟩, hb1⟩
      have hb3 := below_trans HBA.out hb1
      have HA1 := Lib.hid ha1
      have HO1 := Lib.hid (show w1.ownsRow w.heap.size 30 2 (.slice D ds.length d) ds.length (cellsOf encD ds) from HO.out.kept (grown_of_below hb3 none) (by cases D <;> simp [Value.ownBlock]))
      have HB1 := Lib.hid (below_trans HB.out hb3)
      have hdl2 := hdl.out
      clear ha1 hb1 hb3 hc0 hc1
      generalize dotsM x.ms = ms1 at *
      go_wp2_with (at_builtin; go_loud (refine wpList_append_sl _ encD 2 rfl (.tmp 12) (.tmp 15) 22 rfl encD_len (by omega) encD_one w.heap.size 30 ti0 _ 16 Tryz.underlying22 hi0 hz0 hz1 hz2 rfl (.slice D ds.length d) ds rfl HO1.out A1 _ c1 ms1 rfl rfl HA1.out (by have := HML.out; unfold maxLen; omega) (by have := HML.out; omega) HB1.out.size ?_; intro v2 w2 hown hg hat; have HB2 := Lib.hid (HB1.out.grown hg HB1.out.size (fun k hk => (HO1.out.lt k hk).1)); obtain ⟨D2, d2, rfl, _⟩ := SlAt.of_own encD_len hown; have HO2 := Lib.hid hown; clear hown hg hat))
      go_roundw
      case rel => exact ⟨k + 1, D2, d2, ds ++ ms1, by omega, by rw [List.length_append], by go_num, HE, (show (ds ++ ms1).length ≤ 100 * (k + 1) from by have := HML.out; rw [List.length_append]; omega), HO2, HB2⟩
      case measure => simp [intOf]; omega
    · obtain rfl : k = xs.length := by omega
      have i0 : ¬ (xs.length : Int) < (xs.length : Int) := by omega
      obtain ⟨A1, c1, e1, _, _, ha1⟩ := SlAt.of_own encD_len HO.out
      injection e1 with e2 e3 e4
      subst e2 e4
      have hdl2 := hdl.out
      have HS := Lib.hid (dotSet D ds d wr ha1 (by omega))
      have HE := Lib.hid (show ordL ds = dotsI (its xs) from by rw [ordL_eq, dotsI_all, ← hds.out, ← its_len xs, List.take_length])
      have HSZ := Lib.hid HB.out.size
      clear ha1 hlt hk
      go_wp2_with fail
      refine HS.out.mono ?_
      rintro e w1 ⟨v1, rfl, hm1⟩
      have HM := Lib.hid hm1
      clear hm1
      go_wp2_with fail
      go_ret
      exact ⟨⟨_, rfl, by rw [← HE.out]; exact Go.Joins.ownsRow_le HM.out.1 HSZ.out⟩, below_trans HB.out HM.out.2⟩
theorem itDots (A : Option Addr) (xs : List ItV) (cap : Nat) (w : World) (hx : ItemsAt w A xs) (hf : Fits xs) :
    Calls Tryz.prog 62 #[.slice A xs.length cap] w fun e w' => (∃ v, e = .returned v ∧ Holds w' v (dotsI (its xs))) ∧ Below w.heap.size w w' :=
  (itDotsO A xs cap w hx hf).mono fun _ _ ⟨⟨v, h1, h2⟩, h3⟩ => ⟨⟨v, h1, own_holds h2⟩, h3⟩

end

section
open Go.RowKit

theorem good_of_steps {l : List It} (h : ∀ (j : Nat) (x : It), j < l.length → l[j]? = some x → okI x = true ∧ behindAt l x j = true) : (∀ x ∈ l, okI x = true) ∧ IncN l := by
  refine ⟨fun x hx => ?_, IncN.of_next fun j x y hx hy => ?_⟩
  · obtain ⟨j, hj⟩ := List.mem_iff_getElem?.1 hx
    exact (h j x (List.getElem?_eq_some_iff.1 hj).1 hj).1
  · have := (h (j + 1) y (List.getElem?_eq_some_iff.1 hy).1 hy).2
    rwa [behindAt_succ rfl hx] at this
theorem validL_no {l : List It} {j : Nat} {x : It} (hx : l[j]? = some x) (h : okI x = false ∨ behindAt l x j = false) : validL l = false := by
  refine range_no (List.getElem?_eq_some_iff.1 hx).1 ?_
  unfold okAt
  rw [hx]
  rcases h with h | h <;> simp [h]
theorem step_ok {l : List It} {k : Nat} {x : It} {p : It → Nat → Prop} (h : ∀ (j : Nat) (y : It), j < k → l[j]? = some y → p y j) (hx : l[k]? = some x) (he : p x k) : ∀ (j : Nat) (y : It), j < k + 1 → l[j]? = some y → p y j := fun j y hj hy => by
  rcases Nat.lt_or_ge j k with h1 | h1
  · exact h j y h1 hy
  · obtain rfl : j = k := by omega
    rw [hx] at hy; cases hy; exact he

set_option maxRecDepth 100000 in
set_option maxHeartbeats 4000000 in
theorem itemsValid (A : Option Addr) (xs : List ItV) (cap : Nat) (b : Bool) (w : World) (hx : ItemsAt w A xs) (hf : Fits xs) (hb : validL (its xs) = b) :
    Calls Tryz.prog 60 #[.slice A xs.length cap] w (OneB (.bool b) w) := by
  have hm := hf.1
  have HX := Lib.hid hx
  have HF := Lib.hid hf.2
  have HV := Lib.hid hb
  have HDD := Lib.hid fun W (h : ItemsAt W A xs) => itDots A xs cap W h hf
  clear hx hf hb
  go_enter Tryz.func60, Tryz.ntmps60
  go_wp2_with fail
  go_loopw [3, 4, 5, 8] (fun s3 _ _ i wr => ∃ (k m : Nat), k ≤ xs.length ∧ s3 = .int .i64 (m : Int) ∧ i = .int .i64 k ∧ m ≤ 30000 ∧ Hid (m ≤ 100 * k) ∧ Hid (cntM ((its xs).take k) = m) ∧ Hid (Below w.heap.size w wr) ∧ Hid (∀ (j : Nat) (x : It), j < k → (its xs)[j]? = some x → okI x = true ∧ behindAt (its xs) x j = true)) (fun _ _ _ i _ => xs.length - (intOf i).toNat)
  case atStart => exact ⟨0, 0, by omega, rfl, rfl, by omega, Nat.zero_le _, rfl, Below.refl _ _, fun j x h => by omega⟩
  case round =>
    obtain ⟨k, m, hk, rfl, rfl, hm1, hmk, hcnt, hb, hs⟩ := hrel
    by_cases hlt : k < xs.length
    · have i0 : (k : Int) < (xs.length : Int) := by omega
      obtain ⟨bb, off, x, rfl, hbl, hx1, hx2, hc0, hc1, hok⟩ := (HX.out.below hb.out).cells (j := k) hlt
      have hxm := HF.out x (List.mem_of_getElem? hx1)
      have hba : Below wr.heap.size wr (wr.alloc (.cells #[.string ⟨x.nm.toArray⟩, .slice x.A x.ms.length x.c] 50)) := (Below.refl _ wr).alloc (Nat.le_refl _) _
      have hblk := BlkI.new wr x
      have HBA := Lib.hid (below_trans hb.out hba)
      obtain ⟨q1, hq1⟩ : ∃ b, okI x.it = b := ⟨_, rfl⟩
      have HO := Lib.hid fun p => itValid x q1 (far (wr.alloc (.cells #[.string ⟨x.nm.toArray⟩, .slice x.A x.ms.length x.c] 50)) p) ((hok.below hba).below (below_far _ p)) hxm.1 (by omega) hq1
      have HI := Lib.hid (its_at hx1)
      have HQ1 := Lib.hid hq1
      have HX1 := Lib.hid hx1
      have HK := Lib.hid hblk
      have HXW := Lib.hid ((HX.out.below hb.out).below hba)
      have HML := Lib.hid hxm.2
      have HNL := Lib.hid hxm.1
      clear hx1 hx2 hok hba hblk hq1 hxm
      go_wp2_with fail
      clear hc0 hc1
      generalize World.alloc wr _ = w3 at HBA HO HK HXW ⊢
      have hlw := HK.out.lt
      have n0 := fun p => cell_far (p := p) hlw HK.out.cell0
      have n1 := fun p => cell_far (p := p) hlw HK.out.cell1
      cases q1 with
      | false =>
        have HN := Lib.hid (show false = b from by rw [← HV.out]; exact (validL_no HI.out (.inl HQ1.out)).symm)
        refine wp_region_far (by kernel_rfl) (by kernel_rfl) ?_
        repeat (go_big_quiet_step ((go_at_call 79; exact OneB.far (HO.out _))))
        refine wpQuiet_nil ?_
        rintro _ ⟨p, rfl⟩
        go_wp2_with fail
        go_ret
        exact OneB.bool HN.out (below_trans HBA.out (below_far w3 p))
      | true =>
        have HC1 := Lib.hid (show cntM ((its xs).take (k + 1)) = m + x.ms.length from by rw [take_step HI.out, cntM_snoc, hcnt.out]; rfl)
        by_cases hk0 : k = 0
        · have h0n : ¬ 0 < k := by omega
          have h0d : decide ((0 : Int) < (k : Int)) = false := decide_eq_false (by omega)
          have HS := Lib.hid (step_ok (p := fun x j => okI x = true ∧ behindAt (its xs) x j = true) hs.out HI.out ⟨HQ1.out, by rw [hk0]; rfl⟩)
          clear hk0
          refine wp_region_far (by kernel_rfl) (by kernel_rfl) ?_
          repeat (go_big_quiet_step ((go_at_call 79; exact OneB.far (HO.out _))))
          refine wpQuiet_nil ?_
          rintro _ ⟨p, rfl⟩
          have hml := HML.out
          have hmk' := hmk.out
          go_wp2_with fail
          go_roundw
          case rel => exact ⟨k + 1, m + x.ms.length, by omega, by go_num, by go_num, by omega, (show m + x.ms.length ≤ 100 * (k + 1) from by omega), HC1, below_trans HBA.out (below_far w3 p), HS⟩
          case measure => simp [intOf]; omega
        · obtain ⟨n, hkn⟩ : ∃ n, k = n + 1 := ⟨k - 1, by omega⟩
          have h0n : 0 < k := by omega
          have h0d : (0 : Int) < (k : Int) := by omega
          have i1 : (k : Int) - 1 = (n : Int) := by omega
          have i2 : (n : Int) < (xs.length : Int) := by omega
          obtain ⟨b', off', y, ho, hbl', hy1, hyj, hd0, hd1, hok'⟩ := HXW.out.cells (j := n) (by omega)
          cases ho
          clear hyj
          have m0 := fun p => cell_far (p := p) hbl' hd0
          obtain ⟨q, hq⟩ : ∃ q, beforeN y.nm x.nm = q := ⟨_, rfl⟩
          have hls : Op.bytesLess y.nm x.nm = q := (bytesLess_eq y.nm x.nm).trans hq
          have HBH := Lib.hid (show behindAt (its xs) x.it k = q from by rw [behindAt_succ hkn (its_at hy1)]; exact hq)
          clear hd0 hd1 hok' hy1 hkn hk0
          cases q with
          | true =>
            have HS := Lib.hid (step_ok (p := fun x j => okI x = true ∧ behindAt (its xs) x j = true) hs.out HI.out ⟨HQ1.out, HBH.out⟩)
            clear hq
            refine wp_region_far (by kernel_rfl) (by kernel_rfl) ?_
            repeat (go_big_quiet_step ((go_at_call 79; exact OneB.far (HO.out _))))
            refine wpQuiet_nil ?_
            rintro _ ⟨p, rfl⟩
            have hml := HML.out
            have hmk' := hmk.out
            go_wp2_with fail
            go_roundw
            case rel => exact ⟨k + 1, m + x.ms.length, by omega, by go_num, by go_num, by omega, (show m + x.ms.length ≤ 100 * (k + 1) from by omega), HC1, below_trans HBA.out (below_far w3 p), HS⟩
            case measure => simp [intOf]; omega
          | false =>
            have HN := Lib.hid (show false = b from by rw [← HV.out]; exact (validL_no HI.out (.inr HBH.out)).symm)
            clear hq
            refine wp_region_far (by kernel_rfl) (by kernel_rfl) ?_
            repeat (go_big_quiet_step ((go_at_call 79; exact OneB.far (HO.out _))))
            refine wpQuiet_nil ?_
            rintro _ ⟨p, rfl⟩
            go_wp2_with fail
            go_ret
            exact OneB.bool HN.out (below_trans HBA.out (below_far w3 p))
    · obtain rfl : k = xs.length := by omega
      have i0 : ¬ (xs.length : Int) < (xs.length : Int) := by omega
      have HD := Lib.hid (HDD.out _ (HX.out.below hb.out))
      have hst := good_of_steps (l := its xs) (by rw [its_len]; exact hs.out)
      have hcn : cntM (its xs) = m := by have := hcnt.out; rwa [← its_len xs, List.take_length] at this
      have HG := Lib.hid (show (((dotsI (its xs)).length : Int) == (m : Int)) = b from by
        have h := good_count hst.1 hst.2
        rw [← validL_good, hcn] at h
        rw [← HV.out, Bool.eq_iff_iff, ← h, beq_iff_eq]
        omega)
      clear hlt hk hst hcn
      generalize dotsI (its xs) = ds at *
      go_wp2_with fail
      refine HD.out.mono ?_
      rintro e w1 ⟨⟨v1, rfl, A1, c1, rfl, ha1, hl1, hl2⟩, hb1⟩
      have HB1 := Lib.hid (below_trans hb.out hb1)
      clear ha1 hb1
      go_wp2_with fail
      go_ret
      exact OneB.bool HG.out HB1.out

end

section
open Go.RowKit

theorem fits_wide {xs : List ItV} (hf : Fits xs) : ∀ x ∈ xs, x.nm.length ≤ 1000000 ∧ x.ms.length ≤ 1000000 := fun x hx => by
  have := hf.2 x hx; omega
theorem HoldsX.drew {w : World} {v : Value} {xs : List ItV} (h : HoldsX w v xs) : HoldsX w.drew v xs := h.below (Below.refl _ _).drew
theorem itEqual_h (v u : Value) (xs ys : List ItV) (b : Bool) (w : World) (h : HoldsX w v xs) (k : HoldsX w u ys) (hm : xs.length ≤ 100000) (hm' : ys.length ≤ 100000) (hb : decide (its xs = its ys) = b) :
    Calls Tryz.prog 40 #[v, u] w (OneB (.bool b) w) := by
  obtain ⟨A, c, rfl, h1, _⟩ := h
  obtain ⟨A', c', rfl, h2, _⟩ := k
  subst hb
  exact itemsEqual A A' xs ys c c' w h1 h2 hm hm'
theorem itValid_h (v : Value) (xs : List ItV) (b : Bool) (w : World) (h : HoldsX w v xs) (hf : Fits xs) (hb : validL (its xs) = b) : Calls Tryz.prog 60 #[v] w (OneB (.bool b) w) := by
  obtain ⟨A, c, rfl, h1, _⟩ := h
  exact itemsValid A xs c b w h1 hf hb
theorem itFind_h (v : Value) (xs : List ItV) (nm : List UInt8) (w : World) (h : HoldsX w v xs) (hf : Fits xs) :
    Calls Tryz.prog 37 #[v, .string ⟨nm.toArray⟩] w fun e w' => (∃ (y : ItV) (n : Nat), e = .returned (.tuple #[mkIt y, .int .i64 (n : Int)]) ∧ findV (its xs) nm = (y.it, n) ∧ ItOK w' y) ∧ Below w.heap.size w w' := by
  obtain ⟨A, c, rfl, h1, _⟩ := h
  exact itFind A xs c nm w h1 (by have := hf.1; omega) (fits_wide hf)
theorem itDotsO_h (v : Value) (xs : List ItV) (w : World) (h : HoldsX w v xs) (hf : Fits xs) : Calls Tryz.prog 62 #[v] w fun e w' => (∃ v, e = .returned v ∧ w'.ownsRow w.heap.size 30 2 v (dotsI (its xs)).length (cellsOf encD (dotsI (its xs)))) ∧ Below w.heap.size w w' := by
  obtain ⟨A, c', rfl, h1, _⟩ := h
  exact itDotsO A xs c' w h1 hf
theorem itDots_h (v : Value) (xs : List ItV) (w : World) (h : HoldsX w v xs) (hf : Fits xs) : Calls Tryz.prog 62 #[v] w fun e w' => (∃ v, e = .returned v ∧ Holds w' v (dotsI (its xs))) ∧ Below w.heap.size w w' := by
  obtain ⟨A, c', rfl, h1, _⟩ := h
  exact itDots A xs c' w h1 hf

end

section
open Go.RowKit

/-- Not too much for package context. -/
def FitsK (c : CaV) : Prop := Fits c.xs ∧ c.vs.length + c.ls.length + (dotsI (its c.xs)).length ≤ 3000
theorem compC_valid {vs ls : List (Int × Int)} (h : compC vs ls = true) : ∀ d ∈ vs, validD d.1 d.2 = true := ((validV_iff vs).1 (validC_iff.1 (compC_iff.1 h).2).1).1
theorem ctxIsCompact_o (v : Value) (vs ls : List (Int × Int)) (b : Bool) (w : World) (h : HoldsC w v vs ls) (hm : vs.length + ls.length ≤ 3000) (hb : compC vs ls = b) :
    Calls Tryz.prog 59 #[v] w (OneB (.bool b) w) := ctxIsCompact v vs ls b w h hm hb
theorem ctxMissing_v (v : Value) (X : Option Addr) (cx : Nat) (vs ls m : List (Int × Int)) (w : World) (h : HoldsC w v vs ls) (hx : Holds w (.slice X m.length cx) m) (hm : vs.length + ls.length + m.length ≤ 3000) (hv : ∀ d ∈ vs, validD d.1 d.2 = true) :
    Calls Tryz.prog 61 #[v, .slice X m.length cx] w fun e w' => (∃ v', e = .returned v' ∧ Holds w' v' (missC vs ls m)) ∧ Below w.heap.size w w' := by
  obtain ⟨zs, rfl⟩ := wf_list hv
  refine (ctxMissing v X cx zs ls m w h hx (by simpa using hm)).mono ?_
  rintro e w' ⟨⟨v', rfl, h1⟩, hb⟩
  exact ⟨⟨v', rfl, h1.holds⟩, hb⟩

set_option maxRecDepth 100000 in
set_option maxHeartbeats 4000000 in
theorem caValid (c : CaV) (b : Bool) (w : World) (hc : CaOK w c) (hf : FitsK c) (hb : validK c.ca = b) :
    Calls Tryz.prog 30 #[mkC c] w (OneB (.bool b) w) := by
  have K0 := Lib.hid (KK.new w c hc)
  obtain ⟨p, hp⟩ : ∃ p, compC c.vs c.ls = p := ⟨_, rfl⟩
  obtain ⟨q, hq⟩ : ∃ q, validL (its c.xs) = q := ⟨_, rfl⟩
  obtain ⟨mm, hmm⟩ : ∃ mm, missC c.vs c.ls (dotsI (its c.xs)) = mm := ⟨_, rfl⟩
  have HP := Lib.hid hp
  have HQ := Lib.hid hq
  have HM := Lib.hid hmm
  have HF := Lib.hid hf.1
  have HN := Lib.hid hf.2
  have HW := Lib.hid (show p = true → ∀ d ∈ c.vs, validD d.1 d.2 = true from fun e => compC_valid (by rw [hp, e]))
  have HE := Lib.hid (show (p && (q && mm.isEmpty)) = b from by rw [← hp, ← hq, ← hmm, ← hb]; rfl)
  clear hp hq hmm hb hc hf
  cases p with
  | false =>
    obtain rfl : b = false := HE.out.symm
    go_enter Tryz.func30, Tryz.ntmps30
    go_wp2_with fail
    generalize w.heap.size = g at K0 ⊢
    generalize World.alloc w _ = w2 at K0 ⊢
    obtain ⟨x0, x1, x2, xl, _⟩ := K0.out.sp
    have l0 := fun p => cell_far (p := p) xl x0
    have l1 := fun p => cell_far (p := p) xl x1
    have l2 := fun p => cell_far (p := p) xl x2
    have HC := Lib.hid fun p => ctxIsCompact_o _ c.vs c.ls false (far w2 p) ((K0.out.far p).ok (g := g) (c := c) (by simp)).ctx (by have := HN.out; omega) HP.out
    go_wp2_with fail
    refine wp_region_far (by kernel_rfl) (by kernel_rfl) ?_
    repeat (go_big_quiet_step ((go_at_call 59; exact OneB.far (HC.out _))))
    refine wpQuiet_nil ?_
    rintro _ ⟨p, rfl⟩
    go_wp2_with fail
    go_ret
    exact OneB.bool rfl (K0.out.far p).bel
  | true =>
    cases q with
    | false =>
      obtain rfl : b = false := HE.out.symm
      go_enter Tryz.func30, Tryz.ntmps30
      go_wp2_with fail
      generalize w.heap.size = g at K0 ⊢
      generalize World.alloc w _ = w2 at K0 ⊢
      obtain ⟨x0, x1, x2, xl, _⟩ := K0.out.sp
      have l0 := fun p => cell_far (p := p) xl x0
      have l1 := fun p => cell_far (p := p) xl x1
      have l2 := fun p => cell_far (p := p) xl x2
      have HC := Lib.hid fun p => ctxIsCompact_o _ c.vs c.ls true (far w2 p) ((K0.out.far p).ok (g := g) (c := c) (by simp)).ctx (by have := HN.out; omega) HP.out
      have HV := Lib.hid fun p => itValid_h _ c.xs false (far w2 p) ((K0.out.far p).ok (g := g) (c := c) (by simp)).2.2 HF.out HQ.out
      go_wp2_with fail
      refine wp_region_far (by kernel_rfl) (by kernel_rfl) ?_
      repeat (go_big_quiet_step ((first | (go_at_call 59; exact OneB.far (HC.out _)) | (go_at_call 60; exact OneB.far (HV.out _)))))
      refine wpQuiet_nil ?_
      rintro _ ⟨p, rfl⟩
      go_wp2_with fail
      go_ret
      exact OneB.bool rfl (K0.out.far p).bel
    | true =>
      have HE2 := Lib.hid (show mm.isEmpty = b from by rw [← HE.out]; rfl)
      clear HE
      go_enter Tryz.func30, Tryz.ntmps30
      go_wp2_with fail
      generalize w.heap.size = g at K0 ⊢
      generalize World.alloc w _ = w2 at K0 ⊢
      have hS := K0.out
      have hS' := hS.sp
      clear K0
      go_wp2_with fail
      go_region_held3 (fun W => W.cell? ⟨g, 0, none⟩ = some c.v ∧ W.cell? ⟨g, 1, none⟩ = some c.l ∧ W.cell? ⟨g, 2, none⟩ = some c.i ∧ g < W.heap.size ∧ KK w [(g, c)] W)
        (first
          | assumption
          | (exact KK.sp (by assumption))
          | (exact KK.sp (KK.drew (by assumption))))
        (first
          | (go_at_call 59; refine (ctxIsCompact_o _ c.vs c.ls true _ (KK.ok (g := g) (c := c) (by first | assumption | exact KK.drew (by assumption)) (by simp)).ctx (by have := HN.out; omega) HP.out).mono ?_
             rintro e wa ⟨rfl, hb1⟩
             have hS1 := KK.next (by first | assumption | exact KK.drew (by assumption)) hb1
             have hS1' := hS1.sp)
          | (go_at_call 60; refine (itValid_h _ c.xs true _ (KK.ok (g := g) (c := c) (by first | assumption | exact KK.drew (by assumption)) (by simp)).2.2 HF.out HQ.out).mono ?_
             rintro e wb ⟨rfl, hb2⟩
             have hS2 := KK.next (by first | assumption | exact KK.drew (by assumption)) hb2
             have hS2' := hS2.sp)
          | (go_at_call 62; refine (itDots_h _ c.xs _ (KK.ok (g := g) (c := c) (by first | assumption | exact KK.drew (by assumption)) (by simp)).2.2 HF.out).mono ?_
             rintro e wc ⟨⟨v1, rfl, hv1⟩, hb3⟩
             have hS3 := KK.next (by first | assumption | exact KK.drew (by assumption)) hb3
             have hS3' := hS3.sp
             obtain ⟨D, dc, rfl, _⟩ := id hv1)
          | (go_at_call 61; refine (ctxMissing_v _ D dc c.vs c.ls (dotsI (its c.xs)) _ (KK.ok (g := g) (c := c) (by first | assumption | exact KK.drew (by assumption)) (by simp)).ctx (by first | exact hv1 | exact hv1.below (Below.refl _ _).drew) HN.out (HW.out (by first | rfl | trivial))).mono ?_
             rintro e wd ⟨⟨v2, rfl, hv2⟩, hb4⟩
             rw [HM.out] at hv2
             have hS4 := KK.next (by first | assumption | exact KK.drew (by assumption)) hb4
             have hS4' := hS4.sp
             obtain ⟨E, ec, rfl, _⟩ := id hv2))
      all_goals
        have KF := Lib.hid hS4.bel
        clear hS hS' hS1 hS1' hS2 hS2' hS3 hS3' hS4 hS4' hv1 hv2 hb1 hb2 hb3 hb4
        go_wp2_with fail
        go_ret
        exact OneB.bool (by
          rw [← HE2.out]
          cases mm with
          | nil => simp
          | cons _ _ => simp; omega) KF.out

set_option maxHeartbeats 1000000 in
theorem caEqual (c d : CaV) (b : Bool) (w : World) (hc : CaOK w c) (hd : CaOK w d) (hm : c.xs.length ≤ 100000) (hm' : d.xs.length ≤ 100000) (hb : sameC c.ca d.ca = b) :
    Calls Tryz.prog 50 #[mkC c, mkC d] w (OneB (.bool b) w) := by
  have h1 := (Below.refl w.heap.size w).alloc (Nat.le_refl _) (.cells #[c.v, c.l, c.i] 28)
  have K0 := Lib.hid (KK.push (L := [(w.heap.size, c)]) (KK.new w c hc) d (hd.below h1) (w.heap.size + 1) (by simp))
  obtain ⟨p, hp⟩ : ∃ p, (decide (c.vs = d.vs) && decide (c.ls = d.ls)) = p := ⟨_, rfl⟩
  obtain ⟨q, hq⟩ : ∃ q, decide (its c.xs = its d.xs) = q := ⟨_, rfl⟩
  have HP := Lib.hid hp
  have HQ := Lib.hid hq
  have HE := Lib.hid (show (p && q) = b from by rw [← hp, ← hq, ← hb]; rfl)
  clear hp hq hb h1 hc hd
  go_enter Tryz.func50, Tryz.ntmps50
  go_wp2_with fail
  generalize World.alloc (World.alloc w _) _ = w2 at K0 ⊢
  obtain ⟨x0, x1, x2, y0, y1, y2, xl, yl, _⟩ := K0.out.sp2
  go_wp2_with fail
  refine (ctxEqual _ _ c.vs c.ls d.vs d.ls p w2 (K0.out.ok (g := w.heap.size) (by simp)).ctx (K0.out.ok (g := w.heap.size + 1) (by simp)).ctx HP.out).mono ?_
  rintro e w3 ⟨rfl, hb⟩
  have K1 := Lib.hid (K0.out.next hb)
  clear hb K0 x0 x1 x2 y0 y1 y2 xl yl
  obtain ⟨x0, x1, x2, y0, y1, y2, xl, yl, _⟩ := K1.out.sp2
  cases p with
  | false =>
    go_wp2_with fail
    go_ret
    exact OneB.bool (by rw [← HE.out]; rfl) K1.out.bel
  | true =>
    go_wp2_with fail
    refine (itEqual_h _ _ c.xs d.xs q w3 (K1.out.ok (g := w.heap.size) (by simp)).2.2 (K1.out.ok (g := w.heap.size + 1) (by simp)).2.2 hm hm' HQ.out).mono ?_
    rintro e w4 ⟨rfl, hb⟩
    have K2 := Lib.hid (K1.out.next hb).bel
    clear hb K1 x0 x1 x2 y0 y1 y2 xl yl
    go_wp2_with fail
    go_ret
    exact OneB.bool (by rw [← HE.out]; rfl) K2.out

end

section
open Go.RowKit

theorem findV_or (l : List It) (nm : List UInt8) : (findV l nm).1 ∈ l ∨ (findV l nm).1 = ([], []) := by
  unfold findV
  cases h : l.find? (fun x => x.1 == nm) with
  | some x => exact .inl (List.mem_of_find?_eq_some h)
  | none => exact .inr rfl
theorem findV_fits {xs : List ItV} {nm : List UInt8} (hf : Fits xs) : (findV (its xs) nm).1.1.length ≤ 1000 ∧ (findV (its xs) nm).1.2.length ≤ 100 := by
  rcases findV_or (its xs) nm with h | h
  · obtain ⟨z, hz, e⟩ := List.mem_map.1 h
    rw [← e]; exact hf.2 z hz
  · rw [h]; simp
/-- What Dots returns. -/
def dotsC (c : Ca) (nm : List UInt8) : List (Int × Int) := if validK c = true then dotsK c.2 nm else []
theorem dotsK_find {l : List It} {nm : List UInt8} (h : nm ≠ []) : dotsK l nm = dotsM (findV l nm).1.2 := by
  unfold dotsK findV
  rw [if_neg h]
  cases l.find? (fun y => y.1 == nm) <;> rfl

set_option maxHeartbeats 2000000 in
theorem caDotsO (c : CaV) (nm : List UInt8) (ds : List (Int × Int)) (w : World) (hc : CaOK w c) (hf : FitsK c) (hv : dotsC c.ca nm = ds) :
    Calls Tryz.prog 65 #[mkC c, .string ⟨nm.toArray⟩] w fun e w' => (∃ v, e = .returned v ∧ w'.ownsRow w.heap.size 30 2 v (ds).length (cellsOf encD (ds))) ∧ Below w.heap.size w w' := by
  have K0 := Lib.hid (KB1.new w c hc)
  obtain ⟨b, hb⟩ : ∃ b, validK c.ca = b := ⟨_, rfl⟩
  unfold dotsC at hv
  rw [hb] at hv
  have HV := Lib.hid fun W (h : CaOK W c) => caValid c b W h hf hb
  have HF := Lib.hid hf
  clear hc hb hf
  cases b with
  | false =>
    have HE := Lib.hid (show ds = [] from by rw [← hv]; rfl)
    clear hv
    go_enter Tryz.func65, Tryz.ntmps65
    go_upto_region 1 with fail
    generalize World.alloc w _ = w2 at K0 ⊢
    obtain ⟨x0, x1, x2, xl, _⟩ := K0.out.sp
    go_wp2_with fail
    refine (HV.out _ K0.out.ok).mono ?_
    rintro e w3 ⟨rfl, hb⟩
    have KB := Lib.hid (K0.out.next hb).bel
    clear hb K0 x0 x1 x2 xl
    go_wp2_with fail
    go_ret
    exact ⟨⟨_, rfl, by rw [HE.out]; exact World.ownsRow_nil _ _ _ _⟩, KB.out⟩
  | true =>
    cases nm with
    | nil =>
      have HE := Lib.hid (show ds = dotsI (its c.xs) from by rw [← hv, if_pos rfl]; unfold dotsK; rw [if_pos rfl]; rfl)
      clear hv
      go_enter Tryz.func65, Tryz.ntmps65
      go_upto_region 1 with fail
      generalize World.alloc w _ = w2 at K0 ⊢
      obtain ⟨x0, x1, x2, xl, _⟩ := K0.out.sp
      go_wp2_with fail
      refine (HV.out _ K0.out.ok).mono ?_
      rintro e w3 ⟨rfl, hb⟩
      have K1 := Lib.hid (K0.out.next hb)
      clear hb K0 x0 x1 x2 xl
      obtain ⟨x0, x1, x2, xl, _⟩ := K1.out.sp
      go_wp2_with fail
      refine (itDotsO_h _ c.xs w3 K1.out.ok.2.2 HF.out.1).mono ?_
      rintro e w4 ⟨⟨v, rfl, hv⟩, hb⟩
      have HH := Lib.hid (Go.Joins.ownsRow_le hv K1.out.bel.size)
      have KB := Lib.hid (K1.out.next hb).bel
      clear hb hv K1 x0 x1 x2 xl
      go_wp2_with fail
      go_ret
      exact ⟨⟨_, rfl, by rw [HE.out]; exact HH.out⟩, KB.out⟩
    | cons a r =>
      have hs : ((a :: r) == ([] : List UInt8)) = false := rfl
      generalize hnm : a :: r = nm at hs hv ⊢
      have hne : nm ≠ [] := by rw [← hnm]; simp
      clear hnm
      have HE := Lib.hid (show ds = dotsM (findV (its c.xs) nm).1.2 from by rw [← hv, if_pos rfl, dotsK_find hne]; rfl)
      clear hv
      have HFT := Lib.hid (findV_fits (nm := nm) HF.out.1)
      clear hne
      go_enter Tryz.func65, Tryz.ntmps65
      go_upto_region 1 with fail
      generalize World.alloc w _ = w2 at K0 ⊢
      obtain ⟨x0, x1, x2, xl, _⟩ := K0.out.sp
      go_wp2_with fail
      refine (HV.out _ K0.out.ok).mono ?_
      rintro e w3 ⟨rfl, hb⟩
      have K1 := Lib.hid (K0.out.next hb)
      clear hb K0 x0 x1 x2 xl
      obtain ⟨x0, x1, x2, xl, _⟩ := K1.out.sp
      go_wp2_with fail
      refine (itFind_h _ c.xs nm w3 K1.out.ok.2.2 HF.out.1).mono ?_
      rintro e w4 ⟨⟨y, k, rfl, hk, hy⟩, hb⟩
      have K2 := Lib.hid (K1.out.next hb)
      have HL := Lib.hid (show y.ms.length ≤ 100 from by have := HFT.out.2; rw [hk] at this; exact this)
      have HE2 := Lib.hid (show dotsM (findV (its c.xs) nm).1.2 = dotsM y.ms from by rw [hk]; rfl)
      have HY := Lib.hid hy
      clear hb hy hk K1 x0 x1 x2 xl
      go_wp2_with fail
      refine (qtyDotsO y.A y.ms y.c _ (HY.out.below ((Below.refl _ _).alloc (Nat.le_refl _) _)).1 (by have := HL.out; omega)).mono ?_
      rintro e w5 ⟨⟨v, rfl, hv⟩, hb⟩
      have HH := Lib.hid (Go.Joins.ownsRow_le hv (K2.out.alloc _).bel.size)
      have KB := Lib.hid ((K2.out.alloc _).next hb).bel
      clear hb hv K2
      go_wp2_with fail
      go_ret
      exact ⟨⟨_, rfl, by rw [HE.out, HE2.out]; exact HH.out⟩, KB.out⟩
theorem caDots (c : CaV) (nm : List UInt8) (ds : List (Int × Int)) (w : World) (hc : CaOK w c) (hf : FitsK c) (hv : dotsC c.ca nm = ds) :
    Calls Tryz.prog 65 #[mkC c, .string ⟨nm.toArray⟩] w fun e w' => (∃ v, e = .returned v ∧ Holds w' v ds) ∧ Below w.heap.size w w' :=
  (caDotsO c nm ds w hc hf hv).mono fun _ _ ⟨⟨v, h1, h2⟩, h3⟩ => ⟨⟨v, h1, own_holds h2⟩, h3⟩

/-- What Time returns. -/
def timeC (c : Ca) : Nat × Nat := if validK c = true then nextV validM (c.2.flatMap (·.2)) else (0, 2)
theorem marksX_its (xs : List ItV) : (its xs).flatMap (·.2) = marksX xs := by simp [marksX, List.flatMap_map]; rfl

set_option maxRecDepth 100000 in
set_option maxHeartbeats 4000000 in
theorem caTime (c : CaV) (t n : Nat) (w : World) (hc : CaOK w c) (hf : FitsK c) (ht : ∀ m ∈ marksX c.xs, m.t < 18446744073709551616) (hv : timeC c.ca = (t, n)) :
    Calls Tryz.prog 107 #[mkC c] w (OneB (.tuple #[.int .u64 (t : Int), .int .i64 (n : Int)]) w) := by
  obtain ⟨ti0, hi0, hz0, hz1, hz2⟩ := info_parts infoM
  have K0 := Lib.hid (KB1.new w c hc)
  obtain ⟨b, hb⟩ : ∃ b, validK c.ca = b := ⟨_, rfl⟩
  unfold timeC at hv
  rw [hb] at hv
  have HV := Lib.hid fun W (h : CaOK W c) => caValid c b W h hf hb
  have HF := Lib.hid hf.1
  have hm := hf.1.1
  have HT := Lib.hid ht
  clear hc hb hf ht
  cases b with
  | false =>
    rw [if_neg (by simp)] at hv
    obtain ⟨rfl, rfl⟩ : 0 = t ∧ 2 = n := ⟨congrArg Prod.fst hv, congrArg Prod.snd hv⟩
    clear hv
    go_enter Tryz.func107, Tryz.ntmps107
    go_upto_region 1 with fail
    generalize World.alloc w _ = w2 at K0 ⊢
    obtain ⟨x0, x1, x2, xl, _⟩ := K0.out.sp
    go_wp2_with fail
    refine (HV.out _ K0.out.ok).mono ?_
    rintro e w3 ⟨rfl, hb⟩
    have KB := Lib.hid (K0.out.next hb).bel
    clear hb K0 x0 x1 x2 xl
    go_wp2_with fail
    go_ret2
    exact ⟨rfl, KB.out⟩
  | true =>
    rw [if_pos rfl, show c.ca.2.flatMap (·.2) = marksX c.xs from marksX_its c.xs] at hv
    have HN := Lib.hid hv
    clear hv
    go_enter Tryz.func107, Tryz.ntmps107
    go_upto_region 1 with fail
    generalize World.alloc w _ = w2 at K0 ⊢
    obtain ⟨x0, x1, x2, xl, _⟩ := K0.out.sp
    go_wp2_with fail
    refine (HV.out _ K0.out.ok).mono ?_
    rintro e w3 ⟨rfl, hb⟩
    have K1 := Lib.hid (K0.out.next hb)
    clear hb K0 x0 x1 x2 xl
    obtain ⟨x0, x1, x2, xl, _⟩ := K1.out.sp
    go_wp2_with fail
    clear x0 x1 x2 xl
    go_loopw [4, 6, 13] (fun v _ i wr => ∃ k : Nat, k ≤ c.xs.length ∧ i = .int .i64 k ∧ Hid (wr.ownsRow (w.heap.size + 1) 55 4 v (marksX (c.xs.take k)).length (cellsOf encM (marksX (c.xs.take k)))) ∧ Hid (KB1 w c wr)) (fun _ _ i _ => c.xs.length - (intOf i).toNat)
    case atStart => exact ⟨0, by omega, rfl, Lib.hid (World.ownsRow_nil _ _ _ _), K1⟩
    case round =>
      clear K1
      obtain ⟨k, hk, rfl, hr, K⟩ := hrel
      obtain ⟨x0, x1, x2, xl, _⟩ := K.out.sp
      by_cases hlt : k < c.xs.length
      · have i0 : (k : Int) < (c.xs.length : Int) := by omega
        obtain ⟨b, off, x, hI, hbl, hx1, _, hc0, hc1, hok⟩ := K.out.items.cells (j := k) hlt
        have hI2 : c.i = .slice (some ⟨b, off, none⟩) c.xs.length c.ni := by rw [← hI]
        rw [hI2]
        clear hI2
        have HS := Lib.hid (marksX_step hx1)
        have hx100 := (HF.out.2 x (List.mem_of_getElem? hx1)).2
        have hl : (marksX (c.xs.take k)).length ≤ 30000 := by
          have h1 := marksX_len (xs := c.xs.take k) fun y hy => (HF.out.2 y (List.mem_of_mem_take hy)).2
          rw [List.length_take] at h1; omega
        have HOK := Lib.hid hok
        clear hx1 hok hI x0 x1 x2 xl
        obtain ⟨D, d, rfl, _, _, _⟩ := SlAt.of_own encM_len hr.out
        generalize marksX (c.xs.take k) = ns at hr hl HS ⊢
        have HAL := Lib.hid fun o => (Below.refl wr.heap.size wr).alloc (Nat.le_refl _) o
        have hsz1 : ∀ o, w.heap.size + 1 ≤ (wr.alloc o).heap.size := fun o => by have := K.out.size; simp; omega
        have HRA := Lib.hid hr.out.lt
        go_wp2_with (at_builtin; refine wpList_append_sl _ encM 4 rfl (.tmp 17) (.tmp 19) 48 rfl encM_len (by omega) encM_one (w.heap.size + 1) 55 ti0 _ 32 Tryz.underlying48 hi0 hz0 hz1 hz2 rfl _ ns rfl (hr.out.alloc _) _ _ _ x.ms rfl rfl (HOK.out.1.below (HAL.out _)) (by simp [maxLen]; omega) (by omega) (hsz1 _) ?_; intro v1 w1 hown hg hat; have KG := Lib.hid ((K.out.alloc _).grown hg (fun k hk => (HRA.out k hk).1)); have HO := Lib.hid hown; clear hown hg hat)
        go_roundw
        case rel => exact ⟨k + 1, by omega, by go_num, by rw [HS.out]; exact HO, KG⟩
        case measure => simp [intOf]; omega
      · have i0 : ¬ (k : Int) < (c.xs.length : Int) := by omega
        obtain rfl : k = c.xs.length := by omega
        rw [List.take_length] at hr
        have HB := Lib.hid K.out.bel
        have hml : (marksX c.xs).length ≤ 30000 := by
          have h1 := marksX_len (xs := c.xs) fun y hy => (HF.out.2 y hy).2
          omega
        obtain ⟨D, d, rfl, _, _, hat⟩ := SlAt.of_own encM_len hr.out
        have HNX := Lib.hid (qtyNext D (marksX c.xs) d t n wr hat (by unfold maxLen; omega) HT.out HN.out)
        clear hlt K hr hat x0 x1 x2 xl
        go_wp2_with fail
        refine HNX.out.mono ?_
        rintro e w5 ⟨rfl, hb⟩
        have KB := Lib.hid (below_trans HB.out hb)
        clear hb
        go_wp2_with fail
        go_ret2
        exact ⟨rfl, KB.out⟩

end

section
open Go.RowKit

/-- The delta that has seen some dots; with an item. -/
def goneD (l : List (Int × Int)) : Ca := (addC [] [] l, [])
def deltaD (d : Int × Int) (nm : List UInt8) (q : Int) (t : Nat) (l : List (Int × Int)) : Ca := (addC [] [] (d :: l), [(nm, [⟨d.1, d.2, q, t⟩])])
section
variable {d : Int × Int} {nm : List UInt8} {q : Int} {t : Nat} {l : List (Int × Int)}
end
theorem sub_dotsK {l : List It} {nm : List UInt8} {p : Int × Int} (hp : p ∈ dotsK l nm) : p ∈ dotsI l := by
  unfold dotsK at hp
  split at hp
  · exact hp
  · split at hp
    · rename_i x hf
      obtain ⟨m, hm, rfl⟩ := List.mem_map.1 hp
      exact mem_dotsI.2 ⟨x, List.mem_of_find?_eq_some hf, m, hm, rfl⟩
    · cases hp
section
variable {c : Ca}
theorem dotsI_valid (h : validK c = true) {p : Int × Int} (hp : p ∈ dotsI c.2) : hasK c p = true ∧ validD p.1 p.2 = true := by
  have := (validK_iff.1 h).2.2 p hp
  exact ⟨this, (hasC_iff.1 this).1⟩
end
end

end Go.Proofs.YtiaehpdgpjhecaaGreat
