/- Package items: Valid. -/
import Derived.Test.YtfbkhgajlklleaaGreatItmN
namespace Go.Proofs.YtfbkhgajlklleaaGreat
open Go.RowKit

theorem good_of_steps {l : List It} (h : ∀ (j : Nat) (x : It), j < l.length → l[j]? = some x → okI x = true ∧ behindAt l x j = true) : (∀ x ∈ l, okI x = true) ∧ IncN l := by
  refine ⟨fun x hx => ?_, IncN.of_next fun j x y hx hy => ?_⟩
  · obtain ⟨j, hj⟩ := List.mem_iff_getElem?.1 hx
    exact (h j x (List.getElem?_eq_some_iff.1 hj).1 hj).1
  · have := (h (j + 1) y (List.getElem?_eq_some_iff.1 hy).1 hy).2
    rwa [behindAt_succ rfl hx] at this
theorem validL_no {l : List It} {j : Nat} {x : It} (hx : l[j]? = some x) (h : okI x = false ∨ behindAt l x j = false) : validL l = false := by
  refine range_no (List.getElem?_eq_some_iff.1 hx).1 ?_
  unfold okAt
  rw [hx]
  rcases h with h | h <;> simp [h]
theorem step_ok {l : List It} {k : Nat} {x : It} {p : It → Nat → Prop} (h : ∀ (j : Nat) (y : It), j < k → l[j]? = some y → p y j) (hx : l[k]? = some x) (he : p x k) : ∀ (j : Nat) (y : It), j < k + 1 → l[j]? = some y → p y j := fun j y hj hy => by
  rcases Nat.lt_or_ge j k with h1 | h1
  · exact h j y h1 hy
  · obtain rfl : j = k := by omega
    rw [hx] at hy; cases hy; exact he

set_option maxRecDepth 100000 in
set_option maxHeartbeats 4000000 in
theorem itemsValid (A : Option Addr) (xs : List ItV) (cap : Nat) (b : Bool) (w : World) (hx : ItemsAt w A xs) (hf : Fits xs) (hb : validL (its xs) = b) :
    Calls Tryz.prog 11 #[.slice A xs.length cap] w (OneB (.bool b) w) := by
  have hm := hf.1
  have HX := Lib.hid hx
  have HF := Lib.hid hf.2
  have HV := Lib.hid hb
  have HDD := Lib.hid fun W (h : ItemsAt W A xs) => itDots A xs cap W h hf
  clear hx hf hb
  go_enter Tryz.func11, Tryz.ntmps11
  go_wp2_with fail
  go_loopw [3, 4, 5, 8] (fun s3 _ _ i wr => ∃ (k m : Nat), k ≤ xs.length ∧ s3 = .int .i64 (m : Int) ∧ i = .int .i64 k ∧ m ≤ 10000 ∧ Hid (m ≤ 100 * k) ∧ Hid (cntM ((its xs).take k) = m) ∧ Hid (Below w.heap.size w wr) ∧ Hid (∀ (j : Nat) (x : It), j < k → (its xs)[j]? = some x → okI x = true ∧ behindAt (its xs) x j = true)) (fun _ _ _ i _ => xs.length - (intOf i).toNat)
  case atStart => exact ⟨0, 0, by omega, rfl, rfl, by omega, Nat.zero_le _, rfl, Below.refl _ _, fun j x h => by omega⟩
  case round =>
    obtain ⟨k, m, hk, rfl, rfl, hm1, hmk, hcnt, hb, hs⟩ := hrel
    by_cases hlt : k < xs.length
    · have i0 : (k : Int) < (xs.length : Int) := by omega
      obtain ⟨bb, off, x, rfl, hbl, hx1, hx2, hc0, hc1, hok⟩ := (HX.out.below hb.out).cells (j := k) hlt
      have hxm := HF.out x (List.mem_of_getElem? hx1)
      have hba : Below wr.heap.size wr (wr.alloc (.cells #[.string ⟨x.nm.toArray⟩, .slice x.A x.ms.length x.c] 34)) := (Below.refl _ wr).alloc (Nat.le_refl _) _
      have hblk := BlkI.new wr x
      have HBA := Lib.hid (below_trans hb.out hba)
      obtain ⟨q1, hq1⟩ : ∃ b, okI x.it = b := ⟨_, rfl⟩
      have HO := Lib.hid fun p => itValid x q1 (far (wr.alloc (.cells #[.string ⟨x.nm.toArray⟩, .slice x.A x.ms.length x.c] 34)) p) ((hok.below hba).below (below_far _ p)) hxm.1 (by omega) hq1
      have HI := Lib.hid (its_at hx1)
      have HQ1 := Lib.hid hq1
      have HX1 := Lib.hid hx1
      have HK := Lib.hid hblk
      have HXW := Lib.hid ((HX.out.below hb.out).below hba)
      have HML := Lib.hid hxm.2
      have HNL := Lib.hid hxm.1
      clear hx1 hx2 hok hba hblk hq1 hxm
      go_wp2_with fail
      clear hc0 hc1
      generalize World.alloc wr _ = w3 at HBA HO HK HXW ⊢
      have hlw := HK.out.lt
      have n0 := fun p => cell_far (p := p) hlw HK.out.cell0
      have n1 := fun p => cell_far (p := p) hlw HK.out.cell1
      cases q1 with
      | false =>
        have HN := Lib.hid (show false = b from by rw [← HV.out]; exact (validL_no HI.out (.inl HQ1.out)).symm)
        refine wp_region_far (by kernel_rfl) (by kernel_rfl) ?_
        repeat (go_big_quiet_step ((go_at_call 39; exact OneB.far (HO.out _))))
        refine wpQuiet_nil ?_
        rintro _ ⟨p, rfl⟩
        go_wp2_with fail
        go_ret
        exact OneB.bool HN.out (below_trans HBA.out (below_far w3 p))
      | true =>
        have HC1 := Lib.hid (show cntM ((its xs).take (k + 1)) = m + x.ms.length from by rw [take_step HI.out, cntM_snoc, hcnt.out]; rfl)
        by_cases hk0 : k = 0
        · have h0n : ¬ 0 < k := by omega
          have h0d : decide ((0 : Int) < (k : Int)) = false := decide_eq_false (by omega)
          have HS := Lib.hid (step_ok (p := fun x j => okI x = true ∧ behindAt (its xs) x j = true) hs.out HI.out ⟨HQ1.out, by rw [hk0]; rfl⟩)
          clear hk0
          refine wp_region_far (by kernel_rfl) (by kernel_rfl) ?_
          repeat (go_big_quiet_step ((go_at_call 39; exact OneB.far (HO.out _))))
          refine wpQuiet_nil ?_
          rintro _ ⟨p, rfl⟩
          have hml := HML.out
          have hmk' := hmk.out
          go_wp2_with fail
          go_roundw
          case rel => exact ⟨k + 1, m + x.ms.length, by omega, by go_num, by go_num, by omega, (show m + x.ms.length ≤ 100 * (k + 1) from by omega), HC1, below_trans HBA.out (below_far w3 p), HS⟩
          case measure => simp [intOf]; omega
        · obtain ⟨n, hkn⟩ : ∃ n, k = n + 1 := ⟨k - 1, by omega⟩
          have h0n : 0 < k := by omega
          have h0d : (0 : Int) < (k : Int) := by omega
          have i1 : (k : Int) - 1 = (n : Int) := by omega
          have i2 : (n : Int) < (xs.length : Int) := by omega
          obtain ⟨b', off', y, ho, hbl', hy1, hyj, hd0, hd1, hok'⟩ := HXW.out.cells (j := n) (by omega)
          cases ho
          clear hyj
          have m0 := fun p => cell_far (p := p) hbl' hd0
          obtain ⟨q, hq⟩ : ∃ q, beforeN y.nm x.nm = q := ⟨_, rfl⟩
          have hls : Op.bytesLess y.nm x.nm = q := (bytesLess_eq y.nm x.nm).trans hq
          have HBH := Lib.hid (show behindAt (its xs) x.it k = q from by rw [behindAt_succ hkn (its_at hy1)]; exact hq)
          clear hd0 hd1 hok' hy1 hkn hk0
          cases q with
          | true =>
            have HS := Lib.hid (step_ok (p := fun x j => okI x = true ∧ behindAt (its xs) x j = true) hs.out HI.out ⟨HQ1.out, HBH.out⟩)
            clear hq
            refine wp_region_far (by kernel_rfl) (by kernel_rfl) ?_
            repeat (go_big_quiet_step ((go_at_call 39; exact OneB.far (HO.out _))))
            refine wpQuiet_nil ?_
            rintro _ ⟨p, rfl⟩
            have hml := HML.out
            have hmk' := hmk.out
            go_wp2_with fail
            go_roundw
            case rel => exact ⟨k + 1, m + x.ms.length, by omega, by go_num, by go_num, by omega, (show m + x.ms.length ≤ 100 * (k + 1) from by omega), HC1, below_trans HBA.out (below_far w3 p), HS⟩
            case measure => simp [intOf]; omega
          | false =>
            have HN := Lib.hid (show false = b from by rw [← HV.out]; exact (validL_no HI.out (.inr HBH.out)).symm)
            clear hq
            refine wp_region_far (by kernel_rfl) (by kernel_rfl) ?_
            repeat (go_big_quiet_step ((go_at_call 39; exact OneB.far (HO.out _))))
            refine wpQuiet_nil ?_
            rintro _ ⟨p, rfl⟩
            go_wp2_with fail
            go_ret
            exact OneB.bool HN.out (below_trans HBA.out (below_far w3 p))
    · obtain rfl : k = xs.length := by omega
      have i0 : ¬ (xs.length : Int) < (xs.length : Int) := by omega
      have HD := Lib.hid (HDD.out _ (HX.out.below hb.out))
      have hst := good_of_steps (l := its xs) (by rw [its_len]; exact hs.out)
      have hcn : cntM (its xs) = m := by have := hcnt.out; rwa [← its_len xs, List.take_length] at this
      have HG := Lib.hid (show (((dotsI (its xs)).length : Int) == (m : Int)) = b from by
        have h := good_count hst.1 hst.2
        rw [← validL_good, hcn] at h
        rw [← HV.out, Bool.eq_iff_iff, ← h, beq_iff_eq]
        omega)
      clear hlt hk hst hcn
      generalize dotsI (its xs) = ds at *
      go_wp2_with fail
      refine HD.out.mono ?_
      rintro e w1 ⟨⟨v1, rfl, A1, c1, rfl, ha1, hl1, hl2⟩, hb1⟩
      have HB1 := Lib.hid (below_trans hb.out hb1)
      clear ha1 hb1
      go_wp2_with fail
      go_ret
      exact OneB.bool HG.out HB1.out

end Go.Proofs.YtfbkhgajlklleaaGreat
