/- Package items: Owner, Dots, Valid. -/
import Derived.Test.YtfbkhgajlklleaaGreatItmM
namespace Go.Proofs.YtfbkhgajlklleaaGreat
open Go.RowKit

/-- The name of the item that has a dot, and the error. -/
def ownV (l : List It) (r c : Int) : List UInt8 × Nat := match ownerL l r c with
  | some nm => (nm, 0)
  | none => ([], 9)
/-- A dot and an item in their blocks. -/
structure KO (W0 : World) (gd g : Nat) (r c : Int) (x : ItV) (W : World) : Prop where
  dot : W.heap[gd]? = some (.cells #[.int .i64 r, .int .i64 c] 29 (0, 0))
  blk : BlkI W g x
  bel : Below W0.heap.size W0 W
  ok : ItOK W x
section
variable {W0 W W' : World} {gd g : Nat} {r c : Int} {x : ItV}
theorem KO.lt (h : KO W0 gd g r c x W) : gd < W.heap.size := (Array.getElem?_eq_some_iff.1 h.dot).1
theorem KO.next (h : KO W0 gd g r c x W) (hb : Below W.heap.size W W') : KO W0 gd g r c x W' := ⟨(hb.block _ h.lt).trans h.dot, h.blk.below hb, below_trans h.bel hb, h.ok.below hb⟩
theorem KO.drew (h : KO W0 gd g r c x W) : KO W0 gd g r c x W.drew := h.next (Below.refl _ _).drew
theorem KO.sp (h : KO W0 gd g r c x W) : W.cell? ⟨gd, 0, none⟩ = some (.int .i64 r) ∧ W.cell? ⟨gd, 1, none⟩ = some (.int .i64 c) ∧ W.cell? ⟨g, 1, none⟩ = some (.slice x.A x.ms.length x.c) ∧ gd < W.heap.size ∧ g < W.heap.size ∧ KO W0 gd g r c x W :=
  ⟨by simp [World.cell?, h.dot], by simp [World.cell?, h.dot], h.blk.cell1, h.lt, h.blk.lt, h⟩
end
theorem Holds.drew {w : World} {v : Value} {xs : List (Int × Int)} (h : Holds w v xs) : Holds w.drew v xs := h.below (Below.refl _ _).drew

set_option maxHeartbeats 4000000 in
theorem itOwner (A : Option Addr) (xs : List ItV) (cap : Nat) (r c : Int) (nm : List UInt8) (n : Nat) (w : World) (hx : ItemsAt w A xs) (hf : Fits xs) (hv : ownV (its xs) r c = (nm, n)) :
    Calls Tryz.prog 36 #[.slice A xs.length cap, .agg #[.int .i64 r, .int .i64 c]] w (OneB (.tuple #[.string ⟨nm.toArray⟩, .int .i64 (n : Int)]) w) := by
  have hm := hf.1
  have HX := Lib.hid hx
  have HF := Lib.hid hf.2
  have HV := Lib.hid hv
  have D0 := Lib.hid (heap_alloc_new w (.cells #[.int .i64 r, .int .i64 c] 29))
  have HB := Lib.hid ((Below.refl w.heap.size w).alloc (Nat.le_refl _) (.cells #[.int .i64 r, .int .i64 c] 29))
  clear hx hf hv
  go_enter Tryz.func36, Tryz.ntmps36
  go_wp2_with fail
  generalize World.alloc w _ = w2 at D0 HB ⊢
  go_loopw [7, 10] (fun _ i wr => ∃ k : Nat, k ≤ xs.length ∧ i = .int .i64 k ∧ Hid (Below w2.heap.size w2 wr) ∧ Hid (∀ (j : Nat) (y : It), j < k → (its xs)[j]? = some y → hasD y.2 r c = false)) (fun _ i _ => xs.length - (intOf i).toNat)
  case atStart => exact ⟨0, by omega, rfl, Below.refl _ _, fun j y h => by omega⟩
  case round =>
    obtain ⟨k, hk, rfl, hb, hs⟩ := hrel
    by_cases hlt : k < xs.length
    · have i0 : (k : Int) < (xs.length : Int) := by omega
      obtain ⟨g, off, x, rfl, hbl, hx1, _, hc0, hc1, hok⟩ := ((HX.out.below HB.out).below hb.out).cells (j := k) hlt
      have hd := (hb.out.block _ (Array.getElem?_eq_some_iff.1 D0.out).1).trans D0.out
      have hba : Below wr.heap.size wr (wr.alloc (.cells #[.string ⟨x.nm.toArray⟩, .slice x.A x.ms.length x.c] 34)) := (Below.refl _ wr).alloc (Nat.le_refl _) _
      have K0 : KO (wr.alloc (.cells #[.string ⟨x.nm.toArray⟩, .slice x.A x.ms.length x.c] 34)) w.heap.size wr.heap.size r c x (wr.alloc (.cells #[.string ⟨x.nm.toArray⟩, .slice x.A x.ms.length x.c] 34)) :=
        ⟨(hba.block _ (Array.getElem?_eq_some_iff.1 hd).1).trans hd, BlkI.new wr x, Below.refl _ _, hok.below hba⟩
      have KH := Lib.hid K0
      have HBA := Lib.hid (below_trans HB.out (below_trans hb.out hba))
      have HBW := Lib.hid (below_trans hb.out hba)
      have hfx := HF.out x (List.mem_of_getElem? hx1)
      have HD := Lib.hid fun W (h : ItOK W x) => qtyDots x.A x.ms x.c W h.1 (by omega)
      have HI := Lib.hid (its_at hx1)
      have HC := Lib.hid fun W => strClone x.nm W (by omega)
      clear hx1 hok hba K0 hd hfx
      go_wp2_with fail
      clear hc0 hc1
      generalize World.alloc wr _ = w3 at KH HBA HBW ⊢
      have hS := KH.out
      have hS' := KO.sp hS
      obtain ⟨q0, q1, q2, q3, q4, _⟩ := id hS'
      obtain ⟨q, hq⟩ : ∃ q, decide ((r, c) ∈ dotsM x.ms) = q := ⟨_, rfl⟩
      go_region_held3 (fun W' => W'.cell? ⟨w.heap.size, 0, none⟩ = some (.int .i64 r) ∧ W'.cell? ⟨w.heap.size, 1, none⟩ = some (.int .i64 c) ∧ W'.cell? ⟨wr.heap.size, 1, none⟩ = some (.slice x.A x.ms.length x.c) ∧ w.heap.size < W'.heap.size ∧ wr.heap.size < W'.heap.size ∧ KO w3 w.heap.size wr.heap.size r c x W')
        (first
          | assumption
          | (exact KO.sp (by assumption))
          | (exact KO.sp (KO.drew (by assumption))))
        (first
          | (go_at_call 48; refine (HD.out _ (KO.ok (by first | assumption | exact KO.drew (by assumption)))).mono ?_
             rintro e wa ⟨⟨v, rfl, hv⟩, hb1⟩
             have hS1 := KO.next (by first | assumption | exact KO.drew (by assumption)) hb1
             have hS1' := KO.sp hS1
             obtain ⟨u0, u1, u2, u3, u4, _⟩ := id hS1')
          | (go_at_call 64; refine (has_h v (dotsM x.ms) r c q _ (by first | exact hv | exact hv.drew) hq).mono ?_
             rintro e wb ⟨rfl, hb2⟩
             have hS2 := KO.next (by first | assumption | exact KO.drew (by assumption)) hb2
             have hS2' := KO.sp hS2))
      all_goals
        have KE := Lib.hid hS2
        have hn0 := hS2.blk.cell0
        have hg0 := hS2.blk.lt
        rw [hasD_mem] at hq
        clear hS hS' hS1 hS1' hS2 hS2' hv hb1 hb2 q0 q1 q2 q3 q4 u0 u1 u2 u3 u4
        cases q with
        | true =>
          have HN := Lib.hid (show ownV (its xs) r c = (x.nm, 0) from by unfold ownV; rw [ownerL_some HI.out hq hs.out]; rfl)
          clear hq
          go_wp2_with fail
          refine (HC.out _).mono ?_
          rintro e w5 ⟨rfl, hb5⟩
          have HB5 := Lib.hid (below_trans (below_trans HBA.out KE.out.bel) hb5)
          clear hb5 hn0
          go_wp2_with fail
          go_ret2
          have e := HV.out
          rw [HN.out] at e
          have e1 := congrArg Prod.fst e
          have e2 := congrArg Prod.snd e
          simp only at e1 e2
          subst e1 e2
          exact ⟨rfl, HB5.out⟩
        | false =>
          have HN := Lib.hid (step_none (p := fun y => hasD y.2 r c) hs.out HI.out hq)
          clear hq
          go_wp2_with fail
          go_roundw
          case rel => exact ⟨k + 1, by omega, by go_num, below_trans HBW.out KE.out.bel, HN⟩
          case measure => simp [intOf]; omega
    · obtain rfl : k = xs.length := by omega
      have i0 : ¬ (xs.length : Int) < (xs.length : Int) := by omega
      have HN := Lib.hid (show ownV (its xs) r c = ([], 9) from by unfold ownV; rw [ownerL_none (l := its xs) (r := r) (c := c) (by rw [its_len]; exact hs.out)])
      clear hlt hk
      go_wp2_with fail
      go_ret2
      have e := HV.out
      rw [HN.out] at e
      have e1 := congrArg Prod.fst e
      have e2 := congrArg Prod.snd e
      simp only at e1 e2
      subst e1 e2
      exact ⟨rfl, below_trans HB.out hb.out⟩

theorem allD_snoc (l : List It) (x : It) : allD (l ++ [x]) = allD l ++ dotsM x.2 := by simp [allD]
theorem cntM_le {xs : List ItV} (hf : ∀ x ∈ xs, x.nm.length ≤ 1000 ∧ x.ms.length ≤ 100) : cntM (its xs) ≤ 100 * xs.length := by
  induction xs with
  | nil => simp [cntM]
  | cons x r ih =>
    have h1 := ih fun y hy => hf y (List.mem_cons_of_mem _ hy)
    have h2 := (hf x (by simp)).2
    have e : cntM (its (x :: r)) = x.ms.length + cntM (its r) := by simp [cntM, its, ItV.it]
    rw [e, List.length_cons]; omega
theorem its_take (xs : List ItV) (k : Nat) : (its xs).take k = its (xs.take k) := by simp [its, List.map_take]

set_option maxRecDepth 100000 in
set_option maxHeartbeats 4000000 in
theorem itDots (A : Option Addr) (xs : List ItV) (cap : Nat) (w : World) (hx : ItemsAt w A xs) (hf : Fits xs) :
    Calls Tryz.prog 22 #[.slice A xs.length cap] w fun e w' => (∃ v, e = .returned v ∧ Holds w' v (dotsI (its xs))) ∧ Below w.heap.size w w' := by
  obtain ⟨ti0, hi0, hz0, hz1, hz2⟩ := info_parts infoD
  have hm := hf.1
  have HX := Lib.hid hx
  have HF := Lib.hid hf.2
  clear hx hf
  go_enter Tryz.func22, Tryz.ntmps22
  go_wp2_with fail
  go_loopw [3, 5, 8] (fun s3 _ i wr => ∃ (k : Nat) (D : Option Addr) (d : Nat) (ds : List (Int × Int)), k ≤ xs.length ∧ s3 = .slice D ds.length d ∧ i = .int .i64 k ∧ Hid (allD ((its xs).take k) = ds) ∧ Hid (ds.length ≤ 100 * k) ∧ Hid (wr.ownsRow w.heap.size 29 2 (.slice D ds.length d) ds.length (cellsOf encD ds)) ∧ Hid (Below w.heap.size w wr)) (fun _ _ i _ => xs.length - (intOf i).toNat)
  case atStart => exact ⟨0, none, 0, [], by omega, rfl, rfl, rfl, Nat.zero_le _, World.ownsRow_nil _ _ _ _, Below.refl _ _⟩
  case round =>
    obtain ⟨k, D, d, ds, hk, rfl, rfl, hds, hdl, HO, HB⟩ := hrel
    by_cases hlt : k < xs.length
    · have i0 : (k : Int) < (xs.length : Int) := by omega
      obtain ⟨g, off, x, rfl, hbl, hx1, _, hc0, hc1, hok⟩ := (HX.out.below HB.out).cells (j := k) hlt
      have hxm := (HF.out x (List.mem_of_getElem? hx1)).2
      have hba : Below wr.heap.size wr (wr.alloc (.cells #[.string ⟨x.nm.toArray⟩, .slice x.A x.ms.length x.c] 34)) := (Below.refl _ wr).alloc (Nat.le_refl _) _
      have HBA := Lib.hid hba
      have HD := Lib.hid (qtyDots x.A x.ms x.c _ (hok.below hba).1 (by omega))
      have HE := Lib.hid (show allD ((its xs).take (k + 1)) = ds ++ dotsM x.ms from by rw [take_step (its_at hx1), allD_snoc, hds.out]; rfl)
      have HML := Lib.hid (dotsM_len x.ms)
      clear hx1 hok hba
      go_wp2_with fail
      refine HD.out.mono ?_
      rintro e w1 ⟨⟨v1, rfl, A1, c1, rfl, ha1, hl1, hl2⟩, hb1⟩
      have hb3 := below_trans HBA.out hb1
      have HA1 := Lib.hid ha1
      have HO1 := Lib.hid (show w1.ownsRow w.heap.size 29 2 (.slice D ds.length d) ds.length (cellsOf encD ds) from HO.out.kept (grown_of_below hb3 none) (by cases D <;> simp [Value.ownBlock]))
      have HB1 := Lib.hid (below_trans HB.out hb3)
      have hdl2 := hdl.out
      clear ha1 hb1 hb3 hc0 hc1
      generalize dotsM x.ms = ms1 at *
      go_wp2_with (at_builtin; go_loud (refine wpList_append_sl _ encD 2 rfl (.tmp 12) (.tmp 15) 40 rfl encD_len (by omega) encD_one w.heap.size 29 ti0 _ 16 Tryz.underlying40 hi0 hz0 hz1 hz2 rfl (.slice D ds.length d) ds rfl HO1.out A1 _ c1 ms1 rfl rfl HA1.out (by have := HML.out; unfold maxLen; omega) (by have := HML.out; omega) HB1.out.size ?_; intro v2 w2 hown hg hat; have HB2 := Lib.hid (HB1.out.grown hg HB1.out.size (fun k hk => (HO1.out.lt k hk).1)); obtain ⟨D2, d2, rfl, _⟩ := SlAt.of_own encD_len hown; have HO2 := Lib.hid hown; clear hown hg hat))
      go_roundw
      case rel => exact ⟨k + 1, D2, d2, ds ++ ms1, by omega, by rw [List.length_append], by go_num, HE, (show (ds ++ ms1).length ≤ 100 * (k + 1) from by have := HML.out; rw [List.length_append]; omega), HO2, HB2⟩
      case measure => simp [intOf]; omega
    · obtain rfl : k = xs.length := by omega
      have i0 : ¬ (xs.length : Int) < (xs.length : Int) := by omega
      obtain ⟨A1, c1, e1, _, _, ha1⟩ := SlAt.of_own encD_len HO.out
      injection e1 with e2 e3 e4
      subst e2 e4
      have hdl2 := hdl.out
      have HS := Lib.hid (dotSet D ds d wr ha1 (by omega))
      have HE := Lib.hid (show ordL ds = dotsI (its xs) from by rw [ordL_eq, dotsI_all, ← hds.out, ← its_len xs, List.take_length])
      clear ha1 hlt hk
      go_wp2_with fail
      refine HS.out.mono ?_
      rintro e w1 ⟨v1, rfl, hm1⟩
      have HM := Lib.hid hm1
      clear hm1
      go_wp2_with fail
      go_ret
      exact ⟨⟨_, rfl, by rw [← HE.out]; exact HM.out.holds⟩, below_trans HB.out HM.out.2⟩

end Go.Proofs.YtfbkhgajlklleaaGreat
