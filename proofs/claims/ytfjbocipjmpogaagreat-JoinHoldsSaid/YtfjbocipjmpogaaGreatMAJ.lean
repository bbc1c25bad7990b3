/- Several texts in one: VecB, CtxL, ItmF. -/
import Derived.Test.YtfjbocipjmpogaaGreatMAI
import Derived.Test.YtfjbocipjmpogaaGreatMAB
import Derived.Test.YtfjbocipjmpogaaGreatMAF
namespace Go.Proofs.YtfjbocipjmpogaaGreat

section
open Go.RowKit

theorem raise_t_eq {d x : Int × Int} (h : x.1 = d.1) (v : List (Int × Int)) : raiseL d true (x :: v) = raiseL d true v := by rw [raiseL]; simp [h]
theorem raise_t_ne {d x : Int × Int} (h : ¬ x.1 = d.1) (v : List (Int × Int)) : raiseL d true (x :: v) = [x] ++ raiseL d true v := by rw [raiseL]; simp [h]
theorem raise_f_eq {d x : Int × Int} (h : x.1 = d.1) (v : List (Int × Int)) : raiseL d false (x :: v) = [d] ++ raiseL d true v := by rw [raiseL]; simp [h]
theorem raise_f_ne {d x : Int × Int} (h0 : d.1 ≤ x.1) (h : ¬ x.1 = d.1) (v : List (Int × Int)) : raiseL d false (x :: v) = [d] ++ ([x] ++ raiseL d true v) := by rw [raiseL]; simp [h, h0]
theorem raise_f_lt {d x : Int × Int} (h0 : ¬ d.1 ≤ x.1) (v : List (Int × Int)) : raiseL d false (x :: v) = [x] ++ raiseL d false v := by
  have h : ¬ x.1 = d.1 := by omega
  rw [raiseL]; simp [h, h0]
theorem raiseL_len (d : Int × Int) : ∀ (v : List (Int × Int)) (b : Bool), (raiseL d b v).length ≤ v.length + 1
  | [], b => by cases b <;> simp [raiseL]
  | x :: v, b => by
    have h1 := raiseL_len d v (b || decide (d.1 ≤ x.1))
    by_cases h0 : d.1 ≤ x.1
    · by_cases h : x.1 = d.1
      · cases b
        · rw [raise_f_eq h]
          have := raiseL_len d v true
          rw [raiseL_done] at this ⊢
          have := List.length_filter_le (fun x : Int × Int => x.1 != d.1) v
          simp; omega
        · rw [raise_t_eq h]; have := raiseL_len d v true; simp; omega
      · cases b
        · rw [raise_f_ne h0 h, raiseL_done]
          have := List.length_filter_le (fun x : Int × Int => x.1 != d.1) v
          simp; omega
        · rw [raise_t_ne h]; have := raiseL_len d v true; simp; omega
    · have h : ¬ x.1 = d.1 := by omega
      cases b
      · rw [raise_f_lt h0]; have := raiseL_len d v false; simp; omega
      · rw [raise_t_ne h]; have := raiseL_len d v true; simp; omega
theorem raiseV_len (v : List (Int × Int)) (d : Int × Int) : (raiseV v d).length ≤ v.length + 1 := by
  unfold raiseV
  split
  · omega
  · exact raiseL_len d v false
theorem mergeV_len : ∀ (b a : List (Int × Int)), (mergeV a b).length ≤ a.length + b.length
  | [], a => by simp [mergeV]
  | d :: b, a => by
    have h1 := mergeV_len b (raiseV a d)
    have h2 := raiseV_len a d
    show (mergeV (raiseV a d) b).length ≤ _
    simp only [List.length_cons]; omega

theorem grown_of_below2 {a w : World} (h : Below a.heap.size a w) (row : Option Nat) : a.grownBy w row := ⟨h.os, h.tape, h.output, h.size, fun i hi _ => h.block i hi⟩

/-- The box of the dot, and a row of the call's own. -/
def RV (w : World) (r0 c0 : Int) (v : Value) (ys : List (Int × Int)) (W : World) : Prop :=
  KS w r0 c0 W ∧ W.ownsRow (w.heap.size + 1) 51 2 v ys.length (cellsOf encD ys)
section
variable {w : World} {r0 c0 : Int} {v : Value} {ys : List (Int × Int)} {W W' : World}
theorem RV.below (h : RV w r0 c0 v ys W) (hb : Below W.heap.size W W') : RV w r0 c0 v ys W' :=
  ⟨.of (h.1.2.2.trans (hb.mono h.1.size)), h.2.kept (grown_of_below2 hb none) (by cases v.ownBlock <;> simp)⟩
theorem RV.far (h : RV w r0 c0 v ys W) (p : FarBy) : RV w r0 c0 v ys (far W p) := h.below (below_far W p)
theorem RV.app (h : RV w r0 c0 v ys W) (o : Obj) {v1 : Value} {w1 : World} {zs : List (Int × Int)} (ho : w1.ownsRow (w.heap.size + 1) 51 2 v1 (ys ++ zs).length (cellsOf encD (ys ++ zs))) (hg : (W.alloc o).grownBy w1 v.ownBlock) : RV w r0 c0 v1 (ys ++ zs) w1 :=
  ⟨KS.grown (h.1.alloc o) hg (fun k hk => (h.2.lt k hk).1), ho⟩
theorem RV.cells (h : RV w r0 c0 v ys W) : W.cell? ⟨w.heap.size, 0, none⟩ = some (.int .i64 r0) ∧ W.cell? ⟨w.heap.size, 1, none⟩ = some (.int .i64 c0) ∧ w.heap.size < W.heap.size ∧ Below w.heap.size w W :=
  ⟨h.1.1, h.1.2.1, by have := h.1.size; omega, h.1.below⟩
end


/-- What a round reads, wherever what was there is as it was. -/
theorem RV.reads {w : World} {r0 c0 : Int} {v : Value} {ys : List (Int × Int)} {W : World} (h : RV w r0 c0 v ys W) {b o : Nat} {r c : Int} (hb : b < w.heap.size) (h0 : w.cell? ⟨b, o, none⟩ = some (.int .i64 r)) (h1 : w.cell? ⟨b, o + 1, none⟩ = some (.int .i64 c)) :
    ∀ p, (Go.Proofs.YtfjbocipjmpogaaGreat.far W p).cell? ⟨w.heap.size, 0, none⟩ = some (.int .i64 r0) ∧ (Go.Proofs.YtfjbocipjmpogaaGreat.far W p).cell? ⟨w.heap.size, 1, none⟩ = some (.int .i64 c0) ∧ (Go.Proofs.YtfjbocipjmpogaaGreat.far W p).cell? ⟨b, o, none⟩ = some (.int .i64 r) ∧ (Go.Proofs.YtfjbocipjmpogaaGreat.far W p).cell? ⟨b, o + 1, none⟩ = some (.int .i64 c) := fun p => by
  obtain ⟨k0, k1, kz, kb⟩ := h.cells
  have hz := kb.size
  exact ⟨cell_far (p := p) (a := ⟨w.heap.size, 0, none⟩) kz k0, cell_far (p := p) (a := ⟨w.heap.size, 1, none⟩) kz k1,
    cell_far (p := p) (a := ⟨b, o, none⟩) (by show b < _; omega) ((kb.cell (p := ⟨b, o, none⟩) hb).trans h0), cell_far (p := p) (a := ⟨b, o + 1, none⟩) (by show b < _; omega) ((kb.cell (p := ⟨b, o + 1, none⟩) hb).trans h1)⟩
theorem RV.now {w : World} {r0 c0 : Int} {v : Value} {ys : List (Int × Int)} {W : World} (h : RV w r0 c0 v ys W) {b o : Nat} {r c : Int} (hb : b < w.heap.size) (h0 : w.cell? ⟨b, o, none⟩ = some (.int .i64 r)) (h1 : w.cell? ⟨b, o + 1, none⟩ = some (.int .i64 c)) :
    W.cell? ⟨w.heap.size, 0, none⟩ = some (.int .i64 r0) ∧ W.cell? ⟨w.heap.size, 1, none⟩ = some (.int .i64 c0) ∧ W.cell? ⟨b, o, none⟩ = some (.int .i64 r) ∧ W.cell? ⟨b, o + 1, none⟩ = some (.int .i64 c) := by
  have := h.reads hb h0 h1 ⟨W.drawn, #[]⟩
  rwa [far_self] at this

set_option maxRecDepth 100000 in
set_option maxHeartbeats 2000000 in
theorem ref2RaiseO (A : Option Addr) (xs : List (Int × Int)) (cap : Nat) (r0 c0 : Int) (w : World) (hx : DotsAt w A xs) (hm : xs.length ≤ 1000000) (hc : xs.length ≤ cap) (hcm : cap ≤ maxLen) (hin : hasV xs r0 c0 = false) :
    Calls Tryz.prog 135 #[.slice A xs.length cap, .agg #[.int .i64 r0, .int .i64 c0]] w fun e w' => (∃ v', e = .returned v' ∧ w'.ownsRow (w.heap.size + 1) 51 2 v' (raiseV xs (r0, c0)).length (cellsOf encD (raiseV xs (r0, c0)))) ∧ Below w.heap.size w w' := by
  obtain ⟨i0, hi0, hz0, hz1, hz2⟩ := info_parts infoD
  have hh := fun W hW => ref2Has A xs cap r0 c0 W hW (by simp only [maxLen]; omega)
  have hv : raiseV xs (r0, c0) = if hasV xs r0 c0 then xs else raiseL (r0, c0) false xs := rfl
  rw [hin] at hv
  simp only [Bool.false_eq_true, if_false] at hv
  simp only [hin] at hh
  have HH := Lib.hid hh
  have HV := Lib.hid hv
  have HM := Lib.hid hm
  clear hv hin hh
  unfold maxLen at hcm
  go_enter Tryz.func135, Tryz.ntmps135
  go_wp2_with fail
  refine (HH.out _ (hx.below ((Below.refl _ w).alloc (Nat.le_refl _) _))).mono ?_
  rintro e w1 ⟨rfl, hb1⟩
  have hb0 : Below (w.heap.size + 1) (w.alloc (.cells #[.int .i64 r0, .int .i64 c0] 51)) w1 := hb1.mono (by simp)
  clear hb1
  go_wp2_with fail
  go_loopw [5, 6, 7] (fun sv sd si wr => ∃ (m : Nat) (done : Bool) (ys : List (Int × Int)), m ≤ xs.length ∧ si = .int .i64 m ∧ sd = .bool done ∧ ys.length ≤ m + 1 ∧ (done = false → ys.length ≤ m) ∧ Hid (RV w r0 c0 sv ys wr) ∧ Hid (ys ++ raiseL (r0, c0) done (xs.drop m) = raiseL (r0, c0) false xs)) (fun _ _ i _ => xs.length - (intOf i).toNat)
  case atStart => exact ⟨0, false, [], by omega, rfl, rfl, by simp, by simp, ⟨KS.of hb0, World.ownsRow_nil _ _ _ _⟩, by simp [Hid]⟩
  case round =>
    obtain ⟨m, done, ys, hk2, rfl, rfl, hyl, hyd, hR, hE⟩ := hrel
    by_cases hlt : m < xs.length
    · obtain ⟨b, off, r, c, rfl, hbl, hx1, hc0, hc1⟩ := hx.dot (j := m) hlt
      have hd : xs.drop m = (r, c) :: xs.drop (m + 1) := by
        obtain ⟨h1, h2⟩ := List.getElem?_eq_some_iff.1 hx1
        rw [← h2]; exact List.drop_eq_getElem_cons h1
      have hE' := hE.out
      rw [hd] at hE'
      have H0 := Lib.hid hc0
      have H1 := Lib.hid hc1
      have rd := fun p => (hR.out.reads hbl hc0 hc1 p)
      have k0 := fun p => (rd p).1
      have l0 := fun p => (rd p).2.2.1
      clear hc0 hc1 hd hx1 hE rd
      cases done
      · replace hyd := hyd rfl
        by_cases hle : r0 ≤ r
        · by_cases hq : r = r0
          · rw [raise_f_eq (d := (r0, c0)) (x := (r, c)) hq, ← List.append_assoc] at hE'
            have HE := Lib.hid hE'; clear hE'
            go_wp2_with fail
            refine wp_region_far (by kernel_rfl) (by kernel_rfl) ?_
            repeat (go_big_quiet_step ((fail)))
            refine wpQuiet_nil ?_
            rintro _ ⟨p, rfl⟩
            have hR1 := Lib.hid (hR.out.far p)
            have rn := hR1.out.now hbl H0.out H1.out
            obtain ⟨n0, n1, n2, n3⟩ := rn
            clear k0 l0
            generalize far wr p = W1 at *
            go_wp2_with (at_builtin; (refine wpList_append_sl (o := ⟨some 33, _, _, _, _, _⟩) _ encD 2 rfl (.tmp 30) (.tmp 32) 23 rfl encD_len (by omega) encD_one (w.heap.size + 1) 51 i0 _ 16 Tryz.underlying23 hi0 hz0 hz1 hz2 rfl _ ys rfl (hR1.out.2.alloc _) _ 1 _ [(r0, c0)] rfl rfl (SlAt.one (heap_alloc_new _ _)) (by simp [maxLen]; have := HM.out; omega) (by simp; have := HM.out; omega) (by have := hR1.out.1.size; simp; omega) ?_; intro v1 w1 hown1 hg1 hat1; have R1 := Lib.hid (hR1.out.app _ hown1 hg1); clear hown1 hg1 hat1))
            have rd := fun p => (R1.out.reads hbl H0.out H1.out p)
            have k0 := fun p => (rd p).1
            have l0 := fun p => (rd p).2.2.1
            clear rd n0 n1 n2 n3
            refine wp_region_far (by kernel_rfl) (by kernel_rfl) ?_
            repeat (go_big_quiet_step ((fail)))
            refine wpQuiet_nil ?_
            rintro _ ⟨p, rfl⟩
            go_wp2
            go_roundw
            case rel => exact ⟨m + 1, true, ys ++ [(r0, c0)], by omega, by go_num, rfl, by simp; omega, by simp, R1.out.far _, HE⟩
            case measure => simp [intOf]; omega
          · rw [raise_f_ne (d := (r0, c0)) (x := (r, c)) hle hq, ← List.append_assoc, ← List.append_assoc] at hE'
            have HE := Lib.hid hE'; clear hE'
            go_wp2_with fail
            refine wp_region_far (by kernel_rfl) (by kernel_rfl) ?_
            repeat (go_big_quiet_step ((fail)))
            refine wpQuiet_nil ?_
            rintro _ ⟨p, rfl⟩
            have hR1 := Lib.hid (hR.out.far p)
            have rn := hR1.out.now hbl H0.out H1.out
            obtain ⟨n0, n1, n2, n3⟩ := rn
            clear k0 l0
            generalize far wr p = W1 at *
            go_wp2_with (at_builtin; (refine wpList_append_sl (o := ⟨some 33, _, _, _, _, _⟩) _ encD 2 rfl (.tmp 30) (.tmp 32) 23 rfl encD_len (by omega) encD_one (w.heap.size + 1) 51 i0 _ 16 Tryz.underlying23 hi0 hz0 hz1 hz2 rfl _ ys rfl (hR1.out.2.alloc _) _ 1 _ [(r0, c0)] rfl rfl (SlAt.one (heap_alloc_new _ _)) (by simp [maxLen]; have := HM.out; omega) (by simp; have := HM.out; omega) (by have := hR1.out.1.size; simp; omega) ?_; intro v1 w1 hown1 hg1 hat1; have R1 := Lib.hid (hR1.out.app _ hown1 hg1); clear hown1 hg1 hat1))
            have rd := fun p => (R1.out.reads hbl H0.out H1.out p)
            have k0 := fun p => (rd p).1
            have l0 := fun p => (rd p).2.2.1
            clear rd n0 n1 n2 n3
            refine wp_region_far (by kernel_rfl) (by kernel_rfl) ?_
            repeat (go_big_quiet_step ((fail)))
            refine wpQuiet_nil ?_
            rintro _ ⟨p, rfl⟩
            have hR2 := Lib.hid (R1.out.far p)
            have rn := hR2.out.now hbl H0.out H1.out
            obtain ⟨n0, n1, n2, n3⟩ := rn
            clear k0 l0
            generalize far w1 p = W2 at *
            go_wp2_with (at_builtin; (refine wpList_append_sl (o := ⟨some 48, _, _, _, _, _⟩) _ encD 2 rfl (.tmp 42) (.tmp 47) 23 rfl encD_len (by omega) encD_one (w.heap.size + 1) 51 i0 _ 16 Tryz.underlying23 hi0 hz0 hz1 hz2 rfl _ (ys ++ [(r0, c0)]) rfl (hR2.out.2.alloc _) _ 1 _ [(r, c)] rfl rfl (SlAt.one (heap_alloc_new _ _)) (by simp [maxLen]; have := HM.out; omega) (by simp; have := HM.out; omega) (by have := hR2.out.1.size; simp; omega) ?_; intro v2 w2 hown2 hg2 hat2; have R2 := Lib.hid (hR2.out.app _ hown2 hg2); clear hown2 hg2 hat2))
            go_roundw
            case rel => exact ⟨m + 1, true, ys ++ [(r0, c0)] ++ [(r, c)], by omega, by go_num, rfl, by simp; omega, by simp, R2, HE⟩
            case measure => simp [intOf]; omega
        · rw [raise_f_lt (d := (r0, c0)) (x := (r, c)) hle, ← List.append_assoc] at hE'
          have HE := Lib.hid hE'; clear hE'
          have hq : ¬ r = r0 := by omega
          go_wp2_with fail
          refine wp_region_far (by kernel_rfl) (by kernel_rfl) ?_
          repeat (go_big_quiet_step ((fail)))
          refine wpQuiet_nil ?_
          rintro _ ⟨p, rfl⟩
          have hR1 := Lib.hid (hR.out.far p)
          have rd := fun p => (hR1.out.reads hbl H0.out H1.out p)
          have k0 := fun p => (rd p).1
          have l0 := fun p => (rd p).2.2.1
          clear rd
          generalize far wr p = W1 at *
          go_wp2_with fail
          refine wp_region_far (by kernel_rfl) (by kernel_rfl) ?_
          repeat (go_big_quiet_step ((fail)))
          refine wpQuiet_nil ?_
          rintro _ ⟨p, rfl⟩
          have hR2 := Lib.hid (hR1.out.far p)
          have rn := hR2.out.now hbl H0.out H1.out
          obtain ⟨n0, n1, n2, n3⟩ := rn
          clear k0 l0
          generalize far W1 p = W2 at *
          go_wp2_with (at_builtin; (refine wpList_append_sl (o := ⟨some 48, _, _, _, _, _⟩) _ encD 2 rfl (.tmp 42) (.tmp 47) 23 rfl encD_len (by omega) encD_one (w.heap.size + 1) 51 i0 _ 16 Tryz.underlying23 hi0 hz0 hz1 hz2 rfl _ ys rfl (hR2.out.2.alloc _) _ 1 _ [(r, c)] rfl rfl (SlAt.one (heap_alloc_new _ _)) (by simp [maxLen]; have := HM.out; omega) (by simp; have := HM.out; omega) (by have := hR2.out.1.size; simp; omega) ?_; intro v3 w3 hown3 hg3 hat3; have R3 := Lib.hid (hR2.out.app _ hown3 hg3); clear hown3 hg3 hat3))
          go_roundw
          case rel => exact ⟨m + 1, false, ys ++ [(r, c)], by omega, by go_num, rfl, by simp; omega, by simp; omega, R3, HE⟩
          case measure => simp [intOf]; omega
      · by_cases hq : r = r0
        · rw [raise_t_eq (d := (r0, c0)) (x := (r, c)) hq] at hE'
          have HE := Lib.hid hE'; clear hE'
          go_wp2_with fail
          refine wp_region_far (by kernel_rfl) (by kernel_rfl) ?_
          repeat (go_big_quiet_step ((fail)))
          refine wpQuiet_nil ?_
          rintro _ ⟨p, rfl⟩
          have hR1 := Lib.hid (hR.out.far p)
          have rd := fun p => (hR1.out.reads hbl H0.out H1.out p)
          have k0 := fun p => (rd p).1
          have l0 := fun p => (rd p).2.2.1
          clear rd
          generalize far wr p = W1 at *
          go_wp2_with fail
          refine wp_region_far (by kernel_rfl) (by kernel_rfl) ?_
          repeat (go_big_quiet_step ((fail)))
          refine wpQuiet_nil ?_
          rintro _ ⟨p, rfl⟩
          go_wp2
          go_roundw
          case rel => exact ⟨m + 1, true, ys, by omega, by go_num, rfl, by omega, by simp, hR1.out.far _, HE⟩
          case measure => simp [intOf]; omega
        · rw [raise_t_ne (d := (r0, c0)) (x := (r, c)) hq, ← List.append_assoc] at hE'
          have HE := Lib.hid hE'; clear hE'
          go_wp2_with fail
          refine wp_region_far (by kernel_rfl) (by kernel_rfl) ?_
          repeat (go_big_quiet_step ((fail)))
          refine wpQuiet_nil ?_
          rintro _ ⟨p, rfl⟩
          have hR1 := Lib.hid (hR.out.far p)
          have rd := fun p => (hR1.out.reads hbl H0.out H1.out p)
          have k0 := fun p => (rd p).1
          have l0 := fun p => (rd p).2.2.1
          clear rd
          generalize far wr p = W1 at *
          go_wp2_with fail
          refine wp_region_far (by kernel_rfl) (by kernel_rfl) ?_
          repeat (go_big_quiet_step ((fail)))
          refine wpQuiet_nil ?_
          rintro _ ⟨p, rfl⟩
          have hR2 := Lib.hid (hR1.out.far p)
          have rn := hR2.out.now hbl H0.out H1.out
          obtain ⟨n0, n1, n2, n3⟩ := rn
          clear k0 l0
          generalize far W1 p = W2 at *
          go_wp2_with (at_builtin; (refine wpList_append_sl (o := ⟨some 48, _, _, _, _, _⟩) _ encD 2 rfl (.tmp 42) (.tmp 47) 23 rfl encD_len (by omega) encD_one (w.heap.size + 1) 51 i0 _ 16 Tryz.underlying23 hi0 hz0 hz1 hz2 rfl _ ys rfl (hR2.out.2.alloc _) _ 1 _ [(r, c)] rfl rfl (SlAt.one (heap_alloc_new _ _)) (by simp [maxLen]; have := HM.out; omega) (by simp; have := HM.out; omega) (by have := hR2.out.1.size; simp; omega) ?_; intro v3 w3 hown3 hg3 hat3; have R3 := Lib.hid (hR2.out.app _ hown3 hg3); clear hown3 hg3 hat3))
          go_roundw
          case rel => exact ⟨m + 1, true, ys ++ [(r, c)], by omega, by go_num, rfl, by simp; omega, by simp, R3, HE⟩
          case measure => simp [intOf]; omega
    · have hE' := hE.out
      rw [List.drop_eq_nil_of_le (by omega)] at hE'
      obtain ⟨k0, k1, kz, kb⟩ := hR.out.cells
      cases done
      · have HE := Lib.hid (show ys ++ [(r0, c0)] = raiseV xs (r0, c0) by rw [HV.out]; simpa [raiseL] using hE'); clear hE' hE
        clear kb
        go_wp2_with (at_builtin; (refine wpList_append_sl (o := ⟨some 54, _, _, _, _, _⟩) _ encD 2 rfl (.tmp 51) (.tmp 53) 23 rfl encD_len (by omega) encD_one (w.heap.size + 1) 51 i0 _ 16 Tryz.underlying23 hi0 hz0 hz1 hz2 rfl _ ys rfl (hR.out.2.alloc _) _ 1 _ [(r0, c0)] rfl rfl (SlAt.one (heap_alloc_new _ _)) (by simp [maxLen]; have := HM.out; omega) (by simp; have := HM.out; omega) (by have := hR.out.1.size; simp; omega) ?_; intro v4 w4 hown4 hg4 hat4; have R4 := Lib.hid (hR.out.app _ hown4 hg4); clear hown4 hg4 hat4))
        have hown := R4.out.2
        rw [HE.out] at hown
        obtain ⟨A', c', rfl, h1', h2', h3'⟩ := SlAt.of_own encD_len hown
        have HAT := Lib.hid hown
        clear hown h1' h2' h3' k0 k1
        go_wp2
        go_ret
        exact ⟨⟨_, rfl, HAT.out⟩, R4.out.cells.2.2.2⟩
      · have HE := Lib.hid (show ys = raiseV xs (r0, c0) by rw [HV.out]; simpa [raiseL] using hE'); clear hE' hE
        have hown := hR.out.2
        rw [HE.out] at hown
        obtain ⟨A', c', rfl, h1', h2', h3'⟩ := SlAt.of_own encD_len hown
        have HAT := Lib.hid hown
        clear hown h1' h2' h3' k0 k1
        go_wp2
        go_ret
        exact ⟨⟨_, rfl, HAT.out⟩, kb⟩

set_option maxRecDepth 100000 in
set_option maxHeartbeats 2000000 in
theorem ref2Raise (A : Option Addr) (xs : List (Int × Int)) (cap : Nat) (r0 c0 : Int) (w : World) (hx : DotsAt w A xs) (hm : xs.length ≤ 1000000) (hc : xs.length ≤ cap) (hcm : cap ≤ maxLen) :
    Calls Tryz.prog 135 #[.slice A xs.length cap, .agg #[.int .i64 r0, .int .i64 c0]] w fun e w' => (∃ v', e = .returned v' ∧ Holds w' v' (raiseV xs (r0, c0))) ∧ Below w.heap.size w w' := by
  have hh := fun W hW => ref2Has A xs cap r0 c0 W hW (by simp only [maxLen]; omega)
  have hv : raiseV xs (r0, c0) = if hasV xs r0 c0 then xs else raiseL (r0, c0) false xs := rfl
  cases hin : hasV xs r0 c0
  · exact (ref2RaiseO A xs cap r0 c0 w hx hm hc hcm hin).mono fun e w' ⟨⟨v', he, ho⟩, hb⟩ => ⟨⟨v', he, by
      obtain ⟨A', c', e0, h1', h2', h3'⟩ := SlAt.of_own encD_len ho
      exact ⟨A', c', e0, h3', h1', h2'⟩⟩, hb⟩
  · rw [hin] at hv
    simp only [if_true] at hv
    simp only [hin] at hh
    have HH := Lib.hid hh
    have HV := Lib.hid hv
    clear hv hin hh
    unfold maxLen at hcm
    go_enter Tryz.func135, Tryz.ntmps135
    go_wp2_with fail
    refine (HH.out _ (hx.below ((Below.refl _ w).alloc (Nat.le_refl _) _))).mono ?_
    rintro e w1 ⟨rfl, hb1⟩
    have hbb := below_trans ((Below.refl _ w).alloc (Nat.le_refl _) _) hb1
    clear hb1
    go_wp2
    go_ret
    refine ⟨⟨_, rfl, ?_⟩, hbb⟩
    rw [HV.out]
    exact ⟨A, cap, rfl, hx.below hbb, hc, hcm⟩

theorem ref2Raise_h (v : Value) (xs : List (Int × Int)) (r0 c0 : Int) (w : World) (h : Holds w v xs) (hm : xs.length ≤ 1000000) :
    Calls Tryz.prog 135 #[v, .agg #[.int .i64 r0, .int .i64 c0]] w fun e w' => (∃ v', e = .returned v' ∧ Holds w' v' (raiseV xs (r0, c0))) ∧ Below w.heap.size w w' := by
  obtain ⟨A, c, rfl, h1, h2, h3⟩ := h
  exact ref2Raise A xs c r0 c0 w h1 hm h2 h3

set_option maxHeartbeats 1000000 in
theorem ref2Merge (A B : Option Addr) (xs ys : List (Int × Int)) (cap cap' : Nat) (w : World) (hx : Holds w (.slice A xs.length cap) xs) (hy : DotsAt w B ys) (hm : xs.length + ys.length ≤ 100000) :
    Calls Tryz.prog 86 #[.slice A xs.length cap, .slice B ys.length cap'] w fun e w' => (∃ v, e = .returned v ∧ Holds w' v (mergeV xs ys)) ∧ Below w.heap.size w w' := by
  have HX := Lib.hid hx; clear hx
  go_enter Tryz.func86, Tryz.ntmps86
  go_wp2
  go_loopw [0, 5] (fun v i wr => ∃ m : Nat, m ≤ ys.length ∧ i = .int .i64 m ∧ Below w.heap.size w wr ∧ Holds wr v (mergeV xs (ys.take m))) (fun _ i _ => ys.length - (intOf i).toNat)
  case atStart => exact ⟨0, by omega, rfl, Below.refl _ _, HX.out⟩
  case round =>
    obtain ⟨m, hk2, rfl, hb, hs⟩ := hrel
    by_cases hlt : m < ys.length
    · obtain ⟨b, off, r, c, rfl, hbl, hx1, hc0, hc1⟩ := (hy.below hb).dot (j := m) (by omega)
      have hl := mergeV_len (ys.take m) xs
      have hl2 : (ys.take m).length ≤ m := List.length_take_le _ _
      have HX1 := Lib.hid hx1; clear hx1
      go_wp2_with (go_at_call 135; refine (ref2Raise_h _ (mergeV xs (ys.take m)) _ _ _ hs (by omega)).mono ?_; rintro e w1 ⟨⟨v', rfl, hs'⟩, hb1⟩)
      go_roundw
      case rel => exact ⟨m + 1, by omega, by go_num, hb.trans (hb1.mono hb.size), by rw [take_snoc HX1.out, mergeV_snoc]; exact hs'⟩
      case measure => simp [intOf]; omega
    · have hmx : ys.take m = ys := List.take_of_length_le (by omega)
      rw [hmx] at hs
      clear hmx
      have HS := Lib.hid hs; clear hs
      go_wp2
      go_ret
      exact ⟨⟨_, rfl, HS.out⟩, hb⟩

/-- All dots are valid. -/
def ofOk (l : List (Int × Int)) : Bool := l.all fun p => validD p.1 p.2
end

section
open Go.RowKit

theorem inc_nodup {l : List (Int × Int)} (h : Inc l) : l.Nodup := List.Pairwise.imp (fun {a b} hab e => by subst e; rw [ltD_irrefl] at hab; cases hab) h
end

section
open Go.RowKit

theorem tw_at {α : Type} {p : α → Bool} {xs : List α} {m : Nat} (h : ∀ (j : Nat) (y : α), j < m → xs[j]? = some y → p y = true) (he : ∀ y, xs[m]? = some y → p y = false) :
    xs.take m = xs.takeWhile p ∧ xs.drop m = xs.dropWhile p := by
  induction xs generalizing m with
  | nil => simp
  | cons x r ih =>
    match m with
    | 0 =>
      have := he x rfl
      simp [this]
    | m + 1 =>
      have h0 := h 0 x (by omega) rfl
      obtain ⟨h1, h2⟩ := ih (m := m) (fun j y hj hy => h (j + 1) y (by omega) (by simpa using hy)) (fun y hy => he y (by simpa using hy))
      simp [h0, h1, h2]
/-- Items with one more, at its place. -/
def insX (xs : List ItV) (x : ItV) : List ItV := xs.takeWhile (fun y => beforeN y.nm x.nm) ++ x :: xs.dropWhile (fun y => beforeN y.nm x.nm)
theorem insX_at {xs : List ItV} {x : ItV} {m : Nat} (h : ∀ (j : Nat) (y : ItV), j < m → xs[j]? = some y → beforeN y.nm x.nm = true) (he : ∀ y, xs[m]? = some y → beforeN y.nm x.nm = false) : insX xs x = xs.take m ++ x :: xs.drop m := by
  obtain ⟨h1, h2⟩ := tw_at (p := fun y : ItV => beforeN y.nm x.nm) h he
  unfold insX; rw [h1, h2]
theorem insX_mem {xs : List ItV} {x y : ItV} (h : y ∈ insX xs x) : y ∈ xs ∨ y = x := by
  unfold insX at h
  rcases List.mem_append.1 h with h | h
  · exact .inl (List.takeWhile_subset _ h)
  · rcases List.mem_cons.1 h with h | h
    · exact .inr h
    · exact .inl (List.dropWhile_subset _ h)
theorem step_true {α : Type} {p : α → Bool} {xs : List α} {k : Nat} {x : α} (h : ∀ (j : Nat) (y : α), j < k → xs[j]? = some y → p y = true) (hx : xs[k]? = some x) (he : p x = true) : ∀ (j : Nat) (y : α), j < k + 1 → xs[j]? = some y → p y = true := fun j y hj hy => by
  rcases Nat.lt_or_ge j k with h1 | h1
  · exact h j y h1 hy
  · obtain rfl : j = k := by omega
    rw [hx] at hy; cases hy; exact he

/-- What holds all along: the item in its block, the items where they lay. -/
structure KW (w : World) (x : ItV) (A : Option Addr) (xs : List ItV) (W : World) : Prop where
  blk : BlkI W w.heap.size x
  bel : Below w.heap.size w W
  xs0 : ItemsAt w A xs
  ok0 : ItOK w x
section
variable {w W W' : World} {x : ItV} {A : Option Addr} {xs : List ItV}
theorem KW.items (h : KW w x A xs W) : ItemsAt W A xs := h.xs0.below h.bel
theorem KW.ok (h : KW w x A xs W) : ItOK W x := h.ok0.below h.bel
theorem KW.next (h : KW w x A xs W) (hb : Below W.heap.size W W') : KW w x A xs W' := ⟨h.blk.below hb, below_trans h.bel hb, h.xs0, h.ok0⟩
theorem KW.alloc (h : KW w x A xs W) (o : Obj) : KW w x A xs (W.alloc o) := h.next ((Below.refl _ _).alloc (Nat.le_refl _) _)
theorem KW.drew (h : KW w x A xs W) : KW w x A xs W.drew := h.next (Below.refl _ _).drew
theorem KW.size (h : KW w x A xs W) : w.heap.size + 1 ≤ W.heap.size := h.blk.lt
theorem KW.grown (h : KW w x A xs W) {row : Option Nat} (hg : W.grownBy W' row) (hr : ∀ k, row = some k → w.heap.size + 1 ≤ k) : KW w x A xs W' := by
  have hz := h.size
  exact ⟨(hg.block _ h.blk.lt (fun e => by have := hr _ e.symm; omega)).trans h.blk, h.bel.grown hg (by omega) (fun k hk => by have := hr k hk; omega), h.xs0, h.ok0⟩
theorem KW.sp (h : KW w x A xs W) : W.cell? ⟨w.heap.size, 0, none⟩ = some (.string ⟨x.nm.toArray⟩) ∧ W.cell? ⟨w.heap.size, 1, none⟩ = some (.slice x.A x.ms.length x.c) ∧ w.heap.size < W.heap.size ∧ KW w x A xs W := ⟨h.blk.cell0, h.blk.cell1, h.blk.lt, h⟩
theorem KW.new (hx : ItemsAt w A xs) (ho : ItOK w x) : KW w x A xs (w.alloc (.cells #[.string ⟨x.nm.toArray⟩, .slice x.A x.ms.length x.c] 49)) := ⟨BlkI.new w x, (Below.refl _ w).alloc (Nat.le_refl _) _, hx, ho⟩
end

set_option maxRecDepth 100000 in
set_option maxHeartbeats 4000000 in
theorem refWith9 (A : Option Addr) (xs : List ItV) (cap : Nat) (x : ItV) (w : World) (hx : ItemsAt w A xs) (ho : ItOK w x) (hf : Fits xs) (hn : x.nm.length ≤ 1000) (hc : xs.length ≤ cap) (hcm : cap ≤ maxLen) :
    Calls Tryz.prog 46 #[.slice A xs.length cap, mkIt x] w fun e w' => (∃ v, e = .returned v ∧ HoldsX w' v (insX xs x)) ∧ Below w.heap.size w w' := by
  obtain ⟨i0, hi0, hz0, hz1, hz2⟩ := info_parts infoIt
  have hm := hf.1
  have HF := Lib.hid hf.2
  have K0 := Lib.hid (KW.new hx ho)
  unfold maxLen at hcm
  clear hx ho hf
  go_enter Tryz.func46, Tryz.ntmps46
  go_upto_block 0 with fail
  generalize w.alloc _ = w1 at K0 ⊢
  go_cut [5] (fun i wx => ∃ m : Nat, m ≤ xs.length ∧ i = .int .i64 m ∧ Hid (KW w x A xs wx) ∧ Hid (insX xs x = xs.take m ++ x :: xs.drop m))
  case first =>
    go_wp2_with fail
    go_loopw [5] (fun i wr => ∃ m : Nat, m ≤ xs.length ∧ i = .int .i64 m ∧ Hid (KW w x A xs wr) ∧ Hid (∀ (j : Nat) (y : ItV), j < m → xs[j]? = some y → beforeN y.nm x.nm = true)) (fun i _ => xs.length - (intOf i).toNat)
    case atStart => exact ⟨0, by omega, rfl, K0, fun j y h => by omega⟩
    case round =>
      clear K0
      obtain ⟨m, hk2, rfl, K, hs⟩ := hrel
      have hlb := K.out.blk.lt
      have b0 := fun p => cell_far (p := p) hlb K.out.blk.cell0
      by_cases hlt : m < xs.length
      · have i1 : (m : Int) < (xs.length : Int) := by omega
        obtain ⟨b, off, y, rfl, hbl, hx1, _, hc0, hc1, hok⟩ := K.out.items.cells (j := m) hlt
        have l0 := fun p => cell_far (p := p) hbl hc0
        have hym := HF.out y (List.mem_of_getElem? hx1)
        obtain ⟨q, hq⟩ : ∃ q, beforeN y.nm x.nm = q := ⟨_, rfl⟩
        have HB := Lib.hid fun W => refBefore y.nm x.nm W (by omega) (by omega)
        rw [hq] at HB
        cases q with
        | true =>
          have HS := Lib.hid (step_true (p := fun y : ItV => beforeN y.nm x.nm) hs.out hx1 hq)
          clear hx1 hq hc0 hc1 hok
          go_wp2_with fail
          refine wp_region_far (by kernel_rfl) (by kernel_rfl) ?_
          repeat (go_big_quiet_step ((go_at_call 61; exact OneB.far (HB.out _))))
          refine wpQuiet_nil ?_
          rintro _ ⟨p, rfl⟩
          go_wp2_with fail
          go_roundw
          case rel => exact ⟨m + 1, by omega, by go_num, K.out.next (below_far wr p), HS⟩
          case measure => simp [intOf]; omega
        | false =>
          have HV := Lib.hid (insX_at hs.out (fun z hz => by rw [hx1] at hz; cases hz; exact hq))
          clear hx1 hq hc0 hc1 hok
          go_wp2_with fail
          refine wp_region_far (by kernel_rfl) (by kernel_rfl) ?_
          repeat (go_big_quiet_step ((go_at_call 61; exact OneB.far (HB.out _))))
          refine wpQuiet_nil ?_
          rintro _ ⟨p, rfl⟩
          go_wp2_with fail
          go_meet
          exact ⟨m, by omega, rfl, K.out.next (below_far wr p), HV⟩
      · have HV := Lib.hid (insX_at hs.out (fun z hz => by rw [List.getElem?_eq_none (by omega)] at hz; cases hz))
        have i1 : ¬ (m : Int) < (xs.length : Int) := by omega
        go_wp2_with fail
        refine wp_region_far (by kernel_rfl) (by kernel_rfl) ?_
        repeat (go_big_quiet_step ((fail)))
        refine wpQuiet_nil ?_
        rintro _ ⟨p, rfl⟩
        go_wp2_with fail
        go_meet
        exact ⟨m, by omega, rfl, K.out.next (below_far wr p), HV⟩
  case rest =>
    obtain ⟨m, hk2, rfl, K, hval⟩ := hcut
    have hm0 : (0 : Int) ≤ (m : Int) := by omega
    have hm1 : (m : Int) ≤ (xs.length : Int) := by omega
    have hm2 : (m : Int) ≤ (cap : Int) := by omega
    have hS := K.out
    have hS' := KW.sp K.out
    clear K K0
    go_wp2_with fail
    go_region_held3 (fun W' => W'.cell? ⟨w.heap.size, 0, none⟩ = some (.string ⟨x.nm.toArray⟩) ∧ W'.cell? ⟨w.heap.size, 1, none⟩ = some (.slice x.A x.ms.length x.c) ∧ w.heap.size < W'.heap.size ∧ KW w x A xs W')
      (first
        | assumption
        | (exact KW.sp (by assumption))
        | (exact KW.sp (KW.drew (by assumption)))
        | (exact KW.sp (KW.alloc (by assumption) _))
        | (exact KW.sp (KW.drew (KW.alloc (by assumption) _))))
      (first
        | (refine step_append_sl (o := ⟨some 25, _, _, _, _, _⟩) _ encIt 2 (by rfl) (.const (.slice none 0 0)) (.tmp 24) 26 (by rfl) encIt_len (by omega) encIt_one (w.heap.size + 1) 49 i0 _ 40 Tryz.underlying26 hi0 hz0 hz1 hz2 rfl (.slice none 0 0) [] (by rfl) (World.ownsRow_nil _ _ _ _) A m cap (xs.take m) (by rfl) (by simp; omega) ((KW.items (by first | assumption | exact KW.drew (by assumption) | exact KW.alloc (by assumption) _ | exact KW.alloc (KW.drew (by assumption)) _ | exact KW.drew (KW.alloc (by assumption) _) | exact KW.drew (KW.alloc (KW.drew (by assumption)) _))).1.take m) (by simp [maxLen]; omega) (by simp; omega) (KW.size (by first | assumption | exact KW.drew (by assumption) | exact KW.alloc (by assumption) _ | exact KW.alloc (KW.drew (by assumption)) _ | exact KW.drew (KW.alloc (by assumption) _) | exact KW.drew (KW.alloc (KW.drew (by assumption)) _))) ?_
           intro v1 w1 hown1 hg1 hat1
           have hS1 := KW.grown (by first | assumption | exact KW.drew (by assumption) | exact KW.alloc (by assumption) _ | exact KW.alloc (KW.drew (by assumption)) _ | exact KW.drew (KW.alloc (by assumption) _) | exact KW.drew (KW.alloc (KW.drew (by assumption)) _)) hg1 (by simp [Value.ownBlock]))
        | (refine step_append_sl (o := ⟨some 28, _, _, _, _, _⟩) _ encIt 2 (by rfl) (.tmp 25) (.tmp 27) 26 (by rfl) encIt_len (by omega) encIt_one (w.heap.size + 1) 49 i0 _ 40 Tryz.underlying26 hi0 hz0 hz1 hz2 rfl v1 ([] ++ xs.take m) (by rfl) (by first | exact hown1 | exact hown1.alloc _ | exact (hown1.alloc _).drew) _ 1 _ [x] (by rfl) (by rfl) (by first | exact SlAt.one (heap_alloc_new w1 _) | exact SlAt.one ((hg1.block _ (by simp) (by simp [Value.ownBlock])).trans (heap_alloc_new wc _))) (by simp [maxLen]; omega) (by simp; omega) (KW.size (by first | assumption | exact KW.drew (by assumption) | exact KW.alloc (by assumption) _ | exact KW.alloc (KW.drew (by assumption)) _ | exact KW.drew (KW.alloc (by assumption) _) | exact KW.drew (KW.alloc (KW.drew (by assumption)) _))) ?_
           intro v2 w2 hown2 hg2 hat2
           have hS2 := KW.grown (by first | assumption | exact KW.drew (by assumption) | exact KW.alloc (by assumption) _ | exact KW.alloc (KW.drew (by assumption)) _ | exact KW.drew (KW.alloc (by assumption) _) | exact KW.drew (KW.alloc (KW.drew (by assumption)) _)) hg2 (fun k hk => (hown1.lt k hk).1))
        | (refine step_append_sl (o := ⟨some 32, _, _, _, _, _⟩) _ encIt 2 (by rfl) (.tmp 28) (.tmp 31) 26 (by rfl) encIt_len (by omega) encIt_one (w.heap.size + 1) 49 i0 _ 40 Tryz.underlying26 hi0 hz0 hz1 hz2 rfl v2 ([] ++ xs.take m ++ [x]) (by rfl) hown2 _ (xs.length - m) _ (xs.drop m) (by rfl) (by simp) ((KW.items (by first | assumption | exact KW.drew (by assumption) | exact KW.alloc (by assumption) _ | exact KW.alloc (KW.drew (by assumption)) _ | exact KW.drew (KW.alloc (by assumption) _) | exact KW.drew (KW.alloc (KW.drew (by assumption)) _))).1.cut m cap hc) (by simp [maxLen]; omega) (by simp; omega) (KW.size (by first | assumption | exact KW.drew (by assumption) | exact KW.alloc (by assumption) _ | exact KW.alloc (KW.drew (by assumption)) _ | exact KW.drew (KW.alloc (by assumption) _) | exact KW.drew (KW.alloc (KW.drew (by assumption)) _))) ?_
           intro v3 w3 hown3 hg3 hat3
           have hS3 := KW.grown (by first | assumption | exact KW.drew (by assumption) | exact KW.alloc (by assumption) _ | exact KW.alloc (KW.drew (by assumption)) _ | exact KW.drew (KW.alloc (by assumption) _) | exact KW.drew (KW.alloc (KW.drew (by assumption)) _)) hg3 (fun k hk => (hown2.lt k hk).1)))
    all_goals
      have e : [] ++ xs.take m ++ [x] ++ xs.drop m = insX xs x := by rw [hval.out]; simp
      rw [e] at hown3
      have HH := Lib.hid (HoldsX.of_own hown3 fun y hy => by
        rcases insX_mem hy with h | h
        · exact hS3.items.2 y h
        · subst h; exact hS3.ok)
      have HB := Lib.hid hS3.bel
      obtain ⟨A', c', rfl, _⟩ := SlAt.of_own encIt_len hown3
      clear hS1 hS2 hS3 hown1 hown2 hown3 hg1 hg2 hg3 hat1 hat2 hat3 e hS hS' hval
      go_wp2_with fail
      all_goals
        go_ret
        exact ⟨⟨_, rfl, HH.out⟩, HB.out⟩

end

end Go.Proofs.YtfjbocipjmpogaaGreat
