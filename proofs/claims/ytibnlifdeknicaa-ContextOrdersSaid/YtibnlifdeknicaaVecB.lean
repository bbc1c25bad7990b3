/- Contracts of Raise, Of, Merge, Within and Order of the reference of package vector. -/
import Derived.Test.YtibnlifdeknicaaVecA
import Derived.Test.YtibnlifdeknicaaDotC
namespace Go.Proofs.Ytibnlifdeknicaa
open Go.RowKit

theorem raise_t_eq {d x : Int × Int} (h : x.1 = d.1) (v : List (Int × Int)) : raiseL d true (x :: v) = raiseL d true v := by rw [raiseL]; simp [h]
theorem raise_t_ne {d x : Int × Int} (h : ¬ x.1 = d.1) (v : List (Int × Int)) : raiseL d true (x :: v) = [x] ++ raiseL d true v := by rw [raiseL]; simp [h]
theorem raise_f_eq {d x : Int × Int} (h : x.1 = d.1) (v : List (Int × Int)) : raiseL d false (x :: v) = [d] ++ raiseL d true v := by rw [raiseL]; simp [h]
theorem raise_f_ne {d x : Int × Int} (h0 : d.1 ≤ x.1) (h : ¬ x.1 = d.1) (v : List (Int × Int)) : raiseL d false (x :: v) = [d] ++ ([x] ++ raiseL d true v) := by rw [raiseL]; simp [h, h0]
theorem raise_f_lt {d x : Int × Int} (h0 : ¬ d.1 ≤ x.1) (v : List (Int × Int)) : raiseL d false (x :: v) = [x] ++ raiseL d false v := by
  have h : ¬ x.1 = d.1 := by omega
  rw [raiseL]; simp [h, h0]
theorem raiseL_len (d : Int × Int) : ∀ (v : List (Int × Int)) (b : Bool), (raiseL d b v).length ≤ v.length + 1
  | [], b => by cases b <;> simp [raiseL]
  | x :: v, b => by
    have h1 := raiseL_len d v (b || decide (d.1 ≤ x.1))
    by_cases h0 : d.1 ≤ x.1
    · by_cases h : x.1 = d.1
      · cases b
        · rw [raise_f_eq h]
          have := raiseL_len d v true
          rw [raiseL_done] at this ⊢
          have := List.length_filter_le (fun x : Int × Int => x.1 != d.1) v
          simp; omega
        · rw [raise_t_eq h]; have := raiseL_len d v true; simp; omega
      · cases b
        · rw [raise_f_ne h0 h, raiseL_done]
          have := List.length_filter_le (fun x : Int × Int => x.1 != d.1) v
          simp; omega
        · rw [raise_t_ne h]; have := raiseL_len d v true; simp; omega
    · have h : ¬ x.1 = d.1 := by omega
      cases b
      · rw [raise_f_lt h0]; have := raiseL_len d v false; simp; omega
      · rw [raise_t_ne h]; have := raiseL_len d v true; simp; omega
theorem raiseV_len (v : List (Int × Int)) (d : Int × Int) : (raiseV v d).length ≤ v.length + 1 := by
  unfold raiseV
  split
  · omega
  · exact raiseL_len d v false
theorem mergeV_len : ∀ (b a : List (Int × Int)), (mergeV a b).length ≤ a.length + b.length
  | [], a => by simp [mergeV]
  | d :: b, a => by
    have h1 := mergeV_len b (raiseV a d)
    have h2 := raiseV_len a d
    show (mergeV (raiseV a d) b).length ≤ _
    simp only [List.length_cons]; omega

theorem grown_of_below2 {a w : World} (h : Below a.heap.size a w) (row : Option Nat) : a.grownBy w row := ⟨h.os, h.tape, h.output, h.size, fun i hi _ => h.block i hi⟩

/-- The box of the dot, and a row of the call's own. -/
def RV (w : World) (r0 c0 : Int) (v : Value) (ys : List (Int × Int)) (W : World) : Prop :=
  KS w r0 c0 W ∧ W.ownsRow (w.heap.size + 1) 38 2 v ys.length (cellsOf encD ys)
section
variable {w : World} {r0 c0 : Int} {v : Value} {ys : List (Int × Int)} {W W' : World}
theorem RV.below (h : RV w r0 c0 v ys W) (hb : Below W.heap.size W W') : RV w r0 c0 v ys W' :=
  ⟨.of (h.1.2.2.trans (hb.mono h.1.size)), h.2.kept (grown_of_below2 hb none) (by cases v.ownBlock <;> simp)⟩
theorem RV.far (h : RV w r0 c0 v ys W) (p : FarBy) : RV w r0 c0 v ys (far W p) := h.below (below_far W p)
theorem RV.app (h : RV w r0 c0 v ys W) (o : Obj) {v1 : Value} {w1 : World} {zs : List (Int × Int)} (ho : w1.ownsRow (w.heap.size + 1) 38 2 v1 (ys ++ zs).length (cellsOf encD (ys ++ zs))) (hg : (W.alloc o).grownBy w1 v.ownBlock) : RV w r0 c0 v1 (ys ++ zs) w1 :=
  ⟨KS.grown (h.1.alloc o) hg (fun k hk => (h.2.lt k hk).1), ho⟩
theorem RV.cells (h : RV w r0 c0 v ys W) : W.cell? ⟨w.heap.size, 0, none⟩ = some (.int .i64 r0) ∧ W.cell? ⟨w.heap.size, 1, none⟩ = some (.int .i64 c0) ∧ w.heap.size < W.heap.size ∧ Below w.heap.size w W :=
  ⟨h.1.1, h.1.2.1, by have := h.1.size; omega, h.1.below⟩
end


/-- What a round reads, wherever what was there is as it was. -/
theorem RV.reads {w : World} {r0 c0 : Int} {v : Value} {ys : List (Int × Int)} {W : World} (h : RV w r0 c0 v ys W) {b o : Nat} {r c : Int} (hb : b < w.heap.size) (h0 : w.cell? ⟨b, o, none⟩ = some (.int .i64 r)) (h1 : w.cell? ⟨b, o + 1, none⟩ = some (.int .i64 c)) :
    ∀ p, (Go.Proofs.Ytibnlifdeknicaa.far W p).cell? ⟨w.heap.size, 0, none⟩ = some (.int .i64 r0) ∧ (Go.Proofs.Ytibnlifdeknicaa.far W p).cell? ⟨w.heap.size, 1, none⟩ = some (.int .i64 c0) ∧ (Go.Proofs.Ytibnlifdeknicaa.far W p).cell? ⟨b, o, none⟩ = some (.int .i64 r) ∧ (Go.Proofs.Ytibnlifdeknicaa.far W p).cell? ⟨b, o + 1, none⟩ = some (.int .i64 c) := fun p => by
  obtain ⟨k0, k1, kz, kb⟩ := h.cells
  have hz := kb.size
  exact ⟨cell_far (p := p) (a := ⟨w.heap.size, 0, none⟩) kz k0, cell_far (p := p) (a := ⟨w.heap.size, 1, none⟩) kz k1,
    cell_far (p := p) (a := ⟨b, o, none⟩) (by show b < _; omega) ((kb.cell (p := ⟨b, o, none⟩) hb).trans h0), cell_far (p := p) (a := ⟨b, o + 1, none⟩) (by show b < _; omega) ((kb.cell (p := ⟨b, o + 1, none⟩) hb).trans h1)⟩
theorem RV.now {w : World} {r0 c0 : Int} {v : Value} {ys : List (Int × Int)} {W : World} (h : RV w r0 c0 v ys W) {b o : Nat} {r c : Int} (hb : b < w.heap.size) (h0 : w.cell? ⟨b, o, none⟩ = some (.int .i64 r)) (h1 : w.cell? ⟨b, o + 1, none⟩ = some (.int .i64 c)) :
    W.cell? ⟨w.heap.size, 0, none⟩ = some (.int .i64 r0) ∧ W.cell? ⟨w.heap.size, 1, none⟩ = some (.int .i64 c0) ∧ W.cell? ⟨b, o, none⟩ = some (.int .i64 r) ∧ W.cell? ⟨b, o + 1, none⟩ = some (.int .i64 c) := by
  have := h.reads hb h0 h1 ⟨W.drawn, #[]⟩
  rwa [far_self] at this

set_option maxRecDepth 100000 in
set_option maxHeartbeats 2000000 in
theorem ref2RaiseO (A : Option Addr) (xs : List (Int × Int)) (cap : Nat) (r0 c0 : Int) (w : World) (hx : DotsAt w A xs) (hm : xs.length ≤ 1000000) (hc : xs.length ≤ cap) (hcm : cap ≤ maxLen) (hin : hasV xs r0 c0 = false) :
    Calls Try.prog 56 #[.slice A xs.length cap, .agg #[.int .i64 r0, .int .i64 c0]] w fun e w' => (∃ v', e = .returned v' ∧ w'.ownsRow (w.heap.size + 1) 38 2 v' (raiseV xs (r0, c0)).length (cellsOf encD (raiseV xs (r0, c0)))) ∧ Below w.heap.size w w' := by
  obtain ⟨i0, hi0, hz0, hz1, hz2⟩ := info_parts infoD
  have hh := fun W hW => ref2Has A xs cap r0 c0 W hW (by simp only [maxLen]; omega)
  have hv : raiseV xs (r0, c0) = if hasV xs r0 c0 then xs else raiseL (r0, c0) false xs := rfl
  rw [hin] at hv
  simp only [Bool.false_eq_true, if_false] at hv
  simp only [hin] at hh
  have HH := Lib.hid hh
  have HV := Lib.hid hv
  have HM := Lib.hid hm
  clear hv hin hh
  unfold maxLen at hcm
  go_enter Try.func56, Try.ntmps56
  go_wp2_with fail
  refine (HH.out _ (hx.below ((Below.refl _ w).alloc (Nat.le_refl _) _))).mono ?_
  rintro e w1 ⟨rfl, hb1⟩
  have hb0 : Below (w.heap.size + 1) (w.alloc (.cells #[.int .i64 r0, .int .i64 c0] 38)) w1 := hb1.mono (by simp)
  clear hb1
  go_wp2_with fail
  go_loopw [5, 6, 7] (fun sv sd si wr => ∃ (m : Nat) (done : Bool) (ys : List (Int × Int)), m ≤ xs.length ∧ si = .int .i64 m ∧ sd = .bool done ∧ ys.length ≤ m + 1 ∧ (done = false → ys.length ≤ m) ∧ Hid (RV w r0 c0 sv ys wr) ∧ Hid (ys ++ raiseL (r0, c0) done (xs.drop m) = raiseL (r0, c0) false xs)) (fun _ _ i _ => xs.length - (intOf i).toNat)
  case atStart => exact ⟨0, false, [], by omega, rfl, rfl, by simp, by simp, ⟨KS.of hb0, World.ownsRow_nil _ _ _ _⟩, by simp [Hid]⟩
  case round =>
    obtain ⟨m, done, ys, hk2, rfl, rfl, hyl, hyd, hR, hE⟩ := hrel
    by_cases hlt : m < xs.length
    · obtain ⟨b, off, r, c, rfl, hbl, hx1, hc0, hc1⟩ := hx.dot (j := m) hlt
      have hd : xs.drop m = (r, c) :: xs.drop (m + 1) := by
        obtain ⟨h1, h2⟩ := List.getElem?_eq_some_iff.1 hx1
        rw [← h2]; exact List.drop_eq_getElem_cons h1
      have hE' := hE.out
      rw [hd] at hE'
      have H0 := Lib.hid hc0
      have H1 := Lib.hid hc1
      have rd := fun p => (hR.out.reads hbl hc0 hc1 p)
      have k0 := fun p => (rd p).1
      have l0 := fun p => (rd p).2.2.1
      clear hc0 hc1 hd hx1 hE rd
      cases done
      · replace hyd := hyd rfl
        by_cases hle : r0 ≤ r
        · by_cases hq : r = r0
          · rw [raise_f_eq (d := (r0, c0)) (x := (r, c)) hq, ← List.append_assoc] at hE'
            have HE := Lib.hid hE'; clear hE'
            go_wp2_with fail
            refine wp_region_far (by kernel_rfl) (by kernel_rfl) ?_
            repeat (go_big_quiet_step ((fail)))
            refine wpQuiet_nil ?_
            rintro _ ⟨p, rfl⟩
            have hR1 := Lib.hid (hR.out.far p)
            have rn := hR1.out.now hbl H0.out H1.out
            obtain ⟨n0, n1, n2, n3⟩ := rn
            clear k0 l0
            generalize far wr p = W1 at *
            go_wp2_with (at_builtin; (refine wpList_append_sl (o := ⟨some 33, _, _, _, _, _⟩) _ encD 2 rfl (.tmp 30) (.tmp 32) 23 rfl encD_len (by omega) encD_one (w.heap.size + 1) 38 i0 _ 16 Try.underlying23 hi0 hz0 hz1 hz2 rfl _ ys rfl (hR1.out.2.alloc _) _ 1 _ [(r0, c0)] rfl rfl (SlAt.one (heap_alloc_new _ _)) (by simp [maxLen]; have := HM.out; omega) (by simp; have := HM.out; omega) (by have := hR1.out.1.size; simp; omega) ?_; intro v1 w1 hown1 hg1 hat1; have R1 := Lib.hid (hR1.out.app _ hown1 hg1); clear hown1 hg1 hat1))
            have rd := fun p => (R1.out.reads hbl H0.out H1.out p)
            have k0 := fun p => (rd p).1
            have l0 := fun p => (rd p).2.2.1
            clear rd n0 n1 n2 n3
            refine wp_region_far (by kernel_rfl) (by kernel_rfl) ?_
            repeat (go_big_quiet_step ((fail)))
            refine wpQuiet_nil ?_
            rintro _ ⟨p, rfl⟩
            go_wp2
            go_roundw
            case rel => exact ⟨m + 1, true, ys ++ [(r0, c0)], by omega, by go_num, rfl, by simp; omega, by simp, R1.out.far _, HE⟩
            case measure => simp [intOf]; omega
          · rw [raise_f_ne (d := (r0, c0)) (x := (r, c)) hle hq, ← List.append_assoc, ← List.append_assoc] at hE'
            have HE := Lib.hid hE'; clear hE'
            go_wp2_with fail
            refine wp_region_far (by kernel_rfl) (by kernel_rfl) ?_
            repeat (go_big_quiet_step ((fail)))
            refine wpQuiet_nil ?_
            rintro _ ⟨p, rfl⟩
            have hR1 := Lib.hid (hR.out.far p)
            have rn := hR1.out.now hbl H0.out H1.out
            obtain ⟨n0, n1, n2, n3⟩ := rn
            clear k0 l0
            generalize far wr p = W1 at *
            go_wp2_with (at_builtin; (refine wpList_append_sl (o := ⟨some 33, _, _, _, _, _⟩) _ encD 2 rfl (.tmp 30) (.tmp 32) 23 rfl encD_len (by omega) encD_one (w.heap.size + 1) 38 i0 _ 16 Try.underlying23 hi0 hz0 hz1 hz2 rfl _ ys rfl (hR1.out.2.alloc _) _ 1 _ [(r0, c0)] rfl rfl (SlAt.one (heap_alloc_new _ _)) (by simp [maxLen]; have := HM.out; omega) (by simp; have := HM.out; omega) (by have := hR1.out.1.size; simp; omega) ?_; intro v1 w1 hown1 hg1 hat1; have R1 := Lib.hid (hR1.out.app _ hown1 hg1); clear hown1 hg1 hat1))
            have rd := fun p => (R1.out.reads hbl H0.out H1.out p)
            have k0 := fun p => (rd p).1
            have l0 := fun p => (rd p).2.2.1
            clear rd n0 n1 n2 n3
            refine wp_region_far (by kernel_rfl) (by kernel_rfl) ?_
            repeat (go_big_quiet_step ((fail)))
            refine wpQuiet_nil ?_
            rintro _ ⟨p, rfl⟩
            have hR2 := Lib.hid (R1.out.far p)
            have rn := hR2.out.now hbl H0.out H1.out
            obtain ⟨n0, n1, n2, n3⟩ := rn
            clear k0 l0
            generalize far w1 p = W2 at *
            go_wp2_with (at_builtin; (refine wpList_append_sl (o := ⟨some 48, _, _, _, _, _⟩) _ encD 2 rfl (.tmp 42) (.tmp 47) 23 rfl encD_len (by omega) encD_one (w.heap.size + 1) 38 i0 _ 16 Try.underlying23 hi0 hz0 hz1 hz2 rfl _ (ys ++ [(r0, c0)]) rfl (hR2.out.2.alloc _) _ 1 _ [(r, c)] rfl rfl (SlAt.one (heap_alloc_new _ _)) (by simp [maxLen]; have := HM.out; omega) (by simp; have := HM.out; omega) (by have := hR2.out.1.size; simp; omega) ?_; intro v2 w2 hown2 hg2 hat2; have R2 := Lib.hid (hR2.out.app _ hown2 hg2); clear hown2 hg2 hat2))
            go_roundw
            case rel => exact ⟨m + 1, true, ys ++ [(r0, c0)] ++ [(r, c)], by omega, by go_num, rfl, by simp; omega, by simp, R2, HE⟩
            case measure => simp [intOf]; omega
        · rw [raise_f_lt (d := (r0, c0)) (x := (r, c)) hle, ← List.append_assoc] at hE'
          have HE := Lib.hid hE'; clear hE'
          have hq : ¬ r = r0 := by omega
          go_wp2_with fail
          refine wp_region_far (by kernel_rfl) (by kernel_rfl) ?_
          repeat (go_big_quiet_step ((fail)))
          refine wpQuiet_nil ?_
          rintro _ ⟨p, rfl⟩
          have hR1 := Lib.hid (hR.out.far p)
          have rd := fun p => (hR1.out.reads hbl H0.out H1.out p)
          have k0 := fun p => (rd p).1
          have l0 := fun p => (rd p).2.2.1
          clear rd
          generalize far wr p = W1 at *
          go_wp2_with fail
          refine wp_region_far (by kernel_rfl) (by kernel_rfl) ?_
          repeat (go_big_quiet_step ((fail)))
          refine wpQuiet_nil ?_
          rintro _ ⟨p, rfl⟩
          have hR2 := Lib.hid (hR1.out.far p)
          have rn := hR2.out.now hbl H0.out H1.out
          obtain ⟨n0, n1, n2, n3⟩ := rn
          clear k0 l0
          generalize far W1 p = W2 at *
          go_wp2_with (at_builtin; (refine wpList_append_sl (o := ⟨some 48, _, _, _, _, _⟩) _ encD 2 rfl (.tmp 42) (.tmp 47) 23 rfl encD_len (by omega) encD_one (w.heap.size + 1) 38 i0 _ 16 Try.underlying23 hi0 hz0 hz1 hz2 rfl _ ys rfl (hR2.out.2.alloc _) _ 1 _ [(r, c)] rfl rfl (SlAt.one (heap_alloc_new _ _)) (by simp [maxLen]; have := HM.out; omega) (by simp; have := HM.out; omega) (by have := hR2.out.1.size; simp; omega) ?_; intro v3 w3 hown3 hg3 hat3; have R3 := Lib.hid (hR2.out.app _ hown3 hg3); clear hown3 hg3 hat3))
          go_roundw
          case rel => exact ⟨m + 1, false, ys ++ [(r, c)], by omega, by go_num, rfl, by simp; omega, by simp; omega, R3, HE⟩
          case measure => simp [intOf]; omega
      · by_cases hq : r = r0
        · rw [raise_t_eq (d := (r0, c0)) (x := (r, c)) hq] at hE'
          have HE := Lib.hid hE'; clear hE'
          go_wp2_with fail
          refine wp_region_far (by kernel_rfl) (by kernel_rfl) ?_
          repeat (go_big_quiet_step ((fail)))
          refine wpQuiet_nil ?_
          rintro _ ⟨p, rfl⟩
          have hR1 := Lib.hid (hR.out.far p)
          have rd := fun p => (hR1.out.reads hbl H0.out H1.out p)
          have k0 := fun p => (rd p).1
          have l0 := fun p => (rd p).2.2.1
          clear rd
          generalize far wr p = W1 at *
          go_wp2_with fail
          refine wp_region_far (by kernel_rfl) (by kernel_rfl) ?_
          repeat (go_big_quiet_step ((fail)))
          refine wpQuiet_nil ?_
          rintro _ ⟨p, rfl⟩
          go_wp2
          go_roundw
          case rel => exact ⟨m + 1, true, ys, by omega, by go_num, rfl, by omega, by simp, hR1.out.far _, HE⟩
          case measure => simp [intOf]; omega
        · rw [raise_t_ne (d := (r0, c0)) (x := (r, c)) hq, ← List.append_assoc] at hE'
          have HE := Lib.hid hE'; clear hE'
          go_wp2_with fail
          refine wp_region_far (by kernel_rfl) (by kernel_rfl) ?_
          repeat (go_big_quiet_step ((fail)))
          refine wpQuiet_nil ?_
          rintro _ ⟨p, rfl⟩
          have hR1 := Lib.hid (hR.out.far p)
          have rd := fun p => (hR1.out.reads hbl H0.out H1.out p)
          have k0 := fun p => (rd p).1
          have l0 := fun p => (rd p).2.2.1
          clear rd
          generalize far wr p = W1 at *
          go_wp2_with fail
          refine wp_region_far (by kernel_rfl) (by kernel_rfl) ?_
          repeat (go_big_quiet_step ((fail)))
          refine wpQuiet_nil ?_
          rintro _ ⟨p, rfl⟩
          have hR2 := Lib.hid (hR1.out.far p)
          have rn := hR2.out.now hbl H0.out H1.out
          obtain ⟨n0, n1, n2, n3⟩ := rn
          clear k0 l0
          generalize far W1 p = W2 at *
          go_wp2_with (at_builtin; (refine wpList_append_sl (o := ⟨some 48, _, _, _, _, _⟩) _ encD 2 rfl (.tmp 42) (.tmp 47) 23 rfl encD_len (by omega) encD_one (w.heap.size + 1) 38 i0 _ 16 Try.underlying23 hi0 hz0 hz1 hz2 rfl _ ys rfl (hR2.out.2.alloc _) _ 1 _ [(r, c)] rfl rfl (SlAt.one (heap_alloc_new _ _)) (by simp [maxLen]; have := HM.out; omega) (by simp; have := HM.out; omega) (by have := hR2.out.1.size; simp; omega) ?_; intro v3 w3 hown3 hg3 hat3; have R3 := Lib.hid (hR2.out.app _ hown3 hg3); clear hown3 hg3 hat3))
          go_roundw
          case rel => exact ⟨m + 1, true, ys ++ [(r, c)], by omega, by go_num, rfl, by simp; omega, by simp, R3, HE⟩
          case measure => simp [intOf]; omega
    · have hE' := hE.out
      rw [List.drop_eq_nil_of_le (by omega)] at hE'
      obtain ⟨k0, k1, kz, kb⟩ := hR.out.cells
      cases done
      · have HE := Lib.hid (show ys ++ [(r0, c0)] = raiseV xs (r0, c0) by rw [HV.out]; simpa [raiseL] using hE'); clear hE' hE
        clear kb
        go_wp2_with (at_builtin; (refine wpList_append_sl (o := ⟨some 54, _, _, _, _, _⟩) _ encD 2 rfl (.tmp 51) (.tmp 53) 23 rfl encD_len (by omega) encD_one (w.heap.size + 1) 38 i0 _ 16 Try.underlying23 hi0 hz0 hz1 hz2 rfl _ ys rfl (hR.out.2.alloc _) _ 1 _ [(r0, c0)] rfl rfl (SlAt.one (heap_alloc_new _ _)) (by simp [maxLen]; have := HM.out; omega) (by simp; have := HM.out; omega) (by have := hR.out.1.size; simp; omega) ?_; intro v4 w4 hown4 hg4 hat4; have R4 := Lib.hid (hR.out.app _ hown4 hg4); clear hown4 hg4 hat4))
        have hown := R4.out.2
        rw [HE.out] at hown
        obtain ⟨A', c', rfl, h1', h2', h3'⟩ := SlAt.of_own encD_len hown
        have HAT := Lib.hid hown
        clear hown h1' h2' h3' k0 k1
        go_wp2
        go_ret
        exact ⟨⟨_, rfl, HAT.out⟩, R4.out.cells.2.2.2⟩
      · have HE := Lib.hid (show ys = raiseV xs (r0, c0) by rw [HV.out]; simpa [raiseL] using hE'); clear hE' hE
        have hown := hR.out.2
        rw [HE.out] at hown
        obtain ⟨A', c', rfl, h1', h2', h3'⟩ := SlAt.of_own encD_len hown
        have HAT := Lib.hid hown
        clear hown h1' h2' h3' k0 k1
        go_wp2
        go_ret
        exact ⟨⟨_, rfl, HAT.out⟩, kb⟩

set_option maxRecDepth 100000 in
set_option maxHeartbeats 2000000 in
theorem ref2Raise (A : Option Addr) (xs : List (Int × Int)) (cap : Nat) (r0 c0 : Int) (w : World) (hx : DotsAt w A xs) (hm : xs.length ≤ 1000000) (hc : xs.length ≤ cap) (hcm : cap ≤ maxLen) :
    Calls Try.prog 56 #[.slice A xs.length cap, .agg #[.int .i64 r0, .int .i64 c0]] w fun e w' => (∃ v', e = .returned v' ∧ Holds w' v' (raiseV xs (r0, c0))) ∧ Below w.heap.size w w' := by
  have hh := fun W hW => ref2Has A xs cap r0 c0 W hW (by simp only [maxLen]; omega)
  have hv : raiseV xs (r0, c0) = if hasV xs r0 c0 then xs else raiseL (r0, c0) false xs := rfl
  cases hin : hasV xs r0 c0
  · exact (ref2RaiseO A xs cap r0 c0 w hx hm hc hcm hin).mono fun e w' ⟨⟨v', he, ho⟩, hb⟩ => ⟨⟨v', he, by
      obtain ⟨A', c', e0, h1', h2', h3'⟩ := SlAt.of_own encD_len ho
      exact ⟨A', c', e0, h3', h1', h2'⟩⟩, hb⟩
  · rw [hin] at hv
    simp only [if_true] at hv
    simp only [hin] at hh
    have HH := Lib.hid hh
    have HV := Lib.hid hv
    clear hv hin hh
    unfold maxLen at hcm
    go_enter Try.func56, Try.ntmps56
    go_wp2_with fail
    refine (HH.out _ (hx.below ((Below.refl _ w).alloc (Nat.le_refl _) _))).mono ?_
    rintro e w1 ⟨rfl, hb1⟩
    have hbb := below_trans ((Below.refl _ w).alloc (Nat.le_refl _) _) hb1
    clear hb1
    go_wp2
    go_ret
    refine ⟨⟨_, rfl, ?_⟩, hbb⟩
    rw [HV.out]
    exact ⟨A, cap, rfl, hx.below hbb, hc, hcm⟩

theorem ref2Raise_h (v : Value) (xs : List (Int × Int)) (r0 c0 : Int) (w : World) (h : Holds w v xs) (hm : xs.length ≤ 1000000) :
    Calls Try.prog 56 #[v, .agg #[.int .i64 r0, .int .i64 c0]] w fun e w' => (∃ v', e = .returned v' ∧ Holds w' v' (raiseV xs (r0, c0))) ∧ Below w.heap.size w w' := by
  obtain ⟨A, c, rfl, h1, h2, h3⟩ := h
  exact ref2Raise A xs c r0 c0 w h1 hm h2 h3

set_option maxHeartbeats 1000000 in
theorem ref2Merge (A B : Option Addr) (xs ys : List (Int × Int)) (cap cap' : Nat) (w : World) (hx : Holds w (.slice A xs.length cap) xs) (hy : DotsAt w B ys) (hm : xs.length + ys.length ≤ 100000) :
    Calls Try.prog 69 #[.slice A xs.length cap, .slice B ys.length cap'] w fun e w' => (∃ v, e = .returned v ∧ Holds w' v (mergeV xs ys)) ∧ Below w.heap.size w w' := by
  have HX := Lib.hid hx; clear hx
  go_enter Try.func69, Try.ntmps69
  go_wp2
  go_loopw [0, 5] (fun v i wr => ∃ m : Nat, m ≤ ys.length ∧ i = .int .i64 m ∧ Below w.heap.size w wr ∧ Holds wr v (mergeV xs (ys.take m))) (fun _ i _ => ys.length - (intOf i).toNat)
  case atStart => exact ⟨0, by omega, rfl, Below.refl _ _, HX.out⟩
  case round =>
    obtain ⟨m, hk2, rfl, hb, hs⟩ := hrel
    by_cases hlt : m < ys.length
    · obtain ⟨b, off, r, c, rfl, hbl, hx1, hc0, hc1⟩ := (hy.below hb).dot (j := m) (by omega)
      have hl := mergeV_len (ys.take m) xs
      have hl2 : (ys.take m).length ≤ m := List.length_take_le _ _
      have HX1 := Lib.hid hx1; clear hx1
      go_wp2_with (go_at_call 56; refine (ref2Raise_h _ (mergeV xs (ys.take m)) _ _ _ hs (by omega)).mono ?_; rintro e w1 ⟨⟨v', rfl, hs'⟩, hb1⟩)
      go_roundw
      case rel => exact ⟨m + 1, by omega, by go_num, hb.trans (hb1.mono hb.size), by rw [take_snoc HX1.out, mergeV_snoc]; exact hs'⟩
      case measure => simp [intOf]; omega
    · have hmx : ys.take m = ys := List.take_of_length_le (by omega)
      rw [hmx] at hs
      clear hmx
      have HS := Lib.hid hs; clear hs
      go_wp2
      go_ret
      exact ⟨⟨_, rfl, HS.out⟩, hb⟩

set_option maxHeartbeats 1000000 in
theorem ref2Within (A B : Option Addr) (xs ys : List (Int × Int)) (cap cap' : Nat) (w : World) (hx : DotsAt w A xs) (hy : DotsAt w B ys) (hm : xs.length ≤ maxLen) (hm' : ys.length ≤ maxLen) :
    Calls Try.prog 70 #[.slice A xs.length cap, .slice B ys.length cap'] w fun e w' => e = .returned (.bool (withinV xs ys)) ∧ Below w.heap.size w w' := by
  unfold maxLen at hm
  go_enter Try.func70, Try.ntmps70
  go_wp2
  go_loopw [5] (fun i wr => ∃ m : Nat, m ≤ xs.length ∧ i = .int .i64 m ∧ Below w.heap.size w wr ∧ Hid (withinV xs ys = withinV (xs.drop m) ys)) (fun i _ => xs.length - (intOf i).toNat)
  case atStart => exact ⟨0, by omega, rfl, Below.refl _ _, by rw [List.drop_zero]; rfl⟩
  case round =>
    obtain ⟨m, hk2, rfl, hb, hs⟩ := hrel
    by_cases hlt : m < xs.length
    · obtain ⟨b, off, r, c, rfl, hbl, hx1, hc0, hc1⟩ := (hx.below hb).dot (j := m) hlt
      have hd : xs.drop m = (r, c) :: xs.drop (m + 1) := by
        obtain ⟨h1, h2⟩ := List.getElem?_eq_some_iff.1 hx1
        rw [← h2]; exact List.drop_eq_getElem_cons h1
      have hg := hs.out
      have hq0 : withinV ((r, c) :: xs.drop (m + 1)) ys = (hasV ys r c && withinV (xs.drop (m + 1)) ys) := by simp [withinV]
      rw [hd, hq0] at hg
      have hh := ref2Has B ys cap' r c wr (hy.below hb) hm'
      clear hd hx1 hq0
      cases hq : hasV ys r c
      · rw [hq] at hg hh
        have HG := Lib.hid (show withinV xs ys = false by simpa using hg); clear hg hq
        have HH := Lib.hid hh; clear hh
        go_wp2_with fail
        refine HH.out.mono ?_
        rintro e w1 ⟨rfl, hb1⟩
        have HB := Lib.hid (hb.trans (hb1.mono hb.size)); clear hb1
        go_wp2
        go_ret
        exact ⟨ret_bool HG.out.symm, HB.out⟩
      · rw [hq] at hg hh
        have HG := Lib.hid (show withinV xs ys = withinV (xs.drop (m + 1)) ys by simpa using hg); clear hg hq
        have HH := Lib.hid hh; clear hh
        go_wp2_with fail
        refine HH.out.mono ?_
        rintro e w1 ⟨rfl, hb1⟩
        have HB := Lib.hid (hb.trans (hb1.mono hb.size)); clear hb1
        go_wp2
        go_roundw
        case rel => exact ⟨m + 1, by omega, by go_num, HB.out, HG⟩
        case measure => simp [intOf]; omega
    · have hg := hs.out
      rw [List.drop_eq_nil_of_le (by omega)] at hg
      have HG := Lib.hid (show withinV xs ys = true from hg); clear hg
      go_wp2
      go_ret
      exact ⟨ret_bool HG.out.symm, hb⟩

/-- All dots are valid. -/
def ofOk (l : List (Int × Int)) : Bool := l.all fun p => validD p.1 p.2
/-- What Of returns. -/
def OfR (ok : Bool) (xs : List (Int × Int)) (e : Ending) (w' : World) : Prop :=
  (ok = true → ∃ v, e = .returned (.tuple #[v, .int .i64 0]) ∧ Holds w' v (ofV xs)) ∧ (ok = false → e = .returned (.tuple #[.slice none 0 0, .int .i64 2]))

end Go.Proofs.Ytibnlifdeknicaa
