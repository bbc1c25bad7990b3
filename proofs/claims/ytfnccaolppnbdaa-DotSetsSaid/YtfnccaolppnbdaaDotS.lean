/- The law of sets of dots returns true, whatever the list and the dot; it is proved for every input. -/
import Derived.Test.YtfnccaolppnbdaaDotT
namespace Go.Proofs.Ytfnccaolppnbdaa
open Go.RowKit
open Go.ChangeShapes Go.WideShapes Go.ChangeAt

/-- What holds from the set on. -/
def KQ (w1 : World) (A : Option Addr) (v1 vs : Value) (xs ys : List (Int × Int)) (c g : Nat) (r0 c0 : Int) (W : World) : Prop :=
  W.cell? ⟨g, 0, none⟩ = some (.int .i64 r0) ∧ W.cell? ⟨g, 1, none⟩ = some (.int .i64 c0) ∧ g < w1.heap.size ∧ w1.heap.size ≤ W.heap.size ∧ Below w1.heap.size w1 W ∧ Holds W (.slice A xs.length c) xs ∧ Holds W v1 xs ∧ Mine w1 W vs ys
section
variable {w1 : World} {A : Option Addr} {v1 vs : Value} {xs ys : List (Int × Int)} {c g : Nat} {r0 c0 : Int} {W W' : World}
theorem Mine.below {w1 W W' : World} {v : Value} {ys : List (Int × Int)} (h : Mine w1 W v ys) (hb : Below W.heap.size W W') : Mine w1 W' v ys :=
  ⟨h.1.kept (grown_of_below hb none) (by cases v.ownBlock <;> simp), below_trans h.2 hb⟩
theorem KQ.below (h : KQ w1 A v1 vs xs ys c g r0 c0 W) (hb : Below W.heap.size W W') : KQ w1 A v1 vs xs ys c g r0 c0 W' := by
  obtain ⟨h1, h2, h3, h4, h5, h6, h7, h8⟩ := h
  exact ⟨(hb.cell (p := ⟨g, 0, none⟩) (by show g < _; omega)).trans h1, (hb.cell (p := ⟨g, 1, none⟩) (by show g < _; omega)).trans h2, h3, Nat.le_trans h4 hb.size, below_trans h5 hb, h6.below hb, h7.below hb, h8.below hb⟩
theorem KQ.alloc (h : KQ w1 A v1 vs xs ys c g r0 c0 W) (o : Obj) : KQ w1 A v1 vs xs ys c g r0 c0 (W.alloc o) := h.below ((Below.refl _ W).alloc (Nat.le_refl _) o)
theorem KQ.drew (h : KQ w1 A v1 vs xs ys c g r0 c0 W) : KQ w1 A v1 vs xs ys c g r0 c0 W.drew := h.below (Below.refl _ W).drew
theorem KQ.arg (h : KQ w1 A v1 vs xs ys c g r0 c0 W) : Holds W (.slice A xs.length c) xs := h.2.2.2.2.2.1
theorem KQ.own (h : KQ w1 A v1 vs xs ys c g r0 c0 W) : Holds W v1 xs := h.2.2.2.2.2.2.1
theorem KQ.set (h : KQ w1 A v1 vs xs ys c g r0 c0 W) : Holds W vs ys := h.2.2.2.2.2.2.2.holds
theorem KQ.mine (h : KQ w1 A v1 vs xs ys c g r0 c0 W) : Mine w1 W vs ys := h.2.2.2.2.2.2.2
end

theorem list_set_same {α : Type} (l : List α) (i : Nat) (u : α) (h : l[i]? = some u) : l.set i u = l := List.ext_getElem? fun k => by
  rw [List.getElem?_set]
  split
  · rename_i e
    subst e
    split
    · exact h.symm
    · rename_i hk
      rw [List.getElem?_eq_none (by omega)] at h; cases h
  · rfl
theorem own_store1 {w : World} {base g n cap : Nat} {e : TypeId} {ys : List (Int × Int)} (h : w.ownsRow base e 2 (.slice (some ⟨g, 0, none⟩) n cap) n (cellsOf encD ys)) {j : Nat} {r r' c : Int} (hj : ys[j]? = some (r, c)) :
    (w.setCell ⟨g, j * 2, none⟩ (.int .i64 r')).ownsRow base e 2 (.slice (some ⟨g, 0, none⟩) n cap) n (cellsOf encD (ys.set j (r', c))) ∧ w.grownBy (w.setCell ⟨g, j * 2, none⟩ (.int .i64 r')) (some g) := by
  obtain ⟨h1, g1⟩ := h.stored (j * 2) (.int .i64 r')
  have hl : j < ys.length := by
    rcases Nat.lt_or_ge j ys.length with h | h
    · exact h
    · rw [List.getElem?_eq_none h] at hj; cases hj
  rw [← cells_set ys j r' c hl, list_set_same _ (j * 2 + 1)]
  · exact ⟨h1, g1⟩
  · rw [List.getElem?_set_ne (by omega)]
    exact cellsOf_at encD_len ys j (r, c) 1 _ hj rfl

theorem set_mine (v : Value) (xs : List (Int × Int)) (w : World) (h : Holds w v xs) (hm : xs.length ≤ 1000000) :
    Calls Try.prog 11 #[v] w fun e w' => ∃ v', e = .returned v' ∧ Mine w w' v' (setL xs) := by
  obtain ⟨A, c, rfl, h1, h2, h3⟩ := h
  rw [← ordL_eq]
  exact dotSet A xs c w h1 hm

set_option maxHeartbeats 2000000 in
theorem lawSets (A : Option Addr) (xs : List (Int × Int)) (c : Nat) (r0 c0 : Int) (w : World) (hx : Holds w (.slice A xs.length c) xs) :
    Calls Try.prog 4 #[.slice A xs.length c, .agg #[.int .i64 r0, .int .i64 c0]] w fun e w' => e = .returned (.bool true) ∧ Below w.heap.size w w' := by
  have KN := Lib.hid known1
  have LX : xs.length ≤ maxLen := by obtain ⟨_, _, h, _, h2, h3⟩ := hx; omega
  unfold maxLen at LX
  by_cases h1 : xs.length ≤ 60
  · obtain ⟨_, _, eA, hxA, _, _⟩ := id hx
    cases eA
    have HX := Lib.hid hx; clear hx
    have HXA := Lib.hid hxA; clear hxA
    have L1 := Lib.hid h1
    clear LX
    obtain ⟨i0, hi0, hz0, hz1, hz2⟩ := info_parts infoD
    have t1 : ¬ (60 < (xs.length : Int)) := by omega
    clear h1
    have hal : Below w.heap.size w (w.alloc (.cells #[.int .i64 r0, .int .i64 c0] 23)) := (Below.refl _ w).alloc (Nat.le_refl _) _
    have HAL := Lib.hid hal; clear hal
    go_enter Try.func4, Try.ntmps4
    go_wp2_with (at_builtin
                 refine wpList_append_sl (o := ⟨some 13, _, _, _, _, _⟩) _ encD 2 rfl (.const (.slice none 0 0)) (.tmp 12) 28 rfl encD_len (by omega) encD_one w.heap.size 23 i0 _ 16 Try.underlying28 hi0 hz0 hz1 hz2 rfl (.slice none 0 0) [] rfl (World.ownsRow_nil _ _ _ _) A _ c xs rfl rfl (HXA.out.below HAL.out) (by simp [maxLen]; have := L1.out; omega) (by simp; have := L1.out; omega) HAL.out.size ?_
                 intro v1 w1 hown1 hg1 hat1
                 have hb1 : Below w.heap.size w w1 := HAL.out.grown hg1 HAL.out.size (fun k hk => by cases hk)
                 have kc0 : w1.cell? ⟨w.heap.size, 0, none⟩ = some (.int .i64 r0) := by
                   have h := hg1.block w.heap.size (by simp) (by simp [Value.ownBlock])
                   rw [World.cell?_of_block (a := ⟨w.heap.size, 0, none⟩) h]; go_simp
                 have kc1 : w1.cell? ⟨w.heap.size, 1, none⟩ = some (.int .i64 c0) := by
                   have h := hg1.block w.heap.size (by simp) (by simp [Value.ownBlock])
                   rw [World.cell?_of_block (a := ⟨w.heap.size, 1, none⟩) h]; go_simp
                 have kz : w.heap.size < w1.heap.size := by have := hg1.size; simp at this; omega
                 rw [List.nil_append] at hown1
                 have M1 := Lib.hid (show Mine w w1 v1 xs from ⟨hown1, hb1⟩)
                 clear hown1 hg1 hat1 hb1)
    refine (set_mine _ xs _ M1.out.holds (by have := L1.out; omega)).mono ?_
    rintro e w2 ⟨vs, rfl, M2⟩
    have hK : KQ w1 A v1 vs xs (setL xs) c w.heap.size r0 c0 w2 :=
      ⟨(M2.2.cell (p := ⟨w.heap.size, 0, none⟩) kz).trans kc0, (M2.2.cell (p := ⟨w.heap.size, 1, none⟩) kz).trans kc1, kz, M2.2.size, M2.2, HX.out.below (below_trans M1.out.2 M2.2), M1.out.holds.below M2.2, M2⟩
    clear M2 kc0 kc1
    obtain ⟨bi, hbi⟩ : ∃ b, isSetB xs = b := ⟨_, rfl⟩
    obtain ⟨bh, hbh⟩ : ∃ b, decide ((r0, c0) ∈ xs) = b := ⟨_, rfl⟩
    have BI := Lib.hid hbi; clear hbi
    have BH := Lib.hid hbh; clear hbh
    have hK' : w2.cell? ⟨w.heap.size, 0, none⟩ = some (.int .i64 r0) ∧ w2.cell? ⟨w.heap.size, 1, none⟩ = some (.int .i64 c0) ∧ w.heap.size < w1.heap.size ∧ w1.heap.size ≤ w2.heap.size ∧ Below w1.heap.size w1 w2 ∧ Holds w2 (.slice A xs.length c) xs ∧ Holds w2 v1 xs ∧ Mine w1 w2 vs (setL xs) := hK
    go_wp2_with fail
    go_cut [36] (fun b wx => b = .bool false ∧ KQ w1 A v1 vs xs (setL xs) c w.heap.size r0 c0 wx)
    case first =>
     cases bi <;> cases bh
     all_goals
      go_region_held3 (fun W => W.cell? ⟨w.heap.size, 0, none⟩ = some (.int .i64 r0) ∧ W.cell? ⟨w.heap.size, 1, none⟩ = some (.int .i64 c0) ∧ w.heap.size < w1.heap.size ∧ w1.heap.size ≤ W.heap.size ∧ Below w1.heap.size w1 W ∧ Holds W (.slice A xs.length c) xs ∧ Holds W v1 xs ∧ Mine w1 W vs (setL xs))
        (first
          | assumption
          | (exact KQ.drew (by assumption))
          | (exact KQ.alloc (by assumption) _)
          | (exact KQ.drew (KQ.alloc (by assumption) _)))
        (first
          | (go_at_call 12; refine (isSet_h _ xs _ _ (KQ.own (by assumption)) BI.out).mono ?_
             rintro e wa ⟨rfl, hb1⟩
             have hS1 := KQ.below (by assumption) hb1
             clear hb1)
          | (go_at_call 13; refine (refIsSet_h _ xs _ _ (KQ.arg (by assumption)) BI.out).mono ?_
             rintro e wb ⟨rfl, hb1⟩
             have hS2 := KQ.below (by assumption) hb1
             clear hb1)
          | (go_at_call 15; refine (refSet_h _ xs _ (KQ.arg (by assumption)) (by have := L1.out; omega)).mono ?_
             rintro e wc ⟨⟨v3, rfl, hv3⟩, hb1⟩
             have hS3 := KQ.below (by assumption) hb1
             clear hb1)
          | (go_at_call 14; refine (same_h _ _ (setL xs) (setL xs) true _ (KQ.set (by assumption)) (by first | exact hv3 | exact hv3.drew) (by simp)).mono ?_
             rintro e wd ⟨rfl, hb1⟩
             have hS4 := KQ.below (by assumption) hb1
             clear hb1)
          | (go_at_call 16; refine (has_h _ xs r0 c0 _ _ (KQ.own (by assumption)) BH.out).mono ?_
             rintro e we ⟨rfl, hb1⟩
             have hS5 := KQ.below (by assumption) hb1
             clear hb1)
          | (go_at_call 17; refine (refHas_h _ xs r0 c0 _ _ (KQ.arg (by assumption)) BH.out).mono ?_
             rintro e wf ⟨rfl, hb1⟩
             have hS6 := KQ.below (by assumption) hb1
             clear hb1))
     all_goals
      go_wp2_with fail
      go_meet
      exact ⟨rfl, hS6⟩
    case rest =>
    obtain ⟨rfl, hK2⟩ := hcut
    clear hK hK'
    have hLZ : (setL xs).length ≤ maxLen := by
      obtain ⟨_, _, _, _, h2, h3⟩ := hK2.set
      omega
    unfold maxLen at hLZ
    rcases Go.Joins.ownsRow_forms hK2.mine.1 with ⟨rfl, hz⟩ | ⟨g, cap, rfl⟩
    · have M2 := Lib.hid hK2.mine
      clear hK2
      go_wp2_with fail
      refine wp_loop_rounds 1 ?_
      rw [rounds_succ]
      go_wp2_with fail
      refine (same_h _ _ xs xs true _ (M1.out.holds.below M2.out.2) (HX.out.below (below_trans M1.out.2 M2.out.2)) (by simp)).mono ?_
      rintro e wd ⟨rfl, hb1⟩
      have HB := Lib.hid (below_trans (below_trans M1.out.2 M2.out.2) hb1)
      clear hb1
      go_wp2_with fail
      refine (KN.out _).mono ?_
      rintro e wf ⟨rfl, hb2⟩
      have HB2 := Lib.hid (below_trans HB.out hb2)
      clear hb2
      go_wp2_with fail
      go_ret
      exact ⟨rfl, HB2.out⟩
    · have M2 := Lib.hid hK2.mine
      clear hK2
      go_wp2_with fail
      go_loopw [39] (fun i wr => ∃ (m : Nat) (ys : List (Int × Int)), m ≤ (setL xs).length ∧ i = .int .i64 m ∧ ys.length = (setL xs).length ∧ Hid (Mine w1 wr (.slice (some ⟨g, 0, none⟩) (setL xs).length cap) ys)) (fun i _ => (setL xs).length - (intOf i).toNat)
      case atStart => exact ⟨0, setL xs, by omega, rfl, rfl, M2⟩
      case round =>
        obtain ⟨m, ys, hk2, rfl, hyl, hM⟩ := hrel
        by_cases hlt : m < (setL xs).length
        · obtain ⟨⟨r, q⟩, hx1⟩ : ∃ x, ys[m]? = some x := ⟨_, List.getElem?_eq_getElem (by omega)⟩
          have hown := hM.out.1
          rw [hyl] at hown
          obtain ⟨l0, _, l2, _⟩ := own_dot hown hx1
          have hst := fun r' => own_store1 hown hx1 (r' := r')
          have HST := Lib.hid hst; clear hst
          clear hown hx1
          go_wp2_with fail
          have hs := HST.out (wrap64 (r + 1))
          exact ⟨⟨m + 1, ys.set m (wrap64 (r + 1), q), by omega, by go_num, by rw [List.length_set]; exact hyl, hM.out.step (by rw [List.length_set, hyl]; exact hs.1) hs.2⟩, by simp [intOf]; omega⟩
        · go_wp2_with fail
          refine (same_h _ _ xs xs true _ (M1.out.holds.below hM.out.2) (HX.out.below (below_trans M1.out.2 hM.out.2)) (by simp)).mono ?_
          rintro e wd ⟨rfl, hb1⟩
          have HB := Lib.hid (below_trans (below_trans M1.out.2 hM.out.2) hb1)
          clear hb1
          go_wp2_with fail
          refine (KN.out _).mono ?_
          rintro e wf ⟨rfl, hb2⟩
          have HB2 := Lib.hid (below_trans HB.out hb2)
          clear hb2
          go_wp2_with fail
          go_ret
          exact ⟨rfl, HB2.out⟩
  · have t1 : 60 < (xs.length : Int) := by omega
    go_enter Try.func4, Try.ntmps4
    go_wp2_with (go_at_call 10; refine (KN.out _).mono ?_; rintro e w1 ⟨rfl, hb⟩)
    go_ret
    exact ⟨rfl, below_trans ((Below.refl _ w).alloc (Nat.le_refl _) _) hb⟩

set_option maxRecDepth 100000 in
theorem sets_lifted (os : Os) (started : os.Started) (H : Type) (enc : TypeId × Value → H) :
    ReturnsInHanded {} Try.checked os 4 .any (Rows.dotSetsSpec.pre6 enc Try.prog Try.f4 Rows.dotSetsRow.domain false) (Rows.dotSetsSpec.post enc Try.prog Try.f4 false true false false) := by
  refine returnsInHanded_of_change (C := Try.checked) ownP started (by kernel_rfl) Try.func4
    (ChangeSpec.witness6 (enc := enc) (C := Try.checked) false ⟨#[], #[.slice none 0 0, .agg #[.int .i64 0, .int .i64 0]], []⟩ 8 (by kernel_rfl) (by kernel_rfl) (by kernel_rfl) (by kernel_rfl)) ?_
  intro W base args ds gs before hval0 hW _ _
  have hval : ∀ (j : Nat) t v, Try.f4.params[j]? = some t → args[j]? = some v → Value.okWide Try.prog W .any base t v := hval0
  have hW' := hW
  obtain ⟨p, q, hA0, hV, rfl, _, _⟩ := hW
  have hA : DataW.TrodAll enc Try.prog W 0 (fun _ => true) true Try.f4.params.toList args.toList ds p := hA0
  rw [Try.params4] at hA hval
  obtain ⟨v0, v1, d0, d1, p0, p1, rfl, rfl, rfl, h0, h1⟩ := trodAll_two hA
  obtain ⟨rfl, rfl⟩ := trodVars_none hV
  have k0 := h0
  have k1 := h1
  obtain ⟨A0, c0, xs, rfl, H0⟩ := open_dots (hval 0 _ v0 rfl rfl) h0
  obtain ⟨r1, c1, rfl⟩ := open_dot (hval 1 _ v1 rfl rfl) h1
  clear hA0 hval0
  simp only [List.append_nil] at hW'
  have lt0 : ∀ x ∈ p0, x.block < W.heap.size := by obtain ⟨m, hm⟩ := k0; exact DataW.trod_lt m _ _ _ hm
  have lt1 : ∀ x ∈ p1, x.block < W.heap.size := by obtain ⟨m, hm⟩ := k1; exact DataW.trod_lt m _ _ _ hm
  refine (lawSets A0 xs c0 r1 c1 W H0).mono fun e W' ⟨he, bel⟩ => ?_
  subst he
  exact ⟨_, rfl, _, _, _, [], _, [], hW', trodAll_mk1 (shut_bool Try.underlying4 _), trodAll_mk2 (Below.trod laidP (by kernel_rfl) (of_decide_eq_true (by kernel_rfl)) k0 bel lt0) (Below.trod laidP (by kernel_rfl) (of_decide_eq_true (by kernel_rfl)) k1 bel lt1), rfl, bel.frame _, fun h => by cases h⟩

theorem sets_over : Rows.DotSetsSaid :=
  OpenClaim.holds_of_wide 4 Try.f4 rfl rfl rfl rfl rfl rfl rfl ⟨rfl, rfl, rfl, rfl, rfl⟩ rfl rfl rfl rfl rfl (by kernel_rfl) Try.func4 (by kernel_rfl)
    (of_decide_eq_true (by kernel_rfl)) (by unfold Func.isWrapper; first | (rw [if_pos (by decide +kernel)]; kernel_rfl) | (rw [if_neg (by decide +kernel)]; exact ⟨rfl, rfl⟩))
    (fun os started H enc _ => sets_lifted os started H enc)

end Go.Proofs.Ytfnccaolppnbdaa
