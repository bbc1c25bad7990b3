/- The law of merges of layer 2 returns true. -/
import Derived.Test.YteeigngomleijaaDoorVecW3
namespace Go.Proofs.YteeigngomleijaaDoor
open Go.RowKit

/-- What holds all along: the heap as it lay, some lists. -/
def KL (w0 : World) (L : List (Value × List (Int × Int))) (W : World) : Prop := Below w0.heap.size w0 W ∧ TabOK W ∧ ∀ p ∈ L, Holds W p.1 p.2
section
variable {w0 : World} {L : List (Value × List (Int × Int))} {W W' : World}
theorem KL.below (h : KL w0 L W) (hb : Below W.heap.size W W') : KL w0 L W' := ⟨below_trans h.1 hb, h.2.1.below hb, fun p hp => (h.2.2 p hp).below hb⟩
theorem KL.drew (h : KL w0 L W) : KL w0 L W.drew := h.below (Below.refl _ W).drew
theorem KL.bel (h : KL w0 L W) : Below w0.heap.size w0 W := h.1
theorem KL.tab (h : KL w0 L W) : TabOK W := h.2.1
theorem KL.h {v : Value} {xs : List (Int × Int)} (h : KL w0 L W) (hm : (v, xs) ∈ L) : Holds W v xs := h.2.2 _ hm
theorem KL.push {v : Value} {xs : List (Int × Int)} (h : KL w0 L W) (hv : Holds W v xs) : KL w0 ((v, xs) :: L) W :=
  ⟨h.1, h.2.1, fun p hp => by
    rcases List.mem_cons.1 hp with rfl | hp
    · exact hv
    · exact h.2.2 p hp⟩
end
theorem ref2Merge_h (v v' : Value) (xs ys zs : List (Int × Int)) (w : World) (h : Holds w v xs) (h' : Holds w v' ys) (hm : xs.length + ys.length ≤ 100000) (hz : mergeV xs ys = zs) :
    Calls Tryd.prog 40 #[v, v'] w fun e w' => (∃ v, e = .returned v ∧ Holds w' v zs) ∧ Below w.heap.size w w' := by
  obtain ⟨A, c, rfl, h1, h2, h3⟩ := h
  obtain ⟨A', c', rfl, h1', h2', h3'⟩ := h'
  subst hz
  exact ref2Merge A A' xs ys c c' w ⟨A, c, rfl, h1, h2, h3⟩ h1' hm
theorem ref2Order_h (v v' : Value) (xs ys : List (Int × Int)) (n : Int) (w : World) (h : Holds w v xs) (h' : Holds w v' ys) (hn : orderV xs ys = n) :
    Calls Tryd.prog 41 #[v, v'] w fun e w' => e = .returned (.int .i64 n) ∧ Below w.heap.size w w' := by
  obtain ⟨A, c, rfl, h1, h2, h3⟩ := h
  obtain ⟨A', c', rfl, h1', h2', h3'⟩ := h'
  subst hn
  exact ref2Order A A' xs ys c c' w h1 h1' (Nat.le_trans h2 h3) (Nat.le_trans h2' h3')
theorem vecMerge_ok (v v' : Value) (xs ys zs : List (Int × Int)) (w : World) (h : Holds w v xs) (h' : Holds w v' ys) (hm : xs.length + ys.length ≤ 100000) (hva : validV xs = true) (hvb : validV ys = true) (hz : mergeV xs ys = zs) :
    Calls Tryd.prog 38 #[v, v'] w fun e w' => ∃ v, e = .returned (.tuple #[v, .int .i64 0]) ∧ Mine w w' v zs := by
  obtain ⟨A, c, rfl, h1, h2, h3⟩ := h
  obtain ⟨A', c', rfl, h1', h2', h3'⟩ := h'
  subst hz
  exact (vecMerge A A' xs ys c c' w ⟨A, c, rfl, h1, h2, h3⟩ ⟨A', c', rfl, h1', h2', h3'⟩ hm).mono fun e w' h => h.1 (by rw [hva, hvb]; rfl)

theorem Mine.below {w1 W W' : World} {v : Value} {ys : List (Int × Int)} (h : Mine w1 W v ys) (hb : Below W.heap.size W W') : Mine w1 W' v ys :=
  ⟨h.1.kept (grown_of_below2 hb none) (by cases v.ownBlock <;> simp), below_trans h.2 hb⟩
theorem list_set_same {α : Type} (l : List α) (i : Nat) (u : α) (h : l[i]? = some u) : l.set i u = l := List.ext_getElem? fun k => by
  rw [List.getElem?_set]
  split
  · rename_i e
    subst e
    split
    · exact h.symm
    · rename_i hk
      rw [List.getElem?_eq_none (by omega)] at h; cases h
  · rfl
theorem own_store2 {w : World} {base g n cap : Nat} {e : TypeId} {ys : List (Int × Int)} (h : w.ownsRow base e 2 (.slice (some ⟨g, 0, none⟩) n cap) n (cellsOf encD ys)) {j : Nat} {r c c' : Int} (hj : ys[j]? = some (r, c)) :
    (w.setCell ⟨g, j * 2 + 1, none⟩ (.int .i64 c')).ownsRow base e 2 (.slice (some ⟨g, 0, none⟩) n cap) n (cellsOf encD (ys.set j (r, c'))) ∧ w.grownBy (w.setCell ⟨g, j * 2 + 1, none⟩ (.int .i64 c')) (some g) := by
  obtain ⟨h1, g1⟩ := h.stored (j * 2 + 1) (.int .i64 c')
  have hl : j < ys.length := by
    rcases Nat.lt_or_ge j ys.length with h | h
    · exact h
    · rw [List.getElem?_eq_none h] at hj; cases hj
  rw [← cells_set ys j r c' hl, list_set_same _ (j * 2)]
  · exact ⟨h1, g1⟩
  · exact cellsOf_at encD_len ys j (r, c) 0 _ hj rfl

set_option maxRecDepth 100000 in
set_option maxHeartbeats 4000000 in
theorem lawVectorMerges (A B : Option Addr) (xs ys : List (Int × Int)) (c c' : Nat) (w : World) (hx : Holds w (.slice A xs.length c) xs) (hy : Holds w (.slice B ys.length c') ys) (ht : TabOK w) :
    Calls Tryd.prog 7 #[.slice A xs.length c, .slice B ys.length c'] w fun e w' => e = .returned (.bool true) ∧ Below w.heap.size w w' := by
  have LX : xs.length ≤ maxLen := by obtain ⟨_, _, h, _, h2, h3⟩ := hx; omega
  have LY : ys.length ≤ maxLen := by obtain ⟨_, _, h, _, h2, h3⟩ := hy; omega
  unfold maxLen at LX LY
  have KN := Lib.hid fun W (h : TabOK W) => known2 W h
  obtain ⟨i0, hi0, hz0, hz1, hz2⟩ := info_parts infoD
  have K : KL w [(.slice A xs.length c, xs), (.slice B ys.length c', ys)] w :=
    ⟨Below.refl _ _, ht, fun p hp => by
      rcases List.mem_cons.1 hp with rfl | hp
      · exact hx
      · rcases List.mem_cons.1 hp with rfl | hp
        · exact hy
        · cases hp⟩
  have K0 := Lib.hid K
  clear hx hy ht K
  by_cases h1 : xs.length ≤ 40
  · have t1 : ¬ (40 < (xs.length : Int)) := by omega
    by_cases h2 : ys.length ≤ 40
    · have t2 : ¬ (40 < (ys.length : Int)) := by omega
      have L1 := Lib.hid h1
      have L2 := Lib.hid h2
      clear h1 h2 LX LY
      cases hva : validV xs with
      | false =>
        have HV := Lib.hid fun W (h : Holds W (.slice A xs.length c) xs) => ref2Valid_h _ xs false W h hva
        have HM := Lib.hid fun W (K : KL w [(.slice A xs.length c, xs), (.slice B ys.length c', ys)] W) => lawMerged (.slice A xs.length c) (.slice B ys.length c') _ xs ys [] 2 true W (K.h (by simp)) (K.h (by simp)) (Holds.nil W) (by have := L1.out; have := L2.out; omega) (by rw [hva]; rfl)
        have HO := Lib.hid fun W (K : KL w [(.slice A xs.length c, xs), (.slice B ys.length c', ys)] W) => lawOrders (.slice A xs.length c) (.slice B ys.length c') xs ys 0 2 true W (K.h (by simp)) (K.h (by simp)) (by have := L1.out; have := L2.out; omega) (by rw [hva]; rfl)
        clear hva
        go_enter Tryd.func7, Tryd.ntmps7
        go_wp2_with fail
        refine (HV.out _ (K0.out.h (by simp))).mono ?_
        rintro e w1 ⟨rfl, hb⟩
        have K1 := Lib.hid (K0.out.below hb)
        clear hb
        go_wp2_with fail
        refine (HM.out _ K1.out).mono ?_
        rintro e w2 ⟨rfl, hb⟩
        have K2 := Lib.hid (K1.out.below hb)
        clear hb
        go_wp2_with fail
        refine (HO.out _ K2.out).mono ?_
        rintro e w3 ⟨rfl, hb⟩
        have K3 := Lib.hid (K2.out.below hb)
        clear hb
        go_wp2_with fail
        refine (KN.out _ K3.out.tab).mono ?_
        rintro e w4 ⟨rfl, hb⟩
        have K4 := Lib.hid (K3.out.below hb)
        clear hb
        go_wp2_with fail
        go_ret
        exact ⟨rfl, K4.out.bel⟩
      | true =>
       have HV := Lib.hid fun W (h : Holds W (.slice A xs.length c) xs) => ref2Valid_h _ xs true W h hva
       cases hvb : validV ys with
       | false =>
        have HV2 := Lib.hid fun W (h : Holds W (.slice B ys.length c') ys) => ref2Valid_h _ ys false W h hvb
        have HM := Lib.hid fun W (K : KL w [(.slice A xs.length c, xs), (.slice B ys.length c', ys)] W) => lawMerged (.slice A xs.length c) (.slice B ys.length c') _ xs ys [] 2 true W (K.h (by simp)) (K.h (by simp)) (Holds.nil W) (by have := L1.out; have := L2.out; omega) (by rw [hva, hvb]; rfl)
        have HO := Lib.hid fun W (K : KL w [(.slice A xs.length c, xs), (.slice B ys.length c', ys)] W) => lawOrders (.slice A xs.length c) (.slice B ys.length c') xs ys 0 2 true W (K.h (by simp)) (K.h (by simp)) (by have := L1.out; have := L2.out; omega) (by rw [hva, hvb]; rfl)
        clear hva hvb
        go_enter Tryd.func7, Tryd.ntmps7
        go_wp2_with fail
        refine (HV.out _ (K0.out.h (by simp))).mono ?_
        rintro e w1 ⟨rfl, hb⟩
        have K1 := Lib.hid (K0.out.below hb)
        clear hb
        go_wp2_with fail
        refine (HV2.out _ (K1.out.h (by simp))).mono ?_
        rintro e w1' ⟨rfl, hb⟩
        have K1' := Lib.hid (K1.out.below hb)
        clear hb
        go_wp2_with fail
        refine (HM.out _ K1'.out).mono ?_
        rintro e w2 ⟨rfl, hb⟩
        have K2 := Lib.hid (K1'.out.below hb)
        clear hb
        go_wp2_with fail
        refine (HO.out _ K2.out).mono ?_
        rintro e w3 ⟨rfl, hb⟩
        have K3 := Lib.hid (K2.out.below hb)
        clear hb
        go_wp2_with fail
        refine (KN.out _ K3.out.tab).mono ?_
        rintro e w4 ⟨rfl, hb⟩
        have K4 := Lib.hid (K3.out.below hb)
        clear hb
        go_wp2_with fail
        go_ret
        exact ⟨rfl, K4.out.bel⟩
       | true =>
        have HV2 := Lib.hid fun W (h : Holds W (.slice B ys.length c') ys) => ref2Valid_h _ ys true W h hvb
        have hlz := mergeV_len ys xs
        obtain ⟨zs, hz⟩ : ∃ zs, mergeV xs ys = zs := ⟨_, rfl⟩
        obtain ⟨n, hn⟩ : ∃ n, orderV xs ys = n := ⟨_, rfl⟩
        rw [hz] at hlz
        have HMR := Lib.hid fun v v' W (h : Holds W v xs) (h' : Holds W v' ys) => vecMerge_ok v v' xs ys zs W h h' (by have := L1.out; have := L2.out; omega) hva hvb hz
        have HRM := Lib.hid fun v v' W (h : Holds W v xs) (h' : Holds W v' ys) => ref2Merge_h v v' xs ys zs W h h' (by have := L1.out; have := L2.out; omega) hz
        have HRO := Lib.hid fun v v' W (h : Holds W v xs) (h' : Holds W v' ys) => ref2Order_h v v' xs ys n W h h' hn
        have HOR := Lib.hid fun v v' W (h : Holds W v xs) (h' : Holds W v' ys) => lawOrders v v' xs ys n 0 true W h h' (by have := L1.out; have := L2.out; omega) (by rw [hva, hvb, hn]; simp [ordP])
        have LZ := Lib.hid (show zs.length ≤ 80 by have := L1.out; have := L2.out; omega)
        clear hva hvb hz hn hlz
        go_enter Tryd.func7, Tryd.ntmps7
        go_wp2_with fail
        refine (HV.out _ (K0.out.h (by simp))).mono ?_
        rintro e w1 ⟨rfl, hb⟩
        have K1 := Lib.hid (K0.out.below hb)
        clear hb
        go_wp2_with fail
        refine (HV2.out _ (K1.out.h (by simp))).mono ?_
        rintro e w2 ⟨rfl, hb⟩
        have K2 := Lib.hid (K1.out.below hb)
        clear hb
        have hxa : DotsAt w2 A xs := by
          obtain ⟨A', c', e, h, _⟩ := K2.out.h (v := .slice A xs.length c) (xs := xs) (by simp)
          cases e; exact h
        have hyb0 : DotsAt w2 B ys := by
          obtain ⟨A', c', e, h, _⟩ := K2.out.h (v := .slice B ys.length c') (xs := ys) (by simp)
          cases e; exact h
        go_wp2_with (first
          | (at_builtin
             refine wpList_append_sl (o := ⟨some 39, _, _, _, _, _⟩) _ encD 2 rfl (.const (.slice none 0 0)) (.tmp 38) 42 rfl encD_len (by omega) encD_one w2.heap.size 23 i0 _ 16 Tryd.underlying42 hi0 hz0 hz1 hz2 rfl (.slice none 0 0) [] rfl (World.ownsRow_nil _ _ _ _) A _ c xs rfl rfl hxa (by simp [maxLen]; have := L1.out; omega) (by simp; have := L1.out; omega) (Nat.le_refl _) ?_
             intro v3 w3 hown1 hg1 hat1
             rw [List.nil_append] at hown1
             have hbw3 : Below w2.heap.size w2 w3 := (Below.refl _ w2).grown hg1 (Nat.le_refl _) (fun k hk => by cases hk)
             have K3 := Lib.hid ((K2.out.below hbw3).push (Holds.of_own hown1))
             have hyb := hyb0.below hbw3
             clear hown1 hg1 hat1)
          | (at_builtin
             refine wpList_append_sl (o := ⟨some 41, _, _, _, _, _⟩) _ encD 2 rfl (.const (.slice none 0 0)) (.tmp 40) 42 rfl encD_len (by omega) encD_one w3.heap.size 23 i0 _ 16 Tryd.underlying42 hi0 hz0 hz1 hz2 rfl (.slice none 0 0) [] rfl (World.ownsRow_nil _ _ _ _) B _ c' ys rfl rfl hyb (by simp [maxLen]; have := L2.out; omega) (by simp; have := L2.out; omega) (Nat.le_refl _) ?_
             intro v4 w4 hown1 hg1 hat1
             rw [List.nil_append] at hown1
             have K4 := Lib.hid ((K3.out.below ((Below.refl _ w3).grown hg1 (Nat.le_refl _) (fun k hk => by cases hk))).push (Holds.of_own hown1))
             clear hown1 hg1 hat1))
        refine (HMR.out v3 v4 _ (K4.out.h (by simp)) (K4.out.h (by simp))).mono ?_
        rintro e w5 ⟨v5, rfl, hmv⟩
        have M5 := Lib.hid hmv
        have K5 := Lib.hid (K4.out.below hmv.2)
        clear hmv
        go_wp2_with fail
        refine (HRM.out _ _ _ (K5.out.h (by simp)) (K5.out.h (by simp))).mono ?_
        rintro e w6 ⟨⟨v6, rfl, hv6⟩, hb⟩
        have M6 := Lib.hid (M5.out.below hb)
        have K6 := Lib.hid ((K5.out.below hb).push hv6)
        clear hb hv6
        go_wp2_with fail
        refine (lawGives v5 v6 zs zs 0 0 true _ M6.out.holds (K6.out.h (by simp)) (by simp)).mono ?_
        rintro e w7 ⟨rfl, hb⟩
        have M7 := Lib.hid (M6.out.below hb)
        have K7 := Lib.hid (K6.out.below hb)
        clear hb
        go_wp2_with fail
        refine (HRO.out _ _ _ (K7.out.h (by simp)) (K7.out.h (by simp))).mono ?_
        rintro e w8 ⟨rfl, hb⟩
        have M8 := Lib.hid (M7.out.below hb)
        have K8 := Lib.hid (K7.out.below hb)
        clear hb
        go_wp2_with fail
        refine (HOR.out _ _ _ (K8.out.h (by simp)) (K8.out.h (by simp))).mono ?_
        rintro e w9 ⟨rfl, hb⟩
        have M9 := Lib.hid (M8.out.below hb)
        have K9 := Lib.hid (K8.out.below hb)
        clear hb
        clear K0 K1 K2 K3 K5 K6 K7 K8 M5 M6 M7 M8 hxa hyb0 hyb hbw3
        rcases Go.Joins.ownsRow_forms M9.out.1 with ⟨rfl, hz⟩ | ⟨g, cap, rfl⟩
        · go_wp2_with fail
          refine wp_loop_rounds 1 ?_
          rw [rounds_succ]
          go_wp2_with fail
          refine (same_h _ _ xs xs true _ (K9.out.h (by simp)) (K9.out.h (by simp)) (by simp)).mono ?_
          rintro e wa ⟨rfl, hb⟩
          have KA := Lib.hid (K9.out.below hb)
          clear hb
          go_wp2_with fail
          refine (same_h _ _ ys ys true _ (KA.out.h (by simp)) (KA.out.h (by simp)) (by simp)).mono ?_
          rintro e wb ⟨rfl, hb⟩
          have KB := Lib.hid (KA.out.below hb)
          clear hb
          go_wp2_with fail
          refine (KN.out _ KB.out.tab).mono ?_
          rintro e wc ⟨rfl, hb⟩
          have KC := Lib.hid (KB.out.below hb)
          clear hb
          go_wp2_with fail
          go_ret
          exact ⟨rfl, KC.out.bel⟩
        · have hLZ := LZ.out
          go_wp2_with fail
          go_loopw [66] (fun i wr => ∃ (m : Nat) (us : List (Int × Int)), m ≤ zs.length ∧ i = .int .i64 m ∧ us.length = zs.length ∧ Hid (Mine w4 wr (.slice (some ⟨g, 0, none⟩) zs.length cap) us)) (fun i _ => zs.length - (intOf i).toNat)
          case atStart => exact ⟨0, zs, by omega, rfl, rfl, M9⟩
          case round =>
            obtain ⟨m, us, hk2, rfl, hul, hM⟩ := hrel
            by_cases hlt : m < zs.length
            · obtain ⟨⟨r, q⟩, hx1⟩ : ∃ x, us[m]? = some x := ⟨_, List.getElem?_eq_getElem (by omega)⟩
              have hown := hM.out.1
              rw [hul] at hown
              obtain ⟨_, l0, _, l2⟩ := own_dot hown hx1
              have hst := fun q' => own_store2 hown hx1 (c' := q')
              have HST := Lib.hid hst; clear hst
              clear hown hx1
              go_wp2_with fail
              have hs := HST.out (wrap64 (q + 1))
              exact ⟨⟨m + 1, us.set m (r, wrap64 (q + 1)), by omega, by go_num, by rw [List.length_set]; exact hul, hM.out.step (by rw [List.length_set, hul]; exact hs.1) hs.2⟩, by simp [intOf]; omega⟩
            · have KR := Lib.hid (K4.out.below hM.out.2)
              go_wp2_with fail
              refine (same_h _ _ xs xs true _ (KR.out.h (by simp)) (KR.out.h (by simp)) (by simp)).mono ?_
              rintro e wa ⟨rfl, hb⟩
              have KA := Lib.hid (KR.out.below hb)
              clear hb
              go_wp2_with fail
              refine (same_h _ _ ys ys true _ (KA.out.h (by simp)) (KA.out.h (by simp)) (by simp)).mono ?_
              rintro e wb ⟨rfl, hb⟩
              have KB := Lib.hid (KA.out.below hb)
              clear hb
              go_wp2_with fail
              refine (KN.out _ KB.out.tab).mono ?_
              rintro e wc ⟨rfl, hb⟩
              have KC := Lib.hid (KB.out.below hb)
              clear hb
              go_wp2_with fail
              go_ret
              exact ⟨rfl, KC.out.bel⟩
    · have t2 : 40 < (ys.length : Int) := by omega
      go_enter Tryd.func7, Tryd.ntmps7
      go_wp2_with (go_at_call 25; refine (KN.out _ K0.out.tab).mono ?_; rintro e w1 ⟨rfl, hb⟩)
      go_ret
      exact ⟨rfl, below_trans K0.out.bel hb⟩
  · have t1 : 40 < (xs.length : Int) := by omega
    go_enter Tryd.func7, Tryd.ntmps7
    go_wp2_with (go_at_call 25; refine (KN.out _ K0.out.tab).mono ?_; rintro e w1 ⟨rfl, hb⟩)
    go_ret
    exact ⟨rfl, below_trans K0.out.bel hb⟩

end Go.Proofs.YteeigngomleijaaDoor
