/- The law of makes of layer 2 returns true. -/
import Derived.Test.YteeigngomleijaaDoorVecW1
import Derived.Deep.CutBlock
namespace Go.Proofs.YteeigngomleijaaDoor
open Go.RowKit

/-- What holds all along: the dot's box, the heap as it lay, some lists. -/
def KV (w0 : World) (g : Nat) (r0 c0 : Int) (L : List (Value × List (Int × Int))) (W : World) : Prop :=
  W.cell? ⟨g, 0, none⟩ = some (.int .i64 r0) ∧ W.cell? ⟨g, 1, none⟩ = some (.int .i64 c0) ∧ g < W.heap.size ∧ Below w0.heap.size w0 W ∧ TabOK W ∧ ∀ p ∈ L, Holds W p.1 p.2
section
variable {w0 : World} {g : Nat} {r0 c0 : Int} {L : List (Value × List (Int × Int))} {W W' : World}
theorem KV.below (h : KV w0 g r0 c0 L W) (hb : Below W.heap.size W W') : KV w0 g r0 c0 L W' := by
  obtain ⟨h1, h2, h3, h4, h5, h6⟩ := h
  exact ⟨(hb.cell (p := ⟨g, 0, none⟩) h3).trans h1, (hb.cell (p := ⟨g, 1, none⟩) h3).trans h2, Nat.lt_of_lt_of_le h3 hb.size, below_trans h4 hb, h5.below hb, fun p hp => (h6 p hp).below hb⟩
theorem KV.alloc (h : KV w0 g r0 c0 L W) (o : Obj) : KV w0 g r0 c0 L (W.alloc o) := h.below ((Below.refl _ W).alloc (Nat.le_refl _) o)
theorem KV.drew (h : KV w0 g r0 c0 L W) : KV w0 g r0 c0 L W.drew := h.below (Below.refl _ W).drew
theorem KV.bel (h : KV w0 g r0 c0 L W) : Below w0.heap.size w0 W := h.2.2.2.1
theorem KV.tab (h : KV w0 g r0 c0 L W) : TabOK W := h.2.2.2.2.1
theorem KV.h {v : Value} {xs : List (Int × Int)} (h : KV w0 g r0 c0 L W) (hm : (v, xs) ∈ L) : Holds W v xs := h.2.2.2.2.2 _ hm
theorem KV.push {v : Value} {xs : List (Int × Int)} (h : KV w0 g r0 c0 L W) (hv : Holds W v xs) : KV w0 g r0 c0 ((v, xs) :: L) W :=
  ⟨h.1, h.2.1, h.2.2.1, h.2.2.2.1, h.2.2.2.2.1, fun p hp => by
    rcases List.mem_cons.1 hp with rfl | hp
    · exact hv
    · exact h.2.2.2.2.2 p hp⟩
end
theorem OfR.tup {ok : Bool} {xs : List (Int × Int)} {e : Ending} {w' : World} (h : OfR ok xs e w') : ∃ v, e = .returned (.tuple #[v, .int .i64 (merP ok (ofV xs)).2]) ∧ Holds w' v (merP ok (ofV xs)).1 := by
  cases ok
  · obtain rfl := h.2 rfl
    exact ⟨_, rfl, Holds.nil _⟩
  · obtain ⟨v, rfl, hm⟩ := h.1 rfl
    exact ⟨v, rfl, hm⟩
theorem ref2Of_h (v : Value) (xs : List (Int × Int)) (w : World) (h : Holds w v xs) (hm : xs.length ≤ 100000) :
    Calls Tryd.prog 32 #[v] w fun e w' => (∃ v1, e = .returned (.tuple #[v1, .int .i64 (merP (ofOk xs) (ofV xs)).2]) ∧ Holds w' v1 (merP (ofOk xs) (ofV xs)).1) ∧ Below w.heap.size w w' := by
  obtain ⟨A, c, rfl, h1, h2, h3⟩ := h
  exact (ref2Of A xs c w h1 hm).mono fun e w' ⟨h, hb⟩ => ⟨h.tup, hb⟩
theorem Holds.of_own {w : World} {base : Nat} {v : Value} {xs : List (Int × Int)} (h : w.ownsRow base 23 2 v xs.length (cellsOf encD xs)) : Holds w v xs := by
  obtain ⟨A, c, e0, h1, h2, h3⟩ := SlAt.of_own encD_len h
  exact ⟨A, c, e0, h3, h1, h2⟩

set_option maxRecDepth 100000 in
set_option maxHeartbeats 4000000 in
theorem lawVectorMakes (A B : Option Addr) (xs ys : List (Int × Int)) (c c' : Nat) (r0 c0 : Int) (w : World) (hx : Holds w (.slice A xs.length c) xs) (hy : Holds w (.slice B ys.length c') ys) (ht : TabOK w) :
    Calls Tryd.prog 6 #[.slice A xs.length c, .slice B ys.length c', .agg #[.int .i64 r0, .int .i64 c0]] w fun e w' => e = .returned (.bool true) ∧ Below w.heap.size w w' := by
  have LX : xs.length ≤ maxLen := by obtain ⟨_, _, h, _, h2, h3⟩ := hx; omega
  have LY : ys.length ≤ maxLen := by obtain ⟨_, _, h, _, h2, h3⟩ := hy; omega
  unfold maxLen at LX LY
  have KN := Lib.hid fun W (h : TabOK W) => known2 W h
  obtain ⟨i0, hi0, hz0, hz1, hz2⟩ := info_parts infoD
  have hal : Below w.heap.size w (w.alloc (.cells #[.int .i64 r0, .int .i64 c0] 23)) := (Below.refl _ w).alloc (Nat.le_refl _) _
  have K : KV w w.heap.size r0 c0 [(.slice A xs.length c, xs), (.slice B ys.length c', ys)] (w.alloc (.cells #[.int .i64 r0, .int .i64 c0] 23)) :=
    ⟨by go_simp, by go_simp, by simp, hal, ht.below hal, fun p hp => by
      rcases List.mem_cons.1 hp with rfl | hp
      · exact hx.below hal
      · rcases List.mem_cons.1 hp with rfl | hp
        · exact hy.below hal
        · cases hp⟩
  have K0 := Lib.hid K
  clear hal hx hy ht K
  by_cases h1 : xs.length ≤ 40
  · have t1 : ¬ (40 < (xs.length : Int)) := by omega
    by_cases h2 : ys.length ≤ 40
    · have t2 : ¬ (40 < (ys.length : Int)) := by omega
      obtain ⟨p, hp⟩ : ∃ p, p = merP (ofOk xs) (ofV xs) := ⟨_, rfl⟩
      have hO := fun W (h : Holds W (.slice A xs.length c) xs) => ref2Of_h _ xs W h (by omega)
      have hM := fun v v' W (h : Holds W v xs) (h' : Holds W v' (merP (ofOk xs) (ofV xs)).1) => lawMade v v' xs (merP (ofOk xs) (ofV xs)).1 (merP (ofOk xs) (ofV xs)).2 true W h h' (by omega) (by simp [isB])
      rw [← hp] at hO hM
      obtain ⟨p1, p2⟩ := p
      have HO := Lib.hid hO
      have HM := Lib.hid hM
      have L1 := Lib.hid h1
      have L2 := Lib.hid h2
      have HXA : Hid (∃ A' c', Value.slice A xs.length c = .slice A' xs.length c' ∧ DotsAt (w.alloc (.cells #[.int .i64 r0, .int .i64 c0] 23)) A' xs) := by
        obtain ⟨A', c', e, h, _⟩ := K0.out.h (v := .slice A xs.length c) (xs := xs) (by simp)
        exact ⟨A', c', e, h⟩
      clear hO hM hp h1 h2 LX LY
      simp only at HO HM
      go_enter Tryd.func6, Tryd.ntmps6
      go_wp2_with fail
      refine (HO.out _ (K0.out.h (by simp))).mono ?_
      rintro e w1 ⟨⟨v1, rfl, hv1⟩, hb1⟩
      have K1 := Lib.hid ((K0.out.below hb1).push hv1)
      clear hv1 hb1
      have hxa : DotsAt w1 A xs := by
        obtain ⟨A', c', e, h, _⟩ := K1.out.h (v := .slice A xs.length c) (xs := xs) (by simp)
        cases e; exact h
      go_wp2_with (at_builtin
                   refine wpList_append_sl (o := ⟨some 26, _, _, _, _, _⟩) _ encD 2 rfl (.const (.slice none 0 0)) (.tmp 25) 33 rfl encD_len (by omega) encD_one w1.heap.size 23 i0 _ 16 Tryd.underlying33 hi0 hz0 hz1 hz2 rfl (.slice none 0 0) [] rfl (World.ownsRow_nil _ _ _ _) A _ c xs rfl rfl hxa (by simp [maxLen]; have := L1.out; omega) (by simp; have := L1.out; omega) (Nat.le_refl _) ?_
                   intro v2 w2 hown1 hg1 hat1
                   rw [List.nil_append] at hown1
                   have K2 := Lib.hid ((K1.out.below ((Below.refl _ w1).grown hg1 (Nat.le_refl _) (fun k hk => by cases hk))).push (Holds.of_own hown1))
                   clear hown1 hg1 hat1)
      refine (HM.out v2 v1 _ (K2.out.h (by simp)) (K2.out.h (by simp))).mono ?_
      rintro e w3 ⟨rfl, hb⟩
      have K3 := Lib.hid (K2.out.below hb)
      clear hb
      go_wp2_with fail
      refine (same_h v2 _ xs xs true _ (K3.out.h (by simp)) (K3.out.h (by simp)) (by simp)).mono ?_
      rintro e w4 ⟨rfl, hb⟩
      have K4 := Lib.hid (K3.out.below hb)
      clear hb
      go_wp2_with fail
      cases hvy : validV ys with
      | false =>
        have HBR := Lib.hid (show isB (merP (validV ys && validD r0 c0) (raiseV ys (r0, c0))) [] 2 = true from by rw [hvy]; rfl)
        refine (ref2Valid_h _ ys false _ (K4.out.h (by simp)) hvy).mono ?_
        rintro e w5 ⟨rfl, hb⟩
        have K5 := Lib.hid (K4.out.below hb)
        clear hb hvy
        obtain ⟨k1, k2⟩ := And.intro K5.out.1 K5.out.2.1
        go_wp2_with fail
        refine (lawRaised _ _ ys [] r0 c0 2 true _ (K5.out.h (by simp)) (Holds.nil _) (by have := L2.out; omega) HBR.out).mono ?_
        rintro e w6 ⟨rfl, hb⟩
        have K6 := Lib.hid (K5.out.below hb)
        clear hb k1 k2
        go_wp2_with fail
        refine (KN.out _ K6.out.tab).mono ?_
        rintro e w7 ⟨rfl, hb⟩
        have K7 := Lib.hid (K6.out.below hb)
        clear hb
        go_wp2_with fail
        go_ret
        exact ⟨rfl, K7.out.bel⟩
      | true =>
        have VD := refValid r0 c0
        refine (ref2Valid_h _ ys true _ (K4.out.h (by simp)) hvy).mono ?_
        rintro e w5 ⟨rfl, hb⟩
        have K5 := Lib.hid (K4.out.below hb)
        clear hb
        obtain ⟨k1, k2⟩ := And.intro K5.out.1 K5.out.2.1
        cases hvd : validD r0 c0 with
        | false =>
          have HBR := Lib.hid (show isB (merP (validV ys && validD r0 c0) (raiseV ys (r0, c0))) [] 2 = true from by rw [hvy, hvd]; rfl)
          rw [hvd] at VD
          have HVD := Lib.hid VD
          clear VD hvd hvy
          go_wp2_with fail
          refine (HVD.out _).mono ?_
          rintro e w5' ⟨rfl, hb⟩
          have K5' := Lib.hid (K5.out.below hb)
          clear hb k1 k2
          obtain ⟨k1, k2⟩ := And.intro K5'.out.1 K5'.out.2.1
          go_wp2_with fail
          refine (lawRaised _ _ ys [] r0 c0 2 true _ (K5'.out.h (by simp)) (Holds.nil _) (by have := L2.out; omega) HBR.out).mono ?_
          rintro e w6 ⟨rfl, hb⟩
          have K6 := Lib.hid (K5'.out.below hb)
          clear hb k1 k2
          go_wp2_with fail
          refine (KN.out _ K6.out.tab).mono ?_
          rintro e w7 ⟨rfl, hb⟩
          have K7 := Lib.hid (K6.out.below hb)
          clear hb
          go_wp2_with fail
          go_ret
          exact ⟨rfl, K7.out.bel⟩
        | true =>
          have HBR := Lib.hid (show isB (merP (validV ys && validD r0 c0) (raiseV ys (r0, c0))) (raiseV ys (r0, c0)) 0 = true from by rw [hvy, hvd]; simp [isB, merP])
          rw [hvd] at VD
          have HVD := Lib.hid VD
          clear VD hvd hvy
          go_wp2_with fail
          refine (HVD.out _).mono ?_
          rintro e w5' ⟨rfl, hb⟩
          have K5' := Lib.hid (K5.out.below hb)
          clear hb k1 k2
          have hyb : DotsAt w5' B ys := by
            obtain ⟨A', c', e, h, _⟩ := K5'.out.h (v := .slice B ys.length c') (xs := ys) (by simp)
            cases e; exact h
          go_wp2_with (at_builtin
                       refine wpList_append_sl (o := ⟨some 53, _, _, _, _, _⟩) _ encD 2 rfl (.const (.slice none 0 0)) (.tmp 52) 42 rfl encD_len (by omega) encD_one w5'.heap.size 23 i0 _ 16 Tryd.underlying42 hi0 hz0 hz1 hz2 rfl (.slice none 0 0) [] rfl (World.ownsRow_nil _ _ _ _) B _ c' ys rfl rfl hyb (by simp [maxLen]; have := L2.out; omega) (by simp; have := L2.out; omega) (Nat.le_refl _) ?_
                       intro v4 w6 hown1 hg1 hat1
                       rw [List.nil_append] at hown1
                       have K6 := Lib.hid ((K5'.out.below ((Below.refl _ w5').grown hg1 (Nat.le_refl _) (fun k hk => by cases hk))).push (Holds.of_own hown1))
                       clear hown1 hg1 hat1)
          have hK := K6.out
          have hK' : w6.cell? ⟨w.heap.size, 0, none⟩ = some (.int .i64 r0) ∧ w6.cell? ⟨w.heap.size, 1, none⟩ = some (.int .i64 c0) ∧ w.heap.size < w6.heap.size ∧ Below w.heap.size w w6 ∧ TabOK w6 ∧ ∀ p ∈ [(v4, ys), (v2, xs), (v1, p1), (Value.slice A xs.length c, xs), (Value.slice B ys.length c', ys)], Holds w6 p.1 p.2 := hK
          clear K1 K2 K3 K4 K5 K5'
          go_region_held3 (fun W => W.cell? ⟨w.heap.size, 0, none⟩ = some (.int .i64 r0) ∧ W.cell? ⟨w.heap.size, 1, none⟩ = some (.int .i64 c0) ∧ w.heap.size < W.heap.size ∧ Below w.heap.size w W ∧ TabOK W ∧ ∀ p ∈ [(v4, ys), (v2, xs), (v1, p1), (Value.slice A xs.length c, xs), (Value.slice B ys.length c', ys)], Holds W p.1 p.2)
            (first
              | assumption
              | (exact KV.drew (by assumption)))
            (first
              | (go_at_call 35; refine (ref2Raise_h _ ys r0 c0 _ (KV.h (by assumption) (by simp)) (by have := L2.out; omega)).mono ?_
                 rintro e wa ⟨⟨v3, rfl, hv3⟩, hb1⟩
                 have hS1 := KV.below (by assumption) hb1
                 clear hb1)
              | (go_at_call 34; refine (lawRaised _ _ ys (raiseV ys (r0, c0)) r0 c0 0 true _ (KV.h (by assumption) (by simp)) (by first | exact hv3 | exact hv3.drew) (by have := L2.out; omega) HBR.out).mono ?_
                 rintro e wb ⟨rfl, hb1⟩
                 have hS2 := KV.below (by assumption) hb1
                 clear hb1)
              | (go_at_call 19; refine (same_h _ _ ys ys true _ (KV.h (by assumption) (by simp)) (KV.h (by assumption) (by simp)) (by simp)).mono ?_
                 rintro e wc ⟨rfl, hb1⟩
                 have hS3 := KV.below (by assumption) hb1
                 clear hb1)
              | (go_at_call 25; refine (KN.out _ (KV.tab (by assumption))).mono ?_
                 rintro e wd ⟨rfl, hb1⟩
                 have hS4 := KV.below (by assumption) hb1
                 clear hb1))
          all_goals
            go_wp2_with fail
            go_ret
            exact ⟨rfl, KV.bel hS4⟩
    · have t2 : 40 < (ys.length : Int) := by omega
      go_enter Tryd.func6, Tryd.ntmps6
      go_wp2_with (go_at_call 25; refine (KN.out _ K0.out.tab).mono ?_; rintro e w1 ⟨rfl, hb⟩)
      go_ret
      exact ⟨rfl, below_trans K0.out.bel hb⟩
  · have t1 : 40 < (xs.length : Int) := by omega
    go_enter Tryd.func6, Tryd.ntmps6
    go_wp2_with (go_at_call 25; refine (KN.out _ K0.out.tab).mono ?_; rintro e w1 ⟨rfl, hb⟩)
    go_ret
    exact ⟨rfl, below_trans K0.out.bel hb⟩

end Go.Proofs.YteeigngomleijaaDoor
