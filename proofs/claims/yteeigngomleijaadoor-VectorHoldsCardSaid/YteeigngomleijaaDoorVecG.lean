/- Package vector: within, Order. -/
import Derived.Test.YteeigngomleijaaDoorVecF
import Derived.Test.YteeigngomleijaaDoorDotJ
namespace Go.Proofs.YteeigngomleijaaDoor
open Go.RowKit Go.Maps

/-- A dot that is valid. -/
abbrev VD : Type := { d : Int × Int // validD d.1 d.2 = true }
instance : Inhabited VD := ⟨⟨(1, 1), by decide⟩⟩
abbrev encV (d : VD) : List Value := encD d.1

set_option maxRecDepth 100000 in
set_option maxHeartbeats 1000000 in
theorem within1 (g mb n : Nat) (l : List (Int × Int)) (D : DataW Unit) (r q : Int) (hv : validD r q = true) (w : World) (h0 : w.cell? ⟨g, 0, none⟩ = some (.map (some mb))) (ho : w.ownsMap Tryd.prog 3 (plainElem Tryd.prog 3) mb n D) (hD : MapIs D l) :
    Calls Tryd.prog 81 #[.agg #[.int .i64 r, .int .i64 q], .pointer (some ⟨g, 0, none⟩)] w fun e w' => e = .returned (.bool (decide (maxC l r 0 < q))) ∧ RowKit.Below w.heap.size w w' := by
  have hvb : 1 ≤ r ∧ r ≤ 65535 ∧ 1 ≤ q ∧ q ≤ 4294967295 := by simpa [validD] using hv
  have hkey : keyOf Tryd.prog 3 (.int .i64 r) = some (.int .i64 r) := keyOf_int_mk Tryd.underlying3 (WalkArith.wf_i64 (by omega))
  have hal : RowKit.Below w.heap.size w (w.alloc (.cells #[.int .i64 r, .int .i64 q] 23)) := (RowKit.Below.refl _ w).alloc (Nat.le_refl _) _
  have hg := World.block_lt_of_cell? w _ h0
  have h1 := (hal.cell (p := ⟨g, 0, none⟩) hg).trans h0
  have HO := Lib.hid ho
  have hval := fun c0 h => hD.val (r := r) (c := c0) h
  generalize maxC l r 0 = mx at hval ⊢
  have HV := Lib.hid hval
  have HAL := Lib.hid hal
  clear hv hD ho hval hal h0
  by_cases hlt : mx < q
  · have hd : decide (mx < q) = true := by simp [hlt]
    rw [hd]
    clear hd
    go_enter Tryd.func81, Tryd.ntmps81
    go_wp2_with (first
      | (at_lookup; refine wpList_lookup_own_int _ rfl _ _ mapT rfl 3 3 .i64 law3 Tryd.underlying83 Tryd.underlying3 (zero3 _) mb _ _ rfl (HO.out.alloc _) _ _ rfl hkey ?_; intro c0 hat hwc; obtain rfl := HV.out _ hat; clear hat hwc)
      | go_in)
    go_ret
    exact ⟨rfl, HAL.out⟩
  · have hd : decide (mx < q) = false := by simp [hlt]
    rw [hd]
    clear hd
    go_enter Tryd.func81, Tryd.ntmps81
    go_wp2_with (first
      | (at_lookup; refine wpList_lookup_own_int _ rfl _ _ mapT rfl 3 3 .i64 law3 Tryd.underlying83 Tryd.underlying3 (zero3 _) mb _ _ rfl (HO.out.alloc _) _ _ rfl hkey ?_; intro c0 hat hwc; obtain rfl := HV.out _ hat; clear hat hwc)
      | go_in)
    go_ret
    exact ⟨rfl, HAL.out⟩

set_option maxHeartbeats 400000 in
theorem indexFNone (A : Option Addr) (cap : Nat) (fv : Value) (w : World) :
    Calls Tryd.prog 91 #[.slice A 0 cap, fv] w fun e w' => e = .returned (.int .i64 (-1)) ∧ RowKit.Below w.heap.size w w' := by
  go_enter Tryd.func91, Tryd.ntmps91
  go_wp2
  refine wp_loop_rounds 1 ?_
  rw [rounds_succ]
  go_wp2
  go_ret
  exact ⟨rfl, RowKit.Below.refl _ _⟩
set_option maxHeartbeats 400000 in
theorem containsFNone (A : Option Addr) (cap : Nat) (fv : Value) (w : World) :
    Calls Tryd.prog 80 #[.slice A 0 cap, fv] w fun e w' => e = .returned (.bool false) ∧ RowKit.Below w.heap.size w w' := by
  have H := Lib.hid (indexFNone A cap fv)
  go_enter Tryd.func80, Tryd.ntmps80
  go_wp2_with fail
  refine (H.out _).mono ?_
  rintro e w1 ⟨rfl, hb⟩
  have HB := Lib.hid hb
  clear hb
  go_wp2
  go_ret
  exact ⟨rfl, HB.out⟩

theorem containsVec (A : Option Addr) (xs : List (Int × Int)) (cap g mb n : Nat) (l : List (Int × Int)) (D : DataW Unit) (w : World) (hx : DotsAt w A xs) (hm : xs.length ≤ maxLen) (hv : ∀ p ∈ xs, validD p.1 p.2 = true)
    (h0 : w.cell? ⟨g, 0, none⟩ = some (.map (some mb))) (ho : w.ownsMap Tryd.prog 3 (plainElem Tryd.prog 3) mb n D) (hD : MapIs D l) :
    Calls Tryd.prog 80 #[.slice A xs.length cap, .func (.func 81) #[] #[.pointer (some ⟨g, 0, none⟩)]] w fun e w' =>
      e = .returned (.bool (xs.any fun d => decide (maxC l d.1 0 < d.2))) ∧ RowKit.Below w.heap.size w w' := by
  unfold maxLen at hm
  rcases Nat.eq_zero_or_pos xs.length with h1 | h1
  · have : xs = [] := List.eq_nil_of_length_eq_zero h1
    subst this
    exact containsFNone A cap _ w
  · obtain ⟨b, off, rfl, hb, hc⟩ := hx h1
    obtain ⟨zs, hz⟩ : ∃ zs : List VD, zs.map (·.1) = xs := ⟨xs.pmap (fun d h => ⟨d, h⟩) hv, by simp [List.map_pmap]⟩
    have hzl : zs.length = xs.length := by rw [← hz]; simp
    have eg : ∀ args w, (callFunc 81 args).run Tryd.prog w = .ok (.enter 81 args) w := enters_of Tryd.func81 (by kernel_rfl) rfl
    have hg := World.block_lt_of_cell? w _ h0
    have hmb := ho.lt
    have hp : PredBelow Tryd.prog 81 #[.pointer (some ⟨g, 0, none⟩)] (fun x : VD => .agg (encV x).toArray) (fun x : VD => decide (maxC l x.1.1 0 < x.1.2)) w := fun W x hW =>
      (within1 g mb n l D x.1.1 x.1.2 x.2 W ((hW.cell (p := ⟨g, 0, none⟩) hg).trans h0) (ho.kept (grown_of_below2 hW none) (by simp)) hD).mono fun e w' ⟨he, hb'⟩ => ⟨he, below_trans hW hb'⟩
    have h := AnyQ.slices_ContainsFunc (α := VD) Tryd.containsVec 2 Tryd.isAgg23 Tryd.sizeOf23 encV (fun x => encD_len x.1) (fun x : VD => decide (maxC l x.1.1 0 < x.1.2)) 81 #[.pointer (some ⟨g, 0, none⟩)] eg b off zs.length cap zs w hp (Nat.le_refl _) (by omega) hb
      (fun j hj i v hi => hc j xs[j]! (by rw [getElem!_pos xs j (by omega)]; exact List.getElem?_eq_getElem (by omega)) i v (by
        have e1 : (zs[j]!).1 = xs[j]! := by
          rw [getElem!_pos zs j hj, getElem!_pos xs j (by omega)]
          simp only [← hz, List.getElem_map]
        rw [← e1]; exact hi))
    rw [List.take_length, hzl] at h
    have e : (zs.any fun x : VD => decide (maxC l x.1.1 0 < x.1.2)) = xs.any fun d => decide (maxC l d.1 0 < d.2) := by rw [← hz, List.any_map]; rfl
    rw [e] at h
    exact h

theorem within_eq {xs ys : List (Int × Int)} (ha : validV xs = true) (hb : validV ys = true) : (!(xs.any fun d => decide (maxC ys d.1 0 < d.2))) = withinV xs ys := by
  obtain ⟨h1, _⟩ := (validV_iff xs).1 ha
  rw [Bool.eq_iff_iff]
  simp only [withinV, Bool.not_eq_true', List.all_eq_true, List.any_eq_false, decide_eq_true_eq, hasV, Bool.and_eq_true]
  constructor
  · intro h p hp
    have := h p hp
    rw [maxC_get hb p.1 0 (by omega)] at this
    have h0 := getV_nonneg ((validV_iff ys).1 hb).1 p.1
    exact ⟨h1 p hp, by omega⟩
  · intro h p hp
    have := (h p hp).2
    rw [maxC_get hb p.1 0 (by omega)]
    have h0 := getV_nonneg ((validV_iff ys).1 hb).1 p.1
    omega

set_option maxRecDepth 100000 in
set_option maxHeartbeats 1000000 in
theorem vecWithin (A B : Option Addr) (xs ys : List (Int × Int)) (c c' : Nat) (w : World) (hx : Holds w (.slice A xs.length c) xs) (hy : Holds w (.slice B ys.length c') ys) (hm : xs.length + ys.length ≤ 100000) (hva : validV xs = true) (hvb : validV ys = true) :
    Calls Tryd.prog 65 #[.slice A xs.length c, .slice B ys.length c'] w fun e w' => e = .returned (.bool (withinV xs ys)) ∧ RowKit.Below w.heap.size w w' := by
  obtain ⟨_, _, e0, hxA, _, _⟩ := id hx
  cases e0
  have he := within_eq hva hvb
  have hcn := vecCounters1 B ys c' w hy (by omega) ((validV_iff ys).1 hvb).1
  have hct := fun (g mb n : Nat) (D : DataW Unit) (W : World) (hW : RowKit.Below w.heap.size w W) h0 ho hD => containsVec A xs c g mb n ys D W (hxA.below hW) (by unfold maxLen; omega) ((validV_iff xs).1 hva).1 h0 ho hD
  generalize (xs.any fun d => decide (maxC ys d.1 0 < d.2)) = bb at he hct
  have HCN := Lib.hid hcn
  have HCT := Lib.hid hct
  have hal : RowKit.Below w.heap.size w (w.alloc (.cells #[.slice B ys.length c'] 33)) := (RowKit.Below.refl _ w).alloc (Nat.le_refl _) _
  have HAL := Lib.hid hal
  clear hcn hct hva hvb hal
  rw [← he]
  clear he
  go_enter Tryd.func65, Tryd.ntmps65
  go_wp2_with fail
  refine HCN.out.mono ?_
  rintro e w1 ⟨rfl, hb1, D, ho, hD⟩
  have hB1 : RowKit.Below w.heap.size w w1 := HAL.out.trans (hb1.mono (by omega))
  have HB1 := Lib.hid hB1
  have HO := Lib.hid ho
  have HD := Lib.hid hD
  have hal2 : RowKit.Below w1.heap.size w1 (w1.alloc (.cells #[.map (some (w.heap.size + 1))] mapT)) := (RowKit.Below.refl _ w1).alloc (Nat.le_refl _) _
  have HAL2 := Lib.hid hal2
  clear hb1 ho hD hB1 hal2
  go_wp2_with fail
  refine (HCT.out _ _ _ D _ (below_trans HB1.out HAL2.out) (by go_simp) (HO.out.alloc _) HD.out).mono ?_
  rintro e w2 ⟨rfl, hb2⟩
  have HB2 := Lib.hid (below_trans (below_trans HB1.out HAL2.out) hb2)
  clear hb2
  go_wp2
  go_ret
  exact ⟨rfl, HB2.out⟩

/-- What Order returns. -/
def OrdR (ok : Bool) (n : Int) (e : Ending) : Prop :=
  (ok = true → e = .returned (.tuple #[.int .i64 n, .int .i64 0])) ∧ (ok = false → e = .returned (.tuple #[.int .i64 0, .int .i64 2]))

set_option maxRecDepth 100000 in
set_option maxHeartbeats 2000000 in
theorem vecOrder (A B : Option Addr) (xs ys : List (Int × Int)) (c c' : Nat) (w : World) (hx : Holds w (.slice A xs.length c) xs) (hy : Holds w (.slice B ys.length c') ys) (hm : xs.length + ys.length ≤ 100000) :
    Calls Tryd.prog 46 #[.slice A xs.length c, .slice B ys.length c'] w fun e w' => OrdR (validV xs && validV ys) (orderV xs ys) e ∧ RowKit.Below w.heap.size w w' := by
  have HX := Lib.hid hx
  have HY := Lib.hid hy
  clear hx hy
  cases hva : validV xs
  · have HVA := Lib.hid hva; clear hva
    go_enter Tryd.func46, Tryd.ntmps46
    go_wp2_with fail
    refine (vecValid_h _ xs false _ HX.out HVA.out).mono ?_
    rintro e w1 ⟨rfl, hb1⟩
    have HB1 := Lib.hid hb1; clear hb1
    go_wp2_with fail
    go_ret2
    exact ⟨⟨fun h => (by simp at h), fun _ => rfl⟩, HB1.out⟩
  · cases hvb : validV ys
    · have HVA := Lib.hid hva; clear hva
      have HVB := Lib.hid hvb; clear hvb
      go_enter Tryd.func46, Tryd.ntmps46
      go_wp2_with fail
      refine (vecValid_h _ xs true _ HX.out HVA.out).mono ?_
      rintro e w1 ⟨rfl, hb1⟩
      have HB1 := Lib.hid hb1; clear hb1
      go_wp2_with fail
      refine (vecValid_h _ ys false _ (HY.out.below HB1.out) HVB.out).mono ?_
      rintro e w2 ⟨rfl, hb2⟩
      have HB2 := Lib.hid (below_trans HB1.out hb2); clear hb2
      go_wp2_with fail
      go_ret2
      exact ⟨⟨fun h => (by simp at h), fun _ => rfl⟩, HB2.out⟩
    · have h1 := fun W (hW : RowKit.Below w.heap.size w W) => vecWithin A B xs ys c c' W (HX.out.below hW) (HY.out.below hW) hm hva hvb
      have h2 := fun W (hW : RowKit.Below w.heap.size w W) => vecWithin B A ys xs c' c W (HY.out.below hW) (HX.out.below hW) (by omega) hvb hva
      have hv : orderV xs ys = if withinV xs ys then (if withinV ys xs then 0 else -1) else if withinV ys xs then 1 else 2 := rfl
      generalize orderV xs ys = v at hv ⊢
      generalize withinV xs ys = p at h1 hv
      generalize withinV ys xs = q at h2 hv
      have H1 := Lib.hid h1; clear h1
      have H2 := Lib.hid h2; clear h2
      have HVA := Lib.hid hva; clear hva
      have HVB := Lib.hid hvb; clear hvb
      cases p <;> cases q
      all_goals
        simp only [Bool.false_eq_true, if_true, if_false] at hv
        subst hv
        go_enter Tryd.func46, Tryd.ntmps46
        go_wp2_with fail
        refine (vecValid_h _ xs true _ HX.out HVA.out).mono ?_
        rintro e w1 ⟨rfl, hb1⟩
        have HB1 := Lib.hid hb1; clear hb1
        go_wp2_with fail
        refine (vecValid_h _ ys true _ (HY.out.below HB1.out) HVB.out).mono ?_
        rintro e w2 ⟨rfl, hb2⟩
        have HB2 := Lib.hid (below_trans HB1.out hb2); clear hb2
        go_wp2_with fail
        refine (H1.out _ HB2.out).mono ?_
        rintro e w3 ⟨rfl, hb3⟩
        have HB3 := Lib.hid (below_trans HB2.out hb3); clear hb3
        go_wp2_with fail
        refine (H2.out _ HB3.out).mono ?_
        rintro e w4 ⟨rfl, hb4⟩
        have HB4 := Lib.hid (below_trans HB3.out hb4); clear hb4
        go_wp2_with fail
        go_ret2
        exact ⟨⟨fun _ => rfl, fun h => (by simp at h)⟩, HB4.out⟩

end Go.Proofs.YteeigngomleijaaDoor
