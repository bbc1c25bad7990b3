/- Package vector: Merge, Raise, Of. -/
import Derived.Test.YtibnlifdeknicaaVecE
namespace Go.Proofs.Ytibnlifdeknicaa
open Go.RowKit Go.Maps

/-- Two slices in a new block. -/
theorem ListsAt.two {w : World} {A B : Option Addr} {xs ys : List (Int × Int)} {c c' : Nat} (hx : Holds w (.slice A xs.length c) xs) (hy : Holds w (.slice B ys.length c') ys) (t : TypeId) :
    ListsAt (w.alloc (.cells #[.slice A xs.length c, .slice B ys.length c'] t)) w.heap.size [.slice A xs.length c, .slice B ys.length c'] [xs, ys] := by
  have hal : RowKit.Below w.heap.size w (w.alloc (.cells #[.slice A xs.length c, .slice B ys.length c'] t)) := (RowKit.Below.refl _ w).alloc (Nat.le_refl _) _
  refine ⟨by simp, rfl, fun j v hj => ?_⟩
  match j, hj with
  | 0, hj =>
    have e : Value.slice A xs.length c = v := Option.some.inj hj
    subst e
    exact ⟨by go_simp, xs, rfl, hx.below hal⟩
  | 1, hj =>
    have e : Value.slice B ys.length c' = v := Option.some.inj hj
    subst e
    exact ⟨by go_simp, ys, rfl, hy.below hal⟩
  | j + 2, hj => simp at hj
theorem ListsAt.one {w : World} {A : Option Addr} {xs : List (Int × Int)} {c : Nat} (hx : Holds w (.slice A xs.length c) xs) (t : TypeId) :
    ListsAt (w.alloc (.cells #[.slice A xs.length c] t)) w.heap.size [.slice A xs.length c] [xs] := by
  have hal : RowKit.Below w.heap.size w (w.alloc (.cells #[.slice A xs.length c] t)) := (RowKit.Below.refl _ w).alloc (Nat.le_refl _) _
  refine ⟨by simp, rfl, fun j v hj => ?_⟩
  match j, hj with
  | 0, hj =>
    have e : Value.slice A xs.length c = v := Option.some.inj hj
    subst e
    exact ⟨by go_simp, xs, rfl, hx.below hal⟩
  | j + 1, hj => simp at hj

/-- What counters and ordered make together. -/
theorem vecCounters_h (b cap : Nat) (vs : List Value) (ls : List (List (Int × Int))) (w : World) (hL : ListsAt w b vs ls) (hm : ls.flatten.length ≤ 100000) (hn : vs.length ≤ 1000) (hv : ∀ p ∈ ls.flatten, validD p.1 p.2 = true) :
    Calls Try.prog 77 #[.slice (some ⟨b, 0, none⟩) vs.length cap] w fun e w' => e = .returned (.map (some w.heap.size)) ∧ RowKit.Below w.heap.size w w' ∧
      ∀ W, RowKit.Below w'.heap.size w' W → Calls Try.prog 76 #[.map (some w.heap.size)] W fun e w'' => ∃ v, e = .returned v ∧ MineV W w'' v (ofV ls.flatten) :=
  (vecCounters b cap vs ls w hL hm hn hv).mono fun e w' ⟨he, hb, D, ho, hD⟩ => ⟨he, hb, fun W hW => by
    have ho' := ho.kept (grown_of_below2 hW none) (by simp)
    exact vecOrdered w.heap.size _ D ls.flatten W ho' hD hv (Nat.le_trans ho'.size_le hm)⟩

theorem vecCounters2 (A B : Option Addr) (xs ys : List (Int × Int)) (c c' : Nat) (W : World) (h1 : Holds W (.slice A xs.length c) xs) (h2 : Holds W (.slice B ys.length c') ys) (hm : xs.length + ys.length ≤ 100000) (hv : ∀ p ∈ [xs, ys].flatten, validD p.1 p.2 = true) :
    Calls Try.prog 77 #[.slice (some ⟨W.heap.size, 0, none⟩) 2 2] (W.alloc (.cells #[.slice A xs.length c, .slice B ys.length c'] 22)) fun e w' => e = .returned (.map (some (W.heap.size + 1))) ∧ RowKit.Below (W.heap.size + 1) (W.alloc (.cells #[.slice A xs.length c, .slice B ys.length c'] 22)) w' ∧
      ∀ W', RowKit.Below w'.heap.size w' W' → Calls Try.prog 76 #[.map (some (W.heap.size + 1))] W' fun e w'' => ∃ v, e = .returned v ∧ MineV W' w'' v (ofV (xs ++ ys)) := by
  have hfl : [xs, ys].flatten = xs ++ ys := by simp
  have h := vecCounters_h W.heap.size 2 _ _ _ (ListsAt.two h1 h2 22) (by rw [hfl, List.length_append]; exact hm) (by simp) hv
  rw [hfl, World.size_alloc] at h
  exact h
theorem vecCounters1 (A : Option Addr) (xs : List (Int × Int)) (c : Nat) (W : World) (h1 : Holds W (.slice A xs.length c) xs) (hm : xs.length ≤ 100000) (hv : ∀ p ∈ xs, validD p.1 p.2 = true) :
    Calls Try.prog 77 #[.slice (some ⟨W.heap.size, 0, none⟩) 1 1] (W.alloc (.cells #[.slice A xs.length c] 22)) fun e w' => e = .returned (.map (some (W.heap.size + 1))) ∧ RowKit.Below (W.heap.size + 1) (W.alloc (.cells #[.slice A xs.length c] 22)) w' ∧
      ∃ D, w'.ownsMap Try.prog 3 (plainElem Try.prog 3) (W.heap.size + 1) xs.length D ∧ MapIs D xs := by
  have hfl : [xs].flatten = xs := by simp
  have h := vecCounters W.heap.size 1 _ _ _ (ListsAt.one h1 22) (by rw [hfl]; exact hm) (by simp) (by rw [hfl]; exact hv)
  rw [hfl, World.size_alloc] at h
  exact h

/-- What Merge, Raise and Of return. -/
def MerR (ok : Bool) (zs : List (Int × Int)) (w : World) (e : Ending) (w' : World) : Prop :=
  (ok = true → ∃ v, e = .returned (.tuple #[v, .int .i64 0]) ∧ MineV w w' v zs) ∧ (ok = false → e = .returned (.tuple #[.slice none 0 0, .int .i64 2]) ∧ RowKit.Below w.heap.size w w')
theorem MerR.base {ok : Bool} {zs : List (Int × Int)} {w0 w : World} {e : Ending} {w' : World} (hb : RowKit.Below w0.heap.size w0 w) (h : MerR ok zs w e w') : MerR ok zs w0 e w' :=
  ⟨fun h1 => by obtain ⟨v, he, hm⟩ := h.1 h1; exact ⟨v, he, hm.base hb⟩, fun h1 => ⟨(h.2 h1).1, below_trans hb (h.2 h1).2⟩⟩

theorem vecValid_h (v : Value) (xs : List (Int × Int)) (b : Bool) (w : World) (h : Holds w v xs) (hb : validV xs = b) :
    Calls Try.prog 42 #[v] w fun e w' => e = .returned (.bool b) ∧ RowKit.Below w.heap.size w w' := by
  obtain ⟨A, n, rfl, h1, h2, h3⟩ := h
  subst hb
  exact vecValid A xs n w h1 (Nat.le_trans h2 h3)

set_option maxRecDepth 100000 in
set_option maxHeartbeats 2000000 in
theorem vecMerge (A B : Option Addr) (xs ys : List (Int × Int)) (c c' : Nat) (w : World) (hx : Holds w (.slice A xs.length c) xs) (hy : Holds w (.slice B ys.length c') ys) (hm : xs.length + ys.length ≤ 100000) :
    Calls Try.prog 72 #[.slice A xs.length c, .slice B ys.length c'] w fun e w' => MerR (validV xs && validV ys) (mergeV xs ys) w e w' := by
  have HX := Lib.hid hx
  have HY := Lib.hid hy
  clear hx hy
  cases hva : validV xs
  · have HVA := Lib.hid hva; clear hva
    go_enter Try.func72, Try.ntmps72
    go_wp2_with fail
    refine (vecValid_h _ xs false _ HX.out HVA.out).mono ?_
    rintro e w1 ⟨rfl, hb1⟩
    have HB1 := Lib.hid hb1; clear hb1
    go_wp2_with fail
    go_ret2
    exact ⟨fun h => (by simp at h), fun _ => ⟨rfl, HB1.out⟩⟩
  · cases hvb : validV ys
    · have HVA := Lib.hid hva; clear hva
      have HVB := Lib.hid hvb; clear hvb
      go_enter Try.func72, Try.ntmps72
      go_wp2_with fail
      refine (vecValid_h _ xs true _ HX.out HVA.out).mono ?_
      rintro e w1 ⟨rfl, hb1⟩
      have HB1 := Lib.hid hb1; clear hb1
      go_wp2_with fail
      refine (vecValid_h _ ys false _ (HY.out.below HB1.out) HVB.out).mono ?_
      rintro e w2 ⟨rfl, hb2⟩
      have HB2 := Lib.hid (below_trans HB1.out hb2); clear hb2
      go_wp2_with fail
      go_ret2
      exact ⟨fun h => (by simp at h), fun _ => ⟨rfl, HB2.out⟩⟩
    · have hme := merge_of hva hvb
      have hall : ∀ p ∈ [xs, ys].flatten, validD p.1 p.2 = true := fun p hp => by
        simp at hp
        rcases hp with h | h
        · exact ((validV_iff xs).1 hva).1 p h
        · exact ((validV_iff ys).1 hvb).1 p h
      have hfl : [xs, ys].flatten = xs ++ ys := by simp
      have hcn := fun (W : World) (h1 : Holds W (.slice A xs.length c) xs) (h2 : Holds W (.slice B ys.length c') ys) => vecCounters2 A B xs ys c c' W h1 h2 hm hall
      rw [← hme] at hcn
      have HVA := Lib.hid hva; clear hva
      have HVB := Lib.hid hvb; clear hvb
      have HCN := Lib.hid hcn
      clear hme hall hfl hcn
      go_enter Try.func72, Try.ntmps72
      go_wp2_with fail
      refine (vecValid_h _ xs true _ HX.out HVA.out).mono ?_
      rintro e w1 ⟨rfl, hb1⟩
      have HB1 := Lib.hid hb1; clear hb1
      go_wp2_with fail
      refine (vecValid_h _ ys true _ (HY.out.below HB1.out) HVB.out).mono ?_
      rintro e w2 ⟨rfl, hb2⟩
      have HB2 := Lib.hid (below_trans HB1.out hb2); clear hb2
      go_wp2_with fail
      refine (HCN.out w2 (HX.out.below HB2.out) (HY.out.below HB2.out)).mono ?_
      rintro e w3 ⟨rfl, hb3, ho⟩
      have HB3 := Lib.hid ((HB2.out.alloc HB2.out.size _).trans (hb3.mono (by have := HB2.out.size; omega)))
      have HOO := Lib.hid ho
      clear hb3 ho
      go_wp2_with fail
      refine (HOO.out _ (RowKit.Below.refl _ _)).mono ?_
      rintro e w4 ⟨v, rfl, hmv⟩
      have HM := Lib.hid (hmv.base HB3.out)
      clear hmv
      go_wp2_with fail
      go_ret2
      exact ⟨fun _ => ⟨_, rfl, HM.out⟩, fun h => (by simp at h)⟩

theorem vecMerge1 (A : Option Addr) (xs : List (Int × Int)) (c : Nat) (r q : Int) (W : World) (hx : Holds W (.slice A xs.length c) xs) (hm : xs.length ≤ 10000) :
    Calls Try.prog 72 #[.slice A xs.length c, .slice (some ⟨W.heap.size, 0, none⟩) 1 1] (W.alloc (.cells #[.int .i64 r, .int .i64 q] 38)) fun e w' =>
      MerR (validV xs && validD r q) (raiseV xs (r, q)) (W.alloc (.cells #[.int .i64 r, .int .i64 q] 38)) e w' := by
  have hone : Holds (W.alloc (.cells #[.int .i64 r, .int .i64 q] 38)) (.slice (some ⟨W.heap.size, 0, none⟩) [(r, q)].length 1) [(r, q)] :=
    ⟨_, 1, rfl, SlAt.one (heap_alloc_new W _), by simp, by simp [maxLen]⟩
  have h := vecMerge A (some ⟨W.heap.size, 0, none⟩) xs [(r, q)] c 1 (W.alloc (.cells #[.int .i64 r, .int .i64 q] 38)) (hx.below ((RowKit.Below.refl _ W).alloc (Nat.le_refl _) _)) hone (by simp; omega)
  have hv1 : validV [(r, q)] = validD r q := valid_one (r, q)
  have hv2 : mergeV xs [(r, q)] = raiseV xs (r, q) := rfl
  rw [hv1, hv2] at h
  exact h

set_option maxRecDepth 100000 in
set_option maxHeartbeats 2000000 in
theorem vecOf (A : Option Addr) (xs : List (Int × Int)) (c : Nat) (w : World) (hx : Holds w (.slice A xs.length c) xs) (hm : xs.length ≤ 100000) :
    Calls Try.prog 55 #[.slice A xs.length c] w fun e w' => MerR (ofOk xs) (ofV xs) w e w' := by
  have HX := Lib.hid hx
  obtain ⟨_, _, e0, hxA, _, _⟩ := hx
  cases e0
  have HXA := Lib.hid hxA
  clear hxA
  go_enter Try.func55, Try.ntmps55
  go_wp2
  go_loopw [5, 8] (fun _ i wr => ∃ m : Nat, m ≤ xs.length ∧ i = .int .i64 m ∧ RowKit.Below w.heap.size w wr ∧ Hid (ofOk xs = ofOk (xs.drop m))) (fun _ i _ => xs.length - (intOf i).toNat)
  case atStart => exact ⟨0, by omega, rfl, RowKit.Below.refl _ _, by rw [List.drop_zero]; rfl⟩
  case round =>
    obtain ⟨m, hk2, rfl, hb, ho⟩ := hrel
    by_cases hlt : m < xs.length
    · obtain ⟨b, off, r, q, rfl, hbl, hx1, hc0, hc1⟩ := (HXA.out.below hb).dot (j := m) hlt
      have hd : xs.drop m = (r, q) :: xs.drop (m + 1) := by
        obtain ⟨h1, h2⟩ := List.getElem?_eq_some_iff.1 hx1
        rw [← h2]; exact List.drop_eq_getElem_cons h1
      have hg := ho.out
      have hq0 : ofOk ((r, q) :: xs.drop (m + 1)) = (validD r q && ofOk (xs.drop (m + 1))) := by simp [ofOk]
      rw [hd, hq0] at hg
      have hr := fun W => dotValid r q W
      have HB := Lib.hid (hb.alloc hb.size (.cells #[.int .i64 r, .int .i64 q] 38))
      clear hx1 hd hq0 ho
      cases hq : validD r q
      · rw [hq] at hr hg
        have HG := Lib.hid (show ofOk xs = false by simpa using hg); clear hg hq
        have HR := Lib.hid hr; clear hr
        go_wp2_with fail
        refine (HR.out _).mono ?_
        rintro e w1 ⟨rfl, hb1⟩
        have HB2 := Lib.hid (HB.out.trans (hb1.mono HB.out.size)); clear hb1
        go_wp2
        go_ret2
        rw [HG.out]
        exact ⟨fun h => (by cases h), fun _ => ⟨rfl, HB2.out⟩⟩
      · rw [hq] at hr hg
        have HG := Lib.hid (show ofOk xs = ofOk (xs.drop (m + 1)) by simpa using hg); clear hg hq
        have HR := Lib.hid hr; clear hr
        go_wp2_with fail
        refine (HR.out _).mono ?_
        rintro e w1 ⟨rfl, hb1⟩
        have HB2 := Lib.hid (HB.out.trans (hb1.mono HB.out.size)); clear hb1
        go_wp2
        go_roundw
        case rel => exact ⟨m + 1, by omega, by go_num, HB2.out, HG⟩
        case measure => simp [intOf]; omega
    · have hg := ho.out
      rw [List.drop_eq_nil_of_le (by omega)] at hg
      have hok : ofOk xs = true := hg
      have hall : ∀ p ∈ xs, validD p.1 p.2 = true := by simpa [ofOk, List.all_eq_true] using hok
      have HOK := Lib.hid hok
      have HCN := Lib.hid (vecCounters1 A xs c wr (HX.out.below hb) hm hall)
      have HB := Lib.hid hb
      have HAL := Lib.hid hall
      clear hg hok ho hall hb
      go_wp2_with fail
      refine HCN.out.mono ?_
      rintro e w3 ⟨rfl, hb3, D, hoD, hD⟩
      have HB3 := Lib.hid ((HB.out.alloc HB.out.size _).trans (hb3.mono (by have := HB.out.size; omega)))
      have HOO := Lib.hid (vecOrdered _ _ D xs w3 hoD hD HAL.out (Nat.le_trans hoD.size_le hm))
      clear hb3 hoD hD
      go_wp2_with fail
      refine HOO.out.mono ?_
      rintro e w4 ⟨v, rfl, hmv⟩
      have HM := Lib.hid (hmv.base HB3.out)
      clear hmv
      go_wp2_with fail
      go_ret2
      rw [HOK.out]
      exact ⟨fun _ => ⟨_, rfl, HM.out⟩, fun h => (by cases h)⟩

end Go.Proofs.Ytibnlifdeknicaa
