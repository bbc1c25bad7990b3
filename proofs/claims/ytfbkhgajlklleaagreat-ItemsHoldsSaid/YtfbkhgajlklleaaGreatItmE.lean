/- The reference of package items: Dots, Remove, With, Put. -/
import Derived.Test.YtfbkhgajlklleaaGreatItmD
namespace Go.Proofs.YtfbkhgajlklleaaGreat
open Go.RowKit

/-- The dots of all items. -/
def dotsI (l : List It) : List (Int × Int) := l.foldl (fun s x => setL (s ++ dotsM x.2)) []
theorem dotsI_snoc (l : List It) (x : It) : dotsI (l ++ [x]) = setL (dotsI l ++ dotsM x.2) := by simp [dotsI, List.foldl_append]
theorem dotsI_fold : ∀ (l : List It) (s : List (Int × Int)), (∀ x ∈ l, x.2.length ≤ 100) → (l.foldl (fun s x => setL (s ++ dotsM x.2)) s).length ≤ s.length + 100 * l.length
  | [], s, _ => by simp
  | x :: r, s, h => by
    have h1 := setL_len (s ++ dotsM x.2)
    have h2 := dotsI_fold r (setL (s ++ dotsM x.2)) fun y hy => h y (List.mem_cons_of_mem _ hy)
    have h3 := h x (by simp)
    rw [List.length_append, dotsM_len] at h1
    rw [List.foldl_cons, List.length_cons]
    omega
theorem dotsI_len (l : List It) (h : ∀ x ∈ l, x.2.length ≤ 100) : (dotsI l).length ≤ 100 * l.length := by
  have := dotsI_fold l [] h
  rw [List.length_nil, Nat.zero_add] at this
  exact this
/-- A value that reads as items. -/
def HoldsX (w : World) (v : Value) (xs : List ItV) : Prop := ∃ A c, v = .slice A xs.length c ∧ ItemsAt w A xs ∧ xs.length ≤ c ∧ c ≤ maxLen
theorem HoldsX.below {w w' : World} {v : Value} {xs : List ItV} (h : HoldsX w v xs) (hb : Below w.heap.size w w') : HoldsX w' v xs := by
  obtain ⟨A, c, rfl, h1, h2, h3⟩ := h
  exact ⟨A, c, rfl, h1.below hb, h2, h3⟩
theorem HoldsX.nil (w : World) : HoldsX w (.slice none 0 0) [] := ⟨none, 0, rfl, ItemsAt.nil _ _, by simp, by simp [maxLen]⟩
/-- Items in a row of the call's own. -/
abbrev RowT (W : World) (B : Nat) (v : Value) (xs : List ItV) : Prop := W.ownsRow B 34 2 v xs.length (cellsOf encIt xs)
theorem HoldsX.of_own {w : World} {B : Nat} {v : Value} {xs : List ItV} (h : RowT w B v xs) (hk : ∀ x ∈ xs, ItOK w x) : HoldsX w v xs := by
  obtain ⟨A, c, rfl, h1, h2, h3⟩ := SlAt.of_own encIt_len h
  exact ⟨A, c, rfl, ⟨h3, hk⟩, h1, h2⟩

set_option maxHeartbeats 400000 in
theorem refDots9 (A : Option Addr) (xs : List ItV) (cap : Nat) (w : World) (hx : ItemsAt w A xs) (hf : Fits xs) :
    Calls Tryz.prog 23 #[.slice A xs.length cap] w fun e w' => (∃ v, e = .returned v ∧ Holds w' v (dotsI (its xs))) ∧ Below w.heap.size w w' := by
  have hm := hf.1
  have HF := Lib.hid hf.2
  have HX := Lib.hid hx
  clear hx hf
  go_enter Tryz.func23, Tryz.ntmps23
  go_wp2_with fail
  go_loopw [3, 4] (fun s3 i wr => ∃ (k : Nat) (v : Value), k ≤ xs.length ∧ v = s3 ∧ i = .int .i64 k ∧ Hid (Below w.heap.size w wr) ∧ Hid (Holds wr v (dotsI ((its xs).take k)))) (fun _ i _ => xs.length - (intOf i).toNat)
  case atStart => exact ⟨0, _, by omega, rfl, rfl, Below.refl _ _, Holds.nil _⟩
  case round =>
    obtain ⟨k, v, hk, rfl, rfl, hb, hs⟩ := hrel
    by_cases hlt : k < xs.length
    · have i0 : (k : Int) < (xs.length : Int) := by omega
      obtain ⟨g, off, x, rfl, hbl, hx1, _, hc0, hc1, hok⟩ := (HX.out.below hb.out).cells (j := k) hlt
      have hxm := HF.out x (List.mem_of_getElem? hx1)
      have hdl : (dotsI ((its xs).take k)).length ≤ 10000 := by
        have h := dotsI_len ((its xs).take k) fun y hy => by
          obtain ⟨z, hz, rfl⟩ := List.mem_map.1 (List.mem_of_mem_take hy)
          exact (HF.out z hz).2
        have h2 : ((its xs).take k).length ≤ k := List.length_take_le _ _
        omega
      have HE := Lib.hid (show dotsI ((its xs).take (k + 1)) = setL (dotsI ((its xs).take k) ++ dotsM x.ms) from by rw [take_step (its_at hx1), dotsI_snoc]; rfl)
      have HD := Lib.hid (refDots x.A x.ms x.c wr hok.1 (by omega))
      have hx100 := hxm.2
      clear hx1 hok hxm
      go_wp2_with fail
      refine HD.out.mono ?_
      rintro e w1 ⟨⟨v1, rfl, hv1⟩, hb1⟩
      have HV1 := Lib.hid hv1
      have HS := Lib.hid (hs.out.below hb1)
      have HB := Lib.hid (below_trans hb.out hb1)
      clear hv1 hb1 hc0 hc1
      have HU := Lib.hid (show Calls Tryz.prog 50 #[v, v1] w1 (fun e w' => (∃ v, e = .returned v ∧ Holds w' v (setL (dotsI ((its xs).take k) ++ dotsM x.ms))) ∧ Below w1.heap.size w1 w') from by
        obtain ⟨A1, c1, rfl, a1, a2, a3⟩ := HS.out
        obtain ⟨A2, c2, rfl, b1, b2, b3⟩ := HV1.out
        exact refUnion A1 A2 _ _ c1 c2 w1 a1 b1 (by rw [dotsM_len]; omega))
      go_wp2_with fail
      refine HU.out.mono ?_
      rintro e w2 ⟨⟨v2, rfl, hv2⟩, hb2⟩
      have HV2 := Lib.hid (show Holds w2 v2 (dotsI ((its xs).take (k + 1))) from by rw [HE.out]; exact hv2)
      have HB2 := Lib.hid (below_trans HB.out hb2)
      clear hv2 hb2
      go_wp2_with fail
      go_roundw
      case rel => exact ⟨k + 1, v2, by omega, rfl, by go_num, HB2, HV2⟩
      case measure => simp [intOf]; omega
    · obtain rfl : k = xs.length := by omega
      have i0 : ¬ (xs.length : Int) < (xs.length : Int) := by omega
      have HS := Lib.hid (show Holds wr v (dotsI (its xs)) from by have := hs.out; rwa [← its_len xs, List.take_length] at this)
      clear hlt hk
      go_wp2_with fail
      go_ret
      exact ⟨⟨_, rfl, HS.out⟩, hb.out⟩

/-- Items without the one with a name. -/
def remX (xs : List ItV) (nm : List UInt8) : List ItV := xs.filter fun x => !(x.nm == nm)
theorem remX_step {xs : List ItV} {nm : List UInt8} {k : Nat} {x : ItV} (hx : xs[k]? = some x) : remX (xs.take (k + 1)) nm = if (x.nm == nm) = true then remX (xs.take k) nm else remX (xs.take k) nm ++ [x] := by
  unfold remX
  rw [take_step hx, List.filter_append]
  by_cases h : (x.nm == nm) = true
  · rw [if_pos h]; simp [h]
  · rw [if_neg h]; simp at h; simp [h]
theorem remX_mem {xs : List ItV} {nm : List UInt8} {x : ItV} (h : x ∈ remX xs nm) : x ∈ xs := (List.mem_filter.1 h).1
theorem remX_len (xs : List ItV) (nm : List UInt8) : (remX xs nm).length ≤ xs.length := List.length_filter_le _ _

set_option maxHeartbeats 4000000 in
theorem refRemove9 (A : Option Addr) (xs : List ItV) (cap : Nat) (nm : List UInt8) (w : World) (hx : ItemsAt w A xs) (hm : xs.length ≤ 100000) :
    Calls Tryz.prog 34 #[.slice A xs.length cap, .string ⟨nm.toArray⟩] w fun e w' => (∃ v, e = .returned v ∧ HoldsX w' v (remX xs nm)) ∧ Below w.heap.size w w' := by
  obtain ⟨ti0, hi0, hz0, hz1, hz2⟩ := info_parts infoIt
  have HX := Lib.hid hx
  clear hx
  go_enter Tryz.func34, Tryz.ntmps34
  go_wp2_with fail
  go_loopw [5, 6] (fun s5 s6 wr => ∃ (k : Nat) (D : Option Addr) (d : Nat) (os : List ItV), k ≤ xs.length ∧ s5 = .slice D os.length d ∧ s6 = .int .i64 k ∧ Hid (os.length ≤ k) ∧ Hid (remX (xs.take k) nm = os) ∧ Hid (RowT wr w.heap.size (.slice D os.length d) os) ∧ Hid (Below w.heap.size w wr)) (fun _ s6 _ => xs.length - (intOf s6).toNat)
  case atStart => exact ⟨0, none, 0, [], by omega, rfl, rfl, Nat.le_refl 0, rfl, World.ownsRow_nil _ _ _ _, Below.refl _ _⟩
  case round =>
    obtain ⟨k, D, d, os, hk, rfl, rfl, hol, hos, HO, HB⟩ := hrel
    by_cases hlt : k < xs.length
    · have i0 : (k : Int) < (xs.length : Int) := by omega
      obtain ⟨g, off, x, rfl, hbl, hx1, _, hc0, hc1, hok⟩ := (HX.out.below HB.out).cells (j := k) hlt
      have hst := remX_step (nm := nm) hx1
      rw [hos.out] at hst
      cases hq : (x.nm == nm) with
      | true =>
        rw [hq, if_pos rfl] at hst
        have HE := Lib.hid hst
        clear hx1 hok hst
        go_wp2_with fail
        go_roundw
        case rel => exact ⟨k + 1, D, d, os, by omega, rfl, by go_num, Nat.le_trans hol.out (Nat.le_succ k), HE, HO, HB⟩
        case measure => simp [intOf]; omega
      | false =>
        rw [hq, if_neg (by simp)] at hst
        have HE := Lib.hid hst
        clear hx1 hok hst
        go_wp2_with (at_builtin; refine wpList_append_sl _ encIt 2 rfl (.tmp 20) (.tmp 25) 22 rfl encIt_len (by omega) encIt_one w.heap.size 34 ti0 _ 40 Tryz.underlying22 hi0 hz0 hz1 hz2 rfl (.slice D os.length d) os rfl (HO.out.alloc _) _ 1 _ [x] rfl rfl (SlAt.litAt encIt_len wr _ rfl _ [x] (by simp [maxLen])) (by simp [maxLen]; have := hol.out; omega) (by simp; have := hol.out; omega) (by have := HB.out.size; simp; omega) ?_; intro v1 w2 hown hg hat; have HB2 := Lib.hid ((HB.out.alloc HB.out.size _).grown hg (by have := HB.out.size; simp; omega) (fun k hk => (HO.out.lt k hk).1)); obtain ⟨D2, d2, rfl, _⟩ := SlAt.of_own encIt_len hown; have HO2 := Lib.hid hown; clear hown hg hat)
        go_roundw
        case rel => exact ⟨k + 1, D2, d2, os ++ [x], by omega, by rw [List.length_append]; rfl, by go_num, (by have := hol.out; show (os ++ [x]).length ≤ k + 1; rw [List.length_append, List.length_singleton]; omega), HE, HO2, HB2⟩
        case measure => simp [intOf]; omega
    · obtain rfl : k = xs.length := by omega
      rw [List.take_length] at hos
      have i0 : ¬ (xs.length : Int) < (xs.length : Int) := by omega
      have HH := Lib.hid (show HoldsX wr (.slice D os.length d) (remX xs nm) from by rw [hos.out]; exact HoldsX.of_own HO.out fun x hx => (HX.out.2 x (remX_mem (nm := nm) (by rw [hos.out]; exact hx))).below HB.out)
      clear hlt hk
      go_wp2_with fail
      go_ret
      exact ⟨⟨_, rfl, HH.out⟩, HB.out⟩

end Go.Proofs.YtfbkhgajlklleaaGreat
