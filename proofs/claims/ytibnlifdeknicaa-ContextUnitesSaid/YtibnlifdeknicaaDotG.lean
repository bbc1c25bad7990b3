/- Package dot: order, Set. -/
import Derived.Test.YtibnlifdeknicaaDotF
namespace Go.Proofs.Ytibnlifdeknicaa
open Go.RowKit

/-- What order makes of a list. -/
def ordL (xs : List (Int × Int)) : List (Int × Int) := dd (sortedL xs)
theorem ordL_len (xs : List (Int × Int)) : (ordL xs).length ≤ xs.length := by
  have := dd_len (sortedL xs)
  simpa [ordL, sortedL] using this

set_option maxHeartbeats 400000 in
theorem dotOrder (v : Value) (base : Nat) (xs : List (Int × Int)) (w : World) (h : w.ownsRow base 38 2 v xs.length (cellsOf encD xs)) (hm : xs.length ≤ 1000000) :
    Calls Try.prog 80 #[v] w fun e w' => ∃ v', e = .returned v' ∧ w'.ownsRow base 38 2 v' (ordL xs).length (cellsOf encD (ordL xs)) ∧ w.grownBy w' v.ownBlock ∧ v'.ownBlock = v.ownBlock := by
  have hs := sortFunc v base xs w h hm
  have hl : (sortedL xs).length = xs.length := by simp [sortedL]
  have hc := fun W hW => slicesCompact v base (sortedL xs) W hW (by omega)
  have HS := Lib.hid hs
  have HC := Lib.hid hc
  clear hs hc h hl
  go_enter Try.func80, Try.ntmps80
  go_wp2_with fail
  refine HS.out.mono ?_
  rintro e w1 ⟨rfl, ho1, hg1⟩
  have HO := Lib.hid ho1; clear ho1
  go_wp2_with fail
  refine (HC.out _ HO.out).mono ?_
  rintro e w2 ⟨v', rfl, ho2, hg2, hv⟩
  have HO2 := Lib.hid ho2; clear ho2
  have HV := Lib.hid hv; clear hv
  go_wp2
  go_ret
  exact ⟨_, rfl, HO2.out, grown_trans' hg1 hg2, HV.out⟩

/-- A row of the call's own, and all that was there as it was. -/
def Mine (w w' : World) (v : Value) (xs : List (Int × Int)) : Prop := w'.ownsRow w.heap.size 38 2 v xs.length (cellsOf encD xs) ∧ Below w.heap.size w w'
theorem Mine.holds {w w' : World} {v : Value} {xs : List (Int × Int)} (h : Mine w w' v xs) : Holds w' v xs := by
  obtain ⟨A, c, rfl, h1, h2, h3⟩ := SlAt.of_own encD_len h.1
  exact ⟨A, c, rfl, h3, h1, h2⟩

set_option maxHeartbeats 400000 in
theorem slicesClone (A : Option Addr) (xs : List (Int × Int)) (cap : Nat) (w : World) (hx : DotsAt w A xs) (hm : xs.length ≤ 1000000) :
    Calls Try.prog 81 #[.slice A xs.length cap] w fun e w' => ∃ v, e = .returned v ∧ Mine w w' v xs := by
  obtain ⟨i0, hi0, hz0, hz1, hz2⟩ := info_parts infoD
  match A with
  | none =>
    have h0 : xs = [] := by
      cases xs with
      | nil => rfl
      | cons x r => obtain ⟨_, _, h, _⟩ := hx (by simp); cases h
    subst h0
    have hc : Calls Try.prog 81 #[.slice none 0 cap] w _ := AnyE.slices_Clone_nil Try.cloneDots 0 cap w
    refine hc.mono ?_
    rintro e w' ⟨rfl, rfl⟩
    exact ⟨_, rfl, World.ownsRow_nil _ _ _ _, Below.refl _ _⟩
  | some a =>
    have q22 : ∀ (w : World) (a : Option Addr) (n c n' c' : Nat), (binOp .eql 22 (.slice a n c) (.slice none n' c')).run Try.prog w = .ok (.bool a.isNone) w := fun w a n c n' c' => Lib.run_eql_slice_nil w _ _ a n c n' c' Try.underlying22
    go_enter Try.func81, Try.ntmps81
    go_wp2_with (at_builtin; refine wpList_append_sl _ encD 2 rfl (.tmp 5) (.tmp 6) 22 rfl encD_len (by omega) encD_one w.heap.size 38 i0 _ 16 Try.underlying22 hi0 hz0 hz1 hz2 rfl _ [] rfl (World.ownsRow_made w #[] 0 (Nat.le_refl _) (Nat.zero_le _) (by simp)) (some a) _ cap xs rfl rfl (hx.below ((Below.refl _ w).alloc (Nat.le_refl _) _)) (by simp [maxLen]; omega) (by simp; omega) (by simp) ?_; intro v1 w1 hown1 hg1 hat1)
    rw [List.nil_append] at hown1
    have HO := Lib.hid hown1
    clear hown1
    go_wp2
    go_ret
    refine ⟨_, rfl, HO.out, ((Below.refl _ w).alloc (Nat.le_refl _) _).grown hg1 (by simp) ?_⟩
    intro k hk
    have e0 : some w.heap.size = some k := hk
    injection e0 with e
    omega

theorem Mine.step {w w1 w2 : World} {v v' : Value} {xs ys : List (Int × Int)} (h : Mine w w1 v xs) (ho : w2.ownsRow w.heap.size 38 2 v' ys.length (cellsOf encD ys)) (hg : w1.grownBy w2 v.ownBlock) : Mine w w2 v' ys :=
  ⟨ho, h.2.grown hg h.2.size (fun k hk => (h.1.lt k hk).1)⟩

set_option maxHeartbeats 400000 in
theorem dotSet (A : Option Addr) (xs : List (Int × Int)) (cap : Nat) (w : World) (hx : DotsAt w A xs) (hm : xs.length ≤ 1000000) :
    Calls Try.prog 61 #[.slice A xs.length cap] w fun e w' => ∃ v, e = .returned v ∧ Mine w w' v (ordL xs) := by
  have hc := slicesClone A xs cap w hx hm
  have ho := fun v W hW => dotOrder v w.heap.size xs W hW hm
  have HC := Lib.hid hc
  have HR := Lib.hid ho
  clear hc ho
  go_enter Try.func61, Try.ntmps61
  go_wp2_with fail
  refine HC.out.mono ?_
  rintro e w1 ⟨v, rfl, h1⟩
  have H1 := Lib.hid h1; clear h1
  go_wp2_with fail
  refine (HR.out _ _ H1.out.1).mono ?_
  rintro e w2 ⟨v', rfl, ho2, hg2, hv⟩
  have H2 := Lib.hid (H1.out.step ho2 hg2); clear ho2 hg2 hv
  go_wp2
  go_ret
  exact ⟨_, rfl, H2.out⟩

end Go.Proofs.Ytibnlifdeknicaa
