/- Several texts in one: JoiB, JoiC. -/
import Derived.Test.YtiaehpdgpjhecaaGreatQAW
import Derived.Test.YtiaehpdgpjhecaaGreatQAC
import Derived.Test.YtiaehpdgpjhecaaGreatQAM
namespace Go.Proofs.YtiaehpdgpjhecaaGreat

section
open Go.RowKit Go.Sort

instance : Inhabited Hd := ⟨([], Mk.zero)⟩
theorem ordH_or3 (x y : Hd) : or3 (Lib.compareBytes x.1 y.1) (cmpD x.2.r x.2.c y.2.r y.2.c) (cmpN y.2 x.2) = ordH x y := rfl

set_option maxRecDepth 100000 in
set_option maxHeartbeats 4000000 in
theorem joOrder (x y : Hd) (w : World) : Calls Tryz.prog 70 #[mkH x, mkH y] w (OneG (.int .i64 (ordH x y)) w) := by
  obtain ⟨v, hv⟩ : ∃ v, ordH x y = v := ⟨_, rfl⟩
  have h0 := ordH_or3 x y
  rw [hv] at h0 ⊢
  have H1 := Lib.hid fun W => strCompare x.1 y.1 W
  have H2 := Lib.hid fun W => dotCompareG x.2.r x.2.c y.2.r y.2.c W
  have H3 := Lib.hid fun W => qtyCompareG y.2 x.2 W
  generalize Lib.compareBytes x.1 y.1 = p1 at H1 h0
  generalize cmpD x.2.r x.2.c y.2.r y.2.c = p2 at H2 h0
  generalize cmpN y.2 x.2 = p3 at H3 h0
  have HV := Lib.hid h0
  have K := KHo.new w x y
  clear hv h0
  go_enter Tryz.func70, Tryz.ntmps70
  go_wp2_with fail
  generalize hz : w.heap.size = g at K ⊢
  generalize World.alloc (World.alloc w _) _ = w2 at K ⊢
  subst hz
  have hS := K
  have hS' := hS.sp
  clear K
  go_wp2_with fail
  go_region_held3 (fun W => W.cell? ⟨w.heap.size, 0, none⟩ = some (.string ⟨x.1.toArray⟩) ∧ W.cell? ⟨w.heap.size, 1, none⟩ = some (.int .i64 x.2.r) ∧ W.cell? ⟨w.heap.size, 2, none⟩ = some (.int .i64 x.2.c) ∧ W.cell? ⟨w.heap.size, 3, none⟩ = some (.int .i64 x.2.q) ∧ W.cell? ⟨w.heap.size, 4, none⟩ = some (.int .u64 (x.2.t : Int)) ∧
    W.cell? ⟨w.heap.size + 1, 0, none⟩ = some (.string ⟨y.1.toArray⟩) ∧ W.cell? ⟨w.heap.size + 1, 1, none⟩ = some (.int .i64 y.2.r) ∧ W.cell? ⟨w.heap.size + 1, 2, none⟩ = some (.int .i64 y.2.c) ∧ W.cell? ⟨w.heap.size + 1, 3, none⟩ = some (.int .i64 y.2.q) ∧ W.cell? ⟨w.heap.size + 1, 4, none⟩ = some (.int .u64 (y.2.t : Int)) ∧ KHo w x y W)
    (first
      | assumption
      | (exact KHo.sp (by assumption))
      | (exact KHo.sp (KHo.drew (by assumption)))
      | (exact KHo.sp (KHo.alloc (by assumption) _)))
    (first
      | (go_at_call 85; refine (H1.out _).mono ?_
         rintro e wa ⟨rfl, rfl⟩)
      | (go_at_call 115; refine (H2.out _).mono ?_
         rintro e wb ⟨rfl, q2, os2, hw2⟩
         have hS2 : KHo w x y wb := by rw [hw2]; exact KHo.next (by first | assumption | exact KHo.drew (by assumption))
         have hS2' := hS2.sp
         clear hw2)
      | (go_at_call 128; refine (H3.out _).mono ?_
         rintro e wc ⟨rfl, q3, os3, hw3⟩
         have hS3 : KHo w x y wc := by rw [hw3]; exact KHo.next (by first | assumption | exact KHo.drew (by assumption))
         have hS3' := hS3.sp
         clear hw3)
      | (go_at_call 127; refine (cmpOr3 _ _ p1 p2 p3 _ (by go_simp) (by go_simp) (by go_simp)).mono ?_
         rintro e wd ⟨rfl, rfl⟩
         have hSd := KHo.alloc (W := _) (by assumption) (.cells #[.int .i64 p1, .int .i64 p2, .int .i64 p3] 3)))
  all_goals
    have KF := Lib.hid (KHo.fin hSd)
    go_wp2_with fail
    go_ret
    exact ⟨by first | (rw [HV.out]; rfl) | rfl, KF.out⟩

theorem cmpBytes_self : ∀ a : List UInt8, Lib.compareBytes a a = 0
  | [] => rfl
  | a :: r => by
    rw [Lib.compareBytes, if_neg (by simp), if_neg (by simp)]
    exact cmpBytes_self r
theorem cmpBytes_swap : ∀ a b : List UInt8, Lib.compareBytes b a = - Lib.compareBytes a b
  | [], [] => rfl
  | [], _ :: _ => rfl
  | _ :: _, [] => rfl
  | a :: r, b :: s => by
    rw [Lib.compareBytes, Lib.compareBytes]
    by_cases h1 : a < b
    · have h2 : ¬ b < a := fun h => absurd (UInt8.lt_trans h1 h) (by simp)
      rw [if_neg h2, if_pos h1, if_pos h1]; rfl
    · by_cases h2 : b < a
      · rw [if_pos h2, if_neg h1, if_pos h2]
      · rw [if_neg h2, if_neg h1, if_neg h1, if_neg h2]
        exact cmpBytes_swap r s
theorem ltOf_ordH : (ltOf fun a b : Hd => ordH a b) = ltH := by
  funext x y
  simp only [ltOf]
  rw [Bool.eq_iff_iff, decide_eq_true_eq]
  unfold ordH ltH
  have e0 : Lib.compareBytes x.1 y.1 = 0 ↔ x.1 = y.1 := by
    constructor
    · intro h
      have h1 : beforeN x.1 y.1 = false := by
        cases k : beforeN x.1 y.1 with
        | false => rfl
        | true => have := (cmpBytes_neg x.1 y.1).2 k; omega
      have h2 : beforeN y.1 x.1 = false := by
        cases k : beforeN y.1 x.1 with
        | false => rfl
        | true =>
          have := (cmpBytes_neg y.1 x.1).2 k
          have hs := cmpBytes_swap x.1 y.1
          omega
      exact beforeN_total h1 h2
    · intro h; rw [h]; exact cmpBytes_self _
  by_cases h1 : x.1 = y.1
  · have k1 : Lib.compareBytes x.1 y.1 = 0 := e0.2 h1
    have k2 : beforeN x.1 y.1 = false := by rw [h1]; exact beforeN_irrefl _
    rw [if_neg (by simpa using k1), k2]
    simp only [h1, decide_true, Bool.true_and, Bool.false_or]
    by_cases h2 : dotH x = dotH y
    · have k3 : cmpD x.2.r x.2.c y.2.r y.2.c = 0 := (cmpD_zero (p := dotH x) (q := dotH y)).2 h2
      have k4 : ltD (dotH x) (dotH y) = false := by rw [h2]; exact ltD_irrefl _
      rw [if_neg (by simpa using k3), k4]
      simp only [h2, decide_true, Bool.true_and, Bool.false_or]
      exact cmpN_neg _ _
    · have k3 : ¬ cmpD x.2.r x.2.c y.2.r y.2.c = 0 := fun h => h2 ((cmpD_zero (p := dotH x) (q := dotH y)).1 h)
      rw [if_pos k3]
      simp only [h2, decide_false, Bool.false_and, Bool.or_false]
      exact cmpD_neg (p := dotH x) (q := dotH y)
  · have k1 : ¬ Lib.compareBytes x.1 y.1 = 0 := fun h => h1 (e0.1 h)
    rw [if_pos k1]
    simp only [h1, decide_false, Bool.false_and, Bool.or_false]
    exact cmpBytes_neg _ _
theorem ltH_iff {x y : Hd} : ltH x y = true ↔ beforeN x.1 y.1 = true ∨ (x.1 = y.1 ∧ (ltD (dotH x) (dotH y) = true ∨ (dotH x = dotH y ∧ newerN x.2 y.2 = true))) := by
  unfold ltH
  simp
theorem ltH_trans {x y z : Hd} (h1 : ltH x y = true) (h2 : ltH y z = true) : ltH x z = true := by
  rw [ltH_iff] at *
  rcases h1 with h1 | ⟨e1, h1⟩
  · rcases h2 with h2 | ⟨e2, _⟩
    · exact .inl (beforeN_trans h1 h2)
    · exact .inl (by rw [← e2]; exact h1)
  · rcases h2 with h2 | ⟨e2, h2⟩
    · exact .inl (by rw [e1]; exact h2)
    · refine .inr ⟨e1.trans e2, ?_⟩
      rcases h1 with h1 | ⟨d1, h1⟩
      · rcases h2 with h2 | ⟨d2, _⟩
        · exact .inl (ltD_trans h1 h2)
        · exact .inl (by rw [← d2]; exact h1)
      · rcases h2 with h2 | ⟨d2, h2⟩
        · exact .inl (by rw [d1]; exact h2)
        · exact .inr ⟨d1.trans d2, newerN_trans h1 h2⟩
theorem ltH_total {x y : Hd} (h1 : ltH x y = false) (h2 : ltH y x = false) : x = y := by
  obtain ⟨a1, a2⟩ := ltH_no.1 h1
  obtain ⟨b1, b2⟩ := ltH_no.1 h2
  have e := beforeN_total a1 b1
  obtain ⟨c1, c2⟩ := a2 e
  obtain ⟨d1, d2⟩ := b2 e.symm
  have ed := ltD_total _ _ c1 d1
  exact Prod.ext e (newerN_total (c2 ed) (d2 ed.symm))
theorem swoH : SWO ltH where
  irrefl x := ltH_self x
  trans x y z := ltH_trans
  ntrans x y z h1 h2 := by
    cases k : ltH x z with
    | false => rfl
    | true =>
      cases e : ltH y x with
      | true => rw [ltH_trans e k] at h2; cases h2
      | false =>
        have := ltH_total h1 e
        subst this
        rw [k] at h2; cases h2
theorem heldLays (blk off size : Nat) (w : World) : CmpLays Tryz.prog 70 #[] encH 5 (fun a b : Hd => ordH a b) blk off size w :=
  fun _ _ _ _ x y => joOrder x y _

theorem sortHeldF (v : Value) (base : Nat) (xs : List Hd) (w : World) (h : RowH w base v xs) (hm : xs.length ≤ 1000000) :
    Calls Tryz.prog 69 #[v, .func (.func 70) #[] #[]] w fun e w' => e = .returned (.tuple #[]) ∧ ∃ ys : List Hd, ys.Perm xs ∧ ys.Pairwise (fun a b => ltH b a = false) ∧ RowH w' base v ys ∧ w.grownBy w' v.ownBlock := by
  rcases Nat.eq_zero_or_pos xs.length with h0 | h0
  · have hn : xs = [] := List.eq_nil_of_length_eq_zero h0
    subst hn
    obtain ⟨A, c, rfl, _⟩ := SlAt.of_own encH_len h
    have hc := AnyF.slices_SortFunc_none (P := Tryz.prog) (ρ := Tryz.sortHeld_ren) { Tryz.sortHeld with } A c (.func (.func 70) #[] #[]) w
    refine Calls.mono (show Calls Tryz.prog 69 _ _ _ from hc) ?_
    rintro e w' ⟨he, rfl⟩
    exact ⟨he, [], List.Perm.refl _, List.Pairwise.nil, h, World.grownBy.refl _ _⟩
  · obtain ⟨g, cap, rfl, hb, hg⟩ := h.form h0
    have eg : ∀ args w, (callFunc 70 args).run Tryz.prog w = .ok (.enter 70 args) w := enters_of Tryz.func70 (by kernel_rfl) rfl
    have hc := AnyQ.slices_SortFunc Tryz.sortHeld 5 Tryz.isAgg100 Tryz.sizeOf100 encH encH_len encH_one (fun a b : Hd => ordH a b) (by rw [ltOf_ordH]; exact swoH) 70 #[] g 0 cap xs.toArray w eg (heldLays g 0 _ w) (holdsK_of_own encH_len (by omega) h) hg (by simp; omega)
    have hc' : Calls Tryz.prog 69 #[.slice (some ⟨g, 0, none⟩) xs.length cap, .func (.func 70) #[] #[]] w _ := hc
    refine hc'.mono ?_
    rintro e w' ⟨he, d, n, os, hp, hs, rfl⟩
    obtain ⟨k1, k2, k3⟩ := perm_sorted hp hs
    obtain ⟨h1, h2⟩ := own_of_sort (m := n) (os := os) (d := d) encH_len (by omega) h k1
    refine ⟨he, d.toList, k2, ?_, ?_, h2⟩
    · rw [ltOf_ordH] at k3
      exact k3
    · have e1 : d.toList.length = xs.length := by simpa using k1
      show World.ownsRow _ _ _ _ _ d.toList.length _
      exact h1

set_option maxHeartbeats 1000000 in
theorem joSame (x y : Hd) (b : Bool) (w : World) (hb : decide (dotH x = dotH y) = b) : Calls Tryz.prog 72 #[mkH x, mkH y] w (OneB (.bool b) w) := by
  have heq : ∀ w, (binOp .eql 30 (.agg #[.int .i64 x.2.r, .int .i64 x.2.c]) (.agg #[.int .i64 y.2.r, .int .i64 y.2.c])).run Tryz.prog w = .ok (.bool b) w := by
    intro w
    rw [eqlDot, ← hb]
    congr 2
    rw [Bool.eq_iff_iff]
    simp
  clear hb
  go_enter Tryz.func72, Tryz.ntmps72
  go_wp2_with fail
  go_ret
  exact ⟨rfl, ((Below.refl _ _).alloc (Nat.le_refl _) _).alloc (by simp) _⟩

/-- slices.Grow of nil by n: a row of the call's own with nothing in it. -/
theorem growHeld (n : Nat) (w : World) (hn : n ≤ 1000000) :
    Calls Tryz.prog 120 #[.slice none 0 0, .int .i64 n] w fun e w' => ∃ v, e = .returned v ∧ RowH w' w.heap.size v [] ∧ Below w.heap.size w w' := by
  obtain ⟨i0, hi0, hz0, hz1, hz2⟩ := info_parts infoH
  rcases Nat.eq_zero_or_pos n with h0 | h0
  · subst h0
    have hc : Calls Tryz.prog 120 #[.slice none 0 0, .int .i64 ((0 : Nat) : Int)] w _ := Any8.slices_Grow_room Tryz.growHeld none 0 0 0 w (by omega) (by omega) (by omega) (by omega)
    refine hc.mono ?_
    rintro e w' ⟨rfl, rfl⟩
    exact ⟨_, rfl, World.ownsRow_nil _ _ _ _, Below.refl _ _⟩
  · have hc : Calls Tryz.prog 120 #[.slice none 0 0, .int .i64 (n : Int)] w _ := Any8.slices_Grow_grow Tryz.growHeld i0 (.agg #[.string ⟨#[]⟩, .int .i64 0, .int .i64 0, .int .i64 0, .int .u64 0]) hi0 hz0 (by omega) none 0 0 n [] w (by omega) (by omega) (by rw [hz2]; omega) (by omega) (by simp) (fun _ => rfl) (fun a h => by cases h)
    refine hc.mono ?_
    rintro e w' ⟨rfl, rfl⟩
    have hge := grownCap_ge w (0 + n) 0 100
    have hcm := grownCap_le_maxLen w (0 + n) 0 100 (by simp [maxLen]; omega)
    have hct : Tryz.growHeld_ren.t 25 = 100 := rfl
    refine ⟨_, rfl, World.ownsRow_made w.drew _ _ (Nat.le_refl _) hcm ?_, (Below.refl _ w).drew.alloc (Nat.le_refl _) _⟩
    rw [hct]
    simp only [Array.size_append, size_zeroCells, Value.cells]
    generalize grownCap w (0 + n) 0 100 = C at *
    show 0 + (0 + n - 0) * 5 + (C - (0 + n)) * 5 = C * 5
    omega

set_option maxRecDepth 100000 in
set_option maxHeartbeats 1000000 in
theorem concatHeld (A B : Option Addr) (xs ys : List Hd) (b cap c c' : Nat) (w : World) (hx : HeldAt w A xs) (hy : HeldAt w B ys) (hm : xs.length + ys.length ≤ 1000000)
    (h0 : w.cell? ⟨b, 0, none⟩ = some (.slice A xs.length c)) (h1 : w.cell? ⟨b, 1, none⟩ = some (.slice B ys.length c')) :
    Calls Tryz.prog 67 #[.slice (some ⟨b, 0, none⟩) 2 cap] w fun e w' => ∃ v, e = .returned v ∧ RowH w' w.heap.size v (xs ++ ys) ∧ Below w.heap.size w w' := by
  obtain ⟨i0, hi0, hz0, hz1, hz2⟩ := info_parts infoH
  have hbl := World.block_lt_of_cell? w _ h0
  have hg : ∀ W, Calls Tryz.prog 120 #[.slice none 0 0, .int .i64 ((xs.length : Int) + (ys.length : Int))] W fun e w' => ∃ v, e = .returned v ∧ RowH w' W.heap.size v [] ∧ Below W.heap.size W w' := fun W => by
    have := growHeld (xs.length + ys.length) W (by omega)
    rwa [Int.natCast_add] at this
  have HG := Lib.hid hg; clear hg
  go_enter Tryz.func67, Tryz.ntmps67
  go_wp2
  refine wp_loop_rounds 3 ?_
  rw [rounds_succ]
  go_wp2
  rw [rounds_succ]
  go_wp2
  rw [rounds_succ]
  go_wp2_with fail
  refine (HG.out _).mono ?_
  rintro e w1 ⟨v, rfl, hm1⟩
  have k0 := (hm1.2.cell (p := ⟨b, 0, none⟩) hbl).trans h0
  have k1 := (hm1.2.cell (p := ⟨b, 1, none⟩) hbl).trans h1
  have HM := Lib.hid hm1
  have H1 := Lib.hid h1
  clear hm1 h0 h1
  go_wp2
  refine wp_loop_rounds 3 ?_
  rw [rounds_succ]
  go_wp2_with (at_builtin; refine wpList_append_sl (o := ⟨some 33, _, _, _, _, _⟩) _ encH 5 rfl (.tmp 31) (.tmp 32) 97 rfl encH_len (by omega) encH_one w.heap.size 100 i0 _ 48 Tryz.underlying97 hi0 hz0 hz1 hz2 rfl v [] rfl HM.out.1 A _ c xs rfl rfl (hx.below HM.out.2) (by simp [maxLen]; omega) (by simp; omega) HM.out.2.size ?_; intro v2 w2 hown2 hg2 hat2)
  have hm2 : RowH w2 w.heap.size v2 xs ∧ Below w.heap.size w w2 := ⟨by simpa using hown2, HM.out.2.grown hg2 HM.out.2.size (fun k hk => (HM.out.1.lt k hk).1)⟩
  have j1 := (hm2.2.cell (p := ⟨b, 1, none⟩) hbl).trans H1.out
  have HM2 := Lib.hid hm2
  clear hm2 hown2 hg2 hat2 k0 k1 HM
  rw [rounds_succ]
  go_wp2_with (at_builtin; refine wpList_append_sl (o := ⟨some 33, _, _, _, _, _⟩) _ encH 5 rfl (.tmp 31) (.tmp 32) 97 rfl encH_len (by omega) encH_one w.heap.size 100 i0 _ 48 Tryz.underlying97 hi0 hz0 hz1 hz2 rfl v2 xs rfl HM2.out.1 B _ c' ys rfl rfl (hy.below HM2.out.2) (by simp only [maxLen]; omega) (by omega) HM2.out.2.size ?_; intro v3 w3 hown3 hg3 hat3)
  have hm3 : RowH w3 w.heap.size v3 (xs ++ ys) ∧ Below w.heap.size w w3 := ⟨hown3, HM2.out.2.grown hg3 HM2.out.2.size (fun k hk => (HM2.out.1.lt k hk).1)⟩
  have HM3 := Lib.hid hm3
  clear hm3 hown3 hg3 hat3 j1 HM2
  rw [rounds_succ]
  go_wp2
  go_ret
  exact ⟨_, rfl, HM3.out⟩

end

section
open Go.RowKit

theorem own_held {w : World} {base g n cap : Nat} {e : TypeId} {ys : List Hd} (h : w.ownsRow base e 5 (.slice (some ⟨g, 0, none⟩) n cap) n (cellsOf encH ys)) {j : Nat} {x : Hd} (hj : ys[j]? = some x) :
    w.cell? ⟨g, j * 5, none⟩ = some (.string ⟨x.1.toArray⟩) ∧ w.cell? ⟨g, j * 5 + 1, none⟩ = some (.int .i64 x.2.r) ∧ w.cell? ⟨g, j * 5 + 2, none⟩ = some (.int .i64 x.2.c) ∧ w.cell? ⟨g, j * 5 + 3, none⟩ = some (.int .i64 x.2.q) ∧ w.cell? ⟨g, j * 5 + 4, none⟩ = some (.int .u64 (x.2.t : Int)) := by
  have h0 := h.cells (g := g) rfl (j * 5 + 0) _ (cellsOf_at encH_len ys j x 0 _ hj rfl)
  have h1 := h.cells (g := g) rfl (j * 5 + 1) _ (cellsOf_at encH_len ys j x 1 _ hj rfl)
  have h2 := h.cells (g := g) rfl (j * 5 + 2) _ (cellsOf_at encH_len ys j x 2 _ hj rfl)
  have h3 := h.cells (g := g) rfl (j * 5 + 3) _ (cellsOf_at encH_len ys j x 3 _ hj rfl)
  have h4 := h.cells (g := g) rfl (j * 5 + 4) _ (cellsOf_at encH_len ys j x 4 _ hj rfl)
  rw [Addr_add] at h0 h1 h2 h3 h4
  exact ⟨by simpa using h0, by simpa using h1, by simpa using h2, by simpa using h3, by simpa using h4⟩
theorem own_froz {w : World} {base g n cap k : Nat} {e : TypeId} {cs : List Value} (h : w.ownsRow base e k (.slice (some ⟨g, 0, none⟩) n cap) n cs) (i : Nat) : w.frozen? ⟨g, i, none⟩ = false := h.frozenAt _
theorem cells_setH (ys : List Hd) (j : Nat) (x : Hd) (hj : j < ys.length) : (((((cellsOf encH ys).set (j * 5) (.string ⟨x.1.toArray⟩)).set (j * 5 + 1) (.int .i64 x.2.r)).set (j * 5 + 2) (.int .i64 x.2.c)).set (j * 5 + 3) (.int .i64 x.2.q)).set (j * 5 + 4) (.int .u64 (x.2.t : Int)) = cellsOf encH (ys.set j x) := by
  induction ys generalizing j with
  | nil => simp at hj
  | cons y l ih =>
    match j with
    | 0 => simp [cellsOf, encH]
    | j + 1 =>
      have := ih j (by simpa using hj)
      simp only [cellsOf, List.flatMap_cons, List.set_cons_succ] at this ⊢
      rw [← this]
      rw [List.set_append_right _ _ (by simp [encH]; omega), List.set_append_right _ _ (by simp [encH]; omega), List.set_append_right _ _ (by simp [encH]; omega), List.set_append_right _ _ (by simp [encH]; omega), List.set_append_right _ _ (by simp [encH]; omega)]
      simp only [encH_len]
      rw [show (j + 1) * 5 - 5 = j * 5 by omega, show (j + 1) * 5 + 1 - 5 = j * 5 + 1 by omega, show (j + 1) * 5 + 2 - 5 = j * 5 + 2 by omega, show (j + 1) * 5 + 3 - 5 = j * 5 + 3 by omega, show (j + 1) * 5 + 4 - 5 = j * 5 + 4 by omega]
/-- The cells of one, stored. -/
abbrev setH (w : World) (g o : Nat) (x : Hd) : World := ((((w.setCell ⟨g, o, none⟩ (.string ⟨x.1.toArray⟩)).setCell ⟨g, o + 1, none⟩ (.int .i64 x.2.r)).setCell ⟨g, o + 2, none⟩ (.int .i64 x.2.c)).setCell ⟨g, o + 3, none⟩ (.int .i64 x.2.q)).setCell ⟨g, o + 4, none⟩ (.int .u64 (x.2.t : Int))
theorem own_storeH {w : World} {base g n cap : Nat} {e : TypeId} {ys : List Hd} (h : w.ownsRow base e 5 (.slice (some ⟨g, 0, none⟩) n cap) n (cellsOf encH ys)) {j : Nat} {x : Hd} (hj : j < ys.length) :
    (setH w g (j * 5) x).ownsRow base e 5 (.slice (some ⟨g, 0, none⟩) n cap) n (cellsOf encH (ys.set j x)) ∧ w.grownBy (setH w g (j * 5) x) (some g) := by
  obtain ⟨h1, g1⟩ := h.stored (j * 5) (.string ⟨x.1.toArray⟩)
  obtain ⟨h2, g2⟩ := h1.stored (j * 5 + 1) (.int .i64 x.2.r)
  obtain ⟨h3, g3⟩ := h2.stored (j * 5 + 2) (.int .i64 x.2.c)
  obtain ⟨h4, g4⟩ := h3.stored (j * 5 + 3) (.int .i64 x.2.q)
  obtain ⟨h5, g5⟩ := h4.stored (j * 5 + 4) (.int .u64 (x.2.t : Int))
  rw [cells_setH ys j x hj] at h5
  exact ⟨h5, grown_trans' (grown_trans' (grown_trans' (grown_trans' g1 g2) g3) g4) g5⟩

/-- No dot stands twice side by side among the first m + 1. -/
def NoTwiceH (xs : List Hd) (m : Nat) : Prop := ∀ j p q, j < m → xs[j]? = some p → xs[j + 1]? = some q → dotH p ≠ dotH q
theorem NoTwiceH.dd {xs : List Hd} {m : Nat} (h : NoTwiceH xs m) : ddH (xs.take (m + 1)) = xs.take (m + 1) := by
  refine ddH_same _ fun j p q h1 h2 => ?_
  rw [List.getElem?_take] at h1 h2
  split at h1
  · split at h2
    · exact h j p q (by omega) h1 h2
    · cases h2
  · cases h1
theorem NoTwiceH.step {xs : List Hd} {m : Nat} {p q : Hd} (h : NoTwiceH xs m) (hp : xs[m]? = some p) (hq : xs[m + 1]? = some q) (hne : dotH p ≠ dotH q) : NoTwiceH xs (m + 1) := by
  intro j p' q' hj h1 h2
  by_cases e : j = m
  · subst e; rw [hp] at h1; rw [hq] at h2; cases h1; cases h2; exact hne
  · exact h j p' q' (by omega) h1 h2
theorem kept_below {w w' : World} {base n k : Nat} {e : TypeId} {v : Value} {cs : List Value} (h : w.ownsRow base e k v n cs) (hb : Below w.heap.size w w') : w'.ownsRow base e k v n cs :=
  h.kept (grown_of_below hb none) (by cases v.ownBlock <;> simp)

set_option maxRecDepth 100000 in
set_option maxHeartbeats 4000000 in
theorem compactHeld (v : Value) (base : Nat) (xs : List Hd) (w : World) (h : RowH w base v xs) (hm : xs.length ≤ 1000000) :
    Calls Tryz.prog 71 #[v, .func (.func 72) #[] #[]] w fun e w' => ∃ v', e = .returned v' ∧ RowH w' base v' (ddH xs) ∧ w.grownBy w' v.ownBlock := by
  rcases Nat.lt_or_ge xs.length 2 with h0 | h0
  · obtain ⟨A, c, rfl, _⟩ := SlAt.of_own encH_len h
    have hd : ddH xs = xs := ddH_same _ fun j p q h1 h2 => by
      have : j + 1 < xs.length := by
        rcases Nat.lt_or_ge (j + 1) xs.length with h | h
        · exact h
        · rw [List.getElem?_eq_none h] at h2; cases h2
      omega
    rw [hd]
    have H := Lib.hid h
    clear h hd
    go_enter Tryz.func71, Tryz.ntmps71
    go_wp2
    go_ret
    exact ⟨_, rfl, H.out, World.grownBy.refl _ _⟩
  · obtain ⟨g, cap, rfl, hb, hg⟩ := h.form (by omega)
    have hcap : xs.length ≤ cap ∧ cap ≤ maxLen := by
      rcases h.2 with ⟨h1, _⟩ | ⟨g', cap', cur, hv, _, _, hn, hc, _⟩
      · cases h1
      · cases hv; exact ⟨hn, hc⟩
    obtain ⟨hcap1, hcap2⟩ := hcap
    unfold maxLen at hcap2
    have H := Lib.hid h
    clear h
    go_enter Tryz.func71, Tryz.ntmps71
    go_wp2_with fail
    go_loopw [5] (fun i wr => ∃ m : Nat, m + 1 ≤ xs.length ∧ i = .int .i64 ((m : Int) + 1) ∧ Hid (Below w.heap.size w wr) ∧ Hid (NoTwiceH xs m)) (fun i _ => xs.length - (intOf i).toNat)
    case atStart => exact ⟨0, by omega, rfl, Below.refl _ _, fun j p q h => by omega⟩
    case round =>
      obtain ⟨m, hk2, rfl, hw, hs⟩ := hrel
      have hown : wr.ownsRow base 100 5 (.slice (some ⟨g, 0, none⟩) xs.length cap) xs.length (cellsOf encH xs) := kept_below H.out hw.out
      have hgw : g < wr.heap.size := Nat.lt_of_lt_of_le hg hw.out.size
      have HO := Lib.hid hown
      by_cases hlt : m + 1 < xs.length
      · obtain ⟨x, hx1⟩ : ∃ x, xs[m]? = some x := ⟨_, List.getElem?_eq_getElem (by omega)⟩
        obtain ⟨y, hx2⟩ : ∃ x, xs[m + 1]? = some x := ⟨_, List.getElem?_eq_getElem hlt⟩
        obtain ⟨a0, a1, a2, a3, a4⟩ := own_held hown hx1
        obtain ⟨b0, b1, b2, b3, b4⟩ := own_held hown hx2
        have l0 := fun p => cell_far (p := p) hgw a0
        have l1 := fun p => cell_far (p := p) hgw a1
        have l2 := fun p => cell_far (p := p) hgw a2
        have l3 := fun p => cell_far (p := p) hgw a3
        have l4 := fun p => cell_far (p := p) hgw a4
        have m0 := fun p => cell_far (p := p) hgw b0
        have m1 := fun p => cell_far (p := p) hgw b1
        have m2 := fun p => cell_far (p := p) hgw b2
        have m3 := fun p => cell_far (p := p) hgw b3
        have m4 := fun p => cell_far (p := p) hgw b4
        have HX1 := Lib.hid hx1
        have HX2 := Lib.hid hx2
        obtain ⟨q, hq⟩ : ∃ q, decide (dotH y = dotH x) = q := ⟨_, rfl⟩
        have HS := Lib.hid fun W => joSame y x q W hq
        have HQ := Lib.hid hq
        clear hown a0 a1 a2 a3 a4 b0 b1 b2 b3 b4 hx1 hx2 hq
        cases q with
        | true =>
          have hdd : dotH x = dotH y := (of_decide_eq_true HQ.out).symm
          have hP : ddH (xs.take (m + 1)) = xs.take (m + 1) := hs.out.dd
          have hP2 : ddH (xs.take (m + 2)) = ddH (xs.take (m + 1)) := by rw [ddH_step HX1.out HX2.out, if_pos hdd]
          have hlen : (xs.take (m + 1)).length = m + 1 := by simp; omega
          have hst : ∃ P, (P : List Hd).length = m + 1 ∧ P = ddH (xs.take (m + 2)) ∧ P ++ xs.drop P.length = xs := ⟨xs.take (m + 1), hlen, by rw [hP2, hP], by rw [hlen]; exact List.take_append_drop _ _⟩
          have HST := Lib.hid hst
          clear hdd hP hP2 hlen hst
          go_wp2_with fail
          refine wp_region_far (by kernel_rfl) (by kernel_rfl) ?_
          repeat (go_big_quiet_step ((go_at_call 72; exact OneB.far (HS.out _))))
          refine wpQuiet_nil ?_
          rintro _ ⟨p, rfl⟩
          go_wp2_with fail
          have HO2 := Lib.hid (kept_below HO.out (below_far wr p))
          have HG2 := Lib.hid (show w.grownBy (far wr p) (some g) from grown_of_below (below_trans hw.out (below_far wr p)) _)
          generalize far wr p = wo at *
          clear hw HO HX1 HX2 HS HQ hs l0 l1 l2 l3 l4 m0 m1 m2 m3 m4
          go_loopw [5, 7] (fun k i wr => ∃ (P : List Hd) (t : Nat), m + 1 + (t + 1) ≤ xs.length ∧ P.length ≤ m + 1 + t ∧ k = .int .i64 (P.length : Int) ∧ i = .int .i64 ((t : Int) + 1) ∧ Hid (P = ddH (xs.take (m + 1 + (t + 1)))) ∧
              Hid (wr.ownsRow base 100 5 (.slice (some ⟨g, 0, none⟩) xs.length cap) xs.length (cellsOf encH (P ++ xs.drop P.length))) ∧ Hid (w.grownBy wr (some g))) (fun _ i _ => xs.length - (intOf i).toNat)
          case atStart =>
            obtain ⟨P, h1, h2, h3⟩ := HST.out
            exact ⟨P, 0, by omega, by omega, by rw [h1]; rfl, rfl, h2, by rw [h3]; exact HO2, HG2⟩
          case round =>
            clear HST HO2 HG2 hgw
            obtain ⟨P, t, hk1, hk3, rfl, rfl, hP, hown3, hgr3⟩ := hrel
            have hgw : g < wr.heap.size := Nat.lt_of_lt_of_le hg hgr3.out.size
            by_cases hlt2 : m + 1 + (t + 1) < xs.length
            · obtain ⟨x, hxa⟩ : ∃ x, xs[m + 1 + t]? = some x := ⟨_, List.getElem?_eq_getElem (by omega)⟩
              obtain ⟨y, hxb⟩ : ∃ x, xs[m + 1 + (t + 1)]? = some x := ⟨_, List.getElem?_eq_getElem hlt2⟩
              obtain ⟨z, hxp⟩ : ∃ x, xs[P.length]? = some x := ⟨_, List.getElem?_eq_getElem (by omega)⟩
              obtain ⟨a0, a1, a2, a3, a4⟩ := own_held hown3.out (j := m + 1 + t) ((get_tail (by omega)).trans hxa)
              obtain ⟨b0, b1, b2, b3, b4⟩ := own_held hown3.out (j := m + 1 + (t + 1)) ((get_tail (by omega)).trans hxb)
              obtain ⟨c0, c1, c2, c3, c4⟩ := own_held hown3.out (j := P.length) ((get_tail (by omega)).trans hxp)
              have cf := own_froz hown3.out
              rw [Nat.add_mul (m + 1)] at a0 a1 a2 a3 a4 b0 b1 b2 b3 b4
              have l0 := fun p => cell_far (p := p) hgw a0
              have l1 := fun p => cell_far (p := p) hgw a1
              have l2 := fun p => cell_far (p := p) hgw a2
              have l3 := fun p => cell_far (p := p) hgw a3
              have l4 := fun p => cell_far (p := p) hgw a4
              have m0 := fun p => cell_far (p := p) hgw b0
              have m1 := fun p => cell_far (p := p) hgw b1
              have m2 := fun p => cell_far (p := p) hgw b2
              have m3 := fun p => cell_far (p := p) hgw b3
              have m4 := fun p => cell_far (p := p) hgw b4
              have hdd : ddH (xs.take (m + 1 + (t + 1 + 1))) = if dotH x = dotH y then P else P ++ [y] := by
                have := ddH_step (xs := xs) (m := m + 1 + t) hxa hxb
                rw [hP.out]; exact this
              obtain ⟨q, hq⟩ : ∃ q, decide (dotH y = dotH x) = q := ⟨_, rfl⟩
              have HS := Lib.hid fun W => joSame y x q W hq
              have HQ := Lib.hid hq
              have hlt3 : t + 1 < xs.length - (m + 1) := by omega
              have hltP : P.length < xs.length := by omega
              have HDD := Lib.hid hdd
              clear hxa hxb hxp hq hdd
              cases q with
              | true =>
                clear c0 c1 c2 c3 c4 cf
                have HD2 := Lib.hid (show P = ddH (xs.take (m + 1 + (t + 1 + 1))) from by rw [HDD.out, if_pos (of_decide_eq_true HQ.out).symm])
                clear HDD
                go_wp2_with fail
                refine wp_region_far (by kernel_rfl) (by kernel_rfl) ?_
                repeat (go_big_quiet_step ((go_at_call 72; exact OneB.far (HS.out _))))
                refine wpQuiet_nil ?_
                rintro _ ⟨p, rfl⟩
                go_wp2_with fail
                go_roundw
                case rel => exact ⟨P, t + 1, by omega, by omega, rfl, by go_num, HD2, kept_below hown3.out (below_far wr p), grown_trans' hgr3.out (grown_of_below (below_far wr p) _)⟩
                case measure => simp [intOf]; omega
              | false =>
                have HD2 := Lib.hid (show P ++ [y] = ddH (xs.take (m + 1 + (t + 1 + 1))) from by rw [HDD.out, if_neg (fun e => of_decide_eq_false HQ.out e.symm)])
                clear HDD a0 a1 a2 a3 a4
                go_wp2_with fail
                refine wp_region_far (by kernel_rfl) (by kernel_rfl) ?_
                repeat (go_big_quiet_step ((go_at_call 72; exact OneB.far (HS.out _))))
                refine wpQuiet_nil ?_
                rintro _ ⟨p, rfl⟩
                have ho4 := kept_below hown3.out (below_far wr p)
                have hos := own_storeH (x := y) ho4 (j := P.length) (by simp; omega)
                rw [set_tail hltP] at hos
                have HOS := Lib.hid hos
                have HG4 := Lib.hid (grown_trans' hgr3.out (grown_of_below (below_far wr p) (some g)))
                have e0 := cell_far (p := p) hgw c0
                have e1 := cell_far (p := p) hgw c1
                have e2 := cell_far (p := p) hgw c2
                have e3 := cell_far (p := p) hgw c3
                have e4 := cell_far (p := p) hgw c4
                have g0 := cell_far (p := p) hgw b0
                have g1 := cell_far (p := p) hgw b1
                have g2 := cell_far (p := p) hgw b2
                have g3 := cell_far (p := p) hgw b3
                have g4 := cell_far (p := p) hgw b4
                have ff := own_froz ho4
                clear hos ho4 cf l0 l1 l2 l3 l4 m0 m1 m2 m3 m4 c0 c1 c2 c3 c4 b0 b1 b2 b3 b4
                generalize far wr p = wo at *
                go_wp2_with fail
                go_roundw
                case rel => exact ⟨P ++ [y], t + 1, by omega, by simp; omega, by simp, by go_num, HD2, HOS.out.1, grown_trans' HG4.out HOS.out.2⟩
                case measure => simp [intOf]; omega
            · have hPx : P = ddH xs := by rw [hP.out, List.take_of_length_le (by omega)]
              have hltP : P.length < xs.length := by omega
              obtain ⟨w', hcl, ho', hg'⟩ := run_clear_own (P := Tryz.prog) (z := .agg #[.string ⟨#[]⟩, .int .i64 0, .int .i64 0, .int .i64 0, .int .u64 0]) (k := 5) Tryz.underlying97 Tryz.zeroValue100 rfl (by intro u hu; simp [Value.cells] at hu; rcases hu with rfl | rfl | rfl <;> rfl) hown3.out hltP (cap - P.length)
              have hct : (cellsOf encH (P ++ xs.drop P.length)).take (P.length * 5) = cellsOf encH P := by
                rw [show cellsOf encH (P ++ xs.drop P.length) = cellsOf encH P ++ cellsOf encH (xs.drop P.length) by simp [cellsOf], ← cellsOf_length encH_len P, List.take_left]
              rw [hct] at ho'
              have HPX := Lib.hid hPx
              have HO' := Lib.hid ho'
              have hgf := Lib.hid (grown_trans' hgr3.out hg')
              clear hPx ho' hg' hct hown3 hgr3 hP
              have hPc : P.length ≤ cap := by omega
              go_wp2
              go_ret
              exact ⟨_, rfl, by rw [← HPX.out]; exact HO'.out, hgf.out⟩
        | false =>
          have HN := Lib.hid (hs.out.step HX1.out HX2.out (fun e => of_decide_eq_false HQ.out e.symm))
          clear HX1 HX2 HQ HO
          go_wp2_with fail
          refine wp_region_far (by kernel_rfl) (by kernel_rfl) ?_
          repeat (go_big_quiet_step ((go_at_call 72; exact OneB.far (HS.out _))))
          refine wpQuiet_nil ?_
          rintro _ ⟨p, rfl⟩
          go_wp2_with fail
          go_roundw
          case rel => exact ⟨m + 1, by omega, by go_num, below_trans hw.out (below_far wr p), HN⟩
          case measure => simp [intOf]; omega
      · have hd : ddH xs = xs := by
          have := hs.out.dd
          rwa [List.take_of_length_le (by omega)] at this
        have HD := Lib.hid hd
        clear hd hown
        go_wp2
        go_ret
        exact ⟨_, rfl, by rw [HD.out]; exact HO.out, grown_of_below hw.out _⟩

end

end Go.Proofs.YtiaehpdgpjhecaaGreat
