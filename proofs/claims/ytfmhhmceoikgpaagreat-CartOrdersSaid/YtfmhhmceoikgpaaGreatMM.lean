/- Several texts in one: DotG, DotH, DotI, DotK. -/
import Derived.Test.YtfmhhmceoikgpaaGreatML
namespace Go.Proofs.YtfmhhmceoikgpaaGreat

section
open Go.RowKit

/-- What order makes of a list. -/
def ordL (xs : List (Int × Int)) : List (Int × Int) := dd (sortedL xs)
theorem ordL_len (xs : List (Int × Int)) : (ordL xs).length ≤ xs.length := by
  have := dd_len (sortedL xs)
  simpa [ordL, sortedL] using this

set_option maxHeartbeats 400000 in
theorem dotOrder (v : Value) (base : Nat) (xs : List (Int × Int)) (w : World) (h : w.ownsRow base 63 2 v xs.length (cellsOf encD xs)) (hm : xs.length ≤ 1000000) :
    Calls Tryz.prog 119 #[v] w fun e w' => ∃ v', e = .returned v' ∧ w'.ownsRow base 63 2 v' (ordL xs).length (cellsOf encD (ordL xs)) ∧ w.grownBy w' v.ownBlock ∧ v'.ownBlock = v.ownBlock := by
  have hs := sortFunc v base xs w h hm
  have hl : (sortedL xs).length = xs.length := by simp [sortedL]
  have hc := fun W hW => slicesCompact v base (sortedL xs) W hW (by omega)
  have HS := Lib.hid hs
  have HC := Lib.hid hc
  clear hs hc h hl
  go_enter Tryz.func119, Tryz.ntmps119
  go_wp2_with fail
  refine HS.out.mono ?_
  rintro e w1 ⟨rfl, ho1, hg1⟩
  have HO := Lib.hid ho1; clear ho1
  go_wp2_with fail
  refine (HC.out _ HO.out).mono ?_
  rintro e w2 ⟨v', rfl, ho2, hg2, hv⟩
  have HO2 := Lib.hid ho2; clear ho2
  have HV := Lib.hid hv; clear hv
  go_wp2
  go_ret
  exact ⟨_, rfl, HO2.out, grown_trans' hg1 hg2, HV.out⟩

/-- A row of the call's own, and all that was there as it was. -/
def Mine (w w' : World) (v : Value) (xs : List (Int × Int)) : Prop := w'.ownsRow w.heap.size 63 2 v xs.length (cellsOf encD xs) ∧ Below w.heap.size w w'
theorem Mine.holds {w w' : World} {v : Value} {xs : List (Int × Int)} (h : Mine w w' v xs) : Holds w' v xs := by
  obtain ⟨A, c, rfl, h1, h2, h3⟩ := SlAt.of_own encD_len h.1
  exact ⟨A, c, rfl, h3, h1, h2⟩

set_option maxHeartbeats 400000 in
theorem slicesClone (A : Option Addr) (xs : List (Int × Int)) (cap : Nat) (w : World) (hx : DotsAt w A xs) (hm : xs.length ≤ 1000000) :
    Calls Tryz.prog 49 #[.slice A xs.length cap] w fun e w' => ∃ v, e = .returned v ∧ Mine w w' v xs := by
  obtain ⟨i0, hi0, hz0, hz1, hz2⟩ := info_parts infoD
  match A with
  | none =>
    have h0 : xs = [] := by
      cases xs with
      | nil => rfl
      | cons x r => obtain ⟨_, _, h, _⟩ := hx (by simp); cases h
    subst h0
    have hc : Calls Tryz.prog 49 #[.slice none 0 cap] w _ := AnyE.slices_Clone_nil Tryz.cloneDots 0 cap w
    refine hc.mono ?_
    rintro e w' ⟨rfl, rfl⟩
    exact ⟨_, rfl, World.ownsRow_nil _ _ _ _, Below.refl _ _⟩
  | some a =>
    have q22 : ∀ (w : World) (a : Option Addr) (n c n' c' : Nat), (binOp .eql 22 (.slice a n c) (.slice none n' c')).run Tryz.prog w = .ok (.bool a.isNone) w := fun w a n c n' c' => Lib.run_eql_slice_nil w _ _ a n c n' c' Tryz.underlying22
    go_enter Tryz.func49, Tryz.ntmps49
    go_wp2_with (at_builtin; refine wpList_append_sl _ encD 2 rfl (.tmp 5) (.tmp 6) 22 rfl encD_len (by omega) encD_one w.heap.size 63 i0 _ 16 Tryz.underlying22 hi0 hz0 hz1 hz2 rfl _ [] rfl (World.ownsRow_made w #[] 0 (Nat.le_refl _) (Nat.zero_le _) (by simp)) (some a) _ cap xs rfl rfl (hx.below ((Below.refl _ w).alloc (Nat.le_refl _) _)) (by simp [maxLen]; omega) (by simp; omega) (by simp) ?_; intro v1 w1 hown1 hg1 hat1)
    rw [List.nil_append] at hown1
    have HO := Lib.hid hown1
    clear hown1
    go_wp2
    go_ret
    refine ⟨_, rfl, HO.out, ((Below.refl _ w).alloc (Nat.le_refl _) _).grown hg1 (by simp) ?_⟩
    intro k hk
    have e0 : some w.heap.size = some k := hk
    injection e0 with e
    omega

theorem Mine.step {w w1 w2 : World} {v v' : Value} {xs ys : List (Int × Int)} (h : Mine w w1 v xs) (ho : w2.ownsRow w.heap.size 63 2 v' ys.length (cellsOf encD ys)) (hg : w1.grownBy w2 v.ownBlock) : Mine w w2 v' ys :=
  ⟨ho, h.2.grown hg h.2.size (fun k hk => (h.1.lt k hk).1)⟩

set_option maxHeartbeats 400000 in
theorem dotSet (A : Option Addr) (xs : List (Int × Int)) (cap : Nat) (w : World) (hx : DotsAt w A xs) (hm : xs.length ≤ 1000000) :
    Calls Tryz.prog 77 #[.slice A xs.length cap] w fun e w' => ∃ v, e = .returned v ∧ Mine w w' v (ordL xs) := by
  have hc := slicesClone A xs cap w hx hm
  have ho := fun v W hW => dotOrder v w.heap.size xs W hW hm
  have HC := Lib.hid hc
  have HR := Lib.hid ho
  clear hc ho
  go_enter Tryz.func77, Tryz.ntmps77
  go_wp2_with fail
  refine HC.out.mono ?_
  rintro e w1 ⟨v, rfl, h1⟩
  have H1 := Lib.hid h1; clear h1
  go_wp2_with fail
  refine (HR.out _ _ H1.out.1).mono ?_
  rintro e w2 ⟨v', rfl, ho2, hg2, hv⟩
  have H2 := Lib.hid (H1.out.step ho2 hg2); clear ho2 hg2 hv
  go_wp2
  go_ret
  exact ⟨_, rfl, H2.out⟩

end

section
open Go.RowKit

set_option maxRecDepth 100000

/-- slices.Grow of nil by n: a row of the call's own with nothing in it. -/
theorem slicesGrow (n : Nat) (w : World) (hn : n ≤ 2000000) :
    Calls Tryz.prog 177 #[.slice none 0 0, .int .i64 n] w fun e w' => ∃ v, e = .returned v ∧ Mine w w' v [] := by
  obtain ⟨i0, hi0, hz0, hz1, hz2⟩ := info_parts infoD
  rcases Nat.eq_zero_or_pos n with h0 | h0
  · subst h0
    have hc : Calls Tryz.prog 177 #[.slice none 0 0, .int .i64 ((0 : Nat) : Int)] w _ := Any8.slices_Grow_room Tryz.growDots none 0 0 0 w (by omega) (by omega) (by omega) (by omega)
    refine hc.mono ?_
    rintro e w' ⟨rfl, rfl⟩
    exact ⟨_, rfl, World.ownsRow_nil _ _ _ _, Below.refl _ _⟩
  · have hc : Calls Tryz.prog 177 #[.slice none 0 0, .int .i64 (n : Int)] w _ := Any8.slices_Grow_grow Tryz.growDots i0 (.agg #[.int .i64 0, .int .i64 0]) hi0 hz0 (by omega) none 0 0 n [] w (by omega) (by omega) (by rw [hz2]; omega) (by omega) (by simp) (fun _ => rfl) (fun a h => by cases h)
    refine hc.mono ?_
    rintro e w' ⟨rfl, rfl⟩
    have hge := grownCap_ge w (0 + n) 0 63
    have hcm := grownCap_le_maxLen w (0 + n) 0 63 (by simp [maxLen]; omega)
    have hct : Tryz.growDots_ren.t 25 = 63 := rfl
    refine ⟨_, rfl, World.ownsRow_made w.drew _ _ (Nat.le_refl _) hcm ?_, (Below.refl _ w).drew.alloc (Nat.le_refl _) _⟩
    rw [hct]
    simp only [Array.size_append, size_zeroCells, Value.cells]
    generalize grownCap w (0 + n) 0 63 = C at *
    show 0 + (0 + n - 0) * 2 + (C - (0 + n)) * 2 = C * 2
    omega

set_option maxHeartbeats 1000000 in
theorem slicesConcat (A B : Option Addr) (xs ys : List (Int × Int)) (b cap c c' : Nat) (w : World) (hx : DotsAt w A xs) (hy : DotsAt w B ys) (hm : xs.length + ys.length ≤ 1000000)
    (h0 : w.cell? ⟨b, 0, none⟩ = some (.slice A xs.length c)) (h1 : w.cell? ⟨b, 1, none⟩ = some (.slice B ys.length c')) :
    Calls Tryz.prog 147 #[.slice (some ⟨b, 0, none⟩) 2 cap] w fun e w' => ∃ v, e = .returned v ∧ Mine w w' v (xs ++ ys) := by
  obtain ⟨i0, hi0, hz0, hz1, hz2⟩ := info_parts infoD
  have hbl := World.block_lt_of_cell? w _ h0
  have hg : ∀ W, Calls Tryz.prog 177 #[.slice none 0 0, .int .i64 ((xs.length : Int) + (ys.length : Int))] W fun e w' => ∃ v, e = .returned v ∧ Mine W w' v [] := fun W => by
    have := slicesGrow (xs.length + ys.length) W (by omega)
    rwa [Int.natCast_add] at this
  have HG := Lib.hid hg; clear hg
  go_enter Tryz.func147, Tryz.ntmps147
  go_wp2
  refine wp_loop_rounds 3 ?_
  rw [rounds_succ]
  go_wp2
  rw [rounds_succ]
  go_wp2
  rw [rounds_succ]
  go_wp2_with fail
  refine (HG.out _).mono ?_
  rintro e w1 ⟨v, rfl, hm1⟩
  have k0 := (hm1.2.cell (p := ⟨b, 0, none⟩) hbl).trans h0
  have k1 := (hm1.2.cell (p := ⟨b, 1, none⟩) hbl).trans h1
  have HM := Lib.hid hm1
  have H1 := Lib.hid h1
  clear hm1 h0 h1
  go_wp2
  refine wp_loop_rounds 3 ?_
  rw [rounds_succ]
  go_wp2_with (at_builtin; refine wpList_append_sl (o := ⟨some 33, _, _, _, _, _⟩) _ encD 2 rfl (.tmp 31) (.tmp 32) 22 rfl encD_len (by omega) encD_one w.heap.size 63 i0 _ 16 Tryz.underlying22 hi0 hz0 hz1 hz2 rfl v [] rfl HM.out.1 A _ c xs rfl rfl (hx.below HM.out.2) (by simp [maxLen]; omega) (by simp; omega) HM.out.2.size ?_; intro v2 w2 hown2 hg2 hat2)
  have hm2 : Mine w w2 v2 xs := HM.out.step (by simpa using hown2) hg2
  have j1 := (hm2.2.cell (p := ⟨b, 1, none⟩) hbl).trans H1.out
  have HM2 := Lib.hid hm2
  clear hm2 hown2 hg2 hat2 k0 k1 HM
  rw [rounds_succ]
  go_wp2_with (at_builtin; refine wpList_append_sl (o := ⟨some 33, _, _, _, _, _⟩) _ encD 2 rfl (.tmp 31) (.tmp 32) 22 rfl encD_len (by omega) encD_one w.heap.size 63 i0 _ 16 Tryz.underlying22 hi0 hz0 hz1 hz2 rfl v2 xs rfl HM2.out.1 B _ c' ys rfl rfl (hy.below HM2.out.2) (by simp only [maxLen]; omega) (by omega) HM2.out.2.size ?_; intro v3 w3 hown3 hg3 hat3)
  have hm3 : Mine w w3 v3 (xs ++ ys) := HM2.out.step hown3 hg3
  have HM3 := Lib.hid hm3
  clear hm3 hown3 hg3 hat3 j1 HM2
  rw [rounds_succ]
  go_wp2
  go_ret
  exact ⟨_, rfl, HM3.out⟩

theorem Mine.base {w0 w w' : World} {v : Value} {xs : List (Int × Int)} (hb : Below w0.heap.size w0 w) (h : Mine w w' v xs) : Mine w0 w' v xs := by
  refine ⟨⟨h.1.1, ?_⟩, below_trans hb h.2⟩
  rcases h.1.2 with h1 | ⟨g, cap, cur, hv, hg, r⟩
  · exact .inl h1
  · exact .inr ⟨g, cap, cur, hv, Nat.le_trans hb.size hg, r⟩

set_option maxHeartbeats 400000 in
theorem dotUnion (A B : Option Addr) (xs ys : List (Int × Int)) (c c' : Nat) (w : World) (hx : DotsAt w A xs) (hy : DotsAt w B ys) (hm : xs.length + ys.length ≤ 1000000) :
    Calls Tryz.prog 111 #[.slice A xs.length c, .slice B ys.length c'] w fun e w' => ∃ v, e = .returned v ∧ Mine w w' v (ordL (xs ++ ys)) := by
  have hc := fun b cap W hW h0 h1 => slicesConcat A B xs ys b cap c c' W (hx.below hW) (hy.below hW) hm h0 h1
  have ho := fun v base W hW => dotOrder v base (xs ++ ys) W hW (by simpa using hm)
  have HC := Lib.hid hc
  have HR := Lib.hid ho
  clear hc ho
  go_enter Tryz.func111, Tryz.ntmps111
  go_wp2_with fail
  have hb := (Below.refl w.heap.size w).alloc (Nat.le_refl _) (.cells #[.slice A xs.length c, .slice B ys.length c'] 22)
  refine (HC.out _ _ _ hb (by go_simp) (by go_simp)).mono ?_
  rintro e w1 ⟨v, rfl, h1⟩
  have H1 := Lib.hid (h1.base hb); clear h1
  go_wp2_with fail
  refine (HR.out _ _ _ H1.out.1).mono ?_
  rintro e w2 ⟨v', rfl, ho2, hg2, hv⟩
  have H2 := Lib.hid (H1.out.step ho2 hg2); clear ho2 hg2 hv
  go_wp2
  go_ret
  exact ⟨_, rfl, H2.out⟩

end

section
open Go.RowKit

/-- In increasing order, each once. -/
def Inc (s : List (Int × Int)) : Prop := s.Pairwise fun p q => ltD p q = true

theorem ltD_irrefl (p : Int × Int) : ltD p p = false := by simp [ltD, lessD]
theorem cmpD_neg {p q : Int × Int} : cmpD p.1 p.2 q.1 q.2 < 0 ↔ ltD p q = true := by
  unfold cmpD ltD
  cases lessD p.1 p.2 q.1 q.2
  · simp; split <;> simp
  · simp
theorem cmpD_zero {p q : Int × Int} : cmpD p.1 p.2 q.1 q.2 = 0 ↔ p = q := by
  constructor
  · intro h
    refine ltD_total p q ?_ ?_
    · unfold cmpD at h; unfold ltD
      cases h1 : lessD p.1 p.2 q.1 q.2
      · rfl
      · simp [h1] at h
    · unfold cmpD at h; unfold ltD
      cases h1 : lessD q.1 q.2 p.1 p.2
      · rfl
      · simp [h1] at h
        split at h <;> simp at h
  · rintro rfl
    have := ltD_irrefl p
    unfold ltD at this
    simp [cmpD, this]

theorem Inc.get {s : List (Int × Int)} (h : Inc s) {i j : Nat} {p q : Int × Int} (hi : s[i]? = some p) (hj : s[j]? = some q) (hij : i < j) : ltD p q = true := by
  have hil : i < s.length := by
    rcases Nat.lt_or_ge i s.length with h | h
    · exact h
    · rw [List.getElem?_eq_none h] at hi; cases hi
  have hjl : j < s.length := by
    rcases Nat.lt_or_ge j s.length with h | h
    · exact h
    · rw [List.getElem?_eq_none h] at hj; cases hj
  have := List.pairwise_iff_getElem.1 h i j hil hjl hij
  rw [List.getElem?_eq_getElem hil] at hi
  rw [List.getElem?_eq_getElem hjl] at hj
  cases hi; cases hj
  exact this

theorem search_found {s : List (Int × Int)} {d : Int × Int} {i : Nat} (hs : Inc s) (h1 : ∀ j p, j < i → s[j]? = some p → ltD p d = true) (h2 : ∀ j p, i ≤ j → s[j]? = some p → ltD p d = false) :
    d ∈ s ↔ s[i]? = some d := by
  constructor
  · intro hd
    obtain ⟨k, hk⟩ := List.mem_iff_getElem?.1 hd
    rcases Nat.lt_trichotomy k i with h | h | h
    · have := h1 k d h hk
      rw [ltD_irrefl] at this; cases this
    · subst h; exact hk
    · have hil : i < s.length := by
        rcases Nat.lt_or_ge k s.length with h' | h'
        · omega
        · rw [List.getElem?_eq_none h'] at hk; cases hk
      have hi := List.getElem?_eq_getElem hil
      have a := hs.get hi hk h
      have b := h2 i _ (Nat.le_refl _) hi
      rw [a] at b; cases b
  · exact fun h => List.mem_of_getElem? h

theorem ret_two {a b : Bool} {i : Int} (h : a = b) : Ending.returned (.tuple #[.int .i64 i, .bool a]) = .returned (.tuple #[.int .i64 i, .bool b]) := by rw [h]

set_option maxHeartbeats 1000000 in
theorem binarySearch (A : Option Addr) (s : List (Int × Int)) (cap : Nat) (r0 c0 : Int) (w : World) (hx : DotsAt w A s) (hm : s.length ≤ 1000000) (hs : Inc s) :
    Calls Tryz.prog 80 #[.slice A s.length cap, .agg #[.int .i64 r0, .int .i64 c0], .func (.func 60) #[] #[]] w fun e w' =>
      (∃ i : Int, e = .returned (.tuple #[.int .i64 i, .bool (decide ((r0, c0) ∈ s))])) ∧ Below w.heap.size w w' := by
  have HS := Lib.hid hs; clear hs
  go_enter Tryz.func80, Tryz.ntmps80
  go_wp2
  go_loopw [9, 10] (fun i j wr => ∃ a b : Nat, a ≤ b ∧ b ≤ s.length ∧ i = .int .i64 a ∧ j = .int .i64 b ∧ Below (w.heap.size + 1) (w.alloc (.cells #[.int .i64 r0, .int .i64 c0] 63)) wr ∧ Hid (∀ j p, j < a → s[j]? = some p → ltD p (r0, c0) = true) ∧ Hid (∀ j p, b ≤ j → s[j]? = some p → ltD p (r0, c0) = false)) (fun i j _ => (intOf j).toNat - (intOf i).toNat)
  case atStart => exact ⟨0, s.length, by omega, by omega, rfl, rfl, Below.refl _ _, fun j p h => by omega, fun j p h hp => by rw [List.getElem?_eq_none h] at hp; cases hp⟩
  case round =>
    obtain ⟨a, b, hab, hbn, rfl, rfl, hb1, hlo, hhi⟩ := hrel
    have hb : Below w.heap.size w wr := ((Below.refl _ w).alloc (Nat.le_refl _) _).trans (hb1.mono (by omega))
    have hz : w.heap.size + 1 ≤ wr.heap.size := by have := hb1.size; simpa using this
    have k0 := cell_far (w := wr) (a := ⟨w.heap.size, 0, none⟩) (v := .int .i64 r0) (show w.heap.size < wr.heap.size by omega) ((hb1.cell (p := ⟨w.heap.size, 0, none⟩) (by simp)).trans (by simp [World.cell?_alloc_new]))
    have k1 := cell_far (w := wr) (a := ⟨w.heap.size, 1, none⟩) (v := .int .i64 c0) (show w.heap.size < wr.heap.size by omega) ((hb1.cell (p := ⟨w.heap.size, 1, none⟩) (by simp)).trans (by simp [World.cell?_alloc_new]))
    by_cases hlt : a < b
    · obtain ⟨h, hh1, hh2⟩ : ∃ h : Nat, h * 2 ≤ a + b ∧ a + b < h * 2 + 2 := ⟨(a + b) / 2, by omega, by omega⟩
      have he : ((a : Int) + (b : Int)) / 2 = (h : Int) := by omega
      have HE := Lib.hid he; clear he
      obtain ⟨g, off, r, c, rfl, hbl, hx1, hc0, hc1⟩ := (hx.below hb).dot (j := h) (by omega)
      have l0 := fun p => cell_far (p := p) hbl hc0
      have l1 := fun p => cell_far (p := p) hbl hc1
      clear hc0 hc1
      have hr := fun W => dotCompare r c r0 c0 W
      have hneg := cmpD_neg (p := (r, c)) (q := (r0, c0))
      have HX1 := Lib.hid hx1; clear hx1
      generalize hv : cmpD r c r0 c0 = v at hr
      simp only [hv] at hneg
      clear hv
      have HR := Lib.hid hr; clear hr
      cases hq : ltD (r, c) (r0, c0)
      · rw [hq] at hneg
        have hv0 : 0 ≤ v := by
          rcases Int.lt_or_le v 0 with h' | h'
          · exact absurd (hneg.1 h') (by simp)
          · exact h'
        have HQ := Lib.hid hq; clear hq hneg
        go_wp2_with fail
        rw [HE.out]
        refine wp_region_far (by kernel_rfl) (by kernel_rfl) ?_
        repeat (go_big_quiet_step ((go_at_call 60; exact far_of (HR.out _))))
        refine wpQuiet_nil ?_
        rintro _ ⟨p, rfl⟩
        go_wp2
        go_roundw
        case rel =>
          refine ⟨a, h, by omega, by omega, rfl, rfl, hb1.trans ((below_far wr p).mono hz), hlo, (show Hid _ from fun j p hj hp => ?_)⟩
          rcases Nat.lt_or_ge h j with h' | h'
          · have := HS.out.get HX1.out hp h'
            cases hc : ltD p (r0, c0)
            · rfl
            · have := swoD.trans _ _ _ this hc
              rw [HQ.out] at this; cases this
          · obtain rfl : j = h := by omega
            rw [HX1.out] at hp; cases hp
            exact HQ.out
        case measure => simp [intOf]; omega
      · rw [hq] at hneg
        have hv0 : v < 0 := hneg.2 rfl
        have HQ := Lib.hid hq; clear hq hneg
        go_wp2_with fail
        rw [HE.out]
        refine wp_region_far (by kernel_rfl) (by kernel_rfl) ?_
        repeat (go_big_quiet_step ((go_at_call 60; exact far_of (HR.out _))))
        refine wpQuiet_nil ?_
        rintro _ ⟨p, rfl⟩
        go_wp2
        go_roundw
        case rel =>
          refine ⟨h + 1, b, by omega, by omega, by go_num, rfl, hb1.trans ((below_far wr p).mono hz), (show Hid _ from fun j p hj hp => ?_), hhi⟩
          rcases Nat.lt_or_ge j h with h' | h'
          · exact swoD.trans _ _ _ (HS.out.get hp HX1.out h') HQ.out
          · obtain rfl : j = h := by omega
            rw [HX1.out] at hp; cases hp
            exact HQ.out
        case measure => simp [intOf]; omega
    · have hab' : a = b := by omega
      subst hab'
      have hf := search_found HS.out hlo.out hhi.out
      have HF := Lib.hid hf; clear hf
      by_cases hlen : a < s.length
      · obtain ⟨g, off, r, c, rfl, hbl, hx1, hc0, hc1⟩ := (hx.below hb).dot (j := a) hlen
        have l0 := fun p => cell_far (p := p) hbl hc0
        have l1 := fun p => cell_far (p := p) hbl hc1
        clear hc0 hc1
        have hr := fun W => dotCompare r c r0 c0 W
        have hzr := cmpD_zero (p := (r, c)) (q := (r0, c0))
        generalize hv : cmpD r c r0 c0 = v at hr
        simp only [hv] at hzr
        clear hv
        have HR := Lib.hid hr; clear hr
        have HX1 := Lib.hid hx1; clear hx1
        by_cases hv0 : v = 0
        · have hd : decide ((r0, c0) ∈ s) = true := by
            have : (r0, c0) ∈ s := HF.out.2 (by rw [HX1.out, hzr.1 hv0])
            simp [this]
          have HD := Lib.hid hd
          subst hv0
          clear hd hzr
          go_wp2_with fail
          refine wp_region_far (by kernel_rfl) (by kernel_rfl) ?_
          repeat (go_big_quiet_step ((go_at_call 60; exact far_of (HR.out _))))
          refine wpQuiet_nil ?_
          rintro _ ⟨p, rfl⟩
          go_wp2
          go_ret2
          exact ⟨⟨_, ret_two (by simp [HD.out])⟩, hb.trans ((below_far wr p).mono hb.size)⟩
        · have hd : decide ((r0, c0) ∈ s) = false := by
            have : ¬ (r0, c0) ∈ s := fun hm => by
              have := HF.out.1 hm
              rw [HX1.out] at this
              injection this with this
              exact hv0 (hzr.2 this)
            simp [this]
          have hv1 : (v == 0) = false := by simp [hv0]
          have HD := Lib.hid hd
          clear hd hzr hv0
          go_wp2_with fail
          refine wp_region_far (by kernel_rfl) (by kernel_rfl) ?_
          repeat (go_big_quiet_step ((go_at_call 60; exact far_of (HR.out _))))
          refine wpQuiet_nil ?_
          rintro _ ⟨p, rfl⟩
          go_wp2
          go_ret2
          exact ⟨⟨_, ret_two (by simp [HD.out])⟩, hb.trans ((below_far wr p).mono hb.size)⟩
      · have hd : decide ((r0, c0) ∈ s) = false := by
          have : ¬ (r0, c0) ∈ s := fun hm => by
            have := HF.out.1 hm
            rw [List.getElem?_eq_none (by omega)] at this; cases this
          simp [this]
        have hdc : decide ((a : Int) < (s.length : Int)) = false := by simp; omega
        have HD := Lib.hid hd
        clear hd
        go_wp2_with fail
        refine wp_region_far (by kernel_rfl) (by kernel_rfl) ?_
        repeat (go_big_quiet_step ((fail)))
        refine wpQuiet_nil ?_
        rintro _ ⟨p, rfl⟩
        go_wp2
        go_ret2
        exact ⟨⟨_, ret_two (by simp [HD.out])⟩, hb.trans ((below_far wr p).mono hb.size)⟩

end

section
open Go.RowKit

theorem ltD_trans {x y z : Int × Int} (h1 : ltD x y = true) (h2 : ltD y z = true) : ltD x z = true := swoD.trans x y z h1 h2
theorem ltD_tri (x y : Int × Int) : ltD x y = true ∨ x = y ∨ ltD y x = true := by
  cases h1 : ltD x y
  · cases h2 : ltD y x
    · exact .inr (.inl (ltD_total x y h1 h2))
    · exact .inr (.inr rfl)
  · exact .inl rfl

/-- Two increasing lists with the same elements are the same. -/
theorem Inc.ext : ∀ {s t : List (Int × Int)}, Inc s → Inc t → (∀ d, d ∈ s ↔ d ∈ t) → s = t
  | [], [], _, _, _ => rfl
  | [], y :: t, _, _, h => by have := (h y).2 (by simp); simp at this
  | x :: s, [], _, _, h => by have := (h x).1 (by simp); simp at this
  | x :: s, y :: t, hs, ht, h => by
    have hs' := List.pairwise_cons.1 hs
    have ht' := List.pairwise_cons.1 ht
    have hxy : x = y := by
      have h1 := (h x).1 (by simp)
      have h2 := (h y).2 (by simp)
      rcases List.mem_cons.1 h1 with e | h1
      · exact e
      · rcases List.mem_cons.1 h2 with e | h2
        · exact e.symm
        · have a := ltD_trans (ht'.1 x h1) (hs'.1 y h2)
          rw [ltD_irrefl] at a; cases a
    subst hxy
    have : s = t := Inc.ext hs'.2 ht'.2 fun d => by
      have hd := h d
      simp only [List.mem_cons] at hd
      constructor
      · intro hm
        rcases hd.1 (.inr hm) with e | h'
        · subst e; have := hs'.1 d hm; rw [ltD_irrefl] at this; cases this
        · exact h'
      · intro hm
        rcases hd.2 (.inr hm) with e | h'
        · subst e; have := ht'.1 d hm; rw [ltD_irrefl] at this; cases this
        · exact h'
    rw [this]

theorem mem_dd : ∀ (xs : List (Int × Int)) (d : Int × Int), d ∈ dd xs ↔ d ∈ xs
  | [], d => by simp [dd]
  | [_], d => by simp [dd]
  | x :: y :: r, d => by
    rw [dd]
    split
    · rename_i h; subst h; rw [mem_dd (x :: r) d]; simp
    · rw [List.mem_cons, mem_dd (y :: r) d, List.mem_cons (a := d) (b := x)]
theorem inc_dd : ∀ (xs : List (Int × Int)), xs.Pairwise (fun p q => ltD q p = false) → Inc (dd xs)
  | [], _ => by simp [dd, Inc]
  | [_], _ => by simp [dd, Inc]
  | x :: y :: r, h => by
    have h' := List.pairwise_cons.1 h
    have ih := inc_dd (y :: r) h'.2
    rw [dd]
    split
    · exact ih
    · rename_i hne
      refine List.pairwise_cons.2 ⟨fun d hd => ?_, ih⟩
      rw [mem_dd] at hd
      have hxy : ltD x y = true := by
        rcases ltD_tri x y with e | e | e
        · exact e
        · exact absurd e hne
        · have := h'.1 y (by simp); rw [e] at this; cases this
      rcases List.mem_cons.1 hd with e | hd
      · subst e; exact hxy
      · have h2 := (List.pairwise_cons.1 h'.2).1 d hd
        rcases ltD_tri y d with e | e | e
        · exact ltD_trans hxy e
        · subst e; exact hxy
        · rw [e] at h2; cases h2

theorem inc_ordL (xs : List (Int × Int)) : Inc (ordL xs) := by
  refine inc_dd _ ?_
  have := List.pairwise_mergeSort (le := fun x y => !ltD y x) (l := xs) (by
    intro a b c h1 h2
    simp only [Bool.not_eq_true'] at h1 h2 ⊢
    exact swoD.ntrans _ _ _ h2 h1) (by
    intro a b
    cases h1 : ltD a b
    · simp
    · cases h2 : ltD b a
      · simp
      · have := ltD_trans h1 h2; rw [ltD_irrefl] at this; cases this)
  exact this.imp (by intro a b h; simpa using h)
theorem mem_ordL (xs : List (Int × Int)) (d : Int × Int) : d ∈ ordL xs ↔ d ∈ xs := by
  rw [ordL, mem_dd, sortedL, List.mem_mergeSort]

theorem mem_insD (s : List (Int × Int)) (x d : Int × Int) : d ∈ insD s x ↔ d ∈ s ∨ d = x := by
  unfold insD
  split
  · rename_i h
    constructor
    · exact .inl
    · rintro (h' | rfl)
      · exact h'
      · exact h
  · have := congrArg (d ∈ ·) (List.takeWhile_append_dropWhile (p := (ltD · x)) (l := s))
    simp only [List.mem_append, eq_iff_iff] at this
    rw [List.mem_append, List.mem_cons, ← this]
    constructor
    · rintro (h | h | h)
      · exact .inl (.inl h)
      · exact .inr h
      · exact .inl (.inr h)
    · rintro ((h | h) | h)
      · exact .inl h
      · exact .inr (.inr h)
      · exact .inr (.inl h)
theorem mem_foldl_ins : ∀ (l s : List (Int × Int)) (d : Int × Int), d ∈ l.foldl insD s ↔ d ∈ s ∨ d ∈ l
  | [], s, d => by simp
  | x :: l, s, d => by
    rw [List.foldl_cons, mem_foldl_ins l, mem_insD, List.mem_cons, or_assoc]
theorem mem_setL (xs : List (Int × Int)) (d : Int × Int) : d ∈ setL xs ↔ d ∈ xs := by
  rw [setL, mem_foldl_ins]; simp

theorem inc_insD {s : List (Int × Int)} (hs : Inc s) (x : Int × Int) : Inc (insD s x) := by
  unfold insD
  split
  · exact hs
  · rename_i hx
    have hsplit := List.takeWhile_append_dropWhile (p := (ltD · x)) (l := s)
    have hs2 : Inc (s.takeWhile (ltD · x) ++ s.dropWhile (ltD · x)) := by rw [hsplit]; exact hs
    obtain ⟨h1, h2, h3⟩ := List.pairwise_append.1 hs2
    have hd : ∀ d ∈ s.dropWhile (ltD · x), ltD x d = true := by
      cases hdw : s.dropWhile (ltD · x) with
      | nil => intro d hd; simp at hd
      | cons y r =>
        have hy : ltD y x = false := by
          have := List.head?_dropWhile_not (ltD · x) s
          rw [hdw] at this
          simpa using this
        have hyx : ltD x y = true := by
          rcases ltD_tri x y with e | e | e
          · exact e
          · exact absurd (by rw [← hsplit, hdw, e]; simp) hx
          · rw [e] at hy; cases hy
        intro d hd
        rcases List.mem_cons.1 hd with e | hd
        · subst e; exact hyx
        · rw [hdw] at h2
          exact ltD_trans hyx ((List.pairwise_cons.1 h2).1 d hd)
    refine List.pairwise_append.2 ⟨h1, List.pairwise_cons.2 ⟨hd, h2⟩, fun a ha b hb => ?_⟩
    have hax : ltD a x = true := by
      have := List.all_takeWhile (p := (ltD · x)) (l := s)
      rw [List.all_eq_true] at this
      exact this a ha
    rcases List.mem_cons.1 hb with e | hb
    · subst e; exact hax
    · exact h3 a ha b hb
theorem inc_foldl : ∀ (l s : List (Int × Int)), Inc s → Inc (l.foldl insD s)
  | [], _, h => h
  | x :: l, _, h => inc_foldl l _ (inc_insD h x)
theorem inc_setL (xs : List (Int × Int)) : Inc (setL xs) := inc_foldl xs [] (by simp [Inc])

theorem ordL_eq (xs : List (Int × Int)) : ordL xs = setL xs := (inc_ordL xs).ext (inc_setL xs) fun d => by rw [mem_ordL, mem_setL]
theorem setL_congr {xs ys : List (Int × Int)} (h : ∀ d, d ∈ xs ↔ d ∈ ys) : setL xs = setL ys := (inc_setL xs).ext (inc_setL ys) fun d => by rw [mem_setL, mem_setL, h]
theorem Inc.filter {s : List (Int × Int)} (h : Inc s) (p : Int × Int → Bool) : Inc (s.filter p) := List.Pairwise.filter p h
theorem filter_setL (xs : List (Int × Int)) (p : Int × Int → Bool) : (setL xs).filter p = setL (xs.filter p) :=
  ((inc_setL xs).filter p).ext (inc_setL _) fun d => by rw [List.mem_filter, mem_setL, mem_setL, List.mem_filter]

theorem isSetL_iff_inc (s : List (Int × Int)) : isSetL s s.length ↔ Inc s := by
  constructor
  · induction s with
    | nil => intro _; simp [Inc]
    | cons x r ih =>
      intro h
      have hr : Inc r := ih fun j p q hj h1 h2 => h (j + 1) p q (by simp at hj ⊢; omega) (by simpa using h1) (by simpa using h2)
      refine List.pairwise_cons.2 ⟨?_, hr⟩
      cases r with
      | nil => intro d hd; simp at hd
      | cons y t =>
        have hxy : ltD x y = true := h 0 x y (by simp) rfl rfl
        intro d hd
        rcases List.mem_cons.1 hd with e | hd
        · subst e; exact hxy
        · exact ltD_trans hxy ((List.pairwise_cons.1 hr).1 d hd)
  · intro h j p q hj h1 h2
    exact h.get h1 h2 (by omega)
theorem isSetB_inc (s : List (Int × Int)) : isSetB s = true ↔ Inc s := (isSetB_iff s).trans (isSetL_iff_inc s)

end

end Go.Proofs.YtfmhhmceoikgpaaGreat
