/- The helpers of layer 3's laws: of, con, own, light. -/
import Derived.Test.YtibnlifdeknicaaCtxX
namespace Go.Proofs.Ytibnlifdeknicaa
open Go.RowKit

/-- What the region in of leans on. -/
def KO (w : World) (g k : Nat) (r c : Int) (W : World) : Prop := W.cell? ⟨g, k, none⟩ = some (.int .i64 r) ∧ W.cell? ⟨g, k + 1, none⟩ = some (.int .i64 c) ∧ g < w.heap.size ∧ Below w.heap.size w W
section
variable {w W W' : World} {g k : Nat} {r c : Int}
theorem KO.below (h : KO w g k r c W) (hb : Below w.heap.size w W → Below w.heap.size w W') (hc : ∀ o, W'.cell? ⟨g, o, none⟩ = W.cell? ⟨g, o, none⟩) : KO w g k r c W' := ⟨(hc _).trans h.1, (hc _).trans h.2.1, h.2.2.1, hb h.2.2.2⟩
theorem KO.lt (h : KO w g k r c W) : g < W.heap.size := Nat.lt_of_lt_of_le h.2.2.1 h.2.2.2.size
theorem KO.drew (h : KO w g k r c W) : KO w g k r c W.drew := h.below (fun h => h.drew) fun _ => rfl
theorem KO.alloc (h : KO w g k r c W) (o : Obj) : KO w g k r c (W.alloc o) := h.below (fun hb => hb.alloc hb.size o) fun q => ((Below.refl _ W).alloc (Nat.le_refl _) o).cell (p := ⟨g, q, none⟩) h.lt
theorem KO.size (h : KO w g k r c W) : w.heap.size ≤ W.heap.size := h.2.2.2.size
theorem KO.grown (h : KO w g k r c W) {row : Option Nat} (hg : W.grownBy W' row) (hr : ∀ j, row = some j → w.heap.size ≤ j) : KO w g k r c W' :=
  h.below (fun hb => hb.grown hg hb.size hr) fun q => World.cell?_of_block (a := ⟨g, q, none⟩) (hg.block g h.lt (fun e => by have := hr g e.symm; have := h.2.2.1; omega))
end

set_option maxRecDepth 100000 in
set_option maxHeartbeats 2000000 in
theorem law3Of (g cap n : Nat) (xs : List (Int × Int)) (w : World) (hx : DotsAt w (some ⟨g, 0, none⟩) xs) (hn : n = 2 * xs.length) (hm : xs.length ≤ 1000) :
    Calls Try.prog 41 #[.slice (some ⟨g, 0, none⟩) n cap] w fun e w' => (∃ A c, e = .returned (.slice A xs.length c) ∧ MineV w w' (.slice A xs.length c) xs) ∧ Below w.heap.size w w' := by
  obtain ⟨i0, hi0, hz0, hz1, hz2⟩ := info_parts infoD
  have hn1 : n ≤ 2 * xs.length := by omega
  have hn2 : 2 * xs.length ≤ n := by omega
  clear hn
  go_enter Try.func41, Try.ntmps41
  go_wp2_with fail
  go_loopw [3, 4] (fun v i wr => ∃ (m k : Nat), m ≤ xs.length ∧ k ≤ 2 * m ∧ 2 * m ≤ k ∧ i = .int .i64 k ∧ Hid (wr.ownsRow w.heap.size 38 2 v (xs.take m).length (cellsOf encD (xs.take m))) ∧ Hid (Below w.heap.size w wr)) (fun _ i _ => n - (intOf i).toNat)
  case atStart => exact ⟨0, 0, by omega, by omega, by omega, rfl, World.ownsRow_nil _ _ _ _, Below.refl _ _⟩
  case round =>
    obtain ⟨m, k, hm2, hk1, hk2, rfl, hrow, hbel⟩ := hrel
    by_cases hlt : m < xs.length
    · obtain ⟨g', off, r, c, e0, hgl, hx1, hc0, hc1⟩ := hx.dot (j := m) hlt
      cases e0
      have hek : 0 + m * 2 = k := by omega
      rw [hek] at hc0 hc1
      have K : KO w g k r c wr := ⟨(hbel.out.cell (p := ⟨g, k, none⟩) hgl).trans hc0, (hbel.out.cell (p := ⟨g, k + 1, none⟩) hgl).trans hc1, hgl, hbel.out⟩
      have hts : xs.take (m + 1) = xs.take m ++ [(r, c)] := take_snoc hx1
      have HTS := Lib.hid hts
      have hlen : (xs.take m).length ≤ 1000 := by simp; omega
      have hb1 : (k : Int) + 1 < (n : Int) := by omega
      have b0 : (0 : Int) ≤ (k : Int) := by omega
      have b1 : (k : Int) < (n : Int) := by omega
      have b2 : (0 : Int) ≤ (k : Int) + 1 := by omega
      have b3 : IntKind.i64.wrap ((k : Int) + 1) = (k : Int) + 1 := by simp [IntKind.wrap, IntKind.bits, IntKind.signed]; omega
      have b4 : ((k : Int) + 1).toNat = k + 1 := by omega
      clear hek hc0 hc1 hts hx1
      go_wp2_with fail
      have K' : wr.cell? ⟨g, k, none⟩ = some (.int .i64 r) ∧ wr.cell? ⟨g, k + 1, none⟩ = some (.int .i64 c) ∧ g < w.heap.size ∧ Below w.heap.size w wr := K
      obtain ⟨q0, q1, _⟩ := id K
      go_region_held3 (fun W => W.cell? ⟨g, k, none⟩ = some (.int .i64 r) ∧ W.cell? ⟨g, k + 1, none⟩ = some (.int .i64 c) ∧ g < w.heap.size ∧ Below w.heap.size w W)
        (first
          | assumption
          | (exact KO.drew (by assumption))
          | (exact KO.alloc (by assumption) _)
          | (exact KO.drew (KO.alloc (by assumption) _)))
        (first
          | (refine step_append_sl (o := ⟨some 24, _, _, _, _, _⟩) _ encD 2 (by rfl) (.tmp 12) (.tmp 23) 22 (by rfl) encD_len (by omega) encD_one w.heap.size 38 i0 _ 16 Try.underlying22 hi0 hz0 hz1 hz2 rfl u3 (xs.take m) (by rfl) (by first | exact hrow.out | exact hrow.out.alloc _ | exact (hrow.out.drew).alloc _ | exact (hrow.out.alloc _).drew) _ 1 _ [(r, c)] (by rfl) (by rfl) (SlAt.one (heap_alloc_new _ _)) (by simp [maxLen]; omega) (by simp; omega) (KO.size (by assumption)) ?_
             intro v1 w1 hown1 hg1 hat1
             have hS1 := KO.grown (by assumption) hg1 (fun j hj => (hrow.out.lt j hj).1)))
      all_goals
        rw [← HTS.out] at hown1
        have HO := Lib.hid hown1
        have HB := Lib.hid hS1.2.2.2
        clear hown1 hg1 hat1 hS1
        go_wp2_with fail
        go_roundw
        case rel => exact ⟨m + 1, k + 2, by omega, by omega, by omega, by go_num, HO, HB⟩
        case measure => simp [intOf]; omega
    · have hb1 : ¬ (k : Int) + 1 < (n : Int) := by omega
      have h1 := hrow.out
      rw [List.take_of_length_le (by omega)] at h1
      have H1 := Lib.hid h1
      clear h1
      go_wp2
      go_ret
      obtain ⟨A, c, rfl, _⟩ := SlAt.of_own encD_len H1.out
      exact ⟨⟨A, c, rfl, H1.out, hbel.out⟩, hbel.out⟩

set_option maxRecDepth 100000 in
set_option maxHeartbeats 2000000 in
theorem law3Con (k g cap n : Nat) (xs : List (Int × Int)) (w : World) (hx : DotsAt w (some ⟨g, 0, none⟩) xs) (hg : g < w.heap.size) (hn : n = 2 * xs.length) (h0 : 0 < xs.length) (hk : k ≤ xs.length) (hm : xs.length ≤ 1000) :
    Calls Try.prog 40 #[.int .i64 k, .slice (some ⟨g, 0, none⟩) n cap] w fun e w' => (∃ v, e = .returned v ∧ HoldsC w' v (xs.take k) (xs.drop k)) ∧ Below w.heap.size w w' := by
  have hal : Below w.heap.size w (w.alloc (.cells #[.slice none 0 0, .slice none 0 0] 25)) := (Below.refl _ w).alloc (Nat.le_refl _) _
  have hbx : Blk2 (w.alloc (.cells #[.slice none 0 0, .slice none 0 0] 25)) w.heap.size (.slice none 0 0) (.slice none 0 0) := heap_alloc_new w _
  have HO := Lib.hid (law3Of g cap n xs _ (hx.below hal) hn hm)
  have HAL := Lib.hid hal
  have HBX := Lib.hid hbx
  have b0 : (0 : Int) ≤ (k : Int) := by omega
  have b1 : (k : Int) ≤ (xs.length : Int) := by omega
  clear hal hbx hx hn
  go_enter Try.func40, Try.ntmps40
  go_wp2_with fail
  refine HO.out.mono ?_
  rintro e w1 ⟨⟨A, c, rfl, hv⟩, hb1⟩
  have hf := Joins.ownsRow_form hv.1 h0
  obtain ⟨b, c', hf⟩ := hf
  cases hf
  have hv0 := hv.holds
  obtain ⟨A', c', e, hat, hc1, _⟩ := id hv0
  cases e
  have b2 : (k : Int) ≤ (c : Int) := by omega
  have b3 : (xs.length : Int) ≤ (c : Int) := by omega
  have y1 := HBX.out.below hb1
  have d0 := y1.cell0
  have d1 := y1.cell1
  have f0 := y1.frozen 0
  have f1 := y1.frozen 1
  have HV := Lib.hid hv0
  have B1 := Lib.hid (below_trans HAL.out hb1)
  have Y1 := Lib.hid y1
  clear hv hv0 hat hb1 y1
  by_cases hck : c = k
  · subst hck
    obtain rfl : c = xs.length := by omega
    go_wp2_with fail
    go_region
    go_wp2_with fail
    obtain ⟨A', c', e, hat, hc1', hcm⟩ := id HV.out
    cases e
    have h1 : Holds w1 (.slice (some ⟨b, 0, none⟩) xs.length xs.length) (xs.take xs.length) := by rw [List.take_length]; exact HV.out
    have h2 : Holds w1 (.slice (some ⟨b, 0, none⟩) 0 0) (xs.drop xs.length) := by rw [List.drop_length]; exact ⟨_, 0, rfl, SlAt.nil, Nat.le_refl _, by simp [maxLen]⟩
    have hs := Y1.out.set (.slice (some ⟨b, 0, none⟩) xs.length xs.length) (.slice (some ⟨b, 0, none⟩) 0 0)
    have s6 := hs.cell0
    have s7 := hs.cell1
    refine bodyPost_ret (v := .agg #[.slice (some ⟨b, 0, none⟩) xs.length xs.length, .slice (some ⟨b, 0, none⟩) 0 0]) (by simp [results, Try.results40, go_sem, s6, s7]) rfl ⟨⟨_, rfl, ?_⟩, (below_set2 B1.out (Nat.le_refl _) _ _).drew⟩
    exact HoldsC.below (HoldsC.mk (h1.set2 Y1.out (by intro z; simp) (by intro z; simp)) (h2.set2 Y1.out (by intro z; simp) (by intro z; simp))) (Below.refl _ _).drew
  · go_wp2_with fail
    go_region
    go_wp2_with fail
    obtain ⟨A', c', e, hat, hc1', hcm⟩ := id HV.out
    cases e
    have h1 : Holds w1 (.slice (some ⟨b, 0, none⟩) k c) (xs.take k) := ⟨_, c, by rw [List.length_take, Nat.min_eq_left hk], hat.take k, by rw [List.length_take]; omega, hcm⟩
    have hcut := hat.cut k c hc1'
    rw [if_neg hck] at hcut
    simp only [Option.map_some, Addr_add, Nat.zero_add] at hcut
    have h2 : Holds w1 (.slice (some ⟨b, k * 2, none⟩) (xs.length - k) (c - k)) (xs.drop k) := ⟨_, c - k, by rw [List.length_drop], hcut, by rw [List.length_drop]; omega, by omega⟩
    have hs := Y1.out.set (.slice (some ⟨b, 0, none⟩) k c) (.slice (some ⟨b, k * 2, none⟩) (xs.length - k) (c - k))
    have s6 := hs.cell0
    have s7 := hs.cell1
    refine bodyPost_ret (v := .agg #[.slice (some ⟨b, 0, none⟩) k c, .slice (some ⟨b, k * 2, none⟩) (xs.length - k) (c - k)]) (by simp [results, Try.results40, go_sem, s6, s7]) rfl ⟨⟨_, rfl, ?_⟩, (below_set2 B1.out (Nat.le_refl _) _ _).drew⟩
    exact HoldsC.below (HoldsC.mk (h1.set2 Y1.out (by intro z; simp) (by intro z; simp)) (h2.set2 Y1.out (by intro z; simp) (by intro z; simp))) (Below.refl _ _).drew

theorem KC1.dots {w0 W : World} {g : Nat} {x y : Value} {L : List (Value × List (Int × Int))} (h : KC1 w0 g x y L W) {A : Option Addr} {n : Nat} {xs : List (Int × Int)} (hm : (Value.slice A xs.length n, xs) ∈ L) : DotsAt W A xs := by
  obtain ⟨A', c', e, h, _⟩ := h.h hm
  cases e
  exact h
theorem below_of_grown_none {W W' : World} (h : W.grownBy W' none) : Below W.heap.size W W' := (Below.refl _ W).grown h (Nat.le_refl _) (fun j e => by cases e)

set_option maxRecDepth 100000 in
set_option maxHeartbeats 4000000 in
theorem law3Own (v : Value) (vs ls : List (Int × Int)) (w : World) (h : HoldsC w v vs ls) (hm : vs.length + ls.length ≤ 1000) :
    Calls Try.prog 19 #[v] w fun e w' => (∃ A n B m, e = .returned (.agg #[.slice A vs.length n, .slice B ls.length m]) ∧ MineV w w' (.slice A vs.length n) vs ∧ MineV w w' (.slice B ls.length m) ls) ∧ Below w.heap.size w w' := by
  obtain ⟨i0, hi0, hz0, hz1, hz2⟩ := info_parts infoD
  obtain ⟨A, n, B, k, rfl, h1, h2⟩ := h
  have hal : Below w.heap.size w ((w.alloc (.cells #[.slice A vs.length n, .slice B ls.length k] 25)).alloc (.cells #[.slice none 0 0, .slice none 0 0] 25)) :=
    ((Below.refl _ w).alloc (Nat.le_refl _) _).alloc (by simp) _
  have K : KC1 w w.heap.size (.slice A vs.length n) (.slice B ls.length k) [(.slice A vs.length n, vs), (.slice B ls.length k, ls)] ((w.alloc (.cells #[.slice A vs.length n, .slice B ls.length k] 25)).alloc (.cells #[.slice none 0 0, .slice none 0 0] 25)) := by
    refine .mk ⟨?_, ⟨none, 0, 0, none, 0, 0, ?_⟩, hal, ?_⟩
    · exact (heap_alloc_old _ _ (by simp)).trans (heap_alloc_new w _)
    · have h := heap_alloc_new (w.alloc (.cells #[.slice A vs.length n, .slice B ls.length k] 25)) (.cells #[.slice none 0 0, .slice none 0 0] 25)
      rwa [World.size_alloc] at h
    · intro p hp
      rcases List.mem_cons.1 hp with rfl | hp
      · exact h1.below hal
      · rcases List.mem_cons.1 hp with rfl | hp
        · exact h2.below hal
        · cases hp
  have HM := Lib.hid hm
  clear h1 h2 hal hm
  go_enter Try.func19, Try.ntmps19
  go_wp2_with fail
  generalize (w.alloc (.cells #[.slice A vs.length n, .slice B ls.length k] 25)).alloc (.cells #[.slice none 0 0, .slice none 0 0] 25) = W0 at K ⊢
  obtain ⟨q0, q1, q2⟩ := id K
  go_region_held3 (fun W => W.cell? ⟨w.heap.size, 0, none⟩ = some (.slice A vs.length n) ∧ W.cell? ⟨w.heap.size, 1, none⟩ = some (.slice B ls.length k) ∧ KB1 w w.heap.size (.slice A vs.length n) (.slice B ls.length k) [(.slice A vs.length n, vs), (.slice B ls.length k, ls)] W)
    (first
      | assumption
      | (exact KC1.drew (by assumption))
      | (exact KC1.store (by assumption) (Nat.le_refl _) _ _ _ _ _ _))
    (first
      | (refine step_append_sl (o := ⟨some 5, _, _, _, _, _⟩) _ encD 2 (by rfl) (.const (.slice none 0 0)) (.tmp 4) 23 (by rfl) encD_len (by omega) encD_one (w.heap.size + 2) 38 i0 _ 16 Try.underlying23 hi0 hz0 hz1 hz2 rfl (.slice none 0 0) [] (by rfl) (World.ownsRow_nil _ _ _ _) A vs.length n vs (by rfl) (by rfl) (KC1.dots (w0 := w) (g := w.heap.size) (x := .slice A vs.length n) (y := .slice B ls.length k) (L := [(.slice A vs.length n, vs), (.slice B ls.length k, ls)]) (n := n) (by assumption) (by simp)) (by simp [maxLen]; have := HM.out; omega) (by simp; have := HM.out; omega) (KC1.bound (w0 := w) (g := w.heap.size) (x := .slice A vs.length n) (y := .slice B ls.length k) (L := [(.slice A vs.length n, vs), (.slice B ls.length k, ls)]) (by assumption)).1 ?_
         intro v1 w1 hown1 hg1 hat1
         rw [List.nil_append] at hown1
         have hS1 := KC1.below (w0 := w) (g := w.heap.size) (x := .slice A vs.length n) (y := .slice B ls.length k) (L := [(.slice A vs.length n, vs), (.slice B ls.length k, ls)]) (by assumption) (below_of_grown_none hg1)
         try (have hown2' := World.ownsRow.kept hown2 hg1 (by cases v2.ownBlock <;> simp [Value.ownBlock]))
         obtain ⟨A5, n5, rfl, _⟩ := SlAt.of_own encD_len hown1
         obtain ⟨Ax, nx, cx, Bx, mx, dx, t0, t1, t2, t3, hB3⟩ := hS1.second)
      | (refine step_append_sl (o := ⟨some 8, _, _, _, _, _⟩) _ encD 2 (by rfl) (.const (.slice none 0 0)) (.tmp 7) 22 (by rfl) encD_len (by omega) encD_one (w.heap.size + 2) 38 i0 _ 16 Try.underlying22 hi0 hz0 hz1 hz2 rfl (.slice none 0 0) [] (by rfl) (World.ownsRow_nil _ _ _ _) B ls.length k ls (by rfl) (by rfl) (KC1.dots (w0 := w) (g := w.heap.size) (x := .slice A vs.length n) (y := .slice B ls.length k) (L := [(.slice A vs.length n, vs), (.slice B ls.length k, ls)]) (n := k) (by assumption) (by simp)) (by simp [maxLen]; have := HM.out; omega) (by simp; have := HM.out; omega) (KC1.bound (w0 := w) (g := w.heap.size) (x := .slice A vs.length n) (y := .slice B ls.length k) (L := [(.slice A vs.length n, vs), (.slice B ls.length k, ls)]) (by assumption)).1 ?_
         intro v2 w2 hown2 hg2 hat2
         rw [List.nil_append] at hown2
         have hS2 := KC1.below (w0 := w) (g := w.heap.size) (x := .slice A vs.length n) (y := .slice B ls.length k) (L := [(.slice A vs.length n, vs), (.slice B ls.length k, ls)]) (by assumption) (below_of_grown_none hg2)
         try (have hown1' := World.ownsRow.kept hown1 hg2 (by cases v1.ownBlock <;> simp [Value.ownBlock]))
         obtain ⟨A6, n6, rfl, _⟩ := SlAt.of_own encD_len hown2
         obtain ⟨Ax, nx, cx, Bx, mx, dx, t0, t1, t2, t3, hB3⟩ := hS2.second))
  all_goals
    go_wp2_with fail
    have hs := hB3.set (.slice A5 vs.length n5) (.slice A6 ls.length n6)
    have s6 := hs.cell0
    have s7 := hs.cell1
    have ho1 := hown1.kept hg2 (by cases (Value.slice A5 vs.length n5).ownBlock <;> simp [Value.ownBlock])
    refine bodyPost_ret (v := .agg #[.slice A5 vs.length n5, .slice A6 ls.length n6]) (by simp [results, Try.results19, go_sem, s6, s7]) rfl ⟨⟨_, _, _, _, rfl, ?_, ?_⟩, below_set2 hS2.bel (by omega) _ _⟩
    · exact ⟨row_set2 (Joins.ownsRow_le ho1 (by omega)) (fun e => by have := (ho1.lt _ e).1; omega) _ _, below_set2 hS2.bel (by omega) _ _⟩
    · exact ⟨row_set2 (Joins.ownsRow_le hown2 (by omega)) (fun e => by have := (hown2.lt _ e).1; omega) _ _, below_set2 hS2.bel (by omega) _ _⟩

set_option maxRecDepth 100000 in
set_option maxHeartbeats 1000000 in
theorem law3Light (v : Value) (vs ls : List (Int × Int)) (b : Bool) (w : World) (h : HoldsC w v vs ls) (hb : (decide (vs.length ≤ 40) && decide (ls.length ≤ 40)) = b) :
    Calls Try.prog 9 #[v] w fun e w' => e = .returned (.bool b) ∧ Below w.heap.size w w' := by
  obtain ⟨A, n, B, k, rfl, h1, h2⟩ := h
  have HB := Lib.hid hb
  have hal : Below w.heap.size w (w.alloc (.cells #[.slice A vs.length n, .slice B ls.length k] 25)) := (Below.refl _ w).alloc (Nat.le_refl _) _
  have HAL := Lib.hid hal
  clear h1 h2 hb hal
  by_cases h1 : vs.length ≤ 40
  · by_cases h2 : ls.length ≤ 40
    · have e := Lib.hid (show true = b by rw [← HB.out]; simp [h1, h2])
      have i1 : (vs.length : Int) ≤ 40 := by omega
      have i2 : (ls.length : Int) ≤ 40 := by omega
      clear h1 h2
      go_enter Try.func9, Try.ntmps9
      go_wp2
      go_ret
      exact ⟨ret_bool e.out, HAL.out⟩
    · have e := Lib.hid (show false = b by rw [← HB.out]; simp [h1, h2])
      have i1 : (vs.length : Int) ≤ 40 := by omega
      have i2 : (40 : Int) < (ls.length : Int) := by omega
      clear h1 h2
      go_enter Try.func9, Try.ntmps9
      go_wp2
      go_ret
      exact ⟨ret_bool (by first | exact e.out | (rw [← e.out]; simp; omega)), HAL.out⟩
  · have e := Lib.hid (show false = b by rw [← HB.out]; simp [h1])
    have i1 : (40 : Int) < (vs.length : Int) := by omega
    clear h1
    go_enter Try.func9, Try.ntmps9
    go_wp2
    go_ret
    exact ⟨ret_bool (by first | exact e.out | (rw [← e.out]; simp; omega)), HAL.out⟩

/-- What the functions that make contexts return, as lists and an error. -/
def ctxP (ok : Bool) (p : List (Int × Int) × List (Int × Int)) : (List (Int × Int) × List (Int × Int)) × Int := if ok then (p, 0) else (([], []), 2)
theorem CtxR.tup {ok : Bool} {us rs : List (Int × Int)} {w : World} {e : Ending} {w' : World} (h : CtxR ok us rs w e w') {us' rs' : List (Int × Int)} {n : Int} (hp : ctxP ok (us, rs) = ((us', rs'), n)) :
    (∃ A c B d, e = .returned (.tuple #[.agg #[.slice A us'.length c, .slice B rs'.length d], .int .i64 n]) ∧ MineV w w' (.slice A us'.length c) us' ∧ MineV w w' (.slice B rs'.length d) rs') ∧ Below w.heap.size w w' := by
  cases ok with
  | true =>
    have hp2 : ((us, rs), (0 : Int)) = ((us', rs'), n) := hp
    cases hp2
    exact h.t
  | false =>
    have hp2 : ((([] : List (Int × Int)), ([] : List (Int × Int))), (2 : Int)) = ((us', rs'), n) := hp
    cases hp2
    exact ⟨⟨none, 0, none, 0, h.f.1, ⟨World.ownsRow_nil _ _ _ _, h.2⟩, ⟨World.ownsRow_nil _ _ _ _, h.2⟩⟩, h.2⟩
/-- Whether they are those that are wanted. -/
def isC (p : (List (Int × Int) × List (Int × Int)) × Int) (us rs : List (Int × Int)) (no : Int) : Bool := (decide (p.1.1 = us) && decide (p.1.2 = rs)) && (p.2 == no)

set_option maxRecDepth 100000 in
set_option maxHeartbeats 1000000 in
theorem law3Gives (v v' : Value) (vs ls vs' ls' : List (Int × Int)) (n no : Int) (b : Bool) (w : World) (h : HoldsC w v vs ls) (h' : HoldsC w v' vs' ls') (hb : isC ((vs, ls), n) vs' ls' no = b) :
    Calls Try.prog 21 #[v, .int .i64 n, v', .int .i64 no] w fun e w' => e = .returned (.bool b) ∧ Below w.heap.size w w' := by
  obtain ⟨A, c, B, d, rfl, h1, h2⟩ := h
  obtain ⟨A', c', B', d', rfl, h1', h2'⟩ := h'
  have K := ((((((KX.nil w).push h1).push h2).push h1').push h2').box (.slice A vs.length c) (.slice B ls.length d) 25).box (.slice A' vs'.length c') (.slice B' ls'.length d') 25
  rw [World.size_alloc] at K
  have K := Lib.hid K
  clear h1 h2 h1' h2'
  unfold isC at hb
  cases hxy : (decide (vs = vs') && decide (ls = ls')) with
  | false =>
    have HS := Lib.hid (ref3Equal (.agg #[.slice A vs.length c, .slice B ls.length d]) (.agg #[.slice A' vs'.length c', .slice B' ls'.length d']) vs ls vs' ls' false _ (HoldsC.mk (K.out.h (by simp)) (K.out.h (by simp))) (HoldsC.mk (K.out.h (by simp)) (K.out.h (by simp))) hxy)
    have HB := Lib.hid (show false = b by rw [← hb]; simp only [hxy, Bool.false_and])
    clear hb hxy
    go_enter Try.func21, Try.ntmps21
    go_wp2_with fail
    refine HS.out.mono ?_
    rintro e w1 ⟨rfl, hb1⟩
    have K1 := Lib.hid (K.out.below hb1)
    clear hb1
    go_wp2
    go_ret
    exact ⟨ret_bool HB.out, K1.out.bel⟩
  | true =>
    have HS := Lib.hid (ref3Equal (.agg #[.slice A vs.length c, .slice B ls.length d]) (.agg #[.slice A' vs'.length c', .slice B' ls'.length d']) vs ls vs' ls' true _ (HoldsC.mk (K.out.h (by simp)) (K.out.h (by simp))) (HoldsC.mk (K.out.h (by simp)) (K.out.h (by simp))) hxy)
    have hb2 : (n == no) = b := by rw [← hb]; simp only [hxy, Bool.true_and]
    cases hn : (n == no)
    all_goals
      rw [hn] at hb2
      have HB := Lib.hid hb2
      clear hb hxy hb2
      go_enter Try.func21, Try.ntmps21
      go_wp2_with fail
      refine HS.out.mono ?_
      rintro e w1 ⟨rfl, hb1⟩
      have K1 := Lib.hid (K.out.below hb1)
      clear hb1
      go_wp2
      go_ret
      exact ⟨ret_bool HB.out, K1.out.bel⟩

end Go.Proofs.Ytibnlifdeknicaa
