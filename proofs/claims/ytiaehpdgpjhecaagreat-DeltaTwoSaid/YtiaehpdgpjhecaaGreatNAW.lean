/- Several texts in one: JoiC, JoiD, CarM. -/
import Derived.Test.YtiaehpdgpjhecaaGreatNAV
import Derived.Test.YtiaehpdgpjhecaaGreatNAC
import Derived.Test.YtiaehpdgpjhecaaGreatNAM
import Derived.Test.YtiaehpdgpjhecaaGreatNAG
import Derived.Maps.Own
import Derived.Maps.OwnOps
import Derived.Maps.OwnSet
import Derived.Maps.Views
import Derived.DeepKeys4
import Derived.OwnWalk
namespace Go.Proofs.YtiaehpdgpjhecaaGreat

section
open Go.RowKit

theorem own_held {w : World} {base g n cap : Nat} {e : TypeId} {ys : List Hd} (h : w.ownsRow base e 5 (.slice (some ⟨g, 0, none⟩) n cap) n (cellsOf encH ys)) {j : Nat} {x : Hd} (hj : ys[j]? = some x) :
    w.cell? ⟨g, j * 5, none⟩ = some (.string ⟨x.1.toArray⟩) ∧ w.cell? ⟨g, j * 5 + 1, none⟩ = some (.int .i64 x.2.r) ∧ w.cell? ⟨g, j * 5 + 2, none⟩ = some (.int .i64 x.2.c) ∧ w.cell? ⟨g, j * 5 + 3, none⟩ = some (.int .i64 x.2.q) ∧ w.cell? ⟨g, j * 5 + 4, none⟩ = some (.int .u64 (x.2.t : Int)) := by
  have h0 := h.cells (g := g) rfl (j * 5 + 0) _ (cellsOf_at encH_len ys j x 0 _ hj rfl)
  have h1 := h.cells (g := g) rfl (j * 5 + 1) _ (cellsOf_at encH_len ys j x 1 _ hj rfl)
  have h2 := h.cells (g := g) rfl (j * 5 + 2) _ (cellsOf_at encH_len ys j x 2 _ hj rfl)
  have h3 := h.cells (g := g) rfl (j * 5 + 3) _ (cellsOf_at encH_len ys j x 3 _ hj rfl)
  have h4 := h.cells (g := g) rfl (j * 5 + 4) _ (cellsOf_at encH_len ys j x 4 _ hj rfl)
  rw [Addr_add] at h0 h1 h2 h3 h4
  exact ⟨by simpa using h0, by simpa using h1, by simpa using h2, by simpa using h3, by simpa using h4⟩
theorem own_froz {w : World} {base g n cap k : Nat} {e : TypeId} {cs : List Value} (h : w.ownsRow base e k (.slice (some ⟨g, 0, none⟩) n cap) n cs) (i : Nat) : w.frozen? ⟨g, i, none⟩ = false := h.frozenAt _
theorem cells_setH (ys : List Hd) (j : Nat) (x : Hd) (hj : j < ys.length) : (((((cellsOf encH ys).set (j * 5) (.string ⟨x.1.toArray⟩)).set (j * 5 + 1) (.int .i64 x.2.r)).set (j * 5 + 2) (.int .i64 x.2.c)).set (j * 5 + 3) (.int .i64 x.2.q)).set (j * 5 + 4) (.int .u64 (x.2.t : Int)) = cellsOf encH (ys.set j x) := by
  induction ys generalizing j with
  | nil => simp at hj
  | cons y l ih =>
    match j with
    | 0 => simp [cellsOf, encH]
    | j + 1 =>
      have := ih j (by simpa using hj)
      simp only [cellsOf, List.flatMap_cons, List.set_cons_succ] at this ⊢
      rw [← this]
      rw [List.set_append_right _ _ (by simp [encH]; omega), List.set_append_right _ _ (by simp [encH]; omega), List.set_append_right _ _ (by simp [encH]; omega), List.set_append_right _ _ (by simp [encH]; omega), List.set_append_right _ _ (by simp [encH]; omega)]
      simp only [encH_len]
      rw [show (j + 1) * 5 - 5 = j * 5 by omega, show (j + 1) * 5 + 1 - 5 = j * 5 + 1 by omega, show (j + 1) * 5 + 2 - 5 = j * 5 + 2 by omega, show (j + 1) * 5 + 3 - 5 = j * 5 + 3 by omega, show (j + 1) * 5 + 4 - 5 = j * 5 + 4 by omega]
/-- The cells of one, stored. -/
abbrev setH (w : World) (g o : Nat) (x : Hd) : World := ((((w.setCell ⟨g, o, none⟩ (.string ⟨x.1.toArray⟩)).setCell ⟨g, o + 1, none⟩ (.int .i64 x.2.r)).setCell ⟨g, o + 2, none⟩ (.int .i64 x.2.c)).setCell ⟨g, o + 3, none⟩ (.int .i64 x.2.q)).setCell ⟨g, o + 4, none⟩ (.int .u64 (x.2.t : Int))
theorem own_storeH {w : World} {base g n cap : Nat} {e : TypeId} {ys : List Hd} (h : w.ownsRow base e 5 (.slice (some ⟨g, 0, none⟩) n cap) n (cellsOf encH ys)) {j : Nat} {x : Hd} (hj : j < ys.length) :
    (setH w g (j * 5) x).ownsRow base e 5 (.slice (some ⟨g, 0, none⟩) n cap) n (cellsOf encH (ys.set j x)) ∧ w.grownBy (setH w g (j * 5) x) (some g) := by
  obtain ⟨h1, g1⟩ := h.stored (j * 5) (.string ⟨x.1.toArray⟩)
  obtain ⟨h2, g2⟩ := h1.stored (j * 5 + 1) (.int .i64 x.2.r)
  obtain ⟨h3, g3⟩ := h2.stored (j * 5 + 2) (.int .i64 x.2.c)
  obtain ⟨h4, g4⟩ := h3.stored (j * 5 + 3) (.int .i64 x.2.q)
  obtain ⟨h5, g5⟩ := h4.stored (j * 5 + 4) (.int .u64 (x.2.t : Int))
  rw [cells_setH ys j x hj] at h5
  exact ⟨h5, grown_trans' (grown_trans' (grown_trans' (grown_trans' g1 g2) g3) g4) g5⟩

/-- No dot stands twice side by side among the first m + 1. -/
def NoTwiceH (xs : List Hd) (m : Nat) : Prop := ∀ j p q, j < m → xs[j]? = some p → xs[j + 1]? = some q → dotH p ≠ dotH q
theorem NoTwiceH.dd {xs : List Hd} {m : Nat} (h : NoTwiceH xs m) : ddH (xs.take (m + 1)) = xs.take (m + 1) := by
  refine ddH_same _ fun j p q h1 h2 => ?_
  rw [List.getElem?_take] at h1 h2
  split at h1
  · split at h2
    · exact h j p q (by omega) h1 h2
    · cases h2
  · cases h1
theorem NoTwiceH.step {xs : List Hd} {m : Nat} {p q : Hd} (h : NoTwiceH xs m) (hp : xs[m]? = some p) (hq : xs[m + 1]? = some q) (hne : dotH p ≠ dotH q) : NoTwiceH xs (m + 1) := by
  intro j p' q' hj h1 h2
  by_cases e : j = m
  · subst e; rw [hp] at h1; rw [hq] at h2; cases h1; cases h2; exact hne
  · exact h j p' q' (by omega) h1 h2
theorem kept_below {w w' : World} {base n k : Nat} {e : TypeId} {v : Value} {cs : List Value} (h : w.ownsRow base e k v n cs) (hb : Below w.heap.size w w') : w'.ownsRow base e k v n cs :=
  h.kept (grown_of_below hb none) (by cases v.ownBlock <;> simp)

set_option maxRecDepth 100000 in
set_option maxHeartbeats 4000000 in
theorem compactHeld (v : Value) (base : Nat) (xs : List Hd) (w : World) (h : RowH w base v xs) (hm : xs.length ≤ 1000000) :
    Calls Tryz.prog 71 #[v, .func (.func 72) #[] #[]] w fun e w' => ∃ v', e = .returned v' ∧ RowH w' base v' (ddH xs) ∧ w.grownBy w' v.ownBlock := by
  rcases Nat.lt_or_ge xs.length 2 with h0 | h0
  · obtain ⟨A, c, rfl, _⟩ := SlAt.of_own encH_len h
    have hd : ddH xs = xs := ddH_same _ fun j p q h1 h2 => by
      have : j + 1 < xs.length := by
        rcases Nat.lt_or_ge (j + 1) xs.length with h | h
        · exact h
        · rw [List.getElem?_eq_none h] at h2; cases h2
      omega
    rw [hd]
    have H := Lib.hid h
    clear h hd
    go_enter Tryz.func71, Tryz.ntmps71
    go_wp2
    go_ret
    exact ⟨_, rfl, H.out, World.grownBy.refl _ _⟩
  · obtain ⟨g, cap, rfl, hb, hg⟩ := h.form (by omega)
    have hcap : xs.length ≤ cap ∧ cap ≤ maxLen := by
      rcases h.2 with ⟨h1, _⟩ | ⟨g', cap', cur, hv, _, _, hn, hc, _⟩
      · cases h1
      · cases hv; exact ⟨hn, hc⟩
    obtain ⟨hcap1, hcap2⟩ := hcap
    unfold maxLen at hcap2
    have H := Lib.hid h
    clear h
    go_enter Tryz.func71, Tryz.ntmps71
    go_wp2_with fail
    go_loopw [5] (fun i wr => ∃ m : Nat, m + 1 ≤ xs.length ∧ i = .int .i64 ((m : Int) + 1) ∧ Hid (Below w.heap.size w wr) ∧ Hid (NoTwiceH xs m)) (fun i _ => xs.length - (intOf i).toNat)
    case atStart => exact ⟨0, by omega, rfl, Below.refl _ _, fun j p q h => by omega⟩
    case round =>
      obtain ⟨m, hk2, rfl, hw, hs⟩ := hrel
      have hown : wr.ownsRow base 100 5 (.slice (some ⟨g, 0, none⟩) xs.length cap) xs.length (cellsOf encH xs) := kept_below H.out hw.out
      have hgw : g < wr.heap.size := Nat.lt_of_lt_of_le hg hw.out.size
      have HO := Lib.hid hown
      by_cases hlt : m + 1 < xs.length
      · obtain ⟨x, hx1⟩ : ∃ x, xs[m]? = some x := ⟨_, List.getElem?_eq_getElem (by omega)⟩
        obtain ⟨y, hx2⟩ : ∃ x, xs[m + 1]? = some x := ⟨_, List.getElem?_eq_getElem hlt⟩
        obtain ⟨a0, a1, a2, a3, a4⟩ := own_held hown hx1
        obtain ⟨b0, b1, b2, b3, b4⟩ := own_held hown hx2
        have l0 := fun p => cell_far (p := p) hgw a0
        have l1 := fun p => cell_far (p := p) hgw a1
        have l2 := fun p => cell_far (p := p) hgw a2
        have l3 := fun p => cell_far (p := p) hgw a3
        have l4 := fun p => cell_far (p := p) hgw a4
        have m0 := fun p => cell_far (p := p) hgw b0
        have m1 := fun p => cell_far (p := p) hgw b1
        have m2 := fun p => cell_far (p := p) hgw b2
        have m3 := fun p => cell_far (p := p) hgw b3
        have m4 := fun p => cell_far (p := p) hgw b4
        have HX1 := Lib.hid hx1
        have HX2 := Lib.hid hx2
        obtain ⟨q, hq⟩ : ∃ q, decide (dotH y = dotH x) = q := ⟨_, rfl⟩
        have HS := Lib.hid fun W => joSame y x q W hq
        have HQ := Lib.hid hq
        clear hown a0 a1 a2 a3 a4 b0 b1 b2 b3 b4 hx1 hx2 hq
        cases q with
        | true =>
          have hdd : dotH x = dotH y := (of_decide_eq_true HQ.out).symm
          have hP : ddH (xs.take (m + 1)) = xs.take (m + 1) := hs.out.dd
          have hP2 : ddH (xs.take (m + 2)) = ddH (xs.take (m + 1)) := by rw [ddH_step HX1.out HX2.out, if_pos hdd]
          have hlen : (xs.take (m + 1)).length = m + 1 := by simp; omega
          have hst : ∃ P, (P : List Hd).length = m + 1 ∧ P = ddH (xs.take (m + 2)) ∧ P ++ xs.drop P.length = xs := ⟨xs.take (m + 1), hlen, by rw [hP2, hP], by rw [hlen]; exact List.take_append_drop _ _⟩
          have HST := Lib.hid hst
          clear hdd hP hP2 hlen hst
          go_wp2_with fail
          refine wp_region_far (by kernel_rfl) (by kernel_rfl) ?_
          repeat (go_big_quiet_step ((go_at_call 72; exact OneB.far (HS.out _))))
          refine wpQuiet_nil ?_
          rintro _ ⟨p, rfl⟩
          go_wp2_with fail
          have HO2 := Lib.hid (kept_below HO.out (below_far wr p))
          have HG2 := Lib.hid (show w.grownBy (far wr p) (some g) from grown_of_below (below_trans hw.out (below_far wr p)) _)
          generalize far wr p = wo at *
          clear hw HO HX1 HX2 HS HQ hs l0 l1 l2 l3 l4 m0 m1 m2 m3 m4
          go_loopw [5, 7] (fun k i wr => ∃ (P : List Hd) (t : Nat), m + 1 + (t + 1) ≤ xs.length ∧ P.length ≤ m + 1 + t ∧ k = .int .i64 (P.length : Int) ∧ i = .int .i64 ((t : Int) + 1) ∧ Hid (P = ddH (xs.take (m + 1 + (t + 1)))) ∧
              Hid (wr.ownsRow base 100 5 (.slice (some ⟨g, 0, none⟩) xs.length cap) xs.length (cellsOf encH (P ++ xs.drop P.length))) ∧ Hid (w.grownBy wr (some g))) (fun _ i _ => xs.length - (intOf i).toNat)
          case atStart =>
            obtain ⟨P, h1, h2, h3⟩ := HST.out
            exact ⟨P, 0, by omega, by omega, by rw [h1]; rfl, rfl, h2, by rw [h3]; exact HO2, HG2⟩
          case round =>
            clear HST HO2 HG2 hgw
            obtain ⟨P, t, hk1, hk3, rfl, rfl, hP, hown3, hgr3⟩ := hrel
            have hgw : g < wr.heap.size := Nat.lt_of_lt_of_le hg hgr3.out.size
            by_cases hlt2 : m + 1 + (t + 1) < xs.length
            · obtain ⟨x, hxa⟩ : ∃ x, xs[m + 1 + t]? = some x := ⟨_, List.getElem?_eq_getElem (by omega)⟩
              obtain ⟨y, hxb⟩ : ∃ x, xs[m + 1 + (t + 1)]? = some x := ⟨_, List.getElem?_eq_getElem hlt2⟩
              obtain ⟨z, hxp⟩ : ∃ x, xs[P.length]? = some x := ⟨_, List.getElem?_eq_getElem (by omega)⟩
              obtain ⟨a0, a1, a2, a3, a4⟩ := own_held hown3.out (j := m + 1 + t) ((get_tail (by omega)).trans hxa)
              obtain ⟨b0, b1, b2, b3, b4⟩ := own_held hown3.out (j := m + 1 + (t + 1)) ((get_tail (by omega)).trans hxb)
              obtain ⟨c0, c1, c2, c3, c4⟩ := own_held hown3.out (j := P.length) ((get_tail (by omega)).trans hxp)
              have cf := own_froz hown3.out
              rw [Nat.add_mul (m + 1)] at a0 a1 a2 a3 a4 b0 b1 b2 b3 b4
              have l0 := fun p => cell_far (p := p) hgw a0
              have l1 := fun p => cell_far (p := p) hgw a1
              have l2 := fun p => cell_far (p := p) hgw a2
              have l3 := fun p => cell_far (p := p) hgw a3
              have l4 := fun p => cell_far (p := p) hgw a4
              have m0 := fun p => cell_far (p := p) hgw b0
              have m1 := fun p => cell_far (p := p) hgw b1
              have m2 := fun p => cell_far (p := p) hgw b2
              have m3 := fun p => cell_far (p := p) hgw b3
              have m4 := fun p => cell_far (p := p) hgw b4
              have hdd : ddH (xs.take (m + 1 + (t + 1 + 1))) = if dotH x = dotH y then P else P ++ [y] := by
                have := ddH_step (xs := xs) (m := m + 1 + t) hxa hxb
                rw [hP.out]; exact this
              obtain ⟨q, hq⟩ : ∃ q, decide (dotH y = dotH x) = q := ⟨_, rfl⟩
              have HS := Lib.hid fun W => joSame y x q W hq
              have HQ := Lib.hid hq
              have hlt3 : t + 1 < xs.length - (m + 1) := by omega
              have hltP : P.length < xs.length := by omega
              have HDD := Lib.hid hdd
              clear hxa hxb hxp hq hdd
              cases q with
              | true =>
                clear c0 c1 c2 c3 c4 cf
                have HD2 := Lib.hid (show P = ddH (xs.take (m + 1 + (t + 1 + 1))) from by rw [HDD.out, if_pos (of_decide_eq_true HQ.out).symm])
                clear HDD
                go_wp2_with fail
                refine wp_region_far (by kernel_rfl) (by kernel_rfl) ?_
                repeat (go_big_quiet_step ((go_at_call 72; exact OneB.far (HS.out _))))
                refine wpQuiet_nil ?_
                rintro _ ⟨p, rfl⟩
                go_wp2_with fail
                go_roundw
                case rel => exact ⟨P, t + 1, by omega, by omega, rfl, by go_num, HD2, kept_below hown3.out (below_far wr p), grown_trans' hgr3.out (grown_of_below (below_far wr p) _)⟩
                case measure => simp [intOf]; omega
              | false =>
                have HD2 := Lib.hid (show P ++ [y] = ddH (xs.take (m + 1 + (t + 1 + 1))) from by rw [HDD.out, if_neg (fun e => of_decide_eq_false HQ.out e.symm)])
                clear HDD a0 a1 a2 a3 a4
                go_wp2_with fail
                refine wp_region_far (by kernel_rfl) (by kernel_rfl) ?_
                repeat (go_big_quiet_step ((go_at_call 72; exact OneB.far (HS.out _))))
                refine wpQuiet_nil ?_
                rintro _ ⟨p, rfl⟩
                have ho4 := kept_below hown3.out (below_far wr p)
                have hos := own_storeH (x := y) ho4 (j := P.length) (by simp; omega)
                rw [set_tail hltP] at hos
                have HOS := Lib.hid hos
                have HG4 := Lib.hid (grown_trans' hgr3.out (grown_of_below (below_far wr p) (some g)))
                have e0 := cell_far (p := p) hgw c0
                have e1 := cell_far (p := p) hgw c1
                have e2 := cell_far (p := p) hgw c2
                have e3 := cell_far (p := p) hgw c3
                have e4 := cell_far (p := p) hgw c4
                have g0 := cell_far (p := p) hgw b0
                have g1 := cell_far (p := p) hgw b1
                have g2 := cell_far (p := p) hgw b2
                have g3 := cell_far (p := p) hgw b3
                have g4 := cell_far (p := p) hgw b4
                have ff := own_froz ho4
                clear hos ho4 cf l0 l1 l2 l3 l4 m0 m1 m2 m3 m4 c0 c1 c2 c3 c4 b0 b1 b2 b3 b4
                generalize far wr p = wo at *
                go_wp2_with fail
                go_roundw
                case rel => exact ⟨P ++ [y], t + 1, by omega, by simp; omega, by simp, by go_num, HD2, HOS.out.1, grown_trans' HG4.out HOS.out.2⟩
                case measure => simp [intOf]; omega
            · have hPx : P = ddH xs := by rw [hP.out, List.take_of_length_le (by omega)]
              have hltP : P.length < xs.length := by omega
              obtain ⟨w', hcl, ho', hg'⟩ := run_clear_own (P := Tryz.prog) (z := .agg #[.string ⟨#[]⟩, .int .i64 0, .int .i64 0, .int .i64 0, .int .u64 0]) (k := 5) Tryz.underlying97 Tryz.zeroValue100 rfl (by intro u hu; simp [Value.cells] at hu; rcases hu with rfl | rfl | rfl <;> rfl) hown3.out hltP (cap - P.length)
              have hct : (cellsOf encH (P ++ xs.drop P.length)).take (P.length * 5) = cellsOf encH P := by
                rw [show cellsOf encH (P ++ xs.drop P.length) = cellsOf encH P ++ cellsOf encH (xs.drop P.length) by simp [cellsOf], ← cellsOf_length encH_len P, List.take_left]
              rw [hct] at ho'
              have HPX := Lib.hid hPx
              have HO' := Lib.hid ho'
              have hgf := Lib.hid (grown_trans' hgr3.out hg')
              clear hPx ho' hg' hct hown3 hgr3 hP
              have hPc : P.length ≤ cap := by omega
              go_wp2
              go_ret
              exact ⟨_, rfl, by rw [← HPX.out]; exact HO'.out, hgf.out⟩
        | false =>
          have HN := Lib.hid (hs.out.step HX1.out HX2.out (fun e => of_decide_eq_false HQ.out e.symm))
          clear HX1 HX2 HQ HO
          go_wp2_with fail
          refine wp_region_far (by kernel_rfl) (by kernel_rfl) ?_
          repeat (go_big_quiet_step ((go_at_call 72; exact OneB.far (HS.out _))))
          refine wpQuiet_nil ?_
          rintro _ ⟨p, rfl⟩
          go_wp2_with fail
          go_roundw
          case rel => exact ⟨m + 1, by omega, by go_num, below_trans hw.out (below_far wr p), HN⟩
          case measure => simp [intOf]; omega
      · have hd : ddH xs = xs := by
          have := hs.out.dd
          rwa [List.take_of_length_le (by omega)] at this
        have HD := Lib.hid hd
        clear hd hown
        go_wp2
        go_ret
        exact ⟨_, rfl, by rw [HD.out]; exact HO.out, grown_of_below hw.out _⟩

end

section
open Go.RowKit

/-- What a function value says of each mark that is allowed, wherever what lay below base is as it was. -/
def SaysH (g : Nat) (lb : Array Value) (p : Hd → Bool) (ok : Hd → Prop) (base : Nat) (w0 : World) : Prop :=
  ∀ (x : Hd) (W : World), ok x → Below base w0 W → Calls Tryz.prog g (#[mkH x] ++ lb) W fun e w' => e = .returned (.bool (p x)) ∧ Below W.heap.size W w'
theorem filter_stepH {p : Hd → Bool} {xs : List Hd} {j : Nat} {x : Hd} (hx : xs[j]? = some x) : (xs.take (j + 1)).filter (fun d => !p d) = if p x = true then (xs.take j).filter (fun d => !p d) else (xs.take j).filter (fun d => !p d) ++ [x] := by
  rw [take_snoc hx, List.filter_append]
  by_cases h : p x = true <;> simp [h]

set_option maxHeartbeats 1000000 in
theorem indexHeld1 (lb : Array Value) (p : Hd → Bool) (ok : Hd → Prop) (base : Nat) (w0 : World) (A : Option Addr) (xs : List Hd) (cap : Nat) (w : World) (hp : SaysH 124 lb p ok base w0) (hok : ∀ x ∈ xs, ok x) (hbw : Below base w0 w) (hbs : base ≤ w.heap.size) (hx : HeldAt w A xs) (hm : xs.length ≤ 1000000) :
    Calls Tryz.prog 176 #[.slice A xs.length cap, .func (.func 124) #[] lb] w fun e w' =>
      ((∃ i : Nat, i < xs.length ∧ e = .returned (.int .i64 i) ∧ (∀ j q, j < i → xs[j]? = some q → p q = false) ∧ (∀ q, xs[i]? = some q → p q = true)) ∨ (e = .returned (.int .i64 (-1)) ∧ ∀ q ∈ xs, p q = false)) ∧ Below w.heap.size w w' := by
  have HP := Lib.hid hp
  have HK := Lib.hid hok
  clear hp hok
  go_enter Tryz.func176, Tryz.ntmps176
  go_wp2
  go_loopw [5, 8] (fun _ i wr => ∃ m : Nat, m ≤ xs.length ∧ i = .int .i64 m ∧ Below w.heap.size w wr ∧ Hid (∀ j q, j < m → xs[j]? = some q → p q = false)) (fun _ i _ => xs.length - (intOf i).toNat)
  case atStart => exact ⟨0, by omega, rfl, Below.refl _ _, fun j q h => by omega⟩
  case round =>
    obtain ⟨m, hk2, rfl, hb, hs⟩ := hrel
    by_cases hlt : m < xs.length
    · obtain ⟨b, off, x, rfl, hbl, hx1, hc0, hc1, hc2, hc3, hc4⟩ := (hx.below hb).held (j := m) hlt
      have hr := HP.out x wr (HK.out x (List.mem_of_getElem? hx1)) (hbw.trans (hb.mono hbs))
      have HX1 := Lib.hid hx1; clear hx1
      cases hq : p x
      · rw [hq] at hr
        have HR := Lib.hid hr; clear hr
        have HQ := Lib.hid hq; clear hq
        go_wp2_with fail
        refine HR.out.mono ?_
        rintro e w1 ⟨rfl, hb1⟩
        go_wp2
        go_roundw
        case rel =>
          refine ⟨m + 1, by omega, by go_num, hb.trans (hb1.mono hb.size), (show Hid _ from fun j q hj hq => ?_)⟩
          by_cases e : j = m
          · subst e; rw [HX1.out] at hq; cases hq; exact HQ.out
          · exact hs.out j q (by omega) hq
        case measure => simp [intOf]; omega
      · rw [hq] at hr
        have HR := Lib.hid hr; clear hr
        have HQ := Lib.hid hq; clear hq
        go_wp2_with fail
        refine HR.out.mono ?_
        rintro e w1 ⟨rfl, hb1⟩
        go_wp2
        go_ret
        exact ⟨.inl ⟨m, hlt, rfl, hs.out, fun q hq => by rw [HX1.out] at hq; cases hq; exact HQ.out⟩, hb.trans (hb1.mono hb.size)⟩
    · go_wp2
      go_ret
      refine ⟨.inr ⟨rfl, fun q hq => ?_⟩, hb⟩
      obtain ⟨j, hj⟩ := List.mem_iff_getElem?.1 hq
      have hjl : j < xs.length := by
        rcases Nat.lt_or_ge j xs.length with h | h
        · exact h
        · rw [List.getElem?_eq_none h] at hj; cases hj
      exact hs.out j q (by omega) hj

set_option maxRecDepth 100000 in
set_option maxHeartbeats 1000000 in
theorem deleteHeld (lb : Array Value) (p : Hd → Bool) (ok : Hd → Prop) (base : Nat) (w0 : World) (v : Value) (xs : List Hd) (w : World) (hp : SaysH 124 lb p ok base w0) (hok : ∀ x ∈ xs, ok x) (hbw : Below base w0 w) (hbs : base ≤ w.heap.size)
    (h : w.ownsRow base 100 5 v xs.length (cellsOf encH xs)) (hm : xs.length ≤ 1000000) :
    Calls Tryz.prog 122 #[v, .func (.func 124) #[] lb] w fun e w' =>
      ∃ v', e = .returned v' ∧ w'.ownsRow base 100 5 v' (xs.filter fun d => !p d).length (cellsOf encH (xs.filter fun d => !p d)) ∧ w.grownBy w' v.ownBlock := by
  obtain ⟨A, cap, rfl, hc1, hc2, hx0⟩ := SlAt.of_own encH_len h
  have hx : HeldAt w A xs := hx0
  clear hx0
  have hi := indexHeld1 lb p ok base w0 A xs cap w hp hok hbw hbs hx hm
  have HK := Lib.hid hok
  clear hok
  have HI := Lib.hid hi
  have H := Lib.hid h
  have HP := Lib.hid hp
  clear hi h hp
  unfold maxLen at hc2
  go_enter Tryz.func122, Tryz.ntmps122
  go_wp2_with fail
  refine HI.out.mono ?_
  rintro e w1 ⟨⟨i, hi1, rfl, hi2, hi3⟩ | ⟨rfl, hno⟩, hb1⟩
  · obtain ⟨g, cap', hv, hbg, hgl⟩ := H.out.form (by omega)
    injection hv with hA hn hcc
    subst hA
    have hne1 : ((i : Int) == -1) = false := by simp
    have ho1 : w1.ownsRow base 100 5 (.slice (some ⟨g, 0, none⟩) xs.length cap) xs.length (cellsOf encH xs) := H.out.kept (grown_of_below hb1 none) (by simp [Value.ownBlock])
    have hg1 : w.grownBy w1 (some g) := grown_of_below hb1 _
    obtain ⟨xi, hxi⟩ : ∃ x, xs[i]? = some x := ⟨_, List.getElem?_eq_getElem hi1⟩
    have hpre : (xs.take i).filter (fun d => !p d) = xs.take i := by
      rw [List.filter_eq_self]
      intro q hq
      obtain ⟨j, hj⟩ := List.mem_iff_getElem?.1 hq
      rw [List.getElem?_take] at hj
      split at hj
      · simp [hi2 j q (by omega) hj]
      · cases hj
    have hst : ∃ P, (P : List Hd).length = i ∧ P = (xs.take (i + 1)).filter (fun d => !p d) ∧ P ++ xs.drop P.length = xs := by
      have hl : (xs.take i).length = i := by simp; omega
      refine ⟨xs.take i, hl, ?_, by rw [hl]; exact List.take_append_drop _ _⟩
      rw [filter_stepH hxi, if_pos (hi3 xi hxi), hpre]
    have HST := Lib.hid hst
    have HO := Lib.hid ho1
    have HG := Lib.hid hg1
    clear hst ho1 hg1 hpre hi2 hi3 hxi hn hcc hx hb1 HI
    go_wp2
    go_loopw [5, 6, 7] (fun k j _ wr => ∃ (P : List Hd) (t : Nat), t ≤ xs.length ∧ P.length < t ∧ k = .int .i64 (P.length : Int) ∧ j = .int .i64 t ∧ Hid (P = (xs.take t).filter (fun d => !p d)) ∧
        Hid (wr.ownsRow base 100 5 (.slice (some ⟨g, 0, none⟩) xs.length cap) xs.length (cellsOf encH (P ++ xs.drop P.length))) ∧ Hid (w.grownBy wr (some g))) (fun _ j _ _ => xs.length - (intOf j).toNat)
    case atStart =>
      obtain ⟨P, h1, h2, h3⟩ := HST.out
      exact ⟨P, i + 1, by omega, by omega, by rw [h1], by go_num, h2, by rw [h3]; exact HO, HG⟩
    case round =>
      obtain ⟨P, t, hk1, hk3, rfl, rfl, hP, hown3, hgr3⟩ := hrel
      have hbwr : Below base w0 wr := hbw.grown hgr3.out hbs (fun k hk => by cases hk; exact hbg)
      have hbsr : base ≤ wr.heap.size := Nat.le_trans hbs hgr3.out.size
      by_cases hlt : t < xs.length
      · obtain ⟨x, hxt⟩ : ∃ x, xs[t]? = some x := ⟨_, List.getElem?_eq_getElem hlt⟩
        obtain ⟨xp, hxp⟩ : ∃ x, xs[P.length]? = some x := ⟨_, List.getElem?_eq_getElem (by omega)⟩
        obtain ⟨l0, l1, l2, l3, l4⟩ := own_held hown3.out (j := t) ((get_tail (by omega)).trans hxt)
        have hokx := HK.out x (List.mem_of_getElem? hxt)
        have hfs := filter_stepH (p := p) hxt
        rw [← hP.out] at hfs
        have HXT := Lib.hid hxt; clear hxt
        have HXP := Lib.hid hxp; clear hxp
        cases hq : p x
        · rw [hq] at hfs
          simp only [Bool.false_eq_true, if_false] at hfs
          have HFS := Lib.hid hfs; clear hfs
          have hr := fun W hW => HP.out x W hokx hW
          rw [hq] at hr
          have HR := Lib.hid hr; clear hr hq
          go_wp2_with fail
          refine (HR.out _ (hbwr.alloc hbsr _)).mono ?_
          rintro e w2 ⟨rfl, hb2⟩
          have hb3 := below_trans ((Below.refl _ wr).alloc (Nat.le_refl _) _) hb2
          have hbk := (BlkH.new wr x).below hb2
          have d0 := hbk.cell0
          have d1 := hbk.cell1
          have d2 := hbk.cell2
          have d3 := hbk.cell3
          have d4 := hbk.cell4
          have ho2 : w2.ownsRow base 100 5 (.slice (some ⟨g, 0, none⟩) xs.length cap) xs.length (cellsOf encH (P ++ xs.drop P.length)) := hown3.out.kept (grown_of_below hb3 none) (by simp [Value.ownBlock])
          obtain ⟨c0, c1, c2, c3, c4⟩ := own_held ho2 (j := P.length) ((get_tail (by omega)).trans HXP.out)
          have cf := own_froz ho2
          have hos := own_storeH (x := x) ho2 (j := P.length) (by simp; omega)
          rw [set_tail (by omega)] at hos
          have hgg := grown_trans' (grown_trans' hgr3.out (grown_of_below hb3 (some g))) hos.2
          have HOS := Lib.hid hos.1
          have HGG := Lib.hid hgg
          clear hos hgg ho2 hb2 hb3 hbk l0 l1 l2 l3 l4
          go_wp2
          go_roundw
          case rel => exact ⟨P ++ [x], t + 1, by omega, by simp; omega, by simp, by go_num, HFS.out.symm, HOS, HGG⟩
          case measure => simp [intOf]; omega
        · rw [if_pos hq] at hfs
          have HFS := Lib.hid hfs; clear hfs
          have hr := fun W hW => HP.out x W hokx hW
          rw [hq] at hr
          have HR := Lib.hid hr; clear hr hq
          go_wp2_with fail
          refine (HR.out _ (hbwr.alloc hbsr _)).mono ?_
          rintro e w2 ⟨rfl, hb2⟩
          have hb3 := below_trans ((Below.refl _ wr).alloc (Nat.le_refl _) _) hb2
          have ho2 : w2.ownsRow base 100 5 (.slice (some ⟨g, 0, none⟩) xs.length cap) xs.length (cellsOf encH (P ++ xs.drop P.length)) := hown3.out.kept (grown_of_below hb3 none) (by simp [Value.ownBlock])
          have hgg := grown_trans' hgr3.out (grown_of_below hb3 (some g))
          have HO2 := Lib.hid ho2
          have HGG := Lib.hid hgg
          clear hgg ho2 hb2 hb3 l0 l1 l2 l3 l4
          go_wp2
          go_roundw
          case rel => exact ⟨P, t + 1, by omega, by omega, rfl, by go_num, HFS.out.symm, HO2, HGG⟩
          case measure => simp [intOf]; omega
      · have hPx : P = xs.filter (fun d => !p d) := by rw [hP.out, List.take_of_length_le (by omega)]
        have hltP : P.length < xs.length := by omega
        obtain ⟨w', hcl, ho', hg'⟩ := run_clear_own (P := Tryz.prog) (z := .agg #[.string ⟨#[]⟩, .int .i64 0, .int .i64 0, .int .i64 0, .int .u64 0]) (k := 5) Tryz.underlying97 Tryz.zeroValue100 rfl (by intro u hu; simp [Value.cells] at hu; rcases hu with rfl | rfl | rfl <;> rfl) hown3.out hltP (cap - P.length)
        have hct : (cellsOf encH (P ++ xs.drop P.length)).take (P.length * 5) = cellsOf encH P := by
          rw [show cellsOf encH (P ++ xs.drop P.length) = cellsOf encH P ++ cellsOf encH (xs.drop P.length) by simp [cellsOf], ← cellsOf_length encH_len P, List.take_left]
        rw [hct] at ho'
        have hPc : P.length < cap := by omega
        have HPX := Lib.hid hPx
        have HO' := Lib.hid ho'
        have hgf := grown_trans' hgr3.out hg'
        clear hPx ho' hg' hct hown3 hgr3 hP HO HG HST
        go_wp2
        go_ret
        exact ⟨_, rfl, by rw [← HPX.out]; exact HO'.out, hgf⟩
  · have hf : xs.filter (fun d => !p d) = xs := by
      rw [List.filter_eq_self]
      intro q hq
      simp [hno q hq]
    have HF := Lib.hid hf
    have ho1 : w1.ownsRow base 100 5 (.slice A xs.length cap) xs.length (cellsOf encH xs) := H.out.kept (grown_of_below hb1 none) (by cases A <;> simp [Value.ownBlock])
    have HO := Lib.hid ho1
    have hg1 := grown_of_below hb1 (Value.slice A xs.length cap).ownBlock
    clear hf ho1 hno hx
    go_wp2
    go_ret
    exact ⟨_, rfl, by rw [HF.out]; exact HO.out, hg1⟩

end

section
open Go.RowKit Go.Maps

/-- A map of bools that reads as a set. -/
def SetIs {α : Type} (κ : α → Lit) (D : DataW Unit) (S : α → Bool) : Prop := ∀ x, D.atKey (κ x) (.lit (.bool false)) = .lit (.bool (S x))
section
variable {α : Type} [DecidableEq α] {κ : α → Lit} {D : DataW Unit} {S : α → Bool}
omit [DecidableEq α] in
theorem SetIs.start : SetIs κ (.map []) fun _ => false := fun _ => rfl
theorem SetIs.put (hD : IsMap D) (hk : ∀ x, WideAt.IsKeyLit (κ x)) (hi : ∀ x y, κ x = κ y → x = y) (h : SetIs κ D S) (x : α) : SetIs κ (D.put (κ x) (.lit (.bool true))) fun y => S y || decide (y = x) := by
  intro y
  by_cases e : y = x
  · subst e; rw [atKey_put_same hD (hk y)]; simp
  · rw [atKey_put_other (fun h' => e (hi _ _ h')), h y]; simp [e]
theorem SetIs.del (hi : ∀ x y, κ x = κ y → x = y) (h : SetIs κ D S) (x : α) : SetIs κ (D.del (κ x)) fun y => S y && !decide (y = x) := by
  intro y
  by_cases e : y = x
  · subst e; rw [atKey_del_same]; simp
  · rw [atKey_del_other (fun h' => e (hi _ _ h')), h y]; simp [e]
omit [DecidableEq α] in
theorem SetIs.congr {S' : α → Bool} (h : SetIs κ D S) (e : ∀ x, S x = S' x) : SetIs κ D S' := fun x => by rw [h x, e]
def memB (l : List α) (x : α) : Bool := decide (x ∈ l)
theorem SetIs.seen (hD : IsMap D) (hk : ∀ x, WideAt.IsKeyLit (κ x)) (hi : ∀ x y, κ x = κ y → x = y) {l : List α} {m : Nat} {x : α} (hx : l[m]? = some x) (h : SetIs κ D fun y => memB (l.take m) y) :
    SetIs κ (D.put (κ x) (.lit (.bool true))) fun y => memB (l.take (m + 1)) y :=
  (h.put hD hk hi x).congr fun y => by simp [memB, take_snoc hx]
theorem SetIs.left (hi : ∀ x y, κ x = κ y → x = y) {l : List α} {m : Nat} {x : α} (hx : l[m]? = some x) (h : SetIs κ D fun y => memB l y && !memB (l.take m) y) :
    SetIs κ (D.del (κ x)) fun y => memB l y && !memB (l.take (m + 1)) y :=
  (h.del hi x).congr fun y => by
    rw [take_snoc hx, Bool.eq_iff_iff]
    simp only [memB, Bool.and_eq_true, Bool.not_eq_true', decide_eq_true_eq, decide_eq_false_iff_not, List.mem_append, List.mem_singleton, not_or]
    exact and_assoc
end
/-- Dots as keys. -/
theorem rowDotK : (30 : TypeId) < Tryz.prog.types.size := of_decide_eq_true (by kernel_rfl)
theorem keyDotK : Tryz.prog.keyTypeAt 2 30 = true := by kernel_rfl
theorem laidOutK : laidOutB Tryz.prog = true := by kernel_rfl
theorem keyedOf {P : Program} {k : TypeId} {fs : Array Field} (h : P.underlying k = some (.struct fs)) (hl : laidOutB P = true) (hr : k < P.types.size) (hk : P.keyTypeAt 2 k = true) : Keyed P k :=
  Keyed.of_law (deep_law_laid hl (m := 2) (by decide) hr hk (by rw [h]))
theorem lawDotK : Keyed Tryz.prog 30 := keyedOf Tryz.underlying30 laidOutK rowDotK keyDotK
abbrev DKey := { d : Int × Int // validD d.1 d.2 = true }
def dKey (x : DKey) : Lit := .string (keyBytes [.int .i64 x.1.1, .int .i64 x.1.2])
theorem keyOf_two {P : Program} {k e : TypeId} {fs : Array Field} {f g : Field} (h : P.underlying k = some (.struct fs)) (hfs : fs = #[f, g]) (hf : f.type = e ∧ f.offset = 0 ∧ (f.name != "_") = true) (hg : g.type = e ∧ g.offset = 1 ∧ (g.name != "_") = true) (he : P.underlying e = some (.int .i64)) (hk : P.keyType k = true) (hc : P.cellsOf k = 2) (hi : P.cellsOf e = 1) (hn : 0 < P.types.size)
    {a b : Int} (h1 : (Lit.int .i64 a).wf = true) (h2 : (Lit.int .i64 b).wf = true) : keyOf P k (.agg #[.int .i64 a, .int .i64 b]) = some (.string (keyBytes [.int .i64 a, .int .i64 b])) := by
  obtain ⟨n, hn'⟩ : ∃ n, P.types.size = n + 1 := ⟨P.types.size - 1, by omega⟩
  subst hfs
  unfold keyOf
  simp [h, hk, Value.formed, hc, hn', Program.keyLits, hi, he, h1, h2, Value.cells, hf.1, hf.2.1, hg.1, hg.2.1, hf.2.2, hg.2.2]
theorem keyTyK : Tryz.prog.keyType 30 = true := by kernel_rfl
theorem cellsK : Tryz.prog.cellsOf 30 = 2 := by kernel_rfl
theorem cellK : Tryz.prog.cellsOf 3 = 1 := by kernel_rfl
theorem keyOf_dot (x : DKey) : keyOf Tryz.prog 30 (.agg #[.int .i64 x.1.1, .int .i64 x.1.2]) = some (dKey x) := by
  have hv := x.2
  simp only [validD, decide_eq_true_eq] at hv
  exact keyOf_two Tryz.underlying30 rfl ⟨rfl, rfl, by decide⟩ ⟨rfl, rfl, by decide⟩ Tryz.underlying3 keyTyK cellsK cellK (Nat.lt_of_le_of_lt (Nat.zero_le _) rowDotK) (WalkArith.wf_i64 (by omega)) (WalkArith.wf_i64 (by omega))

theorem dKey_is (x : DKey) : WideAt.IsKeyLit (dKey x) := trivial
theorem dKey_inj (x y : DKey) (h : dKey x = dKey y) : x = y := by
  have h1 := keyOf_dot x
  rw [h] at h1
  have e := lawDotK.inj h1 (keyOf_dot y)
  apply Subtype.ext
  have e' := congrArg Array.toList (Value.agg.inj e)
  have e1 : x.1.1 = y.1.1 := (Value.int.inj (List.cons.inj e').1).2
  have e2 : x.1.2 = y.1.2 := (Value.int.inj (List.cons.inj (List.cons.inj e').2).1).2
  exact Prod.ext e1 e2

end

end Go.Proofs.YtiaehpdgpjhecaaGreat
