/- Several texts in one: DotF, DotG, DotH, DotI. -/
import Derived.Test.YtiaehpdgpjhecaaGreatPAB
namespace Go.Proofs.YtiaehpdgpjhecaaGreat

section
open Go.RowKit

/-- Nothing stands twice side by side among the first m + 1. -/
def NoTwice (xs : List (Int × Int)) (m : Nat) : Prop := ∀ j p q, j < m → xs[j]? = some p → xs[j + 1]? = some q → p ≠ q
theorem NoTwice.dd {xs : List (Int × Int)} {m : Nat} (h : NoTwice xs m) : dd (xs.take (m + 1)) = xs.take (m + 1) := by
  refine dd_same _ fun j p q h1 h2 => ?_
  rw [List.getElem?_take] at h1 h2
  split at h1
  · split at h2
    · exact h j p q (by omega) h1 h2
    · cases h2
  · cases h1
theorem NoTwice.step {xs : List (Int × Int)} {m : Nat} {p q : Int × Int} (h : NoTwice xs m) (hp : xs[m]? = some p) (hq : xs[m + 1]? = some q) (hne : p ≠ q) : NoTwice xs (m + 1) := by
  intro j p' q' hj h1 h2
  by_cases e : j = m
  · subst e; rw [hp] at h1; rw [hq] at h2; cases h1; cases h2; exact hne
  · exact h j p' q' (by omega) h1 h2

theorem grown_trans' {a b c : World} {row : Option Nat} (h : a.grownBy b row) (k : b.grownBy c row) : a.grownBy c row :=
  ⟨k.os.trans h.os, k.tape.trans h.tape, k.output.trans h.output, Nat.le_trans h.size k.size, fun i hi hne => (k.block i (Nat.lt_of_lt_of_le hi h.size) hne).trans (h.block i hi hne)⟩
theorem get_tail {α : Type} {P xs : List α} {j : Nat} (h : P.length ≤ j) : (P ++ xs.drop P.length)[j]? = xs[j]? := by
  rw [List.getElem?_append_right h, List.getElem?_drop]
  congr 1; omega
theorem set_tail {α : Type} {P xs : List α} {x : α} (h : P.length < xs.length) : (P ++ xs.drop P.length).set P.length x = (P ++ [x]) ++ xs.drop (P ++ [x]).length := by
  rw [List.set_append_right _ _ (Nat.le_refl _), Nat.sub_self, List.drop_eq_getElem_cons h, List.set_cons_zero]
  simp
theorem grown_drewN (w : World) (n : Nat) (row : Option Nat) : w.grownBy (w.drewN n) row := ⟨rfl, rfl, rfl, Nat.le_refl _, fun _ _ _ => rfl⟩
theorem own_drewN {w : World} {base : Nat} {e : TypeId} {k n : Nat} {v : Value} {cs : List Value} (h : w.ownsRow base e k v n cs) (q : Nat) : (w.drewN q).ownsRow base e k v n cs := h

set_option maxHeartbeats 1000000 in
theorem slicesCompact (v : Value) (base : Nat) (xs : List (Int × Int)) (w : World) (h : w.ownsRow base 30 2 v xs.length (cellsOf encD xs)) (hm : xs.length ≤ 1000000) :
    Calls Tryz.prog 191 #[v] w fun e w' => ∃ v', e = .returned v' ∧ w'.ownsRow base 30 2 v' (dd xs).length (cellsOf encD (dd xs)) ∧ w.grownBy w' v.ownBlock ∧ v'.ownBlock = v.ownBlock := by
  rcases Nat.lt_or_ge xs.length 2 with h0 | h0
  · obtain ⟨A, c, rfl, _⟩ := SlAt.of_own encD_len h
    have hd : dd xs = xs := dd_same _ fun j p q h1 h2 => by
      have : j + 1 < xs.length := by
        rcases Nat.lt_or_ge (j + 1) xs.length with h | h
        · exact h
        · rw [List.getElem?_eq_none h] at h2; cases h2
      omega
    rw [hd]
    have H := Lib.hid h
    clear h hd
    go_enter Tryz.func191, Tryz.ntmps191
    go_wp2
    go_ret
    exact ⟨_, rfl, H.out, World.grownBy.refl _ _, rfl⟩
  · obtain ⟨g, cap, rfl, hb, hg⟩ := h.form (by omega)
    have hcap : xs.length ≤ cap ∧ cap ≤ maxLen := by
      rcases h.2 with ⟨h1, _⟩ | ⟨g', cap', cur, hv, _, _, hn, hc, _⟩
      · cases h1
      · cases hv; exact ⟨hn, hc⟩
    obtain ⟨hcap1, hcap2⟩ := hcap
    unfold maxLen at hcap2
    have H := Lib.hid h
    clear h
    go_enter Tryz.func191, Tryz.ntmps191
    go_wp2
    go_loopw [3] (fun i wr => ∃ m q : Nat, m + 1 ≤ xs.length ∧ i = .int .i64 ((m : Int) + 1) ∧ Hid (wr = w.drewN q) ∧ Hid (NoTwice xs m)) (fun i _ => xs.length - (intOf i).toNat)
    case atStart => exact ⟨0, 0, by omega, rfl, rfl, fun j p q h => by omega⟩
    case round =>
      obtain ⟨m, q, hk2, rfl, hw, hs⟩ := hrel
      have hown : wr.ownsRow base 30 2 (.slice (some ⟨g, 0, none⟩) xs.length cap) xs.length (cellsOf encD xs) := by rw [hw.out]; exact H.out
      have hgr : w.grownBy wr (some g) := by rw [hw.out]; exact grown_drewN _ _ _
      have HO := Lib.hid hown
      have HG := Lib.hid hgr
      clear hgr
      by_cases hlt : m + 1 < xs.length
      · obtain ⟨⟨r, c⟩, hx1⟩ : ∃ x, xs[m]? = some x := ⟨_, List.getElem?_eq_getElem (by omega)⟩
        obtain ⟨⟨r', c'⟩, hx2⟩ : ∃ x, xs[m + 1]? = some x := ⟨_, List.getElem?_eq_getElem hlt⟩
        obtain ⟨l0, l1, _, _⟩ := own_dot hown hx1
        obtain ⟨l2, l3, _, _⟩ := own_dot hown hx2
        clear hown
        have HX1 := Lib.hid hx1; clear hx1
        have HX2 := Lib.hid hx2; clear hx2
        by_cases hq : r' = r ∧ c' = c
        · obtain ⟨rfl, rfl⟩ := hq
          go_wp2
          go_quiet (fail)
          have hown2 : (wr.drewN nq).ownsRow base 30 2 (.slice (some ⟨g, 0, none⟩) xs.length cap) xs.length (cellsOf encD xs) := own_drewN HO.out nq
          have hgr2 : w.grownBy (wr.drewN nq) (some g) := grown_trans' HG.out (grown_drewN _ _ _)
          have hP : dd (xs.take (m + 1)) = xs.take (m + 1) := hs.out.dd
          have hP2 : dd (xs.take (m + 2)) = dd (xs.take (m + 1)) := by rw [dd_step HX1.out HX2.out, if_pos rfl]
          have hlen : (xs.take (m + 1)).length = m + 1 := by simp; omega
          have hst : ∃ P, (P : List (Int × Int)).length = m + 1 ∧ P = dd (xs.take (m + 2)) ∧ P ++ xs.drop P.length = xs := ⟨xs.take (m + 1), hlen, by rw [hP2, hP], by rw [hlen]; exact List.take_append_drop _ _⟩
          have HST := Lib.hid hst
          clear hst hlen hP hP2
          generalize hwo : wr.drewN nq = wo at *
          have HWO := Lib.hid hwo
          clear hwo
          have HO2 := Lib.hid hown2
          have HG2 := Lib.hid hgr2
          clear hown2 hgr2 hw HO HG l0 l1 l2 l3 HX1 HX2
          go_wp2
          go_loopw [3, 5] (fun k i wr => ∃ (P : List (Int × Int)) (t : Nat), m + 1 + (t + 1) ≤ xs.length ∧ P.length ≤ m + 1 + t ∧ k = .int .i64 (P.length : Int) ∧ i = .int .i64 ((t : Int) + 1) ∧ Hid (P = dd (xs.take (m + 1 + (t + 1)))) ∧
              Hid (wr.ownsRow base 30 2 (.slice (some ⟨g, 0, none⟩) xs.length cap) xs.length (cellsOf encD (P ++ xs.drop P.length))) ∧ Hid (w.grownBy wr (some g))) (fun _ i _ => xs.length - (intOf i).toNat)
          case atStart =>
            obtain ⟨P, h1, h2, h3⟩ := HST.out
            exact ⟨P, 0, by omega, by omega, by rw [h1]; rfl, rfl, h2, by rw [h3]; exact HO2, HG2⟩
          case round =>
            obtain ⟨P, t, hk1, hk3, rfl, rfl, hP, hown3, hgr3⟩ := hrel
            by_cases hlt2 : m + 1 + (t + 1) < xs.length
            · obtain ⟨⟨ra, ca⟩, hxa⟩ : ∃ x, xs[m + 1 + t]? = some x := ⟨_, List.getElem?_eq_getElem (by omega)⟩
              obtain ⟨⟨rb, cb⟩, hxb⟩ : ∃ x, xs[m + 1 + (t + 1)]? = some x := ⟨_, List.getElem?_eq_getElem hlt2⟩
              obtain ⟨⟨rp, cp⟩, hxp⟩ : ∃ x, xs[P.length]? = some x := ⟨_, List.getElem?_eq_getElem (by omega)⟩
              obtain ⟨l0, l1, _, _⟩ := own_dot hown3.out (j := m + 1 + t) ((get_tail (by omega)).trans hxa)
              obtain ⟨l2, l3, _, _⟩ := own_dot hown3.out (j := m + 1 + (t + 1)) ((get_tail (by omega)).trans hxb)
              obtain ⟨l4, l5, l6, l7⟩ := own_dot hown3.out (j := P.length) ((get_tail (by omega)).trans hxp)
              rw [Nat.add_mul (m + 1)] at l0 l1 l2 l3
              have hdd : dd (xs.take (m + 1 + (t + 1 + 1))) = if ((ra, ca) : Int × Int) = (rb, cb) then P else P ++ [(rb, cb)] := by
                have := dd_step (xs := xs) (m := m + 1 + t) hxa hxb
                rw [hP.out]; exact this
              have hlt3 : t + 1 < xs.length - (m + 1) := by omega
              have hltP : P.length < xs.length := by omega
              have HXA := Lib.hid hxa; clear hxa
              have HXB := Lib.hid hxb; clear hxb
              have HXP := Lib.hid hxp; clear hxp
              by_cases hq : rb = ra ∧ cb = ca
              · obtain ⟨rfl, rfl⟩ := hq
                rw [if_pos rfl] at hdd
                have HDD := Lib.hid hdd; clear hdd
                go_wp2
                go_quiet (fail)
                go_wp2
                go_roundw
                case rel => exact ⟨P, t + 1, by omega, by omega, rfl, by go_num, HDD.out.symm, own_drewN hown3.out nq, grown_trans' hgr3.out (grown_drewN _ _ _)⟩
                case measure => simp [intOf]; omega
              · rw [if_neg (fun e => by injection e with e1 e2; exact hq ⟨e1.symm, e2.symm⟩)] at hdd
                have HDD := Lib.hid hdd; clear hdd
                have hos := fun q => own_store (w := wr.drewN q) (r := rb) (c := cb) (own_drewN hown3.out q) (j := P.length) (by simp; omega)
                rw [set_tail hltP] at hos
                have HOS := Lib.hid hos; clear hos
                have hrc : rb = ra → ¬ cb = ca := fun e1 e2 => hq ⟨e1, e2⟩
                clear hq
                by_cases hr : rb = ra
                · have hc := hrc hr
                  clear hrc
                  subst hr
                  go_wp2
                  go_quiet (fail)
                  go_wp2
                  go_roundw
                  case rel => exact ⟨P ++ [(rb, cb)], t + 1, by omega, by simp; omega, by simp, by go_num, HDD.out.symm, (HOS.out nq).1, grown_trans' (grown_trans' hgr3.out (grown_drewN _ _ _)) (HOS.out nq).2⟩
                  case measure => simp [intOf]; omega
                · clear hrc
                  go_wp2
                  go_quiet (fail)
                  go_wp2
                  go_roundw
                  case rel => exact ⟨P ++ [(rb, cb)], t + 1, by omega, by simp; omega, by simp, by go_num, HDD.out.symm, (HOS.out nq).1, grown_trans' (grown_trans' hgr3.out (grown_drewN _ _ _)) (HOS.out nq).2⟩
                  case measure => simp [intOf]; omega
            · have hPx : P = dd xs := by rw [hP.out, List.take_of_length_le (by omega)]
              have hltP : P.length < xs.length := by omega
              obtain ⟨w', hcl, ho', hg'⟩ := run_clear_own (P := Tryz.prog) (z := .agg #[.int .i64 0, .int .i64 0]) (k := 2) Tryz.underlying22 Tryz.zeroValue30 rfl (by simp [Value.cells]; rfl) hown3.out hltP (cap - P.length)
              have hct : (cellsOf encD (P ++ xs.drop P.length)).take (P.length * 2) = cellsOf encD P := by
                rw [show cellsOf encD (P ++ xs.drop P.length) = cellsOf encD P ++ cellsOf encD (xs.drop P.length) by simp [cellsOf], ← cellsOf_length encD_len P, List.take_left]
              rw [hct] at ho'
              have hP0 : 1 ≤ P.length := by
                obtain ⟨x, hx⟩ : ∃ x, xs[0]? = some x := ⟨_, List.getElem?_eq_getElem (by omega)⟩
                obtain ⟨y, l, e⟩ : ∃ y l, xs = y :: l := by
                  cases hxs : xs with
                  | nil => rw [hxs] at hx; simp at hx
                  | cons y l => exact ⟨y, l, rfl⟩
                obtain ⟨t', ht'⟩ := dd_head y l
                rw [hPx, e, ht']; simp
              have HPX := Lib.hid hPx
              have HO := Lib.hid ho'
              have hgf := grown_trans' hgr3.out hg'
              clear hPx ho' hg' hct hown3 hgr3 hP HO2 HG2 HST
              have hPc : P.length ≤ cap := by omega
              go_wp2
              go_ret
              exact ⟨_, rfl, by rw [← HPX.out]; exact HO.out, hgf, rfl⟩
        · have hne : ((r, c) : Int × Int) ≠ (r', c') := fun e => by injection e with e1 e2; exact hq ⟨e1.symm, e2.symm⟩
          have HN := Lib.hid (hs.out.step HX1.out HX2.out hne)
          clear hne
          by_cases hr : r' = r
          · have hc : ¬ c' = c := fun e => hq ⟨hr, e⟩
            clear hq
            subst hr
            go_wp2
            go_quiet (fail)
            go_wp2
            go_roundw
            case rel => exact ⟨m + 1, q + nq, by omega, by go_num, by rw [hw.out]; exact World.drewN_drewN _ _ _, HN⟩
            case measure => simp [intOf]; omega
          · clear hq
            go_wp2
            go_quiet (fail)
            go_wp2
            go_roundw
            case rel => exact ⟨m + 1, q + nq, by omega, by go_num, by rw [hw.out]; exact World.drewN_drewN _ _ _, HN⟩
            case measure => simp [intOf]; omega
      · have hd : dd xs = xs := by
          have := hs.out.dd
          rwa [List.take_of_length_le (by omega)] at this
        have HD := Lib.hid hd
        clear hd hown
        go_wp2
        go_ret
        exact ⟨_, rfl, by rw [HD.out]; exact HO.out, HG.out, rfl⟩

end

section
open Go.RowKit

/-- What order makes of a list. -/
def ordL (xs : List (Int × Int)) : List (Int × Int) := dd (sortedL xs)
theorem ordL_len (xs : List (Int × Int)) : (ordL xs).length ≤ xs.length := by
  have := dd_len (sortedL xs)
  simpa [ordL, sortedL] using this

set_option maxHeartbeats 400000 in
theorem dotOrder (v : Value) (base : Nat) (xs : List (Int × Int)) (w : World) (h : w.ownsRow base 30 2 v xs.length (cellsOf encD xs)) (hm : xs.length ≤ 1000000) :
    Calls Tryz.prog 136 #[v] w fun e w' => ∃ v', e = .returned v' ∧ w'.ownsRow base 30 2 v' (ordL xs).length (cellsOf encD (ordL xs)) ∧ w.grownBy w' v.ownBlock ∧ v'.ownBlock = v.ownBlock := by
  have hs := sortFunc v base xs w h hm
  have hl : (sortedL xs).length = xs.length := by simp [sortedL]
  have hc := fun W hW => slicesCompact v base (sortedL xs) W hW (by omega)
  have HS := Lib.hid hs
  have HC := Lib.hid hc
  clear hs hc h hl
  go_enter Tryz.func136, Tryz.ntmps136
  go_wp2_with fail
  refine HS.out.mono ?_
  rintro e w1 ⟨rfl, ho1, hg1⟩
  have HO := Lib.hid ho1; clear ho1
  go_wp2_with fail
  refine (HC.out _ HO.out).mono ?_
  rintro e w2 ⟨v', rfl, ho2, hg2, hv⟩
  have HO2 := Lib.hid ho2; clear ho2
  have HV := Lib.hid hv; clear hv
  go_wp2
  go_ret
  exact ⟨_, rfl, HO2.out, grown_trans' hg1 hg2, HV.out⟩

/-- A row of the call's own, and all that was there as it was. -/
def Mine (w w' : World) (v : Value) (xs : List (Int × Int)) : Prop := w'.ownsRow w.heap.size 30 2 v xs.length (cellsOf encD xs) ∧ Below w.heap.size w w'
theorem Mine.holds {w w' : World} {v : Value} {xs : List (Int × Int)} (h : Mine w w' v xs) : Holds w' v xs := by
  obtain ⟨A, c, rfl, h1, h2, h3⟩ := SlAt.of_own encD_len h.1
  exact ⟨A, c, rfl, h3, h1, h2⟩

set_option maxHeartbeats 400000 in
theorem slicesClone (A : Option Addr) (xs : List (Int × Int)) (cap : Nat) (w : World) (hx : DotsAt w A xs) (hm : xs.length ≤ 1000000) :
    Calls Tryz.prog 166 #[.slice A xs.length cap] w fun e w' => ∃ v, e = .returned v ∧ Mine w w' v xs := by
  obtain ⟨i0, hi0, hz0, hz1, hz2⟩ := info_parts infoD
  match A with
  | none =>
    have h0 : xs = [] := by
      cases xs with
      | nil => rfl
      | cons x r => obtain ⟨_, _, h, _⟩ := hx (by simp); cases h
    subst h0
    have hc : Calls Tryz.prog 166 #[.slice none 0 cap] w _ := AnyE.slices_Clone_nil Tryz.cloneDots 0 cap w
    refine hc.mono ?_
    rintro e w' ⟨rfl, rfl⟩
    exact ⟨_, rfl, World.ownsRow_nil _ _ _ _, Below.refl _ _⟩
  | some a =>
    have q22 : ∀ (w : World) (a : Option Addr) (n c n' c' : Nat), (binOp .eql 22 (.slice a n c) (.slice none n' c')).run Tryz.prog w = .ok (.bool a.isNone) w := fun w a n c n' c' => Lib.run_eql_slice_nil w _ _ a n c n' c' Tryz.underlying22
    go_enter Tryz.func166, Tryz.ntmps166
    go_wp2_with (at_builtin; refine wpList_append_sl _ encD 2 rfl (.tmp 5) (.tmp 6) 22 rfl encD_len (by omega) encD_one w.heap.size 30 i0 _ 16 Tryz.underlying22 hi0 hz0 hz1 hz2 rfl _ [] rfl (World.ownsRow_made w #[] 0 (Nat.le_refl _) (Nat.zero_le _) (by simp)) (some a) _ cap xs rfl rfl (hx.below ((Below.refl _ w).alloc (Nat.le_refl _) _)) (by simp [maxLen]; omega) (by simp; omega) (by simp) ?_; intro v1 w1 hown1 hg1 hat1)
    rw [List.nil_append] at hown1
    have HO := Lib.hid hown1
    clear hown1
    go_wp2
    go_ret
    refine ⟨_, rfl, HO.out, ((Below.refl _ w).alloc (Nat.le_refl _) _).grown hg1 (by simp) ?_⟩
    intro k hk
    have e0 : some w.heap.size = some k := hk
    injection e0 with e
    omega

theorem Mine.step {w w1 w2 : World} {v v' : Value} {xs ys : List (Int × Int)} (h : Mine w w1 v xs) (ho : w2.ownsRow w.heap.size 30 2 v' ys.length (cellsOf encD ys)) (hg : w1.grownBy w2 v.ownBlock) : Mine w w2 v' ys :=
  ⟨ho, h.2.grown hg h.2.size (fun k hk => (h.1.lt k hk).1)⟩

set_option maxHeartbeats 400000 in
theorem dotSet (A : Option Addr) (xs : List (Int × Int)) (cap : Nat) (w : World) (hx : DotsAt w A xs) (hm : xs.length ≤ 1000000) :
    Calls Tryz.prog 111 #[.slice A xs.length cap] w fun e w' => ∃ v, e = .returned v ∧ Mine w w' v (ordL xs) := by
  have hc := slicesClone A xs cap w hx hm
  have ho := fun v W hW => dotOrder v w.heap.size xs W hW hm
  have HC := Lib.hid hc
  have HR := Lib.hid ho
  clear hc ho
  go_enter Tryz.func111, Tryz.ntmps111
  go_wp2_with fail
  refine HC.out.mono ?_
  rintro e w1 ⟨v, rfl, h1⟩
  have H1 := Lib.hid h1; clear h1
  go_wp2_with fail
  refine (HR.out _ _ H1.out.1).mono ?_
  rintro e w2 ⟨v', rfl, ho2, hg2, hv⟩
  have H2 := Lib.hid (H1.out.step ho2 hg2); clear ho2 hg2 hv
  go_wp2
  go_ret
  exact ⟨_, rfl, H2.out⟩

end

section
open Go.RowKit

set_option maxRecDepth 100000

/-- slices.Grow of nil by n: a row of the call's own with nothing in it. -/
theorem slicesGrow (n : Nat) (w : World) (hn : n ≤ 2000000) :
    Calls Tryz.prog 192 #[.slice none 0 0, .int .i64 n] w fun e w' => ∃ v, e = .returned v ∧ Mine w w' v [] := by
  obtain ⟨i0, hi0, hz0, hz1, hz2⟩ := info_parts infoD
  rcases Nat.eq_zero_or_pos n with h0 | h0
  · subst h0
    have hc : Calls Tryz.prog 192 #[.slice none 0 0, .int .i64 ((0 : Nat) : Int)] w _ := Any8.slices_Grow_room Tryz.growDots none 0 0 0 w (by omega) (by omega) (by omega) (by omega)
    refine hc.mono ?_
    rintro e w' ⟨rfl, rfl⟩
    exact ⟨_, rfl, World.ownsRow_nil _ _ _ _, Below.refl _ _⟩
  · have hc : Calls Tryz.prog 192 #[.slice none 0 0, .int .i64 (n : Int)] w _ := Any8.slices_Grow_grow Tryz.growDots i0 (.agg #[.int .i64 0, .int .i64 0]) hi0 hz0 (by omega) none 0 0 n [] w (by omega) (by omega) (by rw [hz2]; omega) (by omega) (by simp) (fun _ => rfl) (fun a h => by cases h)
    refine hc.mono ?_
    rintro e w' ⟨rfl, rfl⟩
    have hge := grownCap_ge w (0 + n) 0 30
    have hcm := grownCap_le_maxLen w (0 + n) 0 30 (by simp [maxLen]; omega)
    have hct : Tryz.growDots_ren.t 25 = 30 := rfl
    refine ⟨_, rfl, World.ownsRow_made w.drew _ _ (Nat.le_refl _) hcm ?_, (Below.refl _ w).drew.alloc (Nat.le_refl _) _⟩
    rw [hct]
    simp only [Array.size_append, size_zeroCells, Value.cells]
    generalize grownCap w (0 + n) 0 30 = C at *
    show 0 + (0 + n - 0) * 2 + (C - (0 + n)) * 2 = C * 2
    omega

set_option maxHeartbeats 1000000 in
theorem slicesConcat (A B : Option Addr) (xs ys : List (Int × Int)) (b cap c c' : Nat) (w : World) (hx : DotsAt w A xs) (hy : DotsAt w B ys) (hm : xs.length + ys.length ≤ 1000000)
    (h0 : w.cell? ⟨b, 0, none⟩ = some (.slice A xs.length c)) (h1 : w.cell? ⟨b, 1, none⟩ = some (.slice B ys.length c')) :
    Calls Tryz.prog 137 #[.slice (some ⟨b, 0, none⟩) 2 cap] w fun e w' => ∃ v, e = .returned v ∧ Mine w w' v (xs ++ ys) := by
  obtain ⟨i0, hi0, hz0, hz1, hz2⟩ := info_parts infoD
  have hbl := World.block_lt_of_cell? w _ h0
  have hg : ∀ W, Calls Tryz.prog 192 #[.slice none 0 0, .int .i64 ((xs.length : Int) + (ys.length : Int))] W fun e w' => ∃ v, e = .returned v ∧ Mine W w' v [] := fun W => by
    have := slicesGrow (xs.length + ys.length) W (by omega)
    rwa [Int.natCast_add] at this
  have HG := Lib.hid hg; clear hg
  go_enter Tryz.func137, Tryz.ntmps137
  go_wp2
  refine wp_loop_rounds 3 ?_
  rw [rounds_succ]
  go_wp2
  rw [rounds_succ]
  go_wp2
  rw [rounds_succ]
  go_wp2_with fail
  refine (HG.out _).mono ?_
  rintro e w1 ⟨v, rfl, hm1⟩
  have k0 := (hm1.2.cell (p := ⟨b, 0, none⟩) hbl).trans h0
  have k1 := (hm1.2.cell (p := ⟨b, 1, none⟩) hbl).trans h1
  have HM := Lib.hid hm1
  have H1 := Lib.hid h1
  clear hm1 h0 h1
  go_wp2
  refine wp_loop_rounds 3 ?_
  rw [rounds_succ]
  go_wp2_with (at_builtin; refine wpList_append_sl (o := ⟨some 33, _, _, _, _, _⟩) _ encD 2 rfl (.tmp 31) (.tmp 32) 22 rfl encD_len (by omega) encD_one w.heap.size 30 i0 _ 16 Tryz.underlying22 hi0 hz0 hz1 hz2 rfl v [] rfl HM.out.1 A _ c xs rfl rfl (hx.below HM.out.2) (by simp [maxLen]; omega) (by simp; omega) HM.out.2.size ?_; intro v2 w2 hown2 hg2 hat2)
  have hm2 : Mine w w2 v2 xs := HM.out.step (by simpa using hown2) hg2
  have j1 := (hm2.2.cell (p := ⟨b, 1, none⟩) hbl).trans H1.out
  have HM2 := Lib.hid hm2
  clear hm2 hown2 hg2 hat2 k0 k1 HM
  rw [rounds_succ]
  go_wp2_with (at_builtin; refine wpList_append_sl (o := ⟨some 33, _, _, _, _, _⟩) _ encD 2 rfl (.tmp 31) (.tmp 32) 22 rfl encD_len (by omega) encD_one w.heap.size 30 i0 _ 16 Tryz.underlying22 hi0 hz0 hz1 hz2 rfl v2 xs rfl HM2.out.1 B _ c' ys rfl rfl (hy.below HM2.out.2) (by simp only [maxLen]; omega) (by omega) HM2.out.2.size ?_; intro v3 w3 hown3 hg3 hat3)
  have hm3 : Mine w w3 v3 (xs ++ ys) := HM2.out.step hown3 hg3
  have HM3 := Lib.hid hm3
  clear hm3 hown3 hg3 hat3 j1 HM2
  rw [rounds_succ]
  go_wp2
  go_ret
  exact ⟨_, rfl, HM3.out⟩

theorem Mine.base {w0 w w' : World} {v : Value} {xs : List (Int × Int)} (hb : Below w0.heap.size w0 w) (h : Mine w w' v xs) : Mine w0 w' v xs := by
  refine ⟨⟨h.1.1, ?_⟩, below_trans hb h.2⟩
  rcases h.1.2 with h1 | ⟨g, cap, cur, hv, hg, r⟩
  · exact .inl h1
  · exact .inr ⟨g, cap, cur, hv, Nat.le_trans hb.size hg, r⟩

set_option maxHeartbeats 400000 in
theorem dotUnion (A B : Option Addr) (xs ys : List (Int × Int)) (c c' : Nat) (w : World) (hx : DotsAt w A xs) (hy : DotsAt w B ys) (hm : xs.length + ys.length ≤ 1000000) :
    Calls Tryz.prog 77 #[.slice A xs.length c, .slice B ys.length c'] w fun e w' => ∃ v, e = .returned v ∧ Mine w w' v (ordL (xs ++ ys)) := by
  have hc := fun b cap W hW h0 h1 => slicesConcat A B xs ys b cap c c' W (hx.below hW) (hy.below hW) hm h0 h1
  have ho := fun v base W hW => dotOrder v base (xs ++ ys) W hW (by simpa using hm)
  have HC := Lib.hid hc
  have HR := Lib.hid ho
  clear hc ho
  go_enter Tryz.func77, Tryz.ntmps77
  go_wp2_with fail
  have hb := (Below.refl w.heap.size w).alloc (Nat.le_refl _) (.cells #[.slice A xs.length c, .slice B ys.length c'] 22)
  refine (HC.out _ _ _ hb (by go_simp) (by go_simp)).mono ?_
  rintro e w1 ⟨v, rfl, h1⟩
  have H1 := Lib.hid (h1.base hb); clear h1
  go_wp2_with fail
  refine (HR.out _ _ _ H1.out.1).mono ?_
  rintro e w2 ⟨v', rfl, ho2, hg2, hv⟩
  have H2 := Lib.hid (H1.out.step ho2 hg2); clear ho2 hg2 hv
  go_wp2
  go_ret
  exact ⟨_, rfl, H2.out⟩

end

section
open Go.RowKit

/-- In increasing order, each once. -/
def Inc (s : List (Int × Int)) : Prop := s.Pairwise fun p q => ltD p q = true

theorem ltD_irrefl (p : Int × Int) : ltD p p = false := by simp [ltD, lessD]
theorem cmpD_neg {p q : Int × Int} : cmpD p.1 p.2 q.1 q.2 < 0 ↔ ltD p q = true := by
  unfold cmpD ltD
  cases lessD p.1 p.2 q.1 q.2
  · simp; split <;> simp
  · simp
theorem cmpD_zero {p q : Int × Int} : cmpD p.1 p.2 q.1 q.2 = 0 ↔ p = q := by
  constructor
  · intro h
    refine ltD_total p q ?_ ?_
    · unfold cmpD at h; unfold ltD
      cases h1 : lessD p.1 p.2 q.1 q.2
      · rfl
      · simp [h1] at h
    · unfold cmpD at h; unfold ltD
      cases h1 : lessD q.1 q.2 p.1 p.2
      · rfl
      · simp [h1] at h
        split at h <;> simp at h
  · rintro rfl
    have := ltD_irrefl p
    unfold ltD at this
    simp [cmpD, this]

theorem Inc.get {s : List (Int × Int)} (h : Inc s) {i j : Nat} {p q : Int × Int} (hi : s[i]? = some p) (hj : s[j]? = some q) (hij : i < j) : ltD p q = true := by
  have hil : i < s.length := by
    rcases Nat.lt_or_ge i s.length with h | h
    · exact h
    · rw [List.getElem?_eq_none h] at hi; cases hi
  have hjl : j < s.length := by
    rcases Nat.lt_or_ge j s.length with h | h
    · exact h
    · rw [List.getElem?_eq_none h] at hj; cases hj
  have := List.pairwise_iff_getElem.1 h i j hil hjl hij
  rw [List.getElem?_eq_getElem hil] at hi
  rw [List.getElem?_eq_getElem hjl] at hj
  cases hi; cases hj
  exact this

theorem search_found {s : List (Int × Int)} {d : Int × Int} {i : Nat} (hs : Inc s) (h1 : ∀ j p, j < i → s[j]? = some p → ltD p d = true) (h2 : ∀ j p, i ≤ j → s[j]? = some p → ltD p d = false) :
    d ∈ s ↔ s[i]? = some d := by
  constructor
  · intro hd
    obtain ⟨k, hk⟩ := List.mem_iff_getElem?.1 hd
    rcases Nat.lt_trichotomy k i with h | h | h
    · have := h1 k d h hk
      rw [ltD_irrefl] at this; cases this
    · subst h; exact hk
    · have hil : i < s.length := by
        rcases Nat.lt_or_ge k s.length with h' | h'
        · omega
        · rw [List.getElem?_eq_none h'] at hk; cases hk
      have hi := List.getElem?_eq_getElem hil
      have a := hs.get hi hk h
      have b := h2 i _ (Nat.le_refl _) hi
      rw [a] at b; cases b
  · exact fun h => List.mem_of_getElem? h

theorem ret_two {a b : Bool} {i : Int} (h : a = b) : Ending.returned (.tuple #[.int .i64 i, .bool a]) = .returned (.tuple #[.int .i64 i, .bool b]) := by rw [h]

set_option maxHeartbeats 1000000 in
theorem binarySearch (A : Option Addr) (s : List (Int × Int)) (cap : Nat) (r0 c0 : Int) (w : World) (hx : DotsAt w A s) (hm : s.length ≤ 1000000) (hs : Inc s) :
    Calls Tryz.prog 114 #[.slice A s.length cap, .agg #[.int .i64 r0, .int .i64 c0], .func (.func 115) #[] #[]] w fun e w' =>
      (∃ i : Int, e = .returned (.tuple #[.int .i64 i, .bool (decide ((r0, c0) ∈ s))])) ∧ Below w.heap.size w w' := by
  have HS := Lib.hid hs; clear hs
  go_enter Tryz.func114, Tryz.ntmps114
  go_wp2
  go_loopw [9, 10] (fun i j wr => ∃ a b : Nat, a ≤ b ∧ b ≤ s.length ∧ i = .int .i64 a ∧ j = .int .i64 b ∧ Below (w.heap.size + 1) (w.alloc (.cells #[.int .i64 r0, .int .i64 c0] 30)) wr ∧ Hid (∀ j p, j < a → s[j]? = some p → ltD p (r0, c0) = true) ∧ Hid (∀ j p, b ≤ j → s[j]? = some p → ltD p (r0, c0) = false)) (fun i j _ => (intOf j).toNat - (intOf i).toNat)
  case atStart => exact ⟨0, s.length, by omega, by omega, rfl, rfl, Below.refl _ _, fun j p h => by omega, fun j p h hp => by rw [List.getElem?_eq_none h] at hp; cases hp⟩
  case round =>
    obtain ⟨a, b, hab, hbn, rfl, rfl, hb1, hlo, hhi⟩ := hrel
    have hb : Below w.heap.size w wr := ((Below.refl _ w).alloc (Nat.le_refl _) _).trans (hb1.mono (by omega))
    have hz : w.heap.size + 1 ≤ wr.heap.size := by have := hb1.size; simpa using this
    have k0 := cell_far (w := wr) (a := ⟨w.heap.size, 0, none⟩) (v := .int .i64 r0) (show w.heap.size < wr.heap.size by omega) ((hb1.cell (p := ⟨w.heap.size, 0, none⟩) (by simp)).trans (by simp [World.cell?_alloc_new]))
    have k1 := cell_far (w := wr) (a := ⟨w.heap.size, 1, none⟩) (v := .int .i64 c0) (show w.heap.size < wr.heap.size by omega) ((hb1.cell (p := ⟨w.heap.size, 1, none⟩) (by simp)).trans (by simp [World.cell?_alloc_new]))
    by_cases hlt : a < b
    · obtain ⟨h, hh1, hh2⟩ : ∃ h : Nat, h * 2 ≤ a + b ∧ a + b < h * 2 + 2 := ⟨(a + b) / 2, by omega, by omega⟩
      have he : ((a : Int) + (b : Int)) / 2 = (h : Int) := by omega
      have HE := Lib.hid he; clear he
      obtain ⟨g, off, r, c, rfl, hbl, hx1, hc0, hc1⟩ := (hx.below hb).dot (j := h) (by omega)
      have l0 := fun p => cell_far (p := p) hbl hc0
      have l1 := fun p => cell_far (p := p) hbl hc1
      clear hc0 hc1
      have hr := fun W => dotCompare r c r0 c0 W
      have hneg := cmpD_neg (p := (r, c)) (q := (r0, c0))
      have HX1 := Lib.hid hx1; clear hx1
      generalize hv : cmpD r c r0 c0 = v at hr
      simp only [hv] at hneg
      clear hv
      have HR := Lib.hid hr; clear hr
      cases hq : ltD (r, c) (r0, c0)
      · rw [hq] at hneg
        have hv0 : 0 ≤ v := by
          rcases Int.lt_or_le v 0 with h' | h'
          · exact absurd (hneg.1 h') (by simp)
          · exact h'
        have HQ := Lib.hid hq; clear hq hneg
        go_wp2_with fail
        rw [HE.out]
        refine wp_region_far (by kernel_rfl) (by kernel_rfl) ?_
        repeat (go_big_quiet_step ((go_at_call 115; exact far_of (HR.out _))))
        refine wpQuiet_nil ?_
        rintro _ ⟨p, rfl⟩
        go_wp2
        go_roundw
        case rel =>
          refine ⟨a, h, by omega, by omega, rfl, rfl, hb1.trans ((below_far wr p).mono hz), hlo, (show Hid _ from fun j p hj hp => ?_)⟩
          rcases Nat.lt_or_ge h j with h' | h'
          · have := HS.out.get HX1.out hp h'
            cases hc : ltD p (r0, c0)
            · rfl
            · have := swoD.trans _ _ _ this hc
              rw [HQ.out] at this; cases this
          · obtain rfl : j = h := by omega
            rw [HX1.out] at hp; cases hp
            exact HQ.out
        case measure => simp [intOf]; omega
      · rw [hq] at hneg
        have hv0 : v < 0 := hneg.2 rfl
        have HQ := Lib.hid hq; clear hq hneg
        go_wp2_with fail
        rw [HE.out]
        refine wp_region_far (by kernel_rfl) (by kernel_rfl) ?_
        repeat (go_big_quiet_step ((go_at_call 115; exact far_of (HR.out _))))
        refine wpQuiet_nil ?_
        rintro _ ⟨p, rfl⟩
        go_wp2
        go_roundw
        case rel =>
          refine ⟨h + 1, b, by omega, by omega, by go_num, rfl, hb1.trans ((below_far wr p).mono hz), (show Hid _ from fun j p hj hp => ?_), hhi⟩
          rcases Nat.lt_or_ge j h with h' | h'
          · exact swoD.trans _ _ _ (HS.out.get hp HX1.out h') HQ.out
          · obtain rfl : j = h := by omega
            rw [HX1.out] at hp; cases hp
            exact HQ.out
        case measure => simp [intOf]; omega
    · have hab' : a = b := by omega
      subst hab'
      have hf := search_found HS.out hlo.out hhi.out
      have HF := Lib.hid hf; clear hf
      by_cases hlen : a < s.length
      · obtain ⟨g, off, r, c, rfl, hbl, hx1, hc0, hc1⟩ := (hx.below hb).dot (j := a) hlen
        have l0 := fun p => cell_far (p := p) hbl hc0
        have l1 := fun p => cell_far (p := p) hbl hc1
        clear hc0 hc1
        have hr := fun W => dotCompare r c r0 c0 W
        have hzr := cmpD_zero (p := (r, c)) (q := (r0, c0))
        generalize hv : cmpD r c r0 c0 = v at hr
        simp only [hv] at hzr
        clear hv
        have HR := Lib.hid hr; clear hr
        have HX1 := Lib.hid hx1; clear hx1
        by_cases hv0 : v = 0
        · have hd : decide ((r0, c0) ∈ s) = true := by
            have : (r0, c0) ∈ s := HF.out.2 (by rw [HX1.out, hzr.1 hv0])
            simp [this]
          have HD := Lib.hid hd
          subst hv0
          clear hd hzr
          go_wp2_with fail
          refine wp_region_far (by kernel_rfl) (by kernel_rfl) ?_
          repeat (go_big_quiet_step ((go_at_call 115; exact far_of (HR.out _))))
          refine wpQuiet_nil ?_
          rintro _ ⟨p, rfl⟩
          go_wp2
          go_ret2
          exact ⟨⟨_, ret_two (by simp [HD.out])⟩, hb.trans ((below_far wr p).mono hb.size)⟩
        · have hd : decide ((r0, c0) ∈ s) = false := by
            have : ¬ (r0, c0) ∈ s := fun hm => by
              have := HF.out.1 hm
              rw [HX1.out] at this
              injection this with this
              exact hv0 (hzr.2 this)
            simp [this]
          have hv1 : (v == 0) = false := by simp [hv0]
          have HD := Lib.hid hd
          clear hd hzr hv0
          go_wp2_with fail
          refine wp_region_far (by kernel_rfl) (by kernel_rfl) ?_
          repeat (go_big_quiet_step ((go_at_call 115; exact far_of (HR.out _))))
          refine wpQuiet_nil ?_
          rintro _ ⟨p, rfl⟩
          go_wp2
          go_ret2
          exact ⟨⟨_, ret_two (by simp [HD.out])⟩, hb.trans ((below_far wr p).mono hb.size)⟩
      · have hd : decide ((r0, c0) ∈ s) = false := by
          have : ¬ (r0, c0) ∈ s := fun hm => by
            have := HF.out.1 hm
            rw [List.getElem?_eq_none (by omega)] at this; cases this
          simp [this]
        have hdc : decide ((a : Int) < (s.length : Int)) = false := by simp; omega
        have HD := Lib.hid hd
        clear hd
        go_wp2_with fail
        refine wp_region_far (by kernel_rfl) (by kernel_rfl) ?_
        repeat (go_big_quiet_step ((fail)))
        refine wpQuiet_nil ?_
        rintro _ ⟨p, rfl⟩
        go_wp2
        go_ret2
        exact ⟨⟨_, ret_two (by simp [HD.out])⟩, hb.trans ((below_far wr p).mono hb.size)⟩

end

end Go.Proofs.YtiaehpdgpjhecaaGreat
