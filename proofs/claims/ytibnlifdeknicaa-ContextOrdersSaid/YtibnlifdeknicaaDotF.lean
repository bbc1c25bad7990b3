/- slices.Compact at dots, on a row of the call's own. -/
import Derived.Test.YtibnlifdeknicaaDotE
namespace Go.Proofs.Ytibnlifdeknicaa
open Go.RowKit

/-- Nothing stands twice side by side among the first m + 1. -/
def NoTwice (xs : List (Int × Int)) (m : Nat) : Prop := ∀ j p q, j < m → xs[j]? = some p → xs[j + 1]? = some q → p ≠ q
theorem NoTwice.dd {xs : List (Int × Int)} {m : Nat} (h : NoTwice xs m) : dd (xs.take (m + 1)) = xs.take (m + 1) := by
  refine dd_same _ fun j p q h1 h2 => ?_
  rw [List.getElem?_take] at h1 h2
  split at h1
  · split at h2
    · exact h j p q (by omega) h1 h2
    · cases h2
  · cases h1
theorem NoTwice.step {xs : List (Int × Int)} {m : Nat} {p q : Int × Int} (h : NoTwice xs m) (hp : xs[m]? = some p) (hq : xs[m + 1]? = some q) (hne : p ≠ q) : NoTwice xs (m + 1) := by
  intro j p' q' hj h1 h2
  by_cases e : j = m
  · subst e; rw [hp] at h1; rw [hq] at h2; cases h1; cases h2; exact hne
  · exact h j p' q' (by omega) h1 h2

theorem grown_trans' {a b c : World} {row : Option Nat} (h : a.grownBy b row) (k : b.grownBy c row) : a.grownBy c row :=
  ⟨k.os.trans h.os, k.tape.trans h.tape, k.output.trans h.output, Nat.le_trans h.size k.size, fun i hi hne => (k.block i (Nat.lt_of_lt_of_le hi h.size) hne).trans (h.block i hi hne)⟩
theorem get_tail {α : Type} {P xs : List α} {j : Nat} (h : P.length ≤ j) : (P ++ xs.drop P.length)[j]? = xs[j]? := by
  rw [List.getElem?_append_right h, List.getElem?_drop]
  congr 1; omega
theorem set_tail {α : Type} {P xs : List α} {x : α} (h : P.length < xs.length) : (P ++ xs.drop P.length).set P.length x = (P ++ [x]) ++ xs.drop (P ++ [x]).length := by
  rw [List.set_append_right _ _ (Nat.le_refl _), Nat.sub_self, List.drop_eq_getElem_cons h, List.set_cons_zero]
  simp
theorem grown_drewN (w : World) (n : Nat) (row : Option Nat) : w.grownBy (w.drewN n) row := ⟨rfl, rfl, rfl, Nat.le_refl _, fun _ _ _ => rfl⟩
theorem own_drewN {w : World} {base : Nat} {e : TypeId} {k n : Nat} {v : Value} {cs : List Value} (h : w.ownsRow base e k v n cs) (q : Nat) : (w.drewN q).ownsRow base e k v n cs := h

set_option maxHeartbeats 1000000 in
theorem slicesCompact (v : Value) (base : Nat) (xs : List (Int × Int)) (w : World) (h : w.ownsRow base 38 2 v xs.length (cellsOf encD xs)) (hm : xs.length ≤ 1000000) :
    Calls Try.prog 90 #[v] w fun e w' => ∃ v', e = .returned v' ∧ w'.ownsRow base 38 2 v' (dd xs).length (cellsOf encD (dd xs)) ∧ w.grownBy w' v.ownBlock ∧ v'.ownBlock = v.ownBlock := by
  rcases Nat.lt_or_ge xs.length 2 with h0 | h0
  · obtain ⟨A, c, rfl, _⟩ := SlAt.of_own encD_len h
    have hd : dd xs = xs := dd_same _ fun j p q h1 h2 => by
      have : j + 1 < xs.length := by
        rcases Nat.lt_or_ge (j + 1) xs.length with h | h
        · exact h
        · rw [List.getElem?_eq_none h] at h2; cases h2
      omega
    rw [hd]
    have H := Lib.hid h
    clear h hd
    go_enter Try.func90, Try.ntmps90
    go_wp2
    go_ret
    exact ⟨_, rfl, H.out, World.grownBy.refl _ _, rfl⟩
  · obtain ⟨g, cap, rfl, hb, hg⟩ := h.form (by omega)
    have hcap : xs.length ≤ cap ∧ cap ≤ maxLen := by
      rcases h.2 with ⟨h1, _⟩ | ⟨g', cap', cur, hv, _, _, hn, hc, _⟩
      · cases h1
      · cases hv; exact ⟨hn, hc⟩
    obtain ⟨hcap1, hcap2⟩ := hcap
    unfold maxLen at hcap2
    have H := Lib.hid h
    clear h
    go_enter Try.func90, Try.ntmps90
    go_wp2
    go_loopw [3] (fun i wr => ∃ m q : Nat, m + 1 ≤ xs.length ∧ i = .int .i64 ((m : Int) + 1) ∧ Hid (wr = w.drewN q) ∧ Hid (NoTwice xs m)) (fun i _ => xs.length - (intOf i).toNat)
    case atStart => exact ⟨0, 0, by omega, rfl, rfl, fun j p q h => by omega⟩
    case round =>
      obtain ⟨m, q, hk2, rfl, hw, hs⟩ := hrel
      have hown : wr.ownsRow base 38 2 (.slice (some ⟨g, 0, none⟩) xs.length cap) xs.length (cellsOf encD xs) := by rw [hw.out]; exact H.out
      have hgr : w.grownBy wr (some g) := by rw [hw.out]; exact grown_drewN _ _ _
      have HO := Lib.hid hown
      have HG := Lib.hid hgr
      clear hgr
      by_cases hlt : m + 1 < xs.length
      · obtain ⟨⟨r, c⟩, hx1⟩ : ∃ x, xs[m]? = some x := ⟨_, List.getElem?_eq_getElem (by omega)⟩
        obtain ⟨⟨r', c'⟩, hx2⟩ : ∃ x, xs[m + 1]? = some x := ⟨_, List.getElem?_eq_getElem hlt⟩
        obtain ⟨l0, l1, _, _⟩ := own_dot hown hx1
        obtain ⟨l2, l3, _, _⟩ := own_dot hown hx2
        clear hown
        have HX1 := Lib.hid hx1; clear hx1
        have HX2 := Lib.hid hx2; clear hx2
        by_cases hq : r' = r ∧ c' = c
        · obtain ⟨rfl, rfl⟩ := hq
          go_wp2
          go_quiet (fail)
          have hown2 : (wr.drewN nq).ownsRow base 38 2 (.slice (some ⟨g, 0, none⟩) xs.length cap) xs.length (cellsOf encD xs) := own_drewN HO.out nq
          have hgr2 : w.grownBy (wr.drewN nq) (some g) := grown_trans' HG.out (grown_drewN _ _ _)
          have hP : dd (xs.take (m + 1)) = xs.take (m + 1) := hs.out.dd
          have hP2 : dd (xs.take (m + 2)) = dd (xs.take (m + 1)) := by rw [dd_step HX1.out HX2.out, if_pos rfl]
          have hlen : (xs.take (m + 1)).length = m + 1 := by simp; omega
          have hst : ∃ P, (P : List (Int × Int)).length = m + 1 ∧ P = dd (xs.take (m + 2)) ∧ P ++ xs.drop P.length = xs := ⟨xs.take (m + 1), hlen, by rw [hP2, hP], by rw [hlen]; exact List.take_append_drop _ _⟩
          have HST := Lib.hid hst
          clear hst hlen hP hP2
          generalize hwo : wr.drewN nq = wo at *
          have HWO := Lib.hid hwo
          clear hwo
          have HO2 := Lib.hid hown2
          have HG2 := Lib.hid hgr2
          clear hown2 hgr2 hw HO HG l0 l1 l2 l3 HX1 HX2
          go_wp2
          go_loopw [3, 5] (fun k i wr => ∃ (P : List (Int × Int)) (t : Nat), m + 1 + (t + 1) ≤ xs.length ∧ P.length ≤ m + 1 + t ∧ k = .int .i64 (P.length : Int) ∧ i = .int .i64 ((t : Int) + 1) ∧ Hid (P = dd (xs.take (m + 1 + (t + 1)))) ∧
              Hid (wr.ownsRow base 38 2 (.slice (some ⟨g, 0, none⟩) xs.length cap) xs.length (cellsOf encD (P ++ xs.drop P.length))) ∧ Hid (w.grownBy wr (some g))) (fun _ i _ => xs.length - (intOf i).toNat)
          case atStart =>
            obtain ⟨P, h1, h2, h3⟩ := HST.out
            exact ⟨P, 0, by omega, by omega, by rw [h1]; rfl, rfl, h2, by rw [h3]; exact HO2, HG2⟩
          case round =>
            obtain ⟨P, t, hk1, hk3, rfl, rfl, hP, hown3, hgr3⟩ := hrel
            by_cases hlt2 : m + 1 + (t + 1) < xs.length
            · obtain ⟨⟨ra, ca⟩, hxa⟩ : ∃ x, xs[m + 1 + t]? = some x := ⟨_, List.getElem?_eq_getElem (by omega)⟩
              obtain ⟨⟨rb, cb⟩, hxb⟩ : ∃ x, xs[m + 1 + (t + 1)]? = some x := ⟨_, List.getElem?_eq_getElem hlt2⟩
              obtain ⟨⟨rp, cp⟩, hxp⟩ : ∃ x, xs[P.length]? = some x := ⟨_, List.getElem?_eq_getElem (by omega)⟩
              obtain ⟨l0, l1, _, _⟩ := own_dot hown3.out (j := m + 1 + t) ((get_tail (by omega)).trans hxa)
              obtain ⟨l2, l3, _, _⟩ := own_dot hown3.out (j := m + 1 + (t + 1)) ((get_tail (by omega)).trans hxb)
              obtain ⟨l4, l5, l6, l7⟩ := own_dot hown3.out (j := P.length) ((get_tail (by omega)).trans hxp)
              rw [Nat.add_mul (m + 1)] at l0 l1 l2 l3
              have hdd : dd (xs.take (m + 1 + (t + 1 + 1))) = if ((ra, ca) : Int × Int) = (rb, cb) then P else P ++ [(rb, cb)] := by
                have := dd_step (xs := xs) (m := m + 1 + t) hxa hxb
                rw [hP.out]; exact this
              have hlt3 : t + 1 < xs.length - (m + 1) := by omega
              have hltP : P.length < xs.length := by omega
              have HXA := Lib.hid hxa; clear hxa
              have HXB := Lib.hid hxb; clear hxb
              have HXP := Lib.hid hxp; clear hxp
              by_cases hq : rb = ra ∧ cb = ca
              · obtain ⟨rfl, rfl⟩ := hq
                rw [if_pos rfl] at hdd
                have HDD := Lib.hid hdd; clear hdd
                go_wp2
                go_quiet (fail)
                go_wp2
                go_roundw
                case rel => exact ⟨P, t + 1, by omega, by omega, rfl, by go_num, HDD.out.symm, own_drewN hown3.out nq, grown_trans' hgr3.out (grown_drewN _ _ _)⟩
                case measure => simp [intOf]; omega
              · rw [if_neg (fun e => by injection e with e1 e2; exact hq ⟨e1.symm, e2.symm⟩)] at hdd
                have HDD := Lib.hid hdd; clear hdd
                have hos := fun q => own_store (w := wr.drewN q) (r := rb) (c := cb) (own_drewN hown3.out q) (j := P.length) (by simp; omega)
                rw [set_tail hltP] at hos
                have HOS := Lib.hid hos; clear hos
                have hrc : rb = ra → ¬ cb = ca := fun e1 e2 => hq ⟨e1, e2⟩
                clear hq
                by_cases hr : rb = ra
                · have hc := hrc hr
                  clear hrc
                  subst hr
                  go_wp2
                  go_quiet (fail)
                  go_wp2
                  go_roundw
                  case rel => exact ⟨P ++ [(rb, cb)], t + 1, by omega, by simp; omega, by simp, by go_num, HDD.out.symm, (HOS.out nq).1, grown_trans' (grown_trans' hgr3.out (grown_drewN _ _ _)) (HOS.out nq).2⟩
                  case measure => simp [intOf]; omega
                · clear hrc
                  go_wp2
                  go_quiet (fail)
                  go_wp2
                  go_roundw
                  case rel => exact ⟨P ++ [(rb, cb)], t + 1, by omega, by simp; omega, by simp, by go_num, HDD.out.symm, (HOS.out nq).1, grown_trans' (grown_trans' hgr3.out (grown_drewN _ _ _)) (HOS.out nq).2⟩
                  case measure => simp [intOf]; omega
            · have hPx : P = dd xs := by rw [hP.out, List.take_of_length_le (by omega)]
              have hltP : P.length < xs.length := by omega
              obtain ⟨w', hcl, ho', hg'⟩ := run_clear_own (P := Try.prog) (z := .agg #[.int .i64 0, .int .i64 0]) (k := 2) Try.underlying22 Try.zeroValue38 rfl (by simp [Value.cells]; rfl) hown3.out hltP (cap - P.length)
              have hct : (cellsOf encD (P ++ xs.drop P.length)).take (P.length * 2) = cellsOf encD P := by
                rw [show cellsOf encD (P ++ xs.drop P.length) = cellsOf encD P ++ cellsOf encD (xs.drop P.length) by simp [cellsOf], ← cellsOf_length encD_len P, List.take_left]
              rw [hct] at ho'
              have hP0 : 1 ≤ P.length := by
                obtain ⟨x, hx⟩ : ∃ x, xs[0]? = some x := ⟨_, List.getElem?_eq_getElem (by omega)⟩
                obtain ⟨y, l, e⟩ : ∃ y l, xs = y :: l := by
                  cases hxs : xs with
                  | nil => rw [hxs] at hx; simp at hx
                  | cons y l => exact ⟨y, l, rfl⟩
                obtain ⟨t', ht'⟩ := dd_head y l
                rw [hPx, e, ht']; simp
              have HPX := Lib.hid hPx
              have HO := Lib.hid ho'
              have hgf := grown_trans' hgr3.out hg'
              clear hPx ho' hg' hct hown3 hgr3 hP HO2 HG2 HST
              have hPc : P.length ≤ cap := by omega
              go_wp2
              go_ret
              exact ⟨_, rfl, by rw [← HPX.out]; exact HO.out, hgf, rfl⟩
        · have hne : ((r, c) : Int × Int) ≠ (r', c') := fun e => by injection e with e1 e2; exact hq ⟨e1.symm, e2.symm⟩
          have HN := Lib.hid (hs.out.step HX1.out HX2.out hne)
          clear hne
          by_cases hr : r' = r
          · have hc : ¬ c' = c := fun e => hq ⟨hr, e⟩
            clear hq
            subst hr
            go_wp2
            go_quiet (fail)
            go_wp2
            go_roundw
            case rel => exact ⟨m + 1, q + nq, by omega, by go_num, by rw [hw.out]; exact World.drewN_drewN _ _ _, HN⟩
            case measure => simp [intOf]; omega
          · clear hq
            go_wp2
            go_quiet (fail)
            go_wp2
            go_roundw
            case rel => exact ⟨m + 1, q + nq, by omega, by go_num, by rw [hw.out]; exact World.drewN_drewN _ _ _, HN⟩
            case measure => simp [intOf]; omega
      · have hd : dd xs = xs := by
          have := hs.out.dd
          rwa [List.take_of_length_le (by omega)] at this
        have HD := Lib.hid hd
        clear hd hown
        go_wp2
        go_ret
        exact ⟨_, rfl, by rw [HD.out]; exact HO.out, HG.out, rfl⟩

end Go.Proofs.Ytibnlifdeknicaa
