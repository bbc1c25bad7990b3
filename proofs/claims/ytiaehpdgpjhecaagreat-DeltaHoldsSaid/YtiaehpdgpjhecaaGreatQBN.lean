/- Several texts in one: DotJ, DotL, ItmT, ItmTh, DelJ. -/
import Derived.Test.YtiaehpdgpjhecaaGreatQAD
import Derived.Test.YtiaehpdgpjhecaaGreatQBM
import Derived.Test.YtiaehpdgpjhecaaGreatQBL
import Derived.Test.YtiaehpdgpjhecaaGreatQBH
import Derived.Test.YtiaehpdgpjhecaaGreatQBF
namespace Go.Proofs.YtiaehpdgpjhecaaGreat

section
open Go.RowKit

set_option maxHeartbeats 1000000 in
theorem pick1 (bo bi : Nat) (A : Option Addr) (s : List (Int × Int)) (cap : Nat) (inn : Bool) (r c : Int) (w : World) (hx : DotsAt w A s) (hm : s.length ≤ 1000000) (hs : Inc s)
    (h0 : w.cell? ⟨bo, 0, none⟩ = some (.slice A s.length cap)) (h1 : w.cell? ⟨bi, 0, none⟩ = some (.bool inn)) :
    Calls Tryz.prog 195 #[.agg #[.int .i64 r, .int .i64 c], .pointer (some ⟨bo, 0, none⟩), .pointer (some ⟨bi, 0, none⟩)] w fun e w' => e = .returned (.bool (decide ((r, c) ∈ s) != inn)) ∧ Below w.heap.size w w' := by
  have hb := fun W hW => binarySearch A s cap r c W hW hm hs
  have l1 := World.block_lt_of_cell? w _ h0
  have l2 := World.block_lt_of_cell? w _ h1
  generalize decide ((r, c) ∈ s) = d at hb ⊢
  have HB := Lib.hid hb
  clear hb
  go_enter Tryz.func195, Tryz.ntmps195
  go_wp2_with fail
  refine (HB.out _ (hx.below ((Below.refl _ w).alloc (Nat.le_refl _) _))).mono ?_
  rintro e w1 ⟨⟨i, rfl⟩, hb1⟩
  have hbb := below_trans ((Below.refl _ w).alloc (Nat.le_refl _) _) hb1
  have k1 := (hbb.cell (p := ⟨bi, 0, none⟩) l2).trans h1
  clear h0 h1
  cases d <;> cases inn
  all_goals
    go_wp2
    go_ret
    exact ⟨rfl, hbb⟩

/-- What a function value says of each dot, wherever what lay below base is as it was. -/
def SaysJ (g : Nat) (lb : Array Value) (p : Int × Int → Bool) (base : Nat) (w0 : World) : Prop :=
  ∀ (r c : Int) (W : World), Below base w0 W → Calls Tryz.prog g (#[.agg #[.int .i64 r, .int .i64 c]] ++ lb) W fun e w' => e = .returned (.bool (p (r, c))) ∧ Below W.heap.size W w'

theorem SaysJ.pick1 {bo bi : Nat} {A : Option Addr} {s : List (Int × Int)} {cap : Nat} {inn : Bool} {w : World} (hx : DotsAt w A s) (hm : s.length ≤ 1000000) (hs : Inc s)
    (h0 : w.cell? ⟨bo, 0, none⟩ = some (.slice A s.length cap)) (h1 : w.cell? ⟨bi, 0, none⟩ = some (.bool inn)) :
    SaysJ 195 #[.pointer (some ⟨bo, 0, none⟩), .pointer (some ⟨bi, 0, none⟩)] (fun d => decide (d ∈ s) != inn) w.heap.size w := fun r c W hW =>
  YtiaehpdgpjhecaaGreat.pick1 bo bi A s cap inn r c W (hx.below hW) hm hs ((hW.cell (p := ⟨bo, 0, none⟩) (World.block_lt_of_cell? w _ h0)).trans h0) ((hW.cell (p := ⟨bi, 0, none⟩) (World.block_lt_of_cell? w _ h1)).trans h1)

set_option maxHeartbeats 1000000 in
theorem indexFuncJ (lb : Array Value) (p : Int × Int → Bool) (base : Nat) (w0 : World) (A : Option Addr) (xs : List (Int × Int)) (cap : Nat) (w : World) (hp : SaysJ 195 lb p base w0) (hbw : Below base w0 w) (hbs : base ≤ w.heap.size) (hx : DotsAt w A xs) (hm : xs.length ≤ 1000000) :
    Calls Tryz.prog 167 #[.slice A xs.length cap, .func (.func 195) #[] lb] w fun e w' =>
      ((∃ i : Nat, i < xs.length ∧ e = .returned (.int .i64 i) ∧ (∀ j q, j < i → xs[j]? = some q → p q = false) ∧ (∀ q, xs[i]? = some q → p q = true)) ∨ (e = .returned (.int .i64 (-1)) ∧ ∀ q ∈ xs, p q = false)) ∧ Below w.heap.size w w' := by
  have HP := Lib.hid hp; clear hp
  go_enter Tryz.func167, Tryz.ntmps167
  go_wp2
  go_loopw [5, 8] (fun _ i wr => ∃ m : Nat, m ≤ xs.length ∧ i = .int .i64 m ∧ Below w.heap.size w wr ∧ Hid (∀ j q, j < m → xs[j]? = some q → p q = false)) (fun _ i _ => xs.length - (intOf i).toNat)
  case atStart => exact ⟨0, by omega, rfl, Below.refl _ _, fun j q h => by omega⟩
  case round =>
    obtain ⟨m, hk2, rfl, hb, hs⟩ := hrel
    by_cases hlt : m < xs.length
    · obtain ⟨b, off, r, c, rfl, hbl, hx1, hc0, hc1⟩ := (hx.below hb).dot (j := m) hlt
      have hr := HP.out r c wr (hbw.trans (hb.mono hbs))
      have HX1 := Lib.hid hx1; clear hx1
      cases hq : p (r, c)
      · rw [hq] at hr
        have HR := Lib.hid hr; clear hr
        have HQ := Lib.hid hq; clear hq
        go_wp2_with fail
        refine HR.out.mono ?_
        rintro e w1 ⟨rfl, hb1⟩
        go_wp2
        go_roundw
        case rel =>
          refine ⟨m + 1, by omega, by go_num, hb.trans (hb1.mono hb.size), (show Hid _ from fun j q hj hq => ?_)⟩
          by_cases e : j = m
          · subst e; rw [HX1.out] at hq; cases hq; exact HQ.out
          · exact hs.out j q (by omega) hq
        case measure => simp [intOf]; omega
      · rw [hq] at hr
        have HR := Lib.hid hr; clear hr
        have HQ := Lib.hid hq; clear hq
        go_wp2_with fail
        refine HR.out.mono ?_
        rintro e w1 ⟨rfl, hb1⟩
        go_wp2
        go_ret
        exact ⟨.inl ⟨m, hlt, rfl, hs.out, fun q hq => by rw [HX1.out] at hq; cases hq; exact HQ.out⟩, hb.trans (hb1.mono hb.size)⟩
    · go_wp2
      go_ret
      refine ⟨.inr ⟨rfl, fun q hq => ?_⟩, hb⟩
      obtain ⟨j, hj⟩ := List.mem_iff_getElem?.1 hq
      have hjl : j < xs.length := by
        rcases Nat.lt_or_ge j xs.length with h | h
        · exact h
        · rw [List.getElem?_eq_none h] at hj; cases hj
      exact hs.out j q (by omega) hj

theorem grown_of_belowJ {a w : World} (h : Below a.heap.size a w) (row : Option Nat) : a.grownBy w row := ⟨h.os, h.tape, h.output, h.size, fun i hi _ => h.block i hi⟩
theorem filter_take_stepJ {p : Int × Int → Bool} {xs : List (Int × Int)} {j : Nat} {x : Int × Int} (hx : xs[j]? = some x) : (xs.take (j + 1)).filter (fun d => !p d) = if p x = true then (xs.take j).filter (fun d => !p d) else (xs.take j).filter (fun d => !p d) ++ [x] := by
  rw [take_snoc hx, List.filter_append]
  by_cases h : p x = true <;> simp [h]

set_option maxHeartbeats 1000000 in
theorem deleteFuncJ (lb : Array Value) (p : Int × Int → Bool) (base : Nat) (w0 : World) (v : Value) (xs : List (Int × Int)) (w : World) (hp : SaysJ 195 lb p base w0) (hbw : Below base w0 w) (hbs : base ≤ w.heap.size)
    (h : w.ownsRow base 30 2 v xs.length (cellsOf encD xs)) (hm : xs.length ≤ 1000000) :
    Calls Tryz.prog 112 #[v, .func (.func 195) #[] lb] w fun e w' =>
      ∃ v', e = .returned v' ∧ w'.ownsRow base 30 2 v' (xs.filter fun d => !p d).length (cellsOf encD (xs.filter fun d => !p d)) ∧ w.grownBy w' v.ownBlock := by
  obtain ⟨A, cap, rfl, hc1, hc2, hx⟩ := SlAt.of_own encD_len h
  have hi := indexFuncJ lb p base w0 A xs cap w hp hbw hbs hx hm
  have HI := Lib.hid hi
  have H := Lib.hid h
  have HP := Lib.hid hp
  clear hi h hp
  unfold maxLen at hc2
  go_enter Tryz.func112, Tryz.ntmps112
  go_wp2_with fail
  refine HI.out.mono ?_
  rintro e w1 ⟨⟨i, hi1, rfl, hi2, hi3⟩ | ⟨rfl, hno⟩, hb1⟩
  · obtain ⟨g, cap', hv, hbg, hgl⟩ := H.out.form (by omega)
    injection hv with hA hn hcc
    subst hA
    have hne1 : ((i : Int) == -1) = false := by simp
    have ho1 : w1.ownsRow base 30 2 (.slice (some ⟨g, 0, none⟩) xs.length cap) xs.length (cellsOf encD xs) := H.out.kept (grown_of_belowJ hb1 none) (by simp [Value.ownBlock])
    have hg1 : w.grownBy w1 (some g) := grown_of_belowJ hb1 _
    obtain ⟨x, hxi⟩ : ∃ x, xs[i]? = some x := ⟨_, List.getElem?_eq_getElem hi1⟩
    have hpre : (xs.take i).filter (fun d => !p d) = xs.take i := by
      rw [List.filter_eq_self]
      intro q hq
      obtain ⟨j, hj⟩ := List.mem_iff_getElem?.1 hq
      rw [List.getElem?_take] at hj
      split at hj
      · simp [hi2 j q (by omega) hj]
      · cases hj
    have hst : ∃ P, (P : List (Int × Int)).length = i ∧ P = (xs.take (i + 1)).filter (fun d => !p d) ∧ P ++ xs.drop P.length = xs := by
      have hl : (xs.take i).length = i := by simp; omega
      refine ⟨xs.take i, hl, ?_, by rw [hl]; exact List.take_append_drop _ _⟩
      rw [filter_take_stepJ hxi, if_pos (hi3 x hxi), hpre]
    have HST := Lib.hid hst
    have HO := Lib.hid ho1
    have HG := Lib.hid hg1
    clear hst ho1 hg1 hpre hi2 hi3 hxi hn hcc hx hb1 HI
    go_wp2
    go_loopw [5, 6, 7] (fun k j _ wr => ∃ (P : List (Int × Int)) (t : Nat), t ≤ xs.length ∧ P.length < t ∧ k = .int .i64 (P.length : Int) ∧ j = .int .i64 t ∧ Hid (P = (xs.take t).filter (fun d => !p d)) ∧
        Hid (wr.ownsRow base 30 2 (.slice (some ⟨g, 0, none⟩) xs.length cap) xs.length (cellsOf encD (P ++ xs.drop P.length))) ∧ Hid (w.grownBy wr (some g))) (fun _ j _ _ => xs.length - (intOf j).toNat)
    case atStart =>
      obtain ⟨P, h1, h2, h3⟩ := HST.out
      exact ⟨P, i + 1, by omega, by omega, by rw [h1], by go_num, h2, by rw [h3]; exact HO, HG⟩
    case round =>
      obtain ⟨P, t, hk1, hk3, rfl, rfl, hP, hown3, hgr3⟩ := hrel
      have hbwr : Below base w0 wr := hbw.grown hgr3.out hbs (fun k hk => by cases hk; exact hbg)
      have hbsr : base ≤ wr.heap.size := Nat.le_trans hbs hgr3.out.size
      by_cases hlt : t < xs.length
      · obtain ⟨⟨r, c⟩, hxt⟩ : ∃ x, xs[t]? = some x := ⟨_, List.getElem?_eq_getElem hlt⟩
        obtain ⟨⟨rp, cp⟩, hxp⟩ : ∃ x, xs[P.length]? = some x := ⟨_, List.getElem?_eq_getElem (by omega)⟩
        obtain ⟨l0, l1, _, _⟩ := own_dot hown3.out (j := t) ((get_tail (by omega)).trans hxt)
        have hfs := filter_take_stepJ (p := p) hxt
        rw [← hP.out] at hfs
        have HXT := Lib.hid hxt; clear hxt
        have HXP := Lib.hid hxp; clear hxp
        cases hq : p (r, c)
        · rw [hq] at hfs
          simp only [Bool.false_eq_true, if_false] at hfs
          have HFS := Lib.hid hfs; clear hfs
          have hr := fun W hW => HP.out r c W hW
          rw [hq] at hr
          have HR := Lib.hid hr; clear hr hq
          go_wp2_with fail
          refine (HR.out _ (hbwr.alloc hbsr _)).mono ?_
          rintro e w2 ⟨rfl, hb2⟩
          have hb3 := below_trans ((Below.refl _ wr).alloc (Nat.le_refl _) _) hb2
          have d0 := (hb2.cell (p := ⟨wr.heap.size, 0, none⟩) (by simp)).trans (show _ = some (.int .i64 r) by simp [World.cell?_alloc_new])
          have d1 := (hb2.cell (p := ⟨wr.heap.size, 1, none⟩) (by simp)).trans (show _ = some (.int .i64 c) by simp [World.cell?_alloc_new])
          have ho2 : w2.ownsRow base 30 2 (.slice (some ⟨g, 0, none⟩) xs.length cap) xs.length (cellsOf encD (P ++ xs.drop P.length)) := hown3.out.kept (grown_of_belowJ hb3 none) (by simp [Value.ownBlock])
          obtain ⟨l4, l5, l6, l7⟩ := own_dot ho2 (j := P.length) ((get_tail (by omega)).trans HXP.out)
          have hos := own_store (r := r) (c := c) ho2 (j := P.length) (by simp; omega)
          rw [set_tail (by omega)] at hos
          have hgg := grown_trans' (grown_trans' hgr3.out (grown_of_belowJ hb3 (some g))) hos.2
          have HOS := Lib.hid hos.1
          have HGG := Lib.hid hgg
          clear hos hgg ho2 hb2 hb3 l0 l1
          go_wp2
          go_roundw
          case rel => exact ⟨P ++ [(r, c)], t + 1, by omega, by simp; omega, by simp, by go_num, HFS.out.symm, HOS, HGG⟩
          case measure => simp [intOf]; omega
        · rw [if_pos hq] at hfs
          have HFS := Lib.hid hfs; clear hfs
          have hr := fun W hW => HP.out r c W hW
          rw [hq] at hr
          have HR := Lib.hid hr; clear hr hq
          go_wp2_with fail
          refine (HR.out _ (hbwr.alloc hbsr _)).mono ?_
          rintro e w2 ⟨rfl, hb2⟩
          have hb3 := below_trans ((Below.refl _ wr).alloc (Nat.le_refl _) _) hb2
          have ho2 : w2.ownsRow base 30 2 (.slice (some ⟨g, 0, none⟩) xs.length cap) xs.length (cellsOf encD (P ++ xs.drop P.length)) := hown3.out.kept (grown_of_belowJ hb3 none) (by simp [Value.ownBlock])
          have hgg := grown_trans' hgr3.out (grown_of_belowJ hb3 (some g))
          have HO2 := Lib.hid ho2
          have HGG := Lib.hid hgg
          clear hgg ho2 hb2 hb3 l0 l1
          go_wp2
          go_roundw
          case rel => exact ⟨P, t + 1, by omega, by omega, rfl, by go_num, HFS.out.symm, HO2, HGG⟩
          case measure => simp [intOf]; omega
      · have hPx : P = xs.filter (fun d => !p d) := by rw [hP.out, List.take_of_length_le (by omega)]
        have hltP : P.length < xs.length := by omega
        obtain ⟨w', hcl, ho', hg'⟩ := run_clear_own (P := Tryz.prog) (z := .agg #[.int .i64 0, .int .i64 0]) (k := 2) Tryz.underlying22 Tryz.zeroValue30 rfl (by simp [Value.cells]; rfl) hown3.out hltP (cap - P.length)
        have hct : (cellsOf encD (P ++ xs.drop P.length)).take (P.length * 2) = cellsOf encD P := by
          rw [show cellsOf encD (P ++ xs.drop P.length) = cellsOf encD P ++ cellsOf encD (xs.drop P.length) by simp [cellsOf], ← cellsOf_length encD_len P, List.take_left]
        rw [hct] at ho'
        have hPc : P.length < cap := by omega
        have HPX := Lib.hid hPx
        have HO' := Lib.hid ho'
        have hgf := grown_trans' hgr3.out hg'
        clear hPx ho' hg' hct hown3 hgr3 hP HO HG HST
        go_wp2
        go_ret
        exact ⟨_, rfl, by rw [← HPX.out]; exact HO'.out, hgf⟩
  · have hf : xs.filter (fun d => !p d) = xs := by
      rw [List.filter_eq_self]
      intro q hq
      simp [hno q hq]
    have HF := Lib.hid hf
    have ho1 : w1.ownsRow base 30 2 (.slice A xs.length cap) xs.length (cellsOf encD xs) := H.out.kept (grown_of_belowJ hb1 none) (by cases A <;> simp [Value.ownBlock])
    have HO := Lib.hid ho1
    have hg1 := grown_of_belowJ hb1 (Value.slice A xs.length cap).ownBlock
    clear hf ho1 hno hx
    go_wp2
    go_ret
    exact ⟨_, rfl, by rw [HF.out]; exact HO.out, hg1⟩

end

section
open Go.RowKit

set_option maxHeartbeats 1000000 in
theorem dotPick (A B : Option Addr) (xs ys : List (Int × Int)) (c c' : Nat) (inn : Bool) (w : World) (hx : DotsAt w A xs) (hy : DotsAt w B ys) (hm : xs.length + ys.length ≤ 1000000) :
    Calls Tryz.prog 146 #[.slice A xs.length c, .slice B ys.length c', .bool inn] w fun e w' => ∃ v, e = .returned v ∧ Mine w w' v (pickL xs ys inn) := by
  have hsb := fun W hW => dotSet B ys c' W hW (by omega)
  have hsa := fun W hW => dotSet A xs c W hW (by omega)
  have hlb := ordL_len ys
  have hla := ordL_len xs
  have HB := Lib.hid hsb
  have HA := Lib.hid hsa
  clear hsb hsa
  go_enter Tryz.func146, Tryz.ntmps146
  go_wp2_with fail
  have hb0 := (Below.refl w.heap.size w).alloc (Nat.le_refl _) (.cells #[.bool inn] 4)
  refine (HB.out _ (hy.below hb0)).mono ?_
  rintro e w1 ⟨v, rfl, h1⟩
  have hb1 := below_trans hb0 h1.2
  have hin : w1.cell? ⟨w.heap.size, 0, none⟩ = some (.bool inn) := (h1.2.cell (p := ⟨w.heap.size, 0, none⟩) (by simp)).trans (by simp [World.cell?_alloc_new])
  have hlt1 : w.heap.size < w1.heap.size := by have := h1.2.size; simp at this; omega
  obtain ⟨C, cc, rfl, k1, k2, k3⟩ := h1.holds
  have K1 := Lib.hid k1
  clear h1 k1
  go_wp2_with fail
  have hal : Below w1.heap.size w1 (w1.alloc (.cells #[.slice C (ordL ys).length cc] 22)) := (Below.refl _ w1).alloc (Nat.le_refl _) _
  have hc0 : (w1.alloc (.cells #[.slice C (ordL ys).length cc] 22)).cell? ⟨w1.heap.size, 0, none⟩ = some (.slice C (ordL ys).length cc) := by simp [World.cell?_alloc_new]
  have hc1 : (w1.alloc (.cells #[.slice C (ordL ys).length cc] 22)).cell? ⟨w.heap.size, 0, none⟩ = some (.bool inn) := (hal.cell (p := ⟨w.heap.size, 0, none⟩) hlt1).trans hin
  have hb2 := below_trans hb1 hal
  have hsay := SaysJ.pick1 (K1.out.below hal) (by omega) (inc_ordL ys) hc0 hc1
  have HY := Lib.hid hsay
  clear hin hsay hc0 hc1 hal
  generalize w1.alloc (.cells #[.slice C (ordL ys).length cc] 22) = w2 at *
  refine (HA.out _ (hx.below hb2)).mono ?_
  rintro e w3 ⟨v2, rfl, h2⟩
  have hdel := deleteFuncJ _ _ w2.heap.size w2 v2 (ordL xs) w3 HY.out h2.2 h2.2.size h2.1 (by omega)
  have HD := Lib.hid hdel
  have H2 := Lib.hid h2
  clear hdel h2
  go_wp2_with fail
  refine HD.out.mono ?_
  rintro e w4 ⟨v4, rfl, ho4, hg4⟩
  have H4 := Lib.hid ((H2.out.step ho4 hg4).base hb2)
  clear ho4 hg4
  go_wp2
  go_ret
  exact ⟨_, rfl, H4.out⟩

set_option maxHeartbeats 400000 in
theorem dotBoth (A B : Option Addr) (xs ys : List (Int × Int)) (c c' : Nat) (w : World) (hx : DotsAt w A xs) (hy : DotsAt w B ys) (hm : xs.length + ys.length ≤ 1000000) :
    Calls Tryz.prog 81 #[.slice A xs.length c, .slice B ys.length c'] w fun e w' => ∃ v, e = .returned v ∧ Mine w w' v (pickL xs ys true) := by
  have h := dotPick A B xs ys c c' true w hx hy hm
  have H := Lib.hid h
  clear h
  go_enter Tryz.func81, Tryz.ntmps81
  go_wp2_with fail
  refine H.out.mono ?_
  rintro e w1 ⟨v, rfl, h1⟩
  have H1 := Lib.hid h1; clear h1
  go_wp2
  go_ret
  exact ⟨_, rfl, H1.out⟩


end

section
open Go.RowKit

/-- What Put returns, and the error. -/
def putN (l : List It) (x : It) : List It × Nat := if validL l = true ∧ okI x = true then (if ((remN l x.1).any fun y => meetN y.2 x.2) = true then ([], 11) else (insN (remN l x.1) x, 0)) else ([], 2)

/-- The item in its block, the other items in their row. -/
structure KPi (w : World) (x : ItV) (B : Nat) (D : Option Addr) (d : Nat) (rs : List ItV) (W : World) : Prop where
  blk : BlkI W w.heap.size x
  bel : Below w.heap.size w W
  row : RowT W B (.slice D rs.length d) rs
  oks : ∀ y ∈ rs, ItOK W y
  okx : ItOK W x
  hB : w.heap.size + 1 ≤ B
  sz : B ≤ W.heap.size
section
variable {w W W' : World} {x : ItV} {B d : Nat} {D : Option Addr} {rs : List ItV}
theorem KPi.next (h : KPi w x B D d rs W) (hb : Below W.heap.size W W') : KPi w x B D d rs W' := ⟨h.blk.below hb, below_trans h.bel hb, RowT.below h.row hb, fun y hy => (h.oks y hy).below hb, h.okx.below hb, h.hB, Nat.le_trans h.sz hb.size⟩
theorem KPi.drew (h : KPi w x B D d rs W) : KPi w x B D d rs W.drew := h.next (Below.refl _ _).drew
theorem KPi.items (h : KPi w x B D d rs W) : ItemsAt W D rs := by
  obtain ⟨A, c, e, _, _, hat⟩ := SlAt.of_own encIt_len h.row
  injection e with e1 e2 e3
  exact ⟨by rw [e1]; exact hat, h.oks⟩
theorem KPi.sp (h : KPi w x B D d rs W) : W.cell? ⟨w.heap.size, 1, none⟩ = some (.slice x.A x.ms.length x.c) ∧ w.heap.size < W.heap.size ∧ KPi w x B D d rs W := ⟨h.blk.cell1, h.blk.lt, h⟩
end
theorem both_h (v u : Value) (xs ys : List (Int × Int)) (w : World) (h : Holds w v xs) (k : Holds w u ys) (hm : xs.length + ys.length ≤ 1000000) :
    Calls Tryz.prog 81 #[v, u] w fun e w' => ∃ v, e = .returned v ∧ Mine w w' v (pickL xs ys true) := by
  obtain ⟨A, c, rfl, h1, _⟩ := h
  obtain ⟨A', c', rfl, h2, _⟩ := k
  exact dotBoth A A' xs ys c c' w h1 h2 hm

set_option maxRecDepth 100000 in
set_option maxHeartbeats 4000000 in
theorem itPut (A : Option Addr) (xs : List ItV) (cap : Nat) (x : ItV) (l : List It) (n : Nat) (w : World) (hx : ItemsAt w A xs) (ho : ItOK w x) (hf : Fits xs) (hn : x.nm.length ≤ 1000) (hxm : x.ms.length ≤ 100) (hv : putN (its xs) x.it = (l, n)) :
    Calls Tryz.prog 38 #[.slice A xs.length cap, mkIt x] w fun e w' => (∃ v zs, e = .returned (.tuple #[v, .int .i64 (n : Int)]) ∧ its zs = l ∧ OwnI w' w.heap.size v zs) ∧ Below w.heap.size w w' := by
  have hm := hf.1
  have HX := Lib.hid hx
  have B0 := Lib.hid (BlkI.new w x)
  have HB := Lib.hid ((Below.refl w.heap.size w).alloc (Nat.le_refl _) (.cells #[.string ⟨x.nm.toArray⟩, .slice x.A x.ms.length x.c] 50))
  have HOX := Lib.hid ho
  obtain ⟨b, hb⟩ : ∃ b, validL (its xs) = b := ⟨_, rfl⟩
  obtain ⟨q, hq⟩ : ∃ q, okI x.it = q := ⟨_, rfl⟩
  have HV := Lib.hid fun W (h : ItemsAt W A xs) => itemsValid A xs cap b W h hf hb
  have HQ := Lib.hid fun W (h : ItOK W x) => itValid x q W h hn (by omega) hq
  have HW := Lib.hid fun W (h : ItemsAt W A xs) => itWithout A xs cap x.nm W h (by omega)
  unfold putN at hv
  rw [hq] at hv
  rw [hb] at hv
  have hlw := B0.out.lt
  have c0 := B0.out.cell0
  have c1 := B0.out.cell1
  clear hx ho
  cases b with
  | false =>
    rw [if_neg (by simp)] at hv
    have h1 := congrArg Prod.fst hv
    have h2 := congrArg Prod.snd hv
    simp only at h1 h2
    subst h1 h2
    clear hv hb hq
    go_enter Tryz.func38, Tryz.ntmps38
    go_wp2_with fail
    refine (HV.out _ (HX.out.below HB.out)).mono ?_
    rintro e w1 ⟨rfl, hb1⟩
    have HB1 := Lib.hid (below_trans HB.out hb1)
    clear hb1 c0 c1
    go_wp2_with fail
    go_ret2
    exact ⟨⟨_, [], rfl, rfl, OwnI.nil _ _⟩, HB1.out⟩
  | true =>
    cases q with
    | false =>
      rw [if_neg (by simp)] at hv
      have h1 := congrArg Prod.fst hv
      have h2 := congrArg Prod.snd hv
      simp only at h1 h2
      subst h1 h2
      clear hv hb hq
      go_enter Tryz.func38, Tryz.ntmps38
      go_wp2_with fail
      refine (HV.out _ (HX.out.below HB.out)).mono ?_
      rintro e w1 ⟨rfl, hb1⟩
      have HB1 := Lib.hid (below_trans HB.out hb1)
      have B1 := Lib.hid (B0.out.below hb1)
      clear hb1 c0 c1 hlw
      have c0 := B1.out.cell0
      have c1 := B1.out.cell1
      go_wp2_with fail
      refine (HQ.out _ (HOX.out.below HB1.out)).mono ?_
      rintro e w2 ⟨rfl, hb2⟩
      have HB2 := Lib.hid (below_trans HB1.out hb2)
      clear hb2 c0 c1
      go_wp2_with fail
      go_ret2
      exact ⟨⟨_, [], rfl, rfl, OwnI.nil _ _⟩, HB2.out⟩
    | true =>
      rw [if_pos ⟨rfl, rfl⟩] at hv
      obtain ⟨rs, hrs⟩ : ∃ rs, remX xs x.nm = rs := ⟨_, rfl⟩
      have hfr : Fits rs := by rw [← hrs]; exact hf.rem x.nm
      have hir : remN (its xs) x.it.1 = its rs := by rw [← hrs, its_remX]; rfl
      have hgood : Good (its rs) := by rw [← hir]; exact (validL_good.1 hb).rem _
      rw [hir] at hv
      have HV2 := Lib.hid hv
      have HGR := Lib.hid hgood
      have HRM := Lib.hid (show ∀ y ∈ rs, y ∈ xs from fun y hy => remX_mem (nm := x.nm) (by rw [hrs]; exact hy))
      simp only [hrs] at HW
      have hds : (dotsI (its rs)).length ≤ 30000 := by
        have h := dotsI_len (its rs) fun y hy => by
          obtain ⟨z, hz, rfl⟩ := List.mem_map.1 hy
          exact (hfr.2 z hz).2
        have := hfr.1
        rw [its_len] at h; omega
      have hdm := dotsM_len x.ms
      have HDS := Lib.hid (show (dotsI (its rs)).length + (dotsM x.ms).length ≤ 1000000 from by omega)
      obtain ⟨ps, hps⟩ : ∃ ps, pickL (dotsI (its rs)) (dotsM x.ms) true = ps := ⟨_, rfl⟩
      have HP := Lib.hid hps
      have hrl := hfr.1
      have HFR := Lib.hid hfr
      clear hv hb hq hir hrs hgood hds hdm hps
      go_enter Tryz.func38, Tryz.ntmps38
      go_wp2_with fail
      refine (HV.out _ (HX.out.below HB.out)).mono ?_
      rintro e w1 ⟨rfl, hb1⟩
      have HB1 := Lib.hid (below_trans HB.out hb1)
      have B1 := Lib.hid (B0.out.below hb1)
      clear hb1 c0 c1 hlw
      have c0 := B1.out.cell0
      have c1 := B1.out.cell1
      go_wp2_with fail
      refine (HQ.out _ (HOX.out.below HB1.out)).mono ?_
      rintro e w2 ⟨rfl, hb2⟩
      have HB2 := Lib.hid (below_trans HB1.out hb2)
      have B2 := Lib.hid (B1.out.below hb2)
      clear hb2 c0 c1
      have c0 := B2.out.cell0
      have hlw := B2.out.lt
      go_wp2_with fail
      refine (HW.out _ (HX.out.below HB2.out)).mono ?_
      rintro e w3 ⟨v3, rfl, h3⟩
      obtain ⟨D, d, rfl, hd1, hd2, _⟩ := SlAt.of_own encIt_len h3.1
      have hb3 := below_trans HB2.out h3.2
      have K3 : KPi w x w2.heap.size D d rs w3 := ⟨B2.out.below h3.2, hb3, h3.1, fun y hy => (HX.out.2 y (HRM.out y hy)).below hb3, HOX.out.below hb3, hlw, h3.2.size⟩
      have hS := K3
      have hS' := KPi.sp hS
      obtain ⟨q1, q2, _⟩ := id hS'
      clear h3 hb3 c0 hlw K3
      go_wp2_with fail
      go_region_held3 (fun W' => W'.cell? ⟨w.heap.size, 1, none⟩ = some (.slice x.A x.ms.length x.c) ∧ w.heap.size < W'.heap.size ∧ KPi w x w2.heap.size D d rs W')
        (first
          | assumption
          | (exact KPi.sp (by assumption))
          | (exact KPi.sp (KPi.drew (by assumption))))
        (first
          | (go_at_call 62; refine (itDots D rs d _ (KPi.items (by first | assumption | exact KPi.drew (by assumption))) HFR.out).mono ?_
             rintro e wa ⟨⟨v4, rfl, hv4⟩, hb4⟩
             have hS1 := KPi.next (by first | assumption | exact KPi.drew (by assumption)) hb4
             have hS1' := KPi.sp hS1
             obtain ⟨u1, u2, _⟩ := id hS1')
          | (go_at_call 82; refine (qtyDots x.A x.ms x.c _ (KPi.okx (by first | assumption | exact KPi.drew (by assumption))).1 (by omega)).mono ?_
             rintro e wb ⟨⟨v5, rfl, hv5⟩, hb5⟩
             have hS2 := KPi.next (by first | assumption | exact KPi.drew (by assumption)) hb5
             have hS2' := KPi.sp hS2
             obtain ⟨u1, u2, _⟩ := id hS2')
          | (go_at_call 81; refine (both_h v4 v5 _ _ _ (by first | exact hv4 | exact hv4.below hb5 | exact (hv4.below hb5).drew) (by first | exact hv5 | exact hv5.below hb4 | exact hv5.drew) HDS.out).mono ?_
             rintro e wc ⟨v6, rfl, h6⟩
             have hS3 := KPi.next (by first | assumption | exact KPi.drew (by assumption)) h6.2
             have hS3' := KPi.sp hS3
             obtain ⟨E6, d6, rfl, _⟩ := SlAt.of_own encD_len h6.1))
      all_goals
        have K := Lib.hid hS3
        clear hS hS' hS1 hS1' hS2 hS2' hS3 hS3' hv4 hv5 h6 hb4 hb5 q1 q2 u1 u2
        rw [HP.out]
        by_cases h0 : 0 < ps.length
        · have i0 : (0 : Int) < (ps.length : Int) := by omega
          have hmeet : ((its rs).any fun y => meetN y.2 x.it.2) = true := by
            cases ha : ((its rs).any fun y => meetN y.2 x.it.2) with
            | true => rfl
            | false =>
              have hb0 := both_nil.2 ha
              rw [← pickL_both] at hb0
              have hp : ps = [] := HP.out.symm.trans hb0
              rw [hp] at h0; simp at h0
          have hv := HV2.out
          rw [if_pos hmeet] at hv
          have h1 := congrArg Prod.fst hv
          have h2 := congrArg Prod.snd hv
          simp only at h1 h2
          subst h1 h2
          clear hv hmeet HV2
          go_wp2_with fail
          go_ret2
          exact ⟨⟨_, [], rfl, rfl, OwnI.nil _ _⟩, K.out.bel⟩
        · have i0 : ¬ (0 : Int) < (ps.length : Int) := by omega
          have hpe : ps = [] := List.eq_nil_of_length_eq_zero (by omega)
          have hmeet : ¬ ((its rs).any fun y => meetN y.2 x.it.2) = true := by
            have := (both_nil (l := its rs) (ms := x.ms)).1 (by rw [← pickL_both, HP.out]; exact hpe)
            rw [show x.it.2 = x.ms from rfl, this]; simp
          have hv := HV2.out
          rw [if_neg hmeet] at hv
          have h1 := congrArg Prod.fst hv
          have h2 := congrArg Prod.snd hv
          simp only at h1 h2
          subst h2
          have HL := Lib.hid h1
          have HBS := Lib.hid (binarySearchI D rs d x.nm _ K.out.items (by omega) HGR.out.2.1)
          have c0 := K.out.blk.cell0
          have hlw := K.out.blk.lt
          clear hv h1 hmeet HV2 h0 hpe
          go_wp2_with fail
          refine HBS.out.mono ?_
          rintro e w5 ⟨⟨i, z, rfl, hi, hlo, hhi⟩, hb5⟩
          have K5 := Lib.hid (K.out.next hb5)
          have HINS := Lib.hid (insX_at hlo (fun y hy => hhi i y (Nat.le_refl _) hy))
          clear hlo hhi hb5 c0 hlw
          have c0 := K5.out.blk.cell0
          have c1 := K5.out.blk.cell1
          have hlw := K5.out.blk.lt
          have hba : Below w5.heap.size w5 (w5.alloc (.cells #[.string ⟨x.nm.toArray⟩, .slice x.A x.ms.length x.c] 50)) := (Below.refl _ w5).alloc (Nat.le_refl _) _
          have K6 := Lib.hid (K5.out.next hba)
          have hB2 : w2.heap.size ≤ (w5.alloc (.cells #[.string ⟨x.nm.toArray⟩, .slice x.A x.ms.length x.c] 50)).heap.size := by
            have := K5.out.sz
            simp; omega
          have HI := Lib.hid (itInsert (.slice D rs.length d) w2.heap.size i w5.heap.size x rs _ K6.out.row hi (by omega) (BlkI.new w5 x) (fun e => by have := (K5.out.row.lt _ e).2; omega) hB2)
          clear hba hB2
          go_wp2_with fail
          refine HI.out.mono ?_
          rintro e w7 ⟨v7, rfl, ho7, hg7⟩
          have hil : (insX rs x).length = rs.length + 1 := by rw [HINS.out]; simp; omega
          rw [← HINS.out] at ho7
          have hb7 : Below w.heap.size w w7 := K6.out.bel.grown hg7 K6.out.bel.size (fun k hk => by have := (K6.out.row.lt k hk).1; have := K6.out.hB; omega)
          obtain ⟨E7, d7, rfl, _, _, hat7⟩ := SlAt.of_own encIt_len ho7
          have HC := Lib.hid (itCopy E7 (insX rs x) d7 w7 ⟨hat7, fun y hy => by
            rcases insX_mem hy with h | h
            · exact (HX.out.2 y (HRM.out y h)).below hb7
            · subst h; exact HOX.out.below hb7⟩ (by omega) (fun y hy => by
            rcases insX_mem hy with h | h
            · exact fits_wideT HFR.out y h
            · subst h; omega))
          have HB7 := Lib.hid hb7
          clear ho7 hg7 hb7 hat7 c0 c1 hlw hil
          go_wp2_with fail
          refine HC.out.mono ?_
          rintro e w8 ⟨v8, ys, rfl, hys, ho8, hb8⟩
          have HO := Lib.hid (ho8.le HB7.out.size)
          have HY := Lib.hid (show its ys = l from by rw [hys, its_insX]; exact HL.out)
          have HB8 := Lib.hid (below_trans HB7.out hb8)
          clear ho8 hb8 hys
          go_wp2_with fail
          go_ret2
          exact ⟨⟨_, ys, rfl, HY.out, HO.out⟩, HB8.out⟩

end

section
open Go.RowKit

theorem itPut_h (v : Value) (xs : List ItV) (x : ItV) (l : List It) (n : Nat) (w : World) (h : HoldsX w v xs) (ho : ItOK w x) (hf : Fits xs) (hn : x.nm.length ≤ 1000) (hxm : x.ms.length ≤ 100) (hv : putN (its xs) x.it = (l, n)) :
    Calls Tryz.prog 38 #[v, mkIt x] w fun e w' => (∃ v zs, e = .returned (.tuple #[v, .int .i64 (n : Int)]) ∧ its zs = l ∧ OwnI w' w.heap.size v zs) ∧ Below w.heap.size w w' := by
  obtain ⟨A, c, rfl, h1, _⟩ := h
  exact itPut A xs c x l n w h1 ho hf hn hxm hv
theorem itRemove_h (v : Value) (xs : List ItV) (nm : List UInt8) (l : List It) (n : Nat) (w : World) (h : HoldsX w v xs) (hf : Fits xs) (hv : delN (its xs) nm = (l, n)) :
    Calls Tryz.prog 39 #[v, .string ⟨nm.toArray⟩] w fun e w' => (∃ v zs, e = .returned (.tuple #[v, .int .i64 (n : Int)]) ∧ its zs = l ∧ OwnI w' w.heap.size v zs) ∧ Below w.heap.size w w' := by
  obtain ⟨A, c, rfl, h1, _⟩ := h
  exact itRemove A xs c nm l n w h1 hf hv

end

section
open Go.RowKit

theorem slices2 (V L : Option Addr) (nv nl a b : Nat) : ∀ u ∈ [Value.slice V a nv, Value.slice L b nl], ∃ A n c, u = .slice A n c := by
  intro u hu
  simp at hu
  rcases hu with rfl | rfl <;> exact ⟨_, _, _, rfl⟩
section
variable {w W W' : World} {g : Nat} {V L' : Option Addr} {nv nl a b : Nat}
theorem holds_offW {v : Value} {l : List (Int × Int)} (h : Holds W v l) (hg : Blk2 W g (.slice V a nv) (.slice L' b nl)) (hs : W.heap.size ≤ W'.heap.size) (hk : ∀ b, b ≠ g → W'.heap[b]? = W.heap[b]?) : Holds W' v l := by
  have hg' : W.heap[g]? = some (.cells ([.slice V a nv, .slice L' b nl] : List Value).toArray 25 (0, 0)) := hg
  obtain ⟨A, n, e, h1, h2⟩ := h
  exact ⟨A, n, e, SlAt.off_only h1 (fun x => ⟨_, rfl, fun _ _ _ e => by cases e⟩) hg' (slices2 V L' nv nl a b) hs hk, h2⟩
theorem CaOK.offW {c : CaV} (h : CaOK W c) (hg : Blk2 W g (.slice V a nv) (.slice L' b nl)) (hs : W.heap.size ≤ W'.heap.size) (hk : ∀ b, b ≠ g → W'.heap[b]? = W.heap[b]?) : CaOK W' c := by
  have hg' : W.heap[g]? = some (.cells ([.slice V a nv, .slice L' b nl] : List Value).toArray 25 (0, 0)) := hg
  have hc := slices2 V L' nv nl a b
  obtain ⟨h1, h2, A, n, e, h3, h4⟩ := h
  exact ⟨holds_offW h1 hg hs hk, holds_offW h2 hg hs hk, A, n, e, ⟨SlAt.off_only h3.1 (fun x => ⟨_, rfl, fun _ _ _ e => by cases e⟩) hg' hc hs hk, fun x hx => ⟨SlAt.off_only (h3.2 x hx).1 (fun y => ⟨_, rfl, fun _ _ _ e => by cases e⟩) hg' hc hs hk, (h3.2 x hx).2⟩⟩, h4⟩
/-- The context's box is filled anew. -/
theorem KKE.setW {L : List (Nat × CaV)} {D : List (Nat × Int × Int)} (h : KKE w L D W) (hW : Blk2 W g (.slice V a nv) (.slice L' b nl)) (ge : w.heap.size ≤ g) (x y : Value) : KKE w L D ((W.setCell ⟨g, 0, none⟩ x).setCell ⟨g, 1, none⟩ y) := by
  have hk : ∀ k, k ≠ g → ((W.setCell ⟨g, 0, none⟩ x).setCell ⟨g, 1, none⟩ y).heap[k]? = W.heap[k]? := fun k hk => (Below.heap_setCell _ ⟨g, 1, none⟩ y k hk).trans (Below.heap_setCell W ⟨g, 0, none⟩ x k hk)
  have ty : ∀ {k : Nat} {cs : Array Value} {t : TypeId}, W.heap[k]? = some (.cells cs t (0, 0)) → t ≠ 25 → k ≠ g := fun {k cs t} h1 h2 e => by
    subst e
    have := h1.symm.trans hW
    injection this with this
    injection this with _ h3 _
    exact h2 h3
  refine ⟨⟨fun p hp => ?_, below_set2 h.kk.bel ge x y⟩, fun p hp => (hk _ (ty (h.dot p hp) (by decide))).trans (h.dot p hp)⟩
  obtain ⟨h1, h2⟩ := h.kk.box p hp
  exact ⟨(hk _ (ty h1 (by decide))).trans h1, h2.offW hW (by simp) hk⟩
end
/-- One item that is found. -/
theorem find_one {l : List It} {nm : List UInt8} {x : It} (h : l.find? (fun y => y.1 == nm) = some x) : findV l nm = (x, 0) := by unfold findV; rw [h]
theorem put_one {c : Ca} {d : Int × Int} {nm : List UInt8} {q : Int} {set : Bool} (h : putE c d nm q set = 0) : putN c.2 (nm, [newM c d q]) = (insN (remN c.2 nm) (nm, [newM c d q]), 0) := by
  obtain ⟨h1, h2, h3⟩ := put_items h
  unfold putN
  rw [if_pos ⟨h1, h2⟩, if_neg]
  show ¬ ((remN c.2 nm).any fun y => meetN y.2 [newM c d q]) = true
  rw [h3]; simp
theorem rem_one {c : Ca} {nm : List UInt8} (h : remE c nm = 0) : delN c.2 nm = (remN c.2 nm, 0) := by
  obtain ⟨h1, _, _, h4⟩ := remE_ok h
  unfold delN
  rw [if_pos (validL_good.2 (validK_iff.1 h1).2.1), if_neg]
  intro e
  obtain ⟨x, hx, he⟩ := List.any_eq_true.1 h4
  unfold remN at e
  rw [List.length_filter_eq_length_iff] at e
  have := e x hx
  rw [he] at this; cases this
theorem empty_zero {c : Ca} (h : c = zeroK) : emptyK c = true := by rw [h]; rfl
theorem small_zero {c : CaV} (h : c.ca = zeroK) : c.xs.length ≤ 100000 := by
  have h2 : c.ca.2.length = 0 := by rw [h]; rfl
  rw [ca_x, its_len] at h2
  omega
/-- The one mark of an item, as it lies there. -/
theorem one_cells {W : World} {y : ItV} {nm : List UInt8} {m : Mk} (h : y.it = (nm, [m])) (ho : ItOK W y) :
    ∃ g o, y.A = some ⟨g, o, none⟩ ∧ y.ms.length = 1 ∧ g < W.heap.size ∧ W.cell? ⟨g, o, none⟩ = some (.int .i64 m.r) ∧ W.cell? ⟨g, o + 1, none⟩ = some (.int .i64 m.c) := by
  have hm : y.ms = [m] := congrArg Prod.snd h
  have hM := ho.1
  rw [hm] at hM
  obtain ⟨g, o, hA, hb, hc⟩ := hM (by simp)
  exact ⟨g, o, hA, by rw [hm]; rfl, hb, by simpa using hc 0 m rfl 0 _ rfl, by simpa using hc 0 m rfl 1 _ rfl⟩

end

end Go.Proofs.YtiaehpdgpjhecaaGreat
