/- Several texts in one: CtxY, ItmI, ItmK, CtxI. -/
import Derived.Test.YtpnemekkpifbaaaGreatMAI
import Derived.Test.YtpnemekkpifbaaaGreatMAF
namespace Go.Proofs.YtpnemekkpifbaaaGreat

section
open Go.RowKit

/-- What a function value says of each dot, wherever what lay below base is as it was. -/
def Says (g : Nat) (lb : Array Value) (p : Int × Int → Bool) (base : Nat) (w0 : World) : Prop :=
  ∀ (r c : Int) (W : World), Below base w0 W → Calls Tryz.prog g (#[.agg #[.int .i64 r, .int .i64 c]] ++ lb) W fun e w' => e = .returned (.bool (p (r, c))) ∧ Below W.heap.size W w'

set_option maxHeartbeats 1000000 in
theorem indexFunc (lb : Array Value) (p : Int × Int → Bool) (base : Nat) (w0 : World) (A : Option Addr) (xs : List (Int × Int)) (cap : Nat) (w : World) (hp : Says 57 lb p base w0) (hbw : Below base w0 w) (hbs : base ≤ w.heap.size) (hx : DotsAt w A xs) (hm : xs.length ≤ 1000000) :
    Calls Tryz.prog 90 #[.slice A xs.length cap, .func (.func 57) #[] lb] w fun e w' =>
      ((∃ i : Nat, i < xs.length ∧ e = .returned (.int .i64 i) ∧ (∀ j q, j < i → xs[j]? = some q → p q = false) ∧ (∀ q, xs[i]? = some q → p q = true)) ∨ (e = .returned (.int .i64 (-1)) ∧ ∀ q ∈ xs, p q = false)) ∧ Below w.heap.size w w' := by
  have HP := Lib.hid hp; clear hp
  go_enter Tryz.func90, Tryz.ntmps90
  go_wp2
  go_loopw [5, 8] (fun _ i wr => ∃ m : Nat, m ≤ xs.length ∧ i = .int .i64 m ∧ Below w.heap.size w wr ∧ Hid (∀ j q, j < m → xs[j]? = some q → p q = false)) (fun _ i _ => xs.length - (intOf i).toNat)
  case atStart => exact ⟨0, by omega, rfl, Below.refl _ _, fun j q h => by omega⟩
  case round =>
    obtain ⟨m, hk2, rfl, hb, hs⟩ := hrel
    by_cases hlt : m < xs.length
    · obtain ⟨b, off, r, c, rfl, hbl, hx1, hc0, hc1⟩ := (hx.below hb).dot (j := m) hlt
      have hr := HP.out r c wr (hbw.trans (hb.mono hbs))
      have HX1 := Lib.hid hx1; clear hx1
      cases hq : p (r, c)
      · rw [hq] at hr
        have HR := Lib.hid hr; clear hr
        have HQ := Lib.hid hq; clear hq
        go_wp2_with fail
        refine HR.out.mono ?_
        rintro e w1 ⟨rfl, hb1⟩
        go_wp2
        go_roundw
        case rel =>
          refine ⟨m + 1, by omega, by go_num, hb.trans (hb1.mono hb.size), (show Hid _ from fun j q hj hq => ?_)⟩
          by_cases e : j = m
          · subst e; rw [HX1.out] at hq; cases hq; exact HQ.out
          · exact hs.out j q (by omega) hq
        case measure => simp [intOf]; omega
      · rw [hq] at hr
        have HR := Lib.hid hr; clear hr
        have HQ := Lib.hid hq; clear hq
        go_wp2_with fail
        refine HR.out.mono ?_
        rintro e w1 ⟨rfl, hb1⟩
        go_wp2
        go_ret
        exact ⟨.inl ⟨m, hlt, rfl, hs.out, fun q hq => by rw [HX1.out] at hq; cases hq; exact HQ.out⟩, hb.trans (hb1.mono hb.size)⟩
    · go_wp2
      go_ret
      refine ⟨.inr ⟨rfl, fun q hq => ?_⟩, hb⟩
      obtain ⟨j, hj⟩ := List.mem_iff_getElem?.1 hq
      have hjl : j < xs.length := by
        rcases Nat.lt_or_ge j xs.length with h | h
        · exact h
        · rw [List.getElem?_eq_none h] at hj; cases hj
      exact hs.out j q (by omega) hj

theorem grown_of_below {a w : World} (h : Below a.heap.size a w) (row : Option Nat) : a.grownBy w row := ⟨h.os, h.tape, h.output, h.size, fun i hi _ => h.block i hi⟩
theorem filter_take_step {p : Int × Int → Bool} {xs : List (Int × Int)} {j : Nat} {x : Int × Int} (hx : xs[j]? = some x) : (xs.take (j + 1)).filter (fun d => !p d) = if p x = true then (xs.take j).filter (fun d => !p d) else (xs.take j).filter (fun d => !p d) ++ [x] := by
  rw [take_snoc hx, List.filter_append]
  by_cases h : p x = true <;> simp [h]

set_option maxHeartbeats 1000000 in
theorem deleteFunc (lb : Array Value) (p : Int × Int → Bool) (base : Nat) (w0 : World) (v : Value) (xs : List (Int × Int)) (w : World) (hp : Says 57 lb p base w0) (hbw : Below base w0 w) (hbs : base ≤ w.heap.size)
    (h : w.ownsRow base 52 2 v xs.length (cellsOf encD xs)) (hm : xs.length ≤ 1000000) :
    Calls Tryz.prog 56 #[v, .func (.func 57) #[] lb] w fun e w' =>
      ∃ v', e = .returned v' ∧ w'.ownsRow base 52 2 v' (xs.filter fun d => !p d).length (cellsOf encD (xs.filter fun d => !p d)) ∧ w.grownBy w' v.ownBlock := by
  obtain ⟨A, cap, rfl, hc1, hc2, hx⟩ := SlAt.of_own encD_len h
  have hi := indexFunc lb p base w0 A xs cap w hp hbw hbs hx hm
  have HI := Lib.hid hi
  have H := Lib.hid h
  have HP := Lib.hid hp
  clear hi h hp
  unfold maxLen at hc2
  go_enter Tryz.func56, Tryz.ntmps56
  go_wp2_with fail
  refine HI.out.mono ?_
  rintro e w1 ⟨⟨i, hi1, rfl, hi2, hi3⟩ | ⟨rfl, hno⟩, hb1⟩
  · obtain ⟨g, cap', hv, hbg, hgl⟩ := H.out.form (by omega)
    injection hv with hA hn hcc
    subst hA
    have hne1 : ((i : Int) == -1) = false := by simp
    have ho1 : w1.ownsRow base 52 2 (.slice (some ⟨g, 0, none⟩) xs.length cap) xs.length (cellsOf encD xs) := H.out.kept (grown_of_below hb1 none) (by simp [Value.ownBlock])
    have hg1 : w.grownBy w1 (some g) := grown_of_below hb1 _
    obtain ⟨x, hxi⟩ : ∃ x, xs[i]? = some x := ⟨_, List.getElem?_eq_getElem hi1⟩
    have hpre : (xs.take i).filter (fun d => !p d) = xs.take i := by
      rw [List.filter_eq_self]
      intro q hq
      obtain ⟨j, hj⟩ := List.mem_iff_getElem?.1 hq
      rw [List.getElem?_take] at hj
      split at hj
      · simp [hi2 j q (by omega) hj]
      · cases hj
    have hst : ∃ P, (P : List (Int × Int)).length = i ∧ P = (xs.take (i + 1)).filter (fun d => !p d) ∧ P ++ xs.drop P.length = xs := by
      have hl : (xs.take i).length = i := by simp; omega
      refine ⟨xs.take i, hl, ?_, by rw [hl]; exact List.take_append_drop _ _⟩
      rw [filter_take_step hxi, if_pos (hi3 x hxi), hpre]
    have HST := Lib.hid hst
    have HO := Lib.hid ho1
    have HG := Lib.hid hg1
    clear hst ho1 hg1 hpre hi2 hi3 hxi hn hcc hx hb1 HI
    go_wp2
    go_loopw [5, 6, 7] (fun k j _ wr => ∃ (P : List (Int × Int)) (t : Nat), t ≤ xs.length ∧ P.length < t ∧ k = .int .i64 (P.length : Int) ∧ j = .int .i64 t ∧ Hid (P = (xs.take t).filter (fun d => !p d)) ∧
        Hid (wr.ownsRow base 52 2 (.slice (some ⟨g, 0, none⟩) xs.length cap) xs.length (cellsOf encD (P ++ xs.drop P.length))) ∧ Hid (w.grownBy wr (some g))) (fun _ j _ _ => xs.length - (intOf j).toNat)
    case atStart =>
      obtain ⟨P, h1, h2, h3⟩ := HST.out
      exact ⟨P, i + 1, by omega, by omega, by rw [h1], by go_num, h2, by rw [h3]; exact HO, HG⟩
    case round =>
      obtain ⟨P, t, hk1, hk3, rfl, rfl, hP, hown3, hgr3⟩ := hrel
      have hbwr : Below base w0 wr := hbw.grown hgr3.out hbs (fun k hk => by cases hk; exact hbg)
      have hbsr : base ≤ wr.heap.size := Nat.le_trans hbs hgr3.out.size
      by_cases hlt : t < xs.length
      · obtain ⟨⟨r, c⟩, hxt⟩ : ∃ x, xs[t]? = some x := ⟨_, List.getElem?_eq_getElem hlt⟩
        obtain ⟨⟨rp, cp⟩, hxp⟩ : ∃ x, xs[P.length]? = some x := ⟨_, List.getElem?_eq_getElem (by omega)⟩
        obtain ⟨l0, l1, _, _⟩ := own_dot hown3.out (j := t) ((get_tail (by omega)).trans hxt)
        have hfs := filter_take_step (p := p) hxt
        rw [← hP.out] at hfs
        have HXT := Lib.hid hxt; clear hxt
        have HXP := Lib.hid hxp; clear hxp
        cases hq : p (r, c)
        · rw [hq] at hfs
          simp only [Bool.false_eq_true, if_false] at hfs
          have HFS := Lib.hid hfs; clear hfs
          have hr := fun W hW => HP.out r c W hW
          rw [hq] at hr
          have HR := Lib.hid hr; clear hr hq
          go_wp2_with fail
          refine (HR.out _ (hbwr.alloc hbsr _)).mono ?_
          rintro e w2 ⟨rfl, hb2⟩
          have hb3 := below_trans ((Below.refl _ wr).alloc (Nat.le_refl _) _) hb2
          have d0 := (hb2.cell (p := ⟨wr.heap.size, 0, none⟩) (by simp)).trans (show _ = some (.int .i64 r) by simp [World.cell?_alloc_new])
          have d1 := (hb2.cell (p := ⟨wr.heap.size, 1, none⟩) (by simp)).trans (show _ = some (.int .i64 c) by simp [World.cell?_alloc_new])
          have ho2 : w2.ownsRow base 52 2 (.slice (some ⟨g, 0, none⟩) xs.length cap) xs.length (cellsOf encD (P ++ xs.drop P.length)) := hown3.out.kept (grown_of_below hb3 none) (by simp [Value.ownBlock])
          obtain ⟨l4, l5, l6, l7⟩ := own_dot ho2 (j := P.length) ((get_tail (by omega)).trans HXP.out)
          have hos := own_store (r := r) (c := c) ho2 (j := P.length) (by simp; omega)
          rw [set_tail (by omega)] at hos
          have hgg := grown_trans' (grown_trans' hgr3.out (grown_of_below hb3 (some g))) hos.2
          have HOS := Lib.hid hos.1
          have HGG := Lib.hid hgg
          clear hos hgg ho2 hb2 hb3 l0 l1
          go_wp2
          go_roundw
          case rel => exact ⟨P ++ [(r, c)], t + 1, by omega, by simp; omega, by simp, by go_num, HFS.out.symm, HOS, HGG⟩
          case measure => simp [intOf]; omega
        · rw [if_pos hq] at hfs
          have HFS := Lib.hid hfs; clear hfs
          have hr := fun W hW => HP.out r c W hW
          rw [hq] at hr
          have HR := Lib.hid hr; clear hr hq
          go_wp2_with fail
          refine (HR.out _ (hbwr.alloc hbsr _)).mono ?_
          rintro e w2 ⟨rfl, hb2⟩
          have hb3 := below_trans ((Below.refl _ wr).alloc (Nat.le_refl _) _) hb2
          have ho2 : w2.ownsRow base 52 2 (.slice (some ⟨g, 0, none⟩) xs.length cap) xs.length (cellsOf encD (P ++ xs.drop P.length)) := hown3.out.kept (grown_of_below hb3 none) (by simp [Value.ownBlock])
          have hgg := grown_trans' hgr3.out (grown_of_below hb3 (some g))
          have HO2 := Lib.hid ho2
          have HGG := Lib.hid hgg
          clear hgg ho2 hb2 hb3 l0 l1
          go_wp2
          go_roundw
          case rel => exact ⟨P, t + 1, by omega, by omega, rfl, by go_num, HFS.out.symm, HO2, HGG⟩
          case measure => simp [intOf]; omega
      · have hPx : P = xs.filter (fun d => !p d) := by rw [hP.out, List.take_of_length_le (by omega)]
        have hltP : P.length < xs.length := by omega
        obtain ⟨w', hcl, ho', hg'⟩ := run_clear_own (P := Tryz.prog) (z := .agg #[.int .i64 0, .int .i64 0]) (k := 2) Tryz.underlying25 Tryz.zeroValue52 rfl (by simp [Value.cells]; rfl) hown3.out hltP (cap - P.length)
        have hct : (cellsOf encD (P ++ xs.drop P.length)).take (P.length * 2) = cellsOf encD P := by
          rw [show cellsOf encD (P ++ xs.drop P.length) = cellsOf encD P ++ cellsOf encD (xs.drop P.length) by simp [cellsOf], ← cellsOf_length encD_len P, List.take_left]
        rw [hct] at ho'
        have hPc : P.length < cap := by omega
        have HPX := Lib.hid hPx
        have HO' := Lib.hid ho'
        have hgf := grown_trans' hgr3.out hg'
        clear hPx ho' hg' hct hown3 hgr3 hP HO HG HST
        go_wp2
        go_ret
        exact ⟨_, rfl, by rw [← HPX.out]; exact HO'.out, hgf⟩
  · have hf : xs.filter (fun d => !p d) = xs := by
      rw [List.filter_eq_self]
      intro q hq
      simp [hno q hq]
    have HF := Lib.hid hf
    have ho1 : w1.ownsRow base 52 2 (.slice A xs.length cap) xs.length (cellsOf encD xs) := H.out.kept (grown_of_below hb1 none) (by cases A <;> simp [Value.ownBlock])
    have HO := Lib.hid ho1
    have hg1 := grown_of_below hb1 (Value.slice A xs.length cap).ownBlock
    clear hf ho1 hno hx
    go_wp2
    go_ret
    exact ⟨_, rfl, by rw [HF.out]; exact HO.out, hg1⟩

/-- 'm[k]' where the operation is guarded, and the guard lets it by. -/
theorem wpList_lookup_own_g {H : Type} {P : Program} (w : World) {ops : Array Oper} {rest : List Oper} {o : Oper} {a : Act} {Q : Exit → Act → World → Prop}
    (hg : Region.wanted o (yielded ops a.tmps) = true) (m x : Operand) (t : TypeId) (hop : o.op = Op.lookup t m x false)
    (k e : TypeId) (q : IntKind) (K : Maps.Keyed P k) (ht : P.underlying t = some (.map k e)) (he : P.underlying e = some (.int q)) (hz : (zeroValue e).run P w = .ok (.int q 0) w) (b n : Nat) (D : DataW H)
    (hm : a.eval m = .map (some b)) (hown : w.ownsMap P k (plainElem P e) b n D) (key : Value) (kl : Lit) (hx : a.eval x = key) (hkey : keyOf P k key = some kl)
    (hK : ∀ c : Int, D.atKey kl (.lit (.int q 0)) = .lit (.int q c) → (Lit.int q c).wf = true → wpList P ops Q rest (a.put o.dst (.int q c)) w) :
    wpList P ops Q (o :: rest) a w := by
  refine wpList_step fun K' hK' => ?_
  rw [if_pos hg]
  obtain ⟨c, hrun, hat, hwc⟩ := hown.lookup_int K ht he hz hkey
  unfold Oper.wp
  simp [execOp, hop, hm, hx, hrun, Result.andThen]
  exact hK' _ _ (hK c hat hwc)

theorem hasC_set (vs ls : List (Int × Int)) (r c : Int) : hasC vs ls r c = (validD r c && (decide ((r, c) ∈ setL ls) || decide (c ≤ getV vs r))) := by
  rw [hasC_cases]
  unfold hasV
  have : decide ((r, c) ∈ setL ls) = decide ((r, c) ∈ ls) := by
    rw [decide_eq_decide]; exact mem_setL ls (r, c)
  rw [this]
  cases validD r c <;> cases decide (c ≤ getV vs r) <;> cases decide ((r, c) ∈ ls) <;> rfl

set_option maxRecDepth 100000 in
set_option maxHeartbeats 2000000 in
theorem missing1 (bo bi mb n : Nat) (A : Option Addr) (s vs : List (Int × Int)) (cap : Nat) (D : DataW Unit) (r c : Int) (w : World) (hx : DotsAt w A s) (hm : s.length ≤ 1000000) (hs : Inc s)
    (h0 : w.cell? ⟨bo, 0, none⟩ = some (.slice A s.length cap)) (h1 : w.cell? ⟨bi, 0, none⟩ = some (.map (some mb))) (ho : w.ownsMap Tryz.prog 3 (plainElem Tryz.prog 3) mb n D) (hD : GetF D (getV vs)) :
    Calls Tryz.prog 57 #[.agg #[.int .i64 r, .int .i64 c], .pointer (some ⟨bo, 0, none⟩), .pointer (some ⟨bi, 0, none⟩)] w fun e w' =>
      e = .returned (.bool (validD r c && (decide ((r, c) ∈ s) || decide (c ≤ getV vs r)))) ∧ Below w.heap.size w w' := by
  have l1 := World.block_lt_of_cell? w _ h0
  have l2 := World.block_lt_of_cell? w _ h1
  have hal : Below w.heap.size w (w.alloc (.cells #[.int .i64 r, .int .i64 c] 52)) := (Below.refl _ w).alloc (Nat.le_refl _) _
  have K := Lib.hid ((KX.nil w).box (.int .i64 r) (.int .i64 c) 52)
  have VD := fun W => dotValid r c W
  have HBS := fun W (hW : Below w.heap.size w W) => binarySearch A s cap r c W (hx.below hW) hm hs
  generalize hin : decide ((r, c) ∈ s) = inn at HBS ⊢
  have HB := Lib.hid HBS
  have HAL := Lib.hid hal
  have H1 := Lib.hid h1
  have HO := Lib.hid ho
  clear HBS hin hs hx hal
  cases hv : validD r c with
  | false =>
    rw [hv] at VD
    have HV := Lib.hid VD
    clear VD hv h1 ho
    cases inn
    all_goals
      go_enter Tryz.func57, Tryz.ntmps57
      go_wp2_with fail
      refine (HB.out _ HAL.out).mono ?_
      rintro e w1 ⟨⟨i, rfl⟩, hb1⟩
      have K1 := Lib.hid (K.out.below hb1)
      have k0 := K1.out.cell (a := ⟨w.heap.size, 0, none⟩) (v := .int .i64 r) (by simp)
      have k1 := K1.out.cell (a := ⟨w.heap.size, 1, none⟩) (v := .int .i64 c) (by simp)
      clear hb1
      go_wp2_with fail
      refine (HV.out _).mono ?_
      rintro e w2 ⟨rfl, hb2⟩
      have K2 := Lib.hid (K1.out.below hb2)
      clear hb2 k0 k1
      go_wp2
      go_ret
      exact ⟨rfl, K2.out.bel⟩
  | true =>
    rw [hv] at VD
    have HV := Lib.hid VD
    clear VD
    cases inn with
    | true =>
      clear hv h1 ho
      go_enter Tryz.func57, Tryz.ntmps57
      go_wp2_with fail
      refine (HB.out _ HAL.out).mono ?_
      rintro e w1 ⟨⟨i, rfl⟩, hb1⟩
      have K1 := Lib.hid (K.out.below hb1)
      have k0 := K1.out.cell (a := ⟨w.heap.size, 0, none⟩) (v := .int .i64 r) (by simp)
      have k1 := K1.out.cell (a := ⟨w.heap.size, 1, none⟩) (v := .int .i64 c) (by simp)
      clear hb1
      go_wp2_with fail
      refine (HV.out _).mono ?_
      rintro e w2 ⟨rfl, hb2⟩
      have K2 := Lib.hid (K1.out.below hb2)
      clear hb2 k0 k1
      go_wp2
      go_ret
      exact ⟨rfl, K2.out.bel⟩
    | false =>
      have hvb : 1 ≤ r ∧ r ≤ 65535 ∧ 1 ≤ c ∧ c ≤ 4294967295 := by simpa [validD] using hv
      have hkey : keyOf Tryz.prog 3 (.int .i64 r) = some (.int .i64 r) := Maps.keyOf_int_mk Tryz.underlying3 (WalkArith.wf_i64 (by omega))
      have hval := fun c0 h => hD.val (r := r) (c := c0) h
      generalize getV vs r = g at hval ⊢
      have HVAL := Lib.hid hval
      clear hval hv h1 ho
      by_cases hle : c ≤ g
      · have hd : (true && (false || decide (c ≤ g))) = true := by simp [hle]
        rw [hd]
        clear hd
        go_enter Tryz.func57, Tryz.ntmps57
        go_wp2_with fail
        refine (HB.out _ HAL.out).mono ?_
        rintro e w1 ⟨⟨i, rfl⟩, hb1⟩
        have K1 := Lib.hid (K.out.below hb1)
        have B1 := Lib.hid (below_trans HAL.out hb1)
        have k0 := K1.out.cell (a := ⟨w.heap.size, 0, none⟩) (v := .int .i64 r) (by simp)
        have k1 := K1.out.cell (a := ⟨w.heap.size, 1, none⟩) (v := .int .i64 c) (by simp)
        clear hb1
        go_wp2_with fail
        refine (HV.out _).mono ?_
        rintro e w2 ⟨rfl, hb2⟩
        have K2 := Lib.hid (K1.out.below hb2)
        have B2 := Lib.hid (below_trans B1.out hb2)
        clear hb2 k0 k1
        have k0 := K2.out.cell (a := ⟨w.heap.size, 0, none⟩) (v := .int .i64 r) (by simp)
        have k1 := K2.out.cell (a := ⟨w.heap.size, 1, none⟩) (v := .int .i64 c) (by simp)
        have k2 := (B2.out.cell (p := ⟨bi, 0, none⟩) l2).trans H1.out
        have HO2 := Lib.hid (HO.out.kept (grown_of_below2 B2.out none) (by simp))
        go_wp2_with (first
          | (at_lookup; refine wpList_lookup_own_g _ (by first | rfl | simp [Region.wanted, yielded]) _ _ mapT rfl 3 3 .i64 law3 Tryz.underlying103 Tryz.underlying3 (zero3 _) mb _ _ rfl HO2.out _ _ rfl hkey ?_; intro c0 hat hwc; obtain rfl := HVAL.out _ hat; clear hat hwc)
          | go_in)
        go_ret
        exact ⟨rfl, K2.out.bel⟩
      · have hd : (true && (false || decide (c ≤ g))) = false := by simp [hle]
        rw [hd]
        clear hd
        go_enter Tryz.func57, Tryz.ntmps57
        go_wp2_with fail
        refine (HB.out _ HAL.out).mono ?_
        rintro e w1 ⟨⟨i, rfl⟩, hb1⟩
        have K1 := Lib.hid (K.out.below hb1)
        have B1 := Lib.hid (below_trans HAL.out hb1)
        have k0 := K1.out.cell (a := ⟨w.heap.size, 0, none⟩) (v := .int .i64 r) (by simp)
        have k1 := K1.out.cell (a := ⟨w.heap.size, 1, none⟩) (v := .int .i64 c) (by simp)
        clear hb1
        go_wp2_with fail
        refine (HV.out _).mono ?_
        rintro e w2 ⟨rfl, hb2⟩
        have K2 := Lib.hid (K1.out.below hb2)
        have B2 := Lib.hid (below_trans B1.out hb2)
        clear hb2 k0 k1
        have k0 := K2.out.cell (a := ⟨w.heap.size, 0, none⟩) (v := .int .i64 r) (by simp)
        have k1 := K2.out.cell (a := ⟨w.heap.size, 1, none⟩) (v := .int .i64 c) (by simp)
        have k2 := (B2.out.cell (p := ⟨bi, 0, none⟩) l2).trans H1.out
        have HO2 := Lib.hid (HO.out.kept (grown_of_below2 B2.out none) (by simp))
        go_wp2_with (first
          | (at_lookup; refine wpList_lookup_own_g _ (by first | rfl | simp [Region.wanted, yielded]) _ _ mapT rfl 3 3 .i64 law3 Tryz.underlying103 Tryz.underlying3 (zero3 _) mb _ _ rfl HO2.out _ _ rfl hkey ?_; intro c0 hat hwc; obtain rfl := HVAL.out _ hat; clear hat hwc)
          | go_in)
        go_ret
        exact ⟨ret_bool (decide_eq_false (by omega)), K2.out.bel⟩

theorem Says.missing {bo bi mb n : Nat} {A : Option Addr} {s vs : List (Int × Int)} {cap : Nat} {D : DataW Unit} {w : World} (hx : DotsAt w A s) (hm : s.length ≤ 1000000) (hs : Inc s)
    (h0 : w.cell? ⟨bo, 0, none⟩ = some (.slice A s.length cap)) (h1 : w.cell? ⟨bi, 0, none⟩ = some (.map (some mb))) (ho : w.ownsMap Tryz.prog 3 (plainElem Tryz.prog 3) mb n D) (hD : GetF D (getV vs)) :
    Says 57 #[.pointer (some ⟨bo, 0, none⟩), .pointer (some ⟨bi, 0, none⟩)] (fun d => validD d.1 d.2 && (decide (d ∈ s) || decide (d.2 ≤ getV vs d.1))) w.heap.size w := fun r c W hW =>
  missing1 bo bi mb n A s vs cap D r c W (hx.below hW) hm hs ((hW.cell (p := ⟨bo, 0, none⟩) (World.block_lt_of_cell? w _ h0)).trans h0) ((hW.cell (p := ⟨bi, 0, none⟩) (World.block_lt_of_cell? w _ h1)).trans h1) (ho.kept (grown_of_below2 hW none) (by simp)) hD

end

section
open Go.RowKit

theorem own_it {w : World} {base g n cap : Nat} {e : TypeId} {ys : List ItV} (h : w.ownsRow base e 2 (.slice (some ⟨g, 0, none⟩) n cap) n (cellsOf encIt ys)) {j : Nat} {x : ItV} (hj : ys[j]? = some x) :
    w.cell? ⟨g, j * 2, none⟩ = some (.string ⟨x.nm.toArray⟩) ∧ w.cell? ⟨g, j * 2 + 1, none⟩ = some (.slice x.A x.ms.length x.c) ∧ w.frozen? ⟨g, j * 2, none⟩ = false ∧ w.frozen? ⟨g, j * 2 + 1, none⟩ = false := by
  have h0 := h.cells (g := g) rfl (j * 2) _ (cellsOf_at encIt_len ys j x 0 _ hj rfl)
  have h1 := h.cells (g := g) rfl (j * 2 + 1) _ (cellsOf_at encIt_len ys j x 1 _ hj rfl)
  rw [Addr_add] at h0 h1
  exact ⟨by simpa using h0, by simpa using h1, h.frozenAt _, h.frozenAt _⟩
/-- Items in a row of the call's own, and all that was there as it was. -/
def MineI (w w' : World) (v : Value) (xs : List ItV) : Prop := RowT w' w.heap.size v xs ∧ Below w.heap.size w w'
theorem MineI.holds {w w' : World} {v : Value} {xs : List ItV} (h : MineI w w' v xs) (hk : ∀ x ∈ xs, ItOK w x) : HoldsX w' v xs := HoldsX.of_own h.1 fun x hx => (hk x hx).below h.2

end

section
open Go.RowKit

theorem beforeN_irrefl : ∀ a : List UInt8, beforeN a a = false
  | [] => rfl
  | a :: r => by rw [beforeN, if_pos rfl]; exact beforeN_irrefl r
theorem beforeN_trans : ∀ {a b c : List UInt8}, beforeN a b = true → beforeN b c = true → beforeN a c = true
  | [], [], _, h, _ => by simp [beforeN] at h
  | _ :: _, [], _, h, _ => by simp [beforeN] at h
  | _, _ :: _, [], _, h => by simp [beforeN] at h
  | [], _ :: _, _ :: _, _, _ => rfl
  | a :: r, b :: s, c :: t, h1, h2 => by
    rw [beforeN] at h1 h2 ⊢
    by_cases e1 : a = b
    · rw [if_pos e1] at h1
      subst e1
      by_cases e2 : a = c
      · rw [if_pos e2] at h2 ⊢
        exact beforeN_trans h1 h2
      · rw [if_neg e2] at h2 ⊢
        exact h2
    · rw [if_neg e1] at h1
      have h1' := of_decide_eq_true h1
      by_cases e2 : b = c
      · rw [if_pos e2] at h2
        subst e2
        rw [if_neg e1]; exact h1
      · rw [if_neg e2] at h2
        have h2' := of_decide_eq_true h2
        rw [if_neg (fun e => by subst e; omega)]
        exact decide_eq_true (by omega)
theorem beforeN_total : ∀ {a b : List UInt8}, beforeN a b = false → beforeN b a = false → a = b
  | [], [], _, _ => rfl
  | [], _ :: _, h, _ => by simp [beforeN] at h
  | _ :: _, [], _, h => by simp [beforeN] at h
  | a :: r, b :: s, h1, h2 => by
    rw [beforeN] at h1 h2
    by_cases e : a = b
    · subst e
      rw [if_pos rfl] at h1 h2
      rw [beforeN_total h1 h2]
    · rw [if_neg e] at h1
      rw [if_neg (fun k => e k.symm)] at h2
      have k1 := of_decide_eq_false h1
      have k2 := of_decide_eq_false h2
      exact absurd (UInt8.toNat_inj.1 (by omega)) e

/-- Names strictly increase. -/
def IncN (l : List It) : Prop := l.Pairwise fun x y => beforeN x.1 y.1 = true
/-- Items that are valid, said of all pairs. -/
def Good (l : List It) : Prop := (∀ x ∈ l, okI x = true) ∧ IncN l ∧ l.Pairwise fun x y => meetN x.2 y.2 = false

theorem IncN.of_next : ∀ {l : List It}, (∀ (j : Nat) (x y : It), l[j]? = some x → l[j + 1]? = some y → beforeN x.1 y.1 = true) → IncN l
  | [], _ => List.Pairwise.nil
  | [_], _ => List.pairwise_singleton _ _
  | a :: b :: r, h => by
    have ih : IncN (b :: r) := IncN.of_next fun j x y hx hy => h (j + 1) x y (by simpa using hx) (by simpa using hy)
    have h0 := h 0 a b rfl rfl
    refine List.pairwise_cons.2 ⟨fun z hz => ?_, ih⟩
    rcases List.mem_cons.1 hz with e | hz
    · subst e; exact h0
    · exact beforeN_trans h0 ((List.pairwise_cons.1 ih).1 z hz)
theorem IncN.get {l : List It} (h : IncN l) {i j : Nat} {x y : It} (hi : l[i]? = some x) (hj : l[j]? = some y) (hij : i < j) : beforeN x.1 y.1 = true := by
  obtain ⟨hil, rfl⟩ := List.getElem?_eq_some_iff.1 hi
  obtain ⟨hjl, rfl⟩ := List.getElem?_eq_some_iff.1 hj
  exact List.pairwise_iff_getElem.1 h i j hil hjl hij
theorem validL_good {l : List It} : validL l = true ↔ Good l := by
  rw [validL_iff]
  constructor
  · intro h
    have h' : ∀ (j : Nat) (x : It), l[j]? = some x → okI x = true ∧ behindAt l x j = true ∧ (List.range j).all (apartAt l x) = true := fun j x hx => by
      have := h j (List.getElem?_eq_some_iff.1 hx).1
      unfold okAt at this
      rw [hx] at this
      simpa [Bool.and_eq_true] using this
    refine ⟨fun x hx => ?_, IncN.of_next fun j x y hx hy => ?_, ?_⟩
    · obtain ⟨j, hj⟩ := List.mem_iff_getElem?.1 hx
      exact (h' j x hj).1
    · have := (h' (j + 1) y hy).2.1
      rwa [behindAt_succ rfl hx] at this
    · rw [List.pairwise_iff_getElem]
      intro i j hi hj hij
      have := (h' j l[j] (List.getElem?_eq_getElem hj)).2.2
      rw [List.all_eq_true] at this
      have := this i (List.mem_range.2 hij)
      unfold apartAt at this
      rw [List.getElem?_eq_getElem hi] at this
      simpa using this
  · rintro ⟨h1, h2, h3⟩ j hj
    unfold okAt
    rw [List.getElem?_eq_getElem hj]
    simp only [Bool.and_eq_true, List.all_eq_true, List.mem_range]
    refine ⟨h1 _ (List.getElem_mem hj), ?_, fun i hi => ?_⟩
    · cases j with
      | zero => rfl
      | succ n =>
        rw [behindAt_succ rfl (List.getElem?_eq_getElem (by omega))]
        exact h2.get (List.getElem?_eq_getElem (by omega)) (List.getElem?_eq_getElem hj) (Nat.lt_succ_self n)
    · unfold apartAt
      rw [List.getElem?_eq_getElem (by omega)]
      have := List.pairwise_iff_getElem.1 h3 i j (by omega) hj hi
      simp [this]
theorem good_nil : Good [] := ⟨by simp, List.Pairwise.nil, List.Pairwise.nil⟩
theorem Good.sub {l k : List It} (h : Good l) (hs : List.Sublist k l) : Good k := ⟨fun x hx => h.1 x (hs.subset hx), h.2.1.sublist hs, h.2.2.sublist hs⟩
theorem IncN.ext : ∀ {s t : List It}, IncN s → IncN t → (∀ d, d ∈ s ↔ d ∈ t) → s = t
  | [], [], _, _, _ => rfl
  | [], y :: t, _, _, h => by have := (h y).2 (by simp); simp at this
  | x :: s, [], _, _, h => by have := (h x).1 (by simp); simp at this
  | x :: s, y :: t, hs, ht, h => by
    have hs' := List.pairwise_cons.1 hs
    have ht' := List.pairwise_cons.1 ht
    have hxy : x = y := by
      have h1 := (h x).1 (by simp)
      have h2 := (h y).2 (by simp)
      rcases List.mem_cons.1 h1 with e | h1
      · exact e
      · rcases List.mem_cons.1 h2 with e | h2
        · exact e.symm
        · have a := beforeN_trans (ht'.1 x h1) (hs'.1 y h2)
          rw [beforeN_irrefl] at a; cases a
    subst hxy
    have : s = t := IncN.ext hs'.2 ht'.2 fun d => by
      have hd := h d
      simp only [List.mem_cons] at hd
      constructor
      · intro hm
        rcases hd.1 (.inr hm) with e | h'
        · subst e; have := hs'.1 d hm; rw [beforeN_irrefl] at this; cases this
        · exact h'
      · intro hm
        rcases hd.2 (.inr hm) with e | h'
        · subst e; have := ht'.1 d hm; rw [beforeN_irrefl] at this; cases this
        · exact h'
    rw [this]
theorem IncN.name {l : List It} (h : IncN l) {x y : It} (hx : x ∈ l) (hy : y ∈ l) (he : x.1 = y.1) : x = y := by
  obtain ⟨i, hi⟩ := List.mem_iff_getElem?.1 hx
  obtain ⟨j, hj⟩ := List.mem_iff_getElem?.1 hy
  rcases Nat.lt_trichotomy i j with k | k | k
  · have := h.get hi hj k; rw [he, beforeN_irrefl] at this; cases this
  · subst k; rw [hi] at hj; cases hj; rfl
  · have := h.get hj hi k; rw [he, beforeN_irrefl] at this; cases this

def insN (l : List It) (x : It) : List It := l.takeWhile (fun y => beforeN y.1 x.1) ++ x :: l.dropWhile (fun y => beforeN y.1 x.1)
theorem mem_insN {l : List It} {x y : It} : y ∈ insN l x ↔ y ∈ l ∨ y = x := by
  unfold insN
  have h : y ∈ l ↔ y ∈ l.takeWhile (fun y => beforeN y.1 x.1) ∨ y ∈ l.dropWhile (fun y => beforeN y.1 x.1) := by
    conv => lhs; rw [← List.takeWhile_append_dropWhile (p := fun y => beforeN y.1 x.1) (l := l)]
    exact List.mem_append
  rw [List.mem_append, List.mem_cons, h]
  constructor
  · rintro (h | h | h)
    · exact .inl (.inl h)
    · exact .inr h
    · exact .inl (.inr h)
  · rintro ((h | h) | h)
    · exact .inl h
    · exact .inr (.inr h)
    · exact .inr (.inl h)
theorem tw_all {α : Type} {p : α → Bool} : ∀ {l : List α} {x : α}, x ∈ l.takeWhile p → p x = true
  | [], x, h => by simp at h
  | a :: r, x, h => by
    rw [List.takeWhile_cons] at h
    by_cases ha : p a = true
    · rw [if_pos ha] at h
      rcases List.mem_cons.1 h with e | h
      · subst e; exact ha
      · exact tw_all h
    · rw [if_neg ha] at h; simp at h
theorem IncN.dw : ∀ {l : List It} (_ : IncN l) {nm : List UInt8} {z : It}, z ∈ l.dropWhile (fun y => beforeN y.1 nm) → beforeN z.1 nm = false
  | [], _, _, z, h => by simp at h
  | a :: r, hl, nm, z, h => by
    rw [List.dropWhile_cons] at h
    have hl' := List.pairwise_cons.1 hl
    by_cases ha : beforeN a.1 nm = true
    · rw [if_pos ha] at h
      exact IncN.dw hl'.2 h
    · rw [if_neg ha] at h
      rcases List.mem_cons.1 h with e | h
      · subst e; simpa using ha
      · cases hz : beforeN z.1 nm with
        | false => rfl
        | true => exact absurd (beforeN_trans (hl'.1 z h) hz) ha
theorem IncN.ins {l : List It} {x : It} (h : IncN l) (hn : ∀ y ∈ l, y.1 ≠ x.1) : IncN (insN l x) := by
  unfold insN
  have hd : ∀ z ∈ l.dropWhile (fun y => beforeN y.1 x.1), beforeN x.1 z.1 = true := fun z hz => by
    cases hb : beforeN x.1 z.1 with
    | true => rfl
    | false => exact absurd (beforeN_total (h.dw hz) hb) (hn z (List.dropWhile_subset _ hz))
  have ht : ∀ z ∈ l.takeWhile (fun y => beforeN y.1 x.1), beforeN z.1 x.1 = true := fun z hz => tw_all (p := fun y : It => beforeN y.1 x.1) hz
  refine List.pairwise_append.2 ⟨h.sublist (List.takeWhile_sublist _), List.pairwise_cons.2 ⟨hd, h.sublist (List.dropWhile_sublist _)⟩, fun a ha b hb => ?_⟩
  rcases List.mem_cons.1 hb with e | hb
  · subst e; exact ht a ha
  · exact beforeN_trans (ht a ha) (hd b hb)
theorem meetN_comm (a b : List Mk) : meetN a b = meetN b a := by
  rw [Bool.eq_iff_iff]
  simp only [meetN, hasD, List.any_eq_true, decide_eq_true_eq]
  constructor
  · rintro ⟨m, hm, k, hk, h1, h2⟩; exact ⟨k, hk, m, hm, h1.symm, h2.symm⟩
  · rintro ⟨m, hm, k, hk, h1, h2⟩; exact ⟨k, hk, m, hm, h1.symm, h2.symm⟩
theorem Good.apart {l : List It} (h : Good l) {x y : It} (hx : x ∈ l) (hy : y ∈ l) (hn : x.1 ≠ y.1) : meetN x.2 y.2 = false := by
  obtain ⟨i, hi⟩ := List.mem_iff_getElem?.1 hx
  obtain ⟨j, hj⟩ := List.mem_iff_getElem?.1 hy
  obtain ⟨hil, rfl⟩ := List.getElem?_eq_some_iff.1 hi
  obtain ⟨hjl, rfl⟩ := List.getElem?_eq_some_iff.1 hj
  rcases Nat.lt_trichotomy i j with k | k | k
  · exact List.pairwise_iff_getElem.1 h.2.2 i j hil hjl k
  · subst k; exact absurd rfl hn
  · rw [meetN_comm]; exact List.pairwise_iff_getElem.1 h.2.2 j i hjl hil k
/-- Good items: all are right, names increase, any two with other names lie apart. -/
theorem Good.of {l : List It} (h1 : ∀ x ∈ l, okI x = true) (h2 : IncN l) (h3 : ∀ x ∈ l, ∀ y ∈ l, x.1 ≠ y.1 → meetN x.2 y.2 = false) : Good l := by
  refine ⟨h1, h2, List.pairwise_iff_getElem.2 fun i j hi hj hij => h3 _ (List.getElem_mem hi) _ (List.getElem_mem hj) fun e => ?_⟩
  have := List.pairwise_iff_getElem.1 h2 i j hi hj hij
  rw [e, beforeN_irrefl] at this; cases this
theorem Good.ins {l : List It} {x : It} (h : Good l) (hx : okI x = true) (hn : ∀ y ∈ l, y.1 ≠ x.1) (hm : (l.any fun y => meetN y.2 x.2) = false) : Good (insN l x) := by
  have hm' : ∀ y ∈ l, meetN y.2 x.2 = false := fun y hy => by
    rw [List.any_eq_false] at hm
    simpa using hm y hy
  refine Good.of (fun y hy => ?_) (h.2.1.ins hn) fun y hy z hz hne => ?_
  · rcases mem_insN.1 hy with k | k
    · exact h.1 y k
    · subst k; exact hx
  · rcases mem_insN.1 hy with k | k <;> rcases mem_insN.1 hz with k' | k'
    · exact h.apart k k' hne
    · subst k'; exact hm' y k
    · subst k; rw [meetN_comm]; exact hm' z k'
    · subst k k'; exact absurd rfl hne
/-- All dots. -/
def allD (l : List It) : List (Int × Int) := l.flatMap fun x => dotsM x.2
theorem setL_join (a b : List (Int × Int)) : setL (setL a ++ b) = setL (a ++ b) := setL_congr fun d => by
  rw [List.mem_append, List.mem_append, mem_setL]
theorem dotsI_all (l : List It) : dotsI l = setL (allD l) := by
  have h : ∀ (l : List It) (s : List (Int × Int)), l.foldl (fun s x => setL (s ++ dotsM x.2)) (setL s) = setL (s ++ allD l) := fun l => by
    induction l with
    | nil => intro s; simp [allD]
    | cons x r ih =>
      intro s
      rw [List.foldl_cons, setL_join, ih]
      simp [allD, List.append_assoc]
  have := h l []
  rwa [List.nil_append, show setL ([] : List (Int × Int)) = [] from rfl] at this
theorem mem_dotsM {ms : List Mk} {r c : Int} : (r, c) ∈ dotsM ms ↔ hasD ms r c = true := by
  simp only [dotsM, hasD, List.mem_map, List.any_eq_true, decide_eq_true_eq, Prod.mk.injEq]
theorem insD_size (s : List (Int × Int)) (d : Int × Int) : (insD s d).length = if d ∈ s then s.length else s.length + 1 := by
  unfold insD
  by_cases h : d ∈ s
  · rw [if_pos h, if_pos h]
  · rw [if_neg h, if_neg h]
    have := congrArg List.length (List.takeWhile_append_dropWhile (p := fun y => ltD y d) (l := s))
    rw [List.length_append] at this
    rw [List.length_append, List.length_cons]; omega
theorem fold_size : ∀ (l s : List (Int × Int)), (l.foldl insD s).length = s.length + l.length ↔ l.Nodup ∧ ∀ d ∈ l, d ∉ s
  | [], s => by simp
  | d :: r, s => by
    have ih := fold_size r (insD s d)
    have hle := foldl_ins_len r (insD s d)
    have hz := insD_size s d
    rw [List.foldl_cons, List.length_cons, List.nodup_cons]
    by_cases h : d ∈ s
    · rw [if_pos h] at hz
      constructor
      · intro e; omega
      · rintro ⟨_, k⟩; exact absurd h (k d (by simp))
    · rw [if_neg h] at hz
      rw [hz] at ih
      rw [show s.length + (r.length + 1) = s.length + 1 + r.length by omega, ih]
      constructor
      · rintro ⟨k1, k2⟩
        have hdr : d ∉ r := fun e => (k2 d e) ((mem_insD s d d).2 (.inr rfl))
        refine ⟨⟨hdr, k1⟩, fun e he => ?_⟩
        rcases List.mem_cons.1 he with e' | he
        · subst e'; exact h
        · exact fun hs => k2 e he ((mem_insD s d e).2 (.inl hs))
      · rintro ⟨⟨k1, k2⟩, k3⟩
        refine ⟨k2, fun e he hs => ?_⟩
        rcases (mem_insD s d e).1 hs with h' | h'
        · exact k3 e (List.mem_cons_of_mem _ he) h'
        · subst h'; exact k1 he
theorem setL_size (l : List (Int × Int)) : (setL l).length = l.length ↔ l.Nodup := by
  have := fold_size l []
  rw [List.length_nil, Nat.zero_add] at this
  unfold setL
  rw [this]; simp
theorem okI_parts {x : It} (h : okI x = true) : itemN x.1 = true ∧ 0 < x.2.length ∧ x.2.all validM = true ∧ Inc (dotsM x.2) := by
  unfold okI at h
  simp only [Bool.and_eq_true, decide_eq_true_eq, isSetB_inc] at h
  exact ⟨h.1, h.2.1, h.2.2.1, h.2.2.2⟩
theorem meet_no {a b : List Mk} : meetN a b = false ↔ ∀ d ∈ dotsM a, ∀ e ∈ dotsM b, d ≠ e := by
  constructor
  · rintro h ⟨r, c⟩ hd e he rfl
    obtain ⟨m, hm, k⟩ := List.mem_map.1 hd
    simp only [meetN, List.any_eq_false] at h
    have := h m hm
    rw [mem_dotsM] at he
    injection k with k1 k2
    rw [k1, k2, he] at this
    simp at this
  · intro h
    simp only [meetN, List.any_eq_false]
    intro m hm hk
    exact h (m.r, m.c) (List.mem_map.2 ⟨m, hm, rfl⟩) (m.r, m.c) (mem_dotsM.2 hk) rfl
/-- How many marks all items have. -/
def cntM (l : List It) : Nat := (l.map fun x => x.2.length).sum
theorem allD_len (l : List It) : (allD l).length = cntM l := by
  unfold allD cntM
  rw [List.length_flatMap]
  congr 1
  exact List.map_congr_left fun x _ => dotsM_len x.2
theorem cntM_snoc (l : List It) (x : It) : cntM (l ++ [x]) = cntM l + x.2.length := by simp [cntM]
theorem good_count {l : List It} (h1 : ∀ x ∈ l, okI x = true) (h2 : IncN l) : (dotsI l).length = cntM l ↔ Good l := by
  rw [dotsI_all, ← allD_len, setL_size]
  unfold allD List.Nodup
  rw [List.pairwise_flatMap]
  constructor
  · rintro ⟨_, h⟩
    exact ⟨h1, h2, h.imp fun {a b} k => meet_no.2 k⟩
  · rintro ⟨_, _, h⟩
    exact ⟨fun x hx => inc_nodup (okI_parts (h1 x hx)).2.2.2, h.imp fun {a b} k => meet_no.1 k⟩
end

section
open Go.RowKit

end

end Go.Proofs.YtpnemekkpifbaaaGreat
