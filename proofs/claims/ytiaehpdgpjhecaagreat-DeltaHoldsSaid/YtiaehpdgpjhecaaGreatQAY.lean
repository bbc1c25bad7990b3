/- Several texts in one: JoiD, CarM, JoiE. -/
import Derived.Test.YtiaehpdgpjhecaaGreatQAX
import Derived.Test.YtiaehpdgpjhecaaGreatQAN
import Derived.Test.YtiaehpdgpjhecaaGreatQAG
import Derived.Maps.Own
import Derived.Maps.OwnOps
import Derived.Maps.OwnSet
import Derived.Maps.Views
import Derived.DeepKeys4
import Derived.OwnWalk
import Derived.Test.YtiaehpdgpjhecaaGreatQAO
import Derived.Test.YtiaehpdgpjhecaaGreatQAU
namespace Go.Proofs.YtiaehpdgpjhecaaGreat

section
open Go.RowKit

/-- What a function value says of each mark that is allowed, wherever what lay below base is as it was. -/
def SaysH (g : Nat) (lb : Array Value) (p : Hd → Bool) (ok : Hd → Prop) (base : Nat) (w0 : World) : Prop :=
  ∀ (x : Hd) (W : World), ok x → Below base w0 W → Calls Tryz.prog g (#[mkH x] ++ lb) W fun e w' => e = .returned (.bool (p x)) ∧ Below W.heap.size W w'
theorem filter_stepH {p : Hd → Bool} {xs : List Hd} {j : Nat} {x : Hd} (hx : xs[j]? = some x) : (xs.take (j + 1)).filter (fun d => !p d) = if p x = true then (xs.take j).filter (fun d => !p d) else (xs.take j).filter (fun d => !p d) ++ [x] := by
  rw [take_snoc hx, List.filter_append]
  by_cases h : p x = true <;> simp [h]

set_option maxHeartbeats 1000000 in
theorem indexHeld1 (lb : Array Value) (p : Hd → Bool) (ok : Hd → Prop) (base : Nat) (w0 : World) (A : Option Addr) (xs : List Hd) (cap : Nat) (w : World) (hp : SaysH 124 lb p ok base w0) (hok : ∀ x ∈ xs, ok x) (hbw : Below base w0 w) (hbs : base ≤ w.heap.size) (hx : HeldAt w A xs) (hm : xs.length ≤ 1000000) :
    Calls Tryz.prog 176 #[.slice A xs.length cap, .func (.func 124) #[] lb] w fun e w' =>
      ((∃ i : Nat, i < xs.length ∧ e = .returned (.int .i64 i) ∧ (∀ j q, j < i → xs[j]? = some q → p q = false) ∧ (∀ q, xs[i]? = some q → p q = true)) ∨ (e = .returned (.int .i64 (-1)) ∧ ∀ q ∈ xs, p q = false)) ∧ Below w.heap.size w w' := by
  have HP := Lib.hid hp
  have HK := Lib.hid hok
  clear hp hok
  go_enter Tryz.func176, Tryz.ntmps176
  go_wp2
  go_loopw [5, 8] (fun _ i wr => ∃ m : Nat, m ≤ xs.length ∧ i = .int .i64 m ∧ Below w.heap.size w wr ∧ Hid (∀ j q, j < m → xs[j]? = some q → p q = false)) (fun _ i _ => xs.length - (intOf i).toNat)
  case atStart => exact ⟨0, by omega, rfl, Below.refl _ _, fun j q h => by omega⟩
  case round =>
    obtain ⟨m, hk2, rfl, hb, hs⟩ := hrel
    by_cases hlt : m < xs.length
    · obtain ⟨b, off, x, rfl, hbl, hx1, hc0, hc1, hc2, hc3, hc4⟩ := (hx.below hb).held (j := m) hlt
      have hr := HP.out x wr (HK.out x (List.mem_of_getElem? hx1)) (hbw.trans (hb.mono hbs))
      have HX1 := Lib.hid hx1; clear hx1
      cases hq : p x
      · rw [hq] at hr
        have HR := Lib.hid hr; clear hr
        have HQ := Lib.hid hq; clear hq
        go_wp2_with fail
        refine HR.out.mono ?_
        rintro e w1 ⟨rfl, hb1⟩
        go_wp2
        go_roundw
        case rel =>
          refine ⟨m + 1, by omega, by go_num, hb.trans (hb1.mono hb.size), (show Hid _ from fun j q hj hq => ?_)⟩
          by_cases e : j = m
          · subst e; rw [HX1.out] at hq; cases hq; exact HQ.out
          · exact hs.out j q (by omega) hq
        case measure => simp [intOf]; omega
      · rw [hq] at hr
        have HR := Lib.hid hr; clear hr
        have HQ := Lib.hid hq; clear hq
        go_wp2_with fail
        refine HR.out.mono ?_
        rintro e w1 ⟨rfl, hb1⟩
        go_wp2
        go_ret
        exact ⟨.inl ⟨m, hlt, rfl, hs.out, fun q hq => by rw [HX1.out] at hq; cases hq; exact HQ.out⟩, hb.trans (hb1.mono hb.size)⟩
    · go_wp2
      go_ret
      refine ⟨.inr ⟨rfl, fun q hq => ?_⟩, hb⟩
      obtain ⟨j, hj⟩ := List.mem_iff_getElem?.1 hq
      have hjl : j < xs.length := by
        rcases Nat.lt_or_ge j xs.length with h | h
        · exact h
        · rw [List.getElem?_eq_none h] at hj; cases hj
      exact hs.out j q (by omega) hj

set_option maxRecDepth 100000 in
set_option maxHeartbeats 1000000 in
theorem deleteHeld (lb : Array Value) (p : Hd → Bool) (ok : Hd → Prop) (base : Nat) (w0 : World) (v : Value) (xs : List Hd) (w : World) (hp : SaysH 124 lb p ok base w0) (hok : ∀ x ∈ xs, ok x) (hbw : Below base w0 w) (hbs : base ≤ w.heap.size)
    (h : w.ownsRow base 100 5 v xs.length (cellsOf encH xs)) (hm : xs.length ≤ 1000000) :
    Calls Tryz.prog 122 #[v, .func (.func 124) #[] lb] w fun e w' =>
      ∃ v', e = .returned v' ∧ w'.ownsRow base 100 5 v' (xs.filter fun d => !p d).length (cellsOf encH (xs.filter fun d => !p d)) ∧ w.grownBy w' v.ownBlock := by
  obtain ⟨A, cap, rfl, hc1, hc2, hx0⟩ := SlAt.of_own encH_len h
  have hx : HeldAt w A xs := hx0
  clear hx0
  have hi := indexHeld1 lb p ok base w0 A xs cap w hp hok hbw hbs hx hm
  have HK := Lib.hid hok
  clear hok
  have HI := Lib.hid hi
  have H := Lib.hid h
  have HP := Lib.hid hp
  clear hi h hp
  unfold maxLen at hc2
  go_enter Tryz.func122, Tryz.ntmps122
  go_wp2_with fail
  refine HI.out.mono ?_
  rintro e w1 ⟨⟨i, hi1, rfl, hi2, hi3⟩ | ⟨rfl, hno⟩, hb1⟩
  · obtain ⟨g, cap', hv, hbg, hgl⟩ := H.out.form (by omega)
    injection hv with hA hn hcc
    subst hA
    have hne1 : ((i : Int) == -1) = false := by simp
    have ho1 : w1.ownsRow base 100 5 (.slice (some ⟨g, 0, none⟩) xs.length cap) xs.length (cellsOf encH xs) := H.out.kept (grown_of_below hb1 none) (by simp [Value.ownBlock])
    have hg1 : w.grownBy w1 (some g) := grown_of_below hb1 _
    obtain ⟨xi, hxi⟩ : ∃ x, xs[i]? = some x := ⟨_, List.getElem?_eq_getElem hi1⟩
    have hpre : (xs.take i).filter (fun d => !p d) = xs.take i := by
      rw [List.filter_eq_self]
      intro q hq
      obtain ⟨j, hj⟩ := List.mem_iff_getElem?.1 hq
      rw [List.getElem?_take] at hj
      split at hj
      · simp [hi2 j q (by omega) hj]
      · cases hj
    have hst : ∃ P, (P : List Hd).length = i ∧ P = (xs.take (i + 1)).filter (fun d => !p d) ∧ P ++ xs.drop P.length = xs := by
      have hl : (xs.take i).length = i := by simp; omega
      refine ⟨xs.take i, hl, ?_, by rw [hl]; exact List.take_append_drop _ _⟩
      rw [filter_stepH hxi, if_pos (hi3 xi hxi), hpre]
    have HST := Lib.hid hst
    have HO := Lib.hid ho1
    have HG := Lib.hid hg1
    clear hst ho1 hg1 hpre hi2 hi3 hxi hn hcc hx hb1 HI
    go_wp2
    go_loopw [5, 6, 7] (fun k j _ wr => ∃ (P : List Hd) (t : Nat), t ≤ xs.length ∧ P.length < t ∧ k = .int .i64 (P.length : Int) ∧ j = .int .i64 t ∧ Hid (P = (xs.take t).filter (fun d => !p d)) ∧
        Hid (wr.ownsRow base 100 5 (.slice (some ⟨g, 0, none⟩) xs.length cap) xs.length (cellsOf encH (P ++ xs.drop P.length))) ∧ Hid (w.grownBy wr (some g))) (fun _ j _ _ => xs.length - (intOf j).toNat)
    case atStart =>
      obtain ⟨P, h1, h2, h3⟩ := HST.out
      exact ⟨P, i + 1, by omega, by omega, by rw [h1], by go_num, h2, by rw [h3]; exact HO, HG⟩
    case round =>
      obtain ⟨P, t, hk1, hk3, rfl, rfl, hP, hown3, hgr3⟩ := hrel
      have hbwr : Below base w0 wr := hbw.grown hgr3.out hbs (fun k hk => by cases hk; exact hbg)
      have hbsr : base ≤ wr.heap.size := Nat.le_trans hbs hgr3.out.size
      by_cases hlt : t < xs.length
      · obtain ⟨x, hxt⟩ : ∃ x, xs[t]? = some x := ⟨_, List.getElem?_eq_getElem hlt⟩
        obtain ⟨xp, hxp⟩ : ∃ x, xs[P.length]? = some x := ⟨_, List.getElem?_eq_getElem (by omega)⟩
        obtain ⟨l0, l1, l2, l3, l4⟩ := own_held hown3.out (j := t) ((get_tail (by omega)).trans hxt)
        have hokx := HK.out x (List.mem_of_getElem? hxt)
        have hfs := filter_stepH (p := p) hxt
        rw [← hP.out] at hfs
        have HXT := Lib.hid hxt; clear hxt
        have HXP := Lib.hid hxp; clear hxp
        cases hq : p x
        · rw [hq] at hfs
          simp only [Bool.false_eq_true, if_false] at hfs
          have HFS := Lib.hid hfs; clear hfs
          have hr := fun W hW => HP.out x W hokx hW
          rw [hq] at hr
          have HR := Lib.hid hr; clear hr hq
          go_wp2_with fail
          refine (HR.out _ (hbwr.alloc hbsr _)).mono ?_
          rintro e w2 ⟨rfl, hb2⟩
          have hb3 := below_trans ((Below.refl _ wr).alloc (Nat.le_refl _) _) hb2
          have hbk := (BlkH.new wr x).below hb2
          have d0 := hbk.cell0
          have d1 := hbk.cell1
          have d2 := hbk.cell2
          have d3 := hbk.cell3
          have d4 := hbk.cell4
          have ho2 : w2.ownsRow base 100 5 (.slice (some ⟨g, 0, none⟩) xs.length cap) xs.length (cellsOf encH (P ++ xs.drop P.length)) := hown3.out.kept (grown_of_below hb3 none) (by simp [Value.ownBlock])
          obtain ⟨c0, c1, c2, c3, c4⟩ := own_held ho2 (j := P.length) ((get_tail (by omega)).trans HXP.out)
          have cf := own_froz ho2
          have hos := own_storeH (x := x) ho2 (j := P.length) (by simp; omega)
          rw [set_tail (by omega)] at hos
          have hgg := grown_trans' (grown_trans' hgr3.out (grown_of_below hb3 (some g))) hos.2
          have HOS := Lib.hid hos.1
          have HGG := Lib.hid hgg
          clear hos hgg ho2 hb2 hb3 hbk l0 l1 l2 l3 l4
          go_wp2
          go_roundw
          case rel => exact ⟨P ++ [x], t + 1, by omega, by simp; omega, by simp, by go_num, HFS.out.symm, HOS, HGG⟩
          case measure => simp [intOf]; omega
        · rw [if_pos hq] at hfs
          have HFS := Lib.hid hfs; clear hfs
          have hr := fun W hW => HP.out x W hokx hW
          rw [hq] at hr
          have HR := Lib.hid hr; clear hr hq
          go_wp2_with fail
          refine (HR.out _ (hbwr.alloc hbsr _)).mono ?_
          rintro e w2 ⟨rfl, hb2⟩
          have hb3 := below_trans ((Below.refl _ wr).alloc (Nat.le_refl _) _) hb2
          have ho2 : w2.ownsRow base 100 5 (.slice (some ⟨g, 0, none⟩) xs.length cap) xs.length (cellsOf encH (P ++ xs.drop P.length)) := hown3.out.kept (grown_of_below hb3 none) (by simp [Value.ownBlock])
          have hgg := grown_trans' hgr3.out (grown_of_below hb3 (some g))
          have HO2 := Lib.hid ho2
          have HGG := Lib.hid hgg
          clear hgg ho2 hb2 hb3 l0 l1 l2 l3 l4
          go_wp2
          go_roundw
          case rel => exact ⟨P, t + 1, by omega, by omega, rfl, by go_num, HFS.out.symm, HO2, HGG⟩
          case measure => simp [intOf]; omega
      · have hPx : P = xs.filter (fun d => !p d) := by rw [hP.out, List.take_of_length_le (by omega)]
        have hltP : P.length < xs.length := by omega
        obtain ⟨w', hcl, ho', hg'⟩ := run_clear_own (P := Tryz.prog) (z := .agg #[.string ⟨#[]⟩, .int .i64 0, .int .i64 0, .int .i64 0, .int .u64 0]) (k := 5) Tryz.underlying97 Tryz.zeroValue100 rfl (by intro u hu; simp [Value.cells] at hu; rcases hu with rfl | rfl | rfl <;> rfl) hown3.out hltP (cap - P.length)
        have hct : (cellsOf encH (P ++ xs.drop P.length)).take (P.length * 5) = cellsOf encH P := by
          rw [show cellsOf encH (P ++ xs.drop P.length) = cellsOf encH P ++ cellsOf encH (xs.drop P.length) by simp [cellsOf], ← cellsOf_length encH_len P, List.take_left]
        rw [hct] at ho'
        have hPc : P.length < cap := by omega
        have HPX := Lib.hid hPx
        have HO' := Lib.hid ho'
        have hgf := grown_trans' hgr3.out hg'
        clear hPx ho' hg' hct hown3 hgr3 hP HO HG HST
        go_wp2
        go_ret
        exact ⟨_, rfl, by rw [← HPX.out]; exact HO'.out, hgf⟩
  · have hf : xs.filter (fun d => !p d) = xs := by
      rw [List.filter_eq_self]
      intro q hq
      simp [hno q hq]
    have HF := Lib.hid hf
    have ho1 : w1.ownsRow base 100 5 (.slice A xs.length cap) xs.length (cellsOf encH xs) := H.out.kept (grown_of_below hb1 none) (by cases A <;> simp [Value.ownBlock])
    have HO := Lib.hid ho1
    have hg1 := grown_of_below hb1 (Value.slice A xs.length cap).ownBlock
    clear hf ho1 hno hx
    go_wp2
    go_ret
    exact ⟨_, rfl, by rw [HF.out]; exact HO.out, hg1⟩

end

section
open Go.RowKit Go.Maps

/-- A map of bools that reads as a set. -/
def SetIs {α : Type} (κ : α → Lit) (D : DataW Unit) (S : α → Bool) : Prop := ∀ x, D.atKey (κ x) (.lit (.bool false)) = .lit (.bool (S x))
section
variable {α : Type} [DecidableEq α] {κ : α → Lit} {D : DataW Unit} {S : α → Bool}
omit [DecidableEq α] in
theorem SetIs.start : SetIs κ (.map []) fun _ => false := fun _ => rfl
theorem SetIs.put (hD : IsMap D) (hk : ∀ x, WideAt.IsKeyLit (κ x)) (hi : ∀ x y, κ x = κ y → x = y) (h : SetIs κ D S) (x : α) : SetIs κ (D.put (κ x) (.lit (.bool true))) fun y => S y || decide (y = x) := by
  intro y
  by_cases e : y = x
  · subst e; rw [atKey_put_same hD (hk y)]; simp
  · rw [atKey_put_other (fun h' => e (hi _ _ h')), h y]; simp [e]
theorem SetIs.del (hi : ∀ x y, κ x = κ y → x = y) (h : SetIs κ D S) (x : α) : SetIs κ (D.del (κ x)) fun y => S y && !decide (y = x) := by
  intro y
  by_cases e : y = x
  · subst e; rw [atKey_del_same]; simp
  · rw [atKey_del_other (fun h' => e (hi _ _ h')), h y]; simp [e]
omit [DecidableEq α] in
theorem SetIs.congr {S' : α → Bool} (h : SetIs κ D S) (e : ∀ x, S x = S' x) : SetIs κ D S' := fun x => by rw [h x, e]
def memB (l : List α) (x : α) : Bool := decide (x ∈ l)
theorem SetIs.seen (hD : IsMap D) (hk : ∀ x, WideAt.IsKeyLit (κ x)) (hi : ∀ x y, κ x = κ y → x = y) {l : List α} {m : Nat} {x : α} (hx : l[m]? = some x) (h : SetIs κ D fun y => memB (l.take m) y) :
    SetIs κ (D.put (κ x) (.lit (.bool true))) fun y => memB (l.take (m + 1)) y :=
  (h.put hD hk hi x).congr fun y => by simp [memB, take_snoc hx]
theorem SetIs.left (hi : ∀ x y, κ x = κ y → x = y) {l : List α} {m : Nat} {x : α} (hx : l[m]? = some x) (h : SetIs κ D fun y => memB l y && !memB (l.take m) y) :
    SetIs κ (D.del (κ x)) fun y => memB l y && !memB (l.take (m + 1)) y :=
  (h.del hi x).congr fun y => by
    rw [take_snoc hx, Bool.eq_iff_iff]
    simp only [memB, Bool.and_eq_true, Bool.not_eq_true', decide_eq_true_eq, decide_eq_false_iff_not, List.mem_append, List.mem_singleton, not_or]
    exact and_assoc
end
/-- Dots as keys. -/
theorem rowDotK : (30 : TypeId) < Tryz.prog.types.size := of_decide_eq_true (by kernel_rfl)
theorem keyDotK : Tryz.prog.keyTypeAt 2 30 = true := by kernel_rfl
theorem laidOutK : laidOutB Tryz.prog = true := by kernel_rfl
theorem keyedOf {P : Program} {k : TypeId} {fs : Array Field} (h : P.underlying k = some (.struct fs)) (hl : laidOutB P = true) (hr : k < P.types.size) (hk : P.keyTypeAt 2 k = true) : Keyed P k :=
  Keyed.of_law (deep_law_laid hl (m := 2) (by decide) hr hk (by rw [h]))
theorem lawDotK : Keyed Tryz.prog 30 := keyedOf Tryz.underlying30 laidOutK rowDotK keyDotK
abbrev DKey := { d : Int × Int // validD d.1 d.2 = true }
def dKey (x : DKey) : Lit := .string (keyBytes [.int .i64 x.1.1, .int .i64 x.1.2])
theorem keyOf_two {P : Program} {k e : TypeId} {fs : Array Field} {f g : Field} (h : P.underlying k = some (.struct fs)) (hfs : fs = #[f, g]) (hf : f.type = e ∧ f.offset = 0 ∧ (f.name != "_") = true) (hg : g.type = e ∧ g.offset = 1 ∧ (g.name != "_") = true) (he : P.underlying e = some (.int .i64)) (hk : P.keyType k = true) (hc : P.cellsOf k = 2) (hi : P.cellsOf e = 1) (hn : 0 < P.types.size)
    {a b : Int} (h1 : (Lit.int .i64 a).wf = true) (h2 : (Lit.int .i64 b).wf = true) : keyOf P k (.agg #[.int .i64 a, .int .i64 b]) = some (.string (keyBytes [.int .i64 a, .int .i64 b])) := by
  obtain ⟨n, hn'⟩ : ∃ n, P.types.size = n + 1 := ⟨P.types.size - 1, by omega⟩
  subst hfs
  unfold keyOf
  simp [h, hk, Value.formed, hc, hn', Program.keyLits, hi, he, h1, h2, Value.cells, hf.1, hf.2.1, hg.1, hg.2.1, hf.2.2, hg.2.2]
theorem keyTyK : Tryz.prog.keyType 30 = true := by kernel_rfl
theorem cellsK : Tryz.prog.cellsOf 30 = 2 := by kernel_rfl
theorem cellK : Tryz.prog.cellsOf 3 = 1 := by kernel_rfl
theorem keyOf_dot (x : DKey) : keyOf Tryz.prog 30 (.agg #[.int .i64 x.1.1, .int .i64 x.1.2]) = some (dKey x) := by
  have hv := x.2
  simp only [validD, decide_eq_true_eq] at hv
  exact keyOf_two Tryz.underlying30 rfl ⟨rfl, rfl, by decide⟩ ⟨rfl, rfl, by decide⟩ Tryz.underlying3 keyTyK cellsK cellK (Nat.lt_of_le_of_lt (Nat.zero_le _) rowDotK) (WalkArith.wf_i64 (by omega)) (WalkArith.wf_i64 (by omega))

theorem dKey_is (x : DKey) : WideAt.IsKeyLit (dKey x) := trivial
theorem dKey_inj (x y : DKey) (h : dKey x = dKey y) : x = y := by
  have h1 := keyOf_dot x
  rw [h] at h1
  have e := lawDotK.inj h1 (keyOf_dot y)
  apply Subtype.ext
  have e' := congrArg Array.toList (Value.agg.inj e)
  have e1 : x.1.1 = y.1.1 := (Value.int.inj (List.cons.inj e').1).2
  have e2 : x.1.2 = y.1.2 := (Value.int.inj (List.cons.inj (List.cons.inj e').2).1).2
  exact Prod.ext e1 e2

end

section
open Go.RowKit Go.Maps

theorem flatH_step {l : List It} {k : Nat} {x : It} (h : l[k]? = some x) : flatH (l.take (k + 1)) = flatH (l.take k) ++ x.2.map fun m => (x.1, m) := by rw [take_step h, flatH_snoc]
theorem map_snoc {α β : Type} {l : List α} {k : Nat} {x : α} (f : α → β) (h : l[k]? = some x) : (l.take (k + 1)).map f = (l.take k).map f ++ [f x] := by rw [take_step h]; simp
theorem cntM_take {l : List It} (k : Nat) : cntM (l.take k) ≤ cntM l := by
  have h := congrArg cntM (List.take_append_drop k l)
  unfold cntM at *
  rw [List.map_append, List.sum_append] at h
  omega
theorem cntM_fits {xs : List ItV} (h : Fits xs) : cntM (its xs) ≤ 30000 := by
  have h1 := flatH_len (its xs)
  have h2 : (flatH (its xs)).length ≤ 100 * (its xs).length := by
    have h3 : ∀ x ∈ its xs, x.2.length ≤ 100 := fun y hy => by
      obtain ⟨z, hz, rfl⟩ := List.mem_map.1 hy
      exact (h.2 z hz).2
    clear h1
    generalize its xs = l at h3
    induction l with
    | nil => simp [flatH]
    | cons x r ih =>
      have h4 := ih fun y hy => h3 y (List.mem_cons_of_mem _ hy)
      have h5 := h3 x (by simp)
      unfold flatH at h4 ⊢
      rw [List.flatMap_cons, List.length_append, List.length_map, List.length_cons]; omega
  have h6 := h.1
  rw [its_len] at h2
  omega

set_option maxRecDepth 100000 in
set_option maxHeartbeats 4000000 in
theorem joFlat (c : CaV) (w : World) (hc : CaOK w c) (hf : Fits c.xs) :
    Calls Tryz.prog 123 #[mkC c] w fun e w' => (∃ v, e = .returned v ∧ RowH w' w.heap.size v (flatH (its c.xs))) ∧ Below w.heap.size w w' := by
  obtain ⟨ti0, hi0, hz0, hz1, hz2⟩ := info_parts infoH
  obtain ⟨V, nv, vs, L, nl, ls, A, ni, xs⟩ := c
  have K0 := Lib.hid (KB1.new w _ hc)
  have hm := hf.1
  have HF := Lib.hid hf.2
  have HC := Lib.hid (cntM_fits hf)
  clear hc hf
  dsimp only at hm HF HC
  show Calls Tryz.prog 123 #[.agg #[.slice V vs.length nv, .slice L ls.length nl, .slice A xs.length ni]] w _
  go_enter Tryz.func123, Tryz.ntmps123
  go_wp2_with fail
  generalize World.alloc w _ = w2 at K0 ⊢
  obtain ⟨x0, x1, x2, xl, _⟩ := K0.out.sp
  change w2.cell? ⟨w.heap.size, 2, none⟩ = some (Value.slice A xs.length ni) at x2
  go_wp2_with fail
  go_loopw [3, 5, 7, 11] (fun v _ _ i wr => ∃ k : Nat, k ≤ xs.length ∧ i = .int .i64 k ∧ Hid (RowH wr (w.heap.size + 1) v (flatH ((its xs).take k))) ∧ Hid (KB1 w ⟨V, nv, vs, L, nl, ls, A, ni, xs⟩ wr)) (fun _ _ _ i _ => xs.length - (intOf i).toNat)
  case atStart => exact ⟨0, by omega, rfl, Lib.hid (World.ownsRow_nil _ _ _ _), K0⟩
  case round =>
    clear K0 x0 x1 x2 xl
    obtain ⟨k, hk, rfl, hr, K⟩ := hrel
    obtain ⟨x0, x1, x2, xl, _⟩ := K.out.sp
    by_cases hlt : k < xs.length
    · have i0 : (k : Int) < (xs.length : Int) := by omega
      obtain ⟨b, off, x, hI, hbl, hx1, _, hc0, hc1, hok⟩ := K.out.items.cells (j := k) hlt
      obtain rfl : A = some ⟨b, off, none⟩ := hI
      obtain ⟨nm, XA, xc, ms⟩ := x
      dsimp only at hc0 hc1
      have hxm := HF.out _ (List.mem_of_getElem? hx1)
      have hml := hok.len
      dsimp only at hml hxm
      have HS := Lib.hid (flatH_step (its_at hx1))
      have B1 := Lib.hid (BlkI.new wr ⟨nm, XA, xc, ms⟩)
      have K1 := Lib.hid (K.out.alloc (.cells #[.string ⟨nm.toArray⟩, .slice XA ms.length xc] 50))
      have R1 := Lib.hid (hr.out.alloc (.cells #[.string ⟨nm.toArray⟩, .slice XA ms.length xc] 50))
      have HX := Lib.hid (List.mem_of_getElem? hx1)
      have HL := Lib.hid (show (flatH ((its xs).take k)).length ≤ 30000 from by rw [flatH_len]; exact Nat.le_trans (cntM_take k) HC.out)
      have hm100 := hxm.2
      unfold maxLen at hml
      clear hx1 hok hxm hr K
      go_wp2_with fail
      obtain ⟨gI, hgI⟩ : ∃ g, wr.heap.size = g := ⟨_, rfl⟩
      rw [hgI] at B1 ⊢
      generalize World.alloc wr _ = w3 at *
      have y0 := B1.out.cell0
      have y1 := B1.out.cell1
      dsimp only at y0 y1
      have yl := B1.out.lt
      clear x0 x1 x2 xl hc0 hc1 hbl
      generalize flatH ((its xs).take k) = fl at *
      go_wp2_with fail
      obtain ⟨wq, rfl⟩ : ∃ W, W = wr := ⟨_, rfl⟩
      go_loopw [3, 7, 18] (fun v _ i wr => ∃ j : Nat, j ≤ ms.length ∧ i = .int .i64 j ∧ Hid (RowH wr (w.heap.size + 1) v (fl ++ (ms.take j).map fun m => (nm, m))) ∧ Hid (KB1 w ⟨V, nv, vs, L, nl, ls, some ⟨b, off, none⟩, ni, xs⟩ wr) ∧ Hid (BlkI wr gI ⟨nm, XA, xc, ms⟩)) (fun _ _ i _ => ms.length - (intOf i).toNat)
      case atStart => exact ⟨0, by omega, rfl, by simpa [Hid] using R1.out, K1, B1⟩
      case round =>
        clear R1 K1 B1 y0 y1 yl
        obtain ⟨j, hj, rfl, hr, K, B⟩ := hrel
        have hok := K.out.items.2 _ HX.out
        have y0 := B.out.cell0
        have y1 := B.out.cell1
        dsimp only at y0 y1
        have yl := B.out.lt
        by_cases hlt2 : j < ms.length
        · have i1 : (j : Int) < (ms.length : Int) := by omega
          obtain ⟨bm, om, m, hA, hbm, hm1, _, d0, d1, d2, d3⟩ := SlAt.mark hok.1 (j := j) hlt2
          subst hA
          have HM := Lib.hid (show fl ++ ((ms.take (j + 1)).map fun m => ((nm, m) : Hd)) = (fl ++ (ms.take j).map fun m => ((nm, m) : Hd)) ++ [(nm, m)] from by rw [map_snoc (fun m => ((nm, m) : Hd)) hm1, List.append_assoc])
          have hl : (fl ++ (ms.take j).map fun m => ((nm, m) : Hd)).length ≤ 31000 := by
            rw [List.length_append, List.length_map, List.length_take]
            have := HL.out; omega
          have hba := ((Below.refl wr.heap.size wr).alloc (Nat.le_refl _) (.cells #[.int .i64 m.r, .int .i64 m.c, .int .i64 m.q, .int .u64 (m.t : Int)] 55)).alloc (by simp) (.cells #[.string ⟨nm.toArray⟩, .int .i64 m.r, .int .i64 m.c, .int .i64 m.q, .int .u64 (m.t : Int)] 100)
          have K2 := Lib.hid (K.out.next hba)
          have B2 := Lib.hid (B.out.below hba)
          have R2 := Lib.hid (kept_below hr.out hba)
          have S2 := Lib.hid (SlAt.litAt (enc := encH) encH_len (wr.alloc (.cells #[.int .i64 m.r, .int .i64 m.c, .int .i64 m.q, .int .u64 (m.t : Int)] 55)) (wr.heap.size + 1) (by simp) 100 [((nm, m) : Hd)] (by simp [maxLen]))
          clear hm1 hba hok
          obtain ⟨D, d, rfl, _, _, _⟩ := SlAt.of_own encH_len hr.out
          generalize (fl ++ (ms.take j).map fun m => ((nm, m) : Hd)) = ns at *
          go_wp2_with (at_builtin; refine wpList_append_sl _ encH 5 rfl (.tmp 22) (.tmp 27) 97 rfl encH_len (by omega) encH_one (w.heap.size + 1) 100 ti0 _ 48 Tryz.underlying97 hi0 hz0 hz1 hz2 rfl _ ns rfl R2.out _ 1 _ [(nm, m)] rfl rfl S2.out (by simp [maxLen]; omega) (by simp; omega) (by have := K2.out.size; simpa using this) ?_; intro v1 w1 hown hg hat; have KG := Lib.hid (K2.out.grown hg (fun k hk => (R2.out.lt k hk).1)); have BG := Lib.hid (show BlkI w1 gI ⟨nm, some ⟨bm, om, none⟩, xc, ms⟩ from (hg.block gI B2.out.lt (Ne.symm (row_ne R2.out B2.out (by decide)))).trans B2.out); have HO := Lib.hid hown; have HG := Lib.hid hg; clear hown hg hat)
          go_roundw
          case rel => exact ⟨j + 1, by omega, by go_num, by rw [HM.out]; exact HO, KG, BG⟩
          case measure => simp [intOf]; omega
        · have i1 : ¬ (j : Int) < (ms.length : Int) := by omega
          obtain rfl : j = ms.length := by omega
          rw [List.take_length] at hr
          clear hlt2 hok
          go_wp2_with fail
          go_roundw
          case rel => exact ⟨k + 1, by omega, by go_num, by rw [HS.out]; exact hr, K⟩
          case measure => simp [intOf]; omega
    · have i0 : ¬ (k : Int) < (xs.length : Int) := by omega
      obtain rfl : k = xs.length := by omega
      have hh := hr.out
      rw [← its_len xs, List.take_length] at hh
      have HH := Lib.hid (Joins.ownsRow_le hh (Nat.le_succ _))
      have HB := Lib.hid K.out.bel
      clear hlt K hr hh
      go_wp2_with fail
      go_ret
      exact ⟨⟨_, rfl, HH.out⟩, HB.out⟩

/-- How marks stand in a map: as they are. -/
def heldElem (v : Value) : Option (DataW Value × List MemPlace) := some (.held v, [])
def hZero : Hd := ([], Mk.zero)
/-- A map reads as marks by their dots. -/
def MapH (D : DataW Value) (l : List Hd) : Prop := ∀ d : DKey, D.atKey (dKey d) (.held (mkH hZero)) = .held (mkH ((lookH l d.1).getD hZero)) ∧ Maps.has D (dKey d) = (lookH l d.1).isSome
theorem MapH.start : MapH (.map []) [] := fun _ => ⟨rfl, rfl⟩
theorem MapH.step {D : DataW Value} {l : List Hd} (hD : IsMap D) (h : MapH D l) (x : Hd) (d : DKey) (hd : d.1 = dotH x) : MapH (D.put (dKey d) (.held (mkH x))) (l ++ [x]) := by
  intro e
  rw [lookH_snoc]
  by_cases k : e = d
  · subst k
    rw [atKey_put_same hD (dKey_is e), has_put_same hD (dKey_is e), if_pos hd.symm]
    exact ⟨rfl, rfl⟩
  · have hne : ¬ dotH x = e.1 := fun k2 => k (Subtype.ext (k2.symm.trans hd.symm))
    rw [atKey_put_other (fun k2 => k (dKey_inj _ _ k2)), has_put_other (fun k2 => k (dKey_inj _ _ k2)), if_neg hne]
    exact h e
/-- The map of a cart's marks. -/
abbrev OwnsH (W : World) (mb : Nat) (D : DataW Value) : Prop := W.ownsMap Tryz.prog 30 heldElem mb 30000 D

def MapR (hs : List Hd) (w : World) (e : Ending) (w' : World) : Prop := (∃ mb D, e = .returned (.map (some mb)) ∧ w.heap.size ≤ mb ∧ OwnsH w' mb D ∧ MapH D hs) ∧ Below w.heap.size w w'
set_option maxRecDepth 100000 in
set_option maxHeartbeats 4000000 in
theorem joByDot (c : CaV) (w : World) (hc : CaOK w c) (hf : Fits c.xs) (hv : ∀ h ∈ flatH (its c.xs), validD h.2.r h.2.c = true) :
    Calls Tryz.prog 121 #[mkC c] w (MapR (flatH (its c.xs)) w) := by
  have hmm := @run_makeMap Tryz.prog
  have K0 := Lib.hid (KB1.new w _ hc)
  have HF := Lib.hid fun W (h : CaOK W c) => joFlat c W h hf
  have HC := Lib.hid (show (flatH (its c.xs)).length ≤ 30000 from by rw [flatH_len]; exact cntM_fits hf)
  have HV := Lib.hid hv
  clear hc hf hv
  generalize flatH (its c.xs) = hs at *
  go_enter Tryz.func121, Tryz.ntmps121
  go_wp2_with fail
  have M0 := Lib.hid (World.ownsMap_made (w.alloc (.cells #[c.v, c.l, c.i] 28)) Tryz.prog 30 heldElem)
  have K1 := Lib.hid (K0.out.alloc (.map #[] 0))
  rw [World.size_alloc] at M0
  generalize World.alloc (World.alloc w _) _ = w2 at *
  refine (HF.out _ K1.out.ok).mono ?_
  rintro e w3 ⟨⟨v, rfl, hrow⟩, hb⟩
  obtain ⟨A, cap, rfl, _, hcm, hat⟩ := SlAt.of_own encH_len hrow
  have K2 := Lib.hid (K1.out.next hb)
  have M2 := Lib.hid (M0.out.kept (grown_of_below hb none) (by simp))
  have hsz : w.heap.size + 1 < w2.heap.size := M0.out.lt
  have R2 := Lib.hid hrow
  clear hb hat M0 K0 K1 hrow hmm
  go_wp2_with fail
  go_loopw [5, 10] (fun _ i wr => ∃ m : Nat, m ≤ hs.length ∧ i = .int .i64 m ∧ Hid (KB1 w c wr) ∧ Hid (RowH wr w2.heap.size (.slice A hs.length cap) hs) ∧ ∃ D, Hid (wr.ownsMap Tryz.prog 30 heldElem (w.heap.size + 1) m D) ∧ Hid (MapH D (hs.take m))) (fun _ i _ => hs.length - (intOf i).toNat)
  case atStart => exact ⟨0, by omega, rfl, K2, R2, .map [], M2, MapH.start⟩
  case round =>
    clear K2 R2 M2
    obtain ⟨m, hk2, rfl, K, R, D, hown, hD⟩ := hrel
    have hlen := HC.out
    by_cases hlt : m < hs.length
    · have i0 : (m : Int) < (hs.length : Int) := by omega
      obtain ⟨b, off, x, hA, hbl, hx1, hc0, hc1, hc2, hc3, hc4⟩ := (show HeldAt wr A hs from by
        obtain ⟨A', c', e, _, _, h⟩ := SlAt.of_own encH_len R.out
        cases e; exact h).held (j := m) hlt
      subst hA
      have hvx := HV.out x (List.mem_of_getElem? hx1)
      have hkey := keyOf_dot ⟨(x.2.r, x.2.c), hvx⟩
      have HST := Lib.hid (show MapH _ (hs.take (m + 1)) from by rw [take_step hx1]; exact hD.out.step hown.out.isMap x ⟨(x.2.r, x.2.c), hvx⟩ rfl)
      have B1 := Lib.hid (BlkH.new wr x)
      have K1 := Lib.hid (K.out.alloc (.cells #[.string ⟨x.1.toArray⟩, .int .i64 x.2.r, .int .i64 x.2.c, .int .i64 x.2.q, .int .u64 (x.2.t : Int)] 100))
      have R1 := Lib.hid (R.out.alloc (.cells #[.string ⟨x.1.toArray⟩, .int .i64 x.2.r, .int .i64 x.2.c, .int .i64 x.2.q, .int .u64 (x.2.t : Int)] 100))
      have M1 := Lib.hid (hown.out.alloc (.cells #[.string ⟨x.1.toArray⟩, .int .i64 x.2.r, .int .i64 x.2.c, .int .i64 x.2.q, .int .u64 (x.2.t : Int)] 100))
      clear hx1 K R hown hD
      go_wp2_with (first
        | (at_mapUpdate; refine wpList_mapUpdate_own _ rfl _ _ _ 145 rfl 30 100 lawDotK Tryz.underlying145 heldElem (w.heap.size + 1) _ _ rfl M1.out (by unfold maxLen; omega) _ _ _ rfl rfl hkey _ [] rfl ?_; intro w1 hown1 hgrow1)
        | go_in)
      have K3 := Lib.hid (K1.out.grown hgrow1 (fun k hk => by cases hk; exact Nat.le_refl _))
      have R3 := Lib.hid (R1.out.kept hgrow1 (.inr (fun e => by have := (R1.out.lt _ e).1; omega)))
      have M3 := Lib.hid hown1
      clear K1 R1 M1 hown1 hgrow1
      go_roundw
      case rel => exact ⟨m + 1, by omega, by go_num, K3, R3, _, M3, HST⟩
      case measure => simp [intOf]; omega
    · have i0 : ¬ (m : Int) < (hs.length : Int) := by omega
      obtain rfl : m = hs.length := by omega
      rw [List.take_length] at hD
      have M3 := Lib.hid (hown.out.mono hlen)
      clear hlt hown R
      go_wp2_with fail
      go_ret
      exact ⟨⟨_, D, rfl, by omega, M3.out, hD.out⟩, K.out.bel⟩

end

end Go.Proofs.YtiaehpdgpjhecaaGreat
