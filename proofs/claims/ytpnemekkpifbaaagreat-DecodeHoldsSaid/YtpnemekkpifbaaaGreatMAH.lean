/- Several texts in one: CtxS, CtxD, CtxE, CtxF. -/
import Derived.Test.YtpnemekkpifbaaaGreatMAG
import Derived.RangeFuncNested
import Derived.Shelf.Abstract
import Derived.Shelf.RegionOpen
import Derived.OwnWalkIn
import Derived.TacticsInMore
import Derived.LoopNIn
import Derived.LoopIn
import Derived.Maps.OwnIn
import Derived.Test.YtpnemekkpifbaaaGreatMAF
namespace Go.Proofs.YtpnemekkpifbaaaGreat

section
open Go.RowKit Go.Shelf

attribute [local go_sem] Oper.semAt_some

/-- A pair of 64-bit numbers. -/
def Wf (d : Int × Int) : Prop := -9223372036854775808 ≤ d.1 ∧ d.1 ≤ 9223372036854775807 ∧ -9223372036854775808 ≤ d.2 ∧ d.2 ≤ 9223372036854775807
abbrev WD : Type := { d : Int × Int // Wf d }
instance : Inhabited WD := ⟨⟨(0, 0), by simp [Wf]⟩⟩

/-- What has come when k rounds are over. -/
def uptoL {α : Type} (f : Nat → α) (k : Nat) : List α := (List.range k).map f
theorem uptoL_succ {α : Type} (f : Nat → α) (k : Nat) : uptoL f (k + 1) = uptoL f k ++ [f k] := by simp [uptoL, List.range_succ]
theorem uptoL_length {α : Type} (f : Nat → α) (k : Nat) : (uptoL f k).length = k := by simp [uptoL]
/-- The j-th one from the back, with its place. -/
def backAt (zs : List WD) (j : Nat) : Nat × WD := (zs.length - 1 - j, zs[zs.length - 1 - j]!)
theorem back_all (zs : List WD) : ((uptoL (backAt zs) zs.length).map fun x => x.2.1) = (zs.map (·.1)).reverse := by
  apply List.ext_getElem
  · simp [uptoL]
  · intro i h1 h2
    have hi : i < zs.length := by simpa [uptoL] using h1
    simp only [uptoL, List.map_map, List.getElem_map, List.getElem_range, Function.comp_apply, backAt, List.getElem_reverse, List.length_map]
    rw [getElem!_pos zs _ (by omega)]

/-- Two boxes of the caller's that the body must keep. -/
def KpV (n₀ Bs : Nat) (W W' : World) : Prop := Below n₀ W W' ∧ (Bs < W.heap.size → W'.heap[Bs]? = W.heap[Bs]?)
theorem KpV.trans {n₀ Bs : Nat} {A B C : World} (h : KpV n₀ Bs A B) (k : KpV n₀ Bs B C) : KpV n₀ Bs A C :=
  ⟨h.1.trans k.1, fun hlt => (k.2 (Nat.lt_of_lt_of_le hlt h.1.size)).trans (h.2 hlt)⟩

set_option maxRecDepth 100000 in
set_option maxHeartbeats 2000000 in
theorem back1_in (n : Nat) (hn : 1 ≤ n) (l Bs n₀ : Nat) (A : Option Addr) (cap : Nat) (zs : List WD) (hreach : zs.length ≤ 1000000) (J Jx : List (Nat × WD) → World → Prop)
    (hY : ∀ pre x W, J pre W → pre.length < zs.length → YieldAt Fence.wide (n - 1) Tryz.prog l #[.int .i64 (x.1 : Int), .agg #[.int .i64 x.2.1.1, .int .i64 x.2.1.2]] W fun e W' =>
      (e = .returned (.bool true) ∧ J (pre ++ [x]) W' ∧ KpV n₀ Bs W W') ∨ (e = .returned (.bool false) ∧ Jx (pre ++ [x]) W'))
    (W : World) (hBs : Boxed W Bs 26 (.slice A zs.length cap)) (hc : DotsAt W A (zs.map (·.1))) (hcb : ∀ b off, A = some ⟨b, off, none⟩ → zs ≠ [] → b < n₀) (h0 : J [] W) :
    CallsIn Fence.wide n Tryz.prog 108 #[.func (.yield l) #[] #[], .pointer (some ⟨Bs, 0, none⟩)] W fun e W' => (∃ v, e = .returned v) ∧
      ((∃ ys, ys = uptoL (backAt zs) zs.length ∧ J ys W') ∨ (∃ pre, (∃ k, k ≤ zs.length ∧ pre = uptoL (backAt zs) k) ∧ Jx pre W')) := by
  refine callsIn_of_wp Tryz.func108 rfl trivial ?_ rfl
  simp only [Tryz.ntmps108, List.size_toArray, List.length_cons, List.length_nil, Nat.reduceAdd, Nat.reduceSub, Array.replicate_succ, Array.replicate_zero, List.push_toArray, List.append_toArray, List.nil_append, List.cons_append]
  have c0 := hBs.cell
  have HC := Lib.hid hc
  have HBS := Lib.hid hBs
  clear hc
  gi_wp2
  gi_loopw [3] (fun i wr => ∃ i' : Int, i = .int .i64 i' ∧ -1 ≤ i' ∧ i' < zs.length ∧ Hid (J (uptoL (backAt zs) (zs.length - (i' + 1).toNat)) wr) ∧ Hid (KpV n₀ Bs W wr))
    (fun i _ => (intOf i + 1).toNat)
  case atStart => exact ⟨(zs.length : Int) - 1, by go_num, by omega, by omega, by
    have e : zs.length - ((zs.length : Int) - 1 + 1).toNat = 0 := by omega
    rw [e]; exact h0, ⟨Below.refl _ _, fun _ => rfl⟩⟩
  case round =>
    obtain ⟨i', rfl, hi1, hi2, hJ, hK⟩ := hrel
    have hbx : Boxed wr Bs 26 (.slice A zs.length cap) := (hK.out.2 HBS.out.lt).trans HBS.out
    have c1 := hbx.cell
    by_cases hneg : i' = -1
    · subst hneg
      have e : zs.length - ((-1 : Int) + 1).toNat = zs.length := by simp
      have hJ2 := hJ.out
      rw [e] at hJ2
      have HJ := Lib.hid hJ2
      clear hJ2
      gi_wp2
      go_end0
      exact ⟨⟨_, rfl⟩, .inl ⟨_, rfl, HJ.out⟩⟩
    · obtain ⟨m, rfl⟩ : ∃ m : Nat, i' = (m : Int) := ⟨i'.toNat, by omega⟩
      have hlt : m < zs.length := by omega
      have hk0 : zs.length - ((m : Int) + 1).toNat = zs.length - 1 - m := by omega
      have hel : backAt zs (zs.length - 1 - m) = (m, zs[m]!) := by
        unfold backAt
        rw [show zs.length - 1 - (zs.length - 1 - m) = m by omega]
      have hsucc : uptoL (backAt zs) (zs.length - 1 - m) ++ [(m, zs[m]!)] = uptoL (backAt zs) (zs.length - ((m : Int) - 1 + 1).toNat) := by
        rw [← hel, ← uptoL_succ]
        congr 1; omega
      obtain ⟨b, off, r, c, rfl, hb, hx1, hc0, hc1⟩ := HC.out.dot (j := m) (by simpa using hlt)
      have hz : (zs[m]!).1 = (r, c) := by
        rw [getElem!_pos zs m hlt]
        rw [List.getElem?_map, List.getElem?_eq_getElem hlt] at hx1
        simpa using hx1
      have hbn := hcb b off rfl (by intro e; subst e; simp at hlt)
      have hd0 := (hK.out.1.cell (p := ⟨b, off + m * 2, none⟩) hbn).trans hc0
      have hd1 := (hK.out.1.cell (p := ⟨b, off + m * 2 + 1, none⟩) hbn).trans hc1
      have hJ2 := hJ.out
      rw [hk0] at hJ2
      obtain ⟨fn, tmps, assign, body, hy, hR⟩ := hY _ (m, zs[m]!) wr hJ2 (by rw [uptoL_length]; omega)
      dsimp only at hy
      rw [hz] at hy
      have HS := Lib.hid hsucc
      have HR := Lib.hid hR
      clear hc0 hc1 hx1 hz hJ2 hsucc hel hk0 hR c0
      gi_wp2
      refine HR.out.mono ?_
      rintro e W3 (⟨rfl, hJ3, hk3⟩ | ⟨rfl, hJx3⟩)
      · rw [HS.out] at hJ3
        have HJ3 := Lib.hid hJ3
        have HK3 := Lib.hid (hK.out.trans hk3)
        clear hJ3 hk3 hd0 hd1 c1
        gi_wp2
        go_roundw
        case rel => exact ⟨(m : Int) - 1, rfl, by omega, by omega, HJ3, HK3⟩
        case measure => (simp [intOf]) <;> omega
      · rw [HS.out] at hJx3
        have HJ3 := Lib.hid hJx3
        clear hJx3 hd0 hd1 c1
        gi_wp2
        refine bodyPost_ret (results_none rfl _ _ _) rfl ?_
        exact ⟨⟨_, rfl⟩, .inr ⟨_, ⟨_, by omega, rfl⟩, HJ3.out⟩⟩

theorem back_stops (n : Nat) (hn : 1 ≤ n) (Bs n₀ : Nat) (A : Option Addr) (cap : Nat) (zs : List WD) (hreach : zs.length ≤ 1000000) (w : World) (_ : n₀ ≤ w.heap.size)
    (hBs : Boxed w Bs 26 (.slice A zs.length cap)) (hc : DotsAt w A (zs.map (·.1))) (hcb : ∀ b off, A = some ⟨b, off, none⟩ → zs ≠ [] → b < n₀) :
    SeqStopsK Fence.wide n Tryz.prog 108 #[.pointer (some ⟨Bs, 0, none⟩)] (fun x : Nat × WD => #[.int .i64 (x.1 : Int), .agg #[.int .i64 x.2.1.1, .int .i64 x.2.1.2]]) (KpV n₀ Bs)
      (fun ys => ys = uptoL (backAt zs) zs.length) (fun pre => ∃ k, k ≤ zs.length ∧ pre = uptoL (backAt zs) k) zs.length w := fun l J Jx W hW _ _ hY h0 => by
  refine (back1_in n hn l Bs n₀ A cap zs hreach J Jx hY W ((hW.block Bs hBs.lt).trans hBs) (hc.below hW) hcb h0).mono ?_
  rintro e W' ⟨he, ⟨ys, h1, hj⟩ | ⟨pre, h1, hj⟩⟩
  · exact ⟨he, .inl ⟨_, h1, hj⟩⟩
  · exact ⟨he, .inr ⟨_, h1, hj⟩⟩

set_option maxHeartbeats 400000 in
theorem backward (A : Option Addr) (n cap : Nat) (w : World) :
    Calls Tryz.prog 87 #[.slice A n cap] w fun e w' => e = .returned (.func (.func 108) #[] #[.pointer (some ⟨w.heap.size, 0, none⟩)]) ∧ w' = w.alloc (.cells #[.slice A n cap] 26) := by
  go_enter Tryz.func87, Tryz.ntmps87
  go_wp2
  go_ret
  exact ⟨rfl, rfl⟩

/-- A map reads as the counters of a vector, of which the first dot with a replica counts. -/
def GetIs (D : DataW Unit) (v : List (Int × Int)) : Prop := ∀ r, D.atKey (.int .i64 r) (.lit (.int .i64 0)) = .lit (.int .i64 (getV v r))
theorem GetIs.start : GetIs (.map []) [] := fun _ => rfl
theorem GetIs.step {D : DataW Unit} {v : List (Int × Int)} (hD : Maps.IsMap D) (h : GetIs D v) (d : Int × Int) : GetIs (D.put (.int .i64 d.1) (.lit (.int .i64 d.2))) (d :: v) := by
  intro r
  rw [getV]
  by_cases e : d.1 = r
  · subst e
    rw [Maps.atKey_put_same hD (show WideAt.IsKeyLit (.int .i64 d.1) from trivial), if_pos rfl]
  · rw [if_neg e, Maps.atKey_put_other (lit_ne (Ne.symm e)), h]

theorem makeMapN (n : Int) (w : World) : (Instr.makeMap 103 (some (.int .i64 n))).run Tryz.prog w = .ok (.map (some w.heap.size)) (w.alloc (.map #[] 0)) := by
  simp [Instr.makeMap, run_underlying Tryz.underlying103, Go.asInt]
  rfl

set_option maxRecDepth 100000 in
set_option maxHeartbeats 4000000 in
theorem ctxCounters (A : Option Addr) (cap : Nat) (zs : List WD) (w : World) (hx : Holds w (.slice A zs.length cap) (zs.map (·.1))) (hm : zs.length ≤ 90000) :
    Calls Tryz.prog 54 #[.slice A zs.length cap] w fun e w' => ∃ b D, e = .returned (.map (some b)) ∧ w.heap.size ≤ b ∧ Below w.heap.size w w' ∧ w'.ownsMap Tryz.prog 3 (plainElem Tryz.prog 3) b zs.length D ∧ GetIs D (zs.map (·.1)) := by
  have hmm := makeMapN
  have HSEQ := Lib.hid fun (W : World) => backward A zs.length cap W
  refine (callsIn_wide (n := 3)).1 ?_
  refine callsIn_of_wp_marks Tryz.func54 rfl trivial ?_ rfl
  simp only [Tryz.ntmps54, List.size_toArray, List.length_cons, List.length_nil, Nat.reduceAdd, Nat.reduceSub, Array.replicate_succ, Array.replicate_zero, List.push_toArray, List.append_toArray, List.nil_append, List.cons_append]
  gi_wp2_with (refine ⟨trivial, ?_⟩; gi_at_call 87; refine (callsIn_wide.2 (HSEQ.out _)).mono ?_; rintro e w1 ⟨rfl, rfl⟩)
  obtain ⟨W0, hW0⟩ : ∃ W0, (((w.alloc (Obj.map #[] 0)).alloc (Obj.cells #[Value.map (some w.heap.size)] 103)).alloc (Obj.cells #[Value.slice A zs.length cap] 26)) = W0 := ⟨_, rfl⟩
  have hsz0 : W0.heap.size = w.heap.size + 3 := by rw [← hW0]; simp
  have hB0 : Below w.heap.size w W0 := by
    rw [← hW0]
    exact (((Below.refl _ w).alloc (Nat.le_refl _) _).alloc (by simp only [World.size_alloc]; omega) _).alloc (by simp only [World.size_alloc]; omega) _
  have xm : W0.ownsMap Tryz.prog 3 (plainElem Tryz.prog 3) w.heap.size 0 (.map [] : DataW Unit) := by
    rw [← hW0]
    exact ((World.ownsMap_made _ _ _ _).alloc _).alloc _
  have x1 : Boxed W0 (w.heap.size + 1) 103 (.map (some w.heap.size)) := by
    rw [← hW0]
    have h := Boxed.new (w.alloc (Obj.map #[] 0)) 103 (.map (some w.heap.size))
    rw [World.size_alloc] at h
    exact h.alloc _
  have x2 : Boxed W0 (w.heap.size + 1 + 1) 26 (.slice A zs.length cap) := by
    rw [← hW0]
    have h := Boxed.new ((w.alloc (Obj.map #[] 0)).alloc (Obj.cells #[Value.map (some w.heap.size)] 103)) 26 (.slice A zs.length cap)
    rw [World.size_alloc, World.size_alloc] at h
    exact h
  rw [hW0]
  have hdots : DotsAt w A (zs.map (·.1)) := by
    obtain ⟨A', c', e0, h, _, _⟩ := hx
    have eA : A = A' := by injection e0
    subst eA
    exact h
  have hcb : ∀ b off, A = some ⟨b, off, none⟩ → zs ≠ [] → b < w.heap.size := fun b off e hz => by
    obtain ⟨b', off', e', hb', _⟩ := hdots (by simpa [List.length_pos_iff] using hz)
    rw [e] at e'
    injection e' with e'
    injection e' with e1
    omega
  refine wpIn_rangeFunc_ownH rfl (by omega) (gf := 108) (lb := #[.pointer (some ⟨w.heap.size + 1 + 1, 0, none⟩)]) rfl trivial (enters_of Tryz.func108 (by kernel_rfl) rfl)
    (back_stops 2 (by omega) (w.heap.size + 1 + 1) w.heap.size A cap zs (by omega) W0 (by omega) x2 (hdots.below hB0) hcb) KpV.trans
    (fun W l o o' hl h1 h2 h3 => ⟨belowK_b (w := W0) (by omega) W l o o' hl h1 h2 h3, fun _ => World.putObj_heap_other (by omega)⟩) (Below.refl _ _) (fun _ => rfl)
    (fun pre W => ((∃ D : DataW Unit, W.ownsMap Tryz.prog 3 (plainElem Tryz.prog 3) w.heap.size pre.length D ∧ GetIs D (pre.map fun x => x.2.1).reverse) ∧ Boxed W (w.heap.size + 1) 103 (.map (some w.heap.size)) ∧ Boxed W (w.heap.size + 1 + 1) 26 (.slice A zs.length cap)) ∧ Below w.heap.size w W)
    (fun _ _ _ => False)
    (OwnFrom.and (OwnFrom.and (fun s X Y row hs hg hr => by obtain ⟨D, h1, h2⟩ := hs; exact ⟨D, h1.kept hg (fun e => by have := (hr _ e.symm).1; omega), h2⟩) (OwnFrom.and (Own.from (boxed_own _ _ _) _) (Own.from (boxed_own _ _ _) _))) (ownFrom_below (Nat.le_refl _) (by omega)))
    (fun _ _ _ _ _ hs _ _ => hs)
    ⟨⟨⟨_, xm, GetIs.start⟩, x1, x2⟩, hB0⟩
    (fun x a' W => ∃ Bx, w.heap.size + 3 ≤ Bx ∧ W.heap[Bx]? = some (.cells #[.int .i64 x.2.1.1, .int .i64 x.2.1.2] 52 (0, 0)) ∧ a' = { tmps := #[.slice A zs.length cap, undef, .map none, .pointer (some ⟨w.heap.size + 1, 0, none⟩), undef, .pointer (some ⟨Bx, 0, none⟩), .slice A zs.length cap, .int .i64 zs.length, .map (some w.heap.size), .slice A zs.length cap,
      .func (.func 108) #[] #[.pointer (some ⟨w.heap.size + 1 + 1, 0, none⟩)], .int .i64 x.1, .agg #[.int .i64 x.2.1.1, .int .i64 x.2.1.2], undef, undef, undef, undef, undef, undef], defers := [] })
    (fun x a' _ X Y row hs hg hr => by
      obtain ⟨Bx, h1, h2, h3⟩ := hs
      exact ⟨Bx, h1, (hg.block Bx (Array.getElem?_eq_some_iff.1 h2).1 (fun e => by obtain ⟨_, o, ho, hc⟩ := hr _ e.symm; rw [h2] at ho; cases ho; cases hc)).trans h2, h3⟩)
    ?assign ?body ?done ?stop
  case assign =>
    rintro l pre x W K ⟨⟨⟨D, hmap, hget⟩, b1, b2⟩, hB⟩ hK
    have hs2 := b2.lt
    gi_wp2
    exact hK _ _ ((KeepsOthers.alloc _ _).from _) ⟨(Below.refl _ W).alloc hB.size _, fun h => Below.heap_alloc _ _ _ h⟩ ⟨⟨⟨D, hmap.alloc _, hget⟩, b1.alloc _, b2.alloc _⟩, hB.alloc hB.size _⟩ ⟨W.heap.size, by omega, heap_alloc_new W _, rfl⟩
  case body =>
    rintro l pre x a' W hl ⟨r, hr⟩ ⟨⟨⟨D, hmap, hget⟩, b1, b2⟩, hB⟩ ⟨Bx, hBx, bX, rfl⟩ hlt
    have cX0 : W.cell? ⟨Bx, 0, none⟩ = some (.int .i64 x.2.1.1) := by simp [World.cell?, bX]
    have cX1 : W.cell? ⟨Bx, 1, none⟩ = some (.int .i64 x.2.1.2) := by simp [World.cell?, bX]
    have c1 := b1.cell
    have hwf := x.2.2
    have hs2 := b2.lt
    have hkey : keyOf Tryz.prog 3 (.int .i64 x.2.1.1) = some (.int .i64 x.2.1.1) := Maps.keyOf_int_mk Tryz.underlying3 (WalkArith.wf_i64 ⟨hwf.1, hwf.2.1⟩)
    have HM := Lib.hid hmap
    clear bX hmap
    gi_wp2_with (gi_at_mapUpdate; refine wpListIn_mapUpdate_own _ rfl _ _ _ mapT rfl 3 3 law3 Tryz.underlying103 _ w.heap.size pre.length _ rfl HM.out (by unfold maxLen; omega) _ _ _ rfl rfl hkey _ [] (plainElem_int Tryz.underlying3 (WalkArith.wf_i64 ⟨hwf.2.2.1, hwf.2.2.2⟩)) ?_; intro w1 hown1 hgrow1)
    refine ⟨KeepsFrom.of_grownBy hgrow1 (fun j e => by cases e; omega), ⟨(Below.refl w.heap.size W).grown hgrow1 hB.size (fun k e => by cases e; exact Nat.le_refl _), fun h => hgrow1.block _ h (by simp; omega)⟩, ⟨⟨_, (show w1.ownsMap _ _ _ _ (pre ++ [x]).length _ from by simpa using hown1), ?_⟩, b1.kept hgrow1 (by simp), b2.kept hgrow1 (by simp; omega)⟩, hB.grown hgrow1 hB.size (fun k e => by cases e; exact Nat.le_refl _)⟩
    have h := hget.step HM.out.isMap x.2.1
    simpa using h
  case done =>
    rintro D xs W hD hS ⟨⟨⟨D', hown, hget⟩, b1, b2⟩, hB⟩ hK
    subst hS
    have c1 := b1.cell
    rw [back_all, List.reverse_reverse] at hget
    rw [uptoL_length] at hown
    have HO := Lib.hid hown
    have HG := Lib.hid hget
    clear hown hget
    gi_wp2
    refine ⟨by simp, .inl ⟨_, _, rfl, run_takeDeferred hK, ?_⟩⟩
    exact ⟨_, results_tmp rfl _ _ _, w.heap.size, D', rfl, Nat.le_refl _, hB.trans (belowK_b (w := W0) (by omega) W D _ _ (by omega) hK rfl rfl), HO.out.kept (grownBy_putObj' W D (.deferred none)) (fun e => by injection e; omega), HG.out⟩
  case stop =>
    rintro D c pre W _ _ h _
    exact h.elim

end

section
open Go.RowKit

/-- A block that holds a context. -/
def Blk2 (W : World) (g : Nat) (x y : Value) : Prop := W.heap[g]? = some (.cells #[x, y] 28 (0, 0))
theorem Blk2.lt {W : World} {g : Nat} {x y : Value} (h : Blk2 W g x y) : g < W.heap.size := (Array.getElem?_eq_some_iff.1 h).1
theorem Blk2.cell0 {W : World} {g : Nat} {x y : Value} (h : Blk2 W g x y) : W.cell? ⟨g, 0, none⟩ = some x := by simp [World.cell?, show W.heap[g]? = _ from h]
theorem Blk2.cell1 {W : World} {g : Nat} {x y : Value} (h : Blk2 W g x y) : W.cell? ⟨g, 1, none⟩ = some y := by simp [World.cell?, show W.heap[g]? = _ from h]
theorem Blk2.frozen {W : World} {g : Nat} {x y : Value} (h : Blk2 W g x y) (k : Nat) : W.frozen? ⟨g, k, none⟩ = false := by simp [World.frozen?, show W.heap[g]? = _ from h]
theorem Blk2.below {W W' : World} {g : Nat} {x y : Value} (h : Blk2 W g x y) (hb : Below W.heap.size W W') : Blk2 W' g x y := (hb.block g h.lt).trans h
theorem Blk2.kept {W W' : World} {row : Option Nat} {g : Nat} {x y : Value} (h : Blk2 W g x y) (hg : W.grownBy W' row) (hne : some g ≠ row) : Blk2 W' g x y := (hg.block g h.lt hne).trans h
theorem Blk2.set {W : World} {g : Nat} {x y : Value} (h : Blk2 W g x y) (x' y' : Value) : Blk2 ((W.setCell ⟨g, 0, none⟩ x').setCell ⟨g, 1, none⟩ y') g x' y' := by
  obtain ⟨hlt, hk⟩ := Array.getElem?_eq_some_iff.1 h
  have e1 : (W.setCell ⟨g, 0, none⟩ x').heap[g]? = some (.cells #[x', y] 28 (0, 0)) := by
    show (W.heap.modify g _)[g]? = _
    rw [Array.getElem?_eq_getElem (by rw [Array.size_modify]; exact hlt), Array.getElem_modify_self, hk]
    rfl
  obtain ⟨hlt2, hk2⟩ := Array.getElem?_eq_some_iff.1 e1
  show ((W.setCell ⟨g, 0, none⟩ x').heap.modify g _)[g]? = _
  rw [Array.getElem?_eq_getElem (by rw [Array.size_modify]; exact hlt2), Array.getElem_modify_self, hk2]
  rfl
theorem Blk2.other {W : World} {g g' : Nat} {x y : Value} (h : Blk2 W g x y) (hne : g ≠ g') (o : Nat) (z : Value) : Blk2 (W.setCell ⟨g', o, none⟩ z) g x y := (Below.heap_setCell W ⟨g', o, none⟩ z g hne).trans h
/-- A list of dots lies in no such block. -/
theorem Holds.off {W W' : World} {g : Nat} {x y v : Value} {xs : List (Int × Int)} (h : Holds W v xs) (hB : Blk2 W g x y) (hx : ∀ z, x ≠ .int .i64 z) (hy : ∀ z, y ≠ .int .i64 z)
    (hsz : W.heap.size ≤ W'.heap.size) (hk : ∀ k, k ≠ g → k < W.heap.size → W'.heap[k]? = W.heap[k]?) : Holds W' v xs := by
  obtain ⟨A, c, rfl, hat, h2, h3⟩ := h
  refine ⟨A, c, rfl, fun hn => ?_, h2, h3⟩
  obtain ⟨b, off, rfl, hb, hcell⟩ := hat hn
  have hne : b ≠ g := by
    intro e
    subst e
    obtain ⟨p, hp⟩ : ∃ p, xs[0]? = some p := ⟨_, List.getElem?_eq_getElem (by cases xs <;> simp_all)⟩
    have hc := hcell 0 p hp 0 (.int .i64 p.1) rfl
    simp only [World.cell?, show W.heap[b]? = _ from hB] at hc
    generalize off + 0 * 2 + 0 = k at hc
    match k with
    | 0 => simp at hc; exact hx _ hc
    | 1 => simp at hc; exact hy _ hc
    | k + 2 => simp at hc
  exact ⟨b, off, rfl, by omega, fun j p hj i u hu => (World.cell?_of_block (hk b hne hb)).trans (hcell j p hj i u hu)⟩

/-- No row of one's own lies where a list lies. -/
def Apart (xs : List (Int × Int)) (v r : Value) : Prop := 0 < xs.length → ∀ b off n c, v = .slice (some ⟨b, off, none⟩) n c → r.ownBlock ≠ some b
theorem Holds.apart {W W' : World} {v r : Value} {xs : List (Int × Int)} (h : Holds W v xs) (hg : W.grownBy W' r.ownBlock) (hd : Apart xs v r) : Holds W' v xs := by
  obtain ⟨A, c, rfl, hat, h2, h3⟩ := h
  refine ⟨A, c, rfl, fun hn => ?_, h2, h3⟩
  obtain ⟨b, off, rfl, hb, hcell⟩ := hat hn
  have hne := hd hn b off _ _ rfl
  exact ⟨b, off, rfl, Nat.lt_of_lt_of_le hb hg.size, fun j p hj i u hu => (World.cell?_of_block (hg.block b hb (fun e => hne e.symm))).trans (hcell j p hj i u hu)⟩
theorem Apart.nil (xs : List (Int × Int)) (v : Value) : Apart xs v (.slice none 0 0) := fun _ _ _ _ _ _ => by simp [Value.ownBlock]

/-- How long the cloud in a block is. -/
def lenB (g : Nat) (W : World) : Nat := match W.cell? ⟨g, 1, none⟩ with
  | some (.slice _ n _) => n
  | _ => 0
theorem Blk2.len {W : World} {g n c : Nat} {x : Value} {A : Option Addr} (h : Blk2 W g x (.slice A n c)) : lenB g W = n := by unfold lenB; rw [h.cell1]

end

section
open Go.RowKit

/-- What holds inside a pass. -/
def InP (w1 : World) (vs ls : List (Int × Int)) (k : Nat) (rest vv : Value) (rs us : List (Int × Int)) (W : World) : Prop :=
  passC vs [] ls = passC us rs (ls.drop k) ∧ W.ownsRow w1.heap.size 52 2 rest rs.length (cellsOf encD rs) ∧ Holds W vv us ∧ Apart us vv rest ∧ Below w1.heap.size w1 W ∧ us.length + rs.length ≤ vs.length + k ∧ validV us = true
section
variable {w1 : World} {vs ls : List (Int × Int)} {k : Nat} {rest vv : Value} {rs us : List (Int × Int)} {W W' : World}
theorem InP.below (h : InP w1 vs ls k rest vv rs us W) (hb : Below W.heap.size W W') : InP w1 vs ls k rest vv rs us W' :=
  ⟨h.1, h.2.1.kept (grown_of_below2 hb none) (by cases rest.ownBlock <;> simp), h.2.2.1.below hb, h.2.2.2.1, below_trans h.2.2.2.2.1 hb, h.2.2.2.2.2⟩
theorem InP.bel (h : InP w1 vs ls k rest vv rs us W) : Below w1.heap.size w1 W := h.2.2.2.2.1
theorem InP.vec (h : InP w1 vs ls k rest vv rs us W) : Holds W vv us := h.2.2.1
theorem InP.own (h : InP w1 vs ls k rest vv rs us W) : W.ownsRow w1.heap.size 52 2 rest rs.length (cellsOf encD rs) := h.2.1
theorem InP.len (h : InP w1 vs ls k rest vv rs us W) : us.length + rs.length ≤ vs.length + k := h.2.2.2.2.2.1
theorem InP.valid (h : InP w1 vs ls k rest vv rs us W) : validV us = true := h.2.2.2.2.2.2
theorem InP.goes {d : Int × Int} (h : InP w1 vs ls k rest vv rs us W) (hd : ls[k]? = some d) : passC vs [] ls = (if hasV us d.1 d.2 then passC us rs (ls.drop (k + 1)) else if d.2 = getV us d.1 + 1 then passC (raiseV us d) rs (ls.drop (k + 1)) else passC us (rs ++ [d]) (ls.drop (k + 1))) := by
  obtain ⟨hl, e⟩ := List.getElem?_eq_some_iff.1 hd
  rw [h.1, ← e, List.drop_eq_getElem_cons hl, passC]
/-- The dot is in the vector. -/
theorem InP.skip {d : Int × Int} (h : InP w1 vs ls k rest vv rs us W) (hd : ls[k]? = some d) (hh : hasV us d.1 d.2 = true) : InP w1 vs ls (k + 1) rest vv rs us W :=
  ⟨by rw [h.goes hd, if_pos hh], h.2.1, h.2.2.1, h.2.2.2.1, h.2.2.2.2.1, by have := h.len; omega, h.valid⟩
/-- The dot stays in the cloud. -/
theorem InP.stay {d : Int × Int} {r2 : Value} {w2 : World} {o : Obj} (h : InP w1 vs ls k rest vv rs us W) (hd : ls[k]? = some d) (hh : hasV us d.1 d.2 = false) (hn : d.2 ≠ getV us d.1 + 1)
    (ho : w2.ownsRow w1.heap.size 52 2 r2 (rs ++ [d]).length (cellsOf encD (rs ++ [d]))) (hg : (W.alloc o).grownBy w2 rest.ownBlock) (hat : r2.ownBlock = rest.ownBlock ∨ r2.ownBlock = some (W.alloc o).heap.size) : InP w1 vs ls (k + 1) r2 vv (rs ++ [d]) us w2 := by
  have hal : Below W.heap.size W (W.alloc o) := (Below.refl _ W).alloc (Nat.le_refl _) _
  refine ⟨by rw [h.goes hd, hh, if_neg (by simp), if_neg hn], ho, (h.vec.below hal).apart hg h.2.2.2.1, ?_, (h.bel.alloc h.bel.size o).grown hg (by have := h.bel.size; simp; omega) (fun j hj => (h.own.lt j hj).1), ?_, h.valid⟩
  · intro hn0 b off n c e e2
    rcases hat with h1 | h1
    · exact h.2.2.2.1 hn0 b off n c e (by rw [← h1]; exact e2)
    · rw [h1] at e2
      have e3 : (W.alloc o).heap.size = b := by simpa using e2
      obtain ⟨A, c', ev, hat2, _⟩ := h.vec
      obtain ⟨b', off', rfl, hb', _⟩ := hat2 hn0
      rw [e] at ev
      cases ev
      simp at e3
      omega
  · rw [List.length_append]
    have := h.len
    simp only [List.length_cons, List.length_nil]; omega
end

end

section
open Go.RowKit

/-- What holds between passes. -/
def OutP (w : World) (vs0 ls0 vs ls : List (Int × Int)) (x y : Value) (W : World) : Prop :=
  Blk2 W w.heap.size x y ∧ Blk2 W (w.heap.size + 1) (.slice none 0 0) (.slice none 0 0) ∧ Holds W x vs ∧ Holds W y ls ∧ Below w.heap.size w W ∧ validC vs ls = true ∧ (∀ r c, hasC vs ls r c = hasC vs0 ls0 r c) ∧ vs.length + ls.length ≤ 90000
theorem OutP.below {w W W' : World} {vs0 ls0 vs ls : List (Int × Int)} {x y : Value} (h : OutP w vs0 ls0 vs ls x y W) (hb : Below W.heap.size W W') : OutP w vs0 ls0 vs ls x y W' :=
  ⟨h.1.below hb, h.2.1.below hb, h.2.2.1.below hb, h.2.2.2.1.below hb, below_trans h.2.2.2.2.1 hb, h.2.2.2.2.2⟩

theorem set2_size (W : World) (g : Nat) (x y : Value) : ((W.setCell ⟨g, 0, none⟩ x).setCell ⟨g, 1, none⟩ y).heap.size = W.heap.size := by
  simp
theorem set2_off (W : World) (g : Nat) (x y : Value) (k : Nat) (hk : k ≠ g) : ((W.setCell ⟨g, 0, none⟩ x).setCell ⟨g, 1, none⟩ y).heap[k]? = W.heap[k]? :=
  (Below.heap_setCell _ ⟨g, 1, none⟩ y k hk).trans (Below.heap_setCell W ⟨g, 0, none⟩ x k hk)
theorem Holds.set2 {W : World} {g : Nat} {x y x' y' v : Value} {xs : List (Int × Int)} (h : Holds W v xs) (hB : Blk2 W g x y) (hx : ∀ z, x ≠ .int .i64 z) (hy : ∀ z, y ≠ .int .i64 z) : Holds ((W.setCell ⟨g, 0, none⟩ x').setCell ⟨g, 1, none⟩ y') v xs :=
  h.off hB hx hy (by rw [set2_size]; exact Nat.le_refl _) fun k hk _ => set2_off W g x' y' k hk
theorem below_set2 {w W : World} {g : Nat} (h : Below w.heap.size w W) (hg : w.heap.size ≤ g) (x y : Value) : Below w.heap.size w ((W.setCell ⟨g, 0, none⟩ x).setCell ⟨g, 1, none⟩ y) :=
  (h.setCell (p := ⟨g, 0, none⟩) hg _).setCell (p := ⟨g, 1, none⟩) hg _
/-- After a pass: what was read and what is left are stored. -/
theorem OutP.next {w w1 W : World} {vs0 ls0 vs ls us rs : List (Int × Int)} {x y vv rest : Value} (h : OutP w vs0 ls0 vs ls x y w1) (hx : ∀ z, x ≠ .int .i64 z) (hy : ∀ z, y ≠ .int .i64 z) (hI : InP w1 vs ls ls.length rest vv rs us W) :
    OutP w vs0 ls0 us rs vv rest ((W.setCell ⟨w.heap.size, 0, none⟩ vv).setCell ⟨w.heap.size, 1, none⟩ rest) := by
  have hp : passC vs [] ls = (us, rs) := by have := hI.1; rwa [List.drop_length, passC] at this
  have hB := h.1.below hI.bel
  have hB2 := h.2.1.below hI.bel
  have hv := pass_validC h.2.2.2.2.2.1
  have hh := pass_hasC h.2.2.2.2.2.1
  rw [hp] at hv hh
  refine ⟨hB.set _ _, (hB2.other (by omega) 0 _).other (by omega) 1 _, hI.vec.set2 hB hx hy, ?_, below_set2 (below_trans h.2.2.2.2.1 hI.bel) (Nat.le_refl _) _ _, hv, fun r c => by rw [hh, h.2.2.2.2.2.2.1], by have := hI.len; have := h.2.2.2.2.2.2.2; omega⟩
  obtain ⟨A, c, e0, h1, h2, h3⟩ := SlAt.of_own encD_len hI.own
  exact Holds.set2 ⟨A, c, e0, h3, h1, h2⟩ hB hx hy

end

end Go.Proofs.YtpnemekkpifbaaaGreat
