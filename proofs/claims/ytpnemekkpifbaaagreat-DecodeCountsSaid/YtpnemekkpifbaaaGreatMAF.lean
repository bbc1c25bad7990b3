/- Several texts in one: VecB, CtxL, ItmF, ItmG, CtxA, CtxB, CtxC, VecC, VecD. -/
import Derived.Test.YtpnemekkpifbaaaGreatMAE
import Derived.Test.YtpnemekkpifbaaaGreatMAA
import Derived.Test.YtpnemekkpifbaaaGreatMAC
import Derived.Lib.Bytealg
import Derived.Maps.Own
import Derived.Maps.OwnOps
import Derived.Maps.OwnSet
import Derived.Maps.RangeWalk
import Derived.Maps.Views
import Derived.OwnWalk
import Derived.Test.YtpnemekkpifbaaaGreatShelf
import Derived.Deep.AppendLies
namespace Go.Proofs.YtpnemekkpifbaaaGreat

section
open Go.RowKit

theorem grown_of_below2 {a w : World} (h : Below a.heap.size a w) (row : Option Nat) : a.grownBy w row := ⟨h.os, h.tape, h.output, h.size, fun i hi _ => h.block i hi⟩

/-- The box of the dot, and a row of the call's own. -/
def RV (w : World) (r0 c0 : Int) (v : Value) (ys : List (Int × Int)) (W : World) : Prop :=
  KS w r0 c0 W ∧ W.ownsRow (w.heap.size + 1) 52 2 v ys.length (cellsOf encD ys)
section
variable {w : World} {r0 c0 : Int} {v : Value} {ys : List (Int × Int)} {W W' : World}
theorem RV.below (h : RV w r0 c0 v ys W) (hb : Below W.heap.size W W') : RV w r0 c0 v ys W' :=
  ⟨.of (h.1.2.2.trans (hb.mono h.1.size)), h.2.kept (grown_of_below2 hb none) (by cases v.ownBlock <;> simp)⟩
theorem RV.far (h : RV w r0 c0 v ys W) (p : FarBy) : RV w r0 c0 v ys (far W p) := h.below (below_far W p)
theorem RV.cells (h : RV w r0 c0 v ys W) : W.cell? ⟨w.heap.size, 0, none⟩ = some (.int .i64 r0) ∧ W.cell? ⟨w.heap.size, 1, none⟩ = some (.int .i64 c0) ∧ w.heap.size < W.heap.size ∧ Below w.heap.size w W :=
  ⟨h.1.1, h.1.2.1, by have := h.1.size; omega, h.1.below⟩
end


/-- What a round reads, wherever what was there is as it was. -/
theorem RV.reads {w : World} {r0 c0 : Int} {v : Value} {ys : List (Int × Int)} {W : World} (h : RV w r0 c0 v ys W) {b o : Nat} {r c : Int} (hb : b < w.heap.size) (h0 : w.cell? ⟨b, o, none⟩ = some (.int .i64 r)) (h1 : w.cell? ⟨b, o + 1, none⟩ = some (.int .i64 c)) :
    ∀ p, (Go.Proofs.YtpnemekkpifbaaaGreat.far W p).cell? ⟨w.heap.size, 0, none⟩ = some (.int .i64 r0) ∧ (Go.Proofs.YtpnemekkpifbaaaGreat.far W p).cell? ⟨w.heap.size, 1, none⟩ = some (.int .i64 c0) ∧ (Go.Proofs.YtpnemekkpifbaaaGreat.far W p).cell? ⟨b, o, none⟩ = some (.int .i64 r) ∧ (Go.Proofs.YtpnemekkpifbaaaGreat.far W p).cell? ⟨b, o + 1, none⟩ = some (.int .i64 c) := fun p => by
  obtain ⟨k0, k1, kz, kb⟩ := h.cells
  have hz := kb.size
  exact ⟨cell_far (p := p) (a := ⟨w.heap.size, 0, none⟩) kz k0, cell_far (p := p) (a := ⟨w.heap.size, 1, none⟩) kz k1,
    cell_far (p := p) (a := ⟨b, o, none⟩) (by show b < _; omega) ((kb.cell (p := ⟨b, o, none⟩) hb).trans h0), cell_far (p := p) (a := ⟨b, o + 1, none⟩) (by show b < _; omega) ((kb.cell (p := ⟨b, o + 1, none⟩) hb).trans h1)⟩
/-- All dots are valid. -/
def ofOk (l : List (Int × Int)) : Bool := l.all fun p => validD p.1 p.2
end

section
open Go.RowKit

theorem inc_nodup {l : List (Int × Int)} (h : Inc l) : l.Nodup := List.Pairwise.imp (fun {a b} hab e => by subst e; rw [ltD_irrefl] at hab; cases hab) h
end

section
open Go.RowKit

/-- What holds all along: the item in its block, the items where they lay. -/
structure KW (w : World) (x : ItV) (A : Option Addr) (xs : List ItV) (W : World) : Prop where
  blk : BlkI W w.heap.size x
  bel : Below w.heap.size w W
  xs0 : ItemsAt w A xs
  ok0 : ItOK w x
section
variable {w W W' : World} {x : ItV} {A : Option Addr} {xs : List ItV}
theorem KW.items (h : KW w x A xs W) : ItemsAt W A xs := h.xs0.below h.bel
theorem KW.ok (h : KW w x A xs W) : ItOK W x := h.ok0.below h.bel
theorem KW.next (h : KW w x A xs W) (hb : Below W.heap.size W W') : KW w x A xs W' := ⟨h.blk.below hb, below_trans h.bel hb, h.xs0, h.ok0⟩
theorem KW.alloc (h : KW w x A xs W) (o : Obj) : KW w x A xs (W.alloc o) := h.next ((Below.refl _ _).alloc (Nat.le_refl _) _)
theorem KW.drew (h : KW w x A xs W) : KW w x A xs W.drew := h.next (Below.refl _ _).drew
theorem KW.size (h : KW w x A xs W) : w.heap.size + 1 ≤ W.heap.size := h.blk.lt
theorem KW.grown (h : KW w x A xs W) {row : Option Nat} (hg : W.grownBy W' row) (hr : ∀ k, row = some k → w.heap.size + 1 ≤ k) : KW w x A xs W' := by
  have hz := h.size
  exact ⟨(hg.block _ h.blk.lt (fun e => by have := hr _ e.symm; omega)).trans h.blk, h.bel.grown hg (by omega) (fun k hk => by have := hr k hk; omega), h.xs0, h.ok0⟩
theorem KW.sp (h : KW w x A xs W) : W.cell? ⟨w.heap.size, 0, none⟩ = some (.string ⟨x.nm.toArray⟩) ∧ W.cell? ⟨w.heap.size, 1, none⟩ = some (.slice x.A x.ms.length x.c) ∧ w.heap.size < W.heap.size ∧ KW w x A xs W := ⟨h.blk.cell0, h.blk.cell1, h.blk.lt, h⟩
theorem KW.new (hx : ItemsAt w A xs) (ho : ItOK w x) : KW w x A xs (w.alloc (.cells #[.string ⟨x.nm.toArray⟩, .slice x.A x.ms.length x.c] 57)) := ⟨BlkI.new w x, (Below.refl _ w).alloc (Nat.le_refl _) _, hx, ho⟩
end

end

section
open Go.RowKit

theorem bytesLess_eq : ∀ (a b : List UInt8), Op.bytesLess a b = beforeN a b
  | [], [] => rfl
  | [], _ :: _ => rfl
  | _ :: _, [] => rfl
  | a :: r, b :: s => by
    rw [Op.bytesLess, beforeN, bytesLess_eq r s]
    by_cases h : a = b
    · subst h; simp
    · rw [if_neg h]; simp [h, UInt8.lt_iff_toNat_lt]
set_option maxHeartbeats 400000 in
theorem valid1 (m : Mk) (w : World) : Calls Tryz.prog 85 #[mkV m] w (OneB (.bool (!validM m)) w) := by
  have H := Lib.hid fun W => qtyMark m W
  go_enter Tryz.func85, Tryz.ntmps85
  go_wp2_with fail
  refine (H.out _).mono ?_
  rintro e w1 ⟨rfl, hb1⟩
  have HB := Lib.hid (below_trans ((Below.refl _ w).alloc (Nat.le_refl _) _) hb1)
  clear hb1
  go_wp2_with fail
  go_ret
  exact OneB.bool (by simp) HB.out

set_option maxHeartbeats 1000000 in
theorem indexMarksV (A : Option Addr) (xs : List Mk) (cap : Nat) (w : World) (hx : MarksAt w A xs) (hm : xs.length ≤ maxLen) :
    Calls Tryz.prog 106 #[.slice A xs.length cap, .func (.func 85) #[] #[]] w fun e w' =>
      ((∃ i : Nat, e = .returned (.int .i64 i) ∧ xs.all validM = false) ∨ (e = .returned (.int .i64 (-1)) ∧ xs.all validM = true)) ∧ Below w.heap.size w w' := by
  unfold maxLen at hm
  go_enter Tryz.func106, Tryz.ntmps106
  go_wp2
  go_loopw [5, 8] (fun _ i wr => ∃ m : Nat, m ≤ xs.length ∧ i = .int .i64 m ∧ Below w.heap.size w wr ∧ Hid (∀ (j : Nat) (y : Mk), j < m → xs[j]? = some y → validM y = true)) (fun _ i _ => xs.length - (intOf i).toNat)
  case atStart => exact ⟨0, by omega, rfl, Below.refl _ _, fun j q h => by omega⟩
  case round =>
    obtain ⟨m, hk2, rfl, hb, hs⟩ := hrel
    by_cases hlt : m < xs.length
    · obtain ⟨b, off, y, rfl, hbl, hx1, _, hc0, hc1, hc2, hc3⟩ := (hx.below hb).mark (j := m) hlt
      have hr := fun W => valid1 y W
      cases hq : validM y
      · rw [hq] at hr
        have HR := Lib.hid hr
        have HV := Lib.hid (all_no hx1 hq)
        clear hr hq hx1
        go_wp2_with fail
        refine (HR.out _).mono ?_
        rintro e w1 ⟨rfl, hb1⟩
        clear hc0 hc1 hc2 hc3
        go_wp2
        go_ret
        exact ⟨.inl ⟨m, rfl, HV.out⟩, hb.trans (hb1.mono hb.size)⟩
      · rw [hq] at hr
        have HR := Lib.hid hr
        have HV := Lib.hid (step_all hs.out hx1 hq)
        clear hr hq hx1
        go_wp2_with fail
        refine (HR.out _).mono ?_
        rintro e w1 ⟨rfl, hb1⟩
        clear hc0 hc1 hc2 hc3
        go_wp2
        go_roundw
        case rel => exact ⟨m + 1, by omega, by go_num, hb.trans (hb1.mono hb.size), HV⟩
        case measure => simp [intOf]; omega
    · obtain rfl : m = xs.length := by omega
      have HV := Lib.hid (all_yes hs.out)
      go_wp2
      go_ret
      exact ⟨.inr ⟨rfl, HV.out⟩, hb⟩
set_option maxHeartbeats 400000 in
theorem containsMarksV (A : Option Addr) (xs : List Mk) (cap : Nat) (w : World) (hx : MarksAt w A xs) (hm : xs.length ≤ maxLen) :
    Calls Tryz.prog 84 #[.slice A xs.length cap, .func (.func 85) #[] #[]] w (OneB (.bool (!xs.all validM)) w) := by
  have H := Lib.hid (indexMarksV A xs cap w hx hm)
  go_enter Tryz.func84, Tryz.ntmps84
  go_wp2_with fail
  refine H.out.mono ?_
  rintro e w1 ⟨h, hb⟩
  have HB := Lib.hid hb
  clear hb
  rcases h with ⟨i, rfl, h⟩ | ⟨rfl, h⟩
  · have HV := Lib.hid h
    have i0 : (0 : Int) ≤ (i : Int) := by omega
    clear h
    go_wp2_with fail
    go_ret
    exact OneB.bool (by rw [HV.out]; rfl) HB.out
  · have HV := Lib.hid h
    clear h
    go_wp2_with fail
    go_ret
    exact OneB.bool (by rw [HV.out]; rfl) HB.out

end

section
open Go.RowKit

/-- What holds all along: some cells, the heap as it lay, some lists of dots. -/
def KX (w0 : World) (C : List (Addr × Value)) (L : List (Value × List (Int × Int))) (W : World) : Prop :=
  (∀ p ∈ C, W.cell? p.1 = some p.2 ∧ p.1.block < W.heap.size) ∧ Below w0.heap.size w0 W ∧ ∀ p ∈ L, Holds W p.1 p.2
section
variable {w0 : World} {C : List (Addr × Value)} {L : List (Value × List (Int × Int))} {W W' : World}
theorem KX.below (h : KX w0 C L W) (hb : Below W.heap.size W W') : KX w0 C L W' :=
  ⟨fun p hp => ⟨(hb.cell (h.1 p hp).2).trans (h.1 p hp).1, Nat.lt_of_lt_of_le (h.1 p hp).2 hb.size⟩, below_trans h.2.1 hb, fun p hp => (h.2.2 p hp).below hb⟩
theorem KX.alloc (h : KX w0 C L W) (o : Obj) : KX w0 C L (W.alloc o) := h.below ((Below.refl _ W).alloc (Nat.le_refl _) o)
theorem KX.drew (h : KX w0 C L W) : KX w0 C L W.drew := h.below (Below.refl _ W).drew
theorem KX.far (h : KX w0 C L W) (p : FarBy) : KX w0 C L (Go.Proofs.YtpnemekkpifbaaaGreat.far W p) := h.below (below_far W p)
theorem KX.bel (h : KX w0 C L W) : Below w0.heap.size w0 W := h.2.1
theorem KX.cell {a : Addr} {v : Value} (h : KX w0 C L W) (hm : (a, v) ∈ C) : W.cell? a = some v := (h.1 _ hm).1
theorem KX.lt {a : Addr} {v : Value} (h : KX w0 C L W) (hm : (a, v) ∈ C) : a.block < W.heap.size := (h.1 _ hm).2
theorem KX.h {v : Value} {xs : List (Int × Int)} (h : KX w0 C L W) (hm : (v, xs) ∈ L) : Holds W v xs := h.2.2 _ hm
theorem KX.push {v : Value} {xs : List (Int × Int)} (h : KX w0 C L W) (hv : Holds W v xs) : KX w0 C ((v, xs) :: L) W :=
  ⟨h.1, h.2.1, fun p hp => by
    rcases List.mem_cons.1 hp with rfl | hp
    · exact hv
    · exact h.2.2 p hp⟩
theorem KX.nil (W : World) : KX W [] [] W := ⟨(fun p hp => by cases hp), Below.refl _ _, (fun p hp => by cases hp)⟩
/-- A block of two cells is laid. -/
theorem KX.box (h : KX w0 C L W) (x y : Value) (t : TypeId) : KX w0 ((⟨W.heap.size, 0, none⟩, x) :: (⟨W.heap.size, 1, none⟩, y) :: C) L (W.alloc (.cells #[x, y] t)) := by
  have h2 := h.alloc (.cells #[x, y] t)
  refine ⟨fun p hp => ?_, h2.2.1, h2.2.2⟩
  rcases List.mem_cons.1 hp with rfl | hp
  · exact ⟨by go_simp, by simp⟩
  · rcases List.mem_cons.1 hp with rfl | hp
    · exact ⟨by go_simp, by simp⟩
    · exact h2.1 p hp
end

/-- A context that is handed in. -/
def HoldsC (W : World) (v : Value) (vs ls : List (Int × Int)) : Prop := ∃ A n B m, v = .agg #[.slice A vs.length n, .slice B ls.length m] ∧ Holds W (.slice A vs.length n) vs ∧ Holds W (.slice B ls.length m) ls
theorem HoldsC.below {W W' : World} {v : Value} {vs ls : List (Int × Int)} (h : HoldsC W v vs ls) (hb : Below W.heap.size W W') : HoldsC W' v vs ls := by
  obtain ⟨A, n, B, m, rfl, h1, h2⟩ := h
  exact ⟨A, n, B, m, rfl, h1.below hb, h2.below hb⟩
theorem HoldsC.mk {W : World} {x y : Value} {vs ls : List (Int × Int)} (h : Holds W x vs) (h' : Holds W y ls) : HoldsC W (.agg #[x, y]) vs ls := by
  have h0 := h
  have h0' := h'
  obtain ⟨A, n, rfl, _⟩ := h
  obtain ⟨B, m, rfl, _⟩ := h'
  exact ⟨A, n, B, m, rfl, h0, h0'⟩

end

section
open Go.RowKit

theorem getV_top {v : List (Int × Int)} (h : validV v = true) (r : Int) : 0 ≤ getV v r ∧ getV v r ≤ 4294967295 := by
  have h0 := getV_nonneg ((validV_iff v).1 h).1 r
  by_cases e : getV v r = 0
  · omega
  · have hd := ((validV_iff v).1 h).1 _ (getV_of_pos e)
    simp [validD] at hd
    omega
end

section
open Go.RowKit

end

section
open Go.RowKit Go.Maps Go.Sort

theorem law3 : Keyed Tryz.prog 3 := int_keyed Tryz.underlying3
theorem zero3 (w : World) : (zeroValue 3).run Tryz.prog w = .ok (.int .i64 0) w := by kernel_rfl
abbrev mapT : TypeId := 103

/-- A map reads as the greatest counters of a list of dots. -/
def MapIs (D : DataW Unit) (l : List (Int × Int)) : Prop :=
  (∀ r, D.atKey (.int .i64 r) (.lit (.int .i64 0)) = .lit (.int .i64 (maxC l r 0))) ∧ ∀ r, Maps.has D (.int .i64 r) = l.any fun p => p.1 == r
theorem MapIs.start : MapIs (.map []) [] := ⟨fun _ => rfl, fun _ => rfl⟩
theorem MapIs.val {D : DataW Unit} {l : List (Int × Int)} (h : MapIs D l) {r c : Int} (hat : D.atKey (.int .i64 r) (.lit (.int .i64 0)) = .lit (.int .i64 c)) : c = maxC l r 0 := by
  rw [h.1] at hat
  injection hat with hat
  injection hat with _ hat
  exact hat.symm
theorem lit_ne {r r' : Int} (h : ¬ r = r') : (Lit.int .i64 r) ≠ .int .i64 r' := fun e => by injection e with _ e; exact h e
theorem MapIs.step {D : DataW Unit} {l : List (Int × Int)} (hD : IsMap D) (h : MapIs D l) (d : Int × Int) : MapIs (D.put (.int .i64 d.1) (.lit (.int .i64 (max (maxC l d.1 0) d.2)))) (l ++ [d]) := by
  constructor
  · intro r
    rw [maxC_snoc]
    by_cases e : d.1 = r
    · subst e
      rw [atKey_put_same hD (show WideAt.IsKeyLit (.int .i64 d.1) from trivial), if_pos rfl]
    · rw [if_neg e, atKey_put_other (lit_ne (Ne.symm e)), h.1]
  · intro r
    rw [List.any_append]
    by_cases e : d.1 = r
    · subst e
      rw [has_put_same hD (show WideAt.IsKeyLit (.int .i64 d.1) from trivial)]; simp
    · rw [has_put_other (lit_ne (Ne.symm e)), h.2]; simp [e]

theorem maxC_range : ∀ {l : List (Int × Int)} (r n : Int), (∀ p ∈ l, validD p.1 p.2 = true) → 0 ≤ n → n ≤ 4294967295 → 0 ≤ maxC l r n ∧ maxC l r n ≤ 4294967295
  | [], r, n, _, h0, h1 => ⟨h0, h1⟩
  | d :: l, r, n, hv, h0, h1 => by
    rw [maxC]
    have hd := hv d (by simp)
    simp [validD] at hd
    exact maxC_range r _ (fun p hp => hv p (by simp [hp])) (by split <;> omega) (by split <;> omega)

/-- Slices in a row that read as lists. -/
def ListsAt (w : World) (b : Nat) (vs : List Value) (ls : List (List (Int × Int))) : Prop :=
  b < w.heap.size ∧ vs.length = ls.length ∧ ∀ j v, vs[j]? = some v → w.cell? ⟨b, j, none⟩ = some v ∧ ∃ l, ls[j]? = some l ∧ Holds w v l
theorem ListsAt.below {w w' : World} {b : Nat} {vs : List Value} {ls : List (List (Int × Int))} (h : ListsAt w b vs ls) (hb : Below w.heap.size w w') : ListsAt w' b vs ls :=
  ⟨Nat.lt_of_lt_of_le h.1 hb.size, h.2.1, fun j v hj => ⟨(hb.cell (p := ⟨b, j, none⟩) h.1).trans (h.2.2 j v hj).1, by
    obtain ⟨l, h1, h2⟩ := (h.2.2 j v hj).2
    exact ⟨l, h1, h2.below hb⟩⟩⟩
theorem ListsAt.get {w : World} {b : Nat} {vs : List Value} {ls : List (List (Int × Int))} (h : ListsAt w b vs ls) {j : Nat} (hj : j < vs.length) :
    ∃ A c l, w.cell? ⟨b, j, none⟩ = some (.slice A (l : List (Int × Int)).length c) ∧ ls[j]? = some l ∧ DotsAt w A l ∧ l.length ≤ maxLen := by
  obtain ⟨h1, l, h2, A, c, e, h3, h4, h5⟩ := h.2.2 j _ (List.getElem?_eq_getElem hj)
  exact ⟨A, c, l, by rw [h1, e], h2, h3, Nat.le_trans h4 h5⟩
theorem flat_snoc {ls : List (List (Int × Int))} {m : Nat} {l : List (Int × Int)} (h : ls[m]? = some l) : (ls.take (m + 1)).flatten = (ls.take m).flatten ++ l := by
  rw [take_snoc h]; simp
theorem flat_len (ls : List (List (Int × Int))) (m : Nat) : (ls.take m).flatten.length ≤ ls.flatten.length := by
  have := congrArg List.length (congrArg List.flatten (List.take_append_drop m ls))
  simp only [List.flatten_append, List.length_append] at this
  omega
theorem flat_len2 {ls : List (List (Int × Int))} {m : Nat} {l : List (Int × Int)} (h : ls[m]? = some l) : (ls.take m).flatten.length + l.length ≤ ls.flatten.length := by
  have := flat_len ls (m + 1)
  rw [flat_snoc h, List.length_append] at this
  exact this

set_option maxRecDepth 100000 in
set_option maxHeartbeats 2000000 in
theorem vecCounters (b cap : Nat) (vs : List Value) (ls : List (List (Int × Int))) (w : World) (hL : ListsAt w b vs ls) (hm : ls.flatten.length ≤ 100000) (hn : vs.length ≤ 90000) (hv : ∀ p ∈ ls.flatten, validD p.1 p.2 = true) :
    Calls Tryz.prog 98 #[.slice (some ⟨b, 0, none⟩) vs.length cap] w fun e w' => e = .returned (.map (some w.heap.size)) ∧ Below w.heap.size w w' ∧
      ∃ D, w'.ownsMap Tryz.prog 3 (plainElem Tryz.prog 3) w.heap.size ls.flatten.length D ∧ MapIs D ls.flatten := by
  have hmm := @run_makeMap Tryz.prog
  have HV := Lib.hid hv; clear hv
  have HLL := Lib.hid hL
  go_enter Tryz.func98, Tryz.ntmps98
  go_wp2_with fail
  go_loopw [5, 7, 11] (fun _ _ i wr => ∃ m : Nat, m ≤ vs.length ∧ i = .int .i64 m ∧ Below w.heap.size w wr ∧ ∃ D, Hid (wr.ownsMap Tryz.prog 3 (plainElem Tryz.prog 3) w.heap.size (ls.take m).flatten.length D) ∧ Hid (MapIs D (ls.take m).flatten)) (fun _ _ i _ => vs.length - (intOf i).toNat)
  case atStart => exact ⟨0, by omega, rfl, (Below.refl _ _).alloc (Nat.le_refl _) _, .map [], World.ownsMap_made _ _ _ _, MapIs.start⟩
  case round =>
    obtain ⟨m, hk2, rfl, hb, D, hown, hD⟩ := hrel
    by_cases hlt : m < vs.length
    · obtain ⟨A, c, l, hc0, hl, hdl, hml⟩ := HLL.out.get hlt
      have hc := (hb.cell (p := ⟨b, m, none⟩) HLL.out.1).trans hc0
      unfold maxLen at hml
      have HD := Lib.hid hdl
      have HL := Lib.hid hl
      have hfl := flat_len2 hl
      clear hl hdl hc0
      go_wp2_with fail
      go_loopw [7, 17] (fun _ i wr' => ∃ n : Nat, n ≤ l.length ∧ i = .int .i64 n ∧ Below w.heap.size w wr' ∧ ∃ D, Hid (wr'.ownsMap Tryz.prog 3 (plainElem Tryz.prog 3) w.heap.size ((ls.take m).flatten ++ l.take n).length D) ∧ Hid (MapIs D ((ls.take m).flatten ++ l.take n))) (fun _ i _ => l.length - (intOf i).toNat)
      case atStart => exact ⟨0, by omega, rfl, hb, D, by simpa [Hid] using hown.out, by simpa [Hid] using hD.out⟩
      case round =>
        obtain ⟨n, hn2, rfl, hb', D', hown', hD'⟩ := hrel
        by_cases hlt' : n < l.length
        · obtain ⟨g, off, r, q, rfl, hgl, hx1, hc0, hc1⟩ := (HD.out.below hb').dot hlt'
          have hvd : validD r q = true := HV.out (r, q) (List.mem_flatten.2 ⟨l, List.mem_of_getElem? HL.out, List.mem_of_getElem? hx1⟩)
          have hmx := maxC_range (l := (ls.take m).flatten ++ l.take n) r 0 (fun p hp => HV.out p (by
            rcases List.mem_append.1 hp with h | h
            · obtain ⟨l', h1, h2⟩ := List.mem_flatten.1 h
              exact List.mem_flatten.2 ⟨l', List.mem_of_mem_take h1, h2⟩
            · exact List.mem_flatten.2 ⟨l, List.mem_of_getElem? HL.out, List.mem_of_mem_take h⟩)) (by omega) (by omega)
          have hvb : 1 ≤ r ∧ r ≤ 65535 ∧ 1 ≤ q ∧ q ≤ 4294967295 := by simpa [validD] using hvd
          have hkey : keyOf Tryz.prog 3 (.int .i64 r) = some (.int .i64 r) := keyOf_int_mk Tryz.underlying3 (WalkArith.wf_i64 (by omega))
          have hst := hD'.out.step hown'.out.isMap (r, q)
          have HX1 := Lib.hid hx1
          have hlen : ((ls.take m).flatten ++ l.take n).length < 200000 := by rw [List.length_append, List.length_take]; omega
          have hle : ((ls.take m).flatten ++ l.take (n + 1)).length = ((ls.take m).flatten ++ l.take n).length + 1 := by rw [take_snoc hx1, ← List.append_assoc, List.length_append, List.length_singleton]
          have hap : (ls.take m).flatten ++ l.take n ++ [(r, q)] = (ls.take m).flatten ++ l.take (n + 1) := by rw [take_snoc hx1, List.append_assoc]
          rw [hap] at hst
          have HST := Lib.hid hst
          have HLE := Lib.hid hle
          have hval := fun c0 h => hD'.out.val (r := r) (c := c0) h
          generalize maxC ((ls.take m).flatten ++ l.take n) r 0 = mx at hmx hst HST hval
          have HVAL := Lib.hid hval
          clear hvd hx1 hst hle hap hval
          generalize ((ls.take m).flatten ++ l.take n).length = kk at *
          go_wp2_with (first
            | (at_lookup; refine wpList_lookup_own_int _ rfl _ _ mapT rfl 3 3 .i64 law3 Tryz.underlying103 Tryz.underlying3 (zero3 _) w.heap.size _ _ rfl (hown'.out.alloc _) _ _ rfl hkey ?_; intro c0 hat hwc; obtain rfl := HVAL.out _ hat; clear hat hwc)
            | (at_mapUpdate; refine wpList_mapUpdate_own _ rfl _ _ _ mapT rfl 3 3 law3 Tryz.underlying103 _ w.heap.size _ _ rfl (hown'.out.alloc _) (by unfold maxLen; omega) _ _ _ rfl rfl hkey _ [] (plainElem_int Tryz.underlying3 (WalkArith.wf_i64 (by omega))) ?_; intro w1 hown1 hgrow1)
            | go_in)
          go_roundw
          case rel => exact ⟨n + 1, by omega, by go_num, (hb'.alloc hb'.size _).grown hgrow1 (by have := hb'.size; simp; omega) (fun j hj => by cases hj; exact Nat.le_refl _), _, (show Hid _ from by rw [HLE.out]; exact hown1), HST⟩
          case measure => simp [intOf]; omega
        · have hmx : l.take n = l := List.take_of_length_le (by omega)
          have hown2 := hown'.out
          have hD2 := hD'.out
          rw [hmx, ← flat_snoc HL.out] at hown2 hD2
          have HO := Lib.hid hown2
          have HD2 := Lib.hid hD2
          clear hown2 hD2 hmx
          go_wp2_with fail
          go_roundw
          case rel => exact ⟨m + 1, by omega, by go_num, hb', D', HO, HD2⟩
          case measure => simp [intOf]; omega
    · have hmx : ls.take m = ls := List.take_of_length_le (by have := HLL.out.2.1; omega)
      have hown2 := hown.out
      have hD2 := hD.out
      rw [hmx] at hown2 hD2
      have HO := Lib.hid hown2
      have HD2 := Lib.hid hD2
      clear hown2 hD2 hmx
      go_wp2
      go_ret
      exact ⟨rfl, hb, D, HO.out, HD2.out⟩


end

section
open Go.RowKit Go.Maps Go.Sort

theorem cmpI_neg {a b : Int} : cmpI a b < 0 ↔ a < b := by
  unfold cmpI
  by_cases h : a < b
  · simp [h]
  · by_cases h2 : b < a <;> simp [h, h2]

set_option maxHeartbeats 400000 in
theorem vecLess (r c r' c' : Int) (w : World) :
    Calls Tryz.prog 113 #[.agg #[.int .i64 r, .int .i64 c], .agg #[.int .i64 r', .int .i64 c']] w fun e w' => e = .returned (.int .i64 (cmpI r r')) ∧ ∃ q os', w' = Sort.grow (w.drewN q) os' := by
  go_enter Tryz.func113, Tryz.ntmps113
  go_wp2_with (go_at_call 92; refine (cmpCompare _ _ _).mono ?_; rintro e w' ⟨rfl, rfl⟩)
  go_ret
  exact ⟨rfl, 0, _, by rw [Sort.alloc_eq_grow, Sort.alloc_eq_grow, Sort.grow_grow]; rfl⟩

theorem ltOf_vec : (ltOf fun p q : Int × Int => cmpI p.1 q.1) = fun p q => decide (p.1 < q.1) := by
  funext p q
  simp only [ltOf]
  rw [Bool.eq_iff_iff]
  simp [cmpI_neg]
theorem swoV : SWO (fun p q : Int × Int => decide (p.1 < q.1)) where
  irrefl x := by simp
  trans x y z h1 h2 := by simp at *; omega
  ntrans x y z h1 h2 := by simp at *; omega

theorem vecLays (blk off size : Nat) (w : World) : CmpLays Tryz.prog 113 #[] encD 2 (fun p q : Int × Int => cmpI p.1 q.1) blk off size w :=
  fun _ _ _ _ x y => vecLess x.1 x.2 y.1 y.2 _

set_option maxRecDepth 100000 in
set_option maxHeartbeats 2000000 in
theorem sortVecEq (blk cap : Nat) (d : Array (Int × Int)) (w : World) (hH : HoldsK encD 2 w blk 0 d) (hblk : blk < w.heap.size) (hsz : d.size < 4611686018427387904) :
    Calls Tryz.prog 112 #[.slice (some ⟨blk, 0, none⟩) d.size cap, .func (.func 113) #[] #[]] w fun e w' =>
      e = .returned (.tuple #[]) ∧ ∃ n os, w' = sortWorldK encD 2 w blk 0 n (pdq (ltOf fun p q : Int × Int => cmpI p.1 q.1) d 0 d.size (Lib.bitLen d.size) true true) os := by
  have eg : ∀ args w, (callFunc 113 args).run Tryz.prog w = .ok (.enter 113 args) w := enters_of Tryz.func113 (by kernel_rfl) rfl
  have hO : SWO (ltOf fun p q : Int × Int => cmpI p.1 q.1) := by rw [ltOf_vec]; exact swoV
  have hlim : Lib.bitLen d.size < 4611686018427387904 := Nat.lt_of_le_of_lt (Lib.bitLen_le d.size 62 (by omega) (by omega)) (by omega)
  have hp := AnyQ.pdqsortCmpFunc_all (P := Tryz.prog) (ρ := Tryz.sortDots_ren) { Tryz.sortDots with } 2 Tryz.isAgg52 Tryz.sizeOf52 encD (fun p q : Int × Int => cmpI p.1 q.1) 113 #[] hO blk 0 cap d w eg (vecLays blk 0 d.size w) ⟨encD_len, encD_one, hH, hblk⟩ (d.size + 1) 0 d.size (Lib.bitLen d.size) d w (by omega) rfl (SWK.start hH) (Nat.zero_le _) (Nat.le_refl _) hsz hlim (Or.inl rfl)
  have hl : Calls Tryz.prog 123 #[.int .u64 (d.size : Int)] w fun e w' => e = .returned (.int .i64 (Lib.bitLen d.size : Nat)) ∧ w' = w := by
    have h := Any.bits_Len (SlLaysF0.n15.bits (P := Tryz.prog) (ρ := Tryz.sortDots_ren) { Tryz.sortDots with }) (d.size : Int) w (by omega) (by omega)
    rw [Int.toNat_natCast] at h
    exact h
  have wr : IntKind.u64.wrap (d.size : Int) = d.size := by simp [IntKind.wrap, IntKind.bits, IntKind.signed]; omega
  have hp' : Calls Tryz.prog 122 #[.slice (some ⟨blk, 0, none⟩) d.size cap, .int .i64 0, .int .i64 d.size, .int .i64 (Lib.bitLen d.size), .func (.func 113) #[] #[]] w _ := hp
  clear hp hH
  go_enter Tryz.func112, Tryz.ntmps112
  go_wp2_with (first | (go_at_call 123; refine hl.mono ?_; rintro e w' ⟨rfl, rfl⟩) | (go_at_call 122; refine hp'.mono ?_; rintro e w' ⟨rfl, n, os, rfl⟩))
  go_end0
  exact ⟨rfl, n, os, rfl⟩

theorem sortVec (g cap base : Nat) (xs : List (Int × Int)) (w : World) (h : w.ownsRow base 52 2 (.slice (some ⟨g, 0, none⟩) xs.length cap) xs.length (cellsOf encD xs)) (hm : xs.length ≤ 1000000) :
    Calls Tryz.prog 112 #[.slice (some ⟨g, 0, none⟩) xs.length cap, .func (.func 113) #[] #[]] w fun e w' => e = .returned (.tuple #[]) ∧
      ∃ ys : List (Int × Int), ys.Perm xs ∧ ys.Pairwise (fun p q => ¬ q.1 < p.1) ∧ w'.ownsRow base 52 2 (.slice (some ⟨g, 0, none⟩) xs.length cap) ys.length (cellsOf encD ys) ∧ w.grownBy w' (some g) := by
  have hg : g < w.heap.size := by
    rcases h.2 with ⟨h0, _⟩ | ⟨g', cap', cur, hv, hb, hg, _⟩
    · cases h0
    · cases hv; exact (Array.getElem?_eq_some_iff.1 hg).1
  have hc := sortVecEq g cap xs.toArray w (holdsK_of_own encD_len (by omega) h) hg (by simp; omega)
  have hO : SWO (ltOf fun p q : Int × Int => cmpI p.1 q.1) := by rw [ltOf_vec]; exact swoV
  obtain ⟨hp, hs⟩ := pdq_sorts (ltOf fun p q : Int × Int => cmpI p.1 q.1) hO xs.toArray 0 xs.toArray.size (Lib.bitLen xs.toArray.size) true true (Nat.zero_le _) (Nat.le_refl _) (Or.inl rfl)
  generalize pdq (ltOf fun p q : Int × Int => cmpI p.1 q.1) xs.toArray 0 xs.toArray.size (Lib.bitLen xs.toArray.size) true true = d at hp hs hc
  obtain ⟨hsz, _, hperm⟩ := hp
  have e1 : d.extract 0 xs.toArray.size = d := by rw [← hsz]; exact Array.extract_size
  rw [e1, Array.extract_size] at hperm
  refine Calls.mono (show Calls Tryz.prog 112 #[.slice (some ⟨g, 0, none⟩) xs.length cap, .func (.func 113) #[] #[]] w _ from hc) ?_
  rintro e w' ⟨he, n, os, rfl⟩
  obtain ⟨h1, h2⟩ := own_of_sort (m := n) (os := os) (d := d) encD_len (by omega) h (by simpa using hsz)
  refine ⟨he, d.toList, by simpa using hperm, ?_, h1, h2⟩
  rw [List.pairwise_iff_getElem]
  intro i j hi hj hij
  have := hs i j (Nat.zero_le _) hij (by rw [← hsz]; simpa using hj)
  rw [ltOf_vec] at this
  simp only [Array.length_toList] at hi hj
  rw [getElem!_pos d i hi, getElem!_pos d j hj] at this
  simpa using this

/-- What was met so far of a map: no key twice, each with its element. -/
def Coll (l : List (Int × Int)) (left : Lit → Bool) (ys : List (Int × Int)) : Prop :=
  ys.Pairwise (fun p q => p.1 ≠ q.1) ∧ (∀ p ∈ ys, p.2 = maxC l p.1 0 ∧ (∃ q ∈ l, q.1 = p.1) ∧ left (.int .i64 p.1) = false) ∧ ∀ q ∈ l, left (.int .i64 q.1) = false → ∃ p ∈ ys, p.1 = q.1
theorem Coll.start {D : DataW Unit} {l : List (Int × Int)} (h : MapIs D l) : Coll l (Maps.has D) [] :=
by
  refine ⟨List.Pairwise.nil, fun p hp => (by cases hp), fun q hq hl => ?_⟩
  rw [h.2] at hl
  have : (l.any fun p => p.1 == q.1) = true := List.any_eq_true.2 ⟨q, hq, by simp⟩
  rw [this] at hl; cases hl
theorem sameKey_self (x : Int) : (Lit.int .i64 x).sameKey (.int .i64 x) = true := by simp [Lit.sameKey]
theorem Coll.step {D : DataW Unit} {l : List (Int × Int)} {left : Lit → Bool} {ys : List (Int × Int)} (hD : MapIs D l) (h : Coll l left ys) {x c : Int} (hl : left (.int .i64 x) = true) (hh : ∃ q ∈ l, q.1 = x) (hat : ∀ zd, D.atKey (.int .i64 x) zd = .lit (.int .i64 c)) :
    Coll l (fun z => left z && !z.sameKey (.int .i64 x)) (ys ++ [(x, c)]) := by
  obtain ⟨h1, h2, h3⟩ := h
  have hc := hD.val (hat _)
  refine ⟨List.pairwise_append.2 ⟨h1, by simp, fun p hp q hq => ?_⟩, fun p hp => ?_, fun q hq hl' => ?_⟩
  · simp at hq; subst hq
    intro e
    have := (h2 p hp).2.2
    rw [e] at this
    simp only at this
    rw [hl] at this; cases this
  · rcases List.mem_append.1 hp with hp | hp
    · obtain ⟨a, b, c'⟩ := h2 p hp
      exact ⟨a, b, by simp [c']⟩
    · simp at hp; subst hp
      exact ⟨hc, hh, by simp [sameKey_self]⟩
  · by_cases e : q.1 = x
    · exact ⟨(x, c), by simp, e.symm⟩
    · have hne : (Lit.int .i64 q.1).sameKey (.int .i64 x) = false := sameKey_ne (lit_ne e)
      simp only [hne, Bool.not_false, Bool.and_true] at hl'
      obtain ⟨p, hp, e2⟩ := h3 q hq hl'
      exact ⟨p, by simp [hp], e2⟩
theorem coll_sorted {l ys zs : List (Int × Int)} {left : Lit → Bool} (hv : ∀ p ∈ l, validD p.1 p.2 = true) (h : Coll l left ys) (hl : ∀ k, left k = false) (hp : zs.Perm ys) (hs : zs.Pairwise fun p q => ¬ q.1 < p.1) : zs = ofV l := by
  obtain ⟨h1, h2, h3⟩ := h
  have hn : zs.Pairwise fun p q => p.1 ≠ q.1 := hp.symm.pairwise h1 (fun h => Ne.symm h)
  refine ofV_unique hv ?_ (fun p hp' => ?_) (fun q hq => ?_)
  · refine (hs.and hn).imp ?_
    rintro a b ⟨h, h'⟩
    omega
  · obtain ⟨a, b, _⟩ := h2 p (hp.mem_iff.1 hp')
    exact ⟨a, b⟩
  · obtain ⟨p, hp', e⟩ := h3 q hq (hl _)
    exact ⟨p, hp.mem_iff.2 hp', e⟩

end

end Go.Proofs.YtpnemekkpifbaaaGreat
