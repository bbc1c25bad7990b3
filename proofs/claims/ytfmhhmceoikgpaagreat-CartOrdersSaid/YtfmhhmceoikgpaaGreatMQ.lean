/- Several texts in one: CtxC, CtxD, CtxE, CtxF. -/
import Derived.Test.YtfmhhmceoikgpaaGreatMP
namespace Go.Proofs.YtfmhhmceoikgpaaGreat

section
open Go.RowKit

theorem ref2Has_h3 (v : Value) (xs : List (Int × Int)) (r q : Int) (b : Bool) (w : World) (h : Holds w v xs) (hb : hasV xs r q = b) :
    Calls Tryz.prog 84 #[v, .agg #[.int .i64 r, .int .i64 q]] w fun e w' => e = .returned (.bool b) ∧ Below w.heap.size w w' := by
  obtain ⟨A, c, rfl, h1, h2, h3⟩ := h
  subst hb
  exact ref2Has A xs c r q w h1 (Nat.le_trans h2 h3)
theorem refHas_h3 (v : Value) (xs : List (Int × Int)) (r c : Int) (b : Bool) (w : World) (h : Holds w v xs) (hb : decide ((r, c) ∈ xs) = b) :
    Calls Tryz.prog 128 #[v, .agg #[.int .i64 r, .int .i64 c]] w fun e w' => e = .returned (.bool b) ∧ Below w.heap.size w w' := by
  obtain ⟨A, n, rfl, h1, h2, h3⟩ := h
  subst hb
  exact refHas A xs n r c w h1 (Nat.le_trans h2 h3)

set_option maxRecDepth 100000 in
set_option maxHeartbeats 2000000 in
theorem ref3Has (v : Value) (vs ls : List (Int × Int)) (r c : Int) (b : Bool) (w : World) (h : HoldsC w v vs ls) (hb : hasC vs ls r c = b) :
    Calls Tryz.prog 87 #[v, .agg #[.int .i64 r, .int .i64 c]] w fun e w' => e = .returned (.bool b) ∧ Below w.heap.size w w' := by
  obtain ⟨A, n, B, m, rfl, h1, h2⟩ := h
  have K := ((((KX.nil w).push h1).push h2).box (.slice A vs.length n) (.slice B ls.length m) 25).box (.int .i64 r) (.int .i64 c) 63
  rw [World.size_alloc] at K
  have K := Lib.hid K
  clear h1 h2
  have VD := fun W => refValid r c W
  unfold hasC at hb
  cases hd : validD r c with
  | false =>
    rw [hd] at hb VD
    have HB := Lib.hid (show false = b from hb)
    have HD := Lib.hid VD
    clear hb hd VD
    go_enter Tryz.func87, Tryz.ntmps87
    go_wp2_with fail
    refine (HD.out _).mono ?_
    rintro e w1 ⟨rfl, hb1⟩
    have K1 := Lib.hid (K.out.below hb1)
    clear hb1
    go_wp2
    go_ret
    exact ⟨ret_bool HB.out, K1.out.bel⟩
  | true =>
    rw [hd] at hb VD
    have HD := Lib.hid VD
    rw [Bool.true_and] at hb
    cases hv : hasV vs r c with
    | true =>
      rw [hv] at hb
      have HB := Lib.hid (show true = b from hb)
      have HV := Lib.hid fun v W (h : Holds W v vs) => ref2Has_h3 v vs r c true W h hv
      clear hb hd VD hv
      go_enter Tryz.func87, Tryz.ntmps87
      go_wp2_with fail
      refine (HD.out _).mono ?_
      rintro e w1 ⟨rfl, hb1⟩
      have K1 := Lib.hid (K.out.below hb1)
      have k0 := K1.out.cell (a := ⟨w.heap.size, 0, none⟩) (v := .slice A vs.length n) (by simp)
      have k2 := K1.out.cell (a := ⟨w.heap.size + 1, 0, none⟩) (v := .int .i64 r) (by simp)
      have k3 := K1.out.cell (a := ⟨w.heap.size + 1, 1, none⟩) (v := .int .i64 c) (by simp)
      clear hb1
      go_wp2_with fail
      refine (HV.out _ _ (K1.out.h (by simp))).mono ?_
      rintro e w2 ⟨rfl, hb1⟩
      have K2 := Lib.hid (K1.out.below hb1)
      clear hb1 k0 k2 k3
      go_wp2
      go_ret
      exact ⟨ret_bool HB.out, K2.out.bel⟩
    | false =>
      rw [hv, Bool.false_or] at hb
      have HV := Lib.hid fun v W (h : Holds W v vs) => ref2Has_h3 v vs r c false W h hv
      have HL := Lib.hid fun v W (h : Holds W v ls) => refHas_h3 v ls r c b W h hb
      clear hb hd VD hv
      go_enter Tryz.func87, Tryz.ntmps87
      go_wp2_with fail
      refine (HD.out _).mono ?_
      rintro e w1 ⟨rfl, hb1⟩
      have K1 := Lib.hid (K.out.below hb1)
      have k0 := K1.out.cell (a := ⟨w.heap.size, 0, none⟩) (v := .slice A vs.length n) (by simp)
      have k2 := K1.out.cell (a := ⟨w.heap.size + 1, 0, none⟩) (v := .int .i64 r) (by simp)
      have k3 := K1.out.cell (a := ⟨w.heap.size + 1, 1, none⟩) (v := .int .i64 c) (by simp)
      clear hb1
      go_wp2_with fail
      refine (HV.out _ _ (K1.out.h (by simp))).mono ?_
      rintro e w2 ⟨rfl, hb1⟩
      have K2 := Lib.hid (K1.out.below hb1)
      clear hb1 k0 k2 k3
      have k1 := K2.out.cell (a := ⟨w.heap.size, 1, none⟩) (v := .slice B ls.length m) (by simp)
      have k2 := K2.out.cell (a := ⟨w.heap.size + 1, 0, none⟩) (v := .int .i64 r) (by simp)
      have k3 := K2.out.cell (a := ⟨w.heap.size + 1, 1, none⟩) (v := .int .i64 c) (by simp)
      go_wp2_with fail
      refine (HL.out _ _ (K2.out.h (by simp))).mono ?_
      rintro e w3 ⟨rfl, hb1⟩
      have K3 := Lib.hid (K2.out.below hb1)
      clear hb1 k1 k2 k3
      go_wp2
      go_ret
      exact ⟨rfl, K3.out.bel⟩

end

section
open Go.RowKit

/-- A block that holds a context. -/
def Blk2 (W : World) (g : Nat) (x y : Value) : Prop := W.heap[g]? = some (.cells #[x, y] 25 (0, 0))
theorem Blk2.lt {W : World} {g : Nat} {x y : Value} (h : Blk2 W g x y) : g < W.heap.size := (Array.getElem?_eq_some_iff.1 h).1
theorem Blk2.cell0 {W : World} {g : Nat} {x y : Value} (h : Blk2 W g x y) : W.cell? ⟨g, 0, none⟩ = some x := by simp [World.cell?, show W.heap[g]? = _ from h]
theorem Blk2.cell1 {W : World} {g : Nat} {x y : Value} (h : Blk2 W g x y) : W.cell? ⟨g, 1, none⟩ = some y := by simp [World.cell?, show W.heap[g]? = _ from h]
theorem Blk2.frozen {W : World} {g : Nat} {x y : Value} (h : Blk2 W g x y) (k : Nat) : W.frozen? ⟨g, k, none⟩ = false := by simp [World.frozen?, show W.heap[g]? = _ from h]
theorem Blk2.below {W W' : World} {g : Nat} {x y : Value} (h : Blk2 W g x y) (hb : Below W.heap.size W W') : Blk2 W' g x y := (hb.block g h.lt).trans h
theorem Blk2.kept {W W' : World} {row : Option Nat} {g : Nat} {x y : Value} (h : Blk2 W g x y) (hg : W.grownBy W' row) (hne : some g ≠ row) : Blk2 W' g x y := (hg.block g h.lt hne).trans h
theorem Blk2.set {W : World} {g : Nat} {x y : Value} (h : Blk2 W g x y) (x' y' : Value) : Blk2 ((W.setCell ⟨g, 0, none⟩ x').setCell ⟨g, 1, none⟩ y') g x' y' := by
  obtain ⟨hlt, hk⟩ := Array.getElem?_eq_some_iff.1 h
  have e1 : (W.setCell ⟨g, 0, none⟩ x').heap[g]? = some (.cells #[x', y] 25 (0, 0)) := by
    show (W.heap.modify g _)[g]? = _
    rw [Array.getElem?_eq_getElem (by rw [Array.size_modify]; exact hlt), Array.getElem_modify_self, hk]
    rfl
  obtain ⟨hlt2, hk2⟩ := Array.getElem?_eq_some_iff.1 e1
  show ((W.setCell ⟨g, 0, none⟩ x').heap.modify g _)[g]? = _
  rw [Array.getElem?_eq_getElem (by rw [Array.size_modify]; exact hlt2), Array.getElem_modify_self, hk2]
  rfl
theorem Blk2.other {W : World} {g g' : Nat} {x y : Value} (h : Blk2 W g x y) (hne : g ≠ g') (o : Nat) (z : Value) : Blk2 (W.setCell ⟨g', o, none⟩ z) g x y := (Below.heap_setCell W ⟨g', o, none⟩ z g hne).trans h
/-- A list of dots lies in no such block. -/
theorem Holds.off {W W' : World} {g : Nat} {x y v : Value} {xs : List (Int × Int)} (h : Holds W v xs) (hB : Blk2 W g x y) (hx : ∀ z, x ≠ .int .i64 z) (hy : ∀ z, y ≠ .int .i64 z)
    (hsz : W.heap.size ≤ W'.heap.size) (hk : ∀ k, k ≠ g → k < W.heap.size → W'.heap[k]? = W.heap[k]?) : Holds W' v xs := by
  obtain ⟨A, c, rfl, hat, h2, h3⟩ := h
  refine ⟨A, c, rfl, fun hn => ?_, h2, h3⟩
  obtain ⟨b, off, rfl, hb, hcell⟩ := hat hn
  have hne : b ≠ g := by
    intro e
    subst e
    obtain ⟨p, hp⟩ : ∃ p, xs[0]? = some p := ⟨_, List.getElem?_eq_getElem (by cases xs <;> simp_all)⟩
    have hc := hcell 0 p hp 0 (.int .i64 p.1) rfl
    simp only [World.cell?, show W.heap[b]? = _ from hB] at hc
    generalize off + 0 * 2 + 0 = k at hc
    match k with
    | 0 => simp at hc; exact hx _ hc
    | 1 => simp at hc; exact hy _ hc
    | k + 2 => simp at hc
  exact ⟨b, off, rfl, by omega, fun j p hj i u hu => (World.cell?_of_block (hk b hne hb)).trans (hcell j p hj i u hu)⟩

/-- No row of one's own lies where a list lies. -/
def Apart (xs : List (Int × Int)) (v r : Value) : Prop := 0 < xs.length → ∀ b off n c, v = .slice (some ⟨b, off, none⟩) n c → r.ownBlock ≠ some b
theorem Holds.apart {W W' : World} {v r : Value} {xs : List (Int × Int)} (h : Holds W v xs) (hg : W.grownBy W' r.ownBlock) (hd : Apart xs v r) : Holds W' v xs := by
  obtain ⟨A, c, rfl, hat, h2, h3⟩ := h
  refine ⟨A, c, rfl, fun hn => ?_, h2, h3⟩
  obtain ⟨b, off, rfl, hb, hcell⟩ := hat hn
  have hne := hd hn b off _ _ rfl
  exact ⟨b, off, rfl, Nat.lt_of_lt_of_le hb hg.size, fun j p hj i u hu => (World.cell?_of_block (hg.block b hb (fun e => hne e.symm))).trans (hcell j p hj i u hu)⟩
theorem Apart.nil (xs : List (Int × Int)) (v : Value) : Apart xs v (.slice none 0 0) := fun _ _ _ _ _ _ => by simp [Value.ownBlock]

/-- How long the cloud in a block is. -/
def lenB (g : Nat) (W : World) : Nat := match W.cell? ⟨g, 1, none⟩ with
  | some (.slice _ n _) => n
  | _ => 0
theorem Blk2.len {W : World} {g n c : Nat} {x : Value} {A : Option Addr} (h : Blk2 W g x (.slice A n c)) : lenB g W = n := by unfold lenB; rw [h.cell1]

end

section
open Go.RowKit

theorem ref2Get_h3 (v : Value) (xs : List (Int × Int)) (r n : Int) (w : World) (h : Holds w v xs) (hn : getV xs r = n) :
    Calls Tryz.prog 85 #[v, .int .i64 r] w fun e w' => e = .returned (.int .i64 n) ∧ Below w.heap.size w w' := by
  obtain ⟨A, c, rfl, h1, h2, h3⟩ := h
  subst hn
  exact ref2Get A xs c r w h1 (Nat.le_trans h2 h3)
theorem ref2RaiseO_h (v : Value) (xs : List (Int × Int)) (r0 c0 : Int) (w : World) (h : Holds w v xs) (hm : xs.length ≤ 1000000) (hin : hasV xs r0 c0 = false) :
    Calls Tryz.prog 131 #[v, .agg #[.int .i64 r0, .int .i64 c0]] w fun e w' => (∃ v', e = .returned v' ∧ w'.ownsRow (w.heap.size + 1) 63 2 v' (raiseV xs (r0, c0)).length (cellsOf encD (raiseV xs (r0, c0)))) ∧ Below w.heap.size w w' := by
  obtain ⟨A, c, rfl, h1, h2, h3⟩ := h
  exact ref2RaiseO A xs c r0 c0 w h1 hm h2 h3 hin
theorem ref3IsCompact_h (v v' : Value) (vs ls : List (Int × Int)) (b : Bool) (w : World) (h : Holds w v vs) (h' : Holds w v' ls) (hb : compC vs ls = b) :
    Calls Tryz.prog 40 #[.agg #[v, v']] w fun e w' => e = .returned (.bool b) ∧ Below w.heap.size w w' := ref3IsCompact _ vs ls b w (HoldsC.mk h h') hb

/-- What holds inside a pass. -/
def InP (w1 : World) (vs ls : List (Int × Int)) (k : Nat) (rest vv : Value) (rs us : List (Int × Int)) (W : World) : Prop :=
  passC vs [] ls = passC us rs (ls.drop k) ∧ W.ownsRow w1.heap.size 63 2 rest rs.length (cellsOf encD rs) ∧ Holds W vv us ∧ Apart us vv rest ∧ Below w1.heap.size w1 W ∧ us.length + rs.length ≤ vs.length + k ∧ validV us = true
section
variable {w1 : World} {vs ls : List (Int × Int)} {k : Nat} {rest vv : Value} {rs us : List (Int × Int)} {W W' : World}
theorem InP.below (h : InP w1 vs ls k rest vv rs us W) (hb : Below W.heap.size W W') : InP w1 vs ls k rest vv rs us W' :=
  ⟨h.1, h.2.1.kept (grown_of_below2 hb none) (by cases rest.ownBlock <;> simp), h.2.2.1.below hb, h.2.2.2.1, below_trans h.2.2.2.2.1 hb, h.2.2.2.2.2⟩
theorem InP.bel (h : InP w1 vs ls k rest vv rs us W) : Below w1.heap.size w1 W := h.2.2.2.2.1
theorem InP.vec (h : InP w1 vs ls k rest vv rs us W) : Holds W vv us := h.2.2.1
theorem InP.own (h : InP w1 vs ls k rest vv rs us W) : W.ownsRow w1.heap.size 63 2 rest rs.length (cellsOf encD rs) := h.2.1
theorem InP.len (h : InP w1 vs ls k rest vv rs us W) : us.length + rs.length ≤ vs.length + k := h.2.2.2.2.2.1
theorem InP.valid (h : InP w1 vs ls k rest vv rs us W) : validV us = true := h.2.2.2.2.2.2
theorem InP.goes {d : Int × Int} (h : InP w1 vs ls k rest vv rs us W) (hd : ls[k]? = some d) : passC vs [] ls = (if hasV us d.1 d.2 then passC us rs (ls.drop (k + 1)) else if d.2 = getV us d.1 + 1 then passC (raiseV us d) rs (ls.drop (k + 1)) else passC us (rs ++ [d]) (ls.drop (k + 1))) := by
  obtain ⟨hl, e⟩ := List.getElem?_eq_some_iff.1 hd
  rw [h.1, ← e, List.drop_eq_getElem_cons hl, passC]
/-- The dot is in the vector. -/
theorem InP.skip {d : Int × Int} (h : InP w1 vs ls k rest vv rs us W) (hd : ls[k]? = some d) (hh : hasV us d.1 d.2 = true) : InP w1 vs ls (k + 1) rest vv rs us W :=
  ⟨by rw [h.goes hd, if_pos hh], h.2.1, h.2.2.1, h.2.2.2.1, h.2.2.2.2.1, by have := h.len; omega, h.valid⟩
/-- The dot goes into the vector. -/
theorem InP.rise {d : Int × Int} {v' : Value} (h : InP w1 vs ls k rest vv rs us W) (hd : ls[k]? = some d) (hv : validD d.1 d.2 = true) (hh : hasV us d.1 d.2 = false) (hn : d.2 = getV us d.1 + 1) (hb : Below W.heap.size W W')
    (ho : W'.ownsRow (W.heap.size + 1) 63 2 v' (raiseV us d).length (cellsOf encD (raiseV us d))) : InP w1 vs ls (k + 1) rest v' rs (raiseV us d) W' := by
  have h2 := h.below hb
  refine ⟨by rw [h.goes hd, hh, if_neg (by simp), if_pos hn], h2.own, ?_, ?_, h2.bel, ?_, valid_raiseV h.valid hv⟩
  · obtain ⟨A, c, e0, h1, h2, h3⟩ := SlAt.of_own encD_len ho
    exact ⟨A, c, e0, h3, h1, h2⟩
  · intro _ b off n c e
    subst e
    intro e2
    have h3 := (h.own.lt b e2).2
    have h4 := (ho.lt b rfl).1
    omega
  · have := raiseV_len us d
    have := h.len
    omega
/-- The dot stays in the cloud. -/
theorem InP.stay {d : Int × Int} {r2 : Value} {w2 : World} {o : Obj} (h : InP w1 vs ls k rest vv rs us W) (hd : ls[k]? = some d) (hh : hasV us d.1 d.2 = false) (hn : d.2 ≠ getV us d.1 + 1)
    (ho : w2.ownsRow w1.heap.size 63 2 r2 (rs ++ [d]).length (cellsOf encD (rs ++ [d]))) (hg : (W.alloc o).grownBy w2 rest.ownBlock) (hat : r2.ownBlock = rest.ownBlock ∨ r2.ownBlock = some (W.alloc o).heap.size) : InP w1 vs ls (k + 1) r2 vv (rs ++ [d]) us w2 := by
  have hal : Below W.heap.size W (W.alloc o) := (Below.refl _ W).alloc (Nat.le_refl _) _
  refine ⟨by rw [h.goes hd, hh, if_neg (by simp), if_neg hn], ho, (h.vec.below hal).apart hg h.2.2.2.1, ?_, (h.bel.alloc h.bel.size o).grown hg (by have := h.bel.size; simp; omega) (fun j hj => (h.own.lt j hj).1), ?_, h.valid⟩
  · intro hn0 b off n c e e2
    rcases hat with h1 | h1
    · exact h.2.2.2.1 hn0 b off n c e (by rw [← h1]; exact e2)
    · rw [h1] at e2
      have e3 : (W.alloc o).heap.size = b := by simpa using e2
      obtain ⟨A, c', ev, hat2, _⟩ := h.vec
      obtain ⟨b', off', rfl, hb', _⟩ := hat2 hn0
      rw [e] at ev
      cases ev
      simp at e3
      omega
  · rw [List.length_append]
    have := h.len
    simp only [List.length_cons, List.length_nil]; omega
end

end

section
open Go.RowKit

/-- What holds between passes. -/
def OutP (w : World) (vs0 ls0 vs ls : List (Int × Int)) (x y : Value) (W : World) : Prop :=
  Blk2 W w.heap.size x y ∧ Blk2 W (w.heap.size + 1) (.slice none 0 0) (.slice none 0 0) ∧ Holds W x vs ∧ Holds W y ls ∧ Below w.heap.size w W ∧ validC vs ls = true ∧ (∀ r c, hasC vs ls r c = hasC vs0 ls0 r c) ∧ vs.length + ls.length ≤ 1000
theorem OutP.below {w W W' : World} {vs0 ls0 vs ls : List (Int × Int)} {x y : Value} (h : OutP w vs0 ls0 vs ls x y W) (hb : Below W.heap.size W W') : OutP w vs0 ls0 vs ls x y W' :=
  ⟨h.1.below hb, h.2.1.below hb, h.2.2.1.below hb, h.2.2.2.1.below hb, below_trans h.2.2.2.2.1 hb, h.2.2.2.2.2⟩

theorem set2_size (W : World) (g : Nat) (x y : Value) : ((W.setCell ⟨g, 0, none⟩ x).setCell ⟨g, 1, none⟩ y).heap.size = W.heap.size := by
  simp
theorem set2_off (W : World) (g : Nat) (x y : Value) (k : Nat) (hk : k ≠ g) : ((W.setCell ⟨g, 0, none⟩ x).setCell ⟨g, 1, none⟩ y).heap[k]? = W.heap[k]? :=
  (Below.heap_setCell _ ⟨g, 1, none⟩ y k hk).trans (Below.heap_setCell W ⟨g, 0, none⟩ x k hk)
theorem Holds.set2 {W : World} {g : Nat} {x y x' y' v : Value} {xs : List (Int × Int)} (h : Holds W v xs) (hB : Blk2 W g x y) (hx : ∀ z, x ≠ .int .i64 z) (hy : ∀ z, y ≠ .int .i64 z) : Holds ((W.setCell ⟨g, 0, none⟩ x').setCell ⟨g, 1, none⟩ y') v xs :=
  h.off hB hx hy (by rw [set2_size]; exact Nat.le_refl _) fun k hk _ => set2_off W g x' y' k hk
theorem below_set2 {w W : World} {g : Nat} (h : Below w.heap.size w W) (hg : w.heap.size ≤ g) (x y : Value) : Below w.heap.size w ((W.setCell ⟨g, 0, none⟩ x).setCell ⟨g, 1, none⟩ y) :=
  (h.setCell (p := ⟨g, 0, none⟩) hg _).setCell (p := ⟨g, 1, none⟩) hg _
/-- After a pass: what was read and what is left are stored. -/
theorem OutP.next {w w1 W : World} {vs0 ls0 vs ls us rs : List (Int × Int)} {x y vv rest : Value} (h : OutP w vs0 ls0 vs ls x y w1) (hx : ∀ z, x ≠ .int .i64 z) (hy : ∀ z, y ≠ .int .i64 z) (hI : InP w1 vs ls ls.length rest vv rs us W) :
    OutP w vs0 ls0 us rs vv rest ((W.setCell ⟨w.heap.size, 0, none⟩ vv).setCell ⟨w.heap.size, 1, none⟩ rest) := by
  have hp : passC vs [] ls = (us, rs) := by have := hI.1; rwa [List.drop_length, passC] at this
  have hB := h.1.below hI.bel
  have hB2 := h.2.1.below hI.bel
  have hv := pass_validC h.2.2.2.2.2.1
  have hh := pass_hasC h.2.2.2.2.2.1
  rw [hp] at hv hh
  refine ⟨hB.set _ _, (hB2.other (by omega) 0 _).other (by omega) 1 _, hI.vec.set2 hB hx hy, ?_, below_set2 (below_trans h.2.2.2.2.1 hI.bel) (Nat.le_refl _) _ _, hv, fun r c => by rw [hh, h.2.2.2.2.2.2.1], by have := hI.len; have := h.2.2.2.2.2.2.2; omega⟩
  obtain ⟨A, c, e0, h1, h2, h3⟩ := SlAt.of_own encD_len hI.own
  exact Holds.set2 ⟨A, c, e0, h3, h1, h2⟩ hB hx hy

set_option maxRecDepth 100000 in
set_option maxHeartbeats 4000000 in
theorem ref3Compact (v : Value) (vs0 ls0 : List (Int × Int)) (w : World) (h : HoldsC w v vs0 ls0) (hv : validC vs0 ls0 = true) (hm : vs0.length + ls0.length ≤ 1000) :
    Calls Tryz.prog 105 #[v] w fun e w' => (∃ v', e = .returned v' ∧ HoldsC w' v' (compactC vs0 ls0).1 (compactC vs0 ls0).2) ∧ Below w.heap.size w w' := by
  obtain ⟨i0, hi0, hz0, hz1, hz2⟩ := info_parts infoD
  obtain ⟨A, n, B, m, rfl, h1, h2⟩ := h
  have hal : Below w.heap.size w ((w.alloc (.cells #[.slice A vs0.length n, .slice B ls0.length m] 25)).alloc (.cells #[.slice none 0 0, .slice none 0 0] 25)) :=
    ((Below.refl _ w).alloc (Nat.le_refl _) _).alloc (by simp) _
  have K : OutP w vs0 ls0 vs0 ls0 (.slice A vs0.length n) (.slice B ls0.length m) ((w.alloc (.cells #[.slice A vs0.length n, .slice B ls0.length m] 25)).alloc (.cells #[.slice none 0 0, .slice none 0 0] 25)) := by
    refine ⟨?_, ?_, h1.below hal, h2.below hal, hal, hv, fun _ _ => rfl, hm⟩
    · exact (heap_alloc_old _ _ (by simp)).trans (heap_alloc_new w _)
    · have h := heap_alloc_new (w.alloc (.cells #[.slice A vs0.length n, .slice B ls0.length m] 25)) (.cells #[.slice none 0 0, .slice none 0 0] 25)
      rwa [World.size_alloc] at h
  have K := Lib.hid K
  clear h1 h2 hal hm
  go_enter Tryz.func105, Tryz.ntmps105
  go_wp2_with fail
  go_loopw [3] (fun _ wr => ∃ (vs ls : List (Int × Int)) (A : Option Addr) (n : Nat) (B : Option Addr) (m : Nat), Hid (OutP w vs0 ls0 vs ls (.slice A vs.length n) (.slice B ls.length m) wr)) (fun _ wr => lenB w.heap.size wr)
  case atStart => exact ⟨vs0, ls0, A, n, B, m, K⟩
  case round =>
    obtain ⟨vs, ls, A, n, B, m, hK⟩ := hrel
    have c0 := hK.out.1.cell0
    have c1 := hK.out.1.cell1
    cases hc : compC vs ls with
    | true =>
      have HI := Lib.hid (ref3IsCompact_h _ _ vs ls true wr hK.out.2.2.1 hK.out.2.2.2.1 hc)
      have he := comp_unique hc (compactC_comp hv) fun r c => by rw [hK.out.2.2.2.2.2.2.1, compactC_has hv]
      have HE := Lib.hid he
      clear hc he
      go_wp2_with fail
      refine HI.out.mono ?_
      rintro e w1 ⟨rfl, hb⟩
      have K1 := Lib.hid (hK.out.below hb)
      clear hb c0 c1
      have c0 := K1.out.1.cell0
      have c1 := K1.out.1.cell1
      have d0 := K1.out.2.1.cell0
      have d1 := K1.out.2.1.cell1
      have f0 := K1.out.2.1.frozen 0
      have f1 := K1.out.2.1.frozen 1
      go_wp2_with fail
      have hs := K1.out.2.1.set (.slice A vs.length n) (.slice B ls.length m)
      have s0 := hs.cell0
      have s1 := hs.cell1
      refine bodyPost_ret (v := .agg #[.slice A vs.length n, .slice B ls.length m]) (by simp [results, Tryz.results105, go_sem, s0, s1]) rfl ⟨⟨_, rfl, ?_⟩, below_set2 K1.out.2.2.2.2.1 (by omega) _ _⟩
      rw [← HE.out.1, ← HE.out.2]
      exact HoldsC.mk (K1.out.2.2.1.set2 K1.out.2.1 (by intro z; simp) (by intro z; simp)) (K1.out.2.2.2.1.set2 K1.out.2.1 (by intro z; simp) (by intro z; simp))
    | false =>
      have HI := Lib.hid (ref3IsCompact_h _ _ vs ls false wr hK.out.2.2.1 hK.out.2.2.2.1 hc)
      have hnc := not_comp hK.out.2.2.2.2.2.1 hc
      have HNC := Lib.hid hnc
      have hl0 := hK.out.1.len
      clear hc hnc
      go_wp2_with fail
      refine HI.out.mono ?_
      rintro e w1 ⟨rfl, hb⟩
      have K1 := Lib.hid (hK.out.below hb)
      clear hb c0 c1
      have c0 := K1.out.1.cell0
      have c1 := K1.out.1.cell1
      have LL := K1.out.2.2.2.2.2.2.2
      have hok := (validC_iff.1 K1.out.2.2.2.2.2.1).2.2
      have HOK := Lib.hid hok
      clear hok
      go_wp2_with fail
      go_loopw [3, 4, 5] (fun rest vv i wr2 => ∃ (k : Nat) (rs us : List (Int × Int)), k ≤ ls.length ∧ i = .int .i64 k ∧ Hid (InP w1 vs ls k rest vv rs us wr2)) (fun _ _ i _ => ls.length - (intOf i).toNat)
      case atStart => exact ⟨0, [], vs, by omega, rfl, ⟨by rw [List.drop_zero], World.ownsRow_nil _ _ _ _, K1.out.2.2.1, Apart.nil _ _, Below.refl _ _, by simp, (validC_iff.1 K1.out.2.2.2.2.2.1).1⟩⟩
      case round =>
        obtain ⟨k, rs, us, hk2, rfl, hIn⟩ := hrel
        have b0 := K1.out.1.below hIn.out.bel
        have c0 := b0.cell0
        have c1 := b0.cell1
        by_cases hlt : k < ls.length
        · have hls := K1.out.2.2.2.1.below hIn.out.bel
          obtain ⟨A', c', e, hx, _⟩ := hls
          cases e
          obtain ⟨bb, off, r, c, rfl, hbl, hx1, hc0, hc1⟩ := hx.dot (j := k) hlt
          have hal : Below wr.heap.size wr (wr.alloc (.cells #[.int .i64 r, .int .i64 c] 63)) := (Below.refl _ wr).alloc (Nat.le_refl _) _
          have hInW := Lib.hid (hIn.out.below hal)
          have KB := Lib.hid ((KX.nil wr).box (.int .i64 r) (.int .i64 c) 63)
          have hvd := HOK.out _ (List.mem_of_getElem? hx1)
          have hlen := hIn.out.len
          have HX1 := Lib.hid hx1
          have HVD := Lib.hid hvd
          clear hal hx hvd hx1
          cases hbh : hasV us r c with
          | true =>
            have HB := Lib.hid hbh
            have HH := Lib.hid (ref2Has_h3 u4 us r c true _ hInW.out.vec hbh)
            clear hbh
            go_wp2_with fail
            refine HH.out.mono ?_
            rintro e w3 ⟨rfl, hb⟩
            have hI3 := Lib.hid ((hInW.out.below hb).skip HX1.out HB.out)
            clear hb c0 c1 hc0 hc1
            go_wp2
            go_roundw
            case rel => exact ⟨k + 1, rs, us, by omega, by go_num, hI3⟩
            case measure => simp [intOf]; omega
          | false =>
            have HB := Lib.hid hbh
            have HH := Lib.hid (ref2Has_h3 u4 us r c false _ hInW.out.vec hbh)
            clear hbh
            go_wp2_with fail
            refine HH.out.mono ?_
            rintro e w3 ⟨rfl, hb⟩
            have hI3 := Lib.hid (hInW.out.below hb)
            have K3 := Lib.hid (KB.out.below hb)
            clear hb c0 c1 hc0 hc1
            obtain ⟨g, hg⟩ : ∃ g, getV us r = g := ⟨_, rfl⟩
            have hgt := getV_top hIn.out.valid r
            rw [hg] at hgt
            have hw : wrap64 (g + 1) = g + 1 := by unfold wrap64; omega
            have HG := Lib.hid fun p => ref2Get_h3 u4 us r g _ (hI3.out.below (below_far w3 p)).vec hg
            have l2 := fun p => (K3.out.far p).cell (a := ⟨wr.heap.size, 0, none⟩) (v := .int .i64 r) (by simp)
            have l3 := fun p => (K3.out.far p).cell (a := ⟨wr.heap.size, 1, none⟩) (v := .int .i64 c) (by simp)
            cases hn : (c == wrap64 (g + 1)) with
            | true =>
              have hn2 : c = getV us r + 1 := by rw [hg, ← hw]; simpa using hn
              have HN := Lib.hid hn2
              clear hn2 hg hgt hw
              go_wp2_with fail
              refine wp_region_far (by kernel_rfl) (by kernel_rfl) ?_
              repeat (go_big_quiet_step ((go_at_call 85; exact far_of (HG.out _))))
              refine wpQuiet_nil ?_
              rintro _ ⟨p, rfl⟩
              have hI4 := Lib.hid (hI3.out.below (below_far w3 p))
              have K4 := Lib.hid (K3.out.far p)
              generalize far w3 p = w4 at hI4 K4 ⊢
              clear l2 l3
              have l2 := K4.out.cell (a := ⟨wr.heap.size, 0, none⟩) (v := .int .i64 r) (by simp)
              have l3 := K4.out.cell (a := ⟨wr.heap.size, 1, none⟩) (v := .int .i64 c) (by simp)
              go_wp2_with fail
              refine (ref2RaiseO_h u4 us r c w4 hI4.out.vec (by omega) HB.out).mono ?_
              rintro e w5 ⟨⟨v', rfl, ho⟩, hb⟩
              have hI5 := Lib.hid (hI4.out.rise HX1.out HVD.out HB.out HN.out hb ho)
              clear hb ho l2 l3
              go_wp2
              go_roundw
              case rel => exact ⟨k + 1, rs, _, by omega, by go_num, hI5⟩
              case measure => simp [intOf]; omega
            | false =>
              have hn2 : c ≠ getV us r + 1 := by rw [hg, ← hw]; simpa using hn
              have HN := Lib.hid hn2
              have hn3 : ¬ c = wrap64 (g + 1) := by simpa using hn
              clear hn2 hg hgt hw
              go_wp2_with fail
              refine wp_region_far (by kernel_rfl) (by kernel_rfl) ?_
              repeat (go_big_quiet_step ((go_at_call 85; exact far_of (HG.out _))))
              refine wpQuiet_nil ?_
              rintro _ ⟨p, rfl⟩
              have hI4 := Lib.hid (hI3.out.below (below_far w3 p))
              have K4 := Lib.hid (K3.out.far p)
              generalize far w3 p = w4 at hI4 K4 ⊢
              clear l2 l3
              have l2 := K4.out.cell (a := ⟨wr.heap.size, 0, none⟩) (v := .int .i64 r) (by simp)
              have l3 := K4.out.cell (a := ⟨wr.heap.size, 1, none⟩) (v := .int .i64 c) (by simp)
              have hsz := hI4.out.bel.size
              go_wp2_with (at_builtin
                           refine wpList_append_sl (o := ⟨some 27, _, _, _, _, _⟩) _ encD 2 rfl (.tmp 24) (.tmp 26) 22 rfl encD_len (by omega) encD_one w1.heap.size 63 i0 _ 16 Tryz.underlying22 hi0 hz0 hz1 hz2 rfl _ rs rfl (hI4.out.own.kept (World.grownBy_alloc w4 _ none) (by cases u3.ownBlock <;> simp)) _ 1 _ [(r, c)] rfl rfl (SlAt.one (heap_alloc_new _ _)) (by simp [maxLen]; omega) (by simp; omega) (by simp; omega) ?_
                           intro r2 w5 hown3 hg3 hat3
                           have hI5 := Lib.hid (hI4.out.stay HX1.out HB.out HN.out hown3 hg3 hat3)
                           clear hown3 hg3 hat3)
              go_roundw
              case rel => exact ⟨k + 1, _, us, by omega, by go_num, hI5⟩
              case measure => simp [intOf]; omega
        · have hkk : k = ls.length := by omega
          have HKK := Lib.hid hkk
          obtain ⟨A2, n2, e2, _⟩ := id hIn.out.vec
          obtain ⟨B2, m2, e3, _⟩ := SlAt.of_own encD_len hIn.out.own
          subst e2
          subst e3
          have f0 := b0.frozen 0
          have f1 := b0.frozen 1
          clear hkk
          go_wp2_with fail
          have hI2 := hIn.out
          rw [HKK.out] at hI2
          have hp : passC vs [] ls = (us, rs) := by have := hI2.1; rwa [List.drop_length, passC] at this
          have ho := OutP.next K1.out (by intro z; simp) (by intro z; simp) hI2
          have hless : rs.length < ls.length := by
            obtain ⟨d, hd, hg⟩ := HNC.out
            have := pass_less (rest := []) hd hg
            rw [hp] at this
            simpa using this
          exact ⟨⟨us, rs, A2, n2, B2, m2, ho⟩, by rw [ho.1.len, hl0]; exact hless⟩

end

end Go.Proofs.YtfmhhmceoikgpaaGreat
