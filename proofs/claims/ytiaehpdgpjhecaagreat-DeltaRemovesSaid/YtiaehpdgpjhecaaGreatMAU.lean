/- Several texts in one: ItmL, DotQ, ItmM, ItmN, ItmP. -/
import Derived.Test.YtiaehpdgpjhecaaGreatMAQ
import Derived.Test.YtiaehpdgpjhecaaGreatMAT
import Derived.Test.YtiaehpdgpjhecaaGreatMAM
import Derived.Test.YtiaehpdgpjhecaaGreatShelf
namespace Go.Proofs.YtiaehpdgpjhecaaGreat

section
open Go.RowKit

set_option maxHeartbeats 2000000 in
theorem itValid (x : ItV) (b : Bool) (w : World) (hx : ItOK w x) (hn : x.nm.length ≤ 1000) (hm : x.ms.length ≤ 100000) (hb : okI x.it = b) :
    Calls Tryz.prog 79 #[mkIt x] w (OneB (.bool b) w) := by
  have hml := hx.len
  have HI := Lib.hid fun W => nmItem x.nm W (by omega)
  have HM := Lib.hid fun W (h : MarksAt W x.A x.ms) => containsMarksV x.A x.ms x.c W h hml
  have HL := Lib.hid fun W b (h : MarksAt W x.A x.ms) (hb : isSetB (dotsM x.ms) = b) => qtyIsList x.A x.ms x.c b W h hm hb
  have HX := Lib.hid hx.1
  have hb' : (itemN x.nm && (decide (0 < x.ms.length) && (x.ms.all validM && isSetB (dotsM x.ms)))) = b := hb
  have B0 := Lib.hid (BlkI.new w x)
  have HB := Lib.hid ((Below.refl w.heap.size w).alloc (Nat.le_refl _) (.cells #[.string ⟨x.nm.toArray⟩, .slice x.A x.ms.length x.c] 50))
  obtain ⟨p1, h1⟩ : ∃ p, itemN x.nm = p := ⟨_, rfl⟩
  obtain ⟨p2, h2⟩ : ∃ p, x.ms.all validM = p := ⟨_, rfl⟩
  obtain ⟨p3, h3⟩ : ∃ p, isSetB (dotsM x.ms) = p := ⟨_, rfl⟩
  rw [h1] at HI hb'
  rw [h2] at HM hb'
  rw [h3] at hb'
  have H3 := Lib.hid h3
  have hlw := B0.out.lt
  have c0 := B0.out.cell0
  have c1 := B0.out.cell1
  clear hb hx h1 h2 h3 hml
  cases p1 with
  | false =>
    obtain rfl : b = false := by simpa using hb'.symm
    clear hb'
    go_enter Tryz.func79, Tryz.ntmps79
    go_wp2_with fail
    refine (HI.out _).mono ?_
    rintro e w1 ⟨rfl, hb1⟩
    have HB1 := Lib.hid (below_trans HB.out hb1)
    clear hb1 c0 c1 hlw
    go_wp2_with fail
    go_ret
    exact ⟨rfl, HB1.out⟩
  | true =>
    by_cases h0 : 0 < x.ms.length
    · have i0 : ((x.ms.length : Int) == 0) = false := eqF (by omega)
      have hd : decide (0 < x.ms.length) = true := decide_eq_true h0
      rw [hd] at hb'
      clear h0 hd
      cases p3 with
      | false =>
        obtain rfl : b = false := by simpa using hb'.symm
        clear hb'
        go_enter Tryz.func79, Tryz.ntmps79
        go_wp2_with fail
        refine (HI.out _).mono ?_
        rintro e w1 ⟨rfl, hb1⟩
        have HB1 := Lib.hid (below_trans HB.out hb1)
        have B1 := Lib.hid (B0.out.below hb1)
        clear hb1 c0 c1 hlw
        have c0 := B1.out.cell0
        have c1 := B1.out.cell1
        go_wp2_with fail
        refine (HL.out _ _ (HX.out.below HB1.out) H3.out).mono ?_
        rintro e w2 ⟨rfl, hb2⟩
        have HB2 := Lib.hid (below_trans HB1.out hb2)
        clear hb2 c0 c1
        go_wp2_with fail
        go_ret
        exact ⟨rfl, HB2.out⟩
      | true =>
        obtain rfl : b = p2 := by simpa using hb'.symm
        clear hb'
        go_enter Tryz.func79, Tryz.ntmps79
        go_wp2_with fail
        refine (HI.out _).mono ?_
        rintro e w1 ⟨rfl, hb1⟩
        have HB1 := Lib.hid (below_trans HB.out hb1)
        have B1 := Lib.hid (B0.out.below hb1)
        clear hb1 c0 c1 hlw
        have c0 := B1.out.cell0
        have c1 := B1.out.cell1
        go_wp2_with fail
        refine (HL.out _ _ (HX.out.below HB1.out) H3.out).mono ?_
        rintro e w2 ⟨rfl, hb2⟩
        have HB2 := Lib.hid (below_trans HB1.out hb2)
        have B2 := Lib.hid (B1.out.below hb2)
        clear hb2 c0 c1
        have c0 := B2.out.cell0
        have c1 := B2.out.cell1
        go_wp2_with fail
        refine (HM.out _ (HX.out.below HB2.out)).mono ?_
        rintro e w3 ⟨rfl, hb3⟩
        have HB3 := Lib.hid (below_trans HB2.out hb3)
        clear hb3 c0 c1
        go_wp2_with fail
        go_ret
        exact OneB.bool (by simp) HB3.out
    · have i0 : ((x.ms.length : Int) == 0) = true := eqT (by omega)
      have hd : decide (0 < x.ms.length) = false := decide_eq_false (by omega)
      rw [hd] at hb'
      obtain rfl : b = false := by simpa using hb'.symm
      clear h0 hd hb'
      go_enter Tryz.func79, Tryz.ntmps79
      go_wp2_with fail
      refine (HI.out _).mono ?_
      rintro e w1 ⟨rfl, hb1⟩
      have HB1 := Lib.hid (below_trans HB.out hb1)
      have B1 := Lib.hid (B0.out.below hb1)
      clear hb1 c0 c1 hlw
      have c1 := B1.out.cell1
      go_wp2_with fail
      go_ret
      exact ⟨rfl, HB1.out⟩

/-- Marks in a row of the call's own; and all that was there as it was. -/
abbrev RowM (W : World) (B : Nat) (v : Value) (ms : List Mk) : Prop := W.ownsRow B 55 4 v ms.length (cellsOf encM ms)
def MineM (w w' : World) (v : Value) (ms : List Mk) : Prop := RowM w' w.heap.size v ms ∧ Below w.heap.size w w'
theorem RowM.at {W : World} {B : Nat} {v : Value} {ms : List Mk} (h : RowM W B v ms) : ∃ A c, v = .slice A ms.length c ∧ ms.length ≤ c ∧ c ≤ maxLen ∧ MarksAt W A ms := SlAt.of_own encM_len h
theorem RowM.below {W W' : World} {B : Nat} {v : Value} {ms : List Mk} (h : RowM W B v ms) (hb : Below W.heap.size W W') : RowM W' B v ms := by
  refine World.ownsRow.kept h (grown_of_below hb none) ?_
  obtain ⟨A, c, rfl, _⟩ := RowM.at h
  cases A <;> simp [Value.ownBlock]

set_option maxHeartbeats 400000 in
theorem cloneMarks (A : Option Addr) (xs : List Mk) (cap : Nat) (w : World) (hx : MarksAt w A xs) (hm : xs.length ≤ 1000000) :
    Calls Tryz.prog 138 #[.slice A xs.length cap] w fun e w' => ∃ v, e = .returned v ∧ MineM w w' v xs := by
  obtain ⟨i0, hi0, hz0, hz1, hz2⟩ := info_parts infoM
  have q22 : ∀ (w : World) (a : Option Addr) (n c n' c' : Nat), (binOp .eql 48 (.slice a n c) (.slice none n' c')).run Tryz.prog w = .ok (.bool a.isNone) w := fun w a n c n' c' => Lib.run_eql_slice_nil w _ _ a n c n' c' Tryz.underlying48
  match A with
  | none =>
    have h0 : xs = [] := by
      cases xs with
      | nil => rfl
      | cons x r => obtain ⟨_, _, h, _⟩ := hx (by simp); cases h
    subst h0
    go_enter Tryz.func138, Tryz.ntmps138
    go_wp2
    go_ret
    exact ⟨_, rfl, World.ownsRow_nil _ _ _ _, Below.refl _ _⟩
  | some a =>
    go_enter Tryz.func138, Tryz.ntmps138
    go_wp2_with (at_builtin; refine wpList_append_sl _ encM 4 rfl (.tmp 5) (.tmp 6) 48 rfl encM_len (by omega) encM_one w.heap.size 55 i0 _ 32 Tryz.underlying48 hi0 hz0 hz1 hz2 rfl _ [] rfl (World.ownsRow_made w #[] 0 (Nat.le_refl _) (Nat.zero_le _) (by simp)) (some a) _ cap xs rfl rfl (hx.below ((Below.refl _ w).alloc (Nat.le_refl _) _)) (by simp [maxLen]; omega) (by simp; omega) (by simp) ?_; intro v1 w1 hown1 hg1 hat1)
    rw [List.nil_append] at hown1
    have HO := Lib.hid hown1
    clear hown1
    go_wp2
    go_ret
    refine ⟨_, rfl, HO.out, ((Below.refl _ w).alloc (Nat.le_refl _) _).grown hg1 (by simp) ?_⟩
    intro k hk
    have e0 : some w.heap.size = some k := hk
    injection e0 with e
    omega

/-- A block of two cells that holds an item. -/
def Blk2I (W : World) (g : Nat) (u v : Value) : Prop := W.heap[g]? = some (.cells #[u, v] 50 (0, 0))
section
variable {W W' : World} {g : Nat} {u v : Value}
theorem Blk2I.lt (h : Blk2I W g u v) : g < W.heap.size := (Array.getElem?_eq_some_iff.1 h).1
theorem Blk2I.cell0 (h : Blk2I W g u v) : W.cell? ⟨g, 0, none⟩ = some u := by simp [World.cell?, show W.heap[g]? = _ from h]
theorem Blk2I.cell1 (h : Blk2I W g u v) : W.cell? ⟨g, 1, none⟩ = some v := by simp [World.cell?, show W.heap[g]? = _ from h]
theorem Blk2I.frozen (h : Blk2I W g u v) (k : Nat) : W.frozen? ⟨g, k, none⟩ = false := by simp [World.frozen?, show W.heap[g]? = _ from h]
theorem Blk2I.below (h : Blk2I W g u v) (hb : Below W.heap.size W W') : Blk2I W' g u v := (hb.block g h.lt).trans h
theorem Blk2I.set (h : Blk2I W g u v) (u' v' : Value) : Blk2I ((W.setCell ⟨g, 0, none⟩ u').setCell ⟨g, 1, none⟩ v') g u' v' := by
  have h2 := block_set1 (k := 1) (x := v') (block_set1 (k := 0) (x := u') h)
  have e : ((#[u, v] : Array Value).setIfInBounds 0 u').setIfInBounds 1 v' = #[u', v'] := by simp
  rw [e] at h2
  exact h2
theorem Blk2I.other (h : Blk2I W g u v) {g' : Nat} (hne : g ≠ g') (o : Nat) (z : Value) : Blk2I (W.setCell ⟨g', o, none⟩ z) g u v := (Below.heap_setCell W ⟨g', o, none⟩ z g hne).trans h
theorem below_set2I {w : World} {B : Nat} (h : Below B w W) (hg : B ≤ g) (u v : Value) : Below B w ((W.setCell ⟨g, 0, none⟩ u).setCell ⟨g, 1, none⟩ v) :=
  (h.setCell (p := ⟨g, 0, none⟩) hg _).setCell (p := ⟨g, 1, none⟩) hg _
theorem row_set2I {base n size : Nat} {e : TypeId} {r : Value} {xs : List Value} (h : W.ownsRow base e size r n xs) (hg : r.ownBlock ≠ some g) (u v : Value) : ((W.setCell ⟨g, 0, none⟩ u).setCell ⟨g, 1, none⟩ v).ownsRow base e size r n xs :=
  ownsRow_setCell_other (ownsRow_setCell_other h (a := ⟨g, 0, none⟩) hg u) (a := ⟨g, 1, none⟩) hg v
end

/-- The item in its block, the result's block behind it. -/
structure KC (w : World) (x : ItV) (W : World) : Prop where
  blk : BlkI W w.heap.size x
  res : ∃ s A n c, Blk2I W (w.heap.size + 1) (.string s) (.slice A n c)
  bel : Below w.heap.size w W
  ok0 : ItOK w x
section
variable {w W W' : World} {x : ItV}
theorem KC.ok (h : KC w x W) : ItOK W x := h.ok0.below h.bel
theorem KC.next (h : KC w x W) (hb : Below W.heap.size W W') : KC w x W' := by
  obtain ⟨s, A, n, c, hr⟩ := h.res
  exact ⟨h.blk.below hb, ⟨s, A, n, c, hr.below hb⟩, below_trans h.bel hb, h.ok0⟩
theorem KC.drew (h : KC w x W) : KC w x W.drew := h.next (Below.refl _ _).drew
theorem KC.store (h : KC w x W) (s : ByteArray) (A : Option Addr) (n c : Nat) : KC w x ((W.setCell ⟨w.heap.size + 1, 0, none⟩ (.string s)).setCell ⟨w.heap.size + 1, 1, none⟩ (.slice A n c)) := by
  obtain ⟨s', A', n', c', hr⟩ := h.res
  refine ⟨?_, ⟨s, A, n, c, hr.set _ _⟩, below_set2I h.bel (by omega) _ _, h.ok0⟩
  exact (Blk2I.other (Blk2I.other (show Blk2I W w.heap.size (.string ⟨x.nm.toArray⟩) (.slice x.A x.ms.length x.c) from h.blk) (by omega) 0 _) (by omega) 1 _)
theorem KC.second (h : KC w x W) : ∃ s A n c, W.cell? ⟨w.heap.size + 1, 0, none⟩ = some (.string s) ∧ W.cell? ⟨w.heap.size + 1, 1, none⟩ = some (.slice A n c) ∧ W.frozen? ⟨w.heap.size + 1, 0, none⟩ = false ∧ W.frozen? ⟨w.heap.size + 1, 1, none⟩ = false ∧ w.heap.size + 1 < W.heap.size ∧ Blk2I W (w.heap.size + 1) (.string s) (.slice A n c) := by
  obtain ⟨s, A, n, c, hr⟩ := h.res
  exact ⟨s, A, n, c, hr.cell0, hr.cell1, hr.frozen _, hr.frozen _, hr.lt, hr⟩
theorem KC.sp (h : KC w x W) : W.cell? ⟨w.heap.size, 0, none⟩ = some (.string ⟨x.nm.toArray⟩) ∧ W.cell? ⟨w.heap.size, 1, none⟩ = some (.slice x.A x.ms.length x.c) ∧ w.heap.size < W.heap.size ∧ KC w x W := ⟨h.blk.cell0, h.blk.cell1, h.blk.lt, h⟩
theorem KC.new (ho : ItOK w x) : KC w x ((w.alloc (.cells #[.string ⟨x.nm.toArray⟩, .slice x.A x.ms.length x.c] 50)).alloc (.cells #[.string ⟨#[]⟩, .slice none 0 0] 50)) := by
  refine ⟨(BlkI.new w x).below ((Below.refl _ _).alloc (Nat.le_refl _) _), ⟨⟨#[]⟩, none, 0, 0, ?_⟩, ((Below.refl _ w).alloc (Nat.le_refl _) _).alloc (by simp) _, ho⟩
  have h := heap_alloc_new (w.alloc (.cells #[.string ⟨x.nm.toArray⟩, .slice x.A x.ms.length x.c] 50)) (.cells #[.string ⟨#[]⟩, .slice none 0 0] 50)
  rwa [World.size_alloc] at h
end

/-- An item's marks as a value. -/
abbrev slV (x : ItV) : Value := .slice x.A x.ms.length x.c
set_option maxHeartbeats 4000000 in
theorem itClone (x : ItV) (w : World) (hx : ItOK w x) (hn : x.nm.length ≤ 1000000) (hm : x.ms.length ≤ 1000000) :
    Calls Tryz.prog 78 #[mkIt x] w fun e w' => ∃ y : ItV, e = .returned (mkIt y) ∧ y.it = x.it ∧ RowM w' w.heap.size (slV y) y.ms ∧ Below w.heap.size w w' := by
  have K0 := Lib.hid (KC.new hx)
  have HS := Lib.hid fun W => strClone x.nm W hn
  have HM := Lib.hid fun W (h : MarksAt W x.A x.ms) => cloneMarks x.A x.ms x.c W h hm
  clear hx hn hm
  go_enter Tryz.func78, Tryz.ntmps78
  go_wp2_with fail
  generalize World.alloc (World.alloc w _) _ = w1 at K0 ⊢
  have hS := K0.out
  have hS' := KC.sp K0.out
  clear K0
  obtain ⟨q0, q1, q2, _⟩ := id hS'
  obtain ⟨s0, A0, n0, c0, t0, t1, t2, t3, t4, hB3⟩ := hS.second
  go_region_held3 (fun W' => W'.cell? ⟨w.heap.size, 0, none⟩ = some (.string ⟨x.nm.toArray⟩) ∧ W'.cell? ⟨w.heap.size, 1, none⟩ = some (.slice x.A x.ms.length x.c) ∧ w.heap.size < W'.heap.size ∧ KC w x W')
    (first
      | assumption
      | (exact KC.sp (by assumption))
      | (exact KC.sp (KC.drew (by assumption)))
      | (exact KC.sp (KC.store (by assumption) _ _ _ _))
      | (exact KC.sp (KC.store (KC.drew (by assumption)) _ _ _ _)))
    (first
      | (go_at_call 109; refine (HS.out _).mono ?_
         rintro e wa ⟨rfl, hb1⟩
         have hS1 := KC.next (by first | assumption | exact KC.drew (by assumption)) hb1
         have hS1' := KC.sp hS1
         obtain ⟨u0, u1, u2, _⟩ := id hS1'
         obtain ⟨s1, A1, n1, c1, t0, t1, t2, t3, t4, hB3⟩ := hS1.second)
      | (go_at_call 138; refine (HM.out _ (KC.ok (by first | assumption | exact KC.drew (by assumption))).1).mono ?_
         rintro e wb ⟨v, rfl, hv, hb2⟩
         have hz2 := (show KC w x _ by first | assumption | exact KC.drew (by assumption)).second
         have hS2 := KC.next (by first | assumption | exact KC.drew (by assumption)) hb2
         have hS2' := KC.sp hS2
         obtain ⟨A2, c2, rfl, _⟩ := RowM.at hv
         obtain ⟨u0, u1, u2, _⟩ := id hS2'
         obtain ⟨s1, A1, n1, c1, t0, t1, t2, t3, t4, hB3⟩ := hS2.second))
  all_goals
    obtain ⟨_, _, _, _, _, _, _, _, z4, _⟩ := hz2
    have hs := hB3.set (.string ⟨x.nm.toArray⟩) (.slice A2 x.ms.length c2)
    have s6 := hs.cell0
    have s7 := hs.cell1
    have HE := Lib.hid (show ∃ y : ItV, Ending.returned (.agg #[.string ⟨x.nm.toArray⟩, .slice A2 x.ms.length c2]) = .returned (mkIt y) ∧ y.it = x.it ∧ RowM ((wb.setCell ⟨w.heap.size + 1, 0, none⟩ (.string ⟨x.nm.toArray⟩)).setCell ⟨w.heap.size + 1, 1, none⟩ (.slice A2 x.ms.length c2)) w.heap.size (slV y) y.ms ∧ Below w.heap.size w ((wb.setCell ⟨w.heap.size + 1, 0, none⟩ (.string ⟨x.nm.toArray⟩)).setCell ⟨w.heap.size + 1, 1, none⟩ (.slice A2 x.ms.length c2)) from
      ⟨⟨x.nm, A2, c2, x.ms⟩, rfl, rfl, row_set2I (Joins.ownsRow_le hv (by have := hS1.bel.size; omega)) (fun e => by have := (hv.lt _ e).1; omega) _ _, below_set2I hS2.bel (by omega) _ _⟩)
    clear hS1 hS1' hS2 hS2' hv hB3 hs
    go_wp2_with fail
    exact bodyPost_ret (v := .agg #[.string ⟨x.nm.toArray⟩, .slice A2 x.ms.length c2]) (by simp [results, Tryz.results78, go_sem, s6, s7]) rfl HE.out

end

section
open Go.RowKit

end

section
open Go.RowKit

def ItV.zero : ItV := ⟨[], none, 0, []⟩
/-- Items that a call owns: their row, and the rows of their marks. -/
def OwnI (W : World) (B : Nat) (v : Value) (xs : List ItV) : Prop := RowT W B v xs ∧ ∀ x ∈ xs, RowM W B (slV x) x.ms
theorem RowM.ok {W : World} {B : Nat} {x : ItV} (h : RowM W B (slV x) x.ms) : ItOK W x := by
  obtain ⟨A, c, e, h1, h2, h3⟩ := RowM.at h
  injection e with e1 e2 e3
  refine ⟨?_, ?_, ?_⟩
  · rw [e1]; exact h3
  · rw [e3]; exact h1
  · rw [e3]; exact h2
theorem OwnI.holds {W : World} {B : Nat} {v : Value} {xs : List ItV} (h : OwnI W B v xs) : HoldsX W v xs := HoldsX.of_own h.1 fun x hx => RowM.ok (h.2 x hx)
theorem RowT.below {W W' : World} {B : Nat} {v : Value} {xs : List ItV} (h : RowT W B v xs) (hb : Below W.heap.size W W') : RowT W' B v xs := by
  refine World.ownsRow.kept h (grown_of_below hb none) ?_
  obtain ⟨A, c, rfl, _⟩ := SlAt.of_own encIt_len h
  cases A <;> simp [Value.ownBlock]
theorem OwnI.below {W W' : World} {B : Nat} {v : Value} {xs : List ItV} (h : OwnI W B v xs) (hb : Below W.heap.size W W') : OwnI W' B v xs := ⟨RowT.below h.1 hb, fun x hx => RowM.below (h.2 x hx) hb⟩
theorem OwnI.nil (W : World) (B : Nat) : OwnI W B (.slice none 0 0) [] := ⟨World.ownsRow_nil _ _ _ _, fun _ h => by cases h⟩
theorem OwnI.le {W : World} {B B' : Nat} {v : Value} {xs : List ItV} (h : OwnI W B v xs) (hb : B' ≤ B) : OwnI W B' v xs := ⟨Joins.ownsRow_le h.1 hb, fun x hx => Joins.ownsRow_le (h.2 x hx) hb⟩

theorem its_snoc {xs ys : List ItV} {k : Nat} {x y : ItV} (h : its ys = (its xs).take k) (hx : xs[k]? = some x) (he : y.it = x.it) : its (ys ++ [y]) = (its xs).take (k + 1) := by
  rw [take_step (its_at hx), ← h, ← he]; simp

/-- The item with a name, and the error. -/
def findV (l : List It) (nm : List UInt8) : It × Nat := match l.find? (fun x => x.1 == nm) with
  | some x => (x, 0)
  | none => (([], []), 9)
theorem findV_some {l : List It} {nm : List UInt8} {k : Nat} {x : It} (hx : l[k]? = some x) (he : (x.1 == nm) = true) (h : ∀ (j : Nat) (y : It), j < k → l[j]? = some y → (y.1 == nm) = false) : findV l nm = (x, 0) := by
  obtain ⟨hk, hkx⟩ := List.getElem?_eq_some_iff.1 hx
  have : l.find? (fun x => x.1 == nm) = some x := by
    rw [List.find?_eq_some_iff_getElem]
    exact ⟨he, k, hk, hkx, fun j hj => by have := h j l[j] hj (List.getElem?_eq_getElem (by omega)); simp [this]⟩
  unfold findV; rw [this]
theorem findV_none {l : List It} {nm : List UInt8} (h : ∀ (j : Nat) (y : It), j < l.length → l[j]? = some y → (y.1 == nm) = false) : findV l nm = (([], []), 9) := by
  have : l.find? (fun x => x.1 == nm) = none := by
    rw [List.find?_eq_none]
    intro x hx
    obtain ⟨j, hj⟩ := List.mem_iff_getElem?.1 hx
    simp [h j x (List.getElem?_eq_some_iff.1 hj).1 hj]
  unfold findV; rw [this]

set_option maxHeartbeats 4000000 in
theorem itFind (A : Option Addr) (xs : List ItV) (cap : Nat) (nm : List UInt8) (w : World) (hx : ItemsAt w A xs) (hm : xs.length ≤ 1000000) (hl : ∀ x ∈ xs, x.nm.length ≤ 1000000 ∧ x.ms.length ≤ 1000000) :
    Calls Tryz.prog 37 #[.slice A xs.length cap, .string ⟨nm.toArray⟩] w fun e w' => (∃ (y : ItV) (n : Nat), e = .returned (.tuple #[mkIt y, .int .i64 (n : Int)]) ∧ findV (its xs) nm = (y.it, n) ∧ ItOK w' y) ∧ Below w.heap.size w w' := by
  have HX := Lib.hid hx
  have HL := Lib.hid hl
  have hB0 := Lib.hid (show Blk2I (w.alloc (.cells #[.string ⟨#[]⟩, .slice none 0 0] 50)) w.heap.size (.string ⟨#[]⟩) (.slice none 0 0) from heap_alloc_new w _)
  have hb0 := Lib.hid ((Below.refl w.heap.size w).alloc (Nat.le_refl _) (.cells #[.string ⟨#[]⟩, .slice none 0 0] 50))
  clear hx hl
  go_enter Tryz.func37, Tryz.ntmps37
  go_wp2_with fail
  generalize w.alloc _ = w1 at hB0 hb0 ⊢
  go_loopw [7, 10] (fun _ i wr => ∃ k : Nat, k ≤ xs.length ∧ i = .int .i64 k ∧ Hid (∀ (j : Nat) (y : It), j < k → (its xs)[j]? = some y → (y.1 == nm) = false) ∧ Hid (Blk2I wr w.heap.size (.string ⟨#[]⟩) (.slice none 0 0)) ∧ Hid (Below w.heap.size w wr)) (fun _ i _ => xs.length - (intOf i).toNat)
  case atStart => exact ⟨0, by omega, rfl, fun j y h => by omega, hB0, hb0⟩
  case round =>
    clear hB0 hb0
    obtain ⟨k, hk, rfl, hs, hB, hb⟩ := hrel
    have hlw := hB.out.lt
    have z0 := hB.out.cell0
    have z1 := hB.out.cell1
    have f0 := hB.out.frozen 0
    have f1 := hB.out.frozen 1
    by_cases hlt : k < xs.length
    · have i0 : (k : Int) < (xs.length : Int) := by omega
      obtain ⟨g, off, x, rfl, hbl, hx1, _, hc0, hc1, hok⟩ := (HX.out.below hb.out).cells (j := k) hlt
      have hba : Below wr.heap.size wr (wr.alloc (.cells #[.string ⟨x.nm.toArray⟩, .slice x.A x.ms.length x.c] 50)) := (Below.refl _ wr).alloc (Nat.le_refl _) _
      cases hq : (x.nm == nm) with
      | true =>
        have hlx := HL.out x (List.mem_of_getElem? hx1)
        have HC := Lib.hid (itClone x _ (hok.below hba) hlx.1 hlx.2)
        have HF := Lib.hid (findV_some (its_at hx1) hq hs.out)
        have HBA := Lib.hid hba
        clear hx1 hok hba hlx
        go_wp2_with fail
        refine HC.out.mono ?_
        rintro e w2 ⟨y, rfl, hyx, hry, hb2⟩
        have hb3 := below_trans HBA.out hb2
        have hB2 := hB.out.below hb3
        have hlw2 := hB2.lt
        have e0 := hB2.cell0
        have e1 := hB2.cell1
        have k0 := hB2.frozen 0
        have k1 := hB2.frozen 1
        have hset := hB2.set (.string ⟨y.nm.toArray⟩) (slV y)
        have s6 := hset.cell0
        have s7 := hset.cell1
        have HE := Lib.hid (show (∃ (y' : ItV) (n : Nat), Ending.returned (.tuple #[mkIt y, .int .i64 0]) = .returned (.tuple #[mkIt y', .int .i64 (n : Int)]) ∧ findV (its xs) nm = (y'.it, n) ∧ ItOK ((w2.setCell ⟨w.heap.size, 0, none⟩ (.string ⟨y.nm.toArray⟩)).setCell ⟨w.heap.size, 1, none⟩ (slV y)) y') ∧ Below w.heap.size w ((w2.setCell ⟨w.heap.size, 0, none⟩ (.string ⟨y.nm.toArray⟩)).setCell ⟨w.heap.size, 1, none⟩ (slV y)) from
          ⟨⟨y, 0, rfl, by rw [HF.out, hyx], RowM.ok (B := wr.heap.size) (row_set2I (Joins.ownsRow_le hry (by simp)) (fun e => by have := (hry.lt _ e).1; simp at this; omega) _ _)⟩, below_set2I (below_trans hb.out hb3) (Nat.le_refl _) _ _⟩)
        clear hyx hry hb2 hb3 hB2 hset hB z0 z1 f0 f1 hc0 hc1
        go_wp2_with fail
        exact bodyPost_ret (v := .tuple #[mkIt y, .int .i64 0]) (by simp [results, Tryz.results37, go_sem, s6, s7]) rfl HE.out
      | false =>
        have HF := Lib.hid (step_none (p := fun y => y.1 == nm) hs.out (its_at hx1) hq)
        have HB' := Lib.hid (hB.out.below hba)
        have Hb' := Lib.hid (below_trans hb.out hba)
        clear hx1 hok hba
        go_wp2_with fail
        go_roundw
        case rel => exact ⟨k + 1, by omega, by go_num, HF, HB', Hb'⟩
        case measure => simp [intOf]; omega
    · obtain rfl : k = xs.length := by omega
      have i0 : ¬ (xs.length : Int) < (xs.length : Int) := by omega
      have hset := hB.out.set (.string ⟨#[]⟩) (.slice none 0 0)
      have s6 := hset.cell0
      have s7 := hset.cell1
      have HE := Lib.hid (show (∃ (y' : ItV) (n : Nat), Ending.returned (.tuple #[.agg #[.string ⟨#[]⟩, .slice none 0 0], .int .i64 9]) = .returned (.tuple #[mkIt y', .int .i64 (n : Int)]) ∧ findV (its xs) nm = (y'.it, n) ∧ ItOK ((wr.setCell ⟨w.heap.size, 0, none⟩ (.string ⟨#[]⟩)).setCell ⟨w.heap.size, 1, none⟩ (.slice none 0 0)) y') ∧ Below w.heap.size w ((wr.setCell ⟨w.heap.size, 0, none⟩ (.string ⟨#[]⟩)).setCell ⟨w.heap.size, 1, none⟩ (.slice none 0 0)) from
        ⟨⟨ItV.zero, 9, rfl, findV_none (by rw [its_len]; exact hs.out), ⟨SlAt.nil, by simp [ItV.zero], by simp [ItV.zero, maxLen]⟩⟩, below_set2I hb.out (Nat.le_refl _) _ _⟩)
      clear hlt hk hset
      go_wp2_with fail
      exact bodyPost_ret (v := .tuple #[.agg #[.string ⟨#[]⟩, .slice none 0 0], .int .i64 9]) (by simp [results, Tryz.results37, go_sem, s6, s7]) rfl HE.out

end

section
open Go.RowKit

/-- A dot and an item in their blocks. -/
structure KO (W0 : World) (gd g : Nat) (r c : Int) (x : ItV) (W : World) : Prop where
  dot : W.heap[gd]? = some (.cells #[.int .i64 r, .int .i64 c] 30 (0, 0))
  blk : BlkI W g x
  bel : Below W0.heap.size W0 W
  ok : ItOK W x
section
variable {W0 W W' : World} {gd g : Nat} {r c : Int} {x : ItV}
theorem KO.lt (h : KO W0 gd g r c x W) : gd < W.heap.size := (Array.getElem?_eq_some_iff.1 h.dot).1
theorem KO.next (h : KO W0 gd g r c x W) (hb : Below W.heap.size W W') : KO W0 gd g r c x W' := ⟨(hb.block _ h.lt).trans h.dot, h.blk.below hb, below_trans h.bel hb, h.ok.below hb⟩
theorem KO.drew (h : KO W0 gd g r c x W) : KO W0 gd g r c x W.drew := h.next (Below.refl _ _).drew
theorem KO.sp (h : KO W0 gd g r c x W) : W.cell? ⟨gd, 0, none⟩ = some (.int .i64 r) ∧ W.cell? ⟨gd, 1, none⟩ = some (.int .i64 c) ∧ W.cell? ⟨g, 1, none⟩ = some (.slice x.A x.ms.length x.c) ∧ gd < W.heap.size ∧ g < W.heap.size ∧ KO W0 gd g r c x W :=
  ⟨by simp [World.cell?, h.dot], by simp [World.cell?, h.dot], h.blk.cell1, h.lt, h.blk.lt, h⟩
end
theorem Holds.drew {w : World} {v : Value} {xs : List (Int × Int)} (h : Holds w v xs) : Holds w.drew v xs := h.below (Below.refl _ _).drew

theorem allD_snoc (l : List It) (x : It) : allD (l ++ [x]) = allD l ++ dotsM x.2 := by simp [allD]
set_option maxRecDepth 100000 in
set_option maxHeartbeats 4000000 in
theorem itDotsO (A : Option Addr) (xs : List ItV) (cap : Nat) (w : World) (hx : ItemsAt w A xs) (hf : Fits xs) :
    Calls Tryz.prog 62 #[.slice A xs.length cap] w fun e w' => (∃ v, e = .returned v ∧ w'.ownsRow w.heap.size 30 2 v (dotsI (its xs)).length (cellsOf encD (dotsI (its xs)))) ∧ Below w.heap.size w w' := by
  obtain ⟨ti0, hi0, hz0, hz1, hz2⟩ := info_parts infoD
  have hm := hf.1
  have HX := Lib.hid hx
  have HF := Lib.hid hf.2
  clear hx hf
  go_enter Tryz.func62, Tryz.ntmps62
  go_wp2_with fail
  go_loopw [3, 5, 8] (fun s3 _ i wr => ∃ (k : Nat) (D : Option Addr) (d : Nat) (ds : List (Int × Int)), k ≤ xs.length ∧ s3 = .slice D ds.length d ∧ i = .int .i64 k ∧ Hid (allD ((its xs).take k) = ds) ∧ Hid (ds.length ≤ 100 * k) ∧ Hid (wr.ownsRow w.heap.size 30 2 (.slice D ds.length d) ds.length (cellsOf encD ds)) ∧ Hid (Below w.heap.size w wr)) (fun _ _ i _ => xs.length - (intOf i).toNat)
  case atStart => exact ⟨0, none, 0, [], by omega, rfl, rfl, rfl, Nat.zero_le _, World.ownsRow_nil _ _ _ _, Below.refl _ _⟩
  case round =>
    obtain ⟨k, D, d, ds, hk, rfl, rfl, hds, hdl, HO, HB⟩ := hrel
    by_cases hlt : k < xs.length
    · have i0 : (k : Int) < (xs.length : Int) := by omega
      obtain ⟨g, off, x, rfl, hbl, hx1, _, hc0, hc1, hok⟩ := (HX.out.below HB.out).cells (j := k) hlt
      have hxm := (HF.out x (List.mem_of_getElem? hx1)).2
      have hba : Below wr.heap.size wr (wr.alloc (.cells #[.string ⟨x.nm.toArray⟩, .slice x.A x.ms.length x.c] 50)) := (Below.refl _ wr).alloc (Nat.le_refl _) _
      have HBA := Lib.hid hba
      have HD := Lib.hid (qtyDots x.A x.ms x.c _ (hok.below hba).1 (by omega))
      have HE := Lib.hid (show allD ((its xs).take (k + 1)) = ds ++ dotsM x.ms from by rw [take_step (its_at hx1), allD_snoc, hds.out]; rfl)
      have HML := Lib.hid (dotsM_len x.ms)
      clear hx1 hok hba
      go_wp2_with fail
      refine HD.out.mono ?_
      rintro e w1 ⟨⟨v1, rfl, A1, c1, rfl, ha1, hl1, hl2⟩, hb1⟩
      have hb3 := below_trans HBA.out hb1
      have HA1 := Lib.hid ha1
      have HO1 := Lib.hid (show w1.ownsRow w.heap.size 30 2 (.slice D ds.length d) ds.length (cellsOf encD ds) from HO.out.kept (grown_of_below hb3 none) (by cases D <;> simp [Value.ownBlock]))
      have HB1 := Lib.hid (below_trans HB.out hb3)
      have hdl2 := hdl.out
      clear ha1 hb1 hb3 hc0 hc1
      generalize dotsM x.ms = ms1 at *
      go_wp2_with (at_builtin; go_loud (refine wpList_append_sl _ encD 2 rfl (.tmp 12) (.tmp 15) 22 rfl encD_len (by omega) encD_one w.heap.size 30 ti0 _ 16 Tryz.underlying22 hi0 hz0 hz1 hz2 rfl (.slice D ds.length d) ds rfl HO1.out A1 _ c1 ms1 rfl rfl HA1.out (by have := HML.out; unfold maxLen; omega) (by have := HML.out; omega) HB1.out.size ?_; intro v2 w2 hown hg hat; have HB2 := Lib.hid (HB1.out.grown hg HB1.out.size (fun k hk => (HO1.out.lt k hk).1)); obtain ⟨D2, d2, rfl, _⟩ := SlAt.of_own encD_len hown; have HO2 := Lib.hid hown; clear hown hg hat))
      go_roundw
      case rel => exact ⟨k + 1, D2, d2, ds ++ ms1, by omega, by rw [List.length_append], by go_num, HE, (show (ds ++ ms1).length ≤ 100 * (k + 1) from by have := HML.out; rw [List.length_append]; omega), HO2, HB2⟩
      case measure => simp [intOf]; omega
    · obtain rfl : k = xs.length := by omega
      have i0 : ¬ (xs.length : Int) < (xs.length : Int) := by omega
      obtain ⟨A1, c1, e1, _, _, ha1⟩ := SlAt.of_own encD_len HO.out
      injection e1 with e2 e3 e4
      subst e2 e4
      have hdl2 := hdl.out
      have HS := Lib.hid (dotSet D ds d wr ha1 (by omega))
      have HE := Lib.hid (show ordL ds = dotsI (its xs) from by rw [ordL_eq, dotsI_all, ← hds.out, ← its_len xs, List.take_length])
      have HSZ := Lib.hid HB.out.size
      clear ha1 hlt hk
      go_wp2_with fail
      refine HS.out.mono ?_
      rintro e w1 ⟨v1, rfl, hm1⟩
      have HM := Lib.hid hm1
      clear hm1
      go_wp2_with fail
      go_ret
      exact ⟨⟨_, rfl, by rw [← HE.out]; exact Go.Joins.ownsRow_le HM.out.1 HSZ.out⟩, below_trans HB.out HM.out.2⟩
theorem itDots (A : Option Addr) (xs : List ItV) (cap : Nat) (w : World) (hx : ItemsAt w A xs) (hf : Fits xs) :
    Calls Tryz.prog 62 #[.slice A xs.length cap] w fun e w' => (∃ v, e = .returned v ∧ Holds w' v (dotsI (its xs))) ∧ Below w.heap.size w w' :=
  (itDotsO A xs cap w hx hf).mono fun _ _ ⟨⟨v, h1, h2⟩, h3⟩ => ⟨⟨v, h1, own_holds h2⟩, h3⟩

end

section
open Go.RowKit

theorem good_of_steps {l : List It} (h : ∀ (j : Nat) (x : It), j < l.length → l[j]? = some x → okI x = true ∧ behindAt l x j = true) : (∀ x ∈ l, okI x = true) ∧ IncN l := by
  refine ⟨fun x hx => ?_, IncN.of_next fun j x y hx hy => ?_⟩
  · obtain ⟨j, hj⟩ := List.mem_iff_getElem?.1 hx
    exact (h j x (List.getElem?_eq_some_iff.1 hj).1 hj).1
  · have := (h (j + 1) y (List.getElem?_eq_some_iff.1 hy).1 hy).2
    rwa [behindAt_succ rfl hx] at this
theorem validL_no {l : List It} {j : Nat} {x : It} (hx : l[j]? = some x) (h : okI x = false ∨ behindAt l x j = false) : validL l = false := by
  refine range_no (List.getElem?_eq_some_iff.1 hx).1 ?_
  unfold okAt
  rw [hx]
  rcases h with h | h <;> simp [h]
theorem step_ok {l : List It} {k : Nat} {x : It} {p : It → Nat → Prop} (h : ∀ (j : Nat) (y : It), j < k → l[j]? = some y → p y j) (hx : l[k]? = some x) (he : p x k) : ∀ (j : Nat) (y : It), j < k + 1 → l[j]? = some y → p y j := fun j y hj hy => by
  rcases Nat.lt_or_ge j k with h1 | h1
  · exact h j y h1 hy
  · obtain rfl : j = k := by omega
    rw [hx] at hy; cases hy; exact he

set_option maxRecDepth 100000 in
set_option maxHeartbeats 4000000 in
theorem itemsValid (A : Option Addr) (xs : List ItV) (cap : Nat) (b : Bool) (w : World) (hx : ItemsAt w A xs) (hf : Fits xs) (hb : validL (its xs) = b) :
    Calls Tryz.prog 60 #[.slice A xs.length cap] w (OneB (.bool b) w) := by
  have hm := hf.1
  have HX := Lib.hid hx
  have HF := Lib.hid hf.2
  have HV := Lib.hid hb
  have HDD := Lib.hid fun W (h : ItemsAt W A xs) => itDots A xs cap W h hf
  clear hx hf hb
  go_enter Tryz.func60, Tryz.ntmps60
  go_wp2_with fail
  go_loopw [3, 4, 5, 8] (fun s3 _ _ i wr => ∃ (k m : Nat), k ≤ xs.length ∧ s3 = .int .i64 (m : Int) ∧ i = .int .i64 k ∧ m ≤ 30000 ∧ Hid (m ≤ 100 * k) ∧ Hid (cntM ((its xs).take k) = m) ∧ Hid (Below w.heap.size w wr) ∧ Hid (∀ (j : Nat) (x : It), j < k → (its xs)[j]? = some x → okI x = true ∧ behindAt (its xs) x j = true)) (fun _ _ _ i _ => xs.length - (intOf i).toNat)
  case atStart => exact ⟨0, 0, by omega, rfl, rfl, by omega, Nat.zero_le _, rfl, Below.refl _ _, fun j x h => by omega⟩
  case round =>
    obtain ⟨k, m, hk, rfl, rfl, hm1, hmk, hcnt, hb, hs⟩ := hrel
    by_cases hlt : k < xs.length
    · have i0 : (k : Int) < (xs.length : Int) := by omega
      obtain ⟨bb, off, x, rfl, hbl, hx1, hx2, hc0, hc1, hok⟩ := (HX.out.below hb.out).cells (j := k) hlt
      have hxm := HF.out x (List.mem_of_getElem? hx1)
      have hba : Below wr.heap.size wr (wr.alloc (.cells #[.string ⟨x.nm.toArray⟩, .slice x.A x.ms.length x.c] 50)) := (Below.refl _ wr).alloc (Nat.le_refl _) _
      have hblk := BlkI.new wr x
      have HBA := Lib.hid (below_trans hb.out hba)
      obtain ⟨q1, hq1⟩ : ∃ b, okI x.it = b := ⟨_, rfl⟩
      have HO := Lib.hid fun p => itValid x q1 (far (wr.alloc (.cells #[.string ⟨x.nm.toArray⟩, .slice x.A x.ms.length x.c] 50)) p) ((hok.below hba).below (below_far _ p)) hxm.1 (by omega) hq1
      have HI := Lib.hid (its_at hx1)
      have HQ1 := Lib.hid hq1
      have HX1 := Lib.hid hx1
      have HK := Lib.hid hblk
      have HXW := Lib.hid ((HX.out.below hb.out).below hba)
      have HML := Lib.hid hxm.2
      have HNL := Lib.hid hxm.1
      clear hx1 hx2 hok hba hblk hq1 hxm
      go_wp2_with fail
      clear hc0 hc1
      generalize World.alloc wr _ = w3 at HBA HO HK HXW ⊢
      have hlw := HK.out.lt
      have n0 := fun p => cell_far (p := p) hlw HK.out.cell0
      have n1 := fun p => cell_far (p := p) hlw HK.out.cell1
      cases q1 with
      | false =>
        have HN := Lib.hid (show false = b from by rw [← HV.out]; exact (validL_no HI.out (.inl HQ1.out)).symm)
        refine wp_region_far (by kernel_rfl) (by kernel_rfl) ?_
        repeat (go_big_quiet_step ((go_at_call 79; exact OneB.far (HO.out _))))
        refine wpQuiet_nil ?_
        rintro _ ⟨p, rfl⟩
        go_wp2_with fail
        go_ret
        exact OneB.bool HN.out (below_trans HBA.out (below_far w3 p))
      | true =>
        have HC1 := Lib.hid (show cntM ((its xs).take (k + 1)) = m + x.ms.length from by rw [take_step HI.out, cntM_snoc, hcnt.out]; rfl)
        by_cases hk0 : k = 0
        · have h0n : ¬ 0 < k := by omega
          have h0d : decide ((0 : Int) < (k : Int)) = false := decide_eq_false (by omega)
          have HS := Lib.hid (step_ok (p := fun x j => okI x = true ∧ behindAt (its xs) x j = true) hs.out HI.out ⟨HQ1.out, by rw [hk0]; rfl⟩)
          clear hk0
          refine wp_region_far (by kernel_rfl) (by kernel_rfl) ?_
          repeat (go_big_quiet_step ((go_at_call 79; exact OneB.far (HO.out _))))
          refine wpQuiet_nil ?_
          rintro _ ⟨p, rfl⟩
          have hml := HML.out
          have hmk' := hmk.out
          go_wp2_with fail
          go_roundw
          case rel => exact ⟨k + 1, m + x.ms.length, by omega, by go_num, by go_num, by omega, (show m + x.ms.length ≤ 100 * (k + 1) from by omega), HC1, below_trans HBA.out (below_far w3 p), HS⟩
          case measure => simp [intOf]; omega
        · obtain ⟨n, hkn⟩ : ∃ n, k = n + 1 := ⟨k - 1, by omega⟩
          have h0n : 0 < k := by omega
          have h0d : (0 : Int) < (k : Int) := by omega
          have i1 : (k : Int) - 1 = (n : Int) := by omega
          have i2 : (n : Int) < (xs.length : Int) := by omega
          obtain ⟨b', off', y, ho, hbl', hy1, hyj, hd0, hd1, hok'⟩ := HXW.out.cells (j := n) (by omega)
          cases ho
          clear hyj
          have m0 := fun p => cell_far (p := p) hbl' hd0
          obtain ⟨q, hq⟩ : ∃ q, beforeN y.nm x.nm = q := ⟨_, rfl⟩
          have hls : Op.bytesLess y.nm x.nm = q := (bytesLess_eq y.nm x.nm).trans hq
          have HBH := Lib.hid (show behindAt (its xs) x.it k = q from by rw [behindAt_succ hkn (its_at hy1)]; exact hq)
          clear hd0 hd1 hok' hy1 hkn hk0
          cases q with
          | true =>
            have HS := Lib.hid (step_ok (p := fun x j => okI x = true ∧ behindAt (its xs) x j = true) hs.out HI.out ⟨HQ1.out, HBH.out⟩)
            clear hq
            refine wp_region_far (by kernel_rfl) (by kernel_rfl) ?_
            repeat (go_big_quiet_step ((go_at_call 79; exact OneB.far (HO.out _))))
            refine wpQuiet_nil ?_
            rintro _ ⟨p, rfl⟩
            have hml := HML.out
            have hmk' := hmk.out
            go_wp2_with fail
            go_roundw
            case rel => exact ⟨k + 1, m + x.ms.length, by omega, by go_num, by go_num, by omega, (show m + x.ms.length ≤ 100 * (k + 1) from by omega), HC1, below_trans HBA.out (below_far w3 p), HS⟩
            case measure => simp [intOf]; omega
          | false =>
            have HN := Lib.hid (show false = b from by rw [← HV.out]; exact (validL_no HI.out (.inr HBH.out)).symm)
            clear hq
            refine wp_region_far (by kernel_rfl) (by kernel_rfl) ?_
            repeat (go_big_quiet_step ((go_at_call 79; exact OneB.far (HO.out _))))
            refine wpQuiet_nil ?_
            rintro _ ⟨p, rfl⟩
            go_wp2_with fail
            go_ret
            exact OneB.bool HN.out (below_trans HBA.out (below_far w3 p))
    · obtain rfl : k = xs.length := by omega
      have i0 : ¬ (xs.length : Int) < (xs.length : Int) := by omega
      have HD := Lib.hid (HDD.out _ (HX.out.below hb.out))
      have hst := good_of_steps (l := its xs) (by rw [its_len]; exact hs.out)
      have hcn : cntM (its xs) = m := by have := hcnt.out; rwa [← its_len xs, List.take_length] at this
      have HG := Lib.hid (show (((dotsI (its xs)).length : Int) == (m : Int)) = b from by
        have h := good_count hst.1 hst.2
        rw [← validL_good, hcn] at h
        rw [← HV.out, Bool.eq_iff_iff, ← h, beq_iff_eq]
        omega)
      clear hlt hk hst hcn
      generalize dotsI (its xs) = ds at *
      go_wp2_with fail
      refine HD.out.mono ?_
      rintro e w1 ⟨⟨v1, rfl, A1, c1, rfl, ha1, hl1, hl2⟩, hb1⟩
      have HB1 := Lib.hid (below_trans hb.out hb1)
      clear ha1 hb1
      go_wp2_with fail
      go_ret
      exact OneB.bool HG.out HB1.out

end

end Go.Proofs.YtiaehpdgpjhecaaGreat
