/- Package items: valid, clone. -/
import Derived.Test.YtfbkhgajlklleaaGreatItmK
import Derived.Test.YtfbkhgajlklleaaGreatNamP1
namespace Go.Proofs.YtfbkhgajlklleaaGreat
open Go.RowKit

set_option maxHeartbeats 2000000 in
theorem itValid (x : ItV) (b : Bool) (w : World) (hx : ItOK w x) (hn : x.nm.length ≤ 1000) (hm : x.ms.length ≤ 100000) (hb : okI x.it = b) :
    Calls Tryz.prog 39 #[mkIt x] w (OneB (.bool b) w) := by
  have hml := hx.len
  have HI := Lib.hid fun W => nmItem x.nm W (by omega)
  have HM := Lib.hid fun W (h : MarksAt W x.A x.ms) => containsMarksV x.A x.ms x.c W h hml
  have HL := Lib.hid fun W b (h : MarksAt W x.A x.ms) (hb : isSetB (dotsM x.ms) = b) => qtyIsList x.A x.ms x.c b W h hm hb
  have HX := Lib.hid hx.1
  have hb' : (itemN x.nm && (decide (0 < x.ms.length) && (x.ms.all validM && isSetB (dotsM x.ms)))) = b := hb
  have B0 := Lib.hid (BlkI.new w x)
  have HB := Lib.hid ((Below.refl w.heap.size w).alloc (Nat.le_refl _) (.cells #[.string ⟨x.nm.toArray⟩, .slice x.A x.ms.length x.c] 34))
  obtain ⟨p1, h1⟩ : ∃ p, itemN x.nm = p := ⟨_, rfl⟩
  obtain ⟨p2, h2⟩ : ∃ p, x.ms.all validM = p := ⟨_, rfl⟩
  obtain ⟨p3, h3⟩ : ∃ p, isSetB (dotsM x.ms) = p := ⟨_, rfl⟩
  rw [h1] at HI hb'
  rw [h2] at HM hb'
  rw [h3] at hb'
  have H3 := Lib.hid h3
  have hlw := B0.out.lt
  have c0 := B0.out.cell0
  have c1 := B0.out.cell1
  clear hb hx h1 h2 h3 hml
  cases p1 with
  | false =>
    obtain rfl : b = false := by simpa using hb'.symm
    clear hb'
    go_enter Tryz.func39, Tryz.ntmps39
    go_wp2_with fail
    refine (HI.out _).mono ?_
    rintro e w1 ⟨rfl, hb1⟩
    have HB1 := Lib.hid (below_trans HB.out hb1)
    clear hb1 c0 c1 hlw
    go_wp2_with fail
    go_ret
    exact ⟨rfl, HB1.out⟩
  | true =>
    by_cases h0 : 0 < x.ms.length
    · have i0 : ((x.ms.length : Int) == 0) = false := eqF (by omega)
      have hd : decide (0 < x.ms.length) = true := decide_eq_true h0
      rw [hd] at hb'
      clear h0 hd
      cases p3 with
      | false =>
        obtain rfl : b = false := by simpa using hb'.symm
        clear hb'
        go_enter Tryz.func39, Tryz.ntmps39
        go_wp2_with fail
        refine (HI.out _).mono ?_
        rintro e w1 ⟨rfl, hb1⟩
        have HB1 := Lib.hid (below_trans HB.out hb1)
        have B1 := Lib.hid (B0.out.below hb1)
        clear hb1 c0 c1 hlw
        have c0 := B1.out.cell0
        have c1 := B1.out.cell1
        go_wp2_with fail
        refine (HL.out _ _ (HX.out.below HB1.out) H3.out).mono ?_
        rintro e w2 ⟨rfl, hb2⟩
        have HB2 := Lib.hid (below_trans HB1.out hb2)
        clear hb2 c0 c1
        go_wp2_with fail
        go_ret
        exact ⟨rfl, HB2.out⟩
      | true =>
        obtain rfl : b = p2 := by simpa using hb'.symm
        clear hb'
        go_enter Tryz.func39, Tryz.ntmps39
        go_wp2_with fail
        refine (HI.out _).mono ?_
        rintro e w1 ⟨rfl, hb1⟩
        have HB1 := Lib.hid (below_trans HB.out hb1)
        have B1 := Lib.hid (B0.out.below hb1)
        clear hb1 c0 c1 hlw
        have c0 := B1.out.cell0
        have c1 := B1.out.cell1
        go_wp2_with fail
        refine (HL.out _ _ (HX.out.below HB1.out) H3.out).mono ?_
        rintro e w2 ⟨rfl, hb2⟩
        have HB2 := Lib.hid (below_trans HB1.out hb2)
        have B2 := Lib.hid (B1.out.below hb2)
        clear hb2 c0 c1
        have c0 := B2.out.cell0
        have c1 := B2.out.cell1
        go_wp2_with fail
        refine (HM.out _ (HX.out.below HB2.out)).mono ?_
        rintro e w3 ⟨rfl, hb3⟩
        have HB3 := Lib.hid (below_trans HB2.out hb3)
        clear hb3 c0 c1
        go_wp2_with fail
        go_ret
        exact OneB.bool (by simp) HB3.out
    · have i0 : ((x.ms.length : Int) == 0) = true := eqT (by omega)
      have hd : decide (0 < x.ms.length) = false := decide_eq_false (by omega)
      rw [hd] at hb'
      obtain rfl : b = false := by simpa using hb'.symm
      clear h0 hd hb'
      go_enter Tryz.func39, Tryz.ntmps39
      go_wp2_with fail
      refine (HI.out _).mono ?_
      rintro e w1 ⟨rfl, hb1⟩
      have HB1 := Lib.hid (below_trans HB.out hb1)
      have B1 := Lib.hid (B0.out.below hb1)
      clear hb1 c0 c1 hlw
      have c1 := B1.out.cell1
      go_wp2_with fail
      go_ret
      exact ⟨rfl, HB1.out⟩

/-- Marks in a row of the call's own; and all that was there as it was. -/
abbrev RowM (W : World) (B : Nat) (v : Value) (ms : List Mk) : Prop := W.ownsRow B 62 4 v ms.length (cellsOf encM ms)
def MineM (w w' : World) (v : Value) (ms : List Mk) : Prop := RowM w' w.heap.size v ms ∧ Below w.heap.size w w'
theorem RowM.at {W : World} {B : Nat} {v : Value} {ms : List Mk} (h : RowM W B v ms) : ∃ A c, v = .slice A ms.length c ∧ ms.length ≤ c ∧ c ≤ maxLen ∧ MarksAt W A ms := SlAt.of_own encM_len h
theorem RowM.below {W W' : World} {B : Nat} {v : Value} {ms : List Mk} (h : RowM W B v ms) (hb : Below W.heap.size W W') : RowM W' B v ms := by
  refine World.ownsRow.kept h (grown_of_below hb none) ?_
  obtain ⟨A, c, rfl, _⟩ := RowM.at h
  cases A <;> simp [Value.ownBlock]

set_option maxHeartbeats 400000 in
theorem cloneMarks (A : Option Addr) (xs : List Mk) (cap : Nat) (w : World) (hx : MarksAt w A xs) (hm : xs.length ≤ 1000000) :
    Calls Tryz.prog 71 #[.slice A xs.length cap] w fun e w' => ∃ v, e = .returned v ∧ MineM w w' v xs := by
  obtain ⟨i0, hi0, hz0, hz1, hz2⟩ := info_parts infoM
  have q22 : ∀ (w : World) (a : Option Addr) (n c n' c' : Nat), (binOp .eql 32 (.slice a n c) (.slice none n' c')).run Tryz.prog w = .ok (.bool a.isNone) w := fun w a n c n' c' => Lib.run_eql_slice_nil w _ _ a n c n' c' Tryz.underlying32
  match A with
  | none =>
    have h0 : xs = [] := by
      cases xs with
      | nil => rfl
      | cons x r => obtain ⟨_, _, h, _⟩ := hx (by simp); cases h
    subst h0
    go_enter Tryz.func71, Tryz.ntmps71
    go_wp2
    go_ret
    exact ⟨_, rfl, World.ownsRow_nil _ _ _ _, Below.refl _ _⟩
  | some a =>
    go_enter Tryz.func71, Tryz.ntmps71
    go_wp2_with (at_builtin; refine wpList_append_sl _ encM 4 rfl (.tmp 5) (.tmp 6) 32 rfl encM_len (by omega) encM_one w.heap.size 62 i0 _ 32 Tryz.underlying32 hi0 hz0 hz1 hz2 rfl _ [] rfl (World.ownsRow_made w #[] 0 (Nat.le_refl _) (Nat.zero_le _) (by simp)) (some a) _ cap xs rfl rfl (hx.below ((Below.refl _ w).alloc (Nat.le_refl _) _)) (by simp [maxLen]; omega) (by simp; omega) (by simp) ?_; intro v1 w1 hown1 hg1 hat1)
    rw [List.nil_append] at hown1
    have HO := Lib.hid hown1
    clear hown1
    go_wp2
    go_ret
    refine ⟨_, rfl, HO.out, ((Below.refl _ w).alloc (Nat.le_refl _) _).grown hg1 (by simp) ?_⟩
    intro k hk
    have e0 : some w.heap.size = some k := hk
    injection e0 with e
    omega

/-- A block of two cells that holds an item. -/
def Blk2I (W : World) (g : Nat) (u v : Value) : Prop := W.heap[g]? = some (.cells #[u, v] 34 (0, 0))
section
variable {W W' : World} {g : Nat} {u v : Value}
theorem Blk2I.lt (h : Blk2I W g u v) : g < W.heap.size := (Array.getElem?_eq_some_iff.1 h).1
theorem Blk2I.cell0 (h : Blk2I W g u v) : W.cell? ⟨g, 0, none⟩ = some u := by simp [World.cell?, show W.heap[g]? = _ from h]
theorem Blk2I.cell1 (h : Blk2I W g u v) : W.cell? ⟨g, 1, none⟩ = some v := by simp [World.cell?, show W.heap[g]? = _ from h]
theorem Blk2I.frozen (h : Blk2I W g u v) (k : Nat) : W.frozen? ⟨g, k, none⟩ = false := by simp [World.frozen?, show W.heap[g]? = _ from h]
theorem Blk2I.below (h : Blk2I W g u v) (hb : Below W.heap.size W W') : Blk2I W' g u v := (hb.block g h.lt).trans h
theorem Blk2I.set (h : Blk2I W g u v) (u' v' : Value) : Blk2I ((W.setCell ⟨g, 0, none⟩ u').setCell ⟨g, 1, none⟩ v') g u' v' := by
  have h2 := block_set1 (k := 1) (x := v') (block_set1 (k := 0) (x := u') h)
  have e : ((#[u, v] : Array Value).setIfInBounds 0 u').setIfInBounds 1 v' = #[u', v'] := by simp
  rw [e] at h2
  exact h2
theorem Blk2I.other (h : Blk2I W g u v) {g' : Nat} (hne : g ≠ g') (o : Nat) (z : Value) : Blk2I (W.setCell ⟨g', o, none⟩ z) g u v := (Below.heap_setCell W ⟨g', o, none⟩ z g hne).trans h
theorem below_set2I {w : World} {B : Nat} (h : Below B w W) (hg : B ≤ g) (u v : Value) : Below B w ((W.setCell ⟨g, 0, none⟩ u).setCell ⟨g, 1, none⟩ v) :=
  (h.setCell (p := ⟨g, 0, none⟩) hg _).setCell (p := ⟨g, 1, none⟩) hg _
theorem row_set2I {base n size : Nat} {e : TypeId} {r : Value} {xs : List Value} (h : W.ownsRow base e size r n xs) (hg : r.ownBlock ≠ some g) (u v : Value) : ((W.setCell ⟨g, 0, none⟩ u).setCell ⟨g, 1, none⟩ v).ownsRow base e size r n xs :=
  ownsRow_setCell_other (ownsRow_setCell_other h (a := ⟨g, 0, none⟩) hg u) (a := ⟨g, 1, none⟩) hg v
end

/-- The item in its block, the result's block behind it. -/
structure KC (w : World) (x : ItV) (W : World) : Prop where
  blk : BlkI W w.heap.size x
  res : ∃ s A n c, Blk2I W (w.heap.size + 1) (.string s) (.slice A n c)
  bel : Below w.heap.size w W
  ok0 : ItOK w x
section
variable {w W W' : World} {x : ItV}
theorem KC.ok (h : KC w x W) : ItOK W x := h.ok0.below h.bel
theorem KC.next (h : KC w x W) (hb : Below W.heap.size W W') : KC w x W' := by
  obtain ⟨s, A, n, c, hr⟩ := h.res
  exact ⟨h.blk.below hb, ⟨s, A, n, c, hr.below hb⟩, below_trans h.bel hb, h.ok0⟩
theorem KC.drew (h : KC w x W) : KC w x W.drew := h.next (Below.refl _ _).drew
theorem KC.store (h : KC w x W) (s : ByteArray) (A : Option Addr) (n c : Nat) : KC w x ((W.setCell ⟨w.heap.size + 1, 0, none⟩ (.string s)).setCell ⟨w.heap.size + 1, 1, none⟩ (.slice A n c)) := by
  obtain ⟨s', A', n', c', hr⟩ := h.res
  refine ⟨?_, ⟨s, A, n, c, hr.set _ _⟩, below_set2I h.bel (by omega) _ _, h.ok0⟩
  exact (Blk2I.other (Blk2I.other (show Blk2I W w.heap.size (.string ⟨x.nm.toArray⟩) (.slice x.A x.ms.length x.c) from h.blk) (by omega) 0 _) (by omega) 1 _)
theorem KC.second (h : KC w x W) : ∃ s A n c, W.cell? ⟨w.heap.size + 1, 0, none⟩ = some (.string s) ∧ W.cell? ⟨w.heap.size + 1, 1, none⟩ = some (.slice A n c) ∧ W.frozen? ⟨w.heap.size + 1, 0, none⟩ = false ∧ W.frozen? ⟨w.heap.size + 1, 1, none⟩ = false ∧ w.heap.size + 1 < W.heap.size ∧ Blk2I W (w.heap.size + 1) (.string s) (.slice A n c) := by
  obtain ⟨s, A, n, c, hr⟩ := h.res
  exact ⟨s, A, n, c, hr.cell0, hr.cell1, hr.frozen _, hr.frozen _, hr.lt, hr⟩
theorem KC.sp (h : KC w x W) : W.cell? ⟨w.heap.size, 0, none⟩ = some (.string ⟨x.nm.toArray⟩) ∧ W.cell? ⟨w.heap.size, 1, none⟩ = some (.slice x.A x.ms.length x.c) ∧ w.heap.size < W.heap.size ∧ KC w x W := ⟨h.blk.cell0, h.blk.cell1, h.blk.lt, h⟩
theorem KC.new (ho : ItOK w x) : KC w x ((w.alloc (.cells #[.string ⟨x.nm.toArray⟩, .slice x.A x.ms.length x.c] 34)).alloc (.cells #[.string ⟨#[]⟩, .slice none 0 0] 34)) := by
  refine ⟨(BlkI.new w x).below ((Below.refl _ _).alloc (Nat.le_refl _) _), ⟨⟨#[]⟩, none, 0, 0, ?_⟩, ((Below.refl _ w).alloc (Nat.le_refl _) _).alloc (by simp) _, ho⟩
  have h := heap_alloc_new (w.alloc (.cells #[.string ⟨x.nm.toArray⟩, .slice x.A x.ms.length x.c] 34)) (.cells #[.string ⟨#[]⟩, .slice none 0 0] 34)
  rwa [World.size_alloc] at h
end

/-- An item's marks as a value. -/
abbrev slV (x : ItV) : Value := .slice x.A x.ms.length x.c
set_option maxHeartbeats 4000000 in
theorem itClone (x : ItV) (w : World) (hx : ItOK w x) (hn : x.nm.length ≤ 1000000) (hm : x.ms.length ≤ 1000000) :
    Calls Tryz.prog 46 #[mkIt x] w fun e w' => ∃ y : ItV, e = .returned (mkIt y) ∧ y.it = x.it ∧ RowM w' w.heap.size (slV y) y.ms ∧ Below w.heap.size w w' := by
  have K0 := Lib.hid (KC.new hx)
  have HS := Lib.hid fun W => strClone x.nm W hn
  have HM := Lib.hid fun W (h : MarksAt W x.A x.ms) => cloneMarks x.A x.ms x.c W h hm
  clear hx hn hm
  go_enter Tryz.func46, Tryz.ntmps46
  go_wp2_with fail
  generalize World.alloc (World.alloc w _) _ = w1 at K0 ⊢
  have hS := K0.out
  have hS' := KC.sp K0.out
  clear K0
  obtain ⟨q0, q1, q2, _⟩ := id hS'
  obtain ⟨s0, A0, n0, c0, t0, t1, t2, t3, t4, hB3⟩ := hS.second
  go_region_held3 (fun W' => W'.cell? ⟨w.heap.size, 0, none⟩ = some (.string ⟨x.nm.toArray⟩) ∧ W'.cell? ⟨w.heap.size, 1, none⟩ = some (.slice x.A x.ms.length x.c) ∧ w.heap.size < W'.heap.size ∧ KC w x W')
    (first
      | assumption
      | (exact KC.sp (by assumption))
      | (exact KC.sp (KC.drew (by assumption)))
      | (exact KC.sp (KC.store (by assumption) _ _ _ _))
      | (exact KC.sp (KC.store (KC.drew (by assumption)) _ _ _ _)))
    (first
      | (go_at_call 65; refine (HS.out _).mono ?_
         rintro e wa ⟨rfl, hb1⟩
         have hS1 := KC.next (by first | assumption | exact KC.drew (by assumption)) hb1
         have hS1' := KC.sp hS1
         obtain ⟨u0, u1, u2, _⟩ := id hS1'
         obtain ⟨s1, A1, n1, c1, t0, t1, t2, t3, t4, hB3⟩ := hS1.second)
      | (go_at_call 71; refine (HM.out _ (KC.ok (by first | assumption | exact KC.drew (by assumption))).1).mono ?_
         rintro e wb ⟨v, rfl, hv, hb2⟩
         have hz2 := (show KC w x _ by first | assumption | exact KC.drew (by assumption)).second
         have hS2 := KC.next (by first | assumption | exact KC.drew (by assumption)) hb2
         have hS2' := KC.sp hS2
         obtain ⟨A2, c2, rfl, _⟩ := RowM.at hv
         obtain ⟨u0, u1, u2, _⟩ := id hS2'
         obtain ⟨s1, A1, n1, c1, t0, t1, t2, t3, t4, hB3⟩ := hS2.second))
  all_goals
    obtain ⟨_, _, _, _, _, _, _, _, z4, _⟩ := hz2
    have hs := hB3.set (.string ⟨x.nm.toArray⟩) (.slice A2 x.ms.length c2)
    have s6 := hs.cell0
    have s7 := hs.cell1
    have HE := Lib.hid (show ∃ y : ItV, Ending.returned (.agg #[.string ⟨x.nm.toArray⟩, .slice A2 x.ms.length c2]) = .returned (mkIt y) ∧ y.it = x.it ∧ RowM ((wb.setCell ⟨w.heap.size + 1, 0, none⟩ (.string ⟨x.nm.toArray⟩)).setCell ⟨w.heap.size + 1, 1, none⟩ (.slice A2 x.ms.length c2)) w.heap.size (slV y) y.ms ∧ Below w.heap.size w ((wb.setCell ⟨w.heap.size + 1, 0, none⟩ (.string ⟨x.nm.toArray⟩)).setCell ⟨w.heap.size + 1, 1, none⟩ (.slice A2 x.ms.length c2)) from
      ⟨⟨x.nm, A2, c2, x.ms⟩, rfl, rfl, row_set2I (Joins.ownsRow_le hv (by have := hS1.bel.size; omega)) (fun e => by have := (hv.lt _ e).1; omega) _ _, below_set2I hS2.bel (by omega) _ _⟩)
    clear hS1 hS1' hS2 hS2' hv hB3 hs
    go_wp2_with fail
    exact bodyPost_ret (v := .agg #[.string ⟨x.nm.toArray⟩, .slice A2 x.ms.length c2]) (by simp [results, Tryz.results46, go_sem, s6, s7]) rfl HE.out

end Go.Proofs.YtfbkhgajlklleaaGreat
