/- The laws of items: items of one's own, what Find returns. -/
import Derived.Test.YtfbkhgajlklleaaGreatItmV
namespace Go.Proofs.YtfbkhgajlklleaaGreat
open Go.RowKit

theorem OwnI.grow {W W' : World} {B : Nat} {v v' : Value} {ys : List ItV} {y : ItV} (h : OwnI W B v ys) (hy : RowM W B (slV y) y.ms) (hr : RowT W' B v' (ys ++ [y])) (hg : W.grownBy W' v.ownBlock) : OwnI W' B v' (ys ++ [y]) := by
  refine ⟨hr, fun z hz => ?_⟩
  have hk : RowM W B (slV z) z.ms := by
    rcases List.mem_append.1 hz with h' | h'
    · exact h.2 z h'
    · obtain rfl : z = y := by simpa using h'
      exact hy
  refine World.ownsRow.kept hk hg ?_
  rcases h.1.2 with ⟨e, _⟩ | ⟨g, c, cur, e, _, hgg, _⟩
  · rw [e]
    rcases RowM.form hk with ⟨e1, _⟩ | ⟨g1, c1, cur1, e1, _⟩
    · left; rw [e1]; rfl
    · right; rw [e1]; simp [Value.ownBlock]
  · right
    rw [e]
    exact RowM.ne hk hgg

/-- The item in its box, the row that is being made. -/
structure KOwn (w : World) (bx : Nat) (x : ItV) (v : Value) (ys : List ItV) (W : World) : Prop where
  blk : BlkI W bx x
  own : OwnI W w.heap.size v ys
  bel : Below w.heap.size w W
  okx : ItOK W x
  ne : v.ownBlock ≠ some bx
section
variable {w W W' : World} {x : ItV} {bx : Nat} {v : Value} {ys : List ItV}
theorem KOwn.next (h : KOwn w bx x v ys W) (hb : Below W.heap.size W W') : KOwn w bx x v ys W' := ⟨h.blk.below hb, h.own.below hb, below_trans h.bel hb, h.okx.below hb, h.ne⟩
theorem KOwn.drew (h : KOwn w bx x v ys W) : KOwn w bx x v ys W.drew := h.next (Below.refl _ _).drew
theorem KOwn.alloc (h : KOwn w bx x v ys W) (o : Obj) : KOwn w bx x v ys (W.alloc o) := h.next ((Below.refl _ _).alloc (Nat.le_refl _) _)
theorem KOwn.grown (h : KOwn w bx x v ys W) (hg : W.grownBy W' none) : KOwn w bx x v ys W' := h.next ((Below.refl _ _).grown hg (Nat.le_refl _) (fun _ h => by cases h))
theorem KOwn.sp (h : KOwn w bx x v ys W) : W.cell? ⟨bx, 0, none⟩ = some (.string ⟨x.nm.toArray⟩) ∧ W.cell? ⟨bx, 1, none⟩ = some (.slice x.A x.ms.length x.c) ∧ bx < W.heap.size := ⟨h.blk.cell0, h.blk.cell1, h.blk.lt⟩
theorem KOwn.fin {v' : Value} {y : ItV} (h : KOwn w bx x v ys W) (hy : RowM W w.heap.size (slV y) y.ms) (hr : RowT W' w.heap.size v' (ys ++ [y])) (hg : W.grownBy W' v.ownBlock) : OwnI W' w.heap.size v' (ys ++ [y]) ∧ Below w.heap.size w W' ∧ W'.cell? ⟨bx, 0, none⟩ = some (.string ⟨x.nm.toArray⟩) ∧ W'.cell? ⟨bx, 1, none⟩ = some (.slice x.A x.ms.length x.c) ∧ bx < W'.heap.size :=
  have hb : BlkI W' bx x := (hg.block _ h.blk.lt (fun e => h.ne e.symm)).trans h.blk
  ⟨OwnI.grow h.own hy hr hg, h.bel.grown hg h.bel.size (fun k hk => (h.own.1.lt k hk).1), hb.cell0, hb.cell1, hb.lt⟩
theorem KOwn.size (h : KOwn w bx x v ys W) : w.heap.size ≤ W.heap.size := h.bel.size
end

set_option maxRecDepth 100000 in
set_option maxHeartbeats 4000000 in
theorem lawOwn (v : Value) (xs : List ItV) (w : World) (h : HoldsX w v xs) (hm : xs.length ≤ 1000) (hl : ∀ x ∈ xs, x.ms.length ≤ 100000) :
    Calls Tryz.prog 30 #[v] w fun e w' => ∃ v ys, e = .returned v ∧ its ys = its xs ∧ OwnI w' w.heap.size v ys ∧ Below w.heap.size w w' := by
  obtain ⟨tm0, him0, hzm0, hzm1, hzm2⟩ := info_parts infoM
  obtain ⟨ti0, hit0, hzt0, hzt1, hzt2⟩ := info_parts infoIt
  obtain ⟨A, cap, rfl, hx, _⟩ := h
  have HX := Lib.hid hx
  have HL := Lib.hid hl
  clear hx hl
  go_enter Tryz.func30, Tryz.ntmps30
  go_wp2_with fail
  go_loopw [3, 8] (fun v i wr => ∃ (ys : List ItV), ys.length ≤ xs.length ∧ i = .int .i64 (ys.length : Int) ∧ Hid (its ys = (its xs).take ys.length) ∧ Hid (OwnI wr w.heap.size v ys) ∧ Hid (Below w.heap.size w wr)) (fun _ i _ => xs.length - (intOf i).toNat)
  case atStart => exact ⟨[], by simp, rfl, rfl, Lib.hid (OwnI.nil _ _), Lib.hid (Below.refl _ _)⟩
  case round =>
    obtain ⟨ys, hk, rfl, hys, HO, HB⟩ := hrel
    by_cases hlt : ys.length < xs.length
    · have i0 : (ys.length : Int) < (xs.length : Int) := by omega
      obtain ⟨g, off, x, rfl, hbl, hx1, _, hc0, hc1, hok⟩ := (HX.out.below HB.out).cells (j := ys.length) hlt
      have hlx := HL.out x (List.mem_of_getElem? hx1)
      have HX1 := Lib.hid hx1
      have hba : Below wr.heap.size wr (wr.alloc (.cells #[.string ⟨x.nm.toArray⟩, .slice x.A x.ms.length x.c] 34)) := (Below.refl _ wr).alloc (Nat.le_refl _) _
      have K0 := Lib.hid (show KOwn w wr.heap.size x u3 ys (wr.alloc (.cells #[.string ⟨x.nm.toArray⟩, .slice x.A x.ms.length x.c] 34)) from ⟨BlkI.new wr x, HO.out.below hba, below_trans HB.out hba, hok.below hba, fun e => by have := (HO.out.1.lt _ e).2; omega⟩)
      clear hx1 hba hok HO HB
      go_wp2_with fail
      have hS := K0.out
      have hS' := KOwn.sp hS
      obtain ⟨q0, q1, q2⟩ := id hS'
      clear K0
      go_region_held3 (fun W' => W'.cell? ⟨wr.heap.size, 0, none⟩ = some (.string ⟨x.nm.toArray⟩) ∧ W'.cell? ⟨wr.heap.size, 1, none⟩ = some (.slice x.A x.ms.length x.c) ∧ wr.heap.size < W'.heap.size)
        (first
          | assumption
          | (exact KOwn.sp (by assumption))
          | (exact KOwn.sp (KOwn.drew (by assumption)))
          | (exact KOwn.sp (KOwn.alloc (by assumption) _))
          | (exact KOwn.sp (KOwn.drew (KOwn.alloc (by assumption) _))))
        (first
          | (refine step_append_sl (o := ⟨some 17, _, _, _, _, _⟩) _ encM 4 (by rfl) (.const (.slice none 0 0)) (.tmp 16) 32 (by rfl) encM_len (by omega) encM_one w.heap.size 62 tm0 _ 32 Tryz.underlying32 him0 hzm0 hzm1 hzm2 rfl (.slice none 0 0) [] (by rfl) (World.ownsRow_nil _ _ _ _) x.A x.ms.length x.c x.ms (by rfl) (by rfl) (KOwn.okx (by first | assumption | exact KOwn.drew (by assumption) | exact KOwn.alloc (by assumption) _ | exact KOwn.drew (KOwn.alloc (by assumption) _) | exact KOwn.alloc (KOwn.drew (by assumption)) _)).1 (by simp [maxLen]; omega) (by simp; omega) (KOwn.size (by first | assumption | exact KOwn.drew (by assumption) | exact KOwn.alloc (by assumption) _ | exact KOwn.drew (KOwn.alloc (by assumption) _) | exact KOwn.alloc (KOwn.drew (by assumption)) _)) ?_
             intro v1 w1 hown1 hg1 hat1
             rw [List.nil_append] at hown1
             have hS1 := KOwn.grown (by first | assumption | exact KOwn.drew (by assumption) | exact KOwn.alloc (by assumption) _ | exact KOwn.drew (KOwn.alloc (by assumption) _) | exact KOwn.alloc (KOwn.drew (by assumption)) _) hg1
             have hS1' := KOwn.sp hS1
             obtain ⟨u0, u1, u2⟩ := id hS1'
             obtain ⟨A1, c1, rfl, hcl1, hcm1, hmk1⟩ := SlAt.of_own encM_len hown1)
          | (go_at_call 37; refine (lawItem x.nm A1 c1 x.ms _ (by first | exact hmk1 | exact SlAt.below hmk1 (Below.refl _ _).drew) hcl1 hcm1).mono ?_
             rintro e w2 ⟨y, rfl, hy, hoy, hb2⟩
             have hS2 := KOwn.next (by first | assumption | exact KOwn.drew (by assumption) | exact KOwn.alloc (by assumption) _ | exact KOwn.drew (KOwn.alloc (by assumption) _) | exact KOwn.alloc (KOwn.drew (by assumption)) _) hb2
             have hS2' := KOwn.sp hS2
             have hrow2 : RowM w2 w.heap.size (slV y) y.ms := by
               subst hy; exact RowM.below (by first | exact hown1 | exact RowM.below hown1 (Below.refl _ _).drew) hb2
             have HYX := Lib.hid (show y.it = x.it from by rw [hy]; rfl)
             clear hy)
          | (refine step_append_sl (o := ⟨some 20, _, _, _, _, _⟩) _ encIt 2 (by rfl) (.tmp 12) (.tmp 19) 22 (by rfl) encIt_len (by omega) encIt_one w.heap.size 34 ti0 _ 40 Tryz.underlying22 hit0 hzt0 hzt1 hzt2 rfl u3 ys (by rfl) (KOwn.own (by first | assumption | exact KOwn.drew (by assumption) | exact KOwn.alloc (by assumption) _ | exact KOwn.drew (KOwn.alloc (by assumption) _) | exact KOwn.alloc (KOwn.drew (by assumption)) _)).1 _ 1 _ [y] (by rfl) (by rfl) (SlAt.one (heap_alloc_new w2 _)) (by simp [maxLen]; omega) (by simp; omega) (KOwn.size (by first | assumption | exact KOwn.drew (by assumption) | exact KOwn.alloc (by assumption) _ | exact KOwn.drew (KOwn.alloc (by assumption) _) | exact KOwn.alloc (KOwn.drew (by assumption)) _)) ?_
             intro v3 w3 hown3 hg3 hat3
             have hfin := KOwn.fin (KOwn.alloc hS2 _) (RowM.below hrow2 ((Below.refl _ _).alloc (Nat.le_refl _) _)) hown3 hg3
             have hfin' := hfin.2.2))
      all_goals
        have HF := Lib.hid hfin.1
        have HBL := Lib.hid hfin.2.1
        obtain ⟨A3, c3, rfl, _⟩ := SlAt.of_own encIt_len hown3
        have HYS := Lib.hid (its_snoc hys.out HX1.out HYX.out)
        clear hS hS' hS1 hS1' hS2 hS2' hfin hfin' hown1 hown3 hg1 hg3 hat1 hat3 hmk1 hrow2 hb2 hoy hcl1 hcm1
        go_wp2_with fail
        go_roundw
        case rel => exact ⟨ys ++ [y], by simp; omega, by rw [List.length_append, List.length_singleton]; go_num, (by rw [List.length_append, List.length_singleton]; exact HYS), HF, HBL⟩
        case measure => simp [intOf]; omega
    · have hyl : ys.length = xs.length := by omega
      have i0 : ¬ (ys.length : Int) < (xs.length : Int) := by omega
      have HE := Lib.hid (show its ys = its xs from by rw [hys.out, hyl, ← its_len xs, List.take_length])
      have HO2 := HO
      have HB2 := HB
      clear hlt hk hys HO HB hyl
      obtain ⟨A2, c2, rfl, _⟩ := SlAt.of_own encIt_len HO2.out.1
      go_wp2_with fail
      go_ret
      exact ⟨.slice A2 ys.length c2, rfl, ys, HE.out, HO2.out, HB2.out⟩

/-- Items in boxes, and nothing old has changed. -/
structure KZ (w : World) (L : List (Nat × ItV)) (W : World) : Prop where
  box : ∀ p ∈ L, BlkI W p.1 p.2 ∧ ItOK W p.2
  bel : Below w.heap.size w W
section
variable {w W W' : World} {L : List (Nat × ItV)}
theorem KZ.next (h : KZ w L W) (hb : Below W.heap.size W W') : KZ w L W' := ⟨fun p hp => ⟨(h.box p hp).1.below hb, (h.box p hp).2.below hb⟩, below_trans h.bel hb⟩
theorem KZ.drew (h : KZ w L W) : KZ w L W.drew := h.next (Below.refl _ _).drew
theorem KZ.alloc (h : KZ w L W) (o : Obj) : KZ w L (W.alloc o) := h.next ((Below.refl _ _).alloc (Nat.le_refl _) _)
theorem KZ.c0 (h : KZ w L W) {g : Nat} {x : ItV} (hm : (g, x) ∈ L) : W.cell? ⟨g, 0, none⟩ = some (.string ⟨x.nm.toArray⟩) := (h.box _ hm).1.cell0
theorem KZ.c1 (h : KZ w L W) {g : Nat} {x : ItV} (hm : (g, x) ∈ L) : W.cell? ⟨g, 1, none⟩ = some (.slice x.A x.ms.length x.c) := (h.box _ hm).1.cell1
theorem KZ.lt (h : KZ w L W) {g : Nat} {x : ItV} (hm : (g, x) ∈ L) : g < W.heap.size := (h.box _ hm).1.lt
theorem KZ.ok (h : KZ w L W) {g : Nat} {x : ItV} (hm : (g, x) ∈ L) : ItOK W x := (h.box _ hm).2
theorem KZ.push (h : KZ w L W) (x : ItV) (ho : ItOK W x) (n : Nat) (hn : W.heap.size = n) : KZ w (L ++ [(n, x)]) (W.alloc (.cells #[.string ⟨x.nm.toArray⟩, .slice x.A x.ms.length x.c] 34)) := by
  subst hn
  have hb := (Below.refl W.heap.size W).alloc (Nat.le_refl _) (.cells #[.string ⟨x.nm.toArray⟩, .slice x.A x.ms.length x.c] 34)
  refine ⟨fun p hp => ?_, (h.next hb).bel⟩
  rcases List.mem_append.1 hp with k | k
  · exact (h.next hb).box p k
  · obtain rfl : p = (W.heap.size, x) := by simpa using k
    exact ⟨BlkI.new W x, ho.below hb⟩
/-- The two boxes of one that looks at two. -/
theorem KZ.sp2 {g g' : Nat} {x y : ItV} (h : KZ w [(g, x), (g', y)] W) : W.cell? ⟨g, 0, none⟩ = some (.string ⟨x.nm.toArray⟩) ∧ W.cell? ⟨g, 1, none⟩ = some (.slice x.A x.ms.length x.c) ∧ W.cell? ⟨g', 0, none⟩ = some (.string ⟨y.nm.toArray⟩) ∧ W.cell? ⟨g', 1, none⟩ = some (.slice y.A y.ms.length y.c) ∧ g < W.heap.size ∧ g' < W.heap.size ∧ KZ w [(g, x), (g', y)] W :=
  ⟨h.c0 (by simp), h.c1 (by simp), h.c0 (by simp), h.c1 (by simp), h.lt (x := x) (by simp), h.lt (x := y) (by simp), h⟩
end
/-- One item, two items that were written out. -/
theorem holdsA (W : World) (n : Nat) (x : ItV) (hn : W.heap.size = n) (ho : ItOK W x) : HoldsX (W.alloc (.cells #[.string ⟨x.nm.toArray⟩, .slice x.A x.ms.length x.c] 34)) (.slice (some ⟨n, 0, none⟩) 1 1) [x] := by
  subst hn
  exact ⟨_, 1, rfl, ⟨SlAt.one (heap_alloc_new W _), fun y hy => by
    obtain rfl : y = x := by simpa using hy
    exact ho.below ((Below.refl _ _).alloc (Nat.le_refl _) _)⟩, by simp, by simp [maxLen]⟩
theorem holdsB (W : World) (n : Nat) (x y : ItV) (hn : W.heap.size = n) (ho : ItOK W x) (hp : ItOK W y) : HoldsX (W.alloc (.cells #[.string ⟨x.nm.toArray⟩, .slice x.A x.ms.length x.c, .string ⟨y.nm.toArray⟩, .slice y.A y.ms.length y.c] 34)) (.slice (some ⟨n, 0, none⟩) 2 2) [x, y] :=
  ⟨_, 2, rfl, ⟨SlAt.litAt encIt_len W n hn 34 [x, y] (by simp [maxLen]), fun z hz => by
    have hb := (Below.refl W.heap.size W).alloc (Nat.le_refl _) (.cells #[.string ⟨x.nm.toArray⟩, .slice x.A x.ms.length x.c, .string ⟨y.nm.toArray⟩, .slice y.A y.ms.length y.c] 34)
    rcases (by simpa using hz : z = x ∨ z = y) with e | e <;> subst e
    · exact ho.below hb
    · exact hp.below hb⟩, by simp, by simp [maxLen]⟩

set_option maxRecDepth 100000 in
set_option maxHeartbeats 4000000 in
theorem lawFinds (v : Value) (xs : List ItV) (nm : List UInt8) (x : ItV) (n : Nat) (w : World) (h : HoldsX w v xs) (ho : ItOK w x) (hf : Fits xs) (hv : findV (its xs) nm = (x.it, n)) :
    Calls Tryz.prog 18 #[v, .string ⟨nm.toArray⟩, mkIt x, .int .i64 (n : Int)] w (TrueB w) := by
  have hba := (Below.refl w.heap.size w).alloc (Nat.le_refl _) (.cells #[.string ⟨x.nm.toArray⟩, .slice x.A x.ms.length x.c] 34)
  have HP := Lib.hid (itFind_h v xs nm _ (h.below hba) hf)
  have B0 := Lib.hid (BlkI.new w x)
  have HO := Lib.hid ho
  have HB := Lib.hid hba
  obtain ⟨A, c, rfl, _⟩ := id h
  clear hba h ho
  go_enter Tryz.func18, Tryz.ntmps18
  go_wp2_with fail
  refine HP.out.mono ?_
  rintro e w1 ⟨⟨y, n', rfl, hy, hok⟩, hb1⟩
  rw [hv] at hy
  have hn : n = n' := congrArg Prod.snd hy
  have hit : x.it = y.it := congrArg Prod.fst hy
  subst hn
  have hb2 := (Below.refl w1.heap.size w1).alloc (Nat.le_refl _) (.cells #[.string ⟨y.nm.toArray⟩, .slice y.A y.ms.length y.c] 34)
  have K := Lib.hid (show KZ w [(w.heap.size, x), (w1.heap.size, y)] (w1.alloc (.cells #[.string ⟨y.nm.toArray⟩, .slice y.A y.ms.length y.c] 34)) from
    KZ.push (L := [(w.heap.size, x)]) ⟨fun p hp => by
      obtain rfl : p = (w.heap.size, x) := by simpa using hp
      exact ⟨B0.out.below hb1, HO.out.below (below_trans HB.out hb1)⟩, below_trans HB.out hb1⟩ y hok w1.heap.size rfl)
  have HEQ := Lib.hid (show decide (its [y] = its [x]) = true from decide_eq_true (by simp [hit]))
  clear hy hit hok hb1 hb2 hv
  go_wp2_with fail
  generalize w1.heap.size = g at K ⊢
  generalize World.alloc w1 _ = w2 at K ⊢
  have hS := K.out
  have hS' := KZ.sp2 hS
  clear K
  go_region_held3 (fun W => W.cell? ⟨w.heap.size, 0, none⟩ = some (.string ⟨x.nm.toArray⟩) ∧ W.cell? ⟨w.heap.size, 1, none⟩ = some (.slice x.A x.ms.length x.c) ∧ W.cell? ⟨g, 0, none⟩ = some (.string ⟨y.nm.toArray⟩) ∧ W.cell? ⟨g, 1, none⟩ = some (.slice y.A y.ms.length y.c) ∧ w.heap.size < W.heap.size ∧ g < W.heap.size ∧ KZ w [(w.heap.size, x), (g, y)] W)
    (first
      | assumption
      | (exact KZ.sp2 (by assumption))
      | (exact KZ.sp2 (KZ.drew (by assumption)))
      | (exact KZ.sp2 (KZ.alloc (by assumption) _))
      | (exact KZ.sp2 (KZ.drew (KZ.alloc (by assumption) _)))
      | (exact KZ.sp2 (KZ.alloc (KZ.alloc (by assumption) _) _))
      | (exact KZ.sp2 (KZ.drew (KZ.alloc (KZ.alloc (by assumption) _) _)))
      | (exact KZ.sp2 (KZ.alloc (KZ.drew (KZ.alloc (by assumption) _)) _)))
    (first
      | (go_at_call 27; refine (lawOf9 _ _).mono ?_
         rintro e wa ⟨rfl, rfl⟩)
      | (go_at_call 14; refine (refEqual_h _ _ [y] [x] true _
           (by first
             | exact ((holdsA _ _ y (by simp) (KZ.ok (g := g) hS (by simp))).below ((Below.refl _ _).alloc (Nat.le_refl _) _)).drew
             | exact (holdsA _ _ y (by simp) (KZ.ok (g := g) (KZ.alloc hS _) (by simp))).drew)
           (by first
             | exact (holdsA _ _ x (by simp) (KZ.ok (g := w.heap.size) (KZ.alloc hS _) (by simp))).drew
             | exact ((holdsA _ _ x (by simp) (KZ.ok (g := w.heap.size) hS (by simp))).below ((Below.refl _ _).alloc (Nat.le_refl _) _)).drew)
           (by simp) (by simp) HEQ.out).mono ?_
         rintro e wb ⟨rfl, hb⟩
         have hS1 := KZ.next (by first | assumption | exact KZ.drew (KZ.alloc (KZ.alloc hS _) _)) hb))
  all_goals
    have HS := Lib.hid hS1.bel
    clear hS hS' hS1 hb
    go_wp2_with fail
    go_ret
    exact OneB.bool (by simp) HS.out

end Go.Proofs.YtfbkhgajlklleaaGreat
