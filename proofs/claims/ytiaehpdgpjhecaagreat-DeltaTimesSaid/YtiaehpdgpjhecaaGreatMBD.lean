/- Several texts in one: CarZ. -/
import Derived.Test.YtiaehpdgpjhecaaGreatMBC
namespace Go.Proofs.YtiaehpdgpjhecaaGreat

section
open Go.RowKit

theorem ItemsAt.of_holds {W : World} {A : Option Addr} {n d : Nat} {xs : List ItV} (h : HoldsX W (.slice A n d) xs) : ItemsAt W A xs := by
  obtain ⟨A', m, e, h1, _⟩ := h
  injection e with e1 e2 e3
  rw [e1]; exact h1
theorem items_at {W : World} {A : Option Addr} {n d : Nat} {xs : List ItV} (h : HoldsX W (.slice A n d) xs) : SlAt encIt 2 W A xs := (ItemsAt.of_holds h).1
theorem KY.next {w W W' : World} {c : CaV} {g : Nat} {v l iv : Value} {ys : List ItV} (h : KY w c g v l iv ys W) (hb : Below W.heap.size W W') : KY w c g v l iv ys W' :=
  ⟨h.kr.next hb, (hb.block g (Array.getElem?_eq_some_iff.1 h.out).1).trans h.out, h.gb, h.rv.below hb, h.rl.below hb, h.ri.below hb⟩
/-- What the copy's step reads. -/
theorem KR.scell {w W : World} {c : CaV} {b off k : Nat} {u0 u1 : Value} (h : KR w c W) (hI : c.I = some ⟨b, off, none⟩) (hb : b < w.heap.size) (h0 : w.cell? ⟨b, off + k * 2, none⟩ = some u0) (h1 : w.cell? ⟨b, off + k * 2 + 1, none⟩ = some u1) :
    W.cell? ⟨w.heap.size, 2, none⟩ = some (.slice (some ⟨b, off, none⟩) c.xs.length c.ni) ∧ W.cell? ⟨b, off + k * 2, none⟩ = some u0 ∧ W.cell? ⟨b, off + k * 2 + 1, none⟩ = some u1 :=
  ⟨by rw [← hI]; exact h.sp.2.2.1, (h.kb.bel.cell (p := ⟨b, off + k * 2, none⟩) hb).trans h0, (h.kb.bel.cell (p := ⟨b, off + k * 2 + 1, none⟩) hb).trans h1⟩
/-- Behind the append: the box still has the old row. -/
structure KYo (w : World) (c : CaV) (g : Nat) (v l iv v' : Value) (zs : List ItV) (W : World) : Prop where
  kr : KR w c W
  out : W.heap[g]? = some (.cells #[v, l, iv] 28 (0, 0))
  gb : w.heap.size + 1 < g
  rv : RowC W w.heap.size v c.vs
  rl : RowC W w.heap.size l c.ls
  ri : OwnI W w.heap.size v' zs
theorem KY.grow {w W W' : World} {c : CaV} {g : Nat} {v l iv v' : Value} {ys : List ItV} {y : ItV} (h : KY w c g v l iv ys W) (hy : RowM W w.heap.size (slV y) y.ms) (hr : W'.ownsRow w.heap.size 50 2 v' (ys ++ [y]).length (cellsOf encIt (ys ++ [y]))) (hg : W.grownBy W' iv.ownBlock) : KYo w c g v l iv v' (ys ++ [y]) W' := by
  have hi := h.ri.1
  refine ⟨⟨⟨blk_typed h.kr.kb.blk hi (by decide) hg, ?_, h.kr.kb.ok0⟩, blk_typed h.kr.res hi (by decide) hg⟩, blk_typed h.out hi (by decide) hg, h.gb, keep_typed h.rv hi (by decide) hg, keep_typed h.rl hi (by decide) hg, OwnI.grow h.ri hy hr hg⟩
  exact h.kr.kb.bel.grown hg h.kr.size (fun j hj => (hi.lt j hj).1)
theorem KYo.cells {w W : World} {c : CaV} {g : Nat} {v l iv v' : Value} {zs : List ItV} (h : KYo w c g v l iv v' zs W) : W.cell? ⟨g, 0, none⟩ = some v ∧ W.cell? ⟨g, 1, none⟩ = some l ∧ W.cell? ⟨g, 2, none⟩ = some iv ∧ W.frozen? ⟨g, 0, none⟩ = false ∧ W.frozen? ⟨g, 1, none⟩ = false ∧ W.frozen? ⟨g, 2, none⟩ = false ∧ g < W.heap.size := by
  obtain ⟨_, s⟩ := boxC_kept (Below.refl _ _) h.out
  exact s
theorem KYo.stored {w W : World} {c : CaV} {g : Nat} {v l iv v' : Value} {zs : List ItV} (h : KYo w c g v l iv v' zs W) : KY w c g v l v' zs (W.setCell ⟨g, 2, none⟩ v') := by
  have hgb := h.gb
  have ho : ∀ k, k ≠ g → (W.setCell ⟨g, 2, none⟩ v').heap[k]? = W.heap[k]? := fun k hk => Below.heap_setCell W ⟨g, 2, none⟩ v' k hk
  refine ⟨⟨⟨(ho _ (by omega)).trans h.kr.kb.blk, h.kr.kb.bel.setCell (p := ⟨g, 2, none⟩) (by simp; omega) _, h.kr.kb.ok0⟩, (ho _ (by omega)).trans h.kr.res⟩, ?_, h.gb, row_set1 h.rv h.out (by decide), row_set1 h.rl h.out (by decide), ⟨row_set1 h.ri.1 h.out (by decide), fun z hz => row_set1 (h.ri.2 z hz) h.out (by decide)⟩⟩
  show (W.heap.modify g _)[g]? = _
  rw [Array.getElem?_modify, if_pos rfl, h.out]
  rfl

set_option maxRecDepth 100000 in
set_option maxHeartbeats 8000000 in
theorem refCopy10 (c : CaV) (w : World) (hc : CaOK w c) (hf : FitsC c) :
    Calls Tryz.prog 11 #[mkC c] w fun e w' => ∃ k : CaV, e = .returned (mkC k) ∧ k.ca = c.ca ∧ RowC w' w.heap.size k.v c.vs ∧ RowC w' w.heap.size k.l c.ls ∧ OwnI w' w.heap.size k.i k.xs ∧ Below w.heap.size w w' := by
  obtain ⟨td0, hid0, hzd0, hzd1, hzd2⟩ := info_parts infoD
  obtain ⟨tm0, him, hzm0, hzm1, hzm2⟩ := info_parts infoM
  obtain ⟨ti0, hii, hzi0, hzi1, hzi2⟩ := info_parts infoIt
  have K0 := Lib.hid (KR.new w c hc)
  have HF := Lib.hid hf
  have hv400 : c.vs.length ≤ 400 := hf.1
  have hl400 : c.ls.length ≤ 400 := hf.2.1
  clear hc hf
  go_enter Tryz.func11, Tryz.ntmps11
  go_upto_region 1 with fail
  generalize World.alloc (World.alloc w _) _ = w2 at K0 ⊢
  go_cut [3] (fun v3 wx => ∃ (g : Nat) (v l : Value), v3 = .pointer (some ⟨g, 0, none⟩) ∧ Hid (KY w c g v l (.slice none 0 0) [] wx))
  case first =>
    have hS := K0.out
    have hS' := KR.sp hS
    have ho := hS.kb.ok
    clear K0
    go_wp2_with fail
    go_region_held3 (fun W => W.cell? ⟨w.heap.size, 0, none⟩ = some c.v ∧ W.cell? ⟨w.heap.size, 1, none⟩ = some c.l ∧ W.cell? ⟨w.heap.size, 2, none⟩ = some c.i ∧ w.heap.size < W.heap.size ∧ KR w c W)
      (first
        | assumption
        | (exact KR.sp (by assumption))
        | (exact KR.sp (KR.drew (by assumption)))
        | (exact KR.sp (KR.alloc (by assumption) _))
        | (exact KR.sp (KR.drew (KR.alloc (by assumption) _)))
        | (exact KR.sp (KR.set3 (by assumption) (by first | exact KR.lt hS | exact KR.lt hS8 | exact KR.lt hS12) _ _ _)))
      (first
        | (refine step_append_sl (o := ⟨some 8, _, _, _, _, _⟩) _ encD 2 (by rfl) (.const (.slice none 0 0)) (.tmp 7) 23 (by rfl) encD_len (by omega) encD_one w.heap.size 30 td0 _ 16 Tryz.underlying23 hid0 hzd0 hzd1 hzd2 rfl (.slice none 0 0) [] (by rfl) (World.ownsRow_nil _ _ _ _) c.V c.vs.length c.nv c.vs (by rfl) (by rfl) (KR.holdsV (by first | assumption | exact KR.drew (by assumption) | exact KR.alloc (by assumption) _ | exact KR.alloc (KR.drew (by assumption)) _ | exact KR.drew (KR.alloc (by assumption) _))) (by simp [maxLen]; omega) (by simp; omega) (KR.size (by first | assumption | exact KR.drew (by assumption) | exact KR.alloc (by assumption) _ | exact KR.alloc (KR.drew (by assumption)) _ | exact KR.drew (KR.alloc (by assumption) _))) ?_
           intro v8 w8 hown8 hg8 hat8
           rw [List.nil_append] at hown8
           obtain ⟨A8, d8, rfl, _, _, _⟩ := SlAt.of_own encD_len hown8
           have hS8 := KR.grown (by first | assumption | exact KR.drew (by assumption) | exact KR.alloc (by assumption) _ | exact KR.alloc (KR.drew (by assumption)) _ | exact KR.drew (KR.alloc (by assumption) _)) hg8
           have hb8 := KR.gbel (by first | assumption | exact KR.drew (by assumption) | exact KR.alloc (by assumption) _ | exact KR.alloc (KR.drew (by assumption)) _ | exact KR.drew (KR.alloc (by assumption) _)) hg8
           first
             | (have hrow := RowC.below hown12 hb8)
             | (have hrow := RowC.below (RowC.below hown12 (Below.refl _ _).drew) hb8)
             | (have hrow := RowC.below (RowC.below hown12 ((Below.refl _ _).alloc (Nat.le_refl _) _)) hb8)
             | skip
           first
             | (have hbx := boxC_kept (n := w2.heap.size) hb8 gb; obtain ⟨gb, g0, g1, g2, g3, g4, g5, g6⟩ := id hbx)
             | (have hbx := boxC_kept (n := w2.heap.size) hb8 (heap_alloc_new w2 (.cells #[.slice none 0 0, .slice none 0 0, .slice none 0 0] 28)); obtain ⟨gb, g0, g1, g2, g3, g4, g5, g6⟩ := id hbx)
             | (have hbx := boxC_kept (n := w12.heap.size) hb8 (heap_alloc_new w12 (.cells #[.slice none 0 0, .slice none 0 0, .slice none 0 0] 28)); obtain ⟨gb, g0, g1, g2, g3, g4, g5, g6⟩ := id hbx)
             | skip)
        | (refine step_append_sl (o := ⟨some 12, _, _, _, _, _⟩) _ encD 2 (by rfl) (.const (.slice none 0 0)) (.tmp 11) 22 (by rfl) encD_len (by omega) encD_one w.heap.size 30 td0 _ 16 Tryz.underlying22 hid0 hzd0 hzd1 hzd2 rfl (.slice none 0 0) [] (by rfl) (World.ownsRow_nil _ _ _ _) c.L c.ls.length c.nl c.ls (by rfl) (by rfl) (KR.holdsL (by first | assumption | exact KR.drew (by assumption) | exact KR.alloc (by assumption) _ | exact KR.alloc (KR.drew (by assumption)) _ | exact KR.drew (KR.alloc (by assumption) _))) (by simp [maxLen]; omega) (by simp; omega) (KR.size (by first | assumption | exact KR.drew (by assumption) | exact KR.alloc (by assumption) _ | exact KR.alloc (KR.drew (by assumption)) _ | exact KR.drew (KR.alloc (by assumption) _))) ?_
           intro v12 w12 hown12 hg12 hat12
           rw [List.nil_append] at hown12
           obtain ⟨A12, d12, rfl, _, _, _⟩ := SlAt.of_own encD_len hown12
           have hS12 := KR.grown (by first | assumption | exact KR.drew (by assumption) | exact KR.alloc (by assumption) _ | exact KR.alloc (KR.drew (by assumption)) _ | exact KR.drew (KR.alloc (by assumption) _)) hg12
           have hb12 := KR.gbel (by first | assumption | exact KR.drew (by assumption) | exact KR.alloc (by assumption) _ | exact KR.alloc (KR.drew (by assumption)) _ | exact KR.drew (KR.alloc (by assumption) _)) hg12
           first
             | (have hrow := RowC.below hown8 hb12)
             | (have hrow := RowC.below (RowC.below hown8 (Below.refl _ _).drew) hb12)
             | (have hrow := RowC.below (RowC.below hown8 ((Below.refl _ _).alloc (Nat.le_refl _) _)) hb12)
             | skip
           first
             | (have hbx := boxC_kept (n := w2.heap.size) hb12 gb; obtain ⟨gb, g0, g1, g2, g3, g4, g5, g6⟩ := id hbx)
             | (have hbx := boxC_kept (n := w2.heap.size) hb12 (heap_alloc_new w2 (.cells #[.slice none 0 0, .slice none 0 0, .slice none 0 0] 28)); obtain ⟨gb, g0, g1, g2, g3, g4, g5, g6⟩ := id hbx)
             | (have hbx := boxC_kept (n := w8.heap.size) hb12 (heap_alloc_new w8 (.cells #[.slice none 0 0, .slice none 0 0, .slice none 0 0] 28)); obtain ⟨gb, g0, g1, g2, g3, g4, g5, g6⟩ := id hbx)
             | skip))
    · have HK := Lib.hid (KY.new hS12 hrow hown12)
      clear hS hS' hS8 hS12 hrow hown8 hown12 hg8 hg12 hat8 hat12 hb8 hb12 ho
      go_wp2_with fail
      go_meet
      exact ⟨_, _, _, rfl, HK⟩
    · have HK := Lib.hid (KY.set hS12 gb hS8.lt hrow hown12)
      clear hS hS' hS8 hS12 hrow hown8 hown12 hg8 hg12 hat8 hat12 hb8 hb12 ho
      go_wp2_with fail
      go_meet
      exact ⟨_, _, _, rfl, HK⟩
    · have HK := Lib.hid (KY.set hS12 gb hS.lt hrow hown12)
      clear hS hS' hS8 hS12 hrow hown8 hown12 hg8 hg12 hat8 hat12 hb8 hb12 ho
      go_wp2_with fail
      go_meet
      exact ⟨_, _, _, rfl, HK⟩
  case rest =>
    clear K0
    obtain ⟨g, v, l, rfl, KY0⟩ := hcut
    go_wp2_with fail
    go_loopw [4] (fun i wr => ∃ (k : Nat) (iv : Value) (ys : List ItV), k ≤ c.xs.length ∧ ys.length = k ∧ i = .int .i64 k ∧ Hid (its ys = (its c.xs).take k) ∧ Hid (KY w c g v l iv ys wr)) (fun i _ => c.xs.length - (intOf i).toNat)
    case atStart => exact ⟨0, _, [], by omega, rfl, rfl, Lib.hid rfl, KY0⟩
    case round =>
      clear KY0
      obtain ⟨k, iv, ys, hk, hyl, rfl, HY, K⟩ := hrel
      obtain ⟨x0, x1, x2, xl, _⟩ := K.out.kr.kb.sp
      by_cases hlt : k < c.xs.length
      · obtain rfl : ys.length = k := hyl
        have i0 : (ys.length : Int) < (c.xs.length : Int) := by omega
        have i1 : (0 : Int) ≤ (ys.length : Int) := by omega
        obtain ⟨b, off, x, hI, hb0, hx1, _, h0, h1, hok⟩ := (ItemsAt.of_holds K.out.kr.kb.ok0.2.2).cells (j := ys.length) hlt
        have hx1' := hx1
        have hxf := HF.out.2.2.2 x (List.mem_of_getElem? hx1)
        have hm100 := HF.out.2.2.1
        have HOK := Lib.hid fun W (h : KR w c W) => hok.below h.kb.bel
        have HCI := Lib.hid hI
        have KD := Lib.hid (K.out.next (Below.refl _ _).drew)
        go_wp2_with fail
        refine wp_region_held_drew (S := (fun W => W.cell? ⟨w.heap.size, 2, none⟩ = some (.slice (some ⟨b, off, none⟩) c.xs.length c.ni) ∧ W.cell? ⟨b, off + ys.length * 2, none⟩ = some (.string ⟨x.nm.toArray⟩) ∧ W.cell? ⟨b, off + ys.length * 2 + 1, none⟩ = some (.slice x.A x.ms.length x.c))) (by kernel_rfl) ?_ (fun hHeld => ?_)
        · exact KR.scell KD.out.kr HCI.out hb0 h0 h1
        generalize World.drew wr = wd at KD hHeld ⊢
        clear K x0 x1 x2 xl hx1 hok hI
        refine wpAnyH_take (i := 0) (oi := ⟨some 22, _, _, _, _, _⟩) (v := ?_) rfl (by kernel_rfl) (by kernel_rfl) (by kernel_rfl) (fun _ _ _ h => h) (Or.inl ⟨by rfl, ?_⟩) (by assumption) ?_
        rotate_left 1
        · intro w hSw
          (try dsimp only at hSw)
          go_simp
          try with_reducible rfl
        try simp only [Act.put, List.setIfInBounds_toArray, List.set_cons_zero, List.set_cons_succ]
        refine wpAnyH_take (i := 2) (oi := ⟨some 24, _, _, _, _, _⟩) (v := ?_) rfl (by kernel_rfl) (by kernel_rfl) (by kernel_rfl) (fun _ _ _ h => h) (Or.inl ⟨by rfl, ?_⟩) (by assumption) ?_
        rotate_left 1
        · intro w hSw
          (try dsimp only at hSw)
          go_simp
          try with_reducible rfl
        try simp only [Act.put, List.setIfInBounds_toArray, List.set_cons_zero, List.set_cons_succ]
        refine wpAnyH_take (i := 3) (oi := ⟨some 25, _, _, _, _, _⟩) (v := ?_) rfl (by kernel_rfl) (by kernel_rfl) (by kernel_rfl) (fun _ _ _ h => h) (Or.inl ⟨by rfl, ?_⟩) (by assumption) ?_
        rotate_left 1
        · intro w hSw
          (try dsimp only at hSw)
          go_simp
          try with_reducible rfl
        try simp only [Act.put, List.setIfInBounds_toArray, List.set_cons_zero, List.set_cons_succ]
        refine wpAnyH_take (i := 4) (oi := ⟨some 26, _, _, _, _, _⟩) (v := ?_) rfl (by kernel_rfl) (by kernel_rfl) (by kernel_rfl) (fun _ _ _ h => h) (Or.inl ⟨by rfl, ?_⟩) (by assumption) ?_
        rotate_left 1
        · intro w hSw
          (try dsimp only at hSw)
          go_simp
          try with_reducible rfl
        try simp only [Act.put, List.setIfInBounds_toArray, List.set_cons_zero, List.set_cons_succ]
        refine wpAnyH_take (i := 5) (oi := ⟨some 27, _, _, _, _, _⟩) (v := ?_) rfl (by kernel_rfl) (by kernel_rfl) (by kernel_rfl) (fun _ _ _ h => h) (Or.inl ⟨by rfl, ?_⟩) (by assumption) ?_
        rotate_left 1
        · intro w hSw
          (try dsimp only at hSw)
          go_simp
          try with_reducible rfl
        try simp only [Act.put, List.setIfInBounds_toArray, List.set_cons_zero, List.set_cons_succ]
        refine wpAnyH_take (i := 6) (oi := ⟨some 28, _, _, _, _, _⟩) (v := ?_) rfl (by kernel_rfl) (by kernel_rfl) (by kernel_rfl) (fun _ _ _ h => h) (Or.inl ⟨by rfl, ?_⟩) (by assumption) ?_
        rotate_left 1
        · intro w hSw
          (try dsimp only at hSw)
          go_simp
          try with_reducible rfl
        try simp only [Act.put, List.setIfInBounds_toArray, List.set_cons_zero, List.set_cons_succ]
        refine wpAnyH_take (i := 7) (oi := ⟨some 29, _, _, _, _, _⟩) (v := ?_) rfl (by kernel_rfl) (by kernel_rfl) (by kernel_rfl) (fun _ _ _ h => h) (Or.inl ⟨by rfl, ?_⟩) (by assumption) ?_
        rotate_left 1
        · intro w hSw
          (try dsimp only at hSw)
          go_simp
          try with_reducible rfl
        try simp only [Act.put, List.setIfInBounds_toArray, List.set_cons_zero, List.set_cons_succ]
        refine wpAnyH_take (i := 8) (oi := ⟨some 30, _, _, _, _, _⟩) (v := ?_) rfl (by kernel_rfl) (by kernel_rfl) (by kernel_rfl) (fun _ _ _ h => h) (Or.inl ⟨by rfl, ?_⟩) (by assumption) ?_
        rotate_left 1
        · intro w hSw
          (try dsimp only at hSw)
          go_simp
          try with_reducible rfl
        try simp only [Act.put, List.setIfInBounds_toArray, List.set_cons_zero, List.set_cons_succ]
        refine wpAnyH_take (i := 9) (oi := ⟨some 31, _, _, _, _, _⟩) (v := ?_) rfl (by kernel_rfl) (by kernel_rfl) (by kernel_rfl) (fun _ _ _ h => h) (Or.inl ⟨by rfl, ?_⟩) (by assumption) ?_
        rotate_left 1
        · intro w hSw
          (try dsimp only at hSw)
          go_simp
          try with_reducible rfl
        try simp only [Act.put, List.setIfInBounds_toArray, List.set_cons_zero, List.set_cons_succ]
        refine wpAnyH_take (i := 10) (oi := ⟨some 32, _, _, _, _, _⟩) (v := ?_) rfl (by kernel_rfl) (by kernel_rfl) (by kernel_rfl) (fun _ _ _ h => h) (Or.inl ⟨by rfl, ?_⟩) (by assumption) ?_
        rotate_left 1
        · intro w hSw
          (try dsimp only at hSw)
          go_simp
          try with_reducible rfl
        try simp only [Act.put, List.setIfInBounds_toArray, List.set_cons_zero, List.set_cons_succ]
        refine wpAnyH_take (i := 11) (oi := ⟨some 33, _, _, _, _, _⟩) (v := ?_) rfl (by kernel_rfl) (by kernel_rfl) (by kernel_rfl) (fun _ _ _ h => h) (Or.inl ⟨by rfl, ?_⟩) (by assumption) ?_
        rotate_left 1
        · intro w hSw
          (try dsimp only at hSw)
          go_simp
          try with_reducible rfl
        try simp only [Act.put, List.setIfInBounds_toArray, List.set_cons_zero, List.set_cons_succ]
        refine wpAnyH_take (i := 12) (oi := ⟨some 34, _, _, _, _, _⟩) (v := ?_) rfl (by kernel_rfl) (by kernel_rfl) (by kernel_rfl) (fun _ _ _ h => h) (Or.inl ⟨by rfl, ?_⟩) (by assumption) ?_
        rotate_left 1
        · intro w hSw
          (try dsimp only at hSw)
          go_simp
          try with_reducible rfl
        try simp only [Act.put, List.setIfInBounds_toArray, List.set_cons_zero, List.set_cons_succ]
        refine wpAnyH_take (i := 13) (oi := ⟨some 35, _, _, _, _, _⟩) (v := ?_) rfl (by kernel_rfl) (by kernel_rfl) (by kernel_rfl) (fun _ _ _ h => h) (Or.inl ⟨by rfl, ?_⟩) (by assumption) ?_
        rotate_left 1
        · intro w hSw
          (try dsimp only at hSw)
          go_simp
          try with_reducible rfl
        try simp only [Act.put, List.setIfInBounds_toArray, List.set_cons_zero, List.set_cons_succ]
        refine wpAnyH_ready (rs := [1, 14]) (by kernel_rfl) (by simp) ?_
        refine AllReadyH.cons (o := ⟨some 23, _, _, _, _, _⟩) rfl (fun K hK => ?_) (AllReadyH.cons (o := ⟨some 36, _, _, _, _, _⟩) rfl (fun K hK => ?_) AllReadyH.nil)
        · obtain ⟨_, s0, s1, s2, f0, f1, f2, hgl⟩ := boxC_kept (Below.refl _ _) KD.out.out
          go_simp
          refine hK.out _ _ ?_ (fun hHeld => ?_)
          · exact KR.scell KD.out.kr HCI.out hb0 h0 h1
          clear hK
          try simp only [Act.put, List.setIfInBounds_toArray, List.set_cons_zero, List.set_cons_succ]
          clear s0 s1 s2 f0 f1 f2 hgl
          refine wpAnyH_ready (rs := [14]) (by kernel_rfl) (by simp) ?_
          refine AllReadyH.cons (o := ⟨some 36, _, _, _, _, _⟩) rfl (fun K hK => ?_) AllReadyH.nil
          refine step_append_sl (o := ⟨some 36, _, _, _, _, _⟩) _ encM 4 (by rfl) (.const (.slice none 0 0)) (.tmp 35) 48 (by rfl) encM_len (by omega) encM_one w.heap.size 55 tm0 _ 32 Tryz.underlying48 him hzm0 hzm1 hzm2 rfl (.slice none 0 0) [] (by rfl) (World.ownsRow_nil _ _ _ _) x.A x.ms.length x.c x.ms (by rfl) rfl (HOK.out _ KD.out.kr).1 (by simp [maxLen]; omega) (by simp; omega) KD.out.kr.size ?_
          intro v14 w14 hown14 hg14 hat14
          rw [List.nil_append] at hown14
          obtain ⟨A14, c14, rfl, _, _, _⟩ := SlAt.of_own encM_len hown14
          have K14 := Lib.hid (KD.out.next (KD.out.kr.gbel hg14))
          have HM14 := Lib.hid (show RowM w14 w.heap.size (slV ⟨x.nm, A14, c14, x.ms⟩) x.ms from hown14)
          refine hK.out _ _ ?_ (fun hHeld => ?_)
          · exact KR.scell K14.out.kr HCI.out hb0 h0 h1
          clear hK
          try simp only [Act.put, List.setIfInBounds_toArray, List.set_cons_zero, List.set_cons_succ]
          clear hown14 hg14 hat14 KD
          refine wpAnyH_take (i := 15) (oi := ⟨some 37, _, _, _, _, _⟩) (v := ?_) rfl (by kernel_rfl) (by kernel_rfl) (by kernel_rfl) (fun _ _ _ h => h) (Or.inl ⟨by rfl, ?_⟩) (by assumption) ?_
          rotate_left 1
          · intro w hSw
            (try dsimp only at hSw)
            go_simp
            try with_reducible rfl
          try simp only [Act.put, List.setIfInBounds_toArray, List.set_cons_zero, List.set_cons_succ]
          refine wpAnyH_ready (rs := [16]) (by kernel_rfl) (by simp) ?_
          refine AllReadyH.cons (o := ⟨some 38, _, _, _, _, _⟩) rfl (fun K hK => ?_) AllReadyH.nil
          go_simp
          have HAL := Lib.hid ((Below.refl w14.heap.size w14).alloc (Nat.le_refl _) (.cells #[.string ⟨x.nm.toArray⟩, .slice A14 x.ms.length c14] 50))
          have K16 := Lib.hid (K14.out.next HAL.out)
          have HM16 := Lib.hid (show RowM (w14.alloc (.cells #[.string ⟨x.nm.toArray⟩, .slice A14 x.ms.length c14] 50)) w.heap.size (slV ⟨x.nm, A14, c14, x.ms⟩) x.ms from RowM.below HM14.out HAL.out)
          have HX16 := Lib.hid (holdsA w14 w14.heap.size ⟨x.nm, A14, c14, x.ms⟩ rfl (RowM.ok (x := ⟨x.nm, A14, c14, x.ms⟩) HM14.out))
          refine hK.out _ _ ?_ (fun hHeld => ?_)
          · exact KR.scell K16.out.kr HCI.out hb0 h0 h1
          clear hK
          try simp only [Act.put, List.setIfInBounds_toArray, List.set_cons_zero, List.set_cons_succ]
          generalize World.alloc w14 _ = w16 at K16 HM16 HX16 hHeld ⊢
          clear K14 HM14 HAL
          refine wpAnyH_ready (rs := [17]) (by kernel_rfl) (by simp) ?_
          refine AllReadyH.cons (o := ⟨some 39, _, _, _, _, _⟩) rfl (fun K hK => ?_) AllReadyH.nil
          refine step_append_sl (o := ⟨some 39, _, _, _, _, _⟩) _ encIt 2 (by rfl) (.tmp 23) (.tmp 38) 26 (by rfl) encIt_len (by omega) encIt_one w.heap.size 50 ti0 _ 40 Tryz.underlying26 hii hzi0 hzi1 hzi2 rfl iv ys (by rfl) K16.out.ri.1 _ 1 1 [⟨x.nm, A14, c14, x.ms⟩] (by rfl) rfl (items_at HX16.out) (by simp [maxLen]; omega) (by simp; omega) K16.out.kr.size ?_
          intro v17 w17 hown17 hg17 hat17
          have K17 := Lib.hid (K16.out.grow HM16.out hown17 hg17)
          refine hK.out _ _ ?_ (fun hHeld => ?_)
          · exact KR.scell K17.out.1 HCI.out hb0 h0 h1
          clear hK
          try simp only [Act.put, List.setIfInBounds_toArray, List.set_cons_zero, List.set_cons_succ]
          obtain ⟨A17, c17, rfl, _, _, _⟩ := SlAt.of_own encIt_len hown17
          clear hown17 hg17 hat17 K16 HM16 HX16
          refine wpAnyH_take (i := 18) (oi := ⟨some 40, _, _, _, _, _⟩) (v := ?_) rfl (by kernel_rfl) (by kernel_rfl) (by kernel_rfl) (fun _ _ _ h => h) (Or.inl ⟨by rfl, ?_⟩) (by assumption) ?_
          rotate_left 1
          · intro w hSw
            (try dsimp only at hSw)
            go_simp
            try with_reducible rfl
          try simp only [Act.put, List.setIfInBounds_toArray, List.set_cons_zero, List.set_cons_succ]
          refine wpAnyH_ready (rs := [19]) (by kernel_rfl) (by simp) ?_
          refine AllReadyH.cons (o := ⟨none, _, _, _, _, _⟩) rfl (fun K hK => ?_) AllReadyH.nil
          obtain ⟨s0, s1, s2, f0, f1, f2, hgl⟩ := K17.out.cells
          go_simp
          have KF := Lib.hid (show KY w c g v l (.slice A17 (ys.length + 1) c17) (ys ++ [⟨x.nm, A14, c14, x.ms⟩]) (w17.setCell ⟨g, 2, none⟩ (.slice A17 (ys.length + 1) c17)) from by have h := K17.out.stored; rw [List.length_append, List.length_singleton] at h; exact h)
          refine hK.out _ _ ?_ (fun hHeld => ?_)
          · exact KR.scell KF.out.kr HCI.out hb0 h0 h1
          clear hK
          try simp only [Act.put, List.setIfInBounds_toArray, List.set_cons_zero, List.set_cons_succ]
          clear s0 s1 s2 f0 f1 f2 hgl
          refine wpAnyH_done (by kernel_rfl) ?_ _
          have HYS := Lib.hid (its_snoc (y := ⟨x.nm, A14, c14, x.ms⟩) (show its ys = (its c.xs).take ys.length from HY.out) hx1' rfl)
          clear hHeld
          go_wp2_with fail
          go_roundw
          case rel => exact ⟨ys.length + 1, _, _, by omega, by simp, by go_num, HYS, KF⟩
          case measure => simp [intOf]; omega
        · refine step_append_sl (o := ⟨some 36, _, _, _, _, _⟩) _ encM 4 (by rfl) (.const (.slice none 0 0)) (.tmp 35) 48 (by rfl) encM_len (by omega) encM_one w.heap.size 55 tm0 _ 32 Tryz.underlying48 him hzm0 hzm1 hzm2 rfl (.slice none 0 0) [] (by rfl) (World.ownsRow_nil _ _ _ _) x.A x.ms.length x.c x.ms (by rfl) rfl (HOK.out _ KD.out.kr).1 (by simp [maxLen]; omega) (by simp; omega) KD.out.kr.size ?_
          intro v14 w14 hown14 hg14 hat14
          rw [List.nil_append] at hown14
          obtain ⟨A14, c14, rfl, _, _, _⟩ := SlAt.of_own encM_len hown14
          have K14 := Lib.hid (KD.out.next (KD.out.kr.gbel hg14))
          have HM14 := Lib.hid (show RowM w14 w.heap.size (slV ⟨x.nm, A14, c14, x.ms⟩) x.ms from hown14)
          refine hK.out _ _ ?_ (fun hHeld => ?_)
          · exact KR.scell K14.out.kr HCI.out hb0 h0 h1
          clear hK
          try simp only [Act.put, List.setIfInBounds_toArray, List.set_cons_zero, List.set_cons_succ]
          clear hown14 hg14 hat14 KD
          refine wpAnyH_take (i := 15) (oi := ⟨some 37, _, _, _, _, _⟩) (v := ?_) rfl (by kernel_rfl) (by kernel_rfl) (by kernel_rfl) (fun _ _ _ h => h) (Or.inl ⟨by rfl, ?_⟩) (by assumption) ?_
          rotate_left 1
          · intro w hSw
            (try dsimp only at hSw)
            go_simp
            try with_reducible rfl
          try simp only [Act.put, List.setIfInBounds_toArray, List.set_cons_zero, List.set_cons_succ]
          refine wpAnyH_ready (rs := [1, 16]) (by kernel_rfl) (by simp) ?_
          refine AllReadyH.cons (o := ⟨some 23, _, _, _, _, _⟩) rfl (fun K hK => ?_) (AllReadyH.cons (o := ⟨some 38, _, _, _, _, _⟩) rfl (fun K hK => ?_) AllReadyH.nil)
          · obtain ⟨_, s0, s1, s2, f0, f1, f2, hgl⟩ := boxC_kept (Below.refl _ _) K14.out.out
            go_simp
            refine hK.out _ _ ?_ (fun hHeld => ?_)
            · exact KR.scell K14.out.kr HCI.out hb0 h0 h1
            clear hK
            try simp only [Act.put, List.setIfInBounds_toArray, List.set_cons_zero, List.set_cons_succ]
            clear s0 s1 s2 f0 f1 f2 hgl
            refine wpAnyH_ready (rs := [16]) (by kernel_rfl) (by simp) ?_
            refine AllReadyH.cons (o := ⟨some 38, _, _, _, _, _⟩) rfl (fun K hK => ?_) AllReadyH.nil
            go_simp
            have HAL := Lib.hid ((Below.refl w14.heap.size w14).alloc (Nat.le_refl _) (.cells #[.string ⟨x.nm.toArray⟩, .slice A14 x.ms.length c14] 50))
            have K16 := Lib.hid (K14.out.next HAL.out)
            have HM16 := Lib.hid (show RowM (w14.alloc (.cells #[.string ⟨x.nm.toArray⟩, .slice A14 x.ms.length c14] 50)) w.heap.size (slV ⟨x.nm, A14, c14, x.ms⟩) x.ms from RowM.below HM14.out HAL.out)
            have HX16 := Lib.hid (holdsA w14 w14.heap.size ⟨x.nm, A14, c14, x.ms⟩ rfl (RowM.ok (x := ⟨x.nm, A14, c14, x.ms⟩) HM14.out))
            refine hK.out _ _ ?_ (fun hHeld => ?_)
            · exact KR.scell K16.out.kr HCI.out hb0 h0 h1
            clear hK
            try simp only [Act.put, List.setIfInBounds_toArray, List.set_cons_zero, List.set_cons_succ]
            generalize World.alloc w14 _ = w16 at K16 HM16 HX16 hHeld ⊢
            clear K14 HM14 HAL
            refine wpAnyH_ready (rs := [17]) (by kernel_rfl) (by simp) ?_
            refine AllReadyH.cons (o := ⟨some 39, _, _, _, _, _⟩) rfl (fun K hK => ?_) AllReadyH.nil
            refine step_append_sl (o := ⟨some 39, _, _, _, _, _⟩) _ encIt 2 (by rfl) (.tmp 23) (.tmp 38) 26 (by rfl) encIt_len (by omega) encIt_one w.heap.size 50 ti0 _ 40 Tryz.underlying26 hii hzi0 hzi1 hzi2 rfl iv ys (by rfl) K16.out.ri.1 _ 1 1 [⟨x.nm, A14, c14, x.ms⟩] (by rfl) rfl (items_at HX16.out) (by simp [maxLen]; omega) (by simp; omega) K16.out.kr.size ?_
            intro v17 w17 hown17 hg17 hat17
            have K17 := Lib.hid (K16.out.grow HM16.out hown17 hg17)
            refine hK.out _ _ ?_ (fun hHeld => ?_)
            · exact KR.scell K17.out.1 HCI.out hb0 h0 h1
            clear hK
            try simp only [Act.put, List.setIfInBounds_toArray, List.set_cons_zero, List.set_cons_succ]
            obtain ⟨A17, c17, rfl, _, _, _⟩ := SlAt.of_own encIt_len hown17
            clear hown17 hg17 hat17 K16 HM16 HX16
            refine wpAnyH_take (i := 18) (oi := ⟨some 40, _, _, _, _, _⟩) (v := ?_) rfl (by kernel_rfl) (by kernel_rfl) (by kernel_rfl) (fun _ _ _ h => h) (Or.inl ⟨by rfl, ?_⟩) (by assumption) ?_
            rotate_left 1
            · intro w hSw
              (try dsimp only at hSw)
              go_simp
              try with_reducible rfl
            try simp only [Act.put, List.setIfInBounds_toArray, List.set_cons_zero, List.set_cons_succ]
            refine wpAnyH_ready (rs := [19]) (by kernel_rfl) (by simp) ?_
            refine AllReadyH.cons (o := ⟨none, _, _, _, _, _⟩) rfl (fun K hK => ?_) AllReadyH.nil
            obtain ⟨s0, s1, s2, f0, f1, f2, hgl⟩ := K17.out.cells
            go_simp
            have KF := Lib.hid (show KY w c g v l (.slice A17 (ys.length + 1) c17) (ys ++ [⟨x.nm, A14, c14, x.ms⟩]) (w17.setCell ⟨g, 2, none⟩ (.slice A17 (ys.length + 1) c17)) from by have h := K17.out.stored; rw [List.length_append, List.length_singleton] at h; exact h)
            refine hK.out _ _ ?_ (fun hHeld => ?_)
            · exact KR.scell KF.out.kr HCI.out hb0 h0 h1
            clear hK
            try simp only [Act.put, List.setIfInBounds_toArray, List.set_cons_zero, List.set_cons_succ]
            clear s0 s1 s2 f0 f1 f2 hgl
            refine wpAnyH_done (by kernel_rfl) ?_ _
            have HYS := Lib.hid (its_snoc (y := ⟨x.nm, A14, c14, x.ms⟩) (show its ys = (its c.xs).take ys.length from HY.out) hx1' rfl)
            clear hHeld
            go_wp2_with fail
            go_roundw
            case rel => exact ⟨ys.length + 1, _, _, by omega, by simp, by go_num, HYS, KF⟩
            case measure => simp [intOf]; omega
          · go_simp
            have HAL := Lib.hid ((Below.refl w14.heap.size w14).alloc (Nat.le_refl _) (.cells #[.string ⟨x.nm.toArray⟩, .slice A14 x.ms.length c14] 50))
            have K16 := Lib.hid (K14.out.next HAL.out)
            have HM16 := Lib.hid (show RowM (w14.alloc (.cells #[.string ⟨x.nm.toArray⟩, .slice A14 x.ms.length c14] 50)) w.heap.size (slV ⟨x.nm, A14, c14, x.ms⟩) x.ms from RowM.below HM14.out HAL.out)
            have HX16 := Lib.hid (holdsA w14 w14.heap.size ⟨x.nm, A14, c14, x.ms⟩ rfl (RowM.ok (x := ⟨x.nm, A14, c14, x.ms⟩) HM14.out))
            refine hK.out _ _ ?_ (fun hHeld => ?_)
            · exact KR.scell K16.out.kr HCI.out hb0 h0 h1
            clear hK
            try simp only [Act.put, List.setIfInBounds_toArray, List.set_cons_zero, List.set_cons_succ]
            generalize World.alloc w14 _ = w16 at K16 HM16 HX16 hHeld ⊢
            clear K14 HM14 HAL
            refine wpAnyH_ready (rs := [1]) (by kernel_rfl) (by simp) ?_
            refine AllReadyH.cons (o := ⟨some 23, _, _, _, _, _⟩) rfl (fun K hK => ?_) AllReadyH.nil
            obtain ⟨_, s0, s1, s2, f0, f1, f2, hgl⟩ := boxC_kept (Below.refl _ _) K16.out.out
            go_simp
            refine hK.out _ _ ?_ (fun hHeld => ?_)
            · exact KR.scell K16.out.kr HCI.out hb0 h0 h1
            clear hK
            try simp only [Act.put, List.setIfInBounds_toArray, List.set_cons_zero, List.set_cons_succ]
            clear s0 s1 s2 f0 f1 f2 hgl
            refine wpAnyH_ready (rs := [17]) (by kernel_rfl) (by simp) ?_
            refine AllReadyH.cons (o := ⟨some 39, _, _, _, _, _⟩) rfl (fun K hK => ?_) AllReadyH.nil
            refine step_append_sl (o := ⟨some 39, _, _, _, _, _⟩) _ encIt 2 (by rfl) (.tmp 23) (.tmp 38) 26 (by rfl) encIt_len (by omega) encIt_one w.heap.size 50 ti0 _ 40 Tryz.underlying26 hii hzi0 hzi1 hzi2 rfl iv ys (by rfl) K16.out.ri.1 _ 1 1 [⟨x.nm, A14, c14, x.ms⟩] (by rfl) rfl (items_at HX16.out) (by simp [maxLen]; omega) (by simp; omega) K16.out.kr.size ?_
            intro v17 w17 hown17 hg17 hat17
            have K17 := Lib.hid (K16.out.grow HM16.out hown17 hg17)
            refine hK.out _ _ ?_ (fun hHeld => ?_)
            · exact KR.scell K17.out.1 HCI.out hb0 h0 h1
            clear hK
            try simp only [Act.put, List.setIfInBounds_toArray, List.set_cons_zero, List.set_cons_succ]
            obtain ⟨A17, c17, rfl, _, _, _⟩ := SlAt.of_own encIt_len hown17
            clear hown17 hg17 hat17 K16 HM16 HX16
            refine wpAnyH_take (i := 18) (oi := ⟨some 40, _, _, _, _, _⟩) (v := ?_) rfl (by kernel_rfl) (by kernel_rfl) (by kernel_rfl) (fun _ _ _ h => h) (Or.inl ⟨by rfl, ?_⟩) (by assumption) ?_
            rotate_left 1
            · intro w hSw
              (try dsimp only at hSw)
              go_simp
              try with_reducible rfl
            try simp only [Act.put, List.setIfInBounds_toArray, List.set_cons_zero, List.set_cons_succ]
            refine wpAnyH_ready (rs := [19]) (by kernel_rfl) (by simp) ?_
            refine AllReadyH.cons (o := ⟨none, _, _, _, _, _⟩) rfl (fun K hK => ?_) AllReadyH.nil
            obtain ⟨s0, s1, s2, f0, f1, f2, hgl⟩ := K17.out.cells
            go_simp
            have KF := Lib.hid (show KY w c g v l (.slice A17 (ys.length + 1) c17) (ys ++ [⟨x.nm, A14, c14, x.ms⟩]) (w17.setCell ⟨g, 2, none⟩ (.slice A17 (ys.length + 1) c17)) from by have h := K17.out.stored; rw [List.length_append, List.length_singleton] at h; exact h)
            refine hK.out _ _ ?_ (fun hHeld => ?_)
            · exact KR.scell KF.out.kr HCI.out hb0 h0 h1
            clear hK
            try simp only [Act.put, List.setIfInBounds_toArray, List.set_cons_zero, List.set_cons_succ]
            clear s0 s1 s2 f0 f1 f2 hgl
            refine wpAnyH_done (by kernel_rfl) ?_ _
            have HYS := Lib.hid (its_snoc (y := ⟨x.nm, A14, c14, x.ms⟩) (show its ys = (its c.xs).take ys.length from HY.out) hx1' rfl)
            clear hHeld
            go_wp2_with fail
            go_roundw
            case rel => exact ⟨ys.length + 1, _, _, by omega, by simp, by go_num, HYS, KF⟩
            case measure => simp [intOf]; omega
      · have i0 : ¬ (k : Int) < (c.xs.length : Int) := by omega
        obtain rfl : k = c.xs.length := by omega
        obtain ⟨_, s0, s1, s2, f0, f1, f2, hgl⟩ := boxC_kept (Below.refl _ wr) K.out.out
        obtain ⟨r0, r1, r2, t0, t1, t2, hrl⟩ := KR.cells K.out.kr
        obtain ⟨A1, d1, rfl, _, _, _⟩ := SlAt.of_own encD_len K.out.rv
        obtain ⟨A2, d2, rfl, _, _, _⟩ := SlAt.of_own encD_len K.out.rl
        obtain ⟨A3, d3, rfl, _⟩ := SlAt.of_own encIt_len K.out.ri.1
        have hres := K.out.kr.res
        have HD := Lib.hid (show RowC (((wr.setCell ⟨w.heap.size + 1, 0, none⟩ (.slice A1 c.vs.length d1)).setCell ⟨w.heap.size + 1, 1, none⟩ (.slice A2 c.ls.length d2)).setCell ⟨w.heap.size + 1, 2, none⟩ (.slice A3 ys.length d3)) w.heap.size (.slice A1 c.vs.length d1) c.vs from row_set3 K.out.rv hres (by decide))
        have HE := Lib.hid (show RowC (((wr.setCell ⟨w.heap.size + 1, 0, none⟩ (.slice A1 c.vs.length d1)).setCell ⟨w.heap.size + 1, 1, none⟩ (.slice A2 c.ls.length d2)).setCell ⟨w.heap.size + 1, 2, none⟩ (.slice A3 ys.length d3)) w.heap.size (.slice A2 c.ls.length d2) c.ls from row_set3 K.out.rl hres (by decide))
        have HI := Lib.hid (show OwnI (((wr.setCell ⟨w.heap.size + 1, 0, none⟩ (.slice A1 c.vs.length d1)).setCell ⟨w.heap.size + 1, 1, none⟩ (.slice A2 c.ls.length d2)).setCell ⟨w.heap.size + 1, 2, none⟩ (.slice A3 ys.length d3)) w.heap.size (.slice A3 ys.length d3) ys from ⟨row_set3 K.out.ri.1 hres (by decide), fun y hy => row_set3 (K.out.ri.2 y hy) hres (by decide)⟩)
        have HB := Lib.hid (K.out.kr.stored (.slice A1 c.vs.length d1) (.slice A2 c.ls.length d2) (.slice A3 ys.length d3))
        have HYL := Lib.hid hyl
        clear hres hlt hk K hyl
        go_wp2_with fail
        refine bodyPost_ret (v := mkC ⟨A1, d1, c.vs, A2, d2, c.ls, A3, d3, ys⟩) (by simp [results, Tryz.results11, go_sem, r0, r1, r2]) rfl ⟨⟨A1, d1, c.vs, A2, d2, c.ls, A3, d3, ys⟩, rfl, ?_, HD.out, HE.out, HI.out, HB.out⟩
        show ((c.vs, c.ls), its ys) = ((c.vs, c.ls), its c.xs)
        rw [HY.out, ← its_len c.xs, List.take_length]

end

end Go.Proofs.YtiaehpdgpjhecaaGreat
