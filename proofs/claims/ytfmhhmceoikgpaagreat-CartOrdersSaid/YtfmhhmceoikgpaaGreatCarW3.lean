/- The chapter's examples of carts: region 2 (written by split_known10.py). -/
import Derived.Test.YtfmhhmceoikgpaaGreatNL
namespace Go.Proofs.YtfmhhmceoikgpaaGreat
open Go.RowKit

set_option maxRecDepth 100000 in
set_option maxHeartbeats 8000000 in
theorem known_r2 {w w1 : World} {N : ItV} {w4 : World} {T : ItV} {g : Nat} {w7 : World} {ps43 : String} {J K' _ _ : Act → World → Prop} (HN : Hid (ItV.it N = (nNut, [{ r := 2, c := 1, q := 7, t := 4 }]))) (HT : Hid (ItV.it T = (nTea, [{ r := 1, c := 1, q := 5, t := 3 }]))) (K7 : Hid (KWk w [(g, N), (g + 1, T)] [] w7))
    (hj : ∀ (a' : Act) (w' : World),
    (∃ u3 u7 u8 u9 u10 u11 u12 u13 u14 u15 u16 u17 u18 u19 u20 u21 u22 u23 u24 u25 u26 u27 u28 u29 u30 u31 u32 u33 u34
        u35 u36 u37 u38 u39 u40 u41 u42 u43 u44 u45 u46 u47 u48 u49 u50 u51 u52 u53 u54 u55 u56 u57 u58 u59 u60 u61 u62
        u63 u64 u65 u66 u67 u68 u69 u70 u71 u72 u73 u74 u75 u76 u77 u78 u79 u80 u81 u82 u83 u84 u85 u86 u87 u88 u89 u90
        u91 u92 u93 u94 u95 u96 u97 u98 u99 u100 u101 u102 u103 u104 u105 u106 u107 u108 u109 u110 u111 u112 u113 u114
        u115 u116 u117 u118 u119 u120 u121 u122 u123 u124 u125 u126 u127 u128 u129 u130 u131 u132 u133 u134 u135 u136,
        (∃ g' X',
            u3 = Value.pointer (some { block := g', off := 0 }) ∧
              Hid (CaV.ca X' = cX) ∧ Hid (KWk w [(g, N), (g + 1, T)] ([] ++ [(g', X')]) w')) ∧
          a' =
            {
              tmps :=
                #[Value.bool false, Value.pointer (some { block := g, off := 0 }),
                  Value.pointer (some { block := g + 1, off := 0 }), u3, undef, undef, undef, u7, u8, u9, u10, u11, u12,
                  u13, u14, u15, u16, u17, u18, u19, u20, u21, u22, u23, u24, u25, u26, u27, u28, u29, u30, u31, u32,
                  u33, u34, u35, u36, u37, u38, u39, u40, u41, u42, u43, u44, u45, u46, u47, u48, u49, u50, u51, u52,
                  u53, u54, u55, u56, u57, u58, u59, u60, u61, u62, u63, u64, u65, u66, u67, u68, u69, u70, u71, u72,
                  u73, u74, u75, u76, u77, u78, u79, u80, u81, u82, u83, u84, u85, u86, u87, u88, u89, u90, u91, u92,
                  u93, u94, u95, u96, u97, u98, u99, u100, u101, u102, u103, u104, u105, u106, u107, u108, u109, u110,
                  u111, u112, u113, u114, u115, u116, u117, u118, u119, u120, u121, u122, u123, u124, u125, u126, u127,
                  u128, u129, u130, u131, u132, u133, u134, u135, u136],
              defers := [] }) →
      J a' w')
    (hm : ∀ (a' : Act) (w' : World), Met J a' w' → K' a' w') :
    Code.wp Tryz.prog
    (Code.region 2
      #[{ dst := some 13,
          op :=
            Op.buildSlice 108 4
              #[(0, Operand.const (Value.int IntKind.i64 1)), (1, Operand.const (Value.int IntKind.i64 1)),
                (2, Operand.const (Value.int IntKind.i64 2)), (3, Operand.const (Value.int IntKind.i64 1))],
          type := 108, pos := ps43, after := #[], guard := none },
        { dst := some 14,
          op := Op.call { callee := Callee.value (Operand.func 36), args := #[Operand.tmp 13], argTypes := #[108] },
          type := 22, pos := ps43, after := #[{ on := 0, ground := Ground.data }], guard := none },
        { dst := some 15, op := Op.build 25 #[(0, Operand.tmp 14)], type := 25, pos := ps43,
          after := #[{ on := 1, ground := Ground.data }], guard := none },
        { dst := some 16, op := Op.load 56 (Operand.tmp 1), type := 56, pos := ps43, after := #[],
          guard := none },
        { dst := some 17, op := Op.load 56 (Operand.tmp 2), type := 56, pos := ps43, after := #[],
          guard := none },
        { dst := some 18, op := Op.buildSlice 26 2 #[(0, Operand.tmp 16), (1, Operand.tmp 17)], type := 26,
          pos := ps43, after := #[{ on := 3, ground := Ground.data }, { on := 4, ground := Ground.data }],
          guard := none },
        { dst := some 19, op := Op.build 28 #[(0, Operand.tmp 15), (1, Operand.tmp 18)], type := 28, pos := ps43,
          after := #[{ on := 2, ground := Ground.data }, { on := 5, ground := Ground.data }], guard := none },
        { dst := some 3, op := Op.alloc 28, type := 0, pos := ps43, after := #[], guard := none },
        { dst := none, op := Op.store 28 (Operand.tmp 3) (Operand.tmp 19), type := 0, pos := ps43,
          after :=
            #[{ on := 7, ground := Ground.data }, { on := 6, ground := Ground.data },
              { on := 1, ground := Ground.chain }, { on := 0, ground := Ground.phase },
              { on := 1, ground := Ground.phase }, { on := 2, ground := Ground.phase },
              { on := 3, ground := Ground.phase }, { on := 4, ground := Ground.phase },
              { on := 5, ground := Ground.phase }, { on := 6, ground := Ground.phase },
              { on := 7, ground := Ground.phase }],
          guard := none }]
      true)
    (Exit.then K' (bodyPost Tryz.prog Tryz.f9 (TrueB w)))
    {
      tmps :=
        #[Value.bool false, Value.pointer (some { block := g, off := 0 }),
          Value.pointer (some { block := g + 1, off := 0 }), undef, undef, undef, undef,
          Value.agg
            #[Value.int IntKind.i64 2, Value.int IntKind.i64 1, Value.int IntKind.i64 7, Value.int IntKind.u64 4],
          Value.slice (some { block := Array.size (World.heap w1), off := 0 }) 1 1, mkIt N,
          Value.agg
            #[Value.int IntKind.i64 1, Value.int IntKind.i64 1, Value.int IntKind.i64 5, Value.int IntKind.u64 3],
          Value.slice (some { block := Array.size (World.heap w4), off := 0 }) 1 1, mkIt T, undef, undef, undef, undef,
          undef, undef, undef, undef, undef, undef, undef, undef, undef, undef, undef, undef, undef, undef, undef,
          undef, undef, undef, undef, undef, undef, undef, undef, undef, undef, undef, undef, undef, undef, undef,
          undef, undef, undef, undef, undef, undef, undef, undef, undef, undef, undef, undef, undef, undef, undef,
          undef, undef, undef, undef, undef, undef, undef, undef, undef, undef, undef, undef, undef, undef, undef,
          undef, undef, undef, undef, undef, undef, undef, undef, undef, undef, undef, undef, undef, undef, undef,
          undef, undef, undef, undef, undef, undef, undef, undef, undef, undef, undef, undef, undef, undef, undef,
          undef, undef, undef, undef, undef, undef, undef, undef, undef, undef, undef, undef, undef, undef, undef,
          undef, undef, undef, undef, undef, undef, undef, undef, undef, undef, undef, undef, undef, undef, undef],
      defers := [] }
    w7 := by
  refine wp_region_held_drew (S := (fun W => W.cell? ⟨g, 0, none⟩ = some (.string ⟨N.nm.toArray⟩) ∧ W.cell? ⟨g, 1, none⟩ = some (.slice N.A N.ms.length N.c) ∧ W.cell? ⟨g + 1, 0, none⟩ = some (.string ⟨T.nm.toArray⟩) ∧ W.cell? ⟨g + 1, 1, none⟩ = some (.slice T.A T.ms.length T.c))) (by kernel_rfl) ?_ (fun hHeld => ?_)
  · have KS := K7.out.next (Below.refl _ _).drew
    exact ⟨(KS.it (g := g) (by simp)).1, (KS.it (g := g) (by simp)).2, (KS.it (g := g + 1) (by simp)).1, (KS.it (g := g + 1) (by simp)).2⟩
  have R2B0 := Lib.hid (show Below w7.heap.size w7 w7.drew from (Below.refl _ _).drew)
  obtain ⟨R2w0, hw0⟩ : ∃ W, w7 = W := ⟨_, rfl⟩
  rw [hw0] at K7 R2B0 hHeld ⊢
  clear hw0
  generalize hwd : World.drew R2w0 = R2w00 at R2B0 hHeld ⊢
  clear hwd
  refine wpAnyH_take (i := 3) (oi := ⟨some 16, _, _, _, _, _⟩) (v := ?_) rfl (by kernel_rfl) (by kernel_rfl) (by kernel_rfl) (fun _ _ _ h => h) (Or.inl ⟨by rfl, ?_⟩) (by assumption) ?_
  rotate_left 1
  · intro w hSw
    (try dsimp only at hSw)
    go_simp
    try with_reducible rfl
  try simp only [Act.put, List.setIfInBounds_toArray, List.set_cons_zero, List.set_cons_succ]
  refine wpAnyH_take (i := 4) (oi := ⟨some 17, _, _, _, _, _⟩) (v := ?_) rfl (by kernel_rfl) (by kernel_rfl) (by kernel_rfl) (fun _ _ _ h => h) (Or.inl ⟨by rfl, ?_⟩) (by assumption) ?_
  rotate_left 1
  · intro w hSw
    (try dsimp only at hSw)
    go_simp
    try with_reducible rfl
  try simp only [Act.put, List.setIfInBounds_toArray, List.set_cons_zero, List.set_cons_succ]
  refine wpAnyH_ready (rs := [0, 5, 7]) (by kernel_rfl) (by simp) ?_
  refine AllReadyH.cons (o := ⟨some 13, _, _, _, _, _⟩) rfl (fun K hK => ?_) (AllReadyH.cons (o := ⟨some 18, _, _, _, _, _⟩) rfl (fun K hK => ?_) (AllReadyH.cons (o := ⟨some 3, _, _, _, _, _⟩) rfl (fun K hK => ?_) AllReadyH.nil))
  · go_simp
    have hal := (Below.refl R2w00.heap.size R2w00).alloc (Nat.le_refl _) (.cells #[.int .i64 1, .int .i64 1, .int .i64 2, .int .i64 1] 3)
    have R2B1 := Lib.hid (Below.trans R2B0.out (hal.mono R2B0.out.size))
    have FD_1 := Lib.hid (ilit2 R2w00 1 1 2 1)
    refine hK.out _ _ ?_ (fun hHeld => ?_)
    · exact ⟨((K7.out.next R2B1.out).it (g := g) (by simp)).1, ((K7.out.next R2B1.out).it (g := g) (by simp)).2, ((K7.out.next R2B1.out).it (g := g + 1) (by simp)).1, ((K7.out.next R2B1.out).it (g := g + 1) (by simp)).2⟩
    clear hK hal R2B0
    try simp only [Act.put, List.setIfInBounds_toArray, List.set_cons_zero, List.set_cons_succ]
    generalize World.alloc R2w00 _ = R2w1 at R2B1 FD_1 hHeld ⊢
    refine wpAnyH_ready (rs := [1, 5, 7]) (by kernel_rfl) (by simp) ?_
    refine AllReadyH.cons (o := ⟨some 14, _, _, _, _, _⟩) rfl (fun K hK => ?_) (AllReadyH.cons (o := ⟨some 18, _, _, _, _, _⟩) rfl (fun K hK => ?_) (AllReadyH.cons (o := ⟨some 3, _, _, _, _, _⟩) rfl (fun K hK => ?_) AllReadyH.nil))
    · go_simp
      refine (dots2_l R2w00.heap.size 1 1 2 1 R2w1 FD_1.out).mono ?_
      rintro e R2w2 ⟨⟨A14, c14, rfl, hh⟩, hb⟩
      have R2B2 := Lib.hid (Below.trans R2B1.out (hb.mono R2B1.out.size))
      have FD_2 := Lib.hid (SlAt.below FD_1.out hb)
      have FH_2 := Lib.hid (hh)
      clear hh
      first
        | refine hK.out _ _ ?_ (fun hHeld => ?_)
        | (go_wp2_with fail
           refine hK.out _ _ ?_ (fun hHeld => ?_))
      · exact ⟨((K7.out.next R2B2.out).it (g := g) (by simp)).1, ((K7.out.next R2B2.out).it (g := g) (by simp)).2, ((K7.out.next R2B2.out).it (g := g + 1) (by simp)).1, ((K7.out.next R2B2.out).it (g := g + 1) (by simp)).2⟩
      clear hK hb FD_1 R2B1
      try simp only [Act.put, List.setIfInBounds_toArray, List.set_cons_zero, List.set_cons_succ]
      refine wpAnyH_take (i := 2) (oi := ⟨some 15, _, _, _, _, _⟩) (v := ?_) rfl (by kernel_rfl) (by kernel_rfl) (by kernel_rfl) (fun _ _ _ h => h) (Or.inl ⟨by rfl, ?_⟩) (by assumption) ?_
      rotate_left 1
      · intro w hSw
        (try dsimp only at hSw)
        go_simp
        try with_reducible rfl
      try simp only [Act.put, List.setIfInBounds_toArray, List.set_cons_zero, List.set_cons_succ]
      refine wpAnyH_ready (rs := [5, 7]) (by kernel_rfl) (by simp) ?_
      refine AllReadyH.cons (o := ⟨some 18, _, _, _, _, _⟩) rfl (fun K hK => ?_) (AllReadyH.cons (o := ⟨some 3, _, _, _, _, _⟩) rfl (fun K hK => ?_) AllReadyH.nil)
      · go_simp
        have hal := (Below.refl R2w2.heap.size R2w2).alloc (Nat.le_refl _) (.cells #[.string ⟨N.nm.toArray⟩, .slice N.A N.ms.length N.c, .string ⟨T.nm.toArray⟩, .slice T.A T.ms.length T.c] 56)
        have R2B3 := Lib.hid (Below.trans R2B2.out (hal.mono R2B2.out.size))
        have FD_3 := Lib.hid (SlAt.below FD_2.out hal)
        have FH_3 := Lib.hid (FH_2.out.below hal)
        have FX_3 := Lib.hid (holdsB R2w2 R2w2.heap.size N T rfl ((K7.out.next R2B2.out).kz.ok (g := g) (by simp)) ((K7.out.next R2B2.out).kz.ok (g := g + 1) (by simp)))
        refine hK.out _ _ ?_ (fun hHeld => ?_)
        · exact ⟨((K7.out.next R2B3.out).it (g := g) (by simp)).1, ((K7.out.next R2B3.out).it (g := g) (by simp)).2, ((K7.out.next R2B3.out).it (g := g + 1) (by simp)).1, ((K7.out.next R2B3.out).it (g := g + 1) (by simp)).2⟩
        clear hK hal FD_2 FH_2 R2B2
        try simp only [Act.put, List.setIfInBounds_toArray, List.set_cons_zero, List.set_cons_succ]
        generalize World.alloc R2w2 _ = R2w3 at R2B3 FD_3 FH_3 FX_3 hHeld ⊢
        refine wpAnyH_take (i := 6) (oi := ⟨some 19, _, _, _, _, _⟩) (v := ?_) rfl (by kernel_rfl) (by kernel_rfl) (by kernel_rfl) (fun _ _ _ h => h) (Or.inl ⟨by rfl, ?_⟩) (by assumption) ?_
        rotate_left 1
        · intro w hSw
          (try dsimp only at hSw)
          go_simp
          try with_reducible rfl
        try simp only [Act.put, List.setIfInBounds_toArray, List.set_cons_zero, List.set_cons_succ]
        refine wpAnyH_ready (rs := [7]) (by kernel_rfl) (by simp) ?_
        refine AllReadyH.cons (o := ⟨some 3, _, _, _, _, _⟩) rfl (fun K hK => ?_) AllReadyH.nil
        go_simp
        have hal := (Below.refl R2w3.heap.size R2w3).alloc (Nat.le_refl _) (.cells #[.slice none 0 0, .slice none 0 0, .slice none 0 0] 28)
        have R2B4 := Lib.hid (Below.trans R2B3.out (hal.mono R2B3.out.size))
        have R2GA := R2B3.out.size
        have FD_4 := Lib.hid (SlAt.below FD_3.out hal)
        have FH_4 := Lib.hid (FH_3.out.below hal)
        have FX_4 := Lib.hid (FX_3.out.below hal)
        have FA_4 := Lib.hid (heap_alloc_new R2w3 (.cells #[.slice none 0 0, .slice none 0 0, .slice none 0 0] 28))
        refine hK.out _ _ ?_ (fun hHeld => ?_)
        · exact ⟨((K7.out.next R2B4.out).it (g := g) (by simp)).1, ((K7.out.next R2B4.out).it (g := g) (by simp)).2, ((K7.out.next R2B4.out).it (g := g + 1) (by simp)).1, ((K7.out.next R2B4.out).it (g := g + 1) (by simp)).2⟩
        clear hK hal FD_3 FH_3 FX_3 R2B3
        try simp only [Act.put, List.setIfInBounds_toArray, List.set_cons_zero, List.set_cons_succ]
        generalize World.alloc R2w3 _ = R2w4 at R2B4 FD_4 FH_4 FX_4 FA_4 hHeld ⊢
        refine wpAnyH_ready (rs := [8]) (by kernel_rfl) (by simp) ?_
        refine AllReadyH.cons (o := ⟨none, _, _, _, _, _⟩) rfl (fun K hK => ?_) AllReadyH.nil
        obtain ⟨_, r0, r1, r2, f0, f1, f2, gl⟩ := boxC_kept (Below.refl _ _) FA_4.out
        go_simp
        have R2BS := Lib.hid (show Below R2w0.heap.size R2w0 (((R2w4.setCell ⟨R2w3.heap.size, 0, none⟩ (.slice A14 2 c14)).setCell ⟨R2w3.heap.size, 1, none⟩ (.slice none 0 0)).setCell ⟨R2w3.heap.size, 2, none⟩ (.slice (some ⟨R2w2.heap.size, 0, none⟩) 2 2)) from below_set3c R2B4.out R2GA _ _ _)
        refine hK.out _ _ ?_ (fun hHeld => ?_)
        · exact ⟨((K7.out.next R2BS.out).it (g := g) (by simp)).1, ((K7.out.next R2BS.out).it (g := g) (by simp)).2, ((K7.out.next R2BS.out).it (g := g + 1) (by simp)).1, ((K7.out.next R2BS.out).it (g := g + 1) (by simp)).2⟩
        clear hK r0 r1 r2 f0 f1 f2 gl
        try simp only [Act.put, List.setIfInBounds_toArray, List.set_cons_zero, List.set_cons_succ]
        refine wpAnyH_done (by kernel_rfl) ?_ _
        have hok : CaOK R2w4 ⟨A14, c14, [(1, 1), (2, 1)], none, 0, [], some ⟨R2w2.heap.size, 0, none⟩, 2, [N, T]⟩ := ⟨FH_4.out, Holds.nil _, FX_4.out⟩
        have hok2 := CaOK.off_box (W' := (((R2w4.setCell ⟨R2w3.heap.size, 0, none⟩ (.slice A14 2 c14)).setCell ⟨R2w3.heap.size, 1, none⟩ (.slice none 0 0)).setCell ⟨R2w3.heap.size, 2, none⟩ (.slice (some ⟨R2w2.heap.size, 0, none⟩) 2 2))) hok FA_4.out (by simp) (fun b hb => set3_other R2w4 _ b _ _ _ hb)
        have hblk : BlkC (((R2w4.setCell ⟨R2w3.heap.size, 0, none⟩ (.slice A14 2 c14)).setCell ⟨R2w3.heap.size, 1, none⟩ (.slice none 0 0)).setCell ⟨R2w3.heap.size, 2, none⟩ (.slice (some ⟨R2w2.heap.size, 0, none⟩) 2 2)) R2w3.heap.size ⟨A14, c14, [(1, 1), (2, 1)], none, 0, [], some ⟨R2w2.heap.size, 0, none⟩, 2, [N, T]⟩ := boxC_filled FA_4.out _ _ _
        have KF := Lib.hid ((K7.out.next R2BS.out).add hblk hok2)
        have HX := Lib.hid (show CaV.ca ⟨A14, c14, [(1, 1), (2, 1)], none, 0, [], some ⟨R2w2.heap.size, 0, none⟩, 2, [N, T]⟩ = cX from by show (([(1, 1), (2, 1)], []), its [N, T]) = _; simp [HN.out, HT.out])
        clear hok hok2 hblk hHeld
        go_wp2_with fail
        go_meet
        exact ⟨_, _, rfl, HX, KF⟩
      · go_simp
        have hal := (Below.refl R2w2.heap.size R2w2).alloc (Nat.le_refl _) (.cells #[.slice none 0 0, .slice none 0 0, .slice none 0 0] 28)
        have R2B3 := Lib.hid (Below.trans R2B2.out (hal.mono R2B2.out.size))
        have R2GA := R2B2.out.size
        have FD_3 := Lib.hid (SlAt.below FD_2.out hal)
        have FH_3 := Lib.hid (FH_2.out.below hal)
        have FA_3 := Lib.hid (heap_alloc_new R2w2 (.cells #[.slice none 0 0, .slice none 0 0, .slice none 0 0] 28))
        refine hK.out _ _ ?_ (fun hHeld => ?_)
        · exact ⟨((K7.out.next R2B3.out).it (g := g) (by simp)).1, ((K7.out.next R2B3.out).it (g := g) (by simp)).2, ((K7.out.next R2B3.out).it (g := g + 1) (by simp)).1, ((K7.out.next R2B3.out).it (g := g + 1) (by simp)).2⟩
        clear hK hal FD_2 FH_2 R2B2
        try simp only [Act.put, List.setIfInBounds_toArray, List.set_cons_zero, List.set_cons_succ]
        generalize World.alloc R2w2 _ = R2w3 at R2B3 FD_3 FH_3 FA_3 hHeld ⊢
        refine wpAnyH_ready (rs := [5]) (by kernel_rfl) (by simp) ?_
        refine AllReadyH.cons (o := ⟨some 18, _, _, _, _, _⟩) rfl (fun K hK => ?_) AllReadyH.nil
        go_simp
        have hal := (Below.refl R2w3.heap.size R2w3).alloc (Nat.le_refl _) (.cells #[.string ⟨N.nm.toArray⟩, .slice N.A N.ms.length N.c, .string ⟨T.nm.toArray⟩, .slice T.A T.ms.length T.c] 56)
        have R2B4 := Lib.hid (Below.trans R2B3.out (hal.mono R2B3.out.size))
        have FD_4 := Lib.hid (SlAt.below FD_3.out hal)
        have FH_4 := Lib.hid (FH_3.out.below hal)
        have FA_4 := Lib.hid ((hal.block _ (Array.getElem?_eq_some_iff.1 FA_3.out).1).trans FA_3.out)
        have FX_4 := Lib.hid (holdsB R2w3 R2w3.heap.size N T rfl ((K7.out.next R2B3.out).kz.ok (g := g) (by simp)) ((K7.out.next R2B3.out).kz.ok (g := g + 1) (by simp)))
        refine hK.out _ _ ?_ (fun hHeld => ?_)
        · exact ⟨((K7.out.next R2B4.out).it (g := g) (by simp)).1, ((K7.out.next R2B4.out).it (g := g) (by simp)).2, ((K7.out.next R2B4.out).it (g := g + 1) (by simp)).1, ((K7.out.next R2B4.out).it (g := g + 1) (by simp)).2⟩
        clear hK hal FD_3 FH_3 FA_3 R2B3
        try simp only [Act.put, List.setIfInBounds_toArray, List.set_cons_zero, List.set_cons_succ]
        generalize World.alloc R2w3 _ = R2w4 at R2B4 FD_4 FH_4 FA_4 FX_4 hHeld ⊢
        refine wpAnyH_take (i := 6) (oi := ⟨some 19, _, _, _, _, _⟩) (v := ?_) rfl (by kernel_rfl) (by kernel_rfl) (by kernel_rfl) (fun _ _ _ h => h) (Or.inl ⟨by rfl, ?_⟩) (by assumption) ?_
        rotate_left 1
        · intro w hSw
          (try dsimp only at hSw)
          go_simp
          try with_reducible rfl
        try simp only [Act.put, List.setIfInBounds_toArray, List.set_cons_zero, List.set_cons_succ]
        refine wpAnyH_ready (rs := [8]) (by kernel_rfl) (by simp) ?_
        refine AllReadyH.cons (o := ⟨none, _, _, _, _, _⟩) rfl (fun K hK => ?_) AllReadyH.nil
        obtain ⟨_, r0, r1, r2, f0, f1, f2, gl⟩ := boxC_kept (Below.refl _ _) FA_4.out
        go_simp
        have R2BS := Lib.hid (show Below R2w0.heap.size R2w0 (((R2w4.setCell ⟨R2w2.heap.size, 0, none⟩ (.slice A14 2 c14)).setCell ⟨R2w2.heap.size, 1, none⟩ (.slice none 0 0)).setCell ⟨R2w2.heap.size, 2, none⟩ (.slice (some ⟨R2w3.heap.size, 0, none⟩) 2 2)) from below_set3c R2B4.out R2GA _ _ _)
        refine hK.out _ _ ?_ (fun hHeld => ?_)
        · exact ⟨((K7.out.next R2BS.out).it (g := g) (by simp)).1, ((K7.out.next R2BS.out).it (g := g) (by simp)).2, ((K7.out.next R2BS.out).it (g := g + 1) (by simp)).1, ((K7.out.next R2BS.out).it (g := g + 1) (by simp)).2⟩
        clear hK r0 r1 r2 f0 f1 f2 gl
        try simp only [Act.put, List.setIfInBounds_toArray, List.set_cons_zero, List.set_cons_succ]
        refine wpAnyH_done (by kernel_rfl) ?_ _
        have hok : CaOK R2w4 ⟨A14, c14, [(1, 1), (2, 1)], none, 0, [], some ⟨R2w3.heap.size, 0, none⟩, 2, [N, T]⟩ := ⟨FH_4.out, Holds.nil _, FX_4.out⟩
        have hok2 := CaOK.off_box (W' := (((R2w4.setCell ⟨R2w2.heap.size, 0, none⟩ (.slice A14 2 c14)).setCell ⟨R2w2.heap.size, 1, none⟩ (.slice none 0 0)).setCell ⟨R2w2.heap.size, 2, none⟩ (.slice (some ⟨R2w3.heap.size, 0, none⟩) 2 2))) hok FA_4.out (by simp) (fun b hb => set3_other R2w4 _ b _ _ _ hb)
        have hblk : BlkC (((R2w4.setCell ⟨R2w2.heap.size, 0, none⟩ (.slice A14 2 c14)).setCell ⟨R2w2.heap.size, 1, none⟩ (.slice none 0 0)).setCell ⟨R2w2.heap.size, 2, none⟩ (.slice (some ⟨R2w3.heap.size, 0, none⟩) 2 2)) R2w2.heap.size ⟨A14, c14, [(1, 1), (2, 1)], none, 0, [], some ⟨R2w3.heap.size, 0, none⟩, 2, [N, T]⟩ := boxC_filled FA_4.out _ _ _
        have KF := Lib.hid ((K7.out.next R2BS.out).add hblk hok2)
        have HX := Lib.hid (show CaV.ca ⟨A14, c14, [(1, 1), (2, 1)], none, 0, [], some ⟨R2w3.heap.size, 0, none⟩, 2, [N, T]⟩ = cX from by show (([(1, 1), (2, 1)], []), its [N, T]) = _; simp [HN.out, HT.out])
        clear hok hok2 hblk hHeld
        go_wp2_with fail
        go_meet
        exact ⟨_, _, rfl, HX, KF⟩
    · go_simp
      have hal := (Below.refl R2w1.heap.size R2w1).alloc (Nat.le_refl _) (.cells #[.string ⟨N.nm.toArray⟩, .slice N.A N.ms.length N.c, .string ⟨T.nm.toArray⟩, .slice T.A T.ms.length T.c] 56)
      have R2B2 := Lib.hid (Below.trans R2B1.out (hal.mono R2B1.out.size))
      have FD_2 := Lib.hid (SlAt.below FD_1.out hal)
      have FX_2 := Lib.hid (holdsB R2w1 R2w1.heap.size N T rfl ((K7.out.next R2B1.out).kz.ok (g := g) (by simp)) ((K7.out.next R2B1.out).kz.ok (g := g + 1) (by simp)))
      refine hK.out _ _ ?_ (fun hHeld => ?_)
      · exact ⟨((K7.out.next R2B2.out).it (g := g) (by simp)).1, ((K7.out.next R2B2.out).it (g := g) (by simp)).2, ((K7.out.next R2B2.out).it (g := g + 1) (by simp)).1, ((K7.out.next R2B2.out).it (g := g + 1) (by simp)).2⟩
      clear hK hal FD_1 R2B1
      try simp only [Act.put, List.setIfInBounds_toArray, List.set_cons_zero, List.set_cons_succ]
      generalize World.alloc R2w1 _ = R2w2 at R2B2 FD_2 FX_2 hHeld ⊢
      refine wpAnyH_ready (rs := [1, 7]) (by kernel_rfl) (by simp) ?_
      refine AllReadyH.cons (o := ⟨some 14, _, _, _, _, _⟩) rfl (fun K hK => ?_) (AllReadyH.cons (o := ⟨some 3, _, _, _, _, _⟩) rfl (fun K hK => ?_) AllReadyH.nil)
      · go_simp
        refine (dots2_l R2w00.heap.size 1 1 2 1 R2w2 FD_2.out).mono ?_
        rintro e R2w3 ⟨⟨A14, c14, rfl, hh⟩, hb⟩
        have R2B3 := Lib.hid (Below.trans R2B2.out (hb.mono R2B2.out.size))
        have FD_3 := Lib.hid (SlAt.below FD_2.out hb)
        have FX_3 := Lib.hid (FX_2.out.below hb)
        have FH_3 := Lib.hid (hh)
        clear hh
        first
          | refine hK.out _ _ ?_ (fun hHeld => ?_)
          | (go_wp2_with fail
             refine hK.out _ _ ?_ (fun hHeld => ?_))
        · exact ⟨((K7.out.next R2B3.out).it (g := g) (by simp)).1, ((K7.out.next R2B3.out).it (g := g) (by simp)).2, ((K7.out.next R2B3.out).it (g := g + 1) (by simp)).1, ((K7.out.next R2B3.out).it (g := g + 1) (by simp)).2⟩
        clear hK hb FD_2 FX_2 R2B2
        try simp only [Act.put, List.setIfInBounds_toArray, List.set_cons_zero, List.set_cons_succ]
        refine wpAnyH_take (i := 2) (oi := ⟨some 15, _, _, _, _, _⟩) (v := ?_) rfl (by kernel_rfl) (by kernel_rfl) (by kernel_rfl) (fun _ _ _ h => h) (Or.inl ⟨by rfl, ?_⟩) (by assumption) ?_
        rotate_left 1
        · intro w hSw
          (try dsimp only at hSw)
          go_simp
          try with_reducible rfl
        try simp only [Act.put, List.setIfInBounds_toArray, List.set_cons_zero, List.set_cons_succ]
        refine wpAnyH_take (i := 6) (oi := ⟨some 19, _, _, _, _, _⟩) (v := ?_) rfl (by kernel_rfl) (by kernel_rfl) (by kernel_rfl) (fun _ _ _ h => h) (Or.inl ⟨by rfl, ?_⟩) (by assumption) ?_
        rotate_left 1
        · intro w hSw
          (try dsimp only at hSw)
          go_simp
          try with_reducible rfl
        try simp only [Act.put, List.setIfInBounds_toArray, List.set_cons_zero, List.set_cons_succ]
        refine wpAnyH_ready (rs := [7]) (by kernel_rfl) (by simp) ?_
        refine AllReadyH.cons (o := ⟨some 3, _, _, _, _, _⟩) rfl (fun K hK => ?_) AllReadyH.nil
        go_simp
        have hal := (Below.refl R2w3.heap.size R2w3).alloc (Nat.le_refl _) (.cells #[.slice none 0 0, .slice none 0 0, .slice none 0 0] 28)
        have R2B4 := Lib.hid (Below.trans R2B3.out (hal.mono R2B3.out.size))
        have R2GA := R2B3.out.size
        have FD_4 := Lib.hid (SlAt.below FD_3.out hal)
        have FX_4 := Lib.hid (FX_3.out.below hal)
        have FH_4 := Lib.hid (FH_3.out.below hal)
        have FA_4 := Lib.hid (heap_alloc_new R2w3 (.cells #[.slice none 0 0, .slice none 0 0, .slice none 0 0] 28))
        refine hK.out _ _ ?_ (fun hHeld => ?_)
        · exact ⟨((K7.out.next R2B4.out).it (g := g) (by simp)).1, ((K7.out.next R2B4.out).it (g := g) (by simp)).2, ((K7.out.next R2B4.out).it (g := g + 1) (by simp)).1, ((K7.out.next R2B4.out).it (g := g + 1) (by simp)).2⟩
        clear hK hal FD_3 FX_3 FH_3 R2B3
        try simp only [Act.put, List.setIfInBounds_toArray, List.set_cons_zero, List.set_cons_succ]
        generalize World.alloc R2w3 _ = R2w4 at R2B4 FD_4 FX_4 FH_4 FA_4 hHeld ⊢
        refine wpAnyH_ready (rs := [8]) (by kernel_rfl) (by simp) ?_
        refine AllReadyH.cons (o := ⟨none, _, _, _, _, _⟩) rfl (fun K hK => ?_) AllReadyH.nil
        obtain ⟨_, r0, r1, r2, f0, f1, f2, gl⟩ := boxC_kept (Below.refl _ _) FA_4.out
        go_simp
        have R2BS := Lib.hid (show Below R2w0.heap.size R2w0 (((R2w4.setCell ⟨R2w3.heap.size, 0, none⟩ (.slice A14 2 c14)).setCell ⟨R2w3.heap.size, 1, none⟩ (.slice none 0 0)).setCell ⟨R2w3.heap.size, 2, none⟩ (.slice (some ⟨R2w1.heap.size, 0, none⟩) 2 2)) from below_set3c R2B4.out R2GA _ _ _)
        refine hK.out _ _ ?_ (fun hHeld => ?_)
        · exact ⟨((K7.out.next R2BS.out).it (g := g) (by simp)).1, ((K7.out.next R2BS.out).it (g := g) (by simp)).2, ((K7.out.next R2BS.out).it (g := g + 1) (by simp)).1, ((K7.out.next R2BS.out).it (g := g + 1) (by simp)).2⟩
        clear hK r0 r1 r2 f0 f1 f2 gl
        try simp only [Act.put, List.setIfInBounds_toArray, List.set_cons_zero, List.set_cons_succ]
        refine wpAnyH_done (by kernel_rfl) ?_ _
        have hok : CaOK R2w4 ⟨A14, c14, [(1, 1), (2, 1)], none, 0, [], some ⟨R2w1.heap.size, 0, none⟩, 2, [N, T]⟩ := ⟨FH_4.out, Holds.nil _, FX_4.out⟩
        have hok2 := CaOK.off_box (W' := (((R2w4.setCell ⟨R2w3.heap.size, 0, none⟩ (.slice A14 2 c14)).setCell ⟨R2w3.heap.size, 1, none⟩ (.slice none 0 0)).setCell ⟨R2w3.heap.size, 2, none⟩ (.slice (some ⟨R2w1.heap.size, 0, none⟩) 2 2))) hok FA_4.out (by simp) (fun b hb => set3_other R2w4 _ b _ _ _ hb)
        have hblk : BlkC (((R2w4.setCell ⟨R2w3.heap.size, 0, none⟩ (.slice A14 2 c14)).setCell ⟨R2w3.heap.size, 1, none⟩ (.slice none 0 0)).setCell ⟨R2w3.heap.size, 2, none⟩ (.slice (some ⟨R2w1.heap.size, 0, none⟩) 2 2)) R2w3.heap.size ⟨A14, c14, [(1, 1), (2, 1)], none, 0, [], some ⟨R2w1.heap.size, 0, none⟩, 2, [N, T]⟩ := boxC_filled FA_4.out _ _ _
        have KF := Lib.hid ((K7.out.next R2BS.out).add hblk hok2)
        have HX := Lib.hid (show CaV.ca ⟨A14, c14, [(1, 1), (2, 1)], none, 0, [], some ⟨R2w1.heap.size, 0, none⟩, 2, [N, T]⟩ = cX from by show (([(1, 1), (2, 1)], []), its [N, T]) = _; simp [HN.out, HT.out])
        clear hok hok2 hblk hHeld
        go_wp2_with fail
        go_meet
        exact ⟨_, _, rfl, HX, KF⟩
      · go_simp
        have hal := (Below.refl R2w2.heap.size R2w2).alloc (Nat.le_refl _) (.cells #[.slice none 0 0, .slice none 0 0, .slice none 0 0] 28)
        have R2B3 := Lib.hid (Below.trans R2B2.out (hal.mono R2B2.out.size))
        have R2GA := R2B2.out.size
        have FD_3 := Lib.hid (SlAt.below FD_2.out hal)
        have FX_3 := Lib.hid (FX_2.out.below hal)
        have FA_3 := Lib.hid (heap_alloc_new R2w2 (.cells #[.slice none 0 0, .slice none 0 0, .slice none 0 0] 28))
        refine hK.out _ _ ?_ (fun hHeld => ?_)
        · exact ⟨((K7.out.next R2B3.out).it (g := g) (by simp)).1, ((K7.out.next R2B3.out).it (g := g) (by simp)).2, ((K7.out.next R2B3.out).it (g := g + 1) (by simp)).1, ((K7.out.next R2B3.out).it (g := g + 1) (by simp)).2⟩
        clear hK hal FD_2 FX_2 R2B2
        try simp only [Act.put, List.setIfInBounds_toArray, List.set_cons_zero, List.set_cons_succ]
        generalize World.alloc R2w2 _ = R2w3 at R2B3 FD_3 FX_3 FA_3 hHeld ⊢
        refine wpAnyH_ready (rs := [1]) (by kernel_rfl) (by simp) ?_
        refine AllReadyH.cons (o := ⟨some 14, _, _, _, _, _⟩) rfl (fun K hK => ?_) AllReadyH.nil
        go_simp
        refine (dots2_l R2w00.heap.size 1 1 2 1 R2w3 FD_3.out).mono ?_
        rintro e R2w4 ⟨⟨A14, c14, rfl, hh⟩, hb⟩
        have R2B4 := Lib.hid (Below.trans R2B3.out (hb.mono R2B3.out.size))
        have FD_4 := Lib.hid (SlAt.below FD_3.out hb)
        have FX_4 := Lib.hid (FX_3.out.below hb)
        have FA_4 := Lib.hid ((hb.block _ (Array.getElem?_eq_some_iff.1 FA_3.out).1).trans FA_3.out)
        have FH_4 := Lib.hid (hh)
        clear hh
        first
          | refine hK.out _ _ ?_ (fun hHeld => ?_)
          | (go_wp2_with fail
             refine hK.out _ _ ?_ (fun hHeld => ?_))
        · exact ⟨((K7.out.next R2B4.out).it (g := g) (by simp)).1, ((K7.out.next R2B4.out).it (g := g) (by simp)).2, ((K7.out.next R2B4.out).it (g := g + 1) (by simp)).1, ((K7.out.next R2B4.out).it (g := g + 1) (by simp)).2⟩
        clear hK hb FD_3 FX_3 FA_3 R2B3
        try simp only [Act.put, List.setIfInBounds_toArray, List.set_cons_zero, List.set_cons_succ]
        refine wpAnyH_take (i := 2) (oi := ⟨some 15, _, _, _, _, _⟩) (v := ?_) rfl (by kernel_rfl) (by kernel_rfl) (by kernel_rfl) (fun _ _ _ h => h) (Or.inl ⟨by rfl, ?_⟩) (by assumption) ?_
        rotate_left 1
        · intro w hSw
          (try dsimp only at hSw)
          go_simp
          try with_reducible rfl
        try simp only [Act.put, List.setIfInBounds_toArray, List.set_cons_zero, List.set_cons_succ]
        refine wpAnyH_take (i := 6) (oi := ⟨some 19, _, _, _, _, _⟩) (v := ?_) rfl (by kernel_rfl) (by kernel_rfl) (by kernel_rfl) (fun _ _ _ h => h) (Or.inl ⟨by rfl, ?_⟩) (by assumption) ?_
        rotate_left 1
        · intro w hSw
          (try dsimp only at hSw)
          go_simp
          try with_reducible rfl
        try simp only [Act.put, List.setIfInBounds_toArray, List.set_cons_zero, List.set_cons_succ]
        refine wpAnyH_ready (rs := [8]) (by kernel_rfl) (by simp) ?_
        refine AllReadyH.cons (o := ⟨none, _, _, _, _, _⟩) rfl (fun K hK => ?_) AllReadyH.nil
        obtain ⟨_, r0, r1, r2, f0, f1, f2, gl⟩ := boxC_kept (Below.refl _ _) FA_4.out
        go_simp
        have R2BS := Lib.hid (show Below R2w0.heap.size R2w0 (((R2w4.setCell ⟨R2w2.heap.size, 0, none⟩ (.slice A14 2 c14)).setCell ⟨R2w2.heap.size, 1, none⟩ (.slice none 0 0)).setCell ⟨R2w2.heap.size, 2, none⟩ (.slice (some ⟨R2w1.heap.size, 0, none⟩) 2 2)) from below_set3c R2B4.out R2GA _ _ _)
        refine hK.out _ _ ?_ (fun hHeld => ?_)
        · exact ⟨((K7.out.next R2BS.out).it (g := g) (by simp)).1, ((K7.out.next R2BS.out).it (g := g) (by simp)).2, ((K7.out.next R2BS.out).it (g := g + 1) (by simp)).1, ((K7.out.next R2BS.out).it (g := g + 1) (by simp)).2⟩
        clear hK r0 r1 r2 f0 f1 f2 gl
        try simp only [Act.put, List.setIfInBounds_toArray, List.set_cons_zero, List.set_cons_succ]
        refine wpAnyH_done (by kernel_rfl) ?_ _
        have hok : CaOK R2w4 ⟨A14, c14, [(1, 1), (2, 1)], none, 0, [], some ⟨R2w1.heap.size, 0, none⟩, 2, [N, T]⟩ := ⟨FH_4.out, Holds.nil _, FX_4.out⟩
        have hok2 := CaOK.off_box (W' := (((R2w4.setCell ⟨R2w2.heap.size, 0, none⟩ (.slice A14 2 c14)).setCell ⟨R2w2.heap.size, 1, none⟩ (.slice none 0 0)).setCell ⟨R2w2.heap.size, 2, none⟩ (.slice (some ⟨R2w1.heap.size, 0, none⟩) 2 2))) hok FA_4.out (by simp) (fun b hb => set3_other R2w4 _ b _ _ _ hb)
        have hblk : BlkC (((R2w4.setCell ⟨R2w2.heap.size, 0, none⟩ (.slice A14 2 c14)).setCell ⟨R2w2.heap.size, 1, none⟩ (.slice none 0 0)).setCell ⟨R2w2.heap.size, 2, none⟩ (.slice (some ⟨R2w1.heap.size, 0, none⟩) 2 2)) R2w2.heap.size ⟨A14, c14, [(1, 1), (2, 1)], none, 0, [], some ⟨R2w1.heap.size, 0, none⟩, 2, [N, T]⟩ := boxC_filled FA_4.out _ _ _
        have KF := Lib.hid ((K7.out.next R2BS.out).add hblk hok2)
        have HX := Lib.hid (show CaV.ca ⟨A14, c14, [(1, 1), (2, 1)], none, 0, [], some ⟨R2w1.heap.size, 0, none⟩, 2, [N, T]⟩ = cX from by show (([(1, 1), (2, 1)], []), its [N, T]) = _; simp [HN.out, HT.out])
        clear hok hok2 hblk hHeld
        go_wp2_with fail
        go_meet
        exact ⟨_, _, rfl, HX, KF⟩
    · go_simp
      have hal := (Below.refl R2w1.heap.size R2w1).alloc (Nat.le_refl _) (.cells #[.slice none 0 0, .slice none 0 0, .slice none 0 0] 28)
      have R2B2 := Lib.hid (Below.trans R2B1.out (hal.mono R2B1.out.size))
      have R2GA := R2B1.out.size
      have FD_2 := Lib.hid (SlAt.below FD_1.out hal)
      have FA_2 := Lib.hid (heap_alloc_new R2w1 (.cells #[.slice none 0 0, .slice none 0 0, .slice none 0 0] 28))
      refine hK.out _ _ ?_ (fun hHeld => ?_)
      · exact ⟨((K7.out.next R2B2.out).it (g := g) (by simp)).1, ((K7.out.next R2B2.out).it (g := g) (by simp)).2, ((K7.out.next R2B2.out).it (g := g + 1) (by simp)).1, ((K7.out.next R2B2.out).it (g := g + 1) (by simp)).2⟩
      clear hK hal FD_1 R2B1
      try simp only [Act.put, List.setIfInBounds_toArray, List.set_cons_zero, List.set_cons_succ]
      generalize World.alloc R2w1 _ = R2w2 at R2B2 FD_2 FA_2 hHeld ⊢
      refine wpAnyH_ready (rs := [1, 5]) (by kernel_rfl) (by simp) ?_
      refine AllReadyH.cons (o := ⟨some 14, _, _, _, _, _⟩) rfl (fun K hK => ?_) (AllReadyH.cons (o := ⟨some 18, _, _, _, _, _⟩) rfl (fun K hK => ?_) AllReadyH.nil)
      · go_simp
        refine (dots2_l R2w00.heap.size 1 1 2 1 R2w2 FD_2.out).mono ?_
        rintro e R2w3 ⟨⟨A14, c14, rfl, hh⟩, hb⟩
        have R2B3 := Lib.hid (Below.trans R2B2.out (hb.mono R2B2.out.size))
        have FD_3 := Lib.hid (SlAt.below FD_2.out hb)
        have FA_3 := Lib.hid ((hb.block _ (Array.getElem?_eq_some_iff.1 FA_2.out).1).trans FA_2.out)
        have FH_3 := Lib.hid (hh)
        clear hh
        first
          | refine hK.out _ _ ?_ (fun hHeld => ?_)
          | (go_wp2_with fail
             refine hK.out _ _ ?_ (fun hHeld => ?_))
        · exact ⟨((K7.out.next R2B3.out).it (g := g) (by simp)).1, ((K7.out.next R2B3.out).it (g := g) (by simp)).2, ((K7.out.next R2B3.out).it (g := g + 1) (by simp)).1, ((K7.out.next R2B3.out).it (g := g + 1) (by simp)).2⟩
        clear hK hb FD_2 FA_2 R2B2
        try simp only [Act.put, List.setIfInBounds_toArray, List.set_cons_zero, List.set_cons_succ]
        refine wpAnyH_take (i := 2) (oi := ⟨some 15, _, _, _, _, _⟩) (v := ?_) rfl (by kernel_rfl) (by kernel_rfl) (by kernel_rfl) (fun _ _ _ h => h) (Or.inl ⟨by rfl, ?_⟩) (by assumption) ?_
        rotate_left 1
        · intro w hSw
          (try dsimp only at hSw)
          go_simp
          try with_reducible rfl
        try simp only [Act.put, List.setIfInBounds_toArray, List.set_cons_zero, List.set_cons_succ]
        refine wpAnyH_ready (rs := [5]) (by kernel_rfl) (by simp) ?_
        refine AllReadyH.cons (o := ⟨some 18, _, _, _, _, _⟩) rfl (fun K hK => ?_) AllReadyH.nil
        go_simp
        have hal := (Below.refl R2w3.heap.size R2w3).alloc (Nat.le_refl _) (.cells #[.string ⟨N.nm.toArray⟩, .slice N.A N.ms.length N.c, .string ⟨T.nm.toArray⟩, .slice T.A T.ms.length T.c] 56)
        have R2B4 := Lib.hid (Below.trans R2B3.out (hal.mono R2B3.out.size))
        have FD_4 := Lib.hid (SlAt.below FD_3.out hal)
        have FA_4 := Lib.hid ((hal.block _ (Array.getElem?_eq_some_iff.1 FA_3.out).1).trans FA_3.out)
        have FH_4 := Lib.hid (FH_3.out.below hal)
        have FX_4 := Lib.hid (holdsB R2w3 R2w3.heap.size N T rfl ((K7.out.next R2B3.out).kz.ok (g := g) (by simp)) ((K7.out.next R2B3.out).kz.ok (g := g + 1) (by simp)))
        refine hK.out _ _ ?_ (fun hHeld => ?_)
        · exact ⟨((K7.out.next R2B4.out).it (g := g) (by simp)).1, ((K7.out.next R2B4.out).it (g := g) (by simp)).2, ((K7.out.next R2B4.out).it (g := g + 1) (by simp)).1, ((K7.out.next R2B4.out).it (g := g + 1) (by simp)).2⟩
        clear hK hal FD_3 FA_3 FH_3 R2B3
        try simp only [Act.put, List.setIfInBounds_toArray, List.set_cons_zero, List.set_cons_succ]
        generalize World.alloc R2w3 _ = R2w4 at R2B4 FD_4 FA_4 FH_4 FX_4 hHeld ⊢
        refine wpAnyH_take (i := 6) (oi := ⟨some 19, _, _, _, _, _⟩) (v := ?_) rfl (by kernel_rfl) (by kernel_rfl) (by kernel_rfl) (fun _ _ _ h => h) (Or.inl ⟨by rfl, ?_⟩) (by assumption) ?_
        rotate_left 1
        · intro w hSw
          (try dsimp only at hSw)
          go_simp
          try with_reducible rfl
        try simp only [Act.put, List.setIfInBounds_toArray, List.set_cons_zero, List.set_cons_succ]
        refine wpAnyH_ready (rs := [8]) (by kernel_rfl) (by simp) ?_
        refine AllReadyH.cons (o := ⟨none, _, _, _, _, _⟩) rfl (fun K hK => ?_) AllReadyH.nil
        obtain ⟨_, r0, r1, r2, f0, f1, f2, gl⟩ := boxC_kept (Below.refl _ _) FA_4.out
        go_simp
        have R2BS := Lib.hid (show Below R2w0.heap.size R2w0 (((R2w4.setCell ⟨R2w1.heap.size, 0, none⟩ (.slice A14 2 c14)).setCell ⟨R2w1.heap.size, 1, none⟩ (.slice none 0 0)).setCell ⟨R2w1.heap.size, 2, none⟩ (.slice (some ⟨R2w3.heap.size, 0, none⟩) 2 2)) from below_set3c R2B4.out R2GA _ _ _)
        refine hK.out _ _ ?_ (fun hHeld => ?_)
        · exact ⟨((K7.out.next R2BS.out).it (g := g) (by simp)).1, ((K7.out.next R2BS.out).it (g := g) (by simp)).2, ((K7.out.next R2BS.out).it (g := g + 1) (by simp)).1, ((K7.out.next R2BS.out).it (g := g + 1) (by simp)).2⟩
        clear hK r0 r1 r2 f0 f1 f2 gl
        try simp only [Act.put, List.setIfInBounds_toArray, List.set_cons_zero, List.set_cons_succ]
        refine wpAnyH_done (by kernel_rfl) ?_ _
        have hok : CaOK R2w4 ⟨A14, c14, [(1, 1), (2, 1)], none, 0, [], some ⟨R2w3.heap.size, 0, none⟩, 2, [N, T]⟩ := ⟨FH_4.out, Holds.nil _, FX_4.out⟩
        have hok2 := CaOK.off_box (W' := (((R2w4.setCell ⟨R2w1.heap.size, 0, none⟩ (.slice A14 2 c14)).setCell ⟨R2w1.heap.size, 1, none⟩ (.slice none 0 0)).setCell ⟨R2w1.heap.size, 2, none⟩ (.slice (some ⟨R2w3.heap.size, 0, none⟩) 2 2))) hok FA_4.out (by simp) (fun b hb => set3_other R2w4 _ b _ _ _ hb)
        have hblk : BlkC (((R2w4.setCell ⟨R2w1.heap.size, 0, none⟩ (.slice A14 2 c14)).setCell ⟨R2w1.heap.size, 1, none⟩ (.slice none 0 0)).setCell ⟨R2w1.heap.size, 2, none⟩ (.slice (some ⟨R2w3.heap.size, 0, none⟩) 2 2)) R2w1.heap.size ⟨A14, c14, [(1, 1), (2, 1)], none, 0, [], some ⟨R2w3.heap.size, 0, none⟩, 2, [N, T]⟩ := boxC_filled FA_4.out _ _ _
        have KF := Lib.hid ((K7.out.next R2BS.out).add hblk hok2)
        have HX := Lib.hid (show CaV.ca ⟨A14, c14, [(1, 1), (2, 1)], none, 0, [], some ⟨R2w3.heap.size, 0, none⟩, 2, [N, T]⟩ = cX from by show (([(1, 1), (2, 1)], []), its [N, T]) = _; simp [HN.out, HT.out])
        clear hok hok2 hblk hHeld
        go_wp2_with fail
        go_meet
        exact ⟨_, _, rfl, HX, KF⟩
      · go_simp
        have hal := (Below.refl R2w2.heap.size R2w2).alloc (Nat.le_refl _) (.cells #[.string ⟨N.nm.toArray⟩, .slice N.A N.ms.length N.c, .string ⟨T.nm.toArray⟩, .slice T.A T.ms.length T.c] 56)
        have R2B3 := Lib.hid (Below.trans R2B2.out (hal.mono R2B2.out.size))
        have FD_3 := Lib.hid (SlAt.below FD_2.out hal)
        have FA_3 := Lib.hid ((hal.block _ (Array.getElem?_eq_some_iff.1 FA_2.out).1).trans FA_2.out)
        have FX_3 := Lib.hid (holdsB R2w2 R2w2.heap.size N T rfl ((K7.out.next R2B2.out).kz.ok (g := g) (by simp)) ((K7.out.next R2B2.out).kz.ok (g := g + 1) (by simp)))
        refine hK.out _ _ ?_ (fun hHeld => ?_)
        · exact ⟨((K7.out.next R2B3.out).it (g := g) (by simp)).1, ((K7.out.next R2B3.out).it (g := g) (by simp)).2, ((K7.out.next R2B3.out).it (g := g + 1) (by simp)).1, ((K7.out.next R2B3.out).it (g := g + 1) (by simp)).2⟩
        clear hK hal FD_2 FA_2 R2B2
        try simp only [Act.put, List.setIfInBounds_toArray, List.set_cons_zero, List.set_cons_succ]
        generalize World.alloc R2w2 _ = R2w3 at R2B3 FD_3 FA_3 FX_3 hHeld ⊢
        refine wpAnyH_ready (rs := [1]) (by kernel_rfl) (by simp) ?_
        refine AllReadyH.cons (o := ⟨some 14, _, _, _, _, _⟩) rfl (fun K hK => ?_) AllReadyH.nil
        go_simp
        refine (dots2_l R2w00.heap.size 1 1 2 1 R2w3 FD_3.out).mono ?_
        rintro e R2w4 ⟨⟨A14, c14, rfl, hh⟩, hb⟩
        have R2B4 := Lib.hid (Below.trans R2B3.out (hb.mono R2B3.out.size))
        have FD_4 := Lib.hid (SlAt.below FD_3.out hb)
        have FA_4 := Lib.hid ((hb.block _ (Array.getElem?_eq_some_iff.1 FA_3.out).1).trans FA_3.out)
        have FX_4 := Lib.hid (FX_3.out.below hb)
        have FH_4 := Lib.hid (hh)
        clear hh
        first
          | refine hK.out _ _ ?_ (fun hHeld => ?_)
          | (go_wp2_with fail
             refine hK.out _ _ ?_ (fun hHeld => ?_))
        · exact ⟨((K7.out.next R2B4.out).it (g := g) (by simp)).1, ((K7.out.next R2B4.out).it (g := g) (by simp)).2, ((K7.out.next R2B4.out).it (g := g + 1) (by simp)).1, ((K7.out.next R2B4.out).it (g := g + 1) (by simp)).2⟩
        clear hK hb FD_3 FA_3 FX_3 R2B3
        try simp only [Act.put, List.setIfInBounds_toArray, List.set_cons_zero, List.set_cons_succ]
        refine wpAnyH_take (i := 2) (oi := ⟨some 15, _, _, _, _, _⟩) (v := ?_) rfl (by kernel_rfl) (by kernel_rfl) (by kernel_rfl) (fun _ _ _ h => h) (Or.inl ⟨by rfl, ?_⟩) (by assumption) ?_
        rotate_left 1
        · intro w hSw
          (try dsimp only at hSw)
          go_simp
          try with_reducible rfl
        try simp only [Act.put, List.setIfInBounds_toArray, List.set_cons_zero, List.set_cons_succ]
        refine wpAnyH_take (i := 6) (oi := ⟨some 19, _, _, _, _, _⟩) (v := ?_) rfl (by kernel_rfl) (by kernel_rfl) (by kernel_rfl) (fun _ _ _ h => h) (Or.inl ⟨by rfl, ?_⟩) (by assumption) ?_
        rotate_left 1
        · intro w hSw
          (try dsimp only at hSw)
          go_simp
          try with_reducible rfl
        try simp only [Act.put, List.setIfInBounds_toArray, List.set_cons_zero, List.set_cons_succ]
        refine wpAnyH_ready (rs := [8]) (by kernel_rfl) (by simp) ?_
        refine AllReadyH.cons (o := ⟨none, _, _, _, _, _⟩) rfl (fun K hK => ?_) AllReadyH.nil
        obtain ⟨_, r0, r1, r2, f0, f1, f2, gl⟩ := boxC_kept (Below.refl _ _) FA_4.out
        go_simp
        have R2BS := Lib.hid (show Below R2w0.heap.size R2w0 (((R2w4.setCell ⟨R2w1.heap.size, 0, none⟩ (.slice A14 2 c14)).setCell ⟨R2w1.heap.size, 1, none⟩ (.slice none 0 0)).setCell ⟨R2w1.heap.size, 2, none⟩ (.slice (some ⟨R2w2.heap.size, 0, none⟩) 2 2)) from below_set3c R2B4.out R2GA _ _ _)
        refine hK.out _ _ ?_ (fun hHeld => ?_)
        · exact ⟨((K7.out.next R2BS.out).it (g := g) (by simp)).1, ((K7.out.next R2BS.out).it (g := g) (by simp)).2, ((K7.out.next R2BS.out).it (g := g + 1) (by simp)).1, ((K7.out.next R2BS.out).it (g := g + 1) (by simp)).2⟩
        clear hK r0 r1 r2 f0 f1 f2 gl
        try simp only [Act.put, List.setIfInBounds_toArray, List.set_cons_zero, List.set_cons_succ]
        refine wpAnyH_done (by kernel_rfl) ?_ _
        have hok : CaOK R2w4 ⟨A14, c14, [(1, 1), (2, 1)], none, 0, [], some ⟨R2w2.heap.size, 0, none⟩, 2, [N, T]⟩ := ⟨FH_4.out, Holds.nil _, FX_4.out⟩
        have hok2 := CaOK.off_box (W' := (((R2w4.setCell ⟨R2w1.heap.size, 0, none⟩ (.slice A14 2 c14)).setCell ⟨R2w1.heap.size, 1, none⟩ (.slice none 0 0)).setCell ⟨R2w1.heap.size, 2, none⟩ (.slice (some ⟨R2w2.heap.size, 0, none⟩) 2 2))) hok FA_4.out (by simp) (fun b hb => set3_other R2w4 _ b _ _ _ hb)
        have hblk : BlkC (((R2w4.setCell ⟨R2w1.heap.size, 0, none⟩ (.slice A14 2 c14)).setCell ⟨R2w1.heap.size, 1, none⟩ (.slice none 0 0)).setCell ⟨R2w1.heap.size, 2, none⟩ (.slice (some ⟨R2w2.heap.size, 0, none⟩) 2 2)) R2w1.heap.size ⟨A14, c14, [(1, 1), (2, 1)], none, 0, [], some ⟨R2w2.heap.size, 0, none⟩, 2, [N, T]⟩ := boxC_filled FA_4.out _ _ _
        have KF := Lib.hid ((K7.out.next R2BS.out).add hblk hok2)
        have HX := Lib.hid (show CaV.ca ⟨A14, c14, [(1, 1), (2, 1)], none, 0, [], some ⟨R2w2.heap.size, 0, none⟩, 2, [N, T]⟩ = cX from by show (([(1, 1), (2, 1)], []), its [N, T]) = _; simp [HN.out, HT.out])
        clear hok hok2 hblk hHeld
        go_wp2_with fail
        go_meet
        exact ⟨_, _, rfl, HX, KF⟩
  · go_simp
    have hal := (Below.refl R2w00.heap.size R2w00).alloc (Nat.le_refl _) (.cells #[.string ⟨N.nm.toArray⟩, .slice N.A N.ms.length N.c, .string ⟨T.nm.toArray⟩, .slice T.A T.ms.length T.c] 56)
    have R2B1 := Lib.hid (Below.trans R2B0.out (hal.mono R2B0.out.size))
    have FX_1 := Lib.hid (holdsB R2w00 R2w00.heap.size N T rfl ((K7.out.next R2B0.out).kz.ok (g := g) (by simp)) ((K7.out.next R2B0.out).kz.ok (g := g + 1) (by simp)))
    refine hK.out _ _ ?_ (fun hHeld => ?_)
    · exact ⟨((K7.out.next R2B1.out).it (g := g) (by simp)).1, ((K7.out.next R2B1.out).it (g := g) (by simp)).2, ((K7.out.next R2B1.out).it (g := g + 1) (by simp)).1, ((K7.out.next R2B1.out).it (g := g + 1) (by simp)).2⟩
    clear hK hal R2B0
    try simp only [Act.put, List.setIfInBounds_toArray, List.set_cons_zero, List.set_cons_succ]
    generalize World.alloc R2w00 _ = R2w1 at R2B1 FX_1 hHeld ⊢
    refine wpAnyH_ready (rs := [0, 7]) (by kernel_rfl) (by simp) ?_
    refine AllReadyH.cons (o := ⟨some 13, _, _, _, _, _⟩) rfl (fun K hK => ?_) (AllReadyH.cons (o := ⟨some 3, _, _, _, _, _⟩) rfl (fun K hK => ?_) AllReadyH.nil)
    · go_simp
      have hal := (Below.refl R2w1.heap.size R2w1).alloc (Nat.le_refl _) (.cells #[.int .i64 1, .int .i64 1, .int .i64 2, .int .i64 1] 3)
      have R2B2 := Lib.hid (Below.trans R2B1.out (hal.mono R2B1.out.size))
      have FX_2 := Lib.hid (FX_1.out.below hal)
      have FD_2 := Lib.hid (ilit2 R2w1 1 1 2 1)
      refine hK.out _ _ ?_ (fun hHeld => ?_)
      · exact ⟨((K7.out.next R2B2.out).it (g := g) (by simp)).1, ((K7.out.next R2B2.out).it (g := g) (by simp)).2, ((K7.out.next R2B2.out).it (g := g + 1) (by simp)).1, ((K7.out.next R2B2.out).it (g := g + 1) (by simp)).2⟩
      clear hK hal FX_1 R2B1
      try simp only [Act.put, List.setIfInBounds_toArray, List.set_cons_zero, List.set_cons_succ]
      generalize World.alloc R2w1 _ = R2w2 at R2B2 FX_2 FD_2 hHeld ⊢
      refine wpAnyH_ready (rs := [1, 7]) (by kernel_rfl) (by simp) ?_
      refine AllReadyH.cons (o := ⟨some 14, _, _, _, _, _⟩) rfl (fun K hK => ?_) (AllReadyH.cons (o := ⟨some 3, _, _, _, _, _⟩) rfl (fun K hK => ?_) AllReadyH.nil)
      · go_simp
        refine (dots2_l R2w1.heap.size 1 1 2 1 R2w2 FD_2.out).mono ?_
        rintro e R2w3 ⟨⟨A14, c14, rfl, hh⟩, hb⟩
        have R2B3 := Lib.hid (Below.trans R2B2.out (hb.mono R2B2.out.size))
        have FX_3 := Lib.hid (FX_2.out.below hb)
        have FD_3 := Lib.hid (SlAt.below FD_2.out hb)
        have FH_3 := Lib.hid (hh)
        clear hh
        first
          | refine hK.out _ _ ?_ (fun hHeld => ?_)
          | (go_wp2_with fail
             refine hK.out _ _ ?_ (fun hHeld => ?_))
        · exact ⟨((K7.out.next R2B3.out).it (g := g) (by simp)).1, ((K7.out.next R2B3.out).it (g := g) (by simp)).2, ((K7.out.next R2B3.out).it (g := g + 1) (by simp)).1, ((K7.out.next R2B3.out).it (g := g + 1) (by simp)).2⟩
        clear hK hb FX_2 FD_2 R2B2
        try simp only [Act.put, List.setIfInBounds_toArray, List.set_cons_zero, List.set_cons_succ]
        refine wpAnyH_take (i := 2) (oi := ⟨some 15, _, _, _, _, _⟩) (v := ?_) rfl (by kernel_rfl) (by kernel_rfl) (by kernel_rfl) (fun _ _ _ h => h) (Or.inl ⟨by rfl, ?_⟩) (by assumption) ?_
        rotate_left 1
        · intro w hSw
          (try dsimp only at hSw)
          go_simp
          try with_reducible rfl
        try simp only [Act.put, List.setIfInBounds_toArray, List.set_cons_zero, List.set_cons_succ]
        refine wpAnyH_take (i := 6) (oi := ⟨some 19, _, _, _, _, _⟩) (v := ?_) rfl (by kernel_rfl) (by kernel_rfl) (by kernel_rfl) (fun _ _ _ h => h) (Or.inl ⟨by rfl, ?_⟩) (by assumption) ?_
        rotate_left 1
        · intro w hSw
          (try dsimp only at hSw)
          go_simp
          try with_reducible rfl
        try simp only [Act.put, List.setIfInBounds_toArray, List.set_cons_zero, List.set_cons_succ]
        refine wpAnyH_ready (rs := [7]) (by kernel_rfl) (by simp) ?_
        refine AllReadyH.cons (o := ⟨some 3, _, _, _, _, _⟩) rfl (fun K hK => ?_) AllReadyH.nil
        go_simp
        have hal := (Below.refl R2w3.heap.size R2w3).alloc (Nat.le_refl _) (.cells #[.slice none 0 0, .slice none 0 0, .slice none 0 0] 28)
        have R2B4 := Lib.hid (Below.trans R2B3.out (hal.mono R2B3.out.size))
        have R2GA := R2B3.out.size
        have FX_4 := Lib.hid (FX_3.out.below hal)
        have FD_4 := Lib.hid (SlAt.below FD_3.out hal)
        have FH_4 := Lib.hid (FH_3.out.below hal)
        have FA_4 := Lib.hid (heap_alloc_new R2w3 (.cells #[.slice none 0 0, .slice none 0 0, .slice none 0 0] 28))
        refine hK.out _ _ ?_ (fun hHeld => ?_)
        · exact ⟨((K7.out.next R2B4.out).it (g := g) (by simp)).1, ((K7.out.next R2B4.out).it (g := g) (by simp)).2, ((K7.out.next R2B4.out).it (g := g + 1) (by simp)).1, ((K7.out.next R2B4.out).it (g := g + 1) (by simp)).2⟩
        clear hK hal FX_3 FD_3 FH_3 R2B3
        try simp only [Act.put, List.setIfInBounds_toArray, List.set_cons_zero, List.set_cons_succ]
        generalize World.alloc R2w3 _ = R2w4 at R2B4 FX_4 FD_4 FH_4 FA_4 hHeld ⊢
        refine wpAnyH_ready (rs := [8]) (by kernel_rfl) (by simp) ?_
        refine AllReadyH.cons (o := ⟨none, _, _, _, _, _⟩) rfl (fun K hK => ?_) AllReadyH.nil
        obtain ⟨_, r0, r1, r2, f0, f1, f2, gl⟩ := boxC_kept (Below.refl _ _) FA_4.out
        go_simp
        have R2BS := Lib.hid (show Below R2w0.heap.size R2w0 (((R2w4.setCell ⟨R2w3.heap.size, 0, none⟩ (.slice A14 2 c14)).setCell ⟨R2w3.heap.size, 1, none⟩ (.slice none 0 0)).setCell ⟨R2w3.heap.size, 2, none⟩ (.slice (some ⟨R2w00.heap.size, 0, none⟩) 2 2)) from below_set3c R2B4.out R2GA _ _ _)
        refine hK.out _ _ ?_ (fun hHeld => ?_)
        · exact ⟨((K7.out.next R2BS.out).it (g := g) (by simp)).1, ((K7.out.next R2BS.out).it (g := g) (by simp)).2, ((K7.out.next R2BS.out).it (g := g + 1) (by simp)).1, ((K7.out.next R2BS.out).it (g := g + 1) (by simp)).2⟩
        clear hK r0 r1 r2 f0 f1 f2 gl
        try simp only [Act.put, List.setIfInBounds_toArray, List.set_cons_zero, List.set_cons_succ]
        refine wpAnyH_done (by kernel_rfl) ?_ _
        have hok : CaOK R2w4 ⟨A14, c14, [(1, 1), (2, 1)], none, 0, [], some ⟨R2w00.heap.size, 0, none⟩, 2, [N, T]⟩ := ⟨FH_4.out, Holds.nil _, FX_4.out⟩
        have hok2 := CaOK.off_box (W' := (((R2w4.setCell ⟨R2w3.heap.size, 0, none⟩ (.slice A14 2 c14)).setCell ⟨R2w3.heap.size, 1, none⟩ (.slice none 0 0)).setCell ⟨R2w3.heap.size, 2, none⟩ (.slice (some ⟨R2w00.heap.size, 0, none⟩) 2 2))) hok FA_4.out (by simp) (fun b hb => set3_other R2w4 _ b _ _ _ hb)
        have hblk : BlkC (((R2w4.setCell ⟨R2w3.heap.size, 0, none⟩ (.slice A14 2 c14)).setCell ⟨R2w3.heap.size, 1, none⟩ (.slice none 0 0)).setCell ⟨R2w3.heap.size, 2, none⟩ (.slice (some ⟨R2w00.heap.size, 0, none⟩) 2 2)) R2w3.heap.size ⟨A14, c14, [(1, 1), (2, 1)], none, 0, [], some ⟨R2w00.heap.size, 0, none⟩, 2, [N, T]⟩ := boxC_filled FA_4.out _ _ _
        have KF := Lib.hid ((K7.out.next R2BS.out).add hblk hok2)
        have HX := Lib.hid (show CaV.ca ⟨A14, c14, [(1, 1), (2, 1)], none, 0, [], some ⟨R2w00.heap.size, 0, none⟩, 2, [N, T]⟩ = cX from by show (([(1, 1), (2, 1)], []), its [N, T]) = _; simp [HN.out, HT.out])
        clear hok hok2 hblk hHeld
        go_wp2_with fail
        go_meet
        exact ⟨_, _, rfl, HX, KF⟩
      · go_simp
        have hal := (Below.refl R2w2.heap.size R2w2).alloc (Nat.le_refl _) (.cells #[.slice none 0 0, .slice none 0 0, .slice none 0 0] 28)
        have R2B3 := Lib.hid (Below.trans R2B2.out (hal.mono R2B2.out.size))
        have R2GA := R2B2.out.size
        have FX_3 := Lib.hid (FX_2.out.below hal)
        have FD_3 := Lib.hid (SlAt.below FD_2.out hal)
        have FA_3 := Lib.hid (heap_alloc_new R2w2 (.cells #[.slice none 0 0, .slice none 0 0, .slice none 0 0] 28))
        refine hK.out _ _ ?_ (fun hHeld => ?_)
        · exact ⟨((K7.out.next R2B3.out).it (g := g) (by simp)).1, ((K7.out.next R2B3.out).it (g := g) (by simp)).2, ((K7.out.next R2B3.out).it (g := g + 1) (by simp)).1, ((K7.out.next R2B3.out).it (g := g + 1) (by simp)).2⟩
        clear hK hal FX_2 FD_2 R2B2
        try simp only [Act.put, List.setIfInBounds_toArray, List.set_cons_zero, List.set_cons_succ]
        generalize World.alloc R2w2 _ = R2w3 at R2B3 FX_3 FD_3 FA_3 hHeld ⊢
        refine wpAnyH_ready (rs := [1]) (by kernel_rfl) (by simp) ?_
        refine AllReadyH.cons (o := ⟨some 14, _, _, _, _, _⟩) rfl (fun K hK => ?_) AllReadyH.nil
        go_simp
        refine (dots2_l R2w1.heap.size 1 1 2 1 R2w3 FD_3.out).mono ?_
        rintro e R2w4 ⟨⟨A14, c14, rfl, hh⟩, hb⟩
        have R2B4 := Lib.hid (Below.trans R2B3.out (hb.mono R2B3.out.size))
        have FX_4 := Lib.hid (FX_3.out.below hb)
        have FD_4 := Lib.hid (SlAt.below FD_3.out hb)
        have FA_4 := Lib.hid ((hb.block _ (Array.getElem?_eq_some_iff.1 FA_3.out).1).trans FA_3.out)
        have FH_4 := Lib.hid (hh)
        clear hh
        first
          | refine hK.out _ _ ?_ (fun hHeld => ?_)
          | (go_wp2_with fail
             refine hK.out _ _ ?_ (fun hHeld => ?_))
        · exact ⟨((K7.out.next R2B4.out).it (g := g) (by simp)).1, ((K7.out.next R2B4.out).it (g := g) (by simp)).2, ((K7.out.next R2B4.out).it (g := g + 1) (by simp)).1, ((K7.out.next R2B4.out).it (g := g + 1) (by simp)).2⟩
        clear hK hb FX_3 FD_3 FA_3 R2B3
        try simp only [Act.put, List.setIfInBounds_toArray, List.set_cons_zero, List.set_cons_succ]
        refine wpAnyH_take (i := 2) (oi := ⟨some 15, _, _, _, _, _⟩) (v := ?_) rfl (by kernel_rfl) (by kernel_rfl) (by kernel_rfl) (fun _ _ _ h => h) (Or.inl ⟨by rfl, ?_⟩) (by assumption) ?_
        rotate_left 1
        · intro w hSw
          (try dsimp only at hSw)
          go_simp
          try with_reducible rfl
        try simp only [Act.put, List.setIfInBounds_toArray, List.set_cons_zero, List.set_cons_succ]
        refine wpAnyH_take (i := 6) (oi := ⟨some 19, _, _, _, _, _⟩) (v := ?_) rfl (by kernel_rfl) (by kernel_rfl) (by kernel_rfl) (fun _ _ _ h => h) (Or.inl ⟨by rfl, ?_⟩) (by assumption) ?_
        rotate_left 1
        · intro w hSw
          (try dsimp only at hSw)
          go_simp
          try with_reducible rfl
        try simp only [Act.put, List.setIfInBounds_toArray, List.set_cons_zero, List.set_cons_succ]
        refine wpAnyH_ready (rs := [8]) (by kernel_rfl) (by simp) ?_
        refine AllReadyH.cons (o := ⟨none, _, _, _, _, _⟩) rfl (fun K hK => ?_) AllReadyH.nil
        obtain ⟨_, r0, r1, r2, f0, f1, f2, gl⟩ := boxC_kept (Below.refl _ _) FA_4.out
        go_simp
        have R2BS := Lib.hid (show Below R2w0.heap.size R2w0 (((R2w4.setCell ⟨R2w2.heap.size, 0, none⟩ (.slice A14 2 c14)).setCell ⟨R2w2.heap.size, 1, none⟩ (.slice none 0 0)).setCell ⟨R2w2.heap.size, 2, none⟩ (.slice (some ⟨R2w00.heap.size, 0, none⟩) 2 2)) from below_set3c R2B4.out R2GA _ _ _)
        refine hK.out _ _ ?_ (fun hHeld => ?_)
        · exact ⟨((K7.out.next R2BS.out).it (g := g) (by simp)).1, ((K7.out.next R2BS.out).it (g := g) (by simp)).2, ((K7.out.next R2BS.out).it (g := g + 1) (by simp)).1, ((K7.out.next R2BS.out).it (g := g + 1) (by simp)).2⟩
        clear hK r0 r1 r2 f0 f1 f2 gl
        try simp only [Act.put, List.setIfInBounds_toArray, List.set_cons_zero, List.set_cons_succ]
        refine wpAnyH_done (by kernel_rfl) ?_ _
        have hok : CaOK R2w4 ⟨A14, c14, [(1, 1), (2, 1)], none, 0, [], some ⟨R2w00.heap.size, 0, none⟩, 2, [N, T]⟩ := ⟨FH_4.out, Holds.nil _, FX_4.out⟩
        have hok2 := CaOK.off_box (W' := (((R2w4.setCell ⟨R2w2.heap.size, 0, none⟩ (.slice A14 2 c14)).setCell ⟨R2w2.heap.size, 1, none⟩ (.slice none 0 0)).setCell ⟨R2w2.heap.size, 2, none⟩ (.slice (some ⟨R2w00.heap.size, 0, none⟩) 2 2))) hok FA_4.out (by simp) (fun b hb => set3_other R2w4 _ b _ _ _ hb)
        have hblk : BlkC (((R2w4.setCell ⟨R2w2.heap.size, 0, none⟩ (.slice A14 2 c14)).setCell ⟨R2w2.heap.size, 1, none⟩ (.slice none 0 0)).setCell ⟨R2w2.heap.size, 2, none⟩ (.slice (some ⟨R2w00.heap.size, 0, none⟩) 2 2)) R2w2.heap.size ⟨A14, c14, [(1, 1), (2, 1)], none, 0, [], some ⟨R2w00.heap.size, 0, none⟩, 2, [N, T]⟩ := boxC_filled FA_4.out _ _ _
        have KF := Lib.hid ((K7.out.next R2BS.out).add hblk hok2)
        have HX := Lib.hid (show CaV.ca ⟨A14, c14, [(1, 1), (2, 1)], none, 0, [], some ⟨R2w00.heap.size, 0, none⟩, 2, [N, T]⟩ = cX from by show (([(1, 1), (2, 1)], []), its [N, T]) = _; simp [HN.out, HT.out])
        clear hok hok2 hblk hHeld
        go_wp2_with fail
        go_meet
        exact ⟨_, _, rfl, HX, KF⟩
    · go_simp
      have hal := (Below.refl R2w1.heap.size R2w1).alloc (Nat.le_refl _) (.cells #[.slice none 0 0, .slice none 0 0, .slice none 0 0] 28)
      have R2B2 := Lib.hid (Below.trans R2B1.out (hal.mono R2B1.out.size))
      have R2GA := R2B1.out.size
      have FX_2 := Lib.hid (FX_1.out.below hal)
      have FA_2 := Lib.hid (heap_alloc_new R2w1 (.cells #[.slice none 0 0, .slice none 0 0, .slice none 0 0] 28))
      refine hK.out _ _ ?_ (fun hHeld => ?_)
      · exact ⟨((K7.out.next R2B2.out).it (g := g) (by simp)).1, ((K7.out.next R2B2.out).it (g := g) (by simp)).2, ((K7.out.next R2B2.out).it (g := g + 1) (by simp)).1, ((K7.out.next R2B2.out).it (g := g + 1) (by simp)).2⟩
      clear hK hal FX_1 R2B1
      try simp only [Act.put, List.setIfInBounds_toArray, List.set_cons_zero, List.set_cons_succ]
      generalize World.alloc R2w1 _ = R2w2 at R2B2 FX_2 FA_2 hHeld ⊢
      refine wpAnyH_ready (rs := [0]) (by kernel_rfl) (by simp) ?_
      refine AllReadyH.cons (o := ⟨some 13, _, _, _, _, _⟩) rfl (fun K hK => ?_) AllReadyH.nil
      go_simp
      have hal := (Below.refl R2w2.heap.size R2w2).alloc (Nat.le_refl _) (.cells #[.int .i64 1, .int .i64 1, .int .i64 2, .int .i64 1] 3)
      have R2B3 := Lib.hid (Below.trans R2B2.out (hal.mono R2B2.out.size))
      have FX_3 := Lib.hid (FX_2.out.below hal)
      have FA_3 := Lib.hid ((hal.block _ (Array.getElem?_eq_some_iff.1 FA_2.out).1).trans FA_2.out)
      have FD_3 := Lib.hid (ilit2 R2w2 1 1 2 1)
      refine hK.out _ _ ?_ (fun hHeld => ?_)
      · exact ⟨((K7.out.next R2B3.out).it (g := g) (by simp)).1, ((K7.out.next R2B3.out).it (g := g) (by simp)).2, ((K7.out.next R2B3.out).it (g := g + 1) (by simp)).1, ((K7.out.next R2B3.out).it (g := g + 1) (by simp)).2⟩
      clear hK hal FX_2 FA_2 R2B2
      try simp only [Act.put, List.setIfInBounds_toArray, List.set_cons_zero, List.set_cons_succ]
      generalize World.alloc R2w2 _ = R2w3 at R2B3 FX_3 FA_3 FD_3 hHeld ⊢
      refine wpAnyH_ready (rs := [1]) (by kernel_rfl) (by simp) ?_
      refine AllReadyH.cons (o := ⟨some 14, _, _, _, _, _⟩) rfl (fun K hK => ?_) AllReadyH.nil
      go_simp
      refine (dots2_l R2w2.heap.size 1 1 2 1 R2w3 FD_3.out).mono ?_
      rintro e R2w4 ⟨⟨A14, c14, rfl, hh⟩, hb⟩
      have R2B4 := Lib.hid (Below.trans R2B3.out (hb.mono R2B3.out.size))
      have FX_4 := Lib.hid (FX_3.out.below hb)
      have FA_4 := Lib.hid ((hb.block _ (Array.getElem?_eq_some_iff.1 FA_3.out).1).trans FA_3.out)
      have FD_4 := Lib.hid (SlAt.below FD_3.out hb)
      have FH_4 := Lib.hid (hh)
      clear hh
      first
        | refine hK.out _ _ ?_ (fun hHeld => ?_)
        | (go_wp2_with fail
           refine hK.out _ _ ?_ (fun hHeld => ?_))
      · exact ⟨((K7.out.next R2B4.out).it (g := g) (by simp)).1, ((K7.out.next R2B4.out).it (g := g) (by simp)).2, ((K7.out.next R2B4.out).it (g := g + 1) (by simp)).1, ((K7.out.next R2B4.out).it (g := g + 1) (by simp)).2⟩
      clear hK hb FX_3 FA_3 FD_3 R2B3
      try simp only [Act.put, List.setIfInBounds_toArray, List.set_cons_zero, List.set_cons_succ]
      refine wpAnyH_take (i := 2) (oi := ⟨some 15, _, _, _, _, _⟩) (v := ?_) rfl (by kernel_rfl) (by kernel_rfl) (by kernel_rfl) (fun _ _ _ h => h) (Or.inl ⟨by rfl, ?_⟩) (by assumption) ?_
      rotate_left 1
      · intro w hSw
        (try dsimp only at hSw)
        go_simp
        try with_reducible rfl
      try simp only [Act.put, List.setIfInBounds_toArray, List.set_cons_zero, List.set_cons_succ]
      refine wpAnyH_take (i := 6) (oi := ⟨some 19, _, _, _, _, _⟩) (v := ?_) rfl (by kernel_rfl) (by kernel_rfl) (by kernel_rfl) (fun _ _ _ h => h) (Or.inl ⟨by rfl, ?_⟩) (by assumption) ?_
      rotate_left 1
      · intro w hSw
        (try dsimp only at hSw)
        go_simp
        try with_reducible rfl
      try simp only [Act.put, List.setIfInBounds_toArray, List.set_cons_zero, List.set_cons_succ]
      refine wpAnyH_ready (rs := [8]) (by kernel_rfl) (by simp) ?_
      refine AllReadyH.cons (o := ⟨none, _, _, _, _, _⟩) rfl (fun K hK => ?_) AllReadyH.nil
      obtain ⟨_, r0, r1, r2, f0, f1, f2, gl⟩ := boxC_kept (Below.refl _ _) FA_4.out
      go_simp
      have R2BS := Lib.hid (show Below R2w0.heap.size R2w0 (((R2w4.setCell ⟨R2w1.heap.size, 0, none⟩ (.slice A14 2 c14)).setCell ⟨R2w1.heap.size, 1, none⟩ (.slice none 0 0)).setCell ⟨R2w1.heap.size, 2, none⟩ (.slice (some ⟨R2w00.heap.size, 0, none⟩) 2 2)) from below_set3c R2B4.out R2GA _ _ _)
      refine hK.out _ _ ?_ (fun hHeld => ?_)
      · exact ⟨((K7.out.next R2BS.out).it (g := g) (by simp)).1, ((K7.out.next R2BS.out).it (g := g) (by simp)).2, ((K7.out.next R2BS.out).it (g := g + 1) (by simp)).1, ((K7.out.next R2BS.out).it (g := g + 1) (by simp)).2⟩
      clear hK r0 r1 r2 f0 f1 f2 gl
      try simp only [Act.put, List.setIfInBounds_toArray, List.set_cons_zero, List.set_cons_succ]
      refine wpAnyH_done (by kernel_rfl) ?_ _
      have hok : CaOK R2w4 ⟨A14, c14, [(1, 1), (2, 1)], none, 0, [], some ⟨R2w00.heap.size, 0, none⟩, 2, [N, T]⟩ := ⟨FH_4.out, Holds.nil _, FX_4.out⟩
      have hok2 := CaOK.off_box (W' := (((R2w4.setCell ⟨R2w1.heap.size, 0, none⟩ (.slice A14 2 c14)).setCell ⟨R2w1.heap.size, 1, none⟩ (.slice none 0 0)).setCell ⟨R2w1.heap.size, 2, none⟩ (.slice (some ⟨R2w00.heap.size, 0, none⟩) 2 2))) hok FA_4.out (by simp) (fun b hb => set3_other R2w4 _ b _ _ _ hb)
      have hblk : BlkC (((R2w4.setCell ⟨R2w1.heap.size, 0, none⟩ (.slice A14 2 c14)).setCell ⟨R2w1.heap.size, 1, none⟩ (.slice none 0 0)).setCell ⟨R2w1.heap.size, 2, none⟩ (.slice (some ⟨R2w00.heap.size, 0, none⟩) 2 2)) R2w1.heap.size ⟨A14, c14, [(1, 1), (2, 1)], none, 0, [], some ⟨R2w00.heap.size, 0, none⟩, 2, [N, T]⟩ := boxC_filled FA_4.out _ _ _
      have KF := Lib.hid ((K7.out.next R2BS.out).add hblk hok2)
      have HX := Lib.hid (show CaV.ca ⟨A14, c14, [(1, 1), (2, 1)], none, 0, [], some ⟨R2w00.heap.size, 0, none⟩, 2, [N, T]⟩ = cX from by show (([(1, 1), (2, 1)], []), its [N, T]) = _; simp [HN.out, HT.out])
      clear hok hok2 hblk hHeld
      go_wp2_with fail
      go_meet
      exact ⟨_, _, rfl, HX, KF⟩
  · go_simp
    have hal := (Below.refl R2w00.heap.size R2w00).alloc (Nat.le_refl _) (.cells #[.slice none 0 0, .slice none 0 0, .slice none 0 0] 28)
    have R2B1 := Lib.hid (Below.trans R2B0.out (hal.mono R2B0.out.size))
    have R2GA := R2B0.out.size
    have FA_1 := Lib.hid (heap_alloc_new R2w00 (.cells #[.slice none 0 0, .slice none 0 0, .slice none 0 0] 28))
    refine hK.out _ _ ?_ (fun hHeld => ?_)
    · exact ⟨((K7.out.next R2B1.out).it (g := g) (by simp)).1, ((K7.out.next R2B1.out).it (g := g) (by simp)).2, ((K7.out.next R2B1.out).it (g := g + 1) (by simp)).1, ((K7.out.next R2B1.out).it (g := g + 1) (by simp)).2⟩
    clear hK hal R2B0
    try simp only [Act.put, List.setIfInBounds_toArray, List.set_cons_zero, List.set_cons_succ]
    generalize World.alloc R2w00 _ = R2w1 at R2B1 FA_1 hHeld ⊢
    refine wpAnyH_ready (rs := [0, 5]) (by kernel_rfl) (by simp) ?_
    refine AllReadyH.cons (o := ⟨some 13, _, _, _, _, _⟩) rfl (fun K hK => ?_) (AllReadyH.cons (o := ⟨some 18, _, _, _, _, _⟩) rfl (fun K hK => ?_) AllReadyH.nil)
    · go_simp
      have hal := (Below.refl R2w1.heap.size R2w1).alloc (Nat.le_refl _) (.cells #[.int .i64 1, .int .i64 1, .int .i64 2, .int .i64 1] 3)
      have R2B2 := Lib.hid (Below.trans R2B1.out (hal.mono R2B1.out.size))
      have FA_2 := Lib.hid ((hal.block _ (Array.getElem?_eq_some_iff.1 FA_1.out).1).trans FA_1.out)
      have FD_2 := Lib.hid (ilit2 R2w1 1 1 2 1)
      refine hK.out _ _ ?_ (fun hHeld => ?_)
      · exact ⟨((K7.out.next R2B2.out).it (g := g) (by simp)).1, ((K7.out.next R2B2.out).it (g := g) (by simp)).2, ((K7.out.next R2B2.out).it (g := g + 1) (by simp)).1, ((K7.out.next R2B2.out).it (g := g + 1) (by simp)).2⟩
      clear hK hal FA_1 R2B1
      try simp only [Act.put, List.setIfInBounds_toArray, List.set_cons_zero, List.set_cons_succ]
      generalize World.alloc R2w1 _ = R2w2 at R2B2 FA_2 FD_2 hHeld ⊢
      refine wpAnyH_ready (rs := [1, 5]) (by kernel_rfl) (by simp) ?_
      refine AllReadyH.cons (o := ⟨some 14, _, _, _, _, _⟩) rfl (fun K hK => ?_) (AllReadyH.cons (o := ⟨some 18, _, _, _, _, _⟩) rfl (fun K hK => ?_) AllReadyH.nil)
      · go_simp
        refine (dots2_l R2w1.heap.size 1 1 2 1 R2w2 FD_2.out).mono ?_
        rintro e R2w3 ⟨⟨A14, c14, rfl, hh⟩, hb⟩
        have R2B3 := Lib.hid (Below.trans R2B2.out (hb.mono R2B2.out.size))
        have FA_3 := Lib.hid ((hb.block _ (Array.getElem?_eq_some_iff.1 FA_2.out).1).trans FA_2.out)
        have FD_3 := Lib.hid (SlAt.below FD_2.out hb)
        have FH_3 := Lib.hid (hh)
        clear hh
        first
          | refine hK.out _ _ ?_ (fun hHeld => ?_)
          | (go_wp2_with fail
             refine hK.out _ _ ?_ (fun hHeld => ?_))
        · exact ⟨((K7.out.next R2B3.out).it (g := g) (by simp)).1, ((K7.out.next R2B3.out).it (g := g) (by simp)).2, ((K7.out.next R2B3.out).it (g := g + 1) (by simp)).1, ((K7.out.next R2B3.out).it (g := g + 1) (by simp)).2⟩
        clear hK hb FA_2 FD_2 R2B2
        try simp only [Act.put, List.setIfInBounds_toArray, List.set_cons_zero, List.set_cons_succ]
        refine wpAnyH_take (i := 2) (oi := ⟨some 15, _, _, _, _, _⟩) (v := ?_) rfl (by kernel_rfl) (by kernel_rfl) (by kernel_rfl) (fun _ _ _ h => h) (Or.inl ⟨by rfl, ?_⟩) (by assumption) ?_
        rotate_left 1
        · intro w hSw
          (try dsimp only at hSw)
          go_simp
          try with_reducible rfl
        try simp only [Act.put, List.setIfInBounds_toArray, List.set_cons_zero, List.set_cons_succ]
        refine wpAnyH_ready (rs := [5]) (by kernel_rfl) (by simp) ?_
        refine AllReadyH.cons (o := ⟨some 18, _, _, _, _, _⟩) rfl (fun K hK => ?_) AllReadyH.nil
        go_simp
        have hal := (Below.refl R2w3.heap.size R2w3).alloc (Nat.le_refl _) (.cells #[.string ⟨N.nm.toArray⟩, .slice N.A N.ms.length N.c, .string ⟨T.nm.toArray⟩, .slice T.A T.ms.length T.c] 56)
        have R2B4 := Lib.hid (Below.trans R2B3.out (hal.mono R2B3.out.size))
        have FA_4 := Lib.hid ((hal.block _ (Array.getElem?_eq_some_iff.1 FA_3.out).1).trans FA_3.out)
        have FD_4 := Lib.hid (SlAt.below FD_3.out hal)
        have FH_4 := Lib.hid (FH_3.out.below hal)
        have FX_4 := Lib.hid (holdsB R2w3 R2w3.heap.size N T rfl ((K7.out.next R2B3.out).kz.ok (g := g) (by simp)) ((K7.out.next R2B3.out).kz.ok (g := g + 1) (by simp)))
        refine hK.out _ _ ?_ (fun hHeld => ?_)
        · exact ⟨((K7.out.next R2B4.out).it (g := g) (by simp)).1, ((K7.out.next R2B4.out).it (g := g) (by simp)).2, ((K7.out.next R2B4.out).it (g := g + 1) (by simp)).1, ((K7.out.next R2B4.out).it (g := g + 1) (by simp)).2⟩
        clear hK hal FA_3 FD_3 FH_3 R2B3
        try simp only [Act.put, List.setIfInBounds_toArray, List.set_cons_zero, List.set_cons_succ]
        generalize World.alloc R2w3 _ = R2w4 at R2B4 FA_4 FD_4 FH_4 FX_4 hHeld ⊢
        refine wpAnyH_take (i := 6) (oi := ⟨some 19, _, _, _, _, _⟩) (v := ?_) rfl (by kernel_rfl) (by kernel_rfl) (by kernel_rfl) (fun _ _ _ h => h) (Or.inl ⟨by rfl, ?_⟩) (by assumption) ?_
        rotate_left 1
        · intro w hSw
          (try dsimp only at hSw)
          go_simp
          try with_reducible rfl
        try simp only [Act.put, List.setIfInBounds_toArray, List.set_cons_zero, List.set_cons_succ]
        refine wpAnyH_ready (rs := [8]) (by kernel_rfl) (by simp) ?_
        refine AllReadyH.cons (o := ⟨none, _, _, _, _, _⟩) rfl (fun K hK => ?_) AllReadyH.nil
        obtain ⟨_, r0, r1, r2, f0, f1, f2, gl⟩ := boxC_kept (Below.refl _ _) FA_4.out
        go_simp
        have R2BS := Lib.hid (show Below R2w0.heap.size R2w0 (((R2w4.setCell ⟨R2w00.heap.size, 0, none⟩ (.slice A14 2 c14)).setCell ⟨R2w00.heap.size, 1, none⟩ (.slice none 0 0)).setCell ⟨R2w00.heap.size, 2, none⟩ (.slice (some ⟨R2w3.heap.size, 0, none⟩) 2 2)) from below_set3c R2B4.out R2GA _ _ _)
        refine hK.out _ _ ?_ (fun hHeld => ?_)
        · exact ⟨((K7.out.next R2BS.out).it (g := g) (by simp)).1, ((K7.out.next R2BS.out).it (g := g) (by simp)).2, ((K7.out.next R2BS.out).it (g := g + 1) (by simp)).1, ((K7.out.next R2BS.out).it (g := g + 1) (by simp)).2⟩
        clear hK r0 r1 r2 f0 f1 f2 gl
        try simp only [Act.put, List.setIfInBounds_toArray, List.set_cons_zero, List.set_cons_succ]
        refine wpAnyH_done (by kernel_rfl) ?_ _
        have hok : CaOK R2w4 ⟨A14, c14, [(1, 1), (2, 1)], none, 0, [], some ⟨R2w3.heap.size, 0, none⟩, 2, [N, T]⟩ := ⟨FH_4.out, Holds.nil _, FX_4.out⟩
        have hok2 := CaOK.off_box (W' := (((R2w4.setCell ⟨R2w00.heap.size, 0, none⟩ (.slice A14 2 c14)).setCell ⟨R2w00.heap.size, 1, none⟩ (.slice none 0 0)).setCell ⟨R2w00.heap.size, 2, none⟩ (.slice (some ⟨R2w3.heap.size, 0, none⟩) 2 2))) hok FA_4.out (by simp) (fun b hb => set3_other R2w4 _ b _ _ _ hb)
        have hblk : BlkC (((R2w4.setCell ⟨R2w00.heap.size, 0, none⟩ (.slice A14 2 c14)).setCell ⟨R2w00.heap.size, 1, none⟩ (.slice none 0 0)).setCell ⟨R2w00.heap.size, 2, none⟩ (.slice (some ⟨R2w3.heap.size, 0, none⟩) 2 2)) R2w00.heap.size ⟨A14, c14, [(1, 1), (2, 1)], none, 0, [], some ⟨R2w3.heap.size, 0, none⟩, 2, [N, T]⟩ := boxC_filled FA_4.out _ _ _
        have KF := Lib.hid ((K7.out.next R2BS.out).add hblk hok2)
        have HX := Lib.hid (show CaV.ca ⟨A14, c14, [(1, 1), (2, 1)], none, 0, [], some ⟨R2w3.heap.size, 0, none⟩, 2, [N, T]⟩ = cX from by show (([(1, 1), (2, 1)], []), its [N, T]) = _; simp [HN.out, HT.out])
        clear hok hok2 hblk hHeld
        go_wp2_with fail
        go_meet
        exact ⟨_, _, rfl, HX, KF⟩
      · go_simp
        have hal := (Below.refl R2w2.heap.size R2w2).alloc (Nat.le_refl _) (.cells #[.string ⟨N.nm.toArray⟩, .slice N.A N.ms.length N.c, .string ⟨T.nm.toArray⟩, .slice T.A T.ms.length T.c] 56)
        have R2B3 := Lib.hid (Below.trans R2B2.out (hal.mono R2B2.out.size))
        have FA_3 := Lib.hid ((hal.block _ (Array.getElem?_eq_some_iff.1 FA_2.out).1).trans FA_2.out)
        have FD_3 := Lib.hid (SlAt.below FD_2.out hal)
        have FX_3 := Lib.hid (holdsB R2w2 R2w2.heap.size N T rfl ((K7.out.next R2B2.out).kz.ok (g := g) (by simp)) ((K7.out.next R2B2.out).kz.ok (g := g + 1) (by simp)))
        refine hK.out _ _ ?_ (fun hHeld => ?_)
        · exact ⟨((K7.out.next R2B3.out).it (g := g) (by simp)).1, ((K7.out.next R2B3.out).it (g := g) (by simp)).2, ((K7.out.next R2B3.out).it (g := g + 1) (by simp)).1, ((K7.out.next R2B3.out).it (g := g + 1) (by simp)).2⟩
        clear hK hal FA_2 FD_2 R2B2
        try simp only [Act.put, List.setIfInBounds_toArray, List.set_cons_zero, List.set_cons_succ]
        generalize World.alloc R2w2 _ = R2w3 at R2B3 FA_3 FD_3 FX_3 hHeld ⊢
        refine wpAnyH_ready (rs := [1]) (by kernel_rfl) (by simp) ?_
        refine AllReadyH.cons (o := ⟨some 14, _, _, _, _, _⟩) rfl (fun K hK => ?_) AllReadyH.nil
        go_simp
        refine (dots2_l R2w1.heap.size 1 1 2 1 R2w3 FD_3.out).mono ?_
        rintro e R2w4 ⟨⟨A14, c14, rfl, hh⟩, hb⟩
        have R2B4 := Lib.hid (Below.trans R2B3.out (hb.mono R2B3.out.size))
        have FA_4 := Lib.hid ((hb.block _ (Array.getElem?_eq_some_iff.1 FA_3.out).1).trans FA_3.out)
        have FD_4 := Lib.hid (SlAt.below FD_3.out hb)
        have FX_4 := Lib.hid (FX_3.out.below hb)
        have FH_4 := Lib.hid (hh)
        clear hh
        first
          | refine hK.out _ _ ?_ (fun hHeld => ?_)
          | (go_wp2_with fail
             refine hK.out _ _ ?_ (fun hHeld => ?_))
        · exact ⟨((K7.out.next R2B4.out).it (g := g) (by simp)).1, ((K7.out.next R2B4.out).it (g := g) (by simp)).2, ((K7.out.next R2B4.out).it (g := g + 1) (by simp)).1, ((K7.out.next R2B4.out).it (g := g + 1) (by simp)).2⟩
        clear hK hb FA_3 FD_3 FX_3 R2B3
        try simp only [Act.put, List.setIfInBounds_toArray, List.set_cons_zero, List.set_cons_succ]
        refine wpAnyH_take (i := 2) (oi := ⟨some 15, _, _, _, _, _⟩) (v := ?_) rfl (by kernel_rfl) (by kernel_rfl) (by kernel_rfl) (fun _ _ _ h => h) (Or.inl ⟨by rfl, ?_⟩) (by assumption) ?_
        rotate_left 1
        · intro w hSw
          (try dsimp only at hSw)
          go_simp
          try with_reducible rfl
        try simp only [Act.put, List.setIfInBounds_toArray, List.set_cons_zero, List.set_cons_succ]
        refine wpAnyH_take (i := 6) (oi := ⟨some 19, _, _, _, _, _⟩) (v := ?_) rfl (by kernel_rfl) (by kernel_rfl) (by kernel_rfl) (fun _ _ _ h => h) (Or.inl ⟨by rfl, ?_⟩) (by assumption) ?_
        rotate_left 1
        · intro w hSw
          (try dsimp only at hSw)
          go_simp
          try with_reducible rfl
        try simp only [Act.put, List.setIfInBounds_toArray, List.set_cons_zero, List.set_cons_succ]
        refine wpAnyH_ready (rs := [8]) (by kernel_rfl) (by simp) ?_
        refine AllReadyH.cons (o := ⟨none, _, _, _, _, _⟩) rfl (fun K hK => ?_) AllReadyH.nil
        obtain ⟨_, r0, r1, r2, f0, f1, f2, gl⟩ := boxC_kept (Below.refl _ _) FA_4.out
        go_simp
        have R2BS := Lib.hid (show Below R2w0.heap.size R2w0 (((R2w4.setCell ⟨R2w00.heap.size, 0, none⟩ (.slice A14 2 c14)).setCell ⟨R2w00.heap.size, 1, none⟩ (.slice none 0 0)).setCell ⟨R2w00.heap.size, 2, none⟩ (.slice (some ⟨R2w2.heap.size, 0, none⟩) 2 2)) from below_set3c R2B4.out R2GA _ _ _)
        refine hK.out _ _ ?_ (fun hHeld => ?_)
        · exact ⟨((K7.out.next R2BS.out).it (g := g) (by simp)).1, ((K7.out.next R2BS.out).it (g := g) (by simp)).2, ((K7.out.next R2BS.out).it (g := g + 1) (by simp)).1, ((K7.out.next R2BS.out).it (g := g + 1) (by simp)).2⟩
        clear hK r0 r1 r2 f0 f1 f2 gl
        try simp only [Act.put, List.setIfInBounds_toArray, List.set_cons_zero, List.set_cons_succ]
        refine wpAnyH_done (by kernel_rfl) ?_ _
        have hok : CaOK R2w4 ⟨A14, c14, [(1, 1), (2, 1)], none, 0, [], some ⟨R2w2.heap.size, 0, none⟩, 2, [N, T]⟩ := ⟨FH_4.out, Holds.nil _, FX_4.out⟩
        have hok2 := CaOK.off_box (W' := (((R2w4.setCell ⟨R2w00.heap.size, 0, none⟩ (.slice A14 2 c14)).setCell ⟨R2w00.heap.size, 1, none⟩ (.slice none 0 0)).setCell ⟨R2w00.heap.size, 2, none⟩ (.slice (some ⟨R2w2.heap.size, 0, none⟩) 2 2))) hok FA_4.out (by simp) (fun b hb => set3_other R2w4 _ b _ _ _ hb)
        have hblk : BlkC (((R2w4.setCell ⟨R2w00.heap.size, 0, none⟩ (.slice A14 2 c14)).setCell ⟨R2w00.heap.size, 1, none⟩ (.slice none 0 0)).setCell ⟨R2w00.heap.size, 2, none⟩ (.slice (some ⟨R2w2.heap.size, 0, none⟩) 2 2)) R2w00.heap.size ⟨A14, c14, [(1, 1), (2, 1)], none, 0, [], some ⟨R2w2.heap.size, 0, none⟩, 2, [N, T]⟩ := boxC_filled FA_4.out _ _ _
        have KF := Lib.hid ((K7.out.next R2BS.out).add hblk hok2)
        have HX := Lib.hid (show CaV.ca ⟨A14, c14, [(1, 1), (2, 1)], none, 0, [], some ⟨R2w2.heap.size, 0, none⟩, 2, [N, T]⟩ = cX from by show (([(1, 1), (2, 1)], []), its [N, T]) = _; simp [HN.out, HT.out])
        clear hok hok2 hblk hHeld
        go_wp2_with fail
        go_meet
        exact ⟨_, _, rfl, HX, KF⟩
    · go_simp
      have hal := (Below.refl R2w1.heap.size R2w1).alloc (Nat.le_refl _) (.cells #[.string ⟨N.nm.toArray⟩, .slice N.A N.ms.length N.c, .string ⟨T.nm.toArray⟩, .slice T.A T.ms.length T.c] 56)
      have R2B2 := Lib.hid (Below.trans R2B1.out (hal.mono R2B1.out.size))
      have FA_2 := Lib.hid ((hal.block _ (Array.getElem?_eq_some_iff.1 FA_1.out).1).trans FA_1.out)
      have FX_2 := Lib.hid (holdsB R2w1 R2w1.heap.size N T rfl ((K7.out.next R2B1.out).kz.ok (g := g) (by simp)) ((K7.out.next R2B1.out).kz.ok (g := g + 1) (by simp)))
      refine hK.out _ _ ?_ (fun hHeld => ?_)
      · exact ⟨((K7.out.next R2B2.out).it (g := g) (by simp)).1, ((K7.out.next R2B2.out).it (g := g) (by simp)).2, ((K7.out.next R2B2.out).it (g := g + 1) (by simp)).1, ((K7.out.next R2B2.out).it (g := g + 1) (by simp)).2⟩
      clear hK hal FA_1 R2B1
      try simp only [Act.put, List.setIfInBounds_toArray, List.set_cons_zero, List.set_cons_succ]
      generalize World.alloc R2w1 _ = R2w2 at R2B2 FA_2 FX_2 hHeld ⊢
      refine wpAnyH_ready (rs := [0]) (by kernel_rfl) (by simp) ?_
      refine AllReadyH.cons (o := ⟨some 13, _, _, _, _, _⟩) rfl (fun K hK => ?_) AllReadyH.nil
      go_simp
      have hal := (Below.refl R2w2.heap.size R2w2).alloc (Nat.le_refl _) (.cells #[.int .i64 1, .int .i64 1, .int .i64 2, .int .i64 1] 3)
      have R2B3 := Lib.hid (Below.trans R2B2.out (hal.mono R2B2.out.size))
      have FA_3 := Lib.hid ((hal.block _ (Array.getElem?_eq_some_iff.1 FA_2.out).1).trans FA_2.out)
      have FX_3 := Lib.hid (FX_2.out.below hal)
      have FD_3 := Lib.hid (ilit2 R2w2 1 1 2 1)
      refine hK.out _ _ ?_ (fun hHeld => ?_)
      · exact ⟨((K7.out.next R2B3.out).it (g := g) (by simp)).1, ((K7.out.next R2B3.out).it (g := g) (by simp)).2, ((K7.out.next R2B3.out).it (g := g + 1) (by simp)).1, ((K7.out.next R2B3.out).it (g := g + 1) (by simp)).2⟩
      clear hK hal FA_2 FX_2 R2B2
      try simp only [Act.put, List.setIfInBounds_toArray, List.set_cons_zero, List.set_cons_succ]
      generalize World.alloc R2w2 _ = R2w3 at R2B3 FA_3 FX_3 FD_3 hHeld ⊢
      refine wpAnyH_ready (rs := [1]) (by kernel_rfl) (by simp) ?_
      refine AllReadyH.cons (o := ⟨some 14, _, _, _, _, _⟩) rfl (fun K hK => ?_) AllReadyH.nil
      go_simp
      refine (dots2_l R2w2.heap.size 1 1 2 1 R2w3 FD_3.out).mono ?_
      rintro e R2w4 ⟨⟨A14, c14, rfl, hh⟩, hb⟩
      have R2B4 := Lib.hid (Below.trans R2B3.out (hb.mono R2B3.out.size))
      have FA_4 := Lib.hid ((hb.block _ (Array.getElem?_eq_some_iff.1 FA_3.out).1).trans FA_3.out)
      have FX_4 := Lib.hid (FX_3.out.below hb)
      have FD_4 := Lib.hid (SlAt.below FD_3.out hb)
      have FH_4 := Lib.hid (hh)
      clear hh
      first
        | refine hK.out _ _ ?_ (fun hHeld => ?_)
        | (go_wp2_with fail
           refine hK.out _ _ ?_ (fun hHeld => ?_))
      · exact ⟨((K7.out.next R2B4.out).it (g := g) (by simp)).1, ((K7.out.next R2B4.out).it (g := g) (by simp)).2, ((K7.out.next R2B4.out).it (g := g + 1) (by simp)).1, ((K7.out.next R2B4.out).it (g := g + 1) (by simp)).2⟩
      clear hK hb FA_3 FX_3 FD_3 R2B3
      try simp only [Act.put, List.setIfInBounds_toArray, List.set_cons_zero, List.set_cons_succ]
      refine wpAnyH_take (i := 2) (oi := ⟨some 15, _, _, _, _, _⟩) (v := ?_) rfl (by kernel_rfl) (by kernel_rfl) (by kernel_rfl) (fun _ _ _ h => h) (Or.inl ⟨by rfl, ?_⟩) (by assumption) ?_
      rotate_left 1
      · intro w hSw
        (try dsimp only at hSw)
        go_simp
        try with_reducible rfl
      try simp only [Act.put, List.setIfInBounds_toArray, List.set_cons_zero, List.set_cons_succ]
      refine wpAnyH_take (i := 6) (oi := ⟨some 19, _, _, _, _, _⟩) (v := ?_) rfl (by kernel_rfl) (by kernel_rfl) (by kernel_rfl) (fun _ _ _ h => h) (Or.inl ⟨by rfl, ?_⟩) (by assumption) ?_
      rotate_left 1
      · intro w hSw
        (try dsimp only at hSw)
        go_simp
        try with_reducible rfl
      try simp only [Act.put, List.setIfInBounds_toArray, List.set_cons_zero, List.set_cons_succ]
      refine wpAnyH_ready (rs := [8]) (by kernel_rfl) (by simp) ?_
      refine AllReadyH.cons (o := ⟨none, _, _, _, _, _⟩) rfl (fun K hK => ?_) AllReadyH.nil
      obtain ⟨_, r0, r1, r2, f0, f1, f2, gl⟩ := boxC_kept (Below.refl _ _) FA_4.out
      go_simp
      have R2BS := Lib.hid (show Below R2w0.heap.size R2w0 (((R2w4.setCell ⟨R2w00.heap.size, 0, none⟩ (.slice A14 2 c14)).setCell ⟨R2w00.heap.size, 1, none⟩ (.slice none 0 0)).setCell ⟨R2w00.heap.size, 2, none⟩ (.slice (some ⟨R2w1.heap.size, 0, none⟩) 2 2)) from below_set3c R2B4.out R2GA _ _ _)
      refine hK.out _ _ ?_ (fun hHeld => ?_)
      · exact ⟨((K7.out.next R2BS.out).it (g := g) (by simp)).1, ((K7.out.next R2BS.out).it (g := g) (by simp)).2, ((K7.out.next R2BS.out).it (g := g + 1) (by simp)).1, ((K7.out.next R2BS.out).it (g := g + 1) (by simp)).2⟩
      clear hK r0 r1 r2 f0 f1 f2 gl
      try simp only [Act.put, List.setIfInBounds_toArray, List.set_cons_zero, List.set_cons_succ]
      refine wpAnyH_done (by kernel_rfl) ?_ _
      have hok : CaOK R2w4 ⟨A14, c14, [(1, 1), (2, 1)], none, 0, [], some ⟨R2w1.heap.size, 0, none⟩, 2, [N, T]⟩ := ⟨FH_4.out, Holds.nil _, FX_4.out⟩
      have hok2 := CaOK.off_box (W' := (((R2w4.setCell ⟨R2w00.heap.size, 0, none⟩ (.slice A14 2 c14)).setCell ⟨R2w00.heap.size, 1, none⟩ (.slice none 0 0)).setCell ⟨R2w00.heap.size, 2, none⟩ (.slice (some ⟨R2w1.heap.size, 0, none⟩) 2 2))) hok FA_4.out (by simp) (fun b hb => set3_other R2w4 _ b _ _ _ hb)
      have hblk : BlkC (((R2w4.setCell ⟨R2w00.heap.size, 0, none⟩ (.slice A14 2 c14)).setCell ⟨R2w00.heap.size, 1, none⟩ (.slice none 0 0)).setCell ⟨R2w00.heap.size, 2, none⟩ (.slice (some ⟨R2w1.heap.size, 0, none⟩) 2 2)) R2w00.heap.size ⟨A14, c14, [(1, 1), (2, 1)], none, 0, [], some ⟨R2w1.heap.size, 0, none⟩, 2, [N, T]⟩ := boxC_filled FA_4.out _ _ _
      have KF := Lib.hid ((K7.out.next R2BS.out).add hblk hok2)
      have HX := Lib.hid (show CaV.ca ⟨A14, c14, [(1, 1), (2, 1)], none, 0, [], some ⟨R2w1.heap.size, 0, none⟩, 2, [N, T]⟩ = cX from by show (([(1, 1), (2, 1)], []), its [N, T]) = _; simp [HN.out, HT.out])
      clear hok hok2 hblk hHeld
      go_wp2_with fail
      go_meet
      exact ⟨_, _, rfl, HX, KF⟩

end Go.Proofs.YtfmhhmceoikgpaaGreat
