/- The chapter's examples of carts: region 4 (written by split_known10.py). -/
import Derived.Test.YtfmhhmceoikgpaaGreatNL
namespace Go.Proofs.YtfmhhmceoikgpaaGreat
open Go.RowKit

set_option maxRecDepth 100000 in
set_option maxHeartbeats 8000000 in
theorem known_r4 {w : World} {N : ItV} {T : ItV} {g : Nat} {gx : Nat} {X : CaV} {u7 u8 u9 u10 u11 u12 u13 u14 u15 u16 u17 u18 u19 u20 u21 u22 u23 u24 u25 u26 u27 u28 u29 u30 u31 u32 u33 u34 u35 u36 u37 u38 u39 u40 u41 u42 u43 u44 u45 u46 u47 u48 u49 u50 u51 u52 u53 u54 u55 u56 u57 u58 u59 u60 u61 u62 u63 u64 u65 u66 u67 u68 u69 u70 u71 u72 u73 u74 u75 u76 u77 u78 u79 u80 u81 u82 u83 u84 u85 u86 u87 u88 u89 u90 u91 u92 u93 u94 u95 u96 u97 u98 u99 u100 u101 u102 u103 u104 u105 u106 u107 u108 u109 u110 u111 u112 u113 u114 u115 u116 u117 u118 u119 u120 u121 u122 u123 u124 u125 u126 u127 u128 u129 u130 u131 u132 u133 u134 u135 u136 : Value} {gy : Nat} {Y : CaV} {w9 : World} {ps45 : String} {J K' _ _ : Act → World → Prop} (HN : Hid (ItV.it N = (nNut, [{ r := 2, c := 1, q := 7, t := 4 }]))) (_ : Hid (CaV.ca X = cX)) (K9 : Hid (KWk w [(g, N), (g + 1, T)] [(gx, X), (gy, Y)] w9))
    (hj : ∀ (a' : Act) (w' : World),
    (∃ u5 u7 u8 u9 u10 u11 u12 u13 u14 u15 u16 u17 u18 u19 u20 u21 u22 u23 u24 u25 u26 u27 u28 u29 u30 u31 u32 u33 u34
        u35 u36 u37 u38 u39 u40 u41 u42 u43 u44 u45 u46 u47 u48 u49 u50 u51 u52 u53 u54 u55 u56 u57 u58 u59 u60 u61 u62
        u63 u64 u65 u66 u67 u68 u69 u70 u71 u72 u73 u74 u75 u76 u77 u78 u79 u80 u81 u82 u83 u84 u85 u86 u87 u88 u89 u90
        u91 u92 u93 u94 u95 u96 u97 u98 u99 u100 u101 u102 u103 u104 u105 u106 u107 u108 u109 u110 u111 u112 u113 u114
        u115 u116 u117 u118 u119 u120 u121 u122 u123 u124 u125 u126 u127 u128 u129 u130 u131 u132 u133 u134 u135 u136,
        (∃ g' X',
            u5 = Value.pointer (some { block := g', off := 0 }) ∧
              Hid (CaV.ca X' = cZ) ∧ Hid (KWk w [(g, N), (g + 1, T)] ([(gx, X), (gy, Y)] ++ [(g', X')]) w')) ∧
          a' =
            {
              tmps :=
                #[Value.bool false, Value.pointer (some { block := g, off := 0 }),
                  Value.pointer (some { block := g + 1, off := 0 }), Value.pointer (some { block := gx, off := 0 }),
                  Value.pointer (some { block := gy, off := 0 }), u5, undef, u7, u8, u9, u10, u11, u12, u13, u14, u15,
                  u16, u17, u18, u19, u20, u21, u22, u23, u24, u25, u26, u27, u28, u29, u30, u31, u32, u33, u34, u35,
                  u36, u37, u38, u39, u40, u41, u42, u43, u44, u45, u46, u47, u48, u49, u50, u51, u52, u53, u54, u55,
                  u56, u57, u58, u59, u60, u61, u62, u63, u64, u65, u66, u67, u68, u69, u70, u71, u72, u73, u74, u75,
                  u76, u77, u78, u79, u80, u81, u82, u83, u84, u85, u86, u87, u88, u89, u90, u91, u92, u93, u94, u95,
                  u96, u97, u98, u99, u100, u101, u102, u103, u104, u105, u106, u107, u108, u109, u110, u111, u112,
                  u113, u114, u115, u116, u117, u118, u119, u120, u121, u122, u123, u124, u125, u126, u127, u128, u129,
                  u130, u131, u132, u133, u134, u135, u136],
              defers := [] }) →
      J a' w')
    (hm : ∀ (a' : Act) (w' : World), Met J a' w' → K' a' w') :
    Code.wp Tryz.prog
    (Code.region 4
      #[{ dst := some 27,
          op :=
            Op.buildSlice 108 4
              #[(0, Operand.const (Value.int IntKind.i64 1)), (1, Operand.const (Value.int IntKind.i64 2)),
                (2, Operand.const (Value.int IntKind.i64 2)), (3, Operand.const (Value.int IntKind.i64 1))],
          type := 108, pos := ps45, after := #[], guard := none },
        { dst := some 28,
          op := Op.call { callee := Callee.value (Operand.func 36), args := #[Operand.tmp 27], argTypes := #[108] },
          type := 22, pos := ps45, after := #[{ on := 0, ground := Ground.data }], guard := none },
        { dst := some 29, op := Op.build 25 #[(0, Operand.tmp 28)], type := 25, pos := ps45,
          after := #[{ on := 1, ground := Ground.data }], guard := none },
        { dst := some 30, op := Op.load 56 (Operand.tmp 1), type := 56, pos := ps45, after := #[],
          guard := none },
        { dst := some 31,
          op :=
            Op.call
              { callee := Callee.value (Operand.func 35),
                args :=
                  #[Operand.const (Value.int IntKind.i64 1), Operand.const (Value.int IntKind.i64 1),
                    Operand.const (Value.int IntKind.i64 5), Operand.const (Value.int IntKind.u64 3)],
                argTypes := #[3, 3, 3, 46] },
          type := 65, pos := ps45, after := #[{ on := 1, ground := Ground.chain }], guard := none },
        { dst := some 32,
          op :=
            Op.call
              { callee := Callee.value (Operand.func 35),
                args :=
                  #[Operand.const (Value.int IntKind.i64 1), Operand.const (Value.int IntKind.i64 2),
                    Operand.const (Value.int IntKind.i64 2), Operand.const (Value.int IntKind.u64 9)],
                argTypes := #[3, 3, 3, 46] },
          type := 65, pos := ps45, after := #[{ on := 4, ground := Ground.chain }], guard := none },
        { dst := some 33, op := Op.buildSlice 54 2 #[(0, Operand.tmp 31), (1, Operand.tmp 32)], type := 54,
          pos := ps45, after := #[{ on := 4, ground := Ground.data }, { on := 5, ground := Ground.data }],
          guard := none },
        { dst := some 34,
          op :=
            Op.call
              { callee := Callee.value (Operand.func 34),
                args := #[Operand.const (Value.string { data := #[84, 101, 97] }), Operand.tmp 33],
                argTypes := #[9, 54] },
          type := 56, pos := ps45,
          after := #[{ on := 6, ground := Ground.data }, { on := 5, ground := Ground.chain }], guard := none },
        { dst := some 35, op := Op.buildSlice 26 2 #[(0, Operand.tmp 30), (1, Operand.tmp 34)], type := 26,
          pos := ps45, after := #[{ on := 3, ground := Ground.data }, { on := 7, ground := Ground.data }],
          guard := none },
        { dst := some 36, op := Op.build 28 #[(0, Operand.tmp 29), (1, Operand.tmp 35)], type := 28, pos := ps45,
          after := #[{ on := 2, ground := Ground.data }, { on := 8, ground := Ground.data }], guard := none },
        { dst := some 5, op := Op.alloc 28, type := 0, pos := ps45, after := #[], guard := none },
        { dst := none, op := Op.store 28 (Operand.tmp 5) (Operand.tmp 36), type := 0, pos := ps45,
          after :=
            #[{ on := 10, ground := Ground.data }, { on := 9, ground := Ground.data },
              { on := 7, ground := Ground.chain }, { on := 0, ground := Ground.phase },
              { on := 1, ground := Ground.phase }, { on := 2, ground := Ground.phase },
              { on := 3, ground := Ground.phase }, { on := 4, ground := Ground.phase },
              { on := 5, ground := Ground.phase }, { on := 6, ground := Ground.phase },
              { on := 7, ground := Ground.phase }, { on := 8, ground := Ground.phase },
              { on := 9, ground := Ground.phase }, { on := 10, ground := Ground.phase }],
          guard := none }]
      true)
    (Exit.then K' (bodyPost Tryz.prog Tryz.f9 (TrueB w)))
    {
      tmps :=
        #[Value.bool false, Value.pointer (some { block := g, off := 0 }),
          Value.pointer (some { block := g + 1, off := 0 }), Value.pointer (some { block := gx, off := 0 }),
          Value.pointer (some { block := gy, off := 0 }), undef, undef, u7, u8, u9, u10, u11, u12, u13, u14, u15, u16,
          u17, u18, u19, u20, u21, u22, u23, u24, u25, u26, u27, u28, u29, u30, u31, u32, u33, u34, u35, u36, u37, u38,
          u39, u40, u41, u42, u43, u44, u45, u46, u47, u48, u49, u50, u51, u52, u53, u54, u55, u56, u57, u58, u59, u60,
          u61, u62, u63, u64, u65, u66, u67, u68, u69, u70, u71, u72, u73, u74, u75, u76, u77, u78, u79, u80, u81, u82,
          u83, u84, u85, u86, u87, u88, u89, u90, u91, u92, u93, u94, u95, u96, u97, u98, u99, u100, u101, u102, u103,
          u104, u105, u106, u107, u108, u109, u110, u111, u112, u113, u114, u115, u116, u117, u118, u119, u120, u121,
          u122, u123, u124, u125, u126, u127, u128, u129, u130, u131, u132, u133, u134, u135, u136],
      defers := [] }
    w9 := by
  refine wp_region_held_drew (S := (fun W => W.cell? ⟨g, 0, none⟩ = some (.string ⟨N.nm.toArray⟩) ∧ W.cell? ⟨g, 1, none⟩ = some (.slice N.A N.ms.length N.c))) (by kernel_rfl) ?_ (fun hHeld => ?_)
  · have KS := K9.out.next (Below.refl _ _).drew
    exact ⟨(KS.it (g := g) (by simp)).1, (KS.it (g := g) (by simp)).2⟩
  have R4B0 := Lib.hid (show Below w9.heap.size w9 w9.drew from (Below.refl _ _).drew)
  obtain ⟨R4w0, hw0⟩ : ∃ W, w9 = W := ⟨_, rfl⟩
  rw [hw0] at K9 R4B0 hHeld ⊢
  clear hw0
  generalize hwd : World.drew R4w0 = R4w00 at R4B0 hHeld ⊢
  clear hwd
  refine wpAnyH_take (i := 3) (oi := ⟨some 30, _, _, _, _, _⟩) (v := ?_) rfl (by kernel_rfl) (by kernel_rfl) (by kernel_rfl) (fun _ _ _ h => h) (Or.inl ⟨by rfl, ?_⟩) (by assumption) ?_
  rotate_left 1
  · intro w hSw
    (try dsimp only at hSw)
    go_simp
    try with_reducible rfl
  try simp only [Act.put, List.setIfInBounds_toArray, List.set_cons_zero, List.set_cons_succ]
  refine wpAnyH_ready (rs := [0, 10]) (by kernel_rfl) (by simp) ?_
  refine AllReadyH.cons (o := ⟨some 27, _, _, _, _, _⟩) rfl (fun K hK => ?_) (AllReadyH.cons (o := ⟨some 5, _, _, _, _, _⟩) rfl (fun K hK => ?_) AllReadyH.nil)
  · go_simp
    have hal := (Below.refl R4w00.heap.size R4w00).alloc (Nat.le_refl _) (.cells #[.int .i64 1, .int .i64 2, .int .i64 2, .int .i64 1] 3)
    have R4B1 := Lib.hid (Below.trans R4B0.out (hal.mono R4B0.out.size))
    have FD_1 := Lib.hid (ilit2 R4w00 1 2 2 1)
    refine hK.out _ _ ?_ (fun hHeld => ?_)
    · exact ⟨((K9.out.next R4B1.out).it (g := g) (by simp)).1, ((K9.out.next R4B1.out).it (g := g) (by simp)).2⟩
    clear hK hal R4B0
    try simp only [Act.put, List.setIfInBounds_toArray, List.set_cons_zero, List.set_cons_succ]
    generalize World.alloc R4w00 _ = R4w1 at R4B1 FD_1 hHeld ⊢
    refine wpAnyH_ready (rs := [1, 10]) (by kernel_rfl) (by simp) ?_
    refine AllReadyH.cons (o := ⟨some 28, _, _, _, _, _⟩) rfl (fun K hK => ?_) (AllReadyH.cons (o := ⟨some 5, _, _, _, _, _⟩) rfl (fun K hK => ?_) AllReadyH.nil)
    · go_simp
      refine (dots2_l R4w00.heap.size 1 2 2 1 R4w1 FD_1.out).mono ?_
      rintro e R4w2 ⟨⟨A14, c14, rfl, hh⟩, hb⟩
      have R4B2 := Lib.hid (Below.trans R4B1.out (hb.mono R4B1.out.size))
      have FD_2 := Lib.hid (SlAt.below FD_1.out hb)
      have FH_2 := Lib.hid (hh)
      clear hh
      first
        | refine hK.out _ _ ?_ (fun hHeld => ?_)
        | (go_wp2_with fail
           refine hK.out _ _ ?_ (fun hHeld => ?_))
      · exact ⟨((K9.out.next R4B2.out).it (g := g) (by simp)).1, ((K9.out.next R4B2.out).it (g := g) (by simp)).2⟩
      clear hK hb FD_1 R4B1
      try simp only [Act.put, List.setIfInBounds_toArray, List.set_cons_zero, List.set_cons_succ]
      refine wpAnyH_take (i := 2) (oi := ⟨some 29, _, _, _, _, _⟩) (v := ?_) rfl (by kernel_rfl) (by kernel_rfl) (by kernel_rfl) (fun _ _ _ h => h) (Or.inl ⟨by rfl, ?_⟩) (by assumption) ?_
      rotate_left 1
      · intro w hSw
        (try dsimp only at hSw)
        go_simp
        try with_reducible rfl
      try simp only [Act.put, List.setIfInBounds_toArray, List.set_cons_zero, List.set_cons_succ]
      refine wpAnyH_ready (rs := [4, 10]) (by kernel_rfl) (by simp) ?_
      refine AllReadyH.cons (o := ⟨some 31, _, _, _, _, _⟩) rfl (fun K hK => ?_) (AllReadyH.cons (o := ⟨some 5, _, _, _, _, _⟩) rfl (fun K hK => ?_) AllReadyH.nil)
      · go_simp
        refine (mark10_l 1 1 5 3 R4w2 (by decide)).mono ?_
        rintro e R4w3 ⟨rfl, hb⟩
        have R4B3 := Lib.hid (Below.trans R4B2.out (hb.mono R4B2.out.size))
        have FD_3 := Lib.hid (SlAt.below FD_2.out hb)
        have FH_3 := Lib.hid (FH_2.out.below hb)
        first
          | refine hK.out _ _ ?_ (fun hHeld => ?_)
          | (go_wp2_with fail
             refine hK.out _ _ ?_ (fun hHeld => ?_))
        · exact ⟨((K9.out.next R4B3.out).it (g := g) (by simp)).1, ((K9.out.next R4B3.out).it (g := g) (by simp)).2⟩
        clear hK hb FD_2 FH_2 R4B2
        try simp only [Act.put, List.setIfInBounds_toArray, List.set_cons_zero, List.set_cons_succ]
        refine wpAnyH_ready (rs := [5, 10]) (by kernel_rfl) (by simp) ?_
        refine AllReadyH.cons (o := ⟨some 32, _, _, _, _, _⟩) rfl (fun K hK => ?_) (AllReadyH.cons (o := ⟨some 5, _, _, _, _, _⟩) rfl (fun K hK => ?_) AllReadyH.nil)
        · go_simp
          refine (mark10_l 1 2 2 9 R4w3 (by decide)).mono ?_
          rintro e R4w4 ⟨rfl, hb⟩
          have R4B4 := Lib.hid (Below.trans R4B3.out (hb.mono R4B3.out.size))
          have FD_4 := Lib.hid (SlAt.below FD_3.out hb)
          have FH_4 := Lib.hid (FH_3.out.below hb)
          first
            | refine hK.out _ _ ?_ (fun hHeld => ?_)
            | (go_wp2_with fail
               refine hK.out _ _ ?_ (fun hHeld => ?_))
          · exact ⟨((K9.out.next R4B4.out).it (g := g) (by simp)).1, ((K9.out.next R4B4.out).it (g := g) (by simp)).2⟩
          clear hK hb FD_3 FH_3 R4B3
          try simp only [Act.put, List.setIfInBounds_toArray, List.set_cons_zero, List.set_cons_succ]
          refine wpAnyH_ready (rs := [6, 10]) (by kernel_rfl) (by simp) ?_
          refine AllReadyH.cons (o := ⟨some 33, _, _, _, _, _⟩) rfl (fun K hK => ?_) (AllReadyH.cons (o := ⟨some 5, _, _, _, _, _⟩) rfl (fun K hK => ?_) AllReadyH.nil)
          · go_simp
            have hal := (Below.refl R4w4.heap.size R4w4).alloc (Nat.le_refl _) (.cells #[.int .i64 1, .int .i64 1, .int .i64 5, .int .u64 3, .int .i64 1, .int .i64 2, .int .i64 2, .int .u64 9] 65)
            have R4B5 := Lib.hid (Below.trans R4B4.out (hal.mono R4B4.out.size))
            have FD_5 := Lib.hid (SlAt.below FD_4.out hal)
            have FH_5 := Lib.hid (FH_4.out.below hal)
            have FM_5 := Lib.hid (mlit2 R4w4 R4w4.heap.size 1 1 5 3 1 2 2 9 3 9 rfl rfl rfl)
            refine hK.out _ _ ?_ (fun hHeld => ?_)
            · exact ⟨((K9.out.next R4B5.out).it (g := g) (by simp)).1, ((K9.out.next R4B5.out).it (g := g) (by simp)).2⟩
            clear hK hal FD_4 FH_4 R4B4
            try simp only [Act.put, List.setIfInBounds_toArray, List.set_cons_zero, List.set_cons_succ]
            generalize World.alloc R4w4 _ = R4w5 at R4B5 FD_5 FH_5 FM_5 hHeld ⊢
            refine wpAnyH_ready (rs := [7, 10]) (by kernel_rfl) (by simp) ?_
            refine AllReadyH.cons (o := ⟨some 34, _, _, _, _, _⟩) rfl (fun K hK => ?_) (AllReadyH.cons (o := ⟨some 5, _, _, _, _, _⟩) rfl (fun K hK => ?_) AllReadyH.nil)
            · go_simp
              refine (item10_l ⟨#[84, 101, 97]⟩ nTea (some ⟨R4w4.heap.size, 0, none⟩) 2 [⟨1, 1, 5, 3⟩, ⟨1, 2, 2, 9⟩] R4w5 FM_5.out rfl rfl (by decide)).mono ?_
              rintro e R4w6 ⟨Q, rfl, hQ, oQ, hb⟩
              have R4B6 := Lib.hid (Below.trans R4B5.out (hb.mono R4B5.out.size))
              have FD_6 := Lib.hid (SlAt.below FD_5.out hb)
              have FH_6 := Lib.hid (FH_5.out.below hb)
              have FM_6 := Lib.hid (SlAt.below FM_5.out hb)
              have FQ_6 := Lib.hid (oQ)
              have HQ := Lib.hid hQ
              clear hQ oQ
              first
                | refine hK.out _ _ ?_ (fun hHeld => ?_)
                | (go_wp2_with fail
                   refine hK.out _ _ ?_ (fun hHeld => ?_))
              · exact ⟨((K9.out.next R4B6.out).it (g := g) (by simp)).1, ((K9.out.next R4B6.out).it (g := g) (by simp)).2⟩
              clear hK hb FD_5 FH_5 FM_5 R4B5
              try simp only [Act.put, List.setIfInBounds_toArray, List.set_cons_zero, List.set_cons_succ]
              refine wpAnyH_ready (rs := [8, 10]) (by kernel_rfl) (by simp) ?_
              refine AllReadyH.cons (o := ⟨some 35, _, _, _, _, _⟩) rfl (fun K hK => ?_) (AllReadyH.cons (o := ⟨some 5, _, _, _, _, _⟩) rfl (fun K hK => ?_) AllReadyH.nil)
              · go_simp
                have hal := (Below.refl R4w6.heap.size R4w6).alloc (Nat.le_refl _) (.cells #[.string ⟨N.nm.toArray⟩, .slice N.A N.ms.length N.c, .string ⟨Q.nm.toArray⟩, .slice Q.A Q.ms.length Q.c] 56)
                have R4B7 := Lib.hid (Below.trans R4B6.out (hal.mono R4B6.out.size))
                have FD_7 := Lib.hid (SlAt.below FD_6.out hal)
                have FH_7 := Lib.hid (FH_6.out.below hal)
                have FM_7 := Lib.hid (SlAt.below FM_6.out hal)
                have FQ_7 := Lib.hid (FQ_6.out.below hal)
                have FX_7 := Lib.hid (holdsB R4w6 R4w6.heap.size N Q rfl ((K9.out.next R4B6.out).kz.ok (g := g) (by simp)) FQ_6.out)
                refine hK.out _ _ ?_ (fun hHeld => ?_)
                · exact ⟨((K9.out.next R4B7.out).it (g := g) (by simp)).1, ((K9.out.next R4B7.out).it (g := g) (by simp)).2⟩
                clear hK hal FD_6 FH_6 FM_6 FQ_6 R4B6
                try simp only [Act.put, List.setIfInBounds_toArray, List.set_cons_zero, List.set_cons_succ]
                generalize World.alloc R4w6 _ = R4w7 at R4B7 FD_7 FH_7 FM_7 FQ_7 FX_7 hHeld ⊢
                refine wpAnyH_take (i := 9) (oi := ⟨some 36, _, _, _, _, _⟩) (v := ?_) rfl (by kernel_rfl) (by kernel_rfl) (by kernel_rfl) (fun _ _ _ h => h) (Or.inl ⟨by rfl, ?_⟩) (by assumption) ?_
                rotate_left 1
                · intro w hSw
                  (try dsimp only at hSw)
                  go_simp
                  try with_reducible rfl
                try simp only [Act.put, List.setIfInBounds_toArray, List.set_cons_zero, List.set_cons_succ]
                refine wpAnyH_ready (rs := [10]) (by kernel_rfl) (by simp) ?_
                refine AllReadyH.cons (o := ⟨some 5, _, _, _, _, _⟩) rfl (fun K hK => ?_) AllReadyH.nil
                go_simp
                have hal := (Below.refl R4w7.heap.size R4w7).alloc (Nat.le_refl _) (.cells #[.slice none 0 0, .slice none 0 0, .slice none 0 0] 28)
                have R4B8 := Lib.hid (Below.trans R4B7.out (hal.mono R4B7.out.size))
                have R4GA := R4B7.out.size
                have FD_8 := Lib.hid (SlAt.below FD_7.out hal)
                have FH_8 := Lib.hid (FH_7.out.below hal)
                have FM_8 := Lib.hid (SlAt.below FM_7.out hal)
                have FQ_8 := Lib.hid (FQ_7.out.below hal)
                have FX_8 := Lib.hid (FX_7.out.below hal)
                have FA_8 := Lib.hid (heap_alloc_new R4w7 (.cells #[.slice none 0 0, .slice none 0 0, .slice none 0 0] 28))
                refine hK.out _ _ ?_ (fun hHeld => ?_)
                · exact ⟨((K9.out.next R4B8.out).it (g := g) (by simp)).1, ((K9.out.next R4B8.out).it (g := g) (by simp)).2⟩
                clear hK hal FD_7 FH_7 FM_7 FQ_7 FX_7 R4B7
                try simp only [Act.put, List.setIfInBounds_toArray, List.set_cons_zero, List.set_cons_succ]
                generalize World.alloc R4w7 _ = R4w8 at R4B8 FD_8 FH_8 FM_8 FQ_8 FX_8 FA_8 hHeld ⊢
                refine wpAnyH_ready (rs := [11]) (by kernel_rfl) (by simp) ?_
                refine AllReadyH.cons (o := ⟨none, _, _, _, _, _⟩) rfl (fun K hK => ?_) AllReadyH.nil
                obtain ⟨_, r0, r1, r2, f0, f1, f2, gl⟩ := boxC_kept (Below.refl _ _) FA_8.out
                go_simp
                have R4BS := Lib.hid (show Below R4w0.heap.size R4w0 (((R4w8.setCell ⟨R4w7.heap.size, 0, none⟩ (.slice A14 2 c14)).setCell ⟨R4w7.heap.size, 1, none⟩ (.slice none 0 0)).setCell ⟨R4w7.heap.size, 2, none⟩ (.slice (some ⟨R4w6.heap.size, 0, none⟩) 2 2)) from below_set3c R4B8.out R4GA _ _ _)
                refine hK.out _ _ ?_ (fun hHeld => ?_)
                · exact ⟨((K9.out.next R4BS.out).it (g := g) (by simp)).1, ((K9.out.next R4BS.out).it (g := g) (by simp)).2⟩
                clear hK r0 r1 r2 f0 f1 f2 gl
                try simp only [Act.put, List.setIfInBounds_toArray, List.set_cons_zero, List.set_cons_succ]
                refine wpAnyH_done (by kernel_rfl) ?_ _
                have hok : CaOK R4w8 ⟨A14, c14, [(1, 2), (2, 1)], none, 0, [], some ⟨R4w6.heap.size, 0, none⟩, 2, [N, Q]⟩ := ⟨FH_8.out, Holds.nil _, FX_8.out⟩
                have hok2 := CaOK.off_box (W' := (((R4w8.setCell ⟨R4w7.heap.size, 0, none⟩ (.slice A14 2 c14)).setCell ⟨R4w7.heap.size, 1, none⟩ (.slice none 0 0)).setCell ⟨R4w7.heap.size, 2, none⟩ (.slice (some ⟨R4w6.heap.size, 0, none⟩) 2 2))) hok FA_8.out (by simp) (fun b hb => set3_other R4w8 _ b _ _ _ hb)
                have hblk : BlkC (((R4w8.setCell ⟨R4w7.heap.size, 0, none⟩ (.slice A14 2 c14)).setCell ⟨R4w7.heap.size, 1, none⟩ (.slice none 0 0)).setCell ⟨R4w7.heap.size, 2, none⟩ (.slice (some ⟨R4w6.heap.size, 0, none⟩) 2 2)) R4w7.heap.size ⟨A14, c14, [(1, 2), (2, 1)], none, 0, [], some ⟨R4w6.heap.size, 0, none⟩, 2, [N, Q]⟩ := boxC_filled FA_8.out _ _ _
                have KF := Lib.hid ((K9.out.next R4BS.out).add hblk hok2)
                have HX := Lib.hid (show CaV.ca ⟨A14, c14, [(1, 2), (2, 1)], none, 0, [], some ⟨R4w6.heap.size, 0, none⟩, 2, [N, Q]⟩ = cZ from by show (([(1, 2), (2, 1)], []), its [N, Q]) = _; simp [HN.out, HQ.out])
                clear hok hok2 hblk hHeld
                go_wp2_with fail
                go_meet
                exact ⟨_, _, rfl, HX, KF⟩
              · go_simp
                have hal := (Below.refl R4w6.heap.size R4w6).alloc (Nat.le_refl _) (.cells #[.slice none 0 0, .slice none 0 0, .slice none 0 0] 28)
                have R4B7 := Lib.hid (Below.trans R4B6.out (hal.mono R4B6.out.size))
                have R4GA := R4B6.out.size
                have FD_7 := Lib.hid (SlAt.below FD_6.out hal)
                have FH_7 := Lib.hid (FH_6.out.below hal)
                have FM_7 := Lib.hid (SlAt.below FM_6.out hal)
                have FQ_7 := Lib.hid (FQ_6.out.below hal)
                have FA_7 := Lib.hid (heap_alloc_new R4w6 (.cells #[.slice none 0 0, .slice none 0 0, .slice none 0 0] 28))
                refine hK.out _ _ ?_ (fun hHeld => ?_)
                · exact ⟨((K9.out.next R4B7.out).it (g := g) (by simp)).1, ((K9.out.next R4B7.out).it (g := g) (by simp)).2⟩
                clear hK hal FD_6 FH_6 FM_6 FQ_6 R4B6
                try simp only [Act.put, List.setIfInBounds_toArray, List.set_cons_zero, List.set_cons_succ]
                generalize World.alloc R4w6 _ = R4w7 at R4B7 FD_7 FH_7 FM_7 FQ_7 FA_7 hHeld ⊢
                refine wpAnyH_ready (rs := [8]) (by kernel_rfl) (by simp) ?_
                refine AllReadyH.cons (o := ⟨some 35, _, _, _, _, _⟩) rfl (fun K hK => ?_) AllReadyH.nil
                go_simp
                have hal := (Below.refl R4w7.heap.size R4w7).alloc (Nat.le_refl _) (.cells #[.string ⟨N.nm.toArray⟩, .slice N.A N.ms.length N.c, .string ⟨Q.nm.toArray⟩, .slice Q.A Q.ms.length Q.c] 56)
                have R4B8 := Lib.hid (Below.trans R4B7.out (hal.mono R4B7.out.size))
                have FD_8 := Lib.hid (SlAt.below FD_7.out hal)
                have FH_8 := Lib.hid (FH_7.out.below hal)
                have FM_8 := Lib.hid (SlAt.below FM_7.out hal)
                have FQ_8 := Lib.hid (FQ_7.out.below hal)
                have FA_8 := Lib.hid ((hal.block _ (Array.getElem?_eq_some_iff.1 FA_7.out).1).trans FA_7.out)
                have FX_8 := Lib.hid (holdsB R4w7 R4w7.heap.size N Q rfl ((K9.out.next R4B7.out).kz.ok (g := g) (by simp)) FQ_7.out)
                refine hK.out _ _ ?_ (fun hHeld => ?_)
                · exact ⟨((K9.out.next R4B8.out).it (g := g) (by simp)).1, ((K9.out.next R4B8.out).it (g := g) (by simp)).2⟩
                clear hK hal FD_7 FH_7 FM_7 FQ_7 FA_7 R4B7
                try simp only [Act.put, List.setIfInBounds_toArray, List.set_cons_zero, List.set_cons_succ]
                generalize World.alloc R4w7 _ = R4w8 at R4B8 FD_8 FH_8 FM_8 FQ_8 FA_8 FX_8 hHeld ⊢
                refine wpAnyH_take (i := 9) (oi := ⟨some 36, _, _, _, _, _⟩) (v := ?_) rfl (by kernel_rfl) (by kernel_rfl) (by kernel_rfl) (fun _ _ _ h => h) (Or.inl ⟨by rfl, ?_⟩) (by assumption) ?_
                rotate_left 1
                · intro w hSw
                  (try dsimp only at hSw)
                  go_simp
                  try with_reducible rfl
                try simp only [Act.put, List.setIfInBounds_toArray, List.set_cons_zero, List.set_cons_succ]
                refine wpAnyH_ready (rs := [11]) (by kernel_rfl) (by simp) ?_
                refine AllReadyH.cons (o := ⟨none, _, _, _, _, _⟩) rfl (fun K hK => ?_) AllReadyH.nil
                obtain ⟨_, r0, r1, r2, f0, f1, f2, gl⟩ := boxC_kept (Below.refl _ _) FA_8.out
                go_simp
                have R4BS := Lib.hid (show Below R4w0.heap.size R4w0 (((R4w8.setCell ⟨R4w6.heap.size, 0, none⟩ (.slice A14 2 c14)).setCell ⟨R4w6.heap.size, 1, none⟩ (.slice none 0 0)).setCell ⟨R4w6.heap.size, 2, none⟩ (.slice (some ⟨R4w7.heap.size, 0, none⟩) 2 2)) from below_set3c R4B8.out R4GA _ _ _)
                refine hK.out _ _ ?_ (fun hHeld => ?_)
                · exact ⟨((K9.out.next R4BS.out).it (g := g) (by simp)).1, ((K9.out.next R4BS.out).it (g := g) (by simp)).2⟩
                clear hK r0 r1 r2 f0 f1 f2 gl
                try simp only [Act.put, List.setIfInBounds_toArray, List.set_cons_zero, List.set_cons_succ]
                refine wpAnyH_done (by kernel_rfl) ?_ _
                have hok : CaOK R4w8 ⟨A14, c14, [(1, 2), (2, 1)], none, 0, [], some ⟨R4w7.heap.size, 0, none⟩, 2, [N, Q]⟩ := ⟨FH_8.out, Holds.nil _, FX_8.out⟩
                have hok2 := CaOK.off_box (W' := (((R4w8.setCell ⟨R4w6.heap.size, 0, none⟩ (.slice A14 2 c14)).setCell ⟨R4w6.heap.size, 1, none⟩ (.slice none 0 0)).setCell ⟨R4w6.heap.size, 2, none⟩ (.slice (some ⟨R4w7.heap.size, 0, none⟩) 2 2))) hok FA_8.out (by simp) (fun b hb => set3_other R4w8 _ b _ _ _ hb)
                have hblk : BlkC (((R4w8.setCell ⟨R4w6.heap.size, 0, none⟩ (.slice A14 2 c14)).setCell ⟨R4w6.heap.size, 1, none⟩ (.slice none 0 0)).setCell ⟨R4w6.heap.size, 2, none⟩ (.slice (some ⟨R4w7.heap.size, 0, none⟩) 2 2)) R4w6.heap.size ⟨A14, c14, [(1, 2), (2, 1)], none, 0, [], some ⟨R4w7.heap.size, 0, none⟩, 2, [N, Q]⟩ := boxC_filled FA_8.out _ _ _
                have KF := Lib.hid ((K9.out.next R4BS.out).add hblk hok2)
                have HX := Lib.hid (show CaV.ca ⟨A14, c14, [(1, 2), (2, 1)], none, 0, [], some ⟨R4w7.heap.size, 0, none⟩, 2, [N, Q]⟩ = cZ from by show (([(1, 2), (2, 1)], []), its [N, Q]) = _; simp [HN.out, HQ.out])
                clear hok hok2 hblk hHeld
                go_wp2_with fail
                go_meet
                exact ⟨_, _, rfl, HX, KF⟩
            · go_simp
              have hal := (Below.refl R4w5.heap.size R4w5).alloc (Nat.le_refl _) (.cells #[.slice none 0 0, .slice none 0 0, .slice none 0 0] 28)
              have R4B6 := Lib.hid (Below.trans R4B5.out (hal.mono R4B5.out.size))
              have R4GA := R4B5.out.size
              have FD_6 := Lib.hid (SlAt.below FD_5.out hal)
              have FH_6 := Lib.hid (FH_5.out.below hal)
              have FM_6 := Lib.hid (SlAt.below FM_5.out hal)
              have FA_6 := Lib.hid (heap_alloc_new R4w5 (.cells #[.slice none 0 0, .slice none 0 0, .slice none 0 0] 28))
              refine hK.out _ _ ?_ (fun hHeld => ?_)
              · exact ⟨((K9.out.next R4B6.out).it (g := g) (by simp)).1, ((K9.out.next R4B6.out).it (g := g) (by simp)).2⟩
              clear hK hal FD_5 FH_5 FM_5 R4B5
              try simp only [Act.put, List.setIfInBounds_toArray, List.set_cons_zero, List.set_cons_succ]
              generalize World.alloc R4w5 _ = R4w6 at R4B6 FD_6 FH_6 FM_6 FA_6 hHeld ⊢
              refine wpAnyH_ready (rs := [7]) (by kernel_rfl) (by simp) ?_
              refine AllReadyH.cons (o := ⟨some 34, _, _, _, _, _⟩) rfl (fun K hK => ?_) AllReadyH.nil
              go_simp
              refine (item10_l ⟨#[84, 101, 97]⟩ nTea (some ⟨R4w4.heap.size, 0, none⟩) 2 [⟨1, 1, 5, 3⟩, ⟨1, 2, 2, 9⟩] R4w6 FM_6.out rfl rfl (by decide)).mono ?_
              rintro e R4w7 ⟨Q, rfl, hQ, oQ, hb⟩
              have R4B7 := Lib.hid (Below.trans R4B6.out (hb.mono R4B6.out.size))
              have FD_7 := Lib.hid (SlAt.below FD_6.out hb)
              have FH_7 := Lib.hid (FH_6.out.below hb)
              have FM_7 := Lib.hid (SlAt.below FM_6.out hb)
              have FA_7 := Lib.hid ((hb.block _ (Array.getElem?_eq_some_iff.1 FA_6.out).1).trans FA_6.out)
              have FQ_7 := Lib.hid (oQ)
              have HQ := Lib.hid hQ
              clear hQ oQ
              first
                | refine hK.out _ _ ?_ (fun hHeld => ?_)
                | (go_wp2_with fail
                   refine hK.out _ _ ?_ (fun hHeld => ?_))
              · exact ⟨((K9.out.next R4B7.out).it (g := g) (by simp)).1, ((K9.out.next R4B7.out).it (g := g) (by simp)).2⟩
              clear hK hb FD_6 FH_6 FM_6 FA_6 R4B6
              try simp only [Act.put, List.setIfInBounds_toArray, List.set_cons_zero, List.set_cons_succ]
              refine wpAnyH_ready (rs := [8]) (by kernel_rfl) (by simp) ?_
              refine AllReadyH.cons (o := ⟨some 35, _, _, _, _, _⟩) rfl (fun K hK => ?_) AllReadyH.nil
              go_simp
              have hal := (Below.refl R4w7.heap.size R4w7).alloc (Nat.le_refl _) (.cells #[.string ⟨N.nm.toArray⟩, .slice N.A N.ms.length N.c, .string ⟨Q.nm.toArray⟩, .slice Q.A Q.ms.length Q.c] 56)
              have R4B8 := Lib.hid (Below.trans R4B7.out (hal.mono R4B7.out.size))
              have FD_8 := Lib.hid (SlAt.below FD_7.out hal)
              have FH_8 := Lib.hid (FH_7.out.below hal)
              have FM_8 := Lib.hid (SlAt.below FM_7.out hal)
              have FA_8 := Lib.hid ((hal.block _ (Array.getElem?_eq_some_iff.1 FA_7.out).1).trans FA_7.out)
              have FQ_8 := Lib.hid (FQ_7.out.below hal)
              have FX_8 := Lib.hid (holdsB R4w7 R4w7.heap.size N Q rfl ((K9.out.next R4B7.out).kz.ok (g := g) (by simp)) FQ_7.out)
              refine hK.out _ _ ?_ (fun hHeld => ?_)
              · exact ⟨((K9.out.next R4B8.out).it (g := g) (by simp)).1, ((K9.out.next R4B8.out).it (g := g) (by simp)).2⟩
              clear hK hal FD_7 FH_7 FM_7 FA_7 FQ_7 R4B7
              try simp only [Act.put, List.setIfInBounds_toArray, List.set_cons_zero, List.set_cons_succ]
              generalize World.alloc R4w7 _ = R4w8 at R4B8 FD_8 FH_8 FM_8 FA_8 FQ_8 FX_8 hHeld ⊢
              refine wpAnyH_take (i := 9) (oi := ⟨some 36, _, _, _, _, _⟩) (v := ?_) rfl (by kernel_rfl) (by kernel_rfl) (by kernel_rfl) (fun _ _ _ h => h) (Or.inl ⟨by rfl, ?_⟩) (by assumption) ?_
              rotate_left 1
              · intro w hSw
                (try dsimp only at hSw)
                go_simp
                try with_reducible rfl
              try simp only [Act.put, List.setIfInBounds_toArray, List.set_cons_zero, List.set_cons_succ]
              refine wpAnyH_ready (rs := [11]) (by kernel_rfl) (by simp) ?_
              refine AllReadyH.cons (o := ⟨none, _, _, _, _, _⟩) rfl (fun K hK => ?_) AllReadyH.nil
              obtain ⟨_, r0, r1, r2, f0, f1, f2, gl⟩ := boxC_kept (Below.refl _ _) FA_8.out
              go_simp
              have R4BS := Lib.hid (show Below R4w0.heap.size R4w0 (((R4w8.setCell ⟨R4w5.heap.size, 0, none⟩ (.slice A14 2 c14)).setCell ⟨R4w5.heap.size, 1, none⟩ (.slice none 0 0)).setCell ⟨R4w5.heap.size, 2, none⟩ (.slice (some ⟨R4w7.heap.size, 0, none⟩) 2 2)) from below_set3c R4B8.out R4GA _ _ _)
              refine hK.out _ _ ?_ (fun hHeld => ?_)
              · exact ⟨((K9.out.next R4BS.out).it (g := g) (by simp)).1, ((K9.out.next R4BS.out).it (g := g) (by simp)).2⟩
              clear hK r0 r1 r2 f0 f1 f2 gl
              try simp only [Act.put, List.setIfInBounds_toArray, List.set_cons_zero, List.set_cons_succ]
              refine wpAnyH_done (by kernel_rfl) ?_ _
              have hok : CaOK R4w8 ⟨A14, c14, [(1, 2), (2, 1)], none, 0, [], some ⟨R4w7.heap.size, 0, none⟩, 2, [N, Q]⟩ := ⟨FH_8.out, Holds.nil _, FX_8.out⟩
              have hok2 := CaOK.off_box (W' := (((R4w8.setCell ⟨R4w5.heap.size, 0, none⟩ (.slice A14 2 c14)).setCell ⟨R4w5.heap.size, 1, none⟩ (.slice none 0 0)).setCell ⟨R4w5.heap.size, 2, none⟩ (.slice (some ⟨R4w7.heap.size, 0, none⟩) 2 2))) hok FA_8.out (by simp) (fun b hb => set3_other R4w8 _ b _ _ _ hb)
              have hblk : BlkC (((R4w8.setCell ⟨R4w5.heap.size, 0, none⟩ (.slice A14 2 c14)).setCell ⟨R4w5.heap.size, 1, none⟩ (.slice none 0 0)).setCell ⟨R4w5.heap.size, 2, none⟩ (.slice (some ⟨R4w7.heap.size, 0, none⟩) 2 2)) R4w5.heap.size ⟨A14, c14, [(1, 2), (2, 1)], none, 0, [], some ⟨R4w7.heap.size, 0, none⟩, 2, [N, Q]⟩ := boxC_filled FA_8.out _ _ _
              have KF := Lib.hid ((K9.out.next R4BS.out).add hblk hok2)
              have HX := Lib.hid (show CaV.ca ⟨A14, c14, [(1, 2), (2, 1)], none, 0, [], some ⟨R4w7.heap.size, 0, none⟩, 2, [N, Q]⟩ = cZ from by show (([(1, 2), (2, 1)], []), its [N, Q]) = _; simp [HN.out, HQ.out])
              clear hok hok2 hblk hHeld
              go_wp2_with fail
              go_meet
              exact ⟨_, _, rfl, HX, KF⟩
          · go_simp
            have hal := (Below.refl R4w4.heap.size R4w4).alloc (Nat.le_refl _) (.cells #[.slice none 0 0, .slice none 0 0, .slice none 0 0] 28)
            have R4B5 := Lib.hid (Below.trans R4B4.out (hal.mono R4B4.out.size))
            have R4GA := R4B4.out.size
            have FD_5 := Lib.hid (SlAt.below FD_4.out hal)
            have FH_5 := Lib.hid (FH_4.out.below hal)
            have FA_5 := Lib.hid (heap_alloc_new R4w4 (.cells #[.slice none 0 0, .slice none 0 0, .slice none 0 0] 28))
            refine hK.out _ _ ?_ (fun hHeld => ?_)
            · exact ⟨((K9.out.next R4B5.out).it (g := g) (by simp)).1, ((K9.out.next R4B5.out).it (g := g) (by simp)).2⟩
            clear hK hal FD_4 FH_4 R4B4
            try simp only [Act.put, List.setIfInBounds_toArray, List.set_cons_zero, List.set_cons_succ]
            generalize World.alloc R4w4 _ = R4w5 at R4B5 FD_5 FH_5 FA_5 hHeld ⊢
            refine wpAnyH_ready (rs := [6]) (by kernel_rfl) (by simp) ?_
            refine AllReadyH.cons (o := ⟨some 33, _, _, _, _, _⟩) rfl (fun K hK => ?_) AllReadyH.nil
            go_simp
            have hal := (Below.refl R4w5.heap.size R4w5).alloc (Nat.le_refl _) (.cells #[.int .i64 1, .int .i64 1, .int .i64 5, .int .u64 3, .int .i64 1, .int .i64 2, .int .i64 2, .int .u64 9] 65)
            have R4B6 := Lib.hid (Below.trans R4B5.out (hal.mono R4B5.out.size))
            have FD_6 := Lib.hid (SlAt.below FD_5.out hal)
            have FH_6 := Lib.hid (FH_5.out.below hal)
            have FA_6 := Lib.hid ((hal.block _ (Array.getElem?_eq_some_iff.1 FA_5.out).1).trans FA_5.out)
            have FM_6 := Lib.hid (mlit2 R4w5 R4w5.heap.size 1 1 5 3 1 2 2 9 3 9 rfl rfl rfl)
            refine hK.out _ _ ?_ (fun hHeld => ?_)
            · exact ⟨((K9.out.next R4B6.out).it (g := g) (by simp)).1, ((K9.out.next R4B6.out).it (g := g) (by simp)).2⟩
            clear hK hal FD_5 FH_5 FA_5 R4B5
            try simp only [Act.put, List.setIfInBounds_toArray, List.set_cons_zero, List.set_cons_succ]
            generalize World.alloc R4w5 _ = R4w6 at R4B6 FD_6 FH_6 FA_6 FM_6 hHeld ⊢
            refine wpAnyH_ready (rs := [7]) (by kernel_rfl) (by simp) ?_
            refine AllReadyH.cons (o := ⟨some 34, _, _, _, _, _⟩) rfl (fun K hK => ?_) AllReadyH.nil
            go_simp
            refine (item10_l ⟨#[84, 101, 97]⟩ nTea (some ⟨R4w5.heap.size, 0, none⟩) 2 [⟨1, 1, 5, 3⟩, ⟨1, 2, 2, 9⟩] R4w6 FM_6.out rfl rfl (by decide)).mono ?_
            rintro e R4w7 ⟨Q, rfl, hQ, oQ, hb⟩
            have R4B7 := Lib.hid (Below.trans R4B6.out (hb.mono R4B6.out.size))
            have FD_7 := Lib.hid (SlAt.below FD_6.out hb)
            have FH_7 := Lib.hid (FH_6.out.below hb)
            have FA_7 := Lib.hid ((hb.block _ (Array.getElem?_eq_some_iff.1 FA_6.out).1).trans FA_6.out)
            have FM_7 := Lib.hid (SlAt.below FM_6.out hb)
            have FQ_7 := Lib.hid (oQ)
            have HQ := Lib.hid hQ
            clear hQ oQ
            first
              | refine hK.out _ _ ?_ (fun hHeld => ?_)
              | (go_wp2_with fail
                 refine hK.out _ _ ?_ (fun hHeld => ?_))
            · exact ⟨((K9.out.next R4B7.out).it (g := g) (by simp)).1, ((K9.out.next R4B7.out).it (g := g) (by simp)).2⟩
            clear hK hb FD_6 FH_6 FA_6 FM_6 R4B6
            try simp only [Act.put, List.setIfInBounds_toArray, List.set_cons_zero, List.set_cons_succ]
            refine wpAnyH_ready (rs := [8]) (by kernel_rfl) (by simp) ?_
            refine AllReadyH.cons (o := ⟨some 35, _, _, _, _, _⟩) rfl (fun K hK => ?_) AllReadyH.nil
            go_simp
            have hal := (Below.refl R4w7.heap.size R4w7).alloc (Nat.le_refl _) (.cells #[.string ⟨N.nm.toArray⟩, .slice N.A N.ms.length N.c, .string ⟨Q.nm.toArray⟩, .slice Q.A Q.ms.length Q.c] 56)
            have R4B8 := Lib.hid (Below.trans R4B7.out (hal.mono R4B7.out.size))
            have FD_8 := Lib.hid (SlAt.below FD_7.out hal)
            have FH_8 := Lib.hid (FH_7.out.below hal)
            have FA_8 := Lib.hid ((hal.block _ (Array.getElem?_eq_some_iff.1 FA_7.out).1).trans FA_7.out)
            have FM_8 := Lib.hid (SlAt.below FM_7.out hal)
            have FQ_8 := Lib.hid (FQ_7.out.below hal)
            have FX_8 := Lib.hid (holdsB R4w7 R4w7.heap.size N Q rfl ((K9.out.next R4B7.out).kz.ok (g := g) (by simp)) FQ_7.out)
            refine hK.out _ _ ?_ (fun hHeld => ?_)
            · exact ⟨((K9.out.next R4B8.out).it (g := g) (by simp)).1, ((K9.out.next R4B8.out).it (g := g) (by simp)).2⟩
            clear hK hal FD_7 FH_7 FA_7 FM_7 FQ_7 R4B7
            try simp only [Act.put, List.setIfInBounds_toArray, List.set_cons_zero, List.set_cons_succ]
            generalize World.alloc R4w7 _ = R4w8 at R4B8 FD_8 FH_8 FA_8 FM_8 FQ_8 FX_8 hHeld ⊢
            refine wpAnyH_take (i := 9) (oi := ⟨some 36, _, _, _, _, _⟩) (v := ?_) rfl (by kernel_rfl) (by kernel_rfl) (by kernel_rfl) (fun _ _ _ h => h) (Or.inl ⟨by rfl, ?_⟩) (by assumption) ?_
            rotate_left 1
            · intro w hSw
              (try dsimp only at hSw)
              go_simp
              try with_reducible rfl
            try simp only [Act.put, List.setIfInBounds_toArray, List.set_cons_zero, List.set_cons_succ]
            refine wpAnyH_ready (rs := [11]) (by kernel_rfl) (by simp) ?_
            refine AllReadyH.cons (o := ⟨none, _, _, _, _, _⟩) rfl (fun K hK => ?_) AllReadyH.nil
            obtain ⟨_, r0, r1, r2, f0, f1, f2, gl⟩ := boxC_kept (Below.refl _ _) FA_8.out
            go_simp
            have R4BS := Lib.hid (show Below R4w0.heap.size R4w0 (((R4w8.setCell ⟨R4w4.heap.size, 0, none⟩ (.slice A14 2 c14)).setCell ⟨R4w4.heap.size, 1, none⟩ (.slice none 0 0)).setCell ⟨R4w4.heap.size, 2, none⟩ (.slice (some ⟨R4w7.heap.size, 0, none⟩) 2 2)) from below_set3c R4B8.out R4GA _ _ _)
            refine hK.out _ _ ?_ (fun hHeld => ?_)
            · exact ⟨((K9.out.next R4BS.out).it (g := g) (by simp)).1, ((K9.out.next R4BS.out).it (g := g) (by simp)).2⟩
            clear hK r0 r1 r2 f0 f1 f2 gl
            try simp only [Act.put, List.setIfInBounds_toArray, List.set_cons_zero, List.set_cons_succ]
            refine wpAnyH_done (by kernel_rfl) ?_ _
            have hok : CaOK R4w8 ⟨A14, c14, [(1, 2), (2, 1)], none, 0, [], some ⟨R4w7.heap.size, 0, none⟩, 2, [N, Q]⟩ := ⟨FH_8.out, Holds.nil _, FX_8.out⟩
            have hok2 := CaOK.off_box (W' := (((R4w8.setCell ⟨R4w4.heap.size, 0, none⟩ (.slice A14 2 c14)).setCell ⟨R4w4.heap.size, 1, none⟩ (.slice none 0 0)).setCell ⟨R4w4.heap.size, 2, none⟩ (.slice (some ⟨R4w7.heap.size, 0, none⟩) 2 2))) hok FA_8.out (by simp) (fun b hb => set3_other R4w8 _ b _ _ _ hb)
            have hblk : BlkC (((R4w8.setCell ⟨R4w4.heap.size, 0, none⟩ (.slice A14 2 c14)).setCell ⟨R4w4.heap.size, 1, none⟩ (.slice none 0 0)).setCell ⟨R4w4.heap.size, 2, none⟩ (.slice (some ⟨R4w7.heap.size, 0, none⟩) 2 2)) R4w4.heap.size ⟨A14, c14, [(1, 2), (2, 1)], none, 0, [], some ⟨R4w7.heap.size, 0, none⟩, 2, [N, Q]⟩ := boxC_filled FA_8.out _ _ _
            have KF := Lib.hid ((K9.out.next R4BS.out).add hblk hok2)
            have HX := Lib.hid (show CaV.ca ⟨A14, c14, [(1, 2), (2, 1)], none, 0, [], some ⟨R4w7.heap.size, 0, none⟩, 2, [N, Q]⟩ = cZ from by show (([(1, 2), (2, 1)], []), its [N, Q]) = _; simp [HN.out, HQ.out])
            clear hok hok2 hblk hHeld
            go_wp2_with fail
            go_meet
            exact ⟨_, _, rfl, HX, KF⟩
        · go_simp
          have hal := (Below.refl R4w3.heap.size R4w3).alloc (Nat.le_refl _) (.cells #[.slice none 0 0, .slice none 0 0, .slice none 0 0] 28)
          have R4B4 := Lib.hid (Below.trans R4B3.out (hal.mono R4B3.out.size))
          have R4GA := R4B3.out.size
          have FD_4 := Lib.hid (SlAt.below FD_3.out hal)
          have FH_4 := Lib.hid (FH_3.out.below hal)
          have FA_4 := Lib.hid (heap_alloc_new R4w3 (.cells #[.slice none 0 0, .slice none 0 0, .slice none 0 0] 28))
          refine hK.out _ _ ?_ (fun hHeld => ?_)
          · exact ⟨((K9.out.next R4B4.out).it (g := g) (by simp)).1, ((K9.out.next R4B4.out).it (g := g) (by simp)).2⟩
          clear hK hal FD_3 FH_3 R4B3
          try simp only [Act.put, List.setIfInBounds_toArray, List.set_cons_zero, List.set_cons_succ]
          generalize World.alloc R4w3 _ = R4w4 at R4B4 FD_4 FH_4 FA_4 hHeld ⊢
          refine wpAnyH_ready (rs := [5]) (by kernel_rfl) (by simp) ?_
          refine AllReadyH.cons (o := ⟨some 32, _, _, _, _, _⟩) rfl (fun K hK => ?_) AllReadyH.nil
          go_simp
          refine (mark10_l 1 2 2 9 R4w4 (by decide)).mono ?_
          rintro e R4w5 ⟨rfl, hb⟩
          have R4B5 := Lib.hid (Below.trans R4B4.out (hb.mono R4B4.out.size))
          have FD_5 := Lib.hid (SlAt.below FD_4.out hb)
          have FH_5 := Lib.hid (FH_4.out.below hb)
          have FA_5 := Lib.hid ((hb.block _ (Array.getElem?_eq_some_iff.1 FA_4.out).1).trans FA_4.out)
          first
            | refine hK.out _ _ ?_ (fun hHeld => ?_)
            | (go_wp2_with fail
               refine hK.out _ _ ?_ (fun hHeld => ?_))
          · exact ⟨((K9.out.next R4B5.out).it (g := g) (by simp)).1, ((K9.out.next R4B5.out).it (g := g) (by simp)).2⟩
          clear hK hb FD_4 FH_4 FA_4 R4B4
          try simp only [Act.put, List.setIfInBounds_toArray, List.set_cons_zero, List.set_cons_succ]
          refine wpAnyH_ready (rs := [6]) (by kernel_rfl) (by simp) ?_
          refine AllReadyH.cons (o := ⟨some 33, _, _, _, _, _⟩) rfl (fun K hK => ?_) AllReadyH.nil
          go_simp
          have hal := (Below.refl R4w5.heap.size R4w5).alloc (Nat.le_refl _) (.cells #[.int .i64 1, .int .i64 1, .int .i64 5, .int .u64 3, .int .i64 1, .int .i64 2, .int .i64 2, .int .u64 9] 65)
          have R4B6 := Lib.hid (Below.trans R4B5.out (hal.mono R4B5.out.size))
          have FD_6 := Lib.hid (SlAt.below FD_5.out hal)
          have FH_6 := Lib.hid (FH_5.out.below hal)
          have FA_6 := Lib.hid ((hal.block _ (Array.getElem?_eq_some_iff.1 FA_5.out).1).trans FA_5.out)
          have FM_6 := Lib.hid (mlit2 R4w5 R4w5.heap.size 1 1 5 3 1 2 2 9 3 9 rfl rfl rfl)
          refine hK.out _ _ ?_ (fun hHeld => ?_)
          · exact ⟨((K9.out.next R4B6.out).it (g := g) (by simp)).1, ((K9.out.next R4B6.out).it (g := g) (by simp)).2⟩
          clear hK hal FD_5 FH_5 FA_5 R4B5
          try simp only [Act.put, List.setIfInBounds_toArray, List.set_cons_zero, List.set_cons_succ]
          generalize World.alloc R4w5 _ = R4w6 at R4B6 FD_6 FH_6 FA_6 FM_6 hHeld ⊢
          refine wpAnyH_ready (rs := [7]) (by kernel_rfl) (by simp) ?_
          refine AllReadyH.cons (o := ⟨some 34, _, _, _, _, _⟩) rfl (fun K hK => ?_) AllReadyH.nil
          go_simp
          refine (item10_l ⟨#[84, 101, 97]⟩ nTea (some ⟨R4w5.heap.size, 0, none⟩) 2 [⟨1, 1, 5, 3⟩, ⟨1, 2, 2, 9⟩] R4w6 FM_6.out rfl rfl (by decide)).mono ?_
          rintro e R4w7 ⟨Q, rfl, hQ, oQ, hb⟩
          have R4B7 := Lib.hid (Below.trans R4B6.out (hb.mono R4B6.out.size))
          have FD_7 := Lib.hid (SlAt.below FD_6.out hb)
          have FH_7 := Lib.hid (FH_6.out.below hb)
          have FA_7 := Lib.hid ((hb.block _ (Array.getElem?_eq_some_iff.1 FA_6.out).1).trans FA_6.out)
          have FM_7 := Lib.hid (SlAt.below FM_6.out hb)
          have FQ_7 := Lib.hid (oQ)
          have HQ := Lib.hid hQ
          clear hQ oQ
          first
            | refine hK.out _ _ ?_ (fun hHeld => ?_)
            | (go_wp2_with fail
               refine hK.out _ _ ?_ (fun hHeld => ?_))
          · exact ⟨((K9.out.next R4B7.out).it (g := g) (by simp)).1, ((K9.out.next R4B7.out).it (g := g) (by simp)).2⟩
          clear hK hb FD_6 FH_6 FA_6 FM_6 R4B6
          try simp only [Act.put, List.setIfInBounds_toArray, List.set_cons_zero, List.set_cons_succ]
          refine wpAnyH_ready (rs := [8]) (by kernel_rfl) (by simp) ?_
          refine AllReadyH.cons (o := ⟨some 35, _, _, _, _, _⟩) rfl (fun K hK => ?_) AllReadyH.nil
          go_simp
          have hal := (Below.refl R4w7.heap.size R4w7).alloc (Nat.le_refl _) (.cells #[.string ⟨N.nm.toArray⟩, .slice N.A N.ms.length N.c, .string ⟨Q.nm.toArray⟩, .slice Q.A Q.ms.length Q.c] 56)
          have R4B8 := Lib.hid (Below.trans R4B7.out (hal.mono R4B7.out.size))
          have FD_8 := Lib.hid (SlAt.below FD_7.out hal)
          have FH_8 := Lib.hid (FH_7.out.below hal)
          have FA_8 := Lib.hid ((hal.block _ (Array.getElem?_eq_some_iff.1 FA_7.out).1).trans FA_7.out)
          have FM_8 := Lib.hid (SlAt.below FM_7.out hal)
          have FQ_8 := Lib.hid (FQ_7.out.below hal)
          have FX_8 := Lib.hid (holdsB R4w7 R4w7.heap.size N Q rfl ((K9.out.next R4B7.out).kz.ok (g := g) (by simp)) FQ_7.out)
          refine hK.out _ _ ?_ (fun hHeld => ?_)
          · exact ⟨((K9.out.next R4B8.out).it (g := g) (by simp)).1, ((K9.out.next R4B8.out).it (g := g) (by simp)).2⟩
          clear hK hal FD_7 FH_7 FA_7 FM_7 FQ_7 R4B7
          try simp only [Act.put, List.setIfInBounds_toArray, List.set_cons_zero, List.set_cons_succ]
          generalize World.alloc R4w7 _ = R4w8 at R4B8 FD_8 FH_8 FA_8 FM_8 FQ_8 FX_8 hHeld ⊢
          refine wpAnyH_take (i := 9) (oi := ⟨some 36, _, _, _, _, _⟩) (v := ?_) rfl (by kernel_rfl) (by kernel_rfl) (by kernel_rfl) (fun _ _ _ h => h) (Or.inl ⟨by rfl, ?_⟩) (by assumption) ?_
          rotate_left 1
          · intro w hSw
            (try dsimp only at hSw)
            go_simp
            try with_reducible rfl
          try simp only [Act.put, List.setIfInBounds_toArray, List.set_cons_zero, List.set_cons_succ]
          refine wpAnyH_ready (rs := [11]) (by kernel_rfl) (by simp) ?_
          refine AllReadyH.cons (o := ⟨none, _, _, _, _, _⟩) rfl (fun K hK => ?_) AllReadyH.nil
          obtain ⟨_, r0, r1, r2, f0, f1, f2, gl⟩ := boxC_kept (Below.refl _ _) FA_8.out
          go_simp
          have R4BS := Lib.hid (show Below R4w0.heap.size R4w0 (((R4w8.setCell ⟨R4w3.heap.size, 0, none⟩ (.slice A14 2 c14)).setCell ⟨R4w3.heap.size, 1, none⟩ (.slice none 0 0)).setCell ⟨R4w3.heap.size, 2, none⟩ (.slice (some ⟨R4w7.heap.size, 0, none⟩) 2 2)) from below_set3c R4B8.out R4GA _ _ _)
          refine hK.out _ _ ?_ (fun hHeld => ?_)
          · exact ⟨((K9.out.next R4BS.out).it (g := g) (by simp)).1, ((K9.out.next R4BS.out).it (g := g) (by simp)).2⟩
          clear hK r0 r1 r2 f0 f1 f2 gl
          try simp only [Act.put, List.setIfInBounds_toArray, List.set_cons_zero, List.set_cons_succ]
          refine wpAnyH_done (by kernel_rfl) ?_ _
          have hok : CaOK R4w8 ⟨A14, c14, [(1, 2), (2, 1)], none, 0, [], some ⟨R4w7.heap.size, 0, none⟩, 2, [N, Q]⟩ := ⟨FH_8.out, Holds.nil _, FX_8.out⟩
          have hok2 := CaOK.off_box (W' := (((R4w8.setCell ⟨R4w3.heap.size, 0, none⟩ (.slice A14 2 c14)).setCell ⟨R4w3.heap.size, 1, none⟩ (.slice none 0 0)).setCell ⟨R4w3.heap.size, 2, none⟩ (.slice (some ⟨R4w7.heap.size, 0, none⟩) 2 2))) hok FA_8.out (by simp) (fun b hb => set3_other R4w8 _ b _ _ _ hb)
          have hblk : BlkC (((R4w8.setCell ⟨R4w3.heap.size, 0, none⟩ (.slice A14 2 c14)).setCell ⟨R4w3.heap.size, 1, none⟩ (.slice none 0 0)).setCell ⟨R4w3.heap.size, 2, none⟩ (.slice (some ⟨R4w7.heap.size, 0, none⟩) 2 2)) R4w3.heap.size ⟨A14, c14, [(1, 2), (2, 1)], none, 0, [], some ⟨R4w7.heap.size, 0, none⟩, 2, [N, Q]⟩ := boxC_filled FA_8.out _ _ _
          have KF := Lib.hid ((K9.out.next R4BS.out).add hblk hok2)
          have HX := Lib.hid (show CaV.ca ⟨A14, c14, [(1, 2), (2, 1)], none, 0, [], some ⟨R4w7.heap.size, 0, none⟩, 2, [N, Q]⟩ = cZ from by show (([(1, 2), (2, 1)], []), its [N, Q]) = _; simp [HN.out, HQ.out])
          clear hok hok2 hblk hHeld
          go_wp2_with fail
          go_meet
          exact ⟨_, _, rfl, HX, KF⟩
      · go_simp
        have hal := (Below.refl R4w2.heap.size R4w2).alloc (Nat.le_refl _) (.cells #[.slice none 0 0, .slice none 0 0, .slice none 0 0] 28)
        have R4B3 := Lib.hid (Below.trans R4B2.out (hal.mono R4B2.out.size))
        have R4GA := R4B2.out.size
        have FD_3 := Lib.hid (SlAt.below FD_2.out hal)
        have FH_3 := Lib.hid (FH_2.out.below hal)
        have FA_3 := Lib.hid (heap_alloc_new R4w2 (.cells #[.slice none 0 0, .slice none 0 0, .slice none 0 0] 28))
        refine hK.out _ _ ?_ (fun hHeld => ?_)
        · exact ⟨((K9.out.next R4B3.out).it (g := g) (by simp)).1, ((K9.out.next R4B3.out).it (g := g) (by simp)).2⟩
        clear hK hal FD_2 FH_2 R4B2
        try simp only [Act.put, List.setIfInBounds_toArray, List.set_cons_zero, List.set_cons_succ]
        generalize World.alloc R4w2 _ = R4w3 at R4B3 FD_3 FH_3 FA_3 hHeld ⊢
        refine wpAnyH_ready (rs := [4]) (by kernel_rfl) (by simp) ?_
        refine AllReadyH.cons (o := ⟨some 31, _, _, _, _, _⟩) rfl (fun K hK => ?_) AllReadyH.nil
        go_simp
        refine (mark10_l 1 1 5 3 R4w3 (by decide)).mono ?_
        rintro e R4w4 ⟨rfl, hb⟩
        have R4B4 := Lib.hid (Below.trans R4B3.out (hb.mono R4B3.out.size))
        have FD_4 := Lib.hid (SlAt.below FD_3.out hb)
        have FH_4 := Lib.hid (FH_3.out.below hb)
        have FA_4 := Lib.hid ((hb.block _ (Array.getElem?_eq_some_iff.1 FA_3.out).1).trans FA_3.out)
        first
          | refine hK.out _ _ ?_ (fun hHeld => ?_)
          | (go_wp2_with fail
             refine hK.out _ _ ?_ (fun hHeld => ?_))
        · exact ⟨((K9.out.next R4B4.out).it (g := g) (by simp)).1, ((K9.out.next R4B4.out).it (g := g) (by simp)).2⟩
        clear hK hb FD_3 FH_3 FA_3 R4B3
        try simp only [Act.put, List.setIfInBounds_toArray, List.set_cons_zero, List.set_cons_succ]
        refine wpAnyH_ready (rs := [5]) (by kernel_rfl) (by simp) ?_
        refine AllReadyH.cons (o := ⟨some 32, _, _, _, _, _⟩) rfl (fun K hK => ?_) AllReadyH.nil
        go_simp
        refine (mark10_l 1 2 2 9 R4w4 (by decide)).mono ?_
        rintro e R4w5 ⟨rfl, hb⟩
        have R4B5 := Lib.hid (Below.trans R4B4.out (hb.mono R4B4.out.size))
        have FD_5 := Lib.hid (SlAt.below FD_4.out hb)
        have FH_5 := Lib.hid (FH_4.out.below hb)
        have FA_5 := Lib.hid ((hb.block _ (Array.getElem?_eq_some_iff.1 FA_4.out).1).trans FA_4.out)
        first
          | refine hK.out _ _ ?_ (fun hHeld => ?_)
          | (go_wp2_with fail
             refine hK.out _ _ ?_ (fun hHeld => ?_))
        · exact ⟨((K9.out.next R4B5.out).it (g := g) (by simp)).1, ((K9.out.next R4B5.out).it (g := g) (by simp)).2⟩
        clear hK hb FD_4 FH_4 FA_4 R4B4
        try simp only [Act.put, List.setIfInBounds_toArray, List.set_cons_zero, List.set_cons_succ]
        refine wpAnyH_ready (rs := [6]) (by kernel_rfl) (by simp) ?_
        refine AllReadyH.cons (o := ⟨some 33, _, _, _, _, _⟩) rfl (fun K hK => ?_) AllReadyH.nil
        go_simp
        have hal := (Below.refl R4w5.heap.size R4w5).alloc (Nat.le_refl _) (.cells #[.int .i64 1, .int .i64 1, .int .i64 5, .int .u64 3, .int .i64 1, .int .i64 2, .int .i64 2, .int .u64 9] 65)
        have R4B6 := Lib.hid (Below.trans R4B5.out (hal.mono R4B5.out.size))
        have FD_6 := Lib.hid (SlAt.below FD_5.out hal)
        have FH_6 := Lib.hid (FH_5.out.below hal)
        have FA_6 := Lib.hid ((hal.block _ (Array.getElem?_eq_some_iff.1 FA_5.out).1).trans FA_5.out)
        have FM_6 := Lib.hid (mlit2 R4w5 R4w5.heap.size 1 1 5 3 1 2 2 9 3 9 rfl rfl rfl)
        refine hK.out _ _ ?_ (fun hHeld => ?_)
        · exact ⟨((K9.out.next R4B6.out).it (g := g) (by simp)).1, ((K9.out.next R4B6.out).it (g := g) (by simp)).2⟩
        clear hK hal FD_5 FH_5 FA_5 R4B5
        try simp only [Act.put, List.setIfInBounds_toArray, List.set_cons_zero, List.set_cons_succ]
        generalize World.alloc R4w5 _ = R4w6 at R4B6 FD_6 FH_6 FA_6 FM_6 hHeld ⊢
        refine wpAnyH_ready (rs := [7]) (by kernel_rfl) (by simp) ?_
        refine AllReadyH.cons (o := ⟨some 34, _, _, _, _, _⟩) rfl (fun K hK => ?_) AllReadyH.nil
        go_simp
        refine (item10_l ⟨#[84, 101, 97]⟩ nTea (some ⟨R4w5.heap.size, 0, none⟩) 2 [⟨1, 1, 5, 3⟩, ⟨1, 2, 2, 9⟩] R4w6 FM_6.out rfl rfl (by decide)).mono ?_
        rintro e R4w7 ⟨Q, rfl, hQ, oQ, hb⟩
        have R4B7 := Lib.hid (Below.trans R4B6.out (hb.mono R4B6.out.size))
        have FD_7 := Lib.hid (SlAt.below FD_6.out hb)
        have FH_7 := Lib.hid (FH_6.out.below hb)
        have FA_7 := Lib.hid ((hb.block _ (Array.getElem?_eq_some_iff.1 FA_6.out).1).trans FA_6.out)
        have FM_7 := Lib.hid (SlAt.below FM_6.out hb)
        have FQ_7 := Lib.hid (oQ)
        have HQ := Lib.hid hQ
        clear hQ oQ
        first
          | refine hK.out _ _ ?_ (fun hHeld => ?_)
          | (go_wp2_with fail
             refine hK.out _ _ ?_ (fun hHeld => ?_))
        · exact ⟨((K9.out.next R4B7.out).it (g := g) (by simp)).1, ((K9.out.next R4B7.out).it (g := g) (by simp)).2⟩
        clear hK hb FD_6 FH_6 FA_6 FM_6 R4B6
        try simp only [Act.put, List.setIfInBounds_toArray, List.set_cons_zero, List.set_cons_succ]
        refine wpAnyH_ready (rs := [8]) (by kernel_rfl) (by simp) ?_
        refine AllReadyH.cons (o := ⟨some 35, _, _, _, _, _⟩) rfl (fun K hK => ?_) AllReadyH.nil
        go_simp
        have hal := (Below.refl R4w7.heap.size R4w7).alloc (Nat.le_refl _) (.cells #[.string ⟨N.nm.toArray⟩, .slice N.A N.ms.length N.c, .string ⟨Q.nm.toArray⟩, .slice Q.A Q.ms.length Q.c] 56)
        have R4B8 := Lib.hid (Below.trans R4B7.out (hal.mono R4B7.out.size))
        have FD_8 := Lib.hid (SlAt.below FD_7.out hal)
        have FH_8 := Lib.hid (FH_7.out.below hal)
        have FA_8 := Lib.hid ((hal.block _ (Array.getElem?_eq_some_iff.1 FA_7.out).1).trans FA_7.out)
        have FM_8 := Lib.hid (SlAt.below FM_7.out hal)
        have FQ_8 := Lib.hid (FQ_7.out.below hal)
        have FX_8 := Lib.hid (holdsB R4w7 R4w7.heap.size N Q rfl ((K9.out.next R4B7.out).kz.ok (g := g) (by simp)) FQ_7.out)
        refine hK.out _ _ ?_ (fun hHeld => ?_)
        · exact ⟨((K9.out.next R4B8.out).it (g := g) (by simp)).1, ((K9.out.next R4B8.out).it (g := g) (by simp)).2⟩
        clear hK hal FD_7 FH_7 FA_7 FM_7 FQ_7 R4B7
        try simp only [Act.put, List.setIfInBounds_toArray, List.set_cons_zero, List.set_cons_succ]
        generalize World.alloc R4w7 _ = R4w8 at R4B8 FD_8 FH_8 FA_8 FM_8 FQ_8 FX_8 hHeld ⊢
        refine wpAnyH_take (i := 9) (oi := ⟨some 36, _, _, _, _, _⟩) (v := ?_) rfl (by kernel_rfl) (by kernel_rfl) (by kernel_rfl) (fun _ _ _ h => h) (Or.inl ⟨by rfl, ?_⟩) (by assumption) ?_
        rotate_left 1
        · intro w hSw
          (try dsimp only at hSw)
          go_simp
          try with_reducible rfl
        try simp only [Act.put, List.setIfInBounds_toArray, List.set_cons_zero, List.set_cons_succ]
        refine wpAnyH_ready (rs := [11]) (by kernel_rfl) (by simp) ?_
        refine AllReadyH.cons (o := ⟨none, _, _, _, _, _⟩) rfl (fun K hK => ?_) AllReadyH.nil
        obtain ⟨_, r0, r1, r2, f0, f1, f2, gl⟩ := boxC_kept (Below.refl _ _) FA_8.out
        go_simp
        have R4BS := Lib.hid (show Below R4w0.heap.size R4w0 (((R4w8.setCell ⟨R4w2.heap.size, 0, none⟩ (.slice A14 2 c14)).setCell ⟨R4w2.heap.size, 1, none⟩ (.slice none 0 0)).setCell ⟨R4w2.heap.size, 2, none⟩ (.slice (some ⟨R4w7.heap.size, 0, none⟩) 2 2)) from below_set3c R4B8.out R4GA _ _ _)
        refine hK.out _ _ ?_ (fun hHeld => ?_)
        · exact ⟨((K9.out.next R4BS.out).it (g := g) (by simp)).1, ((K9.out.next R4BS.out).it (g := g) (by simp)).2⟩
        clear hK r0 r1 r2 f0 f1 f2 gl
        try simp only [Act.put, List.setIfInBounds_toArray, List.set_cons_zero, List.set_cons_succ]
        refine wpAnyH_done (by kernel_rfl) ?_ _
        have hok : CaOK R4w8 ⟨A14, c14, [(1, 2), (2, 1)], none, 0, [], some ⟨R4w7.heap.size, 0, none⟩, 2, [N, Q]⟩ := ⟨FH_8.out, Holds.nil _, FX_8.out⟩
        have hok2 := CaOK.off_box (W' := (((R4w8.setCell ⟨R4w2.heap.size, 0, none⟩ (.slice A14 2 c14)).setCell ⟨R4w2.heap.size, 1, none⟩ (.slice none 0 0)).setCell ⟨R4w2.heap.size, 2, none⟩ (.slice (some ⟨R4w7.heap.size, 0, none⟩) 2 2))) hok FA_8.out (by simp) (fun b hb => set3_other R4w8 _ b _ _ _ hb)
        have hblk : BlkC (((R4w8.setCell ⟨R4w2.heap.size, 0, none⟩ (.slice A14 2 c14)).setCell ⟨R4w2.heap.size, 1, none⟩ (.slice none 0 0)).setCell ⟨R4w2.heap.size, 2, none⟩ (.slice (some ⟨R4w7.heap.size, 0, none⟩) 2 2)) R4w2.heap.size ⟨A14, c14, [(1, 2), (2, 1)], none, 0, [], some ⟨R4w7.heap.size, 0, none⟩, 2, [N, Q]⟩ := boxC_filled FA_8.out _ _ _
        have KF := Lib.hid ((K9.out.next R4BS.out).add hblk hok2)
        have HX := Lib.hid (show CaV.ca ⟨A14, c14, [(1, 2), (2, 1)], none, 0, [], some ⟨R4w7.heap.size, 0, none⟩, 2, [N, Q]⟩ = cZ from by show (([(1, 2), (2, 1)], []), its [N, Q]) = _; simp [HN.out, HQ.out])
        clear hok hok2 hblk hHeld
        go_wp2_with fail
        go_meet
        exact ⟨_, _, rfl, HX, KF⟩
    · go_simp
      have hal := (Below.refl R4w1.heap.size R4w1).alloc (Nat.le_refl _) (.cells #[.slice none 0 0, .slice none 0 0, .slice none 0 0] 28)
      have R4B2 := Lib.hid (Below.trans R4B1.out (hal.mono R4B1.out.size))
      have R4GA := R4B1.out.size
      have FD_2 := Lib.hid (SlAt.below FD_1.out hal)
      have FA_2 := Lib.hid (heap_alloc_new R4w1 (.cells #[.slice none 0 0, .slice none 0 0, .slice none 0 0] 28))
      refine hK.out _ _ ?_ (fun hHeld => ?_)
      · exact ⟨((K9.out.next R4B2.out).it (g := g) (by simp)).1, ((K9.out.next R4B2.out).it (g := g) (by simp)).2⟩
      clear hK hal FD_1 R4B1
      try simp only [Act.put, List.setIfInBounds_toArray, List.set_cons_zero, List.set_cons_succ]
      generalize World.alloc R4w1 _ = R4w2 at R4B2 FD_2 FA_2 hHeld ⊢
      refine wpAnyH_ready (rs := [1]) (by kernel_rfl) (by simp) ?_
      refine AllReadyH.cons (o := ⟨some 28, _, _, _, _, _⟩) rfl (fun K hK => ?_) AllReadyH.nil
      go_simp
      refine (dots2_l R4w00.heap.size 1 2 2 1 R4w2 FD_2.out).mono ?_
      rintro e R4w3 ⟨⟨A14, c14, rfl, hh⟩, hb⟩
      have R4B3 := Lib.hid (Below.trans R4B2.out (hb.mono R4B2.out.size))
      have FD_3 := Lib.hid (SlAt.below FD_2.out hb)
      have FA_3 := Lib.hid ((hb.block _ (Array.getElem?_eq_some_iff.1 FA_2.out).1).trans FA_2.out)
      have FH_3 := Lib.hid (hh)
      clear hh
      first
        | refine hK.out _ _ ?_ (fun hHeld => ?_)
        | (go_wp2_with fail
           refine hK.out _ _ ?_ (fun hHeld => ?_))
      · exact ⟨((K9.out.next R4B3.out).it (g := g) (by simp)).1, ((K9.out.next R4B3.out).it (g := g) (by simp)).2⟩
      clear hK hb FD_2 FA_2 R4B2
      try simp only [Act.put, List.setIfInBounds_toArray, List.set_cons_zero, List.set_cons_succ]
      refine wpAnyH_take (i := 2) (oi := ⟨some 29, _, _, _, _, _⟩) (v := ?_) rfl (by kernel_rfl) (by kernel_rfl) (by kernel_rfl) (fun _ _ _ h => h) (Or.inl ⟨by rfl, ?_⟩) (by assumption) ?_
      rotate_left 1
      · intro w hSw
        (try dsimp only at hSw)
        go_simp
        try with_reducible rfl
      try simp only [Act.put, List.setIfInBounds_toArray, List.set_cons_zero, List.set_cons_succ]
      refine wpAnyH_ready (rs := [4]) (by kernel_rfl) (by simp) ?_
      refine AllReadyH.cons (o := ⟨some 31, _, _, _, _, _⟩) rfl (fun K hK => ?_) AllReadyH.nil
      go_simp
      refine (mark10_l 1 1 5 3 R4w3 (by decide)).mono ?_
      rintro e R4w4 ⟨rfl, hb⟩
      have R4B4 := Lib.hid (Below.trans R4B3.out (hb.mono R4B3.out.size))
      have FD_4 := Lib.hid (SlAt.below FD_3.out hb)
      have FA_4 := Lib.hid ((hb.block _ (Array.getElem?_eq_some_iff.1 FA_3.out).1).trans FA_3.out)
      have FH_4 := Lib.hid (FH_3.out.below hb)
      first
        | refine hK.out _ _ ?_ (fun hHeld => ?_)
        | (go_wp2_with fail
           refine hK.out _ _ ?_ (fun hHeld => ?_))
      · exact ⟨((K9.out.next R4B4.out).it (g := g) (by simp)).1, ((K9.out.next R4B4.out).it (g := g) (by simp)).2⟩
      clear hK hb FD_3 FA_3 FH_3 R4B3
      try simp only [Act.put, List.setIfInBounds_toArray, List.set_cons_zero, List.set_cons_succ]
      refine wpAnyH_ready (rs := [5]) (by kernel_rfl) (by simp) ?_
      refine AllReadyH.cons (o := ⟨some 32, _, _, _, _, _⟩) rfl (fun K hK => ?_) AllReadyH.nil
      go_simp
      refine (mark10_l 1 2 2 9 R4w4 (by decide)).mono ?_
      rintro e R4w5 ⟨rfl, hb⟩
      have R4B5 := Lib.hid (Below.trans R4B4.out (hb.mono R4B4.out.size))
      have FD_5 := Lib.hid (SlAt.below FD_4.out hb)
      have FA_5 := Lib.hid ((hb.block _ (Array.getElem?_eq_some_iff.1 FA_4.out).1).trans FA_4.out)
      have FH_5 := Lib.hid (FH_4.out.below hb)
      first
        | refine hK.out _ _ ?_ (fun hHeld => ?_)
        | (go_wp2_with fail
           refine hK.out _ _ ?_ (fun hHeld => ?_))
      · exact ⟨((K9.out.next R4B5.out).it (g := g) (by simp)).1, ((K9.out.next R4B5.out).it (g := g) (by simp)).2⟩
      clear hK hb FD_4 FA_4 FH_4 R4B4
      try simp only [Act.put, List.setIfInBounds_toArray, List.set_cons_zero, List.set_cons_succ]
      refine wpAnyH_ready (rs := [6]) (by kernel_rfl) (by simp) ?_
      refine AllReadyH.cons (o := ⟨some 33, _, _, _, _, _⟩) rfl (fun K hK => ?_) AllReadyH.nil
      go_simp
      have hal := (Below.refl R4w5.heap.size R4w5).alloc (Nat.le_refl _) (.cells #[.int .i64 1, .int .i64 1, .int .i64 5, .int .u64 3, .int .i64 1, .int .i64 2, .int .i64 2, .int .u64 9] 65)
      have R4B6 := Lib.hid (Below.trans R4B5.out (hal.mono R4B5.out.size))
      have FD_6 := Lib.hid (SlAt.below FD_5.out hal)
      have FA_6 := Lib.hid ((hal.block _ (Array.getElem?_eq_some_iff.1 FA_5.out).1).trans FA_5.out)
      have FH_6 := Lib.hid (FH_5.out.below hal)
      have FM_6 := Lib.hid (mlit2 R4w5 R4w5.heap.size 1 1 5 3 1 2 2 9 3 9 rfl rfl rfl)
      refine hK.out _ _ ?_ (fun hHeld => ?_)
      · exact ⟨((K9.out.next R4B6.out).it (g := g) (by simp)).1, ((K9.out.next R4B6.out).it (g := g) (by simp)).2⟩
      clear hK hal FD_5 FA_5 FH_5 R4B5
      try simp only [Act.put, List.setIfInBounds_toArray, List.set_cons_zero, List.set_cons_succ]
      generalize World.alloc R4w5 _ = R4w6 at R4B6 FD_6 FA_6 FH_6 FM_6 hHeld ⊢
      refine wpAnyH_ready (rs := [7]) (by kernel_rfl) (by simp) ?_
      refine AllReadyH.cons (o := ⟨some 34, _, _, _, _, _⟩) rfl (fun K hK => ?_) AllReadyH.nil
      go_simp
      refine (item10_l ⟨#[84, 101, 97]⟩ nTea (some ⟨R4w5.heap.size, 0, none⟩) 2 [⟨1, 1, 5, 3⟩, ⟨1, 2, 2, 9⟩] R4w6 FM_6.out rfl rfl (by decide)).mono ?_
      rintro e R4w7 ⟨Q, rfl, hQ, oQ, hb⟩
      have R4B7 := Lib.hid (Below.trans R4B6.out (hb.mono R4B6.out.size))
      have FD_7 := Lib.hid (SlAt.below FD_6.out hb)
      have FA_7 := Lib.hid ((hb.block _ (Array.getElem?_eq_some_iff.1 FA_6.out).1).trans FA_6.out)
      have FH_7 := Lib.hid (FH_6.out.below hb)
      have FM_7 := Lib.hid (SlAt.below FM_6.out hb)
      have FQ_7 := Lib.hid (oQ)
      have HQ := Lib.hid hQ
      clear hQ oQ
      first
        | refine hK.out _ _ ?_ (fun hHeld => ?_)
        | (go_wp2_with fail
           refine hK.out _ _ ?_ (fun hHeld => ?_))
      · exact ⟨((K9.out.next R4B7.out).it (g := g) (by simp)).1, ((K9.out.next R4B7.out).it (g := g) (by simp)).2⟩
      clear hK hb FD_6 FA_6 FH_6 FM_6 R4B6
      try simp only [Act.put, List.setIfInBounds_toArray, List.set_cons_zero, List.set_cons_succ]
      refine wpAnyH_ready (rs := [8]) (by kernel_rfl) (by simp) ?_
      refine AllReadyH.cons (o := ⟨some 35, _, _, _, _, _⟩) rfl (fun K hK => ?_) AllReadyH.nil
      go_simp
      have hal := (Below.refl R4w7.heap.size R4w7).alloc (Nat.le_refl _) (.cells #[.string ⟨N.nm.toArray⟩, .slice N.A N.ms.length N.c, .string ⟨Q.nm.toArray⟩, .slice Q.A Q.ms.length Q.c] 56)
      have R4B8 := Lib.hid (Below.trans R4B7.out (hal.mono R4B7.out.size))
      have FD_8 := Lib.hid (SlAt.below FD_7.out hal)
      have FA_8 := Lib.hid ((hal.block _ (Array.getElem?_eq_some_iff.1 FA_7.out).1).trans FA_7.out)
      have FH_8 := Lib.hid (FH_7.out.below hal)
      have FM_8 := Lib.hid (SlAt.below FM_7.out hal)
      have FQ_8 := Lib.hid (FQ_7.out.below hal)
      have FX_8 := Lib.hid (holdsB R4w7 R4w7.heap.size N Q rfl ((K9.out.next R4B7.out).kz.ok (g := g) (by simp)) FQ_7.out)
      refine hK.out _ _ ?_ (fun hHeld => ?_)
      · exact ⟨((K9.out.next R4B8.out).it (g := g) (by simp)).1, ((K9.out.next R4B8.out).it (g := g) (by simp)).2⟩
      clear hK hal FD_7 FA_7 FH_7 FM_7 FQ_7 R4B7
      try simp only [Act.put, List.setIfInBounds_toArray, List.set_cons_zero, List.set_cons_succ]
      generalize World.alloc R4w7 _ = R4w8 at R4B8 FD_8 FA_8 FH_8 FM_8 FQ_8 FX_8 hHeld ⊢
      refine wpAnyH_take (i := 9) (oi := ⟨some 36, _, _, _, _, _⟩) (v := ?_) rfl (by kernel_rfl) (by kernel_rfl) (by kernel_rfl) (fun _ _ _ h => h) (Or.inl ⟨by rfl, ?_⟩) (by assumption) ?_
      rotate_left 1
      · intro w hSw
        (try dsimp only at hSw)
        go_simp
        try with_reducible rfl
      try simp only [Act.put, List.setIfInBounds_toArray, List.set_cons_zero, List.set_cons_succ]
      refine wpAnyH_ready (rs := [11]) (by kernel_rfl) (by simp) ?_
      refine AllReadyH.cons (o := ⟨none, _, _, _, _, _⟩) rfl (fun K hK => ?_) AllReadyH.nil
      obtain ⟨_, r0, r1, r2, f0, f1, f2, gl⟩ := boxC_kept (Below.refl _ _) FA_8.out
      go_simp
      have R4BS := Lib.hid (show Below R4w0.heap.size R4w0 (((R4w8.setCell ⟨R4w1.heap.size, 0, none⟩ (.slice A14 2 c14)).setCell ⟨R4w1.heap.size, 1, none⟩ (.slice none 0 0)).setCell ⟨R4w1.heap.size, 2, none⟩ (.slice (some ⟨R4w7.heap.size, 0, none⟩) 2 2)) from below_set3c R4B8.out R4GA _ _ _)
      refine hK.out _ _ ?_ (fun hHeld => ?_)
      · exact ⟨((K9.out.next R4BS.out).it (g := g) (by simp)).1, ((K9.out.next R4BS.out).it (g := g) (by simp)).2⟩
      clear hK r0 r1 r2 f0 f1 f2 gl
      try simp only [Act.put, List.setIfInBounds_toArray, List.set_cons_zero, List.set_cons_succ]
      refine wpAnyH_done (by kernel_rfl) ?_ _
      have hok : CaOK R4w8 ⟨A14, c14, [(1, 2), (2, 1)], none, 0, [], some ⟨R4w7.heap.size, 0, none⟩, 2, [N, Q]⟩ := ⟨FH_8.out, Holds.nil _, FX_8.out⟩
      have hok2 := CaOK.off_box (W' := (((R4w8.setCell ⟨R4w1.heap.size, 0, none⟩ (.slice A14 2 c14)).setCell ⟨R4w1.heap.size, 1, none⟩ (.slice none 0 0)).setCell ⟨R4w1.heap.size, 2, none⟩ (.slice (some ⟨R4w7.heap.size, 0, none⟩) 2 2))) hok FA_8.out (by simp) (fun b hb => set3_other R4w8 _ b _ _ _ hb)
      have hblk : BlkC (((R4w8.setCell ⟨R4w1.heap.size, 0, none⟩ (.slice A14 2 c14)).setCell ⟨R4w1.heap.size, 1, none⟩ (.slice none 0 0)).setCell ⟨R4w1.heap.size, 2, none⟩ (.slice (some ⟨R4w7.heap.size, 0, none⟩) 2 2)) R4w1.heap.size ⟨A14, c14, [(1, 2), (2, 1)], none, 0, [], some ⟨R4w7.heap.size, 0, none⟩, 2, [N, Q]⟩ := boxC_filled FA_8.out _ _ _
      have KF := Lib.hid ((K9.out.next R4BS.out).add hblk hok2)
      have HX := Lib.hid (show CaV.ca ⟨A14, c14, [(1, 2), (2, 1)], none, 0, [], some ⟨R4w7.heap.size, 0, none⟩, 2, [N, Q]⟩ = cZ from by show (([(1, 2), (2, 1)], []), its [N, Q]) = _; simp [HN.out, HQ.out])
      clear hok hok2 hblk hHeld
      go_wp2_with fail
      go_meet
      exact ⟨_, _, rfl, HX, KF⟩
  · go_simp
    have hal := (Below.refl R4w00.heap.size R4w00).alloc (Nat.le_refl _) (.cells #[.slice none 0 0, .slice none 0 0, .slice none 0 0] 28)
    have R4B1 := Lib.hid (Below.trans R4B0.out (hal.mono R4B0.out.size))
    have R4GA := R4B0.out.size
    have FA_1 := Lib.hid (heap_alloc_new R4w00 (.cells #[.slice none 0 0, .slice none 0 0, .slice none 0 0] 28))
    refine hK.out _ _ ?_ (fun hHeld => ?_)
    · exact ⟨((K9.out.next R4B1.out).it (g := g) (by simp)).1, ((K9.out.next R4B1.out).it (g := g) (by simp)).2⟩
    clear hK hal R4B0
    try simp only [Act.put, List.setIfInBounds_toArray, List.set_cons_zero, List.set_cons_succ]
    generalize World.alloc R4w00 _ = R4w1 at R4B1 FA_1 hHeld ⊢
    refine wpAnyH_ready (rs := [0]) (by kernel_rfl) (by simp) ?_
    refine AllReadyH.cons (o := ⟨some 27, _, _, _, _, _⟩) rfl (fun K hK => ?_) AllReadyH.nil
    go_simp
    have hal := (Below.refl R4w1.heap.size R4w1).alloc (Nat.le_refl _) (.cells #[.int .i64 1, .int .i64 2, .int .i64 2, .int .i64 1] 3)
    have R4B2 := Lib.hid (Below.trans R4B1.out (hal.mono R4B1.out.size))
    have FA_2 := Lib.hid ((hal.block _ (Array.getElem?_eq_some_iff.1 FA_1.out).1).trans FA_1.out)
    have FD_2 := Lib.hid (ilit2 R4w1 1 2 2 1)
    refine hK.out _ _ ?_ (fun hHeld => ?_)
    · exact ⟨((K9.out.next R4B2.out).it (g := g) (by simp)).1, ((K9.out.next R4B2.out).it (g := g) (by simp)).2⟩
    clear hK hal FA_1 R4B1
    try simp only [Act.put, List.setIfInBounds_toArray, List.set_cons_zero, List.set_cons_succ]
    generalize World.alloc R4w1 _ = R4w2 at R4B2 FA_2 FD_2 hHeld ⊢
    refine wpAnyH_ready (rs := [1]) (by kernel_rfl) (by simp) ?_
    refine AllReadyH.cons (o := ⟨some 28, _, _, _, _, _⟩) rfl (fun K hK => ?_) AllReadyH.nil
    go_simp
    refine (dots2_l R4w1.heap.size 1 2 2 1 R4w2 FD_2.out).mono ?_
    rintro e R4w3 ⟨⟨A14, c14, rfl, hh⟩, hb⟩
    have R4B3 := Lib.hid (Below.trans R4B2.out (hb.mono R4B2.out.size))
    have FA_3 := Lib.hid ((hb.block _ (Array.getElem?_eq_some_iff.1 FA_2.out).1).trans FA_2.out)
    have FD_3 := Lib.hid (SlAt.below FD_2.out hb)
    have FH_3 := Lib.hid (hh)
    clear hh
    first
      | refine hK.out _ _ ?_ (fun hHeld => ?_)
      | (go_wp2_with fail
         refine hK.out _ _ ?_ (fun hHeld => ?_))
    · exact ⟨((K9.out.next R4B3.out).it (g := g) (by simp)).1, ((K9.out.next R4B3.out).it (g := g) (by simp)).2⟩
    clear hK hb FA_2 FD_2 R4B2
    try simp only [Act.put, List.setIfInBounds_toArray, List.set_cons_zero, List.set_cons_succ]
    refine wpAnyH_take (i := 2) (oi := ⟨some 29, _, _, _, _, _⟩) (v := ?_) rfl (by kernel_rfl) (by kernel_rfl) (by kernel_rfl) (fun _ _ _ h => h) (Or.inl ⟨by rfl, ?_⟩) (by assumption) ?_
    rotate_left 1
    · intro w hSw
      (try dsimp only at hSw)
      go_simp
      try with_reducible rfl
    try simp only [Act.put, List.setIfInBounds_toArray, List.set_cons_zero, List.set_cons_succ]
    refine wpAnyH_ready (rs := [4]) (by kernel_rfl) (by simp) ?_
    refine AllReadyH.cons (o := ⟨some 31, _, _, _, _, _⟩) rfl (fun K hK => ?_) AllReadyH.nil
    go_simp
    refine (mark10_l 1 1 5 3 R4w3 (by decide)).mono ?_
    rintro e R4w4 ⟨rfl, hb⟩
    have R4B4 := Lib.hid (Below.trans R4B3.out (hb.mono R4B3.out.size))
    have FA_4 := Lib.hid ((hb.block _ (Array.getElem?_eq_some_iff.1 FA_3.out).1).trans FA_3.out)
    have FD_4 := Lib.hid (SlAt.below FD_3.out hb)
    have FH_4 := Lib.hid (FH_3.out.below hb)
    first
      | refine hK.out _ _ ?_ (fun hHeld => ?_)
      | (go_wp2_with fail
         refine hK.out _ _ ?_ (fun hHeld => ?_))
    · exact ⟨((K9.out.next R4B4.out).it (g := g) (by simp)).1, ((K9.out.next R4B4.out).it (g := g) (by simp)).2⟩
    clear hK hb FA_3 FD_3 FH_3 R4B3
    try simp only [Act.put, List.setIfInBounds_toArray, List.set_cons_zero, List.set_cons_succ]
    refine wpAnyH_ready (rs := [5]) (by kernel_rfl) (by simp) ?_
    refine AllReadyH.cons (o := ⟨some 32, _, _, _, _, _⟩) rfl (fun K hK => ?_) AllReadyH.nil
    go_simp
    refine (mark10_l 1 2 2 9 R4w4 (by decide)).mono ?_
    rintro e R4w5 ⟨rfl, hb⟩
    have R4B5 := Lib.hid (Below.trans R4B4.out (hb.mono R4B4.out.size))
    have FA_5 := Lib.hid ((hb.block _ (Array.getElem?_eq_some_iff.1 FA_4.out).1).trans FA_4.out)
    have FD_5 := Lib.hid (SlAt.below FD_4.out hb)
    have FH_5 := Lib.hid (FH_4.out.below hb)
    first
      | refine hK.out _ _ ?_ (fun hHeld => ?_)
      | (go_wp2_with fail
         refine hK.out _ _ ?_ (fun hHeld => ?_))
    · exact ⟨((K9.out.next R4B5.out).it (g := g) (by simp)).1, ((K9.out.next R4B5.out).it (g := g) (by simp)).2⟩
    clear hK hb FA_4 FD_4 FH_4 R4B4
    try simp only [Act.put, List.setIfInBounds_toArray, List.set_cons_zero, List.set_cons_succ]
    refine wpAnyH_ready (rs := [6]) (by kernel_rfl) (by simp) ?_
    refine AllReadyH.cons (o := ⟨some 33, _, _, _, _, _⟩) rfl (fun K hK => ?_) AllReadyH.nil
    go_simp
    have hal := (Below.refl R4w5.heap.size R4w5).alloc (Nat.le_refl _) (.cells #[.int .i64 1, .int .i64 1, .int .i64 5, .int .u64 3, .int .i64 1, .int .i64 2, .int .i64 2, .int .u64 9] 65)
    have R4B6 := Lib.hid (Below.trans R4B5.out (hal.mono R4B5.out.size))
    have FA_6 := Lib.hid ((hal.block _ (Array.getElem?_eq_some_iff.1 FA_5.out).1).trans FA_5.out)
    have FD_6 := Lib.hid (SlAt.below FD_5.out hal)
    have FH_6 := Lib.hid (FH_5.out.below hal)
    have FM_6 := Lib.hid (mlit2 R4w5 R4w5.heap.size 1 1 5 3 1 2 2 9 3 9 rfl rfl rfl)
    refine hK.out _ _ ?_ (fun hHeld => ?_)
    · exact ⟨((K9.out.next R4B6.out).it (g := g) (by simp)).1, ((K9.out.next R4B6.out).it (g := g) (by simp)).2⟩
    clear hK hal FA_5 FD_5 FH_5 R4B5
    try simp only [Act.put, List.setIfInBounds_toArray, List.set_cons_zero, List.set_cons_succ]
    generalize World.alloc R4w5 _ = R4w6 at R4B6 FA_6 FD_6 FH_6 FM_6 hHeld ⊢
    refine wpAnyH_ready (rs := [7]) (by kernel_rfl) (by simp) ?_
    refine AllReadyH.cons (o := ⟨some 34, _, _, _, _, _⟩) rfl (fun K hK => ?_) AllReadyH.nil
    go_simp
    refine (item10_l ⟨#[84, 101, 97]⟩ nTea (some ⟨R4w5.heap.size, 0, none⟩) 2 [⟨1, 1, 5, 3⟩, ⟨1, 2, 2, 9⟩] R4w6 FM_6.out rfl rfl (by decide)).mono ?_
    rintro e R4w7 ⟨Q, rfl, hQ, oQ, hb⟩
    have R4B7 := Lib.hid (Below.trans R4B6.out (hb.mono R4B6.out.size))
    have FA_7 := Lib.hid ((hb.block _ (Array.getElem?_eq_some_iff.1 FA_6.out).1).trans FA_6.out)
    have FD_7 := Lib.hid (SlAt.below FD_6.out hb)
    have FH_7 := Lib.hid (FH_6.out.below hb)
    have FM_7 := Lib.hid (SlAt.below FM_6.out hb)
    have FQ_7 := Lib.hid (oQ)
    have HQ := Lib.hid hQ
    clear hQ oQ
    first
      | refine hK.out _ _ ?_ (fun hHeld => ?_)
      | (go_wp2_with fail
         refine hK.out _ _ ?_ (fun hHeld => ?_))
    · exact ⟨((K9.out.next R4B7.out).it (g := g) (by simp)).1, ((K9.out.next R4B7.out).it (g := g) (by simp)).2⟩
    clear hK hb FA_6 FD_6 FH_6 FM_6 R4B6
    try simp only [Act.put, List.setIfInBounds_toArray, List.set_cons_zero, List.set_cons_succ]
    refine wpAnyH_ready (rs := [8]) (by kernel_rfl) (by simp) ?_
    refine AllReadyH.cons (o := ⟨some 35, _, _, _, _, _⟩) rfl (fun K hK => ?_) AllReadyH.nil
    go_simp
    have hal := (Below.refl R4w7.heap.size R4w7).alloc (Nat.le_refl _) (.cells #[.string ⟨N.nm.toArray⟩, .slice N.A N.ms.length N.c, .string ⟨Q.nm.toArray⟩, .slice Q.A Q.ms.length Q.c] 56)
    have R4B8 := Lib.hid (Below.trans R4B7.out (hal.mono R4B7.out.size))
    have FA_8 := Lib.hid ((hal.block _ (Array.getElem?_eq_some_iff.1 FA_7.out).1).trans FA_7.out)
    have FD_8 := Lib.hid (SlAt.below FD_7.out hal)
    have FH_8 := Lib.hid (FH_7.out.below hal)
    have FM_8 := Lib.hid (SlAt.below FM_7.out hal)
    have FQ_8 := Lib.hid (FQ_7.out.below hal)
    have FX_8 := Lib.hid (holdsB R4w7 R4w7.heap.size N Q rfl ((K9.out.next R4B7.out).kz.ok (g := g) (by simp)) FQ_7.out)
    refine hK.out _ _ ?_ (fun hHeld => ?_)
    · exact ⟨((K9.out.next R4B8.out).it (g := g) (by simp)).1, ((K9.out.next R4B8.out).it (g := g) (by simp)).2⟩
    clear hK hal FA_7 FD_7 FH_7 FM_7 FQ_7 R4B7
    try simp only [Act.put, List.setIfInBounds_toArray, List.set_cons_zero, List.set_cons_succ]
    generalize World.alloc R4w7 _ = R4w8 at R4B8 FA_8 FD_8 FH_8 FM_8 FQ_8 FX_8 hHeld ⊢
    refine wpAnyH_take (i := 9) (oi := ⟨some 36, _, _, _, _, _⟩) (v := ?_) rfl (by kernel_rfl) (by kernel_rfl) (by kernel_rfl) (fun _ _ _ h => h) (Or.inl ⟨by rfl, ?_⟩) (by assumption) ?_
    rotate_left 1
    · intro w hSw
      (try dsimp only at hSw)
      go_simp
      try with_reducible rfl
    try simp only [Act.put, List.setIfInBounds_toArray, List.set_cons_zero, List.set_cons_succ]
    refine wpAnyH_ready (rs := [11]) (by kernel_rfl) (by simp) ?_
    refine AllReadyH.cons (o := ⟨none, _, _, _, _, _⟩) rfl (fun K hK => ?_) AllReadyH.nil
    obtain ⟨_, r0, r1, r2, f0, f1, f2, gl⟩ := boxC_kept (Below.refl _ _) FA_8.out
    go_simp
    have R4BS := Lib.hid (show Below R4w0.heap.size R4w0 (((R4w8.setCell ⟨R4w00.heap.size, 0, none⟩ (.slice A14 2 c14)).setCell ⟨R4w00.heap.size, 1, none⟩ (.slice none 0 0)).setCell ⟨R4w00.heap.size, 2, none⟩ (.slice (some ⟨R4w7.heap.size, 0, none⟩) 2 2)) from below_set3c R4B8.out R4GA _ _ _)
    refine hK.out _ _ ?_ (fun hHeld => ?_)
    · exact ⟨((K9.out.next R4BS.out).it (g := g) (by simp)).1, ((K9.out.next R4BS.out).it (g := g) (by simp)).2⟩
    clear hK r0 r1 r2 f0 f1 f2 gl
    try simp only [Act.put, List.setIfInBounds_toArray, List.set_cons_zero, List.set_cons_succ]
    refine wpAnyH_done (by kernel_rfl) ?_ _
    have hok : CaOK R4w8 ⟨A14, c14, [(1, 2), (2, 1)], none, 0, [], some ⟨R4w7.heap.size, 0, none⟩, 2, [N, Q]⟩ := ⟨FH_8.out, Holds.nil _, FX_8.out⟩
    have hok2 := CaOK.off_box (W' := (((R4w8.setCell ⟨R4w00.heap.size, 0, none⟩ (.slice A14 2 c14)).setCell ⟨R4w00.heap.size, 1, none⟩ (.slice none 0 0)).setCell ⟨R4w00.heap.size, 2, none⟩ (.slice (some ⟨R4w7.heap.size, 0, none⟩) 2 2))) hok FA_8.out (by simp) (fun b hb => set3_other R4w8 _ b _ _ _ hb)
    have hblk : BlkC (((R4w8.setCell ⟨R4w00.heap.size, 0, none⟩ (.slice A14 2 c14)).setCell ⟨R4w00.heap.size, 1, none⟩ (.slice none 0 0)).setCell ⟨R4w00.heap.size, 2, none⟩ (.slice (some ⟨R4w7.heap.size, 0, none⟩) 2 2)) R4w00.heap.size ⟨A14, c14, [(1, 2), (2, 1)], none, 0, [], some ⟨R4w7.heap.size, 0, none⟩, 2, [N, Q]⟩ := boxC_filled FA_8.out _ _ _
    have KF := Lib.hid ((K9.out.next R4BS.out).add hblk hok2)
    have HX := Lib.hid (show CaV.ca ⟨A14, c14, [(1, 2), (2, 1)], none, 0, [], some ⟨R4w7.heap.size, 0, none⟩, 2, [N, Q]⟩ = cZ from by show (([(1, 2), (2, 1)], []), its [N, Q]) = _; simp [HN.out, HQ.out])
    clear hok hok2 hblk hHeld
    go_wp2_with fail
    go_meet
    exact ⟨_, _, rfl, HX, KF⟩

end Go.Proofs.YtfmhhmceoikgpaaGreat
