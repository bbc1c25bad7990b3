/- The chapter's examples of carts: region 3 (written by split_known10.py). -/
import Derived.Test.YtfmhhmceoikgpaaGreatNL
namespace Go.Proofs.YtfmhhmceoikgpaaGreat
open Go.RowKit

set_option maxRecDepth 100000 in
set_option maxHeartbeats 8000000 in
theorem known_r3 {w : World} {N : ItV} {T : ItV} {g : Nat} {u7 u8 u9 u10 u11 u12 u13 u14 u15 u16 u17 u18 u19 u20 u21 u22 u23 u24 u25 u26 u27 u28 u29 u30 u31 u32 u33 u34 u35 u36 u37 u38 u39 u40 u41 u42 u43 u44 u45 u46 u47 u48 u49 u50 u51 u52 u53 u54 u55 u56 u57 u58 u59 u60 u61 u62 u63 u64 u65 u66 u67 u68 u69 u70 u71 u72 u73 u74 u75 u76 u77 u78 u79 u80 u81 u82 u83 u84 u85 u86 u87 u88 u89 u90 u91 u92 u93 u94 u95 u96 u97 u98 u99 u100 u101 u102 u103 u104 u105 u106 u107 u108 u109 u110 u111 u112 u113 u114 u115 u116 u117 u118 u119 u120 u121 u122 u123 u124 u125 u126 u127 u128 u129 u130 u131 u132 u133 u134 u135 u136 : Value} {gx : Nat} {X : CaV} {w8 : World} {ps44 : String} {J K' _ _ : Act → World → Prop} (HN : Hid (ItV.it N = (nNut, [{ r := 2, c := 1, q := 7, t := 4 }]))) (_ : Hid (CaV.ca X = cX)) (K8 : Hid (KWk w [(g, N), (g + 1, T)] [(gx, X)] w8))
    (hj : ∀ (a' : Act) (w' : World),
    (∃ u4 u7 u8 u9 u10 u11 u12 u13 u14 u15 u16 u17 u18 u19 u20 u21 u22 u23 u24 u25 u26 u27 u28 u29 u30 u31 u32 u33 u34
        u35 u36 u37 u38 u39 u40 u41 u42 u43 u44 u45 u46 u47 u48 u49 u50 u51 u52 u53 u54 u55 u56 u57 u58 u59 u60 u61 u62
        u63 u64 u65 u66 u67 u68 u69 u70 u71 u72 u73 u74 u75 u76 u77 u78 u79 u80 u81 u82 u83 u84 u85 u86 u87 u88 u89 u90
        u91 u92 u93 u94 u95 u96 u97 u98 u99 u100 u101 u102 u103 u104 u105 u106 u107 u108 u109 u110 u111 u112 u113 u114
        u115 u116 u117 u118 u119 u120 u121 u122 u123 u124 u125 u126 u127 u128 u129 u130 u131 u132 u133 u134 u135 u136,
        (∃ g' X',
            u4 = Value.pointer (some { block := g', off := 0 }) ∧
              Hid (CaV.ca X' = cY) ∧ Hid (KWk w [(g, N), (g + 1, T)] ([(gx, X)] ++ [(g', X')]) w')) ∧
          a' =
            {
              tmps :=
                #[Value.bool false, Value.pointer (some { block := g, off := 0 }),
                  Value.pointer (some { block := g + 1, off := 0 }), Value.pointer (some { block := gx, off := 0 }), u4,
                  undef, undef, u7, u8, u9, u10, u11, u12, u13, u14, u15, u16, u17, u18, u19, u20, u21, u22, u23, u24,
                  u25, u26, u27, u28, u29, u30, u31, u32, u33, u34, u35, u36, u37, u38, u39, u40, u41, u42, u43, u44,
                  u45, u46, u47, u48, u49, u50, u51, u52, u53, u54, u55, u56, u57, u58, u59, u60, u61, u62, u63, u64,
                  u65, u66, u67, u68, u69, u70, u71, u72, u73, u74, u75, u76, u77, u78, u79, u80, u81, u82, u83, u84,
                  u85, u86, u87, u88, u89, u90, u91, u92, u93, u94, u95, u96, u97, u98, u99, u100, u101, u102, u103,
                  u104, u105, u106, u107, u108, u109, u110, u111, u112, u113, u114, u115, u116, u117, u118, u119, u120,
                  u121, u122, u123, u124, u125, u126, u127, u128, u129, u130, u131, u132, u133, u134, u135, u136],
              defers := [] }) →
      J a' w')
    (hm : ∀ (a' : Act) (w' : World), Met J a' w' → K' a' w') :
    Code.wp Tryz.prog
    (Code.region 3
      #[{ dst := some 20,
          op :=
            Op.call
              { callee := Callee.value (Operand.func 35),
                args :=
                  #[Operand.const (Value.int IntKind.i64 1), Operand.const (Value.int IntKind.i64 2),
                    Operand.const (Value.int IntKind.i64 2), Operand.const (Value.int IntKind.u64 9)],
                argTypes := #[3, 3, 3, 46] },
          type := 65, pos := ps44, after := #[], guard := none },
        { dst := some 21,
          op :=
            Op.call
              { callee := Callee.value (Operand.func 35),
                args :=
                  #[Operand.const (Value.int IntKind.i64 1), Operand.const (Value.int IntKind.i64 1),
                    Operand.const (Value.int IntKind.i64 5), Operand.const (Value.int IntKind.u64 3)],
                argTypes := #[3, 3, 3, 46] },
          type := 65, pos := ps44, after := #[{ on := 0, ground := Ground.chain }], guard := none },
        { dst := some 22, op := Op.buildSlice 54 2 #[(0, Operand.tmp 20), (1, Operand.tmp 21)], type := 54,
          pos := ps44, after := #[{ on := 0, ground := Ground.data }, { on := 1, ground := Ground.data }],
          guard := none },
        { dst := some 23,
          op :=
            Op.call
              { callee := Callee.value (Operand.func 34),
                args := #[Operand.const (Value.string { data := #[84, 101, 97] }), Operand.tmp 22],
                argTypes := #[9, 54] },
          type := 56, pos := ps44,
          after := #[{ on := 2, ground := Ground.data }, { on := 1, ground := Ground.chain }], guard := none },
        { dst := some 24, op := Op.load 56 (Operand.tmp 1), type := 56, pos := ps44, after := #[],
          guard := none },
        { dst := some 25, op := Op.buildSlice 26 2 #[(0, Operand.tmp 23), (1, Operand.tmp 24)], type := 26,
          pos := ps44, after := #[{ on := 3, ground := Ground.data }, { on := 4, ground := Ground.data }],
          guard := none },
        { dst := some 26, op := Op.build 28 #[(1, Operand.tmp 25)], type := 28, pos := ps44,
          after := #[{ on := 5, ground := Ground.data }], guard := none },
        { dst := some 4, op := Op.alloc 28, type := 0, pos := ps44, after := #[], guard := none },
        { dst := none, op := Op.store 28 (Operand.tmp 4) (Operand.tmp 26), type := 0, pos := ps44,
          after :=
            #[{ on := 7, ground := Ground.data }, { on := 6, ground := Ground.data },
              { on := 3, ground := Ground.chain }, { on := 0, ground := Ground.phase },
              { on := 1, ground := Ground.phase }, { on := 2, ground := Ground.phase },
              { on := 3, ground := Ground.phase }, { on := 4, ground := Ground.phase },
              { on := 5, ground := Ground.phase }, { on := 6, ground := Ground.phase },
              { on := 7, ground := Ground.phase }],
          guard := none }]
      true)
    (Exit.then K' (bodyPost Tryz.prog Tryz.f9 (TrueB w)))
    {
      tmps :=
        #[Value.bool false, Value.pointer (some { block := g, off := 0 }),
          Value.pointer (some { block := g + 1, off := 0 }), Value.pointer (some { block := gx, off := 0 }), undef,
          undef, undef, u7, u8, u9, u10, u11, u12, u13, u14, u15, u16, u17, u18, u19, u20, u21, u22, u23, u24, u25, u26,
          u27, u28, u29, u30, u31, u32, u33, u34, u35, u36, u37, u38, u39, u40, u41, u42, u43, u44, u45, u46, u47, u48,
          u49, u50, u51, u52, u53, u54, u55, u56, u57, u58, u59, u60, u61, u62, u63, u64, u65, u66, u67, u68, u69, u70,
          u71, u72, u73, u74, u75, u76, u77, u78, u79, u80, u81, u82, u83, u84, u85, u86, u87, u88, u89, u90, u91, u92,
          u93, u94, u95, u96, u97, u98, u99, u100, u101, u102, u103, u104, u105, u106, u107, u108, u109, u110, u111,
          u112, u113, u114, u115, u116, u117, u118, u119, u120, u121, u122, u123, u124, u125, u126, u127, u128, u129,
          u130, u131, u132, u133, u134, u135, u136],
      defers := [] }
    w8 := by
  refine wp_region_held_drew (S := (fun W => W.cell? ⟨g, 0, none⟩ = some (.string ⟨N.nm.toArray⟩) ∧ W.cell? ⟨g, 1, none⟩ = some (.slice N.A N.ms.length N.c))) (by kernel_rfl) ?_ (fun hHeld => ?_)
  · have KS := K8.out.next (Below.refl _ _).drew
    exact ⟨(KS.it (g := g) (by simp)).1, (KS.it (g := g) (by simp)).2⟩
  have R3B0 := Lib.hid (show Below w8.heap.size w8 w8.drew from (Below.refl _ _).drew)
  obtain ⟨R3w0, hw0⟩ : ∃ W, w8 = W := ⟨_, rfl⟩
  rw [hw0] at K8 R3B0 hHeld ⊢
  clear hw0
  generalize hwd : World.drew R3w0 = R3w00 at R3B0 hHeld ⊢
  clear hwd
  refine wpAnyH_take (i := 4) (oi := ⟨some 24, _, _, _, _, _⟩) (v := ?_) rfl (by kernel_rfl) (by kernel_rfl) (by kernel_rfl) (fun _ _ _ h => h) (Or.inl ⟨by rfl, ?_⟩) (by assumption) ?_
  rotate_left 1
  · intro w hSw
    (try dsimp only at hSw)
    go_simp
    try with_reducible rfl
  try simp only [Act.put, List.setIfInBounds_toArray, List.set_cons_zero, List.set_cons_succ]
  refine wpAnyH_ready (rs := [0, 7]) (by kernel_rfl) (by simp) ?_
  refine AllReadyH.cons (o := ⟨some 20, _, _, _, _, _⟩) rfl (fun K hK => ?_) (AllReadyH.cons (o := ⟨some 4, _, _, _, _, _⟩) rfl (fun K hK => ?_) AllReadyH.nil)
  · go_simp
    refine (mark10_l 1 2 2 9 R3w00 (by decide)).mono ?_
    rintro e R3w1 ⟨rfl, hb⟩
    have R3B1 := Lib.hid (Below.trans R3B0.out (hb.mono R3B0.out.size))
    first
      | refine hK.out _ _ ?_ (fun hHeld => ?_)
      | (go_wp2_with fail
         refine hK.out _ _ ?_ (fun hHeld => ?_))
    · exact ⟨((K8.out.next R3B1.out).it (g := g) (by simp)).1, ((K8.out.next R3B1.out).it (g := g) (by simp)).2⟩
    clear hK hb R3B0
    try simp only [Act.put, List.setIfInBounds_toArray, List.set_cons_zero, List.set_cons_succ]
    refine wpAnyH_ready (rs := [1, 7]) (by kernel_rfl) (by simp) ?_
    refine AllReadyH.cons (o := ⟨some 21, _, _, _, _, _⟩) rfl (fun K hK => ?_) (AllReadyH.cons (o := ⟨some 4, _, _, _, _, _⟩) rfl (fun K hK => ?_) AllReadyH.nil)
    · go_simp
      refine (mark10_l 1 1 5 3 R3w1 (by decide)).mono ?_
      rintro e R3w2 ⟨rfl, hb⟩
      have R3B2 := Lib.hid (Below.trans R3B1.out (hb.mono R3B1.out.size))
      first
        | refine hK.out _ _ ?_ (fun hHeld => ?_)
        | (go_wp2_with fail
           refine hK.out _ _ ?_ (fun hHeld => ?_))
      · exact ⟨((K8.out.next R3B2.out).it (g := g) (by simp)).1, ((K8.out.next R3B2.out).it (g := g) (by simp)).2⟩
      clear hK hb R3B1
      try simp only [Act.put, List.setIfInBounds_toArray, List.set_cons_zero, List.set_cons_succ]
      refine wpAnyH_ready (rs := [2, 7]) (by kernel_rfl) (by simp) ?_
      refine AllReadyH.cons (o := ⟨some 22, _, _, _, _, _⟩) rfl (fun K hK => ?_) (AllReadyH.cons (o := ⟨some 4, _, _, _, _, _⟩) rfl (fun K hK => ?_) AllReadyH.nil)
      · go_simp
        have hal := (Below.refl R3w2.heap.size R3w2).alloc (Nat.le_refl _) (.cells #[.int .i64 1, .int .i64 2, .int .i64 2, .int .u64 9, .int .i64 1, .int .i64 1, .int .i64 5, .int .u64 3] 65)
        have R3B3 := Lib.hid (Below.trans R3B2.out (hal.mono R3B2.out.size))
        have FM_3 := Lib.hid (mlit2 R3w2 R3w2.heap.size 1 2 2 9 1 1 5 3 9 3 rfl rfl rfl)
        refine hK.out _ _ ?_ (fun hHeld => ?_)
        · exact ⟨((K8.out.next R3B3.out).it (g := g) (by simp)).1, ((K8.out.next R3B3.out).it (g := g) (by simp)).2⟩
        clear hK hal R3B2
        try simp only [Act.put, List.setIfInBounds_toArray, List.set_cons_zero, List.set_cons_succ]
        generalize World.alloc R3w2 _ = R3w3 at R3B3 FM_3 hHeld ⊢
        refine wpAnyH_ready (rs := [3, 7]) (by kernel_rfl) (by simp) ?_
        refine AllReadyH.cons (o := ⟨some 23, _, _, _, _, _⟩) rfl (fun K hK => ?_) (AllReadyH.cons (o := ⟨some 4, _, _, _, _, _⟩) rfl (fun K hK => ?_) AllReadyH.nil)
        · go_simp
          refine (item10_l ⟨#[84, 101, 97]⟩ nTea (some ⟨R3w2.heap.size, 0, none⟩) 2 [⟨1, 2, 2, 9⟩, ⟨1, 1, 5, 3⟩] R3w3 FM_3.out rfl rfl (by decide)).mono ?_
          rintro e R3w4 ⟨Q, rfl, hQ, oQ, hb⟩
          have R3B4 := Lib.hid (Below.trans R3B3.out (hb.mono R3B3.out.size))
          have FM_4 := Lib.hid (SlAt.below FM_3.out hb)
          have FQ_4 := Lib.hid (oQ)
          have HQ := Lib.hid hQ
          clear hQ oQ
          first
            | refine hK.out _ _ ?_ (fun hHeld => ?_)
            | (go_wp2_with fail
               refine hK.out _ _ ?_ (fun hHeld => ?_))
          · exact ⟨((K8.out.next R3B4.out).it (g := g) (by simp)).1, ((K8.out.next R3B4.out).it (g := g) (by simp)).2⟩
          clear hK hb FM_3 R3B3
          try simp only [Act.put, List.setIfInBounds_toArray, List.set_cons_zero, List.set_cons_succ]
          refine wpAnyH_ready (rs := [5, 7]) (by kernel_rfl) (by simp) ?_
          refine AllReadyH.cons (o := ⟨some 25, _, _, _, _, _⟩) rfl (fun K hK => ?_) (AllReadyH.cons (o := ⟨some 4, _, _, _, _, _⟩) rfl (fun K hK => ?_) AllReadyH.nil)
          · go_simp
            have hal := (Below.refl R3w4.heap.size R3w4).alloc (Nat.le_refl _) (.cells #[.string ⟨Q.nm.toArray⟩, .slice Q.A Q.ms.length Q.c, .string ⟨N.nm.toArray⟩, .slice N.A N.ms.length N.c] 56)
            have R3B5 := Lib.hid (Below.trans R3B4.out (hal.mono R3B4.out.size))
            have FM_5 := Lib.hid (SlAt.below FM_4.out hal)
            have FQ_5 := Lib.hid (FQ_4.out.below hal)
            have FX_5 := Lib.hid (holdsB R3w4 R3w4.heap.size Q N rfl FQ_4.out ((K8.out.next R3B4.out).kz.ok (g := g) (by simp)))
            refine hK.out _ _ ?_ (fun hHeld => ?_)
            · exact ⟨((K8.out.next R3B5.out).it (g := g) (by simp)).1, ((K8.out.next R3B5.out).it (g := g) (by simp)).2⟩
            clear hK hal FM_4 FQ_4 R3B4
            try simp only [Act.put, List.setIfInBounds_toArray, List.set_cons_zero, List.set_cons_succ]
            generalize World.alloc R3w4 _ = R3w5 at R3B5 FM_5 FQ_5 FX_5 hHeld ⊢
            refine wpAnyH_take (i := 6) (oi := ⟨some 26, _, _, _, _, _⟩) (v := ?_) rfl (by kernel_rfl) (by kernel_rfl) (by kernel_rfl) (fun _ _ _ h => h) (Or.inl ⟨by rfl, ?_⟩) (by assumption) ?_
            rotate_left 1
            · intro w hSw
              (try dsimp only at hSw)
              go_simp
              try with_reducible rfl
            try simp only [Act.put, List.setIfInBounds_toArray, List.set_cons_zero, List.set_cons_succ]
            refine wpAnyH_ready (rs := [7]) (by kernel_rfl) (by simp) ?_
            refine AllReadyH.cons (o := ⟨some 4, _, _, _, _, _⟩) rfl (fun K hK => ?_) AllReadyH.nil
            go_simp
            have hal := (Below.refl R3w5.heap.size R3w5).alloc (Nat.le_refl _) (.cells #[.slice none 0 0, .slice none 0 0, .slice none 0 0] 28)
            have R3B6 := Lib.hid (Below.trans R3B5.out (hal.mono R3B5.out.size))
            have R3GA := R3B5.out.size
            have FM_6 := Lib.hid (SlAt.below FM_5.out hal)
            have FQ_6 := Lib.hid (FQ_5.out.below hal)
            have FX_6 := Lib.hid (FX_5.out.below hal)
            have FA_6 := Lib.hid (heap_alloc_new R3w5 (.cells #[.slice none 0 0, .slice none 0 0, .slice none 0 0] 28))
            refine hK.out _ _ ?_ (fun hHeld => ?_)
            · exact ⟨((K8.out.next R3B6.out).it (g := g) (by simp)).1, ((K8.out.next R3B6.out).it (g := g) (by simp)).2⟩
            clear hK hal FM_5 FQ_5 FX_5 R3B5
            try simp only [Act.put, List.setIfInBounds_toArray, List.set_cons_zero, List.set_cons_succ]
            generalize World.alloc R3w5 _ = R3w6 at R3B6 FM_6 FQ_6 FX_6 FA_6 hHeld ⊢
            refine wpAnyH_ready (rs := [8]) (by kernel_rfl) (by simp) ?_
            refine AllReadyH.cons (o := ⟨none, _, _, _, _, _⟩) rfl (fun K hK => ?_) AllReadyH.nil
            obtain ⟨_, r0, r1, r2, f0, f1, f2, gl⟩ := boxC_kept (Below.refl _ _) FA_6.out
            go_simp
            have R3BS := Lib.hid (show Below R3w0.heap.size R3w0 (((R3w6.setCell ⟨R3w5.heap.size, 0, none⟩ (.slice none 0 0)).setCell ⟨R3w5.heap.size, 1, none⟩ (.slice none 0 0)).setCell ⟨R3w5.heap.size, 2, none⟩ (.slice (some ⟨R3w4.heap.size, 0, none⟩) 2 2)) from below_set3c R3B6.out R3GA _ _ _)
            refine hK.out _ _ ?_ (fun hHeld => ?_)
            · exact ⟨((K8.out.next R3BS.out).it (g := g) (by simp)).1, ((K8.out.next R3BS.out).it (g := g) (by simp)).2⟩
            clear hK r0 r1 r2 f0 f1 f2 gl
            try simp only [Act.put, List.setIfInBounds_toArray, List.set_cons_zero, List.set_cons_succ]
            refine wpAnyH_done (by kernel_rfl) ?_ _
            have hok : CaOK R3w6 ⟨none, 0, [], none, 0, [], some ⟨R3w4.heap.size, 0, none⟩, 2, [Q, N]⟩ := ⟨Holds.nil _, Holds.nil _, FX_6.out⟩
            have hok2 := CaOK.off_box (W' := (((R3w6.setCell ⟨R3w5.heap.size, 0, none⟩ (.slice none 0 0)).setCell ⟨R3w5.heap.size, 1, none⟩ (.slice none 0 0)).setCell ⟨R3w5.heap.size, 2, none⟩ (.slice (some ⟨R3w4.heap.size, 0, none⟩) 2 2))) hok FA_6.out (by simp) (fun b hb => set3_other R3w6 _ b _ _ _ hb)
            have hblk : BlkC (((R3w6.setCell ⟨R3w5.heap.size, 0, none⟩ (.slice none 0 0)).setCell ⟨R3w5.heap.size, 1, none⟩ (.slice none 0 0)).setCell ⟨R3w5.heap.size, 2, none⟩ (.slice (some ⟨R3w4.heap.size, 0, none⟩) 2 2)) R3w5.heap.size ⟨none, 0, [], none, 0, [], some ⟨R3w4.heap.size, 0, none⟩, 2, [Q, N]⟩ := boxC_filled FA_6.out _ _ _
            have KF := Lib.hid ((K8.out.next R3BS.out).add hblk hok2)
            have HX := Lib.hid (show CaV.ca ⟨none, 0, [], none, 0, [], some ⟨R3w4.heap.size, 0, none⟩, 2, [Q, N]⟩ = cY from by show (([], []), its [Q, N]) = _; simp [HQ.out, HN.out])
            clear hok hok2 hblk hHeld
            go_wp2_with fail
            go_meet
            exact ⟨_, _, rfl, HX, KF⟩
          · go_simp
            have hal := (Below.refl R3w4.heap.size R3w4).alloc (Nat.le_refl _) (.cells #[.slice none 0 0, .slice none 0 0, .slice none 0 0] 28)
            have R3B5 := Lib.hid (Below.trans R3B4.out (hal.mono R3B4.out.size))
            have R3GA := R3B4.out.size
            have FM_5 := Lib.hid (SlAt.below FM_4.out hal)
            have FQ_5 := Lib.hid (FQ_4.out.below hal)
            have FA_5 := Lib.hid (heap_alloc_new R3w4 (.cells #[.slice none 0 0, .slice none 0 0, .slice none 0 0] 28))
            refine hK.out _ _ ?_ (fun hHeld => ?_)
            · exact ⟨((K8.out.next R3B5.out).it (g := g) (by simp)).1, ((K8.out.next R3B5.out).it (g := g) (by simp)).2⟩
            clear hK hal FM_4 FQ_4 R3B4
            try simp only [Act.put, List.setIfInBounds_toArray, List.set_cons_zero, List.set_cons_succ]
            generalize World.alloc R3w4 _ = R3w5 at R3B5 FM_5 FQ_5 FA_5 hHeld ⊢
            refine wpAnyH_ready (rs := [5]) (by kernel_rfl) (by simp) ?_
            refine AllReadyH.cons (o := ⟨some 25, _, _, _, _, _⟩) rfl (fun K hK => ?_) AllReadyH.nil
            go_simp
            have hal := (Below.refl R3w5.heap.size R3w5).alloc (Nat.le_refl _) (.cells #[.string ⟨Q.nm.toArray⟩, .slice Q.A Q.ms.length Q.c, .string ⟨N.nm.toArray⟩, .slice N.A N.ms.length N.c] 56)
            have R3B6 := Lib.hid (Below.trans R3B5.out (hal.mono R3B5.out.size))
            have FM_6 := Lib.hid (SlAt.below FM_5.out hal)
            have FQ_6 := Lib.hid (FQ_5.out.below hal)
            have FA_6 := Lib.hid ((hal.block _ (Array.getElem?_eq_some_iff.1 FA_5.out).1).trans FA_5.out)
            have FX_6 := Lib.hid (holdsB R3w5 R3w5.heap.size Q N rfl FQ_5.out ((K8.out.next R3B5.out).kz.ok (g := g) (by simp)))
            refine hK.out _ _ ?_ (fun hHeld => ?_)
            · exact ⟨((K8.out.next R3B6.out).it (g := g) (by simp)).1, ((K8.out.next R3B6.out).it (g := g) (by simp)).2⟩
            clear hK hal FM_5 FQ_5 FA_5 R3B5
            try simp only [Act.put, List.setIfInBounds_toArray, List.set_cons_zero, List.set_cons_succ]
            generalize World.alloc R3w5 _ = R3w6 at R3B6 FM_6 FQ_6 FA_6 FX_6 hHeld ⊢
            refine wpAnyH_take (i := 6) (oi := ⟨some 26, _, _, _, _, _⟩) (v := ?_) rfl (by kernel_rfl) (by kernel_rfl) (by kernel_rfl) (fun _ _ _ h => h) (Or.inl ⟨by rfl, ?_⟩) (by assumption) ?_
            rotate_left 1
            · intro w hSw
              (try dsimp only at hSw)
              go_simp
              try with_reducible rfl
            try simp only [Act.put, List.setIfInBounds_toArray, List.set_cons_zero, List.set_cons_succ]
            refine wpAnyH_ready (rs := [8]) (by kernel_rfl) (by simp) ?_
            refine AllReadyH.cons (o := ⟨none, _, _, _, _, _⟩) rfl (fun K hK => ?_) AllReadyH.nil
            obtain ⟨_, r0, r1, r2, f0, f1, f2, gl⟩ := boxC_kept (Below.refl _ _) FA_6.out
            go_simp
            have R3BS := Lib.hid (show Below R3w0.heap.size R3w0 (((R3w6.setCell ⟨R3w4.heap.size, 0, none⟩ (.slice none 0 0)).setCell ⟨R3w4.heap.size, 1, none⟩ (.slice none 0 0)).setCell ⟨R3w4.heap.size, 2, none⟩ (.slice (some ⟨R3w5.heap.size, 0, none⟩) 2 2)) from below_set3c R3B6.out R3GA _ _ _)
            refine hK.out _ _ ?_ (fun hHeld => ?_)
            · exact ⟨((K8.out.next R3BS.out).it (g := g) (by simp)).1, ((K8.out.next R3BS.out).it (g := g) (by simp)).2⟩
            clear hK r0 r1 r2 f0 f1 f2 gl
            try simp only [Act.put, List.setIfInBounds_toArray, List.set_cons_zero, List.set_cons_succ]
            refine wpAnyH_done (by kernel_rfl) ?_ _
            have hok : CaOK R3w6 ⟨none, 0, [], none, 0, [], some ⟨R3w5.heap.size, 0, none⟩, 2, [Q, N]⟩ := ⟨Holds.nil _, Holds.nil _, FX_6.out⟩
            have hok2 := CaOK.off_box (W' := (((R3w6.setCell ⟨R3w4.heap.size, 0, none⟩ (.slice none 0 0)).setCell ⟨R3w4.heap.size, 1, none⟩ (.slice none 0 0)).setCell ⟨R3w4.heap.size, 2, none⟩ (.slice (some ⟨R3w5.heap.size, 0, none⟩) 2 2))) hok FA_6.out (by simp) (fun b hb => set3_other R3w6 _ b _ _ _ hb)
            have hblk : BlkC (((R3w6.setCell ⟨R3w4.heap.size, 0, none⟩ (.slice none 0 0)).setCell ⟨R3w4.heap.size, 1, none⟩ (.slice none 0 0)).setCell ⟨R3w4.heap.size, 2, none⟩ (.slice (some ⟨R3w5.heap.size, 0, none⟩) 2 2)) R3w4.heap.size ⟨none, 0, [], none, 0, [], some ⟨R3w5.heap.size, 0, none⟩, 2, [Q, N]⟩ := boxC_filled FA_6.out _ _ _
            have KF := Lib.hid ((K8.out.next R3BS.out).add hblk hok2)
            have HX := Lib.hid (show CaV.ca ⟨none, 0, [], none, 0, [], some ⟨R3w5.heap.size, 0, none⟩, 2, [Q, N]⟩ = cY from by show (([], []), its [Q, N]) = _; simp [HQ.out, HN.out])
            clear hok hok2 hblk hHeld
            go_wp2_with fail
            go_meet
            exact ⟨_, _, rfl, HX, KF⟩
        · go_simp
          have hal := (Below.refl R3w3.heap.size R3w3).alloc (Nat.le_refl _) (.cells #[.slice none 0 0, .slice none 0 0, .slice none 0 0] 28)
          have R3B4 := Lib.hid (Below.trans R3B3.out (hal.mono R3B3.out.size))
          have R3GA := R3B3.out.size
          have FM_4 := Lib.hid (SlAt.below FM_3.out hal)
          have FA_4 := Lib.hid (heap_alloc_new R3w3 (.cells #[.slice none 0 0, .slice none 0 0, .slice none 0 0] 28))
          refine hK.out _ _ ?_ (fun hHeld => ?_)
          · exact ⟨((K8.out.next R3B4.out).it (g := g) (by simp)).1, ((K8.out.next R3B4.out).it (g := g) (by simp)).2⟩
          clear hK hal FM_3 R3B3
          try simp only [Act.put, List.setIfInBounds_toArray, List.set_cons_zero, List.set_cons_succ]
          generalize World.alloc R3w3 _ = R3w4 at R3B4 FM_4 FA_4 hHeld ⊢
          refine wpAnyH_ready (rs := [3]) (by kernel_rfl) (by simp) ?_
          refine AllReadyH.cons (o := ⟨some 23, _, _, _, _, _⟩) rfl (fun K hK => ?_) AllReadyH.nil
          go_simp
          refine (item10_l ⟨#[84, 101, 97]⟩ nTea (some ⟨R3w2.heap.size, 0, none⟩) 2 [⟨1, 2, 2, 9⟩, ⟨1, 1, 5, 3⟩] R3w4 FM_4.out rfl rfl (by decide)).mono ?_
          rintro e R3w5 ⟨Q, rfl, hQ, oQ, hb⟩
          have R3B5 := Lib.hid (Below.trans R3B4.out (hb.mono R3B4.out.size))
          have FM_5 := Lib.hid (SlAt.below FM_4.out hb)
          have FA_5 := Lib.hid ((hb.block _ (Array.getElem?_eq_some_iff.1 FA_4.out).1).trans FA_4.out)
          have FQ_5 := Lib.hid (oQ)
          have HQ := Lib.hid hQ
          clear hQ oQ
          first
            | refine hK.out _ _ ?_ (fun hHeld => ?_)
            | (go_wp2_with fail
               refine hK.out _ _ ?_ (fun hHeld => ?_))
          · exact ⟨((K8.out.next R3B5.out).it (g := g) (by simp)).1, ((K8.out.next R3B5.out).it (g := g) (by simp)).2⟩
          clear hK hb FM_4 FA_4 R3B4
          try simp only [Act.put, List.setIfInBounds_toArray, List.set_cons_zero, List.set_cons_succ]
          refine wpAnyH_ready (rs := [5]) (by kernel_rfl) (by simp) ?_
          refine AllReadyH.cons (o := ⟨some 25, _, _, _, _, _⟩) rfl (fun K hK => ?_) AllReadyH.nil
          go_simp
          have hal := (Below.refl R3w5.heap.size R3w5).alloc (Nat.le_refl _) (.cells #[.string ⟨Q.nm.toArray⟩, .slice Q.A Q.ms.length Q.c, .string ⟨N.nm.toArray⟩, .slice N.A N.ms.length N.c] 56)
          have R3B6 := Lib.hid (Below.trans R3B5.out (hal.mono R3B5.out.size))
          have FM_6 := Lib.hid (SlAt.below FM_5.out hal)
          have FA_6 := Lib.hid ((hal.block _ (Array.getElem?_eq_some_iff.1 FA_5.out).1).trans FA_5.out)
          have FQ_6 := Lib.hid (FQ_5.out.below hal)
          have FX_6 := Lib.hid (holdsB R3w5 R3w5.heap.size Q N rfl FQ_5.out ((K8.out.next R3B5.out).kz.ok (g := g) (by simp)))
          refine hK.out _ _ ?_ (fun hHeld => ?_)
          · exact ⟨((K8.out.next R3B6.out).it (g := g) (by simp)).1, ((K8.out.next R3B6.out).it (g := g) (by simp)).2⟩
          clear hK hal FM_5 FA_5 FQ_5 R3B5
          try simp only [Act.put, List.setIfInBounds_toArray, List.set_cons_zero, List.set_cons_succ]
          generalize World.alloc R3w5 _ = R3w6 at R3B6 FM_6 FA_6 FQ_6 FX_6 hHeld ⊢
          refine wpAnyH_take (i := 6) (oi := ⟨some 26, _, _, _, _, _⟩) (v := ?_) rfl (by kernel_rfl) (by kernel_rfl) (by kernel_rfl) (fun _ _ _ h => h) (Or.inl ⟨by rfl, ?_⟩) (by assumption) ?_
          rotate_left 1
          · intro w hSw
            (try dsimp only at hSw)
            go_simp
            try with_reducible rfl
          try simp only [Act.put, List.setIfInBounds_toArray, List.set_cons_zero, List.set_cons_succ]
          refine wpAnyH_ready (rs := [8]) (by kernel_rfl) (by simp) ?_
          refine AllReadyH.cons (o := ⟨none, _, _, _, _, _⟩) rfl (fun K hK => ?_) AllReadyH.nil
          obtain ⟨_, r0, r1, r2, f0, f1, f2, gl⟩ := boxC_kept (Below.refl _ _) FA_6.out
          go_simp
          have R3BS := Lib.hid (show Below R3w0.heap.size R3w0 (((R3w6.setCell ⟨R3w3.heap.size, 0, none⟩ (.slice none 0 0)).setCell ⟨R3w3.heap.size, 1, none⟩ (.slice none 0 0)).setCell ⟨R3w3.heap.size, 2, none⟩ (.slice (some ⟨R3w5.heap.size, 0, none⟩) 2 2)) from below_set3c R3B6.out R3GA _ _ _)
          refine hK.out _ _ ?_ (fun hHeld => ?_)
          · exact ⟨((K8.out.next R3BS.out).it (g := g) (by simp)).1, ((K8.out.next R3BS.out).it (g := g) (by simp)).2⟩
          clear hK r0 r1 r2 f0 f1 f2 gl
          try simp only [Act.put, List.setIfInBounds_toArray, List.set_cons_zero, List.set_cons_succ]
          refine wpAnyH_done (by kernel_rfl) ?_ _
          have hok : CaOK R3w6 ⟨none, 0, [], none, 0, [], some ⟨R3w5.heap.size, 0, none⟩, 2, [Q, N]⟩ := ⟨Holds.nil _, Holds.nil _, FX_6.out⟩
          have hok2 := CaOK.off_box (W' := (((R3w6.setCell ⟨R3w3.heap.size, 0, none⟩ (.slice none 0 0)).setCell ⟨R3w3.heap.size, 1, none⟩ (.slice none 0 0)).setCell ⟨R3w3.heap.size, 2, none⟩ (.slice (some ⟨R3w5.heap.size, 0, none⟩) 2 2))) hok FA_6.out (by simp) (fun b hb => set3_other R3w6 _ b _ _ _ hb)
          have hblk : BlkC (((R3w6.setCell ⟨R3w3.heap.size, 0, none⟩ (.slice none 0 0)).setCell ⟨R3w3.heap.size, 1, none⟩ (.slice none 0 0)).setCell ⟨R3w3.heap.size, 2, none⟩ (.slice (some ⟨R3w5.heap.size, 0, none⟩) 2 2)) R3w3.heap.size ⟨none, 0, [], none, 0, [], some ⟨R3w5.heap.size, 0, none⟩, 2, [Q, N]⟩ := boxC_filled FA_6.out _ _ _
          have KF := Lib.hid ((K8.out.next R3BS.out).add hblk hok2)
          have HX := Lib.hid (show CaV.ca ⟨none, 0, [], none, 0, [], some ⟨R3w5.heap.size, 0, none⟩, 2, [Q, N]⟩ = cY from by show (([], []), its [Q, N]) = _; simp [HQ.out, HN.out])
          clear hok hok2 hblk hHeld
          go_wp2_with fail
          go_meet
          exact ⟨_, _, rfl, HX, KF⟩
      · go_simp
        have hal := (Below.refl R3w2.heap.size R3w2).alloc (Nat.le_refl _) (.cells #[.slice none 0 0, .slice none 0 0, .slice none 0 0] 28)
        have R3B3 := Lib.hid (Below.trans R3B2.out (hal.mono R3B2.out.size))
        have R3GA := R3B2.out.size
        have FA_3 := Lib.hid (heap_alloc_new R3w2 (.cells #[.slice none 0 0, .slice none 0 0, .slice none 0 0] 28))
        refine hK.out _ _ ?_ (fun hHeld => ?_)
        · exact ⟨((K8.out.next R3B3.out).it (g := g) (by simp)).1, ((K8.out.next R3B3.out).it (g := g) (by simp)).2⟩
        clear hK hal R3B2
        try simp only [Act.put, List.setIfInBounds_toArray, List.set_cons_zero, List.set_cons_succ]
        generalize World.alloc R3w2 _ = R3w3 at R3B3 FA_3 hHeld ⊢
        refine wpAnyH_ready (rs := [2]) (by kernel_rfl) (by simp) ?_
        refine AllReadyH.cons (o := ⟨some 22, _, _, _, _, _⟩) rfl (fun K hK => ?_) AllReadyH.nil
        go_simp
        have hal := (Below.refl R3w3.heap.size R3w3).alloc (Nat.le_refl _) (.cells #[.int .i64 1, .int .i64 2, .int .i64 2, .int .u64 9, .int .i64 1, .int .i64 1, .int .i64 5, .int .u64 3] 65)
        have R3B4 := Lib.hid (Below.trans R3B3.out (hal.mono R3B3.out.size))
        have FA_4 := Lib.hid ((hal.block _ (Array.getElem?_eq_some_iff.1 FA_3.out).1).trans FA_3.out)
        have FM_4 := Lib.hid (mlit2 R3w3 R3w3.heap.size 1 2 2 9 1 1 5 3 9 3 rfl rfl rfl)
        refine hK.out _ _ ?_ (fun hHeld => ?_)
        · exact ⟨((K8.out.next R3B4.out).it (g := g) (by simp)).1, ((K8.out.next R3B4.out).it (g := g) (by simp)).2⟩
        clear hK hal FA_3 R3B3
        try simp only [Act.put, List.setIfInBounds_toArray, List.set_cons_zero, List.set_cons_succ]
        generalize World.alloc R3w3 _ = R3w4 at R3B4 FA_4 FM_4 hHeld ⊢
        refine wpAnyH_ready (rs := [3]) (by kernel_rfl) (by simp) ?_
        refine AllReadyH.cons (o := ⟨some 23, _, _, _, _, _⟩) rfl (fun K hK => ?_) AllReadyH.nil
        go_simp
        refine (item10_l ⟨#[84, 101, 97]⟩ nTea (some ⟨R3w3.heap.size, 0, none⟩) 2 [⟨1, 2, 2, 9⟩, ⟨1, 1, 5, 3⟩] R3w4 FM_4.out rfl rfl (by decide)).mono ?_
        rintro e R3w5 ⟨Q, rfl, hQ, oQ, hb⟩
        have R3B5 := Lib.hid (Below.trans R3B4.out (hb.mono R3B4.out.size))
        have FA_5 := Lib.hid ((hb.block _ (Array.getElem?_eq_some_iff.1 FA_4.out).1).trans FA_4.out)
        have FM_5 := Lib.hid (SlAt.below FM_4.out hb)
        have FQ_5 := Lib.hid (oQ)
        have HQ := Lib.hid hQ
        clear hQ oQ
        first
          | refine hK.out _ _ ?_ (fun hHeld => ?_)
          | (go_wp2_with fail
             refine hK.out _ _ ?_ (fun hHeld => ?_))
        · exact ⟨((K8.out.next R3B5.out).it (g := g) (by simp)).1, ((K8.out.next R3B5.out).it (g := g) (by simp)).2⟩
        clear hK hb FA_4 FM_4 R3B4
        try simp only [Act.put, List.setIfInBounds_toArray, List.set_cons_zero, List.set_cons_succ]
        refine wpAnyH_ready (rs := [5]) (by kernel_rfl) (by simp) ?_
        refine AllReadyH.cons (o := ⟨some 25, _, _, _, _, _⟩) rfl (fun K hK => ?_) AllReadyH.nil
        go_simp
        have hal := (Below.refl R3w5.heap.size R3w5).alloc (Nat.le_refl _) (.cells #[.string ⟨Q.nm.toArray⟩, .slice Q.A Q.ms.length Q.c, .string ⟨N.nm.toArray⟩, .slice N.A N.ms.length N.c] 56)
        have R3B6 := Lib.hid (Below.trans R3B5.out (hal.mono R3B5.out.size))
        have FA_6 := Lib.hid ((hal.block _ (Array.getElem?_eq_some_iff.1 FA_5.out).1).trans FA_5.out)
        have FM_6 := Lib.hid (SlAt.below FM_5.out hal)
        have FQ_6 := Lib.hid (FQ_5.out.below hal)
        have FX_6 := Lib.hid (holdsB R3w5 R3w5.heap.size Q N rfl FQ_5.out ((K8.out.next R3B5.out).kz.ok (g := g) (by simp)))
        refine hK.out _ _ ?_ (fun hHeld => ?_)
        · exact ⟨((K8.out.next R3B6.out).it (g := g) (by simp)).1, ((K8.out.next R3B6.out).it (g := g) (by simp)).2⟩
        clear hK hal FA_5 FM_5 FQ_5 R3B5
        try simp only [Act.put, List.setIfInBounds_toArray, List.set_cons_zero, List.set_cons_succ]
        generalize World.alloc R3w5 _ = R3w6 at R3B6 FA_6 FM_6 FQ_6 FX_6 hHeld ⊢
        refine wpAnyH_take (i := 6) (oi := ⟨some 26, _, _, _, _, _⟩) (v := ?_) rfl (by kernel_rfl) (by kernel_rfl) (by kernel_rfl) (fun _ _ _ h => h) (Or.inl ⟨by rfl, ?_⟩) (by assumption) ?_
        rotate_left 1
        · intro w hSw
          (try dsimp only at hSw)
          go_simp
          try with_reducible rfl
        try simp only [Act.put, List.setIfInBounds_toArray, List.set_cons_zero, List.set_cons_succ]
        refine wpAnyH_ready (rs := [8]) (by kernel_rfl) (by simp) ?_
        refine AllReadyH.cons (o := ⟨none, _, _, _, _, _⟩) rfl (fun K hK => ?_) AllReadyH.nil
        obtain ⟨_, r0, r1, r2, f0, f1, f2, gl⟩ := boxC_kept (Below.refl _ _) FA_6.out
        go_simp
        have R3BS := Lib.hid (show Below R3w0.heap.size R3w0 (((R3w6.setCell ⟨R3w2.heap.size, 0, none⟩ (.slice none 0 0)).setCell ⟨R3w2.heap.size, 1, none⟩ (.slice none 0 0)).setCell ⟨R3w2.heap.size, 2, none⟩ (.slice (some ⟨R3w5.heap.size, 0, none⟩) 2 2)) from below_set3c R3B6.out R3GA _ _ _)
        refine hK.out _ _ ?_ (fun hHeld => ?_)
        · exact ⟨((K8.out.next R3BS.out).it (g := g) (by simp)).1, ((K8.out.next R3BS.out).it (g := g) (by simp)).2⟩
        clear hK r0 r1 r2 f0 f1 f2 gl
        try simp only [Act.put, List.setIfInBounds_toArray, List.set_cons_zero, List.set_cons_succ]
        refine wpAnyH_done (by kernel_rfl) ?_ _
        have hok : CaOK R3w6 ⟨none, 0, [], none, 0, [], some ⟨R3w5.heap.size, 0, none⟩, 2, [Q, N]⟩ := ⟨Holds.nil _, Holds.nil _, FX_6.out⟩
        have hok2 := CaOK.off_box (W' := (((R3w6.setCell ⟨R3w2.heap.size, 0, none⟩ (.slice none 0 0)).setCell ⟨R3w2.heap.size, 1, none⟩ (.slice none 0 0)).setCell ⟨R3w2.heap.size, 2, none⟩ (.slice (some ⟨R3w5.heap.size, 0, none⟩) 2 2))) hok FA_6.out (by simp) (fun b hb => set3_other R3w6 _ b _ _ _ hb)
        have hblk : BlkC (((R3w6.setCell ⟨R3w2.heap.size, 0, none⟩ (.slice none 0 0)).setCell ⟨R3w2.heap.size, 1, none⟩ (.slice none 0 0)).setCell ⟨R3w2.heap.size, 2, none⟩ (.slice (some ⟨R3w5.heap.size, 0, none⟩) 2 2)) R3w2.heap.size ⟨none, 0, [], none, 0, [], some ⟨R3w5.heap.size, 0, none⟩, 2, [Q, N]⟩ := boxC_filled FA_6.out _ _ _
        have KF := Lib.hid ((K8.out.next R3BS.out).add hblk hok2)
        have HX := Lib.hid (show CaV.ca ⟨none, 0, [], none, 0, [], some ⟨R3w5.heap.size, 0, none⟩, 2, [Q, N]⟩ = cY from by show (([], []), its [Q, N]) = _; simp [HQ.out, HN.out])
        clear hok hok2 hblk hHeld
        go_wp2_with fail
        go_meet
        exact ⟨_, _, rfl, HX, KF⟩
    · go_simp
      have hal := (Below.refl R3w1.heap.size R3w1).alloc (Nat.le_refl _) (.cells #[.slice none 0 0, .slice none 0 0, .slice none 0 0] 28)
      have R3B2 := Lib.hid (Below.trans R3B1.out (hal.mono R3B1.out.size))
      have R3GA := R3B1.out.size
      have FA_2 := Lib.hid (heap_alloc_new R3w1 (.cells #[.slice none 0 0, .slice none 0 0, .slice none 0 0] 28))
      refine hK.out _ _ ?_ (fun hHeld => ?_)
      · exact ⟨((K8.out.next R3B2.out).it (g := g) (by simp)).1, ((K8.out.next R3B2.out).it (g := g) (by simp)).2⟩
      clear hK hal R3B1
      try simp only [Act.put, List.setIfInBounds_toArray, List.set_cons_zero, List.set_cons_succ]
      generalize World.alloc R3w1 _ = R3w2 at R3B2 FA_2 hHeld ⊢
      refine wpAnyH_ready (rs := [1]) (by kernel_rfl) (by simp) ?_
      refine AllReadyH.cons (o := ⟨some 21, _, _, _, _, _⟩) rfl (fun K hK => ?_) AllReadyH.nil
      go_simp
      refine (mark10_l 1 1 5 3 R3w2 (by decide)).mono ?_
      rintro e R3w3 ⟨rfl, hb⟩
      have R3B3 := Lib.hid (Below.trans R3B2.out (hb.mono R3B2.out.size))
      have FA_3 := Lib.hid ((hb.block _ (Array.getElem?_eq_some_iff.1 FA_2.out).1).trans FA_2.out)
      first
        | refine hK.out _ _ ?_ (fun hHeld => ?_)
        | (go_wp2_with fail
           refine hK.out _ _ ?_ (fun hHeld => ?_))
      · exact ⟨((K8.out.next R3B3.out).it (g := g) (by simp)).1, ((K8.out.next R3B3.out).it (g := g) (by simp)).2⟩
      clear hK hb FA_2 R3B2
      try simp only [Act.put, List.setIfInBounds_toArray, List.set_cons_zero, List.set_cons_succ]
      refine wpAnyH_ready (rs := [2]) (by kernel_rfl) (by simp) ?_
      refine AllReadyH.cons (o := ⟨some 22, _, _, _, _, _⟩) rfl (fun K hK => ?_) AllReadyH.nil
      go_simp
      have hal := (Below.refl R3w3.heap.size R3w3).alloc (Nat.le_refl _) (.cells #[.int .i64 1, .int .i64 2, .int .i64 2, .int .u64 9, .int .i64 1, .int .i64 1, .int .i64 5, .int .u64 3] 65)
      have R3B4 := Lib.hid (Below.trans R3B3.out (hal.mono R3B3.out.size))
      have FA_4 := Lib.hid ((hal.block _ (Array.getElem?_eq_some_iff.1 FA_3.out).1).trans FA_3.out)
      have FM_4 := Lib.hid (mlit2 R3w3 R3w3.heap.size 1 2 2 9 1 1 5 3 9 3 rfl rfl rfl)
      refine hK.out _ _ ?_ (fun hHeld => ?_)
      · exact ⟨((K8.out.next R3B4.out).it (g := g) (by simp)).1, ((K8.out.next R3B4.out).it (g := g) (by simp)).2⟩
      clear hK hal FA_3 R3B3
      try simp only [Act.put, List.setIfInBounds_toArray, List.set_cons_zero, List.set_cons_succ]
      generalize World.alloc R3w3 _ = R3w4 at R3B4 FA_4 FM_4 hHeld ⊢
      refine wpAnyH_ready (rs := [3]) (by kernel_rfl) (by simp) ?_
      refine AllReadyH.cons (o := ⟨some 23, _, _, _, _, _⟩) rfl (fun K hK => ?_) AllReadyH.nil
      go_simp
      refine (item10_l ⟨#[84, 101, 97]⟩ nTea (some ⟨R3w3.heap.size, 0, none⟩) 2 [⟨1, 2, 2, 9⟩, ⟨1, 1, 5, 3⟩] R3w4 FM_4.out rfl rfl (by decide)).mono ?_
      rintro e R3w5 ⟨Q, rfl, hQ, oQ, hb⟩
      have R3B5 := Lib.hid (Below.trans R3B4.out (hb.mono R3B4.out.size))
      have FA_5 := Lib.hid ((hb.block _ (Array.getElem?_eq_some_iff.1 FA_4.out).1).trans FA_4.out)
      have FM_5 := Lib.hid (SlAt.below FM_4.out hb)
      have FQ_5 := Lib.hid (oQ)
      have HQ := Lib.hid hQ
      clear hQ oQ
      first
        | refine hK.out _ _ ?_ (fun hHeld => ?_)
        | (go_wp2_with fail
           refine hK.out _ _ ?_ (fun hHeld => ?_))
      · exact ⟨((K8.out.next R3B5.out).it (g := g) (by simp)).1, ((K8.out.next R3B5.out).it (g := g) (by simp)).2⟩
      clear hK hb FA_4 FM_4 R3B4
      try simp only [Act.put, List.setIfInBounds_toArray, List.set_cons_zero, List.set_cons_succ]
      refine wpAnyH_ready (rs := [5]) (by kernel_rfl) (by simp) ?_
      refine AllReadyH.cons (o := ⟨some 25, _, _, _, _, _⟩) rfl (fun K hK => ?_) AllReadyH.nil
      go_simp
      have hal := (Below.refl R3w5.heap.size R3w5).alloc (Nat.le_refl _) (.cells #[.string ⟨Q.nm.toArray⟩, .slice Q.A Q.ms.length Q.c, .string ⟨N.nm.toArray⟩, .slice N.A N.ms.length N.c] 56)
      have R3B6 := Lib.hid (Below.trans R3B5.out (hal.mono R3B5.out.size))
      have FA_6 := Lib.hid ((hal.block _ (Array.getElem?_eq_some_iff.1 FA_5.out).1).trans FA_5.out)
      have FM_6 := Lib.hid (SlAt.below FM_5.out hal)
      have FQ_6 := Lib.hid (FQ_5.out.below hal)
      have FX_6 := Lib.hid (holdsB R3w5 R3w5.heap.size Q N rfl FQ_5.out ((K8.out.next R3B5.out).kz.ok (g := g) (by simp)))
      refine hK.out _ _ ?_ (fun hHeld => ?_)
      · exact ⟨((K8.out.next R3B6.out).it (g := g) (by simp)).1, ((K8.out.next R3B6.out).it (g := g) (by simp)).2⟩
      clear hK hal FA_5 FM_5 FQ_5 R3B5
      try simp only [Act.put, List.setIfInBounds_toArray, List.set_cons_zero, List.set_cons_succ]
      generalize World.alloc R3w5 _ = R3w6 at R3B6 FA_6 FM_6 FQ_6 FX_6 hHeld ⊢
      refine wpAnyH_take (i := 6) (oi := ⟨some 26, _, _, _, _, _⟩) (v := ?_) rfl (by kernel_rfl) (by kernel_rfl) (by kernel_rfl) (fun _ _ _ h => h) (Or.inl ⟨by rfl, ?_⟩) (by assumption) ?_
      rotate_left 1
      · intro w hSw
        (try dsimp only at hSw)
        go_simp
        try with_reducible rfl
      try simp only [Act.put, List.setIfInBounds_toArray, List.set_cons_zero, List.set_cons_succ]
      refine wpAnyH_ready (rs := [8]) (by kernel_rfl) (by simp) ?_
      refine AllReadyH.cons (o := ⟨none, _, _, _, _, _⟩) rfl (fun K hK => ?_) AllReadyH.nil
      obtain ⟨_, r0, r1, r2, f0, f1, f2, gl⟩ := boxC_kept (Below.refl _ _) FA_6.out
      go_simp
      have R3BS := Lib.hid (show Below R3w0.heap.size R3w0 (((R3w6.setCell ⟨R3w1.heap.size, 0, none⟩ (.slice none 0 0)).setCell ⟨R3w1.heap.size, 1, none⟩ (.slice none 0 0)).setCell ⟨R3w1.heap.size, 2, none⟩ (.slice (some ⟨R3w5.heap.size, 0, none⟩) 2 2)) from below_set3c R3B6.out R3GA _ _ _)
      refine hK.out _ _ ?_ (fun hHeld => ?_)
      · exact ⟨((K8.out.next R3BS.out).it (g := g) (by simp)).1, ((K8.out.next R3BS.out).it (g := g) (by simp)).2⟩
      clear hK r0 r1 r2 f0 f1 f2 gl
      try simp only [Act.put, List.setIfInBounds_toArray, List.set_cons_zero, List.set_cons_succ]
      refine wpAnyH_done (by kernel_rfl) ?_ _
      have hok : CaOK R3w6 ⟨none, 0, [], none, 0, [], some ⟨R3w5.heap.size, 0, none⟩, 2, [Q, N]⟩ := ⟨Holds.nil _, Holds.nil _, FX_6.out⟩
      have hok2 := CaOK.off_box (W' := (((R3w6.setCell ⟨R3w1.heap.size, 0, none⟩ (.slice none 0 0)).setCell ⟨R3w1.heap.size, 1, none⟩ (.slice none 0 0)).setCell ⟨R3w1.heap.size, 2, none⟩ (.slice (some ⟨R3w5.heap.size, 0, none⟩) 2 2))) hok FA_6.out (by simp) (fun b hb => set3_other R3w6 _ b _ _ _ hb)
      have hblk : BlkC (((R3w6.setCell ⟨R3w1.heap.size, 0, none⟩ (.slice none 0 0)).setCell ⟨R3w1.heap.size, 1, none⟩ (.slice none 0 0)).setCell ⟨R3w1.heap.size, 2, none⟩ (.slice (some ⟨R3w5.heap.size, 0, none⟩) 2 2)) R3w1.heap.size ⟨none, 0, [], none, 0, [], some ⟨R3w5.heap.size, 0, none⟩, 2, [Q, N]⟩ := boxC_filled FA_6.out _ _ _
      have KF := Lib.hid ((K8.out.next R3BS.out).add hblk hok2)
      have HX := Lib.hid (show CaV.ca ⟨none, 0, [], none, 0, [], some ⟨R3w5.heap.size, 0, none⟩, 2, [Q, N]⟩ = cY from by show (([], []), its [Q, N]) = _; simp [HQ.out, HN.out])
      clear hok hok2 hblk hHeld
      go_wp2_with fail
      go_meet
      exact ⟨_, _, rfl, HX, KF⟩
  · go_simp
    have hal := (Below.refl R3w00.heap.size R3w00).alloc (Nat.le_refl _) (.cells #[.slice none 0 0, .slice none 0 0, .slice none 0 0] 28)
    have R3B1 := Lib.hid (Below.trans R3B0.out (hal.mono R3B0.out.size))
    have R3GA := R3B0.out.size
    have FA_1 := Lib.hid (heap_alloc_new R3w00 (.cells #[.slice none 0 0, .slice none 0 0, .slice none 0 0] 28))
    refine hK.out _ _ ?_ (fun hHeld => ?_)
    · exact ⟨((K8.out.next R3B1.out).it (g := g) (by simp)).1, ((K8.out.next R3B1.out).it (g := g) (by simp)).2⟩
    clear hK hal R3B0
    try simp only [Act.put, List.setIfInBounds_toArray, List.set_cons_zero, List.set_cons_succ]
    generalize World.alloc R3w00 _ = R3w1 at R3B1 FA_1 hHeld ⊢
    refine wpAnyH_ready (rs := [0]) (by kernel_rfl) (by simp) ?_
    refine AllReadyH.cons (o := ⟨some 20, _, _, _, _, _⟩) rfl (fun K hK => ?_) AllReadyH.nil
    go_simp
    refine (mark10_l 1 2 2 9 R3w1 (by decide)).mono ?_
    rintro e R3w2 ⟨rfl, hb⟩
    have R3B2 := Lib.hid (Below.trans R3B1.out (hb.mono R3B1.out.size))
    have FA_2 := Lib.hid ((hb.block _ (Array.getElem?_eq_some_iff.1 FA_1.out).1).trans FA_1.out)
    first
      | refine hK.out _ _ ?_ (fun hHeld => ?_)
      | (go_wp2_with fail
         refine hK.out _ _ ?_ (fun hHeld => ?_))
    · exact ⟨((K8.out.next R3B2.out).it (g := g) (by simp)).1, ((K8.out.next R3B2.out).it (g := g) (by simp)).2⟩
    clear hK hb FA_1 R3B1
    try simp only [Act.put, List.setIfInBounds_toArray, List.set_cons_zero, List.set_cons_succ]
    refine wpAnyH_ready (rs := [1]) (by kernel_rfl) (by simp) ?_
    refine AllReadyH.cons (o := ⟨some 21, _, _, _, _, _⟩) rfl (fun K hK => ?_) AllReadyH.nil
    go_simp
    refine (mark10_l 1 1 5 3 R3w2 (by decide)).mono ?_
    rintro e R3w3 ⟨rfl, hb⟩
    have R3B3 := Lib.hid (Below.trans R3B2.out (hb.mono R3B2.out.size))
    have FA_3 := Lib.hid ((hb.block _ (Array.getElem?_eq_some_iff.1 FA_2.out).1).trans FA_2.out)
    first
      | refine hK.out _ _ ?_ (fun hHeld => ?_)
      | (go_wp2_with fail
         refine hK.out _ _ ?_ (fun hHeld => ?_))
    · exact ⟨((K8.out.next R3B3.out).it (g := g) (by simp)).1, ((K8.out.next R3B3.out).it (g := g) (by simp)).2⟩
    clear hK hb FA_2 R3B2
    try simp only [Act.put, List.setIfInBounds_toArray, List.set_cons_zero, List.set_cons_succ]
    refine wpAnyH_ready (rs := [2]) (by kernel_rfl) (by simp) ?_
    refine AllReadyH.cons (o := ⟨some 22, _, _, _, _, _⟩) rfl (fun K hK => ?_) AllReadyH.nil
    go_simp
    have hal := (Below.refl R3w3.heap.size R3w3).alloc (Nat.le_refl _) (.cells #[.int .i64 1, .int .i64 2, .int .i64 2, .int .u64 9, .int .i64 1, .int .i64 1, .int .i64 5, .int .u64 3] 65)
    have R3B4 := Lib.hid (Below.trans R3B3.out (hal.mono R3B3.out.size))
    have FA_4 := Lib.hid ((hal.block _ (Array.getElem?_eq_some_iff.1 FA_3.out).1).trans FA_3.out)
    have FM_4 := Lib.hid (mlit2 R3w3 R3w3.heap.size 1 2 2 9 1 1 5 3 9 3 rfl rfl rfl)
    refine hK.out _ _ ?_ (fun hHeld => ?_)
    · exact ⟨((K8.out.next R3B4.out).it (g := g) (by simp)).1, ((K8.out.next R3B4.out).it (g := g) (by simp)).2⟩
    clear hK hal FA_3 R3B3
    try simp only [Act.put, List.setIfInBounds_toArray, List.set_cons_zero, List.set_cons_succ]
    generalize World.alloc R3w3 _ = R3w4 at R3B4 FA_4 FM_4 hHeld ⊢
    refine wpAnyH_ready (rs := [3]) (by kernel_rfl) (by simp) ?_
    refine AllReadyH.cons (o := ⟨some 23, _, _, _, _, _⟩) rfl (fun K hK => ?_) AllReadyH.nil
    go_simp
    refine (item10_l ⟨#[84, 101, 97]⟩ nTea (some ⟨R3w3.heap.size, 0, none⟩) 2 [⟨1, 2, 2, 9⟩, ⟨1, 1, 5, 3⟩] R3w4 FM_4.out rfl rfl (by decide)).mono ?_
    rintro e R3w5 ⟨Q, rfl, hQ, oQ, hb⟩
    have R3B5 := Lib.hid (Below.trans R3B4.out (hb.mono R3B4.out.size))
    have FA_5 := Lib.hid ((hb.block _ (Array.getElem?_eq_some_iff.1 FA_4.out).1).trans FA_4.out)
    have FM_5 := Lib.hid (SlAt.below FM_4.out hb)
    have FQ_5 := Lib.hid (oQ)
    have HQ := Lib.hid hQ
    clear hQ oQ
    first
      | refine hK.out _ _ ?_ (fun hHeld => ?_)
      | (go_wp2_with fail
         refine hK.out _ _ ?_ (fun hHeld => ?_))
    · exact ⟨((K8.out.next R3B5.out).it (g := g) (by simp)).1, ((K8.out.next R3B5.out).it (g := g) (by simp)).2⟩
    clear hK hb FA_4 FM_4 R3B4
    try simp only [Act.put, List.setIfInBounds_toArray, List.set_cons_zero, List.set_cons_succ]
    refine wpAnyH_ready (rs := [5]) (by kernel_rfl) (by simp) ?_
    refine AllReadyH.cons (o := ⟨some 25, _, _, _, _, _⟩) rfl (fun K hK => ?_) AllReadyH.nil
    go_simp
    have hal := (Below.refl R3w5.heap.size R3w5).alloc (Nat.le_refl _) (.cells #[.string ⟨Q.nm.toArray⟩, .slice Q.A Q.ms.length Q.c, .string ⟨N.nm.toArray⟩, .slice N.A N.ms.length N.c] 56)
    have R3B6 := Lib.hid (Below.trans R3B5.out (hal.mono R3B5.out.size))
    have FA_6 := Lib.hid ((hal.block _ (Array.getElem?_eq_some_iff.1 FA_5.out).1).trans FA_5.out)
    have FM_6 := Lib.hid (SlAt.below FM_5.out hal)
    have FQ_6 := Lib.hid (FQ_5.out.below hal)
    have FX_6 := Lib.hid (holdsB R3w5 R3w5.heap.size Q N rfl FQ_5.out ((K8.out.next R3B5.out).kz.ok (g := g) (by simp)))
    refine hK.out _ _ ?_ (fun hHeld => ?_)
    · exact ⟨((K8.out.next R3B6.out).it (g := g) (by simp)).1, ((K8.out.next R3B6.out).it (g := g) (by simp)).2⟩
    clear hK hal FA_5 FM_5 FQ_5 R3B5
    try simp only [Act.put, List.setIfInBounds_toArray, List.set_cons_zero, List.set_cons_succ]
    generalize World.alloc R3w5 _ = R3w6 at R3B6 FA_6 FM_6 FQ_6 FX_6 hHeld ⊢
    refine wpAnyH_take (i := 6) (oi := ⟨some 26, _, _, _, _, _⟩) (v := ?_) rfl (by kernel_rfl) (by kernel_rfl) (by kernel_rfl) (fun _ _ _ h => h) (Or.inl ⟨by rfl, ?_⟩) (by assumption) ?_
    rotate_left 1
    · intro w hSw
      (try dsimp only at hSw)
      go_simp
      try with_reducible rfl
    try simp only [Act.put, List.setIfInBounds_toArray, List.set_cons_zero, List.set_cons_succ]
    refine wpAnyH_ready (rs := [8]) (by kernel_rfl) (by simp) ?_
    refine AllReadyH.cons (o := ⟨none, _, _, _, _, _⟩) rfl (fun K hK => ?_) AllReadyH.nil
    obtain ⟨_, r0, r1, r2, f0, f1, f2, gl⟩ := boxC_kept (Below.refl _ _) FA_6.out
    go_simp
    have R3BS := Lib.hid (show Below R3w0.heap.size R3w0 (((R3w6.setCell ⟨R3w00.heap.size, 0, none⟩ (.slice none 0 0)).setCell ⟨R3w00.heap.size, 1, none⟩ (.slice none 0 0)).setCell ⟨R3w00.heap.size, 2, none⟩ (.slice (some ⟨R3w5.heap.size, 0, none⟩) 2 2)) from below_set3c R3B6.out R3GA _ _ _)
    refine hK.out _ _ ?_ (fun hHeld => ?_)
    · exact ⟨((K8.out.next R3BS.out).it (g := g) (by simp)).1, ((K8.out.next R3BS.out).it (g := g) (by simp)).2⟩
    clear hK r0 r1 r2 f0 f1 f2 gl
    try simp only [Act.put, List.setIfInBounds_toArray, List.set_cons_zero, List.set_cons_succ]
    refine wpAnyH_done (by kernel_rfl) ?_ _
    have hok : CaOK R3w6 ⟨none, 0, [], none, 0, [], some ⟨R3w5.heap.size, 0, none⟩, 2, [Q, N]⟩ := ⟨Holds.nil _, Holds.nil _, FX_6.out⟩
    have hok2 := CaOK.off_box (W' := (((R3w6.setCell ⟨R3w00.heap.size, 0, none⟩ (.slice none 0 0)).setCell ⟨R3w00.heap.size, 1, none⟩ (.slice none 0 0)).setCell ⟨R3w00.heap.size, 2, none⟩ (.slice (some ⟨R3w5.heap.size, 0, none⟩) 2 2))) hok FA_6.out (by simp) (fun b hb => set3_other R3w6 _ b _ _ _ hb)
    have hblk : BlkC (((R3w6.setCell ⟨R3w00.heap.size, 0, none⟩ (.slice none 0 0)).setCell ⟨R3w00.heap.size, 1, none⟩ (.slice none 0 0)).setCell ⟨R3w00.heap.size, 2, none⟩ (.slice (some ⟨R3w5.heap.size, 0, none⟩) 2 2)) R3w00.heap.size ⟨none, 0, [], none, 0, [], some ⟨R3w5.heap.size, 0, none⟩, 2, [Q, N]⟩ := boxC_filled FA_6.out _ _ _
    have KF := Lib.hid ((K8.out.next R3BS.out).add hblk hok2)
    have HX := Lib.hid (show CaV.ca ⟨none, 0, [], none, 0, [], some ⟨R3w5.heap.size, 0, none⟩, 2, [Q, N]⟩ = cY from by show (([], []), its [Q, N]) = _; simp [HQ.out, HN.out])
    clear hok hok2 hblk hHeld
    go_wp2_with fail
    go_meet
    exact ⟨_, _, rfl, HX, KF⟩

end Go.Proofs.YtfmhhmceoikgpaaGreat
