/- The chapter's examples of carts: region 6 (written by split_known10.py). -/
import Derived.Test.YtfmhhmceoikgpaaGreatNL
namespace Go.Proofs.YtfmhhmceoikgpaaGreat
open Go.RowKit

set_option maxRecDepth 100000 in
set_option maxHeartbeats 8000000 in
theorem known_r6 {w : World} {N : ItV} {T : ItV} {g : Nat} {gx : Nat} {X : CaV} {gy : Nat} {Y : CaV} {u7 u8 u9 u10 u11 u12 u13 u14 u15 u16 u17 u18 u19 u20 u21 u22 u23 u24 u25 u26 u27 u28 u29 u30 u31 u32 u33 u34 u35 u36 _ u38 u39 u40 u41 u42 u43 u44 u45 u46 u47 u48 u49 u50 u51 u52 u53 u54 u55 u56 u57 u58 u59 u60 u61 u62 u63 u64 u65 u66 u67 u68 u69 u70 u71 u72 u73 u74 u75 u76 u77 u78 u79 u80 u81 u82 u83 u84 u85 u86 u87 u88 u89 u90 u91 u92 u93 u94 u95 u96 u97 u98 u99 u100 u101 u102 u103 u104 u105 u106 u107 u108 u109 u110 u111 u112 u113 u114 u115 u116 u117 u118 u119 u120 u121 u122 u123 u124 u125 u126 u127 u128 u129 u130 u131 u132 u133 u134 u135 u136 : Value} {gz : Nat} {Z : CaV} {go : Nat} {w11 : World} {ps47 : String} {J K' _ KE1 : Act → World → Prop} (HX : Hid (CaV.ca X = cX)) (HY : Hid (CaV.ca Y = cY)) (HZ : Hid (CaV.ca Z = cZ)) (K11 : Hid (KWk w [(g, N), (g + 1, T)] [(gx, X), (gy, Y), (gz, Z), (go, CaV.zero)] w11))
    (hj : ∀ (a' : Act) (w' : World),
    (∃ u7 u8 u9 u10 u11 u12 u13 u14 u15 u16 u17 u18 u19 u20 u21 u22 u23 u24 u25 u26 u27 u28 u29 u30 u31 u32 u33 u34 u35
        u36 u37 u38 u39 u40 u41 u42 u43 u44 u45 u46 u47 u48 u49 u50 u51 u52 u53 u54 u55 u56 u57 u58 u59 u60 u61 u62 u63
        u64 u65 u66 u67 u68 u69 u70 u71 u72 u73 u74 u75 u76 u77 u78 u79 u80 u81 u82 u83 u84 u85 u86 u87 u88 u89 u90 u91
        u92 u93 u94 u95 u96 u97 u98 u99 u100 u101 u102 u103 u104 u105 u106 u107 u108 u109 u110 u111 u112 u113 u114 u115
        u116 u117 u118 u119 u120 u121 u122 u123 u124 u125 u126 u127 u128 u129 u130 u131 u132 u133 u134 u135 u136,
        (u75 = Value.bool false ∧ Hid (KWk w [(g, N), (g + 1, T)] [(gx, X), (gy, Y), (gz, Z), (go, CaV.zero)] w')) ∧
          a' =
            {
              tmps :=
                #[Value.bool false, Value.pointer (some { block := g, off := 0 }),
                  Value.pointer (some { block := g + 1, off := 0 }), Value.pointer (some { block := gx, off := 0 }),
                  Value.pointer (some { block := gy, off := 0 }), Value.pointer (some { block := gz, off := 0 }),
                  Value.pointer (some { block := go, off := 0 }), u7, u8, u9, u10, u11, u12, u13, u14, u15, u16, u17,
                  u18, u19, u20, u21, u22, u23, u24, u25, u26, u27, u28, u29, u30, u31, u32, u33, u34, u35, u36, u37,
                  u38, u39, u40, u41, u42, u43, u44, u45, u46, u47, u48, u49, u50, u51, u52, u53, u54, u55, u56, u57,
                  u58, u59, u60, u61, u62, u63, u64, u65, u66, u67, u68, u69, u70, u71, u72, u73, u74, u75, u76, u77,
                  u78, u79, u80, u81, u82, u83, u84, u85, u86, u87, u88, u89, u90, u91, u92, u93, u94, u95, u96, u97,
                  u98, u99, u100, u101, u102, u103, u104, u105, u106, u107, u108, u109, u110, u111, u112, u113, u114,
                  u115, u116, u117, u118, u119, u120, u121, u122, u123, u124, u125, u126, u127, u128, u129, u130, u131,
                  u132, u133, u134, u135, u136],
              defers := [] }) →
      J a' w')
    (hm : ∀ (a' : Act) (w' : World), Met J a' w' → K' a' w') :
    Code.wp Tryz.prog
    (Code.region 6
      #[{ dst := some 38, op := Op.load 28 (Operand.tmp 3), type := 28, pos := ps47, after := #[],
          guard := none },
        { dst := some 39,
          op := Op.call { callee := Callee.value (Operand.func 10), args := #[Operand.tmp 38], argTypes := #[28] },
          type := 4, pos := ps47, after := #[{ on := 0, ground := Ground.data }], guard := none },
        { dst := some 40, op := Op.unOp UnOp.not 4 (Operand.tmp 39), type := 4, pos := ps47,
          after := #[{ on := 1, ground := Ground.data }], guard := none },
        { dst := some 41, op := Op.move (Operand.tmp 40), type := 4, pos := ps47,
          after := #[{ on := 2, ground := Ground.data }, { on := 1, ground := Ground.chain }], guard := none },
        { dst := some 42, op := Op.load 28 (Operand.tmp 4), type := 28, pos := ps47,
          after := #[{ on := 3, ground := Ground.guard }], guard := some (3, false) },
        { dst := some 43,
          op := Op.call { callee := Callee.value (Operand.func 10), args := #[Operand.tmp 42], argTypes := #[28] },
          type := 4, pos := ps47,
          after :=
            #[{ on := 4, ground := Ground.data }, { on := 3, ground := Ground.chain },
              { on := 3, ground := Ground.guard }],
          guard := some (3, false) },
        { dst := some 44, op := Op.pick (Operand.tmp 41) (Operand.const (Value.bool true)) (Operand.tmp 43), type := 4,
          pos := ps47, after := #[{ on := 3, ground := Ground.data }, { on := 5, ground := Ground.data }],
          guard := none },
        { dst := some 45, op := Op.move (Operand.tmp 44), type := 4, pos := ps47,
          after := #[{ on := 6, ground := Ground.data }, { on := 5, ground := Ground.chain }], guard := none },
        { dst := some 46, op := Op.load 28 (Operand.tmp 6), type := 28, pos := ps47,
          after := #[{ on := 7, ground := Ground.guard }], guard := some (7, false) },
        { dst := some 47,
          op := Op.call { callee := Callee.value (Operand.func 10), args := #[Operand.tmp 46], argTypes := #[28] },
          type := 4, pos := ps47,
          after :=
            #[{ on := 8, ground := Ground.data }, { on := 7, ground := Ground.chain },
              { on := 7, ground := Ground.guard }],
          guard := some (7, false) },
        { dst := some 48, op := Op.unOp UnOp.not 4 (Operand.tmp 47), type := 4, pos := ps47,
          after := #[{ on := 9, ground := Ground.data }, { on := 7, ground := Ground.guard }],
          guard := some (7, false) },
        { dst := some 49, op := Op.pick (Operand.tmp 45) (Operand.const (Value.bool true)) (Operand.tmp 48), type := 4,
          pos := ps47, after := #[{ on := 7, ground := Ground.data }, { on := 10, ground := Ground.data }],
          guard := none },
        { dst := some 50, op := Op.move (Operand.tmp 49), type := 4, pos := ps47,
          after := #[{ on := 11, ground := Ground.data }, { on := 9, ground := Ground.chain }], guard := none },
        { dst := some 51,
          op :=
            Op.buildSlice 108 2
              #[(0, Operand.const (Value.int IntKind.i64 1)), (1, Operand.const (Value.int IntKind.i64 1))],
          type := 108, pos := ps47, after := #[{ on := 12, ground := Ground.guard }],
          guard := some (12, false) },
        { dst := some 52,
          op := Op.call { callee := Callee.value (Operand.func 36), args := #[Operand.tmp 51], argTypes := #[108] },
          type := 22, pos := ps47,
          after :=
            #[{ on := 13, ground := Ground.data }, { on := 12, ground := Ground.chain },
              { on := 12, ground := Ground.guard }],
          guard := some (12, false) },
        { dst := some 53, op := Op.build 25 #[(0, Operand.tmp 52)], type := 25, pos := ps47,
          after := #[{ on := 14, ground := Ground.data }, { on := 12, ground := Ground.guard }],
          guard := some (12, false) },
        { dst := some 54, op := Op.fieldAddr 28 (Operand.tmp 3) 1, type := 0, pos := ps47,
          after := #[{ on := 12, ground := Ground.guard }], guard := some (12, false) },
        { dst := some 55, op := Op.load 26 (Operand.tmp 54), type := 26, pos := ps47,
          after := #[{ on := 16, ground := Ground.data }, { on := 12, ground := Ground.guard }],
          guard := some (12, false) },
        { dst := some 56, op := Op.build 28 #[(0, Operand.tmp 53), (1, Operand.tmp 55)], type := 28, pos := ps47,
          after :=
            #[{ on := 15, ground := Ground.data }, { on := 17, ground := Ground.data },
              { on := 12, ground := Ground.guard }],
          guard := some (12, false) },
        { dst := some 57,
          op := Op.call { callee := Callee.value (Operand.func 10), args := #[Operand.tmp 56], argTypes := #[28] },
          type := 4, pos := ps47,
          after :=
            #[{ on := 18, ground := Ground.data }, { on := 14, ground := Ground.chain },
              { on := 12, ground := Ground.guard }],
          guard := some (12, false) },
        { dst := some 58, op := Op.pick (Operand.tmp 50) (Operand.const (Value.bool true)) (Operand.tmp 57), type := 4,
          pos := ps47, after := #[{ on := 12, ground := Ground.data }, { on := 19, ground := Ground.data }],
          guard := none },
        { dst := some 59, op := Op.move (Operand.tmp 58), type := 4, pos := ps47,
          after := #[{ on := 20, ground := Ground.data }, { on := 19, ground := Ground.chain }], guard := none },
        { dst := some 60,
          op :=
            Op.buildSlice 108 2
              #[(0, Operand.const (Value.int IntKind.i64 1)), (1, Operand.const (Value.int IntKind.i64 1))],
          type := 108, pos := ps47, after := #[{ on := 21, ground := Ground.guard }],
          guard := some (21, false) },
        { dst := some 61,
          op := Op.call { callee := Callee.value (Operand.func 36), args := #[Operand.tmp 60], argTypes := #[108] },
          type := 22, pos := ps47,
          after :=
            #[{ on := 22, ground := Ground.data }, { on := 21, ground := Ground.chain },
              { on := 21, ground := Ground.guard }],
          guard := some (21, false) },
        { dst := some 62,
          op :=
            Op.buildSlice 108 2
              #[(0, Operand.const (Value.int IntKind.i64 2)), (1, Operand.const (Value.int IntKind.i64 1))],
          type := 108, pos := ps47, after := #[{ on := 21, ground := Ground.guard }],
          guard := some (21, false) },
        { dst := some 63,
          op := Op.call { callee := Callee.value (Operand.func 36), args := #[Operand.tmp 62], argTypes := #[108] },
          type := 22, pos := ps47,
          after :=
            #[{ on := 24, ground := Ground.data }, { on := 23, ground := Ground.chain },
              { on := 21, ground := Ground.guard }],
          guard := some (21, false) },
        { dst := some 64, op := Op.build 25 #[(0, Operand.tmp 61), (1, Operand.tmp 63)], type := 25, pos := ps47,
          after :=
            #[{ on := 23, ground := Ground.data }, { on := 25, ground := Ground.data },
              { on := 21, ground := Ground.guard }],
          guard := some (21, false) },
        { dst := some 65, op := Op.fieldAddr 28 (Operand.tmp 3) 1, type := 0, pos := ps47,
          after := #[{ on := 21, ground := Ground.guard }], guard := some (21, false) },
        { dst := some 66, op := Op.load 26 (Operand.tmp 65), type := 26, pos := ps47,
          after := #[{ on := 27, ground := Ground.data }, { on := 21, ground := Ground.guard }],
          guard := some (21, false) },
        { dst := some 67, op := Op.build 28 #[(0, Operand.tmp 64), (1, Operand.tmp 66)], type := 28, pos := ps47,
          after :=
            #[{ on := 26, ground := Ground.data }, { on := 28, ground := Ground.data },
              { on := 21, ground := Ground.guard }],
          guard := some (21, false) },
        { dst := some 68,
          op := Op.call { callee := Callee.value (Operand.func 10), args := #[Operand.tmp 67], argTypes := #[28] },
          type := 4, pos := ps47,
          after :=
            #[{ on := 29, ground := Ground.data }, { on := 25, ground := Ground.chain },
              { on := 21, ground := Ground.guard }],
          guard := some (21, false) },
        { dst := some 69, op := Op.pick (Operand.tmp 59) (Operand.const (Value.bool true)) (Operand.tmp 68), type := 4,
          pos := ps47, after := #[{ on := 21, ground := Ground.data }, { on := 30, ground := Ground.data }],
          guard := none },
        { dst := some 70, op := Op.move (Operand.tmp 69), type := 4, pos := ps47,
          after := #[{ on := 31, ground := Ground.data }, { on := 30, ground := Ground.chain }], guard := none },
        { dst := some 71, op := Op.load 28 (Operand.tmp 4), type := 28, pos := ps47,
          after := #[{ on := 32, ground := Ground.guard }], guard := some (32, false) },
        { dst := some 72, op := Op.load 28 (Operand.tmp 5), type := 28, pos := ps47,
          after := #[{ on := 32, ground := Ground.guard }], guard := some (32, false) },
        { dst := some 73,
          op :=
            Op.call
              { callee := Callee.value (Operand.func 17),
                args := #[Operand.tmp 71, Operand.tmp 72, Operand.const (Value.int IntKind.i64 0)],
                argTypes := #[28, 28, 37] },
          type := 4, pos := ps47,
          after :=
            #[{ on := 33, ground := Ground.data }, { on := 34, ground := Ground.data },
              { on := 32, ground := Ground.chain }, { on := 32, ground := Ground.guard }],
          guard := some (32, false) },
        { dst := some 74, op := Op.unOp UnOp.not 4 (Operand.tmp 73), type := 4, pos := ps47,
          after := #[{ on := 35, ground := Ground.data }, { on := 32, ground := Ground.guard }],
          guard := some (32, false) },
        { dst := some 75, op := Op.pick (Operand.tmp 70) (Operand.const (Value.bool true)) (Operand.tmp 74), type := 4,
          pos := ps47, after := #[{ on := 32, ground := Ground.data }, { on := 36, ground := Ground.data }],
          guard := none }]
      true)
    (Exit.then K' (Exit.then KE1 (bodyPost Tryz.prog Tryz.f9 (TrueB w))))
    {
      tmps :=
        #[Value.bool false, Value.pointer (some { block := g, off := 0 }),
          Value.pointer (some { block := g + 1, off := 0 }), Value.pointer (some { block := gx, off := 0 }),
          Value.pointer (some { block := gy, off := 0 }), Value.pointer (some { block := gz, off := 0 }),
          Value.pointer (some { block := go, off := 0 }), u7, u8, u9, u10, u11, u12, u13, u14, u15, u16, u17, u18, u19,
          u20, u21, u22, u23, u24, u25, u26, u27, u28, u29, u30, u31, u32, u33, u34, u35, u36,
          Value.agg #[Value.slice none 0 0, Value.slice none 0 0, Value.slice none 0 0], u38, u39, u40, u41, u42, u43,
          u44, u45, u46, u47, u48, u49, u50, u51, u52, u53, u54, u55, u56, u57, u58, u59, u60, u61, u62, u63, u64, u65,
          u66, u67, u68, u69, u70, u71, u72, u73, u74, u75, u76, u77, u78, u79, u80, u81, u82, u83, u84, u85, u86, u87,
          u88, u89, u90, u91, u92, u93, u94, u95, u96, u97, u98, u99, u100, u101, u102, u103, u104, u105, u106, u107,
          u108, u109, u110, u111, u112, u113, u114, u115, u116, u117, u118, u119, u120, u121, u122, u123, u124, u125,
          u126, u127, u128, u129, u130, u131, u132, u133, u134, u135, u136],
      defers := [] }
    w11 := by
  refine wp_region_held_drew (S := (fun W => W.cell? ⟨gx, 0, none⟩ = some X.v ∧ W.cell? ⟨gx, 1, none⟩ = some X.l ∧ W.cell? ⟨gx, 2, none⟩ = some X.i ∧ W.cell? ⟨gy, 0, none⟩ = some Y.v ∧ W.cell? ⟨gy, 1, none⟩ = some Y.l ∧ W.cell? ⟨gy, 2, none⟩ = some Y.i ∧ W.cell? ⟨gz, 0, none⟩ = some Z.v ∧ W.cell? ⟨gz, 1, none⟩ = some Z.l ∧ W.cell? ⟨gz, 2, none⟩ = some Z.i ∧ W.cell? ⟨go, 0, none⟩ = some CaV.zero.v ∧ W.cell? ⟨go, 1, none⟩ = some CaV.zero.l ∧ W.cell? ⟨go, 2, none⟩ = some CaV.zero.i)) (by kernel_rfl) ?_ (fun hHeld => ?_)
  · have KS := K11.out.next (Below.refl _ _).drew
    exact ⟨(KS.ca (g := gx) (c := X) (by simp)).1, (KS.ca (g := gx) (c := X) (by simp)).2.1, (KS.ca (g := gx) (c := X) (by simp)).2.2, (KS.ca (g := gy) (c := Y) (by simp)).1, (KS.ca (g := gy) (c := Y) (by simp)).2.1, (KS.ca (g := gy) (c := Y) (by simp)).2.2, (KS.ca (g := gz) (c := Z) (by simp)).1, (KS.ca (g := gz) (c := Z) (by simp)).2.1, (KS.ca (g := gz) (c := Z) (by simp)).2.2, (KS.ca (g := go) (c := CaV.zero) (by simp)).1, (KS.ca (g := go) (c := CaV.zero) (by simp)).2.1, (KS.ca (g := go) (c := CaV.zero) (by simp)).2.2⟩
  have R6B0 := Lib.hid (show Below w11.heap.size w11 w11.drew from (Below.refl _ _).drew)
  generalize hwd : World.drew w11 = R6w00 at R6B0 hHeld ⊢
  clear hwd
  refine wpAnyH_take (i := 0) (oi := ⟨some 38, _, _, _, _, _⟩) (v := ?_) rfl (by kernel_rfl) (by kernel_rfl) (by kernel_rfl) (fun _ _ _ h => h) (Or.inl ⟨by rfl, ?_⟩) (by assumption) ?_
  rotate_left 1
  · intro w hSw
    (try dsimp only at hSw)
    go_simp
    try with_reducible rfl
  try simp only [Act.put, List.setIfInBounds_toArray, List.set_cons_zero, List.set_cons_succ]
  refine wpAnyH_ready (rs := [1]) (by kernel_rfl) (by simp) ?_
  refine AllReadyH.cons (o := ⟨some 39, _, _, _, _, _⟩) rfl (fun K hK => ?_) AllReadyH.nil
  go_simp
  refine (valid_l X cX true R6w00 ((K11.out.next R6B0.out).ok (g := gx) (c := X) (by simp)) HX.out q1 p1).mono ?_
  rintro e R6w1 ⟨rfl, hb⟩
  have R6B1 := Lib.hid (Below.trans R6B0.out (hb.mono R6B0.out.size))
  first
    | refine hK.out _ _ ?_ (fun hHeld => ?_)
    | (go_wp2_with fail
       refine hK.out _ _ ?_ (fun hHeld => ?_))
  · exact ⟨((K11.out.next R6B1.out).ca (g := gx) (c := X) (by simp)).1, ((K11.out.next R6B1.out).ca (g := gx) (c := X) (by simp)).2.1, ((K11.out.next R6B1.out).ca (g := gx) (c := X) (by simp)).2.2, ((K11.out.next R6B1.out).ca (g := gy) (c := Y) (by simp)).1, ((K11.out.next R6B1.out).ca (g := gy) (c := Y) (by simp)).2.1, ((K11.out.next R6B1.out).ca (g := gy) (c := Y) (by simp)).2.2, ((K11.out.next R6B1.out).ca (g := gz) (c := Z) (by simp)).1, ((K11.out.next R6B1.out).ca (g := gz) (c := Z) (by simp)).2.1, ((K11.out.next R6B1.out).ca (g := gz) (c := Z) (by simp)).2.2, ((K11.out.next R6B1.out).ca (g := go) (c := CaV.zero) (by simp)).1, ((K11.out.next R6B1.out).ca (g := go) (c := CaV.zero) (by simp)).2.1, ((K11.out.next R6B1.out).ca (g := go) (c := CaV.zero) (by simp)).2.2⟩
  clear hK hb R6B0
  try simp only [Act.put, List.setIfInBounds_toArray, List.set_cons_zero, List.set_cons_succ]
  refine wpAnyH_take (i := 2) (oi := ⟨some 40, _, _, _, _, _⟩) (v := ?_) rfl (by kernel_rfl) (by kernel_rfl) (by kernel_rfl) (fun _ _ _ h => h) (Or.inl ⟨by rfl, ?_⟩) (by assumption) ?_
  rotate_left 1
  · intro w hSw
    (try dsimp only at hSw)
    go_simp
    try with_reducible rfl
  try simp only [Act.put, List.setIfInBounds_toArray, List.set_cons_zero, List.set_cons_succ]
  refine wpAnyH_take (i := 3) (oi := ⟨some 41, _, _, _, _, _⟩) (v := ?_) rfl (by kernel_rfl) (by kernel_rfl) (by kernel_rfl) (fun _ _ _ h => h) (Or.inl ⟨by rfl, ?_⟩) (by assumption) ?_
  rotate_left 1
  · intro w hSw
    (try dsimp only at hSw)
    go_simp
    try with_reducible rfl
  try simp only [Act.put, List.setIfInBounds_toArray, List.set_cons_zero, List.set_cons_succ]
  refine wpAnyH_take (i := 4) (oi := ⟨some 42, _, _, _, _, _⟩) (v := ?_) rfl (by kernel_rfl) (by kernel_rfl) (by kernel_rfl) (fun _ _ _ h => h) (Or.inl ⟨by rfl, ?_⟩) (by assumption) ?_
  rotate_left 1
  · intro w hSw
    (try dsimp only at hSw)
    go_simp
    try with_reducible rfl
  try simp only [Act.put, List.setIfInBounds_toArray, List.set_cons_zero, List.set_cons_succ]
  refine wpAnyH_ready (rs := [5]) (by kernel_rfl) (by simp) ?_
  refine AllReadyH.cons (o := ⟨some 43, _, _, _, _, _⟩) rfl (fun K hK => ?_) AllReadyH.nil
  go_simp
  refine (valid_l Y cY false R6w1 ((K11.out.next R6B1.out).ok (g := gy) (c := Y) (by simp)) HY.out q2 p2).mono ?_
  rintro e R6w2 ⟨rfl, hb⟩
  have R6B2 := Lib.hid (Below.trans R6B1.out (hb.mono R6B1.out.size))
  first
    | refine hK.out _ _ ?_ (fun hHeld => ?_)
    | (go_wp2_with fail
       refine hK.out _ _ ?_ (fun hHeld => ?_))
  · exact ⟨((K11.out.next R6B2.out).ca (g := gx) (c := X) (by simp)).1, ((K11.out.next R6B2.out).ca (g := gx) (c := X) (by simp)).2.1, ((K11.out.next R6B2.out).ca (g := gx) (c := X) (by simp)).2.2, ((K11.out.next R6B2.out).ca (g := gy) (c := Y) (by simp)).1, ((K11.out.next R6B2.out).ca (g := gy) (c := Y) (by simp)).2.1, ((K11.out.next R6B2.out).ca (g := gy) (c := Y) (by simp)).2.2, ((K11.out.next R6B2.out).ca (g := gz) (c := Z) (by simp)).1, ((K11.out.next R6B2.out).ca (g := gz) (c := Z) (by simp)).2.1, ((K11.out.next R6B2.out).ca (g := gz) (c := Z) (by simp)).2.2, ((K11.out.next R6B2.out).ca (g := go) (c := CaV.zero) (by simp)).1, ((K11.out.next R6B2.out).ca (g := go) (c := CaV.zero) (by simp)).2.1, ((K11.out.next R6B2.out).ca (g := go) (c := CaV.zero) (by simp)).2.2⟩
  clear hK hb R6B1
  try simp only [Act.put, List.setIfInBounds_toArray, List.set_cons_zero, List.set_cons_succ]
  refine wpAnyH_take (i := 6) (oi := ⟨some 44, _, _, _, _, _⟩) (v := ?_) rfl (by kernel_rfl) (by kernel_rfl) (by kernel_rfl) (fun _ _ _ h => h) (Or.inl ⟨by rfl, ?_⟩) (by assumption) ?_
  rotate_left 1
  · intro w hSw
    (try dsimp only at hSw)
    go_simp
    try with_reducible rfl
  try simp only [Act.put, List.setIfInBounds_toArray, List.set_cons_zero, List.set_cons_succ]
  refine wpAnyH_take (i := 7) (oi := ⟨some 45, _, _, _, _, _⟩) (v := ?_) rfl (by kernel_rfl) (by kernel_rfl) (by kernel_rfl) (fun _ _ _ h => h) (Or.inl ⟨by rfl, ?_⟩) (by assumption) ?_
  rotate_left 1
  · intro w hSw
    (try dsimp only at hSw)
    go_simp
    try with_reducible rfl
  try simp only [Act.put, List.setIfInBounds_toArray, List.set_cons_zero, List.set_cons_succ]
  refine wpAnyH_take (i := 8) (oi := ⟨some 46, _, _, _, _, _⟩) (v := ?_) rfl (by kernel_rfl) (by kernel_rfl) (by kernel_rfl) (fun _ _ _ h => h) (Or.inl ⟨by rfl, ?_⟩) (by assumption) ?_
  rotate_left 1
  · intro w hSw
    (try dsimp only at hSw)
    go_simp
    try with_reducible rfl
  try simp only [Act.put, List.setIfInBounds_toArray, List.set_cons_zero, List.set_cons_succ]
  refine wpAnyH_ready (rs := [9]) (by kernel_rfl) (by simp) ?_
  refine AllReadyH.cons (o := ⟨some 47, _, _, _, _, _⟩) rfl (fun K hK => ?_) AllReadyH.nil
  go_simp
  refine (valid_l CaV.zero cO true R6w2 ((K11.out.next R6B2.out).ok (g := go) (c := CaV.zero) (by simp)) rfl q4 p3).mono ?_
  rintro e R6w3 ⟨rfl, hb⟩
  have R6B3 := Lib.hid (Below.trans R6B2.out (hb.mono R6B2.out.size))
  first
    | refine hK.out _ _ ?_ (fun hHeld => ?_)
    | (go_wp2_with fail
       refine hK.out _ _ ?_ (fun hHeld => ?_))
  · exact ⟨((K11.out.next R6B3.out).ca (g := gx) (c := X) (by simp)).1, ((K11.out.next R6B3.out).ca (g := gx) (c := X) (by simp)).2.1, ((K11.out.next R6B3.out).ca (g := gx) (c := X) (by simp)).2.2, ((K11.out.next R6B3.out).ca (g := gy) (c := Y) (by simp)).1, ((K11.out.next R6B3.out).ca (g := gy) (c := Y) (by simp)).2.1, ((K11.out.next R6B3.out).ca (g := gy) (c := Y) (by simp)).2.2, ((K11.out.next R6B3.out).ca (g := gz) (c := Z) (by simp)).1, ((K11.out.next R6B3.out).ca (g := gz) (c := Z) (by simp)).2.1, ((K11.out.next R6B3.out).ca (g := gz) (c := Z) (by simp)).2.2, ((K11.out.next R6B3.out).ca (g := go) (c := CaV.zero) (by simp)).1, ((K11.out.next R6B3.out).ca (g := go) (c := CaV.zero) (by simp)).2.1, ((K11.out.next R6B3.out).ca (g := go) (c := CaV.zero) (by simp)).2.2⟩
  clear hK hb R6B2
  try simp only [Act.put, List.setIfInBounds_toArray, List.set_cons_zero, List.set_cons_succ]
  refine wpAnyH_take (i := 10) (oi := ⟨some 48, _, _, _, _, _⟩) (v := ?_) rfl (by kernel_rfl) (by kernel_rfl) (by kernel_rfl) (fun _ _ _ h => h) (Or.inl ⟨by rfl, ?_⟩) (by assumption) ?_
  rotate_left 1
  · intro w hSw
    (try dsimp only at hSw)
    go_simp
    try with_reducible rfl
  try simp only [Act.put, List.setIfInBounds_toArray, List.set_cons_zero, List.set_cons_succ]
  refine wpAnyH_take (i := 11) (oi := ⟨some 49, _, _, _, _, _⟩) (v := ?_) rfl (by kernel_rfl) (by kernel_rfl) (by kernel_rfl) (fun _ _ _ h => h) (Or.inl ⟨by rfl, ?_⟩) (by assumption) ?_
  rotate_left 1
  · intro w hSw
    (try dsimp only at hSw)
    go_simp
    try with_reducible rfl
  try simp only [Act.put, List.setIfInBounds_toArray, List.set_cons_zero, List.set_cons_succ]
  refine wpAnyH_take (i := 12) (oi := ⟨some 50, _, _, _, _, _⟩) (v := ?_) rfl (by kernel_rfl) (by kernel_rfl) (by kernel_rfl) (fun _ _ _ h => h) (Or.inl ⟨by rfl, ?_⟩) (by assumption) ?_
  rotate_left 1
  · intro w hSw
    (try dsimp only at hSw)
    go_simp
    try with_reducible rfl
  try simp only [Act.put, List.setIfInBounds_toArray, List.set_cons_zero, List.set_cons_succ]
  refine wpAnyH_take (i := 16) (oi := ⟨some 54, _, _, _, _, _⟩) (v := ?_) rfl (by kernel_rfl) (by kernel_rfl) (by kernel_rfl) (fun _ _ _ h => h) (Or.inl ⟨by rfl, ?_⟩) (by assumption) ?_
  rotate_left 1
  · intro w hSw
    (try dsimp only at hSw)
    go_simp
    try with_reducible rfl
  try simp only [Act.put, List.setIfInBounds_toArray, List.set_cons_zero, List.set_cons_succ]
  refine wpAnyH_take (i := 17) (oi := ⟨some 55, _, _, _, _, _⟩) (v := ?_) rfl (by kernel_rfl) (by kernel_rfl) (by kernel_rfl) (fun _ _ _ h => h) (Or.inl ⟨by rfl, ?_⟩) (by assumption) ?_
  rotate_left 1
  · intro w hSw
    (try dsimp only at hSw)
    go_simp
    try with_reducible rfl
  try simp only [Act.put, List.setIfInBounds_toArray, List.set_cons_zero, List.set_cons_succ]
  refine wpAnyH_ready (rs := [13]) (by kernel_rfl) (by simp) ?_
  refine AllReadyH.cons (o := ⟨some 51, _, _, _, _, _⟩) rfl (fun K hK => ?_) AllReadyH.nil
  go_simp
  have hal := (Below.refl R6w3.heap.size R6w3).alloc (Nat.le_refl _) (.cells #[.int .i64 1, .int .i64 1] 3)
  have R6B4 := Lib.hid (Below.trans R6B3.out (hal.mono R6B3.out.size))
  have FD_4 := Lib.hid (ilit1 R6w3 1 1)
  refine hK.out _ _ ?_ (fun hHeld => ?_)
  · exact ⟨((K11.out.next R6B4.out).ca (g := gx) (c := X) (by simp)).1, ((K11.out.next R6B4.out).ca (g := gx) (c := X) (by simp)).2.1, ((K11.out.next R6B4.out).ca (g := gx) (c := X) (by simp)).2.2, ((K11.out.next R6B4.out).ca (g := gy) (c := Y) (by simp)).1, ((K11.out.next R6B4.out).ca (g := gy) (c := Y) (by simp)).2.1, ((K11.out.next R6B4.out).ca (g := gy) (c := Y) (by simp)).2.2, ((K11.out.next R6B4.out).ca (g := gz) (c := Z) (by simp)).1, ((K11.out.next R6B4.out).ca (g := gz) (c := Z) (by simp)).2.1, ((K11.out.next R6B4.out).ca (g := gz) (c := Z) (by simp)).2.2, ((K11.out.next R6B4.out).ca (g := go) (c := CaV.zero) (by simp)).1, ((K11.out.next R6B4.out).ca (g := go) (c := CaV.zero) (by simp)).2.1, ((K11.out.next R6B4.out).ca (g := go) (c := CaV.zero) (by simp)).2.2⟩
  clear hK hal R6B3
  try simp only [Act.put, List.setIfInBounds_toArray, List.set_cons_zero, List.set_cons_succ]
  generalize World.alloc R6w3 _ = R6w4 at R6B4 FD_4 hHeld ⊢
  refine wpAnyH_ready (rs := [14]) (by kernel_rfl) (by simp) ?_
  refine AllReadyH.cons (o := ⟨some 52, _, _, _, _, _⟩) rfl (fun K hK => ?_) AllReadyH.nil
  go_simp
  refine (dots1_l R6w3.heap.size 1 1 R6w4 FD_4.out).mono ?_
  rintro e R6w5 ⟨⟨A52, c52, rfl, hh⟩, hb⟩
  have R6B5 := Lib.hid (Below.trans R6B4.out (hb.mono R6B4.out.size))
  have FD_5 := Lib.hid (SlAt.below FD_4.out hb)
  have FH_5 := Lib.hid (hh)
  clear hh
  first
    | refine hK.out _ _ ?_ (fun hHeld => ?_)
    | (go_wp2_with fail
       refine hK.out _ _ ?_ (fun hHeld => ?_))
  · exact ⟨((K11.out.next R6B5.out).ca (g := gx) (c := X) (by simp)).1, ((K11.out.next R6B5.out).ca (g := gx) (c := X) (by simp)).2.1, ((K11.out.next R6B5.out).ca (g := gx) (c := X) (by simp)).2.2, ((K11.out.next R6B5.out).ca (g := gy) (c := Y) (by simp)).1, ((K11.out.next R6B5.out).ca (g := gy) (c := Y) (by simp)).2.1, ((K11.out.next R6B5.out).ca (g := gy) (c := Y) (by simp)).2.2, ((K11.out.next R6B5.out).ca (g := gz) (c := Z) (by simp)).1, ((K11.out.next R6B5.out).ca (g := gz) (c := Z) (by simp)).2.1, ((K11.out.next R6B5.out).ca (g := gz) (c := Z) (by simp)).2.2, ((K11.out.next R6B5.out).ca (g := go) (c := CaV.zero) (by simp)).1, ((K11.out.next R6B5.out).ca (g := go) (c := CaV.zero) (by simp)).2.1, ((K11.out.next R6B5.out).ca (g := go) (c := CaV.zero) (by simp)).2.2⟩
  clear hK hb FD_4 R6B4
  try simp only [Act.put, List.setIfInBounds_toArray, List.set_cons_zero, List.set_cons_succ]
  refine wpAnyH_take (i := 15) (oi := ⟨some 53, _, _, _, _, _⟩) (v := ?_) rfl (by kernel_rfl) (by kernel_rfl) (by kernel_rfl) (fun _ _ _ h => h) (Or.inl ⟨by rfl, ?_⟩) (by assumption) ?_
  rotate_left 1
  · intro w hSw
    (try dsimp only at hSw)
    go_simp
    try with_reducible rfl
  try simp only [Act.put, List.setIfInBounds_toArray, List.set_cons_zero, List.set_cons_succ]
  refine wpAnyH_take (i := 18) (oi := ⟨some 56, _, _, _, _, _⟩) (v := ?_) rfl (by kernel_rfl) (by kernel_rfl) (by kernel_rfl) (fun _ _ _ h => h) (Or.inl ⟨by rfl, ?_⟩) (by assumption) ?_
  rotate_left 1
  · intro w hSw
    (try dsimp only at hSw)
    go_simp
    try with_reducible rfl
  try simp only [Act.put, List.setIfInBounds_toArray, List.set_cons_zero, List.set_cons_succ]
  refine wpAnyH_ready (rs := [19]) (by kernel_rfl) (by simp) ?_
  refine AllReadyH.cons (o := ⟨some 57, _, _, _, _, _⟩) rfl (fun K hK => ?_) AllReadyH.nil
  go_simp
  refine (validX1 A52 c52 X R6w5 FH_5.out ((K11.out.next R6B5.out).ok (g := gx) (c := X) (by simp)) HX.out).mono ?_
  rintro e R6w6 ⟨rfl, hb⟩
  have R6B6 := Lib.hid (Below.trans R6B5.out (hb.mono R6B5.out.size))
  have FD_6 := Lib.hid (SlAt.below FD_5.out hb)
  have FH_6 := Lib.hid (FH_5.out.below hb)
  first
    | refine hK.out _ _ ?_ (fun hHeld => ?_)
    | (go_wp2_with fail
       refine hK.out _ _ ?_ (fun hHeld => ?_))
  · exact ⟨((K11.out.next R6B6.out).ca (g := gx) (c := X) (by simp)).1, ((K11.out.next R6B6.out).ca (g := gx) (c := X) (by simp)).2.1, ((K11.out.next R6B6.out).ca (g := gx) (c := X) (by simp)).2.2, ((K11.out.next R6B6.out).ca (g := gy) (c := Y) (by simp)).1, ((K11.out.next R6B6.out).ca (g := gy) (c := Y) (by simp)).2.1, ((K11.out.next R6B6.out).ca (g := gy) (c := Y) (by simp)).2.2, ((K11.out.next R6B6.out).ca (g := gz) (c := Z) (by simp)).1, ((K11.out.next R6B6.out).ca (g := gz) (c := Z) (by simp)).2.1, ((K11.out.next R6B6.out).ca (g := gz) (c := Z) (by simp)).2.2, ((K11.out.next R6B6.out).ca (g := go) (c := CaV.zero) (by simp)).1, ((K11.out.next R6B6.out).ca (g := go) (c := CaV.zero) (by simp)).2.1, ((K11.out.next R6B6.out).ca (g := go) (c := CaV.zero) (by simp)).2.2⟩
  clear hK hb FD_5 FH_5 R6B5
  try simp only [Act.put, List.setIfInBounds_toArray, List.set_cons_zero, List.set_cons_succ]
  refine wpAnyH_take (i := 20) (oi := ⟨some 58, _, _, _, _, _⟩) (v := ?_) rfl (by kernel_rfl) (by kernel_rfl) (by kernel_rfl) (fun _ _ _ h => h) (Or.inl ⟨by rfl, ?_⟩) (by assumption) ?_
  rotate_left 1
  · intro w hSw
    (try dsimp only at hSw)
    go_simp
    try with_reducible rfl
  try simp only [Act.put, List.setIfInBounds_toArray, List.set_cons_zero, List.set_cons_succ]
  refine wpAnyH_take (i := 21) (oi := ⟨some 59, _, _, _, _, _⟩) (v := ?_) rfl (by kernel_rfl) (by kernel_rfl) (by kernel_rfl) (fun _ _ _ h => h) (Or.inl ⟨by rfl, ?_⟩) (by assumption) ?_
  rotate_left 1
  · intro w hSw
    (try dsimp only at hSw)
    go_simp
    try with_reducible rfl
  try simp only [Act.put, List.setIfInBounds_toArray, List.set_cons_zero, List.set_cons_succ]
  refine wpAnyH_take (i := 27) (oi := ⟨some 65, _, _, _, _, _⟩) (v := ?_) rfl (by kernel_rfl) (by kernel_rfl) (by kernel_rfl) (fun _ _ _ h => h) (Or.inl ⟨by rfl, ?_⟩) (by assumption) ?_
  rotate_left 1
  · intro w hSw
    (try dsimp only at hSw)
    go_simp
    try with_reducible rfl
  try simp only [Act.put, List.setIfInBounds_toArray, List.set_cons_zero, List.set_cons_succ]
  refine wpAnyH_take (i := 28) (oi := ⟨some 66, _, _, _, _, _⟩) (v := ?_) rfl (by kernel_rfl) (by kernel_rfl) (by kernel_rfl) (fun _ _ _ h => h) (Or.inl ⟨by rfl, ?_⟩) (by assumption) ?_
  rotate_left 1
  · intro w hSw
    (try dsimp only at hSw)
    go_simp
    try with_reducible rfl
  try simp only [Act.put, List.setIfInBounds_toArray, List.set_cons_zero, List.set_cons_succ]
  refine wpAnyH_ready (rs := [22, 24]) (by kernel_rfl) (by simp) ?_
  refine AllReadyH.cons (o := ⟨some 60, _, _, _, _, _⟩) rfl (fun K hK => ?_) (AllReadyH.cons (o := ⟨some 62, _, _, _, _, _⟩) rfl (fun K hK => ?_) AllReadyH.nil)
  · go_simp
    have hal := (Below.refl R6w6.heap.size R6w6).alloc (Nat.le_refl _) (.cells #[.int .i64 1, .int .i64 1] 3)
    have R6B7 := Lib.hid (Below.trans R6B6.out (hal.mono R6B6.out.size))
    have FD_7 := Lib.hid (SlAt.below FD_6.out hal)
    have FH_7 := Lib.hid (FH_6.out.below hal)
    have FE_7 := Lib.hid (ilit1 R6w6 1 1)
    refine hK.out _ _ ?_ (fun hHeld => ?_)
    · exact ⟨((K11.out.next R6B7.out).ca (g := gx) (c := X) (by simp)).1, ((K11.out.next R6B7.out).ca (g := gx) (c := X) (by simp)).2.1, ((K11.out.next R6B7.out).ca (g := gx) (c := X) (by simp)).2.2, ((K11.out.next R6B7.out).ca (g := gy) (c := Y) (by simp)).1, ((K11.out.next R6B7.out).ca (g := gy) (c := Y) (by simp)).2.1, ((K11.out.next R6B7.out).ca (g := gy) (c := Y) (by simp)).2.2, ((K11.out.next R6B7.out).ca (g := gz) (c := Z) (by simp)).1, ((K11.out.next R6B7.out).ca (g := gz) (c := Z) (by simp)).2.1, ((K11.out.next R6B7.out).ca (g := gz) (c := Z) (by simp)).2.2, ((K11.out.next R6B7.out).ca (g := go) (c := CaV.zero) (by simp)).1, ((K11.out.next R6B7.out).ca (g := go) (c := CaV.zero) (by simp)).2.1, ((K11.out.next R6B7.out).ca (g := go) (c := CaV.zero) (by simp)).2.2⟩
    clear hK hal FD_6 FH_6 R6B6
    try simp only [Act.put, List.setIfInBounds_toArray, List.set_cons_zero, List.set_cons_succ]
    generalize World.alloc R6w6 _ = R6w7 at R6B7 FD_7 FH_7 FE_7 hHeld ⊢
    refine wpAnyH_ready (rs := [23, 24]) (by kernel_rfl) (by simp) ?_
    refine AllReadyH.cons (o := ⟨some 61, _, _, _, _, _⟩) rfl (fun K hK => ?_) (AllReadyH.cons (o := ⟨some 62, _, _, _, _, _⟩) rfl (fun K hK => ?_) AllReadyH.nil)
    · go_simp
      refine (dots1_l R6w6.heap.size 1 1 R6w7 FE_7.out).mono ?_
      rintro e R6w8 ⟨⟨A61, c61, rfl, hh⟩, hb⟩
      have R6B8 := Lib.hid (Below.trans R6B7.out (hb.mono R6B7.out.size))
      have FD_8 := Lib.hid (SlAt.below FD_7.out hb)
      have FH_8 := Lib.hid (FH_7.out.below hb)
      have FE_8 := Lib.hid (SlAt.below FE_7.out hb)
      have FJ_8 := Lib.hid (hh)
      clear hh
      first
        | refine hK.out _ _ ?_ (fun hHeld => ?_)
        | (go_wp2_with fail
           refine hK.out _ _ ?_ (fun hHeld => ?_))
      · exact ⟨((K11.out.next R6B8.out).ca (g := gx) (c := X) (by simp)).1, ((K11.out.next R6B8.out).ca (g := gx) (c := X) (by simp)).2.1, ((K11.out.next R6B8.out).ca (g := gx) (c := X) (by simp)).2.2, ((K11.out.next R6B8.out).ca (g := gy) (c := Y) (by simp)).1, ((K11.out.next R6B8.out).ca (g := gy) (c := Y) (by simp)).2.1, ((K11.out.next R6B8.out).ca (g := gy) (c := Y) (by simp)).2.2, ((K11.out.next R6B8.out).ca (g := gz) (c := Z) (by simp)).1, ((K11.out.next R6B8.out).ca (g := gz) (c := Z) (by simp)).2.1, ((K11.out.next R6B8.out).ca (g := gz) (c := Z) (by simp)).2.2, ((K11.out.next R6B8.out).ca (g := go) (c := CaV.zero) (by simp)).1, ((K11.out.next R6B8.out).ca (g := go) (c := CaV.zero) (by simp)).2.1, ((K11.out.next R6B8.out).ca (g := go) (c := CaV.zero) (by simp)).2.2⟩
      clear hK hb FD_7 FH_7 FE_7 R6B7
      try simp only [Act.put, List.setIfInBounds_toArray, List.set_cons_zero, List.set_cons_succ]
      refine wpAnyH_ready (rs := [24]) (by kernel_rfl) (by simp) ?_
      refine AllReadyH.cons (o := ⟨some 62, _, _, _, _, _⟩) rfl (fun K hK => ?_) AllReadyH.nil
      go_simp
      have hal := (Below.refl R6w8.heap.size R6w8).alloc (Nat.le_refl _) (.cells #[.int .i64 2, .int .i64 1] 3)
      have R6B9 := Lib.hid (Below.trans R6B8.out (hal.mono R6B8.out.size))
      have FD_9 := Lib.hid (SlAt.below FD_8.out hal)
      have FH_9 := Lib.hid (FH_8.out.below hal)
      have FE_9 := Lib.hid (SlAt.below FE_8.out hal)
      have FJ_9 := Lib.hid (FJ_8.out.below hal)
      have FG_9 := Lib.hid (ilit1 R6w8 2 1)
      refine hK.out _ _ ?_ (fun hHeld => ?_)
      · exact ⟨((K11.out.next R6B9.out).ca (g := gx) (c := X) (by simp)).1, ((K11.out.next R6B9.out).ca (g := gx) (c := X) (by simp)).2.1, ((K11.out.next R6B9.out).ca (g := gx) (c := X) (by simp)).2.2, ((K11.out.next R6B9.out).ca (g := gy) (c := Y) (by simp)).1, ((K11.out.next R6B9.out).ca (g := gy) (c := Y) (by simp)).2.1, ((K11.out.next R6B9.out).ca (g := gy) (c := Y) (by simp)).2.2, ((K11.out.next R6B9.out).ca (g := gz) (c := Z) (by simp)).1, ((K11.out.next R6B9.out).ca (g := gz) (c := Z) (by simp)).2.1, ((K11.out.next R6B9.out).ca (g := gz) (c := Z) (by simp)).2.2, ((K11.out.next R6B9.out).ca (g := go) (c := CaV.zero) (by simp)).1, ((K11.out.next R6B9.out).ca (g := go) (c := CaV.zero) (by simp)).2.1, ((K11.out.next R6B9.out).ca (g := go) (c := CaV.zero) (by simp)).2.2⟩
      clear hK hal FD_8 FH_8 FE_8 FJ_8 R6B8
      try simp only [Act.put, List.setIfInBounds_toArray, List.set_cons_zero, List.set_cons_succ]
      generalize World.alloc R6w8 _ = R6w9 at R6B9 FD_9 FH_9 FE_9 FJ_9 FG_9 hHeld ⊢
      refine wpAnyH_ready (rs := [25]) (by kernel_rfl) (by simp) ?_
      refine AllReadyH.cons (o := ⟨some 63, _, _, _, _, _⟩) rfl (fun K hK => ?_) AllReadyH.nil
      go_simp
      refine (dots1_l R6w8.heap.size 2 1 R6w9 FG_9.out).mono ?_
      rintro e R6w10 ⟨⟨A63, c63, rfl, hh⟩, hb⟩
      have R6B10 := Lib.hid (Below.trans R6B9.out (hb.mono R6B9.out.size))
      have FD_10 := Lib.hid (SlAt.below FD_9.out hb)
      have FH_10 := Lib.hid (FH_9.out.below hb)
      have FE_10 := Lib.hid (SlAt.below FE_9.out hb)
      have FJ_10 := Lib.hid (FJ_9.out.below hb)
      have FG_10 := Lib.hid (SlAt.below FG_9.out hb)
      have FK_10 := Lib.hid (hh)
      clear hh
      first
        | refine hK.out _ _ ?_ (fun hHeld => ?_)
        | (go_wp2_with fail
           refine hK.out _ _ ?_ (fun hHeld => ?_))
      · exact ⟨((K11.out.next R6B10.out).ca (g := gx) (c := X) (by simp)).1, ((K11.out.next R6B10.out).ca (g := gx) (c := X) (by simp)).2.1, ((K11.out.next R6B10.out).ca (g := gx) (c := X) (by simp)).2.2, ((K11.out.next R6B10.out).ca (g := gy) (c := Y) (by simp)).1, ((K11.out.next R6B10.out).ca (g := gy) (c := Y) (by simp)).2.1, ((K11.out.next R6B10.out).ca (g := gy) (c := Y) (by simp)).2.2, ((K11.out.next R6B10.out).ca (g := gz) (c := Z) (by simp)).1, ((K11.out.next R6B10.out).ca (g := gz) (c := Z) (by simp)).2.1, ((K11.out.next R6B10.out).ca (g := gz) (c := Z) (by simp)).2.2, ((K11.out.next R6B10.out).ca (g := go) (c := CaV.zero) (by simp)).1, ((K11.out.next R6B10.out).ca (g := go) (c := CaV.zero) (by simp)).2.1, ((K11.out.next R6B10.out).ca (g := go) (c := CaV.zero) (by simp)).2.2⟩
      clear hK hb FD_9 FH_9 FE_9 FJ_9 FG_9 R6B9
      try simp only [Act.put, List.setIfInBounds_toArray, List.set_cons_zero, List.set_cons_succ]
      refine wpAnyH_take (i := 26) (oi := ⟨some 64, _, _, _, _, _⟩) (v := ?_) rfl (by kernel_rfl) (by kernel_rfl) (by kernel_rfl) (fun _ _ _ h => h) (Or.inl ⟨by rfl, ?_⟩) (by assumption) ?_
      rotate_left 1
      · intro w hSw
        (try dsimp only at hSw)
        go_simp
        try with_reducible rfl
      try simp only [Act.put, List.setIfInBounds_toArray, List.set_cons_zero, List.set_cons_succ]
      refine wpAnyH_take (i := 29) (oi := ⟨some 67, _, _, _, _, _⟩) (v := ?_) rfl (by kernel_rfl) (by kernel_rfl) (by kernel_rfl) (fun _ _ _ h => h) (Or.inl ⟨by rfl, ?_⟩) (by assumption) ?_
      rotate_left 1
      · intro w hSw
        (try dsimp only at hSw)
        go_simp
        try with_reducible rfl
      try simp only [Act.put, List.setIfInBounds_toArray, List.set_cons_zero, List.set_cons_succ]
      refine wpAnyH_ready (rs := [30]) (by kernel_rfl) (by simp) ?_
      refine AllReadyH.cons (o := ⟨some 68, _, _, _, _, _⟩) rfl (fun K hK => ?_) AllReadyH.nil
      go_simp
      refine (validX2 A61 A63 c61 c63 X R6w10 FJ_10.out FK_10.out ((K11.out.next R6B10.out).ok (g := gx) (c := X) (by simp)) HX.out).mono ?_
      rintro e R6w11 ⟨rfl, hb⟩
      have R6B11 := Lib.hid (Below.trans R6B10.out (hb.mono R6B10.out.size))
      have FD_11 := Lib.hid (SlAt.below FD_10.out hb)
      have FH_11 := Lib.hid (FH_10.out.below hb)
      have FE_11 := Lib.hid (SlAt.below FE_10.out hb)
      have FJ_11 := Lib.hid (FJ_10.out.below hb)
      have FG_11 := Lib.hid (SlAt.below FG_10.out hb)
      have FK_11 := Lib.hid (FK_10.out.below hb)
      first
        | refine hK.out _ _ ?_ (fun hHeld => ?_)
        | (go_wp2_with fail
           refine hK.out _ _ ?_ (fun hHeld => ?_))
      · exact ⟨((K11.out.next R6B11.out).ca (g := gx) (c := X) (by simp)).1, ((K11.out.next R6B11.out).ca (g := gx) (c := X) (by simp)).2.1, ((K11.out.next R6B11.out).ca (g := gx) (c := X) (by simp)).2.2, ((K11.out.next R6B11.out).ca (g := gy) (c := Y) (by simp)).1, ((K11.out.next R6B11.out).ca (g := gy) (c := Y) (by simp)).2.1, ((K11.out.next R6B11.out).ca (g := gy) (c := Y) (by simp)).2.2, ((K11.out.next R6B11.out).ca (g := gz) (c := Z) (by simp)).1, ((K11.out.next R6B11.out).ca (g := gz) (c := Z) (by simp)).2.1, ((K11.out.next R6B11.out).ca (g := gz) (c := Z) (by simp)).2.2, ((K11.out.next R6B11.out).ca (g := go) (c := CaV.zero) (by simp)).1, ((K11.out.next R6B11.out).ca (g := go) (c := CaV.zero) (by simp)).2.1, ((K11.out.next R6B11.out).ca (g := go) (c := CaV.zero) (by simp)).2.2⟩
      clear hK hb FD_10 FH_10 FE_10 FJ_10 FG_10 FK_10 R6B10
      try simp only [Act.put, List.setIfInBounds_toArray, List.set_cons_zero, List.set_cons_succ]
      refine wpAnyH_take (i := 31) (oi := ⟨some 69, _, _, _, _, _⟩) (v := ?_) rfl (by kernel_rfl) (by kernel_rfl) (by kernel_rfl) (fun _ _ _ h => h) (Or.inl ⟨by rfl, ?_⟩) (by assumption) ?_
      rotate_left 1
      · intro w hSw
        (try dsimp only at hSw)
        go_simp
        try with_reducible rfl
      try simp only [Act.put, List.setIfInBounds_toArray, List.set_cons_zero, List.set_cons_succ]
      refine wpAnyH_take (i := 32) (oi := ⟨some 70, _, _, _, _, _⟩) (v := ?_) rfl (by kernel_rfl) (by kernel_rfl) (by kernel_rfl) (fun _ _ _ h => h) (Or.inl ⟨by rfl, ?_⟩) (by assumption) ?_
      rotate_left 1
      · intro w hSw
        (try dsimp only at hSw)
        go_simp
        try with_reducible rfl
      try simp only [Act.put, List.setIfInBounds_toArray, List.set_cons_zero, List.set_cons_succ]
      refine wpAnyH_take (i := 33) (oi := ⟨some 71, _, _, _, _, _⟩) (v := ?_) rfl (by kernel_rfl) (by kernel_rfl) (by kernel_rfl) (fun _ _ _ h => h) (Or.inl ⟨by rfl, ?_⟩) (by assumption) ?_
      rotate_left 1
      · intro w hSw
        (try dsimp only at hSw)
        go_simp
        try with_reducible rfl
      try simp only [Act.put, List.setIfInBounds_toArray, List.set_cons_zero, List.set_cons_succ]
      refine wpAnyH_take (i := 34) (oi := ⟨some 72, _, _, _, _, _⟩) (v := ?_) rfl (by kernel_rfl) (by kernel_rfl) (by kernel_rfl) (fun _ _ _ h => h) (Or.inl ⟨by rfl, ?_⟩) (by assumption) ?_
      rotate_left 1
      · intro w hSw
        (try dsimp only at hSw)
        go_simp
        try with_reducible rfl
      try simp only [Act.put, List.setIfInBounds_toArray, List.set_cons_zero, List.set_cons_succ]
      refine wpAnyH_ready (rs := [35]) (by kernel_rfl) (by simp) ?_
      refine AllReadyH.cons (o := ⟨some 73, _, _, _, _, _⟩) rfl (fun K hK => ?_) AllReadyH.nil
      go_simp
      refine (canon_l Y Z R6w11 ((K11.out.next R6B11.out).ok (g := gy) (c := Y) (by simp)) ((K11.out.next R6B11.out).ok (g := gz) (c := Z) (by simp)) HY.out HZ.out).mono ?_
      rintro e R6w12 ⟨rfl, hb⟩
      have R6B12 := Lib.hid (Below.trans R6B11.out (hb.mono R6B11.out.size))
      have FD_12 := Lib.hid (SlAt.below FD_11.out hb)
      have FH_12 := Lib.hid (FH_11.out.below hb)
      have FE_12 := Lib.hid (SlAt.below FE_11.out hb)
      have FJ_12 := Lib.hid (FJ_11.out.below hb)
      have FG_12 := Lib.hid (SlAt.below FG_11.out hb)
      have FK_12 := Lib.hid (FK_11.out.below hb)
      first
        | refine hK.out _ _ ?_ (fun hHeld => ?_)
        | (go_wp2_with fail
           refine hK.out _ _ ?_ (fun hHeld => ?_))
      · exact ⟨((K11.out.next R6B12.out).ca (g := gx) (c := X) (by simp)).1, ((K11.out.next R6B12.out).ca (g := gx) (c := X) (by simp)).2.1, ((K11.out.next R6B12.out).ca (g := gx) (c := X) (by simp)).2.2, ((K11.out.next R6B12.out).ca (g := gy) (c := Y) (by simp)).1, ((K11.out.next R6B12.out).ca (g := gy) (c := Y) (by simp)).2.1, ((K11.out.next R6B12.out).ca (g := gy) (c := Y) (by simp)).2.2, ((K11.out.next R6B12.out).ca (g := gz) (c := Z) (by simp)).1, ((K11.out.next R6B12.out).ca (g := gz) (c := Z) (by simp)).2.1, ((K11.out.next R6B12.out).ca (g := gz) (c := Z) (by simp)).2.2, ((K11.out.next R6B12.out).ca (g := go) (c := CaV.zero) (by simp)).1, ((K11.out.next R6B12.out).ca (g := go) (c := CaV.zero) (by simp)).2.1, ((K11.out.next R6B12.out).ca (g := go) (c := CaV.zero) (by simp)).2.2⟩
      clear hK hb FD_11 FH_11 FE_11 FJ_11 FG_11 FK_11 R6B11
      try simp only [Act.put, List.setIfInBounds_toArray, List.set_cons_zero, List.set_cons_succ]
      refine wpAnyH_take (i := 36) (oi := ⟨some 74, _, _, _, _, _⟩) (v := ?_) rfl (by kernel_rfl) (by kernel_rfl) (by kernel_rfl) (fun _ _ _ h => h) (Or.inl ⟨by rfl, ?_⟩) (by assumption) ?_
      rotate_left 1
      · intro w hSw
        (try dsimp only at hSw)
        go_simp
        try with_reducible rfl
      try simp only [Act.put, List.setIfInBounds_toArray, List.set_cons_zero, List.set_cons_succ]
      refine wpAnyH_take (i := 37) (oi := ⟨some 75, _, _, _, _, _⟩) (v := ?_) rfl (by kernel_rfl) (by kernel_rfl) (by kernel_rfl) (fun _ _ _ h => h) (Or.inl ⟨by rfl, ?_⟩) (by assumption) ?_
      rotate_left 1
      · intro w hSw
        (try dsimp only at hSw)
        go_simp
        try with_reducible rfl
      try simp only [Act.put, List.setIfInBounds_toArray, List.set_cons_zero, List.set_cons_succ]
      refine wpAnyH_done (by kernel_rfl) ?_ _
      have KF := Lib.hid (K11.out.next R6B12.out)
      clear hHeld
      go_wp2_with fail
      go_meet
      exact ⟨by rfl, KF⟩
    · go_simp
      have hal := (Below.refl R6w7.heap.size R6w7).alloc (Nat.le_refl _) (.cells #[.int .i64 2, .int .i64 1] 3)
      have R6B8 := Lib.hid (Below.trans R6B7.out (hal.mono R6B7.out.size))
      have FD_8 := Lib.hid (SlAt.below FD_7.out hal)
      have FH_8 := Lib.hid (FH_7.out.below hal)
      have FE_8 := Lib.hid (SlAt.below FE_7.out hal)
      have FG_8 := Lib.hid (ilit1 R6w7 2 1)
      refine hK.out _ _ ?_ (fun hHeld => ?_)
      · exact ⟨((K11.out.next R6B8.out).ca (g := gx) (c := X) (by simp)).1, ((K11.out.next R6B8.out).ca (g := gx) (c := X) (by simp)).2.1, ((K11.out.next R6B8.out).ca (g := gx) (c := X) (by simp)).2.2, ((K11.out.next R6B8.out).ca (g := gy) (c := Y) (by simp)).1, ((K11.out.next R6B8.out).ca (g := gy) (c := Y) (by simp)).2.1, ((K11.out.next R6B8.out).ca (g := gy) (c := Y) (by simp)).2.2, ((K11.out.next R6B8.out).ca (g := gz) (c := Z) (by simp)).1, ((K11.out.next R6B8.out).ca (g := gz) (c := Z) (by simp)).2.1, ((K11.out.next R6B8.out).ca (g := gz) (c := Z) (by simp)).2.2, ((K11.out.next R6B8.out).ca (g := go) (c := CaV.zero) (by simp)).1, ((K11.out.next R6B8.out).ca (g := go) (c := CaV.zero) (by simp)).2.1, ((K11.out.next R6B8.out).ca (g := go) (c := CaV.zero) (by simp)).2.2⟩
      clear hK hal FD_7 FH_7 FE_7 R6B7
      try simp only [Act.put, List.setIfInBounds_toArray, List.set_cons_zero, List.set_cons_succ]
      generalize World.alloc R6w7 _ = R6w8 at R6B8 FD_8 FH_8 FE_8 FG_8 hHeld ⊢
      refine wpAnyH_ready (rs := [23]) (by kernel_rfl) (by simp) ?_
      refine AllReadyH.cons (o := ⟨some 61, _, _, _, _, _⟩) rfl (fun K hK => ?_) AllReadyH.nil
      go_simp
      refine (dots1_l R6w6.heap.size 1 1 R6w8 FE_8.out).mono ?_
      rintro e R6w9 ⟨⟨A61, c61, rfl, hh⟩, hb⟩
      have R6B9 := Lib.hid (Below.trans R6B8.out (hb.mono R6B8.out.size))
      have FD_9 := Lib.hid (SlAt.below FD_8.out hb)
      have FH_9 := Lib.hid (FH_8.out.below hb)
      have FE_9 := Lib.hid (SlAt.below FE_8.out hb)
      have FG_9 := Lib.hid (SlAt.below FG_8.out hb)
      have FJ_9 := Lib.hid (hh)
      clear hh
      first
        | refine hK.out _ _ ?_ (fun hHeld => ?_)
        | (go_wp2_with fail
           refine hK.out _ _ ?_ (fun hHeld => ?_))
      · exact ⟨((K11.out.next R6B9.out).ca (g := gx) (c := X) (by simp)).1, ((K11.out.next R6B9.out).ca (g := gx) (c := X) (by simp)).2.1, ((K11.out.next R6B9.out).ca (g := gx) (c := X) (by simp)).2.2, ((K11.out.next R6B9.out).ca (g := gy) (c := Y) (by simp)).1, ((K11.out.next R6B9.out).ca (g := gy) (c := Y) (by simp)).2.1, ((K11.out.next R6B9.out).ca (g := gy) (c := Y) (by simp)).2.2, ((K11.out.next R6B9.out).ca (g := gz) (c := Z) (by simp)).1, ((K11.out.next R6B9.out).ca (g := gz) (c := Z) (by simp)).2.1, ((K11.out.next R6B9.out).ca (g := gz) (c := Z) (by simp)).2.2, ((K11.out.next R6B9.out).ca (g := go) (c := CaV.zero) (by simp)).1, ((K11.out.next R6B9.out).ca (g := go) (c := CaV.zero) (by simp)).2.1, ((K11.out.next R6B9.out).ca (g := go) (c := CaV.zero) (by simp)).2.2⟩
      clear hK hb FD_8 FH_8 FE_8 FG_8 R6B8
      try simp only [Act.put, List.setIfInBounds_toArray, List.set_cons_zero, List.set_cons_succ]
      refine wpAnyH_ready (rs := [25]) (by kernel_rfl) (by simp) ?_
      refine AllReadyH.cons (o := ⟨some 63, _, _, _, _, _⟩) rfl (fun K hK => ?_) AllReadyH.nil
      go_simp
      refine (dots1_l R6w7.heap.size 2 1 R6w9 FG_9.out).mono ?_
      rintro e R6w10 ⟨⟨A63, c63, rfl, hh⟩, hb⟩
      have R6B10 := Lib.hid (Below.trans R6B9.out (hb.mono R6B9.out.size))
      have FD_10 := Lib.hid (SlAt.below FD_9.out hb)
      have FH_10 := Lib.hid (FH_9.out.below hb)
      have FE_10 := Lib.hid (SlAt.below FE_9.out hb)
      have FG_10 := Lib.hid (SlAt.below FG_9.out hb)
      have FJ_10 := Lib.hid (FJ_9.out.below hb)
      have FK_10 := Lib.hid (hh)
      clear hh
      first
        | refine hK.out _ _ ?_ (fun hHeld => ?_)
        | (go_wp2_with fail
           refine hK.out _ _ ?_ (fun hHeld => ?_))
      · exact ⟨((K11.out.next R6B10.out).ca (g := gx) (c := X) (by simp)).1, ((K11.out.next R6B10.out).ca (g := gx) (c := X) (by simp)).2.1, ((K11.out.next R6B10.out).ca (g := gx) (c := X) (by simp)).2.2, ((K11.out.next R6B10.out).ca (g := gy) (c := Y) (by simp)).1, ((K11.out.next R6B10.out).ca (g := gy) (c := Y) (by simp)).2.1, ((K11.out.next R6B10.out).ca (g := gy) (c := Y) (by simp)).2.2, ((K11.out.next R6B10.out).ca (g := gz) (c := Z) (by simp)).1, ((K11.out.next R6B10.out).ca (g := gz) (c := Z) (by simp)).2.1, ((K11.out.next R6B10.out).ca (g := gz) (c := Z) (by simp)).2.2, ((K11.out.next R6B10.out).ca (g := go) (c := CaV.zero) (by simp)).1, ((K11.out.next R6B10.out).ca (g := go) (c := CaV.zero) (by simp)).2.1, ((K11.out.next R6B10.out).ca (g := go) (c := CaV.zero) (by simp)).2.2⟩
      clear hK hb FD_9 FH_9 FE_9 FG_9 FJ_9 R6B9
      try simp only [Act.put, List.setIfInBounds_toArray, List.set_cons_zero, List.set_cons_succ]
      refine wpAnyH_take (i := 26) (oi := ⟨some 64, _, _, _, _, _⟩) (v := ?_) rfl (by kernel_rfl) (by kernel_rfl) (by kernel_rfl) (fun _ _ _ h => h) (Or.inl ⟨by rfl, ?_⟩) (by assumption) ?_
      rotate_left 1
      · intro w hSw
        (try dsimp only at hSw)
        go_simp
        try with_reducible rfl
      try simp only [Act.put, List.setIfInBounds_toArray, List.set_cons_zero, List.set_cons_succ]
      refine wpAnyH_take (i := 29) (oi := ⟨some 67, _, _, _, _, _⟩) (v := ?_) rfl (by kernel_rfl) (by kernel_rfl) (by kernel_rfl) (fun _ _ _ h => h) (Or.inl ⟨by rfl, ?_⟩) (by assumption) ?_
      rotate_left 1
      · intro w hSw
        (try dsimp only at hSw)
        go_simp
        try with_reducible rfl
      try simp only [Act.put, List.setIfInBounds_toArray, List.set_cons_zero, List.set_cons_succ]
      refine wpAnyH_ready (rs := [30]) (by kernel_rfl) (by simp) ?_
      refine AllReadyH.cons (o := ⟨some 68, _, _, _, _, _⟩) rfl (fun K hK => ?_) AllReadyH.nil
      go_simp
      refine (validX2 A61 A63 c61 c63 X R6w10 FJ_10.out FK_10.out ((K11.out.next R6B10.out).ok (g := gx) (c := X) (by simp)) HX.out).mono ?_
      rintro e R6w11 ⟨rfl, hb⟩
      have R6B11 := Lib.hid (Below.trans R6B10.out (hb.mono R6B10.out.size))
      have FD_11 := Lib.hid (SlAt.below FD_10.out hb)
      have FH_11 := Lib.hid (FH_10.out.below hb)
      have FE_11 := Lib.hid (SlAt.below FE_10.out hb)
      have FG_11 := Lib.hid (SlAt.below FG_10.out hb)
      have FJ_11 := Lib.hid (FJ_10.out.below hb)
      have FK_11 := Lib.hid (FK_10.out.below hb)
      first
        | refine hK.out _ _ ?_ (fun hHeld => ?_)
        | (go_wp2_with fail
           refine hK.out _ _ ?_ (fun hHeld => ?_))
      · exact ⟨((K11.out.next R6B11.out).ca (g := gx) (c := X) (by simp)).1, ((K11.out.next R6B11.out).ca (g := gx) (c := X) (by simp)).2.1, ((K11.out.next R6B11.out).ca (g := gx) (c := X) (by simp)).2.2, ((K11.out.next R6B11.out).ca (g := gy) (c := Y) (by simp)).1, ((K11.out.next R6B11.out).ca (g := gy) (c := Y) (by simp)).2.1, ((K11.out.next R6B11.out).ca (g := gy) (c := Y) (by simp)).2.2, ((K11.out.next R6B11.out).ca (g := gz) (c := Z) (by simp)).1, ((K11.out.next R6B11.out).ca (g := gz) (c := Z) (by simp)).2.1, ((K11.out.next R6B11.out).ca (g := gz) (c := Z) (by simp)).2.2, ((K11.out.next R6B11.out).ca (g := go) (c := CaV.zero) (by simp)).1, ((K11.out.next R6B11.out).ca (g := go) (c := CaV.zero) (by simp)).2.1, ((K11.out.next R6B11.out).ca (g := go) (c := CaV.zero) (by simp)).2.2⟩
      clear hK hb FD_10 FH_10 FE_10 FG_10 FJ_10 FK_10 R6B10
      try simp only [Act.put, List.setIfInBounds_toArray, List.set_cons_zero, List.set_cons_succ]
      refine wpAnyH_take (i := 31) (oi := ⟨some 69, _, _, _, _, _⟩) (v := ?_) rfl (by kernel_rfl) (by kernel_rfl) (by kernel_rfl) (fun _ _ _ h => h) (Or.inl ⟨by rfl, ?_⟩) (by assumption) ?_
      rotate_left 1
      · intro w hSw
        (try dsimp only at hSw)
        go_simp
        try with_reducible rfl
      try simp only [Act.put, List.setIfInBounds_toArray, List.set_cons_zero, List.set_cons_succ]
      refine wpAnyH_take (i := 32) (oi := ⟨some 70, _, _, _, _, _⟩) (v := ?_) rfl (by kernel_rfl) (by kernel_rfl) (by kernel_rfl) (fun _ _ _ h => h) (Or.inl ⟨by rfl, ?_⟩) (by assumption) ?_
      rotate_left 1
      · intro w hSw
        (try dsimp only at hSw)
        go_simp
        try with_reducible rfl
      try simp only [Act.put, List.setIfInBounds_toArray, List.set_cons_zero, List.set_cons_succ]
      refine wpAnyH_take (i := 33) (oi := ⟨some 71, _, _, _, _, _⟩) (v := ?_) rfl (by kernel_rfl) (by kernel_rfl) (by kernel_rfl) (fun _ _ _ h => h) (Or.inl ⟨by rfl, ?_⟩) (by assumption) ?_
      rotate_left 1
      · intro w hSw
        (try dsimp only at hSw)
        go_simp
        try with_reducible rfl
      try simp only [Act.put, List.setIfInBounds_toArray, List.set_cons_zero, List.set_cons_succ]
      refine wpAnyH_take (i := 34) (oi := ⟨some 72, _, _, _, _, _⟩) (v := ?_) rfl (by kernel_rfl) (by kernel_rfl) (by kernel_rfl) (fun _ _ _ h => h) (Or.inl ⟨by rfl, ?_⟩) (by assumption) ?_
      rotate_left 1
      · intro w hSw
        (try dsimp only at hSw)
        go_simp
        try with_reducible rfl
      try simp only [Act.put, List.setIfInBounds_toArray, List.set_cons_zero, List.set_cons_succ]
      refine wpAnyH_ready (rs := [35]) (by kernel_rfl) (by simp) ?_
      refine AllReadyH.cons (o := ⟨some 73, _, _, _, _, _⟩) rfl (fun K hK => ?_) AllReadyH.nil
      go_simp
      refine (canon_l Y Z R6w11 ((K11.out.next R6B11.out).ok (g := gy) (c := Y) (by simp)) ((K11.out.next R6B11.out).ok (g := gz) (c := Z) (by simp)) HY.out HZ.out).mono ?_
      rintro e R6w12 ⟨rfl, hb⟩
      have R6B12 := Lib.hid (Below.trans R6B11.out (hb.mono R6B11.out.size))
      have FD_12 := Lib.hid (SlAt.below FD_11.out hb)
      have FH_12 := Lib.hid (FH_11.out.below hb)
      have FE_12 := Lib.hid (SlAt.below FE_11.out hb)
      have FG_12 := Lib.hid (SlAt.below FG_11.out hb)
      have FJ_12 := Lib.hid (FJ_11.out.below hb)
      have FK_12 := Lib.hid (FK_11.out.below hb)
      first
        | refine hK.out _ _ ?_ (fun hHeld => ?_)
        | (go_wp2_with fail
           refine hK.out _ _ ?_ (fun hHeld => ?_))
      · exact ⟨((K11.out.next R6B12.out).ca (g := gx) (c := X) (by simp)).1, ((K11.out.next R6B12.out).ca (g := gx) (c := X) (by simp)).2.1, ((K11.out.next R6B12.out).ca (g := gx) (c := X) (by simp)).2.2, ((K11.out.next R6B12.out).ca (g := gy) (c := Y) (by simp)).1, ((K11.out.next R6B12.out).ca (g := gy) (c := Y) (by simp)).2.1, ((K11.out.next R6B12.out).ca (g := gy) (c := Y) (by simp)).2.2, ((K11.out.next R6B12.out).ca (g := gz) (c := Z) (by simp)).1, ((K11.out.next R6B12.out).ca (g := gz) (c := Z) (by simp)).2.1, ((K11.out.next R6B12.out).ca (g := gz) (c := Z) (by simp)).2.2, ((K11.out.next R6B12.out).ca (g := go) (c := CaV.zero) (by simp)).1, ((K11.out.next R6B12.out).ca (g := go) (c := CaV.zero) (by simp)).2.1, ((K11.out.next R6B12.out).ca (g := go) (c := CaV.zero) (by simp)).2.2⟩
      clear hK hb FD_11 FH_11 FE_11 FG_11 FJ_11 FK_11 R6B11
      try simp only [Act.put, List.setIfInBounds_toArray, List.set_cons_zero, List.set_cons_succ]
      refine wpAnyH_take (i := 36) (oi := ⟨some 74, _, _, _, _, _⟩) (v := ?_) rfl (by kernel_rfl) (by kernel_rfl) (by kernel_rfl) (fun _ _ _ h => h) (Or.inl ⟨by rfl, ?_⟩) (by assumption) ?_
      rotate_left 1
      · intro w hSw
        (try dsimp only at hSw)
        go_simp
        try with_reducible rfl
      try simp only [Act.put, List.setIfInBounds_toArray, List.set_cons_zero, List.set_cons_succ]
      refine wpAnyH_take (i := 37) (oi := ⟨some 75, _, _, _, _, _⟩) (v := ?_) rfl (by kernel_rfl) (by kernel_rfl) (by kernel_rfl) (fun _ _ _ h => h) (Or.inl ⟨by rfl, ?_⟩) (by assumption) ?_
      rotate_left 1
      · intro w hSw
        (try dsimp only at hSw)
        go_simp
        try with_reducible rfl
      try simp only [Act.put, List.setIfInBounds_toArray, List.set_cons_zero, List.set_cons_succ]
      refine wpAnyH_done (by kernel_rfl) ?_ _
      have KF := Lib.hid (K11.out.next R6B12.out)
      clear hHeld
      go_wp2_with fail
      go_meet
      exact ⟨by rfl, KF⟩
  · go_simp
    have hal := (Below.refl R6w6.heap.size R6w6).alloc (Nat.le_refl _) (.cells #[.int .i64 2, .int .i64 1] 3)
    have R6B7 := Lib.hid (Below.trans R6B6.out (hal.mono R6B6.out.size))
    have FD_7 := Lib.hid (SlAt.below FD_6.out hal)
    have FH_7 := Lib.hid (FH_6.out.below hal)
    have FG_7 := Lib.hid (ilit1 R6w6 2 1)
    refine hK.out _ _ ?_ (fun hHeld => ?_)
    · exact ⟨((K11.out.next R6B7.out).ca (g := gx) (c := X) (by simp)).1, ((K11.out.next R6B7.out).ca (g := gx) (c := X) (by simp)).2.1, ((K11.out.next R6B7.out).ca (g := gx) (c := X) (by simp)).2.2, ((K11.out.next R6B7.out).ca (g := gy) (c := Y) (by simp)).1, ((K11.out.next R6B7.out).ca (g := gy) (c := Y) (by simp)).2.1, ((K11.out.next R6B7.out).ca (g := gy) (c := Y) (by simp)).2.2, ((K11.out.next R6B7.out).ca (g := gz) (c := Z) (by simp)).1, ((K11.out.next R6B7.out).ca (g := gz) (c := Z) (by simp)).2.1, ((K11.out.next R6B7.out).ca (g := gz) (c := Z) (by simp)).2.2, ((K11.out.next R6B7.out).ca (g := go) (c := CaV.zero) (by simp)).1, ((K11.out.next R6B7.out).ca (g := go) (c := CaV.zero) (by simp)).2.1, ((K11.out.next R6B7.out).ca (g := go) (c := CaV.zero) (by simp)).2.2⟩
    clear hK hal FD_6 FH_6 R6B6
    try simp only [Act.put, List.setIfInBounds_toArray, List.set_cons_zero, List.set_cons_succ]
    generalize World.alloc R6w6 _ = R6w7 at R6B7 FD_7 FH_7 FG_7 hHeld ⊢
    refine wpAnyH_ready (rs := [22]) (by kernel_rfl) (by simp) ?_
    refine AllReadyH.cons (o := ⟨some 60, _, _, _, _, _⟩) rfl (fun K hK => ?_) AllReadyH.nil
    go_simp
    have hal := (Below.refl R6w7.heap.size R6w7).alloc (Nat.le_refl _) (.cells #[.int .i64 1, .int .i64 1] 3)
    have R6B8 := Lib.hid (Below.trans R6B7.out (hal.mono R6B7.out.size))
    have FD_8 := Lib.hid (SlAt.below FD_7.out hal)
    have FH_8 := Lib.hid (FH_7.out.below hal)
    have FG_8 := Lib.hid (SlAt.below FG_7.out hal)
    have FE_8 := Lib.hid (ilit1 R6w7 1 1)
    refine hK.out _ _ ?_ (fun hHeld => ?_)
    · exact ⟨((K11.out.next R6B8.out).ca (g := gx) (c := X) (by simp)).1, ((K11.out.next R6B8.out).ca (g := gx) (c := X) (by simp)).2.1, ((K11.out.next R6B8.out).ca (g := gx) (c := X) (by simp)).2.2, ((K11.out.next R6B8.out).ca (g := gy) (c := Y) (by simp)).1, ((K11.out.next R6B8.out).ca (g := gy) (c := Y) (by simp)).2.1, ((K11.out.next R6B8.out).ca (g := gy) (c := Y) (by simp)).2.2, ((K11.out.next R6B8.out).ca (g := gz) (c := Z) (by simp)).1, ((K11.out.next R6B8.out).ca (g := gz) (c := Z) (by simp)).2.1, ((K11.out.next R6B8.out).ca (g := gz) (c := Z) (by simp)).2.2, ((K11.out.next R6B8.out).ca (g := go) (c := CaV.zero) (by simp)).1, ((K11.out.next R6B8.out).ca (g := go) (c := CaV.zero) (by simp)).2.1, ((K11.out.next R6B8.out).ca (g := go) (c := CaV.zero) (by simp)).2.2⟩
    clear hK hal FD_7 FH_7 FG_7 R6B7
    try simp only [Act.put, List.setIfInBounds_toArray, List.set_cons_zero, List.set_cons_succ]
    generalize World.alloc R6w7 _ = R6w8 at R6B8 FD_8 FH_8 FG_8 FE_8 hHeld ⊢
    refine wpAnyH_ready (rs := [23]) (by kernel_rfl) (by simp) ?_
    refine AllReadyH.cons (o := ⟨some 61, _, _, _, _, _⟩) rfl (fun K hK => ?_) AllReadyH.nil
    go_simp
    refine (dots1_l R6w7.heap.size 1 1 R6w8 FE_8.out).mono ?_
    rintro e R6w9 ⟨⟨A61, c61, rfl, hh⟩, hb⟩
    have R6B9 := Lib.hid (Below.trans R6B8.out (hb.mono R6B8.out.size))
    have FD_9 := Lib.hid (SlAt.below FD_8.out hb)
    have FH_9 := Lib.hid (FH_8.out.below hb)
    have FG_9 := Lib.hid (SlAt.below FG_8.out hb)
    have FE_9 := Lib.hid (SlAt.below FE_8.out hb)
    have FJ_9 := Lib.hid (hh)
    clear hh
    first
      | refine hK.out _ _ ?_ (fun hHeld => ?_)
      | (go_wp2_with fail
         refine hK.out _ _ ?_ (fun hHeld => ?_))
    · exact ⟨((K11.out.next R6B9.out).ca (g := gx) (c := X) (by simp)).1, ((K11.out.next R6B9.out).ca (g := gx) (c := X) (by simp)).2.1, ((K11.out.next R6B9.out).ca (g := gx) (c := X) (by simp)).2.2, ((K11.out.next R6B9.out).ca (g := gy) (c := Y) (by simp)).1, ((K11.out.next R6B9.out).ca (g := gy) (c := Y) (by simp)).2.1, ((K11.out.next R6B9.out).ca (g := gy) (c := Y) (by simp)).2.2, ((K11.out.next R6B9.out).ca (g := gz) (c := Z) (by simp)).1, ((K11.out.next R6B9.out).ca (g := gz) (c := Z) (by simp)).2.1, ((K11.out.next R6B9.out).ca (g := gz) (c := Z) (by simp)).2.2, ((K11.out.next R6B9.out).ca (g := go) (c := CaV.zero) (by simp)).1, ((K11.out.next R6B9.out).ca (g := go) (c := CaV.zero) (by simp)).2.1, ((K11.out.next R6B9.out).ca (g := go) (c := CaV.zero) (by simp)).2.2⟩
    clear hK hb FD_8 FH_8 FG_8 FE_8 R6B8
    try simp only [Act.put, List.setIfInBounds_toArray, List.set_cons_zero, List.set_cons_succ]
    refine wpAnyH_ready (rs := [25]) (by kernel_rfl) (by simp) ?_
    refine AllReadyH.cons (o := ⟨some 63, _, _, _, _, _⟩) rfl (fun K hK => ?_) AllReadyH.nil
    go_simp
    refine (dots1_l R6w6.heap.size 2 1 R6w9 FG_9.out).mono ?_
    rintro e R6w10 ⟨⟨A63, c63, rfl, hh⟩, hb⟩
    have R6B10 := Lib.hid (Below.trans R6B9.out (hb.mono R6B9.out.size))
    have FD_10 := Lib.hid (SlAt.below FD_9.out hb)
    have FH_10 := Lib.hid (FH_9.out.below hb)
    have FG_10 := Lib.hid (SlAt.below FG_9.out hb)
    have FE_10 := Lib.hid (SlAt.below FE_9.out hb)
    have FJ_10 := Lib.hid (FJ_9.out.below hb)
    have FK_10 := Lib.hid (hh)
    clear hh
    first
      | refine hK.out _ _ ?_ (fun hHeld => ?_)
      | (go_wp2_with fail
         refine hK.out _ _ ?_ (fun hHeld => ?_))
    · exact ⟨((K11.out.next R6B10.out).ca (g := gx) (c := X) (by simp)).1, ((K11.out.next R6B10.out).ca (g := gx) (c := X) (by simp)).2.1, ((K11.out.next R6B10.out).ca (g := gx) (c := X) (by simp)).2.2, ((K11.out.next R6B10.out).ca (g := gy) (c := Y) (by simp)).1, ((K11.out.next R6B10.out).ca (g := gy) (c := Y) (by simp)).2.1, ((K11.out.next R6B10.out).ca (g := gy) (c := Y) (by simp)).2.2, ((K11.out.next R6B10.out).ca (g := gz) (c := Z) (by simp)).1, ((K11.out.next R6B10.out).ca (g := gz) (c := Z) (by simp)).2.1, ((K11.out.next R6B10.out).ca (g := gz) (c := Z) (by simp)).2.2, ((K11.out.next R6B10.out).ca (g := go) (c := CaV.zero) (by simp)).1, ((K11.out.next R6B10.out).ca (g := go) (c := CaV.zero) (by simp)).2.1, ((K11.out.next R6B10.out).ca (g := go) (c := CaV.zero) (by simp)).2.2⟩
    clear hK hb FD_9 FH_9 FG_9 FE_9 FJ_9 R6B9
    try simp only [Act.put, List.setIfInBounds_toArray, List.set_cons_zero, List.set_cons_succ]
    refine wpAnyH_take (i := 26) (oi := ⟨some 64, _, _, _, _, _⟩) (v := ?_) rfl (by kernel_rfl) (by kernel_rfl) (by kernel_rfl) (fun _ _ _ h => h) (Or.inl ⟨by rfl, ?_⟩) (by assumption) ?_
    rotate_left 1
    · intro w hSw
      (try dsimp only at hSw)
      go_simp
      try with_reducible rfl
    try simp only [Act.put, List.setIfInBounds_toArray, List.set_cons_zero, List.set_cons_succ]
    refine wpAnyH_take (i := 29) (oi := ⟨some 67, _, _, _, _, _⟩) (v := ?_) rfl (by kernel_rfl) (by kernel_rfl) (by kernel_rfl) (fun _ _ _ h => h) (Or.inl ⟨by rfl, ?_⟩) (by assumption) ?_
    rotate_left 1
    · intro w hSw
      (try dsimp only at hSw)
      go_simp
      try with_reducible rfl
    try simp only [Act.put, List.setIfInBounds_toArray, List.set_cons_zero, List.set_cons_succ]
    refine wpAnyH_ready (rs := [30]) (by kernel_rfl) (by simp) ?_
    refine AllReadyH.cons (o := ⟨some 68, _, _, _, _, _⟩) rfl (fun K hK => ?_) AllReadyH.nil
    go_simp
    refine (validX2 A61 A63 c61 c63 X R6w10 FJ_10.out FK_10.out ((K11.out.next R6B10.out).ok (g := gx) (c := X) (by simp)) HX.out).mono ?_
    rintro e R6w11 ⟨rfl, hb⟩
    have R6B11 := Lib.hid (Below.trans R6B10.out (hb.mono R6B10.out.size))
    have FD_11 := Lib.hid (SlAt.below FD_10.out hb)
    have FH_11 := Lib.hid (FH_10.out.below hb)
    have FG_11 := Lib.hid (SlAt.below FG_10.out hb)
    have FE_11 := Lib.hid (SlAt.below FE_10.out hb)
    have FJ_11 := Lib.hid (FJ_10.out.below hb)
    have FK_11 := Lib.hid (FK_10.out.below hb)
    first
      | refine hK.out _ _ ?_ (fun hHeld => ?_)
      | (go_wp2_with fail
         refine hK.out _ _ ?_ (fun hHeld => ?_))
    · exact ⟨((K11.out.next R6B11.out).ca (g := gx) (c := X) (by simp)).1, ((K11.out.next R6B11.out).ca (g := gx) (c := X) (by simp)).2.1, ((K11.out.next R6B11.out).ca (g := gx) (c := X) (by simp)).2.2, ((K11.out.next R6B11.out).ca (g := gy) (c := Y) (by simp)).1, ((K11.out.next R6B11.out).ca (g := gy) (c := Y) (by simp)).2.1, ((K11.out.next R6B11.out).ca (g := gy) (c := Y) (by simp)).2.2, ((K11.out.next R6B11.out).ca (g := gz) (c := Z) (by simp)).1, ((K11.out.next R6B11.out).ca (g := gz) (c := Z) (by simp)).2.1, ((K11.out.next R6B11.out).ca (g := gz) (c := Z) (by simp)).2.2, ((K11.out.next R6B11.out).ca (g := go) (c := CaV.zero) (by simp)).1, ((K11.out.next R6B11.out).ca (g := go) (c := CaV.zero) (by simp)).2.1, ((K11.out.next R6B11.out).ca (g := go) (c := CaV.zero) (by simp)).2.2⟩
    clear hK hb FD_10 FH_10 FG_10 FE_10 FJ_10 FK_10 R6B10
    try simp only [Act.put, List.setIfInBounds_toArray, List.set_cons_zero, List.set_cons_succ]
    refine wpAnyH_take (i := 31) (oi := ⟨some 69, _, _, _, _, _⟩) (v := ?_) rfl (by kernel_rfl) (by kernel_rfl) (by kernel_rfl) (fun _ _ _ h => h) (Or.inl ⟨by rfl, ?_⟩) (by assumption) ?_
    rotate_left 1
    · intro w hSw
      (try dsimp only at hSw)
      go_simp
      try with_reducible rfl
    try simp only [Act.put, List.setIfInBounds_toArray, List.set_cons_zero, List.set_cons_succ]
    refine wpAnyH_take (i := 32) (oi := ⟨some 70, _, _, _, _, _⟩) (v := ?_) rfl (by kernel_rfl) (by kernel_rfl) (by kernel_rfl) (fun _ _ _ h => h) (Or.inl ⟨by rfl, ?_⟩) (by assumption) ?_
    rotate_left 1
    · intro w hSw
      (try dsimp only at hSw)
      go_simp
      try with_reducible rfl
    try simp only [Act.put, List.setIfInBounds_toArray, List.set_cons_zero, List.set_cons_succ]
    refine wpAnyH_take (i := 33) (oi := ⟨some 71, _, _, _, _, _⟩) (v := ?_) rfl (by kernel_rfl) (by kernel_rfl) (by kernel_rfl) (fun _ _ _ h => h) (Or.inl ⟨by rfl, ?_⟩) (by assumption) ?_
    rotate_left 1
    · intro w hSw
      (try dsimp only at hSw)
      go_simp
      try with_reducible rfl
    try simp only [Act.put, List.setIfInBounds_toArray, List.set_cons_zero, List.set_cons_succ]
    refine wpAnyH_take (i := 34) (oi := ⟨some 72, _, _, _, _, _⟩) (v := ?_) rfl (by kernel_rfl) (by kernel_rfl) (by kernel_rfl) (fun _ _ _ h => h) (Or.inl ⟨by rfl, ?_⟩) (by assumption) ?_
    rotate_left 1
    · intro w hSw
      (try dsimp only at hSw)
      go_simp
      try with_reducible rfl
    try simp only [Act.put, List.setIfInBounds_toArray, List.set_cons_zero, List.set_cons_succ]
    refine wpAnyH_ready (rs := [35]) (by kernel_rfl) (by simp) ?_
    refine AllReadyH.cons (o := ⟨some 73, _, _, _, _, _⟩) rfl (fun K hK => ?_) AllReadyH.nil
    go_simp
    refine (canon_l Y Z R6w11 ((K11.out.next R6B11.out).ok (g := gy) (c := Y) (by simp)) ((K11.out.next R6B11.out).ok (g := gz) (c := Z) (by simp)) HY.out HZ.out).mono ?_
    rintro e R6w12 ⟨rfl, hb⟩
    have R6B12 := Lib.hid (Below.trans R6B11.out (hb.mono R6B11.out.size))
    have FD_12 := Lib.hid (SlAt.below FD_11.out hb)
    have FH_12 := Lib.hid (FH_11.out.below hb)
    have FG_12 := Lib.hid (SlAt.below FG_11.out hb)
    have FE_12 := Lib.hid (SlAt.below FE_11.out hb)
    have FJ_12 := Lib.hid (FJ_11.out.below hb)
    have FK_12 := Lib.hid (FK_11.out.below hb)
    first
      | refine hK.out _ _ ?_ (fun hHeld => ?_)
      | (go_wp2_with fail
         refine hK.out _ _ ?_ (fun hHeld => ?_))
    · exact ⟨((K11.out.next R6B12.out).ca (g := gx) (c := X) (by simp)).1, ((K11.out.next R6B12.out).ca (g := gx) (c := X) (by simp)).2.1, ((K11.out.next R6B12.out).ca (g := gx) (c := X) (by simp)).2.2, ((K11.out.next R6B12.out).ca (g := gy) (c := Y) (by simp)).1, ((K11.out.next R6B12.out).ca (g := gy) (c := Y) (by simp)).2.1, ((K11.out.next R6B12.out).ca (g := gy) (c := Y) (by simp)).2.2, ((K11.out.next R6B12.out).ca (g := gz) (c := Z) (by simp)).1, ((K11.out.next R6B12.out).ca (g := gz) (c := Z) (by simp)).2.1, ((K11.out.next R6B12.out).ca (g := gz) (c := Z) (by simp)).2.2, ((K11.out.next R6B12.out).ca (g := go) (c := CaV.zero) (by simp)).1, ((K11.out.next R6B12.out).ca (g := go) (c := CaV.zero) (by simp)).2.1, ((K11.out.next R6B12.out).ca (g := go) (c := CaV.zero) (by simp)).2.2⟩
    clear hK hb FD_11 FH_11 FG_11 FE_11 FJ_11 FK_11 R6B11
    try simp only [Act.put, List.setIfInBounds_toArray, List.set_cons_zero, List.set_cons_succ]
    refine wpAnyH_take (i := 36) (oi := ⟨some 74, _, _, _, _, _⟩) (v := ?_) rfl (by kernel_rfl) (by kernel_rfl) (by kernel_rfl) (fun _ _ _ h => h) (Or.inl ⟨by rfl, ?_⟩) (by assumption) ?_
    rotate_left 1
    · intro w hSw
      (try dsimp only at hSw)
      go_simp
      try with_reducible rfl
    try simp only [Act.put, List.setIfInBounds_toArray, List.set_cons_zero, List.set_cons_succ]
    refine wpAnyH_take (i := 37) (oi := ⟨some 75, _, _, _, _, _⟩) (v := ?_) rfl (by kernel_rfl) (by kernel_rfl) (by kernel_rfl) (fun _ _ _ h => h) (Or.inl ⟨by rfl, ?_⟩) (by assumption) ?_
    rotate_left 1
    · intro w hSw
      (try dsimp only at hSw)
      go_simp
      try with_reducible rfl
    try simp only [Act.put, List.setIfInBounds_toArray, List.set_cons_zero, List.set_cons_succ]
    refine wpAnyH_done (by kernel_rfl) ?_ _
    have KF := Lib.hid (K11.out.next R6B12.out)
    clear hHeld
    go_wp2_with fail
    go_meet
    exact ⟨by rfl, KF⟩

end Go.Proofs.YtfmhhmceoikgpaaGreat
