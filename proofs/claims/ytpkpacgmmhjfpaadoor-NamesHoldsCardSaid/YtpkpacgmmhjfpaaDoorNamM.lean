/- The library's unquote. -/
import Derived.Test.YtpkpacgmmhjfpaaDoorNamJ
import Derived.Laws.MakeOwn
import Derived.Deep.CutBlock
import Derived.Deep.CutRange
namespace Go.Proofs.YtpkpacgmmhjfpaaDoor
open Go.RowKit

/-- What unquote returns: an error, or a string and what is left. -/
def UnP (l : List UInt8) (b : Bool) (w : World) (e : Ending) (w' : World) : Prop :=
  ((∃ (r : ByteArray) (ty : TypeId) (p : Value), e = .returned (.tuple #[.string ⟨#[]⟩, .string r, .iface ty p])) ∨
   (∃ (x : List UInt8) (r : ByteArray), e = .returned (.tuple #[.string ⟨x.toArray⟩, .string r, .nilIface]) ∧ x.length ≤ 4 * l.length ∧ (b = false → ∃ k, k ≤ l.length ∧ x = l.take k))) ∧ Below w.heap.size w w'
theorem UnP.err {l : List UInt8} {b : Bool} {w w' : World} {r : ByteArray} {ty : TypeId} {p : Value} (hb : Below w.heap.size w w') : UnP l b w (.returned (.tuple #[.string ⟨#[]⟩, .string r, .iface ty p])) w' := ⟨.inl ⟨_, _, _, rfl⟩, hb⟩
theorem UnP.ok {l x : List UInt8} {b : Bool} {w w' : World} {r : ByteArray} (hb : Below w.heap.size w w') (hx : x.length ≤ 4 * l.length) (hk : b = false → ∃ k, k ≤ l.length ∧ x = l.take k) : UnP l b w (.returned (.tuple #[.string ⟨x.toArray⟩, .string r, .nilIface])) w' := ⟨.inr ⟨_, _, rfl, hx, hk⟩, hb⟩
theorem indexByte_some {l : List UInt8} {c : UInt8} {i : Nat} (h : Lib.indexByte l c = (i : Int)) : ∃ hl : i < l.length, l[i] = c := by
  induction l generalizing i with
  | nil => simp [Lib.indexByte] at h
  | cons b r ih =>
    unfold Lib.indexByte at h
    split at h
    · rename_i hb
      obtain rfl : i = 0 := by omega
      exact ⟨by simp, by simpa using hb⟩
    · split at h
      · omega
      · obtain ⟨j, rfl⟩ : ∃ j, i = j + 1 := ⟨i - 1, by have := Lib.indexByte_ge r c; rename_i h1; simp at h1; omega⟩
        obtain ⟨h1, h2⟩ := ih (i := j) (by omega)
        exact ⟨by simp; omega, by simpa using h2⟩
theorem extract_to (l : List UInt8) (m : Nat) : (ByteArray.mk l.toArray).extract 0 m = ⟨(l.take m).toArray⟩ := by
  apply ByteArray.ext
  rw [ByteArray.data_extract]
  apply Array.toList_inj.1
  rw [Array.toList_extract]
  show (l.drop 0).take (m - 0) = l.take m
  simp
theorem extract_mid (l : List UInt8) (a b : Nat) : (ByteArray.mk l.toArray).extract a b = ⟨((l.drop a).take (b - a)).toArray⟩ := extract_take l a b
def strLen : Value → Nat
  | .string s => s.size
  | _ => 0
theorem strLen_mk (l : List UInt8) : strLen (.string ⟨l.toArray⟩) = l.length := size_mk l
theorem byteOf (v : Int) : ∃ z : UInt8, IntKind.u8.wrap v = (z.toNat : Int) := by
  have h : IntKind.u8.wrap v = v % 256 := by simp [IntKind.wrap, IntKind.bits, IntKind.signed]
  refine ⟨UInt8.ofNat (v % 256).toNat, ?_⟩
  rw [h, UInt8.toNat_ofNat']
  omega
theorem rune_bytes (r : Int) : ∃ zs : List UInt8, Lib.runeCells r = cellsOf encB zs ∧ zs.length ≤ 4 := by
  have h : ∀ L : List Int, (∀ x ∈ L, 0 ≤ x ∧ x < 256) → ∃ zs : List UInt8, (L.map fun x => Value.int .u8 x) = cellsOf encB zs ∧ zs.length = L.length := by
    intro L
    induction L with
    | nil => intro _; exact ⟨[], rfl, rfl⟩
    | cons x r ih =>
      intro hx
      obtain ⟨zs, h1, h2⟩ := ih fun y hy => hx y (by simp [hy])
      have h3 := hx x (by simp)
      refine ⟨UInt8.ofNat x.toNat :: zs, ?_, by simp [h2]⟩
      rw [List.map_cons, h1]
      have e : ((UInt8.ofNat x.toNat).toNat : Int) = x := by rw [UInt8.toNat_ofNat']; omega
      show _ = Value.int .u8 ((UInt8.ofNat x.toNat).toNat : Int) :: cellsOf encB zs
      rw [e]
  obtain ⟨zs, h1, h2⟩ := h _ (Lib.encodeRuneZ_byte r)
  exact ⟨zs, h1, by rw [h2]; exact (Lib.encodeRuneZ_length r).2⟩
theorem appendRune (w0 w : World) (D : Option Addr) (d : Nat) (ys : List UInt8) (r : Int) (h0 : 0 ≤ r) (h1 : r ≤ 1114111) (hy : ys.length ≤ 100000000) (hb : Below w0.heap.size w0 w) (hr : RowB w w0.heap.size (.slice D ys.length d) ys) :
    Calls Tryd.prog 58 #[.slice D ys.length d, .int .i32 r] w fun e w' => ∃ (D' : Option Addr) (d' : Nat) (zs : List UInt8), e = .returned (.slice D' zs.length d') ∧ zs.length ≤ ys.length + 4 ∧ RowB w' w0.heap.size (.slice D' zs.length d') zs ∧ Below w0.heap.size w0 w' := by
  obtain ⟨zs, hz, hz4⟩ := rune_bytes r
  refine (Any.utf8_AppendRune_plain Tryd.laysAppend infoB w0.heap.size (.slice D ys.length d) ys.length (cellsOf encB ys) r (by omega) (by omega) w hr (by omega) hb.size).mono ?_
  rintro e w' ⟨v', rfl, hown, o, hg⟩
  rw [hz, cellsOf_length encB_len, Nat.mul_one] at hown
  have hown2 : RowB w' w0.heap.size v' (ys ++ zs) := by
    show w'.ownsRow _ _ _ _ (ys ++ zs).length (cellsOf encB (ys ++ zs))
    rw [List.length_append, show cellsOf encB (ys ++ zs) = cellsOf encB ys ++ cellsOf encB zs by simp [cellsOf]]
    exact hown
  obtain ⟨D', d', rfl, _⟩ := SlAt.of_own encB_len hown2
  refine ⟨D', d', ys ++ zs, rfl, by rw [List.length_append]; omega, hown2, ?_⟩
  refine (hb.alloc hb.size o).grown hg (by have := hb.size; simp; omega) fun k hk => ?_
  exact (hr.lt k hk).1


set_option maxRecDepth 100000 in
set_option maxHeartbeats 16000000 in
theorem unq34true (l : List UInt8) (q : UInt8) (i : Nat) (w : World) (hl : l.length ≤ 100000) (h2 : 2 ≤ l.length) (hq0 : l[0] = q) (hq : q.toNat = 34) (hi : Lib.indexByte (l.drop 1) q = (i : Int)) (hL : LaidOK w) :
    Calls Tryd.prog 47 #[.string ⟨l.toArray⟩, .bool true] w (UnP l true w) := by
  obtain ⟨ti0, hi0, hz0, hz1, hz2⟩ := info_parts infoB
  have hsz := size_mk l
  have HL0 := Lib.hid hL
  obtain ⟨ty, p, hE⟩ := hL.2
  have hx := str_at (show 0 < l.length by omega)
  rw [hq0] at hx
  have j0 : ¬ (l.length : Int) < 2 := by omega
  have j1 : (0 : Int) < (l.length : Int) := by omega
  have j2 : (1 : Int) ≤ (l.length : Int) := by omega
  have k96 : ((q.toNat : Int) == 96) = false := eqF (by omega)
  have k34 : ((q.toNat : Int) == 34) = true := eqT (by omega)
  have k39 : ((q.toNat : Int) == 39) = false := eqF (by omega)
  obtain ⟨T1, hT1⟩ : ∃ T, l.drop 1 = T := ⟨_, rfl⟩
  have ex1 := extract_drop l 1
  rw [hT1] at ex1 hi
  have hil : i < T1.length := (indexByte_some hi).1
  have hT1l : T1.length = l.length - 1 := by rw [← hT1, List.length_drop]
  obtain ⟨e, he⟩ : ∃ e, e = i + 2 := ⟨_, rfl⟩
  obtain ⟨e1, he1⟩ : ∃ e1, e1 = i + 1 := ⟨_, rfl⟩
  have em : (i : Int) + 2 = (e : Int) := by omega
  have em1 : (e : Int) - 1 = (e1 : Int) := by omega
  have j3 : ¬ (i : Int) < 0 := by omega
  have j4 : (e : Int) ≤ (l.length : Int) := by omega
  have j5 : (1 : Int) ≤ (e1 : Int) := by omega
  have j6 : (e1 : Int) ≤ (e : Int) := by omega
  have j7 : (e1 : Int) ≤ (l.length : Int) := by omega
  obtain ⟨E, hE0⟩ : ∃ E, l.take e = E := ⟨_, rfl⟩
  have exE := extract_to l e
  rw [hE0] at exE
  have hEl : E.length = e := by rw [← hE0, List.length_take]; omega
  have hszE : (ByteArray.mk E.toArray).size = e := by rw [size_mk, hEl]
  obtain ⟨V, hV⟩ : ∃ V, (l.drop 1).take (e1 - 1) = V := ⟨_, rfl⟩
  have exV := extract_mid l 1 e1
  rw [hV] at exV
  have hVE : (E.drop 1).take (e1 - 1) = V := by
    rw [← hE0, ← hV, List.drop_take, List.take_take]
    congr 1
    omega
  have exV2 := extract_mid E 1 e1
  rw [hVE] at exV2
  obtain ⟨Rr, hRr⟩ : ∃ R, l.drop e = R := ⟨_, rfl⟩
  have exR := extract_drop l e
  rw [hRr] at exR
  have HVl := Lib.hid (show V.length ≤ l.length from by rw [← hV, List.length_take, List.length_drop]; omega)
  have HEE := Lib.hid (show e ≤ l.length ∧ E = l.take e ∧ e = i + 2 ∧ e1 = i + 1 ∧ E.length = e ∧ V.length = i from ⟨by omega, hE0.symm, he, he1, hEl, by rw [← hV, List.length_take, List.length_drop]; omega⟩)
  have HI := sIndex T1 q w
  rw [hi] at HI
  have HIH := Lib.hid HI
  have HT1 := Lib.hid (show T1.length = l.length - 1 from hT1l)
  have HLL := Lib.hid (show l.length ≤ 100000 ∧ 2 ≤ l.length from ⟨hl, h2⟩)
  have h8 := toNat8 q
  have HQ := Lib.hid hq
  clear hq HI hi hil hT1 hT1l he he1 hE0 hEl hV hVE hRr hq0 hL
  go_enter Tryd.func47, Tryd.ntmps47
  go_wp2_with fail
  refine HIH.out.mono ?_
  rintro e w1 ⟨rfl, rfl⟩
  clear HIH
  go_upto_region 25 with fail
  go_cut [99] (fun t wx => ∃ v : Bool, t = .bool v ∧ w = wx)
  case first =>
    have HC1 := Lib.hid (sContains E 92 w)
    have HC2 := Lib.hid (sContains E 10 w)
    go_wp2_with fail
    refine HC1.out.mono ?_
    rintro e w1 ⟨rfl, rfl⟩
    cases hasC E 92 with
    | true =>
      go_wp2_with fail
      go_meet
      exact ⟨_, rfl, rfl⟩
    | false =>
      go_wp2_with fail
      refine HC2.out.mono ?_
      rintro e w1 ⟨rfl, rfl⟩
      cases hasC E 10 with
      | true =>
        go_wp2_with fail
        go_meet
        exact ⟨_, rfl, rfl⟩
      | false =>
        go_wp2_with fail
        go_meet
        exact ⟨_, rfl, rfl⟩
  case rest =>
    obtain ⟨v, rfl, hw⟩ := hcut
    subst hw
    go_upto_if 99 with fail
    go_cut [4] (fun u wx => Hid (Below w.heap.size w wx))
    case first =>
      cases v with
      | false =>
        go_wp2_with fail
        go_meet
        exact Below.refl _ _
      | true =>
        have HVS := Lib.hid (validStr V w (by have := HVl.out; have := HLL.out; omega) HL0.out)
        go_wp2_with fail
        refine HVS.out.mono ?_
        rintro e w1 ⟨rfl, hb⟩
        have HB1 := Lib.hid hb
        clear hb HVS
        cases Lib.validD V with
        | false =>
          go_wp2_with fail
          go_meet
          exact HB1.out
        | true =>
          go_wp2_with fail
          go_region
          all_goals
            go_wp2_with fail
            go_ret3
            exact UnP.ok HB1.out.drew (by have := HVl.out; omega) (fun e => by cases e)
    case rest =>
      have HB0 := hcut
      obtain ⟨wq, rfl⟩ : ∃ W, W = wc := ⟨_, rfl⟩
      obtain ⟨c, hc⟩ : ∃ c, c = 3 * e / 2 := ⟨_, rfl⟩
      have hee : e ≤ 100000 := by have := HEE.out; have := HLL.out; omega
      have ec : 3 * (e : Int) / 2 = (c : Int) := by omega
      obtain ⟨W0, hmk, hown0, hg0⟩ := run_make_own (P := Tryd.prog) wq w.heap.size 27 5 ti0 _ 1 Tryd.underlying27 hi0 hz0 hz1 .i64 .i64 c (by rw [hz2]; omega) (by unfold maxLen; omega) HB0.out.size
      have HO0 := Lib.hid hown0
      have HB1 := Lib.hid (HB0.out.grown hg0 HB0.out.size (fun k hk => by cases hk))
      clear hown0 hg0 hc hee
      go_upto_block 5 with fail
      clear ec hmk
      go_cut [0, 14] (fun s0 s14 wx => ∃ (T : List UInt8) (D : Option Addr) (d : Nat) (ys : List UInt8), s0 = .string ⟨T.toArray⟩ ∧ T.length ≤ l.length ∧ ys.length + 4 * T.length ≤ 4 * l.length ∧ s14 = .slice D ys.length d ∧ Hid (RowB wx w.heap.size (.slice D ys.length d) ys) ∧ Hid (Below w.heap.size w wx))
      case first =>
        go_wp2_with fail
        go_loopw [0, 14] (fun s0 s14 wr => ∃ (T : List UInt8) (D : Option Addr) (d : Nat) (ys : List UInt8), s0 = .string ⟨T.toArray⟩ ∧ T.length ≤ l.length ∧ ys.length + 4 * T.length ≤ 4 * l.length ∧ s14 = .slice D ys.length d ∧ Hid (RowB wr w.heap.size (.slice D ys.length d) ys) ∧ Hid (Below w.heap.size w wr)) (fun s0 _ _ => strLen s0)
        case atStart => exact ⟨T1, _, _, [], rfl, by have := HT1.out; omega, by have := HT1.out; simp; omega, rfl, HO0, HB1⟩
        case round =>
          obtain ⟨T, D, d, ys, rfl, hTl, hys, rfl, HO, HB⟩ := hrel
          have hszT := size_mk T
          have hTm : T.length ≤ 100000 := by have := HLL.out; omega
          by_cases h0 : 0 < T.length
          case neg =>
            have i0 : ¬ (0 : Int) < (T.length : Int) := by omega
            go_wp2_with fail
            go_meet
            exact ⟨T, D, d, ys, rfl, hTl, hys, rfl, HO, HB⟩
          have i0 : (0 : Int) < (T.length : Int) := by omega
          have hxT := str_at h0
          obtain ⟨x, hxx⟩ : ∃ x, T[0] = x := ⟨_, rfl⟩
          rw [hxx] at hxT
          by_cases hxq : x = q
          case pos =>
            have k1 : ((x.toNat : Int) != (q.toNat : Int)) = false := neF (by rw [hxq])
            clear hxq hxx
            go_wp2_with fail
            go_meet
            exact ⟨T, D, d, ys, rfl, hTl, hys, rfl, HO, HB⟩
          have k1 : ((x.toNat : Int) != (q.toNat : Int)) = true := neT (fun e => hxq (UInt8.toNat_inj.1 (by omega)))
          have HU := Lib.hid (uqChar T q wr (by omega) h0 (by rw [hxx]; exact hxq) (HL0.out.below HB.out))
          clear hxq hxx
          go_wp2_with fail
          refine HU.out.mono ?_
          rintro e w1 ⟨hr, hb⟩
          have HB1 := Lib.hid (below_trans HB.out hb)
          have HO1 := Lib.hid (own_keep HO.out hb)
          clear HU
          have hE1 : w1.cell? ⟨0, 0, none⟩ = some (.iface ty p) := (HB1.out.cell (World.block_lt_of_cell? w _ hE)).trans hE
          clear hb
          rcases hr with ⟨v, mb, t, ty2, p2, rfl⟩ | ⟨v, mb, t, rfl, htl, hmb⟩
          · by_cases c10 : x.toNat = 10
            · have k2 : ((x.toNat : Int) == 10) = true := eqT (by omega)
              clear c10
              go_wp2_with fail
              go_region
              all_goals
                go_wp2_with fail
                go_ret3
                exact UnP.err HB1.out.drew
            · have k2 : ((x.toNat : Int) == 10) = false := eqF (by omega)
              clear c10
              go_wp2_with fail
              go_region
              all_goals
                go_wp2_with fail
                go_ret3
                exact UnP.err HB1.out.drew
          · by_cases c10 : x.toNat = 10
            · have k2 : ((x.toNat : Int) == 10) = true := eqT (by omega)
              clear c10 hmb
              go_wp2_with fail
              go_region
              all_goals
                go_wp2_with fail
                go_ret3
                exact UnP.err HB1.out.drew
            · have k2 : ((x.toNat : Int) == 10) = false := eqF (by omega)
              clear c10
              have HYL := Lib.hid (show ys.length ≤ 400000 from by omega)
              cases mb with
              | false =>
                by_cases c128 : v < 128
                · clear hmb
                  obtain ⟨z, hz⟩ := byteOf v
                  go_wp2_with (at_builtin; refine wpList_append_sl _ encB 1 rfl (.tmp 186) (.tmp 189) 27 rfl encB_len (by omega) encB_one w.heap.size 5 ti0 _ 1 Tryd.underlying27 hi0 hz0 hz1 hz2 rfl _ ys rfl (HO1.out.alloc _) _ 1 _ [z] rfl rfl rowB_one (by simp [maxLen]; have := HYL.out; omega) (by simp; have := HYL.out; omega) (by have := HB1.out.size; simp; omega) ?_; intro v1 w2 hown hg hat; have HB2 := Lib.hid ((HB1.out.alloc HB1.out.size _).grown hg (by have := HB1.out.size; simp; omega) (fun k hk => (HO1.out.lt k hk).1)); obtain ⟨D2, d3, rfl, _⟩ := SlAt.of_own encB_len hown; have HO2 := Lib.hid hown; clear hown hg hat)
                  go_roundw
                  case rel => exact ⟨t, _, _, ys ++ [z], rfl, by omega, (by rw [List.length_append, List.length_singleton]; omega), (by rw [List.length_append]; rfl), HO2, HB2⟩
                  case measure => rw [strLen_mk, strLen_mk]; omega
                · clear hmb
                  obtain ⟨z, hz⟩ := byteOf v
                  go_wp2_with (at_builtin; refine wpList_append_sl _ encB 1 rfl (.tmp 186) (.tmp 189) 27 rfl encB_len (by omega) encB_one w.heap.size 5 ti0 _ 1 Tryd.underlying27 hi0 hz0 hz1 hz2 rfl _ ys rfl (HO1.out.alloc _) _ 1 _ [z] rfl rfl rowB_one (by simp [maxLen]; have := HYL.out; omega) (by simp; have := HYL.out; omega) (by have := HB1.out.size; simp; omega) ?_; intro v1 w2 hown hg hat; have HB2 := Lib.hid ((HB1.out.alloc HB1.out.size _).grown hg (by have := HB1.out.size; simp; omega) (fun k hk => (HO1.out.lt k hk).1)); obtain ⟨D2, d3, rfl, _⟩ := SlAt.of_own encB_len hown; have HO2 := Lib.hid hown; clear hown hg hat)
                  go_roundw
                  case rel => exact ⟨t, _, _, ys ++ [z], rfl, by omega, (by rw [List.length_append, List.length_singleton]; omega), (by rw [List.length_append]; rfl), HO2, HB2⟩
                  case measure => rw [strLen_mk, strLen_mk]; omega
              | true =>
                have hv0 := (hmb rfl).1
                have hv1 := (hmb rfl).2
                clear hmb
                by_cases c128 : v < 128
                · skip
                  obtain ⟨z, hz⟩ := byteOf v
                  go_wp2_with (at_builtin; refine wpList_append_sl _ encB 1 rfl (.tmp 186) (.tmp 189) 27 rfl encB_len (by omega) encB_one w.heap.size 5 ti0 _ 1 Tryd.underlying27 hi0 hz0 hz1 hz2 rfl _ ys rfl (HO1.out.alloc _) _ 1 _ [z] rfl rfl rowB_one (by simp [maxLen]; have := HYL.out; omega) (by simp; have := HYL.out; omega) (by have := HB1.out.size; simp; omega) ?_; intro v1 w2 hown hg hat; have HB2 := Lib.hid ((HB1.out.alloc HB1.out.size _).grown hg (by have := HB1.out.size; simp; omega) (fun k hk => (HO1.out.lt k hk).1)); obtain ⟨D2, d3, rfl, _⟩ := SlAt.of_own encB_len hown; have HO2 := Lib.hid hown; clear hown hg hat)
                  go_roundw
                  case rel => exact ⟨t, _, _, ys ++ [z], rfl, by omega, (by rw [List.length_append, List.length_singleton]; omega), (by rw [List.length_append]; rfl), HO2, HB2⟩
                  case measure => rw [strLen_mk, strLen_mk]; omega
                · have HA := Lib.hid (appendRune w w1 D d ys v hv0 hv1 (by omega) HB1.out HO1.out)
                  go_wp2_with fail
                  refine HA.out.mono ?_
                  rintro e w2 ⟨D2, d3, zs, rfl, hzl, hO2, hb2⟩
                  have HO2 := Lib.hid hO2
                  have HB2 := Lib.hid hb2
                  clear hO2 hb2 HA
                  go_wp2_with fail
                  go_roundw
                  case rel => exact ⟨t, _, _, zs, rfl, by omega, (by omega), rfl, HO2, HB2⟩
                  case measure => rw [strLen_mk, strLen_mk]; omega
      case rest =>
        obtain ⟨T, D, d, ys, rfl, hTl, hys, rfl, HO, HB⟩ := hcut
        obtain ⟨wr, rfl⟩ : ∃ W, W = wc := ⟨_, rfl⟩
        have hE1 : wr.cell? ⟨0, 0, none⟩ = some (.iface ty p) := (HB.out.cell (World.block_lt_of_cell? w _ hE)).trans hE
        have hszT := size_mk T
        have hTm : T.length ≤ 100000 := by have := HLL.out; omega
        by_cases h0 : 0 < T.length
        case neg =>
          have i0 : ¬ (0 : Int) < (T.length : Int) := by omega
          go_wp2_with fail
          go_region
          all_goals
            go_wp2_with fail
            go_ret3
            exact UnP.err HB.out.drew
        have i0 : (0 : Int) < (T.length : Int) := by omega
        have hxT := str_at h0
        obtain ⟨x, hxx⟩ : ∃ x, T[0] = x := ⟨_, rfl⟩
        rw [hxx] at hxT
        by_cases hxq : x = q
        case neg =>
          have k1 : ((x.toNat : Int) == (q.toNat : Int)) = false := eqF (fun e => hxq (UInt8.toNat_inj.1 (by omega)))
          clear hxq hxx
          go_wp2_with fail
          go_region
          all_goals
            go_wp2_with fail
            go_ret3
            exact UnP.err HB.out.drew
        have k1 : ((x.toNat : Int) == (q.toNat : Int)) = true := eqT (by rw [hxq])
        obtain ⟨U, hU⟩ : ∃ U, T.drop 1 = U := ⟨_, rfl⟩
        have exU := extract_drop T 1
        rw [hU] at exU
        have hszU := size_mk U
        have hUl : U.length = T.length - 1 := by rw [← hU, List.length_drop]
        have j8 : (1 : Int) ≤ (T.length : Int) := by omega
        clear hxq hxx hU
        have hcv := convB wr D d ys (HoldsB.of_own HO.out)
        clear hUl
        go_wp2_with fail
        go_ret3
        exact UnP.ok HB.out (by omega) (fun e => by cases e)

end Go.Proofs.YtpkpacgmmhjfpaaDoor
