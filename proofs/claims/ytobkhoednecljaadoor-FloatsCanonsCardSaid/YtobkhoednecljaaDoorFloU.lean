/- formatBits at base 16, of any number of 64 bits. -/
import Derived.Test.YtobkhoednecljaaDoorFloY
import Derived.Outline
namespace Go.Proofs.YtobkhoednecljaaDoor
open Go.RowKit

theorem infoA : (Tryd.prog.info? 111).map (fun i => (i.zero, i.size, i.bytes)) = some (some (.agg (cellsOf encB (List.replicate 65 0)).toArray), 65, 65) := by kernel_rfl
theorem zeroArr : ∃ cs : Array Value, (∀ w : World, (zeroValue 111).run Tryd.prog w = .ok (.agg cs) w) ∧ cs.toList = cellsOf encB (List.replicate 65 0) := by
  obtain ⟨i, hi, hz, _, _⟩ := info_parts infoA
  refine ⟨(cellsOf encB (List.replicate 65 0)).toArray, fun w => ?_, rfl⟩
  generalize (cellsOf encB (List.replicate 65 0)).toArray = z at hz ⊢
  simp [zeroValue, typeInfo, hi, hz]
/-- The array of a call's own. -/
abbrev RowA (W : World) (B g : Nat) (ys : List UInt8) : Prop := W.ownsRow B 111 1 (.slice (some ⟨g, 0, none⟩) 65 65) 65 (cellsOf encB ys)
theorem RowA.new (w : World) (cs : Array Value) (h : cs.toList = cellsOf encB (List.replicate 65 0)) : RowA (w.alloc (.cells cs 111)) w.heap.size w.heap.size (List.replicate 65 0) := by
  have hl : cs.size = 65 * 1 := by rw [← Array.length_toList, h]; rfl
  have h1 := World.ownsRow_lit (size := 1) (base := w.heap.size) (e := 111) w cs 65 (Nat.le_refl _) (by simp [maxLen]) hl
  rw [h] at h1
  exact h1
theorem RowA.put {W : World} {B g : Nat} {ys : List UInt8} (h : RowA W B g ys) (j : Nat) (b : UInt8) : RowA (W.setCell ⟨g, j, none⟩ (.int .u8 (b.toNat : Int))) B g (ys.set j b) := by
  have h1 := (h.stored j (.int .u8 (b.toNat : Int))).1
  rw [cells_set] at h1
  exact h1
theorem RowA.cell1 {W : World} {B g j : Nat} {ys : List UInt8} (h : RowA W B g ys) (hl : ys.length = 65) (hj : j < 65) : ∃ x : Nat, W.cell? ⟨g, j, none⟩ = some (.int .u8 (x : Int)) :=
  ⟨(ys[j]'(by omega)).toNat, by rw [h.cellAt j (by omega), cells_at, List.getElem?_eq_getElem (show j < ys.length by omega)]; rfl⟩
theorem RowA.bytes {W : World} {B g j : Nat} {ys : List UInt8} (h : RowA W B g ys) (hl : ys.length = 65) (hj : j ≤ 65) : HoldsB W (.slice (some ⟨g, j, none⟩) (65 - j) (65 - j)) (ys.drop j) := by
  refine ⟨some ⟨g, j, none⟩, 65 - j, by rw [List.length_drop, hl], fun _ => ⟨g, j, rfl, (h.lt g rfl).2, fun i x hx k u hu => ?_⟩, by rw [List.length_drop, hl]; exact Nat.le_refl _, by simp [maxLen]; omega⟩
  rw [List.getElem?_drop] at hx
  have hi := (List.getElem?_eq_some_iff.1 hx).1
  match k, hu with
  | 0, hu =>
    have hu' : Value.int .u8 (x.toNat : Int) = u := by simpa using hu
    subst hu'
    rw [Nat.add_zero, Nat.mul_one, h.cellAt (j + i) (by omega), cells_at, hx]
    rfl
  | k + 1, hu => exact absurd hu (by simp)

/-- The library's digits. -/
abbrev digs : ByteArray := ⟨#[48, 49, 50, 51, 52, 53, 54, 55, 56, 57, 97, 98, 99, 100, 101, 102, 103, 104, 105, 106, 107, 108, 109, 110, 111, 112, 113, 114, 115, 116, 117, 118, 119, 120, 121, 122]⟩
theorem digs_all : ∀ d : Fin 16, digs[d.val]'(Nat.lt_trans d.isLt (by decide)) = hexD d.val := by decide +kernel
theorem digs_at (d : Nat) (h : d < 16) (h36 : d < digs.size) : digs[d] = hexD d := digs_all ⟨d, h⟩
theorem hexL_drop {ys : List UInt8} {j U u : Nat} (hl : ys.length = 65) (hj : j < 64) (hd : ys.drop (65 - j) = hexL j U) (hu : u = U / 16 ^ j) : (ys.set (64 - j) (hexD (u % 16))).drop (65 - (j + 1)) = hexL (j + 1) U := by
  rw [hexL, ← hu, ← hd, show 65 - (j + 1) = 64 - j by omega]
  rw [List.drop_eq_getElem_cons (by rw [List.length_set]; omega), List.getElem_set_self, List.drop_set_of_lt (by omega), show 64 - j + 1 = 65 - j by omega]

theorem hexL_top (k i U : Nat) (h : U < 16 ^ k) : hexL (k + i) U = List.replicate i 48 ++ hexL k U := by
  induction i with
  | zero => simp
  | succ i ih =>
    have h0 : U / 16 ^ (k + i) = 0 := Nat.div_eq_of_lt (Nat.lt_of_lt_of_le h (Nat.pow_le_pow_right (by decide) (by omega)))
    rw [show k + (i + 1) = (k + i) + 1 by omega, hexL, h0, ih, List.replicate_succ]
    rfl
set_option maxRecDepth 100000 in
set_option maxHeartbeats 2000000 in
theorem fmtBitsF (U : Nat) (w : World) (h1 : U < 18446744073709551616) (ht : LaidOK w) :
    Calls Tryd.prog 67 #[.slice none 0 0, .int .u64 (U : Int), .int .i64 16, .bool false, .bool false] w fun e w' => (∃ k, 1 ≤ k ∧ k ≤ 16 ∧ U < 16 ^ k ∧ e = .returned (.tuple #[.slice none 0 0, .string ⟨(hexL k U).toArray⟩])) ∧ Below w.heap.size w w' := by
  have HU := Lib.hid h1
  have HT := Lib.hid ht
  clear h1 ht
  obtain ⟨cs, hz, hcs⟩ := zeroArr
  have HR := Lib.hid (RowA.new w cs hcs)
  go_enter Tryd.func67, Tryd.ntmps67
  go_wp2_with fail
  refine (pow16 _).mono ?_
  rintro e w1 ⟨rfl, rfl⟩
  go_wp2_with fail
  refine (tz16 _ (HT.out.below ((Below.refl _ w).alloc (Nat.le_refl _) _))).mono ?_
  rintro e w1 ⟨rfl, rfl⟩
  go_wp2_with fail
  go_loopw [1, 13] (fun s1 s13 wr => ∃ (j u : Nat) (ys : List UInt8), j ≤ 15 ∧ s1 = .int .u64 (u : Int) ∧ s13 = .int .i64 ((65 - j : Nat) : Int) ∧ Hid (u = U / 16 ^ j ∧ RowA wr w.heap.size w.heap.size ys ∧ ys.length = 65 ∧ ys.drop (65 - j) = hexL j U ∧ Below w.heap.size w wr)) (fun _ s13 _ => (intOf s13).toNat)
  case atStart => exact ⟨0, U, _, by omega, rfl, rfl, ⟨by simp, HR.out, rfl, rfl, (Below.refl _ w).alloc (Nat.le_refl _) _⟩⟩
  case round =>
    obtain ⟨j, u, ys, hj, rfl, rfl, HQ⟩ := hrel
    have hu := HQ.out.1
    have hU := HU.out
    have hu33 : u < 18446744073709551616 := by rw [hu]; exact Nat.lt_of_le_of_lt (Nat.div_le_self _ _) hU
    have hm : u % 16 < 16 := Nat.mod_lt _ (by decide)
    obtain ⟨x0, c1⟩ := HQ.out.2.1.cell1 HQ.out.2.2.1 (show 64 - j < 65 by omega)
    have f0 := HQ.out.2.1.frozenAt (64 - j)
    have eI : ((65 - j : Nat) : Int) - 1 = ((64 - j : Nat) : Int) := by omega
    have eW : wrap64 ((64 - j : Nat) : Int) = ((64 - j : Nat) : Int) := by unfold wrap64; omega
    by_cases h8 : 16 ≤ u
    · have hj14 : j + 1 ≤ 15 := by
        have h2 : 16 ^ (j + 1) ≤ U := by
          rw [Nat.pow_succ]
          have h3 : U / 16 ^ j * 16 ^ j ≤ U := Nat.div_mul_le_self _ _
          rw [← hu] at h3
          have h4 : 16 * 16 ^ j ≤ u * 16 ^ j := Nat.mul_le_mul_right _ h8
          rw [Nat.mul_comm (16 ^ j)]; omega
        rcases Nat.lt_or_ge j 15 with h | h
        · omega
        · have h5 : 16 ^ 16 ≤ 16 ^ (j + 1) := Nat.pow_le_pow_right (by decide) (by omega)
          have h6 : (16 : Nat) ^ 16 = 18446744073709551616 := by decide
          omega
      have i0 : (16 : Int) ≤ (u : Int) := by omega
      have eA : bits BinOp.and IntKind.u64 (u : Int) 15 = ((u % 16 : Nat) : Int) := by
        have := u64_and (u : Int) 15 (by omega) (by omega) (by omega) (by omega)
        rw [this]
        congr 1
        exact Nat.and_two_pow_sub_one_eq_mod u 4
      clear hu hU
      go_wp2_with fail
      have HP := Lib.hid (show RowA (wr.setCell ⟨w.heap.size, 64 - j, none⟩ (.int .u8 ((digs[u % 16]'(Nat.lt_trans hm (by decide))).toNat : Int))) w.heap.size w.heap.size (ys.set (64 - j) (hexD (u % 16))) from by rw [digs_at _ hm]; exact HQ.out.2.1.put _ _)
      go_roundw
      case rel => exact ⟨j + 1, u / 16, _, by omega, by simp, by rw [show 65 - (j + 1) = 64 - j by omega], ⟨by rw [HQ.out.1, Nat.div_div_eq_div_mul, Nat.pow_succ], HP.out, by rw [List.length_set]; exact HQ.out.2.2.1, hexL_drop HQ.out.2.2.1 (by omega) HQ.out.2.2.2.1 HQ.out.1, HQ.out.2.2.2.2.trans ((Chg.of_set (S := fun k => k = w.heap.size) (⟨w.heap.size, 64 - j, none⟩ : Addr) (.int .u8 ((digs[u % 16]'(Nat.lt_trans hm (by decide))).toNat : Int)) rfl).below HQ.out.2.2.2.2.size fun k hk => by rw [hk]; exact Nat.le_refl _)⟩⟩
      case measure => simp [intOf]; omega
    · have i0 : ¬ (16 : Int) ≤ (u : Int) := by omega
      have hu36 : u < digs.size := Nat.lt_trans (Nat.lt_of_not_le h8) (by decide)
      have hu16 : u % 16 = u := Nat.mod_eq_of_lt (by omega)
      have hlt : U < 16 ^ (j + 1) := by
        have h2 : U / 16 ^ j < 16 := by rw [← hu]; omega
        have h3 := (Nat.div_lt_iff_lt_mul (Nat.pow_pos (by decide : 0 < 16))).1 h2
        rw [Nat.pow_succ, Nat.mul_comm]; exact h3
      have HP := Lib.hid (show RowA (wr.setCell ⟨w.heap.size, 64 - j, none⟩ (.int .u8 ((digs[u]'hu36).toNat : Int))) w.heap.size w.heap.size (ys.set (64 - j) (hexD (u % 16))) from by rw [hu16, digs_at u (by omega)]; exact HQ.out.2.1.put _ _)
      have hb := HP.out.bytes (j := 64 - j) (by rw [List.length_set]; exact HQ.out.2.2.1) (by omega)
      have hdr : (ys.set (64 - j) (hexD (u % 16))).drop (64 - j) = hexL (j + 1) U := by
        have h := hexL_drop HQ.out.2.2.1 (by omega) HQ.out.2.2.2.1 HQ.out.1
        rwa [show 65 - (j + 1) = 64 - j by omega] at h
      rw [hdr, show 65 - (64 - j) = j + 1 by omega] at hb
      have hcv := convB _ _ _ _ (show HoldsB _ (.slice (some ⟨w.heap.size, 64 - j, none⟩) (hexL (j + 1) U).length (j + 1)) (hexL (j + 1) U) from by rw [hexL_len]; exact hb)
      rw [hexL_len, show j + 1 = 65 - (64 - j) by omega] at hcv
      clear hdr
      have HB := Lib.hid (HQ.out.2.2.2.2.trans ((Chg.of_set (S := fun k => k = w.heap.size) (⟨w.heap.size, 64 - j, none⟩ : Addr) (.int .u8 ((digs[u]'hu36).toNat : Int)) rfl).below HQ.out.2.2.2.2.size fun k hk => by rw [hk]; exact Nat.le_refl _))
      have HLT := Lib.hid hlt
      have i1 : (65 : Int) - ((64 - j : Nat) : Int) = ((j + 1 : Nat) : Int) := by omega
      have i2 : ((64 - j : Nat) : Int) ≤ 65 := by omega
      have i3 : (u : Int) < 36 := by omega
      clear hu hU hb hlt hu16
      go_wp2_with fail
      go_ret2
      exact ⟨⟨65 - (64 - j), by omega, by omega, by rw [show 65 - (64 - j) = j + 1 by omega]; exact HLT.out, rfl⟩, HB.out⟩

end Go.Proofs.YtobkhoednecljaaDoor
