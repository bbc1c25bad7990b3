/- Package floats' reference: Sum. -/
import Derived.Test.YtobkhoednecljaaDoorFloD
import Derived.Laws.FloatArith
namespace Go.Proofs.YtobkhoednecljaaDoor
open Go.RowKit

/-- A step of a sum, whether the machine chooses a NaN or not. -/
theorem run_addF (P : Program) (t : TypeId) (x y : Nat) (w : World) : ∃ r W, (binOp .add t (.float .f64 x) (.float .f64 y)).run P w = .ok (.float .f64 r) W ∧ Below w.heap.size w W ∧ ∀ o, RepF o x → RepF (stepF o y) r := by
  cases h : Ieee.double.add x y with
  | some r => exact ⟨r, w, run_float_arith w .add t .f64 x y r h, Below.refl _ _, fun o ho => ho.some h⟩
  | none =>
    refine ⟨_, w.drew, ?_, (Below.refl _ _).drew, fun o ho => ho.none h (nan_cut (w.tape w.drawn (.nanBits .f64 x y))).1 (nan_cut _).2⟩
    simp [binOp, Op.floatArith, show FloatKind.f64.format.add x y = none from h, Question.forced, Question.cut]
theorem foldF_take {ss : List Nat} {k : Nat} (h : k < ss.length) : (ss.take (k + 1)).foldl stepF (some 0) = stepF ((ss.take k).foldl stepF (some 0)) ss[k] := by
  rw [take_step (List.getElem?_eq_getElem h), List.foldl_append]; rfl

set_option maxRecDepth 100000 in
set_option maxHeartbeats 2000000 in
theorem refSum13_h (A : Option Addr) (xs : List Nat) (cap total : Nat) (w : World) (hx : NumsU w A xs) (hm : xs.length ≤ 1000) (HV0 : ∀ x ∈ xs, x < 18446744073709551616) (hsum : sumF xs = total) :
    Calls Tryd.prog 27 #[.slice A xs.length cap] w (OneB (.int .u64 ((total : Nat) : Int)) w) := by
  obtain ⟨ti0, hi0, hz0, hz1, hz2⟩ := info_parts infoU
  have HX := Lib.hid hx
  have HSUM := Lib.hid hsum
  clear hx hsum
  go_enter Tryd.func27, Tryd.ntmps27
  go_wp2_with fail
  go_loopw [3, 4] (fun v i wr => ∃ k : Nat, k ≤ xs.length ∧ i = .int .i64 k ∧ Hid (MadeU w wr v ((xs.take k).map canonF))) (fun _ i _ => xs.length - (intOf i).toNat)
  case atStart => exact ⟨0, by omega, rfl, Lib.hid ⟨World.ownsRow_nil _ _ _ _, Below.refl _ _⟩⟩
  case round =>
    obtain ⟨k, hk, rfl, hr⟩ := hrel
    by_cases hlt : k < xs.length
    · have i0 : (k : Int) < (xs.length : Int) := by omega
      obtain ⟨b, off, rfl, hbl, hc0⟩ := (SlAt.cell1 (f := fun n : Nat => Value.int .u64 n) (HX.out.below hr.out.2) (j := k) hlt)
      have HC := Lib.hid fun W => refCanon13 xs[k] W (HV0 _ (List.getElem_mem hlt))
      have HS := Lib.hid (show (xs.take (k + 1)).map canonF = (xs.take k).map canonF ++ [canonF xs[k]] from by rw [take_step (List.getElem?_eq_getElem hlt), List.map_append]; rfl)
      have hl : ((xs.take k).map canonF).length ≤ 1000 := by rw [List.length_map, List.length_take]; omega
      obtain ⟨D, d, rfl, _, _, _⟩ := SlAt.of_own encU_len hr.out.1
      generalize xs[k] = x at hc0 HC HS ⊢
      generalize (xs.take k).map canonF = ns at hr hl HS ⊢
      obtain ⟨y, hy⟩ : ∃ y : Nat, canonF x = y := ⟨_, rfl⟩
      rw [hy] at HC HS
      clear hy
      go_wp2_with fail
      refine (HC.out _).mono ?_
      rintro e w1 ⟨rfl, rfl⟩
      go_wp2_with (at_builtin; refine wpList_append_sl _ encU 1 rfl (.tmp 13) (.tmp 19) 34 rfl encU_len (by omega) encU_one w.heap.size 22 ti0 _ 8 Tryd.underlying34 hi0 hz0 hz1 hz2 rfl _ ns rfl (hr.out.1.alloc _) _ 1 _ [y] rfl rfl (SlAt.one (t := 22) (heap_alloc_new wr _)) (by simp [maxLen]; omega) (by simp; omega) (by have := hr.out.2.size; simp; omega) ?_; intro v1 w1 hown hg hat; have HO := Lib.hid (show MadeU w w1 v1 (ns ++ [y]) from ⟨hown, (hr.out.2.alloc hr.out.2.size _).grown hg (by have := hr.out.2.size; simp; omega) (fun k hk => (hr.out.1.lt k hk).1)⟩); clear hown hg hat)
      go_roundw
      case rel => exact ⟨k + 1, by omega, by go_num, by rw [HS.out]; exact HO⟩
      case measure => simp [intOf]; omega
    · have i0 : ¬ (k : Int) < (xs.length : Int) := by omega
      obtain rfl : k = xs.length := by omega
      rw [List.take_length] at hr
      have hcl := canonF_ltL HV0
      have hcn : (xs.map canonF).length ≤ 1000 := by rw [List.length_map]; exact hm
      have hsum : total = outF (foldF (sortF (xs.map canonF))) := HSUM.out.symm
      generalize xs.map canonF = cs at hr hcl hcn hsum
      obtain ⟨D, d, rfl, hod1, hod2, hod⟩ := SlAt.of_own encU_len hr.out.1
      have HSO := Lib.hid (refSorted13 D cs d wr hod hcn hcl)
      have hsn := sortF_len cs
      obtain ⟨ss, hss⟩ : ∃ ss, sortF cs = ss := ⟨_, rfl⟩
      rw [hss] at HSO hsum hsn
      have HSF := Lib.hid hsum
      have HB0 := Lib.hid hr.out.2
      have hssn : ss.length ≤ 1000 := by omega
      clear hcl hss hlt hod hod1 hod2 hr HX hsn hsum
      go_wp2_with fail
      refine HSO.out.mono ?_
      rintro e w2 ⟨⟨v2, rfl, ho2, _⟩, hb2⟩
      have HB2 := Lib.hid (below_trans HB0.out hb2)
      obtain ⟨D2, d2, rfl, hod2, hd1, hd2⟩ := id ho2
      have HD2 := Lib.hid hod2
      clear ho2 hb2 HB0 HSO hod2
      go_wp2_with fail
      go_loopw [5, 6] (fun a i wr => ∃ (k v : Nat), k ≤ ss.length ∧ i = .int .i64 k ∧ a = .float .f64 v ∧ Hid (Below w2.heap.size w2 wr) ∧ Hid (RepF ((ss.take k).foldl stepF (some 0)) v)) (fun _ i _ => ss.length - (intOf i).toNat)
      case atStart => exact ⟨0, 0, by omega, rfl, rfl, Lib.hid (Below.refl _ _), Lib.hid RepF.start⟩
      case round =>
        obtain ⟨k, v, hk, rfl, rfl, hB, hR⟩ := hrel
        by_cases hlt : k < ss.length
        · have i0 : (k : Int) < (ss.length : Int) := by omega
          obtain ⟨b, off, rfl, hbl, hc0⟩ := (SlAt.cell1 (f := fun n : Nat => Value.int .u64 n) (HD2.out.below hB.out) (j := k) hlt)
          have HS := Lib.hid (foldF_take hlt)
          generalize ss[k] = y at hc0 HS
          obtain ⟨r, W2, hadd, hbW, hrep⟩ := run_addF Tryd.prog 23 v y wr
          have HRR := Lib.hid (hrep _ hR.out)
          rw [← HS.out] at HRR
          have HBW := Lib.hid (below_trans hB.out hbW)
          have hd := run_fromBits y
          clear hrep hbW HS
          go_wp2_with fail
          go_roundw
          case rel => exact ⟨k + 1, r, by omega, by go_num, rfl, HBW, HRR⟩
          case measure => simp [intOf]; omega
        · have i0 : ¬ (k : Int) < (ss.length : Int) := by omega
          obtain rfl : k = ss.length := by omega
          have hR2 := hR.out
          rw [List.take_length] at hR2
          have HE := Lib.hid (show canonF v = total from by rw [HSF.out]; exact hR2.out)
          have hd := run_toBits v
          have HC := Lib.hid fun W => refCanon13 v W hR2.1
          rw [HE.out] at HC
          have HBE := Lib.hid (below_trans HB2.out hB.out)
          clear hR hR2 hlt HE
          go_wp2_with fail
          refine (HC.out _).mono ?_
          rintro e w3 ⟨rfl, rfl⟩
          go_wp2_with fail
          go_ret
          exact ⟨rfl, HBE.out⟩

end Go.Proofs.YtobkhoednecljaaDoor
