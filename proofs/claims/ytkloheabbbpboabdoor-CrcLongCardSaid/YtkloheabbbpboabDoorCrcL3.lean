/- The law CrcLong. -/
import Derived.Test.YtkloheabbbpboabDoorCrcL2
import Derived.Laws.MakeOwn
namespace Go.Proofs.YtkloheabbbpboabDoor
open Go.RowKit

theorem cells_zero (n : Nat) : List.replicate n (Value.int .u8 0) = cellsOf encB (List.replicate n 0) := by
  induction n with
  | zero => rfl
  | succ n ih => rw [List.replicate_succ, ih, List.replicate_succ]; rfl

set_option maxRecDepth 100000 in
set_option maxHeartbeats 2000000 in
theorem lawLong5 (A : Option Addr) (c : Nat) (xs : List UInt8) (few : Int) (w : World) (hx : HoldsB w (.slice A xs.length c) xs) (ht : LaidOK w) :
    Calls Tryd.prog 4 #[.slice A xs.length c, .int .i64 few] w (TrueB w) := by
  obtain ⟨i0, hi0, hz0, hz1, hz2⟩ := info_parts infoB
  have HT := Lib.hid ht
  obtain ⟨_, _, eV, hax, _⟩ := hx
  cases eV
  have HX := Lib.hid hax
  clear ht hax
  by_cases hbad : 10 < xs.length ∨ few < 0 ∨ 3 < few
  · have hcs : (10 : Int) < (xs.length : Int) ∨ (¬ (10 : Int) < (xs.length : Int) ∧ few < 0) ∨ (¬ (10 : Int) < (xs.length : Int) ∧ ¬ few < 0 ∧ 3 < few) := by omega
    clear hbad
    rcases hcs with y0 | ⟨y0, y1⟩ | ⟨y0, y1, y2⟩
    all_goals
      go_enter Tryd.func4, Tryd.ntmps4
      go_wp2_with fail
      refine (knownB5 _ HT.out).mono ?_
      rintro e w1 ⟨rfl, hb⟩
      have HB := Lib.hid hb
      clear hb
      go_wp2_with fail
      go_ret
      exact ⟨rfl, HB.out⟩
  have y0 : ¬ (10 : Int) < (xs.length : Int) := by omega
  have y1 : ¬ few < 0 := by omega
  have y2 : ¬ 3 < few := by omega
  have HL := Lib.hid (show xs.length ≤ 10 from by omega)
  obtain ⟨n, hn⟩ : ∃ n : Nat, 16777216 - few = (n : Int) := ⟨(16777216 - few).toNat, by omega⟩
  have HN := Lib.hid (show n ≤ 16777216 from by omega)
  have w64 : wrap64 (n : Int) = (n : Int) := by unfold wrap64; omega
  have hmk := fun W : World => run_make_full (P := Tryd.prog) W W.heap.size 28 5 i0 (.int .u8 0) 1 Tryd.underlying28 hi0 hz0 hz1 .i64 .i64 n (by rw [hz2]; omega) (by simp [maxLen]; omega) (Nat.le_refl _)
  obtain ⟨w1, hm1, hm2, hm3⟩ := hmk w
  have HM2 := Lib.hid hm2
  have HM3 := Lib.hid hm3
  clear hmk hm2 hm3 hbad
  go_enter Tryd.func4, Tryd.ntmps4
  go_wp2_with fail
  obtain ⟨zs, hzl, hrow⟩ : ∃ zs : List UInt8, zs.length = n ∧ w1.ownsRow w.heap.size 5 1 (.slice (some ⟨w.heap.size, 0, none⟩) n n) n (cellsOf encB zs) := ⟨List.replicate n 0, List.length_replicate, by
    rw [← cells_zero, ← toList_madeCells_one]
    have h := HM2.out
    rw [Nat.mul_one] at h
    exact h⟩
  have HB1 := Lib.hid (show Below w.heap.size w w1 from (Below.refl _ w).grown HM3.out (Nat.le_refl _) (fun k hk => by cases hk))
  have HX1 := Lib.hid (HX.out.below HB1.out)
  have HZL := Lib.hid hzl
  have HAT := Lib.hid (show BytesAt w1 (some ⟨w.heap.size, 0, none⟩) zs from by
    obtain ⟨_, _, e, _, _, h⟩ := SlAt.of_own encB_len (xs := zs) (by rw [hzl]; exact hrow)
    cases e
    exact h)
  clear hzl hrow HM2 HM3 hm1 w64
  obtain ⟨p, hp⟩ : ∃ p, updN 0 xs = p := ⟨_, rfl⟩
  obtain ⟨q, hq⟩ : ∃ q, updN 0 zs = q := ⟨_, rfl⟩
  obtain ⟨r, hr⟩ : ∃ r, updN p zs = r := ⟨_, rfl⟩
  have HPQ := Lib.hid (show p < 4294967296 ∧ q < 4294967296 ∧ r < 4294967296 from ⟨by rw [← hp]; exact updN_lt _ _, by rw [← hq]; exact updN_lt _ _, by rw [← hr]; exact updN_lt _ _⟩)
  have HJ := Lib.hid (show joinN p q n = r from by rw [← hr, ← hq, ← HZL.out, updN_join HPQ.out.1])
  have HP := Lib.hid hp
  have HQ := Lib.hid hq
  have HR := Lib.hid hr
  clear hp hq hr
  have S1 := Lib.hid (crcSum A c xs w1 HX1.out (by have := HL.out; omega))
  rw [HP.out] at S1
  refine S1.out.mono ?_
  rintro e w3 ⟨rfl, rfl⟩
  clear S1
  go_wp2_with fail
  have S1 := Lib.hid (crcSum (some ⟨w.heap.size, 0, none⟩) n zs _ HAT.out (by have := HZL.out; have := HN.out; omega))
  rw [HQ.out, HZL.out] at S1
  refine S1.out.mono ?_
  rintro e w3 ⟨rfl, rfl⟩
  clear S1
  go_wp2_with fail
  have S1 := Lib.hid (crcUpdate p (some ⟨w.heap.size, 0, none⟩) n zs _ HPQ.out.1 HAT.out (by have := HZL.out; have := HN.out; omega))
  rw [HR.out, HZL.out] at S1
  refine S1.out.mono ?_
  rintro e w3 ⟨rfl, rfl⟩
  clear S1
  go_wp2_with fail
  refine (joinLit p q n r _ HPQ.out.1 HPQ.out.2.1 HN.out HJ.out).mono ?_
  rintro e w3 ⟨rfl, rfl⟩
  go_wp2_with fail
  refine (knownB5 _ (HT.out.below HB1.out)).mono ?_
  rintro e w7 ⟨rfl, hb⟩
  have HB := Lib.hid (below_trans HB1.out hb)
  clear hb
  go_wp2_with fail
  go_ret
  exact ⟨rfl, HB.out⟩

end Go.Proofs.YtkloheabbbpboabDoor
