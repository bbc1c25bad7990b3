/- The law of texts returns true, whatever the dot and the text: the walk. -/
import Derived.Test.YteeigngomleijaaDoorTexts
namespace Go.Proofs.YteeigngomleijaaDoor
open Go.RowKit

theorem first_below {w a b : World} {o : Obj} (h : Below w.heap.size w a) (k : Below (a.alloc o).heap.size (a.alloc o) b) : Below w.heap.size w b := below_trans (h.alloc h.size o) k
theorem parseRV_none {l : List UInt8} (h : parseR l = none) : parseRV l = .tuple #[.agg #[.int .i64 0, .int .i64 0], .bool false] := by unfold parseRV; rw [h]
theorem parseRV_some {l : List UInt8} {r c : Int} (h : parseR l = some (r, c)) : parseRV l = .tuple #[.agg #[.int .i64 r, .int .i64 c], .bool true] := by unfold parseRV; rw [h]

set_option maxHeartbeats 2000000 in
theorem lawDotTexts (r c : Int) (s : ByteArray) (w : World) (hm : s.size ≤ maxLen) (ht : TabOK w) :
    Calls Tryd.prog 3 #[.agg #[.int .i64 r, .int .i64 c], .string s] w fun e w' => e = .returned (.bool true) ∧ Below w.heap.size w w' := by
  have KN := Lib.hid known1
  unfold maxLen at hm
  have hal := (Below.refl _ w).alloc (Nat.le_refl _) (.cells #[.int .i64 r, .int .i64 c] 23)
  have HAL := Lib.hid hal
  have HO := Lib.hid (ht.below hal)
  clear hal ht
  by_cases hs : s.size ≤ 60
  · have t1 : ¬ (60 < (s.size : Int)) := by omega
    have VD := refValid r c
    have RP := fun W => refParse s W (by omega)
    have hP : (∃ p q, parseRV s.data.toList = .tuple #[.agg #[.int .i64 p, .int .i64 q], .bool true] ∧ parsesB s.data.toList p q 0 = true) ∨ (parseRV s.data.toList = .tuple #[.agg #[.int .i64 0, .int .i64 0], .bool false] ∧ parsesB s.data.toList 0 0 6 = true) := by
      cases hp : parseR s.data.toList with
      | none => exact .inr ⟨parseRV_none hp, by rw [parseR_eq] at hp; simp [parsesB, hp]⟩
      | some d => exact .inl ⟨d.1, d.2, parseRV_some hp, by rw [parseR_eq] at hp; simp [parsesB, hp]⟩
    have LS := Lib.hid hs
    clear hs
    obtain ⟨want, no, hW, hv⟩ : ∃ want no, textV r c = .tuple #[.string want, .int .i64 no] ∧ ((validD r c = false ∧ want = ⟨#[]⟩ ∧ no = 2) ∨ (validD r c = true ∧ no = 0 ∧ ∀ W, Calls Tryd.prog 13 #[.agg #[.int .i64 r, .int .i64 c]] W fun e w' => e = .returned (.string want) ∧ Below W.heap.size W w')) := by
      cases hv : validD r c with
      | false => exact ⟨_, _, by simp [textV, hv], .inl ⟨rfl, rfl, rfl⟩⟩
      | true =>
        have hb := hv
        simp [validD] at hb
        refine ⟨⟨(textL r.toNat c.toNat).toArray⟩, 0, by simp [textV, hv], .inr ⟨rfl, rfl, fun W => ?_⟩⟩
        have h := refText r.toNat c.toNat W (by omega) (by omega)
        rwa [show ((r.toNat : Nat) : Int) = r by omega, show ((c.toNat : Nat) : Int) = c by omega] at h
    have HT := Lib.hid fun W (hW' : TabOK W) => lawTexts1 r c no want W hW' hW
    clear hW
    rcases hv with ⟨hv, rfl, rfl⟩ | ⟨hv, rfl, hx⟩
    · have t2 := True.intro
      rw [hv] at VD
      have HVD := Lib.hid VD
      have HRP := Lib.hid RP
      clear VD RP hv
      go_enter Tryd.func3, Tryd.ntmps3
      go_wp2_with fail
      refine (HVD.out _).mono ?_
      rintro e w1 ⟨rfl, hb⟩
      have HB1 := Lib.hid (below_trans HAL.out hb)
      have HO1 := Lib.hid (HO.out.below hb)
      have k1 : w1.cell? ⟨w.heap.size, 0, none⟩ = some (.int .i64 r) := (hb.cell (p := ⟨w.heap.size, 0, none⟩) (by simp)).trans (by go_simp)
      have k2 : w1.cell? ⟨w.heap.size, 1, none⟩ = some (.int .i64 c) := (hb.cell (p := ⟨w.heap.size, 1, none⟩) (by simp)).trans (by go_simp)
      have gz : w.heap.size < w1.heap.size := by have := hb.size; simp at this; omega
      clear hb
      go_wp2_with fail
      have HB2 := HB1
      have HO2 := HO1
      refine (HT.out _ HO2.out).mono ?_
      rintro e w3 ⟨rfl, hb⟩
      have HB3 := Lib.hid (below_trans HB2.out hb)
      clear hb k1 k2
      go_wp2_with fail
      rcases hP with ⟨p, q, hP, hB⟩ | ⟨hP, hB⟩
      all_goals
        rw [hP] at HRP
        have HBB := Lib.hid hB
        clear hP hB
        refine (HRP.out _).mono ?_
        rintro e w4 ⟨rfl, hb⟩
        have HB4 := Lib.hid (below_trans HB3.out hb)
        clear hb
        go_wp2_with fail
        refine (parses_h s _ _ _ true _ (by have := LS.out; omega) HBB.out).mono ?_
        rintro e w5 ⟨rfl, hb⟩
        have HB5 := Lib.hid (first_below HB4.out hb)
        clear hb
        go_wp2_with fail
        refine (KN.out _).mono ?_
        rintro e w6 ⟨rfl, hb⟩
        have HB6 := Lib.hid (below_trans HB5.out hb)
        clear hb
        go_wp2_with fail
        go_ret
        exact ⟨rfl, HB6.out⟩
    · have HX := Lib.hid hx; clear hx
      rw [hv] at VD
      have HVD := Lib.hid VD
      have HRP := Lib.hid RP
      clear VD RP hv
      go_enter Tryd.func3, Tryd.ntmps3
      go_wp2_with fail
      refine (HVD.out _).mono ?_
      rintro e w1 ⟨rfl, hb⟩
      have HB1 := Lib.hid (below_trans HAL.out hb)
      have HO1 := Lib.hid (HO.out.below hb)
      have k1 : w1.cell? ⟨w.heap.size, 0, none⟩ = some (.int .i64 r) := (hb.cell (p := ⟨w.heap.size, 0, none⟩) (by simp)).trans (by go_simp)
      have k2 : w1.cell? ⟨w.heap.size, 1, none⟩ = some (.int .i64 c) := (hb.cell (p := ⟨w.heap.size, 1, none⟩) (by simp)).trans (by go_simp)
      have gz : w.heap.size < w1.heap.size := by have := hb.size; simp at this; omega
      clear hb
      go_wp2_with fail
      have l1 := fun p => cell_far (p := p) (a := ⟨w.heap.size, 0, none⟩) gz k1
      have l2 := fun p => cell_far (p := p) (a := ⟨w.heap.size, 1, none⟩) gz k2
      have TO := Lib.hid (fun p => HO1.out.below (below_far w1 p))
      clear k1 k2
      refine wp_region_far (by kernel_rfl) (by kernel_rfl) ?_
      repeat (go_big_quiet_step ((first | (go_at_call 13; exact far_of (HX.out _)) | (go_at_call 12; exact far_of (HT.out _ (TO.out _))))))
      refine wpQuiet_nil ?_
      rintro _ ⟨p, rfl⟩
      have HB3 := Lib.hid (below_trans HB1.out (below_far w1 p))
      go_wp2_with fail
      rcases hP with ⟨p, q, hP, hB⟩ | ⟨hP, hB⟩
      all_goals
        rw [hP] at HRP
        have HBB := Lib.hid hB
        clear hP hB
        refine (HRP.out _).mono ?_
        rintro e w4 ⟨rfl, hb⟩
        have HB4 := Lib.hid (below_trans HB3.out hb)
        clear hb
        go_wp2_with fail
        refine (parses_h s _ _ _ true _ (by have := LS.out; omega) HBB.out).mono ?_
        rintro e w5 ⟨rfl, hb⟩
        have HB5 := Lib.hid (first_below HB4.out hb)
        clear hb
        go_wp2_with fail
        refine (KN.out _).mono ?_
        rintro e w6 ⟨rfl, hb⟩
        have HB6 := Lib.hid (below_trans HB5.out hb)
        clear hb
        go_wp2_with fail
        go_ret
        exact ⟨rfl, HB6.out⟩
  · have t1 : 60 < (s.size : Int) := by omega
    go_enter Tryd.func3, Tryd.ntmps3
    go_wp2_with (go_at_call 10; refine (KN.out _).mono ?_; rintro e w1 ⟨rfl, hb⟩)
    go_ret
    exact ⟨rfl, below_trans HAL.out hb⟩

end Go.Proofs.YteeigngomleijaaDoor
