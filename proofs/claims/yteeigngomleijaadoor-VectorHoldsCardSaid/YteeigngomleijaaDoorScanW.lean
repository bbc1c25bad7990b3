/- The reference's Parse. -/
import Derived.Test.YteeigngomleijaaDoorScan
import Derived.StillTailTactics
namespace Go.Proofs.YteeigngomleijaaDoor
open Go.RowKit

theorem block_of_cell' {w : World} {a : Addr} {v : Value} (h : w.cell? a = some v) : a.block < w.heap.size := by
  rcases Nat.lt_or_ge a.block w.heap.size with hlt | hge
  · exact hlt
  · simp [World.cell?, Array.getElem?_eq_none hge] at h

def kI (k : Bool) : Int := if k then 1 else 0

/-- What the reference returns. -/
def parseRV (l : List UInt8) : Value :=
  match parseR l with
  | some d => .tuple #[.agg #[.int .i64 d.1, .int .i64 d.2], .bool true]
  | none => .tuple #[.agg #[.int .i64 0, .int .i64 0], .bool false]

set_option maxRecDepth 100000 in
set_option maxHeartbeats 2000000 in
theorem refParse (s : ByteArray) (w : World) (hm : s.size ≤ 1000000) :
    Calls Tryd.prog 14 #[.string s] w fun e w' => e = .returned (parseRV s.data.toList) ∧ Below w.heap.size w w' := by
  generalize hV : parseRV s.data.toList = V
  have HV := Lib.hid hV
  clear hV
  go_enter Tryd.func14, Tryd.ntmps14
  go_wp2_with fail
  go_loopw [5, 6] (fun sk si wr => ∃ (m : Nat) (k : Bool) (a b : Int), m ≤ s.size ∧ sk = .int .i64 (kI k) ∧ si = .int .i64 m ∧ 0 ≤ a ∧ a ≤ 1099511627776 ∧ 0 ≤ b ∧ b ≤ 1099511627776 ∧
      wr.cell? ⟨w.heap.size + 1, 0, none⟩ = some (.int .i64 a) ∧ wr.cell? ⟨w.heap.size + 1, 1, none⟩ = some (.int .i64 b) ∧ wr.frozen? ⟨w.heap.size + 1, 0, none⟩ = false ∧ wr.frozen? ⟨w.heap.size + 1, 1, none⟩ = false ∧
      wr.cell? ⟨w.heap.size, 0, none⟩ = some (.int .i64 0) ∧ wr.cell? ⟨w.heap.size, 1, none⟩ = some (.int .i64 0) ∧ wr.frozen? ⟨w.heap.size, 0, none⟩ = false ∧ wr.frozen? ⟨w.heap.size, 1, none⟩ = false ∧
      Hid (Below w.heap.size w wr) ∧ Hid (scanR s.data.toList false 0 0 = scanR (s.data.toList.drop m) k a b)) (fun _ si _ => s.size - (intOf si).toNat)
  case atStart =>
    refine ⟨0, false, 0, 0, by omega, rfl, rfl, by omega, by omega, by omega, by omega, ?_, ?_, ?_, ?_, ?_, ?_, ?_, ?_, ((Below.refl _ w).alloc (Nat.le_refl _) _).alloc (by simp) _, by rfl⟩ <;> first | go_simp | simp
  case round =>
    obtain ⟨m, k, a, b, h1, rfl, rfl, ha0, ha1, hb0, hb1, c1, c2, f1, f2, c3, c4, f3, f4, HB, HS⟩ := hrel
    by_cases hlt : m < s.size
    · obtain ⟨x, hx⟩ : ∃ x, s.data.toList[m]? = some x := ⟨_, List.getElem?_eq_getElem (by simpa using hlt)⟩
      have hdrop : s.data.toList.drop m = x :: s.data.toList.drop (m + 1) := by
        obtain ⟨hl, hx2⟩ := List.getElem?_eq_some_iff.1 hx
        rw [← hx2]; exact List.drop_eq_getElem_cons hl
      have hsx : s[m]'hlt = x := by
        rw [Array.getElem?_toList] at hx
        obtain ⟨_, h⟩ := Array.getElem?_eq_some_iff.1 hx
        exact h
      have hsn : (((s[m]'hlt).toNat : Int)) = (x.toNat : Int) := by rw [hsx]
      have hs2 := HS.out
      rw [hdrop, scanR] at hs2
      have HX := Lib.hid hsx
      have HDR := Lib.hid hdrop
      clear hx hdrop hsx
      by_cases hd : 48 ≤ x.toNat ∧ x.toNat ≤ 57
      · rw [if_pos hd] at hs2
        have t1 : 48 ≤ ((s[m]'hlt).toNat : Int) := by omega
        have t2 : ((s[m]'hlt).toNat : Int) ≤ 57 := by omega
        have HD := Lib.hid hd
        have HSN := Lib.hid hsn
        clear hd hsn
        have HS2 := Lib.hid hs2
        clear hs2
        cases k with
        | false =>
          simp only [kI, Bool.false_eq_true, if_false]
          go_wp2_with fail
          go_still_tail 13, (by kernel_rfl)
          change wpList _ _ _ _ _ wr.drew
          go_wp2_with fail
          have eV : min 1099511627776 (10 * a + ((s[m]'hlt).toNat : Int) - 48) = upD a x := by unfold upD; rw [HSN.out]; congr 1; omega
          have u0 : 0 ≤ upD a x := by have := HD.out; unfold upD; omega
          have u1 : upD a x ≤ 1099511627776 := by unfold upD; omega
          rw [eV]
          exact ⟨⟨m + 1, false, upD a x, b, by omega, rfl, by go_num, u0, u1, hb0, hb1,
            World.cell?_setCell_same _ _ _ c1, (World.cell?_setCell_other _ _ _ _ (by simp)).trans c2,
            (World.frozen?_setCell _ _ _ _).trans f1, (World.frozen?_setCell _ _ _ _).trans f2, (World.cell?_setCell_other _ _ _ _ (by simp)).trans c3, (World.cell?_setCell_other _ _ _ _ (by simp)).trans c4, (World.frozen?_setCell _ _ _ _).trans f3, (World.frozen?_setCell _ _ _ _).trans f4,
            (HB.out.setCell (by simp) _).drew, HS2.out.trans (by simp)⟩, by simp [intOf]; omega⟩
        | true =>
          simp only [kI, if_true]
          go_wp2_with fail
          go_still_tail 13, (by kernel_rfl)
          change wpList _ _ _ _ _ wr.drew
          go_wp2_with fail
          have eV : min 1099511627776 (10 * b + ((s[m]'hlt).toNat : Int) - 48) = upD b x := by unfold upD; rw [HSN.out]; congr 1; omega
          have u0 : 0 ≤ upD b x := by have := HD.out; unfold upD; omega
          have u1 : upD b x ≤ 1099511627776 := by unfold upD; omega
          rw [eV]
          exact ⟨⟨m + 1, true, a, upD b x, by omega, rfl, by go_num, ha0, ha1, u0, u1,
            (World.cell?_setCell_other _ _ _ _ (by simp)).trans c1, World.cell?_setCell_same _ _ _ c2,
            (World.frozen?_setCell _ _ _ _).trans f1, (World.frozen?_setCell _ _ _ _).trans f2, (World.cell?_setCell_other _ _ _ _ (by simp)).trans c3, (World.cell?_setCell_other _ _ _ _ (by simp)).trans c4, (World.frozen?_setCell _ _ _ _).trans f3, (World.frozen?_setCell _ _ _ _).trans f4,
            (HB.out.setCell (by simp) _).drew, HS2.out.trans (by simp)⟩, by simp [intOf]; omega⟩
      · rw [if_neg hd] at hs2
        by_cases h46 : x.toNat = 46
        · have t1 : ¬ (48 ≤ ((s[m]'hlt).toNat : Int)) := by omega
          have te : (((s[m]'hlt).toNat : Int) == 46) = true := by rw [hsn, h46]; rfl
          have te2 : ((s[m]'hlt).toNat : Int) = 46 := by omega
          cases k with
          | false =>
            rw [if_pos ⟨h46, rfl⟩] at hs2
            have HS2 := Lib.hid hs2
            clear hs2 hd h46 hsn te2
            simp only [kI, Bool.false_eq_true, if_false]
            go_wp2_with fail
            exact ⟨⟨m + 1, true, a, b, by omega, rfl, by go_num, ha0, ha1, hb0, hb1, c1, c2, f1, f2, c3, c4, f3, f4, HB.out, HS2.out⟩, by simp [intOf]; omega⟩
          | true =>
            rw [if_neg (by simp)] at hs2
            have hP : parseR s.data.toList = none := by unfold parseR; rw [hs2]
            have HP := Lib.hid (show V = .tuple #[.agg #[.int .i64 0, .int .i64 0], .bool false] by rw [← HV.out, parseRV, hP])
            clear hs2 hd h46 hsn te2 hP
            simp only [kI, if_true]
            go_wp2_with fail
            refine bodyPost_ret (v := V) (by rw [HP.out]; simp [results, Tryd.results14, go_sem, c3, c4]) rfl ⟨rfl, (HB.out.setCell (by simp) _).setCell (by simp) _⟩
        · rw [if_neg (by simp [h46])] at hs2
          have hP : parseR s.data.toList = none := by unfold parseR; rw [hs2]
          have HP := Lib.hid (show V = .tuple #[.agg #[.int .i64 0, .int .i64 0], .bool false] by rw [← HV.out, parseRV, hP])
          have te : (((s[m]'hlt).toNat : Int) == 46) = false := by rw [hsn, beq_eq_false_iff_ne]; omega
          by_cases h48 : 48 ≤ x.toNat
          · have t1 : 48 ≤ ((s[m]'hlt).toNat : Int) := by omega
            have t2 : ¬ (((s[m]'hlt).toNat : Int) ≤ 57) := by omega
            clear hs2 hd h46 hsn hP h48
            simp only [kI]
            go_wp2_with fail
            all_goals
              refine bodyPost_ret (v := V) (by rw [HP.out]; simp [results, Tryd.results14, go_sem, c3, c4]) rfl ⟨rfl, (HB.out.setCell (by simp) _).setCell (by simp) _⟩
          · have t1 : ¬ (48 ≤ ((s[m]'hlt).toNat : Int)) := by omega
            clear hs2 hd h46 hsn hP h48
            simp only [kI]
            go_wp2_with fail
            all_goals
              refine bodyPost_ret (v := V) (by rw [HP.out]; simp [results, Tryd.results14, go_sem, c3, c4]) rfl ⟨rfl, (HB.out.setCell (by simp) _).setCell (by simp) _⟩
    · have hS : scanR s.data.toList false 0 0 = some (a, b) := by
        rw [HS.out, List.drop_eq_nil_of_le (by simp; omega)]; rfl
      have hR : parseR s.data.toList = if validD a b = true ∧ textL a.toNat b.toNat = s.data.toList then some (a, b) else none := by unfold parseR; rw [hS]
      have g1 : w.heap.size + 1 < wr.heap.size := block_of_cell' (a := ⟨w.heap.size + 1, 0, none⟩) c1
      have hal : Below wr.heap.size wr (wr.alloc (.cells #[.int .i64 a, .int .i64 b] 23)) := (Below.refl _ wr).alloc (Nat.le_refl _) _
      have VD := refValid a b
      cases hv : validD a b with
      | false =>
        rw [hv] at VD
        have HP := Lib.hid (show V = .tuple #[.agg #[.int .i64 0, .int .i64 0], .bool false] by rw [← HV.out, parseRV, hR, if_neg (by simp [hv])])
        clear hR hS hv
        have HVD := Lib.hid VD; clear VD
        have HAL := Lib.hid hal; clear hal
        go_wp2_with fail
        refine (HVD.out _).mono ?_
        rintro e w1 ⟨rfl, hb⟩
        have hbb := below_trans HAL.out hb
        replace c3 := (hbb.cell (p := ⟨w.heap.size, 0, none⟩) (show w.heap.size < wr.heap.size by omega)).trans c3
        replace c4 := (hbb.cell (p := ⟨w.heap.size, 1, none⟩) (show w.heap.size < wr.heap.size by omega)).trans c4
        replace f3 := (hbb.frozen (p := ⟨w.heap.size, 0, none⟩) (show w.heap.size < wr.heap.size by omega)).trans f3
        replace f4 := (hbb.frozen (p := ⟨w.heap.size, 1, none⟩) (show w.heap.size < wr.heap.size by omega)).trans f4
        have HBB := Lib.hid (HB.out.trans (hbb.mono (by omega)))
        clear hbb hb c1 c2 f1 f2
        go_wp2_with fail
        refine bodyPost_ret (v := V) (by rw [HP.out]; simp [results, Tryd.results14, go_sem, c3, c4]) rfl ⟨rfl, (HBB.out.setCell (by simp) _).setCell (by simp) _⟩
      | true =>
        rw [hv] at VD
        have hbd := hv
        simp [validD] at hbd
        obtain ⟨a', rfl⟩ : ∃ a' : Nat, a = a' := ⟨a.toNat, by omega⟩
        obtain ⟨b', rfl⟩ : ∃ b' : Nat, b = b' := ⟨b.toNat, by omega⟩
        have RT := fun W => refText a' b' W (by omega) (by omega)
        simp only [Int.toNat_natCast] at hR
        generalize hs0 : (⟨(textL a' b').toArray⟩ : ByteArray) = s0 at RT
        by_cases hq : s0 = s
        · have hT : textL a' b' = s.data.toList := by rw [← hq, ← hs0]
          have HP := Lib.hid (show V = .tuple #[.agg #[.int .i64 (a' : Int), .int .i64 (b' : Int)], .bool true] by rw [← HV.out, parseRV, hR, if_pos ⟨hv, hT⟩])
          have hn : (!(s0.toList == s.toList)) = false := by rw [hq]; simp
          have hn2 : (s0.toList == s.toList) = true := by rw [hq]; simp
          clear hR hS hv hT hs0 hbd hq
          have HVD := Lib.hid VD
          have HRT := Lib.hid RT
          have HAL := Lib.hid hal
          clear VD RT hal
          go_wp2_with fail
          refine (HVD.out _).mono ?_
          rintro e w1 ⟨rfl, hb⟩
          have hbb := below_trans HAL.out hb
          replace c3 := (hbb.cell (p := ⟨w.heap.size, 0, none⟩) (show w.heap.size < wr.heap.size by omega)).trans c3
          replace c4 := (hbb.cell (p := ⟨w.heap.size, 1, none⟩) (show w.heap.size < wr.heap.size by omega)).trans c4
          replace f3 := (hbb.frozen (p := ⟨w.heap.size, 0, none⟩) (show w.heap.size < wr.heap.size by omega)).trans f3
          replace f4 := (hbb.frozen (p := ⟨w.heap.size, 1, none⟩) (show w.heap.size < wr.heap.size by omega)).trans f4
          have k1 : w1.cell? ⟨wr.heap.size, 0, none⟩ = some (.int .i64 (a' : Int)) := (hb.cell (p := ⟨wr.heap.size, 0, none⟩) (by simp)).trans (by go_simp)
          have k2 : w1.cell? ⟨wr.heap.size, 1, none⟩ = some (.int .i64 (b' : Int)) := (hb.cell (p := ⟨wr.heap.size, 1, none⟩) (by simp)).trans (by go_simp)
          have gz : wr.heap.size < w1.heap.size := by have := hb.size; simp at this; omega
          have HBB := Lib.hid (HB.out.trans (hbb.mono (by omega)))
          clear hbb hb c1 c2 f1 f2
          go_wp2_with fail
          refine (HRT.out _).mono ?_
          rintro e w2 ⟨rfl, hb⟩
          replace c3 := (hb.cell (p := ⟨w.heap.size, 0, none⟩) (show w.heap.size < w1.heap.size by omega)).trans c3
          replace c4 := (hb.cell (p := ⟨w.heap.size, 1, none⟩) (show w.heap.size < w1.heap.size by omega)).trans c4
          replace f3 := (hb.frozen (p := ⟨w.heap.size, 0, none⟩) (show w.heap.size < w1.heap.size by omega)).trans f3
          replace f4 := (hb.frozen (p := ⟨w.heap.size, 1, none⟩) (show w.heap.size < w1.heap.size by omega)).trans f4
          replace k1 := (hb.cell (p := ⟨wr.heap.size, 0, none⟩) gz).trans k1
          replace k2 := (hb.cell (p := ⟨wr.heap.size, 1, none⟩) gz).trans k2
          have HBB2 := Lib.hid (HBB.out.trans (hb.mono (by omega)))
          clear hb
          go_wp2_with fail
          refine bodyPost_ret (v := V) (by rw [HP.out]; simp [results, Tryd.results14, go_sem, c3, c4]) rfl ⟨rfl, (HBB2.out.setCell (by simp) _).setCell (by simp) _⟩
        · have HP := Lib.hid (show V = .tuple #[.agg #[.int .i64 0, .int .i64 0], .bool false] by
            rw [← HV.out, parseRV, hR, if_neg]
            rintro ⟨_, h⟩
            apply hq
            rw [← hs0, h])
          have hl : ¬ s0.toList = s.toList := fun h => hq (by rw [ByteArray.toList_eq, ByteArray.toList_eq] at h; exact ByteArray.ext (Array.toList_inj.1 h))
          have hn : (!(s0.toList == s.toList)) = true := by simp [hl]
          have hn2 : (s0.toList == s.toList) = false := by simp [hl]
          clear hR hS hv hs0 hbd hq
          have HVD := Lib.hid VD
          have HRT := Lib.hid RT
          have HAL := Lib.hid hal
          clear VD RT hal
          go_wp2_with fail
          refine (HVD.out _).mono ?_
          rintro e w1 ⟨rfl, hb⟩
          have hbb := below_trans HAL.out hb
          replace c3 := (hbb.cell (p := ⟨w.heap.size, 0, none⟩) (show w.heap.size < wr.heap.size by omega)).trans c3
          replace c4 := (hbb.cell (p := ⟨w.heap.size, 1, none⟩) (show w.heap.size < wr.heap.size by omega)).trans c4
          replace f3 := (hbb.frozen (p := ⟨w.heap.size, 0, none⟩) (show w.heap.size < wr.heap.size by omega)).trans f3
          replace f4 := (hbb.frozen (p := ⟨w.heap.size, 1, none⟩) (show w.heap.size < wr.heap.size by omega)).trans f4
          have k1 : w1.cell? ⟨wr.heap.size, 0, none⟩ = some (.int .i64 (a' : Int)) := (hb.cell (p := ⟨wr.heap.size, 0, none⟩) (by simp)).trans (by go_simp)
          have k2 : w1.cell? ⟨wr.heap.size, 1, none⟩ = some (.int .i64 (b' : Int)) := (hb.cell (p := ⟨wr.heap.size, 1, none⟩) (by simp)).trans (by go_simp)
          have gz : wr.heap.size < w1.heap.size := by have := hb.size; simp at this; omega
          have HBB := Lib.hid (HB.out.trans (hbb.mono (by omega)))
          clear hbb hb c1 c2 f1 f2
          go_wp2_with fail
          refine (HRT.out _).mono ?_
          rintro e w2 ⟨rfl, hb⟩
          replace c3 := (hb.cell (p := ⟨w.heap.size, 0, none⟩) (show w.heap.size < w1.heap.size by omega)).trans c3
          replace c4 := (hb.cell (p := ⟨w.heap.size, 1, none⟩) (show w.heap.size < w1.heap.size by omega)).trans c4
          replace f3 := (hb.frozen (p := ⟨w.heap.size, 0, none⟩) (show w.heap.size < w1.heap.size by omega)).trans f3
          replace f4 := (hb.frozen (p := ⟨w.heap.size, 1, none⟩) (show w.heap.size < w1.heap.size by omega)).trans f4
          replace k1 := (hb.cell (p := ⟨wr.heap.size, 0, none⟩) gz).trans k1
          replace k2 := (hb.cell (p := ⟨wr.heap.size, 1, none⟩) gz).trans k2
          have HBB2 := Lib.hid (HBB.out.trans (hb.mono (by omega)))
          clear hb
          go_wp2_with fail
          refine bodyPost_ret (v := V) (by rw [HP.out]; simp [results, Tryd.results14, go_sem, c3, c4]) rfl ⟨rfl, (HBB2.out.setCell (by simp) _).setCell (by simp) _⟩

end Go.Proofs.YteeigngomleijaaDoor
