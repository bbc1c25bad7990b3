/- The law BytesWrites: the bytes of any parts. -/
import Derived.Test.YtkloheabbbpboaaBytT
import Derived.Outline
import Derived.Deep.CutBlock
namespace Go.Proofs.Ytkloheabbbpboaa
open Go.RowKit

set_option maxRecDepth 100000 in
set_option maxHeartbeats 4000000 in
theorem lawWrites4 (X : Option Addr) (cx : Nat) (ps : List PartV) (w : World) (h : PartsAt w X ps) (hm : ps.length ≤ cx ∧ cx ≤ maxLen) :
    Calls Try.prog 3 #[.slice X ps.length cx] w fun e w' => e = .returned (.bool true) ∧ Below w.heap.size w w' := by
  obtain ⟨i0, hi0, hz0, hz1, hz2⟩ := info_parts infoB
  have HS := Lib.hid (lawSmall X cx ps w h hm)
  have HP := Lib.hid h
  clear h
  go_enter Try.func3, Try.ntmps3
  go_wp2_with fail
  refine HS.out.mono ?_
  rintro e w1 ⟨⟨b, rfl, hb⟩, rfl⟩
  cases b with
  | false =>
    go_wp2_with fail
    refine (knownB _).mono ?_
    rintro e w2 ⟨rfl, hb2⟩
    have K := Lib.hid hb2
    clear hb2
    go_wp2_with fail
    go_ret
    exact ⟨rfl, K.out⟩
  | true =>
    have HB := Lib.hid (hb rfl)
    clear hb HS
    have K0 := Lib.hid (WnI.new w w (Below.refl _ w))
    go_wp2_with fail
    go_loopw [4, 17] (fun u a wr => ∃ (k : Nat) (v : Value) (Au : Option Addr) (cu : Nat), k ≤ ps.length ∧ a = .int .i64 k ∧ u = .slice Au (outs (ps.take k)).length cu ∧ Hid (WnI w [] w.heap.size v (outs (ps.take k)) (.slice Au (outs (ps.take k)).length cu) (outs (ps.take k)) (.slice none 0 0) [] wr)) (fun _ a _ => ps.length - (intOf a).toNat)
    case atStart => exact ⟨0, _, none, 0, by omega, rfl, rfl, K0⟩
    case round =>
      obtain ⟨k, v, Au, cu, hk, rfl, rfl, KW⟩ := hrel
      clear K0
      by_cases hlt : k < ps.length
      · have i2 : (k : Int) < (ps.length : Int) := by omega
        have HPW := Lib.hid (HP.out.below KW.out.bel)
        obtain ⟨b, off, rfl, hb, c0, c1, c2⟩ := HPW.out.cells hlt
        have hk40 : k < 40 := by have := HB.out.1; omega
        have hpk : ps[k] ∈ ps := List.getElem_mem hlt
        have HX := Lib.hid (HB.out.2 _ hpk)
        have HNK := Lib.hid (HP.out.2 _ hpk).2
        have HL := Lib.hid (show (outs (ps.take k)).length ≤ 700000 from by
          have h1 := outs_len (ps.take k) fun p hp => ⟨(HP.out.2 p (List.mem_of_mem_take hp)).2, HB.out.2 p (List.mem_of_mem_take hp)⟩
          have h2 := HB.out.1
          rw [List.length_take] at h1
          omega)
        have hal : Below wr.heap.size wr (wr.alloc (.cells #[.int .i64 (ps[k]).what, .int .u64 ((ps[k]).n : Int), .slice (ps[k]).A (ps[k]).xs.length (ps[k]).c] 30)) := (Below.refl _ _).alloc (Nat.le_refl _) _
        have KA := Lib.hid (KW.out.part #[.int .i64 (ps[k]).what, .int .u64 ((ps[k]).n : Int), .slice (ps[k]).A (ps[k]).xs.length (ps[k]).c])
        have HVK := Lib.hid ((HPW.out.2 _ hpk).1.below hal)
        have hot := outs_take hlt
        have HOT := Lib.hid hot
        have HK := Lib.hid hk
        obtain ⟨A0, c00, eV, hatV, hcV⟩ := HVK.out
        cases eV
        have HAT := Lib.hid hatV
        clear hb hal hpk hk hot hatV hcV
        go_upto_block 2 with (at_builtin; refine wpList_append_sl _ encB 1 rfl (.const (.slice none 0 0)) (.tmp 22) 25 rfl encB_len (by omega) encB_one w.heap.size 5 i0 _ 1 Try.underlying25 hi0 hz0 hz1 hz2 rfl (.slice none 0 0) [] rfl (World.ownsRow_nil _ _ _ _) _ _ _ (ps[k]).xs rfl rfl HAT.out (by simp [maxLen]; have := HX.out; omega) (by simp; have := HX.out; omega) (by simp; have := KW.out.bel.size; omega) ?_; intro o w2 hown1 hg1 hat1; rw [List.nil_append] at hown1; obtain ⟨A1, c1, rfl, ho1⟩ := KA.out.made hown1 hg1 hat1; have KO := Lib.hid ho1; have q0 : w2.cell? ⟨wr.heap.size, 0, none⟩ = some (.int .i64 (ps[k]).what) := ho1.cellN 0; have q1 : w2.cell? ⟨wr.heap.size, 1, none⟩ = some (.int .u64 ((ps[k]).n : Int)) := ho1.cellN 1; have q2 : w2.cell? ⟨wr.heap.size, 2, none⟩ = some (.slice (ps[k]).A (ps[k]).xs.length (ps[k]).c) := ho1.cellN 2; clear ho1 hown1 hg1 hat1)
        have HD := Lib.hid fun W (hb : Below w.heap.size w W) => (HP.out.2 _ (List.getElem_mem hlt)).1.below hb
        go_cut [4] (fun u wx => ∃ (v : Value) (Au : Option Addr) (cu : Nat), u = .slice Au (outs (ps.take (k + 1))).length cu ∧ Hid (WnI w [(wr.heap.size, #[.int .i64 (ps[k]).what, .int .u64 ((ps[k]).n : Int), .slice (ps[k]).A (ps[k]).xs.length (ps[k]).c])] w.heap.size v (outs (ps.take (k + 1))) (.slice Au (outs (ps.take (k + 1))).length cu) (outs (ps.take (k + 1))) (.slice A1 (ps[k]).xs.length c1) (ps[k]).xs wx))
        case first =>
          by_cases t0 : (ps[k]).what = 0
          · have z0 : ((ps[k]).what == 0) = true := by simp [t0]
            have HO := Lib.hid (show outs (ps.take (k + 1)) = outs (ps.take k) ++ enc (ps[k]).n by rw [HOT.out, PartV.out, if_pos t0])
            have HYL := Lib.hid (show (enc (ps[k]).n).length ≤ 700000 from by have := enc_ten HNK.out; omega)
            clear t0
            go_wp2_with fail
            refine (KO.out.num _ HNK.out HL.out).mono ?_
            rintro e w3 ⟨rfl, v3, hw⟩
            have KN := Lib.hid hw
            have r1 : w3.cell? ⟨wr.heap.size, 1, none⟩ = some (.int .u64 ((ps[k]).n : Int)) := hw.cellN 1
            clear hw KO q0 q1 q2
            go_wp2_with fail
            refine (refNumber (ps[k]).n (ps[k]).n _ (Nat.le_refl _) HNK.out).mono ?_
            rintro e w4 ⟨⟨A5, c5, rfl, ho⟩, hb⟩
            have hat5 := HoldsB.of_own ho
            obtain ⟨_, _, eV, hat5, _⟩ := hat5
            cases eV
            have HA5 := Lib.hid hat5
            have KN4 := Lib.hid (KN.out.below hb)
            clear ho hb hat5 KN r1
            go_wp2_with (at_builtin; refine wpList_append_sl _ encB 1 rfl (.tmp 37) (.tmp 40) 25 rfl encB_len (by omega) encB_one w.heap.size 5 i0 _ 1 Try.underlying25 hi0 hz0 hz1 hz2 rfl _ (outs (ps.take k)) rfl KN4.out.ru _ _ _ (enc (ps[k]).n) rfl rfl HA5.out (by simp only [maxLen]; have := HL.out; have := HYL.out; omega) (by have := HL.out; have := HYL.out; omega) KN4.out.bel.size ?_; intro u' w5 hown2 hg2 hat2; obtain ⟨A2, c2, rfl, ho2⟩ := KN4.out.wanted hown2 hg2 hat2; have K5 := Lib.hid ho2; clear hown2 hg2 hat2 ho2)
            go_meet
            exact ⟨v3, A2, c2, by rw [HO.out]; simp only [List.length_append], by rw [HO.out]; exact K5⟩
          · have z0 : ((ps[k]).what == 0) = false := by simp [t0]
            by_cases t1 : (ps[k]).what = 1
            · have z1 : ((ps[k]).what == 1) = true := by simp [t1]
              have HO := Lib.hid (show outs (ps.take (k + 1)) = outs (ps.take k) ++ (enc (ps[k]).xs.length ++ (ps[k]).xs) by rw [HOT.out, PartV.out, if_neg t0, if_pos t1])
              have HYL := Lib.hid (show (enc (ps[k]).xs.length ++ (ps[k]).xs).length ≤ 700000 from by have := enc_ten (n := (ps[k]).xs.length) (by have := HX.out; omega); have := HX.out; rw [List.length_append]; omega)
              have hcv := convB _ _ _ _ (HoldsB.of_own KO.out.ro)
              clear t0 t1
              go_wp2_with fail
              refine (KO.out.str _ HX.out HL.out).mono ?_
              rintro e w3 ⟨rfl, v3, hw⟩
              have KN := Lib.hid hw
              have r2 : w3.cell? ⟨wr.heap.size, 2, none⟩ = some (.slice (ps[k]).A (ps[k]).xs.length (ps[k]).c) := hw.cellN 2
              have hcv3 := convB _ _ _ _ (HD.out w3 hw.bel)
              clear hw KO q0 q1 q2 hcv
              go_wp2_with fail
              refine (refString (ps[k]).xs _ (by have := HX.out; omega)).mono ?_
              rintro e w4 ⟨⟨A5, c5, rfl, ho⟩, hb⟩
              have hat5 := HoldsB.of_own ho
              obtain ⟨_, _, eV, hat5, _⟩ := hat5
              cases eV
              have HA5 := Lib.hid hat5
              have KN4 := Lib.hid (KN.out.below hb)
              clear ho hb hat5 KN r2 hcv3
              go_wp2_with (at_builtin; refine wpList_append_sl _ encB 1 rfl (.tmp 47) (.tmp 51) 25 rfl encB_len (by omega) encB_one w.heap.size 5 i0 _ 1 Try.underlying25 hi0 hz0 hz1 hz2 rfl _ (outs (ps.take k)) rfl KN4.out.ru _ _ _ (enc (ps[k]).xs.length ++ (ps[k]).xs) rfl List.length_append.symm HA5.out (by simp only [maxLen]; have := HL.out; have := HYL.out; omega) (by have := HL.out; have := HYL.out; omega) KN4.out.bel.size ?_; intro u' w5 hown2 hg2 hat2; obtain ⟨A2, c2, rfl, ho2⟩ := KN4.out.wanted hown2 hg2 hat2; have K5 := Lib.hid ho2; clear hown2 hg2 hat2 ho2)
              go_meet
              exact ⟨v3, A2, c2, by rw [HO.out]; simp only [List.length_append], by rw [HO.out]; exact K5⟩
            · have z1 : ((ps[k]).what == 1) = false := by simp [t1]
              have HO := Lib.hid (show outs (ps.take (k + 1)) = outs (ps.take k) ++ (ps[k]).xs by rw [HOT.out, PartV.out, if_neg t0, if_neg t1])
              have HYL := Lib.hid (show ((ps[k]).xs).length ≤ 700000 from by have := HX.out; omega)
              clear t0 t1
              go_wp2_with fail
              refine (KO.out.put _ _ _ HX.out HL.out (HoldsB.of_own KO.out.ro)).mono ?_
              rintro e w3 ⟨rfl, v3, hw⟩
              have KN4 := Lib.hid hw
              have r2 : w3.cell? ⟨wr.heap.size, 2, none⟩ = some (.slice (ps[k]).A (ps[k]).xs.length (ps[k]).c) := hw.cellN 2
              obtain ⟨_, _, eV, hat5, _⟩ := HD.out w3 hw.bel
              cases eV
              have HA5 := Lib.hid hat5
              clear hw KO q0 q1 q2 hat5
              go_wp2_with (at_builtin; refine wpList_append_sl _ encB 1 rfl (.tmp 28) (.tmp 30) 25 rfl encB_len (by omega) encB_one w.heap.size 5 i0 _ 1 Try.underlying25 hi0 hz0 hz1 hz2 rfl _ (outs (ps.take k)) rfl KN4.out.ru _ _ _ (ps[k]).xs rfl rfl HA5.out (by simp only [maxLen]; have := HL.out; have := HYL.out; omega) (by have := HL.out; have := HYL.out; omega) KN4.out.bel.size ?_; intro u' w5 hown2 hg2 hat2; obtain ⟨A2, c2, rfl, ho2⟩ := KN4.out.wanted hown2 hg2 hat2; have K5 := Lib.hid ho2; clear hown2 hg2 hat2 ho2)
              go_meet
              exact ⟨v3, A2, c2, by rw [HO.out]; simp only [List.length_append], by rw [HO.out]; exact K5⟩
        case rest =>
          obtain ⟨v2, Au2, cu2, rfl, KC⟩ := hcut
          clear KA KW HPW HVK HAT KO q0 q1 q2 HL c0 c2
          generalize wr.heap.size = P0 at KC ⊢
          have HLZ := Lib.hid (show (outs (ps.take (k + 1))).length ≤ 700000 from by
            have h1 := outs_len (ps.take (k + 1)) fun p hp => ⟨(HP.out.2 p (List.mem_of_mem_take hp)).2, HB.out.2 p (List.mem_of_mem_take hp)⟩
            have h2 := HB.out.1
            rw [List.length_take] at h1
            omega)
          generalize hzs : outs (ps.take (k + 1)) = zs at KC HLZ ⊢
          have HZS := Lib.hid hzs
          clear hzs HOT
          go_wp2_with fail
          go_loopw [55] (fun a wr => ∃ (j : Nat) (os : List UInt8), j ≤ (ps[k]).xs.length ∧ os.length = (ps[k]).xs.length ∧ a = .int .i64 j ∧ Hid (WnI w [(P0, #[.int .i64 (ps[k]).what, .int .u64 ((ps[k]).n : Int), .slice (ps[k]).A (ps[k]).xs.length (ps[k]).c])] w.heap.size v2 zs (.slice Au2 zs.length cu2) zs (.slice A1 (ps[k]).xs.length c1) os wr)) (fun a _ => (ps[k]).xs.length - (intOf a).toNat)
          case atStart => exact ⟨0, _, by omega, rfl, rfl, KC⟩
          case round =>
            obtain ⟨j, os, hj, hos, rfl, KJ⟩ := hrel
            clear KC
            by_cases hjt : j < (ps[k]).xs.length
            · have i3 : (j : Int) < ((ps[k]).xs.length : Int) := by omega
              have hj9 : j < 300 := by have := HX.out; omega
              obtain ⟨r, m, y, hr, hc, hf, e1, os', hl', hk'⟩ := KJ.out.bump hos hjt
              subst hr
              have KJ2 := Lib.hid hk'
              have HL2 := Lib.hid hl'
              clear hk' KJ hos hl'
              go_wp2_with fail
              go_roundw
              case rel => exact ⟨j + 1, os', by omega, HL2.out, by go_num, KJ2⟩
              case measure => simp [intOf]; omega
            · have i3 : ¬ (j : Int) < ((ps[k]).xs.length : Int) := by omega
              clear hjt hj hos
              go_wp2_with fail
              refine (KJ.out.bytes HLZ.out).mono ?_
              rintro e w3 ⟨A3, c3, rfl, hw3⟩
              have KB := Lib.hid hw3
              clear hw3 KJ
              go_wp2_with fail
              have hcb : ∀ W, WnI w [(P0, #[.int .i64 (ps[k]).what, .int .u64 ((ps[k]).n : Int), .slice (ps[k]).A (ps[k]).xs.length (ps[k]).c])] w.heap.size v2 zs (.slice Au2 zs.length cu2) zs (.slice A3 zs.length c3) zs W → (convert 25 9 (.slice A3 zs.length c3)).run Try.prog W = .ok (.string ⟨zs.toArray⟩) W := fun W h => convB W A3 c3 zs (HoldsB.of_own h.ro)
              have hcu : ∀ W, WnI w [(P0, #[.int .i64 (ps[k]).what, .int .u64 ((ps[k]).n : Int), .slice (ps[k]).A (ps[k]).xs.length (ps[k]).c])] w.heap.size v2 zs (.slice Au2 zs.length cu2) zs (.slice A3 zs.length c3) zs W → (convert 25 9 (.slice Au2 zs.length cu2)).run Try.prog W = .ok (.string ⟨zs.toArray⟩) W := fun W h => convB W Au2 cu2 zs (HoldsB.of_own h.ru)
              have hc1 : ∀ W, WnI w [(P0, #[.int .i64 (ps[k]).what, .int .u64 ((ps[k]).n : Int), .slice (ps[k]).A (ps[k]).xs.length (ps[k]).c])] w.heap.size v2 zs (.slice Au2 zs.length cu2) zs (.slice A3 zs.length c3) zs W → W.cell? ⟨P0, 1, none⟩ = some (.int .u64 ((ps[k]).n : Int)) := fun W h => h.cellN 1
              refine wp_region_held_drew (S := WnI w [(P0, #[.int .i64 (ps[k]).what, .int .u64 ((ps[k]).n : Int), .slice (ps[k]).A (ps[k]).xs.length (ps[k]).c])] w.heap.size v2 zs (.slice Au2 zs.length cu2) zs (.slice A3 zs.length c3) zs) (by kernel_rfl) ?_ (fun hHeld => ?_)
              · exact KB.out.below (Below.refl _ _).drew
              clear KB
              refine wpAnyH_take (i := 0) (oi := ⟨some 66, _, _, _, _, _⟩) (v := ?_) rfl (by kernel_rfl) (by kernel_rfl) (by kernel_rfl) (fun _ _ _ h => h) (Or.inl ⟨by rfl, ?_⟩) (by assumption) ?_
              rotate_left 1
              · intro w hSw
                (try dsimp only at hSw)
                go_simp
                try with_reducible rfl
              try simp only [Act.put, List.setIfInBounds_toArray, List.set_cons_zero, List.set_cons_succ]
              refine wpAnyH_take (i := 1) (oi := ⟨some 67, _, _, _, _, _⟩) (v := ?_) rfl (by kernel_rfl) (by kernel_rfl) (by kernel_rfl) (fun _ _ _ h => h) (Or.inl ⟨by rfl, ?_⟩) (by assumption) ?_
              rotate_left 1
              · intro w hSw
                (try dsimp only at hSw)
                go_simp
                try with_reducible rfl
              try simp only [Act.put, List.setIfInBounds_toArray, List.set_cons_zero, List.set_cons_succ]
              refine wpAnyH_take (i := 2) (oi := ⟨some 68, _, _, _, _, _⟩) (v := ?_) rfl (by kernel_rfl) (by kernel_rfl) (by kernel_rfl) (fun _ _ _ h => h) (Or.inl ⟨by rfl, ?_⟩) (by assumption) ?_
              rotate_left 1
              · intro w hSw
                (try dsimp only at hSw)
                go_simp
                try with_reducible rfl
              try simp only [Act.put, List.setIfInBounds_toArray, List.set_cons_zero, List.set_cons_succ]
              refine wpAnyH_take (i := 3) (oi := ⟨some 69, _, _, _, _, _⟩) (v := ?_) rfl (by kernel_rfl) (by kernel_rfl) (by kernel_rfl) (fun _ _ _ h => h) (Or.inl ⟨by rfl, ?_⟩) (by assumption) ?_
              rotate_left 1
              · intro w hSw
                (try dsimp only at hSw)
                go_simp
                try with_reducible rfl
              try simp only [Act.put, List.setIfInBounds_toArray, List.set_cons_zero, List.set_cons_succ]
              refine wpAnyH_take (i := 4) (oi := ⟨some 70, _, _, _, _, _⟩) (v := ?_) rfl (by kernel_rfl) (by kernel_rfl) (by kernel_rfl) (fun _ _ _ h => h) (Or.inl ⟨by rfl, ?_⟩) (by assumption) ?_
              rotate_left 1
              · intro w hSw
                (try dsimp only at hSw)
                go_simp
                try with_reducible rfl
              try simp only [Act.put, List.setIfInBounds_toArray, List.set_cons_zero, List.set_cons_succ]
              refine wpAnyH_take (i := 5) (oi := ⟨some 71, _, _, _, _, _⟩) (v := ?_) rfl (by kernel_rfl) (by kernel_rfl) (by kernel_rfl) (fun _ _ _ h => h) (Or.inl ⟨by rfl, ?_⟩) (by assumption) ?_
              rotate_left 1
              · intro w hSw
                (try dsimp only at hSw)
                go_simp
                try with_reducible rfl
              try simp only [Act.put, List.setIfInBounds_toArray, List.set_cons_zero, List.set_cons_succ]
              refine wpAnyH_take (i := 7) (oi := ⟨some 73, _, _, _, _, _⟩) (v := ?_) rfl (by kernel_rfl) (by kernel_rfl) (by kernel_rfl) (fun _ _ _ h => h) (Or.inl ⟨by rfl, ?_⟩) (by assumption) ?_
              rotate_left 1
              · intro w hSw
                (try dsimp only at hSw)
                go_simp
                try with_reducible rfl
              try simp only [Act.put, List.setIfInBounds_toArray, List.set_cons_zero, List.set_cons_succ]
              refine wpAnyH_take (i := 8) (oi := ⟨some 74, _, _, _, _, _⟩) (v := ?_) rfl (by kernel_rfl) (by kernel_rfl) (by kernel_rfl) (fun _ _ _ h => h) (Or.inl ⟨by rfl, ?_⟩) (by assumption) ?_
              rotate_left 1
              · intro w hSw
                (try dsimp only at hSw)
                go_simp
                try with_reducible rfl
              try simp only [Act.put, List.setIfInBounds_toArray, List.set_cons_zero, List.set_cons_succ]
              refine wpAnyH_ready (rs := [6]) (by kernel_rfl) (by simp) ?_
              refine AllReadyH.cons (o := ⟨some 72, _, _, _, _, _⟩) rfl (fun K hK => ?_) AllReadyH.nil
              go_simp
              refine (lenAt _ _ _ _ hHeld.wr).mono ?_
              rintro e wa ⟨rfl, rfl⟩
              first
                | refine hK.out _ _ ?_ (fun hHeld => ?_)
                | (go_wp2_with fail
                   refine hK.out _ _ ?_ (fun hHeld => ?_))
              · show WnI w [(P0, #[.int .i64 (ps[k]).what, .int .u64 ((ps[k]).n : Int), .slice (ps[k]).A (ps[k]).xs.length (ps[k]).c])] w.heap.size v2 zs (.slice Au2 zs.length cu2) zs (.slice A3 zs.length c3) zs _
                exact hHeld
              clear hK
              try simp only [Act.put, List.setIfInBounds_toArray, List.set_cons_zero, List.set_cons_succ]
              refine wpAnyH_take (i := 9) (oi := ⟨some 75, _, _, _, _, _⟩) (v := ?_) rfl (by kernel_rfl) (by kernel_rfl) (by kernel_rfl) (fun _ _ _ h => h) (Or.inl ⟨by rfl, ?_⟩) (by assumption) ?_
              rotate_left 1
              · intro w hSw
                (try dsimp only at hSw)
                go_simp
                try with_reducible rfl
              try simp only [Act.put, List.setIfInBounds_toArray, List.set_cons_zero, List.set_cons_succ]
              refine wpAnyH_take (i := 10) (oi := ⟨some 76, _, _, _, _, _⟩) (v := ?_) rfl (by kernel_rfl) (by kernel_rfl) (by kernel_rfl) (fun _ _ _ h => h) (Or.inl ⟨by rfl, ?_⟩) (by assumption) ?_
              rotate_left 1
              · intro w hSw
                (try dsimp only at hSw)
                go_simp
                try with_reducible rfl
              try simp only [Act.put, List.setIfInBounds_toArray, List.set_cons_zero, List.set_cons_succ]
              refine wpAnyH_take (i := 11) (oi := ⟨some 77, _, _, _, _, _⟩) (v := ?_) rfl (by kernel_rfl) (by kernel_rfl) (by kernel_rfl) (fun _ _ _ h => h) (Or.inl ⟨by rfl, ?_⟩) (by assumption) ?_
              rotate_left 1
              · intro w hSw
                (try dsimp only at hSw)
                go_simp
                try with_reducible rfl
              try simp only [Act.put, List.setIfInBounds_toArray, List.set_cons_zero, List.set_cons_succ]
              refine wpAnyH_take (i := 12) (oi := ⟨some 78, _, _, _, _, _⟩) (v := ?_) rfl (by kernel_rfl) (by kernel_rfl) (by kernel_rfl) (fun _ _ _ h => h) (Or.inl ⟨by rfl, ?_⟩) (by assumption) ?_
              rotate_left 1
              · intro w hSw
                (try dsimp only at hSw)
                go_simp
                try with_reducible rfl
              try simp only [Act.put, List.setIfInBounds_toArray, List.set_cons_zero, List.set_cons_succ]
              refine wpAnyH_take (i := 13) (oi := ⟨some 79, _, _, _, _, _⟩) (v := ?_) rfl (by kernel_rfl) (by kernel_rfl) (by kernel_rfl) (fun _ _ _ h => h) (Or.inl ⟨by rfl, ?_⟩) (by assumption) ?_
              rotate_left 1
              · intro w hSw
                (try dsimp only at hSw)
                go_simp
                try with_reducible rfl
              try simp only [Act.put, List.setIfInBounds_toArray, List.set_cons_zero, List.set_cons_succ]
              refine wpAnyH_take (i := 15) (oi := ⟨some 81, _, _, _, _, _⟩) (v := ?_) rfl (by kernel_rfl) (by kernel_rfl) (by kernel_rfl) (fun _ _ _ h => h) (Or.inl ⟨by rfl, ?_⟩) (by assumption) ?_
              rotate_left 1
              · intro w hSw
                (try dsimp only at hSw)
                go_simp
                try with_reducible rfl
              try simp only [Act.put, List.setIfInBounds_toArray, List.set_cons_zero, List.set_cons_succ]
              refine wpAnyH_take (i := 16) (oi := ⟨some 82, _, _, _, _, _⟩) (v := ?_) rfl (by kernel_rfl) (by kernel_rfl) (by kernel_rfl) (fun _ _ _ h => h) (Or.inl ⟨by rfl, ?_⟩) (by assumption) ?_
              rotate_left 1
              · intro w hSw
                (try dsimp only at hSw)
                go_simp
                try with_reducible rfl
              try simp only [Act.put, List.setIfInBounds_toArray, List.set_cons_zero, List.set_cons_succ]
              refine wpAnyH_ready (rs := [14]) (by kernel_rfl) (by simp) ?_
              refine AllReadyH.cons (o := ⟨some 80, _, _, _, _, _⟩) rfl (fun K hK => ?_) AllReadyH.nil
              go_simp
              refine (sizeAt (ps[k]).n _ HNK.out).mono ?_
              rintro e wa ⟨rfl, rfl⟩
              first
                | refine hK.out _ _ ?_ (fun hHeld => ?_)
                | (go_wp2_with fail
                   refine hK.out _ _ ?_ (fun hHeld => ?_))
              · show WnI w [(P0, #[.int .i64 (ps[k]).what, .int .u64 ((ps[k]).n : Int), .slice (ps[k]).A (ps[k]).xs.length (ps[k]).c])] w.heap.size v2 zs (.slice Au2 zs.length cu2) zs (.slice A3 zs.length c3) zs _
                exact hHeld
              clear hK
              try simp only [Act.put, List.setIfInBounds_toArray, List.set_cons_zero, List.set_cons_succ]
              refine wpAnyH_ready (rs := [17]) (by kernel_rfl) (by simp) ?_
              refine AllReadyH.cons (o := ⟨some 83, _, _, _, _, _⟩) rfl (fun K hK => ?_) AllReadyH.nil
              go_simp
              refine (refNumber (ps[k]).n (ps[k]).n _ (Nat.le_refl _) HNK.out).mono ?_
              rintro e wb ⟨⟨A5, c5, rfl, _⟩, hb5⟩
              first
                | refine hK.out _ _ ?_ (fun hHeld => ?_)
                | (go_wp2_with fail
                   refine hK.out _ _ ?_ (fun hHeld => ?_))
              · show WnI w [(P0, #[.int .i64 (ps[k]).what, .int .u64 ((ps[k]).n : Int), .slice (ps[k]).A (ps[k]).xs.length (ps[k]).c])] w.heap.size v2 zs (.slice Au2 zs.length cu2) zs (.slice A3 zs.length c3) zs _
                exact hHeld.below hb5
              clear hK
              try simp only [Act.put, List.setIfInBounds_toArray, List.set_cons_zero, List.set_cons_succ]
              refine wpAnyH_take (i := 18) (oi := ⟨some 84, _, _, _, _, _⟩) (v := ?_) rfl (by kernel_rfl) (by kernel_rfl) (by kernel_rfl) (fun _ _ _ h => h) (Or.inl ⟨by rfl, ?_⟩) (by assumption) ?_
              rotate_left 1
              · intro w hSw
                (try dsimp only at hSw)
                go_simp
                try with_reducible rfl
              try simp only [Act.put, List.setIfInBounds_toArray, List.set_cons_zero, List.set_cons_succ]
              refine wpAnyH_take (i := 19) (oi := ⟨some 85, _, _, _, _, _⟩) (v := ?_) rfl (by kernel_rfl) (by kernel_rfl) (by kernel_rfl) (fun _ _ _ h => h) (Or.inl ⟨by rfl, ?_⟩) (by assumption) ?_
              rotate_left 1
              · intro w hSw
                (try dsimp only at hSw)
                go_simp
                try with_reducible rfl
              try simp only [Act.put, List.setIfInBounds_toArray, List.set_cons_zero, List.set_cons_succ]
              refine wpAnyH_take (i := 20) (oi := ⟨some 86, _, _, _, _, _⟩) (v := ?_) rfl (by kernel_rfl) (by kernel_rfl) (by kernel_rfl) (fun _ _ _ h => h) (Or.inl ⟨by rfl, ?_⟩) (by assumption) ?_
              rotate_left 1
              · intro w hSw
                (try dsimp only at hSw)
                go_simp
                try with_reducible rfl
              try simp only [Act.put, List.setIfInBounds_toArray, List.set_cons_zero, List.set_cons_succ]
              refine wpAnyH_done (by kernel_rfl) ?_ _
              have KD := Lib.hid hHeld
              clear hHeld
              go_wp2_with fail
              go_loopw [89] (fun a wr => ∃ (j : Nat) (os : List UInt8), j ≤ zs.length ∧ os.length = zs.length ∧ a = .int .i64 j ∧ Hid (WnI w [(P0, #[.int .i64 (ps[k]).what, .int .u64 ((ps[k]).n : Int), .slice (ps[k]).A (ps[k]).xs.length (ps[k]).c])] w.heap.size v2 zs (.slice Au2 zs.length cu2) zs (.slice A3 zs.length c3) os wr)) (fun a _ => zs.length - (intOf a).toNat)
              case atStart => exact ⟨0, _, by omega, rfl, rfl, KD⟩
              case round =>
                obtain ⟨j, os, hj, hos, rfl, KJ⟩ := hrel
                clear KD
                by_cases hjt : j < zs.length
                · have i3 : (j : Int) < (zs.length : Int) := by omega
                  have hj9 : j < 700000 := by have := HLZ.out; omega
                  obtain ⟨r, m, y, hr, hc, hf, e1, os', hl', hk'⟩ := KJ.out.bump hos hjt
                  subst hr
                  have KJ2 := Lib.hid hk'
                  have HL2 := Lib.hid hl'
                  clear hk' KJ hos hl' hcb hcu hc1
                  go_wp2_with fail
                  go_roundw
                  case rel => exact ⟨j + 1, os', by omega, HL2.out, by go_num, KJ2⟩
                  case measure => simp [intOf]; omega
                · have i3 : ¬ (j : Int) < (zs.length : Int) := by omega
                  clear hjt hj hos hcb hcu hc1
                  go_wp2_with fail
                  go_roundw
                  case rel => exact ⟨k + 1, v2, Au2, cu2, by omega, by go_num, by rw [HZS.out], by rw [HZS.out]; exact KJ.out.drop.unkeep⟩
                  case measure => simp [intOf]; omega
      · obtain rfl : k = ps.length := by omega
        have i2 : ¬ ((ps.length : Int) < (ps.length : Int)) := by omega
        have KB := Lib.hid KW.out.bel
        clear hlt hk KW
        go_wp2_with fail
        refine (knownB _).mono ?_
        rintro e w3 ⟨rfl, hb⟩
        have K3 := Lib.hid (below_trans KB.out hb)
        clear hb KB
        go_wp2_with fail
        go_ret
        exact ⟨rfl, K3.out⟩

end Go.Proofs.Ytkloheabbbpboaa
