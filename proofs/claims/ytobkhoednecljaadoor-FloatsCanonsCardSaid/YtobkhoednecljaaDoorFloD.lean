/- Package floats' reference: Sorted. -/
import Derived.Test.YtobkhoednecljaaDoorFloB
import Derived.Deep.CutBlock
namespace Go.Proofs.YtobkhoednecljaaDoor
open Go.RowKit

theorem SlAt.take {α : Type} {enc : α → List Value} {k : Nat} {w : World} {A : Option Addr} {xs : List α} (h : SlAt enc k w A xs) (m : Nat) : SlAt enc k w A (xs.take m) := fun hn => by
  obtain ⟨b, off, rfl, hb, hc⟩ := h (by simp at hn; omega)
  refine ⟨b, off, rfl, hb, fun j x hx => hc j x ?_⟩
  rw [List.getElem?_take] at hx
  split at hx
  · exact hx
  · cases hx
theorem SlAt.cut {α : Type} {enc : α → List Value} {k : Nat} {w : World} {A : Option Addr} {xs : List α} (h : SlAt enc k w A xs) (m cap : Nat) (hc : xs.length ≤ cap) : SlAt enc k w (if cap = m then A else A.map (·.add (m * k))) (xs.drop m) := fun hn => by
  obtain ⟨b, off, rfl, hb, hcell⟩ := h (by simp at hn; omega)
  have hne : ¬ cap = m := by simp at hn; omega
  rw [if_neg hne]
  refine ⟨b, off + m * k, by simp [Addr_add], hb, fun j x hx i u hu => ?_⟩
  rw [List.getElem?_drop] at hx
  have := hcell (m + j) x hx i u hu
  rw [Nat.add_mul] at this
  rw [show off + m * k + j * k + i = off + (m * k + j * k) + i by omega]
  exact this
theorem SlAt.cutO {α : Type} {enc : α → List Value} {w : World} {A : Option Addr} {xs : List α} (h : SlAt enc 1 w A xs) (m cap : Nat) (hc : xs.length ≤ cap) : SlAt enc 1 w (if cap = m then A else A.map (·.add m)) (xs.drop m) := by
  have := h.cut m cap hc
  rwa [Nat.mul_one] at this
theorem tw_at {α : Type} {p : α → Bool} {xs : List α} {m : Nat} (h : ∀ (j : Nat) (y : α), j < m → xs[j]? = some y → p y = true) (he : ∀ y, xs[m]? = some y → p y = false) :
    xs.take m = xs.takeWhile p ∧ xs.drop m = xs.dropWhile p := by
  induction xs generalizing m with
  | nil => simp
  | cons x r ih =>
    match m with
    | 0 =>
      have := he x rfl
      simp [this]
    | m + 1 =>
      have h0 := h 0 x (by omega) rfl
      obtain ⟨h1, h2⟩ := ih (m := m) (fun j y hj hy => h (j + 1) y (by omega) (by simpa using hy)) (fun y hy => he y (by simpa using hy))
      simp [h0, h1, h2]
theorem step_true {α : Type} {p : α → Bool} {xs : List α} {k : Nat} {x : α} (h : ∀ (j : Nat) (y : α), j < k → xs[j]? = some y → p y = true) (hx : xs[k]? = some x) (he : p x = true) : ∀ (j : Nat) (y : α), j < k + 1 → xs[j]? = some y → p y = true := fun j y hj hy => by
  rcases Nat.lt_or_ge j k with h1 | h1
  · exact h j y h1 hy
  · obtain rfl : j = k := by omega
    rw [hx] at hy; cases hy; exact he
theorem take_step {α : Type} {xs : List α} {m : Nat} {x : α} (hx : xs[m]? = some x) : xs.take (m + 1) = xs.take m ++ [x] := by
  obtain ⟨h1, h2⟩ := List.getElem?_eq_some_iff.1 hx
  rw [List.take_succ_eq_append_getElem h1, h2]
theorem One.far {P : Program} {f : FuncId} {args : Array Value} {w : World} {p : FarBy} {v : Value}
    (h : Calls P f args (Go.Proofs.YtobkhoednecljaaDoor.far w p) (One v (Go.Proofs.YtobkhoednecljaaDoor.far w p))) :
    Calls P f args (Go.Proofs.YtobkhoednecljaaDoor.far w p) fun e w'' => e = .returned v ∧ ∃ q : FarBy, w'' = Go.Proofs.YtobkhoednecljaaDoor.far w q := far_of_same h
theorem OneB.far {P : Program} {f : FuncId} {args : Array Value} {w : World} {p : FarBy} {v : Value}
    (h : Calls P f args (Go.Proofs.YtobkhoednecljaaDoor.far w p) (OneB v (Go.Proofs.YtobkhoednecljaaDoor.far w p))) :
    Calls P f args (Go.Proofs.YtobkhoednecljaaDoor.far w p) fun e w'' => e = .returned v ∧ ∃ q : FarBy, w'' = Go.Proofs.YtobkhoednecljaaDoor.far w q := far_of h
theorem insF_at {l : List Nat} {m : Nat} {k : Nat} (h : ∀ (j : Nat) (y : Nat), j < k → l[j]? = some y → (decide (keyF y ≤ keyF m)) = true) (he : ∀ y, l[k]? = some y → (decide (keyF y ≤ keyF m)) = false) : insF l m = l.take k ++ m :: l.drop k := by
  obtain ⟨h1, h2⟩ := tw_at (p := fun y : Nat => decide (keyF y ≤ keyF m)) h he
  unfold insF; rw [h1, h2]
theorem sortF_take {ms : List Nat} {k : Nat} {m : Nat} (h : ms[k]? = some m) : (ms.take (k + 1)).foldl insF [] = insF ((ms.take k).foldl insF []) m := by rw [take_step h, List.foldl_append]; rfl
abbrev RowU (W : World) (B : Nat) (v : Value) (xs : List Nat) : Prop := W.ownsRow B 22 1 v xs.length (cellsOf encU xs)
theorem bal {w W : World} (h : Below w.heap.size w W) (o : Obj) : Below w.heap.size w (W.alloc o) := h.alloc h.size o
theorem srt_sp {w W : World} {b o : Nat} {m : Nat} (h : w.cell? ⟨b, o, none⟩ = some (.int .u64 (m : Int))) (hb : b < w.heap.size) (hB : Below w.heap.size w W) :
    W.cell? ⟨b, o, none⟩ = some (.int .u64 (m : Int)) ∧ b < W.heap.size ∧ Below w.heap.size w W :=
  ⟨(hB.cell (p := ⟨b, o, none⟩) hb).trans h, Nat.lt_of_lt_of_le hb hB.size, hB⟩

set_option maxRecDepth 100000 in
set_option maxHeartbeats 4000000 in
theorem refSorted13 (A : Option Addr) (ms : List Nat) (cap : Nat) (w : World) (hx : NumsU w A ms) (hm : ms.length ≤ 1000) (HV0 : ∀ x ∈ ms, x < 18446744073709551616) :
    Calls Tryd.prog 25 #[.slice A ms.length cap] w fun e w' => (∃ v, e = .returned v ∧ HoldsU w' v (sortF ms) ∧ ∃ B, RowU w' B v (sortF ms)) ∧ Below w.heap.size w w' := by
  obtain ⟨i0, hi0, hz0, hz1, hz2⟩ := info_parts infoU
  have HX := Lib.hid hx
  clear hx
  go_enter Tryd.func25, Tryd.ntmps25
  go_wp2_with fail
  go_loopw [3, 4, 5] (fun v i _ wr => ∃ (k : Nat) (os : List Nat), k ≤ ms.length ∧ os.length = k ∧ i = .int .i64 k ∧ Hid (HoldsU wr v os) ∧ Hid (∃ B, RowU wr B v os) ∧ Hid ((ms.take k).foldl insF [] = os) ∧ Hid (Below w.heap.size w wr)) (fun _ i _ _ => ms.length - (intOf i).toNat)
  case atStart => exact ⟨0, [], by omega, rfl, rfl, Lib.hid ⟨none, 0, rfl, SlAt.nil, by simp, by simp [maxLen]⟩, Lib.hid ⟨0, World.ownsRow_nil _ _ _ _⟩, Lib.hid rfl, Lib.hid (Below.refl _ _)⟩
  case round =>
    obtain ⟨k, os, hk, hol, rfl, ho, hor, hs, hb⟩ := hrel
    obtain ⟨wq, rfl⟩ : ∃ W, W = wr := ⟨_, rfl⟩
    have HOL := Lib.hid hol
    have HO64 := Lib.hid (show ∀ x ∈ os, x < 18446744073709551616 from fun x hx => HV0 x (List.mem_of_mem_take (((fold_ins (ms.take k) [] List.Pairwise.nil).2.mem_iff).1 (by rw [hs.out]; exact hx))))
    have hol1000 : os.length ≤ 1000 := by omega
    clear hol
    by_cases hlt : k < ms.length
    · have i0' : (k : Int) < (ms.length : Int) := by omega
      obtain ⟨D, d, rfl, hod, hd1, hd2⟩ := id ho.out
      obtain ⟨b, off, rfl, hbl, hc0⟩ := (SlAt.cell1 (f := fun n : Nat => Value.int .u64 n) (SlAt.below HX.out hb.out) (j := k) hlt)
      have hx1 := List.getElem?_eq_getElem hlt
      have hm64 : ms[k] < 18446744073709551616 := HV0 _ (List.getElem_mem hlt)
      generalize ms[k] = m at hc0 hx1 hm64 ⊢
      have hml : ms.length ≤ 1000 := hm
      have HM1 := Lib.hid (sortF_take hx1)
      rw [hs.out] at HM1
      have hod' : os.length ≤ 9223372036854775807 := by unfold maxLen at hd2; omega
      clear hx1 hor
      go_upto_block 2 with fail
      go_cut [5] (fun kk wx => ∃ j : Nat, j ≤ os.length ∧ kk = .int .i64 j ∧ Hid (Below wq.heap.size wq wx) ∧ Hid (insF os m = os.take j ++ m :: os.drop j))
      case first =>
        go_wp2_with fail
        go_loopw [5] (fun kk wr => ∃ j : Nat, j ≤ os.length ∧ kk = .int .i64 j ∧ Hid (Below wq.heap.size wq wr) ∧ Hid (∀ (i : Nat) (y : Nat), i < j → os[i]? = some y → (decide (keyF y ≤ keyF m)) = true)) (fun kk _ => os.length - (intOf kk).toNat)
        case atStart => exact ⟨0, by omega, rfl, Lib.hid (Below.refl _ _), Lib.hid fun i y h => by omega⟩
        case round =>
          obtain ⟨j, hj, rfl, hB, hS⟩ := hrel
          by_cases hjl : j < os.length
          · have j0 : (j : Int) < (os.length : Int) := by omega
            obtain ⟨b', off', rfl, hbl', hd0⟩ := (SlAt.cell1 (f := fun n : Nat => Value.int .u64 n) (SlAt.below hod hB.out) (j := j) hjl)
            have hy1 := List.getElem?_eq_getElem hjl
            have hy64 : os[j] < 18446744073709551616 := HO64.out _ (List.getElem_mem hjl)
            generalize os[j] = y at hd0 hy1 hy64 ⊢
            have l0 := fun p => cell_far (p := p) hbl' hd0
            have hbl2 : b < wr.heap.size := Nat.lt_of_lt_of_le hbl hB.out.size
            have e0 := (hB.out.cell (p := ⟨b, off + k, none⟩) hbl).trans hc0
            have n0 := fun p => cell_far (p := p) hbl2 e0
            have HKY := Lib.hid fun W => refKey13 y W hy64
            have HKM := Lib.hid fun W => refKey13 m W hm64
            clear hd0 e0 hy64
            by_cases hq : keyF y ≤ keyF m
            · have HS2 := Lib.hid (step_true (p := fun y : Nat => decide (keyF y ≤ keyF m)) hS.out hy1 (by simp [hq]))
              have hqi : ((keyF y : Nat) : Int) ≤ ((keyF m : Nat) : Int) := by omega
              obtain ⟨p', hky⟩ : ∃ p' : Nat, keyF y = p' := ⟨_, rfl⟩
              rw [hky] at hqi HKY
              obtain ⟨q', hkm⟩ : ∃ q' : Nat, keyF m = q' := ⟨_, rfl⟩
              rw [hkm] at hqi HKM
              clear hy1 hq hky hkm
              go_wp2_with fail
              refine wp_region_far (by kernel_rfl) (by kernel_rfl) ?_
              repeat (go_big_quiet_step ((go_at_call 11; with_reducible first | exact One.far (HKY.out _) | exact One.far (HKM.out _))))
              refine wpQuiet_nil ?_
              rintro _ ⟨p, rfl⟩
              go_wp2_with fail
              go_roundw
              case rel => exact ⟨j + 1, by omega, by go_num, hB.out.trans ((below_far wr p).mono hB.out.size), HS2⟩
              case measure => simp [intOf]; omega
            · have HV := Lib.hid (insF_at hS.out (fun z hz => by rw [hy1] at hz; cases hz; simp; omega))
              have hqi : ¬ ((keyF y : Nat) : Int) ≤ ((keyF m : Nat) : Int) := by omega
              obtain ⟨p', hky⟩ : ∃ p' : Nat, keyF y = p' := ⟨_, rfl⟩
              rw [hky] at hqi HKY
              obtain ⟨q', hkm⟩ : ∃ q' : Nat, keyF m = q' := ⟨_, rfl⟩
              rw [hkm] at hqi HKM
              clear hy1 hq hky hkm
              go_wp2_with fail
              refine wp_region_far (by kernel_rfl) (by kernel_rfl) ?_
              repeat (go_big_quiet_step ((go_at_call 11; with_reducible first | exact One.far (HKY.out _) | exact One.far (HKM.out _))))
              refine wpQuiet_nil ?_
              rintro _ ⟨p, rfl⟩
              go_wp2_with fail
              go_meet
              exact ⟨j, by omega, rfl, hB.out.trans ((below_far wr p).mono hB.out.size), HV⟩
          · have HV := Lib.hid (insF_at hS.out (fun z hz => by rw [List.getElem?_eq_none (by omega)] at hz; cases hz))
            have j0 : ¬ (j : Int) < (os.length : Int) := by omega
            go_wp2_with fail
            refine wp_region_far (by kernel_rfl) (by kernel_rfl) ?_
            repeat (go_big_quiet_step ((fail)))
            refine wpQuiet_nil ?_
            rintro _ ⟨p, rfl⟩
            go_wp2_with fail
            go_meet
            exact ⟨j, by omega, rfl, hB.out.trans ((below_far wr p).mono hB.out.size), HV⟩
      case rest =>
        obtain ⟨j, hj, rfl, hB, HV⟩ := hcut
        have j0 : (0 : Int) ≤ (j : Int) := by omega
        have j1 : (j : Int) ≤ (os.length : Int) := by omega
        have j2 : (j : Int) ≤ (d : Int) := by omega
        have hlw : b < wc.heap.size := Nat.lt_of_lt_of_le hbl hB.out.size
        have e0 := (hB.out.cell (p := ⟨b, off + k, none⟩) hbl).trans hc0
        have HD := Lib.hid (SlAt.below hod hB.out)
        have HW := Lib.hid (below_trans hb.out hB.out)
        have HB0 := Lib.hid (show wc.cell? ⟨b, off + k, none⟩ = some (.int .u64 (m : Int)) from e0)
        clear hc0 hbl hod hB hb ho
        have hS : Below wc.heap.size wc wc := Below.refl _ _
        have hS' := srt_sp HB0.out hlw hS
        go_wp2_with fail
        have j3 : (os.length : Int) ≤ (d : Int) := by omega
        go_region_held3 (fun W => W.cell? ⟨b, off + k, none⟩ = some (.int .u64 (m : Int)) ∧ b < W.heap.size ∧ Below wc.heap.size wc W)
          (first
            | assumption
            | (exact srt_sp HB0.out hlw (by first | assumption | exact Below.drew (by assumption) | exact bal (by assumption) _ | exact bal (Below.drew (by assumption)) _ | exact Below.drew (bal (by assumption) _) | exact Below.drew (bal (Below.drew (by assumption)) _))))
          (first
            | (refine step_append_sl (o := ⟨some 34, _, _, _, _, _⟩) _ encU 1 (by rfl) (.const (.slice none 0 0)) (.tmp 33) 34 (by rfl) encU_len (by omega) encU_one wc.heap.size 22 i0 _ 8 Tryd.underlying34 hi0 hz0 hz1 hz2 rfl (.slice none 0 0) [] (by rfl) (World.ownsRow_nil _ _ _ _) D j d (os.take j) (by rfl) (by simp; omega) ((SlAt.below HD.out (by first | assumption | exact Below.drew (by assumption) | exact bal (by assumption) _ | exact bal (Below.drew (by assumption)) _ | exact Below.drew (bal (by assumption) _) | exact Below.drew (bal (Below.drew (by assumption)) _))).take j) (by simp [maxLen]; omega) (by simp; omega) (Below.size (by first | assumption | exact Below.drew (by assumption) | exact bal (by assumption) _ | exact bal (Below.drew (by assumption)) _ | exact Below.drew (bal (by assumption) _) | exact Below.drew (bal (Below.drew (by assumption)) _))) ?_
               intro v1 w1 hown1 hg1 hat1
               have hS1 := Below.grown (by first | assumption | exact Below.drew (by assumption) | exact bal (by assumption) _ | exact bal (Below.drew (by assumption)) _ | exact Below.drew (bal (by assumption) _) | exact Below.drew (bal (Below.drew (by assumption)) _)) hg1 (Below.size (by first | assumption | exact Below.drew (by assumption) | exact bal (by assumption) _ | exact bal (Below.drew (by assumption)) _ | exact Below.drew (bal (by assumption) _) | exact Below.drew (bal (Below.drew (by assumption)) _))) (fun k hk => by simp [Value.ownBlock] at hk))
            | (refine step_append_sl (o := ⟨some 40, _, _, _, _, _⟩) _ encU 1 (by rfl) (.tmp 34) (.tmp 39) 34 (by rfl) encU_len (by omega) encU_one wc.heap.size 22 i0 _ 8 Tryd.underlying34 hi0 hz0 hz1 hz2 rfl v1 ([] ++ os.take j) (by rfl) (by first | exact hown1 | exact hown1.alloc _ | exact (hown1.alloc _).drew) _ 1 _ [m] (by rfl) (by rfl) (by first | exact SlAt.one (heap_alloc_new w1 _) | exact SlAt.one ((hg1.block _ (by simp) (by simp [Value.ownBlock])).trans (heap_alloc_new wc _)) | exact SlAt.one ((hg1.block _ (by simp) (by simp [Value.ownBlock])).trans (heap_alloc_new wc.drew _))) (by simp [maxLen]; omega) (by simp; omega) (Below.size (by first | assumption | exact Below.drew (by assumption) | exact bal (by assumption) _ | exact bal (Below.drew (by assumption)) _ | exact Below.drew (bal (by assumption) _) | exact Below.drew (bal (Below.drew (by assumption)) _))) ?_
               intro v2 w2 hown2 hg2 hat2
               have hS2 := Below.grown (by first | assumption | exact Below.drew (by assumption) | exact bal (by assumption) _ | exact bal (Below.drew (by assumption)) _ | exact Below.drew (bal (by assumption) _) | exact Below.drew (bal (Below.drew (by assumption)) _)) hg2 (Below.size (by first | assumption | exact Below.drew (by assumption) | exact bal (by assumption) _ | exact bal (Below.drew (by assumption)) _ | exact Below.drew (bal (by assumption) _) | exact Below.drew (bal (Below.drew (by assumption)) _))) (fun k hk => (hown1.lt k hk).1))
            | (refine step_append_sl (o := ⟨some 44, _, _, _, _, _⟩) _ encU 1 (by rfl) (.tmp 40) (.tmp 43) 34 (by rfl) encU_len (by omega) encU_one wc.heap.size 22 i0 _ 8 Tryd.underlying34 hi0 hz0 hz1 hz2 rfl v2 ([] ++ os.take j ++ [m]) (by rfl) hown2 _ (os.length - j) _ (os.drop j) (by rfl) (by simp) ((SlAt.below HD.out (by first | assumption | exact Below.drew (by assumption) | exact bal (by assumption) _ | exact bal (Below.drew (by assumption)) _ | exact Below.drew (bal (by assumption) _) | exact Below.drew (bal (Below.drew (by assumption)) _))).cutO j d hd1) (by simp [maxLen]; omega) (by simp; omega) (Below.size (by first | assumption | exact Below.drew (by assumption) | exact bal (by assumption) _ | exact bal (Below.drew (by assumption)) _ | exact Below.drew (bal (by assumption) _) | exact Below.drew (bal (Below.drew (by assumption)) _))) ?_
               intro v3 w3 hown3 hg3 hat3
               have hS3 := Below.grown (by first | assumption | exact Below.drew (by assumption) | exact bal (by assumption) _ | exact bal (Below.drew (by assumption)) _ | exact Below.drew (bal (by assumption) _) | exact Below.drew (bal (Below.drew (by assumption)) _)) hg3 (Below.size (by first | assumption | exact Below.drew (by assumption) | exact bal (by assumption) _ | exact bal (Below.drew (by assumption)) _ | exact Below.drew (bal (by assumption) _) | exact Below.drew (bal (Below.drew (by assumption)) _))) (fun k hk => (hown2.lt k hk).1)))
        all_goals
          have e : [] ++ os.take j ++ [m] ++ os.drop j = insF os m := by rw [HV.out]; simp
          rw [e] at hown3
          have HR := Lib.hid (show ∃ B, RowU w3 B v3 (insF os m) from ⟨_, hown3⟩)
          obtain ⟨D3, d3, rfl, q1, q2, q3⟩ := SlAt.of_own encU_len hown3
          have HN := Lib.hid (show HoldsU w3 (.slice D3 (insF os m).length d3) (insF os m) from ⟨D3, d3, rfl, q3, q1, q2⟩)
          have HBW := Lib.hid (below_trans HW.out hS3)
          have HLN := Lib.hid (show (insF os m).length = k + 1 from by rw [insF_len, HOL.out])
          generalize insF os m = ns at HN HLN HM1 HR ⊢
          clear hS hS' hS1 hS2 hS3 hown1 hown2 hown3 hg1 hg2 hg3 hat1 hat2 hat3 e q1 q2 q3
          go_wp2_with fail
          go_roundw
          case rel => exact ⟨k + 1, ns, by omega, HLN.out, by go_num, HN, HR, HM1, HBW⟩
          case measure => simp [intOf]; omega
    · have i0' : ¬ (k : Int) < (ms.length : Int) := by omega
      obtain rfl : k = ms.length := by omega
      have eo : sortF ms = os := by
        have := hs.out
        rwa [List.take_length] at this
      obtain ⟨D, d, rfl, _⟩ := id ho.out
      have HE := Lib.hid (show HoldsU wq (.slice D os.length d) (sortF ms) from by rw [eo]; exact ho.out)
      have HER := Lib.hid (show ∃ B, RowU wq B (.slice D os.length d) (sortF ms) from by rw [eo]; exact hor.out)
      clear hlt ho hor hs eo HOL
      go_wp2_with fail
      go_ret
      exact ⟨⟨.slice D os.length d, rfl, HE.out, HER.out⟩, hb.out⟩

end Go.Proofs.YtobkhoednecljaaDoor
