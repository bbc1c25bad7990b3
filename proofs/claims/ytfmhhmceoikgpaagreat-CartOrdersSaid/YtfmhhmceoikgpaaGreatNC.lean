/- Several texts in one: CarF, CarG. -/
import Derived.Test.YtfmhhmceoikgpaaGreatNB
import Derived.Test.YtfmhhmceoikgpaaGreatMZ
namespace Go.Proofs.YtfmhhmceoikgpaaGreat

section
open Go.RowKit

theorem insM_at {l : List Mk} {m : Mk} {k : Nat} (h : ∀ (j : Nat) (y : Mk), j < k → l[j]? = some y → (!ltD (dotM m) (dotM y)) = true) (he : ∀ y, l[k]? = some y → (!ltD (dotM m) (dotM y)) = false) : insM l m = l.take k ++ m :: l.drop k := by
  obtain ⟨h1, h2⟩ := tw_at (p := fun y : Mk => !ltD (dotM m) (dotM y)) h he
  unfold insM; rw [h1, h2]
theorem insM_len (l : List Mk) (m : Mk) : (insM l m).length = l.length + 1 := by rw [(insM_perm l m).length_eq]; rfl
theorem sortM_take {ms : List Mk} {k : Nat} {m : Mk} (h : ms[k]? = some m) : (ms.take (k + 1)).foldl insM [] = insM ((ms.take k).foldl insM []) m := by rw [take_step h, List.foldl_append]; rfl

theorem bal {w W : World} (h : Below w.heap.size w W) (o : Obj) : Below w.heap.size w (W.alloc o) := h.alloc h.size o
/-- The mark that is put in its place, where nothing of what was there has changed. -/
theorem srt_sp {w W : World} {b o : Nat} {m : Mk} (h : w.cell? ⟨b, o, none⟩ = some (.int .i64 m.r) ∧ w.cell? ⟨b, o + 1, none⟩ = some (.int .i64 m.c) ∧ w.cell? ⟨b, o + 2, none⟩ = some (.int .i64 m.q) ∧ w.cell? ⟨b, o + 3, none⟩ = some (.int .u64 (m.t : Int))) (hb : b < w.heap.size) (hB : Below w.heap.size w W) :
    W.cell? ⟨b, o, none⟩ = some (.int .i64 m.r) ∧ W.cell? ⟨b, o + 1, none⟩ = some (.int .i64 m.c) ∧ W.cell? ⟨b, o + 2, none⟩ = some (.int .i64 m.q) ∧ W.cell? ⟨b, o + 3, none⟩ = some (.int .u64 (m.t : Int)) ∧ b < W.heap.size ∧ Below w.heap.size w W :=
  ⟨(hB.cell (p := ⟨b, o, none⟩) hb).trans h.1, (hB.cell (p := ⟨b, o + 1, none⟩) hb).trans h.2.1, (hB.cell (p := ⟨b, o + 2, none⟩) hb).trans h.2.2.1, (hB.cell (p := ⟨b, o + 3, none⟩) hb).trans h.2.2.2, Nat.lt_of_lt_of_le hb hB.size, hB⟩

set_option maxRecDepth 100000 in
set_option maxHeartbeats 4000000 in
theorem refSorted10 (A : Option Addr) (ms : List Mk) (cap : Nat) (w : World) (hx : MarksAt w A ms) (hm : ms.length ≤ 1000) :
    Calls Tryz.prog 52 #[.slice A ms.length cap] w fun e w' => (∃ v, e = .returned v ∧ HoldsM w' v (sortM ms) ∧ ∃ B, RowM w' B v (sortM ms)) ∧ Below w.heap.size w w' := by
  obtain ⟨i0, hi0, hz0, hz1, hz2⟩ := info_parts infoM
  have HX := Lib.hid hx
  clear hx
  go_enter Tryz.func52, Tryz.ntmps52
  go_wp2_with fail
  go_loopw [3, 4, 5] (fun v i _ wr => ∃ (k : Nat) (os : List Mk), k ≤ ms.length ∧ os.length = k ∧ i = .int .i64 k ∧ Hid (HoldsM wr v os) ∧ Hid (∃ B, RowM wr B v os) ∧ Hid ((ms.take k).foldl insM [] = os) ∧ Hid (Below w.heap.size w wr)) (fun _ i _ _ => ms.length - (intOf i).toNat)
  case atStart => exact ⟨0, [], by omega, rfl, rfl, Lib.hid ⟨none, 0, rfl, SlAt.nil, by simp, by simp [maxLen]⟩, Lib.hid ⟨0, World.ownsRow_nil _ _ _ _⟩, Lib.hid rfl, Lib.hid (Below.refl _ _)⟩
  case round =>
    obtain ⟨k, os, hk, hol, rfl, ho, hor, hs, hb⟩ := hrel
    obtain ⟨wq, rfl⟩ : ∃ W, W = wr := ⟨_, rfl⟩
    have HOL := Lib.hid hol
    have hol1000 : os.length ≤ 1000 := by omega
    clear hol
    by_cases hlt : k < ms.length
    · have i0' : (k : Int) < (ms.length : Int) := by omega
      obtain ⟨D, d, rfl, hod, hd1, hd2⟩ := id ho.out
      obtain ⟨b, off, m, rfl, hbl, hx1, _, hc0, hc1, hc2, hc3⟩ := (SlAt.below HX.out hb.out).mark (j := k) hlt
      have hml : ms.length ≤ 1000 := hm
      have HM1 := Lib.hid (sortM_take hx1)
      rw [hs.out] at HM1
      have hod' : os.length ≤ 9223372036854775807 := by unfold maxLen at hd2; omega
      clear hx1 hor
      go_upto_block 2 with fail
      go_cut [5] (fun kk wx => ∃ j : Nat, j ≤ os.length ∧ kk = .int .i64 j ∧ Hid (Below wq.heap.size wq wx) ∧ Hid (insM os m = os.take j ++ m :: os.drop j))
      case first =>
        go_wp2_with fail
        go_loopw [5] (fun kk wr => ∃ j : Nat, j ≤ os.length ∧ kk = .int .i64 j ∧ Hid (Below wq.heap.size wq wr) ∧ Hid (∀ (i : Nat) (y : Mk), i < j → os[i]? = some y → (!ltD (dotM m) (dotM y)) = true)) (fun kk _ => os.length - (intOf kk).toNat)
        case atStart => exact ⟨0, by omega, rfl, Lib.hid (Below.refl _ _), Lib.hid fun i y h => by omega⟩
        case round =>
          obtain ⟨j, hj, rfl, hB, hS⟩ := hrel
          by_cases hjl : j < os.length
          · have j0 : (j : Int) < (os.length : Int) := by omega
            obtain ⟨b', off', y, rfl, hbl', hy1, _, hd0, hd1', hd2', hd3⟩ := (SlAt.below hod hB.out).mark (j := j) hjl
            have l0 := fun p => cell_far (p := p) hbl' hd0
            have l1 := fun p => cell_far (p := p) hbl' hd1'
            have hbl2 : b < wr.heap.size := Nat.lt_of_lt_of_le hbl hB.out.size
            have e0 := (hB.out.cell (p := ⟨b, off + k * 4, none⟩) hbl).trans hc0
            have e1 := (hB.out.cell (p := ⟨b, off + k * 4 + 1, none⟩) hbl).trans hc1
            have n0 := fun p => cell_far (p := p) hbl2 e0
            have n1 := fun p => cell_far (p := p) hbl2 e1
            obtain ⟨q, hq⟩ : ∃ q, lessD m.r m.c y.r y.c = q := ⟨_, rfl⟩
            have HL := Lib.hid fun W => refLess m.r m.c y.r y.c W
            rw [hq] at HL
            have hq' : ltD (dotM m) (dotM y) = q := hq
            clear hd0 hd1' hd2' hd3 e0 e1 hq
            cases q with
            | true =>
              have HV := Lib.hid (insM_at hS.out (fun z hz => by rw [hy1] at hz; cases hz; simp [hq']))
              clear hy1 hq'
              go_wp2_with fail
              refine wp_region_far (by kernel_rfl) (by kernel_rfl) ?_
              repeat (go_big_quiet_step ((go_at_call 100; exact OneB.far (HL.out _))))
              refine wpQuiet_nil ?_
              rintro _ ⟨p, rfl⟩
              go_wp2_with fail
              go_meet
              exact ⟨j, by omega, rfl, hB.out.trans ((below_far wr p).mono hB.out.size), HV⟩
            | false =>
              have HS2 := Lib.hid (step_true (p := fun y : Mk => !ltD (dotM m) (dotM y)) hS.out hy1 (by simp [hq']))
              clear hy1 hq'
              go_wp2_with fail
              refine wp_region_far (by kernel_rfl) (by kernel_rfl) ?_
              repeat (go_big_quiet_step ((go_at_call 100; exact OneB.far (HL.out _))))
              refine wpQuiet_nil ?_
              rintro _ ⟨p, rfl⟩
              go_wp2_with fail
              go_roundw
              case rel => exact ⟨j + 1, by omega, by go_num, hB.out.trans ((below_far wr p).mono hB.out.size), HS2⟩
              case measure => simp [intOf]; omega
          · have HV := Lib.hid (insM_at hS.out (fun z hz => by rw [List.getElem?_eq_none (by omega)] at hz; cases hz))
            have j0 : ¬ (j : Int) < (os.length : Int) := by omega
            go_wp2_with fail
            refine wp_region_far (by kernel_rfl) (by kernel_rfl) ?_
            repeat (go_big_quiet_step ((fail)))
            refine wpQuiet_nil ?_
            rintro _ ⟨p, rfl⟩
            go_wp2_with fail
            go_meet
            exact ⟨j, by omega, rfl, hB.out.trans ((below_far wr p).mono hB.out.size), HV⟩
      case rest =>
        obtain ⟨j, hj, rfl, hB, HV⟩ := hcut
        have j0 : (0 : Int) ≤ (j : Int) := by omega
        have j1 : (j : Int) ≤ (os.length : Int) := by omega
        have j2 : (j : Int) ≤ (d : Int) := by omega
        have hlw : b < wc.heap.size := Nat.lt_of_lt_of_le hbl hB.out.size
        have e0 := (hB.out.cell (p := ⟨b, off + k * 4, none⟩) hbl).trans hc0
        have e1 := (hB.out.cell (p := ⟨b, off + k * 4 + 1, none⟩) hbl).trans hc1
        have e2 := (hB.out.cell (p := ⟨b, off + k * 4 + 2, none⟩) hbl).trans hc2
        have e3 := (hB.out.cell (p := ⟨b, off + k * 4 + 3, none⟩) hbl).trans hc3
        have HD := Lib.hid (SlAt.below hod hB.out)
        have HW := Lib.hid (below_trans hb.out hB.out)
        have HB0 := Lib.hid (show wc.cell? ⟨b, off + k * 4, none⟩ = some (.int .i64 m.r) ∧ wc.cell? ⟨b, off + k * 4 + 1, none⟩ = some (.int .i64 m.c) ∧ wc.cell? ⟨b, off + k * 4 + 2, none⟩ = some (.int .i64 m.q) ∧ wc.cell? ⟨b, off + k * 4 + 3, none⟩ = some (.int .u64 (m.t : Int)) from ⟨e0, e1, e2, e3⟩)
        clear hc0 hc1 hc2 hc3 hbl hod hB hb ho
        have hS : Below wc.heap.size wc wc := Below.refl _ _
        have hS' := srt_sp HB0.out hlw hS
        go_wp2_with fail
        have j3 : (os.length : Int) ≤ (d : Int) := by omega
        go_region_held3 (fun W => W.cell? ⟨b, off + k * 4, none⟩ = some (.int .i64 m.r) ∧ W.cell? ⟨b, off + k * 4 + 1, none⟩ = some (.int .i64 m.c) ∧ W.cell? ⟨b, off + k * 4 + 2, none⟩ = some (.int .i64 m.q) ∧ W.cell? ⟨b, off + k * 4 + 3, none⟩ = some (.int .u64 (m.t : Int)) ∧ b < W.heap.size ∧ Below wc.heap.size wc W)
          (first
            | assumption
            | (exact srt_sp HB0.out hlw (by first | assumption | exact Below.drew (by assumption) | exact bal (by assumption) _ | exact bal (Below.drew (by assumption)) _ | exact Below.drew (bal (by assumption) _) | exact Below.drew (bal (Below.drew (by assumption)) _))))
          (first
            | (refine step_append_sl (o := ⟨some 35, _, _, _, _, _⟩) _ encM 4 (by rfl) (.const (.slice none 0 0)) (.tmp 34) 54 (by rfl) encM_len (by omega) encM_one wc.heap.size 65 i0 _ 32 Tryz.underlying54 hi0 hz0 hz1 hz2 rfl (.slice none 0 0) [] (by rfl) (World.ownsRow_nil _ _ _ _) D j d (os.take j) (by rfl) (by simp; omega) ((SlAt.below HD.out (by first | assumption | exact Below.drew (by assumption) | exact bal (by assumption) _ | exact bal (Below.drew (by assumption)) _ | exact Below.drew (bal (by assumption) _) | exact Below.drew (bal (Below.drew (by assumption)) _))).take j) (by simp [maxLen]; omega) (by simp; omega) (Below.size (by first | assumption | exact Below.drew (by assumption) | exact bal (by assumption) _ | exact bal (Below.drew (by assumption)) _ | exact Below.drew (bal (by assumption) _) | exact Below.drew (bal (Below.drew (by assumption)) _))) ?_
               intro v1 w1 hown1 hg1 hat1
               have hS1 := Below.grown (by first | assumption | exact Below.drew (by assumption) | exact bal (by assumption) _ | exact bal (Below.drew (by assumption)) _ | exact Below.drew (bal (by assumption) _) | exact Below.drew (bal (Below.drew (by assumption)) _)) hg1 (Below.size (by first | assumption | exact Below.drew (by assumption) | exact bal (by assumption) _ | exact bal (Below.drew (by assumption)) _ | exact Below.drew (bal (by assumption) _) | exact Below.drew (bal (Below.drew (by assumption)) _))) (fun k hk => by simp [Value.ownBlock] at hk))
            | (refine step_append_sl (o := ⟨some 41, _, _, _, _, _⟩) _ encM 4 (by rfl) (.tmp 35) (.tmp 40) 54 (by rfl) encM_len (by omega) encM_one wc.heap.size 65 i0 _ 32 Tryz.underlying54 hi0 hz0 hz1 hz2 rfl v1 ([] ++ os.take j) (by rfl) (by first | exact hown1 | exact hown1.alloc _ | exact (hown1.alloc _).drew) _ 1 _ [m] (by rfl) (by rfl) (by first | exact SlAt.one (heap_alloc_new w1 _) | exact SlAt.one ((hg1.block _ (by simp) (by simp [Value.ownBlock])).trans (heap_alloc_new wc _)) | exact SlAt.one ((hg1.block _ (by simp) (by simp [Value.ownBlock])).trans (heap_alloc_new wc.drew _))) (by simp [maxLen]; omega) (by simp; omega) (Below.size (by first | assumption | exact Below.drew (by assumption) | exact bal (by assumption) _ | exact bal (Below.drew (by assumption)) _ | exact Below.drew (bal (by assumption) _) | exact Below.drew (bal (Below.drew (by assumption)) _))) ?_
               intro v2 w2 hown2 hg2 hat2
               have hS2 := Below.grown (by first | assumption | exact Below.drew (by assumption) | exact bal (by assumption) _ | exact bal (Below.drew (by assumption)) _ | exact Below.drew (bal (by assumption) _) | exact Below.drew (bal (Below.drew (by assumption)) _)) hg2 (Below.size (by first | assumption | exact Below.drew (by assumption) | exact bal (by assumption) _ | exact bal (Below.drew (by assumption)) _ | exact Below.drew (bal (by assumption) _) | exact Below.drew (bal (Below.drew (by assumption)) _))) (fun k hk => (hown1.lt k hk).1))
            | (refine step_append_sl (o := ⟨some 45, _, _, _, _, _⟩) _ encM 4 (by rfl) (.tmp 41) (.tmp 44) 54 (by rfl) encM_len (by omega) encM_one wc.heap.size 65 i0 _ 32 Tryz.underlying54 hi0 hz0 hz1 hz2 rfl v2 ([] ++ os.take j ++ [m]) (by rfl) hown2 _ (os.length - j) _ (os.drop j) (by rfl) (by simp) ((SlAt.below HD.out (by first | assumption | exact Below.drew (by assumption) | exact bal (by assumption) _ | exact bal (Below.drew (by assumption)) _ | exact Below.drew (bal (by assumption) _) | exact Below.drew (bal (Below.drew (by assumption)) _))).cut j d hd1) (by simp [maxLen]; omega) (by simp; omega) (Below.size (by first | assumption | exact Below.drew (by assumption) | exact bal (by assumption) _ | exact bal (Below.drew (by assumption)) _ | exact Below.drew (bal (by assumption) _) | exact Below.drew (bal (Below.drew (by assumption)) _))) ?_
               intro v3 w3 hown3 hg3 hat3
               have hS3 := Below.grown (by first | assumption | exact Below.drew (by assumption) | exact bal (by assumption) _ | exact bal (Below.drew (by assumption)) _ | exact Below.drew (bal (by assumption) _) | exact Below.drew (bal (Below.drew (by assumption)) _)) hg3 (Below.size (by first | assumption | exact Below.drew (by assumption) | exact bal (by assumption) _ | exact bal (Below.drew (by assumption)) _ | exact Below.drew (bal (by assumption) _) | exact Below.drew (bal (Below.drew (by assumption)) _))) (fun k hk => (hown2.lt k hk).1)))
        all_goals
          have e : [] ++ os.take j ++ [m] ++ os.drop j = insM os m := by rw [HV.out]; simp
          rw [e] at hown3
          have HR := Lib.hid (show ∃ B, RowM w3 B v3 (insM os m) from ⟨_, hown3⟩)
          obtain ⟨D3, d3, rfl, q1, q2, q3⟩ := SlAt.of_own encM_len hown3
          have HN := Lib.hid (show HoldsM w3 (.slice D3 (insM os m).length d3) (insM os m) from ⟨D3, d3, rfl, q3, q1, q2⟩)
          have HBW := Lib.hid (below_trans HW.out hS3)
          have HLN := Lib.hid (show (insM os m).length = k + 1 from by rw [insM_len, HOL.out])
          generalize insM os m = ns at HN HLN HM1 HR ⊢
          clear hS hS' hS1 hS2 hS3 hown1 hown2 hown3 hg1 hg2 hg3 hat1 hat2 hat3 e q1 q2 q3
          go_wp2_with fail
          go_roundw
          case rel => exact ⟨k + 1, ns, by omega, HLN.out, by go_num, HN, HR, HM1, HBW⟩
          case measure => simp [intOf]; omega
    · have i0' : ¬ (k : Int) < (ms.length : Int) := by omega
      obtain rfl : k = ms.length := by omega
      have eo : sortM ms = os := by
        have := hs.out
        rwa [List.take_length] at this
      obtain ⟨D, d, rfl, _⟩ := id ho.out
      have HE := Lib.hid (show HoldsM wq (.slice D os.length d) (sortM ms) from by rw [eo]; exact ho.out)
      have HER := Lib.hid (show ∃ B, RowM wq B (.slice D os.length d) (sortM ms) from by rw [eo]; exact hor.out)
      clear hlt ho hor hs eo HOL
      go_wp2_with fail
      go_ret
      exact ⟨⟨.slice D os.length d, rfl, HE.out, HER.out⟩, hb.out⟩

end

section
open Go.RowKit

theorem findZ_any {xs : List ItV} {nm : List UInt8} : (findZ (its xs) nm = -1 ∧ ((its xs).any fun z => z.1 == nm) = false) ∨ (0 ≤ findZ (its xs) nm ∧ ((its xs).any fun z => z.1 == nm) = true) := by
  rcases findZ_cases xs nm with ⟨k, x, _, h2, h3⟩ | ⟨h2, h3⟩
  · refine .inr ⟨by omega, ?_⟩
    rw [List.any_eq_true]
    exact ⟨x.it, List.mem_of_find?_eq_some h3, by simpa using List.find?_some h3⟩
  · refine .inl ⟨h2, ?_⟩
    rw [List.find?_eq_none] at h3
    rw [List.any_eq_false]
    exact h3
theorem stepI_some {l : List It} {x : It} (h1 : okI (ordI x) = true) (h2 : (l.any fun z => z.1 == x.1) = false) (h3 : (l.any fun z => meetN z.2 (sortM x.2)) = false) : stepI (some l) x = some (insN l (ordI x)) := by
  unfold stepI; rw [Option.bind_some, if_pos ⟨h1, h2, h3⟩]
theorem stepI_no {l : List It} {x : It} (h : okI (ordI x) = false ∨ (l.any fun z => z.1 == x.1) = true ∨ (l.any fun z => meetN z.2 (sortM x.2)) = true) : stepI (some l) x = none := by
  unfold stepI
  rw [Option.bind_some, if_neg]
  rintro ⟨h1, h2, h3⟩
  rcases h with h | h | h
  · rw [h] at h1; cases h1
  · rw [h] at h2; cases h2
  · rw [h] at h3; cases h3
/-- The items that were put in order so far; where there is none. -/
def ordTo (xs : List It) (k : Nat) : Option (List It) := (xs.take k).foldl stepI (some [])
theorem ordTo_step {xs l : List It} {k : Nat} {x : It} (h : ordTo xs k = some l) (hx : xs[k]? = some x) : ordTo xs (k + 1) = stepI (some l) x := by
  unfold ordTo at h ⊢
  rw [take_step hx, List.foldl_append, h]; rfl
theorem ordTo_none {xs l : List It} {k : Nat} {x : It} (h : ordTo xs k = some l) (hx : xs[k]? = some x) (hn : stepI (some l) x = none) : canonI xs = none := by
  have hk := (List.getElem?_eq_some_iff.1 hx).1
  have e : xs = xs.take (k + 1) ++ xs.drop (k + 1) := (List.take_append_drop _ _).symm
  unfold canonI
  rw [e, List.foldl_append]
  have := ordTo_step h hx
  unfold ordTo at this
  rw [this, hn, stepI_none]
theorem ordTo_all {xs : List It} : ordTo xs xs.length = canonI xs := by unfold ordTo canonI; rw [List.take_length]

/-- The cart in its box, the result in its box. -/
structure KR (w : World) (c : CaV) (W : World) : Prop where
  kb : KB1 w c W
  res : W.heap[w.heap.size + 1]? = some (.cells #[.slice none 0 0, .slice none 0 0, .slice none 0 0] 28 (0, 0))
theorem KR.next {w W W' : World} {c : CaV} (h : KR w c W) (hb : Below W.heap.size W W') : KR w c W' := ⟨h.kb.next hb, (hb.block _ (Array.getElem?_eq_some_iff.1 h.res).1).trans h.res⟩
theorem KR.drew {w W : World} {c : CaV} (h : KR w c W) : KR w c W.drew := h.next (Below.refl _ _).drew
theorem KR.alloc {w W : World} {c : CaV} (h : KR w c W) (o : Obj) : KR w c (W.alloc o) := h.next ((Below.refl _ _).alloc (Nat.le_refl _) _)
theorem KR.lt {w W : World} {c : CaV} (h : KR w c W) : w.heap.size + 1 < W.heap.size := (Array.getElem?_eq_some_iff.1 h.res).1
theorem KR.new (w : World) (c : CaV) (ho : CaOK w c) : KR w c ((w.alloc (.cells #[c.v, c.l, c.i] 28)).alloc (.cells #[.slice none 0 0, .slice none 0 0, .slice none 0 0] 28)) := by
  refine ⟨(KB1.new w c ho).alloc _, ?_⟩
  have h := heap_alloc_new (w.alloc (.cells #[c.v, c.l, c.i] 28)) (.cells #[.slice none 0 0, .slice none 0 0, .slice none 0 0] 28)
  rwa [World.size_alloc] at h
/-- Two cells are written behind both boxes. -/
theorem KR.set2 {w W : World} {c : CaV} (h : KR w c W) {g : Nat} (hg : w.heap.size + 1 < g) (u v : Value) : KR w c ((W.setCell ⟨g, 0, none⟩ u).setCell ⟨g, 1, none⟩ v) := by
  have hk : ∀ k, k ≤ w.heap.size + 1 → ((W.setCell ⟨g, 0, none⟩ u).setCell ⟨g, 1, none⟩ v).heap[k]? = W.heap[k]? := fun k hk =>
    (Below.heap_setCell _ ⟨g, 1, none⟩ v k (by simp; omega)).trans (Below.heap_setCell W ⟨g, 0, none⟩ u k (by simp; omega))
  exact ⟨⟨(hk _ (by omega)).trans h.kb.blk, (h.kb.bel.setCell (p := ⟨g, 0, none⟩) (by simp; omega) _).setCell (p := ⟨g, 1, none⟩) (by simp; omega) _, h.kb.ok0⟩, (hk _ (by omega)).trans h.res⟩
/-- The same, and the items so far, and the item at hand in its box. -/
structure KCn (w : World) (c : CaV) (gy : Nat) (y : ItV) (vl : Value) (ls : List ItV) (W : World) : Prop where
  kr : KR w c W
  blk : BlkI W gy y
  oky : ItOK W y
  hl : HoldsX W vl ls
section
variable {w W W' : World} {c : CaV} {gy : Nat} {y : ItV} {vl : Value} {ls : List ItV}
theorem KCn.next (h : KCn w c gy y vl ls W) (hb : Below W.heap.size W W') : KCn w c gy y vl ls W' := ⟨h.kr.next hb, h.blk.below hb, h.oky.below hb, h.hl.below hb⟩
theorem KCn.far (h : KCn w c gy y vl ls W) (p : FarBy) : KCn w c gy y vl ls (Go.Proofs.YtfmhhmceoikgpaaGreat.far W p) := h.next (below_far W p)
end

theorem can_sp {w0 W W' : World} {b k x c : Nat} {A : Option Addr} {v u : Value} (h : W.cell? ⟨w0.heap.size, 2, none⟩ = some v ∧ W.cell? ⟨b, k, none⟩ = some u ∧ W.cell? ⟨b, k + 1, none⟩ = some (.slice A x c)) (h1 : w0.heap.size < W.heap.size) (h2 : b < W.heap.size) (hb : Below W.heap.size W W') :
    W'.cell? ⟨w0.heap.size, 2, none⟩ = some v ∧ W'.cell? ⟨b, k, none⟩ = some u ∧ W'.cell? ⟨b, k + 1, none⟩ = some (.slice A x c) ∧ w0.heap.size < W'.heap.size ∧ b < W'.heap.size ∧ Below W.heap.size W W' :=
  ⟨(hb.cell (p := ⟨w0.heap.size, 2, none⟩) h1).trans h.1, (hb.cell (p := ⟨b, k, none⟩) h2).trans h.2.1, (hb.cell (p := ⟨b, k + 1, none⟩) h2).trans h.2.2, Nat.lt_of_lt_of_le h1 hb.size, Nat.lt_of_lt_of_le h2 hb.size, hb⟩
/-- A box of an item that was there ahead of a call. -/
theorem box_kept {W Wb : World} {n : Nat} {a b : Value} (hb : Below W.heap.size W Wb) (hn : W.heap[n]? = some (.cells #[a, b] 56 (0, 0))) :
    Wb.heap[n]? = some (.cells #[a, b] 56 (0, 0)) ∧ Wb.cell? ⟨n, 0, none⟩ = some a ∧ Wb.cell? ⟨n, 1, none⟩ = some b ∧ Wb.frozen? ⟨n, 0, none⟩ = false ∧ Wb.frozen? ⟨n, 1, none⟩ = false ∧ n < Wb.heap.size := by
  have h := (hb.block n (Array.getElem?_eq_some_iff.1 hn).1).trans hn
  exact ⟨h, by simp [World.cell?, h], by simp [World.cell?, h], by simp [World.frozen?, h], by simp [World.frozen?, h], (Array.getElem?_eq_some_iff.1 h).1⟩
theorem box_filled {W : World} {n : Nat} {a b : Value} (h : W.heap[n]? = some (.cells #[a, b] 56 (0, 0))) (x : ItV) : BlkI ((W.setCell ⟨n, 0, none⟩ (.string ⟨x.nm.toArray⟩)).setCell ⟨n, 1, none⟩ (.slice x.A x.ms.length x.c)) n x := by
  have e1 : (W.setCell ⟨n, 0, none⟩ (.string ⟨x.nm.toArray⟩)).heap[n]? = some (.cells #[.string ⟨x.nm.toArray⟩, b] 56 (0, 0)) := by
    show (W.heap.modify n _)[n]? = _
    rw [Array.getElem?_modify, if_pos rfl, h]
    rfl
  show ((W.setCell ⟨n, 0, none⟩ (.string ⟨x.nm.toArray⟩)).heap.modify n _)[n]? = _
  rw [Array.getElem?_modify, if_pos rfl, e1]
  rfl
theorem row_kept {W : World} {n B c : Nat} {A : Option Addr} {ms : List Mk} {cur : Array Value} (h : RowM W B (.slice A ms.length c) ms) (hg : W.heap[n]? = some (.cells cur 56 (0, 0))) (u v : Value) : MarksAt ((W.setCell ⟨n, 0, none⟩ u).setCell ⟨n, 1, none⟩ v) A ms := by
  have hne := RowM.ne h hg
  obtain ⟨A', c', e, _, _, h1⟩ := SlAt.of_own encM_len (ownsRow_setCell_other (a := ⟨n, 1, none⟩) (ownsRow_setCell_other (a := ⟨n, 0, none⟩) h hne u) hne v)
  injection e with e1 e2 e3
  rw [e1]; exact h1
theorem bset {n g : Nat} {w W : World} (h : Below n w W) (hg : n ≤ g) (u v : Value) : Below n w ((W.setCell ⟨g, 0, none⟩ u).setCell ⟨g, 1, none⟩ v) := Below.setCell (p := ⟨g, 1, none⟩) (Below.setCell (p := ⟨g, 0, none⟩) h hg _) hg _
theorem sortM_len (l : List Mk) : (sortM l).length = l.length := (sortM_perm l).length_eq
theorem KR.cells {w W : World} {c : CaV} (h : KR w c W) : W.cell? ⟨w.heap.size + 1, 0, none⟩ = some (.slice none 0 0) ∧ W.cell? ⟨w.heap.size + 1, 1, none⟩ = some (.slice none 0 0) ∧ W.cell? ⟨w.heap.size + 1, 2, none⟩ = some (.slice none 0 0) ∧ W.frozen? ⟨w.heap.size + 1, 0, none⟩ = false ∧ W.frozen? ⟨w.heap.size + 1, 1, none⟩ = false ∧ W.frozen? ⟨w.heap.size + 1, 2, none⟩ = false ∧ w.heap.size + 1 < W.heap.size := by
  have hres := h.res
  exact ⟨by simp [World.cell?, hres], by simp [World.cell?, hres], by simp [World.cell?, hres], by simp [World.frozen?, hres], by simp [World.frozen?, hres], by simp [World.frozen?, hres], h.lt⟩
theorem KR.stored {w W : World} {c : CaV} (h : KR w c W) (u v z : Value) : Below w.heap.size w (((W.setCell ⟨w.heap.size + 1, 0, none⟩ u).setCell ⟨w.heap.size + 1, 1, none⟩ v).setCell ⟨w.heap.size + 1, 2, none⟩ z) :=
  ((h.kb.bel.setCell (p := ⟨w.heap.size + 1, 0, none⟩) (by simp) _).setCell (p := ⟨w.heap.size + 1, 1, none⟩) (by simp) _).setCell (p := ⟨w.heap.size + 1, 2, none⟩) (by simp) _
theorem KCn.items {w W : World} {c : CaV} {gy n d : Nat} {D : Option Addr} {y : ItV} {ls : List ItV} (h : KCn w c gy y (.slice D n d) ls W) : ItemsAt W D ls := by
  obtain ⟨A, m, e, h1, _⟩ := h.hl
  injection e with e1 e2 e3
  rw [e1]; exact h1
theorem any_false {l : List It} {p : It → Bool} (h : ∀ (j : Nat) (y : It), j < l.length → l[j]? = some y → p y = false) : l.any p = false := by
  rw [List.any_eq_false]
  intro x hx
  obtain ⟨j, hj, e⟩ := List.mem_iff_getElem.1 hx
  have := h j x hj (by rw [List.getElem?_eq_getElem hj, e])
  simp [this]
theorem any_true {l : List It} {p : It → Bool} {j : Nat} {x : It} (h : l[j]? = some x) (hp : p x = true) : l.any p = true := by
  rw [List.any_eq_true]
  exact ⟨x, List.mem_of_getElem? h, hp⟩
theorem insX_len (xs : List ItV) (x : ItV) : (insX xs x).length = xs.length + 1 := by
  unfold insX
  rw [List.length_append, List.length_cons]
  have h := congrArg List.length (List.takeWhile_append_dropWhile (p := fun y : ItV => beforeN y.nm x.nm) (l := xs))
  rw [List.length_append] at h
  omega
/-- Rows are read as before where a box of slices is written. -/
theorem SlAt.off_box {α : Type} {enc : α → List Value} {k g : Nat} {W W' : World} {A : Option Addr} {xs : List α} {t : TypeId} {z : Nat × Nat} (h : SlAt enc k W A xs) (h0 : ∀ x, ∃ u, (enc x)[0]? = some u ∧ u ≠ .slice none 0 0)
    (hg : W.heap[g]? = some (.cells #[.slice none 0 0, .slice none 0 0, .slice none 0 0] t z)) (hs : W.heap.size ≤ W'.heap.size) (hk : ∀ b, b ≠ g → W'.heap[b]? = W.heap[b]?) : SlAt enc k W' A xs := fun hn => by
  obtain ⟨b, off, rfl, hlt, hc⟩ := h hn
  have hbg : b ≠ g := by
    rintro rfl
    obtain ⟨u, hu, hne⟩ := h0 xs[0]
    have := hc 0 _ (List.getElem?_eq_getElem hn) 0 u hu
    simp only [World.cell?, hg] at this
    rcases Nat.lt_or_ge (off + 0 * k + 0) 3 with h3 | h3
    · have h4 : off + 0 * k + 0 = 0 ∨ off + 0 * k + 0 = 1 ∨ off + 0 * k + 0 = 2 := by omega
      rcases h4 with e | e | e <;> rw [e] at this <;> simp at this <;> exact hne this.symm
    · rw [Array.getElem?_eq_none (by simpa using h3)] at this
      cases this
  exact ⟨b, off, rfl, Nat.lt_of_lt_of_le hlt hs, fun j x hx i u hu => by
    have := hc j x hx i u hu
    unfold World.cell? at this ⊢
    rw [hk b hbg]; exact this⟩
theorem CaOK.off_box {g : Nat} {W W' : World} {c : CaV} {t : TypeId} {z : Nat × Nat} (h : CaOK W c)
    (hg : W.heap[g]? = some (.cells #[.slice none 0 0, .slice none 0 0, .slice none 0 0] t z)) (hs : W.heap.size ≤ W'.heap.size) (hk : ∀ b, b ≠ g → W'.heap[b]? = W.heap[b]?) : CaOK W' c := by
  have hd : ∀ {v : Value} {l : List (Int × Int)}, Holds W v l → Holds W' v l := fun {v l} ⟨A, n, e, h1, h2⟩ => ⟨A, n, e, SlAt.off_box h1 (fun x => ⟨_, rfl, by simp⟩) hg hs hk, h2⟩
  obtain ⟨h1, h2, A, n, e, h3, h4⟩ := h
  exact ⟨hd h1, hd h2, A, n, e, ⟨SlAt.off_box h3.1 (fun x => ⟨_, rfl, by simp⟩) hg hs hk, fun x hx => ⟨SlAt.off_box (h3.2 x hx).1 (fun y => ⟨_, rfl, by simp⟩) hg hs hk, (h3.2 x hx).2⟩⟩, h4⟩
theorem set3_other (W : World) (g b : Nat) (u v z : Value) (h : b ≠ g) : (((W.setCell ⟨g, 0, none⟩ u).setCell ⟨g, 1, none⟩ v).setCell ⟨g, 2, none⟩ z).heap[b]? = W.heap[b]? :=
  ((Below.heap_setCell _ ⟨g, 2, none⟩ z b h).trans (Below.heap_setCell _ ⟨g, 1, none⟩ v b h)).trans (Below.heap_setCell _ ⟨g, 0, none⟩ u b h)
theorem KB1.set3 {w W : World} {c : CaV} (h : KB1 w c W) (u v z : Value) : KB1 w c (((W.setCell ⟨w.heap.size + 1, 0, none⟩ u).setCell ⟨w.heap.size + 1, 1, none⟩ v).setCell ⟨w.heap.size + 1, 2, none⟩ z) :=
  ⟨(set3_other W (w.heap.size + 1) w.heap.size u v z (by omega)).trans h.blk, ((h.bel.setCell (p := ⟨w.heap.size + 1, 0, none⟩) (by simp) _).setCell (p := ⟨w.heap.size + 1, 1, none⟩) (by simp) _).setCell (p := ⟨w.heap.size + 1, 2, none⟩) (by simp) _, h.ok0⟩
/-- What Canon returns. -/
def CanR (r : Option Ca) (e : Ending) (W : World) : Prop := match r with
  | none => e = .returned (.tuple #[.agg #[.slice none 0 0, .slice none 0 0, .slice none 0 0], .bool false])
  | some d => ∃ k : CaV, e = .returned (.tuple #[mkC k, .bool true]) ∧ k.ca = d ∧ CaOK W k

set_option maxRecDepth 100000 in
set_option maxHeartbeats 8000000 in
theorem refCanon10 (c : CaV) (r : Option Ca) (w : World) (hc : CaOK w c) (hf : FitsC c) (hsm : c.vs.length + c.ls.length ≤ 400) (hdl : ∀ k, canonI (its c.xs) = some k → (dotsI k).length ≤ 600) (hr : canonK c.ca = r) :
    Calls Tryz.prog 16 #[mkC c] w fun e w' => CanR r e w' ∧ Below w.heap.size w w' := by
  have K0 := Lib.hid (KR.new w c hc)
  have HF := Lib.hid hf
  have HR := Lib.hid hr
  have hm20 : c.xs.length ≤ 100 := hf.2.2.1
  have HDL := Lib.hid hdl
  clear hc hf hr hdl
  obtain ⟨p, hp⟩ : ∃ p, validC c.vs c.ls = p := ⟨_, rfl⟩
  have HP := Lib.hid hp
  go_enter Tryz.func16, Tryz.ntmps16
  go_upto_region 1 with fail
  generalize World.alloc (World.alloc w _) _ = w2 at K0 ⊢
  obtain ⟨x0, x1, x2, xl, _⟩ := K0.out.kb.sp
  go_wp2_with fail
  refine (ref3Valid _ c.vs c.ls p w2 K0.out.kb.ok.ctx HP.out).mono ?_
  rintro e w3 ⟨rfl, hb⟩
  have K1 := Lib.hid (K0.out.next hb)
  clear hb K0 x0 x1 x2 xl hp
  cases p with
  | false =>
    obtain rfl : r = none := by
      have := HR.out
      unfold canonK at this
      rw [show validC c.ca.1.1 c.ca.1.2 = false from HP.out] at this
      simpa using this.symm
    have hres := K1.out.res
    have s0 : w3.cell? ⟨w.heap.size + 1, 0, none⟩ = some (.slice none 0 0) := by simp [World.cell?, hres]
    have s1 : w3.cell? ⟨w.heap.size + 1, 1, none⟩ = some (.slice none 0 0) := by simp [World.cell?, hres]
    have s2 : w3.cell? ⟨w.heap.size + 1, 2, none⟩ = some (.slice none 0 0) := by simp [World.cell?, hres]
    have f0 : w3.frozen? ⟨w.heap.size + 1, 0, none⟩ = false := by simp [World.frozen?, hres]
    have f1 : w3.frozen? ⟨w.heap.size + 1, 1, none⟩ = false := by simp [World.frozen?, hres]
    have f2 : w3.frozen? ⟨w.heap.size + 1, 2, none⟩ = false := by simp [World.frozen?, hres]
    have hlt := K1.out.lt
    clear hres
    go_wp2_with fail
    refine bodyPost_ret (v := .tuple #[.agg #[.slice none 0 0, .slice none 0 0, .slice none 0 0], .bool false]) (by simp [results, Tryz.results16, go_sem, s0, s1, s2]) rfl ⟨rfl, ?_⟩
    exact ((K1.out.kb.bel.setCell (p := ⟨w.heap.size + 1, 0, none⟩) (by simp) _).setCell (p := ⟨w.heap.size + 1, 1, none⟩) (by simp) _).setCell (p := ⟨w.heap.size + 1, 2, none⟩) (by simp) _
  | true =>
    have HRN := Lib.hid (show canonI (its c.xs) = none → r = none from fun h => by
      have := HR.out
      unfold canonK at this
      rw [show validC c.ca.1.1 c.ca.1.2 = true from HP.out, show canonI c.ca.2 = none from h] at this
      simpa using this.symm)
    have HRS := Lib.hid (show ∀ k, canonI (its c.xs) = some k → r = some (addC c.vs c.ls (dotsI k), k) from fun k h => by
      have := HR.out
      unfold canonK at this
      rw [show validC c.ca.1.1 c.ca.1.2 = true from HP.out, show canonI c.ca.2 = some k from h, if_pos rfl] at this
      exact this.symm)
    clear HR
    go_wp2_with fail
    go_loopw [4, 5, 6, 7] (fun vl i _ _ wr => ∃ (k : Nat) (ls : List ItV), k ≤ c.xs.length ∧ ls.length ≤ k ∧ i = .int .i64 k ∧ Hid (HoldsX wr vl ls) ∧ Hid (ordTo (its c.xs) k = some (its ls)) ∧ Hid (Fits ls) ∧ Hid (KR w c wr)) (fun _ i _ _ _ => c.xs.length - (intOf i).toNat)
    case atStart => exact ⟨0, [], by omega, by simp, rfl, Lib.hid (HoldsX.nil _), Lib.hid rfl, Lib.hid ⟨by simp, fun x h => by cases h⟩, K1⟩
    case round =>
      clear K1
      obtain ⟨k, ls, hk, hlk, rfl, HL, HO, HFL, K⟩ := hrel
      obtain ⟨x0, x1, x2, xl, _⟩ := K.out.kb.sp
      obtain ⟨D, d, rfl, hitm, hd1, hd2⟩ := id HL.out
      have HIT := Lib.hid hitm
      clear hitm
      unfold maxLen at hd2
      by_cases hlt : k < c.xs.length
      · have i0 : (k : Int) < (c.xs.length : Int) := by omega
        obtain ⟨b, off, x, hI, hbl, hx1, _, hc0, hc1, hok⟩ := K.out.kb.items.cells (j := k) hlt
        change wr.cell? _ = some (.slice c.I c.xs.length c.ni) at x2
        rw [hI] at x2
        have hxm := HF.out.2.2.2 x (List.mem_of_getElem? hx1)
        have HX1 := Lib.hid hx1
        clear hx1
        go_upto_region 7 with fail
        go_cut [6] (fun v6 wx => ∃ (gy : Nat) (y : ItV), v6 = .pointer (some ⟨gy, 0, none⟩) ∧ Hid (y.it = ordI x.it) ∧ Hid (KCn w c gy y (.slice D ls.length d) ls wx))
        case first =>
          have HSO := Lib.hid fun W (h : MarksAt W x.A x.ms) => refSorted10 x.A x.ms x.c W h (by omega)
          have hS : Below wr.heap.size wr wr := Below.refl _ _
          have hS' := can_sp ⟨x2, hc0, hc1⟩ xl hbl hS
          have HX2 := Lib.hid (show wr.cell? ⟨w.heap.size, 2, none⟩ = some (.slice (some ⟨b, off, none⟩) c.xs.length c.ni) ∧ wr.cell? ⟨b, off + k * 2, none⟩ = some (.string ⟨x.nm.toArray⟩) ∧ wr.cell? ⟨b, off + k * 2 + 1, none⟩ = some (.slice x.A x.ms.length x.c) from ⟨x2, hc0, hc1⟩)
          go_wp2_with fail
          go_region_held3 (fun W => W.cell? ⟨w.heap.size, 2, none⟩ = some (.slice (some ⟨b, off, none⟩) c.xs.length c.ni) ∧ W.cell? ⟨b, off + k * 2, none⟩ = some (.string ⟨x.nm.toArray⟩) ∧ W.cell? ⟨b, off + k * 2 + 1, none⟩ = some (.slice x.A x.ms.length x.c) ∧ w.heap.size < W.heap.size ∧ b < W.heap.size ∧ Below wr.heap.size wr W)
            (first
              | assumption
              | (exact can_sp HX2.out xl hbl (by first | assumption | exact bset (by assumption) (Nat.le_refl _) _ _ | exact Below.drew (by assumption) | exact bal (by assumption) _ | exact bal (Below.drew (by assumption)) _ | exact Below.drew (bal (by assumption) _))))
            (first
              | (go_at_call 52; refine (HSO.out _ (SlAt.below hok.1 (by first | assumption | exact Below.drew (by assumption) | exact bal (by assumption) _ | exact bal (Below.drew (by assumption)) _ | exact Below.drew (bal (by assumption) _)))).mono ?_
                 rintro e wb ⟨⟨v, rfl, ⟨A2, n2, rfl, hv1, hv2, hv3⟩, B2, hv4⟩, hb⟩
                 have hS1 := below_trans (show Below wr.heap.size wr _ from by first | assumption | exact Below.drew (by assumption) | exact bal (by assumption) _ | exact bal (Below.drew (by assumption)) _ | exact Below.drew (bal (by assumption) _)) hb
                 first
                   | (have hbx := box_kept (n := wr.heap.size) hb (heap_alloc_new wr (.cells #[.string ⟨#[]⟩, .slice none 0 0] 56)); obtain ⟨gb, g0, g1, g2, g3, g4⟩ := id hbx)
                   | skip))
          · have hbn : BlkI (wb.alloc (.cells #[.string ⟨x.nm.toArray⟩, .slice A2 (sortM x.ms).length n2] 56)) wb.heap.size ⟨x.nm, A2, n2, sortM x.ms⟩ := BlkI.new wb ⟨x.nm, A2, n2, sortM x.ms⟩
            go_wp2_with fail
            go_meet
            exact ⟨wb.heap.size, ⟨x.nm, A2, n2, sortM x.ms⟩, rfl, rfl, (K.out.next hS1).alloc _, hbn, ItOK.below (x := ⟨x.nm, A2, n2, sortM x.ms⟩) ⟨hv1, hv2, hv3⟩ ((Below.refl _ _).alloc (Nat.le_refl _) _), (HL.out.below hS1).below ((Below.refl _ _).alloc (Nat.le_refl _) _)⟩
          · have hsl : Below wr.heap.size wr ((wb.setCell ⟨wr.heap.size, 0, none⟩ (.string ⟨x.nm.toArray⟩)).setCell ⟨wr.heap.size, 1, none⟩ (.slice A2 (sortM x.ms).length n2)) := bset hS1 (Nat.le_refl _) _ _
            have hbn := box_filled gb ⟨x.nm, A2, n2, sortM x.ms⟩
            have hko : ItOK ((wb.setCell ⟨wr.heap.size, 0, none⟩ (.string ⟨x.nm.toArray⟩)).setCell ⟨wr.heap.size, 1, none⟩ (.slice A2 (sortM x.ms).length n2)) ⟨x.nm, A2, n2, sortM x.ms⟩ := ⟨row_kept hv4 gb _ _, hv2, hv3⟩
            have hkr := K.out.next hsl
            have hkl := HL.out.below hsl
            go_wp2_with fail
            go_meet
            exact ⟨wr.heap.size, ⟨x.nm, A2, n2, sortM x.ms⟩, rfl, rfl, hkr, hbn, hko, hkl⟩
        case rest =>
          clear K HL HIT x0 x1 x2 hc0 hc1 hok
          obtain ⟨gy, y, rfl, HY, KC⟩ := hcut
          have hyn : y.nm = x.nm := congrArg Prod.fst HY.out
          have hym : y.ms = sortM x.ms := congrArg Prod.snd HY.out
          have hyl : y.ms.length ≤ 100 := by rw [hym, sortM_len]; exact hxm.2
          have hynl : y.nm.length ≤ 1000 := by rw [hyn]; exact hxm.1
          obtain ⟨q, hq⟩ : ∃ q, okI y.it = q := ⟨_, rfl⟩
          have HON := Lib.hid fun W h => refOne y q W h hynl (by omega) hq
          have b0 := KC.out.blk.cell0
          have b1 := KC.out.blk.cell1
          have bl := KC.out.blk.lt
          have HYN := Lib.hid hyn
          have HYM := Lib.hid hym
          have HXI := Lib.hid (its_at HX1.out)
          clear hyn hym
          cases q with
          | false =>
            obtain rfl : r = none := HRN.out (ordTo_none HO.out HXI.out (stepI_no (.inl (by rw [← HY.out]; exact hq))))
            clear hq
            go_wp2_with fail
            refine (HON.out _ KC.out.oky).mono ?_
            rintro e w5 ⟨rfl, hb5⟩
            have KP := (KC.out.next hb5).kr
            obtain ⟨s0, s1, s2, f0, f1, f2, hlt5⟩ := KR.cells KP
            clear hb5 b0 b1 bl
            go_wp2_with fail
            refine bodyPost_ret (v := .tuple #[.agg #[.slice none 0 0, .slice none 0 0, .slice none 0 0], .bool false]) (by simp [results, Tryz.results16, go_sem, s0, s1, s2]) rfl ⟨rfl, ?_⟩
            exact KP.stored _ _ _
          | true =>
            have HOK := Lib.hid hq
            clear hq
            go_wp2_with fail
            refine (HON.out _ KC.out.oky).mono ?_
            rintro e w5 ⟨rfl, hb5⟩
            have K5 := Lib.hid (KC.out.next hb5)
            clear hb5 b0 b1 bl KC HON
            have b0 := K5.out.blk.cell0
            have b1 := K5.out.blk.cell1
            have bl := K5.out.blk.lt
            obtain ⟨z, hz⟩ : ∃ z, findZ (its ls) y.nm = z := ⟨_, rfl⟩
            have hls : ls.length ≤ 100 := HFL.out.1
            have hfz := findZ_any (xs := ls) (nm := y.nm)
            rw [hz] at hfz
            have HFI := Lib.hid (refFind9 D ls d y.nm z w5 K5.out.items (by omega) hz)
            clear hz
            go_wp2_with fail
            refine HFI.out.mono ?_
            rintro e w6 ⟨rfl, rfl⟩
            clear HFI
            rcases hfz with ⟨rfl, hany⟩ | ⟨hz0, hany⟩
            · clear b0 b1 bl
              go_wp2_with fail
              go_loopw [7] (fun i wr => ∃ j : Nat, j ≤ ls.length ∧ i = .int .i64 j ∧ Hid (KCn w c gy y (.slice D ls.length d) ls wr) ∧ Hid (∀ (j' : Nat) (z : It), j' < j → (its ls)[j']? = some z → meetN z.2 y.ms = false)) (fun i _ => ls.length - (intOf i).toNat)
              case atStart => exact ⟨0, by omega, rfl, K5, Lib.hid fun j z h => by omega⟩
              case round =>
                clear K5
                obtain ⟨j, hj, rfl, KJ, HS⟩ := hrel
                by_cases hjl : j < ls.length
                · have j0 : (j : Int) < (ls.length : Int) := by omega
                  have HLJ := Lib.hid KJ.out.items
                  obtain ⟨b2, off2, z, hD, hbl2, hz1, _, hd0, hd1, hok2⟩ := HLJ.out.cells (j := j) hjl
                  subst hD
                  obtain ⟨q, hq⟩ : ∃ q, meetN z.ms y.ms = q := ⟨_, rfl⟩
                  have HM := Lib.hid fun p => refMeet z y (far wr p) (hok2.below (below_far wr p)) (KJ.out.far p).oky
                  simp only [hq] at HM
                  have HZ := Lib.hid (its_at hz1)
                  have l0 := fun p => cell_far (p := p) KJ.out.blk.lt KJ.out.blk.cell0
                  have l1 := fun p => cell_far (p := p) KJ.out.blk.lt KJ.out.blk.cell1
                  have m0 := fun p => cell_far (p := p) hbl2 hd0
                  have m1 := fun p => cell_far (p := p) hbl2 hd1
                  clear hd0 hd1 hok2 hz1
                  cases q with
                  | true =>
                    obtain rfl : r = none := HRN.out (ordTo_none HO.out HXI.out (stepI_no (.inr (.inr (any_true HZ.out (show meetN z.ms (sortM x.ms) = true from by rw [← HYM.out]; exact hq))))))
                    clear hq
                    go_wp2_with fail
                    refine wp_region_far (by kernel_rfl) (by kernel_rfl) ?_
                    repeat (go_big_quiet_step ((go_at_call 55; exact OneB.far (HM.out _))))
                    refine wpQuiet_nil ?_
                    rintro _ ⟨p, rfl⟩
                    have KP := (KJ.out.far p).kr
                    obtain ⟨s0, s1, s2, f0, f1, f2, hlt5⟩ := KR.cells KP
                    go_wp2_with fail
                    refine bodyPost_ret (v := .tuple #[.agg #[.slice none 0 0, .slice none 0 0, .slice none 0 0], .bool false]) (by simp [results, Tryz.results16, go_sem, s0, s1, s2]) rfl ⟨rfl, ?_⟩
                    exact KP.stored _ _ _
                  | false =>
                    have HR := Lib.hid (step_none (p := fun z : It => meetN z.2 y.ms) HS.out HZ.out hq)
                    clear hq
                    go_wp2_with fail
                    refine wp_region_far (by kernel_rfl) (by kernel_rfl) ?_
                    repeat (go_big_quiet_step ((go_at_call 55; exact OneB.far (HM.out _))))
                    refine wpQuiet_nil ?_
                    rintro _ ⟨p, rfl⟩
                    go_wp2_with fail
                    go_roundw
                    case rel => exact ⟨j + 1, by omega, by go_num, KJ.out.far p, HR⟩
                    case measure => simp [intOf]; omega
                · obtain rfl : j = ls.length := by omega
                  have j0 : ¬ (ls.length : Int) < (ls.length : Int) := by omega
                  have HST := Lib.hid (show stepI (some (its ls)) x.it = some (its (insX ls y)) from by
                    rw [its_insX, HY.out]
                    refine stepI_some (by rw [← HY.out]; exact HOK.out) (by rw [← hany, HYN.out]; rfl) (any_false fun j' z hj' hz => ?_)
                    have := HS.out j' z (by rw [its_len] at hj'; exact hj') hz
                    rw [HYM.out] at this
                    exact this)
                  have HFI := Lib.hid (show Fits (insX ls y) from by
                    refine ⟨?_, fun a ha => ?_⟩
                    · have := insX_len ls y
                      omega
                    · rcases insX_mem ha with h | rfl
                      · exact HFL.out.2 a h
                      · exact ⟨hynl, hyl⟩)
                  have HFLN := Lib.hid (show (insX ls y).length ≤ k + 1 from by have := insX_len ls y; omega)
                  clear hjl hany HS
                  have b0 := KJ.out.blk.cell0
                  have b1 := KJ.out.blk.cell1
                  have bl := KJ.out.blk.lt
                  go_wp2_with fail
                  refine (refWith9 D ls d y _ KJ.out.items KJ.out.oky HFL.out hynl hd1 (by unfold maxLen; exact hd2)).mono ?_
                  rintro e w8 ⟨⟨v, rfl, hv⟩, hb8⟩
                  have KN := Lib.hid (KJ.out.kr.next hb8)
                  have HV := Lib.hid hv
                  clear hb8 KJ b0 b1 bl
                  obtain ⟨D8, d8, rfl, _⟩ := hv
                  go_wp2_with fail
                  go_roundw
                  case rel => exact ⟨k + 1, insX ls y, by omega, HFLN.out, by go_num, HV, Lib.hid ((ordTo_step HO.out HXI.out).trans HST.out), HFI, KN⟩
                  case measure => simp [intOf]; omega
            · obtain rfl : r = none := HRN.out (ordTo_none HO.out HXI.out (stepI_no (.inr (.inl (by rw [← hany, HYN.out]; rfl)))))
              have KP := K5.out.kr
              obtain ⟨s0, s1, s2, f0, f1, f2, hlt5⟩ := KR.cells KP
              clear b0 b1 bl hany
              go_wp2_with fail
              refine bodyPost_ret (v := .tuple #[.agg #[.slice none 0 0, .slice none 0 0, .slice none 0 0], .bool false]) (by simp [results, Tryz.results16, go_sem, s0, s1, s2]) rfl ⟨rfl, ?_⟩
              exact KP.stored _ _ _
      · obtain rfl : k = c.xs.length := by omega
        have i0 : ¬ (c.xs.length : Int) < (c.xs.length : Int) := by omega
        have HCA := Lib.hid (show canonI (its c.xs) = some (its ls) from by rw [← ordTo_all, its_len]; exact HO.out)
        obtain ⟨us, rs, hz⟩ : ∃ us rs, addC c.vs c.ls (dotsI (its ls)) = (us, rs) := ⟨_, _, rfl⟩
        have HRZ := Lib.hid (show r = some ((us, rs), its ls) from by rw [HRS.out _ HCA.out, hz])
        have HZ := Lib.hid hz
        have HDV := Lib.hid (dots_valid (canonI_some HCA.out).good)
        have HDN := Lib.hid (HDL.out _ HCA.out)
        clear HRN HRS HO hlt hz
        go_wp2_with fail
        clear x0 x1 x2 xl
        have hS := K.out.kb
        have hS' := KB1.sp hS
        go_region_held3 (fun W => W.cell? ⟨w.heap.size, 0, none⟩ = some c.v ∧ W.cell? ⟨w.heap.size, 1, none⟩ = some c.l ∧ W.cell? ⟨w.heap.size, 2, none⟩ = some c.i ∧ w.heap.size < W.heap.size ∧ KB1 w c W)
          (first
            | assumption
            | (exact KB1.sp (by assumption))
            | (exact KB1.sp (KB1.drew (by assumption)))
            | (exact KB1.sp (KB1.set3 (by assumption) _ _ _)))
          (first
            | (go_at_call 43; refine (refDots9 D ls d _ (by first | exact HIT.out | exact HIT.out.below (Below.refl _ _).drew) HFL.out).mono ?_
               rintro e wa ⟨⟨v, rfl, hv⟩, hba⟩
               have hS1 := KB1.next (by first | exact hS | exact hS.drew) hba
               have KA := Lib.hid (KR.next (by first | exact K.out | exact K.out.drew) hba)
               have HIA := Lib.hid (HL.out.below (below_trans (show Below wr.heap.size wr _ from by first | exact Below.refl _ _ | exact (Below.refl _ _).drew) hba)))
            | (go_at_call 57; refine (ref3Add (.agg #[c.v, c.l]) v c.vs c.ls (dotsI (its ls)) us rs _ (by first | exact hS1.ok.ctx | exact hS1.drew.ok.ctx) (by first | exact hv | exact hv.drew) HP.out HDV.out (by have := HDN.out; omega) HZ.out).mono ?_
               rintro e wb ⟨⟨v', rfl, A1, n1, B1, m1, rfl, hc1, hc2⟩, hbb⟩
               have hS2 := KB1.next (by first | exact hS1 | exact hS1.drew) hbb
               have KB := KR.next (by first | exact KA.out | exact KA.out.drew) hbb
               have HIB := Lib.hid (HIA.out.below (below_trans (show Below wa.heap.size wa _ from by first | exact Below.refl _ _ | exact (Below.refl _ _).drew) hbb))
               obtain ⟨s0, s1, s2, f0, f1, f2, hlt5⟩ := KR.cells KB))
        have hok : CaOK wb ⟨A1, n1, us, B1, m1, rs, D, d, ls⟩ := ⟨hc1, hc2, HIB.out⟩
        have hok' := CaOK.off_box (W' := ((wb.setCell ⟨w.heap.size + 1, 0, none⟩ (.slice A1 us.length n1)).setCell ⟨w.heap.size + 1, 1, none⟩ (.slice B1 rs.length m1)).setCell ⟨w.heap.size + 1, 2, none⟩ (.slice D ls.length d)) hok KB.res (by simp) (fun b hb => set3_other wb _ b _ _ _ hb)
        have hst := KB.stored (.slice A1 us.length n1) (.slice B1 rs.length m1) (.slice D ls.length d)
        clear hok hS hS' hS1 hS2 hv hc1 hc2 hba hbb
        go_wp2_with fail
        refine bodyPost_ret (v := .tuple #[mkC ⟨A1, n1, us, B1, m1, rs, D, d, ls⟩, .bool true]) (by simp [results, Tryz.results16, go_sem, s0, s1, s2]) rfl ⟨?_, hst⟩
        have h := HRZ.out
        subst h
        exact ⟨⟨A1, n1, us, B1, m1, rs, D, d, ls⟩, rfl, rfl, hok'⟩

end

end Go.Proofs.YtfmhhmceoikgpaaGreat
