/- The law ItemsHolds. -/
import Derived.Test.YtfbkhgajlklleaaGreatItmY2
namespace Go.Proofs.YtfbkhgajlklleaaGreat
open Go.RowKit

theorem validL_one (x : It) : validL [x] = okI x := by
  rw [Bool.eq_iff_iff, validL_good]
  exact ⟨fun h => h.1 x (by simp), fun h => ⟨by simpa using h, List.pairwise_singleton _ _, List.pairwise_singleton _ _⟩⟩
theorem find_good {l : List It} (h : Good l) {x : It} (hx : x ∈ l) : findV l x.1 = (x, 0) := by
  rcases findIdx_cases l x.1 with ⟨k, y, h1, h2, _, h4⟩ | ⟨h1, _⟩
  · have e : y = x := h.2.1.name (List.mem_of_getElem? h1) hx (by simpa using h2)
    rw [h4, e]
  · exact absurd rfl (h1 x hx)
theorem find_gone (l : List It) (nm : List UInt8) : findV (remN l nm) nm = (([], []), 9) := by
  rcases findIdx_cases (remN l nm) nm with ⟨k, y, h1, h2, _⟩ | ⟨_, _, h⟩
  · exact absurd (by simpa using h2) (mem_remN.1 (List.mem_of_getElem? h1)).2
  · exact h
theorem hasD_meet {a b : List Mk} {r c : Int} (h1 : hasD a r c = true) (h2 : hasD b r c = true) : meetN a b = true := by
  simp only [hasD, List.any_eq_true, decide_eq_true_eq] at h1
  obtain ⟨m, hm, e1, e2⟩ := h1
  simp only [meetN, List.any_eq_true]
  exact ⟨m, hm, by rw [e1, e2]; exact h2⟩
theorem owner_other {l : List It} (h : Good l) {y : It} (hy : y ∈ l) {r c : Int} (hd : hasD y.2 r c = true) : ownerL l r c = some y.1 := by
  unfold ownerL
  cases hf : l.find? (fun x => hasD x.2 r c) with
  | none =>
    rw [List.find?_eq_none] at hf
    exact absurd hd (hf y hy)
  | some z =>
    have hz := List.mem_of_find?_eq_some hf
    have hzd := List.find?_some hf
    have e : z.1 = y.1 := by
      rcases Decidable.em (z.1 = y.1) with e | e
      · exact e
      · have := h.apart hz hy e
        rw [hasD_meet (by simpa using hzd) hd] at this; cases this
    simp [e]
/-- A mark whose dot is that of an item with another name. -/
def metB (l : List It) (nm : List UInt8) (m : Mk) : Bool := match ownerL l m.r m.c with
  | some s => s != nm
  | none => false
theorem met_of {l : List It} {x : It} (h : Good l) (hm : ((remN l x.1).any fun y => meetN y.2 x.2) = true) : x.2.any (metB l x.1) = true := by
  rw [List.any_eq_true] at hm
  obtain ⟨y, hy, hmt⟩ := hm
  rw [meetN_comm] at hmt
  simp only [meetN, List.any_eq_true] at hmt
  obtain ⟨m, hmm, hd⟩ := hmt
  rw [mem_remN] at hy
  rw [List.any_eq_true]
  refine ⟨m, hmm, ?_⟩
  unfold metB
  rw [owner_other h hy.1 hd]
  simp [hy.2]
theorem put_back {l : List It} {y : It} (h : Good l) (hy : y ∈ l) : putN (remN l y.1) y = (l, 0) := by
  have hg := h.rem y.1
  have hm : ((remN l y.1).any fun z => meetN z.2 y.2) = false := by
    rw [List.any_eq_false]
    intro z hz
    rw [Bool.not_eq_true]
    exact h.apart (mem_remN.1 hz).1 hy (mem_remN.1 hz).2
  unfold putN
  rw [if_pos ⟨validL_good.2 hg, h.1 y hy⟩, rem_same (rem_names l y.1), if_neg (by rw [hm]; simp), ins_rem h.2.1 hy]
theorem any_take {p : Mk → Bool} {ms : List Mk} {k : Nat} {m : Mk} (h : ms[k]? = some m) : (ms.take (k + 1)).any p = ((ms.take k).any p || p m) := by
  rw [take_step h, List.any_append]; simp
theorem marks_at {W : World} {x : ItV} {b off : Nat} (h : ItOK W x) (hA : x.A = some ⟨b, off, none⟩) {j : Nat} (hj : j < x.ms.length) :
    ∃ m : Mk, x.ms[j]? = some m ∧ b < W.heap.size ∧ W.cell? ⟨b, off + j * 4, none⟩ = some (.int .i64 m.r) ∧ W.cell? ⟨b, off + j * 4 + 1, none⟩ = some (.int .i64 m.c) ∧ W.cell? ⟨b, off + j * 4 + 2, none⟩ = some (.int .i64 m.q) ∧ W.cell? ⟨b, off + j * 4 + 3, none⟩ = some (.int .u64 (m.t : Int)) := by
  obtain ⟨b', off', m, hA', hb, hm, _, h0, h1, h2, h3⟩ := h.1.mark (j := j) hj
  rw [hA] at hA'
  cases hA'
  exact ⟨m, hm, hb, h0, h1, h2, h3⟩
/-- What Put returns of items that are right. -/
theorem put_two {l : List It} {x : It} (hg : Good l) (hk : okI x = true) : (putN l x = ([], 11) ∧ x.2.any (metB l x.1) = true) ∨ (∃ k, putN l x = (k, 0) ∧ Good k ∧ x ∈ k ∧ remN k x.1 = remN l x.1) := by
  have hv := validL_good.2 hg
  by_cases hm : ((remN l x.1).any fun y => meetN y.2 x.2) = true
  · exact .inl ⟨by unfold putN; rw [if_pos ⟨hv, hk⟩, if_pos hm], met_of hg hm⟩
  · refine .inr ⟨insN (remN l x.1) x, by unfold putN; rw [if_pos ⟨hv, hk⟩, if_neg hm], (hg.rem x.1).ins hk (rem_names l x.1) (by simpa using hm), mem_insN.2 (.inr rfl), rem_ins (rem_names l x.1)⟩

set_option maxRecDepth 100000 in
set_option maxHeartbeats 8000000 in
theorem lawHolds9 (v : Value) (xs : List ItV) (x : ItV) (w : World) (h : HoldsX w v xs) (ho : ItOK w x) : Calls Tryz.prog 8 #[v, mkIt x] w (TrueB w) := by
  have K0 := Lib.hid (KZ.new w x ho)
  have HA := Lib.hid h
  clear h ho
  obtain ⟨b1, hb1⟩ : ∃ b, lightX xs = b := ⟨_, rfl⟩
  obtain ⟨b2, hb2⟩ : ∃ b, lightX [x] = b := ⟨_, rfl⟩
  have L1 := Lib.hid fun W h => lawLight v xs b1 W h hb1
  have L2 := Lib.hid fun W u h => lawLight u [x] b2 W h hb2
  go_enter Tryz.func8, Tryz.ntmps8
  go_wp2_with fail
  obtain ⟨g, hg⟩ : ∃ g, w.heap.size = g := ⟨_, rfl⟩
  rw [hg] at K0
  try rw [hg]
  clear hg
  generalize World.alloc w _ = w0 at K0 ⊢
  obtain ⟨x0, x1, xl⟩ := K0.out.sp1
  refine (L1.out _ (HA.out.below K0.out.bel)).mono ?_
  rintro e wq ⟨rfl, rfl⟩
  cases b1 with
  | false =>
    go_wp2_with fail
    refine (known9 _).mono ?_
    rintro e wz ⟨rfl, hb⟩
    have KZZ := Lib.hid (below_trans K0.out.bel hb)
    clear hb K0 x0 x1 xl
    go_wp2_with fail
    go_ret
    exact ⟨rfl, KZZ.out⟩
  | true =>
    go_wp2_with fail
    have K1 := Lib.hid (K0.out.alloc (.cells #[.string ⟨x.nm.toArray⟩, .slice x.A x.ms.length x.c] 34))
    have HL := Lib.hid (holdsA w0 w0.heap.size x rfl (K0.out.ok (g := g) (by simp)))
    obtain ⟨g1, hg⟩ : ∃ g, w0.heap.size = g := ⟨_, rfl⟩
    rw [hg] at HL ⊢
    clear K0 hg x0 x1 xl
    generalize World.alloc w0 _ = w1 at K1 HL ⊢
    obtain ⟨x0, x1, xl⟩ := K1.out.sp1
    refine (lawOf9 _ _).mono ?_
    rintro e wq ⟨rfl, rfl⟩
    go_wp2_with fail
    refine (L2.out _ _ HL.out).mono ?_
    rintro e wq ⟨rfl, rfl⟩
    clear HL
    cases b2 with
    | false =>
      go_wp2_with fail
      refine (known9 _).mono ?_
      rintro e wz ⟨rfl, hb⟩
      have KZZ := Lib.hid (below_trans K1.out.bel hb)
      clear hb K1 x0 x1 xl
      go_wp2_with fail
      go_ret
      exact ⟨rfl, KZZ.out⟩
    | true =>
      have F1 := Lib.hid (lightX_fits hb1).1
      have F1b := Lib.hid (lightX_fits hb1).2.1
      have F2 := Lib.hid (lightX_fits hb2).1
      have FX := Lib.hid (F2.out.2 x (by simp))
      obtain ⟨p, hp⟩ : ∃ b, validL (its xs) = b := ⟨_, rfl⟩
      obtain ⟨q, hq⟩ : ∃ b, validL (its [x]) = b := ⟨_, rfl⟩
      have HP := Lib.hid hp
      have HQ := Lib.hid hq
      clear hp hq hb1 hb2 L1 L2
      go_wp2_with fail
      refine (itValid_h v xs p w1 (HA.out.below K1.out.bel) F1.out HP.out).mono ?_
      rintro e w2 ⟨rfl, hb⟩
      have K2 := Lib.hid (K1.out.next hb)
      clear hb K1 x0 x1 xl
      obtain ⟨x0, x1, xl⟩ := K2.out.sp1
      cases p with
      | false =>
        go_wp2_with fail
        refine (known9 _).mono ?_
        rintro e wz ⟨rfl, hb⟩
        have KZZ := Lib.hid (below_trans K2.out.bel hb)
        clear hb K2 x0 x1 xl
        go_wp2_with fail
        go_ret
        exact ⟨rfl, KZZ.out⟩
      | true =>
        go_wp2_with fail
        have K3 := Lib.hid (K2.out.alloc (.cells #[.string ⟨x.nm.toArray⟩, .slice x.A x.ms.length x.c] 34))
        have HL := Lib.hid (holdsA w2 w2.heap.size x rfl (K2.out.ok (g := g) (by simp)))
        obtain ⟨g3, hg⟩ : ∃ g, w2.heap.size = g := ⟨_, rfl⟩
        rw [hg] at HL ⊢
        clear K2 hg x0 x1 xl
        generalize World.alloc w2 _ = w3 at K3 HL ⊢
        obtain ⟨x0, x1, xl⟩ := K3.out.sp1
        refine (lawOf9 _ _).mono ?_
        rintro e wq ⟨rfl, rfl⟩
        go_wp2_with fail
        refine (itValid_h _ [x] q w3 HL.out F2.out HQ.out).mono ?_
        rintro e w4 ⟨rfl, hb⟩
        have K4 := Lib.hid (K3.out.next hb)
        clear hb K3 x0 x1 xl HL
        obtain ⟨x0, x1, xl⟩ := K4.out.sp1
        cases q with
        | false =>
          go_wp2_with fail
          refine (known9 _).mono ?_
          rintro e wz ⟨rfl, hb⟩
          have KZZ := Lib.hid (below_trans K4.out.bel hb)
          clear hb K4 x0 x1 xl
          go_wp2_with fail
          go_ret
          exact ⟨rfl, KZZ.out⟩
        | true =>
          have HG := Lib.hid (validL_good.1 HP.out)
          have HK := Lib.hid (show okI x.it = true from by rw [← validL_one]; exact HQ.out)
          clear HP HQ
          go_wp2_with fail
          refine (itFind_h v xs x.nm w4 (HA.out.below K4.out.bel) F1.out).mono ?_
          rintro e w5 ⟨⟨y, n0, rfl, hy, hoy⟩, hb⟩
          have K5 := Lib.hid (K4.out.next hb)
          have HY := Lib.hid hy
          have HOY := Lib.hid hoy
          clear hb K4 x0 x1 xl hy hoy
          obtain ⟨x0, x1, xl⟩ := K5.out.sp1
          have K6 := Lib.hid (show KZ w [(g, x), (w5.heap.size, y)] (w5.alloc (.cells #[.string ⟨y.nm.toArray⟩, .slice y.A y.ms.length y.c] 34)) from KZ.push (L := [(g, x)]) K5.out y HOY.out w5.heap.size rfl)
          clear K5 HOY
          go_wp2_with fail
          obtain ⟨gy, hgy⟩ : ∃ g, w5.heap.size = g := ⟨_, rfl⟩
          rw [hgy] at K6
          try rw [hgy]
          clear hgy x0 x1 xl
          generalize World.alloc w5 _ = w6 at K6 ⊢
          obtain ⟨x0, x1, y0, y1, xl, yl, _⟩ := K6.out.sp2
          rcases put_two HG.out HK.out with ⟨hp1, hp2⟩ | ⟨l2, hp1, hp2, hp3, hp4⟩
          · have HPN := Lib.hid hp1
            have HMT := Lib.hid hp2
            clear hp1 hp2 HG
            refine (itPut_h v xs x [] 11 w6 (HA.out.below K6.out.bel) (K6.out.ok (g := g) (by simp)) F1.out FX.out.1 FX.out.2 HPN.out).mono ?_
            rintro e w7 ⟨⟨v3, zs, rfl, hz, ho3⟩, hb⟩
            have K7 := Lib.hid (K6.out.next hb)
            have hz0 : zs = [] := by simpa using hz
            subst hz0
            obtain ⟨A3, c3, rfl, _⟩ := ho3.holds
            clear hb K6 x0 x1 y0 y1 xl yl hz ho3
            obtain ⟨x0, x1, y0, y1, xl, yl, _⟩ := K7.out.sp2
            go_wp2_with fail
            have hpos : 0 < x.ms.length := (okI_parts HK.out).2.1
            obtain ⟨bm, om, hAx, _, _⟩ := (K7.out.ok (g := g) (by simp)).1 hpos
            have HAX := Lib.hid hAx
            rw [hAx]
            have hm100 : x.ms.length ≤ 100 := FX.out.2
            clear hAx hpos x0 x1 y0 y1 xl yl
            go_loopw [9, 11, 12, 13, 56] (fun mt _ _ _ i wr => ∃ (k : Nat) (b : Bool), k ≤ x.ms.length ∧ i = .int .i64 k ∧ mt = .bool b ∧ Hid (b = (x.ms.take k).any (metB (its xs) x.nm)) ∧ Hid (KZ w [(g, x), (gy, y)] wr)) (fun _ _ _ _ i _ => x.ms.length - (intOf i).toNat)
            case atStart => exact ⟨0, false, by omega, rfl, rfl, Lib.hid (by simp), K7⟩
            case round =>
              clear K7
              obtain ⟨k, b, hk, rfl, rfl, hbb, hK⟩ := hrel
              by_cases hlt : k < x.ms.length
              · have i0 : (k : Int) < (x.ms.length : Int) := by omega
                obtain ⟨mk, hmk, hbl, hc0, hc1, hc2, hc3⟩ := marks_at (hK.out.ok (g := g) (by simp)) HAX.out hlt
                have HST := Lib.hid (any_take (p := metB (its xs) x.nm) hmk)
                have KA := Lib.hid (hK.out.alloc (.cells #[.int .i64 mk.r, .int .i64 mk.c, .int .i64 mk.q, .int .u64 (mk.t : Int)] 62))
                have BM := Lib.hid (BlkM.new wr mk)
                clear hmk hK
                go_wp2_with fail
                obtain ⟨gm, hgm⟩ : ∃ g, wr.heap.size = g := ⟨_, rfl⟩
                rw [hgm] at BM
                try rw [hgm]
                clear hgm hc0 hc1 hc2 hc3 hbl
                generalize World.alloc wr _ = wa at KA BM ⊢
                have m0 := BM.out.cell0
                have m1 := BM.out.cell1
                have ml := BM.out.lt
                obtain ⟨x0, x1, y0, y1, xl, yl, _⟩ := KA.out.sp2
                obtain ⟨o, hoo⟩ : ∃ o, ownerL (its xs) mk.r mk.c = o := ⟨_, rfl⟩
                have HOO := Lib.hid hoo
                clear hoo
                have KB0 := KA
                cases o with
                | none =>
                  have HP0 := Lib.hid (show metB (its xs) x.nm mk = false from by unfold metB; rw [HOO.out])
                  try go_wp2_with fail
                  refine (itOwner_h v xs mk.r mk.c [] 9 wa (HA.out.below KA.out.bel) F1.out (by unfold ownV; rw [HOO.out])).mono ?_
                  rintro e wb ⟨rfl, hb⟩
                  have KB := Lib.hid (KA.out.next hb)
                  have HBB := Lib.hid (show b = (x.ms.take (k + 1)).any (metB (its xs) x.nm) from by rw [HST.out, HP0.out, ← hbb.out]; simp)
                  clear hb KA KB0 x0 x1 y0 y1 xl yl m0 m1 ml hbb
                  obtain ⟨x0, x1, y0, y1, xl, yl, _⟩ := KB.out.sp2
                  cases b with
                  | true =>
                    go_wp2_with fail
                    go_roundw
                    case rel => exact ⟨k + 1, true, by omega, by go_num, rfl, HBB, KB⟩
                    case measure => simp [intOf]; omega
                  | false =>
                    go_wp2_with fail
                    go_roundw
                    case rel => exact ⟨k + 1, false, by omega, by go_num, rfl, HBB, KB⟩
                    case measure => simp [intOf]; omega
                | some s =>
                  have HP0 := Lib.hid (show metB (its xs) x.nm mk = (s != x.nm) from by unfold metB; rw [HOO.out])
                  try go_wp2_with fail
                  refine (itOwner_h v xs mk.r mk.c s 0 wa (HA.out.below KA.out.bel) F1.out (by unfold ownV; rw [HOO.out])).mono ?_
                  rintro e wb ⟨rfl, hb⟩
                  have KB := Lib.hid (KA.out.next hb)
                  have HBB := Lib.hid (show (b || (s != x.nm)) = (x.ms.take (k + 1)).any (metB (its xs) x.nm) from by rw [HST.out, HP0.out, ← hbb.out])
                  clear hb KA KB0 x0 x1 y0 y1 xl yl m0 m1 ml hbb
                  obtain ⟨x0, x1, y0, y1, xl, yl, _⟩ := KB.out.sp2
                  cases b with
                  | true =>
                    go_wp2_with fail
                    go_roundw
                    case rel => exact ⟨k + 1, true, by omega, by go_num, rfl, by simpa using HBB, KB⟩
                    case measure => simp [intOf]; omega
                  | false =>
                    cases hs : (s == x.nm) with
                    | true =>
                      have hs2 : (s != x.nm) = false := by unfold bne; rw [hs]; rfl
                      have HBC := Lib.hid (show false = (x.ms.take (k + 1)).any (metB (its xs) x.nm) from by rw [← HBB.out, hs2]; rfl)
                      clear HBB
                      go_wp2_with fail
                      go_roundw
                      case rel => exact ⟨k + 1, false, by omega, by go_num, rfl, HBC, KB⟩
                      case measure => simp [intOf]; omega
                    | false =>
                      have hs2 : (s != x.nm) = true := by unfold bne; rw [hs]; rfl
                      have HBC := Lib.hid (show true = (x.ms.take (k + 1)).any (metB (its xs) x.nm) from by rw [← HBB.out, hs2]; rfl)
                      clear HBB
                      go_wp2_with fail
                      go_roundw
                      case rel => exact ⟨k + 1, true, by omega, by go_num, rfl, HBC, KB⟩
                      case measure => simp [intOf]; omega
              · have i0 : ¬ (k : Int) < (x.ms.length : Int) := by omega
                obtain rfl : k = x.ms.length := by omega
                obtain rfl : b = true := by rw [hbb.out, List.take_length]; exact HMT.out
                clear hlt hbb
                go_wp2_with fail
                refine (known9 _).mono ?_
                rintro e wz ⟨rfl, hbz⟩
                have KZZ := Lib.hid (below_trans hK.out.bel hbz)
                clear hbz hK
                go_wp2_with fail
                go_ret
                exact ⟨rfl, KZZ.out⟩
          · have HPN := Lib.hid hp1
            have HG2 := Lib.hid hp2
            have HXM := Lib.hid hp3
            have HRM := Lib.hid hp4
            clear hp1 hp2 hp3 hp4
            refine (itPut_h v xs x l2 0 w6 (HA.out.below K6.out.bel) (K6.out.ok (g := g) (by simp)) F1.out FX.out.1 FX.out.2 HPN.out).mono ?_
            rintro e w7 ⟨⟨v3, zs, rfl, hz, ho3⟩, hb⟩
            have K7 := Lib.hid (K6.out.next hb)
            have HZ := Lib.hid hz
            have H3 := Lib.hid ho3.holds
            have FZ := Lib.hid (putN_fits F1.out F1b.out FX.out.1 FX.out.2 HPN.out hz)
            clear hb K6 x0 x1 y0 y1 xl yl hz ho3
            obtain ⟨x0, x1, y0, y1, xl, yl, _⟩ := K7.out.sp2
            go_wp2_with fail
            refine (itValid_h v3 zs true w7 H3.out FZ.out (by rw [HZ.out]; exact validL_good.2 HG2.out)).mono ?_
            rintro e w8 ⟨rfl, hb⟩
            have K8 := Lib.hid (K7.out.next hb)
            have H4 := Lib.hid (H3.out.below hb)
            clear hb K7 x0 x1 y0 y1 xl yl H3
            obtain ⟨x0, x1, y0, y1, xl, yl, _⟩ := K8.out.sp2
            go_wp2_with fail
            refine (lawFinds v3 zs x.nm x 0 w8 H4.out (K8.out.ok (g := g) (by simp)) FZ.out (by rw [HZ.out]; exact find_good (x := x.it) HG2.out HXM.out)).mono ?_
            rintro e w9 ⟨rfl, hb⟩
            have K9 := Lib.hid (K8.out.next hb)
            have H5 := Lib.hid (H4.out.below hb)
            clear hb K8 x0 x1 y0 y1 xl yl H4
            obtain ⟨x0, x1, y0, y1, xl, yl, _⟩ := K9.out.sp2
            go_wp2_with fail
            refine (itRemove_h v3 zs x.nm (remN (its xs) x.nm) 0 w9 H5.out FZ.out (by rw [HZ.out, ← (show remN l2 x.nm = remN (its xs) x.nm from HRM.out)]; exact delN_some (x := x.it) (validL_good.2 HG2.out) HXM.out (by simp [ItV.it]))).mono ?_
            rintro e w10 ⟨⟨v4, us, rfl, hu, ho4⟩, hb⟩
            have K10 := Lib.hid (K9.out.next hb)
            have HU := Lib.hid hu
            have H6 := Lib.hid ho4.holds
            have FU := Lib.hid (show Fits us from Fits.of_its (xs := remX xs x.nm) (by rw [hu, its_remX]) (F1.out.rem x.nm))
            clear hb K9 x0 x1 y0 y1 xl yl hu ho4 H5
            obtain ⟨x0, x1, y0, y1, xl, yl, _⟩ := K10.out.sp2
            go_wp2_with fail
            refine (itValid_h v4 us true w10 H6.out FU.out (by rw [HU.out]; exact validL_good.2 (HG.out.rem x.nm))).mono ?_
            rintro e w11 ⟨rfl, hb⟩
            have K11 := Lib.hid (K10.out.next hb)
            have H7 := Lib.hid (H6.out.below hb)
            clear hb K10 x0 x1 y0 y1 xl yl H6
            obtain ⟨x0, x1, y0, y1, xl, yl, _⟩ := K11.out.sp2
            go_wp2_with fail
            refine (lawFinds v4 us x.nm ItV.zero 9 w11 H7.out ⟨SlAt.nil, by simp [ItV.zero], by simp [ItV.zero, maxLen]⟩ FU.out (by rw [HU.out]; exact find_gone _ _)).mono ?_
            rintro e w12 ⟨rfl, hb⟩
            have K12 := Lib.hid (K11.out.next hb)
            have H8 := Lib.hid (H7.out.below hb)
            clear hb K11 x0 x1 y0 y1 xl yl H7
            obtain ⟨x0, x1, y0, y1, xl, yl, _⟩ := K12.out.sp2
            rcases find_cases xs x.nm with ⟨k, z, hk1, hk2, hk3, hk4⟩ | ⟨hk2, hk3, hk4⟩
            · have e0 : n0 = 0 := by have := HY.out; rw [hk4] at this; exact (congrArg Prod.snd this).symm
              have ey : y.it = z.it := by have := HY.out; rw [hk4] at this; exact (congrArg Prod.fst this).symm
              have hzm := List.mem_of_getElem? hk1
              have e1 : y.nm = z.nm := congrArg Prod.fst ey
              have e2 : y.ms = z.ms := congrArg Prod.snd ey
              have e3 : z.nm = x.nm := by simpa using hk2
              have FYY := Lib.hid (show y.nm.length ≤ 1000 ∧ y.ms.length ≤ 100 from by rw [e1, e2]; exact F1.out.2 z hzm)
              have HPB := Lib.hid (show putN (its us) y.it = (its xs, 0) from by
                rw [HU.out, ey, ← e3]
                exact put_back (y := z.it) HG.out (List.mem_map.2 ⟨z, hzm, rfl⟩))
              subst e0
              clear hk1 hk2 hk3 hk4 ey hzm e1 e2 e3 HY
              go_wp2_with fail
              refine (lawPuts v4 v us xs y 0 w12 H8.out (HA.out.below K12.out.bel) (K12.out.ok (g := gy) (by simp)) FU.out FYY.out.1 FYY.out.2 (Nat.le_trans F1.out.1 (by decide)) HPB.out).mono ?_
              rintro e w13 ⟨rfl, hb⟩
              have K13 := Lib.hid (K12.out.next hb)
              clear hb K12 x0 x1 y0 y1 xl yl
              obtain ⟨x0, x1, y0, y1, xl, yl, _⟩ := K13.out.sp2
              go_wp2_with fail
              refine (known9 _).mono ?_
              rintro e wz ⟨rfl, hb⟩
              have KZZ := Lib.hid (below_trans K13.out.bel hb)
              clear hb K13 x0 x1 y0 y1 xl yl
              go_wp2_with fail
              go_ret
              exact ⟨rfl, KZZ.out⟩
            · have e0 : n0 = 9 := by have := HY.out; rw [hk4] at this; exact (congrArg Prod.snd this).symm
              have HRS := Lib.hid (show its us = its xs from by rw [HU.out]; exact rem_same hk2)
              subst e0
              clear hk2 hk3 hk4 HY
              go_wp2_with fail
              refine (refEqual_h v4 v us xs true w12 H8.out (HA.out.below K12.out.bel) FU.out.le F1.out.le (decide_eq_true HRS.out)).mono ?_
              rintro e w13 ⟨rfl, hb⟩
              have K13 := Lib.hid (K12.out.next hb)
              clear hb K12 x0 x1 y0 y1 xl yl
              obtain ⟨x0, x1, y0, y1, xl, yl, _⟩ := K13.out.sp2
              go_wp2_with fail
              refine (known9 _).mono ?_
              rintro e wz ⟨rfl, hb⟩
              have KZZ := Lib.hid (below_trans K13.out.bel hb)
              clear hb K13 x0 x1 y0 y1 xl yl
              go_wp2_with fail
              go_ret
              exact ⟨rfl, KZZ.out⟩

end Go.Proofs.YtfbkhgajlklleaaGreat
