/- The law ItemsPuts. -/
import Derived.Test.YtfbkhgajlklleaaGreatItmY1
namespace Go.Proofs.YtfbkhgajlklleaaGreat
open Go.RowKit

theorem KZ.sp1 {w W : World} {g : Nat} {x : ItV} (h : KZ w [(g, x)] W) : W.cell? ⟨g, 0, none⟩ = some (.string ⟨x.nm.toArray⟩) ∧ W.cell? ⟨g, 1, none⟩ = some (.slice x.A x.ms.length x.c) ∧ g < W.heap.size := ⟨h.c0 (by simp), h.c1 (by simp), h.lt (x := x) (by simp)⟩
theorem KZ.new (w : World) (x : ItV) (ho : ItOK w x) : KZ w [(w.heap.size, x)] (w.alloc (.cells #[.string ⟨x.nm.toArray⟩, .slice x.A x.ms.length x.c] 34)) :=
  KZ.push (L := []) ⟨fun p hp => (by cases hp), Below.refl _ _⟩ x ho w.heap.size rfl
theorem putN_bad {l : List It} {x : It} (h : validL l = false ∨ okI x = false) : putN l x = ([], 2) := by
  unfold putN
  rw [if_neg]
  rintro ⟨h1, h2⟩
  rcases h with h | h
  · rw [h] at h1; cases h1
  · rw [h] at h2; cases h2
theorem putN_X {xs : List ItV} {x : ItV} (hv : validL (its xs) = true) (hk : okI x.it = true) : putN (its xs) x.it = match putX xs x with
    | none => ([], 11)
    | some ys => (its ys, 0) := by
  have e : ((remN (its xs) x.it.1).any fun y => meetN y.2 x.it.2) = ((remX xs x.nm).any fun y => meetN y.ms x.ms) := by
    rw [show x.it.1 = x.nm from rfl, ← its_remX, List.any_map]; rfl
  unfold putN putX
  rw [if_pos ⟨hv, hk⟩, e]
  split
  · rfl
  · show _ = (its (insX (remX xs x.nm) x), 0)
    rw [its_insX, its_remX]; rfl
theorem refPut_h (v : Value) (xs : List ItV) (x : ItV) (l : List It) (n : Nat) (w : World) (h : HoldsX w v xs) (ho : ItOK w x) (hf : Fits xs) (hn : x.nm.length ≤ 1000) (hv : validL (its xs) = true) (hk : okI x.it = true) (hp : putN (its xs) x.it = (l, n)) :
    Calls Tryz.prog 29 #[v, mkIt x] w fun e w' => (∃ u ws, e = .returned (.tuple #[u, .int .i64 (n : Int)]) ∧ HoldsX w' u ws ∧ its ws = l) ∧ Below w.heap.size w w' := by
  obtain ⟨A, c, rfl, h1, _⟩ := h
  refine (refPut9 A xs c x w h1 ho hf hn).mono ?_
  rintro e w' ⟨hr, hb⟩
  refine ⟨?_, hb⟩
  rw [putN_X hv hk] at hp
  cases hx : putX xs x with
  | none =>
    rw [hx] at hr hp
    have e1 : ([] : List It) = l := congrArg Prod.fst hp
    have e2 : 11 = n := congrArg Prod.snd hp
    subst e1 e2
    exact ⟨_, [], hr, HoldsX.nil _, rfl⟩
  | some ws =>
    rw [hx] at hr hp
    have e1 : its ws = l := congrArg Prod.fst hp
    have e2 : 0 = n := congrArg Prod.snd hp
    subst e2
    obtain ⟨u, h3, h4⟩ := hr
    exact ⟨u, ws, h3, h4, e1⟩
theorem putN_mem {l : List It} {x y : It} (h : y ∈ (putN l x).1) : y ∈ l ∨ y = x := by
  unfold putN at h
  split at h
  · split at h
    · simp at h
    · rcases mem_insN.1 h with k | k
      · exact .inl (mem_remN.1 k).1
      · exact .inr k
  · simp at h
theorem putN_len (l : List It) (x : It) : (putN l x).1.length ≤ l.length + 1 := by
  unfold putN
  split
  · split
    · simp
    · show (insN _ _).length ≤ _
      rw [insN_len]
      exact Nat.succ_le_succ (List.length_filter_le _ _)
  · simp
theorem putN_fits {xs zs : List ItV} {x : ItV} {l : List It} {n : Nat} (hf : Fits xs) (hl : xs.length ≤ 20) (h1 : x.nm.length ≤ 1000) (h2 : x.ms.length ≤ 100) (hp : putN (its xs) x.it = (l, n)) (hz : its zs = l) : Fits zs := by
  have e : (putN (its xs) x.it).1 = its zs := by rw [hp, hz]
  refine ⟨?_, fun z hzz => ?_⟩
  · have := putN_len (its xs) x.it
    rw [e, its_len, its_len] at this; omega
  · have hm : z.it ∈ (putN (its xs) x.it).1 := by rw [e]; exact List.mem_map.2 ⟨z, hzz, rfl⟩
    rcases putN_mem hm with k | k
    · obtain ⟨y, hy, ey⟩ := List.mem_map.1 k
      have e1 : y.nm = z.nm := congrArg Prod.fst ey
      have e2 : y.ms = z.ms := congrArg Prod.snd ey
      rw [← e1, ← e2]; exact hf.2 y hy
    · have e1 : z.nm = x.nm := congrArg Prod.fst k
      have e2 : z.ms = x.ms := congrArg Prod.snd k
      rw [e1, e2]; exact ⟨h1, h2⟩
theorem refOne_h (x : ItV) (b : Bool) (w : World) (hx : ItOK w x) (hf : Fits [x]) (hb : okI x.it = b) : Calls Tryz.prog 24 #[mkIt x] w (OneB (.bool b) w) := by
  have := hf.2 x (by simp)
  exact refOne x b w hx this.1 (by omega) hb
/-- A list of one item: where it lies. -/
theorem HoldsX.single {w : World} {v : Value} {ys : List ItV} {x : ItV} (h : HoldsX w v ys) (hy : its ys = its [x]) :
    ∃ b off y c, v = .slice (some ⟨b, off, none⟩) 1 c ∧ y.it = x.it ∧ ys = [y] ∧ b < w.heap.size ∧ w.cell? ⟨b, off, none⟩ = some (.string ⟨y.nm.toArray⟩) ∧ w.cell? ⟨b, off + 1, none⟩ = some (.slice y.A y.ms.length y.c) ∧ ItOK w y := by
  obtain ⟨A, c, rfl, h1, _⟩ := h
  have hl : ys.length = 1 := len_of_its hy
  obtain ⟨y, rfl⟩ := List.length_eq_one_iff.1 hl
  obtain ⟨b, off, z, rfl, hb, hz, _, hc0, hc1, hok⟩ := h1.cells (j := 0) (by simp)
  obtain rfl : y = z := by simpa using hz
  exact ⟨b, off, y, c, rfl, by simpa using hy, rfl, hb, by simpa using hc0, by simpa using hc1, hok⟩

set_option maxRecDepth 100000 in
set_option maxHeartbeats 8000000 in
theorem lawPuts9 (v : Value) (xs : List ItV) (x : ItV) (w : World) (h : HoldsX w v xs) (ho : ItOK w x) : Calls Tryz.prog 5 #[v, mkIt x] w (TrueB w) := by
  have K0 := Lib.hid (KZ.new w x ho)
  have HA := Lib.hid h
  clear h ho
  obtain ⟨b1, hb1⟩ : ∃ b, lightX xs = b := ⟨_, rfl⟩
  obtain ⟨b2, hb2⟩ : ∃ b, lightX [x] = b := ⟨_, rfl⟩
  have L1 := Lib.hid fun W h => lawLight v xs b1 W h hb1
  have L2 := Lib.hid fun W u h => lawLight u [x] b2 W h hb2
  go_enter Tryz.func5, Tryz.ntmps5
  go_wp2_with fail
  obtain ⟨g, hg⟩ : ∃ g, w.heap.size = g := ⟨_, rfl⟩
  rw [hg] at K0
  try rw [hg]
  clear hg
  generalize World.alloc w _ = w0 at K0 ⊢
  obtain ⟨x0, x1, xl⟩ := K0.out.sp1
  refine (L1.out _ (HA.out.below K0.out.bel)).mono ?_
  rintro e wq ⟨rfl, rfl⟩
  cases b1 with
  | false =>
    go_wp2_with fail
    refine (known9 _).mono ?_
    rintro e wz ⟨rfl, hb⟩
    have KZZ := Lib.hid (below_trans K0.out.bel hb)
    clear hb K0 x0 x1 xl
    go_wp2_with fail
    go_ret
    exact ⟨rfl, KZZ.out⟩
  | true =>
    go_wp2_with fail
    have K1 := Lib.hid (K0.out.alloc (.cells #[.string ⟨x.nm.toArray⟩, .slice x.A x.ms.length x.c] 34))
    have HL := Lib.hid (holdsA w0 w0.heap.size x rfl (K0.out.ok (g := g) (by simp)))
    obtain ⟨g1, hg⟩ : ∃ g, w0.heap.size = g := ⟨_, rfl⟩
    rw [hg] at HL ⊢
    clear K0 hg x0 x1 xl
    generalize World.alloc w0 _ = w1 at K1 HL ⊢
    obtain ⟨x0, x1, xl⟩ := K1.out.sp1
    refine (lawOf9 _ _).mono ?_
    rintro e wq ⟨rfl, rfl⟩
    go_wp2_with fail
    refine (L2.out _ _ HL.out).mono ?_
    rintro e wq ⟨rfl, rfl⟩
    clear HL
    cases b2 with
    | false =>
      go_wp2_with fail
      refine (known9 _).mono ?_
      rintro e wz ⟨rfl, hb⟩
      have KZZ := Lib.hid (below_trans K1.out.bel hb)
      clear hb K1 x0 x1 xl
      go_wp2_with fail
      go_ret
      exact ⟨rfl, KZZ.out⟩
    | true =>
      have F1 := Lib.hid (lightX_fits hb1).1
      have F1b := Lib.hid (lightX_fits hb1).2.1
      have F2 := Lib.hid (lightX_fits hb2).1
      have FX := Lib.hid (F2.out.2 x (by simp))
      obtain ⟨p, hp⟩ : ∃ b, validL (its xs) = b := ⟨_, rfl⟩
      obtain ⟨q, hq⟩ : ∃ b, okI x.it = b := ⟨_, rfl⟩
      have HP := Lib.hid hp
      have HQ := Lib.hid hq
      clear hp hq hb1 hb2 L1 L2
      go_wp2_with fail
      refine (refValid_h v xs p w1 (HA.out.below K1.out.bel) F1.out HP.out).mono ?_
      rintro e w2 ⟨rfl, hb⟩
      have K2 := Lib.hid (K1.out.next hb)
      clear hb K1 x0 x1 xl
      obtain ⟨x0, x1, xl⟩ := K2.out.sp1
      cases p with
      | false =>
        go_wp2_with fail
        refine (lawPuts v (.slice none 0 0) xs [] x 2 w2 (HA.out.below K2.out.bel) (HoldsX.nil _) (K2.out.ok (g := g) (by simp)) F1.out FX.out.1 FX.out.2 (by decide) (putN_bad (.inl HP.out))).mono ?_
        rintro e w3 ⟨rfl, hb⟩
        have K3 := Lib.hid (K2.out.next hb)
        clear hb K2 x0 x1 xl
        obtain ⟨x0, x1, xl⟩ := K3.out.sp1
        go_wp2_with fail
        refine (known9 _).mono ?_
        rintro e wz ⟨rfl, hb⟩
        have KZZ := Lib.hid (below_trans K3.out.bel hb)
        clear hb K3 x0 x1 xl
        go_wp2_with fail
        go_ret
        exact ⟨rfl, KZZ.out⟩
      | true =>
        go_wp2_with fail
        refine (refOne_h x q w2 (K2.out.ok (g := g) (by simp)) F2.out HQ.out).mono ?_
        rintro e w3 ⟨rfl, hb⟩
        have K3 := Lib.hid (K2.out.next hb)
        clear hb K2 x0 x1 xl
        obtain ⟨x0, x1, xl⟩ := K3.out.sp1
        cases q with
        | false =>
          go_wp2_with fail
          refine (lawPuts v (.slice none 0 0) xs [] x 2 w3 (HA.out.below K3.out.bel) (HoldsX.nil _) (K3.out.ok (g := g) (by simp)) F1.out FX.out.1 FX.out.2 (by decide) (putN_bad (.inr HQ.out))).mono ?_
          rintro e w4 ⟨rfl, hb⟩
          have K4 := Lib.hid (K3.out.next hb)
          clear hb K3 x0 x1 xl
          obtain ⟨x0, x1, xl⟩ := K4.out.sp1
          go_wp2_with fail
          refine (known9 _).mono ?_
          rintro e wz ⟨rfl, hb⟩
          have KZZ := Lib.hid (below_trans K4.out.bel hb)
          clear hb K4 x0 x1 xl
          go_wp2_with fail
          go_ret
          exact ⟨rfl, KZZ.out⟩
        | true =>
          obtain ⟨⟨l, n⟩, hln⟩ : ∃ r, putN (its xs) x.it = r := ⟨_, rfl⟩
          have HLN := Lib.hid hln
          clear hln
          go_wp2_with fail
          refine (refPut_h v xs x l n w3 (HA.out.below K3.out.bel) (K3.out.ok (g := g) (by simp)) F1.out FX.out.1 HP.out HQ.out HLN.out).mono ?_
          rintro e w4 ⟨⟨u, ws, rfl, hu, hws⟩, hb⟩
          have K4 := Lib.hid (K3.out.next hb)
          have HU := Lib.hid hu
          have HWS := Lib.hid hws
          clear hb K3 x0 x1 xl hu hws
          obtain ⟨x0, x1, xl⟩ := K4.out.sp1
          go_wp2_with fail
          have hS := K4.out
          have hS' := (show w4.cell? ⟨g, 0, none⟩ = some (.string ⟨x.nm.toArray⟩) ∧ w4.cell? ⟨g, 1, none⟩ = some (.slice x.A x.ms.length x.c) ∧ g < w4.heap.size from hS.sp1)
          clear K4 x0 x1 xl
          go_region_held3 (fun W => W.cell? ⟨g, 0, none⟩ = some (.string ⟨x.nm.toArray⟩) ∧ W.cell? ⟨g, 1, none⟩ = some (.slice x.A x.ms.length x.c) ∧ g < W.heap.size)
            (first
              | assumption
              | (exact KZ.sp1 (by assumption))
              | (exact KZ.sp1 (KZ.drew (by assumption)))
              | (exact KZ.sp1 (KZ.alloc (by assumption) _))
              | (exact KZ.sp1 (KZ.drew (KZ.alloc (by assumption) _))))
            (first
              | (go_at_call 27; refine (lawOf9 _ _).mono ?_
                 rintro e wa ⟨rfl, rfl⟩)
              | (go_at_call 30
                 first
                   | (with_reducible refine (lawOwn v xs _ ?_ ?_ ?_).mono ?_
                      · exact HA.out.below (KZ.bel (by first | assumption | exact KZ.drew (by assumption) | exact KZ.alloc (by assumption) _ | exact KZ.drew (KZ.alloc (by assumption) _)))
                      · exact Nat.le_trans F1.out.1 (by decide)
                      · exact F1.out.mar
                      rintro e wm ⟨v1, ys1, rfl, hy1, ho1, hbm⟩
                      have hM := KZ.next (by first | assumption | exact KZ.drew (by assumption) | exact KZ.alloc (by assumption) _ | exact KZ.drew (KZ.alloc (by assumption) _)) hbm
                      have hM' := hM.sp1
                      have hm1 := ho1.holds
                      have hu1 := HoldsX.below (by first | exact HoldsX.drew HU.out | exact HoldsX.drew (HU.out.below ((Below.refl _ _).alloc (Nat.le_refl _) _))) hbm)
                   | (with_reducible refine (lawOwn _ [x] _ ?_ ?_ ?_).mono ?_
                      · first
                          | exact holdsA _ _ x (by simp) (hM.ok (g := g) (by simp))
                          | exact ((holdsA _ _ x (by simp) (hS.ok (g := g) (by simp))).drew).below hbm
                          | exact (holdsA _ _ x (by simp) (hS.ok (g := g) (by simp))).below hbm
                      · simp
                      · exact F2.out.mar
                      rintro e wn ⟨v2, us, rfl, hus, ho2, hbn⟩
                      have hN := KZ.next (by first | assumption | exact KZ.alloc (by assumption) _) hbn
                      have hm2 := HoldsX.below (by first | exact hm1 | exact hm1.below ((Below.refl _ _).alloc (Nat.le_refl _) _)) hbn
                      have hu2 := HoldsX.below (by first | exact hu1 | exact hu1.below ((Below.refl _ _).alloc (Nat.le_refl _) _)) hbn)))
          all_goals
            obtain ⟨b, off, y, c, rfl, hyx, rfl, hbl, d0, d1, hoy⟩ := ho2.holds.single hus
            have KN := Lib.hid hN
            have HM := Lib.hid hm2
            have HU2 := Lib.hid hu2
            have HSG := Lib.hid ho2.holds
            have HOY := Lib.hid hoy
            have HY1 := Lib.hid hy1
            have HYX := Lib.hid hyx
            have F3 := Lib.hid (Fits.of_its hy1 F1.out)
            have FY := Lib.hid (show y.nm.length ≤ 1000 ∧ y.ms.length ≤ 100 from by
              have e1 : y.nm = x.nm := congrArg Prod.fst hyx
              have e2 : y.ms = x.ms := congrArg Prod.snd hyx
              rw [e1, e2]; exact FX.out)
            have HPY := Lib.hid (show putN (its ys1) y.it = (l, n) from by rw [hy1, hyx]; exact HLN.out)
            have nn : ((n : Int) != (n : Int)) = false := by simp
            obtain ⟨x0, x1, xl⟩ := hN.sp1
            clear hS hS' hM hM' hN hm1 hm2 hu1 hu2 ho1 ho2 hbm hbn hoy hyx hy1 hus HU
            go_wp2_with fail
            have KE4 := Lib.hid (Below.refl wn.heap.size wn)
            refine (itPut_h v1 ys1 y l n wn HM.out HOY.out F3.out FY.out.1 FY.out.2 HPY.out).mono ?_
            rintro e w5 ⟨⟨v3, zs, rfl, hz, ho3⟩, hb⟩
            have KE5 := Lib.hid (below_trans KE4.out hb)
            have HZ := Lib.hid hz
            have HO3 := Lib.hid ho3
            have FZ := Lib.hid (putN_fits F1.out F1b.out FX.out.1 FX.out.2 HLN.out hz)
            clear hb KE4 x0 x1 xl hz ho3 d0 d1 hbl
            obtain ⟨x0, x1, xl⟩ := (KN.out.next KE5.out).sp1
            go_wp2_with fail
            have FW := Lib.hid (Fits.of_its (xs := zs) (by rw [HWS.out, HZ.out]) FZ.out)
            refine (refEqual_h v3 u zs ws true w5 HO3.out.holds (HU2.out.below KE5.out) FZ.out.le FW.out.le (decide_eq_true (by rw [HZ.out, HWS.out]))).mono ?_
            rintro e w6 ⟨rfl, hb⟩
            have KE6 := Lib.hid (below_trans KE5.out hb)
            have HO4 := Lib.hid (OwnI.below HO3.out hb)
            clear hb KE5 x0 x1 xl HO3
            obtain ⟨x0, x1, xl⟩ := (KN.out.next KE6.out).sp1
            go_wp2_with fail
            refine (lawSpoil v3 wn.heap.size zs w6 HO4.out FZ.out.le FZ.out.nam).mono ?_
            rintro e w7 ⟨rfl, hb⟩
            have KE7 := Lib.hid (KE6.out.trans hb)
            clear hb KE6 HO4 x0 x1 xl
            obtain ⟨x0, x1, xl⟩ := (KN.out.next KE7.out).sp1
            go_wp2_with fail
            refine (refEqual_h v1 v ys1 xs true w7 (HM.out.below KE7.out) (HA.out.below (below_trans KN.out.bel KE7.out)) F3.out.le F1.out.le (decide_eq_true HY1.out)).mono ?_
            rintro e w8 ⟨rfl, hb⟩
            have KE8 := Lib.hid (below_trans KE7.out hb)
            clear hb KE7 x0 x1 xl
            obtain ⟨x0, x1, xl⟩ := (KN.out.next KE8.out).sp1
            go_wp2_with fail
            have HL := Lib.hid (holdsA w8 w8.heap.size x rfl ((KN.out.next KE8.out).ok (g := g) (by simp)))
            have KE9 := Lib.hid (below_trans KE8.out ((Below.refl _ _).alloc (Nat.le_refl _) (.cells #[.string ⟨x.nm.toArray⟩, .slice x.A x.ms.length x.c] 34)))
            obtain ⟨ga, hg⟩ : ∃ g, w8.heap.size = g := ⟨_, rfl⟩
            rw [hg] at HL ⊢
            clear KE8 hg x0 x1 xl
            generalize World.alloc w8 _ = w9 at KE9 HL ⊢
            obtain ⟨x0, x1, xl⟩ := (KN.out.next KE9.out).sp1
            refine (lawOf9 _ _).mono ?_
            rintro e wq ⟨rfl, rfl⟩
            go_wp2_with fail
            refine (refEqual_h _ _ [y] [x] true w9 (HSG.out.below KE9.out) HL.out (by simp) (by simp) (decide_eq_true (by simp [HYX.out]))).mono ?_
            rintro e w10 ⟨rfl, hb⟩
            have KE10 := Lib.hid (below_trans KE9.out hb)
            clear hb KE9 x0 x1 xl HL
            obtain ⟨x0, x1, xl⟩ := (KN.out.next KE10.out).sp1
            go_wp2_with fail
            refine (known9 _).mono ?_
            rintro e wz ⟨rfl, hb⟩
            have KZZ := Lib.hid (below_trans (below_trans KN.out.bel KE10.out) hb)
            clear hb KE10 x0 x1 xl
            go_wp2_with fail
            go_ret
            exact ⟨rfl, KZZ.out⟩

end Go.Proofs.YtfbkhgajlklleaaGreat
