/- Package items: Put. -/
import Derived.Test.YtfbkhgajlklleaaGreatItmS
namespace Go.Proofs.YtfbkhgajlklleaaGreat
open Go.RowKit

/-- What Put returns, and the error. -/
def putN (l : List It) (x : It) : List It × Nat := if validL l = true ∧ okI x = true then (if ((remN l x.1).any fun y => meetN y.2 x.2) = true then ([], 11) else (insN (remN l x.1) x, 0)) else ([], 2)

/-- The item in its block, the other items in their row. -/
structure KP (w : World) (x : ItV) (B : Nat) (D : Option Addr) (d : Nat) (rs : List ItV) (W : World) : Prop where
  blk : BlkI W w.heap.size x
  bel : Below w.heap.size w W
  row : RowT W B (.slice D rs.length d) rs
  oks : ∀ y ∈ rs, ItOK W y
  okx : ItOK W x
  hB : w.heap.size + 1 ≤ B
  sz : B ≤ W.heap.size
section
variable {w W W' : World} {x : ItV} {B d : Nat} {D : Option Addr} {rs : List ItV}
theorem KP.next (h : KP w x B D d rs W) (hb : Below W.heap.size W W') : KP w x B D d rs W' := ⟨h.blk.below hb, below_trans h.bel hb, RowT.below h.row hb, fun y hy => (h.oks y hy).below hb, h.okx.below hb, h.hB, Nat.le_trans h.sz hb.size⟩
theorem KP.drew (h : KP w x B D d rs W) : KP w x B D d rs W.drew := h.next (Below.refl _ _).drew
theorem KP.items (h : KP w x B D d rs W) : ItemsAt W D rs := by
  obtain ⟨A, c, e, _, _, hat⟩ := SlAt.of_own encIt_len h.row
  injection e with e1 e2 e3
  exact ⟨by rw [e1]; exact hat, h.oks⟩
theorem KP.sp (h : KP w x B D d rs W) : W.cell? ⟨w.heap.size, 1, none⟩ = some (.slice x.A x.ms.length x.c) ∧ w.heap.size < W.heap.size ∧ KP w x B D d rs W := ⟨h.blk.cell1, h.blk.lt, h⟩
end
theorem both_h (v u : Value) (xs ys : List (Int × Int)) (w : World) (h : Holds w v xs) (k : Holds w u ys) (hm : xs.length + ys.length ≤ 1000000) :
    Calls Tryz.prog 59 #[v, u] w fun e w' => ∃ v, e = .returned v ∧ Mine w w' v (pickL xs ys true) := by
  obtain ⟨A, c, rfl, h1, _⟩ := h
  obtain ⟨A', c', rfl, h2, _⟩ := k
  exact dotBoth A A' xs ys c c' w h1 h2 hm

set_option maxRecDepth 100000 in
set_option maxHeartbeats 4000000 in
theorem itPut (A : Option Addr) (xs : List ItV) (cap : Nat) (x : ItV) (l : List It) (n : Nat) (w : World) (hx : ItemsAt w A xs) (ho : ItOK w x) (hf : Fits xs) (hn : x.nm.length ≤ 1000) (hxm : x.ms.length ≤ 100) (hv : putN (its xs) x.it = (l, n)) :
    Calls Tryz.prog 31 #[.slice A xs.length cap, mkIt x] w fun e w' => (∃ v zs, e = .returned (.tuple #[v, .int .i64 (n : Int)]) ∧ its zs = l ∧ OwnI w' w.heap.size v zs) ∧ Below w.heap.size w w' := by
  have hm := hf.1
  have HX := Lib.hid hx
  have B0 := Lib.hid (BlkI.new w x)
  have HB := Lib.hid ((Below.refl w.heap.size w).alloc (Nat.le_refl _) (.cells #[.string ⟨x.nm.toArray⟩, .slice x.A x.ms.length x.c] 34))
  have HOX := Lib.hid ho
  obtain ⟨b, hb⟩ : ∃ b, validL (its xs) = b := ⟨_, rfl⟩
  obtain ⟨q, hq⟩ : ∃ q, okI x.it = q := ⟨_, rfl⟩
  have HV := Lib.hid fun W (h : ItemsAt W A xs) => itemsValid A xs cap b W h hf hb
  have HQ := Lib.hid fun W (h : ItOK W x) => itValid x q W h hn (by omega) hq
  have HW := Lib.hid fun W (h : ItemsAt W A xs) => itWithout A xs cap x.nm W h (by omega)
  unfold putN at hv
  rw [hq] at hv
  rw [hb] at hv
  have hlw := B0.out.lt
  have c0 := B0.out.cell0
  have c1 := B0.out.cell1
  clear hx ho
  cases b with
  | false =>
    rw [if_neg (by simp)] at hv
    have h1 := congrArg Prod.fst hv
    have h2 := congrArg Prod.snd hv
    simp only at h1 h2
    subst h1 h2
    clear hv hb hq
    go_enter Tryz.func31, Tryz.ntmps31
    go_wp2_with fail
    refine (HV.out _ (HX.out.below HB.out)).mono ?_
    rintro e w1 ⟨rfl, hb1⟩
    have HB1 := Lib.hid (below_trans HB.out hb1)
    clear hb1 c0 c1
    go_wp2_with fail
    go_ret2
    exact ⟨⟨_, [], rfl, rfl, OwnI.nil _ _⟩, HB1.out⟩
  | true =>
    cases q with
    | false =>
      rw [if_neg (by simp)] at hv
      have h1 := congrArg Prod.fst hv
      have h2 := congrArg Prod.snd hv
      simp only at h1 h2
      subst h1 h2
      clear hv hb hq
      go_enter Tryz.func31, Tryz.ntmps31
      go_wp2_with fail
      refine (HV.out _ (HX.out.below HB.out)).mono ?_
      rintro e w1 ⟨rfl, hb1⟩
      have HB1 := Lib.hid (below_trans HB.out hb1)
      have B1 := Lib.hid (B0.out.below hb1)
      clear hb1 c0 c1 hlw
      have c0 := B1.out.cell0
      have c1 := B1.out.cell1
      go_wp2_with fail
      refine (HQ.out _ (HOX.out.below HB1.out)).mono ?_
      rintro e w2 ⟨rfl, hb2⟩
      have HB2 := Lib.hid (below_trans HB1.out hb2)
      clear hb2 c0 c1
      go_wp2_with fail
      go_ret2
      exact ⟨⟨_, [], rfl, rfl, OwnI.nil _ _⟩, HB2.out⟩
    | true =>
      rw [if_pos ⟨rfl, rfl⟩] at hv
      obtain ⟨rs, hrs⟩ : ∃ rs, remX xs x.nm = rs := ⟨_, rfl⟩
      have hfr : Fits rs := by rw [← hrs]; exact hf.rem x.nm
      have hir : remN (its xs) x.it.1 = its rs := by rw [← hrs, its_remX]; rfl
      have hgood : Good (its rs) := by rw [← hir]; exact (validL_good.1 hb).rem _
      rw [hir] at hv
      have HV2 := Lib.hid hv
      have HGR := Lib.hid hgood
      have HRM := Lib.hid (show ∀ y ∈ rs, y ∈ xs from fun y hy => remX_mem (nm := x.nm) (by rw [hrs]; exact hy))
      simp only [hrs] at HW
      have hds : (dotsI (its rs)).length ≤ 10000 := by
        have h := dotsI_len (its rs) fun y hy => by
          obtain ⟨z, hz, rfl⟩ := List.mem_map.1 hy
          exact (hfr.2 z hz).2
        have := hfr.1
        rw [its_len] at h; omega
      have hdm := dotsM_len x.ms
      have HDS := Lib.hid (show (dotsI (its rs)).length + (dotsM x.ms).length ≤ 1000000 from by omega)
      obtain ⟨ps, hps⟩ : ∃ ps, pickL (dotsI (its rs)) (dotsM x.ms) true = ps := ⟨_, rfl⟩
      have HP := Lib.hid hps
      have hrl := hfr.1
      have HFR := Lib.hid hfr
      clear hv hb hq hir hrs hgood hds hdm hps
      go_enter Tryz.func31, Tryz.ntmps31
      go_wp2_with fail
      refine (HV.out _ (HX.out.below HB.out)).mono ?_
      rintro e w1 ⟨rfl, hb1⟩
      have HB1 := Lib.hid (below_trans HB.out hb1)
      have B1 := Lib.hid (B0.out.below hb1)
      clear hb1 c0 c1 hlw
      have c0 := B1.out.cell0
      have c1 := B1.out.cell1
      go_wp2_with fail
      refine (HQ.out _ (HOX.out.below HB1.out)).mono ?_
      rintro e w2 ⟨rfl, hb2⟩
      have HB2 := Lib.hid (below_trans HB1.out hb2)
      have B2 := Lib.hid (B1.out.below hb2)
      clear hb2 c0 c1
      have c0 := B2.out.cell0
      have hlw := B2.out.lt
      go_wp2_with fail
      refine (HW.out _ (HX.out.below HB2.out)).mono ?_
      rintro e w3 ⟨v3, rfl, h3⟩
      obtain ⟨D, d, rfl, hd1, hd2, _⟩ := SlAt.of_own encIt_len h3.1
      have hb3 := below_trans HB2.out h3.2
      have K3 : KP w x w2.heap.size D d rs w3 := ⟨B2.out.below h3.2, hb3, h3.1, fun y hy => (HX.out.2 y (HRM.out y hy)).below hb3, HOX.out.below hb3, hlw, h3.2.size⟩
      have hS := K3
      have hS' := KP.sp hS
      obtain ⟨q1, q2, _⟩ := id hS'
      clear h3 hb3 c0 hlw K3
      go_wp2_with fail
      go_region_held3 (fun W' => W'.cell? ⟨w.heap.size, 1, none⟩ = some (.slice x.A x.ms.length x.c) ∧ w.heap.size < W'.heap.size ∧ KP w x w2.heap.size D d rs W')
        (first
          | assumption
          | (exact KP.sp (by assumption))
          | (exact KP.sp (KP.drew (by assumption))))
        (first
          | (go_at_call 22; refine (itDots D rs d _ (KP.items (by first | assumption | exact KP.drew (by assumption))) HFR.out).mono ?_
             rintro e wa ⟨⟨v4, rfl, hv4⟩, hb4⟩
             have hS1 := KP.next (by first | assumption | exact KP.drew (by assumption)) hb4
             have hS1' := KP.sp hS1
             obtain ⟨u1, u2, _⟩ := id hS1')
          | (go_at_call 48; refine (qtyDots x.A x.ms x.c _ (KP.okx (by first | assumption | exact KP.drew (by assumption))).1 (by omega)).mono ?_
             rintro e wb ⟨⟨v5, rfl, hv5⟩, hb5⟩
             have hS2 := KP.next (by first | assumption | exact KP.drew (by assumption)) hb5
             have hS2' := KP.sp hS2
             obtain ⟨u1, u2, _⟩ := id hS2')
          | (go_at_call 59; refine (both_h v4 v5 _ _ _ (by first | exact hv4 | exact hv4.below hb5 | exact (hv4.below hb5).drew) (by first | exact hv5 | exact hv5.below hb4 | exact hv5.drew) HDS.out).mono ?_
             rintro e wc ⟨v6, rfl, h6⟩
             have hS3 := KP.next (by first | assumption | exact KP.drew (by assumption)) h6.2
             have hS3' := KP.sp hS3
             obtain ⟨E6, d6, rfl, _⟩ := SlAt.of_own encD_len h6.1))
      all_goals
        have K := Lib.hid hS3
        clear hS hS' hS1 hS1' hS2 hS2' hS3 hS3' hv4 hv5 h6 hb4 hb5 q1 q2 u1 u2
        rw [HP.out]
        by_cases h0 : 0 < ps.length
        · have i0 : (0 : Int) < (ps.length : Int) := by omega
          have hmeet : ((its rs).any fun y => meetN y.2 x.it.2) = true := by
            cases ha : ((its rs).any fun y => meetN y.2 x.it.2) with
            | true => rfl
            | false =>
              have hb0 := both_nil.2 ha
              rw [← pickL_both] at hb0
              have hp : ps = [] := HP.out.symm.trans hb0
              rw [hp] at h0; simp at h0
          have hv := HV2.out
          rw [if_pos hmeet] at hv
          have h1 := congrArg Prod.fst hv
          have h2 := congrArg Prod.snd hv
          simp only at h1 h2
          subst h1 h2
          clear hv hmeet HV2
          go_wp2_with fail
          go_ret2
          exact ⟨⟨_, [], rfl, rfl, OwnI.nil _ _⟩, K.out.bel⟩
        · have i0 : ¬ (0 : Int) < (ps.length : Int) := by omega
          have hpe : ps = [] := List.eq_nil_of_length_eq_zero (by omega)
          have hmeet : ¬ ((its rs).any fun y => meetN y.2 x.it.2) = true := by
            have := (both_nil (l := its rs) (ms := x.ms)).1 (by rw [← pickL_both, HP.out]; exact hpe)
            rw [show x.it.2 = x.ms from rfl, this]; simp
          have hv := HV2.out
          rw [if_neg hmeet] at hv
          have h1 := congrArg Prod.fst hv
          have h2 := congrArg Prod.snd hv
          simp only at h1 h2
          subst h2
          have HL := Lib.hid h1
          have HBS := Lib.hid (binarySearchI D rs d x.nm _ K.out.items (by omega) HGR.out.2.1)
          have c0 := K.out.blk.cell0
          have hlw := K.out.blk.lt
          clear hv h1 hmeet HV2 h0 hpe
          go_wp2_with fail
          refine HBS.out.mono ?_
          rintro e w5 ⟨⟨i, z, rfl, hi, hlo, hhi⟩, hb5⟩
          have K5 := Lib.hid (K.out.next hb5)
          have HINS := Lib.hid (insX_at hlo (fun y hy => hhi i y (Nat.le_refl _) hy))
          clear hlo hhi hb5 c0 hlw
          have c0 := K5.out.blk.cell0
          have c1 := K5.out.blk.cell1
          have hlw := K5.out.blk.lt
          have hba : Below w5.heap.size w5 (w5.alloc (.cells #[.string ⟨x.nm.toArray⟩, .slice x.A x.ms.length x.c] 34)) := (Below.refl _ w5).alloc (Nat.le_refl _) _
          have K6 := Lib.hid (K5.out.next hba)
          have hB2 : w2.heap.size ≤ (w5.alloc (.cells #[.string ⟨x.nm.toArray⟩, .slice x.A x.ms.length x.c] 34)).heap.size := by
            have := K5.out.sz
            simp; omega
          have HI := Lib.hid (itInsert (.slice D rs.length d) w2.heap.size i w5.heap.size x rs _ K6.out.row hi (by omega) (BlkI.new w5 x) (fun e => by have := (K5.out.row.lt _ e).2; omega) hB2)
          clear hba hB2
          go_wp2_with fail
          refine HI.out.mono ?_
          rintro e w7 ⟨v7, rfl, ho7, hg7⟩
          have hil : (insX rs x).length = rs.length + 1 := by rw [HINS.out]; simp; omega
          rw [← HINS.out] at ho7
          have hb7 : Below w.heap.size w w7 := K6.out.bel.grown hg7 K6.out.bel.size (fun k hk => by have := (K6.out.row.lt k hk).1; have := K6.out.hB; omega)
          obtain ⟨E7, d7, rfl, _, _, hat7⟩ := SlAt.of_own encIt_len ho7
          have HC := Lib.hid (itCopy E7 (insX rs x) d7 w7 ⟨hat7, fun y hy => by
            rcases insX_mem hy with h | h
            · exact (HX.out.2 y (HRM.out y h)).below hb7
            · subst h; exact HOX.out.below hb7⟩ (by omega) (fun y hy => by
            rcases insX_mem hy with h | h
            · exact fits_wide HFR.out y h
            · subst h; omega))
          have HB7 := Lib.hid hb7
          clear ho7 hg7 hb7 hat7 c0 c1 hlw hil
          go_wp2_with fail
          refine HC.out.mono ?_
          rintro e w8 ⟨v8, ys, rfl, hys, ho8, hb8⟩
          have HO := Lib.hid (ho8.le HB7.out.size)
          have HY := Lib.hid (show its ys = l from by rw [hys, its_insX]; exact HL.out)
          have HB8 := Lib.hid (below_trans HB7.out hb8)
          clear ho8 hb8 hys
          go_wp2_with fail
          go_ret2
          exact ⟨⟨_, ys, rfl, HY.out, HO.out⟩, HB8.out⟩

end Go.Proofs.YtfbkhgajlklleaaGreat
