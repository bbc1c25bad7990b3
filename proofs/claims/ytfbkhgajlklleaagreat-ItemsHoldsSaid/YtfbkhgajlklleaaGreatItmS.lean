/- slices.Insert whole; package items: Remove. -/
import Derived.Test.YtfbkhgajlklleaaGreatItmR
namespace Go.Proofs.YtfbkhgajlklleaaGreat
open Go.RowKit

set_option maxRecDepth 100000 in
set_option maxHeartbeats 4000000 in
theorem itInsert (v : Value) (base i vb : Nat) (x : ItV) (xs : List ItV) (w : World) (h : RowT w base v xs) (hi : i ≤ xs.length) (hm : xs.length ≤ 1000000) (hvb : BlkI w vb x) (hne : v.ownBlock ≠ some vb) (hb : base ≤ w.heap.size) :
    Calls Tryz.prog 63 #[v, .int .i64 i, .slice (some ⟨vb, 0, none⟩) 1 1] w fun e w' => ∃ v', e = .returned v' ∧ RowT w' base v' (xs.take i ++ x :: xs.drop i) ∧ w.grownBy w' v.ownBlock := by
  have hl : (xs.take i ++ x :: xs.drop i).length = xs.length + 1 := by simp; omega
  rcases Nat.lt_or_ge i xs.length with hlt | hge
  · obtain ⟨h1, h2⟩ := h
    rcases h2 with ⟨_, h0⟩ | ⟨g, c, cur, rfl, hbg, hg, hnc, hcm, hcs, hxs⟩
    · omega
    · have hgne : vb ≠ g := fun e => hne (by rw [e]; rfl)
      by_cases hroom : xs.length + 1 ≤ c
      · refine (insertRoom g xs.length c i vb cur x xs w hg hcs hxs rfl hlt hroom hcm hvb hgne).mono ?_
        rintro e w' ⟨rfl, ⟨cur', hg', hcs', hxs'⟩, hgr⟩
        refine ⟨_, rfl, ?_, hgr⟩
        show w'.ownsRow _ _ _ _ (xs.take i ++ x :: xs.drop i).length _
        rw [hl]
        exact ⟨by rw [cellsI_len, hl], .inr ⟨g, c, cur', rfl, hbg, hg', hroom, hcm, hcs', hxs'⟩⟩
      · refine (insertGrow g xs.length c i vb cur x xs w hg hcs hxs rfl hlt hnc (by omega) hm hvb).mono ?_
        rintro e w' ⟨G, rfl, hG1, hG2, ⟨cur', hg', hcs', hxs'⟩, hbe⟩
        refine ⟨_, rfl, ?_, grown_of_below hbe _⟩
        show w'.ownsRow _ _ _ _ (xs.take i ++ x :: xs.drop i).length _
        rw [hl]
        exact ⟨by rw [cellsI_len, hl], .inr ⟨w.heap.size, G, cur', rfl, hb, hg', hG1, hG2, hcs', hxs'⟩⟩
  · obtain rfl : i = xs.length := by omega
    rw [List.take_length, List.drop_length]
    obtain ⟨i0, hi0, hz0, hz1, hz2⟩ := info_parts infoIt
    obtain ⟨A, c, rfl, hc1, hc2, hat⟩ := SlAt.of_own encIt_len h
    have H := Lib.hid h
    have HX := Lib.hid (show SlAt encIt 2 w (some ⟨vb, 0, none⟩) [x] from fun _ => ⟨vb, 0, rfl, hvb.lt, fun j y hj k u hu => by
      match j with
      | 0 =>
        have e : x = y := by simpa using hj
        subst e
        match k with
        | 0 => simp [encIt] at hu; subst hu; simpa using hvb.cell0
        | 1 => simp [encIt] at hu; subst hu; simpa using hvb.cell1
        | k + 2 => simp [encIt] at hu
      | j + 1 => simp at hj⟩)
    have hnn : (xs.length : Int) ≤ (c : Int) := by omega
    unfold maxLen at hc2
    clear h hat
    go_enter Tryz.func63, Tryz.ntmps63
    go_wp2_with (at_builtin; refine wpList_append_sl _ encIt 2 rfl (.tmp 23) (.tmp 24) 22 rfl encIt_len (by omega) encIt_one base 34 i0 _ 40 Tryz.underlying22 hi0 hz0 hz1 hz2 rfl (.slice A xs.length c) xs rfl H.out (some ⟨vb, 0, none⟩) 1 1 [x] rfl rfl HX.out (by simp [maxLen]; omega) (by simp; omega) hb ?_; intro v1 w1 hown1 hg1 hat1; have HO := Lib.hid hown1; have HG := Lib.hid (show ∀ c', w.grownBy w1 (Value.slice A xs.length c').ownBlock from fun c' => by cases A <;> exact hg1); clear hown1 hg1 hat1)
    all_goals
      go_ret
      exact ⟨_, rfl, HO.out, HG.out _⟩

/-- What Remove returns, and the error. -/
def delN (l : List It) (nm : List UInt8) : List It × Nat := if validL l = true then (if (remN l nm).length = l.length then ([], 9) else (remN l nm, 0)) else ([], 2)
theorem fits_wide {xs : List ItV} (hf : Fits xs) : ∀ x ∈ xs, x.nm.length ≤ 1000000 ∧ x.ms.length ≤ 1000000 := fun x hx => by
  have := hf.2 x hx; omega
theorem Fits.rem {xs : List ItV} (hf : Fits xs) (nm : List UInt8) : Fits (remX xs nm) := ⟨Nat.le_trans (remX_len xs nm) hf.1, fun y hy => hf.2 y (remX_mem hy)⟩

set_option maxHeartbeats 2000000 in
theorem itRemove (A : Option Addr) (xs : List ItV) (cap : Nat) (nm : List UInt8) (l : List It) (n : Nat) (w : World) (hx : ItemsAt w A xs) (hf : Fits xs) (hv : delN (its xs) nm = (l, n)) :
    Calls Tryz.prog 33 #[.slice A xs.length cap, .string ⟨nm.toArray⟩] w fun e w' => (∃ v zs, e = .returned (.tuple #[v, .int .i64 (n : Int)]) ∧ its zs = l ∧ OwnI w' w.heap.size v zs) ∧ Below w.heap.size w w' := by
  have hm := hf.1
  have HX := Lib.hid hx
  obtain ⟨b, hb⟩ : ∃ b, validL (its xs) = b := ⟨_, rfl⟩
  have HV := Lib.hid (itemsValid A xs cap b w hx hf hb)
  have HW := Lib.hid fun W (h : ItemsAt W A xs) => itWithout A xs cap nm W h (by omega)
  unfold delN at hv
  rw [hb] at hv
  clear hx hb
  cases b with
  | false =>
    rw [if_neg (by simp)] at hv
    have h1 := congrArg Prod.fst hv
    have h2 := congrArg Prod.snd hv
    simp only at h1 h2
    subst h1 h2
    clear hv
    go_enter Tryz.func33, Tryz.ntmps33
    go_wp2_with fail
    refine HV.out.mono ?_
    rintro e w1 ⟨rfl, hb1⟩
    have HB1 := Lib.hid hb1
    clear hb1
    go_wp2_with fail
    go_ret2
    exact ⟨⟨_, [], rfl, rfl, OwnI.nil _ _⟩, HB1.out⟩
  | true =>
    rw [if_pos rfl] at hv
    have hrl : (remX xs nm).length = (remN (its xs) nm).length := by rw [← its_len (remX xs nm), its_remX]
    have hfr := hf.rem nm
    by_cases he : (remX xs nm).length = xs.length
    · rw [if_pos (by rw [← hrl, its_len]; exact he)] at hv
      have h1 := congrArg Prod.fst hv
      have h2 := congrArg Prod.snd hv
      simp only at h1 h2
      subst h1 h2
      have ie : (((remX xs nm).length : Int) == (xs.length : Int)) = true := eqT (by omega)
      clear hv hrl he
      go_enter Tryz.func33, Tryz.ntmps33
      go_wp2_with fail
      refine HV.out.mono ?_
      rintro e w1 ⟨rfl, hb1⟩
      have HB1 := Lib.hid hb1
      clear hb1
      go_wp2_with fail
      refine (HW.out _ (HX.out.below HB1.out)).mono ?_
      rintro e w2 ⟨v2, rfl, h2⟩
      have HB2 := Lib.hid (below_trans HB1.out h2.2)
      obtain ⟨D, d, rfl, _⟩ := SlAt.of_own encIt_len h2.1
      clear h2
      go_wp2_with fail
      go_ret2
      exact ⟨⟨_, [], rfl, rfl, OwnI.nil _ _⟩, HB2.out⟩
    · rw [if_neg (by rw [← hrl, its_len]; exact he)] at hv
      have h1 := congrArg Prod.fst hv
      have h2 := congrArg Prod.snd hv
      simp only at h1 h2
      subst h2
      have HL := Lib.hid h1
      have ie : (((remX xs nm).length : Int) == (xs.length : Int)) = false := eqF (by omega)
      clear hv hrl he h1
      go_enter Tryz.func33, Tryz.ntmps33
      go_wp2_with fail
      refine HV.out.mono ?_
      rintro e w1 ⟨rfl, hb1⟩
      have HB1 := Lib.hid hb1
      clear hb1
      go_wp2_with fail
      refine (HW.out _ (HX.out.below HB1.out)).mono ?_
      rintro e w2 ⟨v2, rfl, h2⟩
      have HB2 := Lib.hid (below_trans HB1.out h2.2)
      obtain ⟨D, d, rfl, _, _, hat⟩ := SlAt.of_own encIt_len h2.1
      have HC := Lib.hid (itCopy D (remX xs nm) d w2 ⟨hat, fun y hy => (HX.out.2 y (remX_mem hy)).below HB2.out⟩ (by have := hfr.1; omega) (fits_wide hfr))
      clear h2 hat
      go_wp2_with fail
      refine HC.out.mono ?_
      rintro e w3 ⟨v3, ys, rfl, hys, ho, hb3⟩
      have HO := Lib.hid (ho.le HB2.out.size)
      have HY := Lib.hid (show its ys = l from by rw [hys, its_remX]; exact HL.out)
      have HB3 := Lib.hid (below_trans HB2.out hb3)
      clear ho hb3 hys
      go_wp2_with fail
      go_ret2
      exact ⟨⟨_, ys, rfl, HY.out, HO.out⟩, HB3.out⟩

end Go.Proofs.YtfbkhgajlklleaaGreat
