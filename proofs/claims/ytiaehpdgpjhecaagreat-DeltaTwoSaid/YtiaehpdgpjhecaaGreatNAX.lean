/- Several texts in one: JoiE. -/
import Derived.Test.YtiaehpdgpjhecaaGreatNAW
import Derived.Test.YtiaehpdgpjhecaaGreatNAN
import Derived.Test.YtiaehpdgpjhecaaGreatNAT
namespace Go.Proofs.YtiaehpdgpjhecaaGreat

section
open Go.RowKit Go.Maps

theorem flatH_step {l : List It} {k : Nat} {x : It} (h : l[k]? = some x) : flatH (l.take (k + 1)) = flatH (l.take k) ++ x.2.map fun m => (x.1, m) := by rw [take_step h, flatH_snoc]
theorem map_snoc {α β : Type} {l : List α} {k : Nat} {x : α} (f : α → β) (h : l[k]? = some x) : (l.take (k + 1)).map f = (l.take k).map f ++ [f x] := by rw [take_step h]; simp
theorem cntM_take {l : List It} (k : Nat) : cntM (l.take k) ≤ cntM l := by
  have h := congrArg cntM (List.take_append_drop k l)
  unfold cntM at *
  rw [List.map_append, List.sum_append] at h
  omega
theorem cntM_fits {xs : List ItV} (h : Fits xs) : cntM (its xs) ≤ 30000 := by
  have h1 := flatH_len (its xs)
  have h2 : (flatH (its xs)).length ≤ 100 * (its xs).length := by
    have h3 : ∀ x ∈ its xs, x.2.length ≤ 100 := fun y hy => by
      obtain ⟨z, hz, rfl⟩ := List.mem_map.1 hy
      exact (h.2 z hz).2
    clear h1
    generalize its xs = l at h3
    induction l with
    | nil => simp [flatH]
    | cons x r ih =>
      have h4 := ih fun y hy => h3 y (List.mem_cons_of_mem _ hy)
      have h5 := h3 x (by simp)
      unfold flatH at h4 ⊢
      rw [List.flatMap_cons, List.length_append, List.length_map, List.length_cons]; omega
  have h6 := h.1
  rw [its_len] at h2
  omega

set_option maxRecDepth 100000 in
set_option maxHeartbeats 4000000 in
theorem joFlat (c : CaV) (w : World) (hc : CaOK w c) (hf : Fits c.xs) :
    Calls Tryz.prog 123 #[mkC c] w fun e w' => (∃ v, e = .returned v ∧ RowH w' w.heap.size v (flatH (its c.xs))) ∧ Below w.heap.size w w' := by
  obtain ⟨ti0, hi0, hz0, hz1, hz2⟩ := info_parts infoH
  obtain ⟨V, nv, vs, L, nl, ls, A, ni, xs⟩ := c
  have K0 := Lib.hid (KB1.new w _ hc)
  have hm := hf.1
  have HF := Lib.hid hf.2
  have HC := Lib.hid (cntM_fits hf)
  clear hc hf
  dsimp only at hm HF HC
  show Calls Tryz.prog 123 #[.agg #[.slice V vs.length nv, .slice L ls.length nl, .slice A xs.length ni]] w _
  go_enter Tryz.func123, Tryz.ntmps123
  go_wp2_with fail
  generalize World.alloc w _ = w2 at K0 ⊢
  obtain ⟨x0, x1, x2, xl, _⟩ := K0.out.sp
  change w2.cell? ⟨w.heap.size, 2, none⟩ = some (Value.slice A xs.length ni) at x2
  go_wp2_with fail
  go_loopw [3, 5, 7, 11] (fun v _ _ i wr => ∃ k : Nat, k ≤ xs.length ∧ i = .int .i64 k ∧ Hid (RowH wr (w.heap.size + 1) v (flatH ((its xs).take k))) ∧ Hid (KB1 w ⟨V, nv, vs, L, nl, ls, A, ni, xs⟩ wr)) (fun _ _ _ i _ => xs.length - (intOf i).toNat)
  case atStart => exact ⟨0, by omega, rfl, Lib.hid (World.ownsRow_nil _ _ _ _), K0⟩
  case round =>
    clear K0 x0 x1 x2 xl
    obtain ⟨k, hk, rfl, hr, K⟩ := hrel
    obtain ⟨x0, x1, x2, xl, _⟩ := K.out.sp
    by_cases hlt : k < xs.length
    · have i0 : (k : Int) < (xs.length : Int) := by omega
      obtain ⟨b, off, x, hI, hbl, hx1, _, hc0, hc1, hok⟩ := K.out.items.cells (j := k) hlt
      obtain rfl : A = some ⟨b, off, none⟩ := hI
      obtain ⟨nm, XA, xc, ms⟩ := x
      dsimp only at hc0 hc1
      have hxm := HF.out _ (List.mem_of_getElem? hx1)
      have hml := hok.len
      dsimp only at hml hxm
      have HS := Lib.hid (flatH_step (its_at hx1))
      have B1 := Lib.hid (BlkI.new wr ⟨nm, XA, xc, ms⟩)
      have K1 := Lib.hid (K.out.alloc (.cells #[.string ⟨nm.toArray⟩, .slice XA ms.length xc] 50))
      have R1 := Lib.hid (hr.out.alloc (.cells #[.string ⟨nm.toArray⟩, .slice XA ms.length xc] 50))
      have HX := Lib.hid (List.mem_of_getElem? hx1)
      have HL := Lib.hid (show (flatH ((its xs).take k)).length ≤ 30000 from by rw [flatH_len]; exact Nat.le_trans (cntM_take k) HC.out)
      have hm100 := hxm.2
      unfold maxLen at hml
      clear hx1 hok hxm hr K
      go_wp2_with fail
      obtain ⟨gI, hgI⟩ : ∃ g, wr.heap.size = g := ⟨_, rfl⟩
      rw [hgI] at B1 ⊢
      generalize World.alloc wr _ = w3 at *
      have y0 := B1.out.cell0
      have y1 := B1.out.cell1
      dsimp only at y0 y1
      have yl := B1.out.lt
      clear x0 x1 x2 xl hc0 hc1 hbl
      generalize flatH ((its xs).take k) = fl at *
      go_wp2_with fail
      obtain ⟨wq, rfl⟩ : ∃ W, W = wr := ⟨_, rfl⟩
      go_loopw [3, 7, 18] (fun v _ i wr => ∃ j : Nat, j ≤ ms.length ∧ i = .int .i64 j ∧ Hid (RowH wr (w.heap.size + 1) v (fl ++ (ms.take j).map fun m => (nm, m))) ∧ Hid (KB1 w ⟨V, nv, vs, L, nl, ls, some ⟨b, off, none⟩, ni, xs⟩ wr) ∧ Hid (BlkI wr gI ⟨nm, XA, xc, ms⟩)) (fun _ _ i _ => ms.length - (intOf i).toNat)
      case atStart => exact ⟨0, by omega, rfl, by simpa [Hid] using R1.out, K1, B1⟩
      case round =>
        clear R1 K1 B1 y0 y1 yl
        obtain ⟨j, hj, rfl, hr, K, B⟩ := hrel
        have hok := K.out.items.2 _ HX.out
        have y0 := B.out.cell0
        have y1 := B.out.cell1
        dsimp only at y0 y1
        have yl := B.out.lt
        by_cases hlt2 : j < ms.length
        · have i1 : (j : Int) < (ms.length : Int) := by omega
          obtain ⟨bm, om, m, hA, hbm, hm1, _, d0, d1, d2, d3⟩ := SlAt.mark hok.1 (j := j) hlt2
          subst hA
          have HM := Lib.hid (show fl ++ ((ms.take (j + 1)).map fun m => ((nm, m) : Hd)) = (fl ++ (ms.take j).map fun m => ((nm, m) : Hd)) ++ [(nm, m)] from by rw [map_snoc (fun m => ((nm, m) : Hd)) hm1, List.append_assoc])
          have hl : (fl ++ (ms.take j).map fun m => ((nm, m) : Hd)).length ≤ 31000 := by
            rw [List.length_append, List.length_map, List.length_take]
            have := HL.out; omega
          have hba := ((Below.refl wr.heap.size wr).alloc (Nat.le_refl _) (.cells #[.int .i64 m.r, .int .i64 m.c, .int .i64 m.q, .int .u64 (m.t : Int)] 55)).alloc (by simp) (.cells #[.string ⟨nm.toArray⟩, .int .i64 m.r, .int .i64 m.c, .int .i64 m.q, .int .u64 (m.t : Int)] 100)
          have K2 := Lib.hid (K.out.next hba)
          have B2 := Lib.hid (B.out.below hba)
          have R2 := Lib.hid (kept_below hr.out hba)
          have S2 := Lib.hid (SlAt.litAt (enc := encH) encH_len (wr.alloc (.cells #[.int .i64 m.r, .int .i64 m.c, .int .i64 m.q, .int .u64 (m.t : Int)] 55)) (wr.heap.size + 1) (by simp) 100 [((nm, m) : Hd)] (by simp [maxLen]))
          clear hm1 hba hok
          obtain ⟨D, d, rfl, _, _, _⟩ := SlAt.of_own encH_len hr.out
          generalize (fl ++ (ms.take j).map fun m => ((nm, m) : Hd)) = ns at *
          go_wp2_with (at_builtin; refine wpList_append_sl _ encH 5 rfl (.tmp 22) (.tmp 27) 97 rfl encH_len (by omega) encH_one (w.heap.size + 1) 100 ti0 _ 48 Tryz.underlying97 hi0 hz0 hz1 hz2 rfl _ ns rfl R2.out _ 1 _ [(nm, m)] rfl rfl S2.out (by simp [maxLen]; omega) (by simp; omega) (by have := K2.out.size; simpa using this) ?_; intro v1 w1 hown hg hat; have KG := Lib.hid (K2.out.grown hg (fun k hk => (R2.out.lt k hk).1)); have BG := Lib.hid (show BlkI w1 gI ⟨nm, some ⟨bm, om, none⟩, xc, ms⟩ from (hg.block gI B2.out.lt (Ne.symm (row_ne R2.out B2.out (by decide)))).trans B2.out); have HO := Lib.hid hown; have HG := Lib.hid hg; clear hown hg hat)
          go_roundw
          case rel => exact ⟨j + 1, by omega, by go_num, by rw [HM.out]; exact HO, KG, BG⟩
          case measure => simp [intOf]; omega
        · have i1 : ¬ (j : Int) < (ms.length : Int) := by omega
          obtain rfl : j = ms.length := by omega
          rw [List.take_length] at hr
          clear hlt2 hok
          go_wp2_with fail
          go_roundw
          case rel => exact ⟨k + 1, by omega, by go_num, by rw [HS.out]; exact hr, K⟩
          case measure => simp [intOf]; omega
    · have i0 : ¬ (k : Int) < (xs.length : Int) := by omega
      obtain rfl : k = xs.length := by omega
      have hh := hr.out
      rw [← its_len xs, List.take_length] at hh
      have HH := Lib.hid (Joins.ownsRow_le hh (Nat.le_succ _))
      have HB := Lib.hid K.out.bel
      clear hlt K hr hh
      go_wp2_with fail
      go_ret
      exact ⟨⟨_, rfl, HH.out⟩, HB.out⟩

/-- How marks stand in a map: as they are. -/
def heldElem (v : Value) : Option (DataW Value × List MemPlace) := some (.held v, [])
def hZero : Hd := ([], Mk.zero)
/-- A map reads as marks by their dots. -/
def MapH (D : DataW Value) (l : List Hd) : Prop := ∀ d : DKey, D.atKey (dKey d) (.held (mkH hZero)) = .held (mkH ((lookH l d.1).getD hZero)) ∧ Maps.has D (dKey d) = (lookH l d.1).isSome
theorem MapH.start : MapH (.map []) [] := fun _ => ⟨rfl, rfl⟩
theorem MapH.step {D : DataW Value} {l : List Hd} (hD : IsMap D) (h : MapH D l) (x : Hd) (d : DKey) (hd : d.1 = dotH x) : MapH (D.put (dKey d) (.held (mkH x))) (l ++ [x]) := by
  intro e
  rw [lookH_snoc]
  by_cases k : e = d
  · subst k
    rw [atKey_put_same hD (dKey_is e), has_put_same hD (dKey_is e), if_pos hd.symm]
    exact ⟨rfl, rfl⟩
  · have hne : ¬ dotH x = e.1 := fun k2 => k (Subtype.ext (k2.symm.trans hd.symm))
    rw [atKey_put_other (fun k2 => k (dKey_inj _ _ k2)), has_put_other (fun k2 => k (dKey_inj _ _ k2)), if_neg hne]
    exact h e
/-- The map of a cart's marks. -/
abbrev OwnsH (W : World) (mb : Nat) (D : DataW Value) : Prop := W.ownsMap Tryz.prog 30 heldElem mb 30000 D

def MapR (hs : List Hd) (w : World) (e : Ending) (w' : World) : Prop := (∃ mb D, e = .returned (.map (some mb)) ∧ w.heap.size ≤ mb ∧ OwnsH w' mb D ∧ MapH D hs) ∧ Below w.heap.size w w'
set_option maxRecDepth 100000 in
set_option maxHeartbeats 4000000 in
theorem joByDot (c : CaV) (w : World) (hc : CaOK w c) (hf : Fits c.xs) (hv : ∀ h ∈ flatH (its c.xs), validD h.2.r h.2.c = true) :
    Calls Tryz.prog 121 #[mkC c] w (MapR (flatH (its c.xs)) w) := by
  have hmm := @run_makeMap Tryz.prog
  have K0 := Lib.hid (KB1.new w _ hc)
  have HF := Lib.hid fun W (h : CaOK W c) => joFlat c W h hf
  have HC := Lib.hid (show (flatH (its c.xs)).length ≤ 30000 from by rw [flatH_len]; exact cntM_fits hf)
  have HV := Lib.hid hv
  clear hc hf hv
  generalize flatH (its c.xs) = hs at *
  go_enter Tryz.func121, Tryz.ntmps121
  go_wp2_with fail
  have M0 := Lib.hid (World.ownsMap_made (w.alloc (.cells #[c.v, c.l, c.i] 28)) Tryz.prog 30 heldElem)
  have K1 := Lib.hid (K0.out.alloc (.map #[] 0))
  rw [World.size_alloc] at M0
  generalize World.alloc (World.alloc w _) _ = w2 at *
  refine (HF.out _ K1.out.ok).mono ?_
  rintro e w3 ⟨⟨v, rfl, hrow⟩, hb⟩
  obtain ⟨A, cap, rfl, _, hcm, hat⟩ := SlAt.of_own encH_len hrow
  have K2 := Lib.hid (K1.out.next hb)
  have M2 := Lib.hid (M0.out.kept (grown_of_below hb none) (by simp))
  have hsz : w.heap.size + 1 < w2.heap.size := M0.out.lt
  have R2 := Lib.hid hrow
  clear hb hat M0 K0 K1 hrow hmm
  go_wp2_with fail
  go_loopw [5, 10] (fun _ i wr => ∃ m : Nat, m ≤ hs.length ∧ i = .int .i64 m ∧ Hid (KB1 w c wr) ∧ Hid (RowH wr w2.heap.size (.slice A hs.length cap) hs) ∧ ∃ D, Hid (wr.ownsMap Tryz.prog 30 heldElem (w.heap.size + 1) m D) ∧ Hid (MapH D (hs.take m))) (fun _ i _ => hs.length - (intOf i).toNat)
  case atStart => exact ⟨0, by omega, rfl, K2, R2, .map [], M2, MapH.start⟩
  case round =>
    clear K2 R2 M2
    obtain ⟨m, hk2, rfl, K, R, D, hown, hD⟩ := hrel
    have hlen := HC.out
    by_cases hlt : m < hs.length
    · have i0 : (m : Int) < (hs.length : Int) := by omega
      obtain ⟨b, off, x, hA, hbl, hx1, hc0, hc1, hc2, hc3, hc4⟩ := (show HeldAt wr A hs from by
        obtain ⟨A', c', e, _, _, h⟩ := SlAt.of_own encH_len R.out
        cases e; exact h).held (j := m) hlt
      subst hA
      have hvx := HV.out x (List.mem_of_getElem? hx1)
      have hkey := keyOf_dot ⟨(x.2.r, x.2.c), hvx⟩
      have HST := Lib.hid (show MapH _ (hs.take (m + 1)) from by rw [take_step hx1]; exact hD.out.step hown.out.isMap x ⟨(x.2.r, x.2.c), hvx⟩ rfl)
      have B1 := Lib.hid (BlkH.new wr x)
      have K1 := Lib.hid (K.out.alloc (.cells #[.string ⟨x.1.toArray⟩, .int .i64 x.2.r, .int .i64 x.2.c, .int .i64 x.2.q, .int .u64 (x.2.t : Int)] 100))
      have R1 := Lib.hid (R.out.alloc (.cells #[.string ⟨x.1.toArray⟩, .int .i64 x.2.r, .int .i64 x.2.c, .int .i64 x.2.q, .int .u64 (x.2.t : Int)] 100))
      have M1 := Lib.hid (hown.out.alloc (.cells #[.string ⟨x.1.toArray⟩, .int .i64 x.2.r, .int .i64 x.2.c, .int .i64 x.2.q, .int .u64 (x.2.t : Int)] 100))
      clear hx1 K R hown hD
      go_wp2_with (first
        | (at_mapUpdate; refine wpList_mapUpdate_own _ rfl _ _ _ 145 rfl 30 100 lawDotK Tryz.underlying145 heldElem (w.heap.size + 1) _ _ rfl M1.out (by unfold maxLen; omega) _ _ _ rfl rfl hkey _ [] rfl ?_; intro w1 hown1 hgrow1)
        | go_in)
      have K3 := Lib.hid (K1.out.grown hgrow1 (fun k hk => by cases hk; exact Nat.le_refl _))
      have R3 := Lib.hid (R1.out.kept hgrow1 (.inr (fun e => by have := (R1.out.lt _ e).1; omega)))
      have M3 := Lib.hid hown1
      clear K1 R1 M1 hown1 hgrow1
      go_roundw
      case rel => exact ⟨m + 1, by omega, by go_num, K3, R3, _, M3, HST⟩
      case measure => simp [intOf]; omega
    · have i0 : ¬ (m : Int) < (hs.length : Int) := by omega
      obtain rfl : m = hs.length := by omega
      rw [List.take_length] at hD
      have M3 := Lib.hid (hown.out.mono hlen)
      clear hlt hown R
      go_wp2_with fail
      go_ret
      exact ⟨⟨_, D, rfl, by omega, M3.out, hD.out⟩, K.out.bel⟩

end

end Go.Proofs.YtiaehpdgpjhecaaGreat
