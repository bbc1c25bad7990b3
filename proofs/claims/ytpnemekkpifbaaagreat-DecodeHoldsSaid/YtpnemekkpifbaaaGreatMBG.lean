/- Several texts in one: DecX6, DecX7, DecX8, DecX9. -/
import Derived.Test.YtpnemekkpifbaaaGreatMBF
import Derived.Test.YtpnemekkpifbaaaGreatMAX
import Derived.Test.YtpnemekkpifbaaaGreatMAZ
namespace Go.Proofs.YtpnemekkpifbaaaGreat

section
open Go.RowKit

theorem rowX_holds {W : World} {B d k : Nat} {D E : Option Addr} {vs ls : List (Int × Int)} (h : RowX W B D E d k vs ls) : HoldsC W (.agg #[.slice D vs.length d, .slice E ls.length k]) vs ls := by
  obtain ⟨X1, X2, X3, X4, X5, X6⟩ := SlAt.of_own encD_len h.1
  obtain ⟨Y1, Y2, Y3, Y4, Y5, Y6⟩ := SlAt.of_own encD_len h.2
  exact ⟨_, _, _, _, rfl, ⟨X1, X2, X3, X6, X4, X5⟩, ⟨Y1, Y2, Y3, Y6, Y4, Y5⟩⟩
/-- Rows of the call's own stay where a box of another type is stored into. -/
theorem own_off {W W' : World} {B b n k : Nat} {e t : TypeId} {v : Value} {xs : List Value} {cs : Array Value} {z : Nat × Nat} (h : W.ownsRow B e k v n xs) (hb : W.heap[b]? = some (.cells cs t z)) (ht : t ≠ e) (hc : Chg (fun j => j = b) W W') : W'.ownsRow B e k v n xs := ownKeep15 h hc fun _ hj e1 => ownNe15 h hb ht (e1 ▸ hj)
theorem qX0_len {l : List UInt8} {x : List (Int × Int) × List (Int × Int)} {z : Nat} (h : qX0 l = some (x, z)) : 2 * x.1.length + 2 * x.2.length ≤ l.length := by
  have h1 := Asks.qX0.sub h
  have h2 := reads_pX.len h1
  have h3 := reads_pX.le h1
  have k1 := byL_ge (f := byD) (g := fun _ => 2) (l := x.1) fun d _ => byD_ge d
  have k2 := byL_ge (f := byD) (g := fun _ => 2) (l := x.2) fun d _ => byD_ge d
  rw [sum_const] at k1 k2
  have hl : (byX x).length = (byL byD x.1).length + (byL byD x.2).length := by unfold byX; rw [List.length_append]
  omega

set_option maxRecDepth 100000 in
set_option maxHeartbeats 4000000 in
theorem readContext (g : Nat) (A : Option Addr) (c : Nat) (xs : List UInt8) (i : Nat) (w : World) (h : Rd w g A c xs i) (h17 : xs.length ≤ 170000) :
    Calls Tryz.prog 50 #[.pointer (some ⟨g, 0, none⟩)] w (RdQ qX (fun x v W => ∃ (D E : Option Addr) (d k : Nat), v = .agg #[.slice D x.1.length d, .slice E x.2.length k] ∧ RowX W w.heap.size D E d k x.1 x.2) g A c xs i w) := by
  have hal : Below w.heap.size w (w.alloc (.cells #[.slice none 0 0, .slice none 0 0] 28)) := (Below.refl _ _).alloc (Nat.le_refl _) _
  have HAL := Lib.hid hal
  have HN0 := Lib.hid (heap_alloc_new w (.cells #[.slice none 0 0, .slice none 0 0] 28))
  have hg := h.lt
  have HG := Lib.hid (show w.heap.size ≠ g by omega)
  have HGL := Lib.hid hg
  have H1 := Lib.hid (readDots g A c xs i _ (h.below hal))
  have H0 := Lib.hid h
  have H17 := Lib.hid h17
  clear h hal hg h17
  go_enter Tryz.func50, Tryz.ntmps50
  go_wp2_with fail
  generalize World.alloc w _ = w0 at *
  refine H1.out.mono ?_
  rintro e w1 ⟨k1, k2, k3⟩
  have HC1 := Lib.hid ((Chg.of_below (S := fun k => k = g) HAL.out).trans k3 fun _ _ e => e)
  cases hq1 : qL qD (xs.drop i) with
  | none =>
    obtain rfl := k2 hq1
    exact ⟨rfl, RdQ.bad (pIf_none.2 (.inl (and_none1 hq1))) HC1.out⟩
  | some v =>
    obtain ⟨vs, z⟩ := v
    obtain ⟨u, rfl, ⟨D, d, rfl, ho⟩, hR⟩ := k1 _ _ hq1
    have HQ1 := Lib.hid hq1
    have HO1 := Lib.hid (Go.Joins.ownsRow_le ho HAL.out.size)
    have HN1 := Lib.hid (k3.mine HN0.out HG.out)
    have H2 := Lib.hid (readDots g A c xs (i + z) w1 hR)
    clear k1 k2 k3 hq1 hR H1 HN0 HAL ho
    go_wp2_with fail
    refine H2.out.mono ?_
    rintro e w2 ⟨k1, k2, k3⟩
    have HC2 := Lib.hid (HC1.out.trans k3 fun _ _ e => e)
    cases hq2 : qL qD (xs.drop (i + z)) with
    | none =>
      obtain rfl := k2 hq2
      exact ⟨rfl, RdQ.bad (pIf_none.2 (.inl (and_none2 HQ1.out hq2))) HC2.out⟩
    | some v =>
      obtain ⟨ls, z'⟩ := v
      obtain ⟨u, rfl, ⟨E, k, rfl, ho⟩, hR⟩ := k1 _ _ hq2
      have HX2 := Lib.hid (show RowX w2 w.heap.size D E d k vs ls from ⟨own_chg HO1.out k3 (fun b hb e => by have := HGL.out; omega), Go.Joins.ownsRow_le ho HC1.out.size⟩)
      have HQ := Lib.hid (show qX0 (xs.drop i) = some ((vs, ls), z + z') from and_some HQ1.out hq2)
      have HR2 := Lib.hid hR
      have hn2 := k3.mine HN1.out HG.out
      have hal : Below w2.heap.size w2 (w2.alloc (.cells #[.slice D vs.length d, .slice E ls.length k] 28)) := (Below.refl _ _).alloc (Nat.le_refl _) _
      have HNEW := Lib.hid (heap_alloc_new w2 (.cells #[.slice D vs.length d, .slice E ls.length k] 28))
      have HC3 := Lib.hid (HC2.out.trans (Chg.of_below (S := fun k => k = g) hal) fun _ _ e => e)
      have HR3 := Lib.hid (HR2.out.below hal)
      have HX3 := Lib.hid (HX2.out.chg (.of_below (S := fun _ => False) hal) fun _ _ e => e)
      have HN3 := Lib.hid ((hal.block _ (Array.getElem?_eq_some_iff.1 hn2).1).trans hn2)
      have HLB := Lib.hid (show w.heap.size < w2.heap.size from (Array.getElem?_eq_some_iff.1 hn2).1)
      obtain ⟨cb, hcb⟩ : ∃ cb, compC vs ls = cb := ⟨_, rfl⟩
      have HCB := Lib.hid hcb
      have HLEN := Lib.hid (show vs.length + ls.length ≤ 90000 from by
        have k5 := qX0_len HQ.out
        have k6 := H17.out
        rw [List.length_drop] at k5
        simp only at k5
        omega)
      have HCOM := Lib.hid (ctxIsCompact_o _ vs ls cb _ (rowX_holds HX3.out) HLEN.out hcb)
      clear k1 k2 k3 hq2 hR hn2 hal ho hcb HX2 HR2
      go_wp2_with fail
      generalize World.alloc w2 _ = w3 at *
      refine HCOM.out.mono ?_
      rintro e w4 ⟨rfl, hb4⟩
      have HC4 := Lib.hid (HC3.out.trans (Chg.of_below (S := fun k => k = g) hb4) fun _ _ e => e)
      cases cb with
      | false =>
        clear hb4
        go_wp2_with (go_at_call 48; refine (check_f _).mono ?_; rintro e w5 ⟨rfl, rfl⟩)
        exact ⟨rfl, RdQ.bad (pIf_none.2 (.inr ⟨_, HQ.out, HCB.out⟩)) HC4.out⟩
      | true =>
        have HR4 := Lib.hid (HR3.out.below hb4)
        have HX4 := Lib.hid (HX3.out.chg (.of_below (S := fun _ => False) hb4) fun _ _ e => e)
        have hn4 := (hb4.block _ (Array.getElem?_eq_some_iff.1 HN3.out).1).trans HN3.out
        have hnew := (hb4.block _ (Array.getElem?_eq_some_iff.1 HNEW.out).1).trans HNEW.out
        have c0 := cellW (i := 0) hn4
        have c1 := cellW (i := 1) hn4
        have f0 := frozenW (i := 0) hn4
        have f1 := frozenW (i := 1) hn4
        have m0 := cellW (i := 0) hnew
        have m1 := cellW (i := 1) hnew
        have hs := set2 (x := .slice D vs.length d) (y := .slice E ls.length k) hn4
        have s0 := cellW (i := 0) hs
        have s1 := cellW (i := 1) hs
        have hch : Chg (fun k => k = w.heap.size) w4 ((w4.setCell ⟨w.heap.size, 0, none⟩ (.slice D vs.length d)).setCell ⟨w.heap.size, 1, none⟩ (.slice E ls.length k)) := (chg_set _ _ _ _).trans (chg_set _ _ _ _) fun _ _ e => e
        have HF := Lib.hid (show RdQ qX (fun x v W => ∃ (D E : Option Addr) (d k : Nat), v = .agg #[.slice D x.1.length d, .slice E x.2.length k] ∧ RowX W w.heap.size D E d k x.1 x.2) g A c xs i w (.returned (.agg #[.slice D vs.length d, .slice E ls.length k])) ((w4.setCell ⟨w.heap.size, 0, none⟩ (.slice D vs.length d)).setCell ⟨w.heap.size, 1, none⟩ (.slice E ls.length k)) from
          RdQ.good (pIf_some.2 ⟨HQ.out, HCB.out⟩) ⟨D, E, d, k, rfl, ⟨own_off HX4.out.1 hn4 (by decide) hch, own_off HX4.out.2 hn4 (by decide) hch⟩⟩ (by rw [← Nat.add_assoc]; exact H0.out.keep HR4.out hch fun k e => by omega) (HC4.out.mine_set hch fun k e => by omega))
        clear hn4 hnew hs hch hb4
        go_wp2_with (go_at_call 48; refine (check_t _).mono ?_; rintro e w5 ⟨rfl, rfl⟩)
        exact bodyPost_ret (v := .agg #[.slice D vs.length d, .slice E ls.length k]) (by simp [results, Tryz.results50, go_sem, s0, s1]) rfl HF.out

end

section
open Go.RowKit

def SaysIt (B : Nat) (x : It) (v : Value) (W : World) : Prop := ∃ y : ItV, v = .agg #[.string ⟨y.nm.toArray⟩, .slice y.A y.ms.length y.c] ∧ y.it = x ∧ RowM15 W B (slV15 y) y.ms

set_option maxRecDepth 100000 in
set_option maxHeartbeats 4000000 in
theorem readItem (g : Nat) (A : Option Addr) (c : Nat) (xs : List UInt8) (i : Nat) (w : World) (h : Rd w g A c xs i) :
    Calls Tryz.prog 52 #[.pointer (some ⟨g, 0, none⟩)] w (RdQ qI (SaysIt w.heap.size) g A c xs i w) := by
  have hal : Below w.heap.size w (w.alloc (.cells #[.string ⟨#[]⟩, .slice none 0 0] 57)) := (Below.refl _ _).alloc (Nat.le_refl _) _
  have HAL := Lib.hid hal
  have HN0 := Lib.hid (heap_alloc_new w (.cells #[.string ⟨#[]⟩, .slice none 0 0] 57))
  have hg := h.lt
  have HG := Lib.hid (show w.heap.size ≠ g by omega)
  have HGL := Lib.hid hg
  obtain ⟨t, ht⟩ : ∃ t, rdS (xs.drop i) 64 = t := ⟨_, rfl⟩
  have H1 := Lib.hid (textTry g A c xs i 64 _ (h.below hal) (by decide) (by decide) t ht)
  have H0 := Lib.hid h
  have HT := Lib.hid ht
  clear h hal hg ht
  obtain ⟨nm, z, er⟩ := t
  by_cases her : er = 0
  · subst her
    have HQ1 := Lib.hid (show qS (xs.drop i) = some (nm, z) from by unfold qS; rw [HT.out]; rfl)
    go_enter Tryz.func52, Tryz.ntmps52
    go_wp2_with fail
    generalize World.alloc w _ = w0 at *
    refine H1.out.mono ?_
    rintro e w1 ⟨rfl, hR, k3⟩
    rw [if_pos rfl] at hR
    have HC1 := Lib.hid ((Chg.of_below (S := fun k => k = g) HAL.out).trans k3 fun _ _ e => e)
    have HN1 := Lib.hid (k3.mine HN0.out HG.out)
    have H2 := Lib.hid (readMarks g A c xs (i + z) w1 hR)
    clear k3 hR H1 HN0 HAL HT
    go_wp2_with (go_at_call 48; refine (check_t _).mono ?_; rintro e w5 ⟨rfl, rfl⟩)
    refine H2.out.mono ?_
    rintro e w2 ⟨k1, k2, k3⟩
    have HC2 := Lib.hid (HC1.out.trans k3 fun _ _ e => e)
    cases hq2 : qL qM (xs.drop (i + z)) with
    | none =>
      obtain rfl := k2 hq2
      exact ⟨rfl, RdQ.bad (pIf_none.2 (.inl (and_none2 HQ1.out hq2))) HC2.out⟩
    | some v =>
      obtain ⟨ms, z'⟩ := v
      obtain ⟨u, rfl, ⟨M, m, rfl, ho⟩, hR⟩ := k1 _ _ hq2
      have HQ := Lib.hid (show qI0 (xs.drop i) = some ((nm, ms), z + z') from and_some HQ1.out hq2)
      have hn2 := k3.mine HN1.out HG.out
      have hal : Below w2.heap.size w2 (w2.alloc (.cells #[.string ⟨nm.toArray⟩, .slice M ms.length m] 57)) := (Below.refl _ _).alloc (Nat.le_refl _) _
      have HNEW := Lib.hid (heap_alloc_new w2 (.cells #[.string ⟨nm.toArray⟩, .slice M ms.length m] 57))
      have HC3 := Lib.hid (HC2.out.trans (Chg.of_below (S := fun k => k = g) hal) fun _ _ e => e)
      have HR3 := Lib.hid (hR.below hal)
      have HO3 := Lib.hid (own_chg (Go.Joins.ownsRow_le ho HC1.out.size) (.of_below (S := fun _ => False) hal) fun _ _ e => e)
      have HN3 := Lib.hid ((hal.block _ (Array.getElem?_eq_some_iff.1 hn2).1).trans hn2)
      have HLB := Lib.hid (show w.heap.size < w2.heap.size from (Array.getElem?_eq_some_iff.1 hn2).1)
      clear k1 k2 k3 hq2 hR hn2 hal ho HQ1
      by_cases h0 : 0 < ms.length
      · have i0 : (0 : Int) < (ms.length : Int) := by omega
        have H0L := Lib.hid h0
        clear h0
        go_wp2_with fail
        rw [show decide (0 < ms.length) = true from by simpa using H0L.out]
        generalize World.alloc w2 _ = w3 at *
        refine (check_t _).mono ?_
        rintro e w5 ⟨rfl, rfl⟩
        have c0 := cellW (i := 0) HN3.out
        have c1 := cellW (i := 1) HN3.out
        have f0 := frozenW (i := 0) HN3.out
        have f1 := frozenW (i := 1) HN3.out
        have m0 := cellW (i := 0) HNEW.out
        have m1 := cellW (i := 1) HNEW.out
        have hs := set2 (x := .string ⟨nm.toArray⟩) (y := .slice M ms.length m) HN3.out
        have s0 := cellW (i := 0) hs
        have s1 := cellW (i := 1) hs
        have hch : Chg (fun k => k = w.heap.size) w3 ((w3.setCell ⟨w.heap.size, 0, none⟩ (.string ⟨nm.toArray⟩)).setCell ⟨w.heap.size, 1, none⟩ (.slice M ms.length m)) := (chg_set _ _ _ _).trans (chg_set _ _ _ _) fun _ _ e => e
        have HF := Lib.hid (show RdQ qI (SaysIt w.heap.size) g A c xs i w (.returned (.agg #[.string ⟨nm.toArray⟩, .slice M ms.length m])) ((w3.setCell ⟨w.heap.size, 0, none⟩ (.string ⟨nm.toArray⟩)).setCell ⟨w.heap.size, 1, none⟩ (.slice M ms.length m)) from
          RdQ.good (pIf_some.2 ⟨HQ.out, by simpa using H0L.out⟩) ⟨⟨nm, M, m, ms⟩, rfl, rfl, own_off HO3.out HN3.out (by decide) hch⟩ (by rw [← Nat.add_assoc]; exact H0.out.keep HR3.out hch fun k e => by omega) (HC3.out.mine_set hch fun k e => by omega))
        clear hs hch
        go_wp2_with fail
        exact bodyPost_ret (v := .agg #[.string ⟨nm.toArray⟩, .slice M ms.length m]) (by simp [results, Tryz.results52, go_sem, s0, s1]) rfl HF.out
      · obtain rfl : ms = [] := List.length_eq_zero_iff.1 (by omega)
        clear h0
        go_wp2_with fail
        refine (check_f _).mono ?_
        rintro e w5 ⟨rfl, rfl⟩
        exact ⟨rfl, RdQ.bad (pIf_none.2 (.inr ⟨_, HQ.out, by simp⟩)) HC3.out⟩
  · have HQ1 := Lib.hid (show qS (xs.drop i) = none from by unfold qS; rw [HT.out, if_neg her])
    have z0 : (er == 0) = false := by simp [her]
    clear her HT
    go_enter Tryz.func52, Tryz.ntmps52
    go_wp2_with fail
    generalize World.alloc w _ = w0 at *
    refine H1.out.mono ?_
    rintro e w1 ⟨rfl, hR, k3⟩
    have HC1 := Lib.hid ((Chg.of_below (S := fun k => k = g) HAL.out).trans k3 fun _ _ e => e)
    clear k3 hR
    go_wp2_with (go_at_call 48; refine (check_f _).mono ?_; rintro e w5 ⟨rfl, rfl⟩)
    exact ⟨rfl, RdQ.bad (pIf_none.2 (.inl (and_none1 HQ1.out))) HC1.out⟩

end

section
open Go.RowKit

def SaysIts (B : Nat) (l : List It) (v : Value) (W : World) : Prop := ∃ (ys : List ItV) (D : Option Addr) (d : Nat), v = .slice D ys.length d ∧ its ys = l ∧ RowI15 W B (.slice D ys.length d) ys ∧ ∀ y ∈ ys, RowM15 W B (slV15 y) y.ms

set_option maxRecDepth 100000 in
set_option maxHeartbeats 4000000 in
theorem readItems (g : Nat) (A : Option Addr) (c : Nat) (xs : List UInt8) (i : Nat) (w : World) (h : Rd w g A c xs i) :
    Calls Tryz.prog 51 #[.pointer (some ⟨g, 0, none⟩), .func (.func 52) #[] #[]] w (RdQ (qL qI) (SaysIts w.heap.size) g A c xs i w) := by
  obtain ⟨ti0, hi0, hz0, hz1, hz2⟩ := info_parts infoIt
  have HL := Lib.hid (leftAt g A c xs i w h)
  have H0 := Lib.hid h
  have HG := Lib.hid h.lt
  have HMX := Lib.hid h.2.2.2.2.1
  have hmx := h.2.2.2.2.1
  have HNUM := Lib.hid fun (W : World) (k : Rd W g A c xs i) => readNum g A c xs i (xs.length - i) W k (by omega)
  have HDOT := Lib.hid fun (j : Nat) (W : World) (k : Rd W g A c xs j) => readItem g A c xs j W k
  clear h hmx
  go_enter Tryz.func51, Tryz.ntmps51
  go_wp2_with fail
  refine HL.out.mono ?_
  rintro e w1 ⟨rfl, hb⟩
  have HB := Lib.hid hb
  have HN1 := Lib.hid (HNUM.out w1 (H0.out.below hb))
  clear hb HL HNUM
  go_wp2_with fail
  refine HN1.out.mono ?_
  rintro e w2 ⟨k1, k2, k3⟩
  have HC2 := Lib.hid ((Chg.of_below (S := fun k => k = g) HB.out).trans k3 fun _ _ e => e)
  cases hq1 : qZ (xs.length - i) (xs.drop i) with
  | none =>
    obtain rfl := k2 hq1
    exact ⟨rfl, RdQ.bad (qL_no1 (qZ_no hq1)) HC2.out⟩
  | some v =>
    obtain ⟨a, z1⟩ := v
    obtain ⟨u, rfl, rfl, hR⟩ := k1 _ _ hq1
    obtain ⟨N, rfl, hqn, hNle⟩ := qZ_inv hq1
    have HQN := Lib.hid hqn
    have HRS := Lib.hid hR
    have hN : N ≤ 1000000 := by have := HMX.out; omega
    clear k1 k2 k3 hq1 hR hqn hNle HN1 HB
    go_wp2_with fail
    go_loopw [5, 10] (fun v n wr => ∃ (k z : Nat) (D : Option Addr) (d : Nat) (ds : List ItV), v = .slice D ds.length d ∧ n = .int .i64 (k : Nat) ∧ k ≤ N ∧ Hid (ds.length = k) ∧ Hid (pRep qI k (xs.drop (i + z1)) = some (its ds, z)) ∧ Hid (Rd wr g A c xs (i + z1 + z)) ∧ Hid (RowI15 wr w.heap.size (.slice D ds.length d) ds) ∧ Hid (∀ y ∈ ds, RowM15 wr w.heap.size (slV15 y) y.ms) ∧ Hid (Chg (fun k => k = g) w wr)) (fun _ n _ => N - (intOf n).toNat)
    case atStart => exact ⟨0, 0, none, 0, [], rfl, rfl, Nat.zero_le _, rfl, rfl, HRS.out, World.ownsRow_nil _ _ _ _, (fun y hy => by cases hy), HC2.out⟩
    case round =>
      clear HRS HC2
      obtain ⟨k, z, D, d, ds, rfl, rfl, hkN, hlen, hrep, hI, hO, hM, hC⟩ := hrel
      by_cases hke : k = N
      · subst hke
        have HF := Lib.hid (show RdQ (qL qI) (SaysIts w.heap.size) g A c xs i w (.returned (.slice D ds.length d)) wr from
          RdQ.good (qL_some HQN.out hrep.out) ⟨ds, D, d, rfl, rfl, hO.out, hM.out⟩ (by rw [← Nat.add_assoc]; exact hI.out) hC.out)
        clear hlen hrep hI hO hM hC
        go_wp2_with fail
        go_ret
        exact HF.out
      · have i0 : (k : Int) < (N : Int) := by omega
        have HD := Lib.hid (HDOT.out _ wr hI.out)
        have hkM : k < 1000000 := by omega
        go_wp2_with fail
        refine HD.out.mono ?_
        rintro e w3 ⟨k1, k2, k3⟩
        have HC3 := Lib.hid (hC.out.trans k3 fun _ _ e => e)
        cases hq2 : qI (xs.drop (i + z1 + z)) with
        | none =>
          obtain rfl := k2 hq2
          have e1 : pRep qI N (xs.drop (i + z1)) = none := by
            have e2 := rep_none hrep.out hq2 (N - k - 1)
            rw [show k + 1 + (N - k - 1) = N by omega] at e2
            exact e2
          exact ⟨rfl, RdQ.bad (qL_no2 HQN.out e1) HC3.out⟩
        | some v =>
          obtain ⟨a, z2⟩ := v
          obtain ⟨u, rfl, ⟨y, rfl, hy, hym⟩, hR⟩ := k1 _ _ hq2
          have HR3 := Lib.hid hR
          have HO3 := Lib.hid (own_chg hO.out k3 (fun b hb e => by have := HG.out; omega))
          have HREP := Lib.hid (show pRep qI (k + 1) (xs.drop (i + z1)) = some (its (ds ++ [y]), z + z2) from by rw [rep_succ hrep.out hq2, ← hy]; simp [its])
          have HM3 := Lib.hid (show ∀ u ∈ ds ++ [y], RowM15 w3 w.heap.size (slV15 u) u.ms from fun u hu => by
            rcases List.mem_append.1 hu with k | k
            · exact own_chg (hM.out u k) k3 fun b hb e => by have := HG.out; omega
            · rw [List.mem_singleton] at k
              subst k
              exact Go.Joins.ownsRow_le hym hC.out.size)
          have HLEN := Lib.hid hlen.out
          clear k1 k2 k3 hq2 hR hrep hI hO hM hC HD hlen hy hym
          go_wp2_with (at_builtin; refine wpList_append_sl _ encIt 2 rfl (.tmp 12) (.tmp 16) 29 rfl encIt_len (by omega) encIt_one w.heap.size 57 ti0 _ 40 Tryz.underlying29 hi0 hz0 hz1 hz2 rfl (.slice D ds.length d) ds rfl (HO3.out.alloc _) _ 1 _ [y] rfl rfl (SlAt.one (heap_alloc_new _ _)) (by simp [maxLen]; have := HLEN.out; omega) (by simp; have := HLEN.out; omega) (by have := HC3.out.size; simp; omega) ?_; intro v3 w4 hown3 hg3 hat3; obtain ⟨D3, d3, rfl, _⟩ := SlAt.of_own encIt_len hown3)
          have HM4 := Lib.hid (show ∀ u ∈ ds ++ [y], RowM15 w4 w.heap.size (slV15 u) u.ms from fun u hu =>
            have h5 := own_chg (HM3.out u hu) (.of_below (S := fun _ => False) ((Below.refl _ w3).alloc (Nat.le_refl _) _)) fun _ _ e => e
            ownKeep15 h5 (Chg.of_grown hg3 (S := fun j => (Value.slice D ds.length d).ownBlock = some j) fun _ e => e) (ownOwn15 (own_chg HO3.out (.of_below (S := fun _ => False) ((Below.refl _ w3).alloc (Nat.le_refl _) _)) fun _ _ e => e) h5 (by decide)))
          have hgr : Chg (fun b => w.heap.size ≤ b) w3 w4 := (Chg.of_below ((Below.refl _ _).alloc (Nat.le_refl _) _)).trans (Chg.of_grown (S := fun b => w.heap.size ≤ b) hg3 fun b e => (HO3.out.lt b e).1) fun _ _ e => e
          have HI4 := Lib.hid (H0.out.keep HR3.out hgr fun _ e => e)
          have HC4 := Lib.hid (HC3.out.mine_set hgr fun _ e => e)
          have HO4 := Lib.hid hown3
          clear hgr hown3 hg3 hat3
          go_roundw
          case rel => exact ⟨k + 1, z + z2, D3, d3, ds ++ [y], by simp, by go_num, by omega, (show (ds ++ [y]).length = k + 1 from by rw [List.length_append, HLEN.out]; rfl), HREP.out, (show Rd w4 g A c xs (i + z1 + (z + z2)) from by rw [← Nat.add_assoc]; exact HI4.out), HO4.out, HM4.out, HC4.out⟩
          case measure => simp [intOf]; omega

end

section
open Go.RowKit

def SaysCa (B : Nat) (ca : Ca) (v : Value) (W : World) : Prop := ∃ z : CaV, v = mkC z ∧ z.ca = ca ∧ OwnC W B z
theorem OwnC.chg {W W' : World} {B : Nat} {z : CaV} {S : Nat → Prop} (h : OwnC W B z) (hc : Chg S W W') (hn : ∀ b, B ≤ b → ¬ S b) : OwnC W' B z := ⟨h.1.chg hc hn, own_chg h.2.1 hc hn, fun y hy => own_chg (h.2.2 y hy) hc hn⟩
theorem OwnC.off {W W' : World} {B b : Nat} {z : CaV} {cs : Array Value} (h : OwnC W B z) (hb : W.heap[b]? = some (.cells cs 31 (0, 0))) (hc : Chg (fun j => j = b) W W') : OwnC W' B z :=
  ⟨⟨own_off h.1.1 hb (by decide) hc, own_off h.1.2 hb (by decide) hc⟩, own_off h.2.1 hb (by decide) hc, fun y hy => own_off (h.2.2 y hy) hb (by decide) hc⟩

set_option maxRecDepth 100000 in
set_option maxHeartbeats 4000000 in
theorem readCart (g : Nat) (A : Option Addr) (c : Nat) (xs : List UInt8) (i : Nat) (w : World) (h : Rd w g A c xs i) (h17 : xs.length ≤ 170000) :
    Calls Tryz.prog 31 #[.pointer (some ⟨g, 0, none⟩)] w (RdQ qC (SaysCa w.heap.size) g A c xs i w) := by
  have hal : Below w.heap.size w (w.alloc (.cells #[.slice none 0 0, .slice none 0 0, .slice none 0 0] 31)) := (Below.refl _ _).alloc (Nat.le_refl _) _
  have HAL := Lib.hid hal
  have HN0 := Lib.hid (heap_alloc_new w (.cells #[.slice none 0 0, .slice none 0 0, .slice none 0 0] 31))
  have hg := h.lt
  have HG := Lib.hid (show w.heap.size ≠ g by omega)
  have HGL := Lib.hid hg
  have H1 := Lib.hid (readContext g A c xs i _ (h.below hal) h17)
  have H0 := Lib.hid h
  have H17 := Lib.hid h17
  clear h hal hg h17
  go_enter Tryz.func31, Tryz.ntmps31
  go_wp2_with fail
  generalize World.alloc w _ = w0 at *
  refine H1.out.mono ?_
  rintro e w1 ⟨k1, k2, k3⟩
  have HC1 := Lib.hid ((Chg.of_below (S := fun k => k = g) HAL.out).trans k3 fun _ _ e => e)
  cases hq1 : qX (xs.drop i) with
  | none =>
    obtain rfl := k2 hq1
    exact ⟨rfl, RdQ.bad (pIf_none.2 (.inl (and_none1 hq1))) HC1.out⟩
  | some v =>
    obtain ⟨⟨vs, ls⟩, z⟩ := v
    obtain ⟨u, rfl, ⟨D, E, d, k, rfl, ho⟩, hR⟩ := k1 _ _ hq1
    have HQ1 := Lib.hid hq1
    have HX1 := Lib.hid (ho.le HAL.out.size)
    have HN1 := Lib.hid (k3.mine HN0.out HG.out)
    have H2 := Lib.hid (readItems g A c xs (i + z) w1 hR)
    clear k1 k2 k3 hq1 hR H1 HN0 HAL ho
    go_wp2_with fail
    refine H2.out.mono ?_
    rintro e w2 ⟨k1, k2, k3⟩
    have HC2 := Lib.hid (HC1.out.trans k3 fun _ _ e => e)
    cases hq2 : qL qI (xs.drop (i + z)) with
    | none =>
      obtain rfl := k2 hq2
      exact ⟨rfl, RdQ.bad (pIf_none.2 (.inl (and_none2 HQ1.out hq2))) HC2.out⟩
    | some v =>
      obtain ⟨its', z'⟩ := v
      obtain ⟨u, rfl, ⟨ys, I, ni, rfl, hits, hoi, hom⟩, hR⟩ := k1 _ _ hq2
      obtain ⟨y, hy⟩ : ∃ y : CaV, y = ⟨D, d, vs, E, k, ls, I, ni, ys⟩ := ⟨_, rfl⟩
      have hyv : y.v = .slice D vs.length d ∧ y.l = .slice E ls.length k ∧ y.i = .slice I ys.length ni := by subst hy; exact ⟨rfl, rfl, rfl⟩
      have hyc : mkC y = .agg #[.slice D vs.length d, .slice E ls.length k, .slice I ys.length ni] := by subst hy; rfl
      have HOC2 := Lib.hid (show OwnC w2 w.heap.size y from by
        subst hy
        exact ⟨HX1.out.chg k3 fun b hb e => by have := HGL.out; omega, Go.Joins.ownsRow_le hoi HC1.out.size, fun u hu => Go.Joins.ownsRow_le (hom u hu) HC1.out.size⟩)
      have HQ := Lib.hid (show qC0 (xs.drop i) = some (y.ca, z + z') from by subst hy; subst hits; exact and_some HQ1.out hq2)
      have hn2 := k3.mine HN1.out HG.out
      have hal : Below w2.heap.size w2 (w2.alloc (.cells #[.slice D vs.length d, .slice E ls.length k, .slice I ys.length ni] 31)) := (Below.refl _ _).alloc (Nat.le_refl _) _
      have HNEW := Lib.hid (heap_alloc_new w2 (.cells #[.slice D vs.length d, .slice E ls.length k, .slice I ys.length ni] 31))
      have HC3 := Lib.hid (HC2.out.trans (Chg.of_below (S := fun k => k = g) hal) fun _ _ e => e)
      have HR3 := Lib.hid (hR.below hal)
      have HOC3 := Lib.hid (HOC2.out.chg (.of_below (S := fun _ => False) hal) fun _ _ e => e)
      have HN3 := Lib.hid ((hal.block _ (Array.getElem?_eq_some_iff.1 hn2).1).trans hn2)
      have HLB := Lib.hid (show w.heap.size < w2.heap.size from (Array.getElem?_eq_some_iff.1 hn2).1)
      obtain ⟨cb, hcb⟩ : ∃ cb, validK y.ca = cb := ⟨_, rfl⟩
      have HCB := Lib.hid hcb
      have HLEN := Lib.hid (show (byC y.ca).length ≤ 170000 from by
        obtain ⟨k5, k6⟩ := pC_len (Asks.qC0.sub HQ.out)
        have k7 := H17.out
        rw [List.length_drop] at k6
        omega)
      have hcom := caValid y cb _ HOC3.out.ok (fits15 HLEN.out).1 hcb
      rw [hyc] at hcom
      have HCOM := Lib.hid hcom
      have HYC := Lib.hid hyc
      clear k1 k2 k3 hq2 hR hn2 hal hoi hom hcb HOC2 hits hyv hyc hcom hy
      go_wp2_with fail
      generalize World.alloc w2 _ = w3 at *
      refine HCOM.out.mono ?_
      rintro e w4 ⟨rfl, hb4⟩
      have HC4 := Lib.hid (HC3.out.trans (Chg.of_below (S := fun k => k = g) hb4) fun _ _ e => e)
      cases cb with
      | false =>
        clear hb4
        go_wp2_with (go_at_call 48; refine (check_f _).mono ?_; rintro e w5 ⟨rfl, rfl⟩)
        exact ⟨rfl, RdQ.bad (pIf_none.2 (.inr ⟨_, HQ.out, HCB.out⟩)) HC4.out⟩
      | true =>
        have HR4 := Lib.hid (HR3.out.below hb4)
        have HOC4 := Lib.hid (HOC3.out.chg (.of_below (S := fun _ => False) hb4) fun _ _ e => e)
        have hn4 := (hb4.block _ (Array.getElem?_eq_some_iff.1 HN3.out).1).trans HN3.out
        have hnew := (hb4.block _ (Array.getElem?_eq_some_iff.1 HNEW.out).1).trans HNEW.out
        have c0 := cellW (i := 0) hn4
        have c1 := cellW (i := 1) hn4
        have c2 := cellW (i := 2) hn4
        have f0 := frozenW (i := 0) hn4
        have f1 := frozenW (i := 1) hn4
        have f2 := frozenW (i := 2) hn4
        have m0 := cellW (i := 0) hnew
        have m1 := cellW (i := 1) hnew
        have m2 := cellW (i := 2) hnew
        have hs := set3 hn4 (.slice D vs.length d) (.slice E ls.length k) (.slice I ys.length ni)
        have s0 := cellW (i := 0) hs
        have s1 := cellW (i := 1) hs
        have s2 := cellW (i := 2) hs
        have hch : Chg (fun k => k = w.heap.size) w4 (((w4.setCell ⟨w.heap.size, 0, none⟩ (.slice D vs.length d)).setCell ⟨w.heap.size, 1, none⟩ (.slice E ls.length k)).setCell ⟨w.heap.size, 2, none⟩ (.slice I ys.length ni)) := ((chg_set _ _ _ _).trans (chg_set _ _ _ _) fun _ _ e => e).trans (chg_set _ _ _ _) fun _ _ e => e
        have HF := Lib.hid (show RdQ qC (SaysCa w.heap.size) g A c xs i w (.returned (.agg #[.slice D vs.length d, .slice E ls.length k, .slice I ys.length ni])) (((w4.setCell ⟨w.heap.size, 0, none⟩ (.slice D vs.length d)).setCell ⟨w.heap.size, 1, none⟩ (.slice E ls.length k)).setCell ⟨w.heap.size, 2, none⟩ (.slice I ys.length ni)) from
          RdQ.good (pIf_some.2 ⟨HQ.out, HCB.out⟩) ⟨y, HYC.out.symm, rfl, HOC4.out.off hn4 hch⟩ (by rw [← Nat.add_assoc]; exact H0.out.keep HR4.out hch fun k e => by omega) (HC4.out.mine_set hch fun k e => by omega))
        clear hn4 hnew hs hch hb4
        go_wp2_with (go_at_call 48; refine (check_t _).mono ?_; rintro e w5 ⟨rfl, rfl⟩)
        exact bodyPost_ret (v := .agg #[.slice D vs.length d, .slice E ls.length k, .slice I ys.length ni]) (by simp [results, Tryz.results31, go_sem, s0, s1, s2]) rfl HF.out

end

end Go.Proofs.YtpnemekkpifbaaaGreat
