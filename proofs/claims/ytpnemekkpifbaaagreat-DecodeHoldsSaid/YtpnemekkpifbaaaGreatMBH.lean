/- Several texts in one: DecXA. -/
import Derived.Test.YtpnemekkpifbaaaGreatMBG
import Derived.Test.YtpnemekkpifbaaaGreatMBC
namespace Go.Proofs.YtpnemekkpifbaaaGreat

section
open Go.RowKit

/-- What a function leaves that reads all: what it has read, or a panic. -/
def AllR {α : Type} (o : Option α) (Says : α → Value → World → Prop) (w : World) (e : Ending) (w' : World) : Prop :=
  (∀ a, o = some a → ∃ v, e = .returned v ∧ Says a v w') ∧ (o = none → e = .panicked badP) ∧ Below w.heap.size w w'
theorem AllR.good {α : Type} {o : Option α} {Says : α → Value → World → Prop} {w w' : World} {a : α} {v : Value} (ho : o = some a) (hs : Says a v w') (hb : Below w.heap.size w w') : AllR o Says w (.returned v) w' :=
  ⟨fun a' e => (by rw [ho] at e; obtain rfl := Option.some.inj e; exact ⟨v, rfl, hs⟩), fun e => (by rw [ho] at e; cases e), hb⟩
theorem AllR.bad {α : Type} {o : Option α} {Says : α → Value → World → Prop} {w w' : World} (ho : o = none) (hb : Below w.heap.size w w') : AllR o Says w (.panicked badP) w' :=
  ⟨fun a' e => (by rw [ho] at e; cases e), fun _ => rfl, hb⟩
/-- Carts, one behind the other. -/
def qCnt : Ps Nat := fun l => (cntC l).map fun n => (n, l.length)
theorem cntC_nil : cntC [] = some 0 := rfl

set_option maxRecDepth 100000 in
set_option maxHeartbeats 4000000 in
theorem readCount (g : Nat) (A : Option Addr) (c : Nat) (xs : List UInt8) (w : World) (h : Rd w g A c xs 0) (h17 : xs.length ≤ 170000) :
    Calls Tryz.prog 46 #[.pointer (some ⟨g, 0, none⟩)] w (RdQ qCnt (fun n v _ => v = .int .i64 (n : Nat)) g A c xs 0 w) := by
  have H17 := Lib.hid h17
  have HLEFT := Lib.hid fun (j : Nat) (W : World) (k : Rd W g A c xs j) => leftAt g A c xs j W k
  have HCART := Lib.hid fun (j : Nat) (W : World) (k : Rd W g A c xs j) => readCart g A c xs j W k h17
  have H0 := Lib.hid h
  clear h h17
  go_enter Tryz.func46, Tryz.ntmps46
  go_wp2_with fail
  go_loopw [3] (fun v wr => ∃ (k j : Nat), v = .int .i64 (k : Nat) ∧ k ≤ 170000 ∧ Hid (k ≤ j) ∧ Hid (j ≤ xs.length) ∧ Hid (cntC xs = (cntC (xs.drop j)).map (· + k)) ∧ Hid (Rd wr g A c xs j) ∧ Hid (Chg (fun k => k = g) w wr)) (fun v _ => 200000 - (intOf v).toNat)
  case atStart => exact ⟨0, 0, rfl, by omega, Nat.le_refl _, Nat.zero_le _, (by show cntC xs = (cntC (xs.drop 0)).map (· + 0); rw [List.drop_zero]; cases cntC xs <;> rfl), H0.out, Chg.refl _ _⟩
  case round =>
    obtain ⟨k, j, rfl, hk, hkj, hj, hcn, hR, hC⟩ := hrel
    have HL := Lib.hid (HLEFT.out j wr hR.out)
    by_cases hjl : j = xs.length
    · have hl0 : ((xs.length - j : Nat) : Int) = 0 := by omega
      rw [hl0] at HL
      have HQ := Lib.hid (show qCnt (xs.drop 0) = some (k, xs.length) from by
        have e1 := hcn.out
        rw [hjl, List.drop_length, cntC_nil] at e1
        unfold qCnt
        rw [List.drop_zero, e1]
        simp)
      have HJL := Lib.hid hjl
      clear hl0 hcn hjl hkj hj
      go_wp2_with fail
      refine HL.out.mono ?_
      rintro e w1 ⟨rfl, hb⟩
      have HF := Lib.hid (show RdQ qCnt (fun n v _ => v = .int .i64 (n : Nat)) g A c xs 0 w (.returned (.int .i64 (k : Nat))) w1 from
        RdQ.good HQ.out rfl (by rw [Nat.zero_add, ← HJL.out]; exact hR.out.below hb) (hC.out.trans (Chg.of_below (S := fun k => k = g) hb) fun _ _ e => e))
      clear hb hR hC
      go_wp2_with fail
      go_ret
      exact HF.out
    · have hlt : j < xs.length := by have := hj.out; omega
      have i0 : (0 : Int) < ((xs.length - j : Nat) : Int) := by omega
      have HLT := Lib.hid hlt
      generalize ((xs.length - j : Nat) : Int) = lft at *
      clear hjl hlt
      go_wp2_with fail
      refine HL.out.mono ?_
      rintro e w1 ⟨rfl, hb⟩
      have HC1 := Lib.hid (hC.out.trans (Chg.of_below (S := fun k => k = g) hb) fun _ _ e => e)
      have HCA := Lib.hid (HCART.out j w1 (hR.out.below hb))
      clear hb hR hC HL
      go_wp2_with fail
      refine HCA.out.mono ?_
      rintro e w2 ⟨k1, k2, k3⟩
      have HC2 := Lib.hid (HC1.out.trans k3 fun _ _ e => e)
      have hne : xs.drop j ≠ [] := by
        intro e
        have := congrArg List.length e
        rw [List.length_drop] at this
        have := HLT.out
        simp at *
        omega
      have hstep := cntC_step hne
      rw [← qC_pre] at hstep
      cases hq : qC (xs.drop j) with
      | none =>
        obtain rfl := k2 hq
        have e1 : qCnt (xs.drop 0) = none := by
          rw [hq] at hstep
          unfold qCnt
          rw [List.drop_zero, hcn.out, hstep]
          rfl
        exact ⟨rfl, RdQ.bad e1 HC2.out⟩
      | some v =>
        obtain ⟨ca, z⟩ := v
        obtain ⟨u, rfl, _, hR⟩ := k1 _ _ hq
        have hz := pC_len (Asks.qC.sub hq)
        have hz3 := byC_three ca
        rw [List.length_drop] at hz
        rw [hq] at hstep
        have HCN := Lib.hid (show cntC xs = (cntC (xs.drop (j + z))).map (· + (k + 1)) from by
          rw [hcn.out, hstep]
          simp only [Option.bind_some, List.drop_drop]
          cases cntC (xs.drop (j + z)) with
          | none => rfl
          | some m => simp only [Option.map_some]; congr 1; omega)
        have HR2 := Lib.hid hR
        have HJZ := Lib.hid (show k + 1 ≤ j + z ∧ j + z ≤ xs.length from by have := hkj.out; have := HLT.out; omega)
        have hk2 : k + 1 ≤ 170000 := by have := HJZ.out; have := H17.out; omega
        clear k1 k2 k3 hq hR hstep hz hz3 hne hcn hkj hj HCA
        go_wp2_with fail
        go_roundw
        case rel => exact ⟨k + 1, j + z, by go_num, hk2, HJZ.out.1, HJZ.out.2, HCN.out, HR2.out, HC2.out⟩
        case measure => simp [intOf]; omega

set_option maxRecDepth 100000 in
set_option maxHeartbeats 4000000 in
theorem allCart (A : Option Addr) (xs : List UInt8) (n : Nat) (w : World) (hx : HoldsB w (.slice A xs.length n) xs) (h17 : xs.length ≤ 170000) :
    Calls Tryz.prog 30 #[.slice A xs.length n, .func (.func 31) #[] #[]] w (AllR (decC xs) (SaysCa w.heap.size) w) := by
  have hal : Below w.heap.size w (w.alloc (.cells #[.slice none 0 0, .slice none 0 0, .slice none 0 0] 31)) := (Below.refl _ _).alloc (Nat.le_refl _) _
  have HAL := Lib.hid hal
  have HN0 := Lib.hid (heap_alloc_new w (.cells #[.slice none 0 0, .slice none 0 0, .slice none 0 0] 31))
  have H1 := Lib.hid (newAt _ xs _ (hx.below hal) (by omega))
  have HSZ := Lib.hid (show w.heap.size < (w.alloc (.cells #[.slice none 0 0, .slice none 0 0, .slice none 0 0] 31)).heap.size from by simp)
  clear hal
  have HHL := Lib.hid hx
  have H17 := Lib.hid h17
  clear hx h17
  go_enter Tryz.func30, Tryz.ntmps30
  go_wp2_with fail
  generalize World.alloc w _ = w0 at *
  refine H1.out.mono ?_
  rintro e w1 ⟨⟨g, A', c', rfl, hR, hg, _⟩, hb⟩
  have HB1 := Lib.hid (show Below w.heap.size w w1 from below_step HAL.out (hb.mono (by have := HSZ.out; omega)))
  have HG := Lib.hid (show w.heap.size < g from by have := HSZ.out; omega)
  have HN1 := Lib.hid ((hb.block _ HSZ.out).trans HN0.out)
  have H0 := Lib.hid hR
  have H2 := Lib.hid (readCart g A' c' xs 0 w1 hR H17.out)
  clear hR hg hb H1 HN0 HAL HSZ HHL
  go_wp2_with fail
  refine H2.out.mono ?_
  rintro e w2 ⟨k1, k2, k3⟩
  have HB2 := Lib.hid (show Below w.heap.size w w2 from below_step HB1.out (k3.below (B := w.heap.size) (by have := HB1.out.size; omega) fun j e => by have := HG.out; omega))
  cases hq : qC (xs.drop 0) with
  | none =>
    obtain rfl := k2 hq
    exact ⟨rfl, AllR.bad (by rw [List.drop_zero] at hq; rw [decC_q, hq]; rfl) HB2.out⟩
  | some v =>
    obtain ⟨a, z⟩ := v
    obtain ⟨u, rfl, ⟨y, hv, hca, hoc⟩, hR⟩ := k1 _ _ hq
    obtain ⟨V, nv, vs, L, nl, ls, I, ni, ys⟩ := y
    have hv' : u = .agg #[.slice V vs.length nv, .slice L ls.length nl, .slice I ys.length ni] := hv
    clear hv
    subst hv'
    have HCA := Lib.hid hca
    have HQ := Lib.hid (show qC xs = some (a, z) from by rw [List.drop_zero] at hq; exact hq)
    have hn2 := k3.mine HN1.out (by have := HG.out; omega)
    have hal : Below w2.heap.size w2 (w2.alloc (.cells #[.slice V vs.length nv, .slice L ls.length nl, .slice I ys.length ni] 31)) := (Below.refl _ _).alloc (Nat.le_refl _) _
    have HNEW := Lib.hid (heap_alloc_new w2 (.cells #[.slice V vs.length nv, .slice L ls.length nl, .slice I ys.length ni] 31))
    have HB3 := Lib.hid (HB2.out.alloc HB2.out.size (.cells #[.slice V vs.length nv, .slice L ls.length nl, .slice I ys.length ni] 31))
    have HR3 := Lib.hid (hR.below hal)
    have HO3 := Lib.hid ((show OwnC w2 w.heap.size ⟨V, nv, vs, L, nl, ls, I, ni, ys⟩ from ⟨hoc.1.le HB1.out.size, Go.Joins.ownsRow_le hoc.2.1 HB1.out.size, fun u hu => Go.Joins.ownsRow_le (hoc.2.2 u hu) HB1.out.size⟩).chg (.of_below (S := fun _ => False) hal) fun _ _ e => e)
    have HN3 := Lib.hid ((hal.block _ (Array.getElem?_eq_some_iff.1 hn2).1).trans hn2)
    have HLB := Lib.hid (show w.heap.size < w2.heap.size from (Array.getElem?_eq_some_iff.1 hn2).1)
    clear k1 k2 k3 hq hR hn2 hal hca hoc
    by_cases hz : 0 + z = xs.length
    · have HE := Lib.hid (endAt g A' c' xs (0 + z) 0 _ HR3.out (if_pos hz))
      have HO := Lib.hid (show decC xs = some a from by rw [decC_q, HQ.out]; exact if_pos (by simpa using hz))
      clear hz
      go_wp2_with fail
      generalize World.alloc w2 _ = w3 at *
      refine HE.out.mono ?_
      rintro e w4 ⟨rfl, hb4⟩
      have HB4 := Lib.hid (below_trans HB3.out (hb4.mono (by have := HB3.out.size; omega)))
      have HO4 := Lib.hid (HO3.out.chg (.of_below (S := fun _ => False) hb4) fun _ _ e => e)
      have hn4 := (hb4.block _ (Array.getElem?_eq_some_iff.1 HN3.out).1).trans HN3.out
      have hnew := (hb4.block _ (Array.getElem?_eq_some_iff.1 HNEW.out).1).trans HNEW.out
      have c0 := cellW (i := 0) hn4
      have f0 := frozenW (i := 0) hn4
      have m0 := cellW (i := 0) hnew
      have c1 := cellW (i := 1) hn4
      have f1 := frozenW (i := 1) hn4
      have m1 := cellW (i := 1) hnew
      have c2 := cellW (i := 2) hn4
      have f2 := frozenW (i := 2) hn4
      have m2 := cellW (i := 2) hnew
      have hs := set3 hn4 (.slice V vs.length nv) (.slice L ls.length nl) (.slice I ys.length ni)
      have s0 := cellW (i := 0) hs
      have s1 := cellW (i := 1) hs
      have s2 := cellW (i := 2) hs
      have hch : Chg (fun k => k = w.heap.size) w4 (((w4.setCell ⟨w.heap.size, 0, none⟩ (.slice V vs.length nv)).setCell ⟨w.heap.size, 1, none⟩ (.slice L ls.length nl)).setCell ⟨w.heap.size, 2, none⟩ (.slice I ys.length ni)) := ((chg_set _ _ _ _).trans (chg_set _ _ _ _) fun _ _ e => e).trans (chg_set _ _ _ _) fun _ _ e => e
      have HF := Lib.hid (show AllR (decC xs) (SaysCa w.heap.size) w (.returned (.agg #[.slice V vs.length nv, .slice L ls.length nl, .slice I ys.length ni])) (((w4.setCell ⟨w.heap.size, 0, none⟩ (.slice V vs.length nv)).setCell ⟨w.heap.size, 1, none⟩ (.slice L ls.length nl)).setCell ⟨w.heap.size, 2, none⟩ (.slice I ys.length ni)) from
        AllR.good HO.out ⟨⟨V, nv, vs, L, nl, ls, I, ni, ys⟩, rfl, HCA.out, HO4.out.off hn4 hch⟩ (below_set (below_set (below_set HB4.out (Nat.le_refl _) _ _) (Nat.le_refl _) _ _) (Nat.le_refl _) _ _))
      clear hn4 hnew hs hch hb4
      go_wp2_with (go_at_call 48; refine (check_t _).mono ?_; rintro e w5 ⟨rfl, rfl⟩)
      exact bodyPost_ret (v := .agg #[.slice V vs.length nv, .slice L ls.length nl, .slice I ys.length ni]) (by simp [results, Tryz.results30, go_sem, s0, s1, s2]) rfl HF.out
    · have HE := Lib.hid (endAt g A' c' xs (0 + z) 12 _ HR3.out (if_neg hz))
      have HO := Lib.hid (show decC xs = none from by rw [decC_q, HQ.out]; exact if_neg (by simpa using hz))
      clear hz
      go_wp2_with fail
      generalize World.alloc w2 _ = w3 at *
      refine HE.out.mono ?_
      rintro e w4 ⟨rfl, hb4⟩
      have HB4 := Lib.hid (below_trans HB3.out (hb4.mono (by have := HB3.out.size; omega)))
      clear hb4
      go_wp2_with (go_at_call 48; refine (check_f _).mono ?_; rintro e w5 ⟨rfl, rfl⟩)
      exact ⟨rfl, AllR.bad HO.out HB4.out⟩


set_option maxRecDepth 100000 in
set_option maxHeartbeats 4000000 in
theorem allContext (A : Option Addr) (xs : List UInt8) (n : Nat) (w : World) (hx : HoldsB w (.slice A xs.length n) xs) (h17 : xs.length ≤ 170000) :
    Calls Tryz.prog 66 #[.slice A xs.length n, .func (.func 50) #[] #[]] w (AllR (conX xs) (fun x v W => ∃ (D E : Option Addr) (d k : Nat), v = .agg #[.slice D x.1.length d, .slice E x.2.length k] ∧ RowX W w.heap.size D E d k x.1 x.2) w) := by
  have hal : Below w.heap.size w (w.alloc (.cells #[.slice none 0 0, .slice none 0 0] 28)) := (Below.refl _ _).alloc (Nat.le_refl _) _
  have HAL := Lib.hid hal
  have HN0 := Lib.hid (heap_alloc_new w (.cells #[.slice none 0 0, .slice none 0 0] 28))
  have H1 := Lib.hid (newAt _ xs _ (hx.below hal) (by omega))
  have HSZ := Lib.hid (show w.heap.size < (w.alloc (.cells #[.slice none 0 0, .slice none 0 0] 28)).heap.size from by simp)
  clear hal
  have HHL := Lib.hid hx
  have H17 := Lib.hid h17
  clear hx h17
  go_enter Tryz.func66, Tryz.ntmps66
  go_wp2_with fail
  generalize World.alloc w _ = w0 at *
  refine H1.out.mono ?_
  rintro e w1 ⟨⟨g, A', c', rfl, hR, hg, _⟩, hb⟩
  have HB1 := Lib.hid (show Below w.heap.size w w1 from below_step HAL.out (hb.mono (by have := HSZ.out; omega)))
  have HG := Lib.hid (show w.heap.size < g from by have := HSZ.out; omega)
  have HN1 := Lib.hid ((hb.block _ HSZ.out).trans HN0.out)
  have H0 := Lib.hid hR
  have H2 := Lib.hid (readContext g A' c' xs 0 w1 hR H17.out)
  clear hR hg hb H1 HN0 HAL HSZ HHL
  go_wp2_with fail
  refine H2.out.mono ?_
  rintro e w2 ⟨k1, k2, k3⟩
  have HB2 := Lib.hid (show Below w.heap.size w w2 from below_step HB1.out (k3.below (B := w.heap.size) (by have := HB1.out.size; omega) fun j e => by have := HG.out; omega))
  cases hq : qX (xs.drop 0) with
  | none =>
    obtain rfl := k2 hq
    exact ⟨rfl, AllR.bad (by rw [List.drop_zero] at hq; rw [conX_q, hq]; rfl) HB2.out⟩
  | some v =>
    obtain ⟨a, z⟩ := v
    obtain ⟨vs, ls⟩ := a
    obtain ⟨u, rfl, ⟨V, L, nv, nl, rfl, hoc⟩, hR⟩ := k1 _ _ hq
    have HQ := Lib.hid (show qX xs = some ((vs, ls), z) from by rw [List.drop_zero] at hq; exact hq)
    have hn2 := k3.mine HN1.out (by have := HG.out; omega)
    have hal : Below w2.heap.size w2 (w2.alloc (.cells #[.slice V vs.length nv, .slice L ls.length nl] 28)) := (Below.refl _ _).alloc (Nat.le_refl _) _
    have HNEW := Lib.hid (heap_alloc_new w2 (.cells #[.slice V vs.length nv, .slice L ls.length nl] 28))
    have HB3 := Lib.hid (HB2.out.alloc HB2.out.size (.cells #[.slice V vs.length nv, .slice L ls.length nl] 28))
    have HR3 := Lib.hid (hR.below hal)
    have HO3 := Lib.hid ((hoc.le HB1.out.size).chg (.of_below (S := fun _ => False) hal) fun _ _ e => e)
    have HN3 := Lib.hid ((hal.block _ (Array.getElem?_eq_some_iff.1 hn2).1).trans hn2)
    have HLB := Lib.hid (show w.heap.size < w2.heap.size from (Array.getElem?_eq_some_iff.1 hn2).1)
    clear k1 k2 k3 hq hR hn2 hal hoc
    by_cases hz : 0 + z = xs.length
    · have HE := Lib.hid (endAt g A' c' xs (0 + z) 0 _ HR3.out (if_pos hz))
      have HO := Lib.hid (show conX xs = some (vs, ls) from by rw [conX_q, HQ.out]; exact if_pos (by simpa using hz))
      clear hz
      go_wp2_with fail
      generalize World.alloc w2 _ = w3 at *
      refine HE.out.mono ?_
      rintro e w4 ⟨rfl, hb4⟩
      have HB4 := Lib.hid (below_trans HB3.out (hb4.mono (by have := HB3.out.size; omega)))
      have HO4 := Lib.hid (HO3.out.chg (.of_below (S := fun _ => False) hb4) fun _ _ e => e)
      have hn4 := (hb4.block _ (Array.getElem?_eq_some_iff.1 HN3.out).1).trans HN3.out
      have hnew := (hb4.block _ (Array.getElem?_eq_some_iff.1 HNEW.out).1).trans HNEW.out
      have c0 := cellW (i := 0) hn4
      have f0 := frozenW (i := 0) hn4
      have m0 := cellW (i := 0) hnew
      have c1 := cellW (i := 1) hn4
      have f1 := frozenW (i := 1) hn4
      have m1 := cellW (i := 1) hnew
      have hs := set2 (x := .slice V vs.length nv) (y := .slice L ls.length nl) hn4
      have s0 := cellW (i := 0) hs
      have s1 := cellW (i := 1) hs
      have hch : Chg (fun k => k = w.heap.size) w4 ((w4.setCell ⟨w.heap.size, 0, none⟩ (.slice V vs.length nv)).setCell ⟨w.heap.size, 1, none⟩ (.slice L ls.length nl)) := (chg_set _ _ _ _).trans (chg_set _ _ _ _) fun _ _ e => e
      have HF := Lib.hid (show AllR (conX xs) (fun x v W => ∃ (D E : Option Addr) (d k : Nat), v = .agg #[.slice D x.1.length d, .slice E x.2.length k] ∧ RowX W w.heap.size D E d k x.1 x.2) w (.returned (.agg #[.slice V vs.length nv, .slice L ls.length nl])) ((w4.setCell ⟨w.heap.size, 0, none⟩ (.slice V vs.length nv)).setCell ⟨w.heap.size, 1, none⟩ (.slice L ls.length nl)) from
        AllR.good HO.out ⟨V, L, nv, nl, rfl, own_off HO4.out.1 hn4 (by decide) hch, own_off HO4.out.2 hn4 (by decide) hch⟩ (below_set (below_set HB4.out (Nat.le_refl _) _ _) (Nat.le_refl _) _ _))
      clear hn4 hnew hs hch hb4
      go_wp2_with (go_at_call 48; refine (check_t _).mono ?_; rintro e w5 ⟨rfl, rfl⟩)
      exact bodyPost_ret (v := .agg #[.slice V vs.length nv, .slice L ls.length nl]) (by simp [results, Tryz.results66, go_sem, s0, s1]) rfl HF.out
    · have HE := Lib.hid (endAt g A' c' xs (0 + z) 12 _ HR3.out (if_neg hz))
      have HO := Lib.hid (show conX xs = none from by rw [conX_q, HQ.out]; exact if_neg (by simpa using hz))
      clear hz
      go_wp2_with fail
      generalize World.alloc w2 _ = w3 at *
      refine HE.out.mono ?_
      rintro e w4 ⟨rfl, hb4⟩
      have HB4 := Lib.hid (below_trans HB3.out (hb4.mono (by have := HB3.out.size; omega)))
      clear hb4
      go_wp2_with (go_at_call 48; refine (check_f _).mono ?_; rintro e w5 ⟨rfl, rfl⟩)
      exact ⟨rfl, AllR.bad HO.out HB4.out⟩


set_option maxRecDepth 100000 in
set_option maxHeartbeats 4000000 in
theorem allCount (A : Option Addr) (xs : List UInt8) (n : Nat) (w : World) (hx : HoldsB w (.slice A xs.length n) xs) (h17 : xs.length ≤ 170000) :
    Calls Tryz.prog 45 #[.slice A xs.length n, .func (.func 46) #[] #[]] w (AllR (cntC xs) (fun n v _ => v = .int .i64 (n : Nat)) w) := by
  have H1 := Lib.hid (newAt _ xs w hx (by omega))
  have HHL := Lib.hid hx
  have H17 := Lib.hid h17
  clear hx h17
  go_enter Tryz.func45, Tryz.ntmps45
  go_wp2_with fail
  refine H1.out.mono ?_
  rintro e w1 ⟨⟨g, A', c', rfl, hR, hg, _⟩, hb⟩
  have HB1 := Lib.hid (show Below w.heap.size w w1 from hb)
  have HG := Lib.hid (show w.heap.size ≤ g from by omega)
  have H0 := Lib.hid hR
  have H2 := Lib.hid (readCount g A' c' xs w1 hR H17.out)
  clear hR hg hb H1 HHL
  go_wp2_with fail
  refine H2.out.mono ?_
  rintro e w2 ⟨k1, k2, k3⟩
  have HB2 := Lib.hid (show Below w.heap.size w w2 from below_step HB1.out (k3.below (B := w.heap.size) (by have := HB1.out.size; omega) fun j e => by have := HG.out; omega))
  cases hq : qCnt (xs.drop 0) with
  | none =>
    obtain rfl := k2 hq
    exact ⟨rfl, AllR.bad (by rw [List.drop_zero] at hq; unfold qCnt at hq; cases h0 : cntC xs with | none => rfl | some m => rw [h0] at hq; cases hq) HB2.out⟩
  | some v =>
    obtain ⟨a, z⟩ := v
    obtain ⟨u, rfl, rfl, hR⟩ := k1 _ _ hq
    have HQ := Lib.hid (show cntC xs = some a ∧ z = xs.length from by
      rw [List.drop_zero] at hq
      unfold qCnt at hq
      cases h0 : cntC xs with
      | none => rw [h0] at hq; cases hq
      | some m =>
        rw [h0] at hq
        obtain ⟨e1, e2⟩ := Prod.mk.inj (Option.some.inj hq)
        exact ⟨by rw [e1], e2.symm⟩)
    have HE := Lib.hid (endAt g A' c' xs (0 + z) 0 _ hR (if_pos (by have := HQ.out.2; omega)))
    clear k1 k2 k3 hq hR
    go_wp2_with fail
    refine HE.out.mono ?_
    rintro e w4 ⟨rfl, hb4⟩
    have HB4 := Lib.hid (below_trans HB2.out (hb4.mono (by have := HB2.out.size; omega)))
    clear hb4
    go_wp2_with (go_at_call 48; refine (check_t _).mono ?_; rintro e w5 ⟨rfl, rfl⟩)
    go_ret
    exact AllR.good HQ.out.1 rfl HB4.out


end

end Go.Proofs.YtpnemekkpifbaaaGreat
