/- Package bytes: a reader's Take. -/
import Derived.Test.YtkloheabbbpboaaBytF
namespace Go.Proofs.Ytkloheabbbpboaa
open Go.RowKit

theorem SlAt.take {α : Type} {enc : α → List Value} {k : Nat} {w : World} {A : Option Addr} {xs : List α} (h : SlAt enc k w A xs) (m : Nat) : SlAt enc k w A (xs.take m) := fun hn => by
  obtain ⟨b, off, rfl, hb, hc⟩ := h (by simp at hn; omega)
  refine ⟨b, off, rfl, hb, fun j x hx => hc j x ?_⟩
  rw [List.getElem?_take] at hx
  split at hx
  · exact hx
  · cases hx
theorem SlAt.cut {α : Type} {enc : α → List Value} {k : Nat} {w : World} {A : Option Addr} {xs : List α} (h : SlAt enc k w A xs) (m cap : Nat) (hc : xs.length ≤ cap) : SlAt enc k w (if cap = m then A else A.map (·.add (m * k))) (xs.drop m) := fun hn => by
  obtain ⟨b, off, rfl, hb, hcell⟩ := h (by simp at hn; omega)
  have hne : ¬ cap = m := by simp at hn; omega
  rw [if_neg hne]
  refine ⟨b, off + m * k, by simp [Addr_add], hb, fun j x hx i u hu => ?_⟩
  rw [List.getElem?_drop] at hx
  have := hcell (m + j) x hx i u hu
  rw [Nat.add_mul] at this
  rw [show off + m * k + j * k + i = off + (m * k + j * k) + i by omega]
  exact this
/-- What take returns: bytes and an error. -/
def takeP (l : List UInt8) (n : Int) : List UInt8 × Int := if n < 0 then ([], 2) else if (l.length : Int) < n then ([], 4) else (l.take n.toNat, 0)
/-- What take leaves. -/
def TakeR (w : World) (g : Nat) (A : Option Addr) (c : Nat) (xs : List UInt8) (i : Nat) (ys : List UInt8) (er : Int) (e : Ending) (w' : World) : Prop :=
  (∃ B d, e = .returned (.tuple #[.slice B ys.length d, .int .i64 er]) ∧ HoldsB w' (.slice B ys.length d) ys) ∧ Rd w' g A c xs (i + if er = 0 then ys.length else 0) ∧ Chg (fun k => k = g) w w'
theorem TakeR.no {w w' : World} {g : Nat} {A : Option Addr} {c : Nat} {xs : List UInt8} {i : Nat} {er : Int} (h : Rd w' g A c xs i) (hc : Chg (fun k => k = g) w w') (he : er ≠ 0) : TakeR w g A c xs i [] er (.returned (.tuple #[.slice none 0 0, .int .i64 er])) w' :=
  ⟨⟨none, 0, rfl, (HoldsB.nil w' : HoldsB w' (.slice none ([] : List UInt8).length 0) [])⟩, by rw [if_neg he]; exact h, hc⟩

set_option maxHeartbeats 1000000 in
theorem takeIn (g : Nat) (A : Option Addr) (c : Nat) (xs : List UInt8) (i : Nat) (n : Int) (w : World) (h : Rd w g A c xs i) (hn0 : -9223372036854775808 ≤ n) (hn1 : n ≤ 9223372036854775807) (ys : List UInt8) (er : Int) (hr : takeP (xs.drop i) n = (ys, er)) :
    Calls Try.prog 42 #[.pointer (some ⟨g, 0, none⟩), .int .i64 n] w (TakeR w g A c xs i ys er) := by
  unfold takeP at hr
  have hi := h.2.2.2.1
  have hm := h.2.2.2.2.1
  by_cases hneg : n < 0
  · rw [if_pos hneg] at hr
    cases hr
    have H := Lib.hid h
    clear h
    go_enter Try.func42, Try.ntmps42
    go_wp2_with fail
    go_ret2
    exact TakeR.no H.out (.refl _ _) (by omega)
  · rw [if_neg hneg] at hr
    have HL := Lib.hid (leftAt g A c xs i w h)
    have hdl : ((xs.drop i).length : Int) = ((xs.length - i : Nat) : Int) := by rw [List.length_drop]
    rw [hdl] at hr
    by_cases hgt : ((xs.length - i : Nat) : Int) < n
    · rw [if_pos hgt] at hr
      cases hr
      have H := Lib.hid h
      clear h hdl hi hm
      generalize ((xs.length - i : Nat) : Int) = z at *
      go_enter Try.func42, Try.ntmps42
      go_wp2_with fail
      refine HL.out.mono ?_
      rintro e w1 ⟨rfl, hb⟩
      have HB := Lib.hid hb
      clear hb
      go_wp2_with fail
      go_ret2
      exact TakeR.no (H.out.below HB.out) (.of_below HB.out) (by omega)
    · rw [if_neg hgt] at hr
      obtain ⟨k, rfl⟩ : ∃ k : Nat, n = (k : Int) := ⟨n.toNat, by omega⟩
      have hk : i + k ≤ xs.length := by omega
      have hys : ys = (xs.drop i).take k := by cases hr; simp
      have her : er = 0 := by cases hr; rfl
      subst her
      have hyl : ys.length = k := by rw [hys, List.length_take, List.length_drop]; omega
      have H := Lib.hid h
      have HYS := Lib.hid hys
      have HYL := Lib.hid hyl
      clear hr hdl h
      have b0 : ¬ ((xs.length - i : Nat) : Int) < (k : Int) := hgt
      generalize ((xs.length - i : Nat) : Int) = z at *
      rcases A with _ | a
      · have hx0 : xs = [] := by
          cases xs with
          | nil => rfl
          | cons x r => obtain ⟨_, _, e, _⟩ := H.out.2.1 (by simp); cases e
        have p0 : (0 : Int) ≤ (i : Int) := by omega
        have p1 : (i : Int) + (k : Int) ≤ 1000000 := by omega
        have hcx := H.out.2.2.2.2.2.1
        have p2 : (i : Int) + (k : Int) ≤ (c : Int) := by omega
        have HCL := Lib.hid fun W (h : Rd W g none c xs (i + k)) => (show Calls Try.prog 34 #[.slice none k (c - i)] W (fun e w' => (∃ v, e = .returned v ∧ w'.ownsRow W.heap.size 5 1 v ys.length (cellsOf encB ys)) ∧ Below W.heap.size W w') from (by
          have hk0 : k = 0 := by subst hx0; simp at hk; omega
          subst hk0
          have hy0 : ys = [] := by rw [hys]; simp
          subst hy0
          exact cloneB none [] (c - i) W SlAt.nil (by simp)))
        clear hx0 hys hyl hgt hneg
        go_enter Try.func42, Try.ntmps42
        go_wp2_with fail
        refine HL.out.mono ?_
        rintro e w1 ⟨rfl, hb⟩
        have h1 := H.out.below hb
        have c1 := h1.c1
        have c2 := h1.c2
        have f2 := h1.f2
        have H1 := Lib.hid h1
        have HB := Lib.hid hb
        clear hb h1
        go_wp2_with fail
        have hst := H1.out.set (j := i + k) hk
        have HST := Lib.hid (show Rd (w1.setCell ⟨g, 2, none⟩ (.int .i64 ((i : Int) + (k : Int)))) g none c xs (i + k) ∧ Chg (fun k => k = g) w1 (w1.setCell ⟨g, 2, none⟩ (.int .i64 ((i : Int) + (k : Int)))) from by
          rw [show (i : Int) + (k : Int) = ((i + k : Nat) : Int) by omega]; exact hst)
        clear hst c1 c2 f2
        generalize w1.setCell ⟨g, 2, none⟩ (.int .i64 ((i : Int) + (k : Int))) = w2 at *
        have HC2 := Lib.hid ((Chg.of_below (S := fun k => k = g) HB.out).trans HST.out.2 fun _ _ e => e)
        have e1 : IntKind.i64.wrap ((i : Int) + (k : Int) - (k : Int)) = (i : Int) := by simp [IntKind.wrap, IntKind.bits, IntKind.signed]; omega
        have e1' : IntKind.i64.wrap (i : Int) = (i : Int) := by simp [IntKind.wrap, IntKind.bits, IntKind.signed]; omega
        have e2 : ((i : Int) + (k : Int)).toNat = i + k := by omega
        have p3 : (i : Int) ≤ (i : Int) + (k : Int) := by omega
        have p4 : (0 : Int) ≤ (i : Int) + (k : Int) := by omega
        have e5 : i + k - i = k := by omega
        have d1 := HST.out.1.c1
        have d2 : w2.cell? ⟨g, 2, none⟩ = some (.int .i64 ((i : Int) + (k : Int))) := by have := HST.out.1.c2; simpa using this
        have hS0 : (fun W => W.cell? ⟨g, 1, none⟩ = some (.slice none xs.length c) ∧ W.cell? ⟨g, 2, none⟩ = some (.int .i64 ((i : Int) + (k : Int))) ∧ Rd W g none c xs (i + k) ∧ Below w2.heap.size w2 W) w2 := ⟨d1, d2, HST.out.1, Below.refl _ _⟩
        have HSB := Lib.hid fun W W' (h : W.cell? ⟨g, 1, none⟩ = some (.slice none xs.length c) ∧ W.cell? ⟨g, 2, none⟩ = some (.int .i64 ((i : Int) + (k : Int))) ∧ Rd W g none c xs (i + k) ∧ Below w2.heap.size w2 W) (hb : Below W.heap.size W W') => (show W'.cell? ⟨g, 1, none⟩ = some (.slice none xs.length c) ∧ W'.cell? ⟨g, 2, none⟩ = some (.int .i64 ((i : Int) + (k : Int))) ∧ Rd W' g none c xs (i + k) ∧ Below w2.heap.size w2 W' from ⟨(h.2.2.1.below hb).c1, by have := (h.2.2.1.below hb).c2; simpa using this, h.2.2.1.below hb, below_trans h.2.2.2 hb⟩)
        have HRD := Lib.hid fun W (h : W.cell? ⟨g, 1, none⟩ = some (.slice none xs.length c) ∧ W.cell? ⟨g, 2, none⟩ = some (.int .i64 ((i : Int) + (k : Int))) ∧ Rd W g none c xs (i + k) ∧ Below w2.heap.size w2 W) => h.2.2.1
        clear d1 d2
        go_region_held3 (fun W => W.cell? ⟨g, 1, none⟩ = some (.slice none xs.length c) ∧ W.cell? ⟨g, 2, none⟩ = some (.int .i64 ((i : Int) + (k : Int))) ∧ Rd W g none c xs (i + k) ∧ Below w2.heap.size w2 W)
          (first
            | assumption
            | (exact HSB.out _ _ (by assumption) (Below.refl _ _).drew))
          (first
            | (go_at_call 34; refine (HCL.out _ (HRD.out _ (by assumption))).mono ?_
               rintro e wa ⟨⟨v2, rfl, ho⟩, hb1⟩
               have hSa := HSB.out _ _ (by assumption) hb1
               have hv := HoldsB.of_own ho
               obtain ⟨A2, k2, rfl, _⟩ := id hv
               clear ho hb1))
        all_goals
          have HF := Lib.hid hSa
          have HV := Lib.hid hv
          clear hSa hv
          go_wp2_with fail
          go_ret2
          exact ⟨⟨A2, k2, rfl, HV.out⟩, by rw [if_pos rfl, HYL.out]; exact HF.out.2.2.1, HC2.out.trans (T := fun _ => False) (Chg.of_below HF.out.2.2.2) fun _ _ e => e.elim⟩
      · by_cases hci : c = i
        · have hcc := H.out.2.2.2.2.2.1
          have hk0 : k = 0 := by omega
          have hci' : i = c := hci.symm
          subst hci'
          have p0 : (0 : Int) ≤ (i : Int) := by omega
          have p1 : (i : Int) + (k : Int) ≤ 1000000 := by omega
          have hcx := H.out.2.2.2.2.2.1
          have p2 : (i : Int) + (k : Int) ≤ (i : Int) := by omega
          have HCL := Lib.hid fun W (h : Rd W g (some a) i xs (i + k)) => (show Calls Try.prog 34 #[.slice (some a) k 0] W (fun e w' => (∃ v, e = .returned v ∧ w'.ownsRow W.heap.size 5 1 v ys.length (cellsOf encB ys)) ∧ Below W.heap.size W w') from (by
            subst hk0
            have hy0 : ys = [] := by rw [hys]; simp
            subst hy0
            exact cloneB (some a) [] 0 W SlAt.nil (by simp)))
          clear hcc hk0 hci hys hyl hgt hneg
          go_enter Try.func42, Try.ntmps42
          go_wp2_with fail
          refine HL.out.mono ?_
          rintro e w1 ⟨rfl, hb⟩
          have h1 := H.out.below hb
          have c1 := h1.c1
          have c2 := h1.c2
          have f2 := h1.f2
          have H1 := Lib.hid h1
          have HB := Lib.hid hb
          clear hb h1
          go_wp2_with fail
          have hst := H1.out.set (j := i + k) hk
          have HST := Lib.hid (show Rd (w1.setCell ⟨g, 2, none⟩ (.int .i64 ((i : Int) + (k : Int)))) g (some a) i xs (i + k) ∧ Chg (fun k => k = g) w1 (w1.setCell ⟨g, 2, none⟩ (.int .i64 ((i : Int) + (k : Int)))) from by
            rw [show (i : Int) + (k : Int) = ((i + k : Nat) : Int) by omega]; exact hst)
          clear hst c1 c2 f2
          generalize w1.setCell ⟨g, 2, none⟩ (.int .i64 ((i : Int) + (k : Int))) = w2 at *
          have HC2 := Lib.hid ((Chg.of_below (S := fun k => k = g) HB.out).trans HST.out.2 fun _ _ e => e)
          have e1 : IntKind.i64.wrap ((i : Int) + (k : Int) - (k : Int)) = (i : Int) := by simp [IntKind.wrap, IntKind.bits, IntKind.signed]; omega
          have e1' : IntKind.i64.wrap (i : Int) = (i : Int) := by simp [IntKind.wrap, IntKind.bits, IntKind.signed]; omega
          have e2 : ((i : Int) + (k : Int)).toNat = i + k := by omega
          have p3 : (i : Int) ≤ (i : Int) + (k : Int) := by omega
          have p4 : (0 : Int) ≤ (i : Int) + (k : Int) := by omega
          have e5 : i + k - i = k := by omega
          have d1 := HST.out.1.c1
          have d2 : w2.cell? ⟨g, 2, none⟩ = some (.int .i64 ((i : Int) + (k : Int))) := by have := HST.out.1.c2; simpa using this
          have hS0 : (fun W => W.cell? ⟨g, 1, none⟩ = some (.slice (some a) xs.length i) ∧ W.cell? ⟨g, 2, none⟩ = some (.int .i64 ((i : Int) + (k : Int))) ∧ Rd W g (some a) i xs (i + k) ∧ Below w2.heap.size w2 W) w2 := ⟨d1, d2, HST.out.1, Below.refl _ _⟩
          have HSB := Lib.hid fun W W' (h : W.cell? ⟨g, 1, none⟩ = some (.slice (some a) xs.length i) ∧ W.cell? ⟨g, 2, none⟩ = some (.int .i64 ((i : Int) + (k : Int))) ∧ Rd W g (some a) i xs (i + k) ∧ Below w2.heap.size w2 W) (hb : Below W.heap.size W W') => (show W'.cell? ⟨g, 1, none⟩ = some (.slice (some a) xs.length i) ∧ W'.cell? ⟨g, 2, none⟩ = some (.int .i64 ((i : Int) + (k : Int))) ∧ Rd W' g (some a) i xs (i + k) ∧ Below w2.heap.size w2 W' from ⟨(h.2.2.1.below hb).c1, by have := (h.2.2.1.below hb).c2; simpa using this, h.2.2.1.below hb, below_trans h.2.2.2 hb⟩)
          have HRD := Lib.hid fun W (h : W.cell? ⟨g, 1, none⟩ = some (.slice (some a) xs.length i) ∧ W.cell? ⟨g, 2, none⟩ = some (.int .i64 ((i : Int) + (k : Int))) ∧ Rd W g (some a) i xs (i + k) ∧ Below w2.heap.size w2 W) => h.2.2.1
          clear d1 d2
          go_region_held3 (fun W => W.cell? ⟨g, 1, none⟩ = some (.slice (some a) xs.length i) ∧ W.cell? ⟨g, 2, none⟩ = some (.int .i64 ((i : Int) + (k : Int))) ∧ Rd W g (some a) i xs (i + k) ∧ Below w2.heap.size w2 W)
            (first
              | assumption
              | (exact HSB.out _ _ (by assumption) (Below.refl _ _).drew))
            (first
              | (go_at_call 34; refine (HCL.out _ (HRD.out _ (by assumption))).mono ?_
                 rintro e wa ⟨⟨v2, rfl, ho⟩, hb1⟩
                 have hSa := HSB.out _ _ (by assumption) hb1
                 have hv := HoldsB.of_own ho
                 obtain ⟨A2, k2, rfl, _⟩ := id hv
                 clear ho hb1))
          all_goals
            have HF := Lib.hid hSa
            have HV := Lib.hid hv
            clear hSa hv
            go_wp2_with fail
            go_ret2
            exact ⟨⟨A2, k2, rfl, HV.out⟩, by rw [if_pos rfl, HYL.out]; exact HF.out.2.2.1, HC2.out.trans (T := fun _ => False) (Chg.of_below HF.out.2.2.2) fun _ _ e => e.elim⟩
        · skip
          have p0 : (0 : Int) ≤ (i : Int) := by omega
          have p1 : (i : Int) + (k : Int) ≤ 1000000 := by omega
          have hcx := H.out.2.2.2.2.2.1
          have p2 : (i : Int) + (k : Int) ≤ (c : Int) := by omega
          have HCL := Lib.hid fun W (h : Rd W g (some a) c xs (i + k)) => (show Calls Try.prog 34 #[.slice (some (a.add i)) k (c - i)] W (fun e w' => (∃ v, e = .returned v ∧ w'.ownsRow W.heap.size 5 1 v ys.length (cellsOf encB ys)) ∧ Below W.heap.size W w') from (by
            have hat := (h.2.1.cut i c h.2.2.2.2.2.1).take k
            rw [if_neg hci, ← hys] at hat
            simp only [Option.map_some, Nat.mul_one] at hat
            have hh := cloneB (some (a.add i)) ys (c - i) W hat (by omega)
            rw [hyl] at hh ⊢
            exact hh))
          clear hys hyl hgt hneg
          go_enter Try.func42, Try.ntmps42
          go_wp2_with fail
          refine HL.out.mono ?_
          rintro e w1 ⟨rfl, hb⟩
          have h1 := H.out.below hb
          have c1 := h1.c1
          have c2 := h1.c2
          have f2 := h1.f2
          have H1 := Lib.hid h1
          have HB := Lib.hid hb
          clear hb h1
          go_wp2_with fail
          have hst := H1.out.set (j := i + k) hk
          have HST := Lib.hid (show Rd (w1.setCell ⟨g, 2, none⟩ (.int .i64 ((i : Int) + (k : Int)))) g (some a) c xs (i + k) ∧ Chg (fun k => k = g) w1 (w1.setCell ⟨g, 2, none⟩ (.int .i64 ((i : Int) + (k : Int)))) from by
            rw [show (i : Int) + (k : Int) = ((i + k : Nat) : Int) by omega]; exact hst)
          clear hst c1 c2 f2
          generalize w1.setCell ⟨g, 2, none⟩ (.int .i64 ((i : Int) + (k : Int))) = w2 at *
          have HC2 := Lib.hid ((Chg.of_below (S := fun k => k = g) HB.out).trans HST.out.2 fun _ _ e => e)
          have e1 : IntKind.i64.wrap ((i : Int) + (k : Int) - (k : Int)) = (i : Int) := by simp [IntKind.wrap, IntKind.bits, IntKind.signed]; omega
          have e1' : IntKind.i64.wrap (i : Int) = (i : Int) := by simp [IntKind.wrap, IntKind.bits, IntKind.signed]; omega
          have e2 : ((i : Int) + (k : Int)).toNat = i + k := by omega
          have p3 : (i : Int) ≤ (i : Int) + (k : Int) := by omega
          have p4 : (0 : Int) ≤ (i : Int) + (k : Int) := by omega
          have e5 : i + k - i = k := by omega
          have d1 := HST.out.1.c1
          have d2 : w2.cell? ⟨g, 2, none⟩ = some (.int .i64 ((i : Int) + (k : Int))) := by have := HST.out.1.c2; simpa using this
          have hS0 : (fun W => W.cell? ⟨g, 1, none⟩ = some (.slice (some a) xs.length c) ∧ W.cell? ⟨g, 2, none⟩ = some (.int .i64 ((i : Int) + (k : Int))) ∧ Rd W g (some a) c xs (i + k) ∧ Below w2.heap.size w2 W) w2 := ⟨d1, d2, HST.out.1, Below.refl _ _⟩
          have HSB := Lib.hid fun W W' (h : W.cell? ⟨g, 1, none⟩ = some (.slice (some a) xs.length c) ∧ W.cell? ⟨g, 2, none⟩ = some (.int .i64 ((i : Int) + (k : Int))) ∧ Rd W g (some a) c xs (i + k) ∧ Below w2.heap.size w2 W) (hb : Below W.heap.size W W') => (show W'.cell? ⟨g, 1, none⟩ = some (.slice (some a) xs.length c) ∧ W'.cell? ⟨g, 2, none⟩ = some (.int .i64 ((i : Int) + (k : Int))) ∧ Rd W' g (some a) c xs (i + k) ∧ Below w2.heap.size w2 W' from ⟨(h.2.2.1.below hb).c1, by have := (h.2.2.1.below hb).c2; simpa using this, h.2.2.1.below hb, below_trans h.2.2.2 hb⟩)
          have HRD := Lib.hid fun W (h : W.cell? ⟨g, 1, none⟩ = some (.slice (some a) xs.length c) ∧ W.cell? ⟨g, 2, none⟩ = some (.int .i64 ((i : Int) + (k : Int))) ∧ Rd W g (some a) c xs (i + k) ∧ Below w2.heap.size w2 W) => h.2.2.1
          clear d1 d2
          go_region_held3 (fun W => W.cell? ⟨g, 1, none⟩ = some (.slice (some a) xs.length c) ∧ W.cell? ⟨g, 2, none⟩ = some (.int .i64 ((i : Int) + (k : Int))) ∧ Rd W g (some a) c xs (i + k) ∧ Below w2.heap.size w2 W)
            (first
              | assumption
              | (exact HSB.out _ _ (by assumption) (Below.refl _ _).drew))
            (first
              | (go_at_call 34; refine (HCL.out _ (HRD.out _ (by assumption))).mono ?_
                 rintro e wa ⟨⟨v2, rfl, ho⟩, hb1⟩
                 have hSa := HSB.out _ _ (by assumption) hb1
                 have hv := HoldsB.of_own ho
                 obtain ⟨A2, k2, rfl, _⟩ := id hv
                 clear ho hb1))
          all_goals
            have HF := Lib.hid hSa
            have HV := Lib.hid hv
            clear hSa hv
            go_wp2_with fail
            go_ret2
            exact ⟨⟨A2, k2, rfl, HV.out⟩, by rw [if_pos rfl, HYL.out]; exact HF.out.2.2.1, HC2.out.trans (T := fun _ => False) (Chg.of_below HF.out.2.2.2) fun _ _ e => e.elim⟩

end Go.Proofs.Ytkloheabbbpboaa
