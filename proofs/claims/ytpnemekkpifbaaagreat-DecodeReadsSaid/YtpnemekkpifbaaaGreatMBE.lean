/- Several texts in one: BytF, BytG, BytH, DecX2. -/
import Derived.Test.YtpnemekkpifbaaaGreatMBD
import Derived.Defers
import Derived.Recover
import Derived.WalkLawsBesides
namespace Go.Proofs.YtpnemekkpifbaaaGreat

section
open Go.RowKit

/-- What Num leaves. -/
def NumT (w : World) (g : Nat) (A : Option Addr) (c : Nat) (xs : List UInt8) (i : Nat) (n : Nat) (er : Int) (e : Ending) (w' : World) : Prop :=
  e = .returned (.tuple #[.int .u64 n, .int .i64 er]) ∧ Rd w' g A c xs (i + if er = 0 then (rd (xs.drop i)).2.1 else 0) ∧ Chg (fun k => k = g) w w'
theorem Rd.back {W : World} {g : Nat} {A : Option Addr} {c : Nat} {xs : List UInt8} {i j : Nat} (h : Rd W g A c xs j) (hi : i ≤ xs.length) : Rd (W.setCell ⟨g, 2, none⟩ (.int .i64 i)) g A c xs i ∧ Chg (fun k => k = g) W (W.setCell ⟨g, 2, none⟩ (.int .i64 i)) := h.set hi

set_option maxHeartbeats 1000000 in
theorem numTry (g : Nat) (A : Option Addr) (c : Nat) (xs : List UInt8) (i : Nat) (most : Nat) (w : World) (h : Rd w g A c xs i) (hmost : most < 18446744073709551616) (n : Nat) (er : Int) (hr : numP (rd (xs.drop i)) most = (n, er)) :
    Calls Tryz.prog 99 #[.pointer (some ⟨g, 0, none⟩), .int .u64 (most : Int)] w (NumT w g A c xs i n er) := by
  have HZ := Lib.hid (zeroNot g w h.c0)
  have HN := Lib.hid (numIn g A c xs i most w h hmost n er hr)
  have c2 := h.c2
  have HI := Lib.hid h.2.2.2.1
  clear h hr
  by_cases her : er = 0
  · subst her
    go_enter Tryz.func99, Tryz.ntmps99
    go_wp2_with (first
      | (go_at_call 75; refine HZ.out.mono ?_; rintro e w1 ⟨rfl, rfl⟩)
      | (go_at_call 115; refine HN.out.mono ?_; rintro e w1 ⟨rfl, j, hR, hC, hj⟩; have HR := Lib.hid hR; have HC := Lib.hid hC; have HJ := Lib.hid hj; clear hR hC hj)
      | go_in)
    go_ret2
    have hj' : j = i + (rd (xs.drop i)).2.1 := by first | exact HJ.out trivial | exact HJ.out rfl
    exact ⟨rfl, by rw [if_pos rfl, ← hj']; exact HR.out, HC.out⟩
  · have z0 : (er == 0) = false := by simp [her]
    have z1 : (er != 0) = true := by simp [her]
    have HER := Lib.hid her
    clear her
    go_enter Tryz.func99, Tryz.ntmps99
    go_wp2_with (first
      | (go_at_call 75; refine HZ.out.mono ?_; rintro e w1 ⟨rfl, rfl⟩)
      | (go_at_call 115; refine HN.out.mono ?_; rintro e w1 ⟨rfl, j, hR, hC, hj⟩; have d2 := hR.c2; have f2 := hR.f2; have HR := Lib.hid hR; have HC := Lib.hid hC; clear hR hC hj)
      | go_in)
    go_ret2
    exact ⟨rfl, by rw [if_neg HER.out]; exact (HR.out.back HI.out).1, HC.out.trans (HR.out.back HI.out).2 fun _ _ e => e⟩

end

section
open Go.RowKit

/-- What take returns: bytes and an error. -/
def takeP (l : List UInt8) (n : Int) : List UInt8 × Int := if n < 0 then ([], 2) else if (l.length : Int) < n then ([], 4) else (l.take n.toNat, 0)
/-- What take leaves. -/
def TakeR (w : World) (g : Nat) (A : Option Addr) (c : Nat) (xs : List UInt8) (i : Nat) (ys : List UInt8) (er : Int) (e : Ending) (w' : World) : Prop :=
  (∃ B d, e = .returned (.tuple #[.slice B ys.length d, .int .i64 er]) ∧ HoldsB w' (.slice B ys.length d) ys) ∧ Rd w' g A c xs (i + if er = 0 then ys.length else 0) ∧ Chg (fun k => k = g) w w'
theorem TakeR.no {w w' : World} {g : Nat} {A : Option Addr} {c : Nat} {xs : List UInt8} {i : Nat} {er : Int} (h : Rd w' g A c xs i) (hc : Chg (fun k => k = g) w w') (he : er ≠ 0) : TakeR w g A c xs i [] er (.returned (.tuple #[.slice none 0 0, .int .i64 er])) w' :=
  ⟨⟨none, 0, rfl, (HoldsB.nil w' : HoldsB w' (.slice none ([] : List UInt8).length 0) [])⟩, by rw [if_neg he]; exact h, hc⟩

set_option maxHeartbeats 1000000 in
theorem takeIn (g : Nat) (A : Option Addr) (c : Nat) (xs : List UInt8) (i : Nat) (n : Int) (w : World) (h : Rd w g A c xs i) (hn0 : -9223372036854775808 ≤ n) (hn1 : n ≤ 9223372036854775807) (ys : List UInt8) (er : Int) (hr : takeP (xs.drop i) n = (ys, er)) :
    Calls Tryz.prog 116 #[.pointer (some ⟨g, 0, none⟩), .int .i64 n] w (TakeR w g A c xs i ys er) := by
  unfold takeP at hr
  have hi := h.2.2.2.1
  have hm := h.2.2.2.2.1
  by_cases hneg : n < 0
  · rw [if_pos hneg] at hr
    cases hr
    have H := Lib.hid h
    clear h
    go_enter Tryz.func116, Tryz.ntmps116
    go_wp2_with fail
    go_ret2
    exact TakeR.no H.out (.refl _ _) (by omega)
  · rw [if_neg hneg] at hr
    have HL := Lib.hid (leftAt g A c xs i w h)
    have hdl : ((xs.drop i).length : Int) = ((xs.length - i : Nat) : Int) := by rw [List.length_drop]
    rw [hdl] at hr
    by_cases hgt : ((xs.length - i : Nat) : Int) < n
    · rw [if_pos hgt] at hr
      cases hr
      have H := Lib.hid h
      clear h hdl hi hm
      generalize ((xs.length - i : Nat) : Int) = z at *
      go_enter Tryz.func116, Tryz.ntmps116
      go_wp2_with fail
      refine HL.out.mono ?_
      rintro e w1 ⟨rfl, hb⟩
      have HB := Lib.hid hb
      clear hb
      go_wp2_with fail
      go_ret2
      exact TakeR.no (H.out.below HB.out) (.of_below HB.out) (by omega)
    · rw [if_neg hgt] at hr
      obtain ⟨k, rfl⟩ : ∃ k : Nat, n = (k : Int) := ⟨n.toNat, by omega⟩
      have hk : i + k ≤ xs.length := by omega
      have hys : ys = (xs.drop i).take k := by cases hr; simp
      have her : er = 0 := by cases hr; rfl
      subst her
      have hyl : ys.length = k := by rw [hys, List.length_take, List.length_drop]; omega
      have H := Lib.hid h
      have HYS := Lib.hid hys
      have HYL := Lib.hid hyl
      clear hr hdl h
      have b0 : ¬ ((xs.length - i : Nat) : Int) < (k : Int) := hgt
      generalize ((xs.length - i : Nat) : Int) = z at *
      rcases A with _ | a
      · have hx0 : xs = [] := by
          cases xs with
          | nil => rfl
          | cons x r => obtain ⟨_, _, e, _⟩ := H.out.2.1 (by simp); cases e
        have p0 : (0 : Int) ≤ (i : Int) := by omega
        have p1 : (i : Int) + (k : Int) ≤ 1000000 := by omega
        have hcx := H.out.2.2.2.2.2.1
        have p2 : (i : Int) + (k : Int) ≤ (c : Int) := by omega
        have HCL := Lib.hid fun W (h : Rd W g none c xs (i + k)) => (show Calls Tryz.prog 74 #[.slice none k (c - i)] W (fun e w' => (∃ v, e = .returned v ∧ w'.ownsRow W.heap.size 5 1 v ys.length (cellsOf encB ys)) ∧ Below W.heap.size W w') from (by
          have hk0 : k = 0 := by subst hx0; simp at hk; omega
          subst hk0
          have hy0 : ys = [] := by rw [hys]; simp
          subst hy0
          exact cloneB none [] (c - i) W SlAt.nil (by simp)))
        clear hx0 hys hyl hgt hneg
        go_enter Tryz.func116, Tryz.ntmps116
        go_wp2_with fail
        refine HL.out.mono ?_
        rintro e w1 ⟨rfl, hb⟩
        have h1 := H.out.below hb
        have c1 := h1.c1
        have c2 := h1.c2
        have f2 := h1.f2
        have H1 := Lib.hid h1
        have HB := Lib.hid hb
        clear hb h1
        go_wp2_with fail
        have hst := H1.out.set (j := i + k) hk
        have HST := Lib.hid (show Rd (w1.setCell ⟨g, 2, none⟩ (.int .i64 ((i : Int) + (k : Int)))) g none c xs (i + k) ∧ Chg (fun k => k = g) w1 (w1.setCell ⟨g, 2, none⟩ (.int .i64 ((i : Int) + (k : Int)))) from by
          rw [show (i : Int) + (k : Int) = ((i + k : Nat) : Int) by omega]; exact hst)
        clear hst c1 c2 f2
        generalize w1.setCell ⟨g, 2, none⟩ (.int .i64 ((i : Int) + (k : Int))) = w2 at *
        have HC2 := Lib.hid ((Chg.of_below (S := fun k => k = g) HB.out).trans HST.out.2 fun _ _ e => e)
        have e1 : IntKind.i64.wrap ((i : Int) + (k : Int) - (k : Int)) = (i : Int) := by simp [IntKind.wrap, IntKind.bits, IntKind.signed]; omega
        have e1' : IntKind.i64.wrap (i : Int) = (i : Int) := by simp [IntKind.wrap, IntKind.bits, IntKind.signed]; omega
        have e2 : ((i : Int) + (k : Int)).toNat = i + k := by omega
        have p3 : (i : Int) ≤ (i : Int) + (k : Int) := by omega
        have p4 : (0 : Int) ≤ (i : Int) + (k : Int) := by omega
        have e5 : i + k - i = k := by omega
        have d1 := HST.out.1.c1
        have d2 : w2.cell? ⟨g, 2, none⟩ = some (.int .i64 ((i : Int) + (k : Int))) := by have := HST.out.1.c2; simpa using this
        have hS0 : (fun W => W.cell? ⟨g, 1, none⟩ = some (.slice none xs.length c) ∧ W.cell? ⟨g, 2, none⟩ = some (.int .i64 ((i : Int) + (k : Int))) ∧ Rd W g none c xs (i + k) ∧ Below w2.heap.size w2 W) w2 := ⟨d1, d2, HST.out.1, Below.refl _ _⟩
        have HSB := Lib.hid fun W W' (h : W.cell? ⟨g, 1, none⟩ = some (.slice none xs.length c) ∧ W.cell? ⟨g, 2, none⟩ = some (.int .i64 ((i : Int) + (k : Int))) ∧ Rd W g none c xs (i + k) ∧ Below w2.heap.size w2 W) (hb : Below W.heap.size W W') => (show W'.cell? ⟨g, 1, none⟩ = some (.slice none xs.length c) ∧ W'.cell? ⟨g, 2, none⟩ = some (.int .i64 ((i : Int) + (k : Int))) ∧ Rd W' g none c xs (i + k) ∧ Below w2.heap.size w2 W' from ⟨(h.2.2.1.below hb).c1, by have := (h.2.2.1.below hb).c2; simpa using this, h.2.2.1.below hb, below_trans h.2.2.2 hb⟩)
        have HRD := Lib.hid fun W (h : W.cell? ⟨g, 1, none⟩ = some (.slice none xs.length c) ∧ W.cell? ⟨g, 2, none⟩ = some (.int .i64 ((i : Int) + (k : Int))) ∧ Rd W g none c xs (i + k) ∧ Below w2.heap.size w2 W) => h.2.2.1
        clear d1 d2
        go_region_held3 (fun W => W.cell? ⟨g, 1, none⟩ = some (.slice none xs.length c) ∧ W.cell? ⟨g, 2, none⟩ = some (.int .i64 ((i : Int) + (k : Int))) ∧ Rd W g none c xs (i + k) ∧ Below w2.heap.size w2 W)
          (first
            | assumption
            | (exact HSB.out _ _ (by assumption) (Below.refl _ _).drew))
          (first
            | (go_at_call 74; refine (HCL.out _ (HRD.out _ (by assumption))).mono ?_
               rintro e wa ⟨⟨v2, rfl, ho⟩, hb1⟩
               have hSa := HSB.out _ _ (by assumption) hb1
               have hv := HoldsB.of_own ho
               obtain ⟨A2, k2, rfl, _⟩ := id hv
               clear ho hb1))
        all_goals
          have HF := Lib.hid hSa
          have HV := Lib.hid hv
          clear hSa hv
          go_wp2_with fail
          go_ret2
          exact ⟨⟨A2, k2, rfl, HV.out⟩, by rw [if_pos rfl, HYL.out]; exact HF.out.2.2.1, HC2.out.trans (T := fun _ => False) (Chg.of_below HF.out.2.2.2) fun _ _ e => e.elim⟩
      · by_cases hci : c = i
        · have hcc := H.out.2.2.2.2.2.1
          have hk0 : k = 0 := by omega
          have hci' : i = c := hci.symm
          subst hci'
          have p0 : (0 : Int) ≤ (i : Int) := by omega
          have p1 : (i : Int) + (k : Int) ≤ 1000000 := by omega
          have hcx := H.out.2.2.2.2.2.1
          have p2 : (i : Int) + (k : Int) ≤ (i : Int) := by omega
          have HCL := Lib.hid fun W (h : Rd W g (some a) i xs (i + k)) => (show Calls Tryz.prog 74 #[.slice (some a) k 0] W (fun e w' => (∃ v, e = .returned v ∧ w'.ownsRow W.heap.size 5 1 v ys.length (cellsOf encB ys)) ∧ Below W.heap.size W w') from (by
            subst hk0
            have hy0 : ys = [] := by rw [hys]; simp
            subst hy0
            exact cloneB (some a) [] 0 W SlAt.nil (by simp)))
          clear hcc hk0 hci hys hyl hgt hneg
          go_enter Tryz.func116, Tryz.ntmps116
          go_wp2_with fail
          refine HL.out.mono ?_
          rintro e w1 ⟨rfl, hb⟩
          have h1 := H.out.below hb
          have c1 := h1.c1
          have c2 := h1.c2
          have f2 := h1.f2
          have H1 := Lib.hid h1
          have HB := Lib.hid hb
          clear hb h1
          go_wp2_with fail
          have hst := H1.out.set (j := i + k) hk
          have HST := Lib.hid (show Rd (w1.setCell ⟨g, 2, none⟩ (.int .i64 ((i : Int) + (k : Int)))) g (some a) i xs (i + k) ∧ Chg (fun k => k = g) w1 (w1.setCell ⟨g, 2, none⟩ (.int .i64 ((i : Int) + (k : Int)))) from by
            rw [show (i : Int) + (k : Int) = ((i + k : Nat) : Int) by omega]; exact hst)
          clear hst c1 c2 f2
          generalize w1.setCell ⟨g, 2, none⟩ (.int .i64 ((i : Int) + (k : Int))) = w2 at *
          have HC2 := Lib.hid ((Chg.of_below (S := fun k => k = g) HB.out).trans HST.out.2 fun _ _ e => e)
          have e1 : IntKind.i64.wrap ((i : Int) + (k : Int) - (k : Int)) = (i : Int) := by simp [IntKind.wrap, IntKind.bits, IntKind.signed]; omega
          have e1' : IntKind.i64.wrap (i : Int) = (i : Int) := by simp [IntKind.wrap, IntKind.bits, IntKind.signed]; omega
          have e2 : ((i : Int) + (k : Int)).toNat = i + k := by omega
          have p3 : (i : Int) ≤ (i : Int) + (k : Int) := by omega
          have p4 : (0 : Int) ≤ (i : Int) + (k : Int) := by omega
          have e5 : i + k - i = k := by omega
          have d1 := HST.out.1.c1
          have d2 : w2.cell? ⟨g, 2, none⟩ = some (.int .i64 ((i : Int) + (k : Int))) := by have := HST.out.1.c2; simpa using this
          have hS0 : (fun W => W.cell? ⟨g, 1, none⟩ = some (.slice (some a) xs.length i) ∧ W.cell? ⟨g, 2, none⟩ = some (.int .i64 ((i : Int) + (k : Int))) ∧ Rd W g (some a) i xs (i + k) ∧ Below w2.heap.size w2 W) w2 := ⟨d1, d2, HST.out.1, Below.refl _ _⟩
          have HSB := Lib.hid fun W W' (h : W.cell? ⟨g, 1, none⟩ = some (.slice (some a) xs.length i) ∧ W.cell? ⟨g, 2, none⟩ = some (.int .i64 ((i : Int) + (k : Int))) ∧ Rd W g (some a) i xs (i + k) ∧ Below w2.heap.size w2 W) (hb : Below W.heap.size W W') => (show W'.cell? ⟨g, 1, none⟩ = some (.slice (some a) xs.length i) ∧ W'.cell? ⟨g, 2, none⟩ = some (.int .i64 ((i : Int) + (k : Int))) ∧ Rd W' g (some a) i xs (i + k) ∧ Below w2.heap.size w2 W' from ⟨(h.2.2.1.below hb).c1, by have := (h.2.2.1.below hb).c2; simpa using this, h.2.2.1.below hb, below_trans h.2.2.2 hb⟩)
          have HRD := Lib.hid fun W (h : W.cell? ⟨g, 1, none⟩ = some (.slice (some a) xs.length i) ∧ W.cell? ⟨g, 2, none⟩ = some (.int .i64 ((i : Int) + (k : Int))) ∧ Rd W g (some a) i xs (i + k) ∧ Below w2.heap.size w2 W) => h.2.2.1
          clear d1 d2
          go_region_held3 (fun W => W.cell? ⟨g, 1, none⟩ = some (.slice (some a) xs.length i) ∧ W.cell? ⟨g, 2, none⟩ = some (.int .i64 ((i : Int) + (k : Int))) ∧ Rd W g (some a) i xs (i + k) ∧ Below w2.heap.size w2 W)
            (first
              | assumption
              | (exact HSB.out _ _ (by assumption) (Below.refl _ _).drew))
            (first
              | (go_at_call 74; refine (HCL.out _ (HRD.out _ (by assumption))).mono ?_
                 rintro e wa ⟨⟨v2, rfl, ho⟩, hb1⟩
                 have hSa := HSB.out _ _ (by assumption) hb1
                 have hv := HoldsB.of_own ho
                 obtain ⟨A2, k2, rfl, _⟩ := id hv
                 clear ho hb1))
          all_goals
            have HF := Lib.hid hSa
            have HV := Lib.hid hv
            clear hSa hv
            go_wp2_with fail
            go_ret2
            exact ⟨⟨A2, k2, rfl, HV.out⟩, by rw [if_pos rfl, HYL.out]; exact HF.out.2.2.1, HC2.out.trans (T := fun _ => False) (Chg.of_below HF.out.2.2.2) fun _ _ e => e.elim⟩
        · skip
          have p0 : (0 : Int) ≤ (i : Int) := by omega
          have p1 : (i : Int) + (k : Int) ≤ 1000000 := by omega
          have hcx := H.out.2.2.2.2.2.1
          have p2 : (i : Int) + (k : Int) ≤ (c : Int) := by omega
          have HCL := Lib.hid fun W (h : Rd W g (some a) c xs (i + k)) => (show Calls Tryz.prog 74 #[.slice (some (a.add i)) k (c - i)] W (fun e w' => (∃ v, e = .returned v ∧ w'.ownsRow W.heap.size 5 1 v ys.length (cellsOf encB ys)) ∧ Below W.heap.size W w') from (by
            have hat := (h.2.1.cut i c h.2.2.2.2.2.1).take k
            rw [if_neg hci, ← hys] at hat
            simp only [Option.map_some, Nat.mul_one] at hat
            have hh := cloneB (some (a.add i)) ys (c - i) W hat (by omega)
            rw [hyl] at hh ⊢
            exact hh))
          clear hys hyl hgt hneg
          go_enter Tryz.func116, Tryz.ntmps116
          go_wp2_with fail
          refine HL.out.mono ?_
          rintro e w1 ⟨rfl, hb⟩
          have h1 := H.out.below hb
          have c1 := h1.c1
          have c2 := h1.c2
          have f2 := h1.f2
          have H1 := Lib.hid h1
          have HB := Lib.hid hb
          clear hb h1
          go_wp2_with fail
          have hst := H1.out.set (j := i + k) hk
          have HST := Lib.hid (show Rd (w1.setCell ⟨g, 2, none⟩ (.int .i64 ((i : Int) + (k : Int)))) g (some a) c xs (i + k) ∧ Chg (fun k => k = g) w1 (w1.setCell ⟨g, 2, none⟩ (.int .i64 ((i : Int) + (k : Int)))) from by
            rw [show (i : Int) + (k : Int) = ((i + k : Nat) : Int) by omega]; exact hst)
          clear hst c1 c2 f2
          generalize w1.setCell ⟨g, 2, none⟩ (.int .i64 ((i : Int) + (k : Int))) = w2 at *
          have HC2 := Lib.hid ((Chg.of_below (S := fun k => k = g) HB.out).trans HST.out.2 fun _ _ e => e)
          have e1 : IntKind.i64.wrap ((i : Int) + (k : Int) - (k : Int)) = (i : Int) := by simp [IntKind.wrap, IntKind.bits, IntKind.signed]; omega
          have e1' : IntKind.i64.wrap (i : Int) = (i : Int) := by simp [IntKind.wrap, IntKind.bits, IntKind.signed]; omega
          have e2 : ((i : Int) + (k : Int)).toNat = i + k := by omega
          have p3 : (i : Int) ≤ (i : Int) + (k : Int) := by omega
          have p4 : (0 : Int) ≤ (i : Int) + (k : Int) := by omega
          have e5 : i + k - i = k := by omega
          have d1 := HST.out.1.c1
          have d2 : w2.cell? ⟨g, 2, none⟩ = some (.int .i64 ((i : Int) + (k : Int))) := by have := HST.out.1.c2; simpa using this
          have hS0 : (fun W => W.cell? ⟨g, 1, none⟩ = some (.slice (some a) xs.length c) ∧ W.cell? ⟨g, 2, none⟩ = some (.int .i64 ((i : Int) + (k : Int))) ∧ Rd W g (some a) c xs (i + k) ∧ Below w2.heap.size w2 W) w2 := ⟨d1, d2, HST.out.1, Below.refl _ _⟩
          have HSB := Lib.hid fun W W' (h : W.cell? ⟨g, 1, none⟩ = some (.slice (some a) xs.length c) ∧ W.cell? ⟨g, 2, none⟩ = some (.int .i64 ((i : Int) + (k : Int))) ∧ Rd W g (some a) c xs (i + k) ∧ Below w2.heap.size w2 W) (hb : Below W.heap.size W W') => (show W'.cell? ⟨g, 1, none⟩ = some (.slice (some a) xs.length c) ∧ W'.cell? ⟨g, 2, none⟩ = some (.int .i64 ((i : Int) + (k : Int))) ∧ Rd W' g (some a) c xs (i + k) ∧ Below w2.heap.size w2 W' from ⟨(h.2.2.1.below hb).c1, by have := (h.2.2.1.below hb).c2; simpa using this, h.2.2.1.below hb, below_trans h.2.2.2 hb⟩)
          have HRD := Lib.hid fun W (h : W.cell? ⟨g, 1, none⟩ = some (.slice (some a) xs.length c) ∧ W.cell? ⟨g, 2, none⟩ = some (.int .i64 ((i : Int) + (k : Int))) ∧ Rd W g (some a) c xs (i + k) ∧ Below w2.heap.size w2 W) => h.2.2.1
          clear d1 d2
          go_region_held3 (fun W => W.cell? ⟨g, 1, none⟩ = some (.slice (some a) xs.length c) ∧ W.cell? ⟨g, 2, none⟩ = some (.int .i64 ((i : Int) + (k : Int))) ∧ Rd W g (some a) c xs (i + k) ∧ Below w2.heap.size w2 W)
            (first
              | assumption
              | (exact HSB.out _ _ (by assumption) (Below.refl _ _).drew))
            (first
              | (go_at_call 74; refine (HCL.out _ (HRD.out _ (by assumption))).mono ?_
                 rintro e wa ⟨⟨v2, rfl, ho⟩, hb1⟩
                 have hSa := HSB.out _ _ (by assumption) hb1
                 have hv := HoldsB.of_own ho
                 obtain ⟨A2, k2, rfl, _⟩ := id hv
                 clear ho hb1))
          all_goals
            have HF := Lib.hid hSa
            have HV := Lib.hid hv
            clear hSa hv
            go_wp2_with fail
            go_ret2
            exact ⟨⟨A2, k2, rfl, HV.out⟩, by rw [if_pos rfl, HYL.out]; exact HF.out.2.2.1, HC2.out.trans (T := fun _ => False) (Chg.of_below HF.out.2.2.2) fun _ _ e => e.elim⟩

end

section
open Go.RowKit

theorem HoldsB.zero {w w' : World} {B : Option Addr} {d : Nat} (h : HoldsB w (.slice B 0 d) []) : HoldsB w' (.slice B 0 d) [] := by
  obtain ⟨A, c, e, _, h2, h3⟩ := h
  cases e
  exact ⟨B, d, rfl, SlAt.nil, h2, h3⟩

/-- What text leaves. -/
def TextR (w : World) (g : Nat) (A : Option Addr) (c : Nat) (xs : List UInt8) (i : Nat) (t : List UInt8 × Nat × Int) (e : Ending) (w' : World) : Prop :=
  e = .returned (.tuple #[.string ⟨t.1.toArray⟩, .int .i64 t.2.2]) ∧ ∃ j, Rd w' g A c xs j ∧ Chg (fun k => k = g) w w' ∧ (t.2.2 = 0 → j = i + t.2.1)

set_option maxHeartbeats 2000000 in
theorem textIn (g : Nat) (A : Option Addr) (c : Nat) (xs : List UInt8) (i : Nat) (most : Int) (w : World) (h : Rd w g A c xs i) (hn0 : -9223372036854775808 ≤ most) (hn1 : most ≤ 9223372036854775807) (t : List UInt8 × Nat × Int) (ht : rdS (xs.drop i) most = t) :
    Calls Tryz.prog 101 #[.pointer (some ⟨g, 0, none⟩), .int .i64 most] w (TextR w g A c xs i t) := by
  unfold rdS at ht
  have htop := rd_top (xs.drop i)
  have hle := rd_le (l := xs.drop i)
  obtain ⟨n, z, er, hrd⟩ : ∃ n z er, rd (xs.drop i) = (n, z, er) := ⟨_, _, _, rfl⟩
  rw [hrd] at ht htop hle
  simp only [] at ht htop hle
  by_cases her : er = 0
  · subst her
    have hnp : numP (rd (xs.drop i)) 18446744073709551615 = (n, 0) := by rw [hrd]; unfold numP; rw [if_neg (by simp), if_neg (by simp only []; omega)]
    have HN := Lib.hid (numIn g A c xs i 18446744073709551615 w h (by omega) n 0 hnp)
    have HRD := Lib.hid hrd
    rw [if_neg (by simp)] at ht
    have hi := h.2.2.2.1
    have hm := h.2.2.2.2.1
    clear h hnp hrd
    by_cases hlong : most < 0 ∨ most < (n : Int)
    · rw [if_pos hlong] at ht
      subst ht
      rcases hlong with hneg | hlt
      · clear htop hle
        go_enter Tryz.func101, Tryz.ntmps101
        go_wp2_with fail
        refine HN.out.mono ?_
        rintro e w1 ⟨rfl, j, hR, hC, _⟩
        have HR := Lib.hid hR
        have HC := Lib.hid hC
        clear hR hC
        go_wp2_with fail
        go_ret2
        exact ⟨rfl, j, HR.out, HC.out, fun e => by simp at e⟩
      · by_cases hneg : most < 0
        · clear htop hle hlt
          go_enter Tryz.func101, Tryz.ntmps101
          go_wp2_with fail
          refine HN.out.mono ?_
          rintro e w1 ⟨rfl, j, hR, hC, _⟩
          have HR := Lib.hid hR
          have HC := Lib.hid hC
          clear hR hC
          go_wp2_with fail
          go_ret2
          exact ⟨rfl, j, HR.out, HC.out, fun e => by simp at e⟩
        · have i0 : (0 : Int) ≤ most := by omega
          clear hneg htop hle
          go_enter Tryz.func101, Tryz.ntmps101
          go_wp2_with fail
          refine HN.out.mono ?_
          rintro e w1 ⟨rfl, j, hR, hC, _⟩
          have HR := Lib.hid hR
          have HC := Lib.hid hC
          clear hR hC
          go_wp2_with fail
          go_ret2
          exact ⟨rfl, j, HR.out, HC.out, fun e => by simp at e⟩
    · rw [if_neg hlong] at ht
      have i0 : (0 : Int) ≤ most := by omega
      have i1 : ¬ most < (n : Int) := by omega
      have i2 : (n : Int) ≤ 9223372036854775807 := by omega
      have HT := Lib.hid ht
      have HIL := Lib.hid (show i ≤ xs.length ∧ z ≤ (xs.drop i).length from ⟨hi, hle⟩)
      clear hlong ht htop hle hi hm
      go_enter Tryz.func101, Tryz.ntmps101
      go_wp2_with fail
      refine HN.out.mono ?_
      rintro e w1 ⟨rfl, j, hR, hC, hj⟩
      have hje : j = i + z := by
        have := hj rfl
        rw [HRD.out] at this
        exact this
      subst hje
      obtain ⟨ys, e2, hT⟩ : ∃ ys e2, takeP (xs.drop (i + z)) (n : Int) = (ys, e2) := ⟨_, _, rfl⟩
      have HK := Lib.hid (takeIn g A c xs (i + z) (n : Int) w1 hR (by omega) (by omega) ys e2 hT)
      have htt : t = (ys, (if e2 = 0 then z + n else 0), e2) ∧ (e2 = 0 → ys.length = n) := by
        have hd : (xs.drop (i + z)) = (xs.drop i).drop z := by rw [List.drop_drop]
        have h1 := HT.out
        unfold takeP at hT
        rw [if_neg (by omega), hd, List.length_drop] at hT
        have hzl := HIL.out.2
        by_cases hs : (xs.drop i).length - z < n
        · rw [if_pos hs] at h1
          rw [if_pos (by omega)] at hT
          cases hT
          exact ⟨h1.symm, fun e => by simp at e⟩
        · rw [if_neg hs] at h1
          rw [if_neg (by omega)] at hT
          cases hT
          refine ⟨by rw [← h1]; simp, fun _ => ?_⟩
          rw [List.length_take, List.length_drop]
          simp
          simp at hs
          omega
      have HTT := Lib.hid htt
      have HC := Lib.hid hC
      clear hR hC hj hT htt
      go_wp2_with fail
      refine HK.out.mono ?_
      rintro e w2 ⟨⟨B, d, rfl, hv⟩, hR2, hC2⟩
      have hcv := convB w2 B d ys hv
      have HR2 := Lib.hid hR2
      have HC2 := Lib.hid (HC.out.trans hC2 fun _ _ e => e)
      clear hv hR2 hC2
      go_wp2_with fail
      go_ret2
      have h1 := HTT.out.1
      subst h1
      refine ⟨rfl, _, HR2.out, HC2.out, fun e => ?_⟩
      have e' : e2 = 0 := e
      simp only [if_pos e']
      have := HTT.out.2 e'
      omega
  · have hnp : numP (rd (xs.drop i)) 18446744073709551615 = (0, er) := by rw [hrd]; unfold numP; rw [if_pos her]
    have HN := Lib.hid (numIn g A c xs i 18446744073709551615 w h (by omega) 0 er hnp)
    rw [if_pos her] at ht
    subst ht
    have z0 : (er == 0) = false := by simp [her]
    have z1 : (er != 0) = true := by simp [her]
    have HER := Lib.hid her
    clear h hnp hrd her htop hle
    go_enter Tryz.func101, Tryz.ntmps101
    go_wp2_with fail
    refine HN.out.mono ?_
    rintro e w1 ⟨rfl, j, hR, hC, _⟩
    have HR := Lib.hid hR
    have HC := Lib.hid hC
    clear hR hC
    go_wp2_with fail
    go_ret2
    exact ⟨rfl, j, HR.out, HC.out, fun e => absurd e HER.out⟩

/-- What String leaves. -/
def TextT (w : World) (g : Nat) (A : Option Addr) (c : Nat) (xs : List UInt8) (i : Nat) (t : List UInt8 × Nat × Int) (e : Ending) (w' : World) : Prop :=
  e = .returned (.tuple #[.string ⟨t.1.toArray⟩, .int .i64 t.2.2]) ∧ Rd w' g A c xs (i + if t.2.2 = 0 then t.2.1 else 0) ∧ Chg (fun k => k = g) w w'

set_option maxHeartbeats 1000000 in
theorem textTry (g : Nat) (A : Option Addr) (c : Nat) (xs : List UInt8) (i : Nat) (most : Int) (w : World) (h : Rd w g A c xs i) (hn0 : -9223372036854775808 ≤ most) (hn1 : most ≤ 9223372036854775807) (t : List UInt8 × Nat × Int) (ht : rdS (xs.drop i) most = t) :
    Calls Tryz.prog 79 #[.pointer (some ⟨g, 0, none⟩), .int .i64 most] w (TextT w g A c xs i t) := by
  have HZ := Lib.hid (zeroNot g w h.c0)
  have HN := Lib.hid (textIn g A c xs i most w h hn0 hn1 t ht)
  have c2 := h.c2
  have HI := Lib.hid h.2.2.2.1
  clear h ht
  obtain ⟨ys, z, er⟩ := t
  by_cases her : er = 0
  · subst her
    go_enter Tryz.func79, Tryz.ntmps79
    go_wp2_with (first
      | (go_at_call 75; refine HZ.out.mono ?_; rintro e w1 ⟨rfl, rfl⟩)
      | (go_at_call 101; refine HN.out.mono ?_; rintro e w1 ⟨rfl, j, hR, hC, hj⟩; have HR := Lib.hid hR; have HC := Lib.hid hC; have HJ := Lib.hid hj; clear hR hC hj)
      | go_in)
    go_ret2
    have hj' : j = i + z := by first | exact HJ.out trivial | exact HJ.out rfl
    exact ⟨rfl, by rw [if_pos rfl, ← hj']; exact HR.out, HC.out⟩
  · have z0 : (er == 0) = false := by simp [her]
    have z1 : (er != 0) = true := by simp [her]
    have HER := Lib.hid her
    clear her
    go_enter Tryz.func79, Tryz.ntmps79
    go_wp2_with (first
      | (go_at_call 75; refine HZ.out.mono ?_; rintro e w1 ⟨rfl, rfl⟩)
      | (go_at_call 101; refine HN.out.mono ?_; rintro e w1 ⟨rfl, j, hR, hC, hj⟩; have d2 := hR.c2; have f2 := hR.f2; have HR := Lib.hid hR; have HC := Lib.hid hC; clear hR hC hj)
      | go_in)
    go_ret2
    exact ⟨rfl, by rw [if_neg HER.out]; exact (HR.out.back HI.out).1, HC.out.trans (HR.out.back HI.out).2 fun _ _ e => e⟩

end

section
open Go.RowKit

/-- What reading stops with. -/
def badV : Value := .iface 94 (.agg #[])
def badP : List PanicEntry := [{ v := badV, recovered := false }]
def unitV : Value := .tuple #[]

theorem check_t (w : World) : Calls Tryz.prog 48 #[.bool true] w fun e w' => e = .returned unitV ∧ w = w' := by
  go_enter Tryz.func48, Tryz.ntmps48
  go_wp2
  go_end0
  exact ⟨rfl, rfl⟩
theorem check_f (w : World) : Calls Tryz.prog 48 #[.bool false] w fun e w' => e = .panicked badP ∧ w = w' := by
  go_enter Tryz.func48, Tryz.ntmps48
  go_wp2
  exact ⟨rfl, rfl, rfl⟩
theorem refusal_nil (w : World) : Calls Tryz.prog 29 #[.nilIface] w fun e w' => e = .returned (.int .i64 0) ∧ w = w' := by
  have h0 : ∀ w : World, (binOp BinOp.eql 20 .nilIface .nilIface).run Tryz.prog w = .ok (.bool true) w := fun _ => by kernel_rfl
  go_enter Tryz.func29, Tryz.ntmps29
  go_wp2
  go_ret
  exact ⟨rfl, rfl⟩
theorem refusal_bad (w : World) : Calls Tryz.prog 29 #[badV] w fun e w' => e = .returned (.int .i64 12) ∧ w = w' := by
  have h0 : ∀ w : World, (binOp BinOp.eql 20 (.iface 94 (.agg #[])) .nilIface).run Tryz.prog w = .ok (.bool false) w := fun _ => by kernel_rfl
  have h1 : ∀ w : World, (Instr.typeAssert (.iface 94 (.agg #[])) 20 94 true).run Tryz.prog w = .ok (.tuple #[.agg #[], .bool true]) w := fun _ => by kernel_rfl
  show Calls Tryz.prog 29 #[.iface 94 (.agg #[])] w _
  go_enter Tryz.func29, Tryz.ntmps29
  go_wp2
  go_ret
  exact ⟨rfl, rfl⟩

/-- A deferred closure, of a frame that panics, and of one that returns. -/
theorem catchCa (p : Addr) (x : Int) (w : World) (hc : w.cell? p = some (.int .i64 x)) (hz : w.frozen? p = false) :
    CallsD Tryz.prog 28 #[.pointer (some p)] (.panicking badP) w fun e u' w' => e = .returned (.tuple #[]) ∧ u' = .panicking [{ v := badV, recovered := true }] ∧ w' = w.setCell p (.int .i64 12) := by
  refine callsD_of_wpS Tryz.func28 rfl fun c₀ cs hu => ?_
  have hu' : c₀.mode = .panicking ({ v := badV, recovered := false } :: []) := hu
  apply wpS_region
  simp [wpOpsS, go_sem, recoverD, hu', Tryz.ntmps28]
  refine (refusal_bad w).mono ?_
  rintro e w1 ⟨rfl, rfl⟩
  simp [go_sem, hc, hz, bodyPostS, results, Tryz.results28]
theorem idleCa (p : Addr) (x : Int) (w : World) (hc : w.cell? p = some (.int .i64 x)) (hz : w.frozen? p = false) :
    CallsD Tryz.prog 28 #[.pointer (some p)] .returning w fun e u' w' => e = .returned (.tuple #[]) ∧ u' = .returning ∧ w' = w.setCell p (.int .i64 0) := by
  refine callsD_of_wpS Tryz.func28 rfl fun c₀ cs hu => ?_
  apply wpS_region
  simp [wpOpsS, go_sem, recoverD, hu, Tryz.ntmps28]
  refine (refusal_nil w).mono ?_
  rintro e w1 ⟨rfl, rfl⟩
  simp [go_sem, hc, hz, bodyPostS, results, Tryz.results28]
  cases c₀
  simp_all
theorem catchPr (p : Addr) (x : Int) (w : World) (hc : w.cell? p = some (.int .i64 x)) (hz : w.frozen? p = false) :
    CallsD Tryz.prog 63 #[.pointer (some p)] (.panicking badP) w fun e u' w' => e = .returned (.tuple #[]) ∧ u' = .panicking [{ v := badV, recovered := true }] ∧ w' = w.setCell p (.int .i64 12) := by
  refine callsD_of_wpS Tryz.func63 rfl fun c₀ cs hu => ?_
  have hu' : c₀.mode = .panicking ({ v := badV, recovered := false } :: []) := hu
  apply wpS_region
  simp [wpOpsS, go_sem, recoverD, hu', Tryz.ntmps63]
  refine (refusal_bad w).mono ?_
  rintro e w1 ⟨rfl, rfl⟩
  simp [go_sem, hc, hz, bodyPostS, results, Tryz.results63]
theorem idlePr (p : Addr) (x : Int) (w : World) (hc : w.cell? p = some (.int .i64 x)) (hz : w.frozen? p = false) :
    CallsD Tryz.prog 63 #[.pointer (some p)] .returning w fun e u' w' => e = .returned (.tuple #[]) ∧ u' = .returning ∧ w' = w.setCell p (.int .i64 0) := by
  refine callsD_of_wpS Tryz.func63 rfl fun c₀ cs hu => ?_
  apply wpS_region
  simp [wpOpsS, go_sem, recoverD, hu, Tryz.ntmps63]
  refine (refusal_nil w).mono ?_
  rintro e w1 ⟨rfl, rfl⟩
  simp [go_sem, hc, hz, bodyPostS, results, Tryz.results63]
  cases c₀
  simp_all
theorem catchCo (p : Addr) (x : Int) (w : World) (hc : w.cell? p = some (.int .i64 x)) (hz : w.frozen? p = false) :
    CallsD Tryz.prog 65 #[.pointer (some p)] (.panicking badP) w fun e u' w' => e = .returned (.tuple #[]) ∧ u' = .panicking [{ v := badV, recovered := true }] ∧ w' = w.setCell p (.int .i64 12) := by
  refine callsD_of_wpS Tryz.func65 rfl fun c₀ cs hu => ?_
  have hu' : c₀.mode = .panicking ({ v := badV, recovered := false } :: []) := hu
  apply wpS_region
  simp [wpOpsS, go_sem, recoverD, hu', Tryz.ntmps65]
  refine (refusal_bad w).mono ?_
  rintro e w1 ⟨rfl, rfl⟩
  simp [go_sem, hc, hz, bodyPostS, results, Tryz.results65]
theorem idleCo (p : Addr) (x : Int) (w : World) (hc : w.cell? p = some (.int .i64 x)) (hz : w.frozen? p = false) :
    CallsD Tryz.prog 65 #[.pointer (some p)] .returning w fun e u' w' => e = .returned (.tuple #[]) ∧ u' = .returning ∧ w' = w.setCell p (.int .i64 0) := by
  refine callsD_of_wpS Tryz.func65 rfl fun c₀ cs hu => ?_
  apply wpS_region
  simp [wpOpsS, go_sem, recoverD, hu, Tryz.ntmps65]
  refine (refusal_nil w).mono ?_
  rintro e w1 ⟨rfl, rfl⟩
  simp [go_sem, hc, hz, bodyPostS, results, Tryz.results65]
  cases c₀
  simp_all
theorem catchCn (p : Addr) (x : Int) (w : World) (hc : w.cell? p = some (.int .i64 x)) (hz : w.frozen? p = false) :
    CallsD Tryz.prog 44 #[.pointer (some p)] (.panicking badP) w fun e u' w' => e = .returned (.tuple #[]) ∧ u' = .panicking [{ v := badV, recovered := true }] ∧ w' = w.setCell p (.int .i64 12) := by
  refine callsD_of_wpS Tryz.func44 rfl fun c₀ cs hu => ?_
  have hu' : c₀.mode = .panicking ({ v := badV, recovered := false } :: []) := hu
  apply wpS_region
  simp [wpOpsS, go_sem, recoverD, hu', Tryz.ntmps44]
  refine (refusal_bad w).mono ?_
  rintro e w1 ⟨rfl, rfl⟩
  simp [go_sem, hc, hz, bodyPostS, results, Tryz.results44]
theorem idleCn (p : Addr) (x : Int) (w : World) (hc : w.cell? p = some (.int .i64 x)) (hz : w.frozen? p = false) :
    CallsD Tryz.prog 44 #[.pointer (some p)] .returning w fun e u' w' => e = .returned (.tuple #[]) ∧ u' = .returning ∧ w' = w.setCell p (.int .i64 0) := by
  refine callsD_of_wpS Tryz.func44 rfl fun c₀ cs hu => ?_
  apply wpS_region
  simp [wpOpsS, go_sem, recoverD, hu, Tryz.ntmps44]
  refine (refusal_nil w).mono ?_
  rintro e w1 ⟨rfl, rfl⟩
  simp [go_sem, hc, hz, bodyPostS, results, Tryz.results44]
  cases c₀
  simp_all
end

end Go.Proofs.YtpnemekkpifbaaaGreat
