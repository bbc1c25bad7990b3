/- The laws NamesKeys, NamesQuotes, NamesFields. -/
import Derived.Test.YtpkpacgmmhjfpaaDoorNamR
namespace Go.Proofs.YtpkpacgmmhjfpaaDoor
open Go.RowKit

set_option maxHeartbeats 2000000 in
theorem lawKeys7 (l : List UInt8) (w : World) (ht : LaidOK w) :
    Calls Tryd.prog 3 #[.string ⟨l.toArray⟩] w (TrueB w) := by
  have K0 := Lib.hid (show KK w w from ⟨Below.refl _ _, ht⟩)
  clear ht
  by_cases hl : 300 < l.length
  · have z0 : (300 : Int) < (l.length : Int) := by omega
    clear hl
    go_enter Tryd.func3, Tryd.ntmps3
    go_wp2_with fail
    refine (known7 _ K0.out.laid).mono ?_
    rintro e w1 ⟨rfl, hb⟩
    have HB := Lib.hid hb
    clear hb
    go_wp2_with fail
    go_ret
    exact ⟨rfl, HB.out⟩
  have z0 : ¬ (300 : Int) < (l.length : Int) := by omega
  have C1 := Lib.hid (fun (W : World) (h : LaidOK W) => namKey l W (by omega) h)
  have C2 := Lib.hid (fun (W : World) => refKey l W (by omega))
  have C3 := Lib.hid (fun (W : World) (h : LaidOK W) => namItem l W (by omega) h)
  have C4 := Lib.hid (fun (W : World) => refItem l W (by omega))
  have C5 := Lib.hid (fun (W : World) => refCanon l W (by omega))
  have hcl := canonN_len l
  have C6 := fun (W : World) => refItem (canonN l) W (by omega)
  have n1 : (keyN l != keyN l) = false := by simp
  have n2 : (itemN l != itemN l) = false := by simp
  have C7 : ∃ x n, canonV l = (x, n) ∧ (itemN (canonN l) = true → x = canonN l ∧ n = 0) ∧ (itemN (canonN l) = false → x = [] ∧ n = 2) := by
    unfold canonV
    cases itemN (canonN l) with
    | true => exact ⟨_, _, rfl, fun _ => ⟨rfl, rfl⟩, fun h => (by cases h)⟩
    | false => exact ⟨_, _, rfl, fun h => (by cases h), fun _ => ⟨rfl, rfl⟩⟩
  obtain ⟨x, n, hv, hy, hn⟩ := C7
  have C8 := Lib.hid (fun (W : World) (h : LaidOK W) => lawCanon l x n W (by omega) h hv)
  generalize keyN l = kb at *
  generalize itemN l = ib at *
  cases hi : itemN (canonN l) with
  | true =>
    obtain ⟨rfl, rfl⟩ := hy hi
    rw [hi] at C6
    have H6 := Lib.hid C6
    clear C6 hi hv hy hn hl hcl
    generalize canonN l = c at *
    go_enter Tryd.func3, Tryd.ntmps3
    go_wp2_with fail
    refine (C1.out _ K0.out.laid).mono ?_
    rintro e w1 ⟨rfl, hb⟩
    have K1 := Lib.hid (K0.out.next hb)
    clear hb K0
    go_wp2_with fail
    refine (C2.out _).mono ?_
    rintro e w2 ⟨rfl, rfl⟩
    go_wp2_with fail
    refine (C3.out _ K1.out.laid).mono ?_
    rintro e w2 ⟨rfl, hb⟩
    have K2 := Lib.hid (K1.out.next hb)
    clear hb K1
    go_wp2_with fail
    refine (C4.out _).mono ?_
    rintro e w3 ⟨rfl, rfl⟩
    go_wp2_with fail
    refine (C5.out _).mono ?_
    rintro e w3 ⟨rfl, rfl⟩
    go_wp2_with fail
    refine (H6.out _).mono ?_
    rintro e w3 ⟨rfl, rfl⟩
    go_wp2_with fail
    refine (C8.out _ K2.out.laid).mono ?_
    rintro e w3 ⟨rfl, hb⟩
    have K3 := Lib.hid (K2.out.next hb)
    clear hb K2
    go_wp2_with fail
    refine (known7 _ K3.out.laid).mono ?_
    rintro e w4 ⟨rfl, hb⟩
    have K4 := Lib.hid (K3.out.next hb)
    clear hb K3
    go_wp2_with fail
    go_ret
    exact ⟨rfl, K4.out.below⟩
  | false =>
    obtain ⟨rfl, rfl⟩ := hn hi
    rw [hi] at C6
    have H6 := Lib.hid C6
    clear C6 hi hv hy hn hl hcl
    generalize canonN l = c at *
    go_enter Tryd.func3, Tryd.ntmps3
    go_wp2_with fail
    refine (C1.out _ K0.out.laid).mono ?_
    rintro e w1 ⟨rfl, hb⟩
    have K1 := Lib.hid (K0.out.next hb)
    clear hb K0
    go_wp2_with fail
    refine (C2.out _).mono ?_
    rintro e w2 ⟨rfl, rfl⟩
    go_wp2_with fail
    refine (C3.out _ K1.out.laid).mono ?_
    rintro e w2 ⟨rfl, hb⟩
    have K2 := Lib.hid (K1.out.next hb)
    clear hb K1
    go_wp2_with fail
    refine (C4.out _).mono ?_
    rintro e w3 ⟨rfl, rfl⟩
    go_wp2_with fail
    refine (C5.out _).mono ?_
    rintro e w3 ⟨rfl, rfl⟩
    go_wp2_with fail
    refine (H6.out _).mono ?_
    rintro e w3 ⟨rfl, rfl⟩
    go_wp2_with fail
    refine (C8.out _ K2.out.laid).mono ?_
    rintro e w3 ⟨rfl, hb⟩
    have K3 := Lib.hid (K2.out.next hb)
    clear hb K2
    go_wp2_with fail
    refine (known7 _ K3.out.laid).mono ?_
    rintro e w4 ⟨rfl, hb⟩
    have K4 := Lib.hid (K3.out.next hb)
    clear hb K3
    go_wp2_with fail
    go_ret
    exact ⟨rfl, K4.out.below⟩

set_option maxHeartbeats 2000000 in
theorem lawQuotes7 (l t : List UInt8) (w : World) (ht : LaidOK w) :
    Calls Tryd.prog 5 #[.string ⟨l.toArray⟩, .string ⟨t.toArray⟩] w (TrueB w) := by
  have K0 := Lib.hid (show KK w w from ⟨Below.refl _ _, ht⟩)
  clear ht
  by_cases hl : 300 < l.length
  · have z0 : (300 : Int) < (l.length : Int) := by omega
    clear hl
    go_enter Tryd.func5, Tryd.ntmps5
    go_wp2_with fail
    refine (known7 _ K0.out.laid).mono ?_
    rintro e w1 ⟨rfl, hb⟩
    have HB := Lib.hid hb
    clear hb
    go_wp2_with fail
    go_ret
    exact ⟨rfl, HB.out⟩
  have z0 : ¬ (300 : Int) < (l.length : Int) := by omega
  by_cases hl2 : 300 < t.length
  · have z1 : (300 : Int) < (t.length : Int) := by omega
    clear hl hl2
    go_enter Tryd.func5, Tryd.ntmps5
    go_wp2_with fail
    refine (known7 _ K0.out.laid).mono ?_
    rintro e w1 ⟨rfl, hb⟩
    have HB := Lib.hid hb
    clear hb
    go_wp2_with fail
    go_ret
    exact ⟨rfl, HB.out⟩
  have z1 : ¬ (300 : Int) < (t.length : Int) := by omega
  have C1 := Lib.hid (fun (W : World) (h : LaidOK W) => namQuote l W (by omega) h)
  have C2 := Lib.hid (fun (W : World) => refQuote l W (by omega))
  have C3 := fun (W : World) => refUnquote t W (by omega)
  have e1 := beq_self (quoteN l)
  cases hu : unquoteN t with
  | none =>
    rw [hu] at C3
    have H3 := Lib.hid C3
    have C4 := Lib.hid (fun (W : World) (h : LaidOK W) => lawUnq t [] 6 W (by omega) h (by unfold unquoteV; rw [hu]))
    clear C3 hu hl hl2
    generalize quoteN l = q at *
    go_enter Tryd.func5, Tryd.ntmps5
    go_wp2_with fail
    refine (C1.out _ K0.out.laid).mono ?_
    rintro e w1 ⟨rfl, hb⟩
    have K1 := Lib.hid (K0.out.next hb)
    clear hb K0
    go_wp2_with fail
    refine (C2.out _).mono ?_
    rintro e w2 ⟨rfl, hb⟩
    have K2 := Lib.hid (K1.out.next hb)
    clear hb K1
    go_wp2_with fail
    refine (H3.out _).mono ?_
    rintro e w3 ⟨rfl, hb⟩
    have K3 := Lib.hid (K2.out.next hb)
    clear hb K2
    unfold unqV
    go_wp2_with fail
    refine (C4.out _ K3.out.laid).mono ?_
    rintro e w4 ⟨rfl, hb⟩
    have K4 := Lib.hid (K3.out.next hb)
    clear hb K3
    go_wp2_with fail
    refine (known7 _ K4.out.laid).mono ?_
    rintro e w5 ⟨rfl, hb⟩
    have K5 := Lib.hid (K4.out.next hb)
    clear hb K4
    go_wp2_with fail
    go_ret
    exact ⟨rfl, K5.out.below⟩
  | some x =>
    rw [hu] at C3
    have H3 := Lib.hid C3
    have C4 := Lib.hid (fun (W : World) (h : LaidOK W) => lawUnq t x 0 W (by omega) h (by unfold unquoteV; rw [hu]))
    clear C3 hu hl hl2
    generalize quoteN l = q at *
    go_enter Tryd.func5, Tryd.ntmps5
    go_wp2_with fail
    refine (C1.out _ K0.out.laid).mono ?_
    rintro e w1 ⟨rfl, hb⟩
    have K1 := Lib.hid (K0.out.next hb)
    clear hb K0
    go_wp2_with fail
    refine (C2.out _).mono ?_
    rintro e w2 ⟨rfl, hb⟩
    have K2 := Lib.hid (K1.out.next hb)
    clear hb K1
    go_wp2_with fail
    refine (H3.out _).mono ?_
    rintro e w3 ⟨rfl, hb⟩
    have K3 := Lib.hid (K2.out.next hb)
    clear hb K2
    unfold unqV
    go_wp2_with fail
    refine (C4.out _ K3.out.laid).mono ?_
    rintro e w4 ⟨rfl, hb⟩
    have K4 := Lib.hid (K3.out.next hb)
    clear hb K3
    go_wp2_with fail
    refine (known7 _ K4.out.laid).mono ?_
    rintro e w5 ⟨rfl, hb⟩
    have K5 := Lib.hid (K4.out.next hb)
    clear hb K4
    go_wp2_with fail
    go_ret
    exact ⟨rfl, K5.out.below⟩

/-- A line has no more fields than bytes. -/
theorem rdF_len : ∀ (f : Nat) (s : List UInt8) (v : List (List UInt8)), rdF f s = some v → v.length ≤ s.length := by
  intro f
  induction f with
  | zero => intro s v h; cases h
  | succ f ih =>
    intro s v h
    match s with
    | [] => cases h; simp
    | a :: r =>
      have hl : (a :: r).length = r.length + 1 := rfl
      unfold rdF at h
      split at h
      · have := ih _ _ h
        omega
      · rename_i ha
        cases hf : fieldN (a :: r) with
        | none => rw [hf] at h; cases h
        | some y =>
          obtain ⟨x, n⟩ := y
          rw [hf] at h
          have hn := fieldN_len ha hf
          have hd2 : ((a :: r).drop n).length = (a :: r).length - n := List.length_drop
          simp only at h
          cases hd : (a :: r).drop n with
          | nil => rw [hd] at h; cases h; simp
          | cons b t =>
            rw [hd] at h hd2
            simp only at h
            split at h
            · simp only [Option.map_eq_some_iff] at h
              obtain ⟨u, hu, rfl⟩ := h
              have := ih _ _ hu
              simp only [List.length_cons] at this hd2 ⊢
              omega
            · cases h
theorem fieldsN_len {s : List UInt8} {v : List (List UInt8)} (h : fieldsN s = some v) : v.length ≤ s.length := rdF_len _ _ _ h

set_option maxHeartbeats 2000000 in
theorem lawFields7 (l : List UInt8) (w : World) (ht : LaidOK w) :
    Calls Tryd.prog 6 #[.string ⟨l.toArray⟩] w (TrueB w) := by
  have K0 := Lib.hid (show KK w w from ⟨Below.refl _ _, ht⟩)
  clear ht
  by_cases hl : 300 < l.length
  · have z0 : (300 : Int) < (l.length : Int) := by omega
    clear hl
    go_enter Tryd.func6, Tryd.ntmps6
    go_wp2_with fail
    refine (known7 _ K0.out.laid).mono ?_
    rintro e w1 ⟨rfl, hb⟩
    have HB := Lib.hid hb
    clear hb
    go_wp2_with fail
    go_ret
    exact ⟨rfl, HB.out⟩
  have z0 : ¬ (300 : Int) < (l.length : Int) := by omega
  have C1 := Lib.hid (fun (W : World) => refFields l W (by omega))
  cases hf : fieldsN l with
  | none =>
    have HF := Lib.hid hf
    have C2 := Lib.hid (fun (W : World) (h : LaidOK W) => lawFldsNo l W (by omega) h hf)
    clear hf hl
    go_enter Tryd.func6, Tryd.ntmps6
    go_wp2_with fail
    refine (C1.out _).mono ?_
    rintro e w1 ⟨_, h2, hb⟩
    have he := h2 HF.out
    subst he
    have K1 := Lib.hid (K0.out.next hb)
    clear hb K0 h2
    go_wp2_with fail
    refine (C2.out _ K1.out.laid).mono ?_
    rintro e w2 ⟨rfl, hb⟩
    have K2 := Lib.hid (K1.out.next hb)
    clear hb K1
    go_wp2_with fail
    refine (known7 _ K2.out.laid).mono ?_
    rintro e w3 ⟨rfl, hb⟩
    have K3 := Lib.hid (K2.out.next hb)
    clear hb K2
    go_wp2_with fail
    go_ret
    exact ⟨rfl, K3.out.below⟩
  | some v =>
    have HF := Lib.hid hf
    have hvl := fieldsN_len hf
    have C2 := Lib.hid (fun (B : Option Addr) (d : Nat) (W : World) (h : LaidOK W) (hB : StrsAt W B v) => lawFlds l v B d W (by omega) h hf (by omega) hB)
    clear hf hl hvl
    go_enter Tryd.func6, Tryd.ntmps6
    go_wp2_with fail
    refine (C1.out _).mono ?_
    rintro e w1 ⟨h1, _, hb⟩
    obtain ⟨x, he, A, c, rfl, hx1, _⟩ := h1 v HF.out
    subst he
    have HX := Lib.hid hx1
    have K1 := Lib.hid (K0.out.next hb)
    clear hb K0 h1 hx1
    go_wp2_with fail
    refine (C2.out _ _ _ K1.out.laid HX.out).mono ?_
    rintro e w2 ⟨rfl, hb⟩
    have K2 := Lib.hid (K1.out.next hb)
    clear hb K1
    go_wp2_with fail
    refine (known7 _ K2.out.laid).mono ?_
    rintro e w3 ⟨rfl, hb⟩
    have K3 := Lib.hid (K2.out.next hb)
    clear hb K2
    go_wp2_with fail
    go_ret
    exact ⟨rfl, K3.out.below⟩

end Go.Proofs.YtpkpacgmmhjfpaaDoor
