/- The law ContextMakes, from known. -/
import Derived.Test.YtibnlifdeknicaaCtxB1
namespace Go.Proofs.Ytibnlifdeknicaa
open Go.RowKit

/-- Two boxes anywhere, and what holds all along. -/
def KE (w : World) (b1 b2 : Nat) (x y x' y' : Value) (L : List (Value × List (Int × Int))) (W : World) : Prop :=
  W.cell? ⟨b1, 0, none⟩ = some x ∧ W.cell? ⟨b1, 1, none⟩ = some y ∧ W.cell? ⟨b2, 0, none⟩ = some x' ∧ W.cell? ⟨b2, 1, none⟩ = some y' ∧
  KX w [(⟨b2, 0, none⟩, x'), (⟨b2, 1, none⟩, y'), (⟨b1, 0, none⟩, x), (⟨b1, 1, none⟩, y)] L W
section
variable {w W W' : World} {b1 b2 : Nat} {x y x' y' : Value} {L : List (Value × List (Int × Int))}
theorem KE.of (h : KX w [(⟨b2, 0, none⟩, x'), (⟨b2, 1, none⟩, y'), (⟨b1, 0, none⟩, x), (⟨b1, 1, none⟩, y)] L W) : KE w b1 b2 x y x' y' L W :=
  ⟨h.cell (by simp), h.cell (by simp), h.cell (by simp), h.cell (by simp), h⟩
theorem KE.below (h : KE w b1 b2 x y x' y' L W) (hb : Below W.heap.size W W') : KE w b1 b2 x y x' y' L W' := .of (h.2.2.2.2.below hb)
theorem KE.drew (h : KE w b1 b2 x y x' y' L W) : KE w b1 b2 x y x' y' L W.drew := .of h.2.2.2.2.drew
theorem KE.bel (h : KE w b1 b2 x y x' y' L W) : Below w.heap.size w W := h.2.2.2.2.bel
theorem KE.h {v : Value} {xs : List (Int × Int)} (h : KE w b1 b2 x y x' y' L W) (hm : (v, xs) ∈ L) : Holds W v xs := h.2.2.2.2.h hm
end
theorem holds_of_row {W : World} {B : Nat} {v : Value} {xs : List (Int × Int)} (h : W.ownsRow B 38 2 v xs.length (cellsOf encD xs)) : Holds W v xs := by
  obtain ⟨A, c, rfl, h1, h2, h3⟩ := SlAt.of_own encD_len h
  exact ⟨A, c, rfl, h3, h1, h2⟩
theorem isC_no (p : List (Int × Int) × List (Int × Int)) : isC (ctxP false p) [] [] 2 = true := rfl
theorem isC_yes {p : List (Int × Int) × List (Int × Int)} {us rs : List (Int × Int)} (h : p = (us, rs)) : isC (ctxP true p) us rs 0 = true := by
  subst h
  simp [isC, ctxP]
theorem ref3Add_h (v x : Value) (vs ls m us rs : List (Int × Int)) (w : World) (h : HoldsC w v vs ls) (hx : Holds w x m) (hv : validC vs ls = true) (hok : okL m = true) (hm : vs.length + ls.length + m.length ≤ 1000) (hz : addC vs ls m = (us, rs)) :
    Calls Try.prog 32 #[v, x] w fun e w' => (∃ A n B k, e = .returned (.agg #[.slice A us.length n, .slice B rs.length k]) ∧ HoldsC w' (.agg #[.slice A us.length n, .slice B rs.length k]) us rs) ∧ Below w.heap.size w w' := by
  refine (ref3Add v x vs ls m us rs w h hx hv ((okL_iff m).1 hok) hm hz).mono ?_
  rintro e w' ⟨⟨v', he, hc⟩, hb⟩
  have hc0 := hc
  obtain ⟨A, n, B, k, rfl, _⟩ := hc
  exact ⟨⟨A, n, B, k, he, hc0⟩, hb⟩
theorem HoldsC.nil (W : World) : HoldsC W (.agg #[.slice none 0 0, .slice none 0 0]) [] [] := HoldsC.mk (Holds.nil _) (Holds.nil _)
theorem HoldsC.v {W : World} {A B : Option Addr} {n k : Nat} {vs ls : List (Int × Int)} (h : HoldsC W (.agg #[.slice A vs.length n, .slice B ls.length k]) vs ls) : Holds W (.slice A vs.length n) vs ∧ Holds W (.slice B ls.length k) ls := by
  obtain ⟨A', n', B', k', e, h1, h2⟩ := h
  cases e
  exact ⟨h1, h2⟩

set_option maxRecDepth 100000 in
set_option maxHeartbeats 8000000 in
theorem lawMakes3 (KN : KnownOK) (v : Value) (vs ls m : List (Int × Int)) (X : Option Addr) (cx : Nat) (w : World) (h : HoldsC w v vs ls) (hx : Holds w (.slice X m.length cx) m) :
    Calls Try.prog 5 #[v, .slice X m.length cx] w fun e w' => e = .returned (.bool true) ∧ Below w.heap.size w w' := by
  obtain ⟨i0, hi0, hz0, hz1, hz2⟩ := info_parts infoD
  obtain ⟨A, n, B, k, rfl, h1, h2⟩ := h
  have K := Lib.hid ((((KX.nil w).push hx).push h1 |>.push h2).box (.slice A vs.length n) (.slice B ls.length k) 25)
  have HKN := Lib.hid KN
  clear h1 h2 hx KN
  have hcc : ∀ W, KX w [(⟨w.heap.size, 0, none⟩, .slice A vs.length n), (⟨w.heap.size, 1, none⟩, .slice B ls.length k)] [(.slice B ls.length k, ls), (.slice A vs.length n, vs), (.slice X m.length cx, m)] W →
      HoldsC W (.agg #[.slice A vs.length n, .slice B ls.length k]) vs ls ∧ Holds W (.slice X m.length cx) m ∧ W.cell? ⟨w.heap.size, 0, none⟩ = some (.slice A vs.length n) ∧ W.cell? ⟨w.heap.size, 1, none⟩ = some (.slice B ls.length k) :=
    fun W K => ⟨HoldsC.mk (K.h (by simp)) (K.h (by simp)), K.h (by simp), K.cell (by simp), K.cell (by simp)⟩
  have HCC := Lib.hid hcc
  clear hcc
  cases hl : (decide (vs.length ≤ 40) && decide (ls.length ≤ 40)) with
  | false =>
    have HL := Lib.hid (law3Light _ _ _ false _ (HCC.out _ K.out).1 hl)
    clear hl
    go_enter Try.func5, Try.ntmps5
    go_wp2_with fail
    refine HL.out.mono ?_
    rintro e w1 ⟨rfl, hb1⟩
    have K1 := Lib.hid (K.out.below hb1)
    clear hb1
    go_wp2_with fail
    refine (HKN.out _).mono ?_
    rintro e w2 ⟨rfl, hb1⟩
    have K2 := Lib.hid (K1.out.below hb1)
    clear hb1
    go_wp2
    go_ret
    exact ⟨rfl, K2.out.bel⟩
  | true =>
    have HL := Lib.hid (law3Light _ _ _ true _ (HCC.out _ K.out).1 hl)
    have hl2 : vs.length ≤ 40 ∧ ls.length ≤ 40 := by simpa using hl
    clear hl
    by_cases hm : m.length ≤ 40
    · have i1 : (m.length : Int) ≤ 40 := by omega
      have HM := Lib.hid (show vs.length + ls.length + m.length ≤ 1000 by omega)
      have HMM := Lib.hid (show m.length ≤ 1000 by omega)
      clear hl2 hm
      cases hok : okL m with
      | false =>
        have HD := Lib.hid fun v W (h : Holds W v m) => ref3Dots_h v m false W h hok
        have HMA := Lib.hid (show isC (ctxP (okL m) (addC [] [] m)) [] [] 2 = true by rw [hok]; rfl)
        have HAD := Lib.hid (show isC (ctxP (validC vs ls && okL m) (addC vs ls m)) [] [] 2 = true by rw [hok, Bool.and_false]; rfl)
        clear hok
        go_enter Try.func5, Try.ntmps5
        go_wp2_with fail
        refine HL.out.mono ?_
        rintro e w1 ⟨rfl, hb1⟩
        have K1 := Lib.hid (K.out.below hb1)
        clear hb1
        go_wp2_with fail
        refine (HD.out _ _ (HCC.out _ K1.out).2.1).mono ?_
        rintro e w2 ⟨rfl, hb1⟩
        have K2 := Lib.hid (K1.out.below hb1)
        clear hb1
        go_wp2_with fail
        refine (law3Made _ _ m [] [] 2 true _ (HCC.out _ K2.out).2.1 (HoldsC.nil _) HMM.out HMA.out).mono ?_
        rintro e w3 ⟨rfl, hb1⟩
        have K3 := Lib.hid (K2.out.below hb1)
        clear hb1
        obtain ⟨_, _, k0, k1⟩ := HCC.out _ K3.out
        go_wp2_with fail
        refine (law3Added _ _ _ vs ls m [] [] 2 true _ (HCC.out _ K3.out).1 (HCC.out _ K3.out).2.1 (HoldsC.nil _) HM.out HAD.out).mono ?_
        rintro e w4 ⟨rfl, hb1⟩
        have K4 := Lib.hid (K3.out.below hb1)
        clear hb1 k0 k1
        go_wp2_with fail
        refine (HKN.out _).mono ?_
        rintro e w5 ⟨rfl, hb1⟩
        have K5 := Lib.hid (K4.out.below hb1)
        clear hb1
        go_wp2
        go_ret
        exact ⟨rfl, K5.out.bel⟩
      | true =>
        have HD := Lib.hid fun v W (h : Holds W v m) => ref3Dots_h v m true W h hok
        obtain ⟨us, rs, hz⟩ : ∃ us rs, addC [] [] m = (us, rs) := ⟨_, _, rfl⟩
        have HRA := Lib.hid fun x W (h : Holds W x m) => ref3Add_h (.agg #[.slice none 0 0, .slice none 0 0]) x [] [] m us rs W (HoldsC.nil _) h rfl hok (by simpa using HMM.out) hz
        have HMA := Lib.hid (show isC (ctxP (okL m) (addC [] [] m)) us rs 0 = true by rw [hok]; exact isC_yes hz)
        cases hv : validC vs ls with
        | false =>
          have HV := Lib.hid fun v W (h : HoldsC W v vs ls) => ref3Valid v vs ls false W h hv
          have HAD := Lib.hid (show isC (ctxP (validC vs ls && okL m) (addC vs ls m)) [] [] 2 = true by rw [hv, Bool.false_and]; rfl)
          clear hok hv hz
          go_enter Try.func5, Try.ntmps5
          go_wp2_with fail
          refine HL.out.mono ?_
          rintro e w1 ⟨rfl, hb1⟩
          have K1 := Lib.hid (K.out.below hb1)
          clear hb1
          go_wp2_with fail
          refine (HD.out _ _ (HCC.out _ K1.out).2.1).mono ?_
          rintro e w2 ⟨rfl, hb1⟩
          have K2 := Lib.hid (K1.out.below hb1)
          clear hb1
          go_wp2_with fail
          refine (HRA.out _ _ (HCC.out _ K2.out).2.1).mono ?_
          rintro e w3 ⟨⟨A3, n3, B3, k3, rfl, h3⟩, hb1⟩
          have K3 := Lib.hid (K2.out.below hb1)
          have H3 := Lib.hid h3
          clear hb1 h3
          go_wp2_with fail
          refine (law3Made _ _ m us rs 0 true _ (HCC.out _ K3.out).2.1 H3.out HMM.out HMA.out).mono ?_
          rintro e w4 ⟨rfl, hb1⟩
          have K4 := Lib.hid (K3.out.below hb1)
          clear hb1
          obtain ⟨_, _, k0, k1⟩ := HCC.out _ K4.out
          go_wp2_with fail
          refine (HV.out _ _ (HCC.out _ K4.out).1).mono ?_
          rintro e w5 ⟨rfl, hb1⟩
          have K5 := Lib.hid (K4.out.below hb1)
          clear hb1 k0 k1
          obtain ⟨_, _, k0, k1⟩ := HCC.out _ K5.out
          go_wp2_with fail
          refine (law3Added _ _ _ vs ls m [] [] 2 true _ (HCC.out _ K5.out).1 (HCC.out _ K5.out).2.1 (HoldsC.nil _) HM.out HAD.out).mono ?_
          rintro e w6 ⟨rfl, hb1⟩
          have K6 := Lib.hid (K5.out.below hb1)
          clear hb1 k0 k1
          go_wp2_with fail
          refine (HKN.out _).mono ?_
          rintro e w7 ⟨rfl, hb1⟩
          have K7 := Lib.hid (K6.out.below hb1)
          clear hb1
          go_wp2
          go_ret
          exact ⟨rfl, K7.out.bel⟩
        | true =>
          have HV := Lib.hid fun v W (h : HoldsC W v vs ls) => ref3Valid v vs ls true W h hv
          obtain ⟨us2, rs2, hz2⟩ : ∃ us rs, addC vs ls m = (us, rs) := ⟨_, _, rfl⟩
          have HRB := Lib.hid fun v x W (h : HoldsC W v vs ls) (h' : Holds W x m) => ref3Add_h v x vs ls m us2 rs2 W h h' hv hok HM.out hz2
          have HAD := Lib.hid (show isC (ctxP (validC vs ls && okL m) (addC vs ls m)) us2 rs2 0 = true by rw [hv, hok]; exact isC_yes hz2)
          have HOW := Lib.hid fun W (h : HoldsC W (.agg #[.slice A vs.length n, .slice B ls.length k]) vs ls) => law3Own _ vs ls W h (by have := HM.out; omega)
          clear hok hv hz hz2
          go_enter Try.func5, Try.ntmps5
          go_wp2_with fail
          refine HL.out.mono ?_
          rintro e w1 ⟨rfl, hb1⟩
          have K1 := Lib.hid (K.out.below hb1)
          clear hb1
          go_wp2_with fail
          refine (HD.out _ _ (HCC.out _ K1.out).2.1).mono ?_
          rintro e w2 ⟨rfl, hb1⟩
          have K2 := Lib.hid (K1.out.below hb1)
          clear hb1
          go_wp2_with fail
          refine (HRA.out _ _ (HCC.out _ K2.out).2.1).mono ?_
          rintro e w3 ⟨⟨A3, n3, B3, k3, rfl, h3⟩, hb1⟩
          have K3 := Lib.hid (K2.out.below hb1)
          have H3 := Lib.hid h3
          clear hb1 h3
          go_wp2_with fail
          refine (law3Made _ _ m us rs 0 true _ (HCC.out _ K3.out).2.1 H3.out HMM.out HMA.out).mono ?_
          rintro e w4 ⟨rfl, hb1⟩
          have K4 := Lib.hid (K3.out.below hb1)
          clear hb1
          obtain ⟨_, _, k0, k1⟩ := HCC.out _ K4.out
          go_wp2_with fail
          refine (HV.out _ _ (HCC.out _ K4.out).1).mono ?_
          rintro e w5 ⟨rfl, hb1⟩
          have K5 := Lib.hid (K4.out.below hb1)
          clear hb1 k0 k1
          obtain ⟨_, _, k0, k1⟩ := HCC.out _ K5.out
          go_wp2_with fail
          refine (HOW.out _ (HCC.out _ K5.out).1).mono ?_
          rintro e w6 ⟨⟨A6, n6, B6, k6, rfl, hv6, hw6⟩, hb1⟩
          have K6 := Lib.hid (((K5.out.below hb1).push hv6.holds).push hw6.holds)
          have hxm : DotsAt w6 X m := by
            obtain ⟨A', c', e, h, _⟩ := K6.out.h (v := .slice X m.length cx) (xs := m) (by simp)
            cases e; exact h
          clear hb1 k0 k1 hv6 hw6
          go_wp2_with (at_builtin
                       refine wpList_append_sl (o := ⟨some 50, _, _, _, _, _⟩) _ encD 2 rfl (.const (.slice none 0 0)) (.tmp 49) 22 rfl encD_len (by omega) encD_one w6.heap.size 38 i0 _ 16 Try.underlying22 hi0 hz0 hz1 hz2 rfl (.slice none 0 0) [] rfl (World.ownsRow_nil _ _ _ _) X _ cx m rfl rfl hxm (by simp [maxLen]; have := HM.out; omega) (by simp; have := HM.out; omega) (Nat.le_refl _) ?_
                       intro v7 w7 hown1 hg1 hat1
                       rw [List.nil_append] at hown1
                       have K7 := Lib.hid ((K6.out.below ((Below.refl _ w6).grown hg1 (Nat.le_refl _) (fun k hk => by cases hk))).push (holds_of_row hown1))
                       clear hown1 hg1 hat1)
          have K8 := KE.of (K7.out.box (.slice A6 vs.length n6) (.slice B6 ls.length k6) 25)
          obtain ⟨q0, q1, q2, q3, q4⟩ := id K8
          clear K1 K2 K3 K4 K5 K6
          go_region_held3 (fun W => W.cell? ⟨w.heap.size, 0, none⟩ = some (.slice A vs.length n) ∧ W.cell? ⟨w.heap.size, 1, none⟩ = some (.slice B ls.length k) ∧ W.cell? ⟨w7.heap.size, 0, none⟩ = some (.slice A6 vs.length n6) ∧ W.cell? ⟨w7.heap.size, 1, none⟩ = some (.slice B6 ls.length k6) ∧
              KX w [(⟨w7.heap.size, 0, none⟩, .slice A6 vs.length n6), (⟨w7.heap.size, 1, none⟩, .slice B6 ls.length k6), (⟨w.heap.size, 0, none⟩, .slice A vs.length n), (⟨w.heap.size, 1, none⟩, .slice B ls.length k)] [(v7, m), (.slice B6 ls.length k6, ls), (.slice A6 vs.length n6, vs), (.slice B ls.length k, ls), (.slice A vs.length n, vs), (.slice X m.length cx, m)] W)
            (first
              | assumption
              | (exact KE.drew (by assumption)))
            (first
              | (go_at_call 32; refine (HRB.out _ _ _ (HoldsC.mk (KE.h (w := w) (b1 := w.heap.size) (b2 := w7.heap.size) (x := .slice A vs.length n) (y := .slice B ls.length k) (x' := .slice A6 vs.length n6) (y' := .slice B6 ls.length k6) (L := [(v7, m), (.slice B6 ls.length k6, ls), (.slice A6 vs.length n6, vs), (.slice B ls.length k, ls), (.slice A vs.length n, vs), (.slice X m.length cx, m)]) (v := .slice A vs.length n) (xs := vs) (by assumption) (by simp)) (KE.h (w := w) (b1 := w.heap.size) (b2 := w7.heap.size) (x := .slice A vs.length n) (y := .slice B ls.length k) (x' := .slice A6 vs.length n6) (y' := .slice B6 ls.length k6) (L := [(v7, m), (.slice B6 ls.length k6, ls), (.slice A6 vs.length n6, vs), (.slice B ls.length k, ls), (.slice A vs.length n, vs), (.slice X m.length cx, m)]) (v := .slice B ls.length k) (xs := ls) (by assumption) (by simp))) (KE.h (w := w) (b1 := w.heap.size) (b2 := w7.heap.size) (x := .slice A vs.length n) (y := .slice B ls.length k) (x' := .slice A6 vs.length n6) (y' := .slice B6 ls.length k6) (L := [(v7, m), (.slice B6 ls.length k6, ls), (.slice A6 vs.length n6, vs), (.slice B ls.length k, ls), (.slice A vs.length n, vs), (.slice X m.length cx, m)]) (v := .slice X m.length cx) (xs := m) (by assumption) (by simp))).mono ?_
                 rintro e wa ⟨⟨Aa, na, Ba, ka, rfl, ha⟩, hb1⟩
                 have hS1 := KE.below (by assumption) hb1
                 clear hb1)
              | (go_at_call 31; refine (law3Added _ _ _ vs ls m us2 rs2 0 true _ (HoldsC.mk (KE.h (w := w) (b1 := w.heap.size) (b2 := w7.heap.size) (x := .slice A vs.length n) (y := .slice B ls.length k) (x' := .slice A6 vs.length n6) (y' := .slice B6 ls.length k6) (L := [(v7, m), (.slice B6 ls.length k6, ls), (.slice A6 vs.length n6, vs), (.slice B ls.length k, ls), (.slice A vs.length n, vs), (.slice X m.length cx, m)]) (v := .slice A6 vs.length n6) (xs := vs) (by assumption) (by simp)) (KE.h (w := w) (b1 := w.heap.size) (b2 := w7.heap.size) (x := .slice A vs.length n) (y := .slice B ls.length k) (x' := .slice A6 vs.length n6) (y' := .slice B6 ls.length k6) (L := [(v7, m), (.slice B6 ls.length k6, ls), (.slice A6 vs.length n6, vs), (.slice B ls.length k, ls), (.slice A vs.length n, vs), (.slice X m.length cx, m)]) (v := .slice B6 ls.length k6) (xs := ls) (by assumption) (by simp))) (KE.h (w := w) (b1 := w.heap.size) (b2 := w7.heap.size) (x := .slice A vs.length n) (y := .slice B ls.length k) (x' := .slice A6 vs.length n6) (y' := .slice B6 ls.length k6) (L := [(v7, m), (.slice B6 ls.length k6, ls), (.slice A6 vs.length n6, vs), (.slice B ls.length k, ls), (.slice A vs.length n, vs), (.slice X m.length cx, m)]) (v := v7) (xs := m) (by assumption) (by simp)) (by first | exact ha | exact HoldsC.below ha (Below.refl _ _).drew) HM.out HAD.out).mono ?_
                 rintro e wb ⟨rfl, hb1⟩
                 have hS2 := KE.below (by assumption) hb1
                 clear hb1)
              | (go_at_call 16; refine (ref3Equal _ _ vs ls vs ls true _ (HoldsC.mk (KE.h (w := w) (b1 := w.heap.size) (b2 := w7.heap.size) (x := .slice A vs.length n) (y := .slice B ls.length k) (x' := .slice A6 vs.length n6) (y' := .slice B6 ls.length k6) (L := [(v7, m), (.slice B6 ls.length k6, ls), (.slice A6 vs.length n6, vs), (.slice B ls.length k, ls), (.slice A vs.length n, vs), (.slice X m.length cx, m)]) (v := .slice A6 vs.length n6) (xs := vs) (by assumption) (by simp)) (KE.h (w := w) (b1 := w.heap.size) (b2 := w7.heap.size) (x := .slice A vs.length n) (y := .slice B ls.length k) (x' := .slice A6 vs.length n6) (y' := .slice B6 ls.length k6) (L := [(v7, m), (.slice B6 ls.length k6, ls), (.slice A6 vs.length n6, vs), (.slice B ls.length k, ls), (.slice A vs.length n, vs), (.slice X m.length cx, m)]) (v := .slice B6 ls.length k6) (xs := ls) (by assumption) (by simp))) (HoldsC.mk (KE.h (w := w) (b1 := w.heap.size) (b2 := w7.heap.size) (x := .slice A vs.length n) (y := .slice B ls.length k) (x' := .slice A6 vs.length n6) (y' := .slice B6 ls.length k6) (L := [(v7, m), (.slice B6 ls.length k6, ls), (.slice A6 vs.length n6, vs), (.slice B ls.length k, ls), (.slice A vs.length n, vs), (.slice X m.length cx, m)]) (v := .slice A vs.length n) (xs := vs) (by assumption) (by simp)) (KE.h (w := w) (b1 := w.heap.size) (b2 := w7.heap.size) (x := .slice A vs.length n) (y := .slice B ls.length k) (x' := .slice A6 vs.length n6) (y' := .slice B6 ls.length k6) (L := [(v7, m), (.slice B6 ls.length k6, ls), (.slice A6 vs.length n6, vs), (.slice B ls.length k, ls), (.slice A vs.length n, vs), (.slice X m.length cx, m)]) (v := .slice B ls.length k) (xs := ls) (by assumption) (by simp))) (by simp)).mono ?_
                 rintro e wc ⟨rfl, hb1⟩
                 have hS3 := KE.below (by assumption) hb1
                 clear hb1)
              | (go_at_call 26; refine (same_h3 _ _ m m true _ (KE.h (w := w) (b1 := w.heap.size) (b2 := w7.heap.size) (x := .slice A vs.length n) (y := .slice B ls.length k) (x' := .slice A6 vs.length n6) (y' := .slice B6 ls.length k6) (L := [(v7, m), (.slice B6 ls.length k6, ls), (.slice A6 vs.length n6, vs), (.slice B ls.length k, ls), (.slice A vs.length n, vs), (.slice X m.length cx, m)]) (v := v7) (xs := m) (by assumption) (by simp)) (KE.h (w := w) (b1 := w.heap.size) (b2 := w7.heap.size) (x := .slice A vs.length n) (y := .slice B ls.length k) (x' := .slice A6 vs.length n6) (y' := .slice B6 ls.length k6) (L := [(v7, m), (.slice B6 ls.length k6, ls), (.slice A6 vs.length n6, vs), (.slice B ls.length k, ls), (.slice A vs.length n, vs), (.slice X m.length cx, m)]) (v := .slice X m.length cx) (xs := m) (by assumption) (by simp)) (by simp)).mono ?_
                 rintro e wd ⟨rfl, hb1⟩
                 have hS4 := KE.below (by assumption) hb1
                 clear hb1)
              | (go_at_call 10; refine (HKN.out _).mono ?_
                 rintro e we ⟨rfl, hb1⟩
                 have hS5 := KE.below (by assumption) hb1
                 clear hb1))
          all_goals
            go_wp2_with fail
            go_ret
            exact ⟨rfl, KE.bel hS5⟩
    · have i1 : (40 : Int) < (m.length : Int) := by omega
      clear hm hl2
      go_enter Try.func5, Try.ntmps5
      go_wp2_with fail
      refine HL.out.mono ?_
      rintro e w1 ⟨rfl, hb1⟩
      have K1 := Lib.hid (K.out.below hb1)
      clear hb1
      go_wp2_with fail
      refine (HKN.out _).mono ?_
      rintro e w2 ⟨rfl, hb1⟩
      have K2 := Lib.hid (K1.out.below hb1)
      clear hb1
      go_wp2
      go_ret
      exact ⟨rfl, K2.out.bel⟩

end Go.Proofs.Ytibnlifdeknicaa
