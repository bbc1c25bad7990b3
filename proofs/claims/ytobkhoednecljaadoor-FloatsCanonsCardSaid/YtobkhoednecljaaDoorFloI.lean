/- The law Sums, from package floats' contracts. -/
import Derived.Test.YtobkhoednecljaaDoorFloH
namespace Go.Proofs.YtobkhoednecljaaDoor
open Go.RowKit

theorem cellsG_set (l : List Nat) (j b : Nat) : (cellsOf encG l).set j (.float .f64 b) = cellsOf encG (l.set j b) := by
  induction l generalizing j with
  | nil => rfl
  | cons x r ih =>
    cases j with
    | zero => rfl
    | succ j =>
      show Value.float .f64 x :: (cellsOf encG r).set j _ = _
      rw [ih]; rfl
theorem cellsG_at (l : List Nat) (j : Nat) : (cellsOf encG l)[j]? = l[j]?.map fun b => Value.float .f64 b := by
  induction l generalizing j with
  | nil => rfl
  | cons x r ih =>
    cases j with
    | zero => rfl
    | succ j => exact ih j
/-- A value that is stored into a row of the call's own. -/
theorem rowG_at {W : World} {B n d : Nat} {D : Option Addr} {ys : List Nat} (h : W.ownsRow B 23 1 (.slice D n d) n (cellsOf encG ys)) (hl : ys.length = n) {k : Nat} (hk : k < n) :
    ∃ (g y : Nat), D = some ⟨g, 0, none⟩ ∧ B ≤ g ∧ W.cell? ⟨g, k, none⟩ = some (.float .f64 y) ∧ W.frozen? ⟨g, k, none⟩ = false ∧
      ∀ b, (W.setCell ⟨g, k, none⟩ (.float .f64 b)).ownsRow B 23 1 (.slice D n d) n (cellsOf encG (ys.set k b)) := by
  rcases Joins.ownsRow_forms h with ⟨_, h0⟩ | ⟨g, cap, he⟩
  · omega
  · injection he with h1 h2 h3
    subst h1
    refine ⟨g, ys[k]'(by omega), rfl, (h.lt g rfl).1, ?_, h.frozenAt k, fun b => ?_⟩
    · rw [h.cellAt k (by omega), cellsG_at, List.getElem?_eq_getElem (by omega)]; rfl
    · rw [← cellsG_set]
      exact (h.stored k (.float .f64 b)).1

set_option maxRecDepth 100000 in
set_option maxHeartbeats 4000000 in
theorem lawSums13 (A : Option Addr) (xs : List Nat) (cap : Nat) (w : World) (hf : FloOK w) (hk : KnownF w) (hx : NumsU w A xs) (hv : ∀ x ∈ xs, x < 18446744073709551616) :
    Calls Tryd.prog 5 #[.slice A xs.length cap] w (OneB (.bool true) w) := by
  have HF := Lib.hid hf
  have HK := Lib.hid hk
  have HX := Lib.hid hx
  have HV := Lib.hid hv
  have HB0 := Lib.hid (Below.refl w.heap.size w)
  clear hf hk hx hv
  by_cases h40 : xs.length ≤ 40
  · have i0 : ¬ (40 : Int) < (xs.length : Int) := by omega
    obtain ⟨ss, hss⟩ : ∃ ss, sortF xs = ss := ⟨_, rfl⟩
    have hsl : ss.length = xs.length := by rw [← hss]; exact sortF_len xs
    have hs40 : ss.length ≤ 40 := by omega
    obtain ⟨t, ht⟩ : ∃ t, sumF xs = t := ⟨_, rfl⟩
    have HS := Lib.hid hss
    have HT := Lib.hid ht
    clear hss hsl ht
    go_enter Tryd.func5, Tryd.ntmps5
    go_wp2_with fail
    refine (refValues13 A xs cap _ HX.out (by omega)).mono ?_
    rintro e w1 ⟨v1, rfl, h1⟩
    obtain ⟨D1, d1, rfl, _, _, hn1⟩ := SlAt.of_own encG_len h1.1
    have HN1 := Lib.hid hn1
    have HB := Lib.hid h1.2
    clear h1 hn1 HB0
    go_wp2_with fail
    have hq := HF.out.srt D1 xs d1 _ HB.out HN1.out (by omega) HV.out
    rw [HS.out] at hq
    refine hq.mono ?_
    clear hq
    rintro e w2 ⟨v2, rfl, h2⟩
    obtain ⟨D2, d2, rfl, _, _, hn2⟩ := SlAt.of_own encG_len h2.1
    have HR := Lib.hid h2.1
    have HC := Lib.hid h2.2
    have HN2 := Lib.hid hn2
    clear h2 hn2
    go_wp2_with fail
    refine (refBits13 D2 ss d2 _ HN2.out (by omega)).mono ?_
    rintro e w3 ⟨v3, rfl, h3⟩
    obtain ⟨D3, d3, rfl, _, _, hn3⟩ := SlAt.of_own encU_len h3.1
    have HN3 := Lib.hid hn3
    have hb := h3.2
    replace HR := Lib.hid (own_below HR.out hb)
    replace HC := Lib.hid (below_trans HC.out hb)
    clear h3 hn3 HN2 hb
    go_wp2_with fail
    have hq := refSorted13 A xs cap w3 (HX.out.below (below_trans HB.out HC.out)) (by omega) HV.out
    rw [HS.out] at hq
    refine hq.mono ?_
    clear hq
    rintro e w4 ⟨⟨v4, rfl, ⟨D4, d4, rfl, hn4, _, _⟩, _⟩, hb⟩
    have HN4 := Lib.hid hn4
    replace HN3 := Lib.hid (HN3.out.below hb)
    replace HR := Lib.hid (own_below HR.out hb)
    replace HC := Lib.hid (below_trans HC.out hb)
    clear hn4 hb
    go_wp2_with fail
    refine (refSame13_t D3 D4 ss d3 d4 _ HN3.out HN4.out (by omega)).mono ?_
    rintro e w5 ⟨rfl, hb⟩
    replace HR := Lib.hid (own_below HR.out hb)
    replace HC := Lib.hid (below_trans HC.out hb)
    clear hb HN3 HN4
    go_wp2_with fail
    have hq := HF.out.sum D1 xs d1 w5 (below_trans HB.out HC.out) (HN1.out.below HC.out) (by omega) HV.out
    rw [HT.out] at hq
    refine hq.mono ?_
    clear hq
    rintro e w6 ⟨rfl, hb⟩
    replace HR := Lib.hid (own_below HR.out hb)
    replace HC := Lib.hid (below_trans HC.out hb)
    clear hb
    go_wp2_with fail
    refine (refSum13_h A xs cap t w6 (HX.out.below (below_trans HB.out HC.out)) (by omega) HV.out HT.out).mono ?_
    rintro e w7 ⟨rfl, hb⟩
    replace HR := Lib.hid (own_below HR.out hb)
    replace HC := Lib.hid (below_trans HC.out hb)
    clear hb
    go_wp2_with fail
    refine (lawIs13_v t t true _ (by simp)).mono ?_
    rintro e w8 ⟨rfl, rfl⟩
    go_wp2_with fail
    go_loopw [30] (fun a wr => ∃ k : Nat, k ≤ ss.length ∧ a = .int .i64 k ∧ Hid (Below w1.heap.size w1 wr) ∧ Hid (∃ ys : List Nat, ys.length = ss.length ∧ wr.ownsRow w1.heap.size 23 1 (.slice D2 ss.length d2) ss.length (cellsOf encG ys))) (fun a _ => ss.length - (intOf a).toNat)
    case atStart => exact ⟨0, by omega, rfl, HC, ⟨ss, rfl, HR.out⟩⟩
    case round =>
      clear HC HR
      obtain ⟨k, hk, rfl, HC, HR⟩ := hrel
      by_cases hlt : k < ss.length
      · have i1 : (k : Int) < (ss.length : Int) := by omega
        obtain ⟨ys, hyl, hr⟩ := HR.out
        obtain ⟨g, y, rfl, hg, l0, l1, hst⟩ := rowG_at hr hyl hlt
        have hsto : (store ⟨g, k, none⟩ (.float .f64 4621256167635550208)).run Tryd.prog wr = .ok () (wr.setCell ⟨g, k, none⟩ (.float .f64 4621256167635550208)) := by
          rw [run_store _ _ _ _ _ rfl]
          simp [l0, l1]
        have HST := Lib.hid (hst 4621256167635550208)
        have HYL := Lib.hid (show (ys.set k 4621256167635550208).length = ss.length from by rw [List.length_set]; exact hyl)
        clear hr hst hyl
        go_wp2_with fail
        go_roundw
        case rel => exact ⟨k + 1, by omega, by go_num, Below.setCell (p := ⟨g, k, none⟩) HC.out hg _, ⟨_, HYL.out, HST.out⟩⟩
        case measure => simp [intOf]; omega
      · have i1 : ¬ (k : Int) < (ss.length : Int) := by omega
        obtain rfl : k = ss.length := by omega
        clear HR hlt
        go_wp2_with fail
        refine (refBits13 D1 xs d1 _ (HN1.out.below HC.out) (by omega)).mono ?_
        rintro e w9 ⟨v9, rfl, h9⟩
        obtain ⟨D9, d9, rfl, _, _, hn9⟩ := SlAt.of_own encU_len h9.1
        have HN9 := Lib.hid hn9
        replace HB := Lib.hid (below_trans (below_trans HB.out HC.out) h9.2)
        clear h9 hn9 HC
        go_wp2_with fail
        refine (refSame13_t D9 A xs d9 cap _ HN9.out (HX.out.below HB.out) (by omega)).mono ?_
        rintro e wa ⟨rfl, hb⟩
        replace HB := Lib.hid (below_trans HB.out hb)
        clear hb HN9
        go_wp2_with fail
        refine (HK.out _ HB.out).mono ?_
        rintro e wb ⟨rfl, hb⟩
        replace HB := Lib.hid (below_trans HB.out hb)
        clear hb
        go_wp2_with fail
        go_ret
        exact ⟨rfl, HB.out⟩
  · have i0 : (40 : Int) < (xs.length : Int) := by omega
    clear h40
    go_enter Tryd.func5, Tryd.ntmps5
    go_wp2_with fail
    refine (HK.out _ HB0.out).mono ?_
    rintro e wb ⟨rfl, hb⟩
    have HB := Lib.hid hb
    clear hb
    go_wp2_with fail
    go_ret
    exact ⟨rfl, HB.out⟩

end Go.Proofs.YtobkhoednecljaaDoor
