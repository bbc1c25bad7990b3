/- The law ContextDots, from known. -/
import Derived.Test.YtibnlifdeknicaaCtxA2
import Derived.Test.YtibnlifdeknicaaCtxZ
import Derived.Test.YtibnlifdeknicaaCtxI
namespace Go.Proofs.Ytibnlifdeknicaa
open Go.RowKit

/-- What known says. -/
def KnownOK : Prop := ∀ W : World, Calls Try.prog 10 #[] W fun e w' => e = .returned (.bool true) ∧ Below W.heap.size W w'
/-- Two boxes of two cells, and what holds all along. -/
def KD (w : World) (g : Nat) (x y x' y' : Value) (L : List (Value × List (Int × Int))) (W : World) : Prop :=
  W.cell? ⟨g, 0, none⟩ = some x ∧ W.cell? ⟨g, 1, none⟩ = some y ∧ W.cell? ⟨g + 1, 0, none⟩ = some x' ∧ W.cell? ⟨g + 1, 1, none⟩ = some y' ∧
  KX w [(⟨g + 1, 0, none⟩, x'), (⟨g + 1, 1, none⟩, y'), (⟨g, 0, none⟩, x), (⟨g, 1, none⟩, y)] L W
section
variable {w W W' : World} {g : Nat} {x y x' y' : Value} {L : List (Value × List (Int × Int))}
theorem KD.of (h : KX w [(⟨g + 1, 0, none⟩, x'), (⟨g + 1, 1, none⟩, y'), (⟨g, 0, none⟩, x), (⟨g, 1, none⟩, y)] L W) : KD w g x y x' y' L W :=
  ⟨h.cell (by simp), h.cell (by simp), h.cell (by simp), h.cell (by simp), h⟩
theorem KD.below (h : KD w g x y x' y' L W) (hb : Below W.heap.size W W') : KD w g x y x' y' L W' := .of (h.2.2.2.2.below hb)
theorem KD.drew (h : KD w g x y x' y' L W) : KD w g x y x' y' L W.drew := .of h.2.2.2.2.drew
theorem KD.bel (h : KD w g x y x' y' L W) : Below w.heap.size w W := h.2.2.2.2.bel
theorem KD.h {v : Value} {xs : List (Int × Int)} (h : KD w g x y x' y' L W) (hm : (v, xs) ∈ L) : Holds W v xs := h.2.2.2.2.h hm
end

set_option maxRecDepth 100000 in
set_option maxHeartbeats 8000000 in
theorem lawDots3 (KN : KnownOK) (v : Value) (zs : List WD) (ls m : List (Int × Int)) (X : Option Addr) (cx : Nat) (r q : Int) (w : World) (h : HoldsC w v (zs.map (·.1)) ls) (hx : Holds w (.slice X m.length cx) m) :
    Calls Try.prog 4 #[v, .agg #[.int .i64 r, .int .i64 q], .slice X m.length cx] w fun e w' => e = .returned (.bool true) ∧ Below w.heap.size w w' := by
  obtain ⟨A, n, B, k, rfl, h1, h2⟩ := h
  have hzl : (zs.map (·.1)).length = zs.length := by simp
  rw [hzl] at h1 ⊢
  have K := (((((KX.nil w).push hx).push h1).push h2).box (.slice A zs.length n) (.slice B ls.length k) 25).box (.int .i64 r) (.int .i64 q) 38
  simp only [World.size_alloc] at K
  have K := Lib.hid (KD.of K)
  have HKN := Lib.hid KN
  clear h1 h2 hx hzl KN
  have hcc : ∀ W, KD w w.heap.size (.slice A zs.length n) (.slice B ls.length k) (.int .i64 r) (.int .i64 q) [(.slice B ls.length k, ls), (.slice A zs.length n, zs.map (·.1)), (.slice X m.length cx, m)] W → HoldsC W (.agg #[.slice A zs.length n, .slice B ls.length k]) (zs.map (·.1)) ls :=
    fun W K => HoldsC.mk (K.h (by simp)) (K.h (by simp))
  have HCC := Lib.hid hcc
  clear hcc
  cases hl : (decide ((zs.map (·.1)).length ≤ 40) && decide (ls.length ≤ 40)) with
  | false =>
    have HL := Lib.hid (law3Light _ _ _ false _ (HCC.out _ K.out) hl)
    clear hl
    go_enter Try.func4, Try.ntmps4
    go_wp2_with fail
    refine HL.out.mono ?_
    rintro e w1 ⟨rfl, hb1⟩
    have K1 := Lib.hid (K.out.below hb1)
    clear hb1
    go_wp2_with fail
    refine (HKN.out _).mono ?_
    rintro e w2 ⟨rfl, hb1⟩
    have K2 := Lib.hid (K1.out.below hb1)
    clear hb1
    go_wp2
    go_ret
    exact ⟨rfl, K2.out.bel⟩
  | true =>
    have HL := Lib.hid (law3Light _ _ _ true _ (HCC.out _ K.out) hl)
    have hl2 : zs.length ≤ 40 ∧ ls.length ≤ 40 := by simpa using hl
    clear hl
    by_cases hm : m.length ≤ 40
    · have i1 : (m.length : Int) ≤ 40 := by omega
      have HM := Lib.hid (show zs.length + ls.length + m.length ≤ 1000 by omega)
      have HMM := Lib.hid (show m.length ≤ 100000 by omega)
      clear hl2 hm
      cases hh : hasC (zs.map (·.1)) ls r q
      all_goals
        have HH := Lib.hid hh
        clear hh
        go_enter Try.func4, Try.ntmps4
        go_wp2_with fail
        refine HL.out.mono ?_
        rintro e w1 ⟨rfl, hb1⟩
        have K1 := K.out.below hb1
        clear hb1
        go_wp2_with fail
        obtain ⟨q0, q1, q2, q3, q4⟩ := id K1
        go_region_held3 (fun W => W.cell? ⟨w.heap.size, 0, none⟩ = some (.slice A zs.length n) ∧ W.cell? ⟨w.heap.size, 1, none⟩ = some (.slice B ls.length k) ∧ W.cell? ⟨w.heap.size + 1, 0, none⟩ = some (.int .i64 r) ∧ W.cell? ⟨w.heap.size + 1, 1, none⟩ = some (.int .i64 q) ∧
            KX w [(⟨w.heap.size + 1, 0, none⟩, .int .i64 r), (⟨w.heap.size + 1, 1, none⟩, .int .i64 q), (⟨w.heap.size, 0, none⟩, .slice A zs.length n), (⟨w.heap.size, 1, none⟩, .slice B ls.length k)] [(.slice B ls.length k, ls), (.slice A zs.length n, zs.map (·.1)), (.slice X m.length cx, m)] W)
          (first
            | assumption
            | (exact KD.drew (by assumption)))
          (first
            | (go_at_call 24; refine (ctxHas _ _ _ r q _ _ (HCC.out _ (by assumption)) HH.out).mono ?_
               rintro e wa ⟨rfl, hb1⟩
               have hS1 := KD.below (by assumption) hb1
               clear hb1)
            | (go_at_call 25; refine (ref3Has _ _ _ r q _ _ (HCC.out _ (by assumption)) HH.out).mono ?_
               rintro e wb ⟨rfl, hb1⟩
               have hS2 := KD.below (by assumption) hb1
               clear hb1)
            | (go_at_call 27; refine (ctxMissing _ X cx zs ls m _ (HCC.out _ (by assumption)) (KD.h (L := [(.slice B ls.length k, ls), (.slice A zs.length n, zs.map (·.1)), (.slice X m.length cx, m)]) (by assumption) (by simp)) HM.out).mono ?_
               rintro e wc ⟨⟨v5, rfl, hv5⟩, hb1⟩
               have hh5 := hv5.holds
               have hS3 := KD.below (by assumption) hb1
               clear hb1 hv5)
            | (go_at_call 28; refine (ref3Missing _ X cx (zs.map (·.1)) ls m _ (HCC.out _ (by assumption)) (KD.h (L := [(.slice B ls.length k, ls), (.slice A zs.length n, zs.map (·.1)), (.slice X m.length cx, m)]) (by assumption) (by simp)) HMM.out).mono ?_
               rintro e wd ⟨⟨v6, rfl, hh6⟩, hb1⟩
               have hh7 := hh5.below hb1
               have hS4 := KD.below (by assumption) hb1
               clear hb1)
            | (go_at_call 26; refine (same_h3 _ _ _ _ true _ hh7 hh6 (by simp)).mono ?_
               rintro e we ⟨rfl, hb1⟩
               have hS5 := KD.below (by assumption) hb1
               clear hb1)
            | (go_at_call 10; refine (HKN.out _).mono ?_
               rintro e wf ⟨rfl, hb1⟩
               have hS6 := KD.below (by assumption) hb1
               clear hb1))
        all_goals
          go_wp2_with fail
          go_ret
          exact ⟨rfl, KD.bel hS6⟩
    · have i1 : (40 : Int) < (m.length : Int) := by omega
      clear hm hl2
      go_enter Try.func4, Try.ntmps4
      go_wp2_with fail
      refine HL.out.mono ?_
      rintro e w1 ⟨rfl, hb1⟩
      have K1 := Lib.hid (K.out.below hb1)
      clear hb1
      go_wp2_with fail
      refine (HKN.out _).mono ?_
      rintro e w2 ⟨rfl, hb1⟩
      have K2 := Lib.hid (K1.out.below hb1)
      clear hb1
      go_wp2
      go_ret
      exact ⟨rfl, K2.out.bel⟩

end Go.Proofs.Ytibnlifdeknicaa
