/- Package vector: counters, what makes a vector of them. -/
import Derived.Test.YtibnlifdeknicaaVecB
import Derived.Test.YtibnlifdeknicaaSort
import Derived.Maps.Own
import Derived.Maps.OwnOps
import Derived.Maps.OwnSet
import Derived.Maps.RangeWalk
import Derived.Maps.Views
import Derived.OwnWalk
namespace Go.Proofs.Ytibnlifdeknicaa
open Go.RowKit Go.Maps Go.Sort

theorem law3 : Keyed Try.prog 3 := int_keyed Try.underlying3
theorem zero3 (w : World) : (zeroValue 3).run Try.prog w = .ok (.int .i64 0) w := by kernel_rfl
abbrev mapT : TypeId := 65

/-- A map reads as the greatest counters of a list of dots. -/
def MapIs (D : DataW Unit) (l : List (Int × Int)) : Prop :=
  (∀ r, D.atKey (.int .i64 r) (.lit (.int .i64 0)) = .lit (.int .i64 (maxC l r 0))) ∧ ∀ r, Maps.has D (.int .i64 r) = l.any fun p => p.1 == r
theorem MapIs.start : MapIs (.map []) [] := ⟨fun _ => rfl, fun _ => rfl⟩
theorem MapIs.val {D : DataW Unit} {l : List (Int × Int)} (h : MapIs D l) {r c : Int} (hat : D.atKey (.int .i64 r) (.lit (.int .i64 0)) = .lit (.int .i64 c)) : c = maxC l r 0 := by
  rw [h.1] at hat
  injection hat with hat
  injection hat with _ hat
  exact hat.symm
theorem lit_ne {r r' : Int} (h : ¬ r = r') : (Lit.int .i64 r) ≠ .int .i64 r' := fun e => by injection e with _ e; exact h e
theorem MapIs.step {D : DataW Unit} {l : List (Int × Int)} (hD : IsMap D) (h : MapIs D l) (d : Int × Int) : MapIs (D.put (.int .i64 d.1) (.lit (.int .i64 (max (maxC l d.1 0) d.2)))) (l ++ [d]) := by
  constructor
  · intro r
    rw [maxC_snoc]
    by_cases e : d.1 = r
    · subst e
      rw [atKey_put_same hD (show WideAt.IsKeyLit (.int .i64 d.1) from trivial), if_pos rfl]
    · rw [if_neg e, atKey_put_other (lit_ne (Ne.symm e)), h.1]
  · intro r
    rw [List.any_append]
    by_cases e : d.1 = r
    · subst e
      rw [has_put_same hD (show WideAt.IsKeyLit (.int .i64 d.1) from trivial)]; simp
    · rw [has_put_other (lit_ne (Ne.symm e)), h.2]; simp [e]

theorem maxC_range : ∀ {l : List (Int × Int)} (r n : Int), (∀ p ∈ l, validD p.1 p.2 = true) → 0 ≤ n → n ≤ 4294967295 → 0 ≤ maxC l r n ∧ maxC l r n ≤ 4294967295
  | [], r, n, _, h0, h1 => ⟨h0, h1⟩
  | d :: l, r, n, hv, h0, h1 => by
    rw [maxC]
    have hd := hv d (by simp)
    simp [validD] at hd
    exact maxC_range r _ (fun p hp => hv p (by simp [hp])) (by split <;> omega) (by split <;> omega)

/-- Slices in a row that read as lists. -/
def ListsAt (w : World) (b : Nat) (vs : List Value) (ls : List (List (Int × Int))) : Prop :=
  b < w.heap.size ∧ vs.length = ls.length ∧ ∀ j v, vs[j]? = some v → w.cell? ⟨b, j, none⟩ = some v ∧ ∃ l, ls[j]? = some l ∧ Holds w v l
theorem ListsAt.below {w w' : World} {b : Nat} {vs : List Value} {ls : List (List (Int × Int))} (h : ListsAt w b vs ls) (hb : Below w.heap.size w w') : ListsAt w' b vs ls :=
  ⟨Nat.lt_of_lt_of_le h.1 hb.size, h.2.1, fun j v hj => ⟨(hb.cell (p := ⟨b, j, none⟩) h.1).trans (h.2.2 j v hj).1, by
    obtain ⟨l, h1, h2⟩ := (h.2.2 j v hj).2
    exact ⟨l, h1, h2.below hb⟩⟩⟩
theorem ListsAt.get {w : World} {b : Nat} {vs : List Value} {ls : List (List (Int × Int))} (h : ListsAt w b vs ls) {j : Nat} (hj : j < vs.length) :
    ∃ A c l, w.cell? ⟨b, j, none⟩ = some (.slice A (l : List (Int × Int)).length c) ∧ ls[j]? = some l ∧ DotsAt w A l ∧ l.length ≤ maxLen := by
  obtain ⟨h1, l, h2, A, c, e, h3, h4, h5⟩ := h.2.2 j _ (List.getElem?_eq_getElem hj)
  exact ⟨A, c, l, by rw [h1, e], h2, h3, Nat.le_trans h4 h5⟩
theorem flat_snoc {ls : List (List (Int × Int))} {m : Nat} {l : List (Int × Int)} (h : ls[m]? = some l) : (ls.take (m + 1)).flatten = (ls.take m).flatten ++ l := by
  rw [take_snoc h]; simp
theorem flat_len (ls : List (List (Int × Int))) (m : Nat) : (ls.take m).flatten.length ≤ ls.flatten.length := by
  have := congrArg List.length (congrArg List.flatten (List.take_append_drop m ls))
  simp only [List.flatten_append, List.length_append] at this
  omega
theorem flat_len2 {ls : List (List (Int × Int))} {m : Nat} {l : List (Int × Int)} (h : ls[m]? = some l) : (ls.take m).flatten.length + l.length ≤ ls.flatten.length := by
  have := flat_len ls (m + 1)
  rw [flat_snoc h, List.length_append] at this
  exact this

set_option maxRecDepth 100000 in
set_option maxHeartbeats 2000000 in
theorem vecCounters (b cap : Nat) (vs : List Value) (ls : List (List (Int × Int))) (w : World) (hL : ListsAt w b vs ls) (hm : ls.flatten.length ≤ 100000) (hn : vs.length ≤ 1000) (hv : ∀ p ∈ ls.flatten, validD p.1 p.2 = true) :
    Calls Try.prog 77 #[.slice (some ⟨b, 0, none⟩) vs.length cap] w fun e w' => e = .returned (.map (some w.heap.size)) ∧ Below w.heap.size w w' ∧
      ∃ D, w'.ownsMap Try.prog 3 (plainElem Try.prog 3) w.heap.size ls.flatten.length D ∧ MapIs D ls.flatten := by
  have hmm := @run_makeMap Try.prog
  have HV := Lib.hid hv; clear hv
  have HLL := Lib.hid hL
  go_enter Try.func77, Try.ntmps77
  go_wp2_with fail
  go_loopw [5, 7, 11] (fun _ _ i wr => ∃ m : Nat, m ≤ vs.length ∧ i = .int .i64 m ∧ Below w.heap.size w wr ∧ ∃ D, Hid (wr.ownsMap Try.prog 3 (plainElem Try.prog 3) w.heap.size (ls.take m).flatten.length D) ∧ Hid (MapIs D (ls.take m).flatten)) (fun _ _ i _ => vs.length - (intOf i).toNat)
  case atStart => exact ⟨0, by omega, rfl, (Below.refl _ _).alloc (Nat.le_refl _) _, .map [], World.ownsMap_made _ _ _ _, MapIs.start⟩
  case round =>
    obtain ⟨m, hk2, rfl, hb, D, hown, hD⟩ := hrel
    by_cases hlt : m < vs.length
    · obtain ⟨A, c, l, hc0, hl, hdl, hml⟩ := HLL.out.get hlt
      have hc := (hb.cell (p := ⟨b, m, none⟩) HLL.out.1).trans hc0
      unfold maxLen at hml
      have HD := Lib.hid hdl
      have HL := Lib.hid hl
      have hfl := flat_len2 hl
      clear hl hdl hc0
      go_wp2_with fail
      go_loopw [7, 17] (fun _ i wr' => ∃ n : Nat, n ≤ l.length ∧ i = .int .i64 n ∧ Below w.heap.size w wr' ∧ ∃ D, Hid (wr'.ownsMap Try.prog 3 (plainElem Try.prog 3) w.heap.size ((ls.take m).flatten ++ l.take n).length D) ∧ Hid (MapIs D ((ls.take m).flatten ++ l.take n))) (fun _ i _ => l.length - (intOf i).toNat)
      case atStart => exact ⟨0, by omega, rfl, hb, D, by simpa [Hid] using hown.out, by simpa [Hid] using hD.out⟩
      case round =>
        obtain ⟨n, hn2, rfl, hb', D', hown', hD'⟩ := hrel
        by_cases hlt' : n < l.length
        · obtain ⟨g, off, r, q, rfl, hgl, hx1, hc0, hc1⟩ := (HD.out.below hb').dot hlt'
          have hvd : validD r q = true := HV.out (r, q) (List.mem_flatten.2 ⟨l, List.mem_of_getElem? HL.out, List.mem_of_getElem? hx1⟩)
          have hmx := maxC_range (l := (ls.take m).flatten ++ l.take n) r 0 (fun p hp => HV.out p (by
            rcases List.mem_append.1 hp with h | h
            · obtain ⟨l', h1, h2⟩ := List.mem_flatten.1 h
              exact List.mem_flatten.2 ⟨l', List.mem_of_mem_take h1, h2⟩
            · exact List.mem_flatten.2 ⟨l, List.mem_of_getElem? HL.out, List.mem_of_mem_take h⟩)) (by omega) (by omega)
          have hvb : 1 ≤ r ∧ r ≤ 65535 ∧ 1 ≤ q ∧ q ≤ 4294967295 := by simpa [validD] using hvd
          have hkey : keyOf Try.prog 3 (.int .i64 r) = some (.int .i64 r) := keyOf_int_mk Try.underlying3 (WalkArith.wf_i64 (by omega))
          have hst := hD'.out.step hown'.out.isMap (r, q)
          have HX1 := Lib.hid hx1
          have hlen : ((ls.take m).flatten ++ l.take n).length < 200000 := by rw [List.length_append, List.length_take]; omega
          have hle : ((ls.take m).flatten ++ l.take (n + 1)).length = ((ls.take m).flatten ++ l.take n).length + 1 := by rw [take_snoc hx1, ← List.append_assoc, List.length_append, List.length_singleton]
          have hap : (ls.take m).flatten ++ l.take n ++ [(r, q)] = (ls.take m).flatten ++ l.take (n + 1) := by rw [take_snoc hx1, List.append_assoc]
          rw [hap] at hst
          have HST := Lib.hid hst
          have HLE := Lib.hid hle
          have hval := fun c0 h => hD'.out.val (r := r) (c := c0) h
          generalize maxC ((ls.take m).flatten ++ l.take n) r 0 = mx at hmx hst HST hval
          have HVAL := Lib.hid hval
          clear hvd hx1 hst hle hap hval
          generalize ((ls.take m).flatten ++ l.take n).length = kk at *
          go_wp2_with (first
            | (at_lookup; refine wpList_lookup_own_int _ rfl _ _ mapT rfl 3 3 .i64 law3 Try.underlying65 Try.underlying3 (zero3 _) w.heap.size _ _ rfl (hown'.out.alloc _) _ _ rfl hkey ?_; intro c0 hat hwc; obtain rfl := HVAL.out _ hat; clear hat hwc)
            | (at_mapUpdate; refine wpList_mapUpdate_own _ rfl _ _ _ mapT rfl 3 3 law3 Try.underlying65 _ w.heap.size _ _ rfl (hown'.out.alloc _) (by unfold maxLen; omega) _ _ _ rfl rfl hkey _ [] (plainElem_int Try.underlying3 (WalkArith.wf_i64 (by omega))) ?_; intro w1 hown1 hgrow1)
            | go_in)
          go_roundw
          case rel => exact ⟨n + 1, by omega, by go_num, (hb'.alloc hb'.size _).grown hgrow1 (by have := hb'.size; simp; omega) (fun j hj => by cases hj; exact Nat.le_refl _), _, (show Hid _ from by rw [HLE.out]; exact hown1), HST⟩
          case measure => simp [intOf]; omega
        · have hmx : l.take n = l := List.take_of_length_le (by omega)
          have hown2 := hown'.out
          have hD2 := hD'.out
          rw [hmx, ← flat_snoc HL.out] at hown2 hD2
          have HO := Lib.hid hown2
          have HD2 := Lib.hid hD2
          clear hown2 hD2 hmx
          go_wp2_with fail
          go_roundw
          case rel => exact ⟨m + 1, by omega, by go_num, hb', D', HO, HD2⟩
          case measure => simp [intOf]; omega
    · have hmx : ls.take m = ls := List.take_of_length_le (by have := HLL.out.2.1; omega)
      have hown2 := hown.out
      have hD2 := hD.out
      rw [hmx] at hown2 hD2
      have HO := Lib.hid hown2
      have HD2 := Lib.hid hD2
      clear hown2 hD2 hmx
      go_wp2
      go_ret
      exact ⟨rfl, hb, D, HO.out, HD2.out⟩


end Go.Proofs.Ytibnlifdeknicaa
