/- Package dot: Parse; the law's parses. -/
import Derived.Test.YteeigngomleijaaDoorDotM
import Derived.Lib.IndexLaws
import Derived.Lib.IndexBytes
namespace Go.Proofs.YteeigngomleijaaDoor
open Go.RowKit

theorem split_at {α : Type} {p : α → Bool} : ∀ {l : List α} {m : Nat}, (∀ j x, j < m → l[j]? = some x → p x = true) → (∀ x, l[m]? = some x → p x = false) → l.take m = l.takeWhile p ∧ l.drop m = l.dropWhile p
  | [], m, _, _ => by simp
  | x :: r, 0, _, h => by have := h x rfl; simp [this]
  | x :: r, m + 1, h, he => by
    have h0 := h 0 x (by omega) rfl
    obtain ⟨h1, h2⟩ := split_at (l := r) (m := m) (fun j y hj hy => h (j + 1) y (by omega) (by simpa using hy)) (fun y hy => he y (by simpa using hy))
    simp [h0, h1, h2]

theorem _root_.Go.World.grownBy.below_ {a w : World} (h : a.grownBy w none) : Below a.heap.size a w := ⟨h.os, h.tape, h.output, h.size, fun i hi => h.block i hi (by simp)⟩

theorem below_drewN' {B : Nat} {a w : World} (h : Below B a w) (n : Nat) : Below B a (w.drewN n) := ⟨h.os, h.tape, h.output, h.size, h.block⟩

/-- What stands before the first full stop, and behind it. -/
def cutL (l : List UInt8) : List UInt8 × List UInt8 := (l.takeWhile (fun c => !(c == 46)), (l.dropWhile (fun c => !(c == 46))).drop 1)

theorem cutL_hit {l : List UInt8} {i : Nat} (h1 : l[i]? = some 46) (h2 : ∀ k : Nat, k < i → l[k]? ≠ some 46) : cutL l = (l.take i, l.drop (i + 1)) := by
  obtain ⟨e1, e2⟩ := split_at (p := fun c => !(c == (46 : UInt8))) (l := l) (m := i) (fun j x hj hx => by
    have := h2 j hj
    rw [hx] at this
    simpa using fun e => this (by rw [e])) (fun x hx => by rw [h1] at hx; cases hx; rfl)
  rw [cutL, ← e1, ← e2, List.drop_drop]
theorem cutL_miss {l : List UInt8} (h : ∀ k : Nat, l[k]? ≠ some 46) : cutL l = (l, []) := by
  obtain ⟨e1, e2⟩ := split_at (p := fun c => !(c == (46 : UInt8))) (l := l) (m := l.length) (fun j x hj hx => by
    have := h j
    rw [hx] at this
    simpa using fun e => this (by rw [e])) (fun x hx => by rw [List.getElem?_eq_none (Nat.le_refl _)] at hx; cases hx)
  rw [cutL, ← e1, ← e2]
  simp

set_option maxHeartbeats 1000000 in
theorem cut49 (s : ByteArray) (w : World) (hm : s.size ≤ 1000000) :
    Calls Tryd.prog 85 #[.string s, .string ⟨#[46]⟩] w fun e w' => (∃ a b f, e = .returned (.tuple #[.string a, .string b, .bool f]) ∧ a.data.toList = (cutL s.data.toList).1 ∧ b.data.toList = (cutL s.data.toList).2) ∧ Below w.heap.size w w' := by
  have hi := fun W => Tryd.stringslite_Index_one s 46 W
  have hge := Lib.indexByte_ge s.data.toList 46
  rcases Int.lt_or_le (Lib.indexByte s.data.toList 46) 0 with h | h
  · have hix : Lib.indexByte s.data.toList 46 = -1 := by omega
    have hc := cutL_miss (Lib.indexByte_none hix)
    rw [hix] at hi
    have HI := Lib.hid hi
    have HC := Lib.hid hc
    clear hi hc hix hge h
    go_enter Tryd.func85, Tryd.ntmps85
    go_wp2_with fail
    refine (HI.out _).mono ?_
    rintro e w1 ⟨rfl, rfl⟩
    go_wp2
    go_ret3
    exact ⟨⟨_, _, _, rfl, by rw [HC.out], by rw [HC.out]⟩, Below.refl _ _⟩
  · obtain ⟨i, hix⟩ := Int.eq_ofNat_of_zero_le h
    obtain ⟨h1, h2⟩ := Lib.indexByte_some hix
    have hil : i < s.size := by
      rcases Nat.lt_or_ge i s.data.toList.length with h' | h'
      · simpa using h'
      · rw [List.getElem?_eq_none h'] at h1; cases h1
    have hc := cutL_hit h1 h2
    rw [hix] at hi
    have HI := Lib.hid hi
    have HC := Lib.hid hc
    have c1 : (0 : Int) ≤ (i : Int) := by omega
    have c2 : (i : Int) ≤ (s.size : Int) := by omega
    have c3 : (0 : Int) ≤ (i : Int) + 1 := by omega
    have c4 : (i : Int) + 1 ≤ (s.size : Int) := by omega
    clear hi hc hix hge h h1 h2
    go_enter Tryd.func85, Tryd.ntmps85
    go_wp2_with fail
    refine (HI.out _).mono ?_
    rintro e w1 ⟨rfl, rfl⟩
    go_wp2
    go_quiet (fail)
    go_wp2
    go_ret3
    exact ⟨⟨_, _, _, rfl, by rw [HC.out]; simp [ByteArray.data_extract], by rw [HC.out, Lib.extract_to_end]⟩, (grown_drewN _ _ none).below_⟩

set_option maxHeartbeats 400000 in
theorem cut44 (s : ByteArray) (w : World) (hm : s.size ≤ 1000000) :
    Calls Tryd.prog 67 #[.string s, .string ⟨#[46]⟩] w fun e w' => (∃ a b f, e = .returned (.tuple #[.string a, .string b, .bool f]) ∧ a.data.toList = (cutL s.data.toList).1 ∧ b.data.toList = (cutL s.data.toList).2) ∧ Below w.heap.size w w' := by
  have h := cut49 s w hm
  have H := Lib.hid h
  clear h
  go_enter Tryd.func67, Tryd.ntmps67
  go_wp2_with fail
  refine H.out.mono ?_
  rintro e w1 ⟨⟨a, b, f, rfl, h1, h2⟩, hb⟩
  have H1 := Lib.hid h1
  have H2 := Lib.hid h2
  clear h1 h2
  go_wp2
  go_ret3
  exact ⟨⟨_, _, _, rfl, H1.out, H2.out⟩, hb⟩

/-- The dot with a text. -/
def parseL (l : List UInt8) : Option (Int × Int) :=
  match numL 65535 (cutL l).1, numL 4294967295 (cutL l).2 with
  | some r, some c => some (r, c)
  | _, _ => none
/-- What Parse returns. -/
def parseV (l : List UInt8) : Value :=
  match parseL l with
  | some d => .tuple #[.agg #[.int .i64 d.1, .int .i64 d.2], .int .i64 0]
  | none => .tuple #[.agg #[.int .i64 0, .int .i64 0], .int .i64 6]

theorem cutL_len (l : List UInt8) : (cutL l).1.length ≤ l.length ∧ (cutL l).2.length ≤ l.length := by
  have h := congrArg List.length (List.takeWhile_append_dropWhile (p := fun c => !(c == (46 : UInt8))) (l := l))
  simp only [List.length_append] at h
  simp only [cutL, List.length_drop]
  omega

set_option maxHeartbeats 1000000 in
theorem dotParse (s : ByteArray) (w : World) (hm : s.size ≤ 1000000) :
    Calls Tryd.prog 50 #[.string s] w fun e w' => e = .returned (parseV s.data.toList) ∧ Below w.heap.size w w' := by
  have hl := cutL_len s.data.toList
  rw [Array.length_toList] at hl
  have hcut := fun W => cut44 s W hm
  have HCUT := Lib.hid hcut
  have hn1 := fun (a : ByteArray) W h => dotNumber a 65535 W (by omega) (by omega) h
  have hn2 := fun (a : ByteArray) W h => dotNumber a 4294967295 W (by omega) (by omega) h
  have HN1 := Lib.hid hn1
  have HN2 := Lib.hid hn2
  have hv : parseV s.data.toList = match numL 65535 (cutL s.data.toList).1, numL 4294967295 (cutL s.data.toList).2 with
    | some r, some c => .tuple #[.agg #[.int .i64 r, .int .i64 c], .int .i64 0]
    | _, _ => .tuple #[.agg #[.int .i64 0, .int .i64 0], .int .i64 6] := by
    unfold parseV parseL
    cases numL 65535 (cutL s.data.toList).1 <;> cases numL 4294967295 (cutL s.data.toList).2 <;> rfl
  generalize parseV s.data.toList = v at hv ⊢
  have HV := Lib.hid hv
  clear hcut hn1 hn2 hv
  go_enter Tryd.func50, Tryd.ntmps50
  go_wp2_with fail
  refine (HCUT.out _).mono ?_
  rintro e w1 ⟨⟨a, b, f, rfl, h1, h2⟩, hb1⟩
  have hsa : a.size ≤ 1000000 := by
    have := congrArg List.length h1; rw [Array.length_toList] at this
    have e : a.data.size = a.size := rfl
    have e2 : s.data.size = s.size := rfl
    omega
  have hsb : b.size ≤ 1000000 := by
    have := congrArg List.length h2; rw [Array.length_toList] at this
    have e : b.data.size = b.size := rfl
    have e2 : s.data.size = s.size := rfl
    omega
  have h3 := HN1.out a w1 hsa
  have h4 := fun W => HN2.out b W hsb
  have hv := HV.out
  rw [h1] at h3
  rw [h2] at h4
  generalize numL 65535 (cutL s.data.toList).1 = o1 at h3 hv
  generalize numL 4294967295 (cutL s.data.toList).2 = o2 at h4 hv
  have H3 := Lib.hid h3
  have H4 := Lib.hid h4
  clear h1 h2 h3 h4 HV HN1 HN2 HCUT hl
  have hb0 := below_trans ((Below.refl _ w).alloc (Nat.le_refl _) (.cells #[.int .i64 0, .int .i64 0] 23)) hb1
  go_wp2_with fail
  refine H3.out.mono ?_
  rintro e w2 ⟨rfl, hb2⟩
  go_wp2_with fail
  refine (H4.out _).mono ?_
  rintro e w3 ⟨rfl, hb3⟩
  have hbx := below_trans hb1 (below_trans hb2 hb3)
  have d0 := (hbx.cell (p := ⟨w.heap.size, 0, none⟩) (by simp)).trans (show _ = some (.int .i64 0) by simp [World.cell?_alloc_new])
  have d1 := (hbx.cell (p := ⟨w.heap.size, 1, none⟩) (by simp)).trans (show _ = some (.int .i64 0) by simp [World.cell?_alloc_new])
  have e0 := (hbx.frozen (p := ⟨w.heap.size, 0, none⟩) (by simp)).trans (show _ = false by unfold World.frozen?; rw [heap_alloc_new w]; rfl)
  have e1 := (hbx.frozen (p := ⟨w.heap.size, 1, none⟩) (by simp)).trans (show _ = false by unfold World.frozen?; rw [heap_alloc_new w]; rfl)
  have hby := below_trans hb0 (below_trans hb2 hb3)
  have hsz : w.heap.size < w3.heap.size := by have := hbx.size; simp at this; omega
  clear hb0 hb1 hb2 hb3 hbx H3 H4
  rcases o1 with _ | r
  · subst hv
    go_wp2
    refine bodyPost_ret (v := .tuple #[.agg #[.int .i64 0, .int .i64 0], .int .i64 6]) (by simp [results, Tryd.results50, go_sem, d0, d1]) rfl ⟨rfl, (hby.setCell (by simp) _).setCell (by simp) _⟩
  · rcases o2 with _ | c
    · subst hv
      go_wp2
      refine bodyPost_ret (v := .tuple #[.agg #[.int .i64 0, .int .i64 0], .int .i64 6]) (by simp [results, Tryd.results50, go_sem, d0, d1]) rfl ⟨rfl, (hby.setCell (by simp) _).setCell (by simp) _⟩
    · subst hv
      go_wp2
      refine bodyPost_ret (v := .tuple #[.agg #[.int .i64 r, .int .i64 c], .int .i64 0]) (by simp [results, Tryd.results50, go_sem, d0, d1]) rfl ⟨rfl, (hby.setCell (by simp) _).setCell (by simp) _⟩

/-- Whether Parse returns just this. -/
def parsesB (l : List UInt8) (r c no : Int) : Bool :=
  match parseL l with
  | some d => (d.1 == r && d.2 == c) && (0 == no)
  | none => (0 == r && 0 == c) && (6 == no)

set_option maxHeartbeats 1000000 in
theorem lawParses (s : ByteArray) (r c no : Int) (w : World) (hm : s.size ≤ 1000000) :
    Calls Tryd.prog 15 #[.string s, .agg #[.int .i64 r, .int .i64 c], .int .i64 no] w fun e w' => e = .returned (.bool (parsesB s.data.toList r c no)) ∧ Below w.heap.size w w' := by
  have hp := fun W => dotParse s W hm
  have hq : ∃ r' c' no', parseV s.data.toList = .tuple #[.agg #[.int .i64 r', .int .i64 c'], .int .i64 no'] ∧ parsesB s.data.toList r c no = ((r' == r && c' == c) && (no' == no)) := by
    unfold parseV parsesB
    cases parseL s.data.toList with
    | none => exact ⟨0, 0, 6, rfl, rfl⟩
    | some d => exact ⟨d.1, d.2, 0, rfl, rfl⟩
  obtain ⟨r', c', no', h1, h2⟩ := hq
  rw [h1] at hp
  rw [h2]
  have HP := Lib.hid hp
  clear hp h1 h2
  by_cases hr : r' = r
  · by_cases hc : c' = c
    · subst hr; subst hc
      cases hn : (no' == no)
      all_goals
        go_enter Tryd.func15, Tryd.ntmps15
        go_wp2_with fail
        refine (HP.out _).mono ?_
        rintro e w1 ⟨rfl, hb1⟩
        have hsz : w.heap.size < w1.heap.size := by have := hb1.size; simp at this; omega
        have d0 := (hb1.cell (p := ⟨w.heap.size, 0, none⟩) (by simp)).trans (show _ = some (.int .i64 _) by simp [World.cell?_alloc_new]; rfl)
        have d1 := (hb1.cell (p := ⟨w.heap.size, 1, none⟩) (by simp)).trans (show _ = some (.int .i64 _) by simp [World.cell?_alloc_new]; rfl)
        have hbb := below_trans ((Below.refl _ w).alloc (Nat.le_refl _) _) hb1
        go_wp2
        go_ret
        exact ⟨ret_bool (by simp), hbb.alloc hbb.size _⟩
    · subst hr
      go_enter Tryd.func15, Tryd.ntmps15
      go_wp2_with fail
      refine (HP.out _).mono ?_
      rintro e w1 ⟨rfl, hb1⟩
      have hsz : w.heap.size < w1.heap.size := by have := hb1.size; simp at this; omega
      have d0 := (hb1.cell (p := ⟨w.heap.size, 0, none⟩) (by simp)).trans (show _ = some (.int .i64 _) by simp [World.cell?_alloc_new]; rfl)
      have d1 := (hb1.cell (p := ⟨w.heap.size, 1, none⟩) (by simp)).trans (show _ = some (.int .i64 _) by simp [World.cell?_alloc_new]; rfl)
      have hbb := below_trans ((Below.refl _ w).alloc (Nat.le_refl _) _) hb1
      go_wp2
      go_ret
      exact ⟨ret_bool (by simp [hc]), hbb.alloc hbb.size _⟩
  · skip
    go_enter Tryd.func15, Tryd.ntmps15
    go_wp2_with fail
    refine (HP.out _).mono ?_
    rintro e w1 ⟨rfl, hb1⟩
    have hsz : w.heap.size < w1.heap.size := by have := hb1.size; simp at this; omega
    have d0 := (hb1.cell (p := ⟨w.heap.size, 0, none⟩) (by simp)).trans (show _ = some (.int .i64 _) by simp [World.cell?_alloc_new]; rfl)
    have d1 := (hb1.cell (p := ⟨w.heap.size, 1, none⟩) (by simp)).trans (show _ = some (.int .i64 _) by simp [World.cell?_alloc_new]; rfl)
    have hbb := below_trans ((Below.refl _ w).alloc (Nat.le_refl _) _) hb1
    go_wp2
    go_ret
    exact ⟨ret_bool (by simp [hr]), hbb.alloc hbb.size _⟩

end Go.Proofs.YteeigngomleijaaDoor
