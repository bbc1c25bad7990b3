/- Package vector: Parse. -/
import Derived.Test.YteeigngomleijaaDoorVecS
import Derived.Test.YteeigngomleijaaDoorVecJ
import Derived.Test.YteeigngomleijaaDoorVecF
import Derived.Test.YteeigngomleijaaDoorDotN
import Derived.Maps.OwnIn
namespace Go.Proofs.YteeigngomleijaaDoor
open Go.RowKit

attribute [local go_sem] Oper.semAt_some

/-- What is read from some fields. -/
def allP : List (List UInt8) → Option (List (Int × Int))
  | [] => some []
  | f :: r => match parseL f with
    | some d => (match allP r with
      | some v => some (d :: v)
      | none => none)
    | none => none
theorem allP_snoc_some : ∀ {l : List (List UInt8)} {ys : List (Int × Int)} {f : List UInt8} {d : Int × Int}, allP l = some ys → parseL f = some d → allP (l ++ [f]) = some (ys ++ [d])
  | [], ys, f, d, h, hd => by cases h; simp [allP, hd]
  | g :: l, ys, f, d, h, hd => by
    rw [allP] at h
    cases hg : parseL g with
    | none => rw [hg] at h; cases h
    | some e =>
      cases hl : allP l with
      | none => rw [hg, hl] at h; cases h
      | some v =>
        rw [hg, hl] at h; cases h
        rw [List.cons_append, allP, hg, allP_snoc_some hl hd]; rfl
theorem allP_bad : ∀ {l : List (List UInt8)} {f : List UInt8}, f ∈ l → parseL f = none → allP l = none
  | [], _, h, _ => absurd h (by simp)
  | g :: l, f, h, hd => by
    rw [allP]
    rcases List.mem_cons.1 h with rfl | h
    · rw [hd]
    · rw [allP_bad h hd]; cases parseL g <;> rfl
def hdF (f : List UInt8) : List (List UInt8) → List (List UInt8)
  | [] => [f]
  | h :: t => (f ++ h) :: t
theorem splitL_ne : ∀ (S : List UInt8), splitL S ≠ []
  | [] => by simp [splitL]
  | c :: r => by
    rw [splitL]
    split
    · simp
    · split <;> simp
theorem hdF_nil {l : List (List UInt8)} (h : l ≠ []) : hdF [] l = l := by cases l <;> simp_all [hdF]
def putAcc (acc : List (Int × Int)) : Option (List (Int × Int)) → Option (List (Int × Int))
  | some v => some (acc ++ v)
  | none => none
theorem scanF_split : ∀ (S f : List UInt8) (acc : List (Int × Int)), scanF f acc S = putAcc acc (allP (hdF f (splitL S)))
  | [], f, acc => by
    simp only [scanF, splitL, hdF, allP, List.append_nil]
    cases parseL f <;> rfl
  | c :: r, f, acc => by
    rw [scanF, splitL]
    by_cases hc : c.toNat = 32
    · rw [if_pos hc, if_pos hc]
      simp only [hdF, List.append_nil, allP]
      cases hf : parseL f with
      | none => rfl
      | some d =>
        have h := scanF_split r [] (acc ++ [d])
        rw [hdF_nil (splitL_ne r)] at h
        simp only [h]
        cases allP (splitL r) <;> simp [putAcc]
    · rw [if_neg hc, if_neg hc, scanF_split r (f ++ [c]) acc]
      cases hs : splitL r with
      | nil => exact absurd hs (splitL_ne r)
      | cons h t => simp [hdF]
theorem parseVL_split (S : List UInt8) (h : S ≠ [45]) : parseVL S = match allP (splitL S) with
    | some v => if validV v then some v else none
    | none => none := by
  rw [parseVL, if_neg h, scanF_split S [] [], hdF_nil (splitL_ne S)]
  cases allP (splitL S) <;> simp [putAcc]

abbrev dataL (s : ByteArray) : List UInt8 := s.data.toList
theorem splitB_data (s : ByteArray) : (splitB s).map dataL = splitL s.data.toList := by
  rw [splitB, List.map_map]
  have : (dataL ∘ toB) = id := by funext l; simp [toB, dataL]
  rw [this, List.map_id]
theorem splitL_len : ∀ {S f : List UInt8}, f ∈ splitL S → f.length ≤ S.length
  | [], f, h => by simp [splitL] at h; subst h; simp
  | c :: r, f, h => by
    rw [splitL] at h
    split at h
    · rcases List.mem_cons.1 h with rfl | h
      · simp
      · have := splitL_len h; simp; omega
    · cases hs : splitL r with
      | nil => exact absurd hs (splitL_ne r)
      | cons a t =>
        have ih : ∀ {g : List UInt8}, g ∈ splitL r → g.length ≤ r.length := fun hg => splitL_len hg
        rw [hs] at h
        rcases List.mem_cons.1 h with rfl | h
        · have := ih (g := a) (by rw [hs]; simp); simp; omega
        · have := ih (g := f) (by rw [hs]; simp [h]); simp; omega
theorem splitL_count : ∀ (S : List UInt8), (splitL S).length ≤ S.length + 1
  | [] => by simp [splitL]
  | c :: r => by
    have ih := splitL_count r
    rw [splitL]
    split
    · simp; omega
    · cases hs : splitL r with
      | nil => simp
      | cons a t => rw [hs] at ih; simp at ih ⊢; omega
theorem allP_len : ∀ {l : List (List UInt8)} {ys : List (Int × Int)}, allP l = some ys → ys.length = l.length
  | [], ys, h => by cases h; rfl
  | g :: l, ys, h => by
    rw [allP] at h
    cases hg : parseL g with
    | none => rw [hg] at h; cases h
    | some e =>
      cases hl : allP l with
      | none => rw [hg, hl] at h; cases h
      | some v => rw [hg, hl] at h; cases h; simp [allP_len hl]

/-- What the loop keeps; n₀ is where the call began. -/
def InvP (n₀ : Nat) (pre : List ByteArray) (W : World) : Prop :=
  ∃ ys v u, allP (pre.map dataL) = some ys ∧ Boxed W (n₀ + 1 + 1) 42 v ∧ W.ownsRow n₀ 23 2 v ys.length (cellsOf encD ys) ∧ Boxed W n₀ 42 (.slice none 0 0) ∧ Boxed W (n₀ + 1) 27 (.int .i64 0) ∧
    Boxed W (n₀ + 3) 9 u ∧ Boxed W (n₀ + 3 + 1) 9 (.string ⟨#[32]⟩) ∧ Boxed W (n₀ + 3 + 2) 3 (.int .i64 0)
def InvX (n₀ : Nat) (c : Code) (pre : List ByteArray) (W : World) : Prop :=
  c = .ret ∧ allP (pre.map dataL) = none ∧ Boxed W n₀ 42 (.slice none 0 0) ∧ Boxed W (n₀ + 1) 27 (.int .i64 6)

theorem _root_.Go.Boxed.own {W W' : World} {B : Nat} {t : TypeId} {v : Value} {row : Option Nat} (h : Boxed W B t v) (hg : W.grownBy W' row) (hr : ∀ r, row = some r → ∃ o : Obj, W.heap[r]? = some o ∧ o.isCells = false) : Boxed W' B t v :=
  h.kept hg fun e => by
    obtain ⟨o, ho, hc⟩ := hr B e.symm
    rw [show W.heap[B]? = _ from h] at ho; cases ho; cases hc
theorem ownsRow_frame {n₀ e size k : Nat} {W W' : World} {v : Value} {xs : List Value} {row : Option Nat} (h : W.ownsRow n₀ e size v k xs) (hg : W.grownBy W' row) (hr : ∀ r, row = some r → ∃ o : Obj, W.heap[r]? = some o ∧ o.isCells = false) : W'.ownsRow n₀ e size v k xs := by
  refine h.kept hg ?_
  rcases h.2 with ⟨rfl, _⟩ | ⟨g, cap, cur, rfl, _, hgb, _⟩
  · exact .inl (by simp [Value.ownBlock])
  · refine .inr fun e' => ?_
    obtain ⟨o, ho, hc⟩ := hr g (by simpa [Value.ownBlock] using e'.symm)
    rw [hgb] at ho; cases ho; cases hc

theorem InvP.own (n₀ : Nat) : Own (InvP n₀) := by
  rintro s W W' row ⟨ys, v, u, h0, h1, h2, h3, h4, h5, h6, h7⟩ hg hr
  exact ⟨ys, v, u, h0, h1.own hg hr, ownsRow_frame h2 hg hr, h3.own hg hr, h4.own hg hr, h5.own hg hr, h6.own hg hr, h7.own hg hr⟩
theorem InvX.own (n₀ : Nat) (c : Code) : Own (InvX n₀ c) := by
  rintro s W W' row ⟨h0, h1, h2, h3⟩ hg hr
  exact ⟨h0, h1, h2.own hg hr, h3.own hg hr⟩
theorem InvP.cell (n₀ : Nat) : CellFree ⟨n₀ + 3, 0, none⟩ (InvP n₀) := by
  rintro s W x ⟨ys, v, u, h0, h1, h2, h3, h4, h5, h6, h7⟩
  have hg := grownBy_setCell' W (n₀ + 3) x
  exact ⟨ys, v, x, h0, h1.kept hg (by simp), h2.kept hg (.inr (h5.not_row (by decide) h2).symm), h3.kept hg (by simp), h4.kept hg (by simp), h5.set x, h6.kept hg (by simp), h7.kept hg (by simp)⟩
theorem InvX.cell (n₀ : Nat) (c : Code) : CellFree ⟨n₀ + 3, 0, none⟩ (InvX n₀ c) := by
  rintro s W x ⟨h0, h1, h2, h3⟩
  have hg := grownBy_setCell' W (n₀ + 3) x
  exact ⟨h0, h1, h2.kept hg (by simp), h3.kept hg (by simp)⟩
theorem below_cell {n₀ : Nat} (w : World) : CellFree ⟨n₀ + 3, 0, none⟩ (fun (_ : List ByteArray) W => Below n₀ w W) := fun _ _ _ h => h.setCell (p := ⟨n₀ + 3, 0, none⟩) (by simp) _

theorem KeepsOthers.of_below {W W1 : World} (h : Below W.heap.size W W1) : KeepsOthers W W1 := ⟨h.size, fun k o hk _ => (h.block k (Array.getElem?_eq_some_iff.1 hk).1).trans hk⟩
theorem KpB.trans {B : Nat} {X Y Z : World} (h : KpB B X Y) (k : KpB B Y Z) : KpB B X Z := ⟨Nat.le_trans h.1 k.1, fun i h1 h2 => (k.2 i h1 h2).trans (h.2 i h1 h2)⟩

theorem InvP.below {n₀ : Nat} {pre : List ByteArray} {W W1 : World} (h : InvP n₀ pre W) (hb : Below W.heap.size W W1) : InvP n₀ pre W1 :=
  InvP.own n₀ pre W W1 none h (grown_of_below2 hb none) (fun r e => by cases e)

/-- After a round that appends. -/
theorem InvP.step {n₀ : Nat} {pre : List ByteArray} {x : ByteArray} {ys : List (Int × Int)} {d : Int × Int} {v v' u : Value} {W W2 : World} {o : Obj} (hp : allP (pre.map dataL) = some ys) (hd : parseL (dataL x) = some d)
    (h1 : Boxed W (n₀ + 1 + 1) 42 v) (h2 : W.ownsRow n₀ 23 2 v ys.length (cellsOf encD ys)) (h3 : Boxed W n₀ 42 (.slice none 0 0)) (h4 : Boxed W (n₀ + 1) 27 (.int .i64 0))
    (h5 : Boxed W (n₀ + 3) 9 u) (h6 : Boxed W (n₀ + 3 + 1) 9 (.string ⟨#[32]⟩)) (h7 : Boxed W (n₀ + 3 + 2) 3 (.int .i64 0))
    (hown : W2.ownsRow n₀ 23 2 v' (ys.length + 1) (cellsOf encD (ys ++ [d]))) (hg : (W.alloc o).grownBy W2 v.ownBlock) :
    Boxed W2 (n₀ + 1 + 1) 42 v ∧ InvP n₀ (pre ++ [x]) (W2.setCell ⟨n₀ + 1 + 1, 0, none⟩ v') ∧ KeepsOthers W (W2.setCell ⟨n₀ + 1 + 1, 0, none⟩ v') ∧ KpB (n₀ + 3) W (W2.setCell ⟨n₀ + 1 + 1, 0, none⟩ v') ∧ Below n₀ W (W2.setCell ⟨n₀ + 1 + 1, 0, none⟩ v') := by
  obtain ⟨a1, a2, a3, a4, a5⟩ := h1.appended (by decide) h2 (by have := h3.lt; omega) (by omega) hown hg
  have hg2 := grownBy_setCell' W2 (n₀ + 1 + 1) v'
  have two : ∀ {B : Nat} {t : TypeId} {q : Value}, Boxed W B t q → t ≠ 23 → B ≠ n₀ + 1 + 1 → Boxed (W2.setCell ⟨n₀ + 1 + 1, 0, none⟩ v') B t q := fun hb ht hB =>
    ((hb.alloc o).kept hg (hb.not_row ht h2)).kept hg2 (by simpa using hB)
  have b5 := two h5 (by decide) (by omega)
  have b6 := two h6 (by decide) (by omega)
  have b7 := two h7 (by decide) (by omega)
  refine ⟨a1, ⟨ys ++ [d], v', u, ?_, a2, by simpa using a3, two h3 (by decide) (by omega), two h4 (by decide) (by omega), b5, b6, b7⟩, a4, ⟨a4.size, fun k k1 k2 => ?_⟩, a5⟩
  · rw [List.map_append, List.map_cons, List.map_nil]; exact allP_snoc_some hp hd
  · rcases (show k = n₀ + 3 ∨ k = n₀ + 3 + 1 ∨ k = n₀ + 3 + 2 by omega) with rfl | rfl | rfl
    · exact b5.trans h5.symm
    · exact b6.trans h6.symm
    · exact b7.trans h7.symm

/-- What Parse returns. -/
def PR (o : Option (List (Int × Int))) (e : Ending) (w' : World) : Prop :=
  (∀ v, o = some v → ∃ x, e = .returned (.tuple #[x, .int .i64 0]) ∧ Holds w' x v) ∧ (o = none → e = .returned (.tuple #[.slice none 0 0, .int .i64 6]))
theorem cell_two (W : World) (x y : Value) (t : TypeId) : ∀ (j : Nat) (u : Value), [x, y][j]? = some u → (W.alloc (.cells #[x, y] t)).cell? (Addr.add ⟨W.heap.size, 0, none⟩ j) = some u := by
  intro j u hj
  have h := heap_alloc_new W (.cells #[x, y] t)
  match j, hj with
  | 0, hj => simp at hj; subst hj; rw [show Addr.add ⟨W.heap.size, 0, none⟩ 0 = ⟨W.heap.size, 0, none⟩ from rfl]; simp only [World.cell?]; rw [h]; rfl
  | 1, hj => simp at hj; subst hj; rw [show Addr.add ⟨W.heap.size, 0, none⟩ 1 = ⟨W.heap.size, 1, none⟩ from rfl]; simp only [World.cell?]; rw [h]; rfl

theorem cell_two2 (W : World) (o : Obj) (x y : Value) (t : TypeId) : ∀ (j : Nat) (u : Value), [x, y][j]? = some u → ((W.alloc o).alloc (.cells #[x, y] t)).cell? (Addr.add ⟨W.heap.size + 1, 0, none⟩ j) = some u := by
  have h := cell_two (W.alloc o) x y t
  rwa [World.size_alloc] at h
theorem KpB.of_below {B : Nat} {W W1 : World} (h : B + 2 < W.heap.size) (hb : Below W.heap.size W W1) : KpB B W W1 := ⟨hb.size, fun k _ h2 => hb.block k (by omega)⟩
theorem allP_app : ∀ {l m : List (List UInt8)}, allP l = none → allP (l ++ m) = none
  | [], _, h => by cases h
  | g :: l, m, h => by
    rw [allP] at h
    rw [List.cons_append, allP]
    cases hg : parseL g with
    | none => rfl
    | some e =>
      cases hl : allP l with
      | none => rw [allP_app hl]
      | some v => rw [hg, hl] at h; cases h
theorem allP_pre {pre xs : List ByteArray} (h : pre <+: xs) (hn : allP (pre.map dataL) = none) : allP (xs.map dataL) = none := by
  obtain ⟨t, rfl⟩ := h
  rw [List.map_append]; exact allP_app hn

/-- The end: both results are stored, the mark is taken in. -/
theorem parse_fin {n₀ D k : Nat} {w W : World} {a0 b0 a b v : Value} {xs : List Value} (h3 : Boxed W n₀ 42 a0) (h4 : Boxed W (n₀ + 1) 27 b0) (hrow : W.ownsRow n₀ 23 2 v k xs) (hD : n₀ ≤ D)
    (hK : W.heap[D]? = some (.deferred (some []))) (hB : Below n₀ w W) (F : World) (hF : F = ((W.setCell ⟨n₀, 0, none⟩ a).setCell ⟨n₀ + 1, 0, none⟩ b)) :
    F.heap[D]? = some (.deferred (some [])) ∧ (F.putObj D (.deferred none)).cell? ⟨n₀, 0, none⟩ = some a ∧ (F.putObj D (.deferred none)).cell? ⟨n₀ + 1, 0, none⟩ = some b ∧ (F.putObj D (.deferred none)).ownsRow n₀ 23 2 v k xs ∧ Below n₀ w (F.putObj D (.deferred none)) := by
  have e3 : D ≠ n₀ := fun e => by rw [e, show W.heap[n₀]? = _ from h3] at hK; cases hK
  have e4 : D ≠ n₀ + 1 := fun e => by rw [e, show W.heap[n₀ + 1]? = _ from h4] at hK; cases hK
  have g1 := grownBy_setCell' W n₀ a
  have g2 := grownBy_setCell' (W.setCell ⟨n₀, 0, none⟩ a) (n₀ + 1) b
  have hK1 : (W.setCell ⟨n₀, 0, none⟩ a).heap[D]? = some (.deferred (some [])) := (Below.heap_setCell _ _ _ D e3).trans hK
  have hK2 : F.heap[D]? = some (.deferred (some [])) := by rw [hF]; exact (Below.heap_setCell _ _ _ D e4).trans hK1
  have k3 : Boxed F n₀ 42 a := by rw [hF]; exact (h3.set a).kept g2 (by simp)
  have k4 : Boxed F (n₀ + 1) 27 b := by rw [hF]; exact (h4.kept g1 (by simp)).set b
  have kr : F.ownsRow n₀ 23 2 v k xs := by
    rw [hF]
    have r1 := hrow.kept g1 (.inr (h3.not_row (by decide) hrow).symm)
    exact r1.kept g2 (.inr ((h4.kept g1 (by simp)).not_row (by decide) r1).symm)
  have kb : Below n₀ w F := by rw [hF]; exact (hB.setCell (p := ⟨n₀, 0, none⟩) (Nat.le_refl _) _).setCell (p := ⟨n₀ + 1, 0, none⟩) (by simp) _
  have g3 := grownBy_putObj' F D (.deferred none)
  refine ⟨hK2, (k3.kept g3 (by simpa using fun e => e3 e.symm)).cell, (k4.kept g3 (by simpa using fun e => e4 e.symm)).cell, ownsRow_putObj kr _ hK2 rfl, kb.grown g3 (by have := k3.lt; omega) (fun j e => by cases e; exact hD)⟩

set_option maxRecDepth 100000 in
set_option maxHeartbeats 4000000 in
theorem vecParse (s : ByteArray) (w : World) (hm : s.size ≤ 1000) :
    Calls Tryd.prog 64 #[.string s] w fun e w' => PR (parseVL s.data.toList) e w' ∧ Below w.heap.size w w' := by
  obtain ⟨i0, hi0, hz0, hz1, hz2⟩ := info_parts infoD
  have HSEQ := Lib.hid fun (W : World) => splitSeqW s W
  refine (callsIn_wide (n := 3)).1 ?_
  refine callsIn_of_wp_marks Tryd.func64 rfl trivial ?_ rfl
  simp only [Tryd.ntmps64, List.size_toArray, List.length_cons, List.length_nil, Nat.reduceAdd, Nat.reduceSub, Array.replicate_succ, Array.replicate_zero, List.push_toArray, List.append_toArray, List.nil_append, List.cons_append]
  by_cases hd : s.data.toList = [45]
  · have hp : parseVL s.data.toList = some [] := by rw [hd]; rfl
    have HP := Lib.hid hp
    have hn : (s.toList == [45]) = true := by rw [ByteArray.toList_eq, hd]; rfl
    clear hp hd
    gi_wp2
    have q0 := Boxed.new w 42 (.slice none 0 0)
    have q1 := Boxed.new (w.alloc (Obj.cells #[Value.slice none 0 0] 42)) 27 (.int .i64 0)
    rw [World.size_alloc] at q1
    have c2 := (q0.alloc (Obj.cells #[Value.int IntKind.i64 0] 27)).cell
    have c3 := q1.cell
    refine ⟨.tuple #[.slice none 0 0, .int .i64 0], by simp [results, Tryd.f64, go_sem, c2, c3], ⟨fun v h => (by rw [HP.out] at h; cases h; exact ⟨_, rfl, Holds.nil _⟩), fun h => (by rw [HP.out] at h; cases h)⟩, ?_⟩
    exact ((Below.refl _ w).alloc (Nat.le_refl _) _).alloc (by simp only [World.size_alloc]; omega) _
  · have hp := parseVL_split s.data.toList hd
    have HP := Lib.hid hp
    have hn : (s.toList == [45]) = false := by rw [ByteArray.toList_eq, beq_eq_false_iff_ne]; exact hd
    clear hp hd
    gi_wp2_with (refine ⟨trivial, ?_⟩; gi_at_call 79; refine (callsIn_wide.2 (HSEQ.out _)).mono ?_; rintro e w1 ⟨rfl, rfl⟩)
    obtain ⟨W0, hW0⟩ : ∃ W0, ((((((w.alloc (Obj.cells #[Value.slice none 0 0] 42)).alloc (Obj.cells #[Value.int IntKind.i64 0] 27)).alloc (Obj.cells #[Value.slice none 0 0] 42)).alloc (Obj.cells #[Value.string s] 9)).alloc (Obj.cells #[Value.string { data := #[32] }] 9)).alloc (Obj.cells #[Value.int IntKind.i64 0] 3)) = W0 := ⟨_, rfl⟩
    have hsz0 : W0.heap.size = w.heap.size + 6 := by rw [← hW0]; simp
    have hB0 : Below w.heap.size w W0 := by
      rw [← hW0]
      exact (((((((Below.refl _ w).alloc (Nat.le_refl _) _).alloc (by simp only [World.size_alloc]; omega) _).alloc (by simp only [World.size_alloc]; omega) _).alloc (by simp only [World.size_alloc]; omega) _).alloc (by simp only [World.size_alloc]; omega) _).alloc (by simp only [World.size_alloc]; omega) _)
    have x0 : Boxed W0 w.heap.size 42 (.slice none 0 0) := by rw [← hW0]; exact ((((((Boxed.new w _ _).alloc _).alloc _).alloc _).alloc _).alloc _)
    have x1 : Boxed W0 (w.heap.size + 1) 27 (.int .i64 0) := by
      rw [← hW0]
      have h := Boxed.new (w.alloc (Obj.cells #[Value.slice none 0 0] 42)) 27 (.int .i64 0)
      rw [World.size_alloc] at h
      exact ((((h.alloc _).alloc _).alloc _).alloc _)
    have x2 : Boxed W0 (w.heap.size + 1 + 1) 42 (.slice none 0 0) := by
      rw [← hW0]
      have h := Boxed.new ((w.alloc (Obj.cells #[Value.slice none 0 0] 42)).alloc (Obj.cells #[Value.int IntKind.i64 0] 27)) 42 (.slice none 0 0)
      rw [World.size_alloc, World.size_alloc] at h
      exact (((h.alloc _).alloc _).alloc _)
    have x3 : Boxed W0 (w.heap.size + 3) 9 (.string s) := by
      rw [← hW0]
      have h := Boxed.new (((w.alloc (Obj.cells #[Value.slice none 0 0] 42)).alloc (Obj.cells #[Value.int IntKind.i64 0] 27)).alloc (Obj.cells #[Value.slice none 0 0] 42)) 9 (.string s)
      rw [World.size_alloc, World.size_alloc, World.size_alloc] at h
      exact ((h.alloc _).alloc _)
    have x4 : Boxed W0 (w.heap.size + 3 + 1) 9 (.string ⟨#[32]⟩) := by
      rw [← hW0]
      have h := Boxed.new ((((w.alloc (Obj.cells #[Value.slice none 0 0] 42)).alloc (Obj.cells #[Value.int IntKind.i64 0] 27)).alloc (Obj.cells #[Value.slice none 0 0] 42)).alloc (Obj.cells #[Value.string s] 9)) 9 (.string ⟨#[32]⟩)
      rw [World.size_alloc, World.size_alloc, World.size_alloc, World.size_alloc] at h
      exact (h.alloc _)
    have x5 : Boxed W0 (w.heap.size + 3 + 2) 3 (.int .i64 0) := by
      rw [← hW0]
      have h := Boxed.new (((((w.alloc (Obj.cells #[Value.slice none 0 0] 42)).alloc (Obj.cells #[Value.int IntKind.i64 0] 27)).alloc (Obj.cells #[Value.slice none 0 0] 42)).alloc (Obj.cells #[Value.string s] 9)).alloc (Obj.cells #[Value.string { data := #[32] }] 9)) 3 (.int .i64 0)
      rw [World.size_alloc, World.size_alloc, World.size_alloc, World.size_alloc, World.size_alloc] at h
      exact h
    rw [hW0]
    have hlen : ∀ x ∈ splitB s, x.size ≤ 1000 := fun x hx => by
      have h1 : dataL x ∈ splitL s.data.toList := by rw [← splitB_data]; exact List.mem_map_of_mem hx
      have h2 := splitL_len h1
      simp [dataL] at h2
      have h3 : x.data.size = x.size := rfl
      have h4 : s.data.size = s.size := rfl
      omega
    have hcnt : (splitB s).length ≤ 1001 := by
      have h1 := splitL_count s.data.toList
      rw [splitB, List.length_map]
      have h4 : s.data.size = s.size := rfl
      simp at h1
      omega
    refine wpIn_rangeFunc_cell rfl (by omega) (gf := 109) rfl trivial (enters_of Tryd.func109 (by kernel_rfl) rfl) (encs := fun x : ByteArray => #[.string x]) (Kp := KpB (w.heap.size + 3)) (c := ⟨w.heap.size + 3, 0, none⟩) (by rw [hsz0]; simp) (xs0 := splitB s)
      (splitGives 2 (w.heap.size + 3) s W0 (by omega) ⟨x3, x4, x5⟩ (by omega) (by omega)) (fun h k => h.trans k) (fun W l o hl => ⟨by simp, fun k k1 k2 => World.putObj_heap_other (by omega)⟩) (fun _ => rfl)
      (fun pre W => InvP w.heap.size pre W ∧ Below w.heap.size w W) (fun j pre W => InvX w.heap.size j pre W ∧ Below w.heap.size w W)
      (OwnFrom.and (Own.from (InvP.own _) _) (ownFrom_below (Nat.le_refl _) (by omega))) (fun j => OwnFrom.and (Own.from (InvX.own _ j) _) (ownFrom_below (Nat.le_refl _) (by omega)))
      (fun s W v h => ⟨InvP.cell _ s W v h.1, below_cell w s W v h.2⟩) (fun j s W v h => ⟨InvX.cell _ j s W v h.1, below_cell w s W v h.2⟩)
      ⟨⟨[], _, _, rfl, x2, World.ownsRow_nil _ _ _ _, x0, x1, x3, x4, x5⟩, hB0⟩
      (fun x => { tmps := #[.string s, undef, .pointer (some ⟨w.heap.size, 0, none⟩), .pointer (some ⟨w.heap.size + 1, 0, none⟩), .pointer (some ⟨w.heap.size + 1 + 1, 0, none⟩), .string x, undef, undef, .string s, .bool false, .string s,
        .func (.func 109) #[] #[.pointer (some ⟨w.heap.size + 1 + 1 + 1 + 1, 0, none⟩), .pointer (some ⟨w.heap.size + 1 + 1 + 1, 0, none⟩), .pointer (some ⟨w.heap.size + 1 + 1 + 1 + 1 + 1, 0, none⟩)],
        .string x, undef, undef, undef, undef, undef, undef, undef, undef, undef, undef, undef, undef, undef, undef, undef], defers := [] }) ?assign ?body ?done ?stop
    case assign =>
      intro l x W K hK
      gi_wp2
      exact hK
    case body =>
      rintro l pre x W ⟨⟨ys, v, u, h0, b2, hrow, b3, b4, b5, b6, b7⟩, hB⟩ hpx
      have hxs := hlen x (hpx.subset (by simp))
      have hP := dotParse x W (by omega)
      have hyl : ys.length + 1 ≤ 1001 := by
        have h1 := allP_len h0
        rw [List.length_map] at h1
        have h2 := hpx.length_le
        rw [List.length_append, List.length_cons, List.length_nil] at h2
        omega
      cases hd : parseL (dataL x) with
      | none =>
        rw [parseV, show parseL x.data.toList = none from hd] at hP
        have HP2 := Lib.hid hP
        have HN := Lib.hid (show allP ((pre ++ [x]).map dataL) = none from allP_bad (by simp) hd)
        clear hP hd
        gi_wp2_with (refine ⟨trivial, ?_⟩; gi_at_call 50; refine (CallsIn.inRound l (callsIn_wide.2 HP2.out)).mono ?_; rintro e w1 ⟨rfl, hb1⟩; have k3 := (b3.kept (grown_of_below2 hb1 none) (by simp)).alloc (.cells #[.int .i64 0, .int .i64 0] 23); have k4 := (b4.kept (grown_of_below2 hb1 none) (by simp)).alloc (.cells #[.int .i64 0, .int .i64 0] 23); have c3 := k3.cell; have c4 := k4.cell; have f3 := k3.frozen; have f4 := k4.frozen)
        have hb2 := hb1.alloc hb1.size (.cells #[.int .i64 0, .int .i64 0] 23)
        have g1 := grownBy_setCell' (w1.alloc (.cells #[.int .i64 0, .int .i64 0] 23)) w.heap.size (.slice none 0 0)
        have g2 := grownBy_setCell' ((w1.alloc (.cells #[.int .i64 0, .int .i64 0] 23)).setCell ⟨w.heap.size, 0, none⟩ (.slice none 0 0)) (w.heap.size + 1) (.int .i64 6)
        exact ⟨((KeepsOthers.of_below hb2).trans ((KeepsOthers.setCell _ _ _).trans (KeepsOthers.setCell _ _ _))).from _, ⟨rfl, HN.out, (k3.set _).kept g2 (by simp), (k4.kept g1 (by simp)).set _⟩,
          ((hB.trans (hb2.mono hB.size)).setCell (p := ⟨w.heap.size, 0, none⟩) (Nat.le_refl _) _).setCell (p := ⟨w.heap.size + 1, 0, none⟩) (by simp) _⟩
      | some d =>
        obtain ⟨dr, dc⟩ := d
        rw [parseV, show parseL x.data.toList = some (dr, dc) from hd] at hP
        have HP2 := Lib.hid hP
        have HD := Lib.hid hd
        clear hP hd
        gi_wp2_with (first
          | (refine ⟨trivial, ?_⟩; gi_at_call 50; refine (CallsIn.inRound l (callsIn_wide.2 HP2.out)).mono ?_; rintro e w1 ⟨rfl, hb1⟩; have hg1 := grown_of_below2 hb1 none; have kr := (hrow.kept hg1 (by cases v.ownBlock <;> simp)).alloc (.cells #[.int .i64 dr, .int .i64 dc] 23); have k2 := (b2.kept hg1 (by simp)).alloc (.cells #[.int .i64 dr, .int .i64 dc] 23); have k3 := (b3.kept hg1 (by simp)).alloc (.cells #[.int .i64 dr, .int .i64 dc] 23); have k4 := (b4.kept hg1 (by simp)).alloc (.cells #[.int .i64 dr, .int .i64 dc] 23); have k5 := (b5.kept hg1 (by simp)).alloc (.cells #[.int .i64 dr, .int .i64 dc] 23); have k6 := (b6.kept hg1 (by simp)).alloc (.cells #[.int .i64 dr, .int .i64 dc] 23); have k7 := (b7.kept hg1 (by simp)).alloc (.cells #[.int .i64 dr, .int .i64 dc] 23); have c2 := k2.cell; have f2 := k2.frozen)
          | (gi_at_builtin; go_loud (refine wpListIn_append_own_at _ rfl _ _ 42 rfl w.heap.size 23 i0 _ 2 16 Tryd.underlying42 hi0 hz0 hz1 hz2 rfl (by decide) _ _ _ rfl (kr.alloc _) ⟨_, 0, none⟩ 1 1 [.int .i64 dr, .int .i64 dc] rfl rfl (cell_two2 _ _ _ _ _) (by simp [Value.oneCell']) (by simp [maxLen]; omega) (by omega) (by simp; have := hB.size; have := hb1.size; omega) ?_; intro v' w2 hown' hgrow hnil hat; obtain ⟨g', cap', rfl⟩ := ownsRow_succ hown'; obtain ⟨a1, a2, a3, a4, a5⟩ := InvP.step (x := x) h0 HD.out k2 kr k3 k4 k5 k6 k7 (show w2.ownsRow w.heap.size 23 2 _ (ys.length + 1) (cellsOf encD (ys ++ [(dr, dc)])) from by simpa [cellsOf, encD] using hown') hgrow; have c2' := a1.cell; have f2' := a1.frozen)))
        have hb2 := hb1.alloc hb1.size (.cells #[.int .i64 dr, .int .i64 dc] 23)
        exact ⟨((KeepsOthers.of_below hb2).trans a3).from _, (KpB.of_below (by have := b7.lt; omega) hb2).trans a4, a2, (hB.trans (hb2.mono hB.size)).trans a5⟩
    case done =>
      rintro D W hD ⟨⟨ys, v, u, h0, b2, hrow, b3, b4, b5, b6, b7⟩, hB⟩ hK
      rw [splitB_data] at h0
      have hp := HP.out
      rw [h0] at hp
      have HV := Lib.hid hp
      clear hp
      obtain ⟨A', c', e0, h1', h2', h3'⟩ := SlAt.of_own encD_len hrow
      subst e0
      have hDl : D < W.heap.size := (Array.getElem?_eq_some_iff.1 hK).1
      have c2 := b2.cell
      cases hb : validV ys with
      | false =>
        have HVA := Lib.hid (vecValid_h _ ys false W ⟨A', c', rfl, h3', h1', h2'⟩ hb)
        have HB := Lib.hid hb
        clear hb
        gi_wp2_with (refine ⟨trivial, ?_⟩; gi_at_call 26; refine (callsIn_wide.2 HVA.out).mono ?_; rintro e w1 ⟨rfl, hb1⟩; have hg1 := grown_of_below2 hb1 none; have k3 := b3.kept hg1 (by simp); have k4 := b4.kept hg1 (by simp); have c3 := k3.cell; have c4 := k4.cell; have f3 := k3.frozen; have f4 := k4.frozen)
        obtain ⟨q1, q2, q3, q4, q5⟩ := parse_fin (a := .slice none 0 0) (b := .int .i64 6) k3 k4 (hrow.kept hg1 (by cases (Value.slice A' ys.length c').ownBlock <;> simp)) (show w.heap.size ≤ D by omega) ((hb1.block D hDl).trans hK) (hB.trans (hb1.mono hB.size)) _ rfl
        refine ⟨by simp, .inl ⟨_, _, rfl, run_takeDeferred q1, ?_⟩⟩
        exact ⟨.tuple #[.slice none 0 0, .int .i64 6], by simp [results, Tryd.f64, go_sem, q2, q3], ⟨fun v h => (by rw [HV.out, HB.out] at h; cases h), fun _ => rfl⟩, q5⟩
      | true =>
        have HVA := Lib.hid (vecValid_h _ ys true W ⟨A', c', rfl, h3', h1', h2'⟩ hb)
        have HB := Lib.hid hb
        clear hb
        gi_wp2_with (refine ⟨trivial, ?_⟩; gi_at_call 26; refine (callsIn_wide.2 HVA.out).mono ?_; rintro e w1 ⟨rfl, hb1⟩; have hg1 := grown_of_below2 hb1 none; have k2 := b2.kept hg1 (by simp); have k3 := b3.kept hg1 (by simp); have k4 := b4.kept hg1 (by simp); have c2 := k2.cell; have c3 := k3.cell; have c4 := k4.cell; have f3 := k3.frozen; have f4 := k4.frozen)
        obtain ⟨q1, q2, q3, q4, q5⟩ := parse_fin (a := .slice A' ys.length c') (b := .int .i64 0) k3 k4 (hrow.kept hg1 (by cases (Value.slice A' ys.length c').ownBlock <;> simp)) (show w.heap.size ≤ D by omega) ((hb1.block D hDl).trans hK) (hB.trans (hb1.mono hB.size)) _ rfl
        obtain ⟨A2, c3', e2, h4', h5', h6'⟩ := SlAt.of_own encD_len q4
        refine ⟨by simp, .inl ⟨_, _, rfl, run_takeDeferred q1, ?_⟩⟩
        exact ⟨.tuple #[.slice A' ys.length c', .int .i64 0], by simp [results, Tryd.f64, go_sem, q2, q3], ⟨fun v h => (by rw [HV.out, HB.out] at h; cases h; exact ⟨_, rfl, A2, c3', e2, h6', h4', h5'⟩), fun h => (by rw [HV.out, HB.out] at h; cases h)⟩, q5⟩
    case stop =>
      rintro D j pre W hD hpre ⟨⟨rfl, hn2, b2, b3⟩, hB⟩ hK
      have hz : parseVL s.data.toList = none := by
        have h := allP_pre hpre hn2
        rw [splitB_data] at h
        rw [HP.out, h]
      have HZ := Lib.hid hz
      clear hz
      gi_wp2
      refine ⟨by simp, .inl ⟨_, _, rfl, run_takeDeferred hK, ?_⟩⟩
      have hg3 := grownBy_putObj' W D (.deferred none)
      have c2 := (b2.kept hg3 (by simp; omega)).cell
      have c3 := (b3.kept hg3 (by simp; omega)).cell
      exact ⟨.tuple #[.slice none 0 0, .int .i64 6], by simp [results, Tryd.f64, go_sem, c2, c3], ⟨fun v h => (by rw [HZ.out] at h; cases h), fun _ => rfl⟩, hB.grown hg3 (by have := hB.size; omega) (fun j e => by cases e; omega)⟩

end Go.Proofs.YteeigngomleijaaDoor
