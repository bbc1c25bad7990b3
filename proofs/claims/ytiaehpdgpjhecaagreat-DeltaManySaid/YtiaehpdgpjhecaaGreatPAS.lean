/- Several texts in one: CarJ, JoiN, JoiO, JoiA, CarS, JoiB, JoiC, JoiD, CarM, JoiE. -/
import Derived.Test.YtiaehpdgpjhecaaGreatPAR
import Derived.Test.YtiaehpdgpjhecaaGreatPAO
import Derived.Test.YtiaehpdgpjhecaaGreatPAL
import Derived.Test.YtiaehpdgpjhecaaGreatPAQ
import Derived.Test.YtiaehpdgpjhecaaGreatPAH
import Derived.Shelf.SlSortCmp.QuietGrown
import Derived.Test.YtiaehpdgpjhecaaGreatPAN
import Derived.Test.YtiaehpdgpjhecaaGreatPAP
import Derived.Test.YtiaehpdgpjhecaaGreatPAB
import Derived.Test.YtiaehpdgpjhecaaGreatPAC
import Derived.Test.YtiaehpdgpjhecaaGreatPAM
import Derived.Test.YtiaehpdgpjhecaaGreatPAF
import Derived.Maps.Own
import Derived.Maps.OwnOps
import Derived.Maps.OwnSet
import Derived.Maps.Views
import Derived.DeepKeys4
import Derived.OwnWalk
namespace Go.Proofs.YtiaehpdgpjhecaaGreat

section
open Go.RowKit

abbrev RowC (W : World) (B : Nat) (v : Value) (ds : List (Int × Int)) : Prop := W.ownsRow B 30 2 v ds.length (cellsOf encD ds)
theorem RowC.below {W W' : World} {B : Nat} {v : Value} {ds : List (Int × Int)} (h : RowC W B v ds) (hb : Below W.heap.size W W') : RowC W' B v ds := by
  refine World.ownsRow.kept h (grown_of_below hb none) ?_
  obtain ⟨A, c, rfl, _⟩ := SlAt.of_own encD_len h
  cases A <;> simp [Value.ownBlock]
/-- A box of a cart that was there ahead of a step. -/
theorem boxC_kept {W Wb : World} {n : Nat} {a b e : Value} (hb : Below W.heap.size W Wb) (hn : W.heap[n]? = some (.cells #[a, b, e] 28 (0, 0))) :
    Wb.heap[n]? = some (.cells #[a, b, e] 28 (0, 0)) ∧ Wb.cell? ⟨n, 0, none⟩ = some a ∧ Wb.cell? ⟨n, 1, none⟩ = some b ∧ Wb.cell? ⟨n, 2, none⟩ = some e ∧ Wb.frozen? ⟨n, 0, none⟩ = false ∧ Wb.frozen? ⟨n, 1, none⟩ = false ∧ Wb.frozen? ⟨n, 2, none⟩ = false ∧ n < Wb.heap.size := by
  have h := (hb.block n (Array.getElem?_eq_some_iff.1 hn).1).trans hn
  exact ⟨h, by simp [World.cell?, h], by simp [World.cell?, h], by simp [World.cell?, h], by simp [World.frozen?, h], by simp [World.frozen?, h], by simp [World.frozen?, h], (Array.getElem?_eq_some_iff.1 h).1⟩
theorem KR.set3 {w W : World} {c : CaV} (h : KR w c W) {g : Nat} (hg : w.heap.size + 1 < g) (u v z : Value) : KR w c (((W.setCell ⟨g, 0, none⟩ u).setCell ⟨g, 1, none⟩ v).setCell ⟨g, 2, none⟩ z) :=
  ⟨⟨(set3_other W g w.heap.size u v z (by omega)).trans h.kb.blk, ((h.kb.bel.setCell (p := ⟨g, 0, none⟩) (by simp; omega) _).setCell (p := ⟨g, 1, none⟩) (by simp; omega) _).setCell (p := ⟨g, 2, none⟩) (by simp; omega) _, h.kb.ok0⟩, (set3_other W g (w.heap.size + 1) u v z (by omega)).trans h.res⟩
theorem KR.sp {w W : World} {c : CaV} (h : KR w c W) : W.cell? ⟨w.heap.size, 0, none⟩ = some c.v ∧ W.cell? ⟨w.heap.size, 1, none⟩ = some c.l ∧ W.cell? ⟨w.heap.size, 2, none⟩ = some c.i ∧ w.heap.size < W.heap.size ∧ KR w c W := ⟨h.kb.sp.1, h.kb.sp.2.1, h.kb.sp.2.2.1, h.kb.sp.2.2.2.1, h⟩
theorem KR.size {w W : World} {c : CaV} (h : KR w c W) : w.heap.size ≤ W.heap.size := h.kb.bel.size
theorem KR.gbel {w W W' : World} {c : CaV} (_ : KR w c W) (hg : W.grownBy W' none) : Below W.heap.size W W' := (Below.refl _ _).grown hg (Nat.le_refl _) (fun _ h => by cases h)
theorem KR.grown {w W W' : World} {c : CaV} (h : KR w c W) (hg : W.grownBy W' none) : KR w c W' := h.next (h.gbel hg)
/-- The copy that is being made: its box, its rows. -/
structure KY (w : World) (c : CaV) (g : Nat) (v l iv : Value) (ys : List ItV) (W : World) : Prop where
  kr : KR w c W
  out : W.heap[g]? = some (.cells #[v, l, iv] 28 (0, 0))
  gb : w.heap.size + 1 < g
  rv : RowC W w.heap.size v c.vs
  rl : RowC W w.heap.size l c.ls
  ri : OwnI W w.heap.size iv ys

theorem boxC_filled {W : World} {n : Nat} {a b e : Value} (h : W.heap[n]? = some (.cells #[a, b, e] 28 (0, 0))) (u v z : Value) : (((W.setCell ⟨n, 0, none⟩ u).setCell ⟨n, 1, none⟩ v).setCell ⟨n, 2, none⟩ z).heap[n]? = some (.cells #[u, v, z] 28 (0, 0)) := by
  have e1 : (W.setCell ⟨n, 0, none⟩ u).heap[n]? = some (.cells #[u, b, e] 28 (0, 0)) := by
    show (W.heap.modify n _)[n]? = _
    rw [Array.getElem?_modify, if_pos rfl, h]
    rfl
  have e2 : ((W.setCell ⟨n, 0, none⟩ u).setCell ⟨n, 1, none⟩ v).heap[n]? = some (.cells #[u, v, e] 28 (0, 0)) := by
    show ((W.setCell ⟨n, 0, none⟩ u).heap.modify n _)[n]? = _
    rw [Array.getElem?_modify, if_pos rfl, e1]
    rfl
  show (((W.setCell ⟨n, 0, none⟩ u).setCell ⟨n, 1, none⟩ v).heap.modify n _)[n]? = _
  rw [Array.getElem?_modify, if_pos rfl, e2]
  rfl
theorem row_set1 {W : World} {B k m n o : Nat} {e t : TypeId} {x y : Value} {xs : List Value} {cur : Array Value} {z : Nat × Nat} (h : W.ownsRow B e k x m xs) (hg : W.heap[n]? = some (.cells cur t z)) (ht : t ≠ e) : (W.setCell ⟨n, o, none⟩ y).ownsRow B e k x m xs :=
  ownsRow_setCell_other (a := ⟨n, o, none⟩) h (row_ne h hg ht) y
theorem row_set3 {W : World} {B k m n : Nat} {e t : TypeId} {x u v y : Value} {xs : List Value} {cur : Array Value} {z : Nat × Nat} (h : W.ownsRow B e k x m xs) (hg : W.heap[n]? = some (.cells cur t z)) (ht : t ≠ e) : (((W.setCell ⟨n, 0, none⟩ u).setCell ⟨n, 1, none⟩ v).setCell ⟨n, 2, none⟩ y).ownsRow B e k x m xs :=
  have hn := row_ne h hg ht
  ownsRow_setCell_other (a := ⟨n, 2, none⟩) (ownsRow_setCell_other (a := ⟨n, 1, none⟩) (ownsRow_setCell_other (a := ⟨n, 0, none⟩) h hn u) hn v) hn y
theorem KY.new {w W : World} {c : CaV} {v l : Value} (h : KR w c W) (hv : RowC W w.heap.size v c.vs) (hl : RowC W w.heap.size l c.ls) : KY w c W.heap.size v l (.slice none 0 0) [] (W.alloc (.cells #[v, l, .slice none 0 0] 28)) :=
  have hb := (Below.refl W.heap.size W).alloc (Nat.le_refl _) (.cells #[v, l, .slice none 0 0] 28)
  ⟨h.alloc _, heap_alloc_new W _, h.lt, hv.below hb, hl.below hb, OwnI.nil _ _⟩
theorem KY.set {w W : World} {c : CaV} {v l a b e : Value} {g : Nat} (h : KR w c W) (hg : W.heap[g]? = some (.cells #[a, b, e] 28 (0, 0))) (hgg : w.heap.size + 1 < g) (hv : RowC W w.heap.size v c.vs) (hl : RowC W w.heap.size l c.ls) : KY w c g v l (.slice none 0 0) [] (((W.setCell ⟨g, 0, none⟩ v).setCell ⟨g, 1, none⟩ l).setCell ⟨g, 2, none⟩ (.slice none 0 0)) :=
  ⟨h.set3 hgg _ _ _, boxC_filled hg _ _ _, hgg, row_set3 hv hg (by decide), row_set3 hl hg (by decide), OwnI.nil _ _⟩

end

section
open Go.RowKit

/-- A mark with the name of its item. -/
abbrev Hd := List UInt8 × Mk
abbrev dotH (x : Hd) : Int × Int := dotM x.2
/-- All marks of some items. -/
def flatH (l : List It) : List Hd := l.flatMap fun x => x.2.map fun m => (x.1, m)
theorem mem_flatH {l : List It} {h : Hd} : h ∈ flatH l ↔ ∃ x ∈ l, x.1 = h.1 ∧ h.2 ∈ x.2 := by
  unfold flatH
  rw [List.mem_flatMap]
  constructor
  · rintro ⟨x, hx, h1⟩
    obtain ⟨m, hm, rfl⟩ := List.mem_map.1 h1
    exact ⟨x, hx, rfl, hm⟩
  · rintro ⟨x, hx, h1, h2⟩
    exact ⟨x, hx, List.mem_map.2 ⟨h.2, h2, Prod.ext h1 rfl⟩⟩
theorem Good.flat {l : List It} (h : Good l) {x : Hd} : x ∈ flatH l ↔ markL l x.1 (dotH x) = some x.2 := by
  rw [mem_flatH, h.mark_iff]
  exact ⟨fun ⟨y, hy, h1, h2⟩ => ⟨y, hy, h1, h2, rfl⟩, fun ⟨y, hy, h1, h2, _⟩ => ⟨y, hy, h1, h2⟩⟩

/-- The mark with a dot, as a map keeps it: the last one. -/
def lookH (l : List Hd) (d : Int × Int) : Option Hd := l.foldl (fun o h => if dotH h = d then some h else o) none
theorem lookH_snoc (l : List Hd) (h : Hd) (d : Int × Int) : lookH (l ++ [h]) d = if dotH h = d then some h else lookH l d := by simp [lookH, List.foldl_append]
theorem look_fold {d : Int × Int} : ∀ (l : List Hd) (o : Option Hd), (∀ h, o = some h → dotH h = d) → (∀ h, l.foldl (fun o h => if dotH h = d then some h else o) o = some h → (h ∈ l ∨ o = some h) ∧ dotH h = d) ∧ (l.foldl (fun o h => if dotH h = d then some h else o) o = none ↔ o = none ∧ ∀ h ∈ l, dotH h ≠ d)
  | [], o, ho => ⟨fun h e => ⟨.inr e, ho h e⟩, by simp⟩
  | x :: l, o, ho => by
    rw [List.foldl_cons]
    by_cases e : dotH x = d
    · rw [if_pos e]
      obtain ⟨h1, h2⟩ := look_fold l (some x) (fun h k => by cases k; exact e)
      refine ⟨fun h k => ?_, ?_⟩
      · obtain ⟨k1 | k1, k2⟩ := h1 h k
        · exact ⟨.inl (List.mem_cons_of_mem _ k1), k2⟩
        · cases k1; exact ⟨.inl (by simp), k2⟩
      · rw [h2]
        constructor
        · rintro ⟨h, _⟩; cases h
        · rintro ⟨_, h⟩; exact absurd e (h x (by simp))
    · rw [if_neg e]
      obtain ⟨h1, h2⟩ := look_fold l o ho
      refine ⟨fun h k => ?_, ?_⟩
      · obtain ⟨k1 | k1, k2⟩ := h1 h k
        · exact ⟨.inl (List.mem_cons_of_mem _ k1), k2⟩
        · exact ⟨.inr k1, k2⟩
      · rw [h2]
        constructor
        · rintro ⟨h, k⟩
          refine ⟨h, fun y hy => ?_⟩
          rcases List.mem_cons.1 hy with rfl | hy
          · exact e
          · exact k y hy
        · rintro ⟨h, k⟩; exact ⟨h, fun y hy => k y (List.mem_cons_of_mem _ hy)⟩
theorem lookH_some {l : List Hd} {d : Int × Int} {h : Hd} (e : lookH l d = some h) : h ∈ l ∧ dotH h = d := by
  obtain ⟨k1 | k1, k2⟩ := (look_fold l none (fun h k => by cases k)).1 h e
  · exact ⟨k1, k2⟩
  · cases k1
theorem lookH_none {l : List Hd} {d : Int × Int} : lookH l d = none ↔ ∀ h ∈ l, dotH h ≠ d := by
  have := (look_fold (d := d) l none (fun h k => by cases k)).2
  unfold lookH
  rw [this]; simp
theorem Good.oneName {l : List It} (h : Good l) {x y : Hd} (hx : x ∈ flatH l) (hy : y ∈ flatH l) (e : dotH x = dotH y) : x = y := by
  obtain ⟨i, hi, i1, i2⟩ := mem_flatH.1 hx
  obtain ⟨j, hj, j1, j2⟩ := mem_flatH.1 hy
  have hn : i.1 = j.1 := by
    by_cases hne : i.1 = j.1
    · exact hne
    · exact absurd e (meet_no.1 (h.apart hi hj hne) _ (List.mem_map.2 ⟨x.2, i2, rfl⟩) _ (List.mem_map.2 ⟨y.2, j2, rfl⟩))
  obtain rfl : i = j := h.2.1.name hi hj hn
  refine Prod.ext (by rw [← i1, ← j1]) ?_
  exact marks_inj (inc_nodup (okI_parts (h.1 i hi)).2.2.2) i2 j2 e
/-- What a map says of the mark with a dot. -/
theorem Good.look {l : List It} (h : Good l) {x : Hd} (hx : x ∈ flatH l) : lookH (flatH l) (dotH x) = some x := by
  cases e : lookH (flatH l) (dotH x) with
  | none => exact absurd rfl (lookH_none.1 e x hx)
  | some y =>
    obtain ⟨h1, h2⟩ := lookH_some e
    rw [h.oneName h1 hx h2]

/-- The name that a map says: no bytes for what is not there. -/
def nameH (o : Option Hd) : List UInt8 := match o with
  | some h => h.1
  | none => []
/-- By names and dots alone. -/
def ltS (x y : Hd) : Prop := beforeN x.1 y.1 = true ∨ (x.1 = y.1 ∧ ltD (dotH x) (dotH y) = true)
/-- Of each run of equal dots the first one. -/
def ddP (p : Hd) : List Hd → List Hd
  | [] => []
  | y :: l => if dotH p = dotH y then ddP y l else y :: ddP y l
def ddH : List Hd → List Hd
  | [] => []
  | x :: l => x :: ddP x l
theorem ddP_same : ∀ (l : List Hd) (p : Hd), (∀ j x y, (p :: l)[j]? = some x → (p :: l)[j + 1]? = some y → dotH x ≠ dotH y) → ddP p l = l
  | [], _, _ => rfl
  | y :: l, p, h => by
    rw [ddP, if_neg (h 0 p y rfl rfl), ddP_same l y fun j a b h1 h2 => h (j + 1) a b (by simpa using h1) (by simpa using h2)]
theorem ddH_same : ∀ (xs : List Hd), (∀ j x y, xs[j]? = some x → xs[j + 1]? = some y → dotH x ≠ dotH y) → ddH xs = xs
  | [], _ => rfl
  | x :: l, h => by rw [ddH, ddP_same l x h]
/-- By names. -/
def stepG (out : List It) (h : Hd) : List It := match out.getLast? with
  | some x => if x.1 = h.1 then out.dropLast ++ [(x.1, x.2 ++ [h.2])] else out ++ [(h.1, [h.2])]
  | none => [(h.1, [h.2])]
structure GrpInv (l : List Hd) (out : List It) : Prop where
  inc : IncN out
  mem : ∀ x ∈ out, x.2 = (l.filter fun h => decide (h.1 = x.1)).map (·.2) ∧ x.2 ≠ []
  all : ∀ h ∈ l, ∃ x ∈ out, x.1 = h.1
  last : out.getLast?.map (·.1) = l.getLast?.map (·.1)
theorem GrpInv.nil : GrpInv [] [] := ⟨List.Pairwise.nil, fun x hx => (by cases hx), fun h hh => (by cases hh), rfl⟩
theorem last_cases {α : Type} (l : List α) : l = [] ∨ ∃ p x, l = p ++ [x] := by
  rcases List.eq_nil_or_concat l with h | ⟨p, x, h⟩
  · exact .inl h
  · exact .inr ⟨p, x, by rw [h, List.concat_eq_append]⟩
theorem GrpInv.step {l : List Hd} {out : List It} {h : Hd} (g : GrpInv l out) (hs : (l ++ [h]).Pairwise ltS) : GrpInv (l ++ [h]) (stepG out h) := by
  have hlt : ∀ a ∈ l, ltS a h := fun a ha => (List.pairwise_append.1 hs).2.2 a ha h (by simp)
  rcases last_cases out with rfl | ⟨p, x, rfl⟩
  · have hl : l = [] := by
      cases l with
      | nil => rfl
      | cons a r => obtain ⟨x, hx, _⟩ := g.all a (by simp); cases hx
    subst hl
    show GrpInv [h] [(h.1, [h.2])]
    exact ⟨by simp [IncN], fun y hy => by obtain rfl : y = (h.1, [h.2]) := by simpa using hy
                                          simp, fun a ha => ⟨(h.1, [h.2]), by simp, by obtain rfl : a = h := by simpa using ha
                                                                                       rfl⟩, rfl⟩
  · have hlast : (stepG (p ++ [x]) h) = if x.1 = h.1 then p ++ [(x.1, x.2 ++ [h.2])] else p ++ [x] ++ [(h.1, [h.2])] := by
      unfold stepG
      rw [List.getLast?_concat, List.dropLast_concat]
    have hinc := List.pairwise_append.1 g.inc
    by_cases e : x.1 = h.1
    · rw [hlast, if_pos e]
      refine ⟨?_, fun y hy => ?_, fun a ha => ?_, ?_⟩
      · refine List.pairwise_append.2 ⟨hinc.1, by simp, fun a ha b hb => ?_⟩
        obtain rfl : b = (x.1, x.2 ++ [h.2]) := by simpa using hb
        exact hinc.2.2 a ha x (by simp)
      · rcases List.mem_append.1 hy with hy | hy
        · obtain ⟨k1, k2⟩ := g.mem y (List.mem_append_left _ hy)
          have hne : ¬ h.1 = y.1 := fun k => by
            have := hinc.2.2 y hy x (by simp)
            rw [e, k, beforeN_irrefl] at this; cases this
          refine ⟨?_, k2⟩
          rw [List.filter_append]
          simp [hne, k1]
        · obtain rfl : y = (x.1, x.2 ++ [h.2]) := by simpa using hy
          obtain ⟨k1, _⟩ := g.mem x (by simp)
          refine ⟨?_, by simp⟩
          show x.2 ++ [h.2] = _
          rw [List.filter_append, List.map_append, ← k1]
          simp [e]
      · rcases List.mem_append.1 ha with ha | ha
        · obtain ⟨y, hy, hye⟩ := g.all a ha
          rcases List.mem_append.1 hy with hy | hy
          · exact ⟨y, List.mem_append_left _ hy, hye⟩
          · obtain rfl : y = x := by simpa using hy
            exact ⟨(y.1, y.2 ++ [h.2]), by simp, hye⟩
        · obtain rfl : a = h := by simpa using ha
          exact ⟨(x.1, x.2 ++ [a.2]), by simp, e⟩
      · simp [e]
    · rw [hlast, if_neg e]
      have hb : ∀ y ∈ p ++ [x], beforeN y.1 h.1 = true := by
        have hx : beforeN x.1 h.1 = true := by
          have hl := g.last
          rw [List.getLast?_concat, Option.map_some] at hl
          rcases last_cases l with rfl | ⟨q, a, rfl⟩
          · cases hl
          · rw [List.getLast?_concat, Option.map_some] at hl
            injection hl with hl
            rcases hlt a (by simp) with k | ⟨k, _⟩
            · rw [hl]; exact k
            · exact absurd (hl.trans k) e
        intro y hy
        rcases List.mem_append.1 hy with hy | hy
        · exact beforeN_trans (hinc.2.2 y hy x (by simp)) hx
        · obtain rfl : y = x := by simpa using hy
          exact hx
      refine ⟨?_, fun y hy => ?_, fun a ha => ?_, ?_⟩
      · refine List.pairwise_append.2 ⟨g.inc, by simp, fun a ha b hb' => ?_⟩
        obtain rfl : b = (h.1, [h.2]) := by simpa using hb'
        exact hb a ha
      · rcases List.mem_append.1 hy with hy | hy
        · obtain ⟨k1, k2⟩ := g.mem y hy
          have hne : ¬ h.1 = y.1 := fun k => by
            have := hb y hy
            rw [k, beforeN_irrefl] at this; cases this
          refine ⟨?_, k2⟩
          rw [List.filter_append]
          simp [hne, k1]
        · obtain rfl : y = (h.1, [h.2]) := by simpa using hy
          refine ⟨?_, by simp⟩
          rw [List.filter_append, List.map_append, List.filter_eq_nil_iff.2]
          · simp
          · intro a ha
            obtain ⟨y, hy, hye⟩ := g.all a ha
            have := hb y hy
            simp only [decide_eq_true_eq]
            intro k
            rw [hye, k, beforeN_irrefl] at this; cases this
      · rcases List.mem_append.1 ha with ha | ha
        · obtain ⟨y, hy, hye⟩ := g.all a ha
          exact ⟨y, List.mem_append_left _ hy, hye⟩
        · obtain rfl : a = h := by simpa using ha
          exact ⟨(a.1, [a.2]), by simp, rfl⟩
      · simp
theorem GrpInv.has {l : List Hd} {out : List It} (g : GrpInv l out) {h : Hd} : (∃ x ∈ out, x.1 = h.1 ∧ h.2 ∈ x.2) ↔ h ∈ l := by
  constructor
  · rintro ⟨x, hx, h1, h2⟩
    rw [(g.mem x hx).1] at h2
    obtain ⟨y, hy, e⟩ := List.mem_map.1 h2
    obtain ⟨k1, k2⟩ := List.mem_filter.1 hy
    obtain rfl : y = h := Prod.ext ((of_decide_eq_true k2).trans h1) e
    exact k1
  · intro hl
    obtain ⟨x, hx, hxn⟩ := g.all h hl
    refine ⟨x, hx, hxn, ?_⟩
    rw [(g.mem x hx).1]
    exact List.mem_map.2 ⟨h, List.mem_filter.2 ⟨hl, by simp [hxn]⟩, rfl⟩

end

section
open Go.RowKit

section
variable {a b : Ca} (ha : validK a = true) (hb : validK b = true)
include ha hb
end

/-- How much a cart is. -/
structure SizeK (n : Nat) (c : Ca) : Prop where
  dots : c.1.1.length + c.1.2.length ≤ 80 * n
  num : c.2.length ≤ 20 * n
  cnt : cntM c.2 ≤ 200 * n
  one : ∀ x ∈ c.2, x.1.length ≤ 100 ∧ x.2.length ≤ 10 * n
theorem SizeK.mono {n m : Nat} {c : Ca} (h : SizeK n c) (hm : n ≤ m) : SizeK m c :=
  ⟨by have := h.dots; omega, by have := h.num; omega, by have := h.cnt; omega, fun x hx => ⟨(h.one x hx).1, by have := (h.one x hx).2; omega⟩⟩
theorem SizeK.zero : SizeK 0 (([], []), []) := ⟨by simp, by simp, by simp [cntM], fun x hx => by cases hx⟩
end

section
open Go.RowKit Go.Sort

/-- A mark with a name as a value: one flat row of five cells. -/
abbrev mkH (x : Hd) : Value := .agg #[.string ⟨x.1.toArray⟩, .int .i64 x.2.r, .int .i64 x.2.c, .int .i64 x.2.q, .int .u64 (x.2.t : Int)]
abbrev encH (x : Hd) : List Value := [.string ⟨x.1.toArray⟩, .int .i64 x.2.r, .int .i64 x.2.c, .int .i64 x.2.q, .int .u64 (x.2.t : Int)]
theorem encH_len (x : Hd) : (encH x).length = 5 := rfl
abbrev HeldAt (w : World) (A : Option Addr) (xs : List Hd) : Prop := SlAt encH 5 w A xs
/-- Such marks in a row of the call's own. -/
abbrev RowH (W : World) (B : Nat) (v : Value) (xs : List Hd) : Prop := W.ownsRow B 100 5 v xs.length (cellsOf encH xs)
def HoldsH (w : World) (v : Value) (xs : List Hd) : Prop := ∃ A c, v = .slice A xs.length c ∧ HeldAt w A xs ∧ xs.length ≤ c ∧ c ≤ maxLen
theorem HoldsH.below {w w' : World} {v : Value} {xs : List Hd} (h : HoldsH w v xs) (hb : Below w.heap.size w w') : HoldsH w' v xs := by
  obtain ⟨A, c, rfl, h1, h2, h3⟩ := h
  exact ⟨A, c, rfl, h1.below hb, h2, h3⟩
theorem RowH.holds {w : World} {B : Nat} {v : Value} {xs : List Hd} (h : RowH w B v xs) : HoldsH w v xs := by
  obtain ⟨A, c, rfl, h1, h2, h3⟩ := SlAt.of_own encH_len h
  exact ⟨A, c, rfl, h3, h1, h2⟩
theorem SlAt.held {w : World} {A : Option Addr} {xs : List Hd} (h : HeldAt w A xs) {j : Nat} (hj : j < xs.length) :
    ∃ b off, ∃ x : Hd, A = some ⟨b, off, none⟩ ∧ b < w.heap.size ∧ xs[j]? = some x ∧ w.cell? ⟨b, off + j * 5, none⟩ = some (.string ⟨x.1.toArray⟩) ∧ w.cell? ⟨b, off + j * 5 + 1, none⟩ = some (.int .i64 x.2.r) ∧ w.cell? ⟨b, off + j * 5 + 2, none⟩ = some (.int .i64 x.2.c) ∧ w.cell? ⟨b, off + j * 5 + 3, none⟩ = some (.int .i64 x.2.q) ∧ w.cell? ⟨b, off + j * 5 + 4, none⟩ = some (.int .u64 (x.2.t : Int)) := by
  obtain ⟨b, off, rfl, hb, hc⟩ := h (by omega)
  have hx := List.getElem?_eq_getElem hj
  exact ⟨b, off, xs[j], rfl, hb, hx, by simpa using hc j _ hx 0 _ rfl, hc j _ hx 1 _ rfl, hc j _ hx 2 _ rfl, hc j _ hx 3 _ rfl, hc j _ hx 4 _ rfl⟩
/-- A block that holds one. -/
def BlkH (W : World) (g : Nat) (x : Hd) : Prop := W.heap[g]? = some (.cells #[.string ⟨x.1.toArray⟩, .int .i64 x.2.r, .int .i64 x.2.c, .int .i64 x.2.q, .int .u64 (x.2.t : Int)] 100 (0, 0))
section
variable {W W' : World} {g : Nat} {x : Hd}
theorem BlkH.lt (h : BlkH W g x) : g < W.heap.size := (Array.getElem?_eq_some_iff.1 h).1
theorem BlkH.cell0 (h : BlkH W g x) : W.cell? ⟨g, 0, none⟩ = some (.string ⟨x.1.toArray⟩) := by simp [World.cell?, show W.heap[g]? = _ from h]
theorem BlkH.cell1 (h : BlkH W g x) : W.cell? ⟨g, 1, none⟩ = some (.int .i64 x.2.r) := by simp [World.cell?, show W.heap[g]? = _ from h]
theorem BlkH.cell2 (h : BlkH W g x) : W.cell? ⟨g, 2, none⟩ = some (.int .i64 x.2.c) := by simp [World.cell?, show W.heap[g]? = _ from h]
theorem BlkH.cell3 (h : BlkH W g x) : W.cell? ⟨g, 3, none⟩ = some (.int .i64 x.2.q) := by simp [World.cell?, show W.heap[g]? = _ from h]
theorem BlkH.cell4 (h : BlkH W g x) : W.cell? ⟨g, 4, none⟩ = some (.int .u64 (x.2.t : Int)) := by simp [World.cell?, show W.heap[g]? = _ from h]
theorem BlkH.frozen (h : BlkH W g x) (k : Nat) : W.frozen? ⟨g, k, none⟩ = false := by simp [World.frozen?, show W.heap[g]? = _ from h]
theorem BlkH.below (h : BlkH W g x) (hb : Below W.heap.size W W') : BlkH W' g x := (hb.block g h.lt).trans h
theorem BlkH.new (W : World) (x : Hd) : BlkH (W.alloc (.cells #[.string ⟨x.1.toArray⟩, .int .i64 x.2.r, .int .i64 x.2.c, .int .i64 x.2.q, .int .u64 (x.2.t : Int)] 100)) W.heap.size x := heap_alloc_new W _
end

theorem drewN_growJ (w : World) (os : Array Obj) (n : Nat) : (grow w os).drewN n = grow (w.drewN n) os := rfl
/-- Two boxes of marks with names, some draws and some blocks behind. -/
def KHo (W0 : World) (x y : Hd) (W : World) : Prop := (∃ p : GrownBy, W = grow ((((W0.alloc (.cells #[.string ⟨x.1.toArray⟩, .int .i64 x.2.r, .int .i64 x.2.c, .int .i64 x.2.q, .int .u64 (x.2.t : Int)] 100)).alloc (.cells #[.string ⟨y.1.toArray⟩, .int .i64 y.2.r, .int .i64 y.2.c, .int .i64 y.2.q, .int .u64 (y.2.t : Int)] 100)).drewN p.n)) p.os)
section
variable {W0 W : World} {x y : Hd}
theorem KHo.blk (h : KHo W0 x y W) : BlkH W W0.heap.size x ∧ BlkH W (W0.heap.size + 1) y := by
  obtain ⟨p, rfl⟩ := h
  have h1 := BlkH.new W0 x
  have h2 := BlkH.new (W0.alloc (.cells #[.string ⟨x.1.toArray⟩, .int .i64 x.2.r, .int .i64 x.2.c, .int .i64 x.2.q, .int .u64 (x.2.t : Int)] 100)) y
  rw [World.size_alloc] at h2
  have hb := below_grow ((W0.alloc (.cells #[.string ⟨x.1.toArray⟩, .int .i64 x.2.r, .int .i64 x.2.c, .int .i64 x.2.q, .int .u64 (x.2.t : Int)] 100)).alloc (.cells #[.string ⟨y.1.toArray⟩, .int .i64 y.2.r, .int .i64 y.2.c, .int .i64 y.2.q, .int .u64 (y.2.t : Int)] 100)) p.n p.os
  exact ⟨(h1.below ((Below.refl _ _).alloc (Nat.le_refl _) _)).below hb, h2.below hb⟩
theorem KHo.sp (h : KHo W0 x y W) : W.cell? ⟨W0.heap.size, 0, none⟩ = some (.string ⟨x.1.toArray⟩) ∧ W.cell? ⟨W0.heap.size, 1, none⟩ = some (.int .i64 x.2.r) ∧ W.cell? ⟨W0.heap.size, 2, none⟩ = some (.int .i64 x.2.c) ∧ W.cell? ⟨W0.heap.size, 3, none⟩ = some (.int .i64 x.2.q) ∧ W.cell? ⟨W0.heap.size, 4, none⟩ = some (.int .u64 (x.2.t : Int)) ∧
    W.cell? ⟨W0.heap.size + 1, 0, none⟩ = some (.string ⟨y.1.toArray⟩) ∧ W.cell? ⟨W0.heap.size + 1, 1, none⟩ = some (.int .i64 y.2.r) ∧ W.cell? ⟨W0.heap.size + 1, 2, none⟩ = some (.int .i64 y.2.c) ∧ W.cell? ⟨W0.heap.size + 1, 3, none⟩ = some (.int .i64 y.2.q) ∧ W.cell? ⟨W0.heap.size + 1, 4, none⟩ = some (.int .u64 (y.2.t : Int)) ∧ KHo W0 x y W :=
  ⟨h.blk.1.cell0, h.blk.1.cell1, h.blk.1.cell2, h.blk.1.cell3, h.blk.1.cell4, h.blk.2.cell0, h.blk.2.cell1, h.blk.2.cell2, h.blk.2.cell3, h.blk.2.cell4, h⟩
theorem KHo.drew (h : KHo W0 x y W) : KHo W0 x y W.drew := by
  obtain ⟨p, rfl⟩ := h
  exact ⟨⟨p.n + 1, p.os⟩, by rw [← World.drewN_drewN]; rfl⟩
theorem KHo.next (h : KHo W0 x y W) {q : Nat} {os : Array Obj} : KHo W0 x y (grow (W.drewN q) os) := by
  obtain ⟨p, rfl⟩ := h
  exact ⟨⟨p.n + q, p.os ++ os⟩, by rw [drewN_growJ, grow_grow, World.drewN_drewN]⟩
theorem KHo.alloc (h : KHo W0 x y W) (o : Obj) : KHo W0 x y (W.alloc o) := by
  have := h.next (q := 0) (os := #[o])
  rw [Sort.alloc_eq_grow]; exact this
theorem KHo.new (W0 : World) (x y : Hd) : KHo W0 x y ((W0.alloc (.cells #[.string ⟨x.1.toArray⟩, .int .i64 x.2.r, .int .i64 x.2.c, .int .i64 x.2.q, .int .u64 (x.2.t : Int)] 100)).alloc (.cells #[.string ⟨y.1.toArray⟩, .int .i64 y.2.r, .int .i64 y.2.c, .int .i64 y.2.q, .int .u64 (y.2.t : Int)] 100)) :=
  ⟨⟨0, #[]⟩, by rw [grow_empty]; rfl⟩
end

end

section
open Go.RowKit Go.Sort

instance : Inhabited Mk := ⟨Mk.zero⟩
instance : Inhabited ItV := ⟨ItV.zero⟩
end

section
open Go.RowKit Go.Sort

instance : Inhabited Hd := ⟨([], Mk.zero)⟩
end

section
open Go.RowKit

/-- No dot stands twice side by side among the first m + 1. -/
def NoTwiceH (xs : List Hd) (m : Nat) : Prop := ∀ j p q, j < m → xs[j]? = some p → xs[j + 1]? = some q → dotH p ≠ dotH q
theorem NoTwiceH.dd {xs : List Hd} {m : Nat} (h : NoTwiceH xs m) : ddH (xs.take (m + 1)) = xs.take (m + 1) := by
  refine ddH_same _ fun j p q h1 h2 => ?_
  rw [List.getElem?_take] at h1 h2
  split at h1
  · split at h2
    · exact h j p q (by omega) h1 h2
    · cases h2
  · cases h1
theorem NoTwiceH.step {xs : List Hd} {m : Nat} {p q : Hd} (h : NoTwiceH xs m) (hp : xs[m]? = some p) (hq : xs[m + 1]? = some q) (hne : dotH p ≠ dotH q) : NoTwiceH xs (m + 1) := by
  intro j p' q' hj h1 h2
  by_cases e : j = m
  · subst e; rw [hp] at h1; rw [hq] at h2; cases h1; cases h2; exact hne
  · exact h j p' q' (by omega) h1 h2
end

section
open Go.RowKit

/-- What a function value says of each mark that is allowed, wherever what lay below base is as it was. -/
def SaysH (g : Nat) (lb : Array Value) (p : Hd → Bool) (ok : Hd → Prop) (base : Nat) (w0 : World) : Prop :=
  ∀ (x : Hd) (W : World), ok x → Below base w0 W → Calls Tryz.prog g (#[mkH x] ++ lb) W fun e w' => e = .returned (.bool (p x)) ∧ Below W.heap.size W w'
end

section
open Go.RowKit Go.Maps

/-- A map of bools that reads as a set. -/
def SetIs {α : Type} (κ : α → Lit) (D : DataW Unit) (S : α → Bool) : Prop := ∀ x, D.atKey (κ x) (.lit (.bool false)) = .lit (.bool (S x))
section
variable {α : Type} [DecidableEq α] {κ : α → Lit} {D : DataW Unit} {S : α → Bool}
omit [DecidableEq α] in
theorem SetIs.start : SetIs κ (.map []) fun _ => false := fun _ => rfl
theorem SetIs.put (hD : IsMap D) (hk : ∀ x, WideAt.IsKeyLit (κ x)) (hi : ∀ x y, κ x = κ y → x = y) (h : SetIs κ D S) (x : α) : SetIs κ (D.put (κ x) (.lit (.bool true))) fun y => S y || decide (y = x) := by
  intro y
  by_cases e : y = x
  · subst e; rw [atKey_put_same hD (hk y)]; simp
  · rw [atKey_put_other (fun h' => e (hi _ _ h')), h y]; simp [e]
theorem SetIs.del (hi : ∀ x y, κ x = κ y → x = y) (h : SetIs κ D S) (x : α) : SetIs κ (D.del (κ x)) fun y => S y && !decide (y = x) := by
  intro y
  by_cases e : y = x
  · subst e; rw [atKey_del_same]; simp
  · rw [atKey_del_other (fun h' => e (hi _ _ h')), h y]; simp [e]
omit [DecidableEq α] in
theorem SetIs.congr {S' : α → Bool} (h : SetIs κ D S) (e : ∀ x, S x = S' x) : SetIs κ D S' := fun x => by rw [h x, e]
def memB (l : List α) (x : α) : Bool := decide (x ∈ l)
theorem SetIs.seen (hD : IsMap D) (hk : ∀ x, WideAt.IsKeyLit (κ x)) (hi : ∀ x y, κ x = κ y → x = y) {l : List α} {m : Nat} {x : α} (hx : l[m]? = some x) (h : SetIs κ D fun y => memB (l.take m) y) :
    SetIs κ (D.put (κ x) (.lit (.bool true))) fun y => memB (l.take (m + 1)) y :=
  (h.put hD hk hi x).congr fun y => by simp [memB, take_snoc hx]
theorem SetIs.left (hi : ∀ x y, κ x = κ y → x = y) {l : List α} {m : Nat} {x : α} (hx : l[m]? = some x) (h : SetIs κ D fun y => memB l y && !memB (l.take m) y) :
    SetIs κ (D.del (κ x)) fun y => memB l y && !memB (l.take (m + 1)) y :=
  (h.del hi x).congr fun y => by
    rw [take_snoc hx, Bool.eq_iff_iff]
    simp only [memB, Bool.and_eq_true, Bool.not_eq_true', decide_eq_true_eq, decide_eq_false_iff_not, List.mem_append, List.mem_singleton, not_or]
    exact and_assoc
end
/-- Dots as keys. -/
theorem rowDotK : (30 : TypeId) < Tryz.prog.types.size := of_decide_eq_true (by kernel_rfl)
theorem keyDotK : Tryz.prog.keyTypeAt 2 30 = true := by kernel_rfl
theorem laidOutK : laidOutB Tryz.prog = true := by kernel_rfl
theorem keyedOf {P : Program} {k : TypeId} {fs : Array Field} (h : P.underlying k = some (.struct fs)) (hl : laidOutB P = true) (hr : k < P.types.size) (hk : P.keyTypeAt 2 k = true) : Keyed P k :=
  Keyed.of_law (deep_law_laid hl (m := 2) (by decide) hr hk (by rw [h]))
theorem lawDotK : Keyed Tryz.prog 30 := keyedOf Tryz.underlying30 laidOutK rowDotK keyDotK
abbrev DKey := { d : Int × Int // validD d.1 d.2 = true }
def dKey (x : DKey) : Lit := .string (keyBytes [.int .i64 x.1.1, .int .i64 x.1.2])
theorem keyOf_two {P : Program} {k e : TypeId} {fs : Array Field} {f g : Field} (h : P.underlying k = some (.struct fs)) (hfs : fs = #[f, g]) (hf : f.type = e ∧ f.offset = 0 ∧ (f.name != "_") = true) (hg : g.type = e ∧ g.offset = 1 ∧ (g.name != "_") = true) (he : P.underlying e = some (.int .i64)) (hk : P.keyType k = true) (hc : P.cellsOf k = 2) (hi : P.cellsOf e = 1) (hn : 0 < P.types.size)
    {a b : Int} (h1 : (Lit.int .i64 a).wf = true) (h2 : (Lit.int .i64 b).wf = true) : keyOf P k (.agg #[.int .i64 a, .int .i64 b]) = some (.string (keyBytes [.int .i64 a, .int .i64 b])) := by
  obtain ⟨n, hn'⟩ : ∃ n, P.types.size = n + 1 := ⟨P.types.size - 1, by omega⟩
  subst hfs
  unfold keyOf
  simp [h, hk, Value.formed, hc, hn', Program.keyLits, hi, he, h1, h2, Value.cells, hf.1, hf.2.1, hg.1, hg.2.1, hf.2.2, hg.2.2]
theorem keyTyK : Tryz.prog.keyType 30 = true := by kernel_rfl
theorem cellsK : Tryz.prog.cellsOf 30 = 2 := by kernel_rfl
theorem cellK : Tryz.prog.cellsOf 3 = 1 := by kernel_rfl
theorem keyOf_dot (x : DKey) : keyOf Tryz.prog 30 (.agg #[.int .i64 x.1.1, .int .i64 x.1.2]) = some (dKey x) := by
  have hv := x.2
  simp only [validD, decide_eq_true_eq] at hv
  exact keyOf_two Tryz.underlying30 rfl ⟨rfl, rfl, by decide⟩ ⟨rfl, rfl, by decide⟩ Tryz.underlying3 keyTyK cellsK cellK (Nat.lt_of_le_of_lt (Nat.zero_le _) rowDotK) (WalkArith.wf_i64 (by omega)) (WalkArith.wf_i64 (by omega))

theorem dKey_is (x : DKey) : WideAt.IsKeyLit (dKey x) := trivial
theorem dKey_inj (x y : DKey) (h : dKey x = dKey y) : x = y := by
  have h1 := keyOf_dot x
  rw [h] at h1
  have e := lawDotK.inj h1 (keyOf_dot y)
  apply Subtype.ext
  have e' := congrArg Array.toList (Value.agg.inj e)
  have e1 : x.1.1 = y.1.1 := (Value.int.inj (List.cons.inj e').1).2
  have e2 : x.1.2 = y.1.2 := (Value.int.inj (List.cons.inj (List.cons.inj e').2).1).2
  exact Prod.ext e1 e2

end

section
open Go.RowKit Go.Maps

/-- How marks stand in a map: as they are. -/
def heldElem (v : Value) : Option (DataW Value × List MemPlace) := some (.held v, [])
def hZero : Hd := ([], Mk.zero)
/-- A map reads as marks by their dots. -/
def MapH (D : DataW Value) (l : List Hd) : Prop := ∀ d : DKey, D.atKey (dKey d) (.held (mkH hZero)) = .held (mkH ((lookH l d.1).getD hZero)) ∧ Maps.has D (dKey d) = (lookH l d.1).isSome
theorem MapH.start : MapH (.map []) [] := fun _ => ⟨rfl, rfl⟩
theorem MapH.step {D : DataW Value} {l : List Hd} (hD : IsMap D) (h : MapH D l) (x : Hd) (d : DKey) (hd : d.1 = dotH x) : MapH (D.put (dKey d) (.held (mkH x))) (l ++ [x]) := by
  intro e
  rw [lookH_snoc]
  by_cases k : e = d
  · subst k
    rw [atKey_put_same hD (dKey_is e), has_put_same hD (dKey_is e), if_pos hd.symm]
    exact ⟨rfl, rfl⟩
  · have hne : ¬ dotH x = e.1 := fun k2 => k (Subtype.ext (k2.symm.trans hd.symm))
    rw [atKey_put_other (fun k2 => k (dKey_inj _ _ k2)), has_put_other (fun k2 => k (dKey_inj _ _ k2)), if_neg hne]
    exact h e
/-- The map of a cart's marks. -/
abbrev OwnsH (W : World) (mb : Nat) (D : DataW Value) : Prop := W.ownsMap Tryz.prog 30 heldElem mb 30000 D

end

end Go.Proofs.YtiaehpdgpjhecaaGreat
