/- Several texts in one: CarJ, JoiN. -/
import Derived.Test.YtiaehpdgpjhecaaGreatQAU
import Derived.Test.YtiaehpdgpjhecaaGreatQAP
namespace Go.Proofs.YtiaehpdgpjhecaaGreat

section
open Go.RowKit

abbrev RowC (W : World) (B : Nat) (v : Value) (ds : List (Int × Int)) : Prop := W.ownsRow B 30 2 v ds.length (cellsOf encD ds)
theorem RowC.below {W W' : World} {B : Nat} {v : Value} {ds : List (Int × Int)} (h : RowC W B v ds) (hb : Below W.heap.size W W') : RowC W' B v ds := by
  refine World.ownsRow.kept h (grown_of_below hb none) ?_
  obtain ⟨A, c, rfl, _⟩ := SlAt.of_own encD_len h
  cases A <;> simp [Value.ownBlock]
/-- A box of a cart that was there ahead of a step. -/
theorem boxC_kept {W Wb : World} {n : Nat} {a b e : Value} (hb : Below W.heap.size W Wb) (hn : W.heap[n]? = some (.cells #[a, b, e] 28 (0, 0))) :
    Wb.heap[n]? = some (.cells #[a, b, e] 28 (0, 0)) ∧ Wb.cell? ⟨n, 0, none⟩ = some a ∧ Wb.cell? ⟨n, 1, none⟩ = some b ∧ Wb.cell? ⟨n, 2, none⟩ = some e ∧ Wb.frozen? ⟨n, 0, none⟩ = false ∧ Wb.frozen? ⟨n, 1, none⟩ = false ∧ Wb.frozen? ⟨n, 2, none⟩ = false ∧ n < Wb.heap.size := by
  have h := (hb.block n (Array.getElem?_eq_some_iff.1 hn).1).trans hn
  exact ⟨h, by simp [World.cell?, h], by simp [World.cell?, h], by simp [World.cell?, h], by simp [World.frozen?, h], by simp [World.frozen?, h], by simp [World.frozen?, h], (Array.getElem?_eq_some_iff.1 h).1⟩
theorem KR.set3 {w W : World} {c : CaV} (h : KR w c W) {g : Nat} (hg : w.heap.size + 1 < g) (u v z : Value) : KR w c (((W.setCell ⟨g, 0, none⟩ u).setCell ⟨g, 1, none⟩ v).setCell ⟨g, 2, none⟩ z) :=
  ⟨⟨(set3_other W g w.heap.size u v z (by omega)).trans h.kb.blk, ((h.kb.bel.setCell (p := ⟨g, 0, none⟩) (by simp; omega) _).setCell (p := ⟨g, 1, none⟩) (by simp; omega) _).setCell (p := ⟨g, 2, none⟩) (by simp; omega) _, h.kb.ok0⟩, (set3_other W g (w.heap.size + 1) u v z (by omega)).trans h.res⟩
theorem KR.sp {w W : World} {c : CaV} (h : KR w c W) : W.cell? ⟨w.heap.size, 0, none⟩ = some c.v ∧ W.cell? ⟨w.heap.size, 1, none⟩ = some c.l ∧ W.cell? ⟨w.heap.size, 2, none⟩ = some c.i ∧ w.heap.size < W.heap.size ∧ KR w c W := ⟨h.kb.sp.1, h.kb.sp.2.1, h.kb.sp.2.2.1, h.kb.sp.2.2.2.1, h⟩
theorem KR.size {w W : World} {c : CaV} (h : KR w c W) : w.heap.size ≤ W.heap.size := h.kb.bel.size
theorem KR.gbel {w W W' : World} {c : CaV} (_ : KR w c W) (hg : W.grownBy W' none) : Below W.heap.size W W' := (Below.refl _ _).grown hg (Nat.le_refl _) (fun _ h => by cases h)
theorem KR.grown {w W W' : World} {c : CaV} (h : KR w c W) (hg : W.grownBy W' none) : KR w c W' := h.next (h.gbel hg)
/-- The copy that is being made: its box, its rows. -/
structure KY (w : World) (c : CaV) (g : Nat) (v l iv : Value) (ys : List ItV) (W : World) : Prop where
  kr : KR w c W
  out : W.heap[g]? = some (.cells #[v, l, iv] 28 (0, 0))
  gb : w.heap.size + 1 < g
  rv : RowC W w.heap.size v c.vs
  rl : RowC W w.heap.size l c.ls
  ri : OwnI W w.heap.size iv ys

theorem boxC_filled {W : World} {n : Nat} {a b e : Value} (h : W.heap[n]? = some (.cells #[a, b, e] 28 (0, 0))) (u v z : Value) : (((W.setCell ⟨n, 0, none⟩ u).setCell ⟨n, 1, none⟩ v).setCell ⟨n, 2, none⟩ z).heap[n]? = some (.cells #[u, v, z] 28 (0, 0)) := by
  have e1 : (W.setCell ⟨n, 0, none⟩ u).heap[n]? = some (.cells #[u, b, e] 28 (0, 0)) := by
    show (W.heap.modify n _)[n]? = _
    rw [Array.getElem?_modify, if_pos rfl, h]
    rfl
  have e2 : ((W.setCell ⟨n, 0, none⟩ u).setCell ⟨n, 1, none⟩ v).heap[n]? = some (.cells #[u, v, e] 28 (0, 0)) := by
    show ((W.setCell ⟨n, 0, none⟩ u).heap.modify n _)[n]? = _
    rw [Array.getElem?_modify, if_pos rfl, e1]
    rfl
  show (((W.setCell ⟨n, 0, none⟩ u).setCell ⟨n, 1, none⟩ v).heap.modify n _)[n]? = _
  rw [Array.getElem?_modify, if_pos rfl, e2]
  rfl
theorem row_set1 {W : World} {B k m n o : Nat} {e t : TypeId} {x y : Value} {xs : List Value} {cur : Array Value} {z : Nat × Nat} (h : W.ownsRow B e k x m xs) (hg : W.heap[n]? = some (.cells cur t z)) (ht : t ≠ e) : (W.setCell ⟨n, o, none⟩ y).ownsRow B e k x m xs :=
  ownsRow_setCell_other (a := ⟨n, o, none⟩) h (row_ne h hg ht) y
theorem row_set3 {W : World} {B k m n : Nat} {e t : TypeId} {x u v y : Value} {xs : List Value} {cur : Array Value} {z : Nat × Nat} (h : W.ownsRow B e k x m xs) (hg : W.heap[n]? = some (.cells cur t z)) (ht : t ≠ e) : (((W.setCell ⟨n, 0, none⟩ u).setCell ⟨n, 1, none⟩ v).setCell ⟨n, 2, none⟩ y).ownsRow B e k x m xs :=
  have hn := row_ne h hg ht
  ownsRow_setCell_other (a := ⟨n, 2, none⟩) (ownsRow_setCell_other (a := ⟨n, 1, none⟩) (ownsRow_setCell_other (a := ⟨n, 0, none⟩) h hn u) hn v) hn y
theorem KY.new {w W : World} {c : CaV} {v l : Value} (h : KR w c W) (hv : RowC W w.heap.size v c.vs) (hl : RowC W w.heap.size l c.ls) : KY w c W.heap.size v l (.slice none 0 0) [] (W.alloc (.cells #[v, l, .slice none 0 0] 28)) :=
  have hb := (Below.refl W.heap.size W).alloc (Nat.le_refl _) (.cells #[v, l, .slice none 0 0] 28)
  ⟨h.alloc _, heap_alloc_new W _, h.lt, hv.below hb, hl.below hb, OwnI.nil _ _⟩
theorem KY.set {w W : World} {c : CaV} {v l a b e : Value} {g : Nat} (h : KR w c W) (hg : W.heap[g]? = some (.cells #[a, b, e] 28 (0, 0))) (hgg : w.heap.size + 1 < g) (hv : RowC W w.heap.size v c.vs) (hl : RowC W w.heap.size l c.ls) : KY w c g v l (.slice none 0 0) [] (((W.setCell ⟨g, 0, none⟩ v).setCell ⟨g, 1, none⟩ l).setCell ⟨g, 2, none⟩ (.slice none 0 0)) :=
  ⟨h.set3 hgg _ _ _, boxC_filled hg _ _ _, hgg, row_set3 hv hg (by decide), row_set3 hl hg (by decide), OwnI.nil _ _⟩

end

section
open Go.RowKit

/-- A mark with the name of its item. -/
abbrev Hd := List UInt8 × Mk
abbrev dotH (x : Hd) : Int × Int := dotM x.2
/-- All marks of some items. -/
def flatH (l : List It) : List Hd := l.flatMap fun x => x.2.map fun m => (x.1, m)
theorem flatH_snoc (l : List It) (x : It) : flatH (l ++ [x]) = flatH l ++ x.2.map fun m => (x.1, m) := by simp [flatH]
theorem flatH_len (l : List It) : (flatH l).length = cntM l := by
  induction l with
  | nil => rfl
  | cons x r ih =>
    unfold flatH cntM at *
    simp [ih]
theorem mem_flatH {l : List It} {h : Hd} : h ∈ flatH l ↔ ∃ x ∈ l, x.1 = h.1 ∧ h.2 ∈ x.2 := by
  unfold flatH
  rw [List.mem_flatMap]
  constructor
  · rintro ⟨x, hx, h1⟩
    obtain ⟨m, hm, rfl⟩ := List.mem_map.1 h1
    exact ⟨x, hx, rfl, hm⟩
  · rintro ⟨x, hx, h1, h2⟩
    exact ⟨x, hx, List.mem_map.2 ⟨h.2, h2, Prod.ext h1 rfl⟩⟩
theorem Good.flat {l : List It} (h : Good l) {x : Hd} : x ∈ flatH l ↔ markL l x.1 (dotH x) = some x.2 := by
  rw [mem_flatH, h.mark_iff]
  exact ⟨fun ⟨y, hy, h1, h2⟩ => ⟨y, hy, h1, h2, rfl⟩, fun ⟨y, hy, h1, h2, _⟩ => ⟨y, hy, h1, h2⟩⟩

/-- The mark with a dot, as a map keeps it: the last one. -/
def lookH (l : List Hd) (d : Int × Int) : Option Hd := l.foldl (fun o h => if dotH h = d then some h else o) none
theorem lookH_snoc (l : List Hd) (h : Hd) (d : Int × Int) : lookH (l ++ [h]) d = if dotH h = d then some h else lookH l d := by simp [lookH, List.foldl_append]
theorem look_fold {d : Int × Int} : ∀ (l : List Hd) (o : Option Hd), (∀ h, o = some h → dotH h = d) → (∀ h, l.foldl (fun o h => if dotH h = d then some h else o) o = some h → (h ∈ l ∨ o = some h) ∧ dotH h = d) ∧ (l.foldl (fun o h => if dotH h = d then some h else o) o = none ↔ o = none ∧ ∀ h ∈ l, dotH h ≠ d)
  | [], o, ho => ⟨fun h e => ⟨.inr e, ho h e⟩, by simp⟩
  | x :: l, o, ho => by
    rw [List.foldl_cons]
    by_cases e : dotH x = d
    · rw [if_pos e]
      obtain ⟨h1, h2⟩ := look_fold l (some x) (fun h k => by cases k; exact e)
      refine ⟨fun h k => ?_, ?_⟩
      · obtain ⟨k1 | k1, k2⟩ := h1 h k
        · exact ⟨.inl (List.mem_cons_of_mem _ k1), k2⟩
        · cases k1; exact ⟨.inl (by simp), k2⟩
      · rw [h2]
        constructor
        · rintro ⟨h, _⟩; cases h
        · rintro ⟨_, h⟩; exact absurd e (h x (by simp))
    · rw [if_neg e]
      obtain ⟨h1, h2⟩ := look_fold l o ho
      refine ⟨fun h k => ?_, ?_⟩
      · obtain ⟨k1 | k1, k2⟩ := h1 h k
        · exact ⟨.inl (List.mem_cons_of_mem _ k1), k2⟩
        · exact ⟨.inr k1, k2⟩
      · rw [h2]
        constructor
        · rintro ⟨h, k⟩
          refine ⟨h, fun y hy => ?_⟩
          rcases List.mem_cons.1 hy with rfl | hy
          · exact e
          · exact k y hy
        · rintro ⟨h, k⟩; exact ⟨h, fun y hy => k y (List.mem_cons_of_mem _ hy)⟩
theorem lookH_some {l : List Hd} {d : Int × Int} {h : Hd} (e : lookH l d = some h) : h ∈ l ∧ dotH h = d := by
  obtain ⟨k1 | k1, k2⟩ := (look_fold l none (fun h k => by cases k)).1 h e
  · exact ⟨k1, k2⟩
  · cases k1
theorem lookH_none {l : List Hd} {d : Int × Int} : lookH l d = none ↔ ∀ h ∈ l, dotH h ≠ d := by
  have := (look_fold (d := d) l none (fun h k => by cases k)).2
  unfold lookH
  rw [this]; simp
theorem Good.oneName {l : List It} (h : Good l) {x y : Hd} (hx : x ∈ flatH l) (hy : y ∈ flatH l) (e : dotH x = dotH y) : x = y := by
  obtain ⟨i, hi, i1, i2⟩ := mem_flatH.1 hx
  obtain ⟨j, hj, j1, j2⟩ := mem_flatH.1 hy
  have hn : i.1 = j.1 := by
    by_cases hne : i.1 = j.1
    · exact hne
    · exact absurd e (meet_no.1 (h.apart hi hj hne) _ (List.mem_map.2 ⟨x.2, i2, rfl⟩) _ (List.mem_map.2 ⟨y.2, j2, rfl⟩))
  obtain rfl : i = j := h.2.1.name hi hj hn
  refine Prod.ext (by rw [← i1, ← j1]) ?_
  exact marks_inj (inc_nodup (okI_parts (h.1 i hi)).2.2.2) i2 j2 e
/-- What a map says of the mark with a dot. -/
theorem Good.look {l : List It} (h : Good l) {x : Hd} (hx : x ∈ flatH l) : lookH (flatH l) (dotH x) = some x := by
  cases e : lookH (flatH l) (dotH x) with
  | none => exact absurd rfl (lookH_none.1 e x hx)
  | some y =>
    obtain ⟨h1, h2⟩ := lookH_some e
    rw [h.oneName h1 hx h2]

/-- The name that a map says: no bytes for what is not there. -/
def nameH (o : Option Hd) : List UInt8 := match o with
  | some h => h.1
  | none => []
/-- Which marks of a cart stay. -/
def stayB (b : Ca) (h : Hd) : Bool := !hasK b (dotH h) || decide (nameH (lookH (flatH b.2) (dotH h)) = h.1)
def stayH (a b : Ca) : List Hd := (flatH a.2).filter (stayB b)

/-- The order of marks: by names, by dots, the newest one first. -/
def ordH (x y : Hd) : Int := if Lib.compareBytes x.1 y.1 ≠ 0 then Lib.compareBytes x.1 y.1 else if cmpD x.2.r x.2.c y.2.r y.2.c ≠ 0 then cmpD x.2.r x.2.c y.2.r y.2.c else cmpN y.2 x.2
def ltH (x y : Hd) : Bool := beforeN x.1 y.1 || (decide (x.1 = y.1) && (ltD (dotH x) (dotH y) || (decide (dotH x = dotH y) && newerN x.2 y.2)))
/-- By names and dots alone. -/
def ltS (x y : Hd) : Prop := beforeN x.1 y.1 = true ∨ (x.1 = y.1 ∧ ltD (dotH x) (dotH y) = true)
theorem ltS_trans {x y z : Hd} (h1 : ltS x y) (h2 : ltS y z) : ltS x z := by
  rcases h1 with h1 | ⟨e1, h1⟩
  · rcases h2 with h2 | ⟨e2, h2⟩
    · exact .inl (beforeN_trans h1 h2)
    · exact .inl (by rw [← e2]; exact h1)
  · rcases h2 with h2 | ⟨e2, h2⟩
    · exact .inl (by rw [e1]; exact h2)
    · exact .inr ⟨e1.trans e2, ltD_trans h1 h2⟩
theorem ltS_irrefl {x y : Hd} (h : ltS x y) (e1 : x.1 = y.1) (e2 : dotH x = dotH y) : False := by
  rcases h with h | ⟨_, h⟩
  · rw [e1, beforeN_irrefl] at h; cases h
  · rw [e2, ltD_irrefl] at h; cases h
theorem ltH_no {x y : Hd} : ltH x y = false ↔ beforeN x.1 y.1 = false ∧ (x.1 = y.1 → ltD (dotH x) (dotH y) = false ∧ (dotH x = dotH y → newerN x.2 y.2 = false)) := by
  unfold ltH
  by_cases e1 : x.1 = y.1 <;> by_cases e2 : dotH x = dotH y <;> simp [e1, e2]
theorem ltH_self (x : Hd) : ltH x x = false := ltH_no.2 ⟨beforeN_irrefl _, fun _ => ⟨ltD_irrefl _, fun _ => newerN_irrefl _⟩⟩
theorem ltD_tot {x y : Int × Int} (h1 : ltD x y = false) (h2 : x ≠ y) : ltD y x = true := by
  cases h : ltD y x with
  | true => rfl
  | false =>
    exfalso; apply h2
    rw [← Bool.not_eq_true, ltD, lessD_iff] at *
    apply Prod.ext <;> omega
/-- Two that are in order, with other dots. -/
theorem ltS_of {x y : Hd} (h : ltH y x = false) (e : dotH x ≠ dotH y) : ltS x y := by
  obtain ⟨h1, h2⟩ := ltH_no.1 h
  cases hb : beforeN x.1 y.1 with
  | true => exact .inl hb
  | false =>
    have e1 : x.1 = y.1 := beforeN_total hb h1
    exact .inr ⟨e1, ltD_tot (h2 e1.symm).1 (fun k => e k.symm)⟩

/-- Of each run of equal dots the first one. -/
def ddP (p : Hd) : List Hd → List Hd
  | [] => []
  | y :: l => if dotH p = dotH y then ddP y l else y :: ddP y l
def ddH : List Hd → List Hd
  | [] => []
  | x :: l => x :: ddP x l
theorem ddP_snoc : ∀ (l : List Hd) (p y x : Hd), ddP p (l ++ [y, x]) = if dotH y = dotH x then ddP p (l ++ [y]) else ddP p (l ++ [y]) ++ [x]
  | [], p, y, x => by
    simp only [List.nil_append, ddP]
    by_cases h1 : dotH p = dotH y <;> by_cases h2 : dotH y = dotH x <;> simp [h1, h2]
  | a :: l, p, y, x => by
    have ih := ddP_snoc l a y x
    simp only [List.cons_append, ddP]
    by_cases h1 : dotH p = dotH a <;> by_cases h2 : dotH y = dotH x <;> simp [h1, h2, ih]
theorem ddH_snoc : ∀ (l : List Hd) (y x : Hd), ddH (l ++ [y, x]) = if dotH y = dotH x then ddH (l ++ [y]) else ddH (l ++ [y]) ++ [x]
  | [], y, x => by
    simp only [List.nil_append, ddH, ddP]
    by_cases h2 : dotH y = dotH x <;> simp [h2]
  | a :: l, y, x => by
    have ih := ddP_snoc l a y x
    simp only [List.cons_append, ddH]
    by_cases h2 : dotH y = dotH x <;> simp [h2, ih]
theorem ddH_step {xs : List Hd} {m : Nat} {y x : Hd} (hy : xs[m]? = some y) (hx : xs[m + 1]? = some x) : ddH (xs.take (m + 2)) = if dotH y = dotH x then ddH (xs.take (m + 1)) else ddH (xs.take (m + 1)) ++ [x] := by
  rw [take_snoc hx, take_snoc hy, List.append_assoc]
  exact ddH_snoc (xs.take m) y x
theorem ddP_same : ∀ (l : List Hd) (p : Hd), (∀ j x y, (p :: l)[j]? = some x → (p :: l)[j + 1]? = some y → dotH x ≠ dotH y) → ddP p l = l
  | [], _, _ => rfl
  | y :: l, p, h => by
    rw [ddP, if_neg (h 0 p y rfl rfl), ddP_same l y fun j a b h1 h2 => h (j + 1) a b (by simpa using h1) (by simpa using h2)]
theorem ddH_same : ∀ (xs : List Hd), (∀ j x y, xs[j]? = some x → xs[j + 1]? = some y → dotH x ≠ dotH y) → ddH xs = xs
  | [], _ => rfl
  | x :: l, h => by rw [ddH, ddP_same l x h]
theorem ddP_sub : ∀ (l : List Hd) (p : Hd), (ddP p l).Sublist l
  | [], _ => List.Sublist.refl _
  | y :: l, p => by
    rw [ddP]
    split
    · exact (ddP_sub l y).cons y
    · exact (ddP_sub l y).cons_cons y
theorem ddH_sub : ∀ (l : List Hd), (ddH l).Sublist l
  | [] => List.Sublist.refl _
  | x :: l => (ddP_sub l x).cons_cons x

/-- What is left of marks in order, each dot of which stands under one name. -/
theorem ddP_facts : ∀ (l : List Hd) (x : Hd), (x :: l).Pairwise (fun a b => ltH b a = false) → (∀ a ∈ x :: l, ∀ b ∈ x :: l, dotH a = dotH b → a.1 = b.1) →
    (∀ y ∈ ddP x l, y ∈ l ∧ dotH y ≠ dotH x ∧ ltS x y) ∧ (ddP x l).Pairwise ltS ∧ ∀ y ∈ l, dotH y ≠ dotH x → ∃ z ∈ ddP x l, dotH z = dotH y ∧ ltH y z = false
  | [], x, _, _ => ⟨fun y hy => (by cases hy), List.Pairwise.nil, fun y hy => (by cases hy)⟩
  | y :: l, x, hp, hn => by
    rw [List.pairwise_cons] at hp
    obtain ⟨hx, hp⟩ := hp
    have hy := (List.pairwise_cons.1 hp).1
    obtain ⟨f1, f2, f3⟩ := ddP_facts l y hp fun a ha b hb => hn a (List.mem_cons_of_mem _ ha) b (List.mem_cons_of_mem _ hb)
    by_cases e : dotH x = dotH y
    · rw [ddP, if_pos e]
      have en : x.1 = y.1 := hn x (by simp) y (by simp) e
      refine ⟨fun z hz => ?_, f2, fun z hz hd => ?_⟩
      · obtain ⟨k1, k2, k3⟩ := f1 z hz
        refine ⟨List.mem_cons_of_mem _ k1, by rw [e]; exact k2, ?_⟩
        rcases k3 with k3 | ⟨k3, k4⟩
        · exact .inl (by rw [en]; exact k3)
        · exact .inr ⟨en.trans k3, by rw [e]; exact k4⟩
      · rcases List.mem_cons.1 hz with rfl | hz
        · exact absurd e.symm hd
        · exact f3 z hz (by rw [← e]; exact hd)
    · rw [ddP, if_neg e]
      have hxy : ltS x y := ltS_of (hx y (by simp)) e
      refine ⟨fun z hz => ?_, List.pairwise_cons.2 ⟨fun z hz => (f1 z hz).2.2, f2⟩, fun z hz hd => ?_⟩
      · rcases List.mem_cons.1 hz with rfl | hz
        · exact ⟨by simp, fun k => e k.symm, hxy⟩
        · obtain ⟨k1, k2, k3⟩ := f1 z hz
          have hxz := ltS_trans hxy k3
          refine ⟨List.mem_cons_of_mem _ k1, fun k => ?_, hxz⟩
          exact ltS_irrefl hxz (hn x (by simp) z (by simp [k1]) k.symm) k.symm
      · rcases List.mem_cons.1 hz with rfl | hz
        · exact ⟨z, by simp, rfl, ltH_self z⟩
        · by_cases e2 : dotH z = dotH y
          · exact ⟨y, by simp, e2.symm, hy z hz⟩
          · obtain ⟨u, hu, h1, h2⟩ := f3 z hz e2
            exact ⟨u, List.mem_cons_of_mem _ hu, h1, h2⟩
theorem ddH_facts {l : List Hd} (hp : l.Pairwise fun a b => ltH b a = false) (hn : ∀ a ∈ l, ∀ b ∈ l, dotH a = dotH b → a.1 = b.1) :
    (ddH l).Pairwise ltS ∧ ∀ y ∈ l, ∃ z ∈ ddH l, dotH z = dotH y ∧ ltH y z = false := by
  cases l with
  | nil => exact ⟨List.Pairwise.nil, fun y hy => (by cases hy)⟩
  | cons x l =>
    obtain ⟨f1, f2, f3⟩ := ddP_facts l x hp hn
    refine ⟨List.pairwise_cons.2 ⟨fun z hz => (f1 z hz).2.2, f2⟩, fun y hy => ?_⟩
    rcases List.mem_cons.1 hy with rfl | hy'
    · exact ⟨y, by simp [ddH], rfl, ltH_self y⟩
    · by_cases e : dotH y = dotH x
      · exact ⟨x, by simp [ddH], e.symm, (List.pairwise_cons.1 hp).1 y hy'⟩
      · obtain ⟨u, hu, h1, h2⟩ := f3 y hy' e
        exact ⟨u, by simp [ddH, hu], h1, h2⟩

/-- By names. -/
def stepG (out : List It) (h : Hd) : List It := match out.getLast? with
  | some x => if x.1 = h.1 then out.dropLast ++ [(x.1, x.2 ++ [h.2])] else out ++ [(h.1, [h.2])]
  | none => [(h.1, [h.2])]
def groupH (l : List Hd) : List It := l.foldl stepG []
theorem groupH_snoc (l : List Hd) (h : Hd) : groupH (l ++ [h]) = stepG (groupH l) h := by simp [groupH, List.foldl_append]

structure GrpInv (l : List Hd) (out : List It) : Prop where
  inc : IncN out
  mem : ∀ x ∈ out, x.2 = (l.filter fun h => decide (h.1 = x.1)).map (·.2) ∧ x.2 ≠ []
  all : ∀ h ∈ l, ∃ x ∈ out, x.1 = h.1
  last : out.getLast?.map (·.1) = l.getLast?.map (·.1)
theorem GrpInv.nil : GrpInv [] [] := ⟨List.Pairwise.nil, fun x hx => (by cases hx), fun h hh => (by cases hh), rfl⟩
theorem last_cases {α : Type} (l : List α) : l = [] ∨ ∃ p x, l = p ++ [x] := by
  rcases List.eq_nil_or_concat l with h | ⟨p, x, h⟩
  · exact .inl h
  · exact .inr ⟨p, x, by rw [h, List.concat_eq_append]⟩
theorem GrpInv.step {l : List Hd} {out : List It} {h : Hd} (g : GrpInv l out) (hs : (l ++ [h]).Pairwise ltS) : GrpInv (l ++ [h]) (stepG out h) := by
  have hlt : ∀ a ∈ l, ltS a h := fun a ha => (List.pairwise_append.1 hs).2.2 a ha h (by simp)
  rcases last_cases out with rfl | ⟨p, x, rfl⟩
  · have hl : l = [] := by
      cases l with
      | nil => rfl
      | cons a r => obtain ⟨x, hx, _⟩ := g.all a (by simp); cases hx
    subst hl
    show GrpInv [h] [(h.1, [h.2])]
    exact ⟨by simp [IncN], fun y hy => by obtain rfl : y = (h.1, [h.2]) := by simpa using hy
                                          simp, fun a ha => ⟨(h.1, [h.2]), by simp, by obtain rfl : a = h := by simpa using ha
                                                                                       rfl⟩, rfl⟩
  · have hlast : (stepG (p ++ [x]) h) = if x.1 = h.1 then p ++ [(x.1, x.2 ++ [h.2])] else p ++ [x] ++ [(h.1, [h.2])] := by
      unfold stepG
      rw [List.getLast?_concat, List.dropLast_concat]
    have hinc := List.pairwise_append.1 g.inc
    by_cases e : x.1 = h.1
    · rw [hlast, if_pos e]
      refine ⟨?_, fun y hy => ?_, fun a ha => ?_, ?_⟩
      · refine List.pairwise_append.2 ⟨hinc.1, by simp, fun a ha b hb => ?_⟩
        obtain rfl : b = (x.1, x.2 ++ [h.2]) := by simpa using hb
        exact hinc.2.2 a ha x (by simp)
      · rcases List.mem_append.1 hy with hy | hy
        · obtain ⟨k1, k2⟩ := g.mem y (List.mem_append_left _ hy)
          have hne : ¬ h.1 = y.1 := fun k => by
            have := hinc.2.2 y hy x (by simp)
            rw [e, k, beforeN_irrefl] at this; cases this
          refine ⟨?_, k2⟩
          rw [List.filter_append]
          simp [hne, k1]
        · obtain rfl : y = (x.1, x.2 ++ [h.2]) := by simpa using hy
          obtain ⟨k1, _⟩ := g.mem x (by simp)
          refine ⟨?_, by simp⟩
          show x.2 ++ [h.2] = _
          rw [List.filter_append, List.map_append, ← k1]
          simp [e]
      · rcases List.mem_append.1 ha with ha | ha
        · obtain ⟨y, hy, hye⟩ := g.all a ha
          rcases List.mem_append.1 hy with hy | hy
          · exact ⟨y, List.mem_append_left _ hy, hye⟩
          · obtain rfl : y = x := by simpa using hy
            exact ⟨(y.1, y.2 ++ [h.2]), by simp, hye⟩
        · obtain rfl : a = h := by simpa using ha
          exact ⟨(x.1, x.2 ++ [a.2]), by simp, e⟩
      · simp [e]
    · rw [hlast, if_neg e]
      have hb : ∀ y ∈ p ++ [x], beforeN y.1 h.1 = true := by
        have hx : beforeN x.1 h.1 = true := by
          have hl := g.last
          rw [List.getLast?_concat, Option.map_some] at hl
          rcases last_cases l with rfl | ⟨q, a, rfl⟩
          · cases hl
          · rw [List.getLast?_concat, Option.map_some] at hl
            injection hl with hl
            rcases hlt a (by simp) with k | ⟨k, _⟩
            · rw [hl]; exact k
            · exact absurd (hl.trans k) e
        intro y hy
        rcases List.mem_append.1 hy with hy | hy
        · exact beforeN_trans (hinc.2.2 y hy x (by simp)) hx
        · obtain rfl : y = x := by simpa using hy
          exact hx
      refine ⟨?_, fun y hy => ?_, fun a ha => ?_, ?_⟩
      · refine List.pairwise_append.2 ⟨g.inc, by simp, fun a ha b hb' => ?_⟩
        obtain rfl : b = (h.1, [h.2]) := by simpa using hb'
        exact hb a ha
      · rcases List.mem_append.1 hy with hy | hy
        · obtain ⟨k1, k2⟩ := g.mem y hy
          have hne : ¬ h.1 = y.1 := fun k => by
            have := hb y hy
            rw [k, beforeN_irrefl] at this; cases this
          refine ⟨?_, k2⟩
          rw [List.filter_append]
          simp [hne, k1]
        · obtain rfl : y = (h.1, [h.2]) := by simpa using hy
          refine ⟨?_, by simp⟩
          rw [List.filter_append, List.map_append, List.filter_eq_nil_iff.2]
          · simp
          · intro a ha
            obtain ⟨y, hy, hye⟩ := g.all a ha
            have := hb y hy
            simp only [decide_eq_true_eq]
            intro k
            rw [hye, k, beforeN_irrefl] at this; cases this
      · rcases List.mem_append.1 ha with ha | ha
        · obtain ⟨y, hy, hye⟩ := g.all a ha
          exact ⟨y, List.mem_append_left _ hy, hye⟩
        · obtain rfl : a = h := by simpa using ha
          exact ⟨(a.1, [a.2]), by simp, rfl⟩
      · simp
theorem grp_fold : ∀ (k l : List Hd) (out : List It), GrpInv l out → (l ++ k).Pairwise ltS → GrpInv (l ++ k) (k.foldl stepG out)
  | [], l, out, g, _ => by rw [List.append_nil]; exact g
  | h :: k, l, out, g, hs => by
    have e : l ++ h :: k = (l ++ [h]) ++ k := by simp
    rw [e] at hs ⊢
    exact grp_fold k (l ++ [h]) (stepG out h) (g.step (List.pairwise_append.1 hs).1) hs
theorem grpInv {l : List Hd} (hs : l.Pairwise ltS) : GrpInv l (groupH l) := grp_fold l [] [] GrpInv.nil hs
theorem GrpInv.has {l : List Hd} {out : List It} (g : GrpInv l out) {h : Hd} : (∃ x ∈ out, x.1 = h.1 ∧ h.2 ∈ x.2) ↔ h ∈ l := by
  constructor
  · rintro ⟨x, hx, h1, h2⟩
    rw [(g.mem x hx).1] at h2
    obtain ⟨y, hy, e⟩ := List.mem_map.1 h2
    obtain ⟨k1, k2⟩ := List.mem_filter.1 hy
    obtain rfl : y = h := Prod.ext ((of_decide_eq_true k2).trans h1) e
    exact k1
  · intro hl
    obtain ⟨x, hx, hxn⟩ := g.all h hl
    refine ⟨x, hx, hxn, ?_⟩
    rw [(g.mem x hx).1]
    exact List.mem_map.2 ⟨h, List.mem_filter.2 ⟨hl, by simp [hxn]⟩, rfl⟩

end

end Go.Proofs.YtiaehpdgpjhecaaGreat
