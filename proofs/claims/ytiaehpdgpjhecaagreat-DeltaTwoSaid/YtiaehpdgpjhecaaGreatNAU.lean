/- Several texts in one: JoiN, JoiO. -/
import Derived.Test.YtiaehpdgpjhecaaGreatNAO
import Derived.Test.YtiaehpdgpjhecaaGreatNAL
namespace Go.Proofs.YtiaehpdgpjhecaaGreat

section
open Go.RowKit

/-- A mark with the name of its item. -/
abbrev Hd := List UInt8 × Mk
abbrev dotH (x : Hd) : Int × Int := dotM x.2
/-- All marks of some items. -/
def flatH (l : List It) : List Hd := l.flatMap fun x => x.2.map fun m => (x.1, m)
theorem flatH_snoc (l : List It) (x : It) : flatH (l ++ [x]) = flatH l ++ x.2.map fun m => (x.1, m) := by simp [flatH]
theorem flatH_len (l : List It) : (flatH l).length = cntM l := by
  induction l with
  | nil => rfl
  | cons x r ih =>
    unfold flatH cntM at *
    simp [ih]
theorem mem_flatH {l : List It} {h : Hd} : h ∈ flatH l ↔ ∃ x ∈ l, x.1 = h.1 ∧ h.2 ∈ x.2 := by
  unfold flatH
  rw [List.mem_flatMap]
  constructor
  · rintro ⟨x, hx, h1⟩
    obtain ⟨m, hm, rfl⟩ := List.mem_map.1 h1
    exact ⟨x, hx, rfl, hm⟩
  · rintro ⟨x, hx, h1, h2⟩
    exact ⟨x, hx, List.mem_map.2 ⟨h.2, h2, Prod.ext h1 rfl⟩⟩
theorem Good.flat {l : List It} (h : Good l) {x : Hd} : x ∈ flatH l ↔ markL l x.1 (dotH x) = some x.2 := by
  rw [mem_flatH, h.mark_iff]
  exact ⟨fun ⟨y, hy, h1, h2⟩ => ⟨y, hy, h1, h2, rfl⟩, fun ⟨y, hy, h1, h2, _⟩ => ⟨y, hy, h1, h2⟩⟩

/-- The mark with a dot, as a map keeps it: the last one. -/
def lookH (l : List Hd) (d : Int × Int) : Option Hd := l.foldl (fun o h => if dotH h = d then some h else o) none
theorem lookH_snoc (l : List Hd) (h : Hd) (d : Int × Int) : lookH (l ++ [h]) d = if dotH h = d then some h else lookH l d := by simp [lookH, List.foldl_append]
theorem look_fold {d : Int × Int} : ∀ (l : List Hd) (o : Option Hd), (∀ h, o = some h → dotH h = d) → (∀ h, l.foldl (fun o h => if dotH h = d then some h else o) o = some h → (h ∈ l ∨ o = some h) ∧ dotH h = d) ∧ (l.foldl (fun o h => if dotH h = d then some h else o) o = none ↔ o = none ∧ ∀ h ∈ l, dotH h ≠ d)
  | [], o, ho => ⟨fun h e => ⟨.inr e, ho h e⟩, by simp⟩
  | x :: l, o, ho => by
    rw [List.foldl_cons]
    by_cases e : dotH x = d
    · rw [if_pos e]
      obtain ⟨h1, h2⟩ := look_fold l (some x) (fun h k => by cases k; exact e)
      refine ⟨fun h k => ?_, ?_⟩
      · obtain ⟨k1 | k1, k2⟩ := h1 h k
        · exact ⟨.inl (List.mem_cons_of_mem _ k1), k2⟩
        · cases k1; exact ⟨.inl (by simp), k2⟩
      · rw [h2]
        constructor
        · rintro ⟨h, _⟩; cases h
        · rintro ⟨_, h⟩; exact absurd e (h x (by simp))
    · rw [if_neg e]
      obtain ⟨h1, h2⟩ := look_fold l o ho
      refine ⟨fun h k => ?_, ?_⟩
      · obtain ⟨k1 | k1, k2⟩ := h1 h k
        · exact ⟨.inl (List.mem_cons_of_mem _ k1), k2⟩
        · exact ⟨.inr k1, k2⟩
      · rw [h2]
        constructor
        · rintro ⟨h, k⟩
          refine ⟨h, fun y hy => ?_⟩
          rcases List.mem_cons.1 hy with rfl | hy
          · exact e
          · exact k y hy
        · rintro ⟨h, k⟩; exact ⟨h, fun y hy => k y (List.mem_cons_of_mem _ hy)⟩
theorem lookH_some {l : List Hd} {d : Int × Int} {h : Hd} (e : lookH l d = some h) : h ∈ l ∧ dotH h = d := by
  obtain ⟨k1 | k1, k2⟩ := (look_fold l none (fun h k => by cases k)).1 h e
  · exact ⟨k1, k2⟩
  · cases k1
theorem lookH_none {l : List Hd} {d : Int × Int} : lookH l d = none ↔ ∀ h ∈ l, dotH h ≠ d := by
  have := (look_fold (d := d) l none (fun h k => by cases k)).2
  unfold lookH
  rw [this]; simp
theorem Good.oneName {l : List It} (h : Good l) {x y : Hd} (hx : x ∈ flatH l) (hy : y ∈ flatH l) (e : dotH x = dotH y) : x = y := by
  obtain ⟨i, hi, i1, i2⟩ := mem_flatH.1 hx
  obtain ⟨j, hj, j1, j2⟩ := mem_flatH.1 hy
  have hn : i.1 = j.1 := by
    by_cases hne : i.1 = j.1
    · exact hne
    · exact absurd e (meet_no.1 (h.apart hi hj hne) _ (List.mem_map.2 ⟨x.2, i2, rfl⟩) _ (List.mem_map.2 ⟨y.2, j2, rfl⟩))
  obtain rfl : i = j := h.2.1.name hi hj hn
  refine Prod.ext (by rw [← i1, ← j1]) ?_
  exact marks_inj (inc_nodup (okI_parts (h.1 i hi)).2.2.2) i2 j2 e
/-- What a map says of the mark with a dot. -/
theorem Good.look {l : List It} (h : Good l) {x : Hd} (hx : x ∈ flatH l) : lookH (flatH l) (dotH x) = some x := by
  cases e : lookH (flatH l) (dotH x) with
  | none => exact absurd rfl (lookH_none.1 e x hx)
  | some y =>
    obtain ⟨h1, h2⟩ := lookH_some e
    rw [h.oneName h1 hx h2]

/-- The name that a map says: no bytes for what is not there. -/
def nameH (o : Option Hd) : List UInt8 := match o with
  | some h => h.1
  | none => []
/-- Which marks of a cart stay. -/
def stayB (b : Ca) (h : Hd) : Bool := !hasK b (dotH h) || decide (nameH (lookH (flatH b.2) (dotH h)) = h.1)
def stayH (a b : Ca) : List Hd := (flatH a.2).filter (stayB b)

/-- The order of marks: by names, by dots, the newest one first. -/
def ordH (x y : Hd) : Int := if Lib.compareBytes x.1 y.1 ≠ 0 then Lib.compareBytes x.1 y.1 else if cmpD x.2.r x.2.c y.2.r y.2.c ≠ 0 then cmpD x.2.r x.2.c y.2.r y.2.c else cmpN y.2 x.2
def ltH (x y : Hd) : Bool := beforeN x.1 y.1 || (decide (x.1 = y.1) && (ltD (dotH x) (dotH y) || (decide (dotH x = dotH y) && newerN x.2 y.2)))
/-- By names and dots alone. -/
def ltS (x y : Hd) : Prop := beforeN x.1 y.1 = true ∨ (x.1 = y.1 ∧ ltD (dotH x) (dotH y) = true)
theorem ltS_trans {x y z : Hd} (h1 : ltS x y) (h2 : ltS y z) : ltS x z := by
  rcases h1 with h1 | ⟨e1, h1⟩
  · rcases h2 with h2 | ⟨e2, h2⟩
    · exact .inl (beforeN_trans h1 h2)
    · exact .inl (by rw [← e2]; exact h1)
  · rcases h2 with h2 | ⟨e2, h2⟩
    · exact .inl (by rw [e1]; exact h2)
    · exact .inr ⟨e1.trans e2, ltD_trans h1 h2⟩
theorem ltS_irrefl {x y : Hd} (h : ltS x y) (e1 : x.1 = y.1) (e2 : dotH x = dotH y) : False := by
  rcases h with h | ⟨_, h⟩
  · rw [e1, beforeN_irrefl] at h; cases h
  · rw [e2, ltD_irrefl] at h; cases h
theorem ltH_no {x y : Hd} : ltH x y = false ↔ beforeN x.1 y.1 = false ∧ (x.1 = y.1 → ltD (dotH x) (dotH y) = false ∧ (dotH x = dotH y → newerN x.2 y.2 = false)) := by
  unfold ltH
  by_cases e1 : x.1 = y.1 <;> by_cases e2 : dotH x = dotH y <;> simp [e1, e2]
theorem ltH_self (x : Hd) : ltH x x = false := ltH_no.2 ⟨beforeN_irrefl _, fun _ => ⟨ltD_irrefl _, fun _ => newerN_irrefl _⟩⟩
theorem ltD_tot {x y : Int × Int} (h1 : ltD x y = false) (h2 : x ≠ y) : ltD y x = true := by
  cases h : ltD y x with
  | true => rfl
  | false =>
    exfalso; apply h2
    rw [← Bool.not_eq_true, ltD, lessD_iff] at *
    apply Prod.ext <;> omega
/-- Two that are in order, with other dots. -/
theorem ltS_of {x y : Hd} (h : ltH y x = false) (e : dotH x ≠ dotH y) : ltS x y := by
  obtain ⟨h1, h2⟩ := ltH_no.1 h
  cases hb : beforeN x.1 y.1 with
  | true => exact .inl hb
  | false =>
    have e1 : x.1 = y.1 := beforeN_total hb h1
    exact .inr ⟨e1, ltD_tot (h2 e1.symm).1 (fun k => e k.symm)⟩

/-- Of each run of equal dots the first one. -/
def ddP (p : Hd) : List Hd → List Hd
  | [] => []
  | y :: l => if dotH p = dotH y then ddP y l else y :: ddP y l
def ddH : List Hd → List Hd
  | [] => []
  | x :: l => x :: ddP x l
theorem ddP_snoc : ∀ (l : List Hd) (p y x : Hd), ddP p (l ++ [y, x]) = if dotH y = dotH x then ddP p (l ++ [y]) else ddP p (l ++ [y]) ++ [x]
  | [], p, y, x => by
    simp only [List.nil_append, ddP]
    by_cases h1 : dotH p = dotH y <;> by_cases h2 : dotH y = dotH x <;> simp [h1, h2]
  | a :: l, p, y, x => by
    have ih := ddP_snoc l a y x
    simp only [List.cons_append, ddP]
    by_cases h1 : dotH p = dotH a <;> by_cases h2 : dotH y = dotH x <;> simp [h1, h2, ih]
theorem ddH_snoc : ∀ (l : List Hd) (y x : Hd), ddH (l ++ [y, x]) = if dotH y = dotH x then ddH (l ++ [y]) else ddH (l ++ [y]) ++ [x]
  | [], y, x => by
    simp only [List.nil_append, ddH, ddP]
    by_cases h2 : dotH y = dotH x <;> simp [h2]
  | a :: l, y, x => by
    have ih := ddP_snoc l a y x
    simp only [List.cons_append, ddH]
    by_cases h2 : dotH y = dotH x <;> simp [h2, ih]
theorem ddH_step {xs : List Hd} {m : Nat} {y x : Hd} (hy : xs[m]? = some y) (hx : xs[m + 1]? = some x) : ddH (xs.take (m + 2)) = if dotH y = dotH x then ddH (xs.take (m + 1)) else ddH (xs.take (m + 1)) ++ [x] := by
  rw [take_snoc hx, take_snoc hy, List.append_assoc]
  exact ddH_snoc (xs.take m) y x
theorem ddP_same : ∀ (l : List Hd) (p : Hd), (∀ j x y, (p :: l)[j]? = some x → (p :: l)[j + 1]? = some y → dotH x ≠ dotH y) → ddP p l = l
  | [], _, _ => rfl
  | y :: l, p, h => by
    rw [ddP, if_neg (h 0 p y rfl rfl), ddP_same l y fun j a b h1 h2 => h (j + 1) a b (by simpa using h1) (by simpa using h2)]
theorem ddH_same : ∀ (xs : List Hd), (∀ j x y, xs[j]? = some x → xs[j + 1]? = some y → dotH x ≠ dotH y) → ddH xs = xs
  | [], _ => rfl
  | x :: l, h => by rw [ddH, ddP_same l x h]
theorem ddP_sub : ∀ (l : List Hd) (p : Hd), (ddP p l).Sublist l
  | [], _ => List.Sublist.refl _
  | y :: l, p => by
    rw [ddP]
    split
    · exact (ddP_sub l y).cons y
    · exact (ddP_sub l y).cons_cons y
theorem ddH_sub : ∀ (l : List Hd), (ddH l).Sublist l
  | [] => List.Sublist.refl _
  | x :: l => (ddP_sub l x).cons_cons x

/-- What is left of marks in order, each dot of which stands under one name. -/
theorem ddP_facts : ∀ (l : List Hd) (x : Hd), (x :: l).Pairwise (fun a b => ltH b a = false) → (∀ a ∈ x :: l, ∀ b ∈ x :: l, dotH a = dotH b → a.1 = b.1) →
    (∀ y ∈ ddP x l, y ∈ l ∧ dotH y ≠ dotH x ∧ ltS x y) ∧ (ddP x l).Pairwise ltS ∧ ∀ y ∈ l, dotH y ≠ dotH x → ∃ z ∈ ddP x l, dotH z = dotH y ∧ ltH y z = false
  | [], x, _, _ => ⟨fun y hy => (by cases hy), List.Pairwise.nil, fun y hy => (by cases hy)⟩
  | y :: l, x, hp, hn => by
    rw [List.pairwise_cons] at hp
    obtain ⟨hx, hp⟩ := hp
    have hy := (List.pairwise_cons.1 hp).1
    obtain ⟨f1, f2, f3⟩ := ddP_facts l y hp fun a ha b hb => hn a (List.mem_cons_of_mem _ ha) b (List.mem_cons_of_mem _ hb)
    by_cases e : dotH x = dotH y
    · rw [ddP, if_pos e]
      have en : x.1 = y.1 := hn x (by simp) y (by simp) e
      refine ⟨fun z hz => ?_, f2, fun z hz hd => ?_⟩
      · obtain ⟨k1, k2, k3⟩ := f1 z hz
        refine ⟨List.mem_cons_of_mem _ k1, by rw [e]; exact k2, ?_⟩
        rcases k3 with k3 | ⟨k3, k4⟩
        · exact .inl (by rw [en]; exact k3)
        · exact .inr ⟨en.trans k3, by rw [e]; exact k4⟩
      · rcases List.mem_cons.1 hz with rfl | hz
        · exact absurd e.symm hd
        · exact f3 z hz (by rw [← e]; exact hd)
    · rw [ddP, if_neg e]
      have hxy : ltS x y := ltS_of (hx y (by simp)) e
      refine ⟨fun z hz => ?_, List.pairwise_cons.2 ⟨fun z hz => (f1 z hz).2.2, f2⟩, fun z hz hd => ?_⟩
      · rcases List.mem_cons.1 hz with rfl | hz
        · exact ⟨by simp, fun k => e k.symm, hxy⟩
        · obtain ⟨k1, k2, k3⟩ := f1 z hz
          have hxz := ltS_trans hxy k3
          refine ⟨List.mem_cons_of_mem _ k1, fun k => ?_, hxz⟩
          exact ltS_irrefl hxz (hn x (by simp) z (by simp [k1]) k.symm) k.symm
      · rcases List.mem_cons.1 hz with rfl | hz
        · exact ⟨z, by simp, rfl, ltH_self z⟩
        · by_cases e2 : dotH z = dotH y
          · exact ⟨y, by simp, e2.symm, hy z hz⟩
          · obtain ⟨u, hu, h1, h2⟩ := f3 z hz e2
            exact ⟨u, List.mem_cons_of_mem _ hu, h1, h2⟩
theorem ddH_facts {l : List Hd} (hp : l.Pairwise fun a b => ltH b a = false) (hn : ∀ a ∈ l, ∀ b ∈ l, dotH a = dotH b → a.1 = b.1) :
    (ddH l).Pairwise ltS ∧ ∀ y ∈ l, ∃ z ∈ ddH l, dotH z = dotH y ∧ ltH y z = false := by
  cases l with
  | nil => exact ⟨List.Pairwise.nil, fun y hy => (by cases hy)⟩
  | cons x l =>
    obtain ⟨f1, f2, f3⟩ := ddP_facts l x hp hn
    refine ⟨List.pairwise_cons.2 ⟨fun z hz => (f1 z hz).2.2, f2⟩, fun y hy => ?_⟩
    rcases List.mem_cons.1 hy with rfl | hy'
    · exact ⟨y, by simp [ddH], rfl, ltH_self y⟩
    · by_cases e : dotH y = dotH x
      · exact ⟨x, by simp [ddH], e.symm, (List.pairwise_cons.1 hp).1 y hy'⟩
      · obtain ⟨u, hu, h1, h2⟩ := f3 y hy' e
        exact ⟨u, by simp [ddH, hu], h1, h2⟩

/-- By names. -/
def stepG (out : List It) (h : Hd) : List It := match out.getLast? with
  | some x => if x.1 = h.1 then out.dropLast ++ [(x.1, x.2 ++ [h.2])] else out ++ [(h.1, [h.2])]
  | none => [(h.1, [h.2])]
def groupH (l : List Hd) : List It := l.foldl stepG []
theorem groupH_snoc (l : List Hd) (h : Hd) : groupH (l ++ [h]) = stepG (groupH l) h := by simp [groupH, List.foldl_append]

structure GrpInv (l : List Hd) (out : List It) : Prop where
  inc : IncN out
  mem : ∀ x ∈ out, x.2 = (l.filter fun h => decide (h.1 = x.1)).map (·.2) ∧ x.2 ≠ []
  all : ∀ h ∈ l, ∃ x ∈ out, x.1 = h.1
  last : out.getLast?.map (·.1) = l.getLast?.map (·.1)
theorem GrpInv.nil : GrpInv [] [] := ⟨List.Pairwise.nil, fun x hx => (by cases hx), fun h hh => (by cases hh), rfl⟩
theorem last_cases {α : Type} (l : List α) : l = [] ∨ ∃ p x, l = p ++ [x] := by
  rcases List.eq_nil_or_concat l with h | ⟨p, x, h⟩
  · exact .inl h
  · exact .inr ⟨p, x, by rw [h, List.concat_eq_append]⟩
theorem GrpInv.step {l : List Hd} {out : List It} {h : Hd} (g : GrpInv l out) (hs : (l ++ [h]).Pairwise ltS) : GrpInv (l ++ [h]) (stepG out h) := by
  have hlt : ∀ a ∈ l, ltS a h := fun a ha => (List.pairwise_append.1 hs).2.2 a ha h (by simp)
  rcases last_cases out with rfl | ⟨p, x, rfl⟩
  · have hl : l = [] := by
      cases l with
      | nil => rfl
      | cons a r => obtain ⟨x, hx, _⟩ := g.all a (by simp); cases hx
    subst hl
    show GrpInv [h] [(h.1, [h.2])]
    exact ⟨by simp [IncN], fun y hy => by obtain rfl : y = (h.1, [h.2]) := by simpa using hy
                                          simp, fun a ha => ⟨(h.1, [h.2]), by simp, by obtain rfl : a = h := by simpa using ha
                                                                                       rfl⟩, rfl⟩
  · have hlast : (stepG (p ++ [x]) h) = if x.1 = h.1 then p ++ [(x.1, x.2 ++ [h.2])] else p ++ [x] ++ [(h.1, [h.2])] := by
      unfold stepG
      rw [List.getLast?_concat, List.dropLast_concat]
    have hinc := List.pairwise_append.1 g.inc
    by_cases e : x.1 = h.1
    · rw [hlast, if_pos e]
      refine ⟨?_, fun y hy => ?_, fun a ha => ?_, ?_⟩
      · refine List.pairwise_append.2 ⟨hinc.1, by simp, fun a ha b hb => ?_⟩
        obtain rfl : b = (x.1, x.2 ++ [h.2]) := by simpa using hb
        exact hinc.2.2 a ha x (by simp)
      · rcases List.mem_append.1 hy with hy | hy
        · obtain ⟨k1, k2⟩ := g.mem y (List.mem_append_left _ hy)
          have hne : ¬ h.1 = y.1 := fun k => by
            have := hinc.2.2 y hy x (by simp)
            rw [e, k, beforeN_irrefl] at this; cases this
          refine ⟨?_, k2⟩
          rw [List.filter_append]
          simp [hne, k1]
        · obtain rfl : y = (x.1, x.2 ++ [h.2]) := by simpa using hy
          obtain ⟨k1, _⟩ := g.mem x (by simp)
          refine ⟨?_, by simp⟩
          show x.2 ++ [h.2] = _
          rw [List.filter_append, List.map_append, ← k1]
          simp [e]
      · rcases List.mem_append.1 ha with ha | ha
        · obtain ⟨y, hy, hye⟩ := g.all a ha
          rcases List.mem_append.1 hy with hy | hy
          · exact ⟨y, List.mem_append_left _ hy, hye⟩
          · obtain rfl : y = x := by simpa using hy
            exact ⟨(y.1, y.2 ++ [h.2]), by simp, hye⟩
        · obtain rfl : a = h := by simpa using ha
          exact ⟨(x.1, x.2 ++ [a.2]), by simp, e⟩
      · simp [e]
    · rw [hlast, if_neg e]
      have hb : ∀ y ∈ p ++ [x], beforeN y.1 h.1 = true := by
        have hx : beforeN x.1 h.1 = true := by
          have hl := g.last
          rw [List.getLast?_concat, Option.map_some] at hl
          rcases last_cases l with rfl | ⟨q, a, rfl⟩
          · cases hl
          · rw [List.getLast?_concat, Option.map_some] at hl
            injection hl with hl
            rcases hlt a (by simp) with k | ⟨k, _⟩
            · rw [hl]; exact k
            · exact absurd (hl.trans k) e
        intro y hy
        rcases List.mem_append.1 hy with hy | hy
        · exact beforeN_trans (hinc.2.2 y hy x (by simp)) hx
        · obtain rfl : y = x := by simpa using hy
          exact hx
      refine ⟨?_, fun y hy => ?_, fun a ha => ?_, ?_⟩
      · refine List.pairwise_append.2 ⟨g.inc, by simp, fun a ha b hb' => ?_⟩
        obtain rfl : b = (h.1, [h.2]) := by simpa using hb'
        exact hb a ha
      · rcases List.mem_append.1 hy with hy | hy
        · obtain ⟨k1, k2⟩ := g.mem y hy
          have hne : ¬ h.1 = y.1 := fun k => by
            have := hb y hy
            rw [k, beforeN_irrefl] at this; cases this
          refine ⟨?_, k2⟩
          rw [List.filter_append]
          simp [hne, k1]
        · obtain rfl : y = (h.1, [h.2]) := by simpa using hy
          refine ⟨?_, by simp⟩
          rw [List.filter_append, List.map_append, List.filter_eq_nil_iff.2]
          · simp
          · intro a ha
            obtain ⟨y, hy, hye⟩ := g.all a ha
            have := hb y hy
            simp only [decide_eq_true_eq]
            intro k
            rw [hye, k, beforeN_irrefl] at this; cases this
      · rcases List.mem_append.1 ha with ha | ha
        · obtain ⟨y, hy, hye⟩ := g.all a ha
          exact ⟨y, List.mem_append_left _ hy, hye⟩
        · obtain rfl : a = h := by simpa using ha
          exact ⟨(a.1, [a.2]), by simp, rfl⟩
      · simp
theorem grp_fold : ∀ (k l : List Hd) (out : List It), GrpInv l out → (l ++ k).Pairwise ltS → GrpInv (l ++ k) (k.foldl stepG out)
  | [], l, out, g, _ => by rw [List.append_nil]; exact g
  | h :: k, l, out, g, hs => by
    have e : l ++ h :: k = (l ++ [h]) ++ k := by simp
    rw [e] at hs ⊢
    exact grp_fold k (l ++ [h]) (stepG out h) (g.step (List.pairwise_append.1 hs).1) hs
theorem grpInv {l : List Hd} (hs : l.Pairwise ltS) : GrpInv l (groupH l) := grp_fold l [] [] GrpInv.nil hs
theorem GrpInv.has {l : List Hd} {out : List It} (g : GrpInv l out) {h : Hd} : (∃ x ∈ out, x.1 = h.1 ∧ h.2 ∈ x.2) ↔ h ∈ l := by
  constructor
  · rintro ⟨x, hx, h1, h2⟩
    rw [(g.mem x hx).1] at h2
    obtain ⟨y, hy, e⟩ := List.mem_map.1 h2
    obtain ⟨k1, k2⟩ := List.mem_filter.1 hy
    obtain rfl : y = h := Prod.ext ((of_decide_eq_true k2).trans h1) e
    exact k1
  · intro hl
    obtain ⟨x, hx, hxn⟩ := g.all h hl
    refine ⟨x, hx, hxn, ?_⟩
    rw [(g.mem x hx).1]
    exact List.mem_map.2 ⟨h, List.mem_filter.2 ⟨hl, by simp [hxn]⟩, rfl⟩

end

section
open Go.RowKit

theorem item_name {l : List It} (h : Good l) {x : It} (hx : x ∈ l) : x.1 ≠ [] := by
  have h1 := (okI_parts (h.1 x hx)).1
  intro e
  rw [e] at h1
  exact absurd h1 (by decide)
section
variable {a b : Ca} (ha : validK a = true) (hb : validK b = true)
include ha hb
/-- Which marks stay, in words of both carts. -/
theorem mem_stay {h : Hd} : h ∈ stayH a b ↔ markL a.2 h.1 (dotH h) = some h.2 ∧ (hasK b (dotH h) = false ∨ (markL b.2 h.1 (dotH h)).isSome = true) := by
  have ga := (validK_iff.1 ha).2.1
  have gb := (validK_iff.1 hb).2.1
  unfold stayH
  rw [List.mem_filter, ga.flat]
  refine and_congr_right fun hm => ?_
  unfold stayB
  rw [Bool.or_eq_true, decide_eq_true_eq, Bool.not_eq_true']
  refine or_congr_right ?_
  have hn : h.1 ≠ [] := by
    obtain ⟨x, hx, e, _, _⟩ := markL_some hm
    rw [← e]; exact item_name ga hx
  constructor
  · intro k
    cases e : lookH (flatH b.2) (dotH h) with
    | none => rw [e] at k; exact absurd k.symm hn
    | some y =>
      rw [e] at k
      obtain ⟨k1, k2⟩ := lookH_some e
      have := gb.flat.1 k1
      rw [show y.1 = h.1 from k, k2] at this
      rw [this]; rfl
  · intro k
    cases e : markL b.2 h.1 (dotH h) with
    | none => rw [e] at k; cases k
    | some m =>
      obtain ⟨x, hx, h1, h2, h3⟩ := markL_some e
      have hy : ((h.1, m) : Hd) ∈ flatH b.2 := mem_flatH.2 ⟨x, hx, h1, h2⟩
      have := gb.look hy
      rw [show dotH (h.1, m) = dotH h from h3] at this
      rw [this]; rfl
theorem mem_stays {h : Hd} (hh : h ∈ stayH a b ++ stayH b a) : ∃ m, joinedK a b h.1 (dotH h) = some m ∧ dotM m = dotH h ∧ newerN h.2 m = false := by
  have sa := validK_seen ha h.1 (dotH h)
  have sb := validK_seen hb h.1 (dotH h)
  have d : ∀ {c : Ca} {m : Mk}, markL c.2 h.1 (dotH h) = some m → dotM m = dotH h := fun k => by
    obtain ⟨_, _, _, _, e⟩ := markL_some k; exact e
  unfold joinedK
  rcases List.mem_append.1 hh with hh | hh
  · obtain ⟨h1, h2⟩ := (mem_stay ha hb).1 hh
    rw [h1]
    cases e : markL b.2 h.1 (dotH h) with
    | some y =>
      refine ⟨_, rfl, ?_, ?_⟩
      · rw [maxM_dot (by rw [d e])]
      · unfold maxM
        cases k : newerN y h.2 with
        | true => simp [newerN_asymm k]
        | false => simp [newerN_irrefl]
    | none =>
      rw [e] at h2
      rcases h2 with h2 | h2
      · rw [h2]; exact ⟨h.2, rfl, rfl, newerN_irrefl _⟩
      · cases h2
  · obtain ⟨h1, h2⟩ := (mem_stay hb ha).1 hh
    rw [h1]
    cases e : markL a.2 h.1 (dotH h) with
    | some y =>
      refine ⟨_, rfl, ?_, ?_⟩
      · rw [maxM_dot (by rw [d e]), d e]
      · unfold maxM
        cases k : newerN h.2 y with
        | true => simp [newerN_irrefl]
        | false => simp [k]
    | none =>
      rw [e] at h2
      rcases h2 with h2 | h2
      · rw [h2]; exact ⟨h.2, rfl, rfl, newerN_irrefl _⟩
      · cases h2
/-- The newest one is among them. -/
theorem joined_stays {nm : List UInt8} {d : Int × Int} {m : Mk} (h : joinedK a b nm d = some m) : ((nm, m) : Hd) ∈ stayH a b ++ stayH b a := by
  have hd : dotM m = d := joined_dot h
  have sa := validK_seen ha nm d
  have sb := validK_seen hb nm d
  unfold joinedK at h
  rw [List.mem_append, mem_stay ha hb, mem_stay hb ha, show dotH (nm, m) = d from hd]
  show (markL a.2 nm d = some m ∧ _) ∨ (markL b.2 nm d = some m ∧ _)
  cases ea : markL a.2 nm d with
  | some x =>
    cases eb : markL b.2 nm d with
    | some y =>
      rw [ea, eb] at h
      injection h with h
      rcases maxM_or x y with k | k
      · exact .inl ⟨by rw [← h, k], .inr rfl⟩
      · exact .inr ⟨by rw [← h, k], .inr rfl⟩
    | none =>
      rw [ea, eb] at h
      simp only [meetO] at h
      split at h
      · cases h
      · rename_i hq
        injection h with h
        exact .inl ⟨by rw [h], .inl (by simpa using hq)⟩
  | none =>
    cases eb : markL b.2 nm d with
    | some y =>
      rw [ea, eb] at h
      simp only [meetO] at h
      split at h
      · cases h
      · rename_i hq
        injection h with h
        exact .inr ⟨by rw [h], .inl (by simpa using hq)⟩
    | none => rw [ea, eb] at h; cases h
theorem stays_one {x y : Hd} (hx : x ∈ stayH a b ++ stayH b a) (hy : y ∈ stayH a b ++ stayH b a) (e : dotH x = dotH y) : x.1 = y.1 := by
  obtain ⟨m, h1, _⟩ := mem_stays ha hb hx
  obtain ⟨m', h2, _⟩ := mem_stays ha hb hy
  rw [← e] at h2
  exact joined_one ha hb h1 h2
/-- What package join makes of two valid carts. -/
theorem group_join {l : List Hd} (hl : l.Perm (stayH a b ++ stayH b a)) (hs : l.Pairwise fun x y => ltH y x = false) : groupH (ddH l) = joinI a b := by
  obtain ⟨f1, f2⟩ := ddH_facts hs fun x hx y hy e => stays_one ha hb (hl.mem_iff.1 hx) (hl.mem_iff.1 hy) e
  have g := grpInv f1
  have hD : ∀ {x : Hd}, x ∈ ddH l → x ∈ stayH a b ++ stayH b a := fun hx => hl.mem_iff.1 ((ddH_sub l).subset hx)
  -- what is left is what the join has
  have hj : ∀ {nm : List UInt8} {d : Int × Int} {m : Mk}, joinedK a b nm d = some m → ((nm, m) : Hd) ∈ ddH l := by
    intro nm d m h
    have hd : dotM m = d := joined_dot h
    have h0 := joined_stays ha hb h
    obtain ⟨z, hz, z1, z2⟩ := f2 _ (hl.mem_iff.2 h0)
    have zn : z.1 = nm := stays_one ha hb (hD hz) h0 z1
    obtain ⟨m', k1, _, k3⟩ := mem_stays ha hb (hD hz)
    rw [zn, z1, show dotH (nm, m) = d from hd, h] at k1
    injection k1 with k1
    subst k1
    obtain ⟨_, q2⟩ := ltH_no.1 z2
    have q3 := (q2 zn.symm).2 z1.symm
    have : m = z.2 := newerN_total q3 k3
    have e : ((nm, m) : Hd) = z := Prod.ext zn.symm this
    rw [e]; exact hz
  have inj : ∀ {x y : Hd}, x ∈ ddH l → y ∈ ddH l → dotH x = dotH y → x = y := by
    intro x y hx hy e
    obtain ⟨i, hi, ei⟩ := List.getElem_of_mem hx
    obtain ⟨j, hj, ej⟩ := List.getElem_of_mem hy
    have hp := List.pairwise_iff_getElem.1 f1
    have en := stays_one ha hb (hD hx) (hD hy) e
    rcases Nat.lt_trichotomy i j with h | h | h
    · have := hp i j hi hj h
      rw [ei, ej] at this
      exact absurd e (fun k => ltS_irrefl this en k)
    · subst h; rw [← ei, ← ej]
    · have := hp j i hj hi h
      rw [ei, ej] at this
      exact absurd e (fun k => ltS_irrefl this en.symm k.symm)
  have hk : ∀ {x : Hd}, x ∈ ddH l → joinedK a b x.1 (dotH x) = some x.2 := by
    intro x hx
    obtain ⟨m, k1, k2, _⟩ := mem_stays ha hb (hD hx)
    have := inj hx (hj k1) (by show dotH x = dotM m; exact k2.symm)
    rw [k1, this]
  have hgood : Good (groupH (ddH l)) := by
    refine Good.of (fun x hx => ?_) g.inc fun x hx y hy hn => ?_
    · obtain ⟨k1, k2⟩ := g.mem x hx
      have hin : ∀ m ∈ x.2, ((x.1, m) : Hd) ∈ ddH l := fun m hm => (GrpInv.has g (h := (x.1, m))).1 ⟨x, hx, rfl, hm⟩
      have hit : ∀ m ∈ x.2, ∃ i, okI i = true ∧ i.1 = x.1 ∧ m ∈ i.2 := fun m hm => by
        obtain ⟨i, hi, i1, i2, _⟩ := joined_item (hk (hin m hm))
        exact ⟨i, item_ok ha hb hi, i1, i2⟩
      obtain ⟨m, hm⟩ : ∃ m, m ∈ x.2 := by
        cases e : x.2 with
        | nil => exact absurd e k2
        | cons m r => exact ⟨m, by simp⟩
      obtain ⟨i, hi, hin1, _⟩ := hit m hm
      unfold okI
      simp only [Bool.and_eq_true, decide_eq_true_eq, isSetB_inc]
      refine ⟨by rw [← hin1]; exact (okI_parts hi).1, List.length_pos_of_mem hm, ?_, ?_⟩
      · rw [List.all_eq_true]
        intro z hz
        obtain ⟨j, hj, _, hzj⟩ := hit z hz
        exact List.all_eq_true.1 (okI_parts hj).2.2.1 z hzj
      · rw [k1]
        show Inc (dotsM _)
        unfold dotsM
        rw [List.map_map]
        refine List.pairwise_map.2 ?_
        have hf := List.Pairwise.sublist (List.filter_sublist (p := fun h : Hd => decide (h.1 = x.1)) (l := ddH l)) f1
        refine List.Pairwise.imp_of_mem (fun {u v} hu hv huv => ?_) hf
        have e1 := of_decide_eq_true (List.mem_filter.1 hu).2
        have e2 := of_decide_eq_true (List.mem_filter.1 hv).2
        rcases huv with k | ⟨_, k⟩
        · rw [e1, e2, beforeN_irrefl] at k; cases k
        · exact k
    · rw [meet_no]
      intro d hd e he hde
      subst hde
      obtain ⟨m, hm, rfl⟩ := List.mem_map.1 hd
      obtain ⟨m', hm', e'⟩ := List.mem_map.1 he
      have h1 := (GrpInv.has g (h := (x.1, m))).1 ⟨x, hx, rfl, hm⟩
      have h2 := (GrpInv.has g (h := (y.1, m'))).1 ⟨y, hy, rfl, hm'⟩
      exact hn (Prod.mk.inj (inj h1 h2 e'.symm)).1
  refine hgood.ext (joinI_good ha hb) fun nm d => ?_
  rw [joinI_mark ha hb]
  cases e : joinedK a b nm d with
  | some m =>
    obtain ⟨x, hx, h1, h2⟩ := g.has.2 (hj e)
    exact hgood.mark_iff.2 ⟨x, hx, h1, h2, joined_dot e⟩
  | none =>
    cases k : markL (groupH (ddH l)) nm d with
    | none => rfl
    | some m =>
      obtain ⟨x, hx, h1, h2, h3⟩ := markL_some k
      have h4 := hk ((GrpInv.has g (h := (nm, m))).1 ⟨x, hx, h1, h2⟩)
      rw [show dotH (nm, m) = d from h3] at h4
      rw [e] at h4; cases h4
end

/-- How much a cart is. -/
structure SizeK (n : Nat) (c : Ca) : Prop where
  dots : c.1.1.length + c.1.2.length ≤ 80 * n
  num : c.2.length ≤ 20 * n
  cnt : cntM c.2 ≤ 200 * n
  one : ∀ x ∈ c.2, x.1.length ≤ 100 ∧ x.2.length ≤ 10 * n
theorem SizeK.mono {n m : Nat} {c : Ca} (h : SizeK n c) (hm : n ≤ m) : SizeK m c :=
  ⟨by have := h.dots; omega, by have := h.num; omega, by have := h.cnt; omega, fun x hx => ⟨(h.one x hx).1, by have := (h.one x hx).2; omega⟩⟩
theorem SizeK.zero : SizeK 0 (([], []), []) := ⟨by simp, by simp, by simp [cntM], fun x hx => by cases hx⟩
theorem sub_len {α : Type} [DecidableEq α] {l k : List α} (hl : l.Nodup) (hs : ∀ x ∈ l, x ∈ k) : l.length ≤ k.length := by
  induction l generalizing k with
  | nil => simp
  | cons x r ih =>
    have hx : x ∈ k := hs x (by simp)
    rw [List.nodup_cons] at hl
    have := ih hl.2 (k := k.erase x) fun y hy => by
      have hne : y ≠ x := fun e => hl.1 (by rw [← e]; exact hy)
      exact (List.mem_erase_of_ne hne).2 (hs y (List.mem_cons_of_mem _ hy))
    rw [List.length_erase_of_mem hx] at this
    have h0 := List.length_pos_of_mem hx
    rw [List.length_cons]; omega
theorem IncN.nodup {l : List It} (h : IncN l) : (l.map (·.1)).Nodup := by
  refine List.pairwise_map.2 (h.imp fun {x y} hxy e => ?_)
  rw [e, beforeN_irrefl] at hxy; cases hxy
theorem Good.allD_nodup {l : List It} (h : Good l) : (allD l).Nodup := by
  rw [← setL_size, ← dotsI_all, (good_count h.1 h.2.1).2 h, allD_len]
theorem mem_allD {l : List It} {p : Int × Int} : p ∈ allD l ↔ ∃ x ∈ l, ∃ m ∈ x.2, dotM m = p := by
  rw [← mem_dotsI, dotsI_all, mem_setL]
theorem joinK_size {a b : Ca} {n m : Nat} (ha : validK a = true) (hb : validK b = true) (h : SizeK n a) (k : SizeK m b) : SizeK (n + m) (joinK a b) := by
  have hg := joinI_good ha hb
  have hit : ∀ x ∈ joinI a b, ∀ u ∈ x.2, ∃ i, (i ∈ a.2 ∨ i ∈ b.2) ∧ i.1 = x.1 ∧ u ∈ i.2 := by
    intro x hx u hu
    have h1 := hg.mark hx hu
    rw [joinI_mark ha hb] at h1
    obtain ⟨i, hi, h2, h3, _⟩ := joined_item h1
    exact ⟨i, hi, h2, h3⟩
  refine ⟨?_, ?_, ?_, fun x hx => ⟨?_, ?_⟩⟩
  · have h1 := compact_len (unionC_valid (compC_iff.1 (validK_iff.1 ha).1).2 (compC_iff.1 (validK_iff.1 hb).1).2) (us := (unionC a.1.1 a.1.2 b.1.1 b.1.2).1) (rs := (unionC a.1.1 a.1.2 b.1.1 b.1.2).2) rfl
    have h4 := mergeV_len b.1.1 a.1.1
    have h5 := setL_len (a.1.2 ++ b.1.2)
    rw [List.length_append] at h5
    have h2 := h.dots
    have h3 := k.dots
    show (unionC a.1.1 a.1.2 b.1.1 b.1.2).1.length + (unionC a.1.1 a.1.2 b.1.1 b.1.2).2.length ≤ _
    omega
  · have h1 : ((joinI a b).map (·.1)).length ≤ (namesJ a b).length := sub_len hg.2.1.nodup fun nm hn => by
      obtain ⟨x, hx, rfl⟩ := List.mem_map.1 hn
      exact (mem_joinI.1 hx).1
    have h2 := h.num
    have h3 := k.num
    unfold namesJ at h1
    simp only [List.length_map, List.length_append] at h1
    show (joinI a b).length ≤ _
    omega
  · have h1 : (allD (joinI a b)).length ≤ (allD a.2 ++ allD b.2).length := sub_len hg.allD_nodup fun p hp => by
      obtain ⟨x, hx, u, hu, e⟩ := mem_allD.1 hp
      obtain ⟨i, hi, _, hui⟩ := hit x hx u hu
      rcases hi with hi | hi
      · exact List.mem_append_left _ (mem_allD.2 ⟨i, hi, u, hui, e⟩)
      · exact List.mem_append_right _ (mem_allD.2 ⟨i, hi, u, hui, e⟩)
    rw [List.length_append, allD_len, allD_len, allD_len] at h1
    have h2 := h.cnt
    have h3 := k.cnt
    show cntM (joinI a b) ≤ _
    omega
  · obtain ⟨u, hu⟩ : ∃ u, u ∈ x.2 := by
      have := (okI_parts (hg.1 x hx)).2.1
      exact ⟨x.2[0], List.getElem_mem _⟩
    obtain ⟨i, hi, e, _⟩ := hit x hx u hu
    rw [← e]
    rcases hi with hi | hi
    · exact (h.one i hi).1
    · exact (k.one i hi).1
  · have ga := (validK_iff.1 ha).2.1
    have gb := (validK_iff.1 hb).2.1
    obtain ⟨la, hla, ha1⟩ : ∃ la : List (Int × Int), la.length ≤ 10 * n ∧ ∀ i ∈ a.2, i.1 = x.1 → ∀ u ∈ i.2, dotM u ∈ la := by
      by_cases e : ∃ i ∈ a.2, i.1 = x.1
      · obtain ⟨i, hi, hin⟩ := e
        refine ⟨dotsM i.2, by rw [dotsM_len]; exact (h.one i hi).2, fun j hj hjn u hu => ?_⟩
        obtain rfl : j = i := ga.2.1.name hj hi (hjn.trans hin.symm)
        exact List.mem_map.2 ⟨u, hu, rfl⟩
      · exact ⟨[], by simp, fun i hi hin => absurd ⟨i, hi, hin⟩ e⟩
    obtain ⟨lb, hlb, hb1⟩ : ∃ lb : List (Int × Int), lb.length ≤ 10 * m ∧ ∀ i ∈ b.2, i.1 = x.1 → ∀ u ∈ i.2, dotM u ∈ lb := by
      by_cases e : ∃ i ∈ b.2, i.1 = x.1
      · obtain ⟨i, hi, hin⟩ := e
        refine ⟨dotsM i.2, by rw [dotsM_len]; exact (k.one i hi).2, fun j hj hjn u hu => ?_⟩
        obtain rfl : j = i := gb.2.1.name hj hi (hjn.trans hin.symm)
        exact List.mem_map.2 ⟨u, hu, rfl⟩
      · exact ⟨[], by simp, fun i hi hin => absurd ⟨i, hi, hin⟩ e⟩
    have h1 : (dotsM x.2).length ≤ (la ++ lb).length := sub_len (inc_nodup (okI_parts (hg.1 x hx)).2.2.2) fun p hp => by
      obtain ⟨u, hu, rfl⟩ := List.mem_map.1 hp
      obtain ⟨i, hi, e, hui⟩ := hit x hx u hu
      rcases hi with hi | hi
      · exact List.mem_append_left _ (ha1 i hi e u hui)
      · exact List.mem_append_right _ (hb1 i hi e u hui)
    rw [dotsM_len, List.length_append] at h1
    show x.2.length ≤ _
    omega

end

end Go.Proofs.YtiaehpdgpjhecaaGreat
