/- Several texts in one: JoiL, JoiM. -/
import Derived.Test.YtfjbocipjmpogaaGreatMAR
namespace Go.Proofs.YtfjbocipjmpogaaGreat

section
open Go.RowKit

/-- The mark of a name and a dot that two carts have together. -/
def joinedK (a b : Ca) (nm : List UInt8) (d : Int × Int) : Option Mk := meetO (hasK a d) (hasK b d) (markL a.2 nm d) (markL b.2 nm d)
def marksJ (a b : Ca) (ds : List (Int × Int)) (nm : List UInt8) : List Mk := ds.filterMap (joinedK a b nm)
def stepJ (a b : Ca) (ds : List (Int × Int)) (out : List It) (nm : List UInt8) : List It :=
  if (out.any fun x => x.1 == nm) = true then out else if (marksJ a b ds nm).isEmpty = true then out else insN out (nm, marksJ a b ds nm)
def dotsJ (a b : Ca) : List (Int × Int) := setL (dotsI a.2 ++ dotsI b.2)
def namesJ (a b : Ca) : List (List UInt8) := a.2.map (·.1) ++ b.2.map (·.1)
def joinI (a b : Ca) : List It := (namesJ a b).foldl (stepJ a b (dotsJ a b)) []
def joinK (a b : Ca) : Ca := (unionC a.1.1 a.1.2 b.1.1 b.1.2, joinI a b)

theorem mem_dotsI {l : List It} {p : Int × Int} : p ∈ dotsI l ↔ ∃ x ∈ l, ∃ m ∈ x.2, dotM m = p := by
  rw [dotsI_all, mem_setL]
  unfold allD
  rw [List.mem_flatMap]
  constructor
  · rintro ⟨x, hx, h⟩
    obtain ⟨m, hm, rfl⟩ := List.mem_map.1 h
    exact ⟨x, hx, m, hm, rfl⟩
  · rintro ⟨x, hx, m, hm, rfl⟩
    exact ⟨x, hx, List.mem_map.2 ⟨m, hm, rfl⟩⟩
section
variable {a b : Ca} (ha : validK a = true) (hb : validK b = true)
/-- Where a mark of the join comes from. -/
theorem joined_from {nm : List UInt8} {d : Int × Int} {m : Mk} (h : joinedK a b nm d = some m) : markL a.2 nm d = some m ∨ markL b.2 nm d = some m := meetO_mem h
theorem joined_item {nm : List UInt8} {d : Int × Int} {m : Mk} (h : joinedK a b nm d = some m) : ∃ x, (x ∈ a.2 ∨ x ∈ b.2) ∧ x.1 = nm ∧ m ∈ x.2 ∧ dotM m = d := by
  rcases joined_from h with h | h
  · obtain ⟨x, hx, h1, h2, h3⟩ := markL_some h
    exact ⟨x, .inl hx, h1, h2, h3⟩
  · obtain ⟨x, hx, h1, h2, h3⟩ := markL_some h
    exact ⟨x, .inr hx, h1, h2, h3⟩
theorem joined_dot {nm : List UInt8} {d : Int × Int} {m : Mk} (h : joinedK a b nm d = some m) : dotM m = d := by
  obtain ⟨_, _, _, _, h⟩ := joined_item h
  exact h
theorem joined_in {nm : List UInt8} {d : Int × Int} {m : Mk} (h : joinedK a b nm d = some m) : d ∈ dotsJ a b ∧ nm ∈ namesJ a b := by
  obtain ⟨x, hx, hn, hm, hd⟩ := joined_item h
  unfold dotsJ namesJ
  rw [mem_setL, List.mem_append, List.mem_append]
  rcases hx with hx | hx
  · exact ⟨.inl (mem_dotsI.2 ⟨x, hx, m, hm, hd⟩), .inl (List.mem_map.2 ⟨x, hx, hn⟩)⟩
  · exact ⟨.inr (mem_dotsI.2 ⟨x, hx, m, hm, hd⟩), .inr (List.mem_map.2 ⟨x, hx, hn⟩)⟩
theorem mem_marksJ {ds : List (Int × Int)} {nm : List UInt8} {m : Mk} : m ∈ marksJ a b ds nm ↔ ∃ d ∈ ds, joinedK a b nm d = some m := by
  unfold marksJ
  rw [List.mem_filterMap]
theorem marksJ_dots (ds : List (Int × Int)) (nm : List UInt8) : (dotsM (marksJ a b ds nm)).Sublist ds := by
  induction ds with
  | nil => exact List.Sublist.refl _
  | cons d r ih =>
    unfold marksJ at ih ⊢
    rw [List.filterMap_cons]
    cases h : joinedK a b nm d with
    | none => exact ih.cons d
    | some m =>
      have e : (m.r, m.c) = d := joined_dot h
      show List.Sublist ((m.r, m.c) :: dotsM _) (d :: r)
      rw [e]
      exact ih.cons_cons d
/-- The items behind some of the names. -/
theorem joinI_inv : ∀ (ns pre : List (List UInt8)) (out : List It), IncN out → (∀ x : It, x ∈ out ↔ x.1 ∈ pre ∧ x.2 = marksJ a b (dotsJ a b) x.1 ∧ x.2.isEmpty = false) →
    IncN (ns.foldl (stepJ a b (dotsJ a b)) out) ∧ ∀ x : It, x ∈ ns.foldl (stepJ a b (dotsJ a b)) out ↔ x.1 ∈ pre ++ ns ∧ x.2 = marksJ a b (dotsJ a b) x.1 ∧ x.2.isEmpty = false
  | [], pre, out, hi, hm => by rw [List.append_nil]; exact ⟨hi, hm⟩
  | nm :: ns, pre, out, hi, hm => by
    rw [show pre ++ nm :: ns = (pre ++ [nm]) ++ ns by simp]
    refine joinI_inv ns (pre ++ [nm]) (stepJ a b (dotsJ a b) out nm) ?_ ?_
    · unfold stepJ
      split
      · exact hi
      · rename_i h1
        split
        · exact hi
        · refine hi.ins fun y hy e => h1 (List.any_eq_true.2 ⟨y, hy, by simpa using e⟩)
    · intro x
      unfold stepJ
      split
      · rename_i h1
        obtain ⟨y, hy, hyn⟩ := List.any_eq_true.1 h1
        have hyn : y.1 = nm := by simpa using hyn
        rw [hm, List.mem_append, List.mem_singleton]
        constructor
        · rintro ⟨h2, h3⟩; exact ⟨.inl h2, h3⟩
        · rintro ⟨h2 | h2, h3⟩
          · exact ⟨h2, h3⟩
          · exact ⟨by rw [h2, ← hyn]; exact ((hm y).1 hy).1, h3⟩
      · rename_i h1
        split
        · rename_i h2
          rw [hm, List.mem_append, List.mem_singleton]
          constructor
          · rintro ⟨h3, h4⟩; exact ⟨.inl h3, h4⟩
          · rintro ⟨h3 | h3, h4, h5⟩
            · exact ⟨h3, h4, h5⟩
            · rw [h4, h3, h2] at h5; cases h5
        · rename_i h2
          rw [mem_insN, hm, List.mem_append, List.mem_singleton]
          constructor
          · rintro (⟨h3, h4⟩ | rfl)
            · exact ⟨.inl h3, h4⟩
            · exact ⟨.inr rfl, rfl, by simpa using h2⟩
          · rintro ⟨h3 | h3, h4, h5⟩
            · exact .inl ⟨h3, h4, h5⟩
            · exact .inr (Prod.ext h3 (by rw [h4, h3]))
theorem mem_joinI {x : It} : x ∈ joinI a b ↔ x.1 ∈ namesJ a b ∧ x.2 = marksJ a b (dotsJ a b) x.1 ∧ x.2.isEmpty = false := by
  have := (joinI_inv (a := a) (b := b) (namesJ a b) [] [] List.Pairwise.nil (fun x => by simp)).2 x
  rwa [List.nil_append] at this
include ha hb
theorem item_ok {x : It} (hx : x ∈ a.2 ∨ x ∈ b.2) : okI x = true := by
  rcases hx with hx | hx
  · exact (validK_iff.1 ha).2.1.1 x hx
  · exact (validK_iff.1 hb).2.1.1 x hx
theorem marksJ_ok {nm : List UInt8} (hn : (marksJ a b (dotsJ a b) nm).isEmpty = false) : okI (nm, marksJ a b (dotsJ a b) nm) = true := by
  obtain ⟨m, hm⟩ : ∃ m, m ∈ marksJ a b (dotsJ a b) nm := by
    cases h : marksJ a b (dotsJ a b) nm with
    | nil => rw [h] at hn; cases hn
    | cons m r => exact ⟨m, by simp⟩
  obtain ⟨d, _, hj⟩ := mem_marksJ.1 hm
  obtain ⟨x, hx, hxn, _, _⟩ := joined_item hj
  have h1 := (okI_parts (item_ok ha hb hx)).1
  unfold okI
  simp only [Bool.and_eq_true, decide_eq_true_eq, isSetB_inc]
  refine ⟨by rw [← hxn]; exact h1, List.length_pos_of_mem hm, ?_, (inc_setL _).sublist (marksJ_dots _ _)⟩
  rw [List.all_eq_true]
  intro z hz
  obtain ⟨d, _, hj⟩ := mem_marksJ.1 hz
  obtain ⟨y, hy, _, hzy, _⟩ := joined_item hj
  exact List.all_eq_true.1 (okI_parts (item_ok ha hb hy)).2.2.1 z hzy
/-- A dot stays under one name. -/
theorem joined_one {nm nm' : List UInt8} {d : Int × Int} {m m' : Mk} (h : joinedK a b nm d = some m) (h' : joinedK a b nm' d = some m') : nm = nm' := by
  have one : ∀ {c : Ca}, validK c = true → ∀ {n n' : List UInt8} {u u' : Mk}, markL c.2 n d = some u → markL c.2 n' d = some u' → n = n' := by
    intro c hc n n' u u' k k'
    obtain ⟨x, hx, hxn, hux, hud⟩ := markL_some k
    obtain ⟨y, hy, hyn, huy, hud'⟩ := markL_some k'
    by_cases e : x.1 = y.1
    · rw [← hxn, ← hyn, e]
    · have h0 := meet_no.1 ((validK_iff.1 hc).2.1.apart hx hy e) d (by rw [← hud]; exact List.mem_map.2 ⟨u, hux, rfl⟩) d (by rw [← hud']; exact List.mem_map.2 ⟨u', huy, rfl⟩)
      exact absurd rfl h0
  cases ea : markL a.2 nm d with
  | some u =>
    cases ea' : markL a.2 nm' d with
    | some u' => exact one ha ea ea'
    | none =>
      have hp := validK_seen ha nm d (by rw [ea]; rfl)
      unfold joinedK at h'
      rw [ea', hp] at h'
      cases eb' : markL b.2 nm' d with
      | none => rw [eb'] at h'; cases h'
      | some y => rw [eb'] at h'; simp [meetO] at h'
  | none =>
    have hbn : markL b.2 nm d = some m := by
      rcases joined_from h with h1 | h1
      · rw [ea] at h1; cases h1
      · exact h1
    have hq := validK_seen hb nm d (by rw [hbn]; rfl)
    cases eb' : markL b.2 nm' d with
    | some y => exact one hb hbn eb'
    | none =>
      unfold joinedK at h'
      rw [eb', hq] at h'
      cases ea' : markL a.2 nm' d with
      | none => rw [ea'] at h'; cases h'
      | some x => rw [ea'] at h'; simp [meetO] at h'
theorem joinI_good : Good (joinI a b) := by
  refine Good.of (fun x hx => ?_) (joinI_inv (a := a) (b := b) (namesJ a b) [] [] List.Pairwise.nil (fun x => by simp)).1 fun x hx y hy hn => ?_
  · obtain ⟨_, h2, h3⟩ := mem_joinI.1 hx
    have e : x = (x.1, marksJ a b (dotsJ a b) x.1) := Prod.ext rfl h2
    rw [e]
    exact marksJ_ok ha hb (by rw [← h2]; exact h3)
  · rw [meet_no]
    intro d hd e he hde
    subst hde
    obtain ⟨m, hm, rfl⟩ := List.mem_map.1 hd
    obtain ⟨m', hm', e'⟩ := List.mem_map.1 he
    rw [(mem_joinI.1 hx).2.1] at hm
    rw [(mem_joinI.1 hy).2.1] at hm'
    obtain ⟨d1, _, j1⟩ := mem_marksJ.1 hm
    obtain ⟨d2, _, j2⟩ := mem_marksJ.1 hm'
    have k1 : (m.r, m.c) = d1 := joined_dot j1
    have k2 : (m'.r, m'.c) = d2 := joined_dot j2
    rw [← k1] at j1
    rw [← k2, e'] at j2
    exact hn (joined_one ha hb j1 j2)
theorem joinI_mark (nm : List UInt8) (d : Int × Int) : markL (joinI a b) nm d = joinedK a b nm d := by
  have hg := joinI_good ha hb
  cases hj : joinedK a b nm d with
  | some m =>
    obtain ⟨h1, h2⟩ := joined_in hj
    have hm : m ∈ marksJ a b (dotsJ a b) nm := mem_marksJ.2 ⟨d, h1, hj⟩
    refine hg.mark_iff.2 ⟨(nm, marksJ a b (dotsJ a b) nm), mem_joinI.2 ⟨h2, rfl, ?_⟩, rfl, hm, joined_dot hj⟩
    cases he : marksJ a b (dotsJ a b) nm with
    | nil => rw [he] at hm; cases hm
    | cons _ _ => rfl
  | none =>
    cases hm : markL (joinI a b) nm d with
    | none => rfl
    | some m =>
      obtain ⟨x, hx, hxn, hmx, hmd⟩ := markL_some hm
      rw [(mem_joinI.1 hx).2.1, hxn] at hmx
      obtain ⟨d', _, hj'⟩ := mem_marksJ.1 hmx
      have := joined_dot hj'
      rw [hmd] at this
      rw [← this, hj] at hj'
      cases hj'
theorem joinK_has (p : Int × Int) : hasK (joinK a b) p = (hasK a p || hasK b p) :=
  unionC_has (compC_iff.1 (validK_iff.1 ha).1).2 (compC_iff.1 (validK_iff.1 hb).1).2 p.1 p.2
theorem joinK_valid : validK (joinK a b) = true := by
  refine validK_iff.2 ⟨unionC_comp (compC_iff.1 (validK_iff.1 ha).1).2 (compC_iff.1 (validK_iff.1 hb).1).2, joinI_good ha hb, fun p hp => ?_⟩
  show hasK (joinK a b) p = true
  rw [joinK_has ha hb]
  obtain ⟨x, hx, m, hm, hd⟩ := mem_dotsI.1 hp
  have h1 := (joinI_good ha hb).mark hx hm
  rw [joinI_mark ha hb, hd] at h1
  exact meetO_seen (validK_seen ha x.1 p) (validK_seen hb x.1 p) (by show (joinedK a b x.1 p).isSome = true; rw [h1]; rfl)
theorem joinK_comm : joinK a b = joinK b a := by
  refine validK_ext (joinK_valid ha hb) (joinK_valid hb ha) (fun p => ?_) fun nm p => ?_
  · rw [joinK_has ha hb, joinK_has hb ha, Bool.or_comm]
  · show markL (joinI a b) nm p = markL (joinI b a) nm p
    rw [joinI_mark ha hb, joinI_mark hb ha]
    exact meetO_comm _ _ _ _
end
theorem joinK_self {a : Ca} (ha : validK a = true) : joinK a a = a := by
  refine validK_ext (joinK_valid ha ha) ha (fun p => ?_) fun nm p => ?_
  · rw [joinK_has ha ha, Bool.or_self]
  · show markL (joinI a a) nm p = markL a.2 nm p
    rw [joinI_mark ha ha]
    exact meetO_self
theorem joinK_assoc {a b c : Ca} (ha : validK a = true) (hb : validK b = true) (hc : validK c = true) : joinK (joinK a b) c = joinK a (joinK b c) := by
  have hab := joinK_valid ha hb
  have hbc := joinK_valid hb hc
  refine validK_ext (joinK_valid hab hc) (joinK_valid ha hbc) (fun p => ?_) fun nm p => ?_
  · rw [joinK_has hab hc, joinK_has ha hbc, joinK_has ha hb, joinK_has hb hc, Bool.or_assoc]
  · show markL (joinI (joinK a b) c) nm p = markL (joinI a (joinK b c)) nm p
    rw [joinI_mark hab hc, joinI_mark ha hbc]
    unfold joinedK
    rw [joinK_has ha hb, joinK_has hb hc, show markL (joinK a b).2 nm p = joinedK a b nm p from joinI_mark ha hb nm p, show markL (joinK b c).2 nm p = joinedK b c nm p from joinI_mark hb hc nm p]
    exact meetO_assoc (validK_seen ha nm p) (validK_seen hb nm p) (validK_seen hc nm p)
/-- A cart with nothing in it. -/
theorem validK_zero : validK (([], []), []) = true := by decide
theorem joinK_zero {a : Ca} (ha : validK a = true) : joinK (([], []), []) a = a := by
  refine validK_ext (joinK_valid validK_zero ha) ha (fun p => ?_) fun nm p => ?_
  · rw [joinK_has validK_zero ha]
    show (hasC [] [] p.1 p.2 || _) = _
    have : hasC [] [] p.1 p.2 = false := by
      cases h : hasC [] [] p.1 p.2 with
      | false => rfl
      | true =>
        obtain ⟨h1, h2 | h2⟩ := hasC_iff.1 h
        · obtain ⟨h3, h4⟩ := hasV_iff.1 h2
          simp [getV] at h4
          simp [validD] at h1
          omega
        · cases h2
    rw [this, Bool.false_or]
  · show markL (joinI _ a) nm p = markL a.2 nm p
    rw [joinI_mark validK_zero ha]
    unfold joinedK
    have : hasK (([], []), []) p = false := by
      cases h : hasK (([], []), []) p with
      | false => rfl
      | true =>
        obtain ⟨h1, h2 | h2⟩ := hasC_iff.1 h
        · obtain ⟨h3, h4⟩ := hasV_iff.1 h2
          simp [getV] at h4
          simp [validD] at h1
          omega
        · cases h2
    rw [this]
    show meetO false _ none _ = _
    cases markL a.2 nm p <;> simp [meetO]

end

section
open Go.RowKit

def zeroK : Ca := (([], []), [])
theorem validK_zeroK : validK zeroK = true := validK_zero
def allK (l : List Ca) : Ca := l.foldl joinK zeroK
theorem fold_valid : ∀ {l : List Ca} {s : Ca}, validK s = true → (∀ x ∈ l, validK x = true) → validK (l.foldl joinK s) = true
  | [], _, hs, _ => hs
  | x :: l, s, hs, h => show validK (l.foldl joinK (joinK s x)) = true from fold_valid (joinK_valid hs (h x (by simp))) fun y hy => h y (by simp [hy])
theorem allK_valid {l : List Ca} (h : ∀ x ∈ l, validK x = true) : validK (allK l) = true := fold_valid validK_zeroK h
theorem join_swap {s x y : Ca} (hs : validK s = true) (hx : validK x = true) (hy : validK y = true) : joinK (joinK s x) y = joinK (joinK s y) x := by
  rw [joinK_assoc hs hx hy, joinK_comm hx hy, ← joinK_assoc hs hy hx]
theorem fold_perm {l k : List Ca} (p : l.Perm k) : ∀ {s : Ca}, validK s = true → (∀ x ∈ l, validK x = true) → l.foldl joinK s = k.foldl joinK s := by
  induction p with
  | nil => intro s _ _; rfl
  | cons x _ ih => intro s hs h; exact ih (joinK_valid hs (h x (by simp))) fun y hy => h y (by simp [hy])
  | swap x y l =>
    intro s hs h
    show l.foldl joinK (joinK (joinK s y) x) = l.foldl joinK (joinK (joinK s x) y)
    rw [join_swap hs (h y (by simp)) (h x (by simp))]
  | trans p _ ih1 ih2 => intro s hs h; exact (ih1 hs h).trans (ih2 hs fun x hx => h x (p.mem_iff.2 hx))
theorem join_twice {s x : Ca} (hs : validK s = true) (hx : validK x = true) : joinK (joinK s x) x = joinK s x := by
  rw [joinK_assoc hs hx hx, joinK_self hx]
theorem fold_in {l : List Ca} {s x : Ca} (hs : validK s = true) (h : ∀ y ∈ l, validK y = true) (hx : x ∈ l) : joinK (l.foldl joinK s) x = l.foldl joinK s := by
  obtain ⟨a, b, rfl⟩ := List.append_of_mem hx
  have p : (a ++ x :: b).Perm (a ++ b ++ [x]) := by
    rw [List.append_assoc]
    exact List.Perm.append_left a (List.perm_append_singleton x b).symm
  have hab : ∀ y ∈ a ++ b, validK y = true := fun y hy => h y (by
    rcases List.mem_append.1 hy with h' | h' <;> simp [h'])
  rw [fold_perm p hs h, List.foldl_append]
  exact join_twice (fold_valid hs hab) (h x (by simp))
/-- The order, and how often each cart is there, do not matter. -/
theorem allK_turn {l : List Ca} (h : ∀ x ∈ l, validK x = true) {k : Nat} {x : Ca} (hx : l[k]? = some x) : allK ((l.drop k ++ l.take k) ++ [x]) = allK l := by
  have p := turned_perm l k
  unfold allK
  rw [List.foldl_append, fold_perm p validK_zeroK fun y hy => h y (p.mem_iff.1 hy)]
  exact fold_in validK_zeroK h (List.mem_of_getElem? hx)
/-- A cart is within another one. -/
def withinK (a b : Ca) : Bool := sameC (joinK a b) b
theorem withinK_iff {a b : Ca} : withinK a b = true ↔ joinK a b = b := sameC_iff
theorem within_join {a b : Ca} (ha : validK a = true) (hb : validK b = true) : joinK a (joinK a b) = joinK a b := by
  rw [← joinK_assoc ha ha hb, joinK_self ha]
theorem within_join2 {a b : Ca} (ha : validK a = true) (hb : validK b = true) : joinK b (joinK a b) = joinK a b := by
  rw [joinK_comm ha hb]; exact within_join hb ha
theorem within_both {a b : Ca} (ha : validK a = true) (hb : validK b = true) (h : joinK a b = b) (h' : joinK b a = a) : a = b := by
  rw [← h', joinK_comm hb ha, h]

/-- Two carts fit. -/
def fitsK (a b : Ca) : Prop := ∀ n n' d x y, markL a.2 n d = some x → markL b.2 n' d = some y → n = n' ∧ x = y
theorem fitsK_comm {a b : Ca} : fitsK a b ↔ fitsK b a :=
  ⟨fun h n n' d x y h1 h2 => ⟨(h n' n d y x h2 h1).1.symm, (h n' n d y x h2 h1).2.symm⟩, fun h n n' d x y h1 h2 => ⟨(h n' n d y x h2 h1).1.symm, (h n' n d y x h2 h1).2.symm⟩⟩

theorem mem_bothL {xs ys : List (Int × Int)} {d : Int × Int} : d ∈ bothL xs ys ↔ d ∈ xs ∧ d ∈ ys := by
  unfold bothL
  rw [mem_setL, List.mem_filter]
  have e : d ∈ setL (xs.filter fun d => !decide (d ∈ ys)) ↔ d ∈ xs ∧ ¬ d ∈ ys := by rw [mem_setL, List.mem_filter]; simp
  constructor
  · rintro ⟨h1, h2⟩
    have h3 : ¬ (d ∈ xs ∧ ¬ d ∈ ys) := fun h => by
      have := e.2 h
      simp [this] at h2
    exact ⟨h1, Classical.byContradiction fun h => h3 ⟨h1, h⟩⟩
  · rintro ⟨h1, h2⟩
    have h3 : ¬ d ∈ setL (xs.filter fun d => !decide (d ∈ ys)) := fun h => (e.1 h).2 h2
    exact ⟨h1, by simp [h3]⟩
/-- What the reference asks of one dot. -/
def fitD (a b : Ca) (d : Int × Int) : Bool := match ownerL a.2 d.1 d.2 with
  | none => decide (markL a.2 [] d = markL b.2 [] d ∧ (markL b.2 [] d).isSome = true)
  | some n => decide (markL a.2 n d = markL b.2 n d ∧ (markL b.2 n d).isSome = true)
def fitsB (a b : Ca) : Bool := (bothL (dotsI a.2) (dotsI b.2)).all (fitD a b)
theorem Good.owner {l : List It} (h : Good l) {x : It} (hx : x ∈ l) {m : Mk} (hm : m ∈ x.2) : ownerL l m.r m.c = some x.1 := by
  unfold ownerL
  cases hf : l.find? (fun x => hasD x.2 m.r m.c) with
  | none =>
    have := List.find?_eq_none.1 hf x hx
    exact absurd (mem_dotsM.1 (List.mem_map.2 ⟨m, hm, rfl⟩)) this
  | some y =>
    have hy := List.mem_of_find?_eq_some hf
    have hd : (m.r, m.c) ∈ dotsM y.2 := mem_dotsM.2 (List.find?_some (p := fun x : It => hasD x.2 m.r m.c) hf)
    by_cases e : y.1 = x.1
    · rw [Option.map_some, e]
    · exact absurd rfl (meet_no.1 (h.apart hy hx e) _ hd _ (List.mem_map.2 ⟨m, hm, rfl⟩))
theorem fitsB_iff {a b : Ca} (ha : validK a = true) (hb : validK b = true) : fitsB a b = true ↔ fitsK a b := by
  have ga := (validK_iff.1 ha).2.1
  have gb := (validK_iff.1 hb).2.1
  unfold fitsB
  rw [List.all_eq_true]
  constructor
  · intro h n n' d x y h1 h2
    obtain ⟨i, hi, hin, hxi, hxd⟩ := markL_some h1
    obtain ⟨j, hj, hjn, hyj, hyd⟩ := markL_some h2
    have hd := h d (mem_bothL.2 ⟨mem_dotsI.2 ⟨i, hi, x, hxi, hxd⟩, mem_dotsI.2 ⟨j, hj, y, hyj, hyd⟩⟩)
    have ho : ownerL a.2 d.1 d.2 = some n := by
      rw [← hxd, ← hin]; exact ga.owner hi hxi
    unfold fitD at hd
    rw [ho] at hd
    obtain ⟨e, hs⟩ := of_decide_eq_true hd
    rw [h1] at e
    have e := e.symm
    obtain ⟨k, hk, hkn, hxk, _⟩ := markL_some e
    have hjk : j.1 = k.1 := by
      by_cases hne : j.1 = k.1
      · exact hne
      · exact absurd rfl (meet_no.1 (gb.apart hj hk hne) d (by rw [← hyd]; exact List.mem_map.2 ⟨y, hyj, rfl⟩) d (by rw [← hxd]; exact List.mem_map.2 ⟨x, hxk, rfl⟩))
    have hnn : n = n' := by rw [← hkn, ← hjk, hjn]
    refine ⟨hnn, ?_⟩
    rw [hnn, h2] at e
    exact (Option.some.inj e).symm
  · intro h d hd
    obtain ⟨h1, h2⟩ := mem_bothL.1 hd
    obtain ⟨i, hi, x, hxi, hxd⟩ := mem_dotsI.1 h1
    obtain ⟨j, hj, y, hyj, hyd⟩ := mem_dotsI.1 h2
    have k1 := ga.mark hi hxi
    have k2 := gb.mark hj hyj
    rw [hxd] at k1
    rw [hyd] at k2
    obtain ⟨e1, e2⟩ := h _ _ _ _ _ k1 k2
    have ho : ownerL a.2 d.1 d.2 = some i.1 := by
      rw [← hxd]; exact ga.owner hi hxi
    unfold fitD
    rw [ho]
    refine decide_eq_true ⟨?_, ?_⟩
    · rw [k1, e1, k2, e2]
    · rw [e1, k2]; rfl
theorem fitsB_comm {a b : Ca} (ha : validK a = true) (hb : validK b = true) : fitsB a b = fitsB b a :=
  Bool.eq_iff_iff.2 ((fitsB_iff ha hb).trans (fitsK_comm.trans (fitsB_iff hb ha).symm))

end

end Go.Proofs.YtfjbocipjmpogaaGreat
