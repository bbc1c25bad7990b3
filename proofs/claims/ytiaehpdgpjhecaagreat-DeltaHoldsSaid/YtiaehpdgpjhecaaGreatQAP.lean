/- Several texts in one: JoiL, JoiM, CtxZ. -/
import Derived.Test.YtiaehpdgpjhecaaGreatQAO
import Derived.Test.YtiaehpdgpjhecaaGreatQAM
namespace Go.Proofs.YtiaehpdgpjhecaaGreat

section
open Go.RowKit

/-- The mark of a name and a dot that two carts have together. -/
def joinedK (a b : Ca) (nm : List UInt8) (d : Int × Int) : Option Mk := meetO (hasK a d) (hasK b d) (markL a.2 nm d) (markL b.2 nm d)
def marksJ (a b : Ca) (ds : List (Int × Int)) (nm : List UInt8) : List Mk := ds.filterMap (joinedK a b nm)
def stepJ (a b : Ca) (ds : List (Int × Int)) (out : List It) (nm : List UInt8) : List It :=
  if (out.any fun x => x.1 == nm) = true then out else if (marksJ a b ds nm).isEmpty = true then out else insN out (nm, marksJ a b ds nm)
def dotsJ (a b : Ca) : List (Int × Int) := setL (dotsI a.2 ++ dotsI b.2)
def namesJ (a b : Ca) : List (List UInt8) := a.2.map (·.1) ++ b.2.map (·.1)
def joinI (a b : Ca) : List It := (namesJ a b).foldl (stepJ a b (dotsJ a b)) []
def joinK (a b : Ca) : Ca := (unionC a.1.1 a.1.2 b.1.1 b.1.2, joinI a b)

theorem mem_dotsI {l : List It} {p : Int × Int} : p ∈ dotsI l ↔ ∃ x ∈ l, ∃ m ∈ x.2, dotM m = p := by
  rw [dotsI_all, mem_setL]
  unfold allD
  rw [List.mem_flatMap]
  constructor
  · rintro ⟨x, hx, h⟩
    obtain ⟨m, hm, rfl⟩ := List.mem_map.1 h
    exact ⟨x, hx, m, hm, rfl⟩
  · rintro ⟨x, hx, m, hm, rfl⟩
    exact ⟨x, hx, List.mem_map.2 ⟨m, hm, rfl⟩⟩
section
variable {a b : Ca} (ha : validK a = true) (hb : validK b = true)
/-- Where a mark of the join comes from. -/
theorem joined_from {nm : List UInt8} {d : Int × Int} {m : Mk} (h : joinedK a b nm d = some m) : markL a.2 nm d = some m ∨ markL b.2 nm d = some m := meetO_mem h
theorem joined_item {nm : List UInt8} {d : Int × Int} {m : Mk} (h : joinedK a b nm d = some m) : ∃ x, (x ∈ a.2 ∨ x ∈ b.2) ∧ x.1 = nm ∧ m ∈ x.2 ∧ dotM m = d := by
  rcases joined_from h with h | h
  · obtain ⟨x, hx, h1, h2, h3⟩ := markL_some h
    exact ⟨x, .inl hx, h1, h2, h3⟩
  · obtain ⟨x, hx, h1, h2, h3⟩ := markL_some h
    exact ⟨x, .inr hx, h1, h2, h3⟩
theorem joined_dot {nm : List UInt8} {d : Int × Int} {m : Mk} (h : joinedK a b nm d = some m) : dotM m = d := by
  obtain ⟨_, _, _, _, h⟩ := joined_item h
  exact h
theorem joined_in {nm : List UInt8} {d : Int × Int} {m : Mk} (h : joinedK a b nm d = some m) : d ∈ dotsJ a b ∧ nm ∈ namesJ a b := by
  obtain ⟨x, hx, hn, hm, hd⟩ := joined_item h
  unfold dotsJ namesJ
  rw [mem_setL, List.mem_append, List.mem_append]
  rcases hx with hx | hx
  · exact ⟨.inl (mem_dotsI.2 ⟨x, hx, m, hm, hd⟩), .inl (List.mem_map.2 ⟨x, hx, hn⟩)⟩
  · exact ⟨.inr (mem_dotsI.2 ⟨x, hx, m, hm, hd⟩), .inr (List.mem_map.2 ⟨x, hx, hn⟩)⟩
theorem mem_marksJ {ds : List (Int × Int)} {nm : List UInt8} {m : Mk} : m ∈ marksJ a b ds nm ↔ ∃ d ∈ ds, joinedK a b nm d = some m := by
  unfold marksJ
  rw [List.mem_filterMap]
theorem marksJ_dots (ds : List (Int × Int)) (nm : List UInt8) : (dotsM (marksJ a b ds nm)).Sublist ds := by
  induction ds with
  | nil => exact List.Sublist.refl _
  | cons d r ih =>
    unfold marksJ at ih ⊢
    rw [List.filterMap_cons]
    cases h : joinedK a b nm d with
    | none => exact ih.cons d
    | some m =>
      have e : (m.r, m.c) = d := joined_dot h
      show List.Sublist ((m.r, m.c) :: dotsM _) (d :: r)
      rw [e]
      exact ih.cons_cons d
/-- The items behind some of the names. -/
theorem joinI_inv : ∀ (ns pre : List (List UInt8)) (out : List It), IncN out → (∀ x : It, x ∈ out ↔ x.1 ∈ pre ∧ x.2 = marksJ a b (dotsJ a b) x.1 ∧ x.2.isEmpty = false) →
    IncN (ns.foldl (stepJ a b (dotsJ a b)) out) ∧ ∀ x : It, x ∈ ns.foldl (stepJ a b (dotsJ a b)) out ↔ x.1 ∈ pre ++ ns ∧ x.2 = marksJ a b (dotsJ a b) x.1 ∧ x.2.isEmpty = false
  | [], pre, out, hi, hm => by rw [List.append_nil]; exact ⟨hi, hm⟩
  | nm :: ns, pre, out, hi, hm => by
    rw [show pre ++ nm :: ns = (pre ++ [nm]) ++ ns by simp]
    refine joinI_inv ns (pre ++ [nm]) (stepJ a b (dotsJ a b) out nm) ?_ ?_
    · unfold stepJ
      split
      · exact hi
      · rename_i h1
        split
        · exact hi
        · refine hi.ins fun y hy e => h1 (List.any_eq_true.2 ⟨y, hy, by simpa using e⟩)
    · intro x
      unfold stepJ
      split
      · rename_i h1
        obtain ⟨y, hy, hyn⟩ := List.any_eq_true.1 h1
        have hyn : y.1 = nm := by simpa using hyn
        rw [hm, List.mem_append, List.mem_singleton]
        constructor
        · rintro ⟨h2, h3⟩; exact ⟨.inl h2, h3⟩
        · rintro ⟨h2 | h2, h3⟩
          · exact ⟨h2, h3⟩
          · exact ⟨by rw [h2, ← hyn]; exact ((hm y).1 hy).1, h3⟩
      · rename_i h1
        split
        · rename_i h2
          rw [hm, List.mem_append, List.mem_singleton]
          constructor
          · rintro ⟨h3, h4⟩; exact ⟨.inl h3, h4⟩
          · rintro ⟨h3 | h3, h4, h5⟩
            · exact ⟨h3, h4, h5⟩
            · rw [h4, h3, h2] at h5; cases h5
        · rename_i h2
          rw [mem_insN, hm, List.mem_append, List.mem_singleton]
          constructor
          · rintro (⟨h3, h4⟩ | rfl)
            · exact ⟨.inl h3, h4⟩
            · exact ⟨.inr rfl, rfl, by simpa using h2⟩
          · rintro ⟨h3 | h3, h4, h5⟩
            · exact .inl ⟨h3, h4, h5⟩
            · exact .inr (Prod.ext h3 (by rw [h4, h3]))
theorem mem_joinI {x : It} : x ∈ joinI a b ↔ x.1 ∈ namesJ a b ∧ x.2 = marksJ a b (dotsJ a b) x.1 ∧ x.2.isEmpty = false := by
  have := (joinI_inv (a := a) (b := b) (namesJ a b) [] [] List.Pairwise.nil (fun x => by simp)).2 x
  rwa [List.nil_append] at this
include ha hb
theorem item_ok {x : It} (hx : x ∈ a.2 ∨ x ∈ b.2) : okI x = true := by
  rcases hx with hx | hx
  · exact (validK_iff.1 ha).2.1.1 x hx
  · exact (validK_iff.1 hb).2.1.1 x hx
theorem marksJ_ok {nm : List UInt8} (hn : (marksJ a b (dotsJ a b) nm).isEmpty = false) : okI (nm, marksJ a b (dotsJ a b) nm) = true := by
  obtain ⟨m, hm⟩ : ∃ m, m ∈ marksJ a b (dotsJ a b) nm := by
    cases h : marksJ a b (dotsJ a b) nm with
    | nil => rw [h] at hn; cases hn
    | cons m r => exact ⟨m, by simp⟩
  obtain ⟨d, _, hj⟩ := mem_marksJ.1 hm
  obtain ⟨x, hx, hxn, _, _⟩ := joined_item hj
  have h1 := (okI_parts (item_ok ha hb hx)).1
  unfold okI
  simp only [Bool.and_eq_true, decide_eq_true_eq, isSetB_inc]
  refine ⟨by rw [← hxn]; exact h1, List.length_pos_of_mem hm, ?_, (inc_setL _).sublist (marksJ_dots _ _)⟩
  rw [List.all_eq_true]
  intro z hz
  obtain ⟨d, _, hj⟩ := mem_marksJ.1 hz
  obtain ⟨y, hy, _, hzy, _⟩ := joined_item hj
  exact List.all_eq_true.1 (okI_parts (item_ok ha hb hy)).2.2.1 z hzy
/-- A dot stays under one name. -/
theorem joined_one {nm nm' : List UInt8} {d : Int × Int} {m m' : Mk} (h : joinedK a b nm d = some m) (h' : joinedK a b nm' d = some m') : nm = nm' := by
  have one : ∀ {c : Ca}, validK c = true → ∀ {n n' : List UInt8} {u u' : Mk}, markL c.2 n d = some u → markL c.2 n' d = some u' → n = n' := by
    intro c hc n n' u u' k k'
    obtain ⟨x, hx, hxn, hux, hud⟩ := markL_some k
    obtain ⟨y, hy, hyn, huy, hud'⟩ := markL_some k'
    by_cases e : x.1 = y.1
    · rw [← hxn, ← hyn, e]
    · have h0 := meet_no.1 ((validK_iff.1 hc).2.1.apart hx hy e) d (by rw [← hud]; exact List.mem_map.2 ⟨u, hux, rfl⟩) d (by rw [← hud']; exact List.mem_map.2 ⟨u', huy, rfl⟩)
      exact absurd rfl h0
  cases ea : markL a.2 nm d with
  | some u =>
    cases ea' : markL a.2 nm' d with
    | some u' => exact one ha ea ea'
    | none =>
      have hp := validK_seen ha nm d (by rw [ea]; rfl)
      unfold joinedK at h'
      rw [ea', hp] at h'
      cases eb' : markL b.2 nm' d with
      | none => rw [eb'] at h'; cases h'
      | some y => rw [eb'] at h'; simp [meetO] at h'
  | none =>
    have hbn : markL b.2 nm d = some m := by
      rcases joined_from h with h1 | h1
      · rw [ea] at h1; cases h1
      · exact h1
    have hq := validK_seen hb nm d (by rw [hbn]; rfl)
    cases eb' : markL b.2 nm' d with
    | some y => exact one hb hbn eb'
    | none =>
      unfold joinedK at h'
      rw [eb', hq] at h'
      cases ea' : markL a.2 nm' d with
      | none => rw [ea'] at h'; cases h'
      | some x => rw [ea'] at h'; simp [meetO] at h'
theorem joinI_good : Good (joinI a b) := by
  refine Good.of (fun x hx => ?_) (joinI_inv (a := a) (b := b) (namesJ a b) [] [] List.Pairwise.nil (fun x => by simp)).1 fun x hx y hy hn => ?_
  · obtain ⟨_, h2, h3⟩ := mem_joinI.1 hx
    have e : x = (x.1, marksJ a b (dotsJ a b) x.1) := Prod.ext rfl h2
    rw [e]
    exact marksJ_ok ha hb (by rw [← h2]; exact h3)
  · rw [meet_no]
    intro d hd e he hde
    subst hde
    obtain ⟨m, hm, rfl⟩ := List.mem_map.1 hd
    obtain ⟨m', hm', e'⟩ := List.mem_map.1 he
    rw [(mem_joinI.1 hx).2.1] at hm
    rw [(mem_joinI.1 hy).2.1] at hm'
    obtain ⟨d1, _, j1⟩ := mem_marksJ.1 hm
    obtain ⟨d2, _, j2⟩ := mem_marksJ.1 hm'
    have k1 : (m.r, m.c) = d1 := joined_dot j1
    have k2 : (m'.r, m'.c) = d2 := joined_dot j2
    rw [← k1] at j1
    rw [← k2, e'] at j2
    exact hn (joined_one ha hb j1 j2)
theorem joinI_mark (nm : List UInt8) (d : Int × Int) : markL (joinI a b) nm d = joinedK a b nm d := by
  have hg := joinI_good ha hb
  cases hj : joinedK a b nm d with
  | some m =>
    obtain ⟨h1, h2⟩ := joined_in hj
    have hm : m ∈ marksJ a b (dotsJ a b) nm := mem_marksJ.2 ⟨d, h1, hj⟩
    refine hg.mark_iff.2 ⟨(nm, marksJ a b (dotsJ a b) nm), mem_joinI.2 ⟨h2, rfl, ?_⟩, rfl, hm, joined_dot hj⟩
    cases he : marksJ a b (dotsJ a b) nm with
    | nil => rw [he] at hm; cases hm
    | cons _ _ => rfl
  | none =>
    cases hm : markL (joinI a b) nm d with
    | none => rfl
    | some m =>
      obtain ⟨x, hx, hxn, hmx, hmd⟩ := markL_some hm
      rw [(mem_joinI.1 hx).2.1, hxn] at hmx
      obtain ⟨d', _, hj'⟩ := mem_marksJ.1 hmx
      have := joined_dot hj'
      rw [hmd] at this
      rw [← this, hj] at hj'
      cases hj'
theorem joinK_has (p : Int × Int) : hasK (joinK a b) p = (hasK a p || hasK b p) :=
  unionC_has (compC_iff.1 (validK_iff.1 ha).1).2 (compC_iff.1 (validK_iff.1 hb).1).2 p.1 p.2
theorem joinK_valid : validK (joinK a b) = true := by
  refine validK_iff.2 ⟨unionC_comp (compC_iff.1 (validK_iff.1 ha).1).2 (compC_iff.1 (validK_iff.1 hb).1).2, joinI_good ha hb, fun p hp => ?_⟩
  show hasK (joinK a b) p = true
  rw [joinK_has ha hb]
  obtain ⟨x, hx, m, hm, hd⟩ := mem_dotsI.1 hp
  have h1 := (joinI_good ha hb).mark hx hm
  rw [joinI_mark ha hb, hd] at h1
  exact meetO_seen (validK_seen ha x.1 p) (validK_seen hb x.1 p) (by show (joinedK a b x.1 p).isSome = true; rw [h1]; rfl)
end
theorem joinK_self {a : Ca} (ha : validK a = true) : joinK a a = a := by
  refine validK_ext (joinK_valid ha ha) ha (fun p => ?_) fun nm p => ?_
  · rw [joinK_has ha ha, Bool.or_self]
  · show markL (joinI a a) nm p = markL a.2 nm p
    rw [joinI_mark ha ha]
    exact meetO_self
theorem joinK_assoc {a b c : Ca} (ha : validK a = true) (hb : validK b = true) (hc : validK c = true) : joinK (joinK a b) c = joinK a (joinK b c) := by
  have hab := joinK_valid ha hb
  have hbc := joinK_valid hb hc
  refine validK_ext (joinK_valid hab hc) (joinK_valid ha hbc) (fun p => ?_) fun nm p => ?_
  · rw [joinK_has hab hc, joinK_has ha hbc, joinK_has ha hb, joinK_has hb hc, Bool.or_assoc]
  · show markL (joinI (joinK a b) c) nm p = markL (joinI a (joinK b c)) nm p
    rw [joinI_mark hab hc, joinI_mark ha hbc]
    unfold joinedK
    rw [joinK_has ha hb, joinK_has hb hc, show markL (joinK a b).2 nm p = joinedK a b nm p from joinI_mark ha hb nm p, show markL (joinK b c).2 nm p = joinedK b c nm p from joinI_mark hb hc nm p]
    exact meetO_assoc (validK_seen ha nm p) (validK_seen hb nm p) (validK_seen hc nm p)
/-- A cart with nothing in it. -/
theorem validK_zero : validK (([], []), []) = true := by decide
end

section
open Go.RowKit

def zeroK : Ca := (([], []), [])
theorem validK_zeroK : validK zeroK = true := validK_zero
end

section
open Go.RowKit

/-- What holds while Missing's boxes are laid. -/
def KM (w : World) (x y : Value) (W : World) : Prop := Below (w.heap.size + 1) (w.alloc (.cells #[x, y] 25)) W
section
variable {w W W' : World} {x y : Value}
theorem KM.cells (h : KM w x y W) : W.cell? ⟨w.heap.size, 0, none⟩ = some x ∧ W.cell? ⟨w.heap.size, 1, none⟩ = some y := by
  have hb : Blk2 (w.alloc (.cells #[x, y] 25)) w.heap.size x y := heap_alloc_new w _
  exact ⟨(h.cell (p := ⟨w.heap.size, 0, none⟩) (by simp)).trans hb.cell0, (h.cell (p := ⟨w.heap.size, 1, none⟩) (by simp)).trans hb.cell1⟩
theorem KM.size (h : KM w x y W) : w.heap.size + 1 ≤ W.heap.size := by have := Below.size h; simpa using this
theorem KM.below (h : KM w x y W) (hb : Below W.heap.size W W') : KM w x y W' := Below.trans h (hb.mono h.size)
theorem KM.drew (h : KM w x y W) : KM w x y W.drew := h.below (Below.refl _ W).drew
theorem KM.alloc (h : KM w x y W) (o : Obj) : KM w x y (W.alloc o) := h.below ((Below.refl _ W).alloc (Nat.le_refl _) o)
theorem KM.store (h : KM w x y W) {b : Nat} (hb : w.heap.size + 1 ≤ b) (u : Value) : KM w x y (W.setCell ⟨b, 0, none⟩ u) := Below.setCell (p := ⟨b, 0, none⟩) h hb u
theorem KM.bel (h : KM w x y W) : Below w.heap.size w W := ((Below.refl _ w).alloc (Nat.le_refl _) _).trans (Below.mono h (by omega))
end

def KMS (w : World) (x y : Value) (W : World) : Prop := W.cell? ⟨w.heap.size, 0, none⟩ = some x ∧ W.cell? ⟨w.heap.size, 1, none⟩ = some y ∧ KM w x y W
section
variable {w W W' : World} {x y : Value}
theorem KMS.of (h : KM w x y W) : KMS w x y W := ⟨h.cells.1, h.cells.2, h⟩
theorem KMS.km (h : KMS w x y W) : KM w x y W := h.2.2
theorem KMS.drew (h : KMS w x y W) : KMS w x y W.drew := .of h.km.drew
theorem KMS.alloc (h : KMS w x y W) (o : Obj) : KMS w x y (W.alloc o) := .of (h.km.alloc o)
theorem KMS.store (h : KMS w x y W) {b : Nat} (hb : w.heap.size + 1 ≤ b) (u : Value) : KMS w x y (W.setCell ⟨b, 0, none⟩ u) := .of (h.km.store hb u)
theorem KMS.below (h : KMS w x y W) (hb : Below W.heap.size W W') : KMS w x y W' := .of (h.km.below hb)
theorem Boxed.below {b : Nat} {t : TypeId} {v : Value} (h : Boxed W b t v) (hb : Below W.heap.size W W') : Boxed W' b t v := (hb.block b h.lt).trans h
end

theorem lt_two (a : Nat) : a < a + 1 + 1 := by omega
theorem heap_drew (W : World) : W.drew.heap = W.heap := rfl
theorem cell_other {W : World} {a b : Addr} {u v : Value} (h : W.cell? a = some u) (hne : a.block ≠ b.block) : (W.setCell b v).cell? a = some u := (World.cell?_of_block (Below.heap_setCell W b v a.block hne)).trans h
theorem dots_of_row {W : World} {B n c : Nat} {A : Option Addr} {xs : List (Int × Int)} (h : W.ownsRow B 30 2 (.slice A n c) xs.length (cellsOf encD xs)) : DotsAt W A xs := by
  obtain ⟨A', c', e, _, _, hd⟩ := SlAt.of_own encD_len h
  cases e
  exact hd
/-- What the first region leaves. -/
def MisR (w : World) (vs ls : List (Int × Int)) (n : Nat) (p q : Value) (W : World) : Prop :=
  ∃ b5 b6 mb A cap, ∃ D : DataW Unit, p = .pointer (some ⟨b5, 0, none⟩) ∧ q = .pointer (some ⟨b6, 0, none⟩) ∧ W.cell? ⟨b5, 0, none⟩ = some (.map (some mb)) ∧ W.cell? ⟨b6, 0, none⟩ = some (.slice A (ordL ls).length cap) ∧
    DotsAt W A (ordL ls) ∧ W.ownsMap Tryz.prog 3 (plainElem Tryz.prog 3) mb n D ∧ GetF D (getV vs) ∧ Below w.heap.size w W
set_option maxRecDepth 100000 in
set_option maxHeartbeats 8000000 in
theorem ctxMissing (v : Value) (X : Option Addr) (cx : Nat) (zs : List WD) (ls m : List (Int × Int)) (w : World) (h : HoldsC w v (zs.map (·.1)) ls) (hx : Holds w (.slice X m.length cx) m) (hm : zs.length + ls.length + m.length ≤ 3000) :
    Calls Tryz.prog 61 #[v, .slice X m.length cx] w fun e w' => (∃ v', e = .returned v' ∧ MineV w w' v' (missC (zs.map (·.1)) ls m)) ∧ Below w.heap.size w w' := by
  obtain ⟨A, n, B, k0, rfl, h1, h2⟩ := h
  have K : KM w (.slice A zs.length n) (.slice B ls.length k0) (w.alloc (.cells #[.slice A zs.length n, .slice B ls.length k0] 25)) := Below.refl _ _
  have h1' : Holds w (.slice A zs.length n) (zs.map (·.1)) := by simpa using h1
  have HC := Lib.hid fun W (hW : KMS w (.slice A zs.length n) (.slice B ls.length k0) W) => ctxCounters A n zs W (h1'.below hW.km.bel) (by omega)
  have HS := Lib.hid fun W (hW : KMS w (.slice A zs.length n) (.slice B ls.length k0) W) => dotSet B ls k0 W (by obtain ⟨A', c', e, h, _⟩ := h2.below hW.km.bel; cases e; exact h) (by omega)
  have hl : (zs.map (·.1)).length = zs.length := by simp
  rw [hl]
  clear h1 h1' h2 hl
  go_enter Tryz.func61, Tryz.ntmps61
  go_wp2_with fail
  go_cut [5, 6] (fun p q wx => MisR w (zs.map (·.1)) ls zs.length p q wx)
  case first =>
    have KK := KMS.of K
    have hsw := KK.km.size
    generalize w.alloc (.cells #[.slice A zs.length n, .slice B ls.length k0] 25) = W0 at KK hsw ⊢
    clear K
    obtain ⟨q0, q1, q2⟩ := id KK
    go_region_held3 (fun W => W.cell? ⟨w.heap.size, 0, none⟩ = some (.slice A zs.length n) ∧ W.cell? ⟨w.heap.size, 1, none⟩ = some (.slice B ls.length k0) ∧ KM w (.slice A zs.length n) (.slice B ls.length k0) W)
      (first
        | assumption
        | (exact KMS.drew (by assumption))
        | (show KMS w (.slice A zs.length n) (.slice B ls.length k0) _
           repeat (first
             | assumption
             | refine KMS.drew ?_
             | refine KMS.alloc ?_ _
             | refine KMS.store ?_ (by first | omega | (simp; omega)) _)))
      (first
        | (go_at_call 110; refine (HC.out _ (by assumption)).mono ?_
           rintro e wa ⟨mb, D, rfl, hmb, hb9, hmap, hget⟩
           have hS9 := KMS.below (by assumption) hb9
           have hsz9 := hS9.km.size
           have hmb2 := hmb
           try simp only [heap_drew, World.size_alloc] at hmb2
           have hml := hmap.lt
           obtain ⟨hc9, hf9⟩ := bcell hb9
           have zs9 := hb9.size
           try simp only [heap_drew, World.size_alloc] at zs9
           try (have z0 : W0.heap.size + 2 ≤ wa.heap.size := zs9)
           try (have z0 : W0.heap.size + 1 ≤ wa.heap.size := zs9)
           have z0' : W0.heap.size ≤ wa.heap.size := by first | exact zs9 | omega
           clear zs9
           have p0 := hc9 W0.heap.size 0
           have p0f := hf9 W0.heap.size 0
           have p1 := hc9 (W0.heap.size + 1) 0
           have p1f := hf9 (W0.heap.size + 1) 0
           try simp [lt_two, heap_drew] at p0
           try simp [lt_two, heap_drew] at p0f
           try simp [heap_drew] at p1
           try simp [heap_drew] at p1f
           try (have n0 : ¬ W0.heap.size = wa.heap.size := by omega)
           try (have n1 : ¬ W0.heap.size + 1 = wa.heap.size := by omega)
           clear hc9 hf9)
        | (go_at_call 111; refine (HS.out _ (by assumption)).mono ?_
           rintro e wb ⟨v12, rfl, hmine⟩
           have hb12 := hmine.2
           have hv12 := hmine.holds
           have hS12 := KMS.below (by assumption) hb12
           have hrow : wb.ownsRow w.heap.size 30 2 v12 (ordL ls).length (cellsOf encD (ordL ls)) := Joins.ownsRow_le hmine.1 (by (try simp only [World.size_alloc]); omega)
           have hlt12 := hmine.1.lt
           try simp only [World.size_alloc] at hlt12
           have hmap12 : wb.ownsMap Tryz.prog 3 (plainElem Tryz.prog 3) mb zs.length D := World.ownsMap.kept (by repeat (first | exact hmap | refine World.ownsMap.alloc ?_ _)) (grown_of_below2 hb12 none) (by simp)
           have hsz12 := hS12.km.size
           obtain ⟨hc12, hf12⟩ := bcell hb12
           have zs12 := hb12.size
           try simp only [World.size_alloc] at zs12
           try (have y0 : wa.heap.size + 2 ≤ wb.heap.size := zs12)
           try (have y0 : wa.heap.size + 1 ≤ wb.heap.size := zs12)
           have y0' : wa.heap.size ≤ wb.heap.size := by first | exact zs12 | omega
           clear zs12
           have p2 := hc12 wa.heap.size 0
           have p2f := hf12 wa.heap.size 0
           have p3 := hc12 (wa.heap.size + 1) 0
           have p3f := hf12 (wa.heap.size + 1) 0
           have e4 : W0.heap.size < wa.heap.size → W0.heap.size < wa.heap.size + 1 := by omega
           have p4 := hc12 W0.heap.size 0
           have p4f := hf12 W0.heap.size 0
           have p5 := hc12 (W0.heap.size + 1) 0
           have p5f := hf12 (W0.heap.size + 1) 0
           try simp [lt_two] at p2
           try simp [lt_two] at p2f
           try simp [] at p3
           try simp [] at p3f
           have c4 : W0.heap.size < wa.heap.size + 1 := by omega
           first
             | (have z0s : W0.heap.size < wa.heap.size := by omega
                simp [c4, z0s, p0, p0f] at p4 p4f)
             | skip
           first
             | (have z1s : W0.heap.size + 1 < wa.heap.size := by omega
                have c5 : W0.heap.size + 1 < wa.heap.size + 1 := by omega
                simp [c5, z1s, p1, p1f] at p5 p5f)
             | skip
           clear e4 c4
           try (have m0 : ¬ W0.heap.size = wb.heap.size := by omega)
           try (have m1 : ¬ W0.heap.size + 1 = wb.heap.size := by omega)
           try (have m2 : ¬ wa.heap.size = wb.heap.size := by omega)
           try (have m3 : ¬ wa.heap.size + 1 = wb.heap.size := by omega)
           try (have m4 : ¬ wb.heap.size = W0.heap.size := by omega)
           try (have m5 : ¬ wb.heap.size = W0.heap.size + 1 := by omega)
           try (have m6 : ¬ wb.heap.size = wa.heap.size := by omega)
           try (have m7 : ¬ wb.heap.size = wa.heap.size + 1 := by omega)
           try (have m8 : wa.heap.size < wb.heap.size := by omega)
           try (have m9 : wa.heap.size + 1 < wb.heap.size := by omega)
           try (have ma : W0.heap.size < wb.heap.size := by omega)
           try (have mb2 : W0.heap.size + 1 < wb.heap.size := by omega)
           clear hc12 hf12
           obtain ⟨A12, c12, rfl, _⟩ := id hv12))
    all_goals
      have hF := KMS.km (x := .slice A zs.length n) (y := .slice B ls.length k0) (by assumption)
      go_wp2_with fail
      go_meet
      refine ⟨_, _, mb, A12, c12, D, rfl, rfl, ?_, ?_, ?_, ?_, hget, hF.bel⟩
      · first
          | (go_simp; done)
          | exact World.cell?_setCell_same _ _ _ (by assumption)
          | exact World.cell?_setCell_same _ _ _ (cell_other (by assumption) (by simp))
          | exact cell_other (World.cell?_setCell_same _ _ _ (by assumption)) (by simp)
      · first
          | (go_simp; done)
          | exact World.cell?_setCell_same _ _ _ (by assumption)
          | exact World.cell?_setCell_same _ _ _ (cell_other (by assumption) (by simp))
      · refine dots_of_row (B := w.heap.size) (n := (ordL ls).length) (c := c12) ?_
        repeat (first
          | exact hrow
          | refine World.ownsRow.alloc ?_ _
          | refine ownsRow_setCell_other ?_ (fun e => by have h9 := (hlt12 _ e).1; dsimp only at h9; omega) _)
      · repeat (first
          | exact hmap12
          | refine World.ownsMap.alloc ?_ _
          | refine World.ownsMap.kept ?_ (grownBy_setCell' _ _ _) (by intro e; injection e; omega))
  case rest =>
    obtain ⟨b5, b6, mb, A12, c12, D, rfl, rfl, k5, k6, hd, hmap, hget, hbel⟩ := hcut
    have hlo := ordL_len ls
    have hlm := ordL_len m
    have hsay := Says.missing (vs := zs.map (·.1)) hd (by omega) (inc_ordL ls) k6 k5 hmap hget
    have hset := fun W (hW : Below w.heap.size w W) => dotSet X m cx W (by obtain ⟨A', c', e, h, _⟩ := hx.below hW; cases e; exact h) (by omega)
    have HY := Lib.hid hsay
    have HT := Lib.hid hset
    have HB := Lib.hid hbel
    have hmis : (ordL m).filter (fun d => !(validD d.1 d.2 && (decide (d ∈ ordL ls) || decide (d.2 ≤ getV (zs.map (·.1)) d.1)))) = missC (zs.map (·.1)) ls m := by
      unfold missC
      rw [ordL_eq, ← filter_setL]
      congr 1
      funext d
      rw [hasC_set]
      first | rfl | (rw [ordL_eq])
    have HMIS := Lib.hid hmis
    clear hsay hset hbel hmis k5 k6 hd hmap hget hx
    go_wp2_with fail
    refine (HT.out _ HB.out).mono ?_
    rintro e w3 ⟨v2, rfl, h2⟩
    have hdel := deleteFunc _ _ _ _ v2 (ordL m) w3 HY.out h2.2 h2.2.size h2.1 (by omega)
    rw [HMIS.out] at hdel
    have HD := Lib.hid hdel
    have H2 := Lib.hid h2
    clear hdel h2
    go_wp2_with fail
    refine HD.out.mono ?_
    rintro e w4 ⟨v4, rfl, ho4, hg4⟩
    have H4 := Lib.hid (show MineV w w4 v4 (missC (zs.map (·.1)) ls m) from MineV.base HB.out (show MineV _ w4 v4 (missC (zs.map (·.1)) ls m) from H2.out.step ho4 hg4))
    clear ho4 hg4
    go_wp2
    go_ret
    exact ⟨⟨_, rfl, H4.out⟩, H4.out.2⟩

end

end Go.Proofs.YtiaehpdgpjhecaaGreat
