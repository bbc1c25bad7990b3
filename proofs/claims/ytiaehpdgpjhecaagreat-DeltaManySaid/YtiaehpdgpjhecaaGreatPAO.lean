/- Several texts in one: CarL, JoiK, JoiL, JoiM, CtxZ, NamL. -/
import Derived.Test.YtiaehpdgpjhecaaGreatPAN
import Derived.Test.YtiaehpdgpjhecaaGreatPAM
import Derived.Test.YtiaehpdgpjhecaaGreatPAG
import Derived.Lib.FieldsP
import Derived.Lib.Join
import Derived.Lib.TrimUEq
import Derived.Lib.SpaceUEq
namespace Go.Proofs.YtiaehpdgpjhecaaGreat

section
open Go.RowKit

/-- Items in order: each is found by its name, has a quantity and dots. -/
theorem Good.find {l : List It} (h : Good l) {k : Nat} {x : It} (hx : l[k]? = some x) : l.find? (fun y => y.1 == x.1) = some x := by
  have hp := h.2.1
  have hm := List.mem_of_getElem? hx
  clear h hx
  induction l with
  | nil => cases hm
  | cons y r ih =>
    have hp' := List.pairwise_cons.1 hp
    rcases List.mem_cons.1 hm with rfl | hr
    · simp
    · have hne : (y.1 == x.1) = false := by
        rw [beq_eq_false_iff_ne]
        intro e
        have := hp'.1 x hr
        rw [e, beforeN_irrefl] at this; cases this
      rw [List.find?_cons, hne]
      exact ih hp'.2 hr
theorem Good.qty {l : List It} (h : Good l) {k : Nat} {x : It} (hx : l[k]? = some x) : qtyK l x.1 = ((newR x.2).1.q, 0) := by unfold qtyK; rw [h.find hx]
theorem Good.dots {l : List It} (h : Good l) {k : Nat} {x : It} (hx : l[k]? = some x) : dotsK l x.1 = dotsM x.2 ∧ 0 < (dotsM x.2).length := by
  have hk := h.1 x (List.mem_of_getElem? hx)
  have hn : x.1 ≠ [] := fun e => by
    have := (okI_parts hk).1
    rw [e] at this
    revert this; decide
  unfold dotsK
  rw [if_neg hn, h.find hx]
  exact ⟨rfl, by rw [dotsM_len]; exact (okI_parts hk).2.1⟩
end

section
open Go.RowKit

/-- The mark with a dot in a list; in the item with a name. -/
def markM (l : List Mk) (d : Int × Int) : Option Mk := l.find? fun m => decide (dotM m = d)
def markL (l : List It) (nm : List UInt8) (d : Int × Int) : Option Mk := (l.find? fun x => x.1 == nm).bind fun x => markM x.2 d
/-- Whether a cart has seen a dot. -/
def hasK (c : Ca) (d : Int × Int) : Bool := hasC c.1.1 c.1.2 d.1 d.2

theorem markM_some {l : List Mk} {d : Int × Int} {m : Mk} (h : markM l d = some m) : m ∈ l ∧ dotM m = d :=
  ⟨List.mem_of_find?_eq_some h, by simpa using List.find?_some h⟩
theorem marks_inj {l : List Mk} (h : (dotsM l).Nodup) {a b : Mk} (ha : a ∈ l) (hb : b ∈ l) (e : dotM a = dotM b) : a = b := by
  induction l with
  | nil => cases ha
  | cons z l ih =>
    have h' : (dotM z :: dotsM l).Nodup := h
    rw [List.nodup_cons] at h'
    rcases List.mem_cons.1 ha with ha' | ha'
    · rcases List.mem_cons.1 hb with hb' | hb'
      · rw [ha', hb']
      · exact absurd (by rw [← ha', e]; exact List.mem_map.2 ⟨b, hb', rfl⟩) h'.1
    · rcases List.mem_cons.1 hb with hb' | hb'
      · exact absurd (by rw [← hb', ← e]; exact List.mem_map.2 ⟨a, ha', rfl⟩) h'.1
      · exact ih h'.2 ha' hb'
theorem markM_mem {l : List Mk} (h : Inc (dotsM l)) {m : Mk} (hm : m ∈ l) : markM l (dotM m) = some m := by
  cases hf : markM l (dotM m) with
  | none =>
    have := List.find?_eq_none.1 hf m hm
    simp at this
  | some z =>
    obtain ⟨hz, hd⟩ := markM_some hf
    have hn := inc_nodup h
    congr 1
    exact marks_inj hn hz hm hd

theorem Good.findN {l : List It} (h : Good l) {x : It} (hx : x ∈ l) : l.find? (fun y => y.1 == x.1) = some x := by
  obtain ⟨k, hk⟩ := List.getElem?_of_mem hx
  exact h.find hk
theorem markL_some {l : List It} {nm : List UInt8} {d : Int × Int} {m : Mk} (h : markL l nm d = some m) : ∃ x ∈ l, x.1 = nm ∧ m ∈ x.2 ∧ dotM m = d := by
  unfold markL at h
  cases hf : l.find? (fun x => x.1 == nm) with
  | none => rw [hf] at h; cases h
  | some x =>
    rw [hf] at h
    obtain ⟨h1, h2⟩ := markM_some (show markM x.2 d = some m from h)
    exact ⟨x, List.mem_of_find?_eq_some hf, by simpa using List.find?_some hf, h1, h2⟩
theorem Good.mark {l : List It} (h : Good l) {x : It} (hx : x ∈ l) {m : Mk} (hm : m ∈ x.2) : markL l x.1 (dotM m) = some m := by
  unfold markL
  rw [h.findN hx]
  exact markM_mem (okI_parts (h.1 x hx)).2.2.2 hm
theorem Good.mark_iff {l : List It} (h : Good l) {nm : List UInt8} {d : Int × Int} {m : Mk} : markL l nm d = some m ↔ ∃ x ∈ l, x.1 = nm ∧ m ∈ x.2 ∧ dotM m = d :=
  ⟨markL_some, fun ⟨x, hx, e, hm, hd⟩ => by subst e hd; exact h.mark hx hm⟩
/-- Lists of items that have the same marks are the same. -/
theorem Good.ext {l k : List It} (h : Good l) (h' : Good k) (he : ∀ nm d, markL l nm d = markL k nm d) : l = k := by
  have sub : ∀ {l k : List It}, Good l → Good k → (∀ nm d, markL l nm d = markL k nm d) → ∀ x ∈ l, ∃ y ∈ k, y.1 = x.1 ∧ ∀ m ∈ x.2, m ∈ y.2 := by
    intro l k h h' he x hx
    obtain ⟨m0, hm0⟩ : ∃ m, m ∈ x.2 := by
      have := (okI_parts (h.1 x hx)).2.1
      exact ⟨x.2[0], List.getElem_mem _⟩
    have h1 := h.mark hx hm0
    rw [he] at h1
    obtain ⟨y, hy, hyn, _⟩ := markL_some h1
    refine ⟨y, hy, hyn, fun m hm => ?_⟩
    have h2 := h.mark hx hm
    rw [he] at h2
    obtain ⟨z, hz, hzn, hmz, _⟩ := markL_some h2
    obtain rfl : z = y := h'.2.1.name hz hy (hzn.trans hyn.symm)
    exact hmz
  have mem : ∀ {l k : List It}, Good l → Good k → (∀ nm d, markL l nm d = markL k nm d) → ∀ x ∈ l, x ∈ k := by
    intro l k h h' he x hx
    obtain ⟨y, hy, hyn, hxy⟩ := sub h h' he x hx
    obtain ⟨z, hz, hzn, hyz⟩ := sub h' h (fun nm d => (he nm d).symm) y hy
    obtain rfl : z = x := h.2.1.name hz hx (hzn.trans hyn)
    have e : y.2 = z.2 := incM_ext (okI_parts (h'.1 y hy)).2.2.2 (okI_parts (h.1 z hx)).2.2.2 fun m => ⟨hyz m, hxy m⟩
    have e2 : y = z := Prod.ext hyn e
    rw [← e2]; exact hy
  exact h.2.1.ext h'.2.1 fun x => ⟨mem h h' he x, mem h' h (fun nm d => (he nm d).symm) x⟩
end

section
open Go.RowKit

theorem mem_dotsI {l : List It} {p : Int × Int} : p ∈ dotsI l ↔ ∃ x ∈ l, ∃ m ∈ x.2, dotM m = p := by
  rw [dotsI_all, mem_setL]
  unfold allD
  rw [List.mem_flatMap]
  constructor
  · rintro ⟨x, hx, h⟩
    obtain ⟨m, hm, rfl⟩ := List.mem_map.1 h
    exact ⟨x, hx, m, hm, rfl⟩
  · rintro ⟨x, hx, m, hm, rfl⟩
    exact ⟨x, hx, List.mem_map.2 ⟨m, hm, rfl⟩⟩
section
variable {a b : Ca} (ha : validK a = true) (hb : validK b = true)
end
end

section
open Go.RowKit

def zeroK : Ca := (([], []), [])
end

section
open Go.RowKit

/-- What holds while Missing's boxes are laid. -/
def KM (w : World) (x y : Value) (W : World) : Prop := Below (w.heap.size + 1) (w.alloc (.cells #[x, y] 25)) W
section
variable {w W W' : World} {x y : Value}
theorem KM.cells (h : KM w x y W) : W.cell? ⟨w.heap.size, 0, none⟩ = some x ∧ W.cell? ⟨w.heap.size, 1, none⟩ = some y := by
  have hb : Blk2 (w.alloc (.cells #[x, y] 25)) w.heap.size x y := heap_alloc_new w _
  exact ⟨(h.cell (p := ⟨w.heap.size, 0, none⟩) (by simp)).trans hb.cell0, (h.cell (p := ⟨w.heap.size, 1, none⟩) (by simp)).trans hb.cell1⟩
theorem KM.size (h : KM w x y W) : w.heap.size + 1 ≤ W.heap.size := by have := Below.size h; simpa using this
theorem KM.below (h : KM w x y W) (hb : Below W.heap.size W W') : KM w x y W' := Below.trans h (hb.mono h.size)
theorem KM.drew (h : KM w x y W) : KM w x y W.drew := h.below (Below.refl _ W).drew
theorem KM.alloc (h : KM w x y W) (o : Obj) : KM w x y (W.alloc o) := h.below ((Below.refl _ W).alloc (Nat.le_refl _) o)
theorem KM.store (h : KM w x y W) {b : Nat} (hb : w.heap.size + 1 ≤ b) (u : Value) : KM w x y (W.setCell ⟨b, 0, none⟩ u) := Below.setCell (p := ⟨b, 0, none⟩) h hb u
theorem KM.bel (h : KM w x y W) : Below w.heap.size w W := ((Below.refl _ w).alloc (Nat.le_refl _) _).trans (Below.mono h (by omega))
end

def KMS (w : World) (x y : Value) (W : World) : Prop := W.cell? ⟨w.heap.size, 0, none⟩ = some x ∧ W.cell? ⟨w.heap.size, 1, none⟩ = some y ∧ KM w x y W
section
variable {w W W' : World} {x y : Value}
theorem KMS.of (h : KM w x y W) : KMS w x y W := ⟨h.cells.1, h.cells.2, h⟩
theorem KMS.km (h : KMS w x y W) : KM w x y W := h.2.2
theorem KMS.drew (h : KMS w x y W) : KMS w x y W.drew := .of h.km.drew
theorem KMS.alloc (h : KMS w x y W) (o : Obj) : KMS w x y (W.alloc o) := .of (h.km.alloc o)
theorem KMS.store (h : KMS w x y W) {b : Nat} (hb : w.heap.size + 1 ≤ b) (u : Value) : KMS w x y (W.setCell ⟨b, 0, none⟩ u) := .of (h.km.store hb u)
theorem KMS.below (h : KMS w x y W) (hb : Below W.heap.size W W') : KMS w x y W' := .of (h.km.below hb)
theorem Boxed.below {b : Nat} {t : TypeId} {v : Value} (h : Boxed W b t v) (hb : Below W.heap.size W W') : Boxed W' b t v := (hb.block b h.lt).trans h
end

theorem lt_two (a : Nat) : a < a + 1 + 1 := by omega
theorem heap_drew (W : World) : W.drew.heap = W.heap := rfl
theorem cell_other {W : World} {a b : Addr} {u v : Value} (h : W.cell? a = some u) (hne : a.block ≠ b.block) : (W.setCell b v).cell? a = some u := (World.cell?_of_block (Below.heap_setCell W b v a.block hne)).trans h
theorem dots_of_row {W : World} {B n c : Nat} {A : Option Addr} {xs : List (Int × Int)} (h : W.ownsRow B 30 2 (.slice A n c) xs.length (cellsOf encD xs)) : DotsAt W A xs := by
  obtain ⟨A', c', e, _, _, hd⟩ := SlAt.of_own encD_len h
  cases e
  exact hd
/-- What the first region leaves. -/
def MisR (w : World) (vs ls : List (Int × Int)) (n : Nat) (p q : Value) (W : World) : Prop :=
  ∃ b5 b6 mb A cap, ∃ D : DataW Unit, p = .pointer (some ⟨b5, 0, none⟩) ∧ q = .pointer (some ⟨b6, 0, none⟩) ∧ W.cell? ⟨b5, 0, none⟩ = some (.map (some mb)) ∧ W.cell? ⟨b6, 0, none⟩ = some (.slice A (ordL ls).length cap) ∧
    DotsAt W A (ordL ls) ∧ W.ownsMap Tryz.prog 3 (plainElem Tryz.prog 3) mb n D ∧ GetF D (getV vs) ∧ Below w.heap.size w W
set_option maxRecDepth 100000 in
set_option maxHeartbeats 8000000 in
theorem ctxMissing (v : Value) (X : Option Addr) (cx : Nat) (zs : List WD) (ls m : List (Int × Int)) (w : World) (h : HoldsC w v (zs.map (·.1)) ls) (hx : Holds w (.slice X m.length cx) m) (hm : zs.length + ls.length + m.length ≤ 3000) :
    Calls Tryz.prog 61 #[v, .slice X m.length cx] w fun e w' => (∃ v', e = .returned v' ∧ MineV w w' v' (missC (zs.map (·.1)) ls m)) ∧ Below w.heap.size w w' := by
  obtain ⟨A, n, B, k0, rfl, h1, h2⟩ := h
  have K : KM w (.slice A zs.length n) (.slice B ls.length k0) (w.alloc (.cells #[.slice A zs.length n, .slice B ls.length k0] 25)) := Below.refl _ _
  have h1' : Holds w (.slice A zs.length n) (zs.map (·.1)) := by simpa using h1
  have HC := Lib.hid fun W (hW : KMS w (.slice A zs.length n) (.slice B ls.length k0) W) => ctxCounters A n zs W (h1'.below hW.km.bel) (by omega)
  have HS := Lib.hid fun W (hW : KMS w (.slice A zs.length n) (.slice B ls.length k0) W) => dotSet B ls k0 W (by obtain ⟨A', c', e, h, _⟩ := h2.below hW.km.bel; cases e; exact h) (by omega)
  have hl : (zs.map (·.1)).length = zs.length := by simp
  rw [hl]
  clear h1 h1' h2 hl
  go_enter Tryz.func61, Tryz.ntmps61
  go_wp2_with fail
  go_cut [5, 6] (fun p q wx => MisR w (zs.map (·.1)) ls zs.length p q wx)
  case first =>
    have KK := KMS.of K
    have hsw := KK.km.size
    generalize w.alloc (.cells #[.slice A zs.length n, .slice B ls.length k0] 25) = W0 at KK hsw ⊢
    clear K
    obtain ⟨q0, q1, q2⟩ := id KK
    go_region_held3 (fun W => W.cell? ⟨w.heap.size, 0, none⟩ = some (.slice A zs.length n) ∧ W.cell? ⟨w.heap.size, 1, none⟩ = some (.slice B ls.length k0) ∧ KM w (.slice A zs.length n) (.slice B ls.length k0) W)
      (first
        | assumption
        | (exact KMS.drew (by assumption))
        | (show KMS w (.slice A zs.length n) (.slice B ls.length k0) _
           repeat (first
             | assumption
             | refine KMS.drew ?_
             | refine KMS.alloc ?_ _
             | refine KMS.store ?_ (by first | omega | (simp; omega)) _)))
      (first
        | (go_at_call 110; refine (HC.out _ (by assumption)).mono ?_
           rintro e wa ⟨mb, D, rfl, hmb, hb9, hmap, hget⟩
           have hS9 := KMS.below (by assumption) hb9
           have hsz9 := hS9.km.size
           have hmb2 := hmb
           try simp only [heap_drew, World.size_alloc] at hmb2
           have hml := hmap.lt
           obtain ⟨hc9, hf9⟩ := bcell hb9
           have zs9 := hb9.size
           try simp only [heap_drew, World.size_alloc] at zs9
           try (have z0 : W0.heap.size + 2 ≤ wa.heap.size := zs9)
           try (have z0 : W0.heap.size + 1 ≤ wa.heap.size := zs9)
           have z0' : W0.heap.size ≤ wa.heap.size := by first | exact zs9 | omega
           clear zs9
           have p0 := hc9 W0.heap.size 0
           have p0f := hf9 W0.heap.size 0
           have p1 := hc9 (W0.heap.size + 1) 0
           have p1f := hf9 (W0.heap.size + 1) 0
           try simp [lt_two, heap_drew] at p0
           try simp [lt_two, heap_drew] at p0f
           try simp [heap_drew] at p1
           try simp [heap_drew] at p1f
           try (have n0 : ¬ W0.heap.size = wa.heap.size := by omega)
           try (have n1 : ¬ W0.heap.size + 1 = wa.heap.size := by omega)
           clear hc9 hf9)
        | (go_at_call 111; refine (HS.out _ (by assumption)).mono ?_
           rintro e wb ⟨v12, rfl, hmine⟩
           have hb12 := hmine.2
           have hv12 := hmine.holds
           have hS12 := KMS.below (by assumption) hb12
           have hrow : wb.ownsRow w.heap.size 30 2 v12 (ordL ls).length (cellsOf encD (ordL ls)) := Joins.ownsRow_le hmine.1 (by (try simp only [World.size_alloc]); omega)
           have hlt12 := hmine.1.lt
           try simp only [World.size_alloc] at hlt12
           have hmap12 : wb.ownsMap Tryz.prog 3 (plainElem Tryz.prog 3) mb zs.length D := World.ownsMap.kept (by repeat (first | exact hmap | refine World.ownsMap.alloc ?_ _)) (grown_of_below2 hb12 none) (by simp)
           have hsz12 := hS12.km.size
           obtain ⟨hc12, hf12⟩ := bcell hb12
           have zs12 := hb12.size
           try simp only [World.size_alloc] at zs12
           try (have y0 : wa.heap.size + 2 ≤ wb.heap.size := zs12)
           try (have y0 : wa.heap.size + 1 ≤ wb.heap.size := zs12)
           have y0' : wa.heap.size ≤ wb.heap.size := by first | exact zs12 | omega
           clear zs12
           have p2 := hc12 wa.heap.size 0
           have p2f := hf12 wa.heap.size 0
           have p3 := hc12 (wa.heap.size + 1) 0
           have p3f := hf12 (wa.heap.size + 1) 0
           have e4 : W0.heap.size < wa.heap.size → W0.heap.size < wa.heap.size + 1 := by omega
           have p4 := hc12 W0.heap.size 0
           have p4f := hf12 W0.heap.size 0
           have p5 := hc12 (W0.heap.size + 1) 0
           have p5f := hf12 (W0.heap.size + 1) 0
           try simp [lt_two] at p2
           try simp [lt_two] at p2f
           try simp [] at p3
           try simp [] at p3f
           have c4 : W0.heap.size < wa.heap.size + 1 := by omega
           first
             | (have z0s : W0.heap.size < wa.heap.size := by omega
                simp [c4, z0s, p0, p0f] at p4 p4f)
             | skip
           first
             | (have z1s : W0.heap.size + 1 < wa.heap.size := by omega
                have c5 : W0.heap.size + 1 < wa.heap.size + 1 := by omega
                simp [c5, z1s, p1, p1f] at p5 p5f)
             | skip
           clear e4 c4
           try (have m0 : ¬ W0.heap.size = wb.heap.size := by omega)
           try (have m1 : ¬ W0.heap.size + 1 = wb.heap.size := by omega)
           try (have m2 : ¬ wa.heap.size = wb.heap.size := by omega)
           try (have m3 : ¬ wa.heap.size + 1 = wb.heap.size := by omega)
           try (have m4 : ¬ wb.heap.size = W0.heap.size := by omega)
           try (have m5 : ¬ wb.heap.size = W0.heap.size + 1 := by omega)
           try (have m6 : ¬ wb.heap.size = wa.heap.size := by omega)
           try (have m7 : ¬ wb.heap.size = wa.heap.size + 1 := by omega)
           try (have m8 : wa.heap.size < wb.heap.size := by omega)
           try (have m9 : wa.heap.size + 1 < wb.heap.size := by omega)
           try (have ma : W0.heap.size < wb.heap.size := by omega)
           try (have mb2 : W0.heap.size + 1 < wb.heap.size := by omega)
           clear hc12 hf12
           obtain ⟨A12, c12, rfl, _⟩ := id hv12))
    all_goals
      have hF := KMS.km (x := .slice A zs.length n) (y := .slice B ls.length k0) (by assumption)
      go_wp2_with fail
      go_meet
      refine ⟨_, _, mb, A12, c12, D, rfl, rfl, ?_, ?_, ?_, ?_, hget, hF.bel⟩
      · first
          | (go_simp; done)
          | exact World.cell?_setCell_same _ _ _ (by assumption)
          | exact World.cell?_setCell_same _ _ _ (cell_other (by assumption) (by simp))
          | exact cell_other (World.cell?_setCell_same _ _ _ (by assumption)) (by simp)
      · first
          | (go_simp; done)
          | exact World.cell?_setCell_same _ _ _ (by assumption)
          | exact World.cell?_setCell_same _ _ _ (cell_other (by assumption) (by simp))
      · refine dots_of_row (B := w.heap.size) (n := (ordL ls).length) (c := c12) ?_
        repeat (first
          | exact hrow
          | refine World.ownsRow.alloc ?_ _
          | refine ownsRow_setCell_other ?_ (fun e => by have h9 := (hlt12 _ e).1; dsimp only at h9; omega) _)
      · repeat (first
          | exact hmap12
          | refine World.ownsMap.alloc ?_ _
          | refine World.ownsMap.kept ?_ (grownBy_setCell' _ _ _) (by intro e; injection e; omega))
  case rest =>
    obtain ⟨b5, b6, mb, A12, c12, D, rfl, rfl, k5, k6, hd, hmap, hget, hbel⟩ := hcut
    have hlo := ordL_len ls
    have hlm := ordL_len m
    have hsay := Says.missing (vs := zs.map (·.1)) hd (by omega) (inc_ordL ls) k6 k5 hmap hget
    have hset := fun W (hW : Below w.heap.size w W) => dotSet X m cx W (by obtain ⟨A', c', e, h, _⟩ := hx.below hW; cases e; exact h) (by omega)
    have HY := Lib.hid hsay
    have HT := Lib.hid hset
    have HB := Lib.hid hbel
    have hmis : (ordL m).filter (fun d => !(validD d.1 d.2 && (decide (d ∈ ordL ls) || decide (d.2 ≤ getV (zs.map (·.1)) d.1)))) = missC (zs.map (·.1)) ls m := by
      unfold missC
      rw [ordL_eq, ← filter_setL]
      congr 1
      funext d
      rw [hasC_set]
      first | rfl | (rw [ordL_eq])
    have HMIS := Lib.hid hmis
    clear hsay hset hbel hmis k5 k6 hd hmap hget hx
    go_wp2_with fail
    refine (HT.out _ HB.out).mono ?_
    rintro e w3 ⟨v2, rfl, h2⟩
    have hdel := deleteFunc _ _ _ _ v2 (ordL m) w3 HY.out h2.2 h2.2.size h2.1 (by omega)
    rw [HMIS.out] at hdel
    have HD := Lib.hid hdel
    have H2 := Lib.hid h2
    clear hdel h2
    go_wp2_with fail
    refine HD.out.mono ?_
    rintro e w4 ⟨v4, rfl, ho4, hg4⟩
    have H4 := Lib.hid (show MineV w w4 v4 (missC (zs.map (·.1)) ls m) from MineV.base HB.out (show MineV _ w4 v4 (missC (zs.map (·.1)) ls m) from H2.out.step ho4 hg4))
    clear ho4 hg4
    go_wp2
    go_ret
    exact ⟨⟨_, rfl, H4.out⟩, H4.out.2⟩

end

section

/-! ## What is made canonical -/
theorem sep_toNat (c : UInt8) : sepC c = true ↔ c.toNat = 9 ∨ c.toNat = 10 ∨ c.toNat = 13 ∨ c.toNat = 32 := by
  simp [sepC, or_assoc]
/-- No space at the ends, none behind another one. -/
structure Nice (l : List UInt8) : Prop where
  first : l[0]? ≠ some 32
  last : l[l.length - 1]? ≠ some 32
  single : ∀ i : Nat, l[i]? = some 32 → l[i + 1]? ≠ some 32
theorem Nice.nil : Nice [] := ⟨by simp, by simp, fun i h => by simp at h⟩
theorem Nice.snoc {l : List UInt8} (h : Nice l) {c : UInt8} (hc : c ≠ 32) : Nice (l ++ [c]) := by
  refine ⟨?_, ?_, ?_⟩
  · match l, h with
    | [], _ => simpa using hc
    | a :: r, h => simpa using h.first
  · simp only [List.length_append, List.length_singleton, Nat.add_sub_cancel, List.getElem?_append_right (Nat.le_refl _), Nat.sub_self]
    simpa using hc
  · intro i hi
    rcases Nat.lt_trichotomy (i + 1) l.length with h1 | h1 | h1
    · rw [List.getElem?_append_left (by omega)] at hi ⊢
      exact h.single i hi
    · rw [List.getElem?_append_left (by omega)] at hi
      rw [List.getElem?_append_right (by omega), h1, Nat.sub_self]
      have := h.last
      rw [← h1, Nat.add_sub_cancel] at this
      exact absurd hi this
    · rw [List.getElem?_append_right (by omega)]
      have : i + 1 - l.length ≠ 0 := by omega
      rw [List.getElem?_eq_none (by simp; omega)]
      simp
theorem Nice.snoc2 {l : List UInt8} (h : Nice l) (hl : l ≠ []) {c : UInt8} (hc : c ≠ 32) : Nice (l ++ [32] ++ [c]) := by
  have h0 : 0 < l.length := List.length_pos_iff.2 hl
  rw [List.append_assoc]
  refine ⟨?_, ?_, ?_⟩
  · rw [List.getElem?_append_left h0]; exact h.first
  · simp only [List.length_append, List.length_singleton]
    rw [List.getElem?_append_right (by omega), show l.length + (1 + 1) - 1 - l.length = 1 by omega]
    simpa using hc
  · intro i hi
    rcases Nat.lt_trichotomy (i + 1) l.length with h1 | h1 | h1
    · rw [List.getElem?_append_left (by omega)] at hi ⊢
      exact h.single i hi
    · rw [List.getElem?_append_left (by omega)] at hi
      have := h.last
      rw [← h1, Nat.add_sub_cancel] at this
      exact absurd hi this
    · rw [List.getElem?_append_right (by omega)] at hi ⊢
      rcases Nat.eq_or_lt_of_le (show l.length ≤ i by omega) with e | e
      · rw [show i + 1 - l.length = 1 by omega]
        simpa using hc
      · rw [List.getElem?_eq_none (by simp; omega)]
        simp
theorem canonF_nice {st : List UInt8 × Bool} (h : Nice st.1) (c : UInt8) : Nice (canonF st c).1 := by
  unfold canonF
  split
  · exact h
  · rename_i hs
    have hc : c ≠ 32 := fun e => by subst e; exact hs (by decide)
    simp only
    split
    · rename_i h2
      exact h.snoc2 (by simp at h2; exact h2.2) hc
    · rw [List.append_nil]; exact h.snoc hc
theorem canonS_nice (s : List UInt8) : Nice (canonS s).1 := by
  suffices h : ∀ k, k ≤ s.length → Nice (canonS (s.take k)).1 by
    have := h s.length (Nat.le_refl _)
    rwa [List.take_length] at this
  intro k
  induction k with
  | zero => intro _; simp [canonS, Nice.nil]
  | succ k ih =>
    intro hk
    rw [List.take_succ_eq_append_getElem (by omega), canonS_snoc]
    exact canonF_nice (ih (by omega)) _
def printC (c : UInt8) : Bool := decide (32 ≤ c.toNat) && decide (c.toNat ≤ 126)
/-- The names are what is short, of bytes that can be printed, and canonical. -/
theorem itemN_canon (s : List UInt8) : itemN s = ((decide (1 ≤ s.length) && decide (s.length ≤ 64) && s.all printC) && canonN s == s) := by
  have h1 : itemN s = true ↔ ((decide (1 ≤ s.length) && decide (s.length ≤ 64) && s.all printC) && canonN s == s) = true := by
    rw [itemN_iff]
    simp only [Bool.and_eq_true, decide_eq_true_eq, beq_iff_eq, List.all_eq_true, printC]
    constructor
    · intro h
      exact ⟨⟨⟨h.pos, h.short⟩, h.bytes⟩, canonN_item h⟩
    · rintro ⟨⟨⟨h1, h2⟩, h3⟩, h4⟩
      have hn := canonS_nice s
      have h4' : (canonS s).1 = s := h4
      rw [h4'] at hn
      exact ⟨h1, h2, hn.first, hn.last, h3, hn.single⟩
  cases h2 : itemN s with
  | true => exact (h1.1 h2).symm
  | false =>
    cases h3 : ((decide (1 ≤ s.length) && decide (s.length ≤ 64) && s.all printC) && canonN s == s) with
    | false => rfl
    | true => rw [h1.2 h3] at h2; cases h2

/-! ## Words by runes are words by bytes -/
/-- The runes that separate words. -/
def sepR (r : Nat) : Bool := r == 9 || r == 10 || r == 13 || r == 32
theorem join_snoc (A : List (List UInt8)) (x : List UInt8) : Lib.join (A ++ [x]) [32] = if A = [] then x else Lib.join A [32] ++ [32] ++ x := by
  match A with
  | [] => simp [Lib.join_one]
  | a :: r =>
    rw [if_neg (by simp), List.cons_append, Lib.join_cons, Lib.join_cons]
    simp [Lib.joinTail]
theorem join_ne {A : List (List UInt8)} (hA : A ≠ []) (h : ∀ x ∈ A, x ≠ []) : Lib.join A [32] ≠ [] := by
  match A, hA with
  | a :: r, _ =>
    rw [Lib.join_cons]
    have := h a (by simp)
    cases a with
    | nil => exact absurd rfl this
    | cons b t => simp
theorem fold_plain (bs : List UInt8) (hb : ∀ c ∈ bs, sepC c = false) (l : List UInt8) : bs.foldl canonF (l, false) = (l ++ bs, false) := by
  induction bs generalizing l with
  | nil => simp
  | cons c r ih =>
    rw [List.foldl_cons]
    have : canonF (l, false) c = (l ++ [c], false) := by
      unfold canonF
      rw [hb c (by simp)]
      simp
    rw [this, ih (fun c hc => hb c (by simp [hc]))]
    simp
theorem fold_word (c : UInt8) (r : List UInt8) (hb : ∀ x ∈ c :: r, sepC x = false) (l : List UInt8) (f : Bool) : (c :: r).foldl canonF (l, f) = (l ++ (if f && l != [] then [32] else []) ++ (c :: r), false) := by
  rw [List.foldl_cons]
  have : canonF (l, f) c = (l ++ (if f && l != [] then [32] else []) ++ [c], false) := by
    unfold canonF
    rw [hb c (by simp)]
    simp
  rw [this, fold_plain r (fun x hx => hb x (by simp [hx]))]
  simp
def piece (l : List UInt8) (x : Nat × Nat) : List UInt8 := (l.drop x.1).take (x.2 - x.1)
theorem piece_len (l : List UInt8) (a b : Nat) (h : b ≤ l.length) : (piece l (a, b)).length = b - a := by
  unfold piece
  rw [List.length_take, List.length_drop]
  simp only
  omega
theorem piece_grow (l : List UInt8) (a b k : Nat) (h : a ≤ b) : piece l (a, b + k) = piece l (a, b) ++ (l.drop b).take k := by
  unfold piece
  simp only
  rw [show b + k - a = (b - a) + k by omega, List.take_add, List.drop_drop, show a + (b - a) = b by omega]
def wordsAt (l : List UInt8) (acc : List (Nat × Nat)) : List (List UInt8) := acc.map (piece l)
/-- What the spans so far have to do with what is canonical so far. -/
structure SpanRel (l : List UInt8) (pos : Nat) (st : Option Nat) (acc : List (Nat × Nat)) : Prop where
  ne : ∀ x ∈ wordsAt l acc, x ≠ []
  opn : ∀ a, st = some a → a < pos ∧ canonS (l.take pos) = (Lib.join (wordsAt l acc ++ [piece l (a, pos)]) [32], false)
  shut : st = none → ∃ f, canonS (l.take pos) = (Lib.join (wordsAt l acc) [32], f) ∧ (f = true ∨ acc = [])
theorem canonS_take_add (l : List UInt8) (p k : Nat) : canonS (l.take (p + k)) = ((l.drop p).take k).foldl canonF (canonS (l.take p)) := by
  rw [List.take_add, canonS, canonS, List.foldl_append]
theorem wordsAt_snoc (l : List UInt8) (acc : List (Nat × Nat)) (x : Nat × Nat) : wordsAt l (acc ++ [x]) = wordsAt l acc ++ [piece l x] := by simp [wordsAt]
def accS (pos : Nat) (acc : List (Nat × Nat)) : Option Nat → List (Nat × Nat)
  | .some a => acc ++ [(a, pos)]
  | .none => acc
def stW (pos : Nat) : Option Nat → Option Nat
  | .some a => .some a
  | .none => .some pos
theorem SpanRel.sep {l : List UInt8} {pos : Nat} {st : Option Nat} {acc : List (Nat × Nat)} (h : SpanRel l pos st acc) (hp : pos < l.length) (hs : sepC l[pos] = true) :
    SpanRel l (pos + 1) none (accS pos acc st) := by
  have h1 : (l.drop pos).take 1 = [l[pos]] := by
    rw [List.drop_eq_getElem_cons hp]; rfl
  match st, h with
  | .some a, h =>
    obtain ⟨h2, h3⟩ := h.opn a rfl
    refine ⟨?_, fun _ e => (by cases e), fun _ => ⟨true, ?_, .inl rfl⟩⟩
    · intro x hx
      rw [show accS pos acc (some a) = acc ++ [(a, pos)] from rfl, wordsAt_snoc, List.mem_append] at hx
      rcases hx with hx | hx
      · exact h.ne x hx
      · simp at hx
        subst hx
        intro e
        have := piece_len l a pos (by omega)
        rw [e] at this
        simp at this
        omega
    · rw [canonS_take_add, h1, h3, show accS pos acc (some a) = acc ++ [(a, pos)] from rfl, wordsAt_snoc]
      simp [canonF, hs]
  | .none, h =>
    obtain ⟨f, h3, h4⟩ := h.shut rfl
    refine ⟨h.ne, fun _ e => (by cases e), fun _ => ⟨true, ?_, .inl rfl⟩⟩
    rw [canonS_take_add, h1, h3]
    simp [canonF, hs, accS]
theorem SpanRel.word {l : List UInt8} {pos n : Nat} {st : Option Nat} {acc : List (Nat × Nat)} (h : SpanRel l pos st acc) (hn : 1 ≤ n) (hp : pos + n ≤ l.length) (hs : ∀ c ∈ (l.drop pos).take n, sepC c = false) :
    SpanRel l (pos + n) (stW pos st) acc := by
  match st, h with
  | .some a, h =>
    obtain ⟨h2, h3⟩ := h.opn a rfl
    refine ⟨h.ne, fun b e => ?_, fun e => (by cases e)⟩
    cases e
    refine ⟨by omega, ?_⟩
    rw [canonS_take_add, h3, fold_plain _ hs, piece_grow l a pos n (by omega), join_snoc, join_snoc]
    split <;> simp
  | .none, h =>
    obtain ⟨f, h3, h4⟩ := h.shut rfl
    refine ⟨h.ne, fun b e => ?_, fun e => (by cases e)⟩
    cases e
    refine ⟨by omega, ?_⟩
    rw [canonS_take_add, h3]
    have hl : ((l.drop pos).take n).length = n := by rw [List.length_take, List.length_drop]; omega
    have e0 : piece l (pos, pos + n) = (l.drop pos).take n := by
      unfold piece
      simp only
      rw [show pos + n - pos = n by omega]
    rw [e0]
    match hm : (l.drop pos).take n, hl, hs with
    | [], hl, _ => simp at hl; omega
    | c :: r, _, hs =>
      rw [fold_word c r hs, join_snoc]
      by_cases ha : acc = []
      · subst ha
        simp [wordsAt, Lib.join_nil]
      · have hw : wordsAt l acc ≠ [] := by simpa [wordsAt] using ha
        have hf : f = true := h4.resolve_right ha
        have hj := join_ne hw h.ne
        rw [if_neg hw, hf]
        simp [hj]
/-- A rune: a byte below 128, or bytes none of which separates words. -/
theorem rune_step (l : List UInt8) (pos : Nat) (hp : pos < l.length) (r n : Nat) (hd : Utf8.decode ⟨l.toArray⟩ pos = (r, n)) :
    1 ≤ n ∧ pos + n ≤ l.length ∧ (sepR r = true → n = 1 ∧ sepC l[pos] = true) ∧ (sepR r = false → ∀ c ∈ (l.drop pos).take n, sepC c = false) := by
  have hlist : (ByteArray.mk l.toArray).data.toList = l := rfl
  have hN := Lib.decode_N ⟨l.toArray⟩ pos
  rw [hlist, hd] at hN
  have hg : ∀ k, pos + k < l.length → (l.getD (pos + k) 0) = (l.drop pos).getD k 0 := fun k _ => by simp [List.getD, List.getElem?_drop]
  have h0 : l.getD pos 0 = l[pos] := by simp [List.getD, hp]
  have hc := Lib.decodeN_conts (l.length - pos) (l.getD pos 0).toNat (l.getD (pos + 1) 0).toNat (l.getD (pos + 2) 0).toNat (l.getD (pos + 3) 0).toNat
  rw [← hN] at hc
  obtain ⟨c2, c3, c4, c5⟩ := hc
  simp only at c2 c3 c4 c5
  have w1 : 1 ≤ n := by
    have := Lib.width_pos ⟨l.toArray⟩ pos
    rw [hd] at this
    exact this
  have w2 : pos + n ≤ l.length := by omega
  have hmem : ∀ c ∈ (l.drop pos).take n, ∃ k, k < n ∧ c = l.getD (pos + k) 0 := by
    intro c hc
    obtain ⟨k, hk, e⟩ := List.getElem_of_mem hc
    rw [List.length_take, List.length_drop] at hk
    refine ⟨k, by omega, ?_⟩
    rw [← e, List.getElem_take, List.getElem_drop]
    simp [List.getD, show pos + k < l.length by omega]
  by_cases ha : l[pos].toNat < 128
  · have e : (r, n) = (l[pos].toNat, 1) := by
      rw [hN, h0]
      unfold Lib.decodeN
      rw [if_pos ha]
    cases e
    refine ⟨w1, w2, fun hs => ⟨rfl, by simpa [sepR, sepC] using hs⟩, fun hs c hc => ?_⟩
    obtain ⟨k, hk, rfl⟩ := hmem c hc
    obtain rfl : k = 0 := by omega
    rw [Nat.add_zero, h0]
    simpa [sepR, sepC] using hs
  · have hr : 128 ≤ r := by
      have e : r = (Lib.decodeN (l.length - pos) (l.getD pos 0).toNat (l.getD (pos + 1) 0).toNat (l.getD (pos + 2) 0).toNat (l.getD (pos + 3) 0).toNat).1 := by rw [← hN]
      rw [e, h0]
      unfold Lib.decodeN
      rw [if_neg ha]
      repeat' split
      all_goals (simp only; omega)
    refine ⟨w1, w2, fun hs => ?_, fun _ c hc => ?_⟩
    · simp [sepR] at hs
      omega
    · obtain ⟨k, hk, rfl⟩ := hmem c hc
      have : 128 ≤ (l.getD (pos + k) 0).toNat := by
        match k, hk with
        | 0, _ => rw [Nat.add_zero, h0]; omega
        | 1, hk => have := (c2 (by omega)).1; omega
        | 2, hk => have := (c3 (by omega)).1; omega
        | 3, hk => have := (c4 (by omega)).1; omega
        | k + 4, hk => omega
      cases e : sepC (l.getD (pos + k) 0) with
      | false => rfl
      | true => rw [sep_toNat] at e; omega
theorem spans_rel (l : List UInt8) : ∀ (f pos : Nat) (st : Option Nat) (acc : List (Nat × Nat)), l.length ≤ pos + f → pos ≤ l.length → SpanRel l pos st acc →
    SpanRel l l.length (Lib.spansFromP sepR ⟨l.toArray⟩ f pos st acc).2 (Lib.spansFromP sepR ⟨l.toArray⟩ f pos st acc).1
  | 0, pos, st, acc, h, hp, hr => by
    obtain rfl : pos = l.length := by omega
    exact hr
  | f + 1, pos, st, acc, h, hp, hr => by
    have hsz : (ByteArray.mk l.toArray).size = l.length := by show l.toArray.size = _; simp
    by_cases hlt : pos < l.length
    · obtain ⟨r, n, hd⟩ : ∃ r n, Utf8.decode ⟨l.toArray⟩ pos = (r, n) := ⟨_, _, rfl⟩
      obtain ⟨w1, w2, w3, w4⟩ := rune_step l pos hlt r n hd
      unfold Lib.spansFromP
      rw [if_pos (by rw [hsz]; exact hlt), hd]
      simp only
      by_cases hs : sepR r = true
      · obtain ⟨rfl, h2⟩ := w3 hs
        rw [if_pos hs]
        have h3 := hr.sep hlt h2
        match st, h3 with
        | some a, h3 => exact spans_rel l f _ _ _ (by omega) (by omega) h3
        | none, h3 => exact spans_rel l f _ _ _ (by omega) (by omega) h3
      · rw [if_neg hs]
        have h3 := hr.word w1 w2 (w4 (by simpa using hs))
        match st, h3 with
        | some a, h3 => exact spans_rel l f _ _ _ (by omega) (by omega) h3
        | none, h3 => exact spans_rel l f _ _ _ (by omega) (by omega) h3
    · obtain rfl : pos = l.length := by omega
      rw [Lib.spansFromP_end _ _ _ _ _ _ (by rw [hsz]; omega)]
      exact hr
theorem extract_piece (l : List UInt8) (a b : Nat) : ((ByteArray.mk l.toArray).extract a b).data.toList = piece l (a, b) := by
  unfold piece
  simp [List.extract]
/-- The words of FieldsFunc, joined by spaces, are what is canonical. -/
theorem words_canon (l : List UInt8) : Lib.join ((Lib.goFieldsP sepR ⟨l.toArray⟩).map (·.data.toList)) [32] = canonN l := by
  have hsz : (ByteArray.mk l.toArray).size = l.length := by show l.toArray.size = _; simp
  have h := spans_rel l l.length 0 none [] (by omega) (by omega) ⟨by simp [wordsAt], fun _ e => (by cases e), fun _ => ⟨false, by simp [canonS, wordsAt, Lib.join_nil], .inr rfl⟩⟩
  have e : (Lib.goFieldsP sepR ⟨l.toArray⟩).map (·.data.toList) = wordsAt l (Lib.spansOfP sepR ⟨l.toArray⟩) := by
    unfold Lib.goFieldsP wordsAt
    rw [List.map_map]
    refine List.map_congr_left fun x _ => ?_
    exact extract_piece l x.1 x.2
  rw [e]
  unfold Lib.spansOfP Lib.closeSpans
  rw [hsz]
  generalize Lib.spansFromP sepR ⟨l.toArray⟩ l.length 0 none [] = x at h
  obtain ⟨acc, st⟩ := x
  match st, h with
  | some a, h =>
    obtain ⟨_, h2⟩ := h.opn a rfl
    rw [List.take_length] at h2
    unfold canonN
    rw [h2, wordsAt_snoc]
  | none, h =>
    obtain ⟨f, h2, _⟩ := h.shut rfl
    rw [List.take_length] at h2
    unfold canonN
    rw [h2]
theorem words_len (l : List UInt8) : (Lib.goFieldsP sepR ⟨l.toArray⟩).length ≤ 2 * l.length + 1 := by
  have h := words_canon l
  have h2 := canonS_len l
  have h3 : (Lib.join ((Lib.goFieldsP sepR ⟨l.toArray⟩).map (·.data.toList)) [32]).length ≤ 2 * l.length := by rw [h]; exact h2
  match hm : Lib.goFieldsP sepR ⟨l.toArray⟩, h3 with
  | [], _ => simp
  | x :: r, h3 =>
    rw [List.map_cons, Lib.join_length] at h3
    simp at h3
    simp only [List.length_cons]
    omega

end

end Go.Proofs.YtiaehpdgpjhecaaGreat
