/- Several texts in one: CarD, CarL, JoiK, JoiL, JoiM, CtxZ. -/
import Derived.Test.YtiaehpdgpjhecaaGreatMAR
import Derived.Test.YtiaehpdgpjhecaaGreatMAQ
namespace Go.Proofs.YtiaehpdgpjhecaaGreat

section
open Go.RowKit

set_option maxHeartbeats 1000000 in
theorem refTime10 (c : CaV) (t n : Nat) (w : World) (hc : CaOK w c) (hf : Fits c.xs) (ht : ∀ m ∈ marksX c.xs, m.t < 18446744073709551616) (hv : nextR (marksX c.xs) = (t, n)) :
    Calls Tryz.prog 45 #[mkC c] w (OneB (.tuple #[.int .u64 (t : Int), .int .i64 (n : Int)]) w) := by
  have K0 := Lib.hid (KB1.new w c hc)
  have HF := Lib.hid hf
  have HV := Lib.hid hv
  have HT := Lib.hid ht
  clear hc hf hv ht
  have hl : (marksX c.xs).length ≤ maxLen := by
    have h1 := marksX_len (xs := c.xs) fun y hy => (HF.out.2 y hy).2
    have := HF.out.1
    unfold maxLen; omega
  have HL := Lib.hid hl
  clear hl
  go_enter Tryz.func45, Tryz.ntmps45
  go_wp2_with fail
  generalize World.alloc w _ = w2 at K0 ⊢
  obtain ⟨x0, x1, x2, xl, _⟩ := K0.out.sp
  go_wp2_with fail
  refine (refMarks10 c w2 K0.out.ok HF.out).mono ?_
  rintro e w3 ⟨⟨A, k, rfl, hat⟩, hb⟩
  have HAT := Lib.hid hat
  have KB := Lib.hid (K0.out.next hb).bel
  clear hb hat K0 x0 x1 x2 xl
  go_wp2_with fail
  refine (refNext A (marksX c.xs) k t n w3 HAT.out HL.out HT.out HV.out).mono ?_
  rintro e w4 ⟨rfl, hb⟩
  have KC := Lib.hid (below_trans KB.out hb)
  clear hb KB
  go_wp2_with fail
  go_ret2
  exact ⟨rfl, KC.out⟩

/-- An item with a name, by where it stands. -/
theorem findZ_cases (xs : List ItV) (nm : List UInt8) : (∃ (k : Nat) (x : ItV), xs[k]? = some x ∧ findZ (its xs) nm = (k : Int) ∧ (its xs).find? (fun y => y.1 == nm) = some x.it) ∨ (findZ (its xs) nm = -1 ∧ (its xs).find? (fun y => y.1 == nm) = none) := by
  cases h : (its xs).findIdx? (fun y => y.1 == nm) with
  | none =>
    have h' := h
    rw [List.findIdx?_eq_none_iff] at h'
    refine .inr ⟨by unfold findZ; rw [h], ?_⟩
    rw [List.find?_eq_none]
    intro y hy
    simp [h' y hy]
  | some k =>
    obtain ⟨hk, h1, h2⟩ := List.findIdx?_eq_some_iff_getElem.1 h
    have hk' : k < xs.length := by rwa [its_len] at hk
    have e : (its xs)[k] = xs[k].it := by simp
    refine .inl ⟨k, xs[k], List.getElem?_eq_getElem hk', by unfold findZ; rw [h], ?_⟩
    rw [← e, List.find?_eq_some_iff_getElem]
    exact ⟨h1, k, hk, rfl, fun j hj => by simpa using h2 j hj⟩
/-- The quantity of an item, or the error. -/
def qtyK (l : List It) (nm : List UInt8) : Int × Nat := match l.find? (fun y => y.1 == nm) with
  | some x => ((newR x.2).1.q, 0)
  | none => (0, 9)

/-- The dots of an item, or of all. -/
def dotsK (l : List It) (nm : List UInt8) : List (Int × Int) := if nm = [] then dotsI l else match l.find? (fun y => y.1 == nm) with
  | some x => dotsM x.2
  | none => []

set_option maxHeartbeats 1000000 in
theorem refDots10 (c : CaV) (nm : List UInt8) (w : World) (hc : CaOK w c) (hf : Fits c.xs) :
    Calls Tryz.prog 47 #[mkC c, .string ⟨nm.toArray⟩] w fun e w' => (∃ v, e = .returned v ∧ Holds w' v (dotsK (its c.xs) nm)) ∧ Below w.heap.size w w' := by
  have K0 := Lib.hid (KB1.new w c hc)
  have HF := Lib.hid hf
  have hm : c.xs.length ≤ 100000 := Nat.le_trans hf.1 (by decide)
  clear hc hf
  cases nm with
  | nil =>
    have HE := Lib.hid (show dotsK (its c.xs) [] = dotsI (its c.xs) from by unfold dotsK; rw [if_pos rfl])
    go_enter Tryz.func47, Tryz.ntmps47
    go_upto_region 1 with fail
    generalize World.alloc w _ = w2 at K0 ⊢
    obtain ⟨x0, x1, x2, xl, _⟩ := K0.out.sp
    go_wp2_with fail
    refine (refDots_x _ c.xs w2 K0.out.ok.2.2 HF.out).mono ?_
    rintro e w3 ⟨⟨v, rfl, hv⟩, hb⟩
    have HH := Lib.hid hv
    have KB := Lib.hid (K0.out.next hb).bel
    clear hb hv K0 x0 x1 x2 xl
    go_wp2_with fail
    go_ret
    exact ⟨⟨_, rfl, by rw [HE.out]; exact HH.out⟩, KB.out⟩
  | cons a r =>
    have hs : ((a :: r) == ([] : List UInt8)) = false := rfl
    generalize hnm : a :: r = nm at hs ⊢
    have hne : nm ≠ [] := by rw [← hnm]; simp
    clear hnm
    rcases findZ_cases c.xs nm with ⟨k, x, h1, h2, h3⟩ | ⟨h2, h3⟩
    · have hkl := (List.getElem?_eq_some_iff.1 h1).1
      have i0 : (k : Int) < (c.xs.length : Int) := by omega
      have i1 : ¬ (k : Int) < 0 := by omega
      have i2 : (0 : Int) ≤ (k : Int) := by omega
      have HE := Lib.hid (show dotsK (its c.xs) nm = dotsM x.ms from by unfold dotsK; rw [if_neg hne, h3]; rfl)
      have H2 := Lib.hid h2
      have H1 := Lib.hid h1
      have hx100 := (HF.out.2 x (List.mem_of_getElem? h1)).2
      clear h1 h2 h3 hne
      go_enter Tryz.func47, Tryz.ntmps47
      go_upto_region 1 with fail
      generalize World.alloc w _ = w2 at K0 ⊢
      obtain ⟨x0, x1, x2, xl, _⟩ := K0.out.sp
      obtain ⟨b, off, y, hI, hbl, hy1, hyk, hc0, hc1, hok⟩ := K0.out.items.cells (j := k) hkl
      obtain rfl : y = x := by rw [H1.out] at hy1; exact (Option.some.inj hy1).symm
      have HOK := Lib.hid hok
      have HFD := Lib.hid (refFind9 c.I c.xs c.ni nm (k : Int) w2 K0.out.items hm H2.out)
      change w2.cell? _ = some (.slice c.I c.xs.length c.ni) at x2
      rw [hI] at x2 HFD
      clear hyk hy1 hok hI hkl H1
      go_wp2_with fail
      refine HFD.out.mono ?_
      rintro e wq ⟨rfl, rfl⟩
      go_wp2_with fail
      refine (refDots y.A y.ms y.c w2 HOK.out.1 (by omega)).mono ?_
      rintro e w3 ⟨⟨v, rfl, hv⟩, hb⟩
      have HH := Lib.hid hv
      have KB := Lib.hid (K0.out.next hb).bel
      clear hb hv K0 x0 x1 x2 xl hc0 hc1 hbl
      go_wp2_with fail
      go_ret
      exact ⟨⟨_, rfl, by rw [HE.out]; exact HH.out⟩, KB.out⟩
    · have HE := Lib.hid (show dotsK (its c.xs) nm = [] from by unfold dotsK; rw [if_neg hne, h3])
      have H2 := Lib.hid h2
      clear h2 h3 hne
      go_enter Tryz.func47, Tryz.ntmps47
      go_upto_region 1 with fail
      generalize World.alloc w _ = w2 at K0 ⊢
      obtain ⟨x0, x1, x2, xl, _⟩ := K0.out.sp
      go_wp2_with fail
      refine (refFind9 c.I c.xs c.ni nm (-1) w2 K0.out.items hm H2.out).mono ?_
      rintro e wq ⟨rfl, rfl⟩
      have KB := Lib.hid K0.out.bel
      clear K0 x0 x1 x2 xl
      go_wp2_with fail
      go_ret
      exact ⟨⟨_, rfl, by rw [HE.out]; exact Holds.nil _⟩, KB.out⟩

end

section
open Go.RowKit

/-- Items in order: each is found by its name, has a quantity and dots. -/
theorem Good.find {l : List It} (h : Good l) {k : Nat} {x : It} (hx : l[k]? = some x) : l.find? (fun y => y.1 == x.1) = some x := by
  have hp := h.2.1
  have hm := List.mem_of_getElem? hx
  clear h hx
  induction l with
  | nil => cases hm
  | cons y r ih =>
    have hp' := List.pairwise_cons.1 hp
    rcases List.mem_cons.1 hm with rfl | hr
    · simp
    · have hne : (y.1 == x.1) = false := by
        rw [beq_eq_false_iff_ne]
        intro e
        have := hp'.1 x hr
        rw [e, beforeN_irrefl] at this; cases this
      rw [List.find?_cons, hne]
      exact ih hp'.2 hr
theorem Good.qty {l : List It} (h : Good l) {k : Nat} {x : It} (hx : l[k]? = some x) : qtyK l x.1 = ((newR x.2).1.q, 0) := by unfold qtyK; rw [h.find hx]
theorem Good.dots {l : List It} (h : Good l) {k : Nat} {x : It} (hx : l[k]? = some x) : dotsK l x.1 = dotsM x.2 ∧ 0 < (dotsM x.2).length := by
  have hk := h.1 x (List.mem_of_getElem? hx)
  have hn : x.1 ≠ [] := fun e => by
    have := (okI_parts hk).1
    rw [e] at this
    revert this; decide
  unfold dotsK
  rw [if_neg hn, h.find hx]
  exact ⟨rfl, by rw [dotsM_len]; exact (okI_parts hk).2.1⟩
end

section
open Go.RowKit

/-- The mark with a dot in a list; in the item with a name. -/
def markM (l : List Mk) (d : Int × Int) : Option Mk := l.find? fun m => decide (dotM m = d)
def markL (l : List It) (nm : List UInt8) (d : Int × Int) : Option Mk := (l.find? fun x => x.1 == nm).bind fun x => markM x.2 d
/-- Whether a cart has seen a dot. -/
def hasK (c : Ca) (d : Int × Int) : Bool := hasC c.1.1 c.1.2 d.1 d.2

theorem markM_some {l : List Mk} {d : Int × Int} {m : Mk} (h : markM l d = some m) : m ∈ l ∧ dotM m = d :=
  ⟨List.mem_of_find?_eq_some h, by simpa using List.find?_some h⟩
theorem marks_inj {l : List Mk} (h : (dotsM l).Nodup) {a b : Mk} (ha : a ∈ l) (hb : b ∈ l) (e : dotM a = dotM b) : a = b := by
  induction l with
  | nil => cases ha
  | cons z l ih =>
    have h' : (dotM z :: dotsM l).Nodup := h
    rw [List.nodup_cons] at h'
    rcases List.mem_cons.1 ha with ha' | ha'
    · rcases List.mem_cons.1 hb with hb' | hb'
      · rw [ha', hb']
      · exact absurd (by rw [← ha', e]; exact List.mem_map.2 ⟨b, hb', rfl⟩) h'.1
    · rcases List.mem_cons.1 hb with hb' | hb'
      · exact absurd (by rw [← hb', ← e]; exact List.mem_map.2 ⟨a, ha', rfl⟩) h'.1
      · exact ih h'.2 ha' hb'
theorem markM_mem {l : List Mk} (h : Inc (dotsM l)) {m : Mk} (hm : m ∈ l) : markM l (dotM m) = some m := by
  cases hf : markM l (dotM m) with
  | none =>
    have := List.find?_eq_none.1 hf m hm
    simp at this
  | some z =>
    obtain ⟨hz, hd⟩ := markM_some hf
    have hn := inc_nodup h
    congr 1
    exact marks_inj hn hz hm hd

theorem Good.findN {l : List It} (h : Good l) {x : It} (hx : x ∈ l) : l.find? (fun y => y.1 == x.1) = some x := by
  obtain ⟨k, hk⟩ := List.getElem?_of_mem hx
  exact h.find hk
theorem markL_some {l : List It} {nm : List UInt8} {d : Int × Int} {m : Mk} (h : markL l nm d = some m) : ∃ x ∈ l, x.1 = nm ∧ m ∈ x.2 ∧ dotM m = d := by
  unfold markL at h
  cases hf : l.find? (fun x => x.1 == nm) with
  | none => rw [hf] at h; cases h
  | some x =>
    rw [hf] at h
    obtain ⟨h1, h2⟩ := markM_some (show markM x.2 d = some m from h)
    exact ⟨x, List.mem_of_find?_eq_some hf, by simpa using List.find?_some hf, h1, h2⟩
theorem Good.mark {l : List It} (h : Good l) {x : It} (hx : x ∈ l) {m : Mk} (hm : m ∈ x.2) : markL l x.1 (dotM m) = some m := by
  unfold markL
  rw [h.findN hx]
  exact markM_mem (okI_parts (h.1 x hx)).2.2.2 hm
theorem Good.mark_iff {l : List It} (h : Good l) {nm : List UInt8} {d : Int × Int} {m : Mk} : markL l nm d = some m ↔ ∃ x ∈ l, x.1 = nm ∧ m ∈ x.2 ∧ dotM m = d :=
  ⟨markL_some, fun ⟨x, hx, e, hm, hd⟩ => by subst e hd; exact h.mark hx hm⟩
/-- Lists of items that have the same marks are the same. -/
theorem Good.ext {l k : List It} (h : Good l) (h' : Good k) (he : ∀ nm d, markL l nm d = markL k nm d) : l = k := by
  have sub : ∀ {l k : List It}, Good l → Good k → (∀ nm d, markL l nm d = markL k nm d) → ∀ x ∈ l, ∃ y ∈ k, y.1 = x.1 ∧ ∀ m ∈ x.2, m ∈ y.2 := by
    intro l k h h' he x hx
    obtain ⟨m0, hm0⟩ : ∃ m, m ∈ x.2 := by
      have := (okI_parts (h.1 x hx)).2.1
      exact ⟨x.2[0], List.getElem_mem _⟩
    have h1 := h.mark hx hm0
    rw [he] at h1
    obtain ⟨y, hy, hyn, _⟩ := markL_some h1
    refine ⟨y, hy, hyn, fun m hm => ?_⟩
    have h2 := h.mark hx hm
    rw [he] at h2
    obtain ⟨z, hz, hzn, hmz, _⟩ := markL_some h2
    obtain rfl : z = y := h'.2.1.name hz hy (hzn.trans hyn.symm)
    exact hmz
  have mem : ∀ {l k : List It}, Good l → Good k → (∀ nm d, markL l nm d = markL k nm d) → ∀ x ∈ l, x ∈ k := by
    intro l k h h' he x hx
    obtain ⟨y, hy, hyn, hxy⟩ := sub h h' he x hx
    obtain ⟨z, hz, hzn, hyz⟩ := sub h' h (fun nm d => (he nm d).symm) y hy
    obtain rfl : z = x := h.2.1.name hz hx (hzn.trans hyn)
    have e : y.2 = z.2 := incM_ext (okI_parts (h'.1 y hy)).2.2.2 (okI_parts (h.1 z hx)).2.2.2 fun m => ⟨hyz m, hxy m⟩
    have e2 : y = z := Prod.ext hyn e
    rw [← e2]; exact hy
  exact h.2.1.ext h'.2.1 fun x => ⟨mem h h' he x, mem h' h (fun nm d => (he nm d).symm) x⟩
end

section
open Go.RowKit

theorem mem_dotsI {l : List It} {p : Int × Int} : p ∈ dotsI l ↔ ∃ x ∈ l, ∃ m ∈ x.2, dotM m = p := by
  rw [dotsI_all, mem_setL]
  unfold allD
  rw [List.mem_flatMap]
  constructor
  · rintro ⟨x, hx, h⟩
    obtain ⟨m, hm, rfl⟩ := List.mem_map.1 h
    exact ⟨x, hx, m, hm, rfl⟩
  · rintro ⟨x, hx, m, hm, rfl⟩
    exact ⟨x, hx, List.mem_map.2 ⟨m, hm, rfl⟩⟩
section
variable {a b : Ca} (ha : validK a = true) (hb : validK b = true)
end
end

section
open Go.RowKit

def zeroK : Ca := (([], []), [])
end

section
open Go.RowKit

/-- What holds while Missing's boxes are laid. -/
def KM (w : World) (x y : Value) (W : World) : Prop := Below (w.heap.size + 1) (w.alloc (.cells #[x, y] 25)) W
section
variable {w W W' : World} {x y : Value}
theorem KM.cells (h : KM w x y W) : W.cell? ⟨w.heap.size, 0, none⟩ = some x ∧ W.cell? ⟨w.heap.size, 1, none⟩ = some y := by
  have hb : Blk2 (w.alloc (.cells #[x, y] 25)) w.heap.size x y := heap_alloc_new w _
  exact ⟨(h.cell (p := ⟨w.heap.size, 0, none⟩) (by simp)).trans hb.cell0, (h.cell (p := ⟨w.heap.size, 1, none⟩) (by simp)).trans hb.cell1⟩
theorem KM.size (h : KM w x y W) : w.heap.size + 1 ≤ W.heap.size := by have := Below.size h; simpa using this
theorem KM.below (h : KM w x y W) (hb : Below W.heap.size W W') : KM w x y W' := Below.trans h (hb.mono h.size)
theorem KM.drew (h : KM w x y W) : KM w x y W.drew := h.below (Below.refl _ W).drew
theorem KM.alloc (h : KM w x y W) (o : Obj) : KM w x y (W.alloc o) := h.below ((Below.refl _ W).alloc (Nat.le_refl _) o)
theorem KM.store (h : KM w x y W) {b : Nat} (hb : w.heap.size + 1 ≤ b) (u : Value) : KM w x y (W.setCell ⟨b, 0, none⟩ u) := Below.setCell (p := ⟨b, 0, none⟩) h hb u
theorem KM.bel (h : KM w x y W) : Below w.heap.size w W := ((Below.refl _ w).alloc (Nat.le_refl _) _).trans (Below.mono h (by omega))
end

def KMS (w : World) (x y : Value) (W : World) : Prop := W.cell? ⟨w.heap.size, 0, none⟩ = some x ∧ W.cell? ⟨w.heap.size, 1, none⟩ = some y ∧ KM w x y W
section
variable {w W W' : World} {x y : Value}
theorem KMS.of (h : KM w x y W) : KMS w x y W := ⟨h.cells.1, h.cells.2, h⟩
theorem KMS.km (h : KMS w x y W) : KM w x y W := h.2.2
theorem KMS.drew (h : KMS w x y W) : KMS w x y W.drew := .of h.km.drew
theorem KMS.alloc (h : KMS w x y W) (o : Obj) : KMS w x y (W.alloc o) := .of (h.km.alloc o)
theorem KMS.store (h : KMS w x y W) {b : Nat} (hb : w.heap.size + 1 ≤ b) (u : Value) : KMS w x y (W.setCell ⟨b, 0, none⟩ u) := .of (h.km.store hb u)
theorem KMS.below (h : KMS w x y W) (hb : Below W.heap.size W W') : KMS w x y W' := .of (h.km.below hb)
theorem Boxed.below {b : Nat} {t : TypeId} {v : Value} (h : Boxed W b t v) (hb : Below W.heap.size W W') : Boxed W' b t v := (hb.block b h.lt).trans h
end

theorem lt_two (a : Nat) : a < a + 1 + 1 := by omega
theorem heap_drew (W : World) : W.drew.heap = W.heap := rfl
theorem cell_other {W : World} {a b : Addr} {u v : Value} (h : W.cell? a = some u) (hne : a.block ≠ b.block) : (W.setCell b v).cell? a = some u := (World.cell?_of_block (Below.heap_setCell W b v a.block hne)).trans h
theorem dots_of_row {W : World} {B n c : Nat} {A : Option Addr} {xs : List (Int × Int)} (h : W.ownsRow B 30 2 (.slice A n c) xs.length (cellsOf encD xs)) : DotsAt W A xs := by
  obtain ⟨A', c', e, _, _, hd⟩ := SlAt.of_own encD_len h
  cases e
  exact hd
/-- What the first region leaves. -/
def MisR (w : World) (vs ls : List (Int × Int)) (n : Nat) (p q : Value) (W : World) : Prop :=
  ∃ b5 b6 mb A cap, ∃ D : DataW Unit, p = .pointer (some ⟨b5, 0, none⟩) ∧ q = .pointer (some ⟨b6, 0, none⟩) ∧ W.cell? ⟨b5, 0, none⟩ = some (.map (some mb)) ∧ W.cell? ⟨b6, 0, none⟩ = some (.slice A (ordL ls).length cap) ∧
    DotsAt W A (ordL ls) ∧ W.ownsMap Tryz.prog 3 (plainElem Tryz.prog 3) mb n D ∧ GetF D (getV vs) ∧ Below w.heap.size w W
set_option maxRecDepth 100000 in
set_option maxHeartbeats 8000000 in
theorem ctxMissing (v : Value) (X : Option Addr) (cx : Nat) (zs : List WD) (ls m : List (Int × Int)) (w : World) (h : HoldsC w v (zs.map (·.1)) ls) (hx : Holds w (.slice X m.length cx) m) (hm : zs.length + ls.length + m.length ≤ 3000) :
    Calls Tryz.prog 61 #[v, .slice X m.length cx] w fun e w' => (∃ v', e = .returned v' ∧ MineV w w' v' (missC (zs.map (·.1)) ls m)) ∧ Below w.heap.size w w' := by
  obtain ⟨A, n, B, k0, rfl, h1, h2⟩ := h
  have K : KM w (.slice A zs.length n) (.slice B ls.length k0) (w.alloc (.cells #[.slice A zs.length n, .slice B ls.length k0] 25)) := Below.refl _ _
  have h1' : Holds w (.slice A zs.length n) (zs.map (·.1)) := by simpa using h1
  have HC := Lib.hid fun W (hW : KMS w (.slice A zs.length n) (.slice B ls.length k0) W) => ctxCounters A n zs W (h1'.below hW.km.bel) (by omega)
  have HS := Lib.hid fun W (hW : KMS w (.slice A zs.length n) (.slice B ls.length k0) W) => dotSet B ls k0 W (by obtain ⟨A', c', e, h, _⟩ := h2.below hW.km.bel; cases e; exact h) (by omega)
  have hl : (zs.map (·.1)).length = zs.length := by simp
  rw [hl]
  clear h1 h1' h2 hl
  go_enter Tryz.func61, Tryz.ntmps61
  go_wp2_with fail
  go_cut [5, 6] (fun p q wx => MisR w (zs.map (·.1)) ls zs.length p q wx)
  case first =>
    have KK := KMS.of K
    have hsw := KK.km.size
    generalize w.alloc (.cells #[.slice A zs.length n, .slice B ls.length k0] 25) = W0 at KK hsw ⊢
    clear K
    obtain ⟨q0, q1, q2⟩ := id KK
    go_region_held3 (fun W => W.cell? ⟨w.heap.size, 0, none⟩ = some (.slice A zs.length n) ∧ W.cell? ⟨w.heap.size, 1, none⟩ = some (.slice B ls.length k0) ∧ KM w (.slice A zs.length n) (.slice B ls.length k0) W)
      (first
        | assumption
        | (exact KMS.drew (by assumption))
        | (show KMS w (.slice A zs.length n) (.slice B ls.length k0) _
           repeat (first
             | assumption
             | refine KMS.drew ?_
             | refine KMS.alloc ?_ _
             | refine KMS.store ?_ (by first | omega | (simp; omega)) _)))
      (first
        | (go_at_call 110; refine (HC.out _ (by assumption)).mono ?_
           rintro e wa ⟨mb, D, rfl, hmb, hb9, hmap, hget⟩
           have hS9 := KMS.below (by assumption) hb9
           have hsz9 := hS9.km.size
           have hmb2 := hmb
           try simp only [heap_drew, World.size_alloc] at hmb2
           have hml := hmap.lt
           obtain ⟨hc9, hf9⟩ := bcell hb9
           have zs9 := hb9.size
           try simp only [heap_drew, World.size_alloc] at zs9
           try (have z0 : W0.heap.size + 2 ≤ wa.heap.size := zs9)
           try (have z0 : W0.heap.size + 1 ≤ wa.heap.size := zs9)
           have z0' : W0.heap.size ≤ wa.heap.size := by first | exact zs9 | omega
           clear zs9
           have p0 := hc9 W0.heap.size 0
           have p0f := hf9 W0.heap.size 0
           have p1 := hc9 (W0.heap.size + 1) 0
           have p1f := hf9 (W0.heap.size + 1) 0
           try simp [lt_two, heap_drew] at p0
           try simp [lt_two, heap_drew] at p0f
           try simp [heap_drew] at p1
           try simp [heap_drew] at p1f
           try (have n0 : ¬ W0.heap.size = wa.heap.size := by omega)
           try (have n1 : ¬ W0.heap.size + 1 = wa.heap.size := by omega)
           clear hc9 hf9)
        | (go_at_call 111; refine (HS.out _ (by assumption)).mono ?_
           rintro e wb ⟨v12, rfl, hmine⟩
           have hb12 := hmine.2
           have hv12 := hmine.holds
           have hS12 := KMS.below (by assumption) hb12
           have hrow : wb.ownsRow w.heap.size 30 2 v12 (ordL ls).length (cellsOf encD (ordL ls)) := Joins.ownsRow_le hmine.1 (by (try simp only [World.size_alloc]); omega)
           have hlt12 := hmine.1.lt
           try simp only [World.size_alloc] at hlt12
           have hmap12 : wb.ownsMap Tryz.prog 3 (plainElem Tryz.prog 3) mb zs.length D := World.ownsMap.kept (by repeat (first | exact hmap | refine World.ownsMap.alloc ?_ _)) (grown_of_below2 hb12 none) (by simp)
           have hsz12 := hS12.km.size
           obtain ⟨hc12, hf12⟩ := bcell hb12
           have zs12 := hb12.size
           try simp only [World.size_alloc] at zs12
           try (have y0 : wa.heap.size + 2 ≤ wb.heap.size := zs12)
           try (have y0 : wa.heap.size + 1 ≤ wb.heap.size := zs12)
           have y0' : wa.heap.size ≤ wb.heap.size := by first | exact zs12 | omega
           clear zs12
           have p2 := hc12 wa.heap.size 0
           have p2f := hf12 wa.heap.size 0
           have p3 := hc12 (wa.heap.size + 1) 0
           have p3f := hf12 (wa.heap.size + 1) 0
           have e4 : W0.heap.size < wa.heap.size → W0.heap.size < wa.heap.size + 1 := by omega
           have p4 := hc12 W0.heap.size 0
           have p4f := hf12 W0.heap.size 0
           have p5 := hc12 (W0.heap.size + 1) 0
           have p5f := hf12 (W0.heap.size + 1) 0
           try simp [lt_two] at p2
           try simp [lt_two] at p2f
           try simp [] at p3
           try simp [] at p3f
           have c4 : W0.heap.size < wa.heap.size + 1 := by omega
           first
             | (have z0s : W0.heap.size < wa.heap.size := by omega
                simp [c4, z0s, p0, p0f] at p4 p4f)
             | skip
           first
             | (have z1s : W0.heap.size + 1 < wa.heap.size := by omega
                have c5 : W0.heap.size + 1 < wa.heap.size + 1 := by omega
                simp [c5, z1s, p1, p1f] at p5 p5f)
             | skip
           clear e4 c4
           try (have m0 : ¬ W0.heap.size = wb.heap.size := by omega)
           try (have m1 : ¬ W0.heap.size + 1 = wb.heap.size := by omega)
           try (have m2 : ¬ wa.heap.size = wb.heap.size := by omega)
           try (have m3 : ¬ wa.heap.size + 1 = wb.heap.size := by omega)
           try (have m4 : ¬ wb.heap.size = W0.heap.size := by omega)
           try (have m5 : ¬ wb.heap.size = W0.heap.size + 1 := by omega)
           try (have m6 : ¬ wb.heap.size = wa.heap.size := by omega)
           try (have m7 : ¬ wb.heap.size = wa.heap.size + 1 := by omega)
           try (have m8 : wa.heap.size < wb.heap.size := by omega)
           try (have m9 : wa.heap.size + 1 < wb.heap.size := by omega)
           try (have ma : W0.heap.size < wb.heap.size := by omega)
           try (have mb2 : W0.heap.size + 1 < wb.heap.size := by omega)
           clear hc12 hf12
           obtain ⟨A12, c12, rfl, _⟩ := id hv12))
    all_goals
      have hF := KMS.km (x := .slice A zs.length n) (y := .slice B ls.length k0) (by assumption)
      go_wp2_with fail
      go_meet
      refine ⟨_, _, mb, A12, c12, D, rfl, rfl, ?_, ?_, ?_, ?_, hget, hF.bel⟩
      · first
          | (go_simp; done)
          | exact World.cell?_setCell_same _ _ _ (by assumption)
          | exact World.cell?_setCell_same _ _ _ (cell_other (by assumption) (by simp))
          | exact cell_other (World.cell?_setCell_same _ _ _ (by assumption)) (by simp)
      · first
          | (go_simp; done)
          | exact World.cell?_setCell_same _ _ _ (by assumption)
          | exact World.cell?_setCell_same _ _ _ (cell_other (by assumption) (by simp))
      · refine dots_of_row (B := w.heap.size) (n := (ordL ls).length) (c := c12) ?_
        repeat (first
          | exact hrow
          | refine World.ownsRow.alloc ?_ _
          | refine ownsRow_setCell_other ?_ (fun e => by have h9 := (hlt12 _ e).1; dsimp only at h9; omega) _)
      · repeat (first
          | exact hmap12
          | refine World.ownsMap.alloc ?_ _
          | refine World.ownsMap.kept ?_ (grownBy_setCell' _ _ _) (by intro e; injection e; omega))
  case rest =>
    obtain ⟨b5, b6, mb, A12, c12, D, rfl, rfl, k5, k6, hd, hmap, hget, hbel⟩ := hcut
    have hlo := ordL_len ls
    have hlm := ordL_len m
    have hsay := Says.missing (vs := zs.map (·.1)) hd (by omega) (inc_ordL ls) k6 k5 hmap hget
    have hset := fun W (hW : Below w.heap.size w W) => dotSet X m cx W (by obtain ⟨A', c', e, h, _⟩ := hx.below hW; cases e; exact h) (by omega)
    have HY := Lib.hid hsay
    have HT := Lib.hid hset
    have HB := Lib.hid hbel
    have hmis : (ordL m).filter (fun d => !(validD d.1 d.2 && (decide (d ∈ ordL ls) || decide (d.2 ≤ getV (zs.map (·.1)) d.1)))) = missC (zs.map (·.1)) ls m := by
      unfold missC
      rw [ordL_eq, ← filter_setL]
      congr 1
      funext d
      rw [hasC_set]
      first | rfl | (rw [ordL_eq])
    have HMIS := Lib.hid hmis
    clear hsay hset hbel hmis k5 k6 hd hmap hget hx
    go_wp2_with fail
    refine (HT.out _ HB.out).mono ?_
    rintro e w3 ⟨v2, rfl, h2⟩
    have hdel := deleteFunc _ _ _ _ v2 (ordL m) w3 HY.out h2.2 h2.2.size h2.1 (by omega)
    rw [HMIS.out] at hdel
    have HD := Lib.hid hdel
    have H2 := Lib.hid h2
    clear hdel h2
    go_wp2_with fail
    refine HD.out.mono ?_
    rintro e w4 ⟨v4, rfl, ho4, hg4⟩
    have H4 := Lib.hid (show MineV w w4 v4 (missC (zs.map (·.1)) ls m) from MineV.base HB.out (show MineV _ w4 v4 (missC (zs.map (·.1)) ls m) from H2.out.step ho4 hg4))
    clear ho4 hg4
    go_wp2
    go_ret
    exact ⟨⟨_, rfl, H4.out⟩, H4.out.2⟩

end

end Go.Proofs.YtiaehpdgpjhecaaGreat
