/- Several texts in one: CanK, CtxI, CarA, CanA. -/
import Derived.Test.YtgdnibahiomneaaGreatMAC
import Derived.Test.YtgdnibahiomneaaGreatMAL
import Derived.Test.YtgdnibahiomneaaGreatMAH
import Derived.Test.YtgdnibahiomneaaGreatMAK
import Derived.Test.YtgdnibahiomneaaGreatMAD
import Derived.Lib.AppendStr
import Derived.Laws.OwnMore
namespace Go.Proofs.YtgdnibahiomneaaGreat

section

/-- The bytes of an int as a number of 64 bits, of dots, marks, items, contexts, carts. -/
def byZ (z : Int) : List UInt8 := enc (z % 18446744073709551616).toNat
def byD (d : Int × Int) : List UInt8 := byZ d.1 ++ byZ d.2
def byL {α : Type} (f : α → List UInt8) (l : List α) : List UInt8 := enc l.length ++ l.flatMap f
def byS (s : List UInt8) : List UInt8 := enc s.length ++ s
def byM (m : Mk) : List UInt8 := byZ m.r ++ (byZ m.c ++ (byZ m.q ++ enc m.t))
def byI (x : It) : List UInt8 := byS x.1 ++ byL byM x.2
def byX (c : List (Int × Int) × List (Int × Int)) : List UInt8 := byL byD c.1 ++ byL byD c.2
def byC (c : (List (Int × Int) × List (Int × Int)) × List It) : List UInt8 := byX c.1 ++ byL byI c.2

/-- What is written tells itself apart from what follows. -/
def Self {α : Type} (ok : α → Prop) (f : α → List UInt8) : Prop := ∀ a b, ok a → ok b → ∀ x y, f a ++ x = f b ++ y → a = b ∧ x = y
theorem self_enc : Self (fun n => n < 18446744073709551616) enc := by
  intro a b ha hb x y h
  have h1 := rd_enc ha x
  have h2 := rd_enc hb y
  rw [h, h2] at h1
  have e : a = b := by injection h1 with h1 _; exact h1.symm
  subst e
  exact ⟨rfl, List.append_cancel_left h⟩
theorem Self.pair {α β : Type} {p : α → Prop} {q : β → Prop} {f : α → List UInt8} {g : β → List UInt8} (hf : Self p f) (hg : Self q g) : Self (fun c : α × β => p c.1 ∧ q c.2) (fun c => f c.1 ++ g c.2) := by
  rintro ⟨a1, b1⟩ ⟨a2, b2⟩ ⟨ha1, hb1⟩ ⟨ha2, hb2⟩ x y h
  simp only [List.append_assoc] at h
  obtain ⟨e1, h1⟩ := hf _ _ ha1 ha2 _ _ h
  obtain ⟨e2, h2⟩ := hg _ _ hb1 hb2 _ _ h1
  exact ⟨by rw [show a1 = a2 from e1, show b1 = b2 from e2], h2⟩
theorem Self.map {α β : Type} {p : β → Prop} {q : α → Prop} {f : β → List UInt8} (hf : Self p f) (g : α → β) (hp : ∀ a, q a → p (g a)) (hg : ∀ a b, q a → q b → g a = g b → a = b) : Self q (fun a => f (g a)) := by
  intro a b ha hb x y h
  obtain ⟨e, h2⟩ := hf _ _ (hp a ha) (hp b hb) x y h
  exact ⟨hg a b ha hb e, h2⟩
/-- A number of 64 bits without a sign. -/
def okZ (z : Int) : Prop := 0 ≤ z ∧ z < 18446744073709551616
theorem byZ_of {z : Int} (h : okZ z) : byZ z = enc z.toNat := by unfold byZ; rw [Int.emod_eq_of_lt h.1 h.2]
theorem self_byZ : Self okZ byZ := by
  intro a b ha hb x y h
  rw [byZ_of ha, byZ_of hb] at h
  obtain ⟨e, h2⟩ := self_enc _ _ (by have := ha.1; have := ha.2; omega) (by have := hb.1; have := hb.2; omega) x y h
  exact ⟨by have := ha.1; have := hb.1; omega, h2⟩
theorem self_flat {α : Type} {p : α → Prop} {f : α → List UInt8} (hf : Self p f) : ∀ (l m : List α), l.length = m.length → (∀ a ∈ l, p a) → (∀ a ∈ m, p a) → ∀ x y, l.flatMap f ++ x = m.flatMap f ++ y → l = m ∧ x = y
  | [], [], _, _, _, x, y, h => ⟨rfl, by simpa using h⟩
  | [], b :: m, hl, _, _, _, _, _ => by simp at hl
  | a :: l, [], hl, _, _, _, _, _ => by simp at hl
  | a :: l, b :: m, hl, h1, h2, x, y, h => by
    simp only [List.flatMap_cons, List.append_assoc] at h
    obtain ⟨e, h3⟩ := hf _ _ (h1 a (by simp)) (h2 b (by simp)) _ _ h
    obtain ⟨e2, h4⟩ := self_flat hf l m (by simpa using hl) (fun c hc => h1 c (by simp [hc])) (fun c hc => h2 c (by simp [hc])) _ _ h3
    exact ⟨by rw [e, e2], h4⟩
theorem self_byL {α : Type} {p : α → Prop} {f : α → List UInt8} (hf : Self p f) : Self (fun l : List α => l.length < 18446744073709551616 ∧ ∀ a ∈ l, p a) (byL f) := by
  rintro l m ⟨hl, pl⟩ ⟨hm, pm⟩ x y h
  unfold byL at h
  simp only [List.append_assoc] at h
  obtain ⟨e, h2⟩ := self_enc _ _ hl hm _ _ h
  exact self_flat hf l m e pl pm _ _ h2
theorem self_byS : Self (fun s : List UInt8 => s.length < 18446744073709551616) byS := by
  intro a b ha hb x y h
  unfold byS at h
  simp only [List.append_assoc] at h
  obtain ⟨e, h2⟩ := self_enc _ _ ha hb _ _ h
  exact List.append_inj h2 e
def okD (d : Int × Int) : Prop := okZ d.1 ∧ okZ d.2
theorem self_byD : Self okD byD := self_byZ.pair self_byZ
def okMk (m : Mk) : Prop := okZ m.r ∧ (okZ m.c ∧ (okZ m.q ∧ m.t < 18446744073709551616))
theorem self_byM : Self okMk byM :=
  (self_byZ.pair (self_byZ.pair (self_byZ.pair self_enc))).map (fun m : Mk => (m.r, m.c, m.q, m.t)) (fun _ h => h) (by
    rintro ⟨a, b, c, d⟩ ⟨a', b', c', d'⟩ _ _ h
    injection h with h1 h; injection h with h2 h; injection h with h3 h4
    simp only at h1 h2 h3 h4
    subst h1; subst h2; subst h3; subst h4; rfl)
def okLen {α : Type} (p : α → Prop) (l : List α) : Prop := l.length < 18446744073709551616 ∧ ∀ a ∈ l, p a
def okIt (x : It) : Prop := x.1.length < 18446744073709551616 ∧ okLen okMk x.2
theorem self_byI : Self okIt byI := self_byS.pair (self_byL self_byM)
def okCx (c : List (Int × Int) × List (Int × Int)) : Prop := okLen okD c.1 ∧ okLen okD c.2
theorem self_byX : Self okCx byX := (self_byL self_byD).pair (self_byL self_byD)
def okCa (c : (List (Int × Int) × List (Int × Int)) × List It) : Prop := okCx c.1 ∧ okLen okIt c.2
theorem self_byC : Self okCa byC := self_byX.pair (self_byL self_byI)
/-- Equal bytes: equal carts; and none begins another. -/
theorem byC_inj {a b : (List (Int × Int) × List (Int × Int)) × List It} (ha : okCa a) (hb : okCa b) (h : byC a = byC b) : a = b := (self_byC a b ha hb [] [] (by rw [h])).1
theorem byC_begin {a b : (List (Int × Int) × List (Int × Int)) × List It} (ha : okCa a) (hb : okCa b) {x : List UInt8} (h : byC b = byC a ++ x) : x = [] := ((self_byC b a hb ha [] x (by rw [h]; simp)).2).symm
theorem byL_len {α : Type} (f : α → List UInt8) (l : List α) : 1 ≤ (byL f l).length := by
  unfold byL
  rw [List.length_append]
  have := enc_pos l.length
  omega
theorem byC_three (a : (List (Int × Int) × List (Int × Int)) × List It) : 3 ≤ (byC a).length := by
  unfold byC byX
  rw [List.length_append, List.length_append]
  have := byL_len byD a.1.1
  have := byL_len byD a.1.2
  have := byL_len byI a.2
  omega

/-- How many bytes. -/
theorem byZ_ten (z : Int) : (byZ z).length ≤ 10 := enc_ten (by omega)
theorem flat_le {α : Type} {f : α → List UInt8} {k : Nat} : ∀ {l : List α}, (∀ a ∈ l, (f a).length ≤ k) → (l.flatMap f).length ≤ l.length * k
  | [], _ => by simp
  | a :: l, h => by
    rw [List.flatMap_cons, List.length_append, List.length_cons, Nat.add_mul, Nat.one_mul]
    have h1 := h a (by simp)
    have h2 := flat_le (l := l) fun b hb => h b (by simp [hb])
    omega
theorem byL_le {α : Type} {f : α → List UInt8} {k n : Nat} {l : List α} (hk : ∀ a ∈ l, (f a).length ≤ k) (hl : l.length ≤ n) (hn : n < 18446744073709551616) : (byL f l).length ≤ 10 + n * k := by
  unfold byL
  rw [List.length_append]
  have h1 := enc_ten (n := l.length) (by omega)
  have h2 := flat_le hk
  have h3 := Nat.mul_le_mul_right k hl
  omega
theorem byD_le (d : Int × Int) : (byD d).length ≤ 20 := by unfold byD; rw [List.length_append]; have := byZ_ten d.1; have := byZ_ten d.2; omega
theorem byM_le {m : Mk} (h : m.t < 18446744073709551616) : (byM m).length ≤ 40 := by
  unfold byM
  simp only [List.length_append]
  have := byZ_ten m.r; have := byZ_ten m.c; have := byZ_ten m.q; have := enc_ten h
  omega
theorem byS_le {s : List UInt8} {n : Nat} (h : s.length ≤ n) (hn : n < 18446744073709551616) : (byS s).length ≤ 10 + n := by
  unfold byS
  rw [List.length_append]
  have := enc_ten (n := s.length) (by omega)
  omega

/-- The order of bytes. -/
def ordB : List UInt8 → List UInt8 → Int
  | [], [] => 0
  | [], _ :: _ => -1
  | _ :: _, [] => 1
  | a :: r, b :: s => if a = b then ordB r s else if a.toNat < b.toNat then -1 else 1
theorem ordB_self : ∀ a : List UInt8, ordB a a = 0
  | [] => rfl
  | a :: r => by rw [ordB, if_pos rfl]; exact ordB_self r
theorem ordB_zero : ∀ {a b : List UInt8}, ordB a b = 0 → a = b
  | [], [], _ => rfl
  | [], _ :: _, h => by simp [ordB] at h
  | _ :: _, [], h => by simp [ordB] at h
  | a :: r, b :: s, h => by
    rw [ordB] at h
    split at h
    · rename_i e; rw [e, ordB_zero h]
    · split at h <;> simp at h
theorem ordB_swap : ∀ a b : List UInt8, ordB b a = -ordB a b
  | [], [] => rfl
  | [], _ :: _ => rfl
  | _ :: _, [] => rfl
  | a :: r, b :: s => by
    rw [ordB, ordB]
    by_cases e : a = b
    · rw [if_pos e.symm, if_pos e]; exact ordB_swap r s
    · rw [if_neg (fun h => e h.symm), if_neg e]
      have hne : a.toNat ≠ b.toNat := fun h => e (UInt8.toNat_inj.1 h)
      by_cases h : a.toNat < b.toNat
      · rw [if_pos h, if_neg (by omega)]; rfl
      · rw [if_neg h, if_pos (by omega)]
theorem ordB_range (a b : List UInt8) : ordB a b = -1 ∨ ordB a b = 0 ∨ ordB a b = 1 := by
  induction a generalizing b with
  | nil => cases b <;> simp [ordB]
  | cons x r ih =>
    cases b with
    | nil => simp [ordB]
    | cons y s =>
      rw [ordB]
      split
      · exact ih s
      · split <;> simp
theorem ordB_trans : ∀ {a b c : List UInt8}, ordB a b ≤ 0 → ordB b c ≤ 0 → ordB a c ≤ 0
  | [], [], [], _, _ => by simp [ordB]
  | [], _, _ :: _, _, _ => by simp [ordB]
  | [], _ :: _, [], _, h => by simp [ordB] at h
  | _ :: _, [], _, h, _ => by simp [ordB] at h
  | _ :: _, _ :: _, [], _, h => by simp [ordB] at h
  | a :: r, b :: s, c :: t, h1, h2 => by
    rw [ordB] at h1 h2 ⊢
    by_cases e1 : a = b
    · rw [if_pos e1] at h1
      subst e1
      by_cases e2 : a = c
      · rw [if_pos e2] at h2 ⊢; exact ordB_trans h1 h2
      · rw [if_neg e2] at h2 ⊢; exact h2
    · rw [if_neg e1] at h1
      have h1' : a.toNat < b.toNat := by split at h1 <;> first | assumption | simp at h1
      by_cases e2 : b = c
      · subst e2; rw [if_neg e1, if_pos h1']; simp
      · rw [if_neg e2] at h2
        have h2' : b.toNat < c.toNat := by split at h2 <;> first | assumption | simp at h2
        rw [if_neg (fun e => by subst e; omega), if_pos (by omega)]; simp

end

section
open Go.RowKit

end

section
open Go.RowKit

/-- A cart: the vector and the cloud of its context, its items. -/
abbrev Ca := (List (Int × Int) × List (Int × Int)) × List It
/-- A cart where it lies. -/
structure CaV where
  V : Option Addr
  nv : Nat
  vs : List (Int × Int)
  L : Option Addr
  nl : Nat
  ls : List (Int × Int)
  I : Option Addr
  ni : Nat
  xs : List ItV
def CaV.ca (c : CaV) : Ca := ((c.vs, c.ls), its c.xs)
/-- Its three slices. -/
abbrev CaV.v (c : CaV) : Value := .slice c.V c.vs.length c.nv
abbrev CaV.l (c : CaV) : Value := .slice c.L c.ls.length c.nl
abbrev CaV.i (c : CaV) : Value := .slice c.I c.xs.length c.ni
/-- A cart as a value: one flat row of three cells. -/
abbrev mkC (c : CaV) : Value := .agg #[c.v, c.l, c.i]
def CaOK (W : World) (c : CaV) : Prop := Holds W c.v c.vs ∧ Holds W c.l c.ls ∧ HoldsX W c.i c.xs
theorem CaOK.below {W W' : World} {c : CaV} (h : CaOK W c) (hb : Below W.heap.size W W') : CaOK W' c := ⟨h.1.below hb, h.2.1.below hb, h.2.2.below hb⟩
theorem CaOK.ctx {W : World} {c : CaV} (h : CaOK W c) : HoldsC W (.agg #[c.v, c.l]) c.vs c.ls := HoldsC.mk h.1 h.2.1
/-- A block that holds a cart. -/
def BlkC (W : World) (g : Nat) (c : CaV) : Prop := W.heap[g]? = some (.cells #[c.v, c.l, c.i] 28 (0, 0))
section
variable {W W' : World} {g : Nat} {c : CaV}
theorem BlkC.lt (h : BlkC W g c) : g < W.heap.size := (Array.getElem?_eq_some_iff.1 h).1
theorem BlkC.cell0 (h : BlkC W g c) : W.cell? ⟨g, 0, none⟩ = some c.v := by simp [World.cell?, show W.heap[g]? = _ from h]
theorem BlkC.cell1 (h : BlkC W g c) : W.cell? ⟨g, 1, none⟩ = some c.l := by simp [World.cell?, show W.heap[g]? = _ from h]
theorem BlkC.cell2 (h : BlkC W g c) : W.cell? ⟨g, 2, none⟩ = some c.i := by simp [World.cell?, show W.heap[g]? = _ from h]
theorem BlkC.frozen (h : BlkC W g c) (k : Nat) : W.frozen? ⟨g, k, none⟩ = false := by simp [World.frozen?, show W.heap[g]? = _ from h]
theorem BlkC.below (h : BlkC W g c) (hb : Below W.heap.size W W') : BlkC W' g c := (hb.block g h.lt).trans h
theorem BlkC.new (W : World) (c : CaV) : BlkC (W.alloc (.cells #[c.v, c.l, c.i] 28)) W.heap.size c := heap_alloc_new W _
end
/-- Carts in boxes, and nothing old has changed. -/
structure KK (w : World) (L : List (Nat × CaV)) (W : World) : Prop where
  box : ∀ p ∈ L, BlkC W p.1 p.2 ∧ CaOK W p.2
  bel : Below w.heap.size w W
section
variable {w W W' : World} {L : List (Nat × CaV)}
theorem KK.next (h : KK w L W) (hb : Below W.heap.size W W') : KK w L W' := ⟨fun p hp => ⟨(h.box p hp).1.below hb, (h.box p hp).2.below hb⟩, below_trans h.bel hb⟩
theorem KK.drew (h : KK w L W) : KK w L W.drew := h.next (Below.refl _ _).drew
theorem KK.far (h : KK w L W) (p : FarBy) : KK w L (Go.Proofs.YtgdnibahiomneaaGreat.far W p) := h.next (below_far W p)
theorem KK.alloc (h : KK w L W) (o : Obj) : KK w L (W.alloc o) := h.next ((Below.refl _ _).alloc (Nat.le_refl _) _)
theorem KK.blk (h : KK w L W) {g : Nat} {c : CaV} (hm : (g, c) ∈ L) : BlkC W g c := (h.box _ hm).1
theorem KK.ok (h : KK w L W) {g : Nat} {c : CaV} (hm : (g, c) ∈ L) : CaOK W c := (h.box _ hm).2
theorem KK.push (h : KK w L W) (c : CaV) (ho : CaOK W c) (n : Nat) (hn : W.heap.size = n) : KK w (L ++ [(n, c)]) (W.alloc (.cells #[c.v, c.l, c.i] 28)) := by
  subst hn
  have hb := (Below.refl W.heap.size W).alloc (Nat.le_refl _) (.cells #[c.v, c.l, c.i] 28)
  refine ⟨fun p hp => ?_, (h.next hb).bel⟩
  rcases List.mem_append.1 hp with k | k
  · exact (h.next hb).box p k
  · obtain rfl : p = (W.heap.size, c) := by simpa using k
    exact ⟨BlkC.new W c, ho.below hb⟩
theorem KK.new (w : World) (c : CaV) (ho : CaOK w c) : KK w [(w.heap.size, c)] (w.alloc (.cells #[c.v, c.l, c.i] 28)) :=
  KK.push (L := []) ⟨fun p hp => (by cases hp), Below.refl _ _⟩ c ho w.heap.size rfl
theorem KK.sp {g : Nat} {c : CaV} (h : KK w [(g, c)] W) : W.cell? ⟨g, 0, none⟩ = some c.v ∧ W.cell? ⟨g, 1, none⟩ = some c.l ∧ W.cell? ⟨g, 2, none⟩ = some c.i ∧ g < W.heap.size ∧ KK w [(g, c)] W :=
  ⟨(h.blk (by simp)).cell0, (h.blk (by simp)).cell1, (h.blk (by simp)).cell2, (h.blk (c := c) (by simp)).lt, h⟩
theorem KK.sp2 {g g' : Nat} {c d : CaV} (h : KK w [(g, c), (g', d)] W) : W.cell? ⟨g, 0, none⟩ = some c.v ∧ W.cell? ⟨g, 1, none⟩ = some c.l ∧ W.cell? ⟨g, 2, none⟩ = some c.i ∧ W.cell? ⟨g', 0, none⟩ = some d.v ∧ W.cell? ⟨g', 1, none⟩ = some d.l ∧ W.cell? ⟨g', 2, none⟩ = some d.i ∧ g < W.heap.size ∧ g' < W.heap.size ∧ KK w [(g, c), (g', d)] W :=
  ⟨(h.blk (c := c) (by simp)).cell0, (h.blk (c := c) (by simp)).cell1, (h.blk (c := c) (by simp)).cell2, (h.blk (c := d) (by simp)).cell0, (h.blk (c := d) (by simp)).cell1, (h.blk (c := d) (by simp)).cell2, (h.blk (c := c) (by simp)).lt, (h.blk (c := d) (by simp)).lt, h⟩
end

/-- Which carts are valid. -/
def validK (c : Ca) : Bool := compC c.1.1 c.1.2 && (validL c.2 && (missC c.1.1 c.1.2 (dotsI c.2)).isEmpty)

/-- When two carts are equal. -/
def sameC (c d : Ca) : Bool := (decide (c.1.1 = d.1.1) && decide (c.1.2 = d.1.2)) && decide (c.2 = d.2)
theorem sameC_iff {c d : Ca} : sameC c d = true ↔ c = d := by
  obtain ⟨⟨a, b⟩, e⟩ := c
  obtain ⟨⟨a', b'⟩, e'⟩ := d
  simp [sameC]

end

section
open Go.RowKit

theorem u64_id {n : Nat} (h : n < 18446744073709551616) : IntKind.u64.wrap (n : Int) = (n : Int) := by simp [IntKind.wrap, IntKind.bits, IntKind.signed]; omega
theorem u64_byZ (z : Int) : ∃ m : Nat, IntKind.u64.wrap z = (m : Int) ∧ byZ z = enc m ∧ m < 18446744073709551616 := by
  refine ⟨(z % 18446744073709551616).toNat, ?_, rfl, by omega⟩
  rw [IntKind.wrap_u64]
  omega

set_option maxHeartbeats 1000000 in
theorem refString14 (xs : List UInt8) (w : World) (hx : xs.length ≤ 1000) :
    Calls Tryz.prog 35 #[.string ⟨xs.toArray⟩] w (MadeB (byS xs) w) := by
  obtain ⟨i0, hi0, hz0, hz1, hz2⟩ := info_parts infoB
  have hs : (ByteArray.mk xs.toArray).size = xs.length := by show xs.toArray.size = _; simp
  have HR := Lib.hid (refNumber xs.length xs.length w (Nat.le_refl _) (by omega))
  have HSI := Lib.hid (u64_id (n := xs.length) (by omega))
  have ht := enc_ten (n := xs.length) (by omega)
  have HX := Lib.hid hx
  clear hx
  go_enter Tryz.func35, Tryz.ntmps35
  go_wp2_with fail
  rw [HSI.out]
  refine HR.out.mono ?_
  rintro e w1 ⟨⟨A, c, rfl, ho⟩, hb⟩
  have HO := Lib.hid ho
  have HB := Lib.hid hb
  clear ho hb HR
  go_wp2_with (at_builtin; refine Lib.wpList_append_own_string (w := w1) rfl (.tmp 6) (.tmp 7) 32 9 rfl w.heap.size 5 i0 Tryz.underlying32 Tryz.underlying9 hi0 hz0 hz1 hz2 _ _ _ rfl HO.out ⟨xs.toArray⟩ rfl (by rw [hs]; simp [maxLen]; have := HX.out; omega) (by rw [hs]; have := HX.out; omega) HB.out.size ?_; intro v1 w2 hown1 hg1 hat1)
  go_ret
  rw [strCells_bytes, hs] at hown1
  unfold byS
  refine MadeB.of (by rw [List.length_append]; simpa [cellsOf] using hown1) (HB.out.grown hg1 HB.out.size (fun k hk => ?_))
  exact ((HO.out.lt k hk).1)

/-- The region in which a dot is written. -/
def dotsX (E W0 : World) (D : Value) (acc : List UInt8) (b off len cap i : Nat) (r c : Int) (mr mc : Nat) : Rb where
  E := E
  W0 := W0
  n := 33
  D := D
  acc := acc
  m := some 0
  s := 3
  rows := [⟨0, 15, acc, some 8⟩, ⟨7, 22, enc mr, none⟩, ⟨8, 23, acc ++ enc mr, some 16⟩, ⟨15, 30, enc mc, none⟩, ⟨16, 31, (acc ++ enc mr) ++ enc mc, some 17⟩, ⟨17, 3, (acc ++ enc mr) ++ enc mc, none⟩]
  known := fun
    | 1 => some (.slice (some ⟨b, off, none⟩) len cap)
    | 2 => some (.int .i64 (i : Int))
    | 3 => some (.pointer (some ⟨b, off + i * 2, none⟩))
    | 4 => some (.pointer (some ⟨b, off + i * 2, none⟩))
    | 5 => some (.int .i64 r)
    | 6 => some (.int .u64 (mr : Int))
    | 9 => some (.slice (some ⟨b, off, none⟩) len cap)
    | 10 => some (.int .i64 (i : Int))
    | 11 => some (.pointer (some ⟨b, off + i * 2, none⟩))
    | 12 => some (.pointer (some ⟨b, off + i * 2 + 1, none⟩))
    | 13 => some (.int .i64 c)
    | 14 => some (.int .u64 (mc : Int))
    | _ => none

set_option maxRecDepth 100000 in
set_option maxHeartbeats 4000000 in
theorem refDots14 (A : Option Addr) (l : List (Int × Int)) (cap : Nat) (w : World) (hx : DotsAt w A l) (hm : l.length ≤ 1000) :
    Calls Tryz.prog 29 #[.slice A l.length cap] w (MadeB (byL byD l) w) := by
  have HX := Lib.hid hx
  have HR := Lib.hid (refNumber l.length l.length w (Nat.le_refl _) (by omega))
  have HN := Lib.hid fun (n : Nat) (W : World) (h : n < 18446744073709551616) => refNumber n n W (Nat.le_refl _) h
  clear hx
  go_enter Tryz.func29, Tryz.ntmps29
  go_wp2_with fail
  refine HR.out.mono ?_
  rintro e w1 ⟨⟨A1, c1, rfl, ho⟩, hb⟩
  have HO1 := Lib.hid (show RowB w1 w.heap.size (.slice A1 (enc l.length).length c1) (enc l.length ++ (l.take 0).flatMap byD) from by simpa using ho)
  have HB1 := Lib.hid hb
  clear ho hb HR
  go_wp2_with fail
  go_loopw [3, 4] (fun v i wr => ∃ k : Nat, k ≤ l.length ∧ i = .int .i64 k ∧ Hid (RowB wr w.heap.size v (enc l.length ++ (l.take k).flatMap byD)) ∧ Hid (Below w.heap.size w wr)) (fun _ i _ => l.length - (intOf i).toNat)
  case atStart => exact ⟨0, by omega, rfl, HO1, HB1⟩
  case round =>
    clear HO1 HB1
    obtain ⟨k, hk, rfl, HO, HB⟩ := hrel
    by_cases hlt : k < l.length
    · have i0 : (k : Int) < (l.length : Int) := by omega
      obtain ⟨b, off, r, c, rfl, hbl, hx1, hc0, hc1⟩ := HX.out.dot (j := k) hlt
      have HCELL := Lib.hid fun (W : World) (hW : Below w.heap.size w W) => (show W.cell? ⟨b, off + k * 2, none⟩ = some (.int .i64 r) ∧ W.cell? ⟨b, off + k * 2 + 1, none⟩ = some (.int .i64 c) from ⟨(hW.cell (p := ⟨b, off + k * 2, none⟩) hbl).trans hc0, (hW.cell (p := ⟨b, off + k * 2 + 1, none⟩) hbl).trans hc1⟩)
      obtain ⟨mr, hwr, hbr, hmr⟩ := u64_byZ r
      obtain ⟨mc, hwc, hbc, hmc⟩ := u64_byZ c
      have HMR := Lib.hid hwr
      have HMC := Lib.hid hwc
      have HSTEP := Lib.hid (show enc l.length ++ (l.take (k + 1)).flatMap byD = ((enc l.length ++ (l.take k).flatMap byD) ++ enc mr) ++ enc mc from by rw [take_snoc hx1, List.flatMap_append]; simp [byD, hbr, hbc])
      have hal : (enc l.length ++ (l.take k).flatMap byD).length ≤ 100000 := by
        have h1 := enc_ten (n := l.length) (by omega)
        have h2 := flat_le (f := byD) (k := 20) (l := l.take k) fun d _ => byD_le d
        rw [List.length_take] at h2
        rw [List.length_append]
        omega
      have h10 := enc_ten hmr
      have h11 := enc_ten hmc
      clear hwr hwc hbr hbc hc0 hc1 hx1
      generalize enc l.length ++ (l.take k).flatMap byD = acc at HO HSTEP hal
      obtain ⟨D, d, rfl, _, _, _⟩ := SlAt.of_own encB_len HO.out
      go_upto_region 5 with fail
      have HINJ := Lib.hid (show ∀ q ∈ (dotsX w wr (.slice D acc.length d) acc b off l.length cap k r c mr mc).rows, ∀ q' ∈ (dotsX w wr (.slice D acc.length d) acc b off l.length cap k r c mr mc).rows, q.j = q'.j → q = q' from inj_of (show ([0, 7, 8, 15, 16, 17] : List Nat).Nodup from by decide))
      refine wp_region_T (S := Rb.S (dotsX w wr (.slice D acc.length d) acc b off l.length cap k r c mr mc)) (by kernel_rfl) (by kernel_rfl) (by kernel_rfl) (dst_small (n := 33) (by kernel_rfl)) (Rb.G.start HB.out rfl (by rfl) (fun _ _ => ⟨by rfl, HO.out⟩)) ?_ ?_
      · refine ⟨?_, ?_, ?_, ?_, ?_, ?_, ?_, ?_, ?_, ?_, ?_, ?_, ?_, ?_, ?_, ?_, ?_, ?_, trivial⟩
        · exact stepMove (r0 := ⟨0, 15, acc, some 8⟩) HINJ.out (by simp [dotsX]) rfl rfl rfl rfl rfl (by kernel_rfl) (show 15 < 33 from by decide) rfl rfl rfl rfl
        · refine stepPure rfl rfl (by kernel_rfl) (by kernel_rfl) (by kernel_rfl) (by kernel_rfl) fun L a W hI hk hd => ?_
          have e0 : a.tmps[0]?.getD undef = .slice (some ⟨b, off, none⟩) l.length cap := hI.at 0 (by kernel_rfl)
          exact ⟨rfl, .slice (some ⟨b, off, none⟩) l.length cap, by go_simp, fun u hu => Option.some.inj hu⟩
        · refine stepPure rfl rfl (by kernel_rfl) (by kernel_rfl) (by kernel_rfl) (by kernel_rfl) fun L a W hI hk hd => ?_
          have e4 : a.tmps[4]?.getD undef = .int .i64 (k : Int) := hI.at 4 (by kernel_rfl)
          exact ⟨rfl, .int .i64 (k : Int), by go_simp, fun u hu => Option.some.inj hu⟩
        · refine stepPure rfl rfl (by kernel_rfl) (by kernel_rfl) (by kernel_rfl) (by kernel_rfl) fun L a W hI hk hd => ?_
          have e16 := Rb.at hI 1 16 (hd 1 rfl) rfl rfl
          have e17 := Rb.at hI 2 17 (hd 2 rfl) rfl rfl
          exact ⟨rfl, .pointer (some ⟨b, off + k * 2, none⟩), by go_simp, fun u hu => Option.some.inj hu⟩
        · refine stepPure rfl rfl (by kernel_rfl) (by kernel_rfl) (by kernel_rfl) (by kernel_rfl) fun L a W hI hk hd => ?_
          have e18 := Rb.at hI 3 18 (hd 3 rfl) rfl rfl
          exact ⟨rfl, .pointer (some ⟨b, off + k * 2, none⟩), by go_simp, fun u hu => Option.some.inj hu⟩
        · refine stepPure rfl rfl (by kernel_rfl) (by kernel_rfl) (by kernel_rfl) (by kernel_rfl) fun L a W hI hk hd => ?_
          have e19 := Rb.at hI 4 19 (hd 4 rfl) rfl rfl
          obtain ⟨c0, c1⟩ := HCELL.out W hI.glob.bel
          exact ⟨rfl, .int .i64 r, by go_simp, fun u hu => Option.some.inj hu⟩
        · refine stepPure rfl rfl (by kernel_rfl) (by kernel_rfl) (by kernel_rfl) (by kernel_rfl) fun L a W hI hk hd => ?_
          have e20 := Rb.at hI 5 20 (hd 5 rfl) rfl rfl
          have hwr := HMR.out
          exact ⟨rfl, .int .u64 (mr : Int), by go_simp, fun u hu => Option.some.inj hu⟩
        · refine stepCall (r0 := ⟨7, 22, enc mr, none⟩) HINJ.out (by simp [dotsX]) rfl rfl rfl rfl (by kernel_rfl) (show 22 < 33 from by decide) (by kernel_rfl) rfl fun L a W hI hk hd => ?_
          have e21 := Rb.at hI 6 21 (hd 6 rfl) rfl rfl
          exact ⟨rfl, 34, #[.int .u64 (mr : Int)], by go_simp, HN.out mr W hmr⟩
        · refine stepApp (r0 := ⟨8, 23, acc ++ enc mr, some 16⟩) (r1 := ⟨0, 15, acc, some 8⟩) (r2 := ⟨7, 22, enc mr, none⟩) HINJ.out (by simp [dotsX]) rfl rfl (by simp [dotsX]) rfl (show (0 : Nat) ≠ 8 from by decide) (by simp [dotsX]) rfl (show (7 : Nat) ≠ 8 from by decide) (show (0 : Nat) ≠ 7 from by decide) rfl (by dsimp only; omega) rfl rfl (by kernel_rfl) (show 23 < 33 from by decide) (by kernel_rfl) rfl rfl rfl rfl fun a W u v w9 W9 h1 h2 h3 => ?_
          have h1 : a.eval (.tmp 15) = u := h1
          have h2 : a.eval (.tmp 22) = v := h2
          unfold execOp
          simp only [resolve, invoke, builtin, Sem.run_bind, Sem.run_pure, Result.andThen_ok, List.map_toArray, List.map_cons, List.map_nil, h1, h2, h3]
        · refine stepPure rfl rfl (by kernel_rfl) (by kernel_rfl) (by kernel_rfl) (by kernel_rfl) fun L a W hI hk hd => ?_
          have e0 : a.tmps[0]?.getD undef = .slice (some ⟨b, off, none⟩) l.length cap := hI.at 0 (by kernel_rfl)
          exact ⟨rfl, .slice (some ⟨b, off, none⟩) l.length cap, by go_simp, fun u hu => Option.some.inj hu⟩
        · refine stepPure rfl rfl (by kernel_rfl) (by kernel_rfl) (by kernel_rfl) (by kernel_rfl) fun L a W hI hk hd => ?_
          have e4 : a.tmps[4]?.getD undef = .int .i64 (k : Int) := hI.at 4 (by kernel_rfl)
          exact ⟨rfl, .int .i64 (k : Int), by go_simp, fun u hu => Option.some.inj hu⟩
        · refine stepPure rfl rfl (by kernel_rfl) (by kernel_rfl) (by kernel_rfl) (by kernel_rfl) fun L a W hI hk hd => ?_
          have e24 := Rb.at hI 9 24 (hd 9 rfl) rfl rfl
          have e25 := Rb.at hI 10 25 (hd 10 rfl) rfl rfl
          exact ⟨rfl, .pointer (some ⟨b, off + k * 2, none⟩), by go_simp, fun u hu => Option.some.inj hu⟩
        · refine stepPure rfl rfl (by kernel_rfl) (by kernel_rfl) (by kernel_rfl) (by kernel_rfl) fun L a W hI hk hd => ?_
          have e26 := Rb.at hI 11 26 (hd 11 rfl) rfl rfl
          exact ⟨rfl, .pointer (some ⟨b, off + k * 2 + 1, none⟩), by go_simp, fun u hu => Option.some.inj hu⟩
        · refine stepPure rfl rfl (by kernel_rfl) (by kernel_rfl) (by kernel_rfl) (by kernel_rfl) fun L a W hI hk hd => ?_
          have e27 := Rb.at hI 12 27 (hd 12 rfl) rfl rfl
          obtain ⟨c0, c1⟩ := HCELL.out W hI.glob.bel
          exact ⟨rfl, .int .i64 c, by go_simp, fun u hu => Option.some.inj hu⟩
        · refine stepPure rfl rfl (by kernel_rfl) (by kernel_rfl) (by kernel_rfl) (by kernel_rfl) fun L a W hI hk hd => ?_
          have e28 := Rb.at hI 13 28 (hd 13 rfl) rfl rfl
          have hwc := HMC.out
          exact ⟨rfl, .int .u64 (mc : Int), by go_simp, fun u hu => Option.some.inj hu⟩
        · refine stepCall (r0 := ⟨15, 30, enc mc, none⟩) HINJ.out (by simp [dotsX]) rfl rfl rfl rfl (by kernel_rfl) (show 30 < 33 from by decide) (by kernel_rfl) rfl fun L a W hI hk hd => ?_
          have e29 := Rb.at hI 14 29 (hd 14 rfl) rfl rfl
          exact ⟨rfl, 34, #[.int .u64 (mc : Int)], by go_simp, HN.out mc W hmc⟩
        · refine stepApp (r0 := ⟨16, 31, (acc ++ enc mr) ++ enc mc, some 17⟩) (r1 := ⟨8, 23, acc ++ enc mr, some 16⟩) (r2 := ⟨15, 30, enc mc, none⟩) HINJ.out (by simp [dotsX]) rfl rfl (by simp [dotsX]) rfl (show (8 : Nat) ≠ 16 from by decide) (by simp [dotsX]) rfl (show (15 : Nat) ≠ 16 from by decide) (show (8 : Nat) ≠ 15 from by decide) rfl (by dsimp only; rw [List.length_append]; omega) rfl rfl (by kernel_rfl) (show 31 < 33 from by decide) (by kernel_rfl) rfl rfl rfl rfl fun a W u v w9 W9 h1 h2 h3 => ?_
          have h1 : a.eval (.tmp 23) = u := h1
          have h2 : a.eval (.tmp 30) = v := h2
          unfold execOp
          simp only [resolve, invoke, builtin, Sem.run_bind, Sem.run_pure, Result.andThen_ok, List.map_toArray, List.map_cons, List.map_nil, h1, h2, h3]
        · exact stepPass (r0 := ⟨17, 3, (acc ++ enc mr) ++ enc mc, none⟩) (r1 := ⟨16, 31, (acc ++ enc mr) ++ enc mc, some 17⟩) HINJ.out (by simp [dotsX]) rfl rfl (by simp [dotsX]) rfl (show (16 : Nat) ≠ 17 from by decide) rfl rfl rfl (by kernel_rfl) (show 3 < 33 from by decide) (fun m h => Option.some.inj h ▸ rfl) rfl rfl rfl rfl
      · intro a W L hL hI
        have g := hI.glob
        have hr := g.row ⟨17, 3, (acc ++ enc mr) ++ enc mc, none⟩ (by simp [dotsX]) ⟨hL 17 (by decide), fun _ h => (by cases h)⟩
        have HR3 := Lib.hid (show RowB W w.heap.size (a.eval (.tmp 3)) (enc l.length ++ (l.take (k + 1)).flatMap byD) from by rw [HSTEP.out]; exact hr)
        have HBW := Lib.hid (show Below w.heap.size w W from g.bel)
        rw [hI.frame]
        simp only [List.filterMap, List.foldl]
        clear hr g hI hL
        generalize a.eval (.tmp 3) = v3 at HR3 ⊢
        generalize a.eval (.tmp 15) = v15
        generalize a.eval (.tmp 16) = v16
        generalize a.eval (.tmp 17) = v17
        generalize a.eval (.tmp 18) = v18
        generalize a.eval (.tmp 19) = v19
        generalize a.eval (.tmp 20) = v20
        generalize a.eval (.tmp 21) = v21
        generalize a.eval (.tmp 22) = v22
        generalize a.eval (.tmp 23) = v23
        generalize a.eval (.tmp 24) = v24
        generalize a.eval (.tmp 25) = v25
        generalize a.eval (.tmp 26) = v26
        generalize a.eval (.tmp 27) = v27
        generalize a.eval (.tmp 28) = v28
        generalize a.eval (.tmp 29) = v29
        generalize a.eval (.tmp 30) = v30
        generalize a.eval (.tmp 31) = v31
        go_wp2_with fail
        go_roundw
        case rel => exact ⟨k + 1, by omega, by go_num, HR3, HBW⟩
        case measure => simp [intOf]; omega
    · have i0 : ¬ (k : Int) < (l.length : Int) := by omega
      obtain rfl : k = l.length := by omega
      have ho := HO.out
      rw [List.take_length] at ho
      replace ho : RowB wr w.heap.size _ (byL byD l) := ho
      obtain ⟨D, d, rfl, _, _, _⟩ := SlAt.of_own encB_len ho
      have HE := Lib.hid ho
      clear ho HO
      obtain ⟨zs, hzs⟩ : ∃ zs, byL byD l = zs := ⟨_, rfl⟩
      have HZ := Lib.hid hzs
      rw [hzs] at HE
      clear hzs
      go_wp2_with fail
      go_ret
      exact MadeB.of (by rw [HZ.out]; exact HE.out) HB.out

end

end Go.Proofs.YtgdnibahiomneaaGreat
