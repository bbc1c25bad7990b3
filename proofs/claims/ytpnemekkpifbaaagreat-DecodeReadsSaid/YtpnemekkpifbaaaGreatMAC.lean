/- Several texts in one: NamK, NamA, NamB, ItmA, ItmB, ItmC, ItmD, ItmE, ItmO, VecK, Sort. -/
import Derived.KernelRfl
import Derived.Test.YtpnemekkpifbaaaGreatMAB
import Derived.Deep.CutBlock
import Derived.ChangeMaps
import Derived.ChangeSlices
import Derived.Deep.SlicePairs
import Derived.Lib.SmallJoins
import Derived.ProofKit
import Derived.OpenShut
import Derived.ChangeOld
import Derived.Below
import Derived.Carry
import Derived.Test.YtpnemekkpifbaaaGreatMAA
import Derived.Test.YtpnemekkpifbaaaGreatShelf
namespace Go.Proofs.YtpnemekkpifbaaaGreat

section

/-- The names of items. -/
def itemN (s : List UInt8) : Bool :=
  decide (1 ≤ s.length) && decide (s.length ≤ 64) && s[0]? != some 32 && s[s.length - 1]? != some 32 && (s.all fun c => decide (32 ≤ c.toNat) && decide (c.toNat ≤ 126)) && (List.range s.length).all fun i => !(s[i]? == some 32 && s[i + 1]? == some 32)
structure ItemOK (s : List UInt8) : Prop where
  pos : 1 ≤ s.length
  short : s.length ≤ 64
  first : s[0]? ≠ some 32
  last : s[s.length - 1]? ≠ some 32
  bytes : ∀ c ∈ s, 32 ≤ c.toNat ∧ c.toNat ≤ 126
  single : ∀ i : Nat, s[i]? = some 32 → s[i + 1]? ≠ some 32
theorem itemN_iff (s : List UInt8) : itemN s = true ↔ ItemOK s := by
  unfold itemN
  simp only [Bool.and_eq_true, decide_eq_true_eq, bne_iff_ne, List.all_eq_true, List.mem_range, Bool.not_eq_true', Bool.and_eq_false_iff, beq_eq_false_iff_ne]
  constructor
  · rintro ⟨⟨⟨⟨⟨h1, h2⟩, h3⟩, h4⟩, h5⟩, h6⟩
    refine ⟨h1, h2, h3, h4, h5, fun i hi => ?_⟩
    have hl : i < s.length := by
      rcases Nat.lt_or_ge i s.length with h | h
      · exact h
      · rw [List.getElem?_eq_none h] at hi; cases hi
    rcases h6 i hl with h | h
    · exact absurd hi h
    · exact h
  · rintro ⟨h1, h2, h3, h4, h5, h6⟩
    refine ⟨⟨⟨⟨⟨h1, h2⟩, h3⟩, h4⟩, h5⟩, fun i _ => ?_⟩
    by_cases h : s[i]? = some 32
    · exact .inr (h6 i h)
    · exact .inl h
theorem itemN_no {s : List UInt8} (h : ¬ ItemOK s) : itemN s = false := by
  cases e : itemN s with
  | false => rfl
  | true => exact absurd ((itemN_iff s).1 e) h

/-- The bytes that separate words. -/
def sepC (c : UInt8) : Bool := c.toNat == 9 || c.toNat == 10 || c.toNat == 13 || c.toNat == 32
/-- One byte more of a string that is made canonical: what there is so far, and whether a separator came last. -/
def canonF (st : List UInt8 × Bool) (c : UInt8) : List UInt8 × Bool :=
  if sepC c then (st.1, true) else (st.1 ++ (if st.2 && st.1 != [] then [32] else []) ++ [c], false)
def canonS (s : List UInt8) : List UInt8 × Bool := s.foldl canonF ([], false)
def canonN (s : List UInt8) : List UInt8 := (canonS s).1
theorem canonS_snoc (s : List UInt8) (c : UInt8) : canonS (s ++ [c]) = canonF (canonS s) c := by simp [canonS, List.foldl_append]
theorem canonF_len (st : List UInt8 × Bool) (c : UInt8) : (canonF st c).1.length ≤ st.1.length + 2 := by
  unfold canonF
  split
  · exact Nat.le_add_right _ _
  · simp only [List.length_append, List.length_singleton]
    split <;> simp <;> omega
theorem canonS_len (s : List UInt8) : (canonS s).1.length ≤ 2 * s.length := by
  suffices h : ∀ k, k ≤ s.length → (canonS (s.take k)).1.length ≤ 2 * k by
    have := h s.length (Nat.le_refl _)
    rwa [List.take_length] at this
  intro k
  induction k with
  | zero => intro _; simp [canonS]
  | succ k ih =>
    intro hk
    rw [List.take_succ_eq_append_getElem (by omega), canonS_snoc]
    have := canonF_len (canonS (s.take k)) s[k]
    have := ih (by omega)
    omega
theorem eq32 {c : UInt8} (h : c.toNat = 32) : c = 32 := UInt8.toNat_inj.1 h
/-- What making canonical has of the beginning of a name. -/
theorem canonS_item {s : List UInt8} (h : ItemOK s) (k : Nat) (hk : k < s.length) : canonS (s.take (k + 1)) = if s[k]? = some 32 then (s.take k, true) else (s.take (k + 1), false) := by
  induction k with
  | zero =>
    have h0 : s[0]? = some s[0] := List.getElem?_eq_getElem hk
    have hne : s[0]? ≠ some 32 := h.first
    rw [if_neg hne, List.take_succ_eq_append_getElem hk]
    have hc : s[0] ≠ 32 := fun e => hne (by rw [h0, e])
    have hb := h.bytes s[0] (List.getElem_mem hk)
    have hs : sepC s[0] = false := by
      have : s[0].toNat ≠ 32 := fun e => hc (eq32 e)
      simp [sepC]; omega
    simp [canonS, canonF, hs]
  | succ k ih =>
    have hk' : k < s.length := by omega
    rw [List.take_succ_eq_append_getElem hk, canonS_snoc, ih hk']
    have hk1 : s[k + 1]? = some s[k + 1] := List.getElem?_eq_getElem hk
    have hb := h.bytes s[k + 1] (List.getElem_mem hk)
    by_cases e1 : s[k]? = some 32
    · have hne : s[k + 1]? ≠ some 32 := h.single k e1
      have hc : s[k + 1].toNat ≠ 32 := fun e => hne (by rw [hk1, eq32 e])
      have hs : sepC s[k + 1] = false := by simp [sepC]; omega
      have hk0 : k ≠ 0 := fun e => by subst e; exact h.first e1
      have hne2 : s.take k ≠ [] := fun e => by
        have := congrArg List.length e
        rw [List.length_take, List.length_nil] at this
        omega
      rw [if_pos e1, if_neg hne]
      have hg : s[k] = 32 := by rw [List.getElem?_eq_getElem hk'] at e1; exact Option.some.inj e1
      unfold canonF
      rw [hs]
      simp only [Bool.true_and, Bool.false_eq_true, if_false]
      rw [if_pos (by simpa using hne2), List.take_succ_eq_append_getElem hk', hg]
    · rw [if_neg e1]
      by_cases e2 : s[k + 1]? = some 32
      · have hg : s[k + 1] = 32 := by rw [hk1] at e2; exact Option.some.inj e2
        rw [if_pos e2, hg]
        rfl
      · have hc : s[k + 1].toNat ≠ 32 := fun e => e2 (by rw [hk1, eq32 e])
        have hs : sepC s[k + 1] = false := by simp [sepC]; omega
        rw [if_neg e2]
        unfold canonF
        rw [hs]
        simp
/-- Canon of a name is the name. -/
theorem canonN_item {s : List UInt8} (h : ItemOK s) : canonN s = s := by
  have hp := h.pos
  have := canonS_item h (s.length - 1) (by omega)
  rw [show s.length - 1 + 1 = s.length by omega, List.take_length, if_neg h.last] at this
  unfold canonN
  rw [this]

end

section
open Go.RowKit

end

section
open Go.RowKit

/-- What is known of the first k bytes of a name. -/
def ItemTo (l : List UInt8) (k : Nat) : Prop := (∀ c ∈ l.take k, 32 ≤ c.toNat ∧ c.toNat ≤ 126) ∧ ∀ i : Nat, i + 1 < k → l[i]? = some 32 → l[i + 1]? ≠ some 32
theorem ItemTo.next {l : List UInt8} {k : Nat} {b : UInt8} (h : ItemTo l k) (hk : l[k]? = some b) (hb : 32 ≤ b.toNat ∧ b.toNat ≤ 126) (h2 : ∀ m, k = m + 1 → l[m]? = some 32 → b.toNat ≠ 32) : ItemTo l (k + 1) := by
  obtain ⟨hlt, he⟩ := List.getElem?_eq_some_iff.1 hk
  refine ⟨fun c hc => ?_, fun i hi h32 e => ?_⟩
  · rw [List.take_succ_eq_append_getElem hlt] at hc
    rcases List.mem_append.1 hc with h' | h'
    · exact h.1 c h'
    · rw [List.mem_singleton.1 h', he]; exact hb
  · by_cases hik : i + 1 < k
    · exact h.2 i hik h32 e
    · have : k = i + 1 := by omega
      subst this
      have e2 : b = 32 := Option.some.inj (hk.symm.trans e)
      exact h2 i rfl h32 (by rw [e2]; rfl)
theorem ItemTo.bad {l : List UInt8} {b : UInt8} {k : Nat} (hk : l[k]? = some b) (hb : ¬ (32 ≤ b.toNat ∧ b.toNat ≤ 126)) : itemN l = false :=
  itemN_no fun h => hb (h.bytes b (List.mem_of_getElem? hk))

end

section
open Go.RowKit

/-- An item: its name and its marks. -/
abbrev It := List UInt8 × List Mk
/-- One name comes before another one. -/
def beforeN : List UInt8 → List UInt8 → Bool
  | [], [] => false
  | [], _ :: _ => true
  | _ :: _, [] => false
  | a :: r, b :: s => if a = b then beforeN r s else decide (a.toNat < b.toNat)
/-- A mark with a dot; two items with a dot in common. -/
def hasD (ms : List Mk) (r c : Int) : Bool := ms.any fun m => decide (m.r = r ∧ m.c = c)
def meetN (a b : List Mk) : Bool := a.any fun m => hasD b m.r m.c

/-- An item where it lies: its name, where the marks lie, the marks. -/
structure ItV where
  nm : List UInt8
  A : Option Addr
  c : Nat
  ms : List Mk
def ItV.it (x : ItV) : It := (x.nm, x.ms)
/-- An item as a value, and its two cells. -/
abbrev mkIt (x : ItV) : Value := .agg #[.string ⟨x.nm.toArray⟩, .slice x.A x.ms.length x.c]
def encIt (x : ItV) : List Value := [.string ⟨x.nm.toArray⟩, .slice x.A x.ms.length x.c]
theorem encIt_len (x : ItV) : (encIt x).length = 2 := rfl
theorem encIt_one (x : ItV) : ∀ u ∈ encIt x, u.oneCell' = true := by
  intro u hu
  simp [encIt] at hu
  rcases hu with rfl | rfl <;> rfl
theorem infoIt : (Tryz.prog.info? 57).map (fun i => (i.zero, i.size, i.bytes)) = some (some (.agg #[.string ⟨#[]⟩, .slice none 0 0]), 2, 40) := by kernel_rfl
/-- The marks of an item lie where they should. -/
def ItOK (W : World) (x : ItV) : Prop := MarksAt W x.A x.ms ∧ x.ms.length ≤ x.c ∧ x.c ≤ maxLen
theorem ItOK.below {W W' : World} {x : ItV} (h : ItOK W x) (hb : Below W.heap.size W W') : ItOK W' x := ⟨SlAt.below h.1 hb, h.2⟩
theorem ItOK.len {W : World} {x : ItV} (h : ItOK W x) : x.ms.length ≤ maxLen := Nat.le_trans h.2.1 h.2.2
/-- Items in memory. -/
def ItemsAt (W : World) (A : Option Addr) (xs : List ItV) : Prop := SlAt encIt 2 W A xs ∧ ∀ x ∈ xs, ItOK W x
theorem ItemsAt.below {W W' : World} {A : Option Addr} {xs : List ItV} (h : ItemsAt W A xs) (hb : Below W.heap.size W W') : ItemsAt W' A xs := ⟨SlAt.below h.1 hb, fun x hx => (h.2 x hx).below hb⟩
theorem ItemsAt.far {W : World} {A : Option Addr} {xs : List ItV} (h : ItemsAt W A xs) (p : FarBy) : ItemsAt (Go.Proofs.YtpnemekkpifbaaaGreat.far W p) A xs := h.below (below_far W p)
theorem ItemsAt.nil (W : World) (A : Option Addr) : ItemsAt W A [] := ⟨SlAt.nil, fun _ h => by cases h⟩
theorem ItemsAt.cells {W : World} {A : Option Addr} {xs : List ItV} (h : ItemsAt W A xs) {j : Nat} (hj : j < xs.length) :
    ∃ b off, ∃ x : ItV, A = some ⟨b, off, none⟩ ∧ b < W.heap.size ∧ xs[j]? = some x ∧ xs[j] = x ∧ W.cell? ⟨b, off + j * 2, none⟩ = some (.string ⟨x.nm.toArray⟩) ∧ W.cell? ⟨b, off + j * 2 + 1, none⟩ = some (.slice x.A x.ms.length x.c) ∧ ItOK W x := by
  obtain ⟨b, off, rfl, hb, hc⟩ := h.1 (by omega)
  have hx := List.getElem?_eq_getElem hj
  exact ⟨b, off, xs[j], rfl, hb, hx, rfl, by simpa using hc j _ hx 0 _ rfl, hc j _ hx 1 _ rfl, h.2 _ (List.getElem_mem hj)⟩
/-- A block that holds an item. -/
def BlkI (W : World) (g : Nat) (x : ItV) : Prop := W.heap[g]? = some (.cells #[.string ⟨x.nm.toArray⟩, .slice x.A x.ms.length x.c] 57 (0, 0))
section
variable {W W' : World} {g : Nat} {x : ItV}
theorem BlkI.lt (h : BlkI W g x) : g < W.heap.size := (Array.getElem?_eq_some_iff.1 h).1
theorem BlkI.cell0 (h : BlkI W g x) : W.cell? ⟨g, 0, none⟩ = some (.string ⟨x.nm.toArray⟩) := by simp [World.cell?, show W.heap[g]? = _ from h]
theorem BlkI.cell1 (h : BlkI W g x) : W.cell? ⟨g, 1, none⟩ = some (.slice x.A x.ms.length x.c) := by simp [World.cell?, show W.heap[g]? = _ from h]
theorem BlkI.frozen (h : BlkI W g x) (k : Nat) : W.frozen? ⟨g, k, none⟩ = false := by simp [World.frozen?, show W.heap[g]? = _ from h]
theorem BlkI.below (h : BlkI W g x) (hb : Below W.heap.size W W') : BlkI W' g x := (hb.block g h.lt).trans h
theorem BlkI.new (W : World) (x : ItV) : BlkI (W.alloc (.cells #[.string ⟨x.nm.toArray⟩, .slice x.A x.ms.length x.c] 57)) W.heap.size x := heap_alloc_new W _
end

end

section
open Go.RowKit

/-- Which items are valid. -/
def okI (x : It) : Bool := itemN x.1 && (decide (0 < x.2.length) && (x.2.all validM && isSetB (dotsM x.2)))

end

section
open Go.RowKit

/-- Two items do not meet; a name comes behind the one before it; an item stands where it may. -/
def apartAt (l : List It) (x : It) (k : Nat) : Bool := match l[k]? with
  | some y => !meetN y.2 x.2
  | none => true
def behindAt (l : List It) (x : It) : Nat → Bool
  | 0 => true
  | j + 1 => match l[j]? with
    | some p => beforeN p.1 x.1
    | none => true
def okAt (l : List It) (j : Nat) : Bool := match l[j]? with
  | some x => okI x && (behindAt l x j && (List.range j).all (apartAt l x))
  | none => true
theorem behindAt_succ {l : List It} {x p : It} {j k : Nat} (hk : k = j + 1) (h : l[j]? = some p) : behindAt l x k = beforeN p.1 x.1 := by subst hk; simp [behindAt, h]
/-- Which items are valid. -/
def validL (l : List It) : Bool := (List.range l.length).all (okAt l)
theorem range_no {p : Nat → Bool} {n j : Nat} (hj : j < n) (h : p j = false) : (List.range n).all p = false := by
  cases e : (List.range n).all p with
  | false => rfl
  | true => rw [List.all_eq_true] at e; have := e j (List.mem_range.2 hj); rw [h] at this; cases this
theorem validL_iff {l : List It} : validL l = true ↔ ∀ j, j < l.length → okAt l j = true := by
  unfold validL
  rw [List.all_eq_true]
  exact ⟨fun h j hj => h j (List.mem_range.2 hj), fun h j hj => h j (List.mem_range.1 hj)⟩
/-- The items of a list in memory. -/
abbrev its (xs : List ItV) : List It := xs.map ItV.it
theorem its_at {xs : List ItV} {j : Nat} {x : ItV} (h : xs[j]? = some x) : (its xs)[j]? = some x.it := by rw [List.getElem?_map, h]; rfl
theorem its_len (xs : List ItV) : (its xs).length = xs.length := by simp
/-- Not too long: names, marks, items. -/
def Fits (xs : List ItV) : Prop := xs.length ≤ 90000 ∧ (∀ x ∈ xs, x.nm.length ≤ 200000 ∧ x.ms.length ≤ 90000) ∧ ((its xs).map fun x => x.2.length).sum ≤ 90000

end

section
open Go.RowKit

end

section
open Go.RowKit

/-- The dots of all items. -/
def dotsI (l : List It) : List (Int × Int) := l.foldl (fun s x => setL (s ++ dotsM x.2)) []
/-- A value that reads as items. -/
def HoldsX (w : World) (v : Value) (xs : List ItV) : Prop := ∃ A c, v = .slice A xs.length c ∧ ItemsAt w A xs ∧ xs.length ≤ c ∧ c ≤ maxLen
theorem HoldsX.below {w w' : World} {v : Value} {xs : List ItV} (h : HoldsX w v xs) (hb : Below w.heap.size w w') : HoldsX w' v xs := by
  obtain ⟨A, c, rfl, h1, h2, h3⟩ := h
  exact ⟨A, c, rfl, h1.below hb, h2, h3⟩
theorem HoldsX.nil (w : World) : HoldsX w (.slice none 0 0) [] := ⟨none, 0, rfl, ItemsAt.nil _ _, by simp, by simp [maxLen]⟩
/-- Items in a row of the call's own. -/
abbrev RowT (W : World) (B : Nat) (v : Value) (xs : List ItV) : Prop := W.ownsRow B 57 2 v xs.length (cellsOf encIt xs)
theorem HoldsX.of_own {w : World} {B : Nat} {v : Value} {xs : List ItV} (h : RowT w B v xs) (hk : ∀ x ∈ xs, ItOK w x) : HoldsX w v xs := by
  obtain ⟨A, c, rfl, h1, h2, h3⟩ := SlAt.of_own encIt_len h
  exact ⟨A, c, rfl, ⟨h3, hk⟩, h1, h2⟩

end

section
open Go.RowKit
open Go.ChangeShapes Go.WideShapes Go.ChangeAt

set_option maxRecDepth 1000000

theorem ownP : ownKnob Tryz.prog.godebug = none := by kernel_rfl
theorem laidP : laidOutB Tryz.prog = true := by kernel_rfl

theorem wfU {n : Int} (h : (Lit.int .u64 n).wf = true) : ∃ m : Nat, n = (m : Int) ∧ m < 18446744073709551616 := by
  have h1 : 0 ≤ n ∧ n ≤ IntKind.u64.max := by simpa [Lit.wf, IntKind.min, IntKind.bits, IntKind.signed] using h
  have h2 : IntKind.u64.max = 18446744073709551615 := by decide
  exact ⟨n.toNat, by omega, by omega⟩
theorem wfB {n : Int} (h : (Lit.int .u8 n).wf = true) : ∃ m : Nat, n = (m : Int) ∧ m < 256 := by
  have h1 : 0 ≤ n ∧ n ≤ IntKind.u8.max := by simpa [Lit.wf, IntKind.min, IntKind.bits, IntKind.signed] using h
  have h2 : IntKind.u8.max = 255 := by decide
  exact ⟨n.toNat, by omega, by omega⟩
theorem block_of_cell {w : World} {a : Addr} {v : Value} (h : w.cell? a = some v) : a.block < w.heap.size := by
  rcases Nat.lt_or_ge a.block w.heap.size with hlt | hge
  · exact hlt
  · simp [World.cell?, Array.getElem?_eq_none hge] at h

section
variable {H : Type} {enc : TypeId × Value → H} {W : World} {base b0 : Nat} {spare : Nat → Bool} {held : Bool} {v : Value} {d : DataW H} {p : List MemPlace} {t : TypeId}
end
end

section
open Go.RowKit

/-- Replicas strictly increase. -/
def IncR (v : List (Int × Int)) : Prop := v.Pairwise fun p q => p.1 < q.1
instance (v : List (Int × Int)) : Decidable (IncR v) := by unfold IncR; infer_instance
/-- Which vectors are valid. -/
def validV (v : List (Int × Int)) : Bool := v.all (fun p => validD p.1 p.2) && decide (IncR v)
/-- The counter of a replica. -/
def getV : List (Int × Int) → Int → Int
  | [], _ => 0
  | p :: v, r => if p.1 = r then p.2 else getV v r
/-- A dot is in a vector. -/
def hasV (v : List (Int × Int)) (r c : Int) : Bool := validD r c && decide (c ≤ getV v r)

theorem validV_iff (v : List (Int × Int)) : validV v = true ↔ (∀ p ∈ v, validD p.1 p.2 = true) ∧ IncR v := by
  simp [validV, List.all_eq_true]
theorem validD_pos {r c : Int} (h : validD r c = true) : 1 ≤ c := by simp [validD] at h; omega

theorem getV_none {v : List (Int × Int)} {r : Int} (h : ∀ p ∈ v, p.1 ≠ r) : getV v r = 0 := by
  induction v with
  | nil => rfl
  | cons p v ih =>
    rw [getV, if_neg (h p (by simp)), ih fun q hq => h q (by simp [hq])]
theorem getV_mem {v : List (Int × Int)} (hv : IncR v) {p : Int × Int} (hp : p ∈ v) : getV v p.1 = p.2 := by
  induction v with
  | nil => cases hp
  | cons q v ih =>
    have h := List.pairwise_cons.1 hv
    rcases List.mem_cons.1 hp with e | hp
    · subst e; rw [getV, if_pos rfl]
    · have := h.1 p hp
      rw [getV, if_neg (by omega), ih h.2 hp]
theorem getV_of_pos {v : List (Int × Int)} {r : Int} (h : getV v r ≠ 0) : (r, getV v r) ∈ v := by
  induction v with
  | nil => exact absurd rfl h
  | cons p v ih =>
    rw [getV] at h ⊢
    split at h
    · rename_i e
      rw [if_pos e]; subst e; simp
    · rename_i e
      rw [if_neg e]; exact List.mem_cons_of_mem _ (ih h)
theorem getV_nonneg {v : List (Int × Int)} (h : ∀ p ∈ v, validD p.1 p.2 = true) (r : Int) : 0 ≤ getV v r := by
  by_cases e : getV v r = 0
  · omega
  · have := validD_pos (h _ (getV_of_pos e)); simp at this; omega

theorem mem_iff_get {v : List (Int × Int)} (hv : validV v = true) (p : Int × Int) : p ∈ v ↔ getV v p.1 = p.2 ∧ p.2 ≠ 0 := by
  obtain ⟨h1, h2⟩ := (validV_iff v).1 hv
  constructor
  · intro h
    have := validD_pos (h1 p h)
    exact ⟨getV_mem h2 h, by omega⟩
  · rintro ⟨h, h0⟩
    have := getV_of_pos (v := v) (r := p.1) (by omega)
    rw [h] at this
    exact this

theorem IncR.ext : ∀ {s t : List (Int × Int)}, IncR s → IncR t → (∀ d, d ∈ s ↔ d ∈ t) → s = t
  | [], [], _, _, _ => rfl
  | [], y :: t, _, _, h => by have := (h y).2 (by simp); simp at this
  | x :: s, [], _, _, h => by have := (h x).1 (by simp); simp at this
  | x :: s, y :: t, hs, ht, h => by
    have hs' := List.pairwise_cons.1 hs
    have ht' := List.pairwise_cons.1 ht
    have hxy : x = y := by
      have h1 := (h x).1 (by simp)
      have h2 := (h y).2 (by simp)
      rcases List.mem_cons.1 h1 with e | h1
      · exact e
      · rcases List.mem_cons.1 h2 with e | h2
        · exact e.symm
        · have a := ht'.1 x h1
          have b := hs'.1 y h2
          omega
    subst hxy
    have : s = t := IncR.ext hs'.2 ht'.2 fun d => by
      have hd := h d
      simp only [List.mem_cons] at hd
      constructor
      · intro hm
        rcases hd.1 (.inr hm) with e | h'
        · subst e; have := hs'.1 d hm; omega
        · exact h'
      · intro hm
        rcases hd.2 (.inr hm) with e | h'
        · subst e; have := ht'.1 d hm; omega
        · exact h'
    rw [this]

/-- Two valid vectors with the same counters are the same. -/
theorem validV_ext {a b : List (Int × Int)} (ha : validV a = true) (hb : validV b = true) (h : ∀ r, getV a r = getV b r) : a = b :=
  ((validV_iff a).1 ha).2.ext ((validV_iff b).1 hb).2 fun d => by rw [mem_iff_get ha, mem_iff_get hb, h]

/-- What Raise of the reference makes of a vector which the dot is not in: from an element on, the dot laid in already or not. -/
def raiseL (d : Int × Int) : Bool → List (Int × Int) → List (Int × Int)
  | done, [] => if done then [] else [d]
  | done, x :: v => (if !done && decide (d.1 ≤ x.1) then [d] else []) ++ ((if x.1 != d.1 then [x] else []) ++ raiseL d (done || decide (d.1 ≤ x.1)) v)
/-- The vector with one more dot. -/
def raiseV (v : List (Int × Int)) (d : Int × Int) : List (Int × Int) := if hasV v d.1 d.2 then v else raiseL d false v

theorem raiseL_done (d : Int × Int) : ∀ v : List (Int × Int), raiseL d true v = v.filter fun x => x.1 != d.1
  | [] => rfl
  | x :: v => by
    rw [raiseL, List.filter_cons, Bool.true_or, raiseL_done d v]
    simp only [Bool.not_true, Bool.false_and, Bool.false_eq_true, if_false, List.nil_append]
    cases x.1 != d.1 <;> simp

theorem mem_raiseL {d : Int × Int} : ∀ {v : List (Int × Int)}, IncR v → ∀ p, p ∈ raiseL d false v ↔ p = d ∨ (p ∈ v ∧ p.1 ≠ d.1)
  | [], _, p => by simp [raiseL]
  | x :: v, h, p => by
    have h' := List.pairwise_cons.1 h
    rw [raiseL]
    by_cases hx : d.1 ≤ x.1
    · simp only [hx, decide_true, Bool.not_false, Bool.true_and, if_true, Bool.or_true, raiseL_done, List.mem_append, List.mem_filter, bne_iff_ne, List.mem_cons]
      by_cases e : x.1 = d.1
      · simp [e]
        constructor
        · rintro (h | ⟨h1, h2⟩)
          · exact .inl h
          · exact .inr ⟨.inr h1, h2⟩
        · rintro (h | ⟨h1 | h1, h2⟩)
          · exact .inl h
          · exact absurd (by rw [h1]; exact e) h2
          · exact .inr ⟨h1, h2⟩
      · simp [e]
        constructor
        · rintro (h | h | ⟨h1, h2⟩)
          · exact .inl h
          · exact .inr ⟨.inl h, by rw [h]; exact e⟩
          · exact .inr ⟨.inr h1, h2⟩
        · rintro (h | ⟨h1 | h1, h2⟩)
          · exact .inl h
          · exact .inr (.inl h1)
          · exact .inr (.inr ⟨h1, h2⟩)
    · have e : x.1 ≠ d.1 := by omega
      simp only [hx, decide_false, Bool.not_false, Bool.and_false, Bool.false_eq_true, if_false, Bool.or_false, List.nil_append, List.mem_append, mem_raiseL h'.2, List.mem_cons]
      simp [e]
      constructor
      · rintro (h | h | ⟨h1, h2⟩)
        · exact .inr ⟨.inl h, by rw [h]; exact e⟩
        · exact .inl h
        · exact .inr ⟨.inr h1, h2⟩
      · rintro (h | ⟨h1 | h1, h2⟩)
        · exact .inr (.inl h)
        · exact .inl h1
        · exact .inr (.inr ⟨h1, h2⟩)

theorem IncR.filter {s : List (Int × Int)} (h : IncR s) (p : Int × Int → Bool) : IncR (s.filter p) := List.Pairwise.filter p h
theorem incR_raiseL {d : Int × Int} : ∀ {v : List (Int × Int)}, IncR v → IncR (raiseL d false v)
  | [], _ => by simp [raiseL, IncR]
  | x :: v, h => by
    have h' := List.pairwise_cons.1 h
    rw [raiseL]
    by_cases hx : d.1 ≤ x.1
    · simp only [hx, decide_true, Bool.not_false, Bool.true_and, if_true, Bool.or_true, raiseL_done, List.singleton_append]
      have hf := IncR.filter h'.2 fun x => x.1 != d.1
      by_cases e : x.1 = d.1
      · simp only [e, bne_self_eq_false, Bool.false_eq_true, if_false, List.nil_append]
        refine List.pairwise_cons.2 ⟨fun p hp => ?_, hf⟩
        have := h'.1 p (List.mem_filter.1 hp).1
        omega
      · have e2 : (x.1 != d.1) = true := by simp [e]
        rw [e2]
        simp only [if_true, List.singleton_append]
        refine List.pairwise_cons.2 ⟨fun p hp => ?_, List.pairwise_cons.2 ⟨fun p hp => h'.1 p (List.mem_filter.1 hp).1, hf⟩⟩
        rcases List.mem_cons.1 hp with e3 | hp
        · subst e3; omega
        · have := h'.1 p (List.mem_filter.1 hp).1
          omega
    · have e2 : (x.1 != d.1) = true := by simp; omega
      simp only [hx, decide_false, Bool.not_false, Bool.and_false, Bool.false_eq_true, if_false, Bool.or_false, List.nil_append, e2, if_true, List.singleton_append]
      refine List.pairwise_cons.2 ⟨fun p hp => ?_, incR_raiseL h'.2⟩
      rcases (mem_raiseL h'.2 p).1 hp with e3 | ⟨h1, _⟩
      · subst e3; omega
      · exact h'.1 p h1

theorem valid_raiseV {v : List (Int × Int)} {d : Int × Int} (hv : validV v = true) (hd : validD d.1 d.2 = true) : validV (raiseV v d) = true := by
  unfold raiseV
  split
  · exact hv
  · obtain ⟨h1, h2⟩ := (validV_iff v).1 hv
    refine (validV_iff _).2 ⟨fun p hp => ?_, incR_raiseL h2⟩
    rcases (mem_raiseL h2 p).1 hp with e | ⟨h, _⟩
    · subst e; exact hd
    · exact h1 p h
theorem get_raiseV {v : List (Int × Int)} {d : Int × Int} (hv : validV v = true) (hd : validD d.1 d.2 = true) (r : Int) : getV (raiseV v d) r = if r = d.1 then max (getV v r) d.2 else getV v r := by
  obtain ⟨h1, h2⟩ := (validV_iff v).1 hv
  unfold raiseV
  split
  · rename_i h
    simp only [hasV, Bool.and_eq_true, decide_eq_true_eq] at h
    split
    · rename_i e; subst e; omega
    · rfl
  · rename_i h
    simp only [hasV, hd, Bool.true_and, decide_eq_true_eq] at h
    have hi := incR_raiseL (d := d) h2
    split
    · rename_i e; subst e
      have := getV_mem hi ((mem_raiseL h2 d).2 (.inl rfl))
      rw [this]; omega
    · rename_i e
      by_cases h0 : getV v r = 0
      · rw [h0]
        by_cases h3 : getV (raiseL d false v) r = 0
        · exact h3
        · rcases (mem_raiseL h2 _).1 (getV_of_pos h3) with h4 | ⟨h4, _⟩
          · exact absurd (congrArg Prod.fst h4) e
          · have h5 := getV_mem h2 h4
            simp only at h5
            omega
      · have h3 := (mem_raiseL (d := d) h2 (r, getV v r)).2 (.inr ⟨getV_of_pos h0, e⟩)
        exact getV_mem hi h3

/-- The greatest counter of a replica in a list of dots, n at least. -/
def maxC : List (Int × Int) → Int → Int → Int
  | [], _, n => n
  | d :: l, r, n => maxC l r (if d.1 = r then max n d.2 else n)

/-- The vector with all dots of a list more. -/
def mergeV (a b : List (Int × Int)) : List (Int × Int) := b.foldl raiseV a
theorem mergeV_snoc (a b : List (Int × Int)) (d : Int × Int) : mergeV a (b ++ [d]) = raiseV (mergeV a b) d := by simp [mergeV, List.foldl_append]
theorem valid_mergeV : ∀ {b a : List (Int × Int)}, validV a = true → (∀ p ∈ b, validD p.1 p.2 = true) → validV (mergeV a b) = true
  | [], _, h, _ => h
  | d :: b, a, h, hb => valid_mergeV (b := b) (valid_raiseV h (hb d (by simp))) fun p hp => hb p (by simp [hp])
theorem get_mergeV : ∀ {b a : List (Int × Int)}, validV a = true → (∀ p ∈ b, validD p.1 p.2 = true) → ∀ r, getV (mergeV a b) r = maxC b r (getV a r)
  | [], _, _, _, _ => rfl
  | d :: b, a, h, hb, r => by
    show getV (mergeV (raiseV a d) b) r = _
    rw [get_mergeV (b := b) (valid_raiseV h (hb d (by simp))) (fun p hp => hb p (by simp [hp])) r, get_raiseV h (hb d (by simp)), maxC]
    by_cases e : r = d.1
    · subst e; simp
    · rw [if_neg e, if_neg (Ne.symm e)]
theorem maxC_snoc : ∀ (l : List (Int × Int)) (d : Int × Int) (r n : Int), maxC (l ++ [d]) r n = if d.1 = r then max (maxC l r n) d.2 else maxC l r n
  | [], d, r, n => rfl
  | x :: l, d, r, n => by rw [List.cons_append, maxC, maxC, maxC_snoc l d r]
theorem maxC_ge : ∀ (l : List (Int × Int)) (r n : Int), n ≤ maxC l r n
  | [], _, _ => Int.le_refl _
  | d :: l, r, n => by
    rw [maxC]
    have := maxC_ge l r (if d.1 = r then max n d.2 else n)
    split at this <;> split <;> omega
theorem maxC_none : ∀ {l : List (Int × Int)} {r : Int} (n : Int), (∀ p ∈ l, p.1 ≠ r) → maxC l r n = n
  | [], _, _, _ => rfl
  | d :: l, r, n, h => by rw [maxC, if_neg (h d (by simp)), maxC_none n fun p hp => h p (by simp [hp])]
theorem maxC_get : ∀ {v : List (Int × Int)}, validV v = true → ∀ (r n : Int), 0 ≤ n → maxC v r n = max n (getV v r)
  | [], _, r, n, hn => by simp only [maxC, getV]; omega
  | d :: v, h, r, n, hn => by
    obtain ⟨h1, h2⟩ := (validV_iff _).1 h
    have h2' := List.pairwise_cons.1 h2
    have hv : validV v = true := (validV_iff v).2 ⟨fun p hp => h1 p (by simp [hp]), h2'.2⟩
    rw [maxC, getV]
    by_cases e : d.1 = r
    · rw [if_pos e, if_pos e]
      exact maxC_none _ fun p hp => by have := h2'.1 p hp; omega
    · rw [if_neg e, if_neg e, maxC_get hv r n hn]

/-- What Merge returns has of each replica the greater counter. -/
theorem get_merge {a b : List (Int × Int)} (ha : validV a = true) (hb : validV b = true) (r : Int) : getV (mergeV a b) r = max (getV a r) (getV b r) := by
  obtain ⟨h1, _⟩ := (validV_iff b).1 hb
  rw [get_mergeV ha h1, maxC_get hb r _ (getV_nonneg ((validV_iff a).1 ha).1 r)]
theorem valid_merge {a b : List (Int × Int)} (ha : validV a = true) (hb : validV b = true) : validV (mergeV a b) = true := valid_mergeV ha ((validV_iff b).1 hb).1
theorem merge_comm {a b : List (Int × Int)} (ha : validV a = true) (hb : validV b = true) : mergeV a b = mergeV b a :=
  validV_ext (valid_merge ha hb) (valid_merge hb ha) fun r => by rw [get_merge ha hb, get_merge hb ha]; omega
/-- The vector with some dots. -/
def ofV (l : List (Int × Int)) : List (Int × Int) := mergeV [] l
theorem valid_nil : validV [] = true := rfl
theorem valid_ofV {l : List (Int × Int)} (h : ∀ p ∈ l, validD p.1 p.2 = true) : validV (ofV l) = true := valid_mergeV valid_nil h
theorem get_ofV {l : List (Int × Int)} (h : ∀ p ∈ l, validD p.1 p.2 = true) (r : Int) : getV (ofV l) r = maxC l r 0 := get_mergeV valid_nil h r
/-- A list in the order of replicas, one dot for each, which has of each replica the greatest counter of l, is the vector of l. -/
theorem ofV_unique {l v : List (Int × Int)} (h : ∀ p ∈ l, validD p.1 p.2 = true) (hi : IncR v) (hm : ∀ p ∈ v, p.2 = maxC l p.1 0 ∧ ∃ q ∈ l, q.1 = p.1) (hk : ∀ q ∈ l, ∃ p ∈ v, p.1 = q.1) : v = ofV l := by
  have hpos : ∀ (l' : List (Int × Int)) (r n : Int), (∀ p ∈ l', validD p.1 p.2 = true) → 0 ≤ n → n ≤ 4294967295 → 0 ≤ maxC l' r n ∧ maxC l' r n ≤ 4294967295 := by
    intro l'
    induction l' with
    | nil => intro r n _ h0 h1; exact ⟨h0, h1⟩
    | cons d l' ih =>
      intro r n hv h0 h1
      rw [maxC]
      have hd := hv d (by simp)
      simp [validD] at hd
      exact ih r _ (fun p hp => hv p (by simp [hp])) (by split <;> omega) (by split <;> omega)
  have hge : ∀ (l' : List (Int × Int)) (r n : Int), (∃ q ∈ l', q.1 = r ∧ 1 ≤ q.2) → 1 ≤ maxC l' r n := by
    intro l'
    induction l' with
    | nil => rintro r n ⟨q, hq, _⟩; cases hq
    | cons d l' ih =>
      rintro r n ⟨q, hq, e, h1⟩
      rw [maxC]
      rcases List.mem_cons.1 hq with e2 | hq
      · subst e2
        rw [if_pos e]
        have := maxC_ge l' r (max n q.2)
        omega
      · exact ih r _ ⟨q, hq, e, h1⟩
  have hvv : validV v = true := by
    refine (validV_iff v).2 ⟨fun p hp => ?_, hi⟩
    obtain ⟨e, q, hq, e2⟩ := hm p hp
    have hq' := h q hq
    have h1 := hge l p.1 0 ⟨q, hq, e2, validD_pos hq'⟩
    have h2 := hpos l p.1 0 h (by omega) (by omega)
    simp [validD] at hq' ⊢
    omega
  refine validV_ext hvv (valid_ofV h) fun r => ?_
  rw [get_ofV h]
  by_cases hr : ∃ q ∈ l, q.1 = r
  · obtain ⟨q, hq, e⟩ := hr
    obtain ⟨p, hp, e2⟩ := hk q hq
    have := getV_mem hi hp
    rw [show r = p.1 by omega, this]
    exact (hm p hp).1
  · rw [maxC_none 0 fun p hp e => hr ⟨p, hp, e⟩, getV_none fun p hp e => ?_]
    obtain ⟨_, q, hq, e2⟩ := hm p hp
    exact hr ⟨q, hq, by omega⟩
end

section
open Go.RowKit Go.Sort

section
variable {α : Type} [Inhabited α] {enc : α → List Value} {k : Nat}

theorem flatK_cells (hk : ∀ x, (enc x).length = k) (hk0 : 0 < k) (d : Array α) : (flatK enc k d).toList = cellsOf enc d.toList := by
  apply List.ext_getElem?
  intro t
  by_cases ht : t < d.size * k
  · have h1 : (flatK enc k d)[t]! = (enc d[t / k]!)[t % k]! := get_flatK enc k d t ht
    have hs : t < (flatK enc k d).size := by rw [size_flatK]; exact ht
    have hd : t / k < d.size := (Nat.div_lt_iff_lt_mul hk0).2 ht
    have hm : t % k < k := Nat.mod_lt _ hk0
    have h2 : (cellsOf enc d.toList)[t / k * k + t % k]? = some ((enc d[t / k]!)[t % k]!) := by
      refine cellsOf_at hk d.toList (t / k) d[t / k]! (t % k) _ (by simp [hd]) ?_
      have : t % k < (enc d[t / k]!).length := by rw [hk]; exact hm
      rw [List.getElem?_eq_getElem this]; simp [this]
    rw [Nat.div_add_mod'] at h2
    rw [h2, Array.getElem?_toList, Array.getElem?_eq_getElem hs]
    rw [getElem!_pos (flatK enc k d) t hs] at h1
    rw [h1]
  · rw [List.getElem?_eq_none (by simp; omega), List.getElem?_eq_none (by rw [cellsOf_length hk]; simp; omega)]

theorem holdsK_of_own (hk : ∀ x, (enc x).length = k) (hk0 : 0 < k) {w : World} {base g n cap : Nat} {e : TypeId} {xs : List α} (h : w.ownsRow base e k (.slice (some ⟨g, 0, none⟩) n cap) xs.length (cellsOf enc xs)) :
    HoldsK enc k w g 0 xs.toArray := by
  intro t ht
  have hrow := h.cells (g := g) rfl
  have hf : w.frozen? ⟨g, 0 + t, none⟩ = false := by
    rcases h.2 with ⟨h0, _⟩ | ⟨g', cap', cur, hv, _, hg, _⟩
    · cases h0
    · cases hv; simp [World.frozen?, hg]
  refine ⟨?_, hf⟩
  have hl : (flatK enc k xs.toArray).toList = cellsOf enc xs := by rw [flatK_cells hk hk0]
  have h1 : (cellsOf enc xs)[t]? = some (flatK enc k xs.toArray)[t]! := by
    rw [← hl, Array.getElem?_toList, Array.getElem?_eq_getElem ht, getElem!_pos (flatK enc k xs.toArray) t ht]
  have := hrow t _ h1
  rw [Addr_add] at this
  simpa using this

theorem own_of_sort (hk : ∀ x, (enc x).length = k) (hk0 : 0 < k) {w : World} {base g n cap m : Nat} {e : TypeId} {xs : List α} {d : Array α} {os : Array Obj} (h : w.ownsRow base e k (.slice (some ⟨g, 0, none⟩) n cap) xs.length (cellsOf enc xs)) (hd : d.size = xs.length) :
    (sortWorldK enc k w g 0 m d os).ownsRow base e k (.slice (some ⟨g, 0, none⟩) n cap) d.toList.length (cellsOf enc d.toList) ∧ w.grownBy (sortWorldK enc k w g 0 m d os) (some g) := by
  have hlen := h.1
  rcases h.2 with ⟨h0, _⟩ | ⟨g', cap', cur, hv, hb, hg, hn, hc, hs, ht⟩
  · cases h0
  · cases hv
    have hgl : g < w.heap.size := (Array.getElem?_eq_some_iff.1 hg).1
    have hsz : d.size * k ≤ cur.size := by rw [hs, hd]; exact Nat.mul_le_mul_right k hn
    constructor
    · refine ⟨cellsOf_length hk _, .inr ⟨g, cap, putCells id 0 (flatK enc k d) cur, by simp [hd], hb, ?_, by simp [hd]; exact hn, hc, by simpa [putCells] using hs, ?_⟩⟩
      · unfold sortWorldK
        rw [heap_grow_old _ _ (by simpa [putRowK, putRow, mapBlock] using hgl)]
        simp only [putRowK, putRow, mapBlock, Array.getElem?_modify]
        rw [if_pos trivial]
        show Option.map _ w.heap[g]? = _
        rw [hg]; rfl
      · rw [← flatK_cells hk hk0]
        apply List.ext_getElem?
        intro t
        rw [List.getElem?_take]
        by_cases hlt : t < d.size * k
        · rw [if_pos (by simpa using hlt)]
          have h1 : t < cur.size := by omega
          have h2 : t < (flatK enc k d).size := by simpa using hlt
          simp only [putCells, Array.getElem?_toList, Array.getElem?_mapIdx, Array.getElem?_eq_getElem h1, Option.map_some, Array.getElem?_eq_getElem h2, size_flatK]
          rw [if_pos ⟨Nat.zero_le _, by omega⟩, Nat.sub_zero, getElem!_pos (flatK enc k d) t h2]
          rfl
        · rw [if_neg (by simpa using hlt), List.getElem?_eq_none (by simp; omega)]
    · refine ⟨rfl, rfl, rfl, by simp [sortWorldK, putRowK, putRow, mapBlock], fun j hj hne => ?_⟩
      unfold sortWorldK
      rw [heap_grow_old _ _ (by simpa [putRowK, putRow, mapBlock] using hj)]
      simp only [putRowK, putRow, mapBlock, Array.getElem?_modify]
      rw [if_neg (by rintro rfl; exact hne rfl)]
      rfl
end

end

end Go.Proofs.YtpnemekkpifbaaaGreat
