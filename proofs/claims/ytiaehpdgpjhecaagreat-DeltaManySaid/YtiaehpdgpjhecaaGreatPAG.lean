/- Several texts in one: NamK, NamA, NamB, ItmA, ItmB, ItmC, ItmD, ItmE, ItmF. -/
import Derived.KernelRfl
import Derived.Test.YtiaehpdgpjhecaaGreatPAF
import Derived.Deep.CutBlock
namespace Go.Proofs.YtiaehpdgpjhecaaGreat

section

/-- The names of items. -/
def itemN (s : List UInt8) : Bool :=
  decide (1 ≤ s.length) && decide (s.length ≤ 64) && s[0]? != some 32 && s[s.length - 1]? != some 32 && (s.all fun c => decide (32 ≤ c.toNat) && decide (c.toNat ≤ 126)) && (List.range s.length).all fun i => !(s[i]? == some 32 && s[i + 1]? == some 32)
structure ItemOK (s : List UInt8) : Prop where
  pos : 1 ≤ s.length
  short : s.length ≤ 64
  first : s[0]? ≠ some 32
  last : s[s.length - 1]? ≠ some 32
  bytes : ∀ c ∈ s, 32 ≤ c.toNat ∧ c.toNat ≤ 126
  single : ∀ i : Nat, s[i]? = some 32 → s[i + 1]? ≠ some 32
theorem itemN_iff (s : List UInt8) : itemN s = true ↔ ItemOK s := by
  unfold itemN
  simp only [Bool.and_eq_true, decide_eq_true_eq, bne_iff_ne, List.all_eq_true, List.mem_range, Bool.not_eq_true', Bool.and_eq_false_iff, beq_eq_false_iff_ne]
  constructor
  · rintro ⟨⟨⟨⟨⟨h1, h2⟩, h3⟩, h4⟩, h5⟩, h6⟩
    refine ⟨h1, h2, h3, h4, h5, fun i hi => ?_⟩
    have hl : i < s.length := by
      rcases Nat.lt_or_ge i s.length with h | h
      · exact h
      · rw [List.getElem?_eq_none h] at hi; cases hi
    rcases h6 i hl with h | h
    · exact absurd hi h
    · exact h
  · rintro ⟨h1, h2, h3, h4, h5, h6⟩
    refine ⟨⟨⟨⟨⟨h1, h2⟩, h3⟩, h4⟩, h5⟩, fun i _ => ?_⟩
    by_cases h : s[i]? = some 32
    · exact .inr (h6 i h)
    · exact .inl h
/-- The bytes that separate words. -/
def sepC (c : UInt8) : Bool := c.toNat == 9 || c.toNat == 10 || c.toNat == 13 || c.toNat == 32
/-- One byte more of a string that is made canonical: what there is so far, and whether a separator came last. -/
def canonF (st : List UInt8 × Bool) (c : UInt8) : List UInt8 × Bool :=
  if sepC c then (st.1, true) else (st.1 ++ (if st.2 && st.1 != [] then [32] else []) ++ [c], false)
def canonS (s : List UInt8) : List UInt8 × Bool := s.foldl canonF ([], false)
def canonN (s : List UInt8) : List UInt8 := (canonS s).1
theorem canonS_snoc (s : List UInt8) (c : UInt8) : canonS (s ++ [c]) = canonF (canonS s) c := by simp [canonS, List.foldl_append]
theorem canonF_len (st : List UInt8 × Bool) (c : UInt8) : (canonF st c).1.length ≤ st.1.length + 2 := by
  unfold canonF
  split
  · exact Nat.le_add_right _ _
  · simp only [List.length_append, List.length_singleton]
    split <;> simp <;> omega
theorem canonS_len (s : List UInt8) : (canonS s).1.length ≤ 2 * s.length := by
  suffices h : ∀ k, k ≤ s.length → (canonS (s.take k)).1.length ≤ 2 * k by
    have := h s.length (Nat.le_refl _)
    rwa [List.take_length] at this
  intro k
  induction k with
  | zero => intro _; simp [canonS]
  | succ k ih =>
    intro hk
    rw [List.take_succ_eq_append_getElem (by omega), canonS_snoc]
    have := canonF_len (canonS (s.take k)) s[k]
    have := ih (by omega)
    omega
theorem eq32 {c : UInt8} (h : c.toNat = 32) : c = 32 := UInt8.toNat_inj.1 h
/-- What making canonical has of the beginning of a name. -/
theorem canonS_item {s : List UInt8} (h : ItemOK s) (k : Nat) (hk : k < s.length) : canonS (s.take (k + 1)) = if s[k]? = some 32 then (s.take k, true) else (s.take (k + 1), false) := by
  induction k with
  | zero =>
    have h0 : s[0]? = some s[0] := List.getElem?_eq_getElem hk
    have hne : s[0]? ≠ some 32 := h.first
    rw [if_neg hne, List.take_succ_eq_append_getElem hk]
    have hc : s[0] ≠ 32 := fun e => hne (by rw [h0, e])
    have hb := h.bytes s[0] (List.getElem_mem hk)
    have hs : sepC s[0] = false := by
      have : s[0].toNat ≠ 32 := fun e => hc (eq32 e)
      simp [sepC]; omega
    simp [canonS, canonF, hs]
  | succ k ih =>
    have hk' : k < s.length := by omega
    rw [List.take_succ_eq_append_getElem hk, canonS_snoc, ih hk']
    have hk1 : s[k + 1]? = some s[k + 1] := List.getElem?_eq_getElem hk
    have hb := h.bytes s[k + 1] (List.getElem_mem hk)
    by_cases e1 : s[k]? = some 32
    · have hne : s[k + 1]? ≠ some 32 := h.single k e1
      have hc : s[k + 1].toNat ≠ 32 := fun e => hne (by rw [hk1, eq32 e])
      have hs : sepC s[k + 1] = false := by simp [sepC]; omega
      have hk0 : k ≠ 0 := fun e => by subst e; exact h.first e1
      have hne2 : s.take k ≠ [] := fun e => by
        have := congrArg List.length e
        rw [List.length_take, List.length_nil] at this
        omega
      rw [if_pos e1, if_neg hne]
      have hg : s[k] = 32 := by rw [List.getElem?_eq_getElem hk'] at e1; exact Option.some.inj e1
      unfold canonF
      rw [hs]
      simp only [Bool.true_and, Bool.false_eq_true, if_false]
      rw [if_pos (by simpa using hne2), List.take_succ_eq_append_getElem hk', hg]
    · rw [if_neg e1]
      by_cases e2 : s[k + 1]? = some 32
      · have hg : s[k + 1] = 32 := by rw [hk1] at e2; exact Option.some.inj e2
        rw [if_pos e2, hg]
        rfl
      · have hc : s[k + 1].toNat ≠ 32 := fun e => e2 (by rw [hk1, eq32 e])
        have hs : sepC s[k + 1] = false := by simp [sepC]; omega
        rw [if_neg e2]
        unfold canonF
        rw [hs]
        simp
/-- Canon of a name is the name. -/
theorem canonN_item {s : List UInt8} (h : ItemOK s) : canonN s = s := by
  have hp := h.pos
  have := canonS_item h (s.length - 1) (by omega)
  rw [show s.length - 1 + 1 = s.length by omega, List.take_length, if_neg h.last] at this
  unfold canonN
  rw [this]

end

section
open Go.RowKit

end

section
open Go.RowKit

/-- What is known of the first k bytes of a name. -/
def ItemTo (l : List UInt8) (k : Nat) : Prop := (∀ c ∈ l.take k, 32 ≤ c.toNat ∧ c.toNat ≤ 126) ∧ ∀ i : Nat, i + 1 < k → l[i]? = some 32 → l[i + 1]? ≠ some 32
theorem ItemTo.next {l : List UInt8} {k : Nat} {b : UInt8} (h : ItemTo l k) (hk : l[k]? = some b) (hb : 32 ≤ b.toNat ∧ b.toNat ≤ 126) (h2 : ∀ m, k = m + 1 → l[m]? = some 32 → b.toNat ≠ 32) : ItemTo l (k + 1) := by
  obtain ⟨hlt, he⟩ := List.getElem?_eq_some_iff.1 hk
  refine ⟨fun c hc => ?_, fun i hi h32 e => ?_⟩
  · rw [List.take_succ_eq_append_getElem hlt] at hc
    rcases List.mem_append.1 hc with h' | h'
    · exact h.1 c h'
    · rw [List.mem_singleton.1 h', he]; exact hb
  · by_cases hik : i + 1 < k
    · exact h.2 i hik h32 e
    · have : k = i + 1 := by omega
      subst this
      have e2 : b = 32 := Option.some.inj (hk.symm.trans e)
      exact h2 i rfl h32 (by rw [e2]; rfl)
end

section
open Go.RowKit

/-- An item: its name and its marks. -/
abbrev It := List UInt8 × List Mk
/-- One name comes before another one. -/
def beforeN : List UInt8 → List UInt8 → Bool
  | [], [] => false
  | [], _ :: _ => true
  | _ :: _, [] => false
  | a :: r, b :: s => if a = b then beforeN r s else decide (a.toNat < b.toNat)
/-- A mark with a dot; two items with a dot in common. -/
def hasD (ms : List Mk) (r c : Int) : Bool := ms.any fun m => decide (m.r = r ∧ m.c = c)
def meetN (a b : List Mk) : Bool := a.any fun m => hasD b m.r m.c

/-- An item where it lies: its name, where the marks lie, the marks. -/
structure ItV where
  nm : List UInt8
  A : Option Addr
  c : Nat
  ms : List Mk
def ItV.it (x : ItV) : It := (x.nm, x.ms)
/-- An item as a value, and its two cells. -/
abbrev mkIt (x : ItV) : Value := .agg #[.string ⟨x.nm.toArray⟩, .slice x.A x.ms.length x.c]
def encIt (x : ItV) : List Value := [.string ⟨x.nm.toArray⟩, .slice x.A x.ms.length x.c]
theorem encIt_len (x : ItV) : (encIt x).length = 2 := rfl
theorem encIt_one (x : ItV) : ∀ u ∈ encIt x, u.oneCell' = true := by
  intro u hu
  simp [encIt] at hu
  rcases hu with rfl | rfl <;> rfl
theorem infoIt : (Tryz.prog.info? 50).map (fun i => (i.zero, i.size, i.bytes)) = some (some (.agg #[.string ⟨#[]⟩, .slice none 0 0]), 2, 40) := by kernel_rfl
/-- The marks of an item lie where they should. -/
def ItOK (W : World) (x : ItV) : Prop := MarksAt W x.A x.ms ∧ x.ms.length ≤ x.c ∧ x.c ≤ maxLen
theorem ItOK.below {W W' : World} {x : ItV} (h : ItOK W x) (hb : Below W.heap.size W W') : ItOK W' x := ⟨SlAt.below h.1 hb, h.2⟩
theorem ItOK.len {W : World} {x : ItV} (h : ItOK W x) : x.ms.length ≤ maxLen := Nat.le_trans h.2.1 h.2.2
/-- Items in memory. -/
def ItemsAt (W : World) (A : Option Addr) (xs : List ItV) : Prop := SlAt encIt 2 W A xs ∧ ∀ x ∈ xs, ItOK W x
theorem ItemsAt.below {W W' : World} {A : Option Addr} {xs : List ItV} (h : ItemsAt W A xs) (hb : Below W.heap.size W W') : ItemsAt W' A xs := ⟨SlAt.below h.1 hb, fun x hx => (h.2 x hx).below hb⟩
theorem ItemsAt.far {W : World} {A : Option Addr} {xs : List ItV} (h : ItemsAt W A xs) (p : FarBy) : ItemsAt (Go.Proofs.YtiaehpdgpjhecaaGreat.far W p) A xs := h.below (below_far W p)
theorem ItemsAt.nil (W : World) (A : Option Addr) : ItemsAt W A [] := ⟨SlAt.nil, fun _ h => by cases h⟩
theorem ItemsAt.cells {W : World} {A : Option Addr} {xs : List ItV} (h : ItemsAt W A xs) {j : Nat} (hj : j < xs.length) :
    ∃ b off, ∃ x : ItV, A = some ⟨b, off, none⟩ ∧ b < W.heap.size ∧ xs[j]? = some x ∧ xs[j] = x ∧ W.cell? ⟨b, off + j * 2, none⟩ = some (.string ⟨x.nm.toArray⟩) ∧ W.cell? ⟨b, off + j * 2 + 1, none⟩ = some (.slice x.A x.ms.length x.c) ∧ ItOK W x := by
  obtain ⟨b, off, rfl, hb, hc⟩ := h.1 (by omega)
  have hx := List.getElem?_eq_getElem hj
  exact ⟨b, off, xs[j], rfl, hb, hx, rfl, by simpa using hc j _ hx 0 _ rfl, hc j _ hx 1 _ rfl, h.2 _ (List.getElem_mem hj)⟩
/-- A block that holds an item. -/
def BlkI (W : World) (g : Nat) (x : ItV) : Prop := W.heap[g]? = some (.cells #[.string ⟨x.nm.toArray⟩, .slice x.A x.ms.length x.c] 50 (0, 0))
section
variable {W W' : World} {g : Nat} {x : ItV}
theorem BlkI.lt (h : BlkI W g x) : g < W.heap.size := (Array.getElem?_eq_some_iff.1 h).1
theorem BlkI.cell0 (h : BlkI W g x) : W.cell? ⟨g, 0, none⟩ = some (.string ⟨x.nm.toArray⟩) := by simp [World.cell?, show W.heap[g]? = _ from h]
theorem BlkI.cell1 (h : BlkI W g x) : W.cell? ⟨g, 1, none⟩ = some (.slice x.A x.ms.length x.c) := by simp [World.cell?, show W.heap[g]? = _ from h]
theorem BlkI.frozen (h : BlkI W g x) (k : Nat) : W.frozen? ⟨g, k, none⟩ = false := by simp [World.frozen?, show W.heap[g]? = _ from h]
theorem BlkI.below (h : BlkI W g x) (hb : Below W.heap.size W W') : BlkI W' g x := (hb.block g h.lt).trans h
theorem BlkI.new (W : World) (x : ItV) : BlkI (W.alloc (.cells #[.string ⟨x.nm.toArray⟩, .slice x.A x.ms.length x.c] 50)) W.heap.size x := heap_alloc_new W _
end

end

section
open Go.RowKit

/-- Which items are valid. -/
def okI (x : It) : Bool := itemN x.1 && (decide (0 < x.2.length) && (x.2.all validM && isSetB (dotsM x.2)))

end

section
open Go.RowKit

/-- Two items do not meet; a name comes behind the one before it; an item stands where it may. -/
def apartAt (l : List It) (x : It) (k : Nat) : Bool := match l[k]? with
  | some y => !meetN y.2 x.2
  | none => true
def behindAt (l : List It) (x : It) : Nat → Bool
  | 0 => true
  | j + 1 => match l[j]? with
    | some p => beforeN p.1 x.1
    | none => true
def okAt (l : List It) (j : Nat) : Bool := match l[j]? with
  | some x => okI x && (behindAt l x j && (List.range j).all (apartAt l x))
  | none => true
theorem behindAt_succ {l : List It} {x p : It} {j k : Nat} (hk : k = j + 1) (h : l[j]? = some p) : behindAt l x k = beforeN p.1 x.1 := by subst hk; simp [behindAt, h]
/-- Which items are valid. -/
def validL (l : List It) : Bool := (List.range l.length).all (okAt l)
theorem range_no {p : Nat → Bool} {n j : Nat} (hj : j < n) (h : p j = false) : (List.range n).all p = false := by
  cases e : (List.range n).all p with
  | false => rfl
  | true => rw [List.all_eq_true] at e; have := e j (List.mem_range.2 hj); rw [h] at this; cases this
theorem validL_iff {l : List It} : validL l = true ↔ ∀ j, j < l.length → okAt l j = true := by
  unfold validL
  rw [List.all_eq_true]
  exact ⟨fun h j hj => h j (List.mem_range.2 hj), fun h j hj => h j (List.mem_range.1 hj)⟩
/-- The items of a list in memory. -/
abbrev its (xs : List ItV) : List It := xs.map ItV.it
theorem its_at {xs : List ItV} {j : Nat} {x : ItV} (h : xs[j]? = some x) : (its xs)[j]? = some x.it := by rw [List.getElem?_map, h]; rfl
theorem its_len (xs : List ItV) : (its xs).length = xs.length := by simp
/-- Not too long: names, marks, items. -/
def Fits (xs : List ItV) : Prop := xs.length ≤ 300 ∧ ∀ x ∈ xs, x.nm.length ≤ 1000 ∧ x.ms.length ≤ 100

end

section
open Go.RowKit

theorem ne_at {α : Type} {xs ys : List α} {k : Nat} {x y : α} (hx : xs[k]? = some x) (hy : ys[k]? = some y) (h : x ≠ y) : xs ≠ ys := fun e => by
  subst e; rw [hx] at hy; exact h (Option.some.inj hy)
theorem same_to {α : Type} {xs ys : List α} {k : Nat} {x : α} (h : ∀ j, j < k → xs[j]? = ys[j]?) (hx : xs[k]? = some x) (hy : ys[k]? = some x) : ∀ j, j < k + 1 → xs[j]? = ys[j]? := fun j hj => by
  rcases Nat.lt_or_ge j k with h1 | h1
  · exact h j h1
  · obtain rfl : j = k := by omega
    rw [hx, hy]
theorem same_all {α : Type} {xs ys : List α} (hl : xs.length = ys.length) (h : ∀ j, j < xs.length → xs[j]? = ys[j]?) : xs = ys := List.ext_getElem? fun j => by
  rcases Nat.lt_or_ge j xs.length with h1 | h1
  · exact h j h1
  · rw [List.getElem?_eq_none h1, List.getElem?_eq_none (by omega)]

set_option maxHeartbeats 2000000 in
theorem refSameG (A B : Option Addr) (xs ys : List Mk) (cap cap' : Nat) (w : World) (hx : MarksAt w A xs) (hy : MarksAt w B ys) (hm : xs.length ≤ maxLen) (_ : ys.length ≤ maxLen) :
    Calls Tryz.prog 97 #[.slice A xs.length cap, .slice B ys.length cap'] w (OneB (.bool (decide (xs = ys))) w) := by
  unfold maxLen at hm
  by_cases hl : xs.length = ys.length
  · have hl' : ((xs.length : Int) != (ys.length : Int)) = false := neF (by omega)
    have HL := Lib.hid hl
    clear hl
    go_enter Tryz.func97, Tryz.ntmps97
    go_wp2_with fail
    go_loopw [5] (fun i wr => ∃ m : Nat, m ≤ xs.length ∧ i = .int .i64 m ∧ Below w.heap.size w wr ∧ Hid (∀ j, j < m → xs[j]? = ys[j]?)) (fun i _ => xs.length - (intOf i).toNat)
    case atStart => exact ⟨0, by omega, rfl, Below.refl _ _, fun j h => by omega⟩
    case round =>
      obtain ⟨m, hk2, rfl, hb, hs⟩ := hrel
      by_cases hlt : m < xs.length
      · have i0 : (m : Int) < (xs.length : Int) := by omega
        have i1 : (m : Int) < (ys.length : Int) := by have := HL.out; omega
        obtain ⟨g, off, x, rfl, hbl, hx1, _, hc0, hc1, hc2, hc3⟩ := (SlAt.below hx hb).mark (j := m) hlt
        obtain ⟨g', off', x', rfl, hbl', hx2, _, hd0, hd1, hd2, hd3⟩ := (SlAt.below hy hb).mark (j := m) (by have := HL.out; omega)
        have l0 := fun p => cell_far (p := p) hbl hc0
        have l1 := fun p => cell_far (p := p) hbl hc1
        have l2 := fun p => cell_far (p := p) hbl hc2
        have l3 := fun p => cell_far (p := p) hbl hc3
        have m0 := fun p => cell_far (p := p) hbl' hd0
        have m1 := fun p => cell_far (p := p) hbl' hd1
        have m2 := fun p => cell_far (p := p) hbl' hd2
        have m3 := fun p => cell_far (p := p) hbl' hd3
        clear hc0 hc1 hc2 hc3 hd0 hd1 hd2 hd3
        by_cases he : x = x'
        · subst he
          have HE := Lib.hid (same_to hs.out hx1 hx2)
          clear hx1 hx2
          go_wp2_with fail
          refine wp_region_far (by kernel_rfl) (by kernel_rfl) ?_
          repeat (go_big_quiet_step ((fail)))
          refine wpQuiet_nil ?_
          rintro _ ⟨p, rfl⟩
          go_wp2_with fail
          go_roundw
          case rel => exact ⟨m + 1, by omega, by go_num, hb.trans ((below_far wr p).mono hb.size), HE⟩
          case measure => simp [intOf]; omega
        · have HN := Lib.hid (show false = decide (xs = ys) from (decide_eq_false (ne_at hx1 hx2 he)).symm)
          clear hx1 hx2
          obtain ⟨r, c, q, t⟩ := x
          obtain ⟨r', c', q', t'⟩ := x'
          by_cases h1 : r = r'
          · subst h1
            by_cases h2 : c = c'
            · subst h2
              by_cases h3 : q = q'
              · subst h3
                have h4 : ¬ (t : Int) = (t' : Int) := fun h => he (by rw [Int.natCast_inj] at h; rw [h])
                clear he
                go_wp2_with fail
                refine wp_region_far (by kernel_rfl) (by kernel_rfl) ?_
                repeat (go_big_quiet_step ((fail)))
                refine wpQuiet_nil ?_
                rintro _ ⟨p, rfl⟩
                go_wp2_with fail
                go_ret
                exact OneB.bool HN.out (hb.trans ((below_far wr p).mono hb.size))
              · clear he
                go_wp2_with fail
                refine wp_region_far (by kernel_rfl) (by kernel_rfl) ?_
                repeat (go_big_quiet_step ((fail)))
                refine wpQuiet_nil ?_
                rintro _ ⟨p, rfl⟩
                go_wp2_with fail
                go_ret
                exact OneB.bool HN.out (hb.trans ((below_far wr p).mono hb.size))
            · clear he
              go_wp2_with fail
              refine wp_region_far (by kernel_rfl) (by kernel_rfl) ?_
              repeat (go_big_quiet_step ((fail)))
              refine wpQuiet_nil ?_
              rintro _ ⟨p, rfl⟩
              go_wp2_with fail
              go_ret
              exact OneB.bool HN.out (hb.trans ((below_far wr p).mono hb.size))
          · clear he
            go_wp2_with fail
            refine wp_region_far (by kernel_rfl) (by kernel_rfl) ?_
            repeat (go_big_quiet_step ((fail)))
            refine wpQuiet_nil ?_
            rintro _ ⟨p, rfl⟩
            go_wp2_with fail
            go_ret
            exact OneB.bool HN.out (hb.trans ((below_far wr p).mono hb.size))
      · obtain rfl : m = xs.length := by omega
        have i0 : ¬ (xs.length : Int) < (xs.length : Int) := by omega
        have HN := Lib.hid (show true = decide (xs = ys) from (decide_eq_true (same_all HL.out hs.out)).symm)
        clear hlt hk2
        go_wp2_with fail
        go_ret
        exact OneB.bool HN.out hb
  · have hl' : ((xs.length : Int) != (ys.length : Int)) = true := neT (by omega)
    have HN := Lib.hid (show false = decide (xs = ys) from (decide_eq_false (fun e => hl (by rw [e]))).symm)
    clear hl
    go_enter Tryz.func97, Tryz.ntmps97
    go_wp2_with fail
    go_ret
    exact OneB.bool HN.out (Below.refl _ _)

set_option maxRecDepth 100000 in
set_option maxHeartbeats 2000000 in
theorem refEqual9 (A B : Option Addr) (xs ys : List ItV) (cap cap' : Nat) (w : World) (hx : ItemsAt w A xs) (hy : ItemsAt w B ys) (hm : xs.length ≤ 100000) (_ : ys.length ≤ 100000) :
    Calls Tryz.prog 48 #[.slice A xs.length cap, .slice B ys.length cap'] w (OneB (.bool (decide (its xs = its ys))) w) := by
  by_cases hl : xs.length = ys.length
  · have hl' : ((xs.length : Int) != (ys.length : Int)) = false := neF (by omega)
    have HL := Lib.hid hl
    clear hl
    go_enter Tryz.func48, Tryz.ntmps48
    go_wp2_with fail
    go_loopw [5] (fun i wr => ∃ m : Nat, m ≤ xs.length ∧ i = .int .i64 m ∧ Below w.heap.size w wr ∧ Hid (∀ j, j < m → (its xs)[j]? = (its ys)[j]?)) (fun i _ => xs.length - (intOf i).toNat)
    case atStart => exact ⟨0, by omega, rfl, Below.refl _ _, fun j h => by omega⟩
    case round =>
      obtain ⟨m, hk2, rfl, hb, hs⟩ := hrel
      by_cases hlt : m < xs.length
      · have i0 : (m : Int) < (xs.length : Int) := by omega
        have i1 : (m : Int) < (ys.length : Int) := by have := HL.out; omega
        obtain ⟨g, off, x, rfl, hbl, hx1, _, hc0, hc1, hok⟩ := (hx.below hb).cells (j := m) hlt
        obtain ⟨g', off', y, rfl, hbl', hx2, _, hd0, hd1, hok'⟩ := (hy.below hb).cells (j := m) (by have := HL.out; omega)
        have l0 := fun p => cell_far (p := p) hbl hc0
        have l1 := fun p => cell_far (p := p) hbl hc1
        have m0 := fun p => cell_far (p := p) hbl' hd0
        have m1 := fun p => cell_far (p := p) hbl' hd1
        clear hc0 hc1 hd0 hd1
        by_cases hn : x.nm = y.nm
        · obtain ⟨q, hq⟩ : ∃ q, decide (x.ms = y.ms) = q := ⟨_, rfl⟩
          have HS := Lib.hid fun p => refSameG x.A y.A x.ms y.ms x.c y.c (far wr p) (SlAt.far hok.1 p) (SlAt.far hok'.1 p) hok.len hok'.len
          simp only [hq] at HS
          have hnb : (x.nm == y.nm) = true := by simp [hn]
          cases q with
          | true =>
            have he : x.it = y.it := by unfold ItV.it; rw [hn, of_decide_eq_true hq]
            have HE := Lib.hid (same_to (x := x.it) hs.out (its_at hx1) (by rw [its_at hx2, he]))
            clear hx1 hx2 hn hq he hok hok'
            go_wp2_with fail
            refine wp_region_far (by kernel_rfl) (by kernel_rfl) ?_
            repeat (go_big_quiet_step ((go_at_call 97; exact OneB.far (HS.out _))))
            refine wpQuiet_nil ?_
            rintro _ ⟨p, rfl⟩
            go_wp2_with fail
            go_roundw
            case rel => exact ⟨m + 1, by omega, by go_num, hb.trans ((below_far wr p).mono hb.size), HE⟩
            case measure => simp [intOf]; omega
          | false =>
            have HN := Lib.hid (show false = decide (its xs = its ys) from (decide_eq_false (ne_at (its_at hx1) (its_at hx2) fun e => of_decide_eq_false hq (congrArg Prod.snd e))).symm)
            clear hx1 hx2 hn hq hok hok'
            go_wp2_with fail
            refine wp_region_far (by kernel_rfl) (by kernel_rfl) ?_
            repeat (go_big_quiet_step ((go_at_call 97; exact OneB.far (HS.out _))))
            refine wpQuiet_nil ?_
            rintro _ ⟨p, rfl⟩
            go_wp2_with fail
            go_ret
            exact OneB.bool HN.out (hb.trans ((below_far wr p).mono hb.size))
        · have HN := Lib.hid (show false = decide (its xs = its ys) from (decide_eq_false (ne_at (its_at hx1) (its_at hx2) fun e => hn (congrArg Prod.fst e))).symm)
          have hnb : (x.nm == y.nm) = false := by simp [hn]
          clear hx1 hx2 hn hok hok'
          go_wp2_with fail
          refine wp_region_far (by kernel_rfl) (by kernel_rfl) ?_
          repeat (go_big_quiet_step ((fail)))
          refine wpQuiet_nil ?_
          rintro _ ⟨p, rfl⟩
          go_wp2_with fail
          go_ret
          exact OneB.bool HN.out (hb.trans ((below_far wr p).mono hb.size))
      · obtain rfl : m = xs.length := by omega
        have i0 : ¬ (xs.length : Int) < (xs.length : Int) := by omega
        have HN := Lib.hid (show true = decide (its xs = its ys) from (decide_eq_true (same_all (by rw [its_len, its_len]; exact HL.out) (by rw [its_len]; exact hs.out))).symm)
        clear hlt hk2
        go_wp2_with fail
        go_ret
        exact OneB.bool HN.out hb
  · have hl' : ((xs.length : Int) != (ys.length : Int)) = true := neT (by omega)
    have HN := Lib.hid (show false = decide (its xs = its ys) from (decide_eq_false (fun e => hl (by rw [← its_len xs, e, its_len]))).symm)
    clear hl
    go_enter Tryz.func48, Tryz.ntmps48
    go_wp2_with fail
    go_ret
    exact OneB.bool HN.out (Below.refl _ _)

theorem step_none {l : List It} {p : It → Bool} {k : Nat} {x : It} (h : ∀ (j : Nat) (y : It), j < k → l[j]? = some y → p y = false) (hx : l[k]? = some x) (he : p x = false) : ∀ (j : Nat) (y : It), j < k + 1 → l[j]? = some y → p y = false := fun j y hj hy => by
  rcases Nat.lt_or_ge j k with h1 | h1
  · exact h j y h1 hy
  · obtain rfl : j = k := by omega
    rw [hx] at hy; cases hy; exact he

end

section
open Go.RowKit

/-- The dots of all items. -/
def dotsI (l : List It) : List (Int × Int) := l.foldl (fun s x => setL (s ++ dotsM x.2)) []
/-- A value that reads as items. -/
def HoldsX (w : World) (v : Value) (xs : List ItV) : Prop := ∃ A c, v = .slice A xs.length c ∧ ItemsAt w A xs ∧ xs.length ≤ c ∧ c ≤ maxLen
theorem HoldsX.below {w w' : World} {v : Value} {xs : List ItV} (h : HoldsX w v xs) (hb : Below w.heap.size w w') : HoldsX w' v xs := by
  obtain ⟨A, c, rfl, h1, h2, h3⟩ := h
  exact ⟨A, c, rfl, h1.below hb, h2, h3⟩
theorem HoldsX.nil (w : World) : HoldsX w (.slice none 0 0) [] := ⟨none, 0, rfl, ItemsAt.nil _ _, by simp, by simp [maxLen]⟩
/-- Items in a row of the call's own. -/
abbrev RowT (W : World) (B : Nat) (v : Value) (xs : List ItV) : Prop := W.ownsRow B 50 2 v xs.length (cellsOf encIt xs)
theorem HoldsX.of_own {w : World} {B : Nat} {v : Value} {xs : List ItV} (h : RowT w B v xs) (hk : ∀ x ∈ xs, ItOK w x) : HoldsX w v xs := by
  obtain ⟨A, c, rfl, h1, h2, h3⟩ := SlAt.of_own encIt_len h
  exact ⟨A, c, rfl, ⟨h3, hk⟩, h1, h2⟩

end

section
open Go.RowKit

/-- What holds all along: the item in its block, the items where they lay. -/
structure KW (w : World) (x : ItV) (A : Option Addr) (xs : List ItV) (W : World) : Prop where
  blk : BlkI W w.heap.size x
  bel : Below w.heap.size w W
  xs0 : ItemsAt w A xs
  ok0 : ItOK w x
section
variable {w W W' : World} {x : ItV} {A : Option Addr} {xs : List ItV}
theorem KW.items (h : KW w x A xs W) : ItemsAt W A xs := h.xs0.below h.bel
theorem KW.ok (h : KW w x A xs W) : ItOK W x := h.ok0.below h.bel
theorem KW.next (h : KW w x A xs W) (hb : Below W.heap.size W W') : KW w x A xs W' := ⟨h.blk.below hb, below_trans h.bel hb, h.xs0, h.ok0⟩
theorem KW.alloc (h : KW w x A xs W) (o : Obj) : KW w x A xs (W.alloc o) := h.next ((Below.refl _ _).alloc (Nat.le_refl _) _)
theorem KW.drew (h : KW w x A xs W) : KW w x A xs W.drew := h.next (Below.refl _ _).drew
theorem KW.size (h : KW w x A xs W) : w.heap.size + 1 ≤ W.heap.size := h.blk.lt
theorem KW.grown (h : KW w x A xs W) {row : Option Nat} (hg : W.grownBy W' row) (hr : ∀ k, row = some k → w.heap.size + 1 ≤ k) : KW w x A xs W' := by
  have hz := h.size
  exact ⟨(hg.block _ h.blk.lt (fun e => by have := hr _ e.symm; omega)).trans h.blk, h.bel.grown hg (by omega) (fun k hk => by have := hr k hk; omega), h.xs0, h.ok0⟩
theorem KW.sp (h : KW w x A xs W) : W.cell? ⟨w.heap.size, 0, none⟩ = some (.string ⟨x.nm.toArray⟩) ∧ W.cell? ⟨w.heap.size, 1, none⟩ = some (.slice x.A x.ms.length x.c) ∧ w.heap.size < W.heap.size ∧ KW w x A xs W := ⟨h.blk.cell0, h.blk.cell1, h.blk.lt, h⟩
theorem KW.new (hx : ItemsAt w A xs) (ho : ItOK w x) : KW w x A xs (w.alloc (.cells #[.string ⟨x.nm.toArray⟩, .slice x.A x.ms.length x.c] 50)) := ⟨BlkI.new w x, (Below.refl _ w).alloc (Nat.le_refl _) _, hx, ho⟩
end

end

end Go.Proofs.YtiaehpdgpjhecaaGreat
