/- Several texts in one: QtyI, CrcH, GenS, NamK, NamA, NamB, ItmA. -/
import Derived.Test.YtiaehpdgpjhecaaGreatMAH
import Derived.Test.YtiaehpdgpjhecaaGreatMAB
import Derived.WalkSpells
import Derived.IntWalk
import Derived.Lib.ConvBytes
import Derived.Lib.SlBytesRow
import Derived.Lib.BufferRead
import Derived.Laws.OwnMore
import Derived.Laws.BitsAllLaws
import Derived.Lib.SmallJoins
import Derived.Lib.AppendStr
import Derived.Test.YtiaehpdgpjhecaaGreatMAG
import Derived.Test.YtiaehpdgpjhecaaGreatMAC
import Derived.Outline
import Derived.KernelRfl
import Derived.Deep.CutBlock
namespace Go.Proofs.YtiaehpdgpjhecaaGreat

section
open Go.RowKit

theorem dotIsSet_h (v : Value) (xs : List (Int × Int)) (b : Bool) (w : World) (h : Holds w v xs) (hb : isSetB xs = b) : Calls Tryz.prog 131 #[v] w (OneB (.bool b) w) := by
  obtain ⟨A, n, rfl, h1, h2, h3⟩ := h
  subst hb
  exact dotIsSet A xs n w h1 (Nat.le_trans h2 h3)
theorem refIsSet_h (v : Value) (xs : List (Int × Int)) (b : Bool) (w : World) (h : Holds w v xs) (hb : isSetB xs = b) : Calls Tryz.prog 201 #[v] w (OneB (.bool b) w) := by
  obtain ⟨A, n, rfl, h1, h2, h3⟩ := h
  subst hb
  exact refIsSet A xs n w h1 (Nat.le_trans h2 h3)
theorem qtyIsList (A : Option Addr) (xs : List Mk) (cap : Nat) (b : Bool) (w : World) (hx : MarksAt w A xs) (hm : xs.length ≤ 100000) (hb : isSetB (dotsM xs) = b) :
    Calls Tryz.prog 139 #[.slice A xs.length cap] w (OneB (.bool b) w) := by
  have HD := Lib.hid (qtyDots A xs cap w hx hm)
  have HS := Lib.hid fun v W h => dotIsSet_h v (dotsM xs) b W h hb
  clear hx hm hb
  go_enter Tryz.func139, Tryz.ntmps139
  go_wp2_with fail
  refine HD.out.mono ?_
  rintro e w1 ⟨⟨v, rfl, hv⟩, hb1⟩
  have HV := Lib.hid hv
  have HB := Lib.hid hb1
  clear hv hb1
  go_wp2_with fail
  refine (HS.out _ _ HV.out).mono ?_
  rintro e w2 ⟨rfl, hb2⟩
  have HB2 := Lib.hid (below_trans HB.out hb2)
  clear hb2
  go_wp2_with fail
  go_ret
  exact ⟨rfl, HB2.out⟩
theorem refIsList (A : Option Addr) (xs : List Mk) (cap : Nat) (b : Bool) (w : World) (hx : MarksAt w A xs) (hm : xs.length ≤ 100000) (hb : isSetB (dotsM xs) = b) :
    Calls Tryz.prog 204 #[.slice A xs.length cap] w (OneB (.bool b) w) := by
  have HD := Lib.hid (refDots A xs cap w hx hm)
  have HS := Lib.hid fun v W h => refIsSet_h v (dotsM xs) b W h hb
  clear hx hm hb
  go_enter Tryz.func204, Tryz.ntmps204
  go_wp2_with fail
  refine HD.out.mono ?_
  rintro e w1 ⟨⟨v, rfl, hv⟩, hb1⟩
  have HV := Lib.hid hv
  have HB := Lib.hid hb1
  clear hv hb1
  go_wp2_with fail
  refine (HS.out _ _ HV.out).mono ?_
  rintro e w2 ⟨rfl, hb2⟩
  have HB2 := Lib.hid (below_trans HB.out hb2)
  clear hb2
  go_wp2_with fail
  go_ret
  exact ⟨rfl, HB2.out⟩

end

section
open Go.RowKit

/-- A byte's cell. -/
abbrev encB (b : UInt8) : List Value := [.int .u8 b.toNat]
theorem encB_len (x : UInt8) : (encB x).length = 1 := rfl
abbrev BytesAt (w : World) (A : Option Addr) (xs : List UInt8) : Prop := SlAt encB 1 w A xs
/-- A slice of bytes that reads as a list. -/
def HoldsB (w : World) (v : Value) (xs : List UInt8) : Prop := ∃ A c, v = .slice A xs.length c ∧ BytesAt w A xs ∧ xs.length ≤ c ∧ c ≤ maxLen
theorem HoldsB.below {w w' : World} {v : Value} {xs : List UInt8} (h : HoldsB w v xs) (hb : Below w.heap.size w w') : HoldsB w' v xs := by
  obtain ⟨A, c, rfl, h1, h2, h3⟩ := h
  exact ⟨A, c, rfl, h1.below hb, h2, h3⟩
theorem HoldsB.nil (w : World) : HoldsB w (.slice none 0 0) [] := ⟨none, 0, rfl, SlAt.nil, by simp, by simp [maxLen]⟩
theorem HoldsB.of_own {w : World} {base : Nat} {v : Value} {xs : List UInt8} (h : w.ownsRow base 5 1 v xs.length (cellsOf encB xs)) : HoldsB w v xs := by
  obtain ⟨A, c, rfl, h1, h2, h3⟩ := SlAt.of_own encB_len h
  exact ⟨A, c, rfl, h3, h1, h2⟩

/-- A world that differs from another one in blocks of S alone, and in new ones. -/
structure Chg (S : Nat → Prop) (w w' : World) : Prop where
  os : w'.os = w.os
  tape : w'.tape = w.tape
  output : w'.output = w.output
  size : w.heap.size ≤ w'.heap.size
  block : ∀ k, k < w.heap.size → ¬ S k → w'.heap[k]? = w.heap[k]?
section
variable {S T : Nat → Prop} {a b c : World}
theorem Chg.refl (S : Nat → Prop) (w : World) : Chg S w w := ⟨rfl, rfl, rfl, Nat.le_refl _, fun _ _ _ => rfl⟩
theorem Chg.trans (h : Chg S a b) (k : Chg T b c) (ht : ∀ i, i < a.heap.size → T i → S i) : Chg S a c :=
  ⟨k.os.trans h.os, k.tape.trans h.tape, k.output.trans h.output, Nat.le_trans h.size k.size, fun i hi hn => (k.block i (Nat.lt_of_lt_of_le hi h.size) fun e => hn (ht i hi e)).trans (h.block i hi hn)⟩
theorem Chg.of_below (h : Below a.heap.size a b) : Chg S a b := ⟨h.os, h.tape, h.output, h.size, fun k hk _ => h.block k hk⟩
theorem Chg.mono (h : Chg S a b) (hs : ∀ k, k < a.heap.size → S k → T k) : Chg T a b := ⟨h.os, h.tape, h.output, h.size, fun k hk hn => h.block k hk fun e => hn (hs k hk e)⟩
theorem Chg.below (h : Chg S a b) {B : Nat} (hB : B ≤ a.heap.size) (hs : ∀ k, S k → B ≤ k) : Below B a b := ⟨h.os, h.tape, h.output, h.size, fun k hk => h.block k (by omega) fun e => by have := hs k e; omega⟩
theorem Chg.cell (h : Chg S a b) {p : Addr} {v : Value} (hc : a.cell? p = some v) (hn : ¬ S p.block) : b.cell? p = some v := (World.cell?_of_block (h.block p.block (World.block_lt_of_cell? a p hc) hn)).trans hc
theorem Chg.holds (h : Chg S a b) {v : Value} {xs : List UInt8} (hv : HoldsB a v xs) (hn : ∀ k, v.ownBlock = some k → ¬ S k) : HoldsB b v xs := by
  obtain ⟨A, c, rfl, h1, h2, h3⟩ := hv
  refine ⟨A, c, rfl, fun h0 => ?_, h2, h3⟩
  obtain ⟨g, off, rfl, hb, hc⟩ := h1 h0
  exact ⟨g, off, rfl, Nat.lt_of_lt_of_le hb h.size, fun j x hx i u hu => h.cell (hc j x hx i u hu) (hn g rfl)⟩
end

theorem bytesWorld_below (w : World) (s : ByteArray) : Below w.heap.size w (Lib.bytesWorld w 5 s) := by
  refine ⟨rfl, rfl, rfl, ?_, fun k hk => Lib.bytesWorld_at_old w _ s k hk⟩
  have h := Lib.bytesWorld_at_new w 5 s
  have := (Array.getElem?_eq_some_iff.1 h).1
  omega
theorem bytesWorld_at (w : World) (s : ByteArray) : BytesAt (Lib.bytesWorld w 5 s) (some ⟨w.heap.size, 0, none⟩) s.data.toList := fun _ => by
  have h := Lib.bytesWorld_at_new w 5 s
  refine ⟨w.heap.size, 0, rfl, (Array.getElem?_eq_some_iff.1 h).1, fun j x hx i u hu => ?_⟩
  match i, hu with
  | 0, hu =>
    have hu' : Value.int .u8 x.toNat = u := by simpa using hu
    subst hu'
    simp only [World.cell?, h]
    have hj : j < s.data.size := by
      have := (List.getElem?_eq_some_iff.1 hx).1
      simpa using this
    have hx' : s.data[j]? = some x := by rw [← Array.getElem?_toList]; exact hx
    simp [Lib.bytesCells, Array.getElem?_append, hx']
    intro hle
    have e2 : s.size = s.data.size := rfl
    omega
  | i + 1, hu => simp at hu
theorem HoldsB.lit (W : World) (l : List UInt8) (hl : l.length ≤ maxLen) : HoldsB (W.alloc (.cells (cellsOf encB l).toArray 5)) (.slice (some ⟨W.heap.size, 0, none⟩) l.length l.length) l := by
  have ho : (W.alloc (.cells (cellsOf encB l).toArray 5)).ownsRow W.heap.size 5 1 (.slice (some ⟨W.heap.size, 0, none⟩) l.length l.length) l.length (cellsOf encB l) := by
    refine ⟨by rw [cellsOf_length encB_len], .inr ⟨W.heap.size, l.length, (cellsOf encB l).toArray, rfl, Nat.le_refl _, heap_alloc_new W _, Nat.le_refl _, hl, ?_, ?_⟩⟩
    · rw [List.size_toArray, cellsOf_length encB_len]
    · rw [List.toList_toArray, List.take_of_length_le (by rw [cellsOf_length encB_len]; exact Nat.le_refl _)]
  exact HoldsB.of_own ho
/-- A row of bytes of the call's own. -/
abbrev RowB (W : World) (B : Nat) (v : Value) (xs : List UInt8) : Prop := W.ownsRow B 5 1 v xs.length (cellsOf encB xs)
theorem RowB.chg {W W' : World} {B : Nat} {v : Value} {xs : List UInt8} {S : Nat → Prop} (h : RowB W B v xs) (hc : Chg S W W') (hn : ∀ k, v.ownBlock = some k → ¬ S k) : RowB W' B v xs := by
  refine ⟨h.1, ?_⟩
  rcases h.2 with hn' | ⟨r, cap, cur, rfl, hb, hg, rest⟩
  · exact .inl hn'
  · exact .inr ⟨r, cap, cur, rfl, hb, (hc.block r (Array.getElem?_eq_some_iff.1 hg).1 (hn r rfl)).trans hg, rest⟩
theorem RowB.below {W W' : World} {B : Nat} {v : Value} {xs : List UInt8} (h : RowB W B v xs) (hb : Below W.heap.size W W') : RowB W' B v xs := h.chg (S := fun _ => False) (.of_below hb) (fun _ _ => id)
theorem RowB.nil (W : World) (B : Nat) : RowB W B (.slice none 0 0) [] := World.ownsRow_nil _ _ _ _

end

section
open Go.RowKit

theorem toNat8 (b : UInt8) : b.toNat < 256 := b.toBitVec.isLt
theorem size_mk (l : List UInt8) : (ByteArray.mk l.toArray).size = l.length := by show l.toArray.size = _; simp
theorem str_at {l : List UInt8} {k : Nat} (hk : k < l.length) : ∀ h : k < (ByteArray.mk l.toArray).size, (ByteArray.mk l.toArray)[k]'h = l[k]'hk := fun _ => rfl
/-- A string's cell. -/
abbrev encS (l : List UInt8) : List Value := [.string ⟨l.toArray⟩]
theorem encS_len (x : List UInt8) : (encS x).length = 1 := rfl
abbrev StrsAt (w : World) (A : Option Addr) (xs : List (List UInt8)) : Prop := SlAt encS 1 w A xs
/-- A slice of strings that reads as a list. -/
def HoldsS (w : World) (v : Value) (xs : List (List UInt8)) : Prop := ∃ A c, v = .slice A xs.length c ∧ StrsAt w A xs ∧ xs.length ≤ c ∧ c ≤ maxLen
theorem HoldsS.below {w w' : World} {v : Value} {xs : List (List UInt8)} (h : HoldsS w v xs) (hb : Below w.heap.size w w') : HoldsS w' v xs := by
  obtain ⟨A, c, rfl, h1, h2, h3⟩ := h
  exact ⟨A, c, rfl, h1.below hb, h2, h3⟩
theorem HoldsS.nil (w : World) : HoldsS w (.slice none 0 0) [] := ⟨none, 0, rfl, SlAt.nil, by simp, by simp [maxLen]⟩
theorem HoldsS.at {w : World} {A : Option Addr} {c : Nat} {xs : List (List UInt8)} (h : HoldsS w (.slice A xs.length c) xs) : StrsAt w A xs := by
  obtain ⟨_, _, e, h1, _⟩ := h
  cases e
  exact h1
theorem HoldsS.max {w : World} {v : Value} {xs : List (List UInt8)} (h : HoldsS w v xs) : xs.length ≤ maxLen := by
  obtain ⟨_, _, _, _, h2, h3⟩ := h
  omega
/-- A row of strings of the call's own. -/
abbrev RowS (W : World) (B : Nat) (v : Value) (xs : List (List UInt8)) : Prop := W.ownsRow B 9 1 v xs.length (cellsOf encS xs)
theorem HoldsS.of_own {w : World} {B : Nat} {v : Value} {xs : List (List UInt8)} (h : RowS w B v xs) : HoldsS w v xs := by
  obtain ⟨A, c, rfl, h1, h2, h3⟩ := SlAt.of_own encS_len h
  exact ⟨A, c, rfl, h3, h1, h2⟩
theorem SlAt.lit {α : Type} {enc : α → List Value} (hk : ∀ x, (enc x).length = 1) (W : World) (t : TypeId) (xs : List α) (hm : xs.length ≤ maxLen) :
    SlAt enc 1 (W.alloc (.cells (cellsOf enc xs).toArray t)) (some ⟨W.heap.size, 0, none⟩) xs := by
  have hl : (cellsOf enc xs).length = xs.length := by rw [cellsOf_length hk, Nat.mul_one]
  have h := World.ownsRow_lit (base := 0) (e := t) (size := 1) W (cellsOf enc xs).toArray xs.length (Nat.zero_le _) hm (by rw [List.size_toArray, hl, Nat.mul_one])
  rw [List.toList_toArray] at h
  obtain ⟨A, c, e, _, _, h3⟩ := SlAt.of_own hk h
  injection e with e1 e2 e3
  rw [e1]
  exact h3
end

section

/-- The names of items. -/
def itemN (s : List UInt8) : Bool :=
  decide (1 ≤ s.length) && decide (s.length ≤ 64) && s[0]? != some 32 && s[s.length - 1]? != some 32 && (s.all fun c => decide (32 ≤ c.toNat) && decide (c.toNat ≤ 126)) && (List.range s.length).all fun i => !(s[i]? == some 32 && s[i + 1]? == some 32)
structure ItemOK (s : List UInt8) : Prop where
  pos : 1 ≤ s.length
  short : s.length ≤ 64
  first : s[0]? ≠ some 32
  last : s[s.length - 1]? ≠ some 32
  bytes : ∀ c ∈ s, 32 ≤ c.toNat ∧ c.toNat ≤ 126
  single : ∀ i : Nat, s[i]? = some 32 → s[i + 1]? ≠ some 32
theorem itemN_iff (s : List UInt8) : itemN s = true ↔ ItemOK s := by
  unfold itemN
  simp only [Bool.and_eq_true, decide_eq_true_eq, bne_iff_ne, List.all_eq_true, List.mem_range, Bool.not_eq_true', Bool.and_eq_false_iff, beq_eq_false_iff_ne]
  constructor
  · rintro ⟨⟨⟨⟨⟨h1, h2⟩, h3⟩, h4⟩, h5⟩, h6⟩
    refine ⟨h1, h2, h3, h4, h5, fun i hi => ?_⟩
    have hl : i < s.length := by
      rcases Nat.lt_or_ge i s.length with h | h
      · exact h
      · rw [List.getElem?_eq_none h] at hi; cases hi
    rcases h6 i hl with h | h
    · exact absurd hi h
    · exact h
  · rintro ⟨h1, h2, h3, h4, h5, h6⟩
    refine ⟨⟨⟨⟨⟨h1, h2⟩, h3⟩, h4⟩, h5⟩, fun i _ => ?_⟩
    by_cases h : s[i]? = some 32
    · exact .inr (h6 i h)
    · exact .inl h
theorem itemN_no {s : List UInt8} (h : ¬ ItemOK s) : itemN s = false := by
  cases e : itemN s with
  | false => rfl
  | true => exact absurd ((itemN_iff s).1 e) h

/-- The bytes that separate words. -/
def sepC (c : UInt8) : Bool := c.toNat == 9 || c.toNat == 10 || c.toNat == 13 || c.toNat == 32
/-- One byte more of a string that is made canonical: what there is so far, and whether a separator came last. -/
def canonF (st : List UInt8 × Bool) (c : UInt8) : List UInt8 × Bool :=
  if sepC c then (st.1, true) else (st.1 ++ (if st.2 && st.1 != [] then [32] else []) ++ [c], false)
def canonS (s : List UInt8) : List UInt8 × Bool := s.foldl canonF ([], false)
def canonN (s : List UInt8) : List UInt8 := (canonS s).1
theorem canonS_snoc (s : List UInt8) (c : UInt8) : canonS (s ++ [c]) = canonF (canonS s) c := by simp [canonS, List.foldl_append]
theorem canonF_len (st : List UInt8 × Bool) (c : UInt8) : (canonF st c).1.length ≤ st.1.length + 2 := by
  unfold canonF
  split
  · exact Nat.le_add_right _ _
  · simp only [List.length_append, List.length_singleton]
    split <;> simp <;> omega
theorem canonS_len (s : List UInt8) : (canonS s).1.length ≤ 2 * s.length := by
  suffices h : ∀ k, k ≤ s.length → (canonS (s.take k)).1.length ≤ 2 * k by
    have := h s.length (Nat.le_refl _)
    rwa [List.take_length] at this
  intro k
  induction k with
  | zero => intro _; simp [canonS]
  | succ k ih =>
    intro hk
    rw [List.take_succ_eq_append_getElem (by omega), canonS_snoc]
    have := canonF_len (canonS (s.take k)) s[k]
    have := ih (by omega)
    omega
theorem eq32 {c : UInt8} (h : c.toNat = 32) : c = 32 := UInt8.toNat_inj.1 h
/-- What making canonical has of the beginning of a name. -/
theorem canonS_item {s : List UInt8} (h : ItemOK s) (k : Nat) (hk : k < s.length) : canonS (s.take (k + 1)) = if s[k]? = some 32 then (s.take k, true) else (s.take (k + 1), false) := by
  induction k with
  | zero =>
    have h0 : s[0]? = some s[0] := List.getElem?_eq_getElem hk
    have hne : s[0]? ≠ some 32 := h.first
    rw [if_neg hne, List.take_succ_eq_append_getElem hk]
    have hc : s[0] ≠ 32 := fun e => hne (by rw [h0, e])
    have hb := h.bytes s[0] (List.getElem_mem hk)
    have hs : sepC s[0] = false := by
      have : s[0].toNat ≠ 32 := fun e => hc (eq32 e)
      simp [sepC]; omega
    simp [canonS, canonF, hs]
  | succ k ih =>
    have hk' : k < s.length := by omega
    rw [List.take_succ_eq_append_getElem hk, canonS_snoc, ih hk']
    have hk1 : s[k + 1]? = some s[k + 1] := List.getElem?_eq_getElem hk
    have hb := h.bytes s[k + 1] (List.getElem_mem hk)
    by_cases e1 : s[k]? = some 32
    · have hne : s[k + 1]? ≠ some 32 := h.single k e1
      have hc : s[k + 1].toNat ≠ 32 := fun e => hne (by rw [hk1, eq32 e])
      have hs : sepC s[k + 1] = false := by simp [sepC]; omega
      have hk0 : k ≠ 0 := fun e => by subst e; exact h.first e1
      have hne2 : s.take k ≠ [] := fun e => by
        have := congrArg List.length e
        rw [List.length_take, List.length_nil] at this
        omega
      rw [if_pos e1, if_neg hne]
      have hg : s[k] = 32 := by rw [List.getElem?_eq_getElem hk'] at e1; exact Option.some.inj e1
      unfold canonF
      rw [hs]
      simp only [Bool.true_and, Bool.false_eq_true, if_false]
      rw [if_pos (by simpa using hne2), List.take_succ_eq_append_getElem hk', hg]
    · rw [if_neg e1]
      by_cases e2 : s[k + 1]? = some 32
      · have hg : s[k + 1] = 32 := by rw [hk1] at e2; exact Option.some.inj e2
        rw [if_pos e2, hg]
        rfl
      · have hc : s[k + 1].toNat ≠ 32 := fun e => e2 (by rw [hk1, eq32 e])
        have hs : sepC s[k + 1] = false := by simp [sepC]; omega
        rw [if_neg e2]
        unfold canonF
        rw [hs]
        simp
/-- Canon of a name is the name. -/
theorem canonN_item {s : List UInt8} (h : ItemOK s) : canonN s = s := by
  have hp := h.pos
  have := canonS_item h (s.length - 1) (by omega)
  rw [show s.length - 1 + 1 = s.length by omega, List.take_length, if_neg h.last] at this
  unfold canonN
  rw [this]

end

section
open Go.RowKit

end

section
open Go.RowKit

/-- What is known of the first k bytes of a name. -/
def ItemTo (l : List UInt8) (k : Nat) : Prop := (∀ c ∈ l.take k, 32 ≤ c.toNat ∧ c.toNat ≤ 126) ∧ ∀ i : Nat, i + 1 < k → l[i]? = some 32 → l[i + 1]? ≠ some 32
theorem ItemTo.next {l : List UInt8} {k : Nat} {b : UInt8} (h : ItemTo l k) (hk : l[k]? = some b) (hb : 32 ≤ b.toNat ∧ b.toNat ≤ 126) (h2 : ∀ m, k = m + 1 → l[m]? = some 32 → b.toNat ≠ 32) : ItemTo l (k + 1) := by
  obtain ⟨hlt, he⟩ := List.getElem?_eq_some_iff.1 hk
  refine ⟨fun c hc => ?_, fun i hi h32 e => ?_⟩
  · rw [List.take_succ_eq_append_getElem hlt] at hc
    rcases List.mem_append.1 hc with h' | h'
    · exact h.1 c h'
    · rw [List.mem_singleton.1 h', he]; exact hb
  · by_cases hik : i + 1 < k
    · exact h.2 i hik h32 e
    · have : k = i + 1 := by omega
      subst this
      have e2 : b = 32 := Option.some.inj (hk.symm.trans e)
      exact h2 i rfl h32 (by rw [e2]; rfl)
theorem ItemTo.bad {l : List UInt8} {b : UInt8} {k : Nat} (hk : l[k]? = some b) (hb : ¬ (32 ≤ b.toNat ∧ b.toNat ≤ 126)) : itemN l = false :=
  itemN_no fun h => hb (h.bytes b (List.mem_of_getElem? hk))

set_option maxRecDepth 100000 in
set_option maxHeartbeats 4000000 in
theorem refItem (l : List UInt8) (w : World) (hl : l.length ≤ 1000) :
    Calls Tryz.prog 42 #[.string ⟨l.toArray⟩] w (One (.bool (itemN l)) w) := by
  have hsz := size_mk l
  by_cases h0 : l.length = 0
  · have i0 : ((l.length : Int) == 0) = true := eqT (by omega)
    have HN := Lib.hid (show false = itemN l from (itemN_no fun h => by have := h.pos; omega).symm)
    clear h0
    go_enter Tryz.func42, Tryz.ntmps42
    go_wp2_with fail
    go_ret
    exact One.bool _ HN.out
  have i0 : ((l.length : Int) == 0) = false := eqF (by omega)
  by_cases h64 : 64 < l.length
  · have i1 : (64 : Int) < (l.length : Int) := by omega
    have HN := Lib.hid (show false = itemN l from (itemN_no fun h => by have := h.short; omega).symm)
    clear h0 h64
    go_enter Tryz.func42, Tryz.ntmps42
    go_wp2_with fail
    go_ret
    exact One.bool _ HN.out
  have i1 : ¬ (64 : Int) < (l.length : Int) := by omega
  obtain ⟨n, hn⟩ : ∃ n, l.length = n + 1 := ⟨l.length - 1, by omega⟩
  have em : (l.length : Int) - 1 = (n : Int) := by omega
  have p0 : 0 < l.length := by omega
  have pn : n < l.length := by omega
  have in0 : (0 : Int) < (l.length : Int) := by omega
  have in1 : (n : Int) < (l.length : Int) := by omega
  obtain ⟨b0, hb0⟩ : ∃ b, l[0] = b := ⟨_, rfl⟩
  obtain ⟨bn, hbn⟩ : ∃ b, l[n] = b := ⟨_, rfl⟩
  have hx0 := str_at p0
  have hxn := str_at pn
  rw [hb0] at hx0
  rw [hbn] at hxn
  have g0 : l[0]? = some b0 := by rw [← hb0]; exact List.getElem?_eq_getElem p0
  have gn : l[l.length - 1]? = some bn := by rw [hn, Nat.add_sub_cancel, ← hbn]; exact List.getElem?_eq_getElem pn
  by_cases c0 : b0.toNat = 32
  · have k0 : ((b0.toNat : Int) == 32) = true := eqT (by omega)
    have HN := Lib.hid (show false = itemN l from (itemN_no fun h => h.first (by rw [g0, eq32 c0])).symm)
    clear c0 g0 gn h0 h64 hn
    go_enter Tryz.func42, Tryz.ntmps42
    go_wp2_with fail
    go_ret
    exact One.bool _ HN.out
  have k0 : ((b0.toNat : Int) == 32) = false := eqF (by omega)
  by_cases cn : bn.toNat = 32
  · have kn : ((bn.toNat : Int) == 32) = true := eqT (by omega)
    have HN := Lib.hid (show false = itemN l from (itemN_no fun h => h.last (by rw [gn, eq32 cn])).symm)
    clear c0 cn g0 gn h0 h64 hn
    go_enter Tryz.func42, Tryz.ntmps42
    go_wp2_with fail
    go_ret
    exact One.bool _ HN.out
  have kn : ((bn.toNat : Int) == 32) = false := eqF (by omega)
  have HT := Lib.hid (show ItemTo l l.length → true = itemN l from fun h => ((itemN_iff l).2 ⟨by omega, by omega, fun e => c0 (by rw [g0] at e; cases e; rfl), fun e => cn (by rw [gn] at e; cases e; rfl), by have := h.1; rwa [List.take_length] at this, fun i hi => by
    by_cases hlt : i + 1 < l.length
    · exact h.2 i hlt hi
    · rw [List.getElem?_eq_none (by omega)]; simp⟩).symm)
  clear c0 cn g0 gn h0 h64 hn
  go_enter Tryz.func42, Tryz.ntmps42
  go_wp2_with fail
  clear em in0 in1 hb0 hbn hx0 hxn k0 kn i0 i1 pn
  go_loopw [3] (fun a wr => ∃ (k : Nat), k ≤ l.length ∧ a = .int .i64 k ∧ wr = w ∧ Hid (ItemTo l k)) (fun a _ => l.length - (intOf a).toNat)
  case atStart => exact ⟨0, by omega, rfl, rfl, show Hid (ItemTo l 0) from ⟨fun c hc => by simp at hc, fun i hi => by omega⟩⟩
  case round =>
    obtain ⟨k, hk, rfl, rfl, HQ⟩ := hrel
    by_cases hlt : k < l.length
    · have i0 : (k : Int) < (l.length : Int) := by omega
      obtain ⟨b, hb⟩ : ∃ b, l[k] = b := ⟨_, rfl⟩
      have hx := str_at hlt
      rw [hb] at hx
      have hx2 : l[k] = b := hb
      have G := Lib.hid (show l[k]? = some b from by rw [← hb]; exact List.getElem?_eq_getElem hlt)
      have h8 := toNat8 b
      by_cases ha : b.toNat < 32
      · have k1 : (b.toNat : Int) < 32 := by omega
        have HN := Lib.hid (show false = itemN l from (ItemTo.bad G.out (by omega)).symm)
        go_wp2_with fail
        go_ret
        exact One.bool _ HN.out
      have k1 : ¬ (b.toNat : Int) < 32 := by omega
      by_cases hz : 126 < b.toNat
      · have k2 : (126 : Int) < (b.toNat : Int) := by omega
        have HN := Lib.hid (show false = itemN l from (ItemTo.bad G.out (by omega)).symm)
        go_wp2_with fail
        go_ret
        exact One.bool _ HN.out
      have k2 : ¬ (126 : Int) < (b.toNat : Int) := by omega
      have HR := Lib.hid (show 32 ≤ b.toNat ∧ b.toNat ≤ 126 from by omega)
      by_cases hk0 : k = 0
      · subst hk0
        have HS := Lib.hid (HQ.out.next G.out HR.out fun m e => by omega)
        go_wp2_with fail
        go_roundw
        case rel => exact ⟨1, by omega, by go_num, by trivial, HS⟩
        case measure => simp [intOf]; omega
      have k3 : (0 : Int) < (k : Int) := by omega
      by_cases h32 : b.toNat = 32
      · have k4 : ((b.toNat : Int) == 32) = true := eqT (by omega)
        obtain ⟨m, hm⟩ : ∃ m, k = m + 1 := ⟨k - 1, by omega⟩
        have hml : m < l.length := by omega
        have em : (k : Int) - 1 = (m : Int) := by omega
        have i2 : (m : Int) < (l.length : Int) := by omega
        obtain ⟨p, hp⟩ : ∃ b, l[m] = b := ⟨_, rfl⟩
        have hxm := str_at hml
        rw [hp] at hxm
        have Gm := Lib.hid (show l[m]? = some p from by rw [← hp]; exact List.getElem?_eq_getElem hml)
        by_cases hp32 : p.toNat = 32
        · have k5 : ((p.toNat : Int) == 32) = true := eqT (by omega)
          have HN := Lib.hid (show false = itemN l from (itemN_no fun h => h.single m (by rw [Gm.out, eq32 hp32]) (by rw [← hm, G.out, eq32 h32])).symm)
          clear hm hk0 hp32 h32
          go_wp2_with fail
          go_ret
          exact One.bool _ HN.out
        · have k5 : ((p.toNat : Int) == 32) = false := eqF (by omega)
          have HS := Lib.hid (HQ.out.next G.out HR.out fun m' e h' => by
            have : m' = m := by omega
            subst this
            rw [Gm.out] at h'
            cases h'
            exact absurd rfl hp32)
          clear hm hk0 hp32 h32
          go_wp2_with fail
          go_roundw
          case rel => exact ⟨k + 1, by omega, by go_num, by trivial, HS⟩
          case measure => simp [intOf]; omega
      · have k4 : ((b.toNat : Int) == 32) = false := eqF (by omega)
        have HS := Lib.hid (HQ.out.next G.out HR.out fun m e _ => h32)
        clear hk0 h32
        go_wp2_with fail
        go_roundw
        case rel => exact ⟨k + 1, by omega, by go_num, by trivial, HS⟩
        case measure => simp [intOf]; omega
    · obtain rfl : k = l.length := by omega
      have i0 : ¬ (l.length : Int) < (l.length : Int) := by omega
      have HE := Lib.hid (HT.out HQ.out)
      clear hlt hk
      go_wp2_with fail
      go_ret
      exact One.bool _ HE.out

end

section
open Go.RowKit

/-- An item: its name and its marks. -/
abbrev It := List UInt8 × List Mk
/-- One name comes before another one. -/
def beforeN : List UInt8 → List UInt8 → Bool
  | [], [] => false
  | [], _ :: _ => true
  | _ :: _, [] => false
  | a :: r, b :: s => if a = b then beforeN r s else decide (a.toNat < b.toNat)
theorem beforeN_same {a b : List UInt8} {i : Nat} {x : UInt8} (ha : a[i]? = some x) (hb : b[i]? = some x) : beforeN (a.drop i) (b.drop i) = beforeN (a.drop (i + 1)) (b.drop (i + 1)) := by
  obtain ⟨h1, e1⟩ := List.getElem?_eq_some_iff.1 ha
  obtain ⟨h2, e2⟩ := List.getElem?_eq_some_iff.1 hb
  rw [List.drop_eq_getElem_cons h1, List.drop_eq_getElem_cons h2, e1, e2, beforeN, if_pos rfl]
theorem beforeN_diff {a b : List UInt8} {i : Nat} {x y : UInt8} (ha : a[i]? = some x) (hb : b[i]? = some y) (h : x ≠ y) : beforeN (a.drop i) (b.drop i) = decide (x.toNat < y.toNat) := by
  obtain ⟨h1, e1⟩ := List.getElem?_eq_some_iff.1 ha
  obtain ⟨h2, e2⟩ := List.getElem?_eq_some_iff.1 hb
  rw [List.drop_eq_getElem_cons h1, List.drop_eq_getElem_cons h2, e1, e2, beforeN, if_neg h]
theorem beforeN_end {a b : List UInt8} {i : Nat} (h : i ≤ a.length ∧ i ≤ b.length) (h2 : i = a.length ∨ i = b.length) : beforeN (a.drop i) (b.drop i) = decide (a.length < b.length) := by
  rcases h2 with h2 | h2
  · rw [List.drop_eq_nil_of_le (by omega : a.length ≤ i)]
    cases hb : b.drop i with
    | nil => have := congrArg List.length hb; simp at this; simp [beforeN]; omega
    | cons y r => have := congrArg List.length hb; simp at this; simp [beforeN]; omega
  · rw [List.drop_eq_nil_of_le (by omega : b.length ≤ i)]
    cases ha : a.drop i with
    | nil => have := congrArg List.length ha; simp at this; simp [beforeN]; omega
    | cons y r => have := congrArg List.length ha; simp at this; simp [beforeN]; omega
/-- A mark with a dot; two items with a dot in common. -/
def hasD (ms : List Mk) (r c : Int) : Bool := ms.any fun m => decide (m.r = r ∧ m.c = c)
def meetN (a b : List Mk) : Bool := a.any fun m => hasD b m.r m.c

/-- An item where it lies: its name, where the marks lie, the marks. -/
structure ItV where
  nm : List UInt8
  A : Option Addr
  c : Nat
  ms : List Mk
def ItV.it (x : ItV) : It := (x.nm, x.ms)
/-- An item as a value, and its two cells. -/
abbrev mkIt (x : ItV) : Value := .agg #[.string ⟨x.nm.toArray⟩, .slice x.A x.ms.length x.c]
def encIt (x : ItV) : List Value := [.string ⟨x.nm.toArray⟩, .slice x.A x.ms.length x.c]
theorem encIt_len (x : ItV) : (encIt x).length = 2 := rfl
theorem encIt_one (x : ItV) : ∀ u ∈ encIt x, u.oneCell' = true := by
  intro u hu
  simp [encIt] at hu
  rcases hu with rfl | rfl <;> rfl
theorem infoIt : (Tryz.prog.info? 50).map (fun i => (i.zero, i.size, i.bytes)) = some (some (.agg #[.string ⟨#[]⟩, .slice none 0 0]), 2, 40) := by kernel_rfl
/-- The marks of an item lie where they should. -/
def ItOK (W : World) (x : ItV) : Prop := MarksAt W x.A x.ms ∧ x.ms.length ≤ x.c ∧ x.c ≤ maxLen
theorem ItOK.below {W W' : World} {x : ItV} (h : ItOK W x) (hb : Below W.heap.size W W') : ItOK W' x := ⟨SlAt.below h.1 hb, h.2⟩
theorem ItOK.len {W : World} {x : ItV} (h : ItOK W x) : x.ms.length ≤ maxLen := Nat.le_trans h.2.1 h.2.2
/-- Items in memory. -/
def ItemsAt (W : World) (A : Option Addr) (xs : List ItV) : Prop := SlAt encIt 2 W A xs ∧ ∀ x ∈ xs, ItOK W x
theorem ItemsAt.below {W W' : World} {A : Option Addr} {xs : List ItV} (h : ItemsAt W A xs) (hb : Below W.heap.size W W') : ItemsAt W' A xs := ⟨SlAt.below h.1 hb, fun x hx => (h.2 x hx).below hb⟩
theorem ItemsAt.far {W : World} {A : Option Addr} {xs : List ItV} (h : ItemsAt W A xs) (p : FarBy) : ItemsAt (Go.Proofs.YtiaehpdgpjhecaaGreat.far W p) A xs := h.below (below_far W p)
theorem ItemsAt.nil (W : World) (A : Option Addr) : ItemsAt W A [] := ⟨SlAt.nil, fun _ h => by cases h⟩
theorem ItemsAt.cells {W : World} {A : Option Addr} {xs : List ItV} (h : ItemsAt W A xs) {j : Nat} (hj : j < xs.length) :
    ∃ b off, ∃ x : ItV, A = some ⟨b, off, none⟩ ∧ b < W.heap.size ∧ xs[j]? = some x ∧ xs[j] = x ∧ W.cell? ⟨b, off + j * 2, none⟩ = some (.string ⟨x.nm.toArray⟩) ∧ W.cell? ⟨b, off + j * 2 + 1, none⟩ = some (.slice x.A x.ms.length x.c) ∧ ItOK W x := by
  obtain ⟨b, off, rfl, hb, hc⟩ := h.1 (by omega)
  have hx := List.getElem?_eq_getElem hj
  exact ⟨b, off, xs[j], rfl, hb, hx, rfl, by simpa using hc j _ hx 0 _ rfl, hc j _ hx 1 _ rfl, h.2 _ (List.getElem_mem hj)⟩
/-- A block that holds an item. -/
def BlkI (W : World) (g : Nat) (x : ItV) : Prop := W.heap[g]? = some (.cells #[.string ⟨x.nm.toArray⟩, .slice x.A x.ms.length x.c] 50 (0, 0))
section
variable {W W' : World} {g : Nat} {x : ItV}
theorem BlkI.lt (h : BlkI W g x) : g < W.heap.size := (Array.getElem?_eq_some_iff.1 h).1
theorem BlkI.cell0 (h : BlkI W g x) : W.cell? ⟨g, 0, none⟩ = some (.string ⟨x.nm.toArray⟩) := by simp [World.cell?, show W.heap[g]? = _ from h]
theorem BlkI.cell1 (h : BlkI W g x) : W.cell? ⟨g, 1, none⟩ = some (.slice x.A x.ms.length x.c) := by simp [World.cell?, show W.heap[g]? = _ from h]
theorem BlkI.frozen (h : BlkI W g x) (k : Nat) : W.frozen? ⟨g, k, none⟩ = false := by simp [World.frozen?, show W.heap[g]? = _ from h]
theorem BlkI.below (h : BlkI W g x) (hb : Below W.heap.size W W') : BlkI W' g x := (hb.block g h.lt).trans h
theorem BlkI.new (W : World) (x : ItV) : BlkI (W.alloc (.cells #[.string ⟨x.nm.toArray⟩, .slice x.A x.ms.length x.c] 50)) W.heap.size x := heap_alloc_new W _
end

set_option maxHeartbeats 2000000 in
theorem refBefore (a b : List UInt8) (w : World) (ha : a.length ≤ 100000) (hb : b.length ≤ 100000) :
    Calls Tryz.prog 156 #[.string ⟨a.toArray⟩, .string ⟨b.toArray⟩] w (OneB (.bool (beforeN a b)) w) := by
  have hsa := size_mk a
  have hsb := size_mk b
  go_enter Tryz.func156, Tryz.ntmps156
  go_wp2_with fail
  go_loopw [5] (fun i wr => ∃ (k : Nat), k ≤ a.length ∧ k ≤ b.length ∧ i = .int .i64 k ∧ Hid (Below w.heap.size w wr) ∧ Hid (beforeN a b = beforeN (a.drop k) (b.drop k))) (fun i _ => a.length - (intOf i).toNat)
  case atStart => exact ⟨0, by omega, by omega, rfl, Below.refl _ _, show Hid (beforeN a b = beforeN (a.drop 0) (b.drop 0)) from rfl⟩
  case round =>
    obtain ⟨k, hk1, hk2, rfl, hb0, hs⟩ := hrel
    by_cases h1 : k < a.length
    · have i0 : (k : Int) < (a.length : Int) := by omega
      by_cases h2 : k < b.length
      · have i1 : (k : Int) < (b.length : Int) := by omega
        obtain ⟨x, hx⟩ : ∃ x, a[k]? = some x := ⟨_, List.getElem?_eq_getElem h1⟩
        obtain ⟨y, hy⟩ : ∃ y, b[k]? = some y := ⟨_, List.getElem?_eq_getElem h2⟩
        have ex : ∀ h : k < (ByteArray.mk a.toArray).size, (ByteArray.mk a.toArray)[k]'h = x := fun h => by
          have := (List.getElem?_eq_some_iff.1 hx).2; rw [← this]; rfl
        have ey : ∀ h : k < (ByteArray.mk b.toArray).size, (ByteArray.mk b.toArray)[k]'h = y := fun h => by
          have := (List.getElem?_eq_some_iff.1 hy).2; rw [← this]; rfl
        have ex2 : a[k] = x := (List.getElem?_eq_some_iff.1 hx).2
        have ey2 : b[k] = y := (List.getElem?_eq_some_iff.1 hy).2
        by_cases hxy : x = y
        · subst hxy
          have HF := Lib.hid (hs.out.trans (beforeN_same hx hy))
          clear hx hy hs
          go_wp2_with fail
          refine wp_region_far (by kernel_rfl) (by kernel_rfl) ?_
          repeat (go_big_quiet_step ((fail)))
          refine wpQuiet_nil ?_
          rintro _ ⟨p, rfl⟩
          go_wp2_with fail
          go_roundw
          case rel => exact ⟨k + 1, by omega, by omega, by go_num, hb0.out.trans ((below_far wr p).mono hb0.out.size), HF⟩
          case measure => simp [intOf]; omega
        · have HF := Lib.hid (hs.out.trans (beforeN_diff hx hy hxy))
          have hne : ((x.toNat : Int) != (y.toNat : Int)) = true := neT (fun h => hxy (by have : x.toNat = y.toNat := by omega
                                                                                          exact UInt8.toNat_inj.1 this))
          clear hx hy hs hxy
          go_wp2_with fail
          refine wp_region_far (by kernel_rfl) (by kernel_rfl) ?_
          repeat (go_big_quiet_step ((fail)))
          refine wpQuiet_nil ?_
          rintro _ ⟨p, rfl⟩
          go_wp2_with fail
          have hbb := Lib.hid (hb0.out.trans ((below_far wr p).mono hb0.out.size))
          generalize far wr p = wz at hbb ⊢
          refine wp_region_far (by kernel_rfl) (by kernel_rfl) ?_
          repeat (go_big_quiet_step ((fail)))
          refine wpQuiet_nil ?_
          rintro _ ⟨p, rfl⟩
          go_wp2_with fail
          go_ret
          exact OneB.bool (by rw [HF.out]) (hbb.out.trans ((below_far wz p).mono hbb.out.size))
      · obtain rfl : k = b.length := by omega
        have HF := Lib.hid (hs.out.trans (beforeN_end ⟨hk1, hk2⟩ (.inr rfl)))
        have i1 : ¬ (b.length : Int) < (b.length : Int) := by omega
        clear hs
        go_wp2_with fail
        go_ret
        exact OneB.bool (by rw [HF.out]) hb0.out
    · obtain rfl : k = a.length := by omega
      have HF := Lib.hid (hs.out.trans (beforeN_end ⟨hk1, hk2⟩ (.inl rfl)))
      have i1 : ¬ (a.length : Int) < (a.length : Int) := by omega
      clear hs
      go_wp2_with fail
      go_ret
      exact OneB.bool (by rw [HF.out]) hb0.out

end

end Go.Proofs.YtiaehpdgpjhecaaGreat
