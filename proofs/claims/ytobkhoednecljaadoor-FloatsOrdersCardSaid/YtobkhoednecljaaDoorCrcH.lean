/- Bytes that lie in memory, as lists (for seats without package bytes). -/
import Derived.Test.YtobkhoednecljaaDoorApp
import Derived.WalkSpells
import Derived.IntWalk
import Derived.Lib.ConvBytes
import Derived.Lib.SlBytesRow
import Derived.Lib.BufferRead
import Derived.Laws.OwnMore
import Derived.Laws.BitsAllLaws
import Derived.Lib.SmallJoins
import Derived.Lib.AppendStr
namespace Go.Proofs.YtobkhoednecljaaDoor
open Go.RowKit

theorem ofNat_toNat {n : Nat} (h : n < 256) : (UInt8.ofNat n).toNat = n := by simp [UInt8.toNat_ofNat']; omega
/-- A byte's cell. -/
abbrev encB (b : UInt8) : List Value := [.int .u8 b.toNat]
theorem encB_len (x : UInt8) : (encB x).length = 1 := rfl
theorem encB_one (x : UInt8) : ∀ u ∈ encB x, u.oneCell' = true := by intro u hu; simp at hu; subst hu; rfl
abbrev BytesAt (w : World) (A : Option Addr) (xs : List UInt8) : Prop := SlAt encB 1 w A xs
theorem infoB : (Tryd.prog.info? 5).map (fun i => (i.zero, i.size, i.bytes)) = some (some (.int .u8 0), 1, 1) := by kernel_rfl
/-- A slice of bytes that reads as a list. -/
def HoldsB (w : World) (v : Value) (xs : List UInt8) : Prop := ∃ A c, v = .slice A xs.length c ∧ BytesAt w A xs ∧ xs.length ≤ c ∧ c ≤ maxLen
theorem HoldsB.below {w w' : World} {v : Value} {xs : List UInt8} (h : HoldsB w v xs) (hb : Below w.heap.size w w') : HoldsB w' v xs := by
  obtain ⟨A, c, rfl, h1, h2, h3⟩ := h
  exact ⟨A, c, rfl, h1.below hb, h2, h3⟩
theorem HoldsB.nil (w : World) : HoldsB w (.slice none 0 0) [] := ⟨none, 0, rfl, SlAt.nil, by simp, by simp [maxLen]⟩
theorem HoldsB.of_own {w : World} {base : Nat} {v : Value} {xs : List UInt8} (h : w.ownsRow base 5 1 v xs.length (cellsOf encB xs)) : HoldsB w v xs := by
  obtain ⟨A, c, rfl, h1, h2, h3⟩ := SlAt.of_own encB_len h
  exact ⟨A, c, rfl, h3, h1, h2⟩

/-- A world that differs from another one in blocks of S alone, and in new ones. -/
structure Chg (S : Nat → Prop) (w w' : World) : Prop where
  os : w'.os = w.os
  tape : w'.tape = w.tape
  output : w'.output = w.output
  size : w.heap.size ≤ w'.heap.size
  block : ∀ k, k < w.heap.size → ¬ S k → w'.heap[k]? = w.heap[k]?
section
variable {S T : Nat → Prop} {a b c : World}
theorem Chg.refl (S : Nat → Prop) (w : World) : Chg S w w := ⟨rfl, rfl, rfl, Nat.le_refl _, fun _ _ _ => rfl⟩
theorem Chg.trans (h : Chg S a b) (k : Chg T b c) (ht : ∀ i, i < a.heap.size → T i → S i) : Chg S a c :=
  ⟨k.os.trans h.os, k.tape.trans h.tape, k.output.trans h.output, Nat.le_trans h.size k.size, fun i hi hn => (k.block i (Nat.lt_of_lt_of_le hi h.size) fun e => hn (ht i hi e)).trans (h.block i hi hn)⟩
theorem Chg.of_below (h : Below a.heap.size a b) : Chg S a b := ⟨h.os, h.tape, h.output, h.size, fun k hk _ => h.block k hk⟩
theorem Chg.of_grown {row : Option Nat} (h : a.grownBy b row) (hs : ∀ k, row = some k → S k) : Chg S a b := ⟨h.os, h.tape, h.output, h.size, fun k hk hn => h.block k hk fun e => hn (hs k e.symm)⟩
theorem Chg.of_set (p : Addr) (u : Value) (hp : S p.block) : Chg S a (a.setCell p u) := ⟨rfl, rfl, rfl, by simp, fun k _ hn => Below.heap_setCell a p u k fun e => hn (e ▸ hp)⟩
theorem Chg.mono (h : Chg S a b) (hs : ∀ k, k < a.heap.size → S k → T k) : Chg T a b := ⟨h.os, h.tape, h.output, h.size, fun k hk hn => h.block k hk fun e => hn (hs k hk e)⟩
theorem Chg.below (h : Chg S a b) {B : Nat} (hB : B ≤ a.heap.size) (hs : ∀ k, S k → B ≤ k) : Below B a b := ⟨h.os, h.tape, h.output, h.size, fun k hk => h.block k (by omega) fun e => by have := hs k e; omega⟩
theorem Chg.cell (h : Chg S a b) {p : Addr} {v : Value} (hc : a.cell? p = some v) (hn : ¬ S p.block) : b.cell? p = some v := (World.cell?_of_block (h.block p.block (World.block_lt_of_cell? a p hc) hn)).trans hc
theorem Chg.holds (h : Chg S a b) {v : Value} {xs : List UInt8} (hv : HoldsB a v xs) (hn : ∀ k, v.ownBlock = some k → ¬ S k) : HoldsB b v xs := by
  obtain ⟨A, c, rfl, h1, h2, h3⟩ := hv
  refine ⟨A, c, rfl, fun h0 => ?_, h2, h3⟩
  obtain ⟨g, off, rfl, hb, hc⟩ := h1 h0
  exact ⟨g, off, rfl, Nat.lt_of_lt_of_le hb h.size, fun j x hx i u hu => h.cell (hc j x hx i u hu) (hn g rfl)⟩
end

theorem bytesWorld_below (w : World) (s : ByteArray) : Below w.heap.size w (Lib.bytesWorld w 5 s) := by
  refine ⟨rfl, rfl, rfl, ?_, fun k hk => Lib.bytesWorld_at_old w _ s k hk⟩
  have h := Lib.bytesWorld_at_new w 5 s
  have := (Array.getElem?_eq_some_iff.1 h).1
  omega
theorem bytesWorld_at (w : World) (s : ByteArray) : BytesAt (Lib.bytesWorld w 5 s) (some ⟨w.heap.size, 0, none⟩) s.data.toList := fun _ => by
  have h := Lib.bytesWorld_at_new w 5 s
  refine ⟨w.heap.size, 0, rfl, (Array.getElem?_eq_some_iff.1 h).1, fun j x hx i u hu => ?_⟩
  match i, hu with
  | 0, hu =>
    have hu' : Value.int .u8 x.toNat = u := by simpa using hu
    subst hu'
    simp only [World.cell?, h]
    have hj : j < s.data.size := by
      have := (List.getElem?_eq_some_iff.1 hx).1
      simpa using this
    have hx' : s.data[j]? = some x := by rw [← Array.getElem?_toList]; exact hx
    simp [Lib.bytesCells, Array.getElem?_append, hx']
    intro hle
    have e2 : s.size = s.data.size := rfl
    omega
  | i + 1, hu => simp at hu
theorem cells_set (l : List UInt8) (j : Nat) (b : UInt8) : (cellsOf encB l).set j (.int .u8 b.toNat) = cellsOf encB (l.set j b) := by
  induction l generalizing j with
  | nil => rfl
  | cons x r ih =>
    cases j with
    | zero => rfl
    | succ j =>
      show Value.int .u8 x.toNat :: (cellsOf encB r).set j _ = _
      rw [ih]; rfl
theorem cells_at (l : List UInt8) (j : Nat) : (cellsOf encB l)[j]? = l[j]?.map fun b => Value.int .u8 (b.toNat : Int) := by
  induction l generalizing j with
  | nil => rfl
  | cons x r ih =>
    cases j with
    | zero => rfl
    | succ j => exact ih j
theorem own_keep {w w' : World} {B : Nat} {e : TypeId} {v : Value} {n : Nat} {xs : List Value} (h : w.ownsRow B e 1 v n xs) (hb : Below w.heap.size w w') : w'.ownsRow B e 1 v n xs := by
  refine ⟨h.1, ?_⟩
  rcases h.2 with hn | ⟨r, cap, cur, rfl, h1, hg, rest⟩
  · exact .inl hn
  · exact .inr ⟨r, cap, cur, rfl, h1, (hb.block r (Array.getElem?_eq_some_iff.1 hg).1).trans hg, rest⟩
theorem convB (w : World) (B : Option Addr) (d : Nat) (ys : List UInt8) (h : HoldsB w (.slice B ys.length d) ys) : (convert 68 9 (.slice B ys.length d)).run Tryd.prog w = .ok (.string ⟨ys.toArray⟩) w := by
  obtain ⟨A, c, e, hat, _, _⟩ := h
  cases e
  match B with
  | none =>
    have h0 : ys = [] := by
      cases ys with
      | nil => rfl
      | cons x r => obtain ⟨_, _, h, _⟩ := hat (by simp); cases h
    subst h0
    exact Lib.run_convert_nil_bytes w _ _ 5 d Tryd.underlying68 Tryd.underlying5 Tryd.underlying9
  | some a =>
    refine run_convert_bytes_back w _ _ 5 a d ys Tryd.underlying68 Tryd.underlying5 Tryd.underlying9 fun j hj => ?_
    obtain ⟨b, off, e, _, hc⟩ := hat (by omega)
    cases e
    have := hc j _ (List.getElem?_eq_getElem hj) 0 _ rfl
    rw [Addr_add]
    simpa using this

theorem HoldsB.lit (W : World) (l : List UInt8) (hl : l.length ≤ maxLen) : HoldsB (W.alloc (.cells (cellsOf encB l).toArray 5)) (.slice (some ⟨W.heap.size, 0, none⟩) l.length l.length) l := by
  have ho : (W.alloc (.cells (cellsOf encB l).toArray 5)).ownsRow W.heap.size 5 1 (.slice (some ⟨W.heap.size, 0, none⟩) l.length l.length) l.length (cellsOf encB l) := by
    refine ⟨by rw [cellsOf_length encB_len], .inr ⟨W.heap.size, l.length, (cellsOf encB l).toArray, rfl, Nat.le_refl _, heap_alloc_new W _, Nat.le_refl _, hl, ?_, ?_⟩⟩
    · rw [List.size_toArray, cellsOf_length encB_len]
    · rw [List.toList_toArray, List.take_of_length_le (by rw [cellsOf_length encB_len]; exact Nat.le_refl _)]
  exact HoldsB.of_own ho
theorem strCells_bytes (xs : List UInt8) : Lib.strCells ⟨xs.toArray⟩ = cellsOf encB xs := by
  show xs.map _ = _
  induction xs with
  | nil => rfl
  | cons x r ih => rw [List.map_cons, ih]; rfl

/-- A row of bytes of the call's own. -/
abbrev RowB (W : World) (B : Nat) (v : Value) (xs : List UInt8) : Prop := W.ownsRow B 5 1 v xs.length (cellsOf encB xs)
theorem RowB.chg {W W' : World} {B : Nat} {v : Value} {xs : List UInt8} {S : Nat → Prop} (h : RowB W B v xs) (hc : Chg S W W') (hn : ∀ k, v.ownBlock = some k → ¬ S k) : RowB W' B v xs := by
  refine ⟨h.1, ?_⟩
  rcases h.2 with hn' | ⟨r, cap, cur, rfl, hb, hg, rest⟩
  · exact .inl hn'
  · exact .inr ⟨r, cap, cur, rfl, hb, (hc.block r (Array.getElem?_eq_some_iff.1 hg).1 (hn r rfl)).trans hg, rest⟩
theorem RowB.below {W W' : World} {B : Nat} {v : Value} {xs : List UInt8} (h : RowB W B v xs) (hb : Below W.heap.size W W') : RowB W' B v xs := h.chg (S := fun _ => False) (.of_below hb) (fun _ _ => id)
theorem RowB.nil (W : World) (B : Nat) : RowB W B (.slice none 0 0) [] := World.ownsRow_nil _ _ _ _

end Go.Proofs.YtobkhoednecljaaDoor
