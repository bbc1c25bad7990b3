/- Several texts in one: CrcH, BytK, BytA, BytB, BytC. -/
import Derived.Test.YtgdnibahiomneaaGreatMAB
import Derived.WalkSpells
import Derived.IntWalk
import Derived.Lib.ConvBytes
import Derived.Lib.SlBytesRow
import Derived.Lib.BufferRead
import Derived.Laws.OwnMore
import Derived.Laws.BitsAllLaws
import Derived.Lib.SmallJoins
import Derived.Lib.AppendStr
import Derived.KernelRfl
import Derived.Outline
import Derived.Lib.ItoaNum
import Derived.Shelf.Small.Bits
namespace Go.Proofs.YtgdnibahiomneaaGreat

section
open Go.RowKit

theorem ofNat_toNat {n : Nat} (h : n < 256) : (UInt8.ofNat n).toNat = n := by simp [UInt8.toNat_ofNat']; omega
/-- A byte's cell. -/
abbrev encB (b : UInt8) : List Value := [.int .u8 b.toNat]
theorem encB_len (x : UInt8) : (encB x).length = 1 := rfl
theorem encB_one (x : UInt8) : ∀ u ∈ encB x, u.oneCell' = true := by intro u hu; simp at hu; subst hu; rfl
abbrev BytesAt (w : World) (A : Option Addr) (xs : List UInt8) : Prop := SlAt encB 1 w A xs
theorem infoB : (Tryz.prog.info? 5).map (fun i => (i.zero, i.size, i.bytes)) = some (some (.int .u8 0), 1, 1) := by kernel_rfl
/-- A slice of bytes that reads as a list. -/
def HoldsB (w : World) (v : Value) (xs : List UInt8) : Prop := ∃ A c, v = .slice A xs.length c ∧ BytesAt w A xs ∧ xs.length ≤ c ∧ c ≤ maxLen
theorem HoldsB.below {w w' : World} {v : Value} {xs : List UInt8} (h : HoldsB w v xs) (hb : Below w.heap.size w w') : HoldsB w' v xs := by
  obtain ⟨A, c, rfl, h1, h2, h3⟩ := h
  exact ⟨A, c, rfl, h1.below hb, h2, h3⟩
theorem HoldsB.nil (w : World) : HoldsB w (.slice none 0 0) [] := ⟨none, 0, rfl, SlAt.nil, by simp, by simp [maxLen]⟩
theorem HoldsB.of_own {w : World} {base : Nat} {v : Value} {xs : List UInt8} (h : w.ownsRow base 5 1 v xs.length (cellsOf encB xs)) : HoldsB w v xs := by
  obtain ⟨A, c, rfl, h1, h2, h3⟩ := SlAt.of_own encB_len h
  exact ⟨A, c, rfl, h3, h1, h2⟩

/-- A world that differs from another one in blocks of S alone, and in new ones. -/
structure Chg (S : Nat → Prop) (w w' : World) : Prop where
  os : w'.os = w.os
  tape : w'.tape = w.tape
  output : w'.output = w.output
  size : w.heap.size ≤ w'.heap.size
  block : ∀ k, k < w.heap.size → ¬ S k → w'.heap[k]? = w.heap[k]?
section
variable {S T : Nat → Prop} {a b c : World}
theorem Chg.refl (S : Nat → Prop) (w : World) : Chg S w w := ⟨rfl, rfl, rfl, Nat.le_refl _, fun _ _ _ => rfl⟩
theorem Chg.trans (h : Chg S a b) (k : Chg T b c) (ht : ∀ i, i < a.heap.size → T i → S i) : Chg S a c :=
  ⟨k.os.trans h.os, k.tape.trans h.tape, k.output.trans h.output, Nat.le_trans h.size k.size, fun i hi hn => (k.block i (Nat.lt_of_lt_of_le hi h.size) fun e => hn (ht i hi e)).trans (h.block i hi hn)⟩
theorem Chg.of_below (h : Below a.heap.size a b) : Chg S a b := ⟨h.os, h.tape, h.output, h.size, fun k hk _ => h.block k hk⟩
theorem Chg.of_grown {row : Option Nat} (h : a.grownBy b row) (hs : ∀ k, row = some k → S k) : Chg S a b := ⟨h.os, h.tape, h.output, h.size, fun k hk hn => h.block k hk fun e => hn (hs k e.symm)⟩
theorem Chg.of_set (p : Addr) (u : Value) (hp : S p.block) : Chg S a (a.setCell p u) := ⟨rfl, rfl, rfl, by simp, fun k _ hn => Below.heap_setCell a p u k fun e => hn (e ▸ hp)⟩
theorem Chg.mono (h : Chg S a b) (hs : ∀ k, k < a.heap.size → S k → T k) : Chg T a b := ⟨h.os, h.tape, h.output, h.size, fun k hk hn => h.block k hk fun e => hn (hs k hk e)⟩
theorem Chg.below (h : Chg S a b) {B : Nat} (hB : B ≤ a.heap.size) (hs : ∀ k, S k → B ≤ k) : Below B a b := ⟨h.os, h.tape, h.output, h.size, fun k hk => h.block k (by omega) fun e => by have := hs k e; omega⟩
theorem Chg.cell (h : Chg S a b) {p : Addr} {v : Value} (hc : a.cell? p = some v) (hn : ¬ S p.block) : b.cell? p = some v := (World.cell?_of_block (h.block p.block (World.block_lt_of_cell? a p hc) hn)).trans hc
theorem Chg.holds (h : Chg S a b) {v : Value} {xs : List UInt8} (hv : HoldsB a v xs) (hn : ∀ k, v.ownBlock = some k → ¬ S k) : HoldsB b v xs := by
  obtain ⟨A, c, rfl, h1, h2, h3⟩ := hv
  refine ⟨A, c, rfl, fun h0 => ?_, h2, h3⟩
  obtain ⟨g, off, rfl, hb, hc⟩ := h1 h0
  exact ⟨g, off, rfl, Nat.lt_of_lt_of_le hb h.size, fun j x hx i u hu => h.cell (hc j x hx i u hu) (hn g rfl)⟩
end

theorem bytesWorld_below (w : World) (s : ByteArray) : Below w.heap.size w (Lib.bytesWorld w 5 s) := by
  refine ⟨rfl, rfl, rfl, ?_, fun k hk => Lib.bytesWorld_at_old w _ s k hk⟩
  have h := Lib.bytesWorld_at_new w 5 s
  have := (Array.getElem?_eq_some_iff.1 h).1
  omega
theorem bytesWorld_at (w : World) (s : ByteArray) : BytesAt (Lib.bytesWorld w 5 s) (some ⟨w.heap.size, 0, none⟩) s.data.toList := fun _ => by
  have h := Lib.bytesWorld_at_new w 5 s
  refine ⟨w.heap.size, 0, rfl, (Array.getElem?_eq_some_iff.1 h).1, fun j x hx i u hu => ?_⟩
  match i, hu with
  | 0, hu =>
    have hu' : Value.int .u8 x.toNat = u := by simpa using hu
    subst hu'
    simp only [World.cell?, h]
    have hj : j < s.data.size := by
      have := (List.getElem?_eq_some_iff.1 hx).1
      simpa using this
    have hx' : s.data[j]? = some x := by rw [← Array.getElem?_toList]; exact hx
    simp [Lib.bytesCells, Array.getElem?_append, hx']
    intro hle
    have e2 : s.size = s.data.size := rfl
    omega
  | i + 1, hu => simp at hu
theorem convB (w : World) (B : Option Addr) (d : Nat) (ys : List UInt8) (h : HoldsB w (.slice B ys.length d) ys) : (convert 32 9 (.slice B ys.length d)).run Tryz.prog w = .ok (.string ⟨ys.toArray⟩) w := by
  obtain ⟨A, c, e, hat, _, _⟩ := h
  cases e
  match B with
  | none =>
    have h0 : ys = [] := by
      cases ys with
      | nil => rfl
      | cons x r => obtain ⟨_, _, h, _⟩ := hat (by simp); cases h
    subst h0
    exact Lib.run_convert_nil_bytes w _ _ 5 d Tryz.underlying32 Tryz.underlying5 Tryz.underlying9
  | some a =>
    refine run_convert_bytes_back w _ _ 5 a d ys Tryz.underlying32 Tryz.underlying5 Tryz.underlying9 fun j hj => ?_
    obtain ⟨b, off, e, _, hc⟩ := hat (by omega)
    cases e
    have := hc j _ (List.getElem?_eq_getElem hj) 0 _ rfl
    rw [Addr_add]
    simpa using this

theorem HoldsB.lit (W : World) (l : List UInt8) (hl : l.length ≤ maxLen) : HoldsB (W.alloc (.cells (cellsOf encB l).toArray 5)) (.slice (some ⟨W.heap.size, 0, none⟩) l.length l.length) l := by
  have ho : (W.alloc (.cells (cellsOf encB l).toArray 5)).ownsRow W.heap.size 5 1 (.slice (some ⟨W.heap.size, 0, none⟩) l.length l.length) l.length (cellsOf encB l) := by
    refine ⟨by rw [cellsOf_length encB_len], .inr ⟨W.heap.size, l.length, (cellsOf encB l).toArray, rfl, Nat.le_refl _, heap_alloc_new W _, Nat.le_refl _, hl, ?_, ?_⟩⟩
    · rw [List.size_toArray, cellsOf_length encB_len]
    · rw [List.toList_toArray, List.take_of_length_le (by rw [cellsOf_length encB_len]; exact Nat.le_refl _)]
  exact HoldsB.of_own ho
theorem strCells_bytes (xs : List UInt8) : Lib.strCells ⟨xs.toArray⟩ = cellsOf encB xs := by
  show xs.map _ = _
  induction xs with
  | nil => rfl
  | cons x r ih => rw [List.map_cons, ih]; rfl

/-- A row of bytes of the call's own. -/
abbrev RowB (W : World) (B : Nat) (v : Value) (xs : List UInt8) : Prop := W.ownsRow B 5 1 v xs.length (cellsOf encB xs)
theorem RowB.chg {W W' : World} {B : Nat} {v : Value} {xs : List UInt8} {S : Nat → Prop} (h : RowB W B v xs) (hc : Chg S W W') (hn : ∀ k, v.ownBlock = some k → ¬ S k) : RowB W' B v xs := by
  refine ⟨h.1, ?_⟩
  rcases h.2 with hn' | ⟨r, cap, cur, rfl, hb, hg, rest⟩
  · exact .inl hn'
  · exact .inr ⟨r, cap, cur, rfl, hb, (hc.block r (Array.getElem?_eq_some_iff.1 hg).1 (hn r rfl)).trans hg, rest⟩
theorem RowB.below {W W' : World} {B : Nat} {v : Value} {xs : List UInt8} (h : RowB W B v xs) (hb : Below W.heap.size W W') : RowB W' B v xs := h.chg (S := fun _ => False) (.of_below hb) (fun _ _ => id)
theorem RowB.nil (W : World) (B : Nat) : RowB W B (.slice none 0 0) [] := World.ownsRow_nil _ _ _ _

end

section

/-- The bytes of a number: its groups of seven bits, the lowest one first. -/
def enc (n : Nat) : List UInt8 := if n < 128 then [UInt8.ofNat n] else UInt8.ofNat (n % 128 + 128) :: enc (n / 128)
termination_by n
decreasing_by omega

theorem enc_lt {n : Nat} (h : n < 128) : enc n = [UInt8.ofNat n] := by rw [enc, if_pos h]
theorem enc_ge {n : Nat} (h : 128 ≤ n) : enc n = UInt8.ofNat (n % 128 + 128) :: enc (n / 128) := by rw [enc, if_neg (by omega)]

/-- What is read of bytes, k of at most ten bytes to come, i looked at, acc the number so far: the number, how many bytes it has, an error. -/
def rdN : Nat → Nat → Nat → List UInt8 → Nat × Nat × Int
  | 0, _, _, _ => (0, 0, 12)
  | _ + 1, _, _, [] => (0, 0, 4)
  | k + 1, i, acc, b :: r =>
    if 128 ≤ b.toNat then rdN k (i + 1) (acc + b.toNat % 128 * 128 ^ i) r
    else if (b.toNat = 0 ∧ 0 < i) ∨ (1 < b.toNat ∧ i = 9) then (0, 0, 12)
    else (acc + b.toNat % 128 * 128 ^ i, i + 1, 0)
/-- What is read of bytes. -/
def rd (l : List UInt8) : Nat × Nat × Int := rdN 10 0 0 l
theorem ofNat_toNatK {n : Nat} (h : n < 256) : (UInt8.ofNat n).toNat = n := by simp [UInt8.toNat_ofNat']; omega
theorem toNat_lt (b : UInt8) : b.toNat < 256 := b.toBitVec.isLt
theorem enc_pos (n : Nat) : 0 < (enc n).length := by rw [enc]; split <;> simp

/-- How many groups a number has, by a bound. -/
theorem enc_len_le : ∀ (k n : Nat), n < 128 ^ (k + 1) → (enc n).length ≤ k + 1
  | 0, n, h => by rw [enc_lt (by simpa using h)]; simp
  | k + 1, n, h => by
    by_cases hn : n < 128
    · rw [enc_lt hn]; simp
    · rw [enc_ge (by omega), List.length_cons]
      have := enc_len_le k (n / 128) (by rw [Nat.pow_succ] at h; omega)
      omega
theorem enc_ten {n : Nat} (h : n < 18446744073709551616) : (enc n).length ≤ 10 := enc_len_le 9 n (by omega)

theorem rdN_succ_cons (k i acc : Nat) (b : UInt8) (r : List UInt8) : rdN (k + 1) i acc (b :: r) = if 128 ≤ b.toNat then rdN k (i + 1) (acc + b.toNat % 128 * 128 ^ i) r
    else if (b.toNat = 0 ∧ 0 < i) ∨ (1 < b.toNat ∧ i = 9) then (0, 0, 12) else (acc + b.toNat % 128 * 128 ^ i, i + 1, 0) := rfl

/-- What was written is read again. -/
theorem rdN_enc : ∀ (k i acc n : Nat) (rest : List UInt8), i + k = 9 → (i = 0 ∨ 0 < n) → n * 128 ^ i < 18446744073709551616 → rdN (k + 1) i acc (enc n ++ rest) = (acc + n * 128 ^ i, i + (enc n).length, 0)
  | k, i, acc, n, rest, hk, h0, hn => by
    by_cases h : n < 128
    · rw [enc_lt h]
      show rdN (k + 1) i acc (UInt8.ofNat n :: rest) = _
      rw [rdN_succ_cons, ofNat_toNatK (by omega), if_neg (by omega), if_neg ?_, Nat.mod_eq_of_lt h]
      · rfl
      · rintro (⟨h1, h2⟩ | ⟨h1, h2⟩)
        · omega
        · subst h2; omega
    · match k, hk with
      | 0, hk =>
        obtain rfl : i = 9 := by omega
        omega
      | k + 1, hk =>
        have hi := rdN_enc k (i + 1) (acc + (n % 128 + 128) % 128 * 128 ^ i) (n / 128) rest (by omega) (.inr (by omega)) (by
          rw [Nat.pow_succ]
          have h1 : n / 128 * 128 ≤ n := Nat.div_mul_le_self n 128
          have h2 : n / 128 * (128 ^ i * 128) = n / 128 * 128 * 128 ^ i := by rw [Nat.mul_comm (128 ^ i) 128, Nat.mul_assoc]
          rw [h2]
          exact Nat.lt_of_le_of_lt (Nat.mul_le_mul_right _ h1) hn)
        rw [enc_ge (by omega), List.cons_append, rdN_succ_cons, ofNat_toNatK (by omega), if_pos (by omega), hi, List.length_cons]
        have e : n % 128 * 128 ^ i + n / 128 * 128 ^ (i + 1) = n * 128 ^ i := by
          have h2 : n / 128 * 128 ^ (i + 1) = 128 * (n / 128) * 128 ^ i := by rw [Nat.pow_succ, Nat.mul_comm (128 ^ i) 128, ← Nat.mul_assoc, Nat.mul_comm (n / 128) 128]
          rw [h2, ← Nat.add_mul, Nat.mod_add_div]
        have e1 : (n % 128 + 128) % 128 = n % 128 := by omega
        rw [e1]
        simp only [Prod.mk.injEq]
        exact ⟨by rw [Nat.add_assoc, e], by omega, trivial⟩
theorem rd_enc {n : Nat} (h : n < 18446744073709551616) (rest : List UInt8) : rd (enc n ++ rest) = (n, (enc n).length, 0) := by
  unfold rd
  rw [rdN_enc 9 0 0 n rest (by omega) (.inl rfl) (by omega)]
  simp

end

section
open Go.RowKit

section
variable {S T : Nat → Prop} {a b c : World}
end

/-- A writer's block, what it holds. -/
def Wr (W : World) (g : Nat) (v : Value) (xs : List UInt8) : Prop := W.heap[g]? = some (.cells #[v] 64 (0, 0)) ∧ W.ownsRow 0 5 1 v xs.length (cellsOf encB xs) ∧ v.ownBlock ≠ some g
theorem Wr.lt {W : World} {g : Nat} {v : Value} {xs : List UInt8} (h : Wr W g v xs) : g < W.heap.size := (Array.getElem?_eq_some_iff.1 h.1).1
theorem Wr.cell {W : World} {g : Nat} {v : Value} {xs : List UInt8} (h : Wr W g v xs) : W.cell? ⟨g, 0, none⟩ = some v := by simp [World.cell?, h.1]
theorem Wr.frozen {W : World} {g : Nat} {v : Value} {xs : List UInt8} (h : Wr W g v xs) : W.frozen? ⟨g, 0, none⟩ = false := by simp [World.frozen?, h.1]
theorem Wr.holds {W : World} {g : Nat} {v : Value} {xs : List UInt8} (h : Wr W g v xs) : HoldsB W v xs := HoldsB.of_own h.2.1
theorem Wr.chg {W W' : World} {g : Nat} {v : Value} {xs : List UInt8} {S : Nat → Prop} (h : Wr W g v xs) (hc : Chg S W W') (h1 : ¬ S g) (h2 : ∀ k, v.ownBlock = some k → ¬ S k) : Wr W' g v xs := by
  refine ⟨(hc.block g h.lt h1).trans h.1, ⟨h.2.1.1, ?_⟩, h.2.2⟩
  rcases h.2.1.2 with hn | ⟨r, cap, cur, rfl, hb, hg, rest⟩
  · exact .inl hn
  · exact .inr ⟨r, cap, cur, rfl, hb, (hc.block r (Array.getElem?_eq_some_iff.1 hg).1 (h2 r rfl)).trans hg, rest⟩
theorem Wr.below {W W' : World} {g : Nat} {v : Value} {xs : List UInt8} (h : Wr W g v xs) (hb : Below W.heap.size W W') : Wr W' g v xs := h.chg (S := fun _ => False) (.of_below hb) id (fun _ _ => id)
/-- What a call that writes leaves: the writer with zs, nothing else changed. -/
def Wrote (W : World) (g : Nat) (v : Value) (zs : List UInt8) (W' : World) : Prop :=
  ∃ v', Wr W' g v' zs ∧ (v'.ownBlock = v.ownBlock ∨ ∃ k, v'.ownBlock = some k ∧ W.heap.size ≤ k) ∧ Chg (fun k => k = g ∨ v.ownBlock = some k) W W'
theorem Wrote.refl {W : World} {g : Nat} {v : Value} {zs : List UInt8} (h : Wr W g v zs) : Wrote W g v zs W := ⟨v, h, .inl rfl, .refl _ _⟩
theorem Wrote.next {W W1 W2 : World} {g : Nat} {v v1 : Value} {zs : List UInt8} (h1 : v1.ownBlock = v.ownBlock ∨ ∃ k, v1.ownBlock = some k ∧ W.heap.size ≤ k) (hc : Chg (fun k => k = g ∨ v.ownBlock = some k) W W1) (h : Wrote W1 g v1 zs W2) : Wrote W g v zs W2 := by
  obtain ⟨v2, hw, hb, hc2⟩ := h
  refine ⟨v2, hw, ?_, hc.trans hc2 fun i hi e => ?_⟩
  · rcases hb with e | ⟨k, e, hk⟩
    · rw [e]; exact h1
    · exact .inr ⟨k, e, Nat.le_trans hc.size hk⟩
  · rcases e with e | e
    · exact .inl e
    · rcases h1 with e1 | ⟨k, e1, hk⟩
      · exact .inr (e1 ▸ e)
      · rw [e1] at e; injection e with e; omega
theorem Wrote.before {W W1 W2 : World} {g : Nat} {v : Value} {zs : List UInt8} (hb : Below W.heap.size W W1) (h : Wrote W1 g v zs W2) : Wrote W g v zs W2 := Wrote.next (.inl rfl) (.of_below hb) h
theorem Wrote.after {W W1 W2 : World} {g : Nat} {v : Value} {zs : List UInt8} (h : Wrote W g v zs W1) (hb : Below W1.heap.size W1 W2) : Wrote W g v zs W2 := by
  obtain ⟨v1, hw, h1, hc⟩ := h
  exact ⟨v1, hw.below hb, h1, hc.trans (T := fun _ => False) (.of_below hb) fun _ _ e => e.elim⟩
theorem wrote_store {W W1 : World} {g : Nat} {v v1 : Value} {xs zs : List UInt8} (h : Wr W g v xs) (ho : W1.ownsRow 0 5 1 v1 zs.length (cellsOf encB zs)) (hg : W.grownBy W1 v.ownBlock) (hat : v1.ownBlock = v.ownBlock ∨ v1.ownBlock = some W.heap.size) :
    Wrote W g v zs (W1.setCell ⟨g, 0, none⟩ v1) := by
  have hne : v1.ownBlock ≠ some g := by
    rcases hat with e | e
    · rw [e]; exact h.2.2
    · rw [e]; intro e2; injection e2 with e2; have := h.lt; omega
  have hB : W1.heap[g]? = some (.cells #[v] 64 (0, 0)) := (hg.block g h.lt fun e => h.2.2 e.symm).trans h.1
  refine ⟨v1, ⟨?_, ?_, hne⟩, ?_, (Chg.of_grown (S := fun k => k = g ∨ v.ownBlock = some k) hg fun k e => .inr e).trans (.of_set (S := fun k => k = g) ⟨g, 0, none⟩ v1 rfl) fun _ _ e => .inl e⟩
  · obtain ⟨hlt, hk⟩ := Array.getElem?_eq_some_iff.1 hB
    show (W1.heap.modify g _)[g]? = _
    rw [Array.getElem?_modify, if_pos rfl, hB]
    rfl
  · refine ⟨ho.1, ?_⟩
    rcases ho.2 with hn | ⟨r, cap, cur, rfl, hb, hr, rest⟩
    · exact .inl hn
    · exact .inr ⟨r, cap, cur, rfl, hb, (Below.heap_setCell W1 ⟨g, 0, none⟩ _ r fun e => hne (by rw [Value.ownBlock]; exact congrArg some e)).trans hr, rest⟩
  · rcases hat with e | e
    · exact .inl e
    · exact .inr ⟨_, e, Nat.le_refl _⟩

set_option maxHeartbeats 1000000 in
theorem writeAt (g : Nat) (v : Value) (xs ys : List UInt8) (A : Option Addr) (c : Nat) (w : World) (h : Wr w g v xs) (hy : BytesAt w A ys) (hm : xs.length + ys.length ≤ 1000000) :
    Calls Tryz.prog 77 #[.pointer (some ⟨g, 0, none⟩), .slice A ys.length c] w fun e w' => e = .returned (.tuple #[]) ∧ Wrote w g v (xs ++ ys) w' := by
  obtain ⟨i0, hi0, hz0, hz1, hz2⟩ := info_parts infoB
  have q0 := h.cell
  have q1 := h.frozen
  have H := Lib.hid h
  have HY := Lib.hid hy
  clear h hy
  go_enter Tryz.func77, Tryz.ntmps77
  go_wp2_with (at_builtin; refine wpList_append_sl _ encB 1 rfl (.tmp 10) (.tmp 11) 32 rfl encB_len (by omega) encB_one 0 5 i0 _ 1 Tryz.underlying32 hi0 hz0 hz1 hz2 rfl v xs rfl H.out.2.1 A _ c ys rfl rfl HY.out (by simp [maxLen]; omega) (by omega) (Nat.zero_le _) ?_; intro v1 w1 hown1 hg1 hat1; obtain ⟨A1, n1, rfl, _⟩ := SlAt.of_own encB_len hown1; have c1 := hg1.cell q0 (fun e => H.out.2.2 e.symm); have f1 := (World.frozen?_of_block (hg1.block g H.out.lt (fun e => H.out.2.2 e.symm)) (a := ⟨g, 0, none⟩)).trans q1)
  exact ⟨rfl, .tuple #[], results_none (by kernel_rfl) _ _ _, rfl, by
    have h9 := wrote_store H.out hown1 hg1 hat1
    rw [List.length_append] at h9
    exact h9⟩

theorem putAt (g : Nat) (v : Value) (xs ys : List UInt8) (A : Option Addr) (c : Nat) (w : World) (h : Wr w g v xs) (hy : BytesAt w A ys) (hm : xs.length + ys.length ≤ 1000000) :
    Calls Tryz.prog 55 #[.pointer (some ⟨g, 0, none⟩), .slice A ys.length c] w fun e w' => e = .returned (.tuple #[]) ∧ Wrote w g v (xs ++ ys) w' := by
  have H := Lib.hid (writeAt g v xs ys A c w h hy hm)
  clear h hy
  go_enter Tryz.func55, Tryz.ntmps55
  go_wp2_with fail
  refine H.out.mono ?_
  rintro e w1 ⟨rfl, h1⟩
  have H1 := Lib.hid h1
  clear h1
  go_wp2
  exact ⟨rfl, .tuple #[], results_none (by kernel_rfl) _ _ _, rfl, H1.out⟩

theorem lenAt (g : Nat) (v : Value) (xs : List UInt8) (w : World) (h : Wr w g v xs) :
    Calls Tryz.prog 37 #[.pointer (some ⟨g, 0, none⟩)] w fun e w' => e = .returned (.int .i64 xs.length) ∧ w = w' := by
  have q0 := h.cell
  obtain ⟨A, c, rfl, _⟩ := h.holds
  clear h
  go_enter Tryz.func37, Tryz.ntmps37
  go_wp2
  go_ret
  exact ⟨rfl, rfl⟩
theorem lenNil (w : World) : Calls Tryz.prog 37 #[.pointer none] w fun e w' => e = .returned (.int .i64 0) ∧ w = w' := by
  go_enter Tryz.func37, Tryz.ntmps37
  go_wp2
  go_ret
  exact ⟨rfl, rfl⟩

set_option maxHeartbeats 1000000 in
theorem cloneB (A : Option Addr) (xs : List UInt8) (cap : Nat) (w : World) (hx : BytesAt w A xs) (hm : xs.length ≤ 1000000) :
    Calls Tryz.prog 40 #[.slice A xs.length cap] w fun e w' => (∃ v, e = .returned v ∧ w'.ownsRow w.heap.size 5 1 v xs.length (cellsOf encB xs)) ∧ Below w.heap.size w w' := by
  obtain ⟨i0, hi0, hz0, hz1, hz2⟩ := info_parts infoB
  have q22 : ∀ (w : World) (a : Option Addr) (n c n' c' : Nat), (binOp .eql 32 (.slice a n c) (.slice none n' c')).run Tryz.prog w = .ok (.bool a.isNone) w := fun w a n c n' c' => Lib.run_eql_slice_nil w _ _ a n c n' c' Tryz.underlying32
  match A with
  | none =>
    have h0 : xs = [] := by
      cases xs with
      | nil => rfl
      | cons x r => obtain ⟨_, _, h, _⟩ := hx (by simp); cases h
    subst h0
    go_enter Tryz.func40, Tryz.ntmps40
    go_wp2
    go_ret
    exact ⟨⟨_, rfl, World.ownsRow_nil _ _ _ _⟩, Below.refl _ _⟩
  | some a =>
    go_enter Tryz.func40, Tryz.ntmps40
    go_wp2_with (at_builtin; refine wpList_append_sl _ encB 1 rfl (.tmp 5) (.tmp 6) 32 rfl encB_len (by omega) encB_one w.heap.size 5 i0 _ 1 Tryz.underlying32 hi0 hz0 hz1 hz2 rfl _ [] rfl (World.ownsRow_made w #[] 0 (Nat.le_refl _) (Nat.zero_le _) (by simp)) (some a) _ cap xs rfl rfl (hx.below ((Below.refl _ w).alloc (Nat.le_refl _) _)) (by simp [maxLen]; omega) (by simp; omega) (by simp) ?_; intro v1 w1 hown1 hg1 hat1)
    rw [List.nil_append] at hown1
    go_ret
    exact ⟨⟨_, rfl, hown1⟩, ((Below.refl _ w).alloc (Nat.le_refl _) _).grown hg1 (by simp) (fun k hk => by
      have e0 : some w.heap.size = some k := hk
      injection e0 with e
      omega)⟩

theorem bytesAt (g : Nat) (v : Value) (xs : List UInt8) (w : World) (h : Wr w g v xs) (hm : xs.length ≤ 1000000) :
    Calls Tryz.prog 26 #[.pointer (some ⟨g, 0, none⟩)] w fun e w' => (∃ v, e = .returned v ∧ w'.ownsRow w.heap.size 5 1 v xs.length (cellsOf encB xs)) ∧ Below w.heap.size w w' := by
  have q0 := h.cell
  obtain ⟨A, c, rfl, h1, _⟩ := h.holds
  have H := Lib.hid (cloneB A xs c w h1 hm)
  clear h h1
  go_enter Tryz.func26, Tryz.ntmps26
  go_wp2_with fail
  refine H.out.mono ?_
  rintro e w1 ⟨⟨v2, rfl, ho⟩, hb⟩
  have HO := Lib.hid ho
  have HB := Lib.hid hb
  clear ho hb
  go_wp2
  go_ret
  exact ⟨⟨_, rfl, HO.out⟩, HB.out⟩
theorem bytesNil (w : World) : Calls Tryz.prog 26 #[.pointer none] w fun e w' => e = .returned (.slice none 0 0) ∧ w = w' := by
  go_enter Tryz.func26, Tryz.ntmps26
  go_wp2
  go_ret
  exact ⟨rfl, rfl⟩

end

section
open Go.RowKit

theorem or128 : ∀ x : Fin 256, bits BinOp.or IntKind.u8 (x.val : Int) 128 = ((x.val % 128 + 128 : Nat) : Int) := by decide +kernel
theorem or128_at (m : Nat) : bits BinOp.or IntKind.u8 ((m : Int) % 256) 128 = (((UInt8.ofNat (m % 128 + 128)).toNat : Nat) : Int) := by
  have h := or128 ⟨m % 256, Nat.mod_lt _ (by omega)⟩
  have e : ((m : Int) % 256) = ((m % 256 : Nat) : Int) := by omega
  rw [e, h, ofNat_toNat (by omega)]
  have : m % 256 % 128 = m % 128 := by omega
  simp only [this]

theorem writeOne (g : Nat) (v : Value) (ys : List UInt8) (b : UInt8) (x : Int) (w wr : World) (h : Wrote w g v ys wr) (hx : (b.toNat : Int) = x) (hm : ys.length ≤ 999999) :
    Calls Tryz.prog 77 #[.pointer (some ⟨g, 0, none⟩), .slice (some ⟨wr.heap.size, 0, none⟩) 1 1] (wr.alloc (.cells #[.int .u8 x] 5)) fun e w' => e = .returned (.tuple #[]) ∧ Wrote w g v (ys ++ [b]) w' := by
  subst hx
  have hal : Below wr.heap.size wr (wr.alloc (.cells #[.int .u8 b.toNat] 5)) := (Below.refl _ wr).alloc (Nat.le_refl _) _
  obtain ⟨v', hw, h1, hc⟩ := h.after hal
  have hone : BytesAt (wr.alloc (.cells #[.int .u8 b.toNat] 5)) (some ⟨wr.heap.size, 0, none⟩) [b] := SlAt.one (t := 5) (heap_alloc_new wr _)
  exact (writeAt g v' ys [b] (some ⟨wr.heap.size, 0, none⟩) 1 _ hw hone (by simp; omega)).mono fun e w' ⟨he, hz⟩ => ⟨he, Wrote.next h1 hc hz⟩

set_option maxHeartbeats 1000000 in
theorem numAt (g : Nat) (v : Value) (xs : List UInt8) (n : Nat) (w : World) (h : Wr w g v xs) (hn : n < 18446744073709551616) (hm : xs.length ≤ 999900) :
    Calls Tryz.prog 78 #[.pointer (some ⟨g, 0, none⟩), .int .u64 (n : Int)] w fun e w' => e = .returned (.tuple #[]) ∧ Wrote w g v (xs ++ enc n) w' := by
  have HN := Lib.hid hn
  have h0 := Lib.hid (Wrote.refl h)
  clear h hn
  go_enter Tryz.func78, Tryz.ntmps78
  go_wp2
  go_loopw [1] (fun a wr => ∃ (m : Nat) (pre : List UInt8), a = .int .u64 (m : Int) ∧ Hid (enc n = pre ++ enc m) ∧ Hid (Wrote w g v (xs ++ pre) wr) ∧ m ≤ 18446744073709551615) (fun a _ => (intOf a).toNat)
  case atStart => exact ⟨n, [], rfl, rfl, by rw [List.append_nil]; exact h0, by have := HN.out; omega⟩
  case round =>
    obtain ⟨m, pre, rfl, he, hw, hm64⟩ := hrel
    have hlen : (xs ++ pre).length ≤ 999999 := by
      have h1 := congrArg List.length he.out
      have h2 := enc_ten HN.out
      rw [List.length_append] at h1 ⊢
      omega
    by_cases hlt : 128 ≤ m
    · have i0 : (128 : Int) ≤ (m : Int) := by omega
      have HC := Lib.hid (writeOne g v (xs ++ pre) (UInt8.ofNat (m % 128 + 128)) _ w wr hw.out (or128_at m).symm hlen)
      have he2 : Hid (enc n = (pre ++ [UInt8.ofNat (m % 128 + 128)]) ++ enc (m / 128)) := by
        show enc n = _
        rw [he.out, enc_ge hlt, List.append_assoc]
        rfl
      clear he hw
      go_wp2_with fail
      refine HC.out.mono ?_
      rintro e w1 ⟨rfl, hw1⟩
      have HW := Lib.hid hw1
      clear hw1
      go_wp2_with fail
      go_roundw
      case rel => exact ⟨m / 128, pre ++ [UInt8.ofNat (m % 128 + 128)], by simp, he2, by rw [← List.append_assoc]; exact HW, by omega⟩
      case measure => simp [intOf]; omega
    · have i0 : ¬ (128 : Int) ≤ (m : Int) := by omega
      have HC := Lib.hid (writeOne g v (xs ++ pre) (UInt8.ofNat m) (m : Int) w wr hw.out (by rw [ofNat_toNat (by omega)]) hlen)
      have he2 : Hid (enc n = pre ++ [UInt8.ofNat m]) := by
        show enc n = _
        rw [he.out, enc_lt (by omega)]
      clear he hw
      go_wp2_with fail
      refine HC.out.mono ?_
      rintro e w1 ⟨rfl, hw1⟩
      have HW := Lib.hid hw1
      clear hw1
      go_wp2_with fail
      exact ⟨rfl, .tuple #[], results_none (by kernel_rfl) _ _ _, rfl, by rw [he2.out, ← List.append_assoc]; exact HW.out⟩

end

section
open Go.RowKit

theorem size_list (s : ByteArray) : s.size = s.data.toList.length := by rw [Array.length_toList]; rfl

set_option maxHeartbeats 1000000 in
theorem strAt (g : Nat) (v : Value) (xs : List UInt8) (s : ByteArray) (w : World) (h : Wr w g v xs) (hs : s.size ≤ 100000) (hm : xs.length ≤ 800000) :
    Calls Tryz.prog 79 #[.pointer (some ⟨g, 0, none⟩), .string s] w fun e w' => e = .returned (.tuple #[]) ∧ Wrote w g v (xs ++ (enc s.size ++ s.data.toList)) w' := by
  have q1 := fun (w : World) => Lib.run_convert_string_bytes (P := Tryz.prog) w 9 32 5 s Tryz.underlying9 Tryz.underlying32 Tryz.underlying5
  have HN := Lib.hid (numAt g v xs s.size w h (by omega) (by omega))
  have hl := enc_ten (n := s.size) (by omega)
  have HW := Lib.hid fun w1 (h1 : Wrote w g v (xs ++ enc s.size) w1) => (show Calls Tryz.prog 77 #[.pointer (some ⟨g, 0, none⟩), .slice (some ⟨w1.heap.size, 0, none⟩) s.size (grownCap w1 s.size 0 5)] (Lib.bytesWorld w1 5 s) (fun e w' => e = .returned (.tuple #[]) ∧ Wrote w g v (xs ++ (enc s.size ++ s.data.toList)) w') from (by
    obtain ⟨v', hw, k1, hc⟩ := h1.after (bytesWorld_below w1 s)
    have hh := writeAt g v' _ s.data.toList _ (grownCap w1 s.size 0 5) _ hw (bytesWorld_at w1 s) (by rw [List.length_append, ← size_list]; omega)
    rw [← size_list] at hh
    exact hh.mono fun e w' ⟨he, hz⟩ => ⟨he, by rw [← List.append_assoc]; exact Wrote.next k1 hc hz⟩))
  have hsz : (s.size : Int) ≤ 100000 := by omega
  clear h hl hs
  go_enter Tryz.func79, Tryz.ntmps79
  go_wp2_with fail
  refine HN.out.mono ?_
  rintro e w1 ⟨rfl, h1⟩
  have H1 := Lib.hid h1
  clear h1
  go_wp2_with fail
  refine (HW.out _ H1.out).mono ?_
  rintro e w2 ⟨rfl, h2⟩
  have H2 := Lib.hid h2
  clear h2
  go_wp2_with fail
  exact ⟨rfl, .tuple #[], results_none (by kernel_rfl) _ _ _, rfl, H2.out⟩

/-- What the references' functions that make bytes leave. -/
def MadeB (xs : List UInt8) (w : World) (e : Ending) (w' : World) : Prop := (∃ A c, e = .returned (.slice A xs.length c) ∧ w'.ownsRow w.heap.size 5 1 (.slice A xs.length c) xs.length (cellsOf encB xs)) ∧ Below w.heap.size w w'
theorem MadeB.of {xs : List UInt8} {w w' : World} {v : Value} (h : w'.ownsRow w.heap.size 5 1 v xs.length (cellsOf encB xs)) (hb : Below w.heap.size w w') : MadeB xs w (.returned v) w' := by
  have h0 := h
  obtain ⟨A, c, rfl, _⟩ := SlAt.of_own encB_len h
  exact ⟨⟨A, c, rfl, h0⟩, hb⟩
theorem own_one (w : World) (b : UInt8) : (w.alloc (.cells #[.int .u8 (b.toNat : Int)] 5)).ownsRow w.heap.size 5 1 (.slice (some ⟨w.heap.size, 0, none⟩) 1 1) [b].length (cellsOf encB [b]) :=
  ⟨rfl, .inr ⟨w.heap.size, 1, #[.int .u8 (b.toNat : Int)], rfl, Nat.le_refl _, heap_alloc_new w _, Nat.le_refl _, by simp [maxLen], rfl, rfl⟩⟩

set_option maxHeartbeats 1000000 in
theorem refNumber (k : Nat) : ∀ (n : Nat) (w : World), n ≤ k → n < 18446744073709551616 →
    Calls Tryz.prog 34 #[.int .u64 (n : Int)] w (MadeB (enc n) w) := by
  obtain ⟨i0, hi0, hz0, hz1, hz2⟩ := info_parts infoB
  induction k with
  | zero =>
    intro n w hk hn
    obtain rfl : n = 0 := by omega
    have ho := own_one w (UInt8.ofNat 0)
    have HO := Lib.hid ho
    clear ho
    go_enter Tryz.func34, Tryz.ntmps34
    go_wp2_with fail
    go_ret
    exact MadeB.of (by rw [enc_lt (by omega)]; exact HO.out) ((Below.refl _ _).alloc (Nat.le_refl _) _)
  | succ k ih =>
    intro n w hk hn
    by_cases hlt : n < 128
    · have i0 : (n : Int) < 128 := by omega
      have ho := own_one w (UInt8.ofNat n)
      rw [ofNat_toNatK (by omega)] at ho
      have HO := Lib.hid ho
      have HE := Lib.hid (enc_lt hlt)
      clear ho ih hk hn
      go_enter Tryz.func34, Tryz.ntmps34
      go_wp2_with fail
      go_ret
      exact MadeB.of (by rw [HE.out]; exact HO.out) ((Below.refl _ _).alloc (Nat.le_refl _) _)
    · have i1 : ¬ (n : Int) < 128 := by omega
      have hx : ((UInt8.ofNat (n % 128 + 128)).toNat : Int) = 128 + (n : Int) % 128 := by rw [ofNat_toNatK (by omega)]; omega
      have ho := own_one w (UInt8.ofNat (n % 128 + 128))
      rw [hx] at ho
      have HO := Lib.hid ho
      have HE := Lib.hid (enc_ge (n := n) (by omega))
      have HT := Lib.hid (enc_ten hn)
      have hal : Below w.heap.size w (w.alloc (.cells #[.int .u8 (128 + (n : Int) % 128)] 5)) := (Below.refl _ w).alloc (Nat.le_refl _) _
      have HAL := Lib.hid hal
      have HI := Lib.hid (ih (n / 128) (w.alloc (.cells #[.int .u8 (128 + (n : Int) % 128)] 5)) (by omega) (by omega))
      have e1 : ((n / 128 : Nat) : Int) = (n : Int) / 128 := by omega
      rw [e1] at HI
      have eW : IntKind.u64.wrap ((n : Int) / 128) = (n : Int) / 128 := by simp [IntKind.wrap, IntKind.bits, IntKind.signed]; omega
      clear ho hx ih hk hal e1 hn
      go_enter Tryz.func34, Tryz.ntmps34
      go_wp2_with fail
      refine HI.out.mono ?_
      rintro e w1 ⟨⟨A, c, rfl, ho1⟩, hb⟩
      clear eW
      have hat : BytesAt w1 A (enc (n / 128)) := by
        obtain ⟨A', c', e, _, _, h⟩ := SlAt.of_own encB_len ho1
        cases e; exact h
      have hown : w1.ownsRow w.heap.size 5 1 (.slice (some ⟨w.heap.size, 0, none⟩) 1 1) [UInt8.ofNat (n % 128 + 128)].length (cellsOf encB [UInt8.ofNat (n % 128 + 128)]) := by
        have h0 := HO.out
        refine ⟨h0.1, .inr ?_⟩
        rcases h0.2 with ⟨h1, _⟩ | ⟨g, cap, cur, e1, hb1, hg, rest⟩
        · cases h1
        · exact ⟨g, cap, cur, e1, hb1, (hb.block g (Array.getElem?_eq_some_iff.1 hg).1).trans hg, rest⟩
      have hb2 := below_trans HAL.out hb
      have HX := Lib.hid hown
      have HA := Lib.hid hat
      have HB2 := Lib.hid hb2
      have hle : (enc (n / 128)).length ≤ 100 := by have h1 := HT.out; rw [HE.out, List.length_cons] at h1; omega
      clear ho1 hb hown hat hb2
      go_wp2_with (at_builtin; refine wpList_append_sl _ encB 1 rfl (.tmp 12) (.tmp 15) 32 rfl encB_len (by omega) encB_one w.heap.size 5 i0 _ 1 Tryz.underlying32 hi0 hz0 hz1 hz2 rfl _ [UInt8.ofNat (n % 128 + 128)] rfl HX.out A _ c (enc (n / 128)) rfl rfl HA.out (by simp [maxLen]; omega) (by simp; omega) HB2.out.size ?_; intro v1 w2 hown1 hg1 hat1)
      go_ret
      refine MadeB.of (by rw [HE.out]; exact hown1) (HB2.out.grown hg1 HB2.out.size (fun k hk => ?_))
      have e0 : some w.heap.size = some k := hk
      injection e0 with e
      omega

end

end Go.Proofs.YtgdnibahiomneaaGreat
