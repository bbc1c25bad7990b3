/- Several texts in one: CarA, CarB, CarC, CarO, CanT, BytK, CanK. -/
import Derived.Test.YtpnemekkpifbaaaGreatMAJ
import Derived.Test.YtpnemekkpifbaaaGreatMAI
import Derived.Test.YtpnemekkpifbaaaGreatMAC
import Derived.Test.YtpnemekkpifbaaaGreatMAH
import Derived.Test.YtpnemekkpifbaaaGreatMAB
import Derived.ChangeSlices
import Derived.Deep.SlicePairs
import Derived.Lib.SmallJoins
import Derived.ProofKit
import Derived.OpenShut
import Derived.ChangeOld
import Derived.Below
import Derived.Carry
import Derived.KernelRfl
namespace Go.Proofs.YtpnemekkpifbaaaGreat

section
open Go.RowKit

/-- A cart: the vector and the cloud of its context, its items. -/
abbrev Ca := (List (Int × Int) × List (Int × Int)) × List It
/-- A cart where it lies. -/
structure CaV where
  V : Option Addr
  nv : Nat
  vs : List (Int × Int)
  L : Option Addr
  nl : Nat
  ls : List (Int × Int)
  I : Option Addr
  ni : Nat
  xs : List ItV
def CaV.ca (c : CaV) : Ca := ((c.vs, c.ls), its c.xs)
/-- Its three slices. -/
abbrev CaV.v (c : CaV) : Value := .slice c.V c.vs.length c.nv
abbrev CaV.l (c : CaV) : Value := .slice c.L c.ls.length c.nl
abbrev CaV.i (c : CaV) : Value := .slice c.I c.xs.length c.ni
/-- A cart as a value: one flat row of three cells. -/
abbrev mkC (c : CaV) : Value := .agg #[c.v, c.l, c.i]
def CaOK (W : World) (c : CaV) : Prop := Holds W c.v c.vs ∧ Holds W c.l c.ls ∧ HoldsX W c.i c.xs
theorem CaOK.below {W W' : World} {c : CaV} (h : CaOK W c) (hb : Below W.heap.size W W') : CaOK W' c := ⟨h.1.below hb, h.2.1.below hb, h.2.2.below hb⟩
theorem CaOK.ctx {W : World} {c : CaV} (h : CaOK W c) : HoldsC W (.agg #[c.v, c.l]) c.vs c.ls := HoldsC.mk h.1 h.2.1
/-- A block that holds a cart. -/
def BlkC (W : World) (g : Nat) (c : CaV) : Prop := W.heap[g]? = some (.cells #[c.v, c.l, c.i] 31 (0, 0))
section
variable {W W' : World} {g : Nat} {c : CaV}
theorem BlkC.lt (h : BlkC W g c) : g < W.heap.size := (Array.getElem?_eq_some_iff.1 h).1
theorem BlkC.cell0 (h : BlkC W g c) : W.cell? ⟨g, 0, none⟩ = some c.v := by simp [World.cell?, show W.heap[g]? = _ from h]
theorem BlkC.cell1 (h : BlkC W g c) : W.cell? ⟨g, 1, none⟩ = some c.l := by simp [World.cell?, show W.heap[g]? = _ from h]
theorem BlkC.cell2 (h : BlkC W g c) : W.cell? ⟨g, 2, none⟩ = some c.i := by simp [World.cell?, show W.heap[g]? = _ from h]
theorem BlkC.frozen (h : BlkC W g c) (k : Nat) : W.frozen? ⟨g, k, none⟩ = false := by simp [World.frozen?, show W.heap[g]? = _ from h]
theorem BlkC.below (h : BlkC W g c) (hb : Below W.heap.size W W') : BlkC W' g c := (hb.block g h.lt).trans h
theorem BlkC.new (W : World) (c : CaV) : BlkC (W.alloc (.cells #[c.v, c.l, c.i] 31)) W.heap.size c := heap_alloc_new W _
end
/-- Carts in boxes, and nothing old has changed. -/
structure KK (w : World) (L : List (Nat × CaV)) (W : World) : Prop where
  box : ∀ p ∈ L, BlkC W p.1 p.2 ∧ CaOK W p.2
  bel : Below w.heap.size w W
section
variable {w W W' : World} {L : List (Nat × CaV)}
theorem KK.next (h : KK w L W) (hb : Below W.heap.size W W') : KK w L W' := ⟨fun p hp => ⟨(h.box p hp).1.below hb, (h.box p hp).2.below hb⟩, below_trans h.bel hb⟩
theorem KK.drew (h : KK w L W) : KK w L W.drew := h.next (Below.refl _ _).drew
theorem KK.far (h : KK w L W) (p : FarBy) : KK w L (Go.Proofs.YtpnemekkpifbaaaGreat.far W p) := h.next (below_far W p)
theorem KK.alloc (h : KK w L W) (o : Obj) : KK w L (W.alloc o) := h.next ((Below.refl _ _).alloc (Nat.le_refl _) _)
theorem KK.blk (h : KK w L W) {g : Nat} {c : CaV} (hm : (g, c) ∈ L) : BlkC W g c := (h.box _ hm).1
theorem KK.ok (h : KK w L W) {g : Nat} {c : CaV} (hm : (g, c) ∈ L) : CaOK W c := (h.box _ hm).2
theorem KK.push (h : KK w L W) (c : CaV) (ho : CaOK W c) (n : Nat) (hn : W.heap.size = n) : KK w (L ++ [(n, c)]) (W.alloc (.cells #[c.v, c.l, c.i] 31)) := by
  subst hn
  have hb := (Below.refl W.heap.size W).alloc (Nat.le_refl _) (.cells #[c.v, c.l, c.i] 31)
  refine ⟨fun p hp => ?_, (h.next hb).bel⟩
  rcases List.mem_append.1 hp with k | k
  · exact (h.next hb).box p k
  · obtain rfl : p = (W.heap.size, c) := by simpa using k
    exact ⟨BlkC.new W c, ho.below hb⟩
theorem KK.new (w : World) (c : CaV) (ho : CaOK w c) : KK w [(w.heap.size, c)] (w.alloc (.cells #[c.v, c.l, c.i] 31)) :=
  KK.push (L := []) ⟨fun p hp => (by cases hp), Below.refl _ _⟩ c ho w.heap.size rfl
theorem KK.sp {g : Nat} {c : CaV} (h : KK w [(g, c)] W) : W.cell? ⟨g, 0, none⟩ = some c.v ∧ W.cell? ⟨g, 1, none⟩ = some c.l ∧ W.cell? ⟨g, 2, none⟩ = some c.i ∧ g < W.heap.size ∧ KK w [(g, c)] W :=
  ⟨(h.blk (by simp)).cell0, (h.blk (by simp)).cell1, (h.blk (by simp)).cell2, (h.blk (c := c) (by simp)).lt, h⟩
theorem KK.sp2 {g g' : Nat} {c d : CaV} (h : KK w [(g, c), (g', d)] W) : W.cell? ⟨g, 0, none⟩ = some c.v ∧ W.cell? ⟨g, 1, none⟩ = some c.l ∧ W.cell? ⟨g, 2, none⟩ = some c.i ∧ W.cell? ⟨g', 0, none⟩ = some d.v ∧ W.cell? ⟨g', 1, none⟩ = some d.l ∧ W.cell? ⟨g', 2, none⟩ = some d.i ∧ g < W.heap.size ∧ g' < W.heap.size ∧ KK w [(g, c), (g', d)] W :=
  ⟨(h.blk (c := c) (by simp)).cell0, (h.blk (c := c) (by simp)).cell1, (h.blk (c := c) (by simp)).cell2, (h.blk (c := d) (by simp)).cell0, (h.blk (c := d) (by simp)).cell1, (h.blk (c := d) (by simp)).cell2, (h.blk (c := c) (by simp)).lt, (h.blk (c := d) (by simp)).lt, h⟩
end

/-- Which carts are valid. -/
def validK (c : Ca) : Bool := compC c.1.1 c.1.2 && (validL c.2 && (missC c.1.1 c.1.2 (dotsI c.2)).isEmpty)

/-- When two carts are equal. -/
def sameC (c d : Ca) : Bool := (decide (c.1.1 = d.1.1) && decide (c.1.2 = d.1.2)) && decide (c.2 = d.2)
theorem sameC_iff {c d : Ca} : sameC c d = true ↔ c = d := by
  obtain ⟨⟨a, b⟩, e⟩ := c
  obtain ⟨⟨a', b'⟩, e'⟩ := d
  simp [sameC]

end

section
open Go.RowKit

end

section
open Go.RowKit

/-- A cart in its box, and nothing old has changed; it lies where it lay. -/
structure KB1 (w : World) (c : CaV) (W : World) : Prop where
  blk : BlkC W w.heap.size c
  bel : Below w.heap.size w W
  ok0 : CaOK w c
section
variable {w W W' : World} {c : CaV}
theorem KB1.new (w : World) (c : CaV) (ho : CaOK w c) : KB1 w c (w.alloc (.cells #[c.v, c.l, c.i] 31)) := ⟨BlkC.new w c, (Below.refl _ w).alloc (Nat.le_refl _) _, ho⟩
theorem KB1.ok (h : KB1 w c W) : CaOK W c := h.ok0.below h.bel
theorem KB1.next (h : KB1 w c W) (hb : Below W.heap.size W W') : KB1 w c W' := ⟨h.blk.below hb, below_trans h.bel hb, h.ok0⟩
theorem KB1.drew (h : KB1 w c W) : KB1 w c W.drew := h.next (Below.refl _ _).drew
theorem KB1.alloc (h : KB1 w c W) (o : Obj) : KB1 w c (W.alloc o) := h.next ((Below.refl _ _).alloc (Nat.le_refl _) _)
theorem KB1.size (h : KB1 w c W) : w.heap.size + 1 ≤ W.heap.size := h.blk.lt
theorem KB1.grown (h : KB1 w c W) {row : Option Nat} (hg : W.grownBy W' row) (hr : ∀ k, row = some k → w.heap.size + 1 ≤ k) : KB1 w c W' := by
  have hz := h.size
  exact ⟨(hg.block _ h.blk.lt (fun e => by have := hr _ e.symm; omega)).trans h.blk, h.bel.grown hg (by omega) (fun k hk => by have := hr k hk; omega), h.ok0⟩
theorem KB1.sp (h : KB1 w c W) : W.cell? ⟨w.heap.size, 0, none⟩ = some c.v ∧ W.cell? ⟨w.heap.size, 1, none⟩ = some c.l ∧ W.cell? ⟨w.heap.size, 2, none⟩ = some c.i ∧ w.heap.size < W.heap.size ∧ KB1 w c W := ⟨h.blk.cell0, h.blk.cell1, h.blk.cell2, h.blk.lt, h⟩
theorem KB1.items (h : KB1 w c W) : ItemsAt W c.I c.xs := by
  obtain ⟨A, n, e, h1, _⟩ := h.ok.2.2
  injection e with e1 e2 e3
  rw [e1]; exact h1
end

end

section
open Go.RowKit
open Go.ChangeShapes Go.WideShapes Go.ChangeAt

set_option maxRecDepth 1000000

section
variable {H : Type} {enc : TypeId × Value → H} {W : World} {base b0 : Nat} {spare : Nat → Bool} {held : Bool} {v : Value} {d : DataW H} {p : List MemPlace} {t : TypeId}
theorem wf64 {n : Int} (h : (Lit.int .i64 n).wf = true) : -9223372036854775808 ≤ n ∧ n ≤ 9223372036854775807 := by
  simpa [Lit.wf, IntKind.min, IntKind.bits, IntKind.signed] using h

/-- A slice of dots, whatever its own type, by the reading of its one cell. -/
theorem open_dotsF {fuel : Nat} {x : DataW H × List MemPlace} (ht : Tryz.prog.underlying t = some (.slice 52)) (hf : DataW.trod enc Tryz.prog W base spare held fuel t [v] = some x) :
    ∃ A c, ∃ zs : List WD, v = .slice A (zs.map (·.1)).length c ∧ Holds W v (zs.map (·.1)) := by
  rcases Go.Deep.open_slice_pairs ht Tryz.underlying52 (by kernel_rfl) rfl rfl (by kernel_rfl) (by kernel_rfl) hf with ⟨hcs, _⟩ | ⟨a, len0, cap0, m, n, V0, V1, D0, D1, P0, P1, hcs, _, hl, hm, hmm, _, hx⟩
  · obtain rfl : v = .slice none 0 0 := by simpa using hcs
    exact ⟨none, 0, [], rfl, Holds.nil _⟩
  · obtain rfl : v = .slice (some a) len0 cap0 := by simpa using hcs
    have hlm : len0 ≤ m := by rw [hmm]; split <;> omega
    have each : ∀ i, ∃ q : WD, i < len0 → W.cell? (a.add (i * 2)) = some (.int .i64 q.1.1) ∧ W.cell? (a.add (i * 2 + 1)) = some (.int .i64 q.1.2) := by
      intro i
      by_cases hi : i < len0
      · obtain ⟨h0, h1, h2, h3⟩ := hx i (by omega)
        obtain ⟨r, hr, _, wr⟩ := DataW.trod_int Tryz.underlying3 h2
        obtain ⟨c, hc, _, wc⟩ := DataW.trod_int Tryz.underlying3 h3
        injection hr with hr
        injection hc with hc
        exact ⟨⟨(r, c), (wf64 wr).1, (wf64 wr).2, (wf64 wc).1, (wf64 wc).2⟩, fun _ => ⟨by rw [h0, hr], by rw [h1, hc]⟩⟩
      · exact ⟨default, fun h => absurd h hi⟩
    obtain ⟨q, hq⟩ := Classical.axiomOfChoice each
    have hlen : (((List.range len0).map q).map (·.1)).length = len0 := by simp
    refine ⟨some a, cap0, (List.range len0).map q, by rw [hlen], some a, cap0, by rw [hlen], ?_, by rw [hlen]; exact hl, hm⟩
    intro hpos
    rw [hlen] at hpos
    obtain ⟨b, off, spot⟩ := a
    have hspot : spot = none := by simpa [Addr.add] using World.cell?_spot (hq 0 hpos).1
    subst hspot
    refine ⟨b, off, rfl, block_of_cell (hq 0 hpos).1, ?_⟩
    intro j x hjx i u hiu
    have hj : j < len0 := by
      rcases Nat.lt_or_ge j len0 with h | h
      · exact h
      · rw [List.getElem?_eq_none (by rw [hlen]; exact h)] at hjx; cases hjx
    have hxq : x = (q j).1 := by
      rw [List.getElem?_map, List.getElem?_map, List.getElem?_range hj] at hjx
      exact (Option.some.inj hjx).symm
    subst hxq
    obtain ⟨g0, g1⟩ := hq j hj
    rw [add_plain] at g0 g1
    match i, hiu with
    | 0, hiu =>
      have e : Value.int .i64 (q j).1.1 = u := Option.some.inj hiu
      rw [← e, ← g0]; rfl
    | 1, hiu =>
      have e : Value.int .i64 (q j).1.2 = u := Option.some.inj hiu
      rw [← e, ← g1]; rfl
    | i + 2, hiu => exact absurd hiu (by simp [encD])

end

end

section
open Go.RowKit
open Go.ChangeShapes Go.WideShapes Go.ChangeAt

set_option maxRecDepth 1000000

section
variable {H : Type} {enc : TypeId × Value → H} {W : World} {base b0 : Nat} {spare : Nat → Bool} {held : Bool} {v : Value} {d : DataW H} {p : List MemPlace} {t : TypeId}
/-- A slice of bytes that comes in, opened. -/
theorem open_bytesF {fuel : Nat} {x : DataW H × List MemPlace} (ht : Tryz.prog.underlying t = some (.slice 5)) (hf : DataW.trod enc Tryz.prog W base spare held fuel t [v] = some x) :
    ∃ A c xs, v = .slice A (xs : List UInt8).length c ∧ HoldsB W v xs := by
  rcases open_ints ht Tryz.underlying5 (by kernel_rfl) hf with ⟨hcs, _⟩ | ⟨a, len, cap, zs, hcs, _, hl, hm, hz, _, hx, hw⟩
  · obtain rfl : v = .slice none 0 0 := by simpa using hcs
    exact ⟨none, 0, [], rfl, HoldsB.nil _⟩
  · obtain rfl : v = .slice (some a) len cap := by simpa using hcs
    have hlz : len ≤ zs.length := by rw [hz]; split <;> omega
    have hlen : ((zs.take len).map fun z => UInt8.ofNat z.toNat).length = len := by rw [List.length_map, List.length_take]; omega
    refine ⟨some a, cap, (zs.take len).map fun z => UInt8.ofNat z.toNat, by rw [hlen], some a, cap, by rw [hlen], ?_, by rw [hlen]; exact hl, hm⟩
    intro hpos
    rw [hlen] at hpos
    obtain ⟨b, off, spot⟩ := a
    have hspot : spot = none := by simpa [Addr.add] using World.cell?_spot (hx 0 (by omega))
    subst hspot
    refine ⟨b, off, rfl, block_of_cell (hx 0 (by omega)), ?_⟩
    intro j x hjx i u hiu
    have hj : j < len := by
      rcases Nat.lt_or_ge j len with h | h
      · exact h
      · rw [List.getElem?_eq_none (by rw [hlen]; exact h)] at hjx; cases hjx
    have hjz : j < zs.length := by omega
    rw [List.getElem?_map, List.getElem?_take, if_pos hj, List.getElem?_eq_getElem hjz] at hjx
    have hxq : UInt8.ofNat (zs[j]).toNat = x := Option.some.inj hjx
    have h8 := wfB (hw zs[j] (List.getElem_mem hjz))
    have hg : zs.getD j 0 = (x.toNat : Int) := by
      rw [List.getD, List.getElem?_eq_getElem hjz, ← hxq, UInt8.toNat_ofNat']
      show zs[j] = _
      omega
    have g := hx j hjz
    rw [hg] at g
    match i, hiu with
    | 0, hiu =>
      have e : Value.int .u8 (x.toNat : Int) = u := Option.some.inj hiu
      rw [← e, ← g]
      rw [add_plain]; simp
    | i + 1, hiu => exact absurd hiu (by simp)
theorem open_bytesT (ht : Tryz.prog.underlying t = some (.slice 5)) (hv : Value.okWide Tryz.prog W .any b0 t v) (h : DataW.Trod enc Tryz.prog W base spare held t v d p) :
    ∃ A c xs, v = .slice A (xs : List UInt8).length c ∧ HoldsB W v xs := by
  obtain ⟨a0, len0, cap0, rfl⟩ := okWide_slice ht hv
  obtain ⟨fuel, hf⟩ := h
  exact open_bytesF ht (v := .slice a0 len0 cap0) (by simpa [Value.cells] using hf)
end

end

section

/-- The bytes of a number: its groups of seven bits, the lowest one first. -/
def enc (n : Nat) : List UInt8 := if n < 128 then [UInt8.ofNat n] else UInt8.ofNat (n % 128 + 128) :: enc (n / 128)
termination_by n
decreasing_by omega

theorem enc_lt {n : Nat} (h : n < 128) : enc n = [UInt8.ofNat n] := by rw [enc, if_pos h]
theorem enc_ge {n : Nat} (h : 128 ≤ n) : enc n = UInt8.ofNat (n % 128 + 128) :: enc (n / 128) := by rw [enc, if_neg (by omega)]

/-- What is read of bytes, k of at most ten bytes to come, i looked at, acc the number so far: the number, how many bytes it has, an error. -/
def rdN : Nat → Nat → Nat → List UInt8 → Nat × Nat × Int
  | 0, _, _, _ => (0, 0, 12)
  | _ + 1, _, _, [] => (0, 0, 4)
  | k + 1, i, acc, b :: r =>
    if 128 ≤ b.toNat then rdN k (i + 1) (acc + b.toNat % 128 * 128 ^ i) r
    else if (b.toNat = 0 ∧ 0 < i) ∨ (1 < b.toNat ∧ i = 9) then (0, 0, 12)
    else (acc + b.toNat % 128 * 128 ^ i, i + 1, 0)
/-- What is read of bytes. -/
def rd (l : List UInt8) : Nat × Nat × Int := rdN 10 0 0 l
/-- A string that is read: its bytes, how many were read, an error. -/
def rdS (l : List UInt8) (most : Int) : List UInt8 × Nat × Int :=
  if (rd l).2.2 ≠ 0 then ([], 0, (rd l).2.2)
  else if most < 0 ∨ most < (rd l).1 then ([], 0, 5)
  else if l.length - (rd l).2.1 < (rd l).1 then ([], 0, 4)
  else ((l.drop (rd l).2.1).take (rd l).1, (rd l).2.1 + (rd l).1, 0)

theorem ofNat_toNatK {n : Nat} (h : n < 256) : (UInt8.ofNat n).toNat = n := by simp [UInt8.toNat_ofNat']; omega
theorem toNat_lt (b : UInt8) : b.toNat < 256 := b.toBitVec.isLt
theorem ofNat_self (b : UInt8) : UInt8.ofNat b.toNat = b := by simp

theorem enc_pos (n : Nat) : 0 < (enc n).length := by rw [enc]; split <;> simp

/-- How many groups a number has, by a bound. -/
theorem enc_len_le : ∀ (k n : Nat), n < 128 ^ (k + 1) → (enc n).length ≤ k + 1
  | 0, n, h => by rw [enc_lt (by simpa using h)]; simp
  | k + 1, n, h => by
    by_cases hn : n < 128
    · rw [enc_lt hn]; simp
    · rw [enc_ge (by omega), List.length_cons]
      have := enc_len_le k (n / 128) (by rw [Nat.pow_succ] at h; omega)
      omega
theorem enc_ten {n : Nat} (h : n < 18446744073709551616) : (enc n).length ≤ 10 := enc_len_le 9 n (by omega)

theorem rdN_succ_cons (k i acc : Nat) (b : UInt8) (r : List UInt8) : rdN (k + 1) i acc (b :: r) = if 128 ≤ b.toNat then rdN k (i + 1) (acc + b.toNat % 128 * 128 ^ i) r
    else if (b.toNat = 0 ∧ 0 < i) ∨ (1 < b.toNat ∧ i = 9) then (0, 0, 12) else (acc + b.toNat % 128 * 128 ^ i, i + 1, 0) := rfl

/-- What was written is read again. -/
theorem rdN_enc : ∀ (k i acc n : Nat) (rest : List UInt8), i + k = 9 → (i = 0 ∨ 0 < n) → n * 128 ^ i < 18446744073709551616 → rdN (k + 1) i acc (enc n ++ rest) = (acc + n * 128 ^ i, i + (enc n).length, 0)
  | k, i, acc, n, rest, hk, h0, hn => by
    by_cases h : n < 128
    · rw [enc_lt h]
      show rdN (k + 1) i acc (UInt8.ofNat n :: rest) = _
      rw [rdN_succ_cons, ofNat_toNatK (by omega), if_neg (by omega), if_neg ?_, Nat.mod_eq_of_lt h]
      · rfl
      · rintro (⟨h1, h2⟩ | ⟨h1, h2⟩)
        · omega
        · subst h2; omega
    · match k, hk with
      | 0, hk =>
        obtain rfl : i = 9 := by omega
        omega
      | k + 1, hk =>
        have hi := rdN_enc k (i + 1) (acc + (n % 128 + 128) % 128 * 128 ^ i) (n / 128) rest (by omega) (.inr (by omega)) (by
          rw [Nat.pow_succ]
          have h1 : n / 128 * 128 ≤ n := Nat.div_mul_le_self n 128
          have h2 : n / 128 * (128 ^ i * 128) = n / 128 * 128 * 128 ^ i := by rw [Nat.mul_comm (128 ^ i) 128, Nat.mul_assoc]
          rw [h2]
          exact Nat.lt_of_le_of_lt (Nat.mul_le_mul_right _ h1) hn)
        rw [enc_ge (by omega), List.cons_append, rdN_succ_cons, ofNat_toNatK (by omega), if_pos (by omega), hi, List.length_cons]
        have e : n % 128 * 128 ^ i + n / 128 * 128 ^ (i + 1) = n * 128 ^ i := by
          have h2 : n / 128 * 128 ^ (i + 1) = 128 * (n / 128) * 128 ^ i := by rw [Nat.pow_succ, Nat.mul_comm (128 ^ i) 128, ← Nat.mul_assoc, Nat.mul_comm (n / 128) 128]
          rw [h2, ← Nat.add_mul, Nat.mod_add_div]
        have e1 : (n % 128 + 128) % 128 = n % 128 := by omega
        rw [e1]
        simp only [Prod.mk.injEq]
        exact ⟨by rw [Nat.add_assoc, e], by omega, trivial⟩
theorem rd_enc {n : Nat} (h : n < 18446744073709551616) (rest : List UInt8) : rd (enc n ++ rest) = (n, (enc n).length, 0) := by
  unfold rd
  rw [rdN_enc 9 0 0 n rest (by omega) (.inl rfl) (by omega)]
  simp

/-- What is read, written again, has just the bytes that were read. -/
theorem rdN_back : ∀ (k i acc : Nat) (l : List UInt8) (n z : Nat), i + k = 9 → rdN (k + 1) i acc l = (n, z, 0) →
    ∃ m, n = acc + m * 128 ^ i ∧ i < z ∧ z - i ≤ l.length ∧ (i = 0 ∨ 0 < m) ∧ m < 2 * 128 ^ k ∧ l.take (z - i) = enc m
  | k, i, acc, [], n, z, _, h => by simp [rdN] at h
  | k, i, acc, b :: r, n, z, hk, h => by
    rw [rdN_succ_cons] at h
    have hb := toNat_lt b
    split at h
    · rename_i hb1
      match k, hk with
      | 0, hk => simp [rdN] at h
      | k + 1, hk =>
        obtain ⟨m, h1, h2, h3, h4, h5, h6⟩ := rdN_back k (i + 1) _ r n z (by omega) h
        have hm : 0 < m := by omega
        refine ⟨b.toNat % 128 + 128 * m, ?_, by omega, by rw [List.length_cons]; omega, .inr (by omega), by rw [Nat.pow_succ]; omega, ?_⟩
        · rw [h1, Nat.add_mul, Nat.add_assoc]
          congr 2
          rw [Nat.pow_succ, Nat.mul_comm (128 ^ i) 128, ← Nat.mul_assoc, Nat.mul_comm m 128]
        · rw [show z - i = (z - (i + 1)) + 1 by omega, List.take_succ_cons, h6, enc_ge (n := b.toNat % 128 + 128 * m) (by omega)]
          congr 1
          · rw [show (b.toNat % 128 + 128 * m) % 128 + 128 = b.toNat by omega, ofNat_self]
          · congr 1; omega
    · split at h
      · simp at h
      · rename_i hb1 hb2
        simp only [Prod.mk.injEq] at h
        obtain ⟨h1, h2, _⟩ := h
        have hm : b.toNat % 128 = b.toNat := by omega
        rw [hm] at h1
        refine ⟨b.toNat, h1.symm, by omega, by rw [List.length_cons]; omega, ?_, ?_, ?_⟩
        · by_cases e : i = 0
          · exact .inl e
          · exact .inr (by omega)
        · match k, hk with
          | 0, hk => simp; omega
          | k + 1, _ => rw [Nat.pow_succ]; have : 0 < 128 ^ k := Nat.pow_pos (by omega); omega
        · rw [← h2, show i + 1 - i = 1 by omega, enc_lt (by omega), ofNat_self]; rfl
theorem rd_back {l : List UInt8} {n z : Nat} (h : rd l = (n, z, 0)) : n < 18446744073709551616 ∧ 0 < z ∧ z ≤ l.length ∧ l.take z = enc n := by
  obtain ⟨m, h1, h2, h3, _, h5, h6⟩ := rdN_back 9 0 0 l n z (by omega) h
  have e : n = m := by simpa using h1
  subst e
  exact ⟨by omega, h2, by omega, h6⟩
/-- With an error nothing is read. -/
theorem rdN_err : ∀ (k i acc : Nat) (l : List UInt8), (rdN k i acc l).2.2 ≠ 0 → (rdN k i acc l).1 = 0 ∧ (rdN k i acc l).2.1 = 0
  | 0, _, _, _, _ => ⟨rfl, rfl⟩
  | k + 1, _, _, [], _ => ⟨rfl, rfl⟩
  | k + 1, i, acc, b :: r, h => by
    rw [rdN_succ_cons] at h ⊢
    split
    · rename_i hb; rw [if_pos hb] at h; exact rdN_err k _ _ r h
    · rename_i hb
      rw [if_neg hb] at h
      split
      · exact ⟨rfl, rfl⟩
      · rename_i hb2; rw [if_neg hb2] at h; exact absurd rfl h
theorem rd_err {l : List UInt8} (h : (rd l).2.2 ≠ 0) : rd l = (0, 0, (rd l).2.2) := by
  obtain ⟨h1, h2⟩ := rdN_err 10 0 0 l h
  exact Prod.ext h1 (Prod.ext h2 rfl)
theorem rd_le {l : List UInt8} : (rd l).2.1 ≤ l.length := by
  by_cases h : (rd l).2.2 = 0
  · exact (rd_back (l := l) (n := (rd l).1) (z := (rd l).2.1) (Prod.ext rfl (Prod.ext rfl h))).2.2.1
  · rw [rd_err h]; simp
theorem rd_top (l : List UInt8) : (rd l).1 < 18446744073709551616 := by
  by_cases h : (rd l).2.2 = 0
  · exact (rd_back (l := l) (n := (rd l).1) (z := (rd l).2.1) (Prod.ext rfl (Prod.ext rfl h))).1
  · rw [rd_err h]; omega

end

section

/-- The bytes of an int as a number of 64 bits, of dots, marks, items, contexts, carts. -/
def byZ (z : Int) : List UInt8 := enc (z % 18446744073709551616).toNat
def byD (d : Int × Int) : List UInt8 := byZ d.1 ++ byZ d.2
def byL {α : Type} (f : α → List UInt8) (l : List α) : List UInt8 := enc l.length ++ l.flatMap f
def byS (s : List UInt8) : List UInt8 := enc s.length ++ s
def byM (m : Mk) : List UInt8 := byZ m.r ++ (byZ m.c ++ (byZ m.q ++ enc m.t))
def byI (x : It) : List UInt8 := byS x.1 ++ byL byM x.2
def byX (c : List (Int × Int) × List (Int × Int)) : List UInt8 := byL byD c.1 ++ byL byD c.2
def byC (c : (List (Int × Int) × List (Int × Int)) × List It) : List UInt8 := byX c.1 ++ byL byI c.2

/-- What is written tells itself apart from what follows. -/
def Self {α : Type} (ok : α → Prop) (f : α → List UInt8) : Prop := ∀ a b, ok a → ok b → ∀ x y, f a ++ x = f b ++ y → a = b ∧ x = y
theorem Self.pair {α β : Type} {p : α → Prop} {q : β → Prop} {f : α → List UInt8} {g : β → List UInt8} (hf : Self p f) (hg : Self q g) : Self (fun c : α × β => p c.1 ∧ q c.2) (fun c => f c.1 ++ g c.2) := by
  rintro ⟨a1, b1⟩ ⟨a2, b2⟩ ⟨ha1, hb1⟩ ⟨ha2, hb2⟩ x y h
  simp only [List.append_assoc] at h
  obtain ⟨e1, h1⟩ := hf _ _ ha1 ha2 _ _ h
  obtain ⟨e2, h2⟩ := hg _ _ hb1 hb2 _ _ h1
  exact ⟨by rw [show a1 = a2 from e1, show b1 = b2 from e2], h2⟩
theorem Self.map {α β : Type} {p : β → Prop} {q : α → Prop} {f : β → List UInt8} (hf : Self p f) (g : α → β) (hp : ∀ a, q a → p (g a)) (hg : ∀ a b, q a → q b → g a = g b → a = b) : Self q (fun a => f (g a)) := by
  intro a b ha hb x y h
  obtain ⟨e, h2⟩ := hf _ _ (hp a ha) (hp b hb) x y h
  exact ⟨hg a b ha hb e, h2⟩
theorem byL_len {α : Type} (f : α → List UInt8) (l : List α) : 1 ≤ (byL f l).length := by
  unfold byL
  rw [List.length_append]
  have := enc_pos l.length
  omega
theorem byC_three (a : (List (Int × Int) × List (Int × Int)) × List It) : 3 ≤ (byC a).length := by
  unfold byC byX
  rw [List.length_append, List.length_append]
  have := byL_len byD a.1.1
  have := byL_len byD a.1.2
  have := byL_len byI a.2
  omega

/-- How many bytes. -/
theorem byZ_ten (z : Int) : (byZ z).length ≤ 10 := enc_ten (by omega)
theorem byZ_one (z : Int) : 1 ≤ (byZ z).length := enc_pos _
theorem flat_le {α : Type} {f : α → List UInt8} {k : Nat} : ∀ {l : List α}, (∀ a ∈ l, (f a).length ≤ k) → (l.flatMap f).length ≤ l.length * k
  | [], _ => by simp
  | a :: l, h => by
    rw [List.flatMap_cons, List.length_append, List.length_cons, Nat.add_mul, Nat.one_mul]
    have h1 := h a (by simp)
    have h2 := flat_le (l := l) fun b hb => h b (by simp [hb])
    omega
theorem byL_le {α : Type} {f : α → List UInt8} {k n : Nat} {l : List α} (hk : ∀ a ∈ l, (f a).length ≤ k) (hl : l.length ≤ n) (hn : n < 18446744073709551616) : (byL f l).length ≤ 10 + n * k := by
  unfold byL
  rw [List.length_append]
  have h1 := enc_ten (n := l.length) (by omega)
  have h2 := flat_le hk
  have h3 := Nat.mul_le_mul_right k hl
  omega
theorem byD_le (d : Int × Int) : (byD d).length ≤ 20 := by unfold byD; rw [List.length_append]; have := byZ_ten d.1; have := byZ_ten d.2; omega
theorem byM_le {m : Mk} (h : m.t < 18446744073709551616) : (byM m).length ≤ 40 := by
  unfold byM
  simp only [List.length_append]
  have := byZ_ten m.r; have := byZ_ten m.c; have := byZ_ten m.q; have := enc_ten h
  omega
theorem byS_le {s : List UInt8} {n : Nat} (h : s.length ≤ n) (hn : n < 18446744073709551616) : (byS s).length ≤ 10 + n := by
  unfold byS
  rw [List.length_append]
  have := enc_ten (n := s.length) (by omega)
  omega

end

end Go.Proofs.YtpnemekkpifbaaaGreat
