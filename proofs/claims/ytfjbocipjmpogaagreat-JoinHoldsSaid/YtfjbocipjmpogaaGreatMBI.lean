/- Several texts in one: JoiV, JoiT. -/
import Derived.Test.YtfjbocipjmpogaaGreatMBH
import Derived.Test.YtfjbocipjmpogaaGreatMBA
namespace Go.Proofs.YtfjbocipjmpogaaGreat

section
open Go.RowKit

set_option maxHeartbeats 2000000 in
theorem refNames10o (c : CaV) (w : World) (hc : CaOK w c) (hm : c.xs.length ≤ 100000) :
    Calls Tryz.prog 42 #[mkC c] w fun e w' => (∃ v, e = .returned v ∧ RowS w' w.heap.size v (c.xs.map (·.nm))) ∧ Below w.heap.size w w' := by
  obtain ⟨ti0, hi0, hz0, hz1, hz2⟩ := info_parts infoS
  have K0 := Lib.hid (KB1.new w c hc)
  clear hc
  go_enter Tryz.func42, Tryz.ntmps42
  go_wp2_with fail
  generalize World.alloc w _ = w2 at K0 ⊢
  go_loopw [3, 4] (fun v i wr => ∃ k : Nat, k ≤ c.xs.length ∧ i = .int .i64 k ∧ Hid (RowS wr (w.heap.size + 1) v ((c.xs.take k).map (·.nm))) ∧ Hid (KB1 w c wr)) (fun _ i _ => c.xs.length - (intOf i).toNat)
  case atStart => exact ⟨0, by omega, rfl, Lib.hid (World.ownsRow_nil _ _ _ _), K0⟩
  case round =>
    clear K0
    obtain ⟨k, hk, rfl, hr, K⟩ := hrel
    obtain ⟨x0, x1, x2, xl, _⟩ := K.out.sp
    by_cases hlt : k < c.xs.length
    · have i0 : (k : Int) < (c.xs.length : Int) := by omega
      obtain ⟨b, off, x, hI, hbl, hx1, _, hc0, hc1, hok⟩ := K.out.items.cells (j := k) hlt
      change wr.cell? _ = some (.slice c.I c.xs.length c.ni) at x2
      rw [hI] at x2
      have HS := Lib.hid (map_take1 (·.nm) hx1)
      have hl : ((c.xs.take k).map (·.nm)).length = k := by rw [List.length_map, List.length_take]; omega
      clear hx1 hok hI
      obtain ⟨D, d, rfl, _, _, _⟩ := SlAt.of_own encS_len hr.out
      generalize (c.xs.take k).map (·.nm) = ns at hr hl HS ⊢
      go_wp2_with (at_builtin; refine wpList_append_sl _ encS 1 rfl (.tmp 12) (.tmp 19) 77 rfl encS_len (by omega) encS_one (w.heap.size + 1) 9 ti0 _ 16 Tryz.underlying77 hi0 hz0 hz1 hz2 rfl _ ns rfl (hr.out.alloc _) _ 1 _ [x.nm] rfl rfl (SlAt.one (t := 9) (heap_alloc_new wr _)) (by simp [maxLen]; omega) (by simp; omega) (by have := K.out.size; simp; omega) ?_; intro v1 w1 hown hg hat; have KG := Lib.hid ((K.out.alloc _).grown hg (fun k hk => (hr.out.lt k hk).1)); have HO := Lib.hid hown; clear hown hg hat)
      go_roundw
      case rel => exact ⟨k + 1, by omega, by go_num, by rw [HS.out]; exact HO, KG⟩
      case measure => simp [intOf]; omega
    · have i0 : ¬ (k : Int) < (c.xs.length : Int) := by omega
      obtain rfl : k = c.xs.length := by omega
      rw [List.take_length] at hr
      have hh := Joins.ownsRow_le hr.out (Nat.le_succ w.heap.size)
      have HB := Lib.hid K.out.bel
      obtain ⟨D, d, rfl, _, _, _⟩ := SlAt.of_own encS_len hr.out
      rw [List.length_map] at hh
      rw [List.length_map]
      have HH := Lib.hid hh
      clear hlt K hr hh
      go_wp2_with fail
      go_ret
      exact ⟨⟨.slice D c.xs.length d, rfl, by show World.ownsRow _ _ _ _ _ (c.xs.map (·.nm)).length _; rw [List.length_map]; exact HH.out⟩, HB.out⟩

/-- A value that is no slice. -/
def NoSl (u : Value) : Prop := ∀ A n c, u ≠ .slice A n c
/-- Rows are read as before where a box of slices is written. -/
theorem SlAt.off_cells {α : Type} {enc : α → List Value} {k g o : Nat} {W : World} {A : Option Addr} {xs : List α} {t : TypeId} {z : Nat × Nat} {cur : List Value} (h : SlAt enc k W A xs) (h0 : ∀ x, ∃ u, (enc x)[0]? = some u ∧ NoSl u)
    (hg : W.heap[g]? = some (.cells cur.toArray t z)) (hc : ∀ u ∈ cur, ∃ A n c, u = .slice A n c) (y : Value) : SlAt enc k (W.setCell ⟨g, o, none⟩ y) A xs := fun hn => by
  obtain ⟨b, off, rfl, hlt, hcc⟩ := h hn
  have hbg : b ≠ g := by
    rintro rfl
    obtain ⟨u, hu, hne⟩ := h0 xs[0]
    have := hcc 0 _ (List.getElem?_eq_getElem hn) 0 u hu
    simp only [World.cell?, hg] at this
    have hm : u ∈ cur := by
      have h1 : cur.toArray[off + 0 * k + 0]? = some u := this
      rw [List.getElem?_toArray] at h1
      exact List.mem_of_getElem? h1
    obtain ⟨A, n, c, e⟩ := hc u hm
    exact hne A n c e
  exact ⟨b, off, rfl, by simpa using hlt, fun j x hx i u hu => by
    have := hcc j x hx i u hu
    unfold World.cell? at this ⊢
    rw [Below.heap_setCell W ⟨g, o, none⟩ y b hbg]; exact this⟩
section
variable {W : World} {g o : Nat} {t : TypeId} {z : Nat × Nat} {cur : List Value}
theorem Holds.off_cells {v : Value} {l : List (Int × Int)} (h : Holds W v l) (hg : W.heap[g]? = some (.cells cur.toArray t z)) (hc : ∀ u ∈ cur, ∃ A n c, u = .slice A n c) (y : Value) : Holds (W.setCell ⟨g, o, none⟩ y) v l := by
  obtain ⟨A, n, e, h1, h2⟩ := h
  exact ⟨A, n, e, SlAt.off_cells h1 (fun x => ⟨_, rfl, fun _ _ _ e => by cases e⟩) hg hc y, h2⟩
theorem HoldsS.off_cells {v : Value} {l : List (List UInt8)} (h : HoldsS W v l) (hg : W.heap[g]? = some (.cells cur.toArray t z)) (hc : ∀ u ∈ cur, ∃ A n c, u = .slice A n c) (y : Value) : HoldsS (W.setCell ⟨g, o, none⟩ y) v l := by
  obtain ⟨A, n, e, h1, h2⟩ := h
  exact ⟨A, n, e, SlAt.off_cells h1 (fun x => ⟨_, rfl, fun _ _ _ e => by cases e⟩) hg hc y, h2⟩
theorem HoldsX.off_cells {v : Value} {l : List ItV} (h : HoldsX W v l) (hg : W.heap[g]? = some (.cells cur.toArray t z)) (hc : ∀ u ∈ cur, ∃ A n c, u = .slice A n c) (y : Value) : HoldsX (W.setCell ⟨g, o, none⟩ y) v l := by
  obtain ⟨A, n, e, ⟨h1, h3⟩, h2⟩ := h
  exact ⟨A, n, e, ⟨SlAt.off_cells h1 (fun x => ⟨_, rfl, fun _ _ _ e => by cases e⟩) hg hc y, fun x hx => ⟨SlAt.off_cells (h3 x hx).1 (fun x => ⟨_, rfl, fun _ _ _ e => by cases e⟩) hg hc y, (h3 x hx).2⟩⟩, h2⟩
end

/-- While Join of the reference runs. -/
structure KRj (w : World) (c d : CaV) (g : Nat) (V L I : Option Addr) (nv nl ni : Nat) (us rs : List (Int × Int)) (ys : List ItV) (W : World) : Prop where
  ba : BlkC W w.heap.size c
  bb : BlkC W (w.heap.size + 1) d
  res : BlkC W (w.heap.size + 2) zC
  oka : CaOK w c
  okb : CaOK w d
  out : W.heap[g]? = some (.cells #[.slice V us.length nv, .slice L rs.length nl, .slice I ys.length ni] 28 (0, 0))
  hv : Holds W (.slice V us.length nv) us
  hl : Holds W (.slice L rs.length nl) rs
  hi : HoldsX W (.slice I ys.length ni) ys
  hg : w.heap.size + 2 < g
  bel : Below w.heap.size w W
section
variable {w W W' : World} {c d : CaV} {g : Nat} {V L I : Option Addr} {nv nl ni : Nat} {us rs : List (Int × Int)} {ys : List ItV}
theorem KRj.next (h : KRj w c d g V L I nv nl ni us rs ys W) (hb : Below W.heap.size W W') : KRj w c d g V L I nv nl ni us rs ys W' :=
  ⟨h.ba.below hb, h.bb.below hb, h.res.below hb, h.oka, h.okb, (hb.block _ (Array.getElem?_eq_some_iff.1 h.out).1).trans h.out, h.hv.below hb, h.hl.below hb, h.hi.below hb, h.hg, below_trans h.bel hb⟩
theorem KRj.drew (h : KRj w c d g V L I nv nl ni us rs ys W) : KRj w c d g V L I nv nl ni us rs ys W.drew := h.next (Below.refl _ _).drew
theorem KRj.alloc (h : KRj w c d g V L I nv nl ni us rs ys W) (o : Obj) : KRj w c d g V L I nv nl ni us rs ys (W.alloc o) := h.next ((Below.refl _ _).alloc (Nat.le_refl _) o)
theorem KRj.a (h : KRj w c d g V L I nv nl ni us rs ys W) : CaOK W c := h.oka.below h.bel
theorem KRj.b (h : KRj w c d g V L I nv nl ni us rs ys W) : CaOK W d := h.okb.below h.bel
theorem KRj.gl (h : KRj w c d g V L I nv nl ni us rs ys W) : g < W.heap.size := (Array.getElem?_eq_some_iff.1 h.out).1
theorem KRj.sp (h : KRj w c d g V L I nv nl ni us rs ys W) : W.cell? ⟨w.heap.size, 0, none⟩ = some c.v ∧ W.cell? ⟨w.heap.size, 1, none⟩ = some c.l ∧ W.cell? ⟨w.heap.size, 2, none⟩ = some c.i ∧ W.cell? ⟨w.heap.size + 1, 0, none⟩ = some d.v ∧ W.cell? ⟨w.heap.size + 1, 1, none⟩ = some d.l ∧ W.cell? ⟨w.heap.size + 1, 2, none⟩ = some d.i ∧ w.heap.size < W.heap.size ∧ w.heap.size + 1 < W.heap.size ∧ KRj w c d g V L I nv nl ni us rs ys W :=
  ⟨h.ba.cell0, h.ba.cell1, h.ba.cell2, h.bb.cell0, h.bb.cell1, h.bb.cell2, h.ba.lt, h.bb.lt, h⟩
theorem KRj.cells (h : KRj w c d g V L I nv nl ni us rs ys W) : W.cell? ⟨g, 0, none⟩ = some (.slice V us.length nv) ∧ W.cell? ⟨g, 1, none⟩ = some (.slice L rs.length nl) ∧ W.cell? ⟨g, 2, none⟩ = some (.slice I ys.length ni) ∧ W.frozen? ⟨g, 2, none⟩ = false :=
  ⟨by simp [World.cell?, h.out], by simp [World.cell?, h.out], by simp [World.cell?, h.out], by simp [World.frozen?, h.out]⟩
theorem KRj.slices (V L I : Option Addr) (nv nl ni a b e : Nat) : ∀ u ∈ [Value.slice V a nv, Value.slice L b nl, Value.slice I e ni], ∃ A n c, u = .slice A n c := by
  intro u hu
  simp at hu
  rcases hu with rfl | rfl | rfl <;> exact ⟨_, _, _, rfl⟩
/-- New items are stored. -/
theorem KRj.store {I' : Option Addr} {ni' : Nat} {zs : List ItV} (h : KRj w c d g V L I nv nl ni us rs ys W) (hz : HoldsX W (.slice I' zs.length ni') zs) : KRj w c d g V L I' nv nl ni' us rs zs (W.setCell ⟨g, 2, none⟩ (.slice I' zs.length ni')) := by
  have hg := h.hg
  have ho : ∀ k, k ≠ g → (W.setCell ⟨g, 2, none⟩ (.slice I' zs.length ni')).heap[k]? = W.heap[k]? := fun k hk => Below.heap_setCell W ⟨g, 2, none⟩ _ k hk
  have hs := KRj.slices V L I nv nl ni us.length rs.length ys.length
  refine ⟨(ho _ (by omega)).trans h.ba, (ho _ (by omega)).trans h.bb, (ho _ (by omega)).trans h.res, h.oka, h.okb, ?_, h.hv.off_cells h.out hs _, h.hl.off_cells h.out hs _, hz.off_cells h.out hs _, h.hg, h.bel.setCell (p := ⟨g, 2, none⟩) (by simp; omega) _⟩
  show (W.heap.modify g _)[g]? = _
  rw [Array.getElem?_modify, if_pos rfl, h.out]
  rfl
theorem KRj.new (h0 : KK w [(w.heap.size, c), (w.heap.size + 1, d), (w.heap.size + 2, zC)] W) (hc : CaOK w c) (hd : CaOK w d) (hv : Holds W (.slice V us.length nv) us) (hl : Holds W (.slice L rs.length nl) rs) :
    KRj w c d W.heap.size V L none nv nl 0 us rs [] (W.alloc (.cells #[.slice V us.length nv, .slice L rs.length nl, .slice none 0 0] 28)) := by
  have hb := (Below.refl W.heap.size W).alloc (Nat.le_refl _) (.cells #[.slice V us.length nv, .slice L rs.length nl, .slice none 0 0] 28)
  exact ⟨(h0.blk (g := w.heap.size) (by simp)).below hb, (h0.blk (g := w.heap.size + 1) (by simp)).below hb, (h0.blk (g := w.heap.size + 2) (by simp)).below hb, hc, hd, heap_alloc_new W _, hv.below hb, hl.below hb, HoldsX.nil _, (h0.blk (g := w.heap.size + 2) (c := zC) (by simp)).lt, (h0.alloc _).bel⟩
end
end

section
open Go.RowKit

section
variable (c d : CaV) (nm : List UInt8) (r s : Int) (o : Option Mk) (u6 u7 : Value) (k j : Nat) (p4 p8 : Addr) (n : Nat)
/-- What the values of the region say. -/
def jnP : Nat → Value → World → Prop
  | 0, v, _ => v = mkC c
  | 1, v, _ => v = mkC d
  | 2, v, _ => v = u6
  | 3, v, _ => v = .int .i64 k
  | 4, v, _ => v = .pointer (some p4)
  | 5, v, _ => v = .string ⟨nm.toArray⟩
  | 6, v, _ => v = u7
  | 7, v, _ => v = .int .i64 j
  | 8, v, _ => v = .pointer (some p8)
  | 9, v, _ => v = .agg #[.int .i64 r, .int .i64 s]
  | 10, v, _ => v = markV o
  | 11, v, _ => v = markV o
  | 12, v, _ => v = mkV (o.getD Mk.zero)
  | 13, v, _ => v = .bool o.isSome
  | 14, v, W => ∃ b m, v = ptr0 b ∧ n ≤ b ∧ BlkM W b m
  | 16, v, _ => v = .bool o.isSome
  | _, _, _ => True
def jnQ : Nat → Value → World → Prop
  | 15, v, W => ∃ b, v = ptr0 b ∧ BlkM W b (o.getD Mk.zero)
  | _, _, _ => True
def jnB : Nat → Option Nat
  | 15 => some 14
  | _ => none
abbrev jnS (E : World) : RegS := ⟨jnB, BelW, fun _ W => Below E.heap.size E W, jnP c d nm r s o u6 u7 k j p4 p8 E.heap.size, jnQ o⟩
variable {c d nm r s o u6 u7 k j p4 p8 n}
theorem jnB_cases {j k : Nat} (h : jnB j = some k) : j = 15 ∧ k = 14 := by
  unfold jnB at h
  split at h
  · injection h with h; exact ⟨rfl, h.symm⟩
  · cases h
theorem jnP_box {i : Nat} {v : Value} {W W' : World} (h : jnP c d nm r s o u6 u7 k j p4 p8 n i v W) (hk : ∀ b m, BlkM W b m → ∃ m', BlkM W' b m') : jnP c d nm r s o u6 u7 k j p4 p8 n i v W' := by
  match i, h with
  | 0, h => exact h
  | 1, h => exact h
  | 2, h => exact h
  | 3, h => exact h
  | 4, h => exact h
  | 5, h => exact h
  | 6, h => exact h
  | 7, h => exact h
  | 8, h => exact h
  | 9, h => exact h
  | 10, h => exact h
  | 11, h => exact h
  | 12, h => exact h
  | 13, h => exact h
  | 14, ⟨b, m, h1, h2, h3⟩ =>
    obtain ⟨m', h4⟩ := hk b m h3
    exact ⟨b, m', h1, h2, h4⟩
  | 15, _ => exact trivial
  | 16, h => exact h
  | i + 17, _ => exact trivial
theorem jnQ_below {i : Nat} {v : Value} {W W' : World} (h : jnQ o i v W) (hb : Below W.heap.size W W') : jnQ o i v W' := by
  unfold jnQ at h ⊢
  split
  · obtain ⟨b, h1, h2⟩ := h
    exact ⟨b, h1, h2.below hb⟩
  · trivial
end
theorem BlkM.only {b b' : Nat} {W W' : World} {m : Mk} (h : BlkM W b' m) (ho : OnlyB b W W') (hne : b' ≠ b) : BlkM W' b' m := (ho.block b' hne).trans h
theorem OnlyB.setM (W : World) (b : Nat) (m : Mk) : OnlyB b W (setM W b m) :=
  ((OnlyB.setCell W b 0 _).trans (OnlyB.setCell _ b 1 _)).trans ((OnlyB.setCell _ b 2 _).trans (OnlyB.setCell _ b 3 _))

section
variable {c d : CaV} {nm : List UInt8} {r s : Int} {o : Option Mk} {u6 u7 : Value} {k j : Nat} {p4 p8 : Addr} {n : Nat}
theorem jnP_store {i m q b : Nat} {v : Value} {W W' : World} (hm : jnB m = some q) (ho : OnlyB b W W') (hq : jnQ o m (ptr0 b) W') (h : jnP c d nm r s o u6 u7 k j p4 p8 n i v W) : jnP c d nm r s o u6 u7 k j p4 p8 n i v W' := by
  obtain ⟨rfl, _⟩ := jnB_cases hm
  obtain ⟨b0, e, hB⟩ := hq
  injection e with e; injection e with e; injection e with e
  subst e
  refine jnP_box h fun b' m' h' => ?_
  by_cases he : b' = b
  · subst he; exact ⟨_, hB⟩
  · exact ⟨m', h'.only ho he⟩
theorem jnQ_only {i b : Nat} {v : Value} {W W' : World} (ho : OnlyB b W W') (hne : v ≠ ptr0 b) (h : jnQ o i v W) : jnQ o i v W' := by
  unfold jnQ at h ⊢
  split
  · obtain ⟨b', h1, h2⟩ := h
    exact ⟨b', h1, h2.only ho (fun e => hne (by rw [h1, e]))⟩
  · trivial
end
end

end Go.Proofs.YtfjbocipjmpogaaGreat
