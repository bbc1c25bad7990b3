/- Several texts in one: CarG, CarH, CarI, CarM, JoiE. -/
import Derived.Test.YtfjbocipjmpogaaGreatMAY
import Derived.HandedShaped
import Derived.Test.YtfjbocipjmpogaaGreatMAD
import Derived.Maps.Own
import Derived.Maps.OwnOps
import Derived.Maps.OwnSet
import Derived.Maps.Views
import Derived.DeepKeys4
import Derived.OwnWalk
import Derived.Test.YtfjbocipjmpogaaGreatMAQ
namespace Go.Proofs.YtfjbocipjmpogaaGreat

section
open Go.RowKit

/-- The cart in its box, the result in its box. -/
structure KR (w : World) (c : CaV) (W : World) : Prop where
  kb : KB1 w c W
  res : W.heap[w.heap.size + 1]? = some (.cells #[.slice none 0 0, .slice none 0 0, .slice none 0 0] 28 (0, 0))
theorem KR.next {w W W' : World} {c : CaV} (h : KR w c W) (hb : Below W.heap.size W W') : KR w c W' := ⟨h.kb.next hb, (hb.block _ (Array.getElem?_eq_some_iff.1 h.res).1).trans h.res⟩
theorem KR.drew {w W : World} {c : CaV} (h : KR w c W) : KR w c W.drew := h.next (Below.refl _ _).drew
theorem KR.alloc {w W : World} {c : CaV} (h : KR w c W) (o : Obj) : KR w c (W.alloc o) := h.next ((Below.refl _ _).alloc (Nat.le_refl _) _)
theorem KR.lt {w W : World} {c : CaV} (h : KR w c W) : w.heap.size + 1 < W.heap.size := (Array.getElem?_eq_some_iff.1 h.res).1
theorem KR.new (w : World) (c : CaV) (ho : CaOK w c) : KR w c ((w.alloc (.cells #[c.v, c.l, c.i] 28)).alloc (.cells #[.slice none 0 0, .slice none 0 0, .slice none 0 0] 28)) := by
  refine ⟨(KB1.new w c ho).alloc _, ?_⟩
  have h := heap_alloc_new (w.alloc (.cells #[c.v, c.l, c.i] 28)) (.cells #[.slice none 0 0, .slice none 0 0, .slice none 0 0] 28)
  rwa [World.size_alloc] at h
/-- Two cells are written behind both boxes. -/
theorem KR.set2 {w W : World} {c : CaV} (h : KR w c W) {g : Nat} (hg : w.heap.size + 1 < g) (u v : Value) : KR w c ((W.setCell ⟨g, 0, none⟩ u).setCell ⟨g, 1, none⟩ v) := by
  have hk : ∀ k, k ≤ w.heap.size + 1 → ((W.setCell ⟨g, 0, none⟩ u).setCell ⟨g, 1, none⟩ v).heap[k]? = W.heap[k]? := fun k hk =>
    (Below.heap_setCell _ ⟨g, 1, none⟩ v k (by simp; omega)).trans (Below.heap_setCell W ⟨g, 0, none⟩ u k (by simp; omega))
  exact ⟨⟨(hk _ (by omega)).trans h.kb.blk, (h.kb.bel.setCell (p := ⟨g, 0, none⟩) (by simp; omega) _).setCell (p := ⟨g, 1, none⟩) (by simp; omega) _, h.kb.ok0⟩, (hk _ (by omega)).trans h.res⟩
/-- The same, and the items so far, and the item at hand in its box. -/
structure KCn (w : World) (c : CaV) (gy : Nat) (y : ItV) (vl : Value) (ls : List ItV) (W : World) : Prop where
  kr : KR w c W
  blk : BlkI W gy y
  oky : ItOK W y
  hl : HoldsX W vl ls
section
variable {w W W' : World} {c : CaV} {gy : Nat} {y : ItV} {vl : Value} {ls : List ItV}
theorem KCn.next (h : KCn w c gy y vl ls W) (hb : Below W.heap.size W W') : KCn w c gy y vl ls W' := ⟨h.kr.next hb, h.blk.below hb, h.oky.below hb, h.hl.below hb⟩
theorem KCn.far (h : KCn w c gy y vl ls W) (p : FarBy) : KCn w c gy y vl ls (Go.Proofs.YtfjbocipjmpogaaGreat.far W p) := h.next (below_far W p)
end

theorem KR.cells {w W : World} {c : CaV} (h : KR w c W) : W.cell? ⟨w.heap.size + 1, 0, none⟩ = some (.slice none 0 0) ∧ W.cell? ⟨w.heap.size + 1, 1, none⟩ = some (.slice none 0 0) ∧ W.cell? ⟨w.heap.size + 1, 2, none⟩ = some (.slice none 0 0) ∧ W.frozen? ⟨w.heap.size + 1, 0, none⟩ = false ∧ W.frozen? ⟨w.heap.size + 1, 1, none⟩ = false ∧ W.frozen? ⟨w.heap.size + 1, 2, none⟩ = false ∧ w.heap.size + 1 < W.heap.size := by
  have hres := h.res
  exact ⟨by simp [World.cell?, hres], by simp [World.cell?, hres], by simp [World.cell?, hres], by simp [World.frozen?, hres], by simp [World.frozen?, hres], by simp [World.frozen?, hres], h.lt⟩
theorem KR.stored {w W : World} {c : CaV} (h : KR w c W) (u v z : Value) : Below w.heap.size w (((W.setCell ⟨w.heap.size + 1, 0, none⟩ u).setCell ⟨w.heap.size + 1, 1, none⟩ v).setCell ⟨w.heap.size + 1, 2, none⟩ z) :=
  ((h.kb.bel.setCell (p := ⟨w.heap.size + 1, 0, none⟩) (by simp) _).setCell (p := ⟨w.heap.size + 1, 1, none⟩) (by simp) _).setCell (p := ⟨w.heap.size + 1, 2, none⟩) (by simp) _
theorem KCn.items {w W : World} {c : CaV} {gy n d : Nat} {D : Option Addr} {y : ItV} {ls : List ItV} (h : KCn w c gy y (.slice D n d) ls W) : ItemsAt W D ls := by
  obtain ⟨A, m, e, h1, _⟩ := h.hl
  injection e with e1 e2 e3
  rw [e1]; exact h1
/-- Rows are read as before where a box of slices is written. -/
theorem SlAt.off_box {α : Type} {enc : α → List Value} {k g : Nat} {W W' : World} {A : Option Addr} {xs : List α} {t : TypeId} {z : Nat × Nat} (h : SlAt enc k W A xs) (h0 : ∀ x, ∃ u, (enc x)[0]? = some u ∧ u ≠ .slice none 0 0)
    (hg : W.heap[g]? = some (.cells #[.slice none 0 0, .slice none 0 0, .slice none 0 0] t z)) (hs : W.heap.size ≤ W'.heap.size) (hk : ∀ b, b ≠ g → W'.heap[b]? = W.heap[b]?) : SlAt enc k W' A xs := fun hn => by
  obtain ⟨b, off, rfl, hlt, hc⟩ := h hn
  have hbg : b ≠ g := by
    rintro rfl
    obtain ⟨u, hu, hne⟩ := h0 xs[0]
    have := hc 0 _ (List.getElem?_eq_getElem hn) 0 u hu
    simp only [World.cell?, hg] at this
    rcases Nat.lt_or_ge (off + 0 * k + 0) 3 with h3 | h3
    · have h4 : off + 0 * k + 0 = 0 ∨ off + 0 * k + 0 = 1 ∨ off + 0 * k + 0 = 2 := by omega
      rcases h4 with e | e | e <;> rw [e] at this <;> simp at this <;> exact hne this.symm
    · rw [Array.getElem?_eq_none (by simpa using h3)] at this
      cases this
  exact ⟨b, off, rfl, Nat.lt_of_lt_of_le hlt hs, fun j x hx i u hu => by
    have := hc j x hx i u hu
    unfold World.cell? at this ⊢
    rw [hk b hbg]; exact this⟩
theorem CaOK.off_box {g : Nat} {W W' : World} {c : CaV} {t : TypeId} {z : Nat × Nat} (h : CaOK W c)
    (hg : W.heap[g]? = some (.cells #[.slice none 0 0, .slice none 0 0, .slice none 0 0] t z)) (hs : W.heap.size ≤ W'.heap.size) (hk : ∀ b, b ≠ g → W'.heap[b]? = W.heap[b]?) : CaOK W' c := by
  have hd : ∀ {v : Value} {l : List (Int × Int)}, Holds W v l → Holds W' v l := fun {v l} ⟨A, n, e, h1, h2⟩ => ⟨A, n, e, SlAt.off_box h1 (fun x => ⟨_, rfl, by simp⟩) hg hs hk, h2⟩
  obtain ⟨h1, h2, A, n, e, h3, h4⟩ := h
  exact ⟨hd h1, hd h2, A, n, e, ⟨SlAt.off_box h3.1 (fun x => ⟨_, rfl, by simp⟩) hg hs hk, fun x hx => ⟨SlAt.off_box (h3.2 x hx).1 (fun y => ⟨_, rfl, by simp⟩) hg hs hk, (h3.2 x hx).2⟩⟩, h4⟩
theorem set3_other (W : World) (g b : Nat) (u v z : Value) (h : b ≠ g) : (((W.setCell ⟨g, 0, none⟩ u).setCell ⟨g, 1, none⟩ v).setCell ⟨g, 2, none⟩ z).heap[b]? = W.heap[b]? :=
  ((Below.heap_setCell _ ⟨g, 2, none⟩ z b h).trans (Below.heap_setCell _ ⟨g, 1, none⟩ v b h)).trans (Below.heap_setCell _ ⟨g, 0, none⟩ u b h)
theorem KB1.set3 {w W : World} {c : CaV} (h : KB1 w c W) (u v z : Value) : KB1 w c (((W.setCell ⟨w.heap.size + 1, 0, none⟩ u).setCell ⟨w.heap.size + 1, 1, none⟩ v).setCell ⟨w.heap.size + 1, 2, none⟩ z) :=
  ⟨(set3_other W (w.heap.size + 1) w.heap.size u v z (by omega)).trans h.blk, ((h.bel.setCell (p := ⟨w.heap.size + 1, 0, none⟩) (by simp) _).setCell (p := ⟨w.heap.size + 1, 1, none⟩) (by simp) _).setCell (p := ⟨w.heap.size + 1, 2, none⟩) (by simp) _, h.ok0⟩
end

section
open Go.RowKit

/-- What the region in of leans on. -/
def KD0 (w : World) (g k : Nat) (r c : Int) (W : World) : Prop := W.cell? ⟨g, k, none⟩ = some (.int .i64 r) ∧ W.cell? ⟨g, k + 1, none⟩ = some (.int .i64 c) ∧ g < w.heap.size ∧ Below w.heap.size w W
section
variable {w W W' : World} {g k : Nat} {r c : Int}
theorem KD0.below (h : KD0 w g k r c W) (hb : Below w.heap.size w W → Below w.heap.size w W') (hc : ∀ o, W'.cell? ⟨g, o, none⟩ = W.cell? ⟨g, o, none⟩) : KD0 w g k r c W' := ⟨(hc _).trans h.1, (hc _).trans h.2.1, h.2.2.1, hb h.2.2.2⟩
theorem KD0.lt (h : KD0 w g k r c W) : g < W.heap.size := Nat.lt_of_lt_of_le h.2.2.1 h.2.2.2.size
theorem KD0.drew (h : KD0 w g k r c W) : KD0 w g k r c W.drew := h.below (fun h => h.drew) fun _ => rfl
theorem KD0.alloc (h : KD0 w g k r c W) (o : Obj) : KD0 w g k r c (W.alloc o) := h.below (fun hb => hb.alloc hb.size o) fun q => ((Below.refl _ W).alloc (Nat.le_refl _) o).cell (p := ⟨g, q, none⟩) h.lt
theorem KD0.size (h : KD0 w g k r c W) : w.heap.size ≤ W.heap.size := h.2.2.2.size
theorem KD0.grown (h : KD0 w g k r c W) {row : Option Nat} (hg : W.grownBy W' row) (hr : ∀ j, row = some j → w.heap.size ≤ j) : KD0 w g k r c W' :=
  h.below (fun hb => hb.grown hg hb.size hr) fun q => World.cell?_of_block (a := ⟨g, q, none⟩) (hg.block g h.lt (fun e => by have := hr g e.symm; have := h.2.2.1; omega))
end

set_option maxHeartbeats 400000 in
theorem lawMark10 (r c q : Int) (t : Nat) (w : World) : Calls Tryz.prog 25 #[.int .i64 r, .int .i64 c, .int .i64 q, .int .u64 (t : Int)] w (OneB (mkV ⟨r, c, q, t⟩) w) := by
  have hs := BlkM.new w ⟨r, c, q, t⟩
  have s0 := hs.cell0
  have s1 := hs.cell1
  have s2 := hs.cell2
  have s3 := hs.cell3
  have HB := Lib.hid ((Below.refl w.heap.size w).alloc (Nat.le_refl _) (.cells #[.int .i64 r, .int .i64 c, .int .i64 q, .int .u64 (t : Int)] 54))
  clear hs
  go_enter Tryz.func25, Tryz.ntmps25
  go_wp2_with fail
  exact bodyPost_ret (v := mkV ⟨r, c, q, t⟩) (by simp [results, Tryz.results25, go_sem, s0, s1, s2, s3]) rfl ⟨rfl, HB.out⟩

end

section
open Go.RowKit

theorem row_ne {W : World} {B g k n : Nat} {e t : TypeId} {v : Value} {xs : List Value} {cur : Array Value} {z : Nat × Nat} (h : W.ownsRow B e k v n xs) (hg : W.heap[g]? = some (.cells cur t z)) (ht : t ≠ e) : v.ownBlock ≠ some g := by
  rcases h.2 with ⟨rfl, _⟩ | ⟨g', cap, cur', rfl, _, hg', _⟩
  · simp [Value.ownBlock]
  · intro e1
    have e2 : g' = g := by simpa [Value.ownBlock] using e1
    subst e2
    rw [hg] at hg'
    injection hg' with h1
    injection h1 with _ h2 _
    exact ht h2
theorem OwnI.store {W : World} {B g o : Nat} {v x : Value} {xs : List ItV} {cur : Array Value} {t : TypeId} {z : Nat × Nat} (h : OwnI W B v xs) (hg : W.heap[g]? = some (.cells cur t z)) (h1 : t ≠ 49) (h2 : t ≠ 54) : OwnI (W.setCell ⟨g, o, none⟩ x) B v xs :=
  ⟨ownsRow_setCell_other (a := ⟨g, o, none⟩) h.1 (row_ne h.1 hg h1) x, fun y hy => ownsRow_setCell_other (a := ⟨g, o, none⟩) (h.2 y hy) (row_ne (h.2 y hy) hg h2) x⟩
theorem BlkC.store {W : World} {bx g o : Nat} {c : CaV} {x : Value} {cur : Array Value} {t : TypeId} {z : Nat × Nat} (h : BlkC W bx c) (hg : W.heap[g]? = some (.cells cur t z)) (ht : t ≠ 28) : BlkC (W.setCell ⟨g, o, none⟩ x) bx c := by
  refine (Below.heap_setCell W ⟨g, o, none⟩ x bx ?_).trans h
  rintro rfl
  have h' := h
  unfold BlkC at h'
  rw [show W.heap[(⟨bx, o, none⟩ : Addr).block]? = W.heap[bx]? from rfl] at *
  rw [hg] at h'
  injection h' with h1
  injection h1 with _ h2 _
  exact ht h2

/-- A row of dots whose counters may be written. -/
structure Dts (W : World) (B g n : Nat) : Prop where
  ge : B ≤ g
  typ : ∃ cur, W.heap[g]? = some (.cells cur 51 (0, 0))
  num : ∀ j, j < n → ∃ q, W.cell? ⟨g, j * 2 + 1, none⟩ = some (.int .i64 q)
theorem Dts.frozen {W : World} {B g n : Nat} (h : Dts W B g n) (k : Nat) : W.frozen? ⟨g, k, none⟩ = false := by
  obtain ⟨cur, hg⟩ := h.typ
  simp [World.frozen?, hg]
theorem Dts.lt {W : World} {B g n : Nat} (h : Dts W B g n) : g < W.heap.size := by
  obtain ⟨cur, hg⟩ := h.typ
  exact (Array.getElem?_eq_some_iff.1 hg).1
theorem Dts.store {W : World} {B g n : Nat} (h : Dts W B g n) (g' o : Nat) (x : Int) : Dts (W.setCell ⟨g', o, none⟩ (.int .i64 x)) B g n := by
  refine ⟨h.ge, ?_, fun j hj => someInt_setCell (h.num j hj) _ _⟩
  obtain ⟨cur, hg⟩ := h.typ
  by_cases e : g = g'
  · subst e
    show ∃ cur', (W.heap.modify g _)[g]? = _
    rw [Array.getElem?_modify, if_pos rfl, hg]
    exact ⟨_, rfl⟩
  · exact ⟨cur, (Below.heap_setCell W ⟨g', o, none⟩ _ g e).trans hg⟩
/-- A list of dots that was returned. -/
def DtsO (W : World) (B : Nat) (A : Option Addr) (n : Nat) : Prop := n = 0 ∨ ∃ g, A = some ⟨g, 0, none⟩ ∧ Dts W B g n
theorem DtsO.store {W : World} {B n : Nat} {A : Option Addr} (h : DtsO W B A n) (g' o : Nat) (x : Int) : DtsO (W.setCell ⟨g', o, none⟩ (.int .i64 x)) B A n := by
  rcases h with h | ⟨g, h1, h2⟩
  · exact .inl h
  · exact .inr ⟨g, h1, h2.store g' o x⟩
theorem Dts.below {W W' : World} {B g n : Nat} (h : Dts W B g n) (hb : Below W.heap.size W W') : Dts W' B g n := by
  obtain ⟨cur, hg⟩ := h.typ
  refine ⟨h.ge, ⟨cur, (hb.block g h.lt).trans hg⟩, fun j hj => ?_⟩
  obtain ⟨q, hq⟩ := h.num j hj
  exact ⟨q, (hb.cell (p := ⟨g, j * 2 + 1, none⟩) h.lt).trans hq⟩
theorem DtsO.below {W W' : World} {B n : Nat} {A : Option Addr} (h : DtsO W B A n) (hb : Below W.heap.size W W') : DtsO W' B A n := by
  rcases h with h | ⟨g, h1, h2⟩
  · exact .inl h
  · exact .inr ⟨g, h1, h2.below hb⟩
theorem DtsO.of_own {W : World} {B n c : Nat} {A : Option Addr} {ds : List (Int × Int)} (h : W.ownsRow B 51 2 (.slice A n c) ds.length (cellsOf encD ds)) (hn : n = ds.length) : DtsO W B A n := by
  subst hn
  by_cases h0 : ds.length = 0
  · exact .inl h0
  refine .inr ?_
  have h2 := h.2
  rcases h2 with ⟨_, h2⟩ | ⟨g, cap, cur, hv, hb, hg, _⟩
  · exact absurd h2 h0
  · injection hv with e1 e2 e3
    subst e1
    refine ⟨g, rfl, hb, ⟨cur, hg⟩, fun j hj => ⟨ds[j].2, ?_⟩⟩
    have hc := World.ownsRow.cells h (g := g) rfl (j * 2 + 1) (.int .i64 ds[j].2) (cellsOf_at encD_len ds j ds[j] 1 _ (List.getElem?_eq_getElem hj) rfl)
    rw [Addr_add, Nat.zero_add] at hc
    exact hc

/-- What was returned, its dots being spoilt. -/
structure KP (w : World) (B : Nat) (c : CaV) (W : World) : Prop where
  box : BlkC W w.heap.size c
  dv : DtsO W B c.V c.vs.length
  dl : DtsO W B c.L c.ls.length
  own : OwnI W B c.i c.xs
  bel : Below B w W
theorem KP.store {w W : World} {B g n o : Nat} {c : CaV} (h : KP w B c W) (hd : Dts W B g n) (x : Int) : KP w B c (W.setCell ⟨g, o, none⟩ (.int .i64 x)) := by
  obtain ⟨cur, hg⟩ := hd.typ
  exact ⟨h.box.store hg (by decide), h.dv.store _ _ _, h.dl.store _ _ _, h.own.store hg (by decide) (by decide), h.bel.setCell (p := ⟨g, o, none⟩) hd.ge _⟩

theorem mark_block {W : World} {B b : Nat} {x : ItV} (h : RowM W B (slV x) x.ms) (hA : x.A = some ⟨b, 0, none⟩) (h0 : 0 < x.ms.length) : ∃ cur, W.heap[b]? = some (.cells cur 54 (0, 0)) := by
  rcases RowM.form h with ⟨_, e2⟩ | ⟨g, c2, cur2, e1, _, hg⟩
  · rw [e2] at h0; cases h0
  · injection e1 with e3 _ _
    rw [hA] at e3
    injection e3 with e4
    injection e4 with e5
    subst e5
    exact ⟨cur2, hg⟩
/-- The items being spoilt, the cart in its box. -/
structure KQ (w : World) (B g n d lim : Nat) (c : CaV) (W : World) (ys : List ItV) : Prop where
  box : BlkC W w.heap.size c
  spo : Spo w B g d n lim W ys

section
variable {w W : World} {B g n d lim : Nat} {c : CaV} {ys : List ItV}
theorem KQ.marks (h : KQ w B g n d lim c W ys) {j k : Nat} {x : ItV} (hj : ys[j]? = some x) (hk : k < x.ms.length) :
    ∃ b q, x.A = some ⟨b, 0, none⟩ ∧ W.cell? ⟨b, k * 4 + 2, none⟩ = some (.int .i64 q) ∧ W.frozen? ⟨b, k * 4 + 2, none⟩ = false ∧ b < W.heap.size ∧
      ∀ q', ∃ zs y, KQ w B g n d lim c (W.setCell ⟨b, k * 4 + 2, none⟩ (.int .i64 q')) zs ∧ zs[j]? = some y ∧ y.A = x.A ∧ y.c = x.c ∧ y.ms.length = x.ms.length := by
  obtain ⟨b, q, hA, e0, e1, hbl, hnx⟩ := h.spo.marks hj hk
  obtain ⟨cur, hg⟩ := mark_block (h.spo.own.2 x (List.mem_of_getElem? hj)) hA (by omega)
  refine ⟨b, q, hA, e0, e1, hbl, fun q' => ?_⟩
  obtain ⟨zs, y, k1, k2⟩ := hnx q'
  exact ⟨zs, y, ⟨h.box.store hg (by decide), k1⟩, k2⟩
end

end

section
open Go.RowKit Go.Maps

/-- A map of bools that reads as a set. -/
def SetIs {α : Type} (κ : α → Lit) (D : DataW Unit) (S : α → Bool) : Prop := ∀ x, D.atKey (κ x) (.lit (.bool false)) = .lit (.bool (S x))
section
variable {α : Type} [DecidableEq α] {κ : α → Lit} {D : DataW Unit} {S : α → Bool}
omit [DecidableEq α] in
theorem SetIs.start : SetIs κ (.map []) fun _ => false := fun _ => rfl
theorem SetIs.put (hD : IsMap D) (hk : ∀ x, WideAt.IsKeyLit (κ x)) (hi : ∀ x y, κ x = κ y → x = y) (h : SetIs κ D S) (x : α) : SetIs κ (D.put (κ x) (.lit (.bool true))) fun y => S y || decide (y = x) := by
  intro y
  by_cases e : y = x
  · subst e; rw [atKey_put_same hD (hk y)]; simp
  · rw [atKey_put_other (fun h' => e (hi _ _ h')), h y]; simp [e]
theorem SetIs.del (hi : ∀ x y, κ x = κ y → x = y) (h : SetIs κ D S) (x : α) : SetIs κ (D.del (κ x)) fun y => S y && !decide (y = x) := by
  intro y
  by_cases e : y = x
  · subst e; rw [atKey_del_same]; simp
  · rw [atKey_del_other (fun h' => e (hi _ _ h')), h y]; simp [e]
omit [DecidableEq α] in
theorem SetIs.congr {S' : α → Bool} (h : SetIs κ D S) (e : ∀ x, S x = S' x) : SetIs κ D S' := fun x => by rw [h x, e]
def memB (l : List α) (x : α) : Bool := decide (x ∈ l)
theorem SetIs.seen (hD : IsMap D) (hk : ∀ x, WideAt.IsKeyLit (κ x)) (hi : ∀ x y, κ x = κ y → x = y) {l : List α} {m : Nat} {x : α} (hx : l[m]? = some x) (h : SetIs κ D fun y => memB (l.take m) y) :
    SetIs κ (D.put (κ x) (.lit (.bool true))) fun y => memB (l.take (m + 1)) y :=
  (h.put hD hk hi x).congr fun y => by simp [memB, take_snoc hx]
theorem SetIs.left (hi : ∀ x y, κ x = κ y → x = y) {l : List α} {m : Nat} {x : α} (hx : l[m]? = some x) (h : SetIs κ D fun y => memB l y && !memB (l.take m) y) :
    SetIs κ (D.del (κ x)) fun y => memB l y && !memB (l.take (m + 1)) y :=
  (h.del hi x).congr fun y => by
    rw [take_snoc hx, Bool.eq_iff_iff]
    simp only [memB, Bool.and_eq_true, Bool.not_eq_true', decide_eq_true_eq, decide_eq_false_iff_not, List.mem_append, List.mem_singleton, not_or]
    exact and_assoc
end
/-- Dots as keys. -/
theorem rowDotK : (51 : TypeId) < Tryz.prog.types.size := of_decide_eq_true (by kernel_rfl)
theorem keyDotK : Tryz.prog.keyTypeAt 2 51 = true := by kernel_rfl
theorem laidOutK : laidOutB Tryz.prog = true := by kernel_rfl
theorem keyedOf {P : Program} {k : TypeId} {fs : Array Field} (h : P.underlying k = some (.struct fs)) (hl : laidOutB P = true) (hr : k < P.types.size) (hk : P.keyTypeAt 2 k = true) : Keyed P k :=
  Keyed.of_law (deep_law_laid hl (m := 2) (by decide) hr hk (by rw [h]))
theorem lawDotK : Keyed Tryz.prog 51 := keyedOf Tryz.underlying51 laidOutK rowDotK keyDotK
abbrev DKey := { d : Int × Int // validD d.1 d.2 = true }
def dKey (x : DKey) : Lit := .string (keyBytes [.int .i64 x.1.1, .int .i64 x.1.2])
theorem keyOf_two {P : Program} {k e : TypeId} {fs : Array Field} {f g : Field} (h : P.underlying k = some (.struct fs)) (hfs : fs = #[f, g]) (hf : f.type = e ∧ f.offset = 0 ∧ (f.name != "_") = true) (hg : g.type = e ∧ g.offset = 1 ∧ (g.name != "_") = true) (he : P.underlying e = some (.int .i64)) (hk : P.keyType k = true) (hc : P.cellsOf k = 2) (hi : P.cellsOf e = 1) (hn : 0 < P.types.size)
    {a b : Int} (h1 : (Lit.int .i64 a).wf = true) (h2 : (Lit.int .i64 b).wf = true) : keyOf P k (.agg #[.int .i64 a, .int .i64 b]) = some (.string (keyBytes [.int .i64 a, .int .i64 b])) := by
  obtain ⟨n, hn'⟩ : ∃ n, P.types.size = n + 1 := ⟨P.types.size - 1, by omega⟩
  subst hfs
  unfold keyOf
  simp [h, hk, Value.formed, hc, hn', Program.keyLits, hi, he, h1, h2, Value.cells, hf.1, hf.2.1, hg.1, hg.2.1, hf.2.2, hg.2.2]
theorem keyTyK : Tryz.prog.keyType 51 = true := by kernel_rfl
theorem cellsK : Tryz.prog.cellsOf 51 = 2 := by kernel_rfl
theorem cellK : Tryz.prog.cellsOf 3 = 1 := by kernel_rfl
theorem keyOf_dot (x : DKey) : keyOf Tryz.prog 51 (.agg #[.int .i64 x.1.1, .int .i64 x.1.2]) = some (dKey x) := by
  have hv := x.2
  simp only [validD, decide_eq_true_eq] at hv
  exact keyOf_two Tryz.underlying51 rfl ⟨rfl, rfl, by decide⟩ ⟨rfl, rfl, by decide⟩ Tryz.underlying3 keyTyK cellsK cellK (Nat.lt_of_le_of_lt (Nat.zero_le _) rowDotK) (WalkArith.wf_i64 (by omega)) (WalkArith.wf_i64 (by omega))

theorem dKey_is (x : DKey) : WideAt.IsKeyLit (dKey x) := trivial
theorem dKey_inj (x y : DKey) (h : dKey x = dKey y) : x = y := by
  have h1 := keyOf_dot x
  rw [h] at h1
  have e := lawDotK.inj h1 (keyOf_dot y)
  apply Subtype.ext
  have e' := congrArg Array.toList (Value.agg.inj e)
  have e1 : x.1.1 = y.1.1 := (Value.int.inj (List.cons.inj e').1).2
  have e2 : x.1.2 = y.1.2 := (Value.int.inj (List.cons.inj (List.cons.inj e').2).1).2
  exact Prod.ext e1 e2

end

section
open Go.RowKit Go.Maps

theorem flatH_step {l : List It} {k : Nat} {x : It} (h : l[k]? = some x) : flatH (l.take (k + 1)) = flatH (l.take k) ++ x.2.map fun m => (x.1, m) := by rw [take_step h, flatH_snoc]
theorem map_snoc {α β : Type} {l : List α} {k : Nat} {x : α} (f : α → β) (h : l[k]? = some x) : (l.take (k + 1)).map f = (l.take k).map f ++ [f x] := by rw [take_step h]; simp
theorem cntM_take {l : List It} (k : Nat) : cntM (l.take k) ≤ cntM l := by
  have h := congrArg cntM (List.take_append_drop k l)
  unfold cntM at *
  rw [List.map_append, List.sum_append] at h
  omega
theorem cntM_fits {xs : List ItV} (h : Fits xs) : cntM (its xs) ≤ 20000 := by
  have h1 := flatH_len (its xs)
  have h2 : (flatH (its xs)).length ≤ 100 * (its xs).length := by
    have h3 : ∀ x ∈ its xs, x.2.length ≤ 100 := fun y hy => by
      obtain ⟨z, hz, rfl⟩ := List.mem_map.1 hy
      exact (h.2 z hz).2
    clear h1
    generalize its xs = l at h3
    induction l with
    | nil => simp [flatH]
    | cons x r ih =>
      have h4 := ih fun y hy => h3 y (List.mem_cons_of_mem _ hy)
      have h5 := h3 x (by simp)
      unfold flatH at h4 ⊢
      rw [List.flatMap_cons, List.length_append, List.length_map, List.length_cons]; omega
  have h6 := h.1
  rw [its_len] at h2
  omega

set_option maxRecDepth 100000 in
set_option maxHeartbeats 4000000 in
theorem joFlat (c : CaV) (w : World) (hc : CaOK w c) (hf : Fits c.xs) :
    Calls Tryz.prog 73 #[mkC c] w fun e w' => (∃ v, e = .returned v ∧ RowH w' w.heap.size v (flatH (its c.xs))) ∧ Below w.heap.size w w' := by
  obtain ⟨ti0, hi0, hz0, hz1, hz2⟩ := info_parts infoH
  obtain ⟨V, nv, vs, L, nl, ls, A, ni, xs⟩ := c
  have K0 := Lib.hid (KB1.new w _ hc)
  have hm := hf.1
  have HF := Lib.hid hf.2
  have HC := Lib.hid (cntM_fits hf)
  clear hc hf
  dsimp only at hm HF HC
  show Calls Tryz.prog 73 #[.agg #[.slice V vs.length nv, .slice L ls.length nl, .slice A xs.length ni]] w _
  go_enter Tryz.func73, Tryz.ntmps73
  go_wp2_with fail
  generalize World.alloc w _ = w2 at K0 ⊢
  obtain ⟨x0, x1, x2, xl, _⟩ := K0.out.sp
  change w2.cell? ⟨w.heap.size, 2, none⟩ = some (Value.slice A xs.length ni) at x2
  go_wp2_with fail
  go_loopw [3, 5, 7, 11] (fun v _ _ i wr => ∃ k : Nat, k ≤ xs.length ∧ i = .int .i64 k ∧ Hid (RowH wr (w.heap.size + 1) v (flatH ((its xs).take k))) ∧ Hid (KB1 w ⟨V, nv, vs, L, nl, ls, A, ni, xs⟩ wr)) (fun _ _ _ i _ => xs.length - (intOf i).toNat)
  case atStart => exact ⟨0, by omega, rfl, Lib.hid (World.ownsRow_nil _ _ _ _), K0⟩
  case round =>
    clear K0 x0 x1 x2 xl
    obtain ⟨k, hk, rfl, hr, K⟩ := hrel
    obtain ⟨x0, x1, x2, xl, _⟩ := K.out.sp
    by_cases hlt : k < xs.length
    · have i0 : (k : Int) < (xs.length : Int) := by omega
      obtain ⟨b, off, x, hI, hbl, hx1, _, hc0, hc1, hok⟩ := K.out.items.cells (j := k) hlt
      obtain rfl : A = some ⟨b, off, none⟩ := hI
      obtain ⟨nm, XA, xc, ms⟩ := x
      dsimp only at hc0 hc1
      have hxm := HF.out _ (List.mem_of_getElem? hx1)
      have hml := hok.len
      dsimp only at hml hxm
      have HS := Lib.hid (flatH_step (its_at hx1))
      have B1 := Lib.hid (BlkI.new wr ⟨nm, XA, xc, ms⟩)
      have K1 := Lib.hid (K.out.alloc (.cells #[.string ⟨nm.toArray⟩, .slice XA ms.length xc] 49))
      have R1 := Lib.hid (hr.out.alloc (.cells #[.string ⟨nm.toArray⟩, .slice XA ms.length xc] 49))
      have HX := Lib.hid (List.mem_of_getElem? hx1)
      have HL := Lib.hid (show (flatH ((its xs).take k)).length ≤ 20000 from by rw [flatH_len]; exact Nat.le_trans (cntM_take k) HC.out)
      have hm100 := hxm.2
      unfold maxLen at hml
      clear hx1 hok hxm hr K
      go_wp2_with fail
      obtain ⟨gI, hgI⟩ : ∃ g, wr.heap.size = g := ⟨_, rfl⟩
      rw [hgI] at B1 ⊢
      generalize World.alloc wr _ = w3 at *
      have y0 := B1.out.cell0
      have y1 := B1.out.cell1
      dsimp only at y0 y1
      have yl := B1.out.lt
      clear x0 x1 x2 xl hc0 hc1 hbl
      generalize flatH ((its xs).take k) = fl at *
      go_wp2_with fail
      obtain ⟨wq, rfl⟩ : ∃ W, W = wr := ⟨_, rfl⟩
      go_loopw [3, 7, 18] (fun v _ i wr => ∃ j : Nat, j ≤ ms.length ∧ i = .int .i64 j ∧ Hid (RowH wr (w.heap.size + 1) v (fl ++ (ms.take j).map fun m => (nm, m))) ∧ Hid (KB1 w ⟨V, nv, vs, L, nl, ls, some ⟨b, off, none⟩, ni, xs⟩ wr) ∧ Hid (BlkI wr gI ⟨nm, XA, xc, ms⟩)) (fun _ _ i _ => ms.length - (intOf i).toNat)
      case atStart => exact ⟨0, by omega, rfl, by simpa [Hid] using R1.out, K1, B1⟩
      case round =>
        clear R1 K1 B1 y0 y1 yl
        obtain ⟨j, hj, rfl, hr, K, B⟩ := hrel
        have hok := K.out.items.2 _ HX.out
        have y0 := B.out.cell0
        have y1 := B.out.cell1
        dsimp only at y0 y1
        have yl := B.out.lt
        by_cases hlt2 : j < ms.length
        · have i1 : (j : Int) < (ms.length : Int) := by omega
          obtain ⟨bm, om, m, hA, hbm, hm1, _, d0, d1, d2, d3⟩ := SlAt.mark hok.1 (j := j) hlt2
          subst hA
          have HM := Lib.hid (show fl ++ ((ms.take (j + 1)).map fun m => ((nm, m) : Hd)) = (fl ++ (ms.take j).map fun m => ((nm, m) : Hd)) ++ [(nm, m)] from by rw [map_snoc (fun m => ((nm, m) : Hd)) hm1, List.append_assoc])
          have hl : (fl ++ (ms.take j).map fun m => ((nm, m) : Hd)).length ≤ 21000 := by
            rw [List.length_append, List.length_map, List.length_take]
            have := HL.out; omega
          have hba := ((Below.refl wr.heap.size wr).alloc (Nat.le_refl _) (.cells #[.int .i64 m.r, .int .i64 m.c, .int .i64 m.q, .int .u64 (m.t : Int)] 54)).alloc (by simp) (.cells #[.string ⟨nm.toArray⟩, .int .i64 m.r, .int .i64 m.c, .int .i64 m.q, .int .u64 (m.t : Int)] 67)
          have K2 := Lib.hid (K.out.next hba)
          have B2 := Lib.hid (B.out.below hba)
          have R2 := Lib.hid (kept_below hr.out hba)
          have S2 := Lib.hid (SlAt.litAt (enc := encH) encH_len (wr.alloc (.cells #[.int .i64 m.r, .int .i64 m.c, .int .i64 m.q, .int .u64 (m.t : Int)] 54)) (wr.heap.size + 1) (by simp) 67 [((nm, m) : Hd)] (by simp [maxLen]))
          clear hm1 hba hok
          obtain ⟨D, d, rfl, _, _, _⟩ := SlAt.of_own encH_len hr.out
          generalize (fl ++ (ms.take j).map fun m => ((nm, m) : Hd)) = ns at *
          go_wp2_with (at_builtin; refine wpList_append_sl _ encH 5 rfl (.tmp 22) (.tmp 27) 64 rfl encH_len (by omega) encH_one (w.heap.size + 1) 67 ti0 _ 48 Tryz.underlying64 hi0 hz0 hz1 hz2 rfl _ ns rfl R2.out _ 1 _ [(nm, m)] rfl rfl S2.out (by simp [maxLen]; omega) (by simp; omega) (by have := K2.out.size; simpa using this) ?_; intro v1 w1 hown hg hat; have KG := Lib.hid (K2.out.grown hg (fun k hk => (R2.out.lt k hk).1)); have BG := Lib.hid (show BlkI w1 gI ⟨nm, some ⟨bm, om, none⟩, xc, ms⟩ from (hg.block gI B2.out.lt (Ne.symm (row_ne R2.out B2.out (by decide)))).trans B2.out); have HO := Lib.hid hown; have HG := Lib.hid hg; clear hown hg hat)
          go_roundw
          case rel => exact ⟨j + 1, by omega, by go_num, by rw [HM.out]; exact HO, KG, BG⟩
          case measure => simp [intOf]; omega
        · have i1 : ¬ (j : Int) < (ms.length : Int) := by omega
          obtain rfl : j = ms.length := by omega
          rw [List.take_length] at hr
          clear hlt2 hok
          go_wp2_with fail
          go_roundw
          case rel => exact ⟨k + 1, by omega, by go_num, by rw [HS.out]; exact hr, K⟩
          case measure => simp [intOf]; omega
    · have i0 : ¬ (k : Int) < (xs.length : Int) := by omega
      obtain rfl : k = xs.length := by omega
      have hh := hr.out
      rw [← its_len xs, List.take_length] at hh
      have HH := Lib.hid (Joins.ownsRow_le hh (Nat.le_succ _))
      have HB := Lib.hid K.out.bel
      clear hlt K hr hh
      go_wp2_with fail
      go_ret
      exact ⟨⟨_, rfl, HH.out⟩, HB.out⟩

/-- How marks stand in a map: as they are. -/
def heldElem (v : Value) : Option (DataW Value × List MemPlace) := some (.held v, [])
def hZero : Hd := ([], Mk.zero)
/-- A map reads as marks by their dots. -/
def MapH (D : DataW Value) (l : List Hd) : Prop := ∀ d : DKey, D.atKey (dKey d) (.held (mkH hZero)) = .held (mkH ((lookH l d.1).getD hZero)) ∧ Maps.has D (dKey d) = (lookH l d.1).isSome
theorem MapH.start : MapH (.map []) [] := fun _ => ⟨rfl, rfl⟩
theorem MapH.step {D : DataW Value} {l : List Hd} (hD : IsMap D) (h : MapH D l) (x : Hd) (d : DKey) (hd : d.1 = dotH x) : MapH (D.put (dKey d) (.held (mkH x))) (l ++ [x]) := by
  intro e
  rw [lookH_snoc]
  by_cases k : e = d
  · subst k
    rw [atKey_put_same hD (dKey_is e), has_put_same hD (dKey_is e), if_pos hd.symm]
    exact ⟨rfl, rfl⟩
  · have hne : ¬ dotH x = e.1 := fun k2 => k (Subtype.ext (k2.symm.trans hd.symm))
    rw [atKey_put_other (fun k2 => k (dKey_inj _ _ k2)), has_put_other (fun k2 => k (dKey_inj _ _ k2)), if_neg hne]
    exact h e
/-- The map of a cart's marks. -/
abbrev OwnsH (W : World) (mb : Nat) (D : DataW Value) : Prop := W.ownsMap Tryz.prog 51 heldElem mb 20000 D

def MapR (hs : List Hd) (w : World) (e : Ending) (w' : World) : Prop := (∃ mb D, e = .returned (.map (some mb)) ∧ w.heap.size ≤ mb ∧ OwnsH w' mb D ∧ MapH D hs) ∧ Below w.heap.size w w'
set_option maxRecDepth 100000 in
set_option maxHeartbeats 4000000 in
theorem joByDot (c : CaV) (w : World) (hc : CaOK w c) (hf : Fits c.xs) (hv : ∀ h ∈ flatH (its c.xs), validD h.2.r h.2.c = true) :
    Calls Tryz.prog 71 #[mkC c] w (MapR (flatH (its c.xs)) w) := by
  have hmm := @run_makeMap Tryz.prog
  have K0 := Lib.hid (KB1.new w _ hc)
  have HF := Lib.hid fun W (h : CaOK W c) => joFlat c W h hf
  have HC := Lib.hid (show (flatH (its c.xs)).length ≤ 20000 from by rw [flatH_len]; exact cntM_fits hf)
  have HV := Lib.hid hv
  clear hc hf hv
  generalize flatH (its c.xs) = hs at *
  go_enter Tryz.func71, Tryz.ntmps71
  go_wp2_with fail
  have M0 := Lib.hid (World.ownsMap_made (w.alloc (.cells #[c.v, c.l, c.i] 28)) Tryz.prog 51 heldElem)
  have K1 := Lib.hid (K0.out.alloc (.map #[] 0))
  rw [World.size_alloc] at M0
  generalize World.alloc (World.alloc w _) _ = w2 at *
  refine (HF.out _ K1.out.ok).mono ?_
  rintro e w3 ⟨⟨v, rfl, hrow⟩, hb⟩
  obtain ⟨A, cap, rfl, _, hcm, hat⟩ := SlAt.of_own encH_len hrow
  have K2 := Lib.hid (K1.out.next hb)
  have M2 := Lib.hid (M0.out.kept (grown_of_below hb none) (by simp))
  have hsz : w.heap.size + 1 < w2.heap.size := M0.out.lt
  have R2 := Lib.hid hrow
  clear hb hat M0 K0 K1 hrow hmm
  go_wp2_with fail
  go_loopw [5, 10] (fun _ i wr => ∃ m : Nat, m ≤ hs.length ∧ i = .int .i64 m ∧ Hid (KB1 w c wr) ∧ Hid (RowH wr w2.heap.size (.slice A hs.length cap) hs) ∧ ∃ D, Hid (wr.ownsMap Tryz.prog 51 heldElem (w.heap.size + 1) m D) ∧ Hid (MapH D (hs.take m))) (fun _ i _ => hs.length - (intOf i).toNat)
  case atStart => exact ⟨0, by omega, rfl, K2, R2, .map [], M2, MapH.start⟩
  case round =>
    clear K2 R2 M2
    obtain ⟨m, hk2, rfl, K, R, D, hown, hD⟩ := hrel
    have hlen := HC.out
    by_cases hlt : m < hs.length
    · have i0 : (m : Int) < (hs.length : Int) := by omega
      obtain ⟨b, off, x, hA, hbl, hx1, hc0, hc1, hc2, hc3, hc4⟩ := (show HeldAt wr A hs from by
        obtain ⟨A', c', e, _, _, h⟩ := SlAt.of_own encH_len R.out
        cases e; exact h).held (j := m) hlt
      subst hA
      have hvx := HV.out x (List.mem_of_getElem? hx1)
      have hkey := keyOf_dot ⟨(x.2.r, x.2.c), hvx⟩
      have HST := Lib.hid (show MapH _ (hs.take (m + 1)) from by rw [take_step hx1]; exact hD.out.step hown.out.isMap x ⟨(x.2.r, x.2.c), hvx⟩ rfl)
      have B1 := Lib.hid (BlkH.new wr x)
      have K1 := Lib.hid (K.out.alloc (.cells #[.string ⟨x.1.toArray⟩, .int .i64 x.2.r, .int .i64 x.2.c, .int .i64 x.2.q, .int .u64 (x.2.t : Int)] 67))
      have R1 := Lib.hid (R.out.alloc (.cells #[.string ⟨x.1.toArray⟩, .int .i64 x.2.r, .int .i64 x.2.c, .int .i64 x.2.q, .int .u64 (x.2.t : Int)] 67))
      have M1 := Lib.hid (hown.out.alloc (.cells #[.string ⟨x.1.toArray⟩, .int .i64 x.2.r, .int .i64 x.2.c, .int .i64 x.2.q, .int .u64 (x.2.t : Int)] 67))
      clear hx1 K R hown hD
      go_wp2_with (first
        | (at_mapUpdate; refine wpList_mapUpdate_own _ rfl _ _ _ 101 rfl 51 67 lawDotK Tryz.underlying101 heldElem (w.heap.size + 1) _ _ rfl M1.out (by unfold maxLen; omega) _ _ _ rfl rfl hkey _ [] rfl ?_; intro w1 hown1 hgrow1)
        | go_in)
      have K3 := Lib.hid (K1.out.grown hgrow1 (fun k hk => by cases hk; exact Nat.le_refl _))
      have R3 := Lib.hid (R1.out.kept hgrow1 (.inr (fun e => by have := (R1.out.lt _ e).1; omega)))
      have M3 := Lib.hid hown1
      clear K1 R1 M1 hown1 hgrow1
      go_roundw
      case rel => exact ⟨m + 1, by omega, by go_num, K3, R3, _, M3, HST⟩
      case measure => simp [intOf]; omega
    · have i0 : ¬ (m : Int) < (hs.length : Int) := by omega
      obtain rfl : m = hs.length := by omega
      rw [List.take_length] at hD
      have M3 := Lib.hid (hown.out.mono hlen)
      clear hlt hown R
      go_wp2_with fail
      go_ret
      exact ⟨⟨_, D, rfl, by omega, M3.out, hD.out⟩, K.out.bel⟩

end

end Go.Proofs.YtfjbocipjmpogaaGreat
