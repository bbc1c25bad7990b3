/- Several texts in one: JoiS. -/
import Derived.Test.YtfjbocipjmpogaaGreatMBF
import Derived.Test.YtfjbocipjmpogaaGreatMAQ
import Derived.Test.YtfjbocipjmpogaaGreatMAB
import Derived.Test.YtfjbocipjmpogaaGreatMBD
namespace Go.Proofs.YtfjbocipjmpogaaGreat

section
open Go.RowKit

theorem find_mark (xs : List ItV) (nm : List UInt8) : (∃ (k : Nat) (x : ItV), xs[k]? = some x ∧ findZ (its xs) nm = (k : Int) ∧ ∀ d, markL (its xs) nm d = markM x.ms d) ∨ (findZ (its xs) nm = -1 ∧ ∀ d, markL (its xs) nm d = none) := by
  cases h : (its xs).findIdx? (fun x => x.1 == nm) with
  | none =>
    refine .inr ⟨by unfold findZ; rw [h], fun d => ?_⟩
    have : (its xs).find? (fun x => x.1 == nm) = none := by
      rw [List.find?_eq_none]
      rw [List.findIdx?_eq_none_iff] at h
      intro x hx
      simp [h x hx]
    unfold markL; rw [this]; rfl
  | some k =>
    obtain ⟨hk, hp, hl⟩ := List.findIdx?_eq_some_iff_getElem.1 h
    obtain ⟨x, hx⟩ : ∃ x, xs[k]? = some x := ⟨xs[k]'(by rw [its_len] at hk; exact hk), List.getElem?_eq_getElem _⟩
    refine .inl ⟨k, x, hx, by unfold findZ; rw [h], fun d => ?_⟩
    have hg : (its xs)[k] = x.it := by
      have := its_at hx
      rw [List.getElem?_eq_getElem hk] at this
      exact Option.some.inj this
    have : (its xs).find? (fun x => x.1 == nm) = some x.it := by
      rw [List.find?_eq_some_iff_getElem]
      exact ⟨by rw [← hg]; exact hp, k, hk, hg, fun j hj => by have := hl j hj; simpa using this⟩
    unfold markL; rw [this]; rfl
theorem markM_step {l : List Mk} {k : Nat} {y : Mk} {d : Int × Int} (h : (l.take k).find? (fun m => decide (dotM m = d)) = none) (hy : l[k]? = some y) (hne : dotM y ≠ d) : (l.take (k + 1)).find? (fun m => decide (dotM m = d)) = none := by
  rw [take_snoc hy, List.find?_append, h]
  simp [hne]
theorem markM_hit {l : List Mk} {k : Nat} {y : Mk} {d : Int × Int} (h : (l.take k).find? (fun m => decide (dotM m = d)) = none) (hy : l[k]? = some y) (he : dotM y = d) : markM l d = some y := by
  have : (l.take (k + 1)).find? (fun m => decide (dotM m = d)) = some y := by
    rw [take_snoc hy, List.find?_append, h]
    simp [he]
  unfold markM
  rw [← List.take_append_drop (k + 1) l, List.find?_append, this]
  rfl
/-- What the reference's mark returns. -/
def markV (o : Option Mk) : Value := .tuple #[mkV (o.getD Mk.zero), .bool o.isSome]

/-- While mark runs: the cart and the dot in their boxes, the box of the result. -/
structure KMk (w : World) (c : CaV) (r s : Int) (W : World) : Prop where
  cart : BlkC W w.heap.size c
  ok : CaOK W c
  dot : W.heap[w.heap.size + 1]? = some (.cells #[.int .i64 r, .int .i64 s] 51 (0, 0))
  res : BlkM W (w.heap.size + 2) Mk.zero
  bel : Below w.heap.size w W
section
variable {w W W' : World} {c : CaV} {r s : Int}
theorem KMk.next (h : KMk w c r s W) (hb : Below W.heap.size W W') : KMk w c r s W' := ⟨h.cart.below hb, h.ok.below hb, (hb.block _ (Array.getElem?_eq_some_iff.1 h.dot).1).trans h.dot, h.res.below hb, below_trans h.bel hb⟩
theorem KMk.far (h : KMk w c r s W) (p : FarBy) : KMk w c r s (Go.Proofs.YtfjbocipjmpogaaGreat.far W p) := h.next (below_far W p)
theorem KMk.dots (h : KMk w c r s W) : W.cell? ⟨w.heap.size + 1, 0, none⟩ = some (.int .i64 r) ∧ W.cell? ⟨w.heap.size + 1, 1, none⟩ = some (.int .i64 s) ∧ w.heap.size + 1 < W.heap.size :=
  ⟨by simp [World.cell?, h.dot], by simp [World.cell?, h.dot], (Array.getElem?_eq_some_iff.1 h.dot).1⟩
theorem KMk.new (w : World) (c : CaV) (r s : Int) (hc : CaOK w c) : KMk w c r s (((w.alloc (.cells #[c.v, c.l, c.i] 28)).alloc (.cells #[.int .i64 r, .int .i64 s] 51)).alloc (.cells #[.int .i64 0, .int .i64 0, .int .i64 0, .int .u64 0] 54)) := by
  have h1 := (Below.refl w.heap.size w).alloc (Nat.le_refl _) (.cells #[c.v, c.l, c.i] 28)
  have h2 := (Below.refl _ (w.alloc (.cells #[c.v, c.l, c.i] 28))).alloc (Nat.le_refl _) (.cells #[.int .i64 r, .int .i64 s] 51)
  have h3 := (Below.refl _ ((w.alloc (.cells #[c.v, c.l, c.i] 28)).alloc (.cells #[.int .i64 r, .int .i64 s] 51))).alloc (Nat.le_refl _) (.cells #[.int .i64 0, .int .i64 0, .int .i64 0, .int .u64 0] 54)
  have d := heap_alloc_new (w.alloc (.cells #[c.v, c.l, c.i] 28)) (.cells #[.int .i64 r, .int .i64 s] 51)
  have m := BlkM.new ((w.alloc (.cells #[c.v, c.l, c.i] 28)).alloc (.cells #[.int .i64 r, .int .i64 s] 51)) Mk.zero
  rw [World.size_alloc] at d
  rw [World.size_alloc, World.size_alloc] at m
  exact ⟨((BlkC.new w c).below h2).below h3, ((hc.below h1).below h2).below h3, (h3.block _ (Array.getElem?_eq_some_iff.1 d).1).trans d, m, below_trans (below_trans h1 h2) h3⟩
end
theorem BlkM.zeros {W : World} {g : Nat} (h : BlkM W g Mk.zero) : W.cell? ⟨g, 0, none⟩ = some (.int .i64 0) ∧ W.cell? ⟨g, 1, none⟩ = some (.int .i64 0) ∧ W.cell? ⟨g, 2, none⟩ = some (.int .i64 0) ∧ W.cell? ⟨g, 3, none⟩ = some (.int .u64 0) ∧ W.frozen? ⟨g, 0, none⟩ = false ∧ W.frozen? ⟨g, 1, none⟩ = false ∧ W.frozen? ⟨g, 2, none⟩ = false ∧ W.frozen? ⟨g, 3, none⟩ = false :=
  ⟨h.cell0, h.cell1, h.cell2, h.cell3, h.frozen _, h.frozen _, h.frozen _, h.frozen _⟩

theorem BlkM.setZero {W : World} {g : Nat} {m : Mk} (h : BlkM W g m) : ((((W.setCell ⟨g, 0, none⟩ (.int .i64 0)).setCell ⟨g, 1, none⟩ (.int .i64 0)).setCell ⟨g, 2, none⟩ (.int .i64 0)).setCell ⟨g, 3, none⟩ (.int .u64 0)).cell? ⟨g, 0, none⟩ = some (.int .i64 0) ∧ ((((W.setCell ⟨g, 0, none⟩ (.int .i64 0)).setCell ⟨g, 1, none⟩ (.int .i64 0)).setCell ⟨g, 2, none⟩ (.int .i64 0)).setCell ⟨g, 3, none⟩ (.int .u64 0)).cell? ⟨g, 1, none⟩ = some (.int .i64 0) ∧ ((((W.setCell ⟨g, 0, none⟩ (.int .i64 0)).setCell ⟨g, 1, none⟩ (.int .i64 0)).setCell ⟨g, 2, none⟩ (.int .i64 0)).setCell ⟨g, 3, none⟩ (.int .u64 0)).cell? ⟨g, 2, none⟩ = some (.int .i64 0) ∧ ((((W.setCell ⟨g, 0, none⟩ (.int .i64 0)).setCell ⟨g, 1, none⟩ (.int .i64 0)).setCell ⟨g, 2, none⟩ (.int .i64 0)).setCell ⟨g, 3, none⟩ (.int .u64 0)).cell? ⟨g, 3, none⟩ = some (.int .u64 0) :=
  have h1 := (h.set Mk.zero).zeros
  ⟨h1.1, h1.2.1, h1.2.2.1, h1.2.2.2.1⟩
theorem CaOK.items {W : World} {c : CaV} (h : CaOK W c) : ItemsAt W c.I c.xs := by
  obtain ⟨A, c', e, h1, _⟩ := h.2.2
  injection e with e1 _ _
  rw [e1]; exact h1

set_option maxRecDepth 100000 in
set_option maxHeartbeats 4000000 in
theorem refMark11 (c : CaV) (nm : List UInt8) (r s : Int) (o : Option Mk) (w : World) (hc : CaOK w c) (hm : c.xs.length ≤ 100000) (ho : markL (its c.xs) nm (r, s) = o) :
    Calls Tryz.prog 51 #[mkC c, .string ⟨nm.toArray⟩, .agg #[.int .i64 r, .int .i64 s]] w (OneB (markV o) w) := by
  have K0 := Lib.hid (KMk.new w c r s hc)
  have HM := Lib.hid hm
  rcases find_mark c.xs nm with ⟨k, x, hx, hz, hk⟩ | ⟨hz, hk⟩
  · rw [hk] at ho
    have HO := Lib.hid ho
    have HZ := Lib.hid hz
    have i0 : ¬ (k : Int) < 0 := by omega
    have hkl : k < c.xs.length := (List.getElem?_eq_some_iff.1 hx).1
    have hkz : (k : Int) < (c.xs.length : Int) := by omega
    obtain ⟨b, off, x', hcI, hbl, hx1, _, hc0, hc1, hok⟩ := hc.items.cells hkl
    obtain rfl : x = x' := Option.some.inj (hx.symm.trans hx1)
    obtain ⟨V, nv, vs, L, nl, ls, I, ni, xs⟩ := c
    obtain rfl : I = some ⟨b, off, none⟩ := hcI
    have HC1 := Lib.hid hc1
    have HOK := Lib.hid hok
    have hml := hok.len
    clear hc hm ho hk hz hx hx1 hc0 hc1 hok
    obtain ⟨xnm, xA, xc, xms⟩ := x
    dsimp only at *
    unfold maxLen at hml
    go_enter Tryz.func51, Tryz.ntmps51
    go_wp2_with fail
    generalize World.alloc (World.alloc (World.alloc w _) _) _ = w2 at K0 ⊢
    have c2 : w2.cell? ⟨w.heap.size, 2, none⟩ = some (.slice (some ⟨b, off, none⟩) xs.length ni) := K0.out.cart.cell2
    go_wp2_with fail
    refine (refFind9 _ _ _ nm _ w2 K0.out.ok.items HM.out HZ.out).mono ?_
    rintro e w3 ⟨rfl, rfl⟩
    have m1 := (K0.out.bel.cell (p := ⟨b, off + k * 2 + 1, none⟩) hbl).trans HC1.out
    go_wp2_with fail
    go_loopw [10] (fun i wr => ∃ j : Nat, j ≤ xms.length ∧ i = .int .i64 j ∧ Hid (KMk w ⟨V, nv, vs, L, nl, ls, some ⟨b, off, none⟩, ni, xs⟩ r s wr) ∧ Hid ((xms.take j).find? (fun m => decide (dotM m = (r, s))) = none)) (fun i _ => xms.length - (intOf i).toNat)
    case atStart => exact ⟨0, by omega, rfl, K0, show Hid _ from rfl⟩
    case round =>
      obtain ⟨j, hj, rfl, hK, hs⟩ := hrel
      clear c2 m1
      by_cases hlt : j < xms.length
      · have i1 : (j : Int) < (xms.length : Int) := by omega
        obtain ⟨g, of2, y, hA, hbl2, hy, _, d0, d1, d2, d3⟩ := (HOK.out.below hK.out.bel).1.mark (j := j) hlt
        obtain ⟨n0, n1, hld⟩ := hK.out.dots
        obtain rfl : xA = some ⟨g, of2, none⟩ := hA
        have p0 := fun p => cell_far (p := p) hbl2 d0
        have p1 := fun p => cell_far (p := p) hbl2 d1
        have p2 := fun p => cell_far (p := p) hbl2 d2
        have p3 := fun p => cell_far (p := p) hbl2 d3
        have q0 := fun p => cell_far (p := p) hld n0
        have q1 := fun p => cell_far (p := p) hld n1
        clear d0 d1 d2 d3 n0 n1
        by_cases hd : dotM y = (r, s)
        · have HF := Lib.hid ((markM_hit hs.out hy hd).symm.trans HO.out)
          obtain ⟨rfl, rfl⟩ : y.r = r ∧ y.c = s := by simpa [dotM] using hd
          clear hy hd
          go_wp2_with fail
          refine wp_region_far (by kernel_rfl) (by kernel_rfl) ?_
          repeat (go_big_quiet_step ((fail)))
          refine wpQuiet_nil ?_
          rintro _ ⟨p, rfl⟩
          have hB := (hK.out.far p).res
          have hbe := (hK.out.far p).bel
          obtain ⟨z0, z1, z2, z3, f0, f1, f2, f3⟩ := hB.zeros
          go_wp2_with fail
          have hS := hB.set y
          have s0 := hS.cell0
          have s1 := hS.cell1
          have s2 := hS.cell2
          have s3 := hS.cell3
          refine bodyPost_ret (v := .tuple #[mkV y, .bool true]) (by simp [results, Tryz.results51, go_sem, s0, s1, s2, s3]) rfl ⟨by rw [← HF.out]; rfl, below_setM hbe (Nat.le_add_right _ 2) y⟩
        · have HF := Lib.hid (markM_step hs.out hy hd)
          have hdd : ∀ w, (binOp .eql 51 (.agg #[.int .i64 y.r, .int .i64 y.c]) (.agg #[.int .i64 r, .int .i64 s])).run Tryz.prog w = .ok (.bool false) w := fun w => by
            rw [eqlDot]
            congr 2
            simpa [dotM] using hd
          clear hy hd
          go_wp2_with fail
          refine wp_region_far (by kernel_rfl) (by kernel_rfl) ?_
          repeat (go_big_quiet_step ((fail)))
          refine wpQuiet_nil ?_
          rintro _ ⟨p, rfl⟩
          go_wp2_with fail
          go_roundw
          case rel => exact ⟨j + 1, by omega, by go_num, hK.out.far p, HF⟩
          case measure => simp [intOf]; omega
      · obtain rfl : j = xms.length := by omega
        have i1 : ¬ (xms.length : Int) < (xms.length : Int) := by omega
        rw [List.take_length] at hs
        have HF := Lib.hid (show (none : Option Mk) = o from hs.out.symm.trans HO.out)
        have hB := hK.out.res
        have hbe := hK.out.bel
        obtain ⟨z0, z1, z2, z3, f0, f1, f2, f3⟩ := hB.zeros
        clear hlt hj hs
        go_wp2_with fail
        obtain ⟨s0, s1, s2, s3⟩ := hB.setZero
        refine bodyPost_ret (v := .tuple #[mkV Mk.zero, .bool false]) (by simp [results, Mk.zero, Tryz.results51, go_sem, s0, s1, s2, s3]) rfl ⟨by rw [← HF.out]; rfl, below_setM hbe (Nat.le_add_right _ 2) Mk.zero⟩
  · rw [hk] at ho
    have HZ := Lib.hid hz
    have HF := Lib.hid (show (none : Option Mk) = o from ho)
    clear hc hm ho hk hz
    go_enter Tryz.func51, Tryz.ntmps51
    go_wp2_with fail
    generalize World.alloc (World.alloc (World.alloc w _) _) _ = w2 at K0 ⊢
    have c2 := K0.out.cart.cell2
    go_wp2_with fail
    refine (refFind9 _ _ _ nm _ w2 K0.out.ok.items HM.out HZ.out).mono ?_
    rintro e w3 ⟨rfl, rfl⟩
    have hB := K0.out.res
    have hbe := K0.out.bel
    obtain ⟨z0, z1, z2, z3, f0, f1, f2, f3⟩ := hB.zeros
    go_wp2_with fail
    obtain ⟨s0, s1, s2, s3⟩ := hB.setZero
    refine bodyPost_ret (v := .tuple #[mkV Mk.zero, .bool false]) (by simp [results, Mk.zero, Tryz.results51, go_sem, s0, s1, s2, s3]) rfl ⟨by rw [← HF.out]; rfl, below_setM hbe (Nat.le_add_right _ 2) Mk.zero⟩

end

end Go.Proofs.YtfjbocipjmpogaaGreat
