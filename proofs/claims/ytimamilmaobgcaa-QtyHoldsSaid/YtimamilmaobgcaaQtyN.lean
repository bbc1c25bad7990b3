/- The law QtyHolds. -/
import Derived.Test.YtimamilmaobgcaaQtyM
import Derived.Deep.CutBlock
namespace Go.Proofs.Ytimamilmaobgcaa
open Go.RowKit

theorem SlAt.take {α : Type} {enc : α → List Value} {k : Nat} {w : World} {A : Option Addr} {xs : List α} (h : SlAt enc k w A xs) (m : Nat) : SlAt enc k w A (xs.take m) := fun hn => by
  obtain ⟨b, off, rfl, hb, hc⟩ := h (by simp at hn; omega)
  refine ⟨b, off, rfl, hb, fun j x hx => hc j x ?_⟩
  rw [List.getElem?_take] at hx
  split at hx
  · exact hx
  · cases hx
theorem SlAt.cutK {α : Type} {enc : α → List Value} {k : Nat} {w : World} {A : Option Addr} {xs : List α} (h : SlAt enc k w A xs) (m : Nat) : SlAt enc k w (A.map fun x => x.add (m * k)) (xs.drop m) := fun hn => by
  obtain ⟨b, off, rfl, hb, hcell⟩ := h (by simp at hn; omega)
  refine ⟨b, off + m * k, by simp [Addr_add], hb, fun j x hx i u hu => ?_⟩
  rw [List.getElem?_drop] at hx
  have := hcell (m + j) x hx i u hu
  rw [Nat.add_mul] at this
  rw [show off + m * k + j * k + i = off + (m * k + j * k) + i by omega]
  exact this
theorem SlAt.cut1 {α : Type} {enc : α → List Value} {w : World} {A : Option Addr} {xs : List α} (h : SlAt enc 1 w A xs) (m : Nat) : SlAt enc 1 w (A.map fun x => x.add m) (xs.drop m) := by
  have := h.cutK m
  rwa [Nat.mul_one] at this

theorem turn_len {α : Type} (l : List α) (k : Nat) : (l.drop k ++ l.take k).length = l.length := by
  rw [List.length_append, List.length_drop, List.length_take]; omega
/-- What holds all along: the three marks, the two lists, and nothing old has changed. -/
structure KH (w : World) (a b c : Mk) (A B : Option Addr) (xs : List Mk) (qs : List Int) (W : World) : Prop where
  a : BlkM W w.heap.size a
  b : BlkM W (w.heap.size + 1) b
  c : BlkM W (w.heap.size + 1 + 1) c
  bel : Below w.heap.size w W
  xs0 : MarksAt w A xs
  qs0 : NumsAt w B qs
section
variable {w W W' : World} {a b c : Mk} {A B : Option Addr} {xs : List Mk} {qs : List Int}
theorem KH.mx (h : KH w a b c A B xs qs W) : MarksAt W A xs := SlAt.below h.xs0 h.bel
theorem KH.nq (h : KH w a b c A B xs qs W) : NumsAt W B qs := SlAt.below h.qs0 h.bel
theorem KH.next (h : KH w a b c A B xs qs W) (hb : Below W.heap.size W W') : KH w a b c A B xs qs W' := ⟨h.a.below hb, h.b.below hb, h.c.below hb, below_trans h.bel hb, h.xs0, h.qs0⟩
theorem KH.alloc (h : KH w a b c A B xs qs W) (o : Obj) : KH w a b c A B xs qs (W.alloc o) := h.next ((Below.refl _ _).alloc (Nat.le_refl _) _)
theorem KH.drew (h : KH w a b c A B xs qs W) : KH w a b c A B xs qs W.drew := h.next (Below.refl _ _).drew
theorem KH.size (h : KH w a b c A B xs qs W) : w.heap.size + 1 + 1 + 1 ≤ W.heap.size := h.c.lt
theorem KH.grown (h : KH w a b c A B xs qs W) {row : Option Nat} (hg : W.grownBy W' row) (hr : ∀ k, row = some k → w.heap.size + 1 + 1 + 1 ≤ k) : KH w a b c A B xs qs W' := by
  have hz := h.size
  have ne : ∀ g, g < w.heap.size + 1 + 1 + 1 → some g ≠ row := fun g hg e => by have := hr g e.symm; omega
  exact ⟨(hg.block _ h.a.lt (ne _ (by omega))).trans h.a, (hg.block _ h.b.lt (ne _ (by omega))).trans h.b, (hg.block _ h.c.lt (ne _ (by omega))).trans h.c, h.bel.grown hg (by omega) (fun k hk => by have := hr k hk; omega), h.xs0, h.qs0⟩
end

/-- The same, and a block with the newest mark. -/
structure KV (w : World) (a b c : Mk) (A B : Option Addr) (xs : List Mk) (qs : List Int) (g : Nat) (v : Mk) (W : World) : Prop where
  kh : KH w a b c A B xs qs W
  blk : BlkM W g v
  far : w.heap.size + 1 + 1 + 1 ≤ g
section
variable {w W W' : World} {a b c v : Mk} {A B : Option Addr} {xs : List Mk} {qs : List Int} {g : Nat}
theorem KV.next (h : KV w a b c A B xs qs g v W) (hb : Below W.heap.size W W') : KV w a b c A B xs qs g v W' := ⟨h.kh.next hb, h.blk.below hb, h.far⟩
theorem KV.alloc (h : KV w a b c A B xs qs g v W) (o : Obj) : KV w a b c A B xs qs g v (W.alloc o) := h.next ((Below.refl _ _).alloc (Nat.le_refl _) _)
theorem KV.drew (h : KV w a b c A B xs qs g v W) : KV w a b c A B xs qs g v W.drew := h.next (Below.refl _ _).drew
theorem KV.size (h : KV w a b c A B xs qs g v W) : g + 1 ≤ W.heap.size := h.blk.lt
theorem KV.grown (h : KV w a b c A B xs qs g v W) {row : Option Nat} (hg : W.grownBy W' row) (hr : ∀ k, row = some k → g + 1 ≤ k) : KV w a b c A B xs qs g v W' := by
  have hf := h.far
  exact ⟨h.kh.grown hg fun k hk => by have := hr k hk; omega, (hg.block _ h.blk.lt (fun e => by have := hr g e.symm; omega)).trans h.blk, h.far⟩
theorem KV.sp (h : KV w a b c A B xs qs g v W) : W.cell? ⟨g, 0, none⟩ = some (.int .i64 v.r) ∧ W.cell? ⟨g, 1, none⟩ = some (.int .i64 v.c) ∧ W.cell? ⟨g, 2, none⟩ = some (.int .i64 v.q) ∧ W.cell? ⟨g, 3, none⟩ = some (.int .u64 (v.t : Int)) ∧ g < W.heap.size ∧ KV w a b c A B xs qs g v W :=
  ⟨h.blk.cell0, h.blk.cell1, h.blk.cell2, h.blk.cell3, h.blk.lt, h⟩
end

set_option maxRecDepth 100000 in
set_option maxHeartbeats 8000000 in
theorem lawHolds8 (xs : List Mk) (A : Option Addr) (cA : Nat) (a b c : Mk) (qs : List Int) (B : Option Addr) (cB : Nat) (m : Nat) (w : World) (hx : MarksAt w A xs) (hq : NumsAt w B qs)
    (hxc : xs.length ≤ cA) (hxm : cA ≤ maxLen) (hqc : qs.length ≤ cB) (hqm : cB ≤ maxLen) (ht : ∀ m ∈ xs, m.t < 18446744073709551616) (hm : m < 256) :
    Calls Try.prog 7 #[.slice A xs.length cA, mkV a, mkV b, mkV c, .slice B qs.length cB, .int .u8 (m : Int)] w (TrueB w) := by
  obtain ⟨tm0, him0, hzm0, hzm1, hzm2⟩ := info_parts infoM
  obtain ⟨tz0, hiz0, hzz0, hzz1, hzz2⟩ := info_parts infoZ
  have hxm0 : xs.length ≤ maxLen := Nat.le_trans hxc hxm
  have hqm0 : qs.length ≤ maxLen := Nat.le_trans hqc hqm
  unfold maxLen at hxm hqm
  obtain ⟨r, d, q, t⟩ := a
  obtain ⟨r', d', q', t'⟩ := b
  obtain ⟨r2, d2, q2, t2⟩ := c
  have K3 := Lib.hid (show KH w ⟨r, d, q, t⟩ ⟨r', d', q', t'⟩ ⟨r2, d2, q2, t2⟩ A B xs qs (((w.alloc (.cells #[.int .i64 r, .int .i64 d, .int .i64 q, .int .u64 (t : Int)] 26)).alloc (.cells #[.int .i64 r', .int .i64 d', .int .i64 q', .int .u64 (t' : Int)] 26)).alloc (.cells #[.int .i64 r2, .int .i64 d2, .int .i64 q2, .int .u64 (t2 : Int)] 26)) from by
    have s1 : (w.alloc (.cells #[.int .i64 r, .int .i64 d, .int .i64 q, .int .u64 (t : Int)] 26)).heap.size = w.heap.size + 1 := by simp
    have s2 : ((w.alloc (.cells #[.int .i64 r, .int .i64 d, .int .i64 q, .int .u64 (t : Int)] 26)).alloc (.cells #[.int .i64 r', .int .i64 d', .int .i64 q', .int .u64 (t' : Int)] 26)).heap.size = w.heap.size + 1 + 1 := by simp
    have p1 := BlkM.new w ⟨r, d, q, t⟩
    have p2 := BlkM.new (w.alloc (.cells #[.int .i64 r, .int .i64 d, .int .i64 q, .int .u64 (t : Int)] 26)) ⟨r', d', q', t'⟩
    have p3 := BlkM.new ((w.alloc (.cells #[.int .i64 r, .int .i64 d, .int .i64 q, .int .u64 (t : Int)] 26)).alloc (.cells #[.int .i64 r', .int .i64 d', .int .i64 q', .int .u64 (t' : Int)] 26)) ⟨r2, d2, q2, t2⟩
    rw [s1] at p2
    rw [s2] at p3
    have l1 := (Below.refl _ w).alloc (Nat.le_refl _) (.cells #[.int .i64 r, .int .i64 d, .int .i64 q, .int .u64 (t : Int)] 26)
    have l2 := (Below.refl _ (w.alloc (.cells #[.int .i64 r, .int .i64 d, .int .i64 q, .int .u64 (t : Int)] 26))).alloc (Nat.le_refl _) (.cells #[.int .i64 r', .int .i64 d', .int .i64 q', .int .u64 (t' : Int)] 26)
    have l3 := (Below.refl _ ((w.alloc (.cells #[.int .i64 r, .int .i64 d, .int .i64 q, .int .u64 (t : Int)] 26)).alloc (.cells #[.int .i64 r', .int .i64 d', .int .i64 q', .int .u64 (t' : Int)] 26))).alloc (Nat.le_refl _) (.cells #[.int .i64 r2, .int .i64 d2, .int .i64 q2, .int .u64 (t2 : Int)] 26)
    have l := below_trans (below_trans l1 l2) l3
    exact ⟨(p1.below l2).below l3, p2.below l3, p3, l, hx, hq⟩)
  clear hx hq
  by_cases h1 : 40 < xs.length
  · have i0 : (40 : Int) < (xs.length : Int) := by omega
    go_enter Try.func7, Try.ntmps7
    go_wp2_with fail
    refine (known8 _).mono ?_
    rintro e w1 ⟨rfl, hb⟩
    have HB := Lib.hid (below_trans K3.out.bel hb)
    clear hb
    go_wp2_with fail
    go_ret
    exact ⟨rfl, HB.out⟩
  · have i0 : ¬ (40 : Int) < (xs.length : Int) := by omega
    by_cases h2 : 40 < qs.length
    · have i1 : (40 : Int) < (qs.length : Int) := by omega
      go_enter Try.func7, Try.ntmps7
      go_wp2_with fail
      refine (known8 _).mono ?_
      rintro e w1 ⟨rfl, hb⟩
      have HB := Lib.hid (below_trans K3.out.bel hb)
      clear hb
      go_wp2_with fail
      go_ret
      exact ⟨rfl, HB.out⟩
    · have i1 : ¬ (40 : Int) < (qs.length : Int) := by omega
      have hx40 : xs.length ≤ 40 := by omega
      have hq40 : qs.length ≤ 40 := by omega
      clear h1 h2
      obtain ⟨x, hxv⟩ : ∃ x, cmpN ⟨r, d, q, t⟩ ⟨r', d', q', t'⟩ = x := ⟨_, rfl⟩
      obtain ⟨y, hyv⟩ : ∃ y, cmpN ⟨r', d', q', t'⟩ ⟨r2, d2, q2, t2⟩ = y := ⟨_, rfl⟩
      obtain ⟨z, hzv⟩ : ∃ z, cmpN ⟨r, d, q, t⟩ ⟨r2, d2, q2, t2⟩ = z := ⟨_, rfl⟩
      have C1 := Lib.hid fun W => qtyCompare ⟨r, d, q, t⟩ ⟨r', d', q', t'⟩ W
      have C2 := Lib.hid fun W => qtyCompare ⟨r', d', q', t'⟩ ⟨r2, d2, q2, t2⟩ W
      have C3 := Lib.hid fun W => qtyCompare ⟨r, d, q, t⟩ ⟨r2, d2, q2, t2⟩ W
      have C4 := Lib.hid fun W => qtyCompare ⟨r', d', q', t'⟩ ⟨r, d, q, t⟩ W
      have HX0 := Lib.hid (cmpN_cases ⟨r, d, q, t⟩ ⟨r', d', q', t'⟩)
      have HXE := Lib.hid (cmpN_zero ⟨r, d, q, t⟩ ⟨r', d', q', t'⟩)
      have HXS := Lib.hid (cmpN_swap ⟨r, d, q, t⟩ ⟨r', d', q', t'⟩)
      have HTN := Lib.hid (@cmpN_trans_neg ⟨r, d, q, t⟩ ⟨r', d', q', t'⟩ ⟨r2, d2, q2, t2⟩)
      have HTP := Lib.hid (@cmpN_trans_pos ⟨r, d, q, t⟩ ⟨r', d', q', t'⟩ ⟨r2, d2, q2, t2⟩)
      rw [HXS.out] at C4
      rw [hxv] at C1 C4 HX0 HXE HTN HTP
      rw [hyv] at C2 HTN HTP
      rw [hzv] at C3 HTN HTP
      clear hxv hyv hzv HXS
      go_enter Try.func7, Try.ntmps7
      go_wp2_with fail
      generalize World.alloc (World.alloc (World.alloc w _) _) _ = w3 at K3 ⊢
      have la := K3.out.a.lt
      have lb := K3.out.b.lt
      have lc := K3.out.c.lt
      have a0 := fun p => cell_far (p := p) la K3.out.a.cell0
      have a1 := fun p => cell_far (p := p) la K3.out.a.cell1
      have a2 := fun p => cell_far (p := p) la K3.out.a.cell2
      have a3 := fun p => cell_far (p := p) la K3.out.a.cell3
      have b0 := fun p => cell_far (p := p) lb K3.out.b.cell0
      have b1 := fun p => cell_far (p := p) lb K3.out.b.cell1
      have b2 := fun p => cell_far (p := p) lb K3.out.b.cell2
      have b3 := fun p => cell_far (p := p) lb K3.out.b.cell3
      have c0 := fun p => cell_far (p := p) lc K3.out.c.cell0
      have c1 := fun p => cell_far (p := p) lc K3.out.c.cell1
      have c2 := fun p => cell_far (p := p) lc K3.out.c.cell2
      have c3 := fun p => cell_far (p := p) lc K3.out.c.cell3
      refine wp_region_far (by kernel_rfl) (by kernel_rfl) ?_
      repeat (go_big_quiet_step ((go_at_call 15; with_reducible first | exact OneB.far (C1.out _) | exact OneB.far (C2.out _) | exact OneB.far (C3.out _))))
      refine wpQuiet_nil ?_
      rintro _ ⟨p, rfl⟩
      have K4 := Lib.hid (K3.out.next (below_far w3 p))
      clear a0 a1 a2 a3 b0 b1 b2 b3 c0 c1 c2 c3 la lb lc K3 C1 C2 C3
      generalize far w3 p = w4 at K4 ⊢
      go_upto_region 4 with fail
      go_cut [81] (fun s81 wx => s81 = .bool false ∧ Hid (KH w ⟨r, d, q, t⟩ ⟨r', d', q', t'⟩ ⟨r2, d2, q2, t2⟩ A B xs qs wx))
      case first =>
        rcases HX0.out with h | h | h
        · subst h
          have hne : ¬ (⟨r, d, q, t⟩ : Mk) = ⟨r', d', q', t'⟩ := fun h => by have := HXE.out.2 h; omega
          by_cases hy : 0 < y
          · have hz : 0 < z := HTP.out (by decide) hy
            have hz2 : ¬ z ≤ 0 := by omega
            have hy2 : ¬ y < 0 := by omega
            have la := K4.out.a.lt
            have lb := K4.out.b.lt
            by_cases h1 : r = r'
            · subst h1
              by_cases h2 : d = d'
              · subst h2
                by_cases h3 : q = q'
                · subst h3
                  have h4 : ¬ (t : Int) = (t' : Int) := fun h => hne (by rw [Int.natCast_inj] at h; rw [h])
                  clear hne
                  have a0 := K4.out.a.cell0
                  have a1 := K4.out.a.cell1
                  have a2 := K4.out.a.cell2
                  have a3 := K4.out.a.cell3
                  have b0 := K4.out.b.cell0
                  have b1 := K4.out.b.cell1
                  have b2 := K4.out.b.cell2
                  have b3 := K4.out.b.cell3
                  go_wp2_with fail
                  refine (C4.out _).mono ?_
                  rintro e w5 ⟨rfl, hb⟩
                  have K5 := Lib.hid (K4.out.next hb)
                  clear hb
                  go_wp2_with fail
                  go_meet
                  exact ⟨rfl, K5⟩
                · clear hne
                  have a0 := K4.out.a.cell0
                  have a1 := K4.out.a.cell1
                  have a2 := K4.out.a.cell2
                  have a3 := K4.out.a.cell3
                  have b0 := K4.out.b.cell0
                  have b1 := K4.out.b.cell1
                  have b2 := K4.out.b.cell2
                  have b3 := K4.out.b.cell3
                  go_wp2_with fail
                  refine (C4.out _).mono ?_
                  rintro e w5 ⟨rfl, hb⟩
                  have K5 := Lib.hid (K4.out.next hb)
                  clear hb
                  go_wp2_with fail
                  go_meet
                  exact ⟨rfl, K5⟩
              · clear hne
                have a0 := K4.out.a.cell0
                have a1 := K4.out.a.cell1
                have a2 := K4.out.a.cell2
                have a3 := K4.out.a.cell3
                have b0 := K4.out.b.cell0
                have b1 := K4.out.b.cell1
                have b2 := K4.out.b.cell2
                have b3 := K4.out.b.cell3
                go_wp2_with fail
                refine (C4.out _).mono ?_
                rintro e w5 ⟨rfl, hb⟩
                have K5 := Lib.hid (K4.out.next hb)
                clear hb
                go_wp2_with fail
                go_meet
                exact ⟨rfl, K5⟩
            · clear hne
              have a0 := K4.out.a.cell0
              have a1 := K4.out.a.cell1
              have a2 := K4.out.a.cell2
              have a3 := K4.out.a.cell3
              have b0 := K4.out.b.cell0
              have b1 := K4.out.b.cell1
              have b2 := K4.out.b.cell2
              have b3 := K4.out.b.cell3
              go_wp2_with fail
              refine (C4.out _).mono ?_
              rintro e w5 ⟨rfl, hb⟩
              have K5 := Lib.hid (K4.out.next hb)
              clear hb
              go_wp2_with fail
              go_meet
              exact ⟨rfl, K5⟩
          · have hy2 : y ≤ 0 := by omega
            have la := K4.out.a.lt
            have lb := K4.out.b.lt
            by_cases h1 : r = r'
            · subst h1
              by_cases h2 : d = d'
              · subst h2
                by_cases h3 : q = q'
                · subst h3
                  have h4 : ¬ (t : Int) = (t' : Int) := fun h => hne (by rw [Int.natCast_inj] at h; rw [h])
                  clear hne
                  have a0 := K4.out.a.cell0
                  have a1 := K4.out.a.cell1
                  have a2 := K4.out.a.cell2
                  have a3 := K4.out.a.cell3
                  have b0 := K4.out.b.cell0
                  have b1 := K4.out.b.cell1
                  have b2 := K4.out.b.cell2
                  have b3 := K4.out.b.cell3
                  go_wp2_with fail
                  refine (C4.out _).mono ?_
                  rintro e w5 ⟨rfl, hb⟩
                  have K5 := Lib.hid (K4.out.next hb)
                  clear hb
                  go_wp2_with fail
                  go_meet
                  exact ⟨rfl, K5⟩
                · clear hne
                  have a0 := K4.out.a.cell0
                  have a1 := K4.out.a.cell1
                  have a2 := K4.out.a.cell2
                  have a3 := K4.out.a.cell3
                  have b0 := K4.out.b.cell0
                  have b1 := K4.out.b.cell1
                  have b2 := K4.out.b.cell2
                  have b3 := K4.out.b.cell3
                  go_wp2_with fail
                  refine (C4.out _).mono ?_
                  rintro e w5 ⟨rfl, hb⟩
                  have K5 := Lib.hid (K4.out.next hb)
                  clear hb
                  go_wp2_with fail
                  go_meet
                  exact ⟨rfl, K5⟩
              · clear hne
                have a0 := K4.out.a.cell0
                have a1 := K4.out.a.cell1
                have a2 := K4.out.a.cell2
                have a3 := K4.out.a.cell3
                have b0 := K4.out.b.cell0
                have b1 := K4.out.b.cell1
                have b2 := K4.out.b.cell2
                have b3 := K4.out.b.cell3
                go_wp2_with fail
                refine (C4.out _).mono ?_
                rintro e w5 ⟨rfl, hb⟩
                have K5 := Lib.hid (K4.out.next hb)
                clear hb
                go_wp2_with fail
                go_meet
                exact ⟨rfl, K5⟩
            · clear hne
              have a0 := K4.out.a.cell0
              have a1 := K4.out.a.cell1
              have a2 := K4.out.a.cell2
              have a3 := K4.out.a.cell3
              have b0 := K4.out.b.cell0
              have b1 := K4.out.b.cell1
              have b2 := K4.out.b.cell2
              have b3 := K4.out.b.cell3
              go_wp2_with fail
              refine (C4.out _).mono ?_
              rintro e w5 ⟨rfl, hb⟩
              have K5 := Lib.hid (K4.out.next hb)
              clear hb
              go_wp2_with fail
              go_meet
              exact ⟨rfl, K5⟩
        · subst h
          have hne : ¬ (⟨r, d, q, t⟩ : Mk) = ⟨r', d', q', t'⟩ := fun h => by have := HXE.out.2 h; omega
          by_cases hy : y < 0
          · have hz : z < 0 := HTN.out (by decide) hy
            have hz2 : ¬ 0 ≤ z := by omega
            have la := K4.out.a.lt
            have lb := K4.out.b.lt
            by_cases h1 : r = r'
            · subst h1
              by_cases h2 : d = d'
              · subst h2
                by_cases h3 : q = q'
                · subst h3
                  have h4 : ¬ (t : Int) = (t' : Int) := fun h => hne (by rw [Int.natCast_inj] at h; rw [h])
                  clear hne
                  have a0 := K4.out.a.cell0
                  have a1 := K4.out.a.cell1
                  have a2 := K4.out.a.cell2
                  have a3 := K4.out.a.cell3
                  have b0 := K4.out.b.cell0
                  have b1 := K4.out.b.cell1
                  have b2 := K4.out.b.cell2
                  have b3 := K4.out.b.cell3
                  go_wp2_with fail
                  refine (C4.out _).mono ?_
                  rintro e w5 ⟨rfl, hb⟩
                  have K5 := Lib.hid (K4.out.next hb)
                  clear hb
                  go_wp2_with fail
                  go_meet
                  exact ⟨rfl, K5⟩
                · clear hne
                  have a0 := K4.out.a.cell0
                  have a1 := K4.out.a.cell1
                  have a2 := K4.out.a.cell2
                  have a3 := K4.out.a.cell3
                  have b0 := K4.out.b.cell0
                  have b1 := K4.out.b.cell1
                  have b2 := K4.out.b.cell2
                  have b3 := K4.out.b.cell3
                  go_wp2_with fail
                  refine (C4.out _).mono ?_
                  rintro e w5 ⟨rfl, hb⟩
                  have K5 := Lib.hid (K4.out.next hb)
                  clear hb
                  go_wp2_with fail
                  go_meet
                  exact ⟨rfl, K5⟩
              · clear hne
                have a0 := K4.out.a.cell0
                have a1 := K4.out.a.cell1
                have a2 := K4.out.a.cell2
                have a3 := K4.out.a.cell3
                have b0 := K4.out.b.cell0
                have b1 := K4.out.b.cell1
                have b2 := K4.out.b.cell2
                have b3 := K4.out.b.cell3
                go_wp2_with fail
                refine (C4.out _).mono ?_
                rintro e w5 ⟨rfl, hb⟩
                have K5 := Lib.hid (K4.out.next hb)
                clear hb
                go_wp2_with fail
                go_meet
                exact ⟨rfl, K5⟩
            · clear hne
              have a0 := K4.out.a.cell0
              have a1 := K4.out.a.cell1
              have a2 := K4.out.a.cell2
              have a3 := K4.out.a.cell3
              have b0 := K4.out.b.cell0
              have b1 := K4.out.b.cell1
              have b2 := K4.out.b.cell2
              have b3 := K4.out.b.cell3
              go_wp2_with fail
              refine (C4.out _).mono ?_
              rintro e w5 ⟨rfl, hb⟩
              have K5 := Lib.hid (K4.out.next hb)
              clear hb
              go_wp2_with fail
              go_meet
              exact ⟨rfl, K5⟩
          · have hy2 : 0 ≤ y := by omega
            have la := K4.out.a.lt
            have lb := K4.out.b.lt
            by_cases h1 : r = r'
            · subst h1
              by_cases h2 : d = d'
              · subst h2
                by_cases h3 : q = q'
                · subst h3
                  have h4 : ¬ (t : Int) = (t' : Int) := fun h => hne (by rw [Int.natCast_inj] at h; rw [h])
                  clear hne
                  have a0 := K4.out.a.cell0
                  have a1 := K4.out.a.cell1
                  have a2 := K4.out.a.cell2
                  have a3 := K4.out.a.cell3
                  have b0 := K4.out.b.cell0
                  have b1 := K4.out.b.cell1
                  have b2 := K4.out.b.cell2
                  have b3 := K4.out.b.cell3
                  go_wp2_with fail
                  refine (C4.out _).mono ?_
                  rintro e w5 ⟨rfl, hb⟩
                  have K5 := Lib.hid (K4.out.next hb)
                  clear hb
                  go_wp2_with fail
                  go_meet
                  exact ⟨rfl, K5⟩
                · clear hne
                  have a0 := K4.out.a.cell0
                  have a1 := K4.out.a.cell1
                  have a2 := K4.out.a.cell2
                  have a3 := K4.out.a.cell3
                  have b0 := K4.out.b.cell0
                  have b1 := K4.out.b.cell1
                  have b2 := K4.out.b.cell2
                  have b3 := K4.out.b.cell3
                  go_wp2_with fail
                  refine (C4.out _).mono ?_
                  rintro e w5 ⟨rfl, hb⟩
                  have K5 := Lib.hid (K4.out.next hb)
                  clear hb
                  go_wp2_with fail
                  go_meet
                  exact ⟨rfl, K5⟩
              · clear hne
                have a0 := K4.out.a.cell0
                have a1 := K4.out.a.cell1
                have a2 := K4.out.a.cell2
                have a3 := K4.out.a.cell3
                have b0 := K4.out.b.cell0
                have b1 := K4.out.b.cell1
                have b2 := K4.out.b.cell2
                have b3 := K4.out.b.cell3
                go_wp2_with fail
                refine (C4.out _).mono ?_
                rintro e w5 ⟨rfl, hb⟩
                have K5 := Lib.hid (K4.out.next hb)
                clear hb
                go_wp2_with fail
                go_meet
                exact ⟨rfl, K5⟩
            · clear hne
              have a0 := K4.out.a.cell0
              have a1 := K4.out.a.cell1
              have a2 := K4.out.a.cell2
              have a3 := K4.out.a.cell3
              have b0 := K4.out.b.cell0
              have b1 := K4.out.b.cell1
              have b2 := K4.out.b.cell2
              have b3 := K4.out.b.cell3
              go_wp2_with fail
              refine (C4.out _).mono ?_
              rintro e w5 ⟨rfl, hb⟩
              have K5 := Lib.hid (K4.out.next hb)
              clear hb
              go_wp2_with fail
              go_meet
              exact ⟨rfl, K5⟩
        · subst h
          have he := HXE.out.1 rfl
          have hl := he
          injection hl with e1 e2 e3 e4
          subst e1 e2 e3 e4
          have la := K4.out.a.lt
          have lb := K4.out.b.lt
          have a0 := K4.out.a.cell0
          have a1 := K4.out.a.cell1
          have a2 := K4.out.a.cell2
          have a3 := K4.out.a.cell3
          have b0 := K4.out.b.cell0
          have b1 := K4.out.b.cell1
          have b2 := K4.out.b.cell2
          have b3 := K4.out.b.cell3
          go_wp2_with fail
          refine (C4.out _).mono ?_
          rintro e w5 ⟨rfl, hb⟩
          have K5 := Lib.hid (K4.out.next hb)
          clear hb
          go_wp2_with fail
          go_meet
          exact ⟨rfl, K5⟩
      case rest =>
        obtain ⟨rfl, K5⟩ := hcut
        clear K4 C4 HX0 HXE HTN HTP
        go_upto_if 84 with fail
        go_cut [16, 17, 18] (fun _ _ _ wx => Hid (KH w ⟨r, d, q, t⟩ ⟨r', d', q', t'⟩ ⟨r2, d2, q2, t2⟩ A B xs qs wx))
        case first =>
          by_cases h0 : qs.length = 0
          · have i2 : ¬ (0 : Int) < (qs.length : Int) := by omega
            clear h0
            go_wp2_with fail
            go_meet
            exact K5
          · have i2 : (0 : Int) < (qs.length : Int) := by omega
            obtain ⟨k, hk⟩ : ∃ k, m % qs.length = k := ⟨_, rfl⟩
            have hkl : k < qs.length := by rw [← hk]; exact Nat.mod_lt _ (by omega)
            have i3 : (m : Int).tmod (qs.length : Int) = (k : Int) := by rw [Int.tmod_eq_emod_of_nonneg (Int.natCast_nonneg m), ← hk]; rfl
            have i4 : ((qs.length : Int) == 0) = false := eqF (by omega)
            obtain ⟨s, n, hs⟩ : ∃ s n, sumV qs = (s, n) := ⟨_, _, rfl⟩
            have HS := Lib.hid fun W (h : NumsAt W B qs) => qtySum B qs cB s n W h hqm0 hs
            have HT := Lib.hid (show ∀ W D e, NumsAt W D (qs.drop k ++ qs.take k) → Calls Try.prog 14 #[.slice D qs.length e, .int .i64 s, .int .i64 (n : Int)] W (One (.bool true) W) from fun W D e h => by have h2 := lawSums D (qs.drop k ++ qs.take k) e s n W h (by rw [turn_len]; exact hqm0) (by rw [sumV_turn]; exact hs); rw [turn_len] at h2; exact h2)
            have HQ := Lib.hid (show n = 0 → ∀ W, Calls Try.prog 10 #[.int .i64 s] W (One (.bool true) W) from fun h W => by subst h; have h2 := qtyValid s W; rw [sumV_qty hs] at h2; exact h2)
            clear hk h0
            go_wp2_with fail
            refine (HS.out _ K5.out.nq).mono ?_
            rintro e w6 ⟨rfl, rfl⟩
            go_upto_region 9 with fail
            go_cut [115] (fun s115 wx => s115 = .bool false ∧ Hid (KH w ⟨r, d, q, t⟩ ⟨r', d', q', t'⟩ ⟨r2, d2, q2, t2⟩ A B xs qs wx))
            case first =>
              have hk0 : (0 : Int) ≤ (k : Int) := by omega
              have hk1 : (k : Int) ≤ (qs.length : Int) := by omega
              have hk2 : (k : Int) ≤ (cB : Int) := by omega
              have hk3 : ¬ cB = k := by omega
              have hS := K5.out
              have hn : n = 0 ∨ ((n : Int) == 0) = false := by
                by_cases h : n = 0
                · exact .inl h
                · exact .inr (eqF (by omega))
              rcases hn with rfl | hn
              ·
                  go_region_held3 (fun W' => KH w ⟨r, d, q, t⟩ ⟨r', d', q', t'⟩ ⟨r2, d2, q2, t2⟩ A B xs qs W')
                    (first
                      | assumption
                      | (exact KH.drew (by assumption))
                      | (exact KH.alloc (by assumption) _)
                      | (exact KH.drew (KH.alloc (by assumption) _)))
                    (first
                      | (refine step_append_sl (o := ⟨some 98, _, _, _, _, _⟩) _ encZ 1 (by rfl) (.const (.slice none 0 0)) (.tmp 97) 27 (by rfl) encZ_len (by omega) encZ_one (w.heap.size + 1 + 1 + 1) 3 tz0 _ 8 Try.underlying27 hiz0 hzz0 hzz1 hzz2 rfl (.slice none 0 0) [] (by rfl) (World.ownsRow_nil _ _ _ _) _ (qs.length - k) _ (qs.drop k) (by rfl) (by simp) ((KH.nq (by assumption)).cut1 k) (by simp [maxLen]; omega) (by simp; omega) (KH.size (by assumption)) ?_
                         intro v1 w1 hown1 hg1 hat1
                         rw [List.nil_append] at hown1
                         have hS1 := KH.grown (by assumption) hg1 (by simp [Value.ownBlock]))
                      | (refine step_append_sl (o := ⟨some 102, _, _, _, _, _⟩) _ encZ 1 (by rfl) (.tmp 98) (.tmp 101) 27 (by rfl) encZ_len (by omega) encZ_one (w.heap.size + 1 + 1 + 1) 3 tz0 _ 8 Try.underlying27 hiz0 hzz0 hzz1 hzz2 rfl v1 (qs.drop k) (by rfl) hown1 _ k _ (qs.take k) (by rfl) (by simp; omega) ((KH.nq (by assumption)).take k) (by simp [maxLen]; omega) (by simp; omega) (KH.size (by assumption)) ?_
                         intro v2 w2 hown2 hg2 hat2
                         have hS2 := KH.grown (by assumption) hg2 (fun k hk => (hown1.lt k hk).1)
                         obtain ⟨D2, e2, hv2, _, _, hat⟩ := SlAt.of_own encZ_len hown2
                         rw [turn_len] at hv2
                         subst hv2)
                      | (go_at_call 14; refine (HT.out _ D2 e2 hat).mono ?_; rintro e w3 ⟨rfl, rfl⟩)
                      | (go_at_call 10; refine (HQ.out (by first | trivial | rfl) _).mono ?_; rintro e w4 ⟨rfl, rfl⟩))
                  have HS2 := Lib.hid hS2
                  clear hS hS1 hS2
                  go_wp2_with fail
                  go_meet
                  exact ⟨rfl, HS2⟩
              ·
                  refine wp_region_held_drew (S := KH w ⟨r, d, q, t⟩ ⟨r', d', q', t'⟩ ⟨r2, d2, q2, t2⟩ A B xs qs) (by kernel_rfl) ?_ (fun hHeld => ?_)
                  · exact KH.drew hS
                  refine wpAnyH_take (i := 0) (oi := ⟨some 95, _, _, _, _, _⟩) (v := ?_) rfl (by kernel_rfl) (by kernel_rfl) (by kernel_rfl) (fun _ _ _ h => h) (Or.inl ⟨by rfl, ?_⟩) (by assumption) ?_
                  rotate_left 1
                  · intro w hSw
                    (try dsimp only at hSw)
                    go_simp
                    try with_reducible rfl
                  try simp only [Act.put, List.setIfInBounds_toArray, List.set_cons_zero, List.set_cons_succ]
                  refine wpAnyH_take (i := 1) (oi := ⟨some 96, _, _, _, _, _⟩) (v := ?_) rfl (by kernel_rfl) (by kernel_rfl) (by kernel_rfl) (fun _ _ _ h => h) (Or.inl ⟨by rfl, ?_⟩) (by assumption) ?_
                  rotate_left 1
                  · intro w hSw
                    (try dsimp only at hSw)
                    go_simp
                    try with_reducible rfl
                  try simp only [Act.put, List.setIfInBounds_toArray, List.set_cons_zero, List.set_cons_succ]
                  refine wpAnyH_take (i := 2) (oi := ⟨some 97, _, _, _, _, _⟩) (v := ?_) rfl (by kernel_rfl) (by kernel_rfl) (by kernel_rfl) (fun _ _ _ h => h) (Or.inl ⟨by rfl, ?_⟩) (by assumption) ?_
                  rotate_left 1
                  · intro w hSw
                    (try dsimp only at hSw)
                    go_simp
                    try with_reducible rfl
                  try simp only [Act.put, List.setIfInBounds_toArray, List.set_cons_zero, List.set_cons_succ]
                  refine wpAnyH_take (i := 4) (oi := ⟨some 99, _, _, _, _, _⟩) (v := ?_) rfl (by kernel_rfl) (by kernel_rfl) (by kernel_rfl) (fun _ _ _ h => h) (Or.inl ⟨by rfl, ?_⟩) (by assumption) ?_
                  rotate_left 1
                  · intro w hSw
                    (try dsimp only at hSw)
                    go_simp
                    try with_reducible rfl
                  try simp only [Act.put, List.setIfInBounds_toArray, List.set_cons_zero, List.set_cons_succ]
                  refine wpAnyH_take (i := 5) (oi := ⟨some 100, _, _, _, _, _⟩) (v := ?_) rfl (by kernel_rfl) (by kernel_rfl) (by kernel_rfl) (fun _ _ _ h => h) (Or.inl ⟨by rfl, ?_⟩) (by assumption) ?_
                  rotate_left 1
                  · intro w hSw
                    (try dsimp only at hSw)
                    go_simp
                    try with_reducible rfl
                  try simp only [Act.put, List.setIfInBounds_toArray, List.set_cons_zero, List.set_cons_succ]
                  refine wpAnyH_take (i := 6) (oi := ⟨some 101, _, _, _, _, _⟩) (v := ?_) rfl (by kernel_rfl) (by kernel_rfl) (by kernel_rfl) (fun _ _ _ h => h) (Or.inl ⟨by rfl, ?_⟩) (by assumption) ?_
                  rotate_left 1
                  · intro w hSw
                    (try dsimp only at hSw)
                    go_simp
                    try with_reducible rfl
                  try simp only [Act.put, List.setIfInBounds_toArray, List.set_cons_zero, List.set_cons_succ]
                  refine wpAnyH_take (i := 8) (oi := ⟨some 103, _, _, _, _, _⟩) (v := ?_) rfl (by kernel_rfl) (by kernel_rfl) (by kernel_rfl) (fun _ _ _ h => h) (Or.inl ⟨by rfl, ?_⟩) (by assumption) ?_
                  rotate_left 1
                  · intro w hSw
                    (try dsimp only at hSw)
                    go_simp
                    try with_reducible rfl
                  try simp only [Act.put, List.setIfInBounds_toArray, List.set_cons_zero, List.set_cons_succ]
                  refine wpAnyH_take (i := 9) (oi := ⟨some 104, _, _, _, _, _⟩) (v := ?_) rfl (by kernel_rfl) (by kernel_rfl) (by kernel_rfl) (fun _ _ _ h => h) (Or.inl ⟨by rfl, ?_⟩) (by assumption) ?_
                  rotate_left 1
                  · intro w hSw
                    (try dsimp only at hSw)
                    go_simp
                    try with_reducible rfl
                  try simp only [Act.put, List.setIfInBounds_toArray, List.set_cons_zero, List.set_cons_succ]
                  refine wpAnyH_ready (rs := [3]) (by kernel_rfl) (by simp) ?_
                  refine AllReadyH.cons (o := ⟨some 98, _, _, _, _, _⟩) rfl (fun K hK => ?_) AllReadyH.nil
                  refine step_append_sl (o := ⟨some 98, _, _, _, _, _⟩) _ encZ 1 (by rfl) (.const (.slice none 0 0)) (.tmp 97) 27 (by rfl) encZ_len (by omega) encZ_one (w.heap.size + 1 + 1 + 1) 3 tz0 _ 8 Try.underlying27 hiz0 hzz0 hzz1 hzz2 rfl (.slice none 0 0) [] (by rfl) (World.ownsRow_nil _ _ _ _) _ (qs.length - k) _ (qs.drop k) (by rfl) (by simp) ((KH.nq hHeld).cut1 k) (by simp [maxLen]; omega) (by simp; omega) (KH.size hHeld) ?_
                  intro v1 w1 hown1 hg1 hat1
                  rw [List.nil_append] at hown1
                  have hS1 := KH.grown hHeld hg1 (by simp [Value.ownBlock])
                  first
                    | refine hK.out _ _ ?_ (fun hHeld => ?_)
                    | (go_wp2_with fail
                       refine hK.out _ _ ?_ (fun hHeld => ?_))
                  · exact hS1
                  clear hK
                  try simp only [Act.put, List.setIfInBounds_toArray, List.set_cons_zero, List.set_cons_succ]
                  refine wpAnyH_ready (rs := [7]) (by kernel_rfl) (by simp) ?_
                  refine AllReadyH.cons (o := ⟨some 102, _, _, _, _, _⟩) rfl (fun K hK => ?_) AllReadyH.nil
                  refine step_append_sl (o := ⟨some 102, _, _, _, _, _⟩) _ encZ 1 (by rfl) (.tmp 98) (.tmp 101) 27 (by rfl) encZ_len (by omega) encZ_one (w.heap.size + 1 + 1 + 1) 3 tz0 _ 8 Try.underlying27 hiz0 hzz0 hzz1 hzz2 rfl v1 (qs.drop k) (by rfl) hown1 _ k _ (qs.take k) (by rfl) (by simp; omega) ((KH.nq hHeld).take k) (by simp [maxLen]; omega) (by simp; omega) (KH.size hHeld) ?_
                  intro v2 w2 hown2 hg2 hat2
                  have hS2 := KH.grown hHeld hg2 (fun k hk => (hown1.lt k hk).1)
                  obtain ⟨D2, e2, hv2, _, _, hat⟩ := SlAt.of_own encZ_len hown2
                  rw [turn_len] at hv2
                  subst hv2
                  first
                    | refine hK.out _ _ ?_ (fun hHeld => ?_)
                    | (go_wp2_with fail
                       refine hK.out _ _ ?_ (fun hHeld => ?_))
                  · exact hS2
                  clear hK
                  try simp only [Act.put, List.setIfInBounds_toArray, List.set_cons_zero, List.set_cons_succ]
                  refine wpAnyH_ready (rs := [10]) (by kernel_rfl) (by simp) ?_
                  refine AllReadyH.cons (o := ⟨some 105, _, _, _, _, _⟩) rfl (fun K hK => ?_) AllReadyH.nil
                  go_simp
                  refine (HT.out _ D2 e2 hat).mono ?_
                  rintro e w3 ⟨rfl, rfl⟩
                  first
                    | refine hK.out _ _ ?_ (fun hHeld => ?_)
                    | (go_wp2_with fail
                       refine hK.out _ _ ?_ (fun hHeld => ?_))
                  · exact hHeld
                  clear hK
                  try simp only [Act.put, List.setIfInBounds_toArray, List.set_cons_zero, List.set_cons_succ]
                  refine wpAnyH_take (i := 11) (oi := ⟨some 106, _, _, _, _, _⟩) (v := ?_) rfl (by kernel_rfl) (by kernel_rfl) (by kernel_rfl) (fun _ _ _ h => h) (Or.inl ⟨by rfl, ?_⟩) (by assumption) ?_
                  rotate_left 1
                  · intro w hSw
                    (try dsimp only at hSw)
                    go_simp
                    try with_reducible rfl
                  try simp only [Act.put, List.setIfInBounds_toArray, List.set_cons_zero, List.set_cons_succ]
                  refine wpAnyH_take (i := 12) (oi := ⟨some 107, _, _, _, _, _⟩) (v := ?_) rfl (by kernel_rfl) (by kernel_rfl) (by kernel_rfl) (fun _ _ _ h => h) (Or.inl ⟨by rfl, ?_⟩) (by assumption) ?_
                  rotate_left 1
                  · intro w hSw
                    (try dsimp only at hSw)
                    go_simp
                    try with_reducible rfl
                  try simp only [Act.put, List.setIfInBounds_toArray, List.set_cons_zero, List.set_cons_succ]
                  refine wpAnyH_take (i := 13) (oi := ⟨some 108, _, _, _, _, _⟩) (v := ?_) rfl (by kernel_rfl) (by kernel_rfl) (by kernel_rfl) (fun _ _ _ h => h) (Or.inl ⟨by rfl, ?_⟩) (by assumption) ?_
                  rotate_left 1
                  · intro w hSw
                    (try dsimp only at hSw)
                    go_simp
                    try with_reducible rfl
                  try simp only [Act.put, List.setIfInBounds_toArray, List.set_cons_zero, List.set_cons_succ]
                  refine wpAnyH_take (i := 14) (oi := ⟨some 109, _, _, _, _, _⟩) (v := ?_) rfl (by kernel_rfl) (by kernel_rfl) (by kernel_rfl) (fun _ _ _ h => h) (Or.inl ⟨by rfl, ?_⟩) (by assumption) ?_
                  rotate_left 1
                  · intro w hSw
                    (try dsimp only at hSw)
                    go_simp
                    try with_reducible rfl
                  try simp only [Act.put, List.setIfInBounds_toArray, List.set_cons_zero, List.set_cons_succ]
                  refine wpAnyH_take (i := 15) (oi := ⟨some 110, _, _, _, _, _⟩) (v := ?_) rfl (by kernel_rfl) (by kernel_rfl) (by kernel_rfl) (fun _ _ _ h => h) (Or.inl ⟨by rfl, ?_⟩) (by assumption) ?_
                  rotate_left 1
                  · intro w hSw
                    (try dsimp only at hSw)
                    go_simp
                    try with_reducible rfl
                  try simp only [Act.put, List.setIfInBounds_toArray, List.set_cons_zero, List.set_cons_succ]
                  refine wpAnyH_take (i := 16) (oi := ⟨some 111, _, _, _, _, _⟩) (v := undef) rfl (by kernel_rfl) (by kernel_rfl) (by kernel_rfl) (fun _ _ _ h => h) (Or.inr ⟨by rfl, rfl⟩) (by assumption) ?_
                  try simp only [Act.put, List.setIfInBounds_toArray, List.set_cons_zero, List.set_cons_succ]
                  refine wpAnyH_take (i := 17) (oi := ⟨some 112, _, _, _, _, _⟩) (v := undef) rfl (by kernel_rfl) (by kernel_rfl) (by kernel_rfl) (fun _ _ _ h => h) (Or.inr ⟨by rfl, rfl⟩) (by assumption) ?_
                  try simp only [Act.put, List.setIfInBounds_toArray, List.set_cons_zero, List.set_cons_succ]
                  refine wpAnyH_take (i := 18) (oi := ⟨some 113, _, _, _, _, _⟩) (v := undef) rfl (by kernel_rfl) (by kernel_rfl) (by kernel_rfl) (fun _ _ _ h => h) (Or.inr ⟨by rfl, rfl⟩) (by assumption) ?_
                  try simp only [Act.put, List.setIfInBounds_toArray, List.set_cons_zero, List.set_cons_succ]
                  refine wpAnyH_take (i := 19) (oi := ⟨some 114, _, _, _, _, _⟩) (v := ?_) rfl (by kernel_rfl) (by kernel_rfl) (by kernel_rfl) (fun _ _ _ h => h) (Or.inl ⟨by rfl, ?_⟩) (by assumption) ?_
                  rotate_left 1
                  · intro w hSw
                    (try dsimp only at hSw)
                    go_simp
                    try with_reducible rfl
                  try simp only [Act.put, List.setIfInBounds_toArray, List.set_cons_zero, List.set_cons_succ]
                  refine wpAnyH_take (i := 20) (oi := ⟨some 115, _, _, _, _, _⟩) (v := ?_) rfl (by kernel_rfl) (by kernel_rfl) (by kernel_rfl) (fun _ _ _ h => h) (Or.inl ⟨by rfl, ?_⟩) (by assumption) ?_
                  rotate_left 1
                  · intro w hSw
                    (try dsimp only at hSw)
                    go_simp
                    try with_reducible rfl
                  try simp only [Act.put, List.setIfInBounds_toArray, List.set_cons_zero, List.set_cons_succ]
                  refine wpAnyH_done (by kernel_rfl) ?_ _
                  have HS2 := Lib.hid hS2
                  clear hS hS1 hS2
                  go_wp2_with fail
                  go_meet
                  exact ⟨rfl, HS2⟩
            case rest =>
              obtain ⟨rfl, K7⟩ := hcut
              go_wp2_with fail
              go_meet
              exact K7
        case rest =>
          have K8 := hcut
          clear hcut K5 hiz0 hzz0 hzz1 hzz2
          by_cases h0 : xs.length = 0
          · obtain rfl : xs = [] := List.eq_nil_of_length_eq_zero h0
            go_wp2_with fail
            refine (known8 _).mono ?_
            rintro e w9 ⟨rfl, hb⟩
            have HB := Lib.hid (below_trans K8.out.bel hb)
            clear hb
            go_wp2_with fail
            go_ret
            exact ⟨rfl, HB.out⟩
          · obtain ⟨k, hk⟩ : ∃ k, m % xs.length = k := ⟨_, rfl⟩
            have hkl : k < xs.length := by rw [← hk]; exact Nat.mod_lt _ (by omega)
            have i3 : (m : Int).tmod (xs.length : Int) = (k : Int) := by rw [Int.tmod_eq_emod_of_nonneg (Int.natCast_nonneg m), ← hk]; rfl
            have i4 : ((xs.length : Int) == 0) = false := eqF (by omega)
            obtain ⟨v, n, hv⟩ : ∃ v n, newV validM xs = (v, n) := ⟨_, _, rfl⟩
            obtain ⟨T, f, hf⟩ : ∃ T f, nextV validM xs = (T, f) := ⟨_, _, rfl⟩
            have HC := Lib.hid (newV_combos (fun h => h0 (by rw [h]; rfl)) hv hf)
            have HN := Lib.hid fun W (h : MarksAt W A xs) => qtyNewest A xs cA v n W h hxm0 hv
            have HF := Lib.hid fun W (h : MarksAt W A xs) => qtyNext A xs cA T f W h hxm0 ht hf
            have HT := Lib.hid (show ∀ W D e, MarksAt W D (xs.drop k ++ xs.take k) → Calls Try.prog 18 #[.slice D xs.length e, mkV v, .int .i64 (n : Int)] W (TrueB W) from fun W D e h => by have h2 := lawNewest D (xs.drop k ++ xs.take k) e v n W h (by rw [turn_len]; exact hxm0) (by rw [newV_turn]; exact hv); rw [turn_len] at h2; exact h2)
            clear hk h0 hv hf
            go_wp2_with fail
            refine (HN.out _ K8.out.mx).mono ?_
            rintro e w9 ⟨rfl, hb⟩
            have K9 := Lib.hid (K8.out.next hb)
            have KV0 := Lib.hid (show KV w ⟨r, d, q, t⟩ ⟨r', d', q', t'⟩ ⟨r2, d2, q2, t2⟩ A B xs qs w9.heap.size v (w9.alloc (.cells #[.int .i64 v.r, .int .i64 v.c, .int .i64 v.q, .int .u64 (v.t : Int)] 26)) from ⟨K9.out.alloc _, BlkM.new w9 v, K9.out.size⟩)
            clear hb K8
            go_upto_region 15 with fail
            obtain ⟨g, hg⟩ : ∃ g, w9.heap.size = g := ⟨_, rfl⟩
            rw [hg] at KV0 ⊢
            clear K9
            generalize World.alloc w9 _ = w10 at KV0 ⊢
            clear hg
            go_cut [141] (fun s141 wx => s141 = .bool false ∧ Hid (KV w ⟨r, d, q, t⟩ ⟨r', d', q', t'⟩ ⟨r2, d2, q2, t2⟩ A B xs qs g v wx))
            case first =>
              have hk0 : (0 : Int) ≤ (k : Int) := by omega
              have hk1 : (k : Int) ≤ (xs.length : Int) := by omega
              have hk2 : (k : Int) ≤ (cA : Int) := by omega
              have hk3 : ¬ cA = k := by omega
              have hS : KV w ⟨r, d, q, t⟩ ⟨r', d', q', t'⟩ ⟨r2, d2, q2, t2⟩ A B xs qs g v w10 := KV0.out
              have hS' : w10.cell? ⟨g, 0, none⟩ = some (.int .i64 v.r) ∧ w10.cell? ⟨g, 1, none⟩ = some (.int .i64 v.c) ∧ w10.cell? ⟨g, 2, none⟩ = some (.int .i64 v.q) ∧ w10.cell? ⟨g, 3, none⟩ = some (.int .u64 (v.t : Int)) ∧ g < w10.heap.size ∧ KV w ⟨r, d, q, t⟩ ⟨r', d', q', t'⟩ ⟨r2, d2, q2, t2⟩ A B xs qs g v w10 := ⟨hS.blk.cell0, hS.blk.cell1, hS.blk.cell2, hS.blk.cell3, hS.blk.lt, hS⟩
              go_region_held3 (fun W' => W'.cell? ⟨g, 0, none⟩ = some (.int .i64 v.r) ∧ W'.cell? ⟨g, 1, none⟩ = some (.int .i64 v.c) ∧ W'.cell? ⟨g, 2, none⟩ = some (.int .i64 v.q) ∧ W'.cell? ⟨g, 3, none⟩ = some (.int .u64 (v.t : Int)) ∧ g < W'.heap.size ∧ KV w ⟨r, d, q, t⟩ ⟨r', d', q', t'⟩ ⟨r2, d2, q2, t2⟩ A B xs qs g v W')
                (first
                  | assumption
                  | (exact KV.sp (by assumption))
                  | (exact KV.sp (KV.drew (by assumption)))
                  | (exact KV.sp (KV.alloc (by assumption) _))
                  | (exact KV.sp (KV.drew (KV.alloc (by assumption) _))))
                (first
                  | (refine step_append_sl (o := ⟨some 133, _, _, _, _, _⟩) _ encM 4 (by rfl) (.const (.slice none 0 0)) (.tmp 132) 38 (by rfl) encM_len (by omega) encM_one (g + 1) 26 tm0 _ 32 Try.underlying38 him0 hzm0 hzm1 hzm2 rfl (.slice none 0 0) [] (by rfl) (World.ownsRow_nil _ _ _ _) _ (xs.length - k) _ (xs.drop k) (by rfl) (by simp) ((KH.mx (KV.kh (by first | assumption | exact KV.drew (by assumption)))).cutK k) (by simp [maxLen]; omega) (by simp; omega) (KV.size (by first | assumption | exact KV.drew (by assumption))) ?_
                     intro v1 w1 hown1 hg1 hat1
                     rw [List.nil_append] at hown1
                     have hS1 := KV.grown (by first | assumption | exact KV.drew (by assumption)) hg1 (by simp [Value.ownBlock]))
                  | (refine step_append_sl (o := ⟨some 137, _, _, _, _, _⟩) _ encM 4 (by rfl) (.tmp 133) (.tmp 136) 38 (by rfl) encM_len (by omega) encM_one (g + 1) 26 tm0 _ 32 Try.underlying38 him0 hzm0 hzm1 hzm2 rfl v1 (xs.drop k) (by rfl) hown1 _ k _ (xs.take k) (by rfl) (by simp; omega) ((KH.mx (KV.kh (by first | assumption | exact KV.drew (by assumption)))).take k) (by simp [maxLen]; omega) (by simp; omega) (KV.size (by first | assumption | exact KV.drew (by assumption))) ?_
                     intro v2 w2 hown2 hg2 hat2
                     have hS2 := KV.grown (by first | assumption | exact KV.drew (by assumption)) hg2 (fun k hk => (hown1.lt k hk).1)
                     obtain ⟨D2, e2, hv2, _, _, hat⟩ := SlAt.of_own encM_len hown2
                     rw [turn_len] at hv2
                     subst hv2)
                  | (go_at_call 18; refine (HT.out _ D2 e2 hat).mono ?_
                     rintro e w3 ⟨rfl, hb3⟩
                     have hS3 := KV.next (by first | assumption | exact KV.drew (by assumption)) hb3))
              all_goals
                have HS3 := Lib.hid hS3
                clear hS hS' hS1 hS2 hS3
                go_wp2_with fail
                go_meet
                exact ⟨rfl, HS3⟩
            case rest =>
              obtain ⟨rfl, K11⟩ := hcut
              clear KV0 HT HN him0 hzm0 hzm1 hzm2 hkl i3 i4
              go_wp2_with fail
              refine (HF.out _ K11.out.kh.mx).mono ?_
              rintro e w12 ⟨rfl, hb⟩
              have K12 := Lib.hid (K11.out.next hb)
              clear hb K11 HF
              go_wp2_with fail
              go_loopw [25, 149] (fun _ i wr => ∃ j : Nat, j ≤ xs.length ∧ i = .int .i64 j ∧ Hid (KV w ⟨r, d, q, t⟩ ⟨r', d', q', t'⟩ ⟨r2, d2, q2, t2⟩ A B xs qs g v wr)) (fun _ i _ => xs.length - (intOf i).toNat)
              case atStart => exact ⟨0, by omega, rfl, K12⟩
              case round =>
                clear K12
                obtain ⟨j, hj, rfl, KW⟩ := hrel
                by_cases hlt : j < xs.length
                · have i5 : (j : Int) < (xs.length : Int) := by omega
                  obtain ⟨b, off, y, rfl, hbl, hx1, _, hc0, hc1, hc2, hc3⟩ := KW.out.kh.mx.mark (j := j) hlt
                  have hy := List.mem_of_getElem? hx1
                  have HC2 := Lib.hid (show (n = 0 ∧ f = 0 ∧ (¬ 0 < cmpN y v) ∧ cmpN ⟨r, d, q, T⟩ y = 1) ∨ (n = 0 ∧ f = 15 ∧ ¬ 0 < cmpN y v) ∨ (n = 2 ∧ f = 2) from by
                    rcases HC.out with ⟨h1, h2, h3, h4⟩ | ⟨h1, h2, h3⟩ | h
                    · exact .inl ⟨h1, h2, (by have := h3 y hy; omega), h4 y hy r d q⟩
                    · exact .inr (.inl ⟨h1, h2, by have := h3 y hy; omega⟩)
                    · exact .inr (.inr h))
                  have KB := Lib.hid (KW.out.alloc (.cells #[.int .i64 y.r, .int .i64 y.c, .int .i64 y.q, .int .u64 (y.t : Int)] 26))
                  have MB := Lib.hid (BlkM.new wr y)
                  have D1 := Lib.hid fun W => qtyCompare y v W
                  have D2 := Lib.hid fun W => qtyCompare ⟨r, d, q, T⟩ y W
                  have D3 := Lib.hid fun W => lawMark r d q T W
                  clear hx1 hy
                  go_upto_region 21 with fail
                  obtain ⟨g2, hg⟩ : ∃ g, wr.heap.size = g := ⟨_, rfl⟩
                  rw [hg] at MB ⊢
                  clear hc0 hc1 hc2 hc3 hbl KW
                  generalize World.alloc wr _ = w13 at KB MB ⊢
                  clear hg
                  have la := KB.out.kh.a.lt
                  have lv := KB.out.blk.lt
                  have lo := MB.out.lt
                  have a0 := fun p => cell_far (p := p) la KB.out.kh.a.cell0
                  have a1 := fun p => cell_far (p := p) la KB.out.kh.a.cell1
                  have a2 := fun p => cell_far (p := p) la KB.out.kh.a.cell2
                  have a3 := fun p => cell_far (p := p) la KB.out.kh.a.cell3
                  have v0 := fun p => cell_far (p := p) lv KB.out.blk.cell0
                  have v1 := fun p => cell_far (p := p) lv KB.out.blk.cell1
                  have v2 := fun p => cell_far (p := p) lv KB.out.blk.cell2
                  have v3 := fun p => cell_far (p := p) lv KB.out.blk.cell3
                  have o0 := fun p => cell_far (p := p) lo MB.out.cell0
                  have o1 := fun p => cell_far (p := p) lo MB.out.cell1
                  have o2 := fun p => cell_far (p := p) lo MB.out.cell2
                  have o3 := fun p => cell_far (p := p) lo MB.out.cell3
                  obtain ⟨z1, hz1⟩ : ∃ z, cmpN y v = z := ⟨_, rfl⟩
                  obtain ⟨z2, hz2⟩ : ∃ z, cmpN ⟨r, d, q, T⟩ y = z := ⟨_, rfl⟩
                  rw [hz1] at D1 HC2
                  rw [hz2] at D2 HC2
                  clear hz1 hz2
                  rcases HC2.out with ⟨rfl, rfl, h1, rfl⟩ | ⟨rfl, rfl, h1⟩ | ⟨rfl, rfl⟩
                  all_goals
                    clear HC2 HC
                    refine wp_region_far (by kernel_rfl) (by kernel_rfl) ?_
                    repeat (go_big_quiet_step ((first | (go_at_call 15; with_reducible first | exact OneB.far (D1.out _) | exact OneB.far (D2.out _)) | (go_at_call 31; exact OneB.far (D3.out _)))))
                    refine wpQuiet_nil ?_
                    rintro _ ⟨p, rfl⟩
                    have K14 := Lib.hid (KB.out.next (below_far w13 p))
                    clear a0 a1 a2 a3 v0 v1 v2 v3 o0 o1 o2 o3 la lv lo KB MB D1 D2 D3
                    go_wp2_with fail
                    go_roundw
                    case rel => exact ⟨j + 1, by omega, by go_num, K14⟩
                    case measure => simp [intOf]; omega
                · obtain rfl : j = xs.length := by omega
                  have i5 : ¬ (xs.length : Int) < (xs.length : Int) := by omega
                  clear hlt hj
                  go_wp2_with fail
                  refine (known8 _).mono ?_
                  rintro e w15 ⟨rfl, hb⟩
                  have HB := Lib.hid (below_trans KW.out.kh.bel hb)
                  clear hb
                  go_wp2_with fail
                  go_ret
                  exact ⟨rfl, HB.out⟩

end Go.Proofs.Ytimamilmaobgcaa
