/- The chapter's examples of layer 3: known is true. -/
import Derived.Test.YtibnlifdeknicaaCtxA2
import Derived.Test.YtibnlifdeknicaaCtxZ
import Derived.Test.YtibnlifdeknicaaCtxI
import Derived.Deep.CutBlock
namespace Go.Proofs.Ytibnlifdeknicaa
open Go.RowKit

theorem SlAt.blk {α : Type} {enc : α → List Value} {k : Nat} (hk : ∀ x, (enc x).length = k) {w : World} {g : Nat} {xs : List α} {t : TypeId} {fr : Nat × Nat} (h : w.heap[g]? = some (.cells (cellsOf enc xs).toArray t fr)) : SlAt enc k w (some ⟨g, 0, none⟩) xs := fun _ =>
  ⟨g, 0, rfl, (Array.getElem?_eq_some_iff.1 h).1, fun j x hx i u hu => by
    rw [cell_of_row w g _ _ t fr h, Nat.zero_add]
    simpa using cellsOf_at hk xs j x i u hx hu⟩
theorem con_h (k g cap n : Nat) (xs us rs : List (Int × Int)) (w : World) (hx : DotsAt w (some ⟨g, 0, none⟩) xs) (hn : n = 2 * xs.length) (h0 : 0 < xs.length) (hk : k ≤ xs.length) (hm : xs.length ≤ 1000) (hu : xs.take k = us) (hr : xs.drop k = rs) :
    Calls Try.prog 40 #[.int .i64 k, .slice (some ⟨g, 0, none⟩) n cap] w fun e w' => (∃ A c B d, e = .returned (.agg #[.slice A us.length c, .slice B rs.length d]) ∧ HoldsC w' (.agg #[.slice A us.length c, .slice B rs.length d]) us rs) ∧ Below w.heap.size w w' := by
  subst hu; subst hr
  have hg : g < w.heap.size := by
    obtain ⟨b, off, e, h, _⟩ := hx h0
    cases e; exact h
  refine (law3Con k g cap n xs w hx hg hn h0 hk hm).mono ?_
  rintro e w' ⟨⟨v, he, hv⟩, hb⟩
  have hv0 := hv
  obtain ⟨A, c, B, d, rfl, _⟩ := hv
  exact ⟨⟨A, c, B, d, he, hv0⟩, hb⟩
/-- What holds through known: the heap as it lay, the boxes of a context and of the empty one. -/
def KN (w : World) (b1 b2 : Nat) (x y : Value) (W : World) : Prop :=
  W.cell? ⟨b1, 0, none⟩ = some x ∧ W.cell? ⟨b1, 1, none⟩ = some y ∧ W.cell? ⟨b2, 0, none⟩ = some (.slice none 0 0) ∧ W.cell? ⟨b2, 1, none⟩ = some (.slice none 0 0) ∧
  KX w [(⟨b2, 0, none⟩, .slice none 0 0), (⟨b2, 1, none⟩, .slice none 0 0), (⟨b1, 0, none⟩, x), (⟨b1, 1, none⟩, y)] [(x, [(1, 2)]), (y, [(1, 4)])] W
section
variable {w W W' : World} {b1 b2 : Nat} {x y : Value}
theorem KN.of (h : KX w [(⟨b2, 0, none⟩, .slice none 0 0), (⟨b2, 1, none⟩, .slice none 0 0), (⟨b1, 0, none⟩, x), (⟨b1, 1, none⟩, y)] [(x, [(1, 2)]), (y, [(1, 4)])] W) : KN w b1 b2 x y W :=
  ⟨h.cell (by simp), h.cell (by simp), h.cell (by simp), h.cell (by simp), h⟩
theorem KN.below (h : KN w b1 b2 x y W) (hb : Below W.heap.size W W') : KN w b1 b2 x y W' := .of (h.2.2.2.2.below hb)
theorem KN.alloc (h : KN w b1 b2 x y W) (o : Obj) : KN w b1 b2 x y (W.alloc o) := .of (h.2.2.2.2.alloc o)
theorem KN.drew (h : KN w b1 b2 x y W) : KN w b1 b2 x y W.drew := .of h.2.2.2.2.drew
theorem KN.bel (h : KN w b1 b2 x y W) : Below w.heap.size w W := h.2.2.2.2.bel
theorem KN.c (h : KN w b1 b2 x y W) : HoldsC W (.agg #[x, y]) [(1, 2)] [(1, 4)] := HoldsC.mk (h.2.2.2.2.h (by simp)) (h.2.2.2.2.h (by simp))
end
theorem HoldsC.nil (W : World) : HoldsC W (.agg #[.slice none 0 0, .slice none 0 0]) [] [] := HoldsC.mk (Holds.nil _) (Holds.nil _)

theorem heap_alloc_new1 (w : World) (o p : Obj) : ((w.alloc o).alloc p).heap[w.heap.size + 1]? = some p := by
  have h := heap_alloc_new (w.alloc o) p
  rwa [World.size_alloc] at h

theorem join6_0 {G : (Value) → (Value) → (Option Addr) → (Nat) → (Option Addr) → (Nat) → (Option Addr) → (Nat) → World → Prop} (K : World → Prop) {goal : Prop} (leaf : (∀ (v83 : Value) (v85 : Value) (A84 : Option Addr) (c84 : Nat) (A86 : Option Addr) (c86 : Nat) (B86 : Option Addr) (d86 : Nat) (W : World), K W → G v83 v85 A84 c84 A86 c86 B86 d86 W) → goal) (hj : ∀ (v83 : Value) (v85 : Value) (A84 : Option Addr) (c84 : Nat) (A86 : Option Addr) (c86 : Nat) (B86 : Option Addr) (d86 : Nat) (W : World), K W → G v83 v85 A84 c84 A86 c86 B86 d86 W) : goal := leaf hj
theorem join6_1 {G : (Value) → (Value) → (Option Addr) → (Nat) → (Option Addr) → (Nat) → (Option Addr) → (Nat) → World → Prop} (K : World → Prop) {goal : Prop} (leaf : (∀ (v91 : Value) (v93 : Value) (A92 : Option Addr) (c92 : Nat) (A94 : Option Addr) (c94 : Nat) (B94 : Option Addr) (d94 : Nat) (W : World), K W → G v91 v93 A92 c92 A94 c94 B94 d94 W) → goal) (hj : ∀ (v91 : Value) (v93 : Value) (A92 : Option Addr) (c92 : Nat) (A94 : Option Addr) (c94 : Nat) (B94 : Option Addr) (d94 : Nat) (W : World), K W → G v91 v93 A92 c92 A94 c94 B94 d94 W) : goal := leaf hj
theorem join6_2 {G : (Value) → (Value) → (Option Addr) → (Nat) → (Option Addr) → (Nat) → (Option Addr) → (Nat) → (Option Addr) → (Nat) → World → Prop} (K : World → Prop) {goal : Prop} (leaf : (∀ (v100 : Value) (v102 : Value) (A101 : Option Addr) (c101 : Nat) (B101 : Option Addr) (d101 : Nat) (A103 : Option Addr) (c103 : Nat) (B103 : Option Addr) (d103 : Nat) (W : World), K W → G v100 v102 A101 c101 B101 d101 A103 c103 B103 d103 W) → goal) (hj : ∀ (v100 : Value) (v102 : Value) (A101 : Option Addr) (c101 : Nat) (B101 : Option Addr) (d101 : Nat) (A103 : Option Addr) (c103 : Nat) (B103 : Option Addr) (d103 : Nat) (W : World), K W → G v100 v102 A101 c101 B101 d101 A103 c103 B103 d103 W) : goal := leaf hj

theorem miss_h (v : Value) (X : Option Addr) (cx : Nat) (zs : List WD) (ls m out : List (Int × Int)) (w : World) (h : HoldsC w v (zs.map (·.1)) ls) (hx : Holds w (.slice X m.length cx) m) (hm : zs.length + ls.length + m.length ≤ 1000) (ho : missC (zs.map (·.1)) ls m = out) :
    Calls Try.prog 27 #[v, .slice X m.length cx] w fun e w' => (∃ A c, e = .returned (.slice A out.length c) ∧ Holds w' (.slice A out.length c) out) ∧ Below w.heap.size w w' := by
  subst ho
  refine (ctxMissing v X cx zs ls m w h hx hm).mono ?_
  rintro e w' ⟨⟨v', he, hv⟩, hb⟩
  have h0 := hv.holds
  obtain ⟨A, c, rfl, _⟩ := hv.holds
  exact ⟨⟨A, c, he, h0⟩, hb⟩

set_option maxRecDepth 100000 in
set_option maxHeartbeats 16000000 in
theorem known3 (w : World) : Calls Try.prog 10 #[] w fun e w' => e = .returned (.bool true) ∧ Below w.heap.size w w' := by
  go_enter Try.func10, Try.ntmps10
  go_wp2_with fail
  refine (con_h 1 _ _ _ [(1, 2), (1, 4)] [(1, 2)] [(1, 4)] _ (SlAt.blk encD_len (heap_alloc_new _ _)) rfl (by simp) (by simp) (by simp) rfl rfl).mono ?_
  rintro e w1 ⟨⟨A1, c1, B1, d1, rfl, h1⟩, hb1⟩
  have hbw : Below w.heap.size w w1 := below_trans ((Below.refl _ w).alloc (Nat.le_refl _) _) hb1
  obtain ⟨A, c, B, d, e0, h11, h12⟩ := h1
  cases e0
  clear hb1
  go_wp2_with fail
  have K : KN w w1.heap.size (w1.heap.size + 1) (.slice A1 1 c1) (.slice B1 1 d1) ((w1.alloc (.cells #[.slice A1 1 c1, .slice B1 1 d1] 25)).alloc (.cells #[.slice none 0 0, .slice none 0 0] 25)) := by
    have K0 : KX w [] [(.slice A1 1 c1, [(1, 2)]), (.slice B1 1 d1, [(1, 4)])] w1 := ⟨(fun p hp => by cases hp), hbw, fun p hp => by
      rcases List.mem_cons.1 hp with rfl | hp
      · exact h11
      · rcases List.mem_cons.1 hp with rfl | hp
        · exact h12
        · cases hp⟩
    have K2 := (K0.box (.slice A1 1 c1) (.slice B1 1 d1) 25).box (.slice none 0 0) (.slice none 0 0) 25
    simp only [World.size_alloc] at K2
    exact .of K2
  have hnew := heap_alloc_new ((w1.alloc (.cells #[.slice A1 1 c1, .slice B1 1 d1] 25)).alloc (.cells #[.slice none 0 0, .slice none 0 0] 25)) (.cells #[.int .i64 1, .int .i64 2, .int .i64 2, .int .i64 1, .int .i64 1, .int .i64 3, .int .i64 1, .int .i64 5] 3)
  simp only [World.size_alloc] at hnew
  have HNEW := Lib.hid hnew
  clear hnew h11 h12 hbw
  obtain ⟨k0, k1, k2, k3, _⟩ := id K
  refine (con_h 1 _ _ _ [(1, 2), (2, 1), (1, 3), (1, 5)] [(1, 2)] [(2, 1), (1, 3), (1, 5)] _ (SlAt.blk encD_len HNEW.out) rfl (by simp) (by simp) (by simp) rfl rfl).mono ?_
  rintro e w2 ⟨⟨A2, c2, B2, d2, rfl, h2⟩, hb1⟩
  replace K := KN.below (by first | exact K | exact K.alloc _) hb1
  clear k0 k1 k2 k3
  obtain ⟨k0, k1, k2, k3, _⟩ := id K
  clear hb1
  go_wp2_with fail
  refine (con_h 2 _ _ _ [(1, 3), (2, 1), (1, 5)] [(1, 3), (2, 1)] [(1, 5)] _ (SlAt.blk encD_len (heap_alloc_new _ _)) rfl (by simp) (by simp) (by simp) rfl rfl).mono ?_
  rintro e w3 ⟨⟨A3, c3, B3, d3, rfl, h3⟩, hb1⟩
  replace K := KN.below (by first | exact K | exact K.alloc _) hb1
  clear k0 k1 k2 k3
  obtain ⟨k0, k1, k2, k3, _⟩ := id K
  replace h2 := HoldsC.below (by first | exact h2 | exact HoldsC.below h2 ((Below.refl _ _).alloc (Nat.le_refl _) _)) hb1
  clear hb1
  go_wp2_with fail
  refine (law3Compacts _ _ [(1, 2)] [(2, 1), (1, 3), (1, 5)] [(1, 3), (2, 1)] [(1, 5)] 0 true _ h2 h3 (by simp) (by kernel_rfl)).mono ?_
  rintro e w4 ⟨rfl, hb1⟩
  replace K := KN.below (by first | exact K | exact K.alloc _) hb1
  clear k0 k1 k2 k3
  obtain ⟨k0, k1, k2, k3, _⟩ := id K
  clear hb1
  go_wp2_with fail
  clear h2 h3
  refine (con_h 0 _ _ _ [(1, 2), (1, 4)] [] [(1, 2), (1, 4)] _ (SlAt.blk encD_len (heap_alloc_new _ _)) rfl (by simp) (by simp) (by simp) rfl rfl).mono ?_
  rintro e w5 ⟨⟨A5, c5, B5, d5, rfl, h5⟩, hb1⟩
  replace K := KN.below (by first | exact K | exact K.alloc _) hb1
  clear k0 k1 k2 k3
  obtain ⟨k0, k1, k2, k3, _⟩ := id K
  clear hb1
  go_wp2_with fail
  refine (con_h 0 _ _ _ [(1, 2), (1, 4)] [] [(1, 2), (1, 4)] _ (SlAt.blk encD_len (heap_alloc_new _ _)) rfl (by simp) (by simp) (by simp) rfl rfl).mono ?_
  rintro e w6 ⟨⟨A6, c6, B6, d6, rfl, h6⟩, hb1⟩
  replace K := KN.below (by first | exact K | exact K.alloc _) hb1
  clear k0 k1 k2 k3
  obtain ⟨k0, k1, k2, k3, _⟩ := id K
  replace h5 := HoldsC.below (by first | exact h5 | exact HoldsC.below h5 ((Below.refl _ _).alloc (Nat.le_refl _) _)) hb1
  clear hb1
  go_wp2_with fail
  refine (law3Compacts _ _ [] [(1, 2), (1, 4)] [] [(1, 2), (1, 4)] 0 true _ h5 h6 (by simp) (by kernel_rfl)).mono ?_
  rintro e w7 ⟨rfl, hb1⟩
  replace K := KN.below (by first | exact K | exact K.alloc _) hb1
  clear k0 k1 k2 k3
  obtain ⟨k0, k1, k2, k3, _⟩ := id K
  clear hb1
  go_wp2_with fail
  clear h5 h6
  refine (con_h 1 _ _ _ [(1, 5), (1, 3)] [(1, 5)] [(1, 3)] _ (SlAt.blk encD_len (heap_alloc_new _ _)) rfl (by simp) (by simp) (by simp) rfl rfl).mono ?_
  rintro e w8 ⟨⟨A8, c8, B8, d8, rfl, h8⟩, hb1⟩
  replace K := KN.below (by first | exact K | exact K.alloc _) hb1
  clear k0 k1 k2 k3
  obtain ⟨k0, k1, k2, k3, _⟩ := id K
  clear hb1
  go_wp2_with fail
  refine (con_h 1 _ _ _ [(1, 5)] [(1, 5)] [] _ (SlAt.blk encD_len (heap_alloc_new _ _)) rfl (by simp) (by simp) (by simp) rfl rfl).mono ?_
  rintro e w9 ⟨⟨A9, c9, B9, d9, rfl, h9⟩, hb1⟩
  replace K := KN.below (by first | exact K | exact K.alloc _) hb1
  clear k0 k1 k2 k3
  obtain ⟨k0, k1, k2, k3, _⟩ := id K
  replace h8 := HoldsC.below (by first | exact h8 | exact HoldsC.below h8 ((Below.refl _ _).alloc (Nat.le_refl _) _)) hb1
  clear hb1
  go_wp2_with fail
  refine (law3Compacts _ _ [(1, 5)] [(1, 3)] [(1, 5)] [] 0 true _ h8 h9 (by simp) (by kernel_rfl)).mono ?_
  rintro e w10 ⟨rfl, hb1⟩
  replace K := KN.below (by first | exact K | exact K.alloc _) hb1
  clear k0 k1 k2 k3
  obtain ⟨k0, k1, k2, k3, _⟩ := id K
  clear hb1
  go_wp2_with fail
  clear h8 h9
  refine (ctxIsCompact _ [(1, 2)] [(1, 4)] true _ K.c (by simp) (by kernel_rfl)).mono ?_
  rintro e w11 ⟨rfl, hb1⟩
  replace K := KN.below (by first | exact K | exact K.alloc _) hb1
  clear k0 k1 k2 k3
  obtain ⟨k0, k1, k2, k3, _⟩ := id K
  clear hb1
  go_wp2_with fail
  refine (con_h 1 _ _ _ [(1, 2), (1, 3)] [(1, 2)] [(1, 3)] _ (SlAt.blk encD_len (heap_alloc_new _ _)) rfl (by simp) (by simp) (by simp) rfl rfl).mono ?_
  rintro e w12 ⟨⟨A12, c12, B12, d12, rfl, h12⟩, hb1⟩
  replace K := KN.below (by first | exact K | exact K.alloc _) hb1
  clear k0 k1 k2 k3
  obtain ⟨k0, k1, k2, k3, _⟩ := id K
  clear hb1
  go_wp2_with fail
  refine (ctxIsCompact _ [(1, 2)] [(1, 3)] false _ h12 (by simp) (by kernel_rfl)).mono ?_
  rintro e w13 ⟨rfl, hb1⟩
  replace K := KN.below (by first | exact K | exact K.alloc _) hb1
  clear k0 k1 k2 k3
  obtain ⟨k0, k1, k2, k3, _⟩ := id K
  clear hb1
  go_wp2_with fail
  refine (con_h 1 _ _ _ [(1, 2), (1, 4), (1, 3)] [(1, 2)] [(1, 4), (1, 3)] _ (SlAt.blk encD_len (heap_alloc_new _ _)) rfl (by simp) (by simp) (by simp) rfl rfl).mono ?_
  rintro e w14 ⟨⟨A14, c14, B14, d14, rfl, h14⟩, hb1⟩
  replace K := KN.below (by first | exact K | exact K.alloc _) hb1
  clear k0 k1 k2 k3
  obtain ⟨k0, k1, k2, k3, _⟩ := id K
  clear hb1
  go_wp2_with fail
  refine (ctxValid _ [(1, 2)] [(1, 4), (1, 3)] false _ h14 (by kernel_rfl)).mono ?_
  rintro e w15 ⟨rfl, hb1⟩
  replace K := KN.below (by first | exact K | exact K.alloc _) hb1
  clear k0 k1 k2 k3
  obtain ⟨k0, k1, k2, k3, _⟩ := id K
  clear hb1
  go_wp2_with fail
  go_cut [82] (fun b wx => b = .bool false ∧ KN w w1.heap.size (w1.heap.size + 1) (.slice A1 1 c1) (.slice B1 1 d1) wx)
  case first =>
    clear k0 k1 k2 k3
    obtain ⟨k0, k1, k2, k3, kx⟩ := id K
    refine wp_region_held_drew (S := (fun W => W.cell? ⟨w1.heap.size, 0, none⟩ = some (.slice A1 1 c1) ∧ W.cell? ⟨w1.heap.size, 1, none⟩ = some (.slice B1 1 d1) ∧ W.cell? ⟨w1.heap.size + 1, 0, none⟩ = some (.slice none 0 0) ∧ W.cell? ⟨w1.heap.size + 1, 1, none⟩ = some (.slice none 0 0) ∧ KX w [(⟨w1.heap.size + 1, 0, none⟩, .slice none 0 0), (⟨w1.heap.size + 1, 1, none⟩, .slice none 0 0), (⟨w1.heap.size, 0, none⟩, .slice A1 1 c1), (⟨w1.heap.size, 1, none⟩, .slice B1 1 d1)] [(.slice A1 1 c1, [(1, 2)]), (.slice B1 1 d1, [(1, 4)])] W)) (by kernel_rfl) ?_ (fun hHeld => ?_)
    · exact KN.drew K
    clear K k0 k1 k2 k3 kx
    refine wpAnyH_take (i := 0) (v := ?_) rfl (by kernel_rfl) (by kernel_rfl) (by kernel_rfl) (fun _ _ _ h => h) (Or.inl ⟨by rfl, ?_⟩) (by assumption) ?_
    rotate_left 1
    · intro w hSw
      (try dsimp only at hSw)
      go_simp
      try with_reducible rfl
    try simp only [Act.put, List.setIfInBounds_toArray]
    refine wpAnyH_ready (rs := [1]) (by kernel_rfl) (by simp) ?_
    refine AllReadyH.cons rfl (fun K hK => ?_) AllReadyH.nil
    go_simp
    first
      | refine hK.out _ _ ?_ (fun hHeld => ?_)
      | (go_wp2_with fail
         refine hK.out _ _ ?_ (fun hHeld => ?_))
    · show KN w w1.heap.size (w1.heap.size + 1) (.slice A1 1 c1) (.slice B1 1 d1) _
      first | assumption | exact KN.drew (by assumption) | exact KN.alloc (by assumption) _ | exact KN.below (by assumption) (Below.refl _ _)
    clear hK K
    try simp only [Act.put, List.setIfInBounds_toArray, List.set_cons_zero, List.set_cons_succ]
    refine wpAnyH_ready (rs := [2]) (by kernel_rfl) (by simp) ?_
    refine AllReadyH.cons rfl (fun K hK => ?_) AllReadyH.nil
    go_simp
    refine (law3Of _ _ _ [(1, 1)] _ (by first | exact SlAt.blk encD_len (heap_alloc_new _ _) | exact SlAt.blk encD_len ((heap_alloc_old _ _ (by simp)).trans (heap_alloc_new _ _))) (by rfl) (by simp)).mono ?_
    rintro e wx45 ⟨⟨Ax45, cx45, rfl, hvx45⟩, hb1⟩
    have hSx45 := KN.below (show KN w w1.heap.size (w1.heap.size + 1) (.slice A1 1 c1) (.slice B1 1 d1) _ from by assumption) hb1
    have hx45 := hvx45.holds
    obtain ⟨Ax45', cx45', ex45, hatx45, _⟩ := id hx45
    cases ex45
    obtain ⟨bx45, ox45, rx45, qx45, rfl, hltx45, hxx45, ccx45, cdx45⟩ := hatx45.dot (j := 0) (by simp)
    have hpx45 : ((1 : Int), (1 : Int)) = (rx45, qx45) := by simpa using hxx45
    cases hpx45
    have cex45 : wx45.cell? ⟨bx45, ox45, none⟩ = some (.int .i64 1) := by simpa using ccx45
    have cfx45 : wx45.cell? ⟨bx45, ox45 + 1, none⟩ = some (.int .i64 1) := by simpa using cdx45
    clear ccx45 cdx45 hxx45 hatx45
    clear hb1 hvx45
    first
      | refine hK.out _ _ ?_ (fun hHeld => ?_)
      | (go_wp2_with fail
         refine hK.out _ _ ?_ (fun hHeld => ?_))
    · show KN w w1.heap.size (w1.heap.size + 1) (.slice A1 1 c1) (.slice B1 1 d1) _
      first | assumption | exact KN.drew (by assumption) | exact KN.alloc (by assumption) _ | exact KN.below (by assumption) (Below.refl _ _)
    clear hK K
    try simp only [Act.put, List.setIfInBounds_toArray, List.set_cons_zero, List.set_cons_succ]
    refine wpAnyH_ready (rs := [3]) (by kernel_rfl) (by simp) ?_
    refine AllReadyH.cons rfl (fun K hK => ?_) AllReadyH.nil
    go_simp
    first
      | refine hK.out _ _ ?_ (fun hHeld => ?_)
      | (go_wp2_with fail
         refine hK.out _ _ ?_ (fun hHeld => ?_))
    · show KN w w1.heap.size (w1.heap.size + 1) (.slice A1 1 c1) (.slice B1 1 d1) _
      first | assumption | exact KN.drew (by assumption) | exact KN.alloc (by assumption) _ | exact KN.below (by assumption) (Below.refl _ _)
    clear hK K
    try simp only [Act.put, List.setIfInBounds_toArray, List.set_cons_zero, List.set_cons_succ]
    refine wpAnyH_ready (rs := [4]) (by kernel_rfl) (by simp) ?_
    refine AllReadyH.cons rfl (fun K hK => ?_) AllReadyH.nil
    go_simp
    first
      | refine hK.out _ _ ?_ (fun hHeld => ?_)
      | (go_wp2_with fail
         refine hK.out _ _ ?_ (fun hHeld => ?_))
    · show KN w w1.heap.size (w1.heap.size + 1) (.slice A1 1 c1) (.slice B1 1 d1) _
      first | assumption | exact KN.drew (by assumption) | exact KN.alloc (by assumption) _ | exact KN.below (by assumption) (Below.refl _ _)
    clear hK K
    try simp only [Act.put, List.setIfInBounds_toArray, List.set_cons_zero, List.set_cons_succ]
    refine wpAnyH_ready (rs := [5]) (by kernel_rfl) (by simp) ?_
    refine AllReadyH.cons rfl (fun K hK => ?_) AllReadyH.nil
    go_simp
    refine (ctxHas _ [(1, 2)] [(1, 4)] 1 1 true _ (KN.c (show KN w w1.heap.size (w1.heap.size + 1) (.slice A1 1 c1) (.slice B1 1 d1) _ from by assumption)) (by kernel_rfl)).mono ?_
    rintro e wx48 ⟨rfl, hb1⟩
    have hSx48 := KN.below (show KN w w1.heap.size (w1.heap.size + 1) (.slice A1 1 c1) (.slice B1 1 d1) _ from by assumption) hb1
    clear hb1
    first
      | refine hK.out _ _ ?_ (fun hHeld => ?_)
      | (go_wp2_with fail
         refine hK.out _ _ ?_ (fun hHeld => ?_))
    · show KN w w1.heap.size (w1.heap.size + 1) (.slice A1 1 c1) (.slice B1 1 d1) _
      first | assumption | exact KN.drew (by assumption) | exact KN.alloc (by assumption) _ | exact KN.below (by assumption) (Below.refl _ _)
    clear hK K
    try simp only [Act.put, List.setIfInBounds_toArray, List.set_cons_zero, List.set_cons_succ]
    refine wpAnyH_ready (rs := [6]) (by kernel_rfl) (by simp) ?_
    refine AllReadyH.cons rfl (fun K hK => ?_) AllReadyH.nil
    go_simp
    first
      | refine hK.out _ _ ?_ (fun hHeld => ?_)
      | (go_wp2_with fail
         refine hK.out _ _ ?_ (fun hHeld => ?_))
    · show KN w w1.heap.size (w1.heap.size + 1) (.slice A1 1 c1) (.slice B1 1 d1) _
      first | assumption | exact KN.drew (by assumption) | exact KN.alloc (by assumption) _ | exact KN.below (by assumption) (Below.refl _ _)
    clear hK K
    try simp only [Act.put, List.setIfInBounds_toArray, List.set_cons_zero, List.set_cons_succ]
    refine wpAnyH_ready (rs := [7]) (by kernel_rfl) (by simp) ?_
    refine AllReadyH.cons rfl (fun K hK => ?_) AllReadyH.nil
    go_simp
    first
      | refine hK.out _ _ ?_ (fun hHeld => ?_)
      | (go_wp2_with fail
         refine hK.out _ _ ?_ (fun hHeld => ?_))
    · show KN w w1.heap.size (w1.heap.size + 1) (.slice A1 1 c1) (.slice B1 1 d1) _
      first | assumption | exact KN.drew (by assumption) | exact KN.alloc (by assumption) _ | exact KN.below (by assumption) (Below.refl _ _)
    clear hK K
    try simp only [Act.put, List.setIfInBounds_toArray, List.set_cons_zero, List.set_cons_succ]
    refine wpAnyH_take (i := 8) (v := ?_) rfl (by kernel_rfl) (by kernel_rfl) (by kernel_rfl) (fun _ _ _ h => h) (Or.inl ⟨by rfl, ?_⟩) (by assumption) ?_
    rotate_left 1
    · intro w hSw
      (try dsimp only at hSw)
      go_simp
      try with_reducible rfl
    try simp only [Act.put, List.setIfInBounds_toArray]
    refine wpAnyH_ready (rs := [9]) (by kernel_rfl) (by simp) ?_
    refine AllReadyH.cons rfl (fun K hK => ?_) AllReadyH.nil
    go_simp
    first
      | refine hK.out _ _ ?_ (fun hHeld => ?_)
      | (go_wp2_with fail
         refine hK.out _ _ ?_ (fun hHeld => ?_))
    · show KN w w1.heap.size (w1.heap.size + 1) (.slice A1 1 c1) (.slice B1 1 d1) _
      first | assumption | exact KN.drew (by assumption) | exact KN.alloc (by assumption) _ | exact KN.below (by assumption) (Below.refl _ _)
    clear hK K
    try simp only [Act.put, List.setIfInBounds_toArray, List.set_cons_zero, List.set_cons_succ]
    refine wpAnyH_ready (rs := [10]) (by kernel_rfl) (by simp) ?_
    refine AllReadyH.cons rfl (fun K hK => ?_) AllReadyH.nil
    go_simp
    refine (law3Of _ _ _ [(1, 3)] _ (by first | exact SlAt.blk encD_len (heap_alloc_new _ _) | exact SlAt.blk encD_len ((heap_alloc_old _ _ (by simp)).trans (heap_alloc_new _ _))) (by rfl) (by simp)).mono ?_
    rintro e wx53 ⟨⟨Ax53, cx53, rfl, hvx53⟩, hb1⟩
    have hSx53 := KN.below (show KN w w1.heap.size (w1.heap.size + 1) (.slice A1 1 c1) (.slice B1 1 d1) _ from by assumption) hb1
    have hx53 := hvx53.holds
    obtain ⟨Ax53', cx53', ex53, hatx53, _⟩ := id hx53
    cases ex53
    obtain ⟨bx53, ox53, rx53, qx53, rfl, hltx53, hxx53, ccx53, cdx53⟩ := hatx53.dot (j := 0) (by simp)
    have hpx53 : ((1 : Int), (3 : Int)) = (rx53, qx53) := by simpa using hxx53
    cases hpx53
    have cex53 : wx53.cell? ⟨bx53, ox53, none⟩ = some (.int .i64 1) := by simpa using ccx53
    have cfx53 : wx53.cell? ⟨bx53, ox53 + 1, none⟩ = some (.int .i64 3) := by simpa using cdx53
    clear ccx53 cdx53 hxx53 hatx53
    clear hb1 hvx53
    first
      | refine hK.out _ _ ?_ (fun hHeld => ?_)
      | (go_wp2_with fail
         refine hK.out _ _ ?_ (fun hHeld => ?_))
    · show KN w w1.heap.size (w1.heap.size + 1) (.slice A1 1 c1) (.slice B1 1 d1) _
      first | assumption | exact KN.drew (by assumption) | exact KN.alloc (by assumption) _ | exact KN.below (by assumption) (Below.refl _ _)
    clear hK K
    try simp only [Act.put, List.setIfInBounds_toArray, List.set_cons_zero, List.set_cons_succ]
    refine wpAnyH_ready (rs := [11]) (by kernel_rfl) (by simp) ?_
    refine AllReadyH.cons rfl (fun K hK => ?_) AllReadyH.nil
    go_simp
    first
      | refine hK.out _ _ ?_ (fun hHeld => ?_)
      | (go_wp2_with fail
         refine hK.out _ _ ?_ (fun hHeld => ?_))
    · show KN w w1.heap.size (w1.heap.size + 1) (.slice A1 1 c1) (.slice B1 1 d1) _
      first | assumption | exact KN.drew (by assumption) | exact KN.alloc (by assumption) _ | exact KN.below (by assumption) (Below.refl _ _)
    clear hK K
    try simp only [Act.put, List.setIfInBounds_toArray, List.set_cons_zero, List.set_cons_succ]
    refine wpAnyH_ready (rs := [12]) (by kernel_rfl) (by simp) ?_
    refine AllReadyH.cons rfl (fun K hK => ?_) AllReadyH.nil
    go_simp
    first
      | refine hK.out _ _ ?_ (fun hHeld => ?_)
      | (go_wp2_with fail
         refine hK.out _ _ ?_ (fun hHeld => ?_))
    · show KN w w1.heap.size (w1.heap.size + 1) (.slice A1 1 c1) (.slice B1 1 d1) _
      first | assumption | exact KN.drew (by assumption) | exact KN.alloc (by assumption) _ | exact KN.below (by assumption) (Below.refl _ _)
    clear hK K
    try simp only [Act.put, List.setIfInBounds_toArray, List.set_cons_zero, List.set_cons_succ]
    refine wpAnyH_ready (rs := [13]) (by kernel_rfl) (by simp) ?_
    refine AllReadyH.cons rfl (fun K hK => ?_) AllReadyH.nil
    go_simp
    refine (ctxHas _ [(1, 2)] [(1, 4)] 1 3 false _ (KN.c (show KN w w1.heap.size (w1.heap.size + 1) (.slice A1 1 c1) (.slice B1 1 d1) _ from by assumption)) (by kernel_rfl)).mono ?_
    rintro e wx56 ⟨rfl, hb1⟩
    have hSx56 := KN.below (show KN w w1.heap.size (w1.heap.size + 1) (.slice A1 1 c1) (.slice B1 1 d1) _ from by assumption) hb1
    clear hb1
    first
      | refine hK.out _ _ ?_ (fun hHeld => ?_)
      | (go_wp2_with fail
         refine hK.out _ _ ?_ (fun hHeld => ?_))
    · show KN w w1.heap.size (w1.heap.size + 1) (.slice A1 1 c1) (.slice B1 1 d1) _
      first | assumption | exact KN.drew (by assumption) | exact KN.alloc (by assumption) _ | exact KN.below (by assumption) (Below.refl _ _)
    clear hK K
    try simp only [Act.put, List.setIfInBounds_toArray, List.set_cons_zero, List.set_cons_succ]
    refine wpAnyH_ready (rs := [14]) (by kernel_rfl) (by simp) ?_
    refine AllReadyH.cons rfl (fun K hK => ?_) AllReadyH.nil
    go_simp
    first
      | refine hK.out _ _ ?_ (fun hHeld => ?_)
      | (go_wp2_with fail
         refine hK.out _ _ ?_ (fun hHeld => ?_))
    · show KN w w1.heap.size (w1.heap.size + 1) (.slice A1 1 c1) (.slice B1 1 d1) _
      first | assumption | exact KN.drew (by assumption) | exact KN.alloc (by assumption) _ | exact KN.below (by assumption) (Below.refl _ _)
    clear hK K
    try simp only [Act.put, List.setIfInBounds_toArray, List.set_cons_zero, List.set_cons_succ]
    refine wpAnyH_ready (rs := [15]) (by kernel_rfl) (by simp) ?_
    refine AllReadyH.cons rfl (fun K hK => ?_) AllReadyH.nil
    go_simp
    first
      | refine hK.out _ _ ?_ (fun hHeld => ?_)
      | (go_wp2_with fail
         refine hK.out _ _ ?_ (fun hHeld => ?_))
    · show KN w w1.heap.size (w1.heap.size + 1) (.slice A1 1 c1) (.slice B1 1 d1) _
      first | assumption | exact KN.drew (by assumption) | exact KN.alloc (by assumption) _ | exact KN.below (by assumption) (Below.refl _ _)
    clear hK K
    try simp only [Act.put, List.setIfInBounds_toArray, List.set_cons_zero, List.set_cons_succ]
    refine wpAnyH_take (i := 16) (v := ?_) rfl (by kernel_rfl) (by kernel_rfl) (by kernel_rfl) (fun _ _ _ h => h) (Or.inl ⟨by rfl, ?_⟩) (by assumption) ?_
    rotate_left 1
    · intro w hSw
      (try dsimp only at hSw)
      go_simp
      try with_reducible rfl
    try simp only [Act.put, List.setIfInBounds_toArray]
    refine wpAnyH_ready (rs := [17]) (by kernel_rfl) (by simp) ?_
    refine AllReadyH.cons rfl (fun K hK => ?_) AllReadyH.nil
    go_simp
    first
      | refine hK.out _ _ ?_ (fun hHeld => ?_)
      | (go_wp2_with fail
         refine hK.out _ _ ?_ (fun hHeld => ?_))
    · show KN w w1.heap.size (w1.heap.size + 1) (.slice A1 1 c1) (.slice B1 1 d1) _
      first | assumption | exact KN.drew (by assumption) | exact KN.alloc (by assumption) _ | exact KN.below (by assumption) (Below.refl _ _)
    clear hK K
    try simp only [Act.put, List.setIfInBounds_toArray, List.set_cons_zero, List.set_cons_succ]
    refine wpAnyH_ready (rs := [18]) (by kernel_rfl) (by simp) ?_
    refine AllReadyH.cons rfl (fun K hK => ?_) AllReadyH.nil
    go_simp
    refine (law3Of _ _ _ [(1, 4)] _ (by first | exact SlAt.blk encD_len (heap_alloc_new _ _) | exact SlAt.blk encD_len ((heap_alloc_old _ _ (by simp)).trans (heap_alloc_new _ _))) (by rfl) (by simp)).mono ?_
    rintro e wx61 ⟨⟨Ax61, cx61, rfl, hvx61⟩, hb1⟩
    have hSx61 := KN.below (show KN w w1.heap.size (w1.heap.size + 1) (.slice A1 1 c1) (.slice B1 1 d1) _ from by assumption) hb1
    have hx61 := hvx61.holds
    obtain ⟨Ax61', cx61', ex61, hatx61, _⟩ := id hx61
    cases ex61
    obtain ⟨bx61, ox61, rx61, qx61, rfl, hltx61, hxx61, ccx61, cdx61⟩ := hatx61.dot (j := 0) (by simp)
    have hpx61 : ((1 : Int), (4 : Int)) = (rx61, qx61) := by simpa using hxx61
    cases hpx61
    have cex61 : wx61.cell? ⟨bx61, ox61, none⟩ = some (.int .i64 1) := by simpa using ccx61
    have cfx61 : wx61.cell? ⟨bx61, ox61 + 1, none⟩ = some (.int .i64 4) := by simpa using cdx61
    clear ccx61 cdx61 hxx61 hatx61
    clear hb1 hvx61
    first
      | refine hK.out _ _ ?_ (fun hHeld => ?_)
      | (go_wp2_with fail
         refine hK.out _ _ ?_ (fun hHeld => ?_))
    · show KN w w1.heap.size (w1.heap.size + 1) (.slice A1 1 c1) (.slice B1 1 d1) _
      first | assumption | exact KN.drew (by assumption) | exact KN.alloc (by assumption) _ | exact KN.below (by assumption) (Below.refl _ _)
    clear hK K
    try simp only [Act.put, List.setIfInBounds_toArray, List.set_cons_zero, List.set_cons_succ]
    refine wpAnyH_ready (rs := [19]) (by kernel_rfl) (by simp) ?_
    refine AllReadyH.cons rfl (fun K hK => ?_) AllReadyH.nil
    go_simp
    first
      | refine hK.out _ _ ?_ (fun hHeld => ?_)
      | (go_wp2_with fail
         refine hK.out _ _ ?_ (fun hHeld => ?_))
    · show KN w w1.heap.size (w1.heap.size + 1) (.slice A1 1 c1) (.slice B1 1 d1) _
      first | assumption | exact KN.drew (by assumption) | exact KN.alloc (by assumption) _ | exact KN.below (by assumption) (Below.refl _ _)
    clear hK K
    try simp only [Act.put, List.setIfInBounds_toArray, List.set_cons_zero, List.set_cons_succ]
    refine wpAnyH_ready (rs := [20]) (by kernel_rfl) (by simp) ?_
    refine AllReadyH.cons rfl (fun K hK => ?_) AllReadyH.nil
    go_simp
    first
      | refine hK.out _ _ ?_ (fun hHeld => ?_)
      | (go_wp2_with fail
         refine hK.out _ _ ?_ (fun hHeld => ?_))
    · show KN w w1.heap.size (w1.heap.size + 1) (.slice A1 1 c1) (.slice B1 1 d1) _
      first | assumption | exact KN.drew (by assumption) | exact KN.alloc (by assumption) _ | exact KN.below (by assumption) (Below.refl _ _)
    clear hK K
    try simp only [Act.put, List.setIfInBounds_toArray, List.set_cons_zero, List.set_cons_succ]
    refine wpAnyH_ready (rs := [21]) (by kernel_rfl) (by simp) ?_
    refine AllReadyH.cons rfl (fun K hK => ?_) AllReadyH.nil
    go_simp
    refine (ctxHas _ [(1, 2)] [(1, 4)] 1 4 true _ (KN.c (show KN w w1.heap.size (w1.heap.size + 1) (.slice A1 1 c1) (.slice B1 1 d1) _ from by assumption)) (by kernel_rfl)).mono ?_
    rintro e wx64 ⟨rfl, hb1⟩
    have hSx64 := KN.below (show KN w w1.heap.size (w1.heap.size + 1) (.slice A1 1 c1) (.slice B1 1 d1) _ from by assumption) hb1
    clear hb1
    first
      | refine hK.out _ _ ?_ (fun hHeld => ?_)
      | (go_wp2_with fail
         refine hK.out _ _ ?_ (fun hHeld => ?_))
    · show KN w w1.heap.size (w1.heap.size + 1) (.slice A1 1 c1) (.slice B1 1 d1) _
      first | assumption | exact KN.drew (by assumption) | exact KN.alloc (by assumption) _ | exact KN.below (by assumption) (Below.refl _ _)
    clear hK K
    try simp only [Act.put, List.setIfInBounds_toArray, List.set_cons_zero, List.set_cons_succ]
    refine wpAnyH_ready (rs := [22]) (by kernel_rfl) (by simp) ?_
    refine AllReadyH.cons rfl (fun K hK => ?_) AllReadyH.nil
    go_simp
    first
      | refine hK.out _ _ ?_ (fun hHeld => ?_)
      | (go_wp2_with fail
         refine hK.out _ _ ?_ (fun hHeld => ?_))
    · show KN w w1.heap.size (w1.heap.size + 1) (.slice A1 1 c1) (.slice B1 1 d1) _
      first | assumption | exact KN.drew (by assumption) | exact KN.alloc (by assumption) _ | exact KN.below (by assumption) (Below.refl _ _)
    clear hK K
    try simp only [Act.put, List.setIfInBounds_toArray, List.set_cons_zero, List.set_cons_succ]
    refine wpAnyH_ready (rs := [23]) (by kernel_rfl) (by simp) ?_
    refine AllReadyH.cons rfl (fun K hK => ?_) AllReadyH.nil
    go_simp
    first
      | refine hK.out _ _ ?_ (fun hHeld => ?_)
      | (go_wp2_with fail
         refine hK.out _ _ ?_ (fun hHeld => ?_))
    · show KN w w1.heap.size (w1.heap.size + 1) (.slice A1 1 c1) (.slice B1 1 d1) _
      first | assumption | exact KN.drew (by assumption) | exact KN.alloc (by assumption) _ | exact KN.below (by assumption) (Below.refl _ _)
    clear hK K
    try simp only [Act.put, List.setIfInBounds_toArray, List.set_cons_zero, List.set_cons_succ]
    refine wpAnyH_ready (rs := [24]) (by kernel_rfl) (by simp) ?_
    refine AllReadyH.cons rfl (fun K hK => ?_) AllReadyH.nil
    go_simp
    first
      | refine hK.out _ _ ?_ (fun hHeld => ?_)
      | (go_wp2_with fail
         refine hK.out _ _ ?_ (fun hHeld => ?_))
    · show KN w w1.heap.size (w1.heap.size + 1) (.slice A1 1 c1) (.slice B1 1 d1) _
      first | assumption | exact KN.drew (by assumption) | exact KN.alloc (by assumption) _ | exact KN.below (by assumption) (Below.refl _ _)
    clear hK K
    try simp only [Act.put, List.setIfInBounds_toArray, List.set_cons_zero, List.set_cons_succ]
    refine wpAnyH_ready (rs := [25]) (by kernel_rfl) (by simp) ?_
    refine AllReadyH.cons rfl (fun K hK => ?_) AllReadyH.nil
    go_simp
    first
      | refine hK.out _ _ ?_ (fun hHeld => ?_)
      | (go_wp2_with fail
         refine hK.out _ _ ?_ (fun hHeld => ?_))
    · show KN w w1.heap.size (w1.heap.size + 1) (.slice A1 1 c1) (.slice B1 1 d1) _
      first | assumption | exact KN.drew (by assumption) | exact KN.alloc (by assumption) _ | exact KN.below (by assumption) (Below.refl _ _)
    clear hK K
    try simp only [Act.put, List.setIfInBounds_toArray, List.set_cons_zero, List.set_cons_succ]
    refine wpAnyH_ready (rs := [26]) (by kernel_rfl) (by simp) ?_
    refine AllReadyH.cons rfl (fun K hK => ?_) AllReadyH.nil
    go_simp
    refine (con_h 1 _ _ _ [(1, 2), (1, 2), (1, 4)] [(1, 2)] [(1, 2), (1, 4)] _ (by first | exact SlAt.blk encD_len (heap_alloc_new _ _) | exact SlAt.blk encD_len ((heap_alloc_old _ _ (by simp)).trans (heap_alloc_new _ _))) (by rfl) (by simp) (by simp) (by simp) rfl rfl).mono ?_
    rintro e wx69 ⟨⟨Ax69, cx69, Bx69, dx69, rfl, hx69⟩, hb1⟩
    have hSx69 := KN.below (show KN w w1.heap.size (w1.heap.size + 1) (.slice A1 1 c1) (.slice B1 1 d1) _ from by assumption) hb1
    clear hb1
    first
      | refine hK.out _ _ ?_ (fun hHeld => ?_)
      | (go_wp2_with fail
         refine hK.out _ _ ?_ (fun hHeld => ?_))
    · show KN w w1.heap.size (w1.heap.size + 1) (.slice A1 1 c1) (.slice B1 1 d1) _
      first | assumption | exact KN.drew (by assumption) | exact KN.alloc (by assumption) _ | exact KN.below (by assumption) (Below.refl _ _)
    clear hK K
    try simp only [Act.put, List.setIfInBounds_toArray, List.set_cons_zero, List.set_cons_succ]
    refine wpAnyH_ready (rs := [27]) (by kernel_rfl) (by simp) ?_
    refine AllReadyH.cons rfl (fun K hK => ?_) AllReadyH.nil
    go_simp
    refine (ctxSize _ [(1, 2)] [(1, 2), (1, 4)] 3 _ hx69 (by simp) (by kernel_rfl)).mono ?_
    rintro e wx70 ⟨rfl, hb1⟩
    have hSx70 := KN.below (show KN w w1.heap.size (w1.heap.size + 1) (.slice A1 1 c1) (.slice B1 1 d1) _ from by assumption) hb1
    clear hb1
    first
      | refine hK.out _ _ ?_ (fun hHeld => ?_)
      | (go_wp2_with fail
         refine hK.out _ _ ?_ (fun hHeld => ?_))
    · show KN w w1.heap.size (w1.heap.size + 1) (.slice A1 1 c1) (.slice B1 1 d1) _
      first | assumption | exact KN.drew (by assumption) | exact KN.alloc (by assumption) _ | exact KN.below (by assumption) (Below.refl _ _)
    clear hK K
    try simp only [Act.put, List.setIfInBounds_toArray, List.set_cons_zero, List.set_cons_succ]
    refine wpAnyH_ready (rs := [28]) (by kernel_rfl) (by simp) ?_
    refine AllReadyH.cons rfl (fun K hK => ?_) AllReadyH.nil
    go_simp
    first
      | refine hK.out _ _ ?_ (fun hHeld => ?_)
      | (go_wp2_with fail
         refine hK.out _ _ ?_ (fun hHeld => ?_))
    · show KN w w1.heap.size (w1.heap.size + 1) (.slice A1 1 c1) (.slice B1 1 d1) _
      first | assumption | exact KN.drew (by assumption) | exact KN.alloc (by assumption) _ | exact KN.below (by assumption) (Below.refl _ _)
    clear hK K
    try simp only [Act.put, List.setIfInBounds_toArray, List.set_cons_zero, List.set_cons_succ]
    refine wpAnyH_ready (rs := [29]) (by kernel_rfl) (by simp) ?_
    refine AllReadyH.cons rfl (fun K hK => ?_) AllReadyH.nil
    go_simp
    first
      | refine hK.out _ _ ?_ (fun hHeld => ?_)
      | (go_wp2_with fail
         refine hK.out _ _ ?_ (fun hHeld => ?_))
    · show KN w w1.heap.size (w1.heap.size + 1) (.slice A1 1 c1) (.slice B1 1 d1) _
      first | assumption | exact KN.drew (by assumption) | exact KN.alloc (by assumption) _ | exact KN.below (by assumption) (Below.refl _ _)
    clear hK K
    try simp only [Act.put, List.setIfInBounds_toArray, List.set_cons_zero, List.set_cons_succ]
    refine wpAnyH_ready (rs := [30]) (by kernel_rfl) (by simp) ?_
    refine AllReadyH.cons rfl (fun K hK => ?_) AllReadyH.nil
    go_simp
    first
      | refine hK.out _ _ ?_ (fun hHeld => ?_)
      | (go_wp2_with fail
         refine hK.out _ _ ?_ (fun hHeld => ?_))
    · show KN w w1.heap.size (w1.heap.size + 1) (.slice A1 1 c1) (.slice B1 1 d1) _
      first | assumption | exact KN.drew (by assumption) | exact KN.alloc (by assumption) _ | exact KN.below (by assumption) (Below.refl _ _)
    clear hK K
    try simp only [Act.put, List.setIfInBounds_toArray, List.set_cons_zero, List.set_cons_succ]
    refine wpAnyH_take (i := 31) (v := ?_) rfl (by kernel_rfl) (by kernel_rfl) (by kernel_rfl) (fun _ _ _ h => h) (Or.inl ⟨by rfl, ?_⟩) (by assumption) ?_
    rotate_left 1
    · intro w hSw
      (try dsimp only at hSw)
      go_simp
      try with_reducible rfl
    try simp only [Act.put, List.setIfInBounds_toArray]
    refine wpAnyH_ready (rs := [32, 35]) (by kernel_rfl) (by simp) ?_
    refine AllReadyH.cons rfl (fun K hK => ?_) (AllReadyH.cons rfl (fun K hK => ?_) AllReadyH.nil)
    · go_simp
      first
        | refine hK.out _ _ ?_ (fun hHeld => ?_)
        | (go_wp2_with fail
           refine hK.out _ _ ?_ (fun hHeld => ?_))
      · show KN w w1.heap.size (w1.heap.size + 1) (.slice A1 1 c1) (.slice B1 1 d1) _
        first | assumption | exact KN.drew (by assumption) | exact KN.alloc (by assumption) _ | exact KN.below (by assumption) (Below.refl _ _)
      clear hK K
      try simp only [Act.put, List.setIfInBounds_toArray, List.set_cons_zero, List.set_cons_succ]
      refine wpAnyH_ready (rs := [33, 35]) (by kernel_rfl) (by simp) ?_
      refine AllReadyH.cons rfl (fun K hK => ?_) (AllReadyH.cons rfl (fun K hK => ?_) AllReadyH.nil)
      · go_simp
        refine (law3Of _ _ _ [(1, 5), (1, 3), (1, 4)] _ (by first | exact SlAt.blk encD_len (heap_alloc_new _ _) | exact SlAt.blk encD_len ((heap_alloc_old _ _ (by simp)).trans (heap_alloc_new _ _))) (by rfl) (by simp)).mono ?_
        rintro e wx76 ⟨⟨Ax76, cx76, rfl, hvx76⟩, hb1⟩
        have hSx76 := KN.below (show KN w w1.heap.size (w1.heap.size + 1) (.slice A1 1 c1) (.slice B1 1 d1) _ from by assumption) hb1
        have hx76 := hvx76.holds
        clear hb1 hvx76
        first
          | refine hK.out _ _ ?_ (fun hHeld => ?_)
          | (go_wp2_with fail
             refine hK.out _ _ ?_ (fun hHeld => ?_))
        · show KN w w1.heap.size (w1.heap.size + 1) (.slice A1 1 c1) (.slice B1 1 d1) _
          first | assumption | exact KN.drew (by assumption) | exact KN.alloc (by assumption) _ | exact KN.below (by assumption) (Below.refl _ _)
        clear hK K
        try simp only [Act.put, List.setIfInBounds_toArray, List.set_cons_zero, List.set_cons_succ]
        refine wpAnyH_ready (rs := [34, 35]) (by kernel_rfl) (by simp) ?_
        refine AllReadyH.cons rfl (fun K hK => ?_) (AllReadyH.cons rfl (fun K hK => ?_) AllReadyH.nil)
        · go_simp
          refine (miss_h _ _ _ [⟨(1, 2), by simp [Wf]⟩] [(1, 4)] [(1, 5), (1, 3), (1, 4)] [(1, 3), (1, 5)] _ (KN.c (show KN w w1.heap.size (w1.heap.size + 1) (.slice A1 1 c1) (.slice B1 1 d1) _ from by assumption)) (by first | exact hx76 | exact hx76.below ((Below.refl _ _).alloc (Nat.le_refl _) _)) (by simp) (by kernel_rfl)).mono ?_
          rintro e wx77 ⟨⟨Ax77, cx77, rfl, hx77⟩, hb1⟩
          have hSx77 := KN.below (show KN w w1.heap.size (w1.heap.size + 1) (.slice A1 1 c1) (.slice B1 1 d1) _ from by assumption) hb1
          clear hb1
          first
            | refine hK.out _ _ ?_ (fun hHeld => ?_)
            | (go_wp2_with fail
               refine hK.out _ _ ?_ (fun hHeld => ?_))
          · show KN w w1.heap.size (w1.heap.size + 1) (.slice A1 1 c1) (.slice B1 1 d1) _
            first | assumption | exact KN.drew (by assumption) | exact KN.alloc (by assumption) _ | exact KN.below (by assumption) (Below.refl _ _)
          clear hK K
          try simp only [Act.put, List.setIfInBounds_toArray, List.set_cons_zero, List.set_cons_succ]
          refine wpAnyH_ready (rs := [35]) (by kernel_rfl) (by simp) ?_
          refine AllReadyH.cons rfl (fun K hK => ?_) AllReadyH.nil
          go_simp
          first
            | refine hK.out _ _ ?_ (fun hHeld => ?_)
            | (go_wp2_with fail
               refine hK.out _ _ ?_ (fun hHeld => ?_))
          · show KN w w1.heap.size (w1.heap.size + 1) (.slice A1 1 c1) (.slice B1 1 d1) _
            first | assumption | exact KN.drew (by assumption) | exact KN.alloc (by assumption) _ | exact KN.below (by assumption) (Below.refl _ _)
          clear hK K
          try simp only [Act.put, List.setIfInBounds_toArray, List.set_cons_zero, List.set_cons_succ]
          refine wpAnyH_ready (rs := [36]) (by kernel_rfl) (by simp) ?_
          refine AllReadyH.cons rfl (fun K hK => ?_) AllReadyH.nil
          go_simp
          refine (law3Of _ _ _ [(1, 3), (1, 5)] _ (by first | exact SlAt.blk encD_len (heap_alloc_new _ _) | exact SlAt.blk encD_len ((heap_alloc_old _ _ (by simp)).trans (heap_alloc_new _ _))) (by rfl) (by simp)).mono ?_
          rintro e wx79 ⟨⟨Ax79, cx79, rfl, hvx79⟩, hb1⟩
          have hSx79 := KN.below (show KN w w1.heap.size (w1.heap.size + 1) (.slice A1 1 c1) (.slice B1 1 d1) _ from by assumption) hb1
          have hx79 := hvx79.holds
          have hy77 := Holds.below (by first | exact hx77 | exact hx77.below ((Below.refl _ _).alloc (Nat.le_refl _) _)) hb1
          clear hb1 hvx79
          first
            | refine hK.out _ _ ?_ (fun hHeld => ?_)
            | (go_wp2_with fail
               refine hK.out _ _ ?_ (fun hHeld => ?_))
          · show KN w w1.heap.size (w1.heap.size + 1) (.slice A1 1 c1) (.slice B1 1 d1) _
            first | assumption | exact KN.drew (by assumption) | exact KN.alloc (by assumption) _ | exact KN.below (by assumption) (Below.refl _ _)
          clear hK K
          try simp only [Act.put, List.setIfInBounds_toArray, List.set_cons_zero, List.set_cons_succ]
          refine wpAnyH_ready (rs := [37]) (by kernel_rfl) (by simp) ?_
          refine AllReadyH.cons rfl (fun K hK => ?_) AllReadyH.nil
          go_simp
          refine (same_h3 _ _ [(1, 3), (1, 5)] [(1, 3), (1, 5)] true _ hy77 hx79 (by kernel_rfl)).mono ?_
          rintro e wx80 ⟨rfl, hb1⟩
          have hSx80 := KN.below (show KN w w1.heap.size (w1.heap.size + 1) (.slice A1 1 c1) (.slice B1 1 d1) _ from by assumption) hb1
          clear hb1
          first
            | refine hK.out _ _ ?_ (fun hHeld => ?_)
            | (go_wp2_with fail
               refine hK.out _ _ ?_ (fun hHeld => ?_))
          · show KN w w1.heap.size (w1.heap.size + 1) (.slice A1 1 c1) (.slice B1 1 d1) _
            first | assumption | exact KN.drew (by assumption) | exact KN.alloc (by assumption) _ | exact KN.below (by assumption) (Below.refl _ _)
          clear hK K
          try simp only [Act.put, List.setIfInBounds_toArray, List.set_cons_zero, List.set_cons_succ]
          refine wpAnyH_ready (rs := [38]) (by kernel_rfl) (by simp) ?_
          refine AllReadyH.cons rfl (fun K hK => ?_) AllReadyH.nil
          go_simp
          first
            | refine hK.out _ _ ?_ (fun hHeld => ?_)
            | (go_wp2_with fail
               refine hK.out _ _ ?_ (fun hHeld => ?_))
          · show KN w w1.heap.size (w1.heap.size + 1) (.slice A1 1 c1) (.slice B1 1 d1) _
            first | assumption | exact KN.drew (by assumption) | exact KN.alloc (by assumption) _ | exact KN.below (by assumption) (Below.refl _ _)
          clear hK K
          try simp only [Act.put, List.setIfInBounds_toArray, List.set_cons_zero, List.set_cons_succ]
          refine wpAnyH_ready (rs := [39]) (by kernel_rfl) (by simp) ?_
          refine AllReadyH.cons rfl (fun K hK => ?_) AllReadyH.nil
          go_simp
          first
            | refine hK.out _ _ ?_ (fun hHeld => ?_)
            | (go_wp2_with fail
               refine hK.out _ _ ?_ (fun hHeld => ?_))
          · show KN w w1.heap.size (w1.heap.size + 1) (.slice A1 1 c1) (.slice B1 1 d1) _
            first | assumption | exact KN.drew (by assumption) | exact KN.alloc (by assumption) _ | exact KN.below (by assumption) (Below.refl _ _)
          clear hK K
          try simp only [Act.put, List.setIfInBounds_toArray, List.set_cons_zero, List.set_cons_succ]
          refine wpAnyH_done (by kernel_rfl) ?_ _
          go_wp2_with fail
          go_meet
          exact ⟨rfl, by assumption⟩
        · go_simp
          first
            | refine hK.out _ _ ?_ (fun hHeld => ?_)
            | (go_wp2_with fail
               refine hK.out _ _ ?_ (fun hHeld => ?_))
          · show KN w w1.heap.size (w1.heap.size + 1) (.slice A1 1 c1) (.slice B1 1 d1) _
            first | assumption | exact KN.drew (by assumption) | exact KN.alloc (by assumption) _ | exact KN.below (by assumption) (Below.refl _ _)
          clear hK K
          try simp only [Act.put, List.setIfInBounds_toArray, List.set_cons_zero, List.set_cons_succ]
          refine wpAnyH_ready (rs := [34]) (by kernel_rfl) (by simp) ?_
          refine AllReadyH.cons rfl (fun K hK => ?_) AllReadyH.nil
          go_simp
          refine (miss_h _ _ _ [⟨(1, 2), by simp [Wf]⟩] [(1, 4)] [(1, 5), (1, 3), (1, 4)] [(1, 3), (1, 5)] _ (KN.c (show KN w w1.heap.size (w1.heap.size + 1) (.slice A1 1 c1) (.slice B1 1 d1) _ from by assumption)) (by first | exact hx76 | exact hx76.below ((Below.refl _ _).alloc (Nat.le_refl _) _)) (by simp) (by kernel_rfl)).mono ?_
          rintro e wx77 ⟨⟨Ax77, cx77, rfl, hx77⟩, hb1⟩
          have hSx77 := KN.below (show KN w w1.heap.size (w1.heap.size + 1) (.slice A1 1 c1) (.slice B1 1 d1) _ from by assumption) hb1
          have ex78 : DotsAt wx77 (some ⟨wx76.heap.size, 0, none⟩) [(1, 3), (1, 5)] := SlAt.below (by exact SlAt.blk encD_len (heap_alloc_new _ _)) hb1
          clear hb1
          first
            | refine hK.out _ _ ?_ (fun hHeld => ?_)
            | (go_wp2_with fail
               refine hK.out _ _ ?_ (fun hHeld => ?_))
          · show KN w w1.heap.size (w1.heap.size + 1) (.slice A1 1 c1) (.slice B1 1 d1) _
            first | assumption | exact KN.drew (by assumption) | exact KN.alloc (by assumption) _ | exact KN.below (by assumption) (Below.refl _ _)
          clear hK K
          try simp only [Act.put, List.setIfInBounds_toArray, List.set_cons_zero, List.set_cons_succ]
          refine wpAnyH_ready (rs := [36]) (by kernel_rfl) (by simp) ?_
          refine AllReadyH.cons rfl (fun K hK => ?_) AllReadyH.nil
          go_simp
          refine (law3Of _ _ _ [(1, 3), (1, 5)] _ (by first | exact ex78 | exact SlAt.blk encD_len (heap_alloc_new _ _) | exact SlAt.blk encD_len ((heap_alloc_old _ _ (by simp)).trans (heap_alloc_new _ _))) (by rfl) (by simp)).mono ?_
          rintro e wx79 ⟨⟨Ax79, cx79, rfl, hvx79⟩, hb1⟩
          have hSx79 := KN.below (show KN w w1.heap.size (w1.heap.size + 1) (.slice A1 1 c1) (.slice B1 1 d1) _ from by assumption) hb1
          have hx79 := hvx79.holds
          have hy77 := Holds.below (by first | exact hx77 | exact hx77.below ((Below.refl _ _).alloc (Nat.le_refl _) _)) hb1
          clear hb1 hvx79
          first
            | refine hK.out _ _ ?_ (fun hHeld => ?_)
            | (go_wp2_with fail
               refine hK.out _ _ ?_ (fun hHeld => ?_))
          · show KN w w1.heap.size (w1.heap.size + 1) (.slice A1 1 c1) (.slice B1 1 d1) _
            first | assumption | exact KN.drew (by assumption) | exact KN.alloc (by assumption) _ | exact KN.below (by assumption) (Below.refl _ _)
          clear hK K
          try simp only [Act.put, List.setIfInBounds_toArray, List.set_cons_zero, List.set_cons_succ]
          refine wpAnyH_ready (rs := [37]) (by kernel_rfl) (by simp) ?_
          refine AllReadyH.cons rfl (fun K hK => ?_) AllReadyH.nil
          go_simp
          refine (same_h3 _ _ [(1, 3), (1, 5)] [(1, 3), (1, 5)] true _ hy77 hx79 (by kernel_rfl)).mono ?_
          rintro e wx80 ⟨rfl, hb1⟩
          have hSx80 := KN.below (show KN w w1.heap.size (w1.heap.size + 1) (.slice A1 1 c1) (.slice B1 1 d1) _ from by assumption) hb1
          clear hb1
          first
            | refine hK.out _ _ ?_ (fun hHeld => ?_)
            | (go_wp2_with fail
               refine hK.out _ _ ?_ (fun hHeld => ?_))
          · show KN w w1.heap.size (w1.heap.size + 1) (.slice A1 1 c1) (.slice B1 1 d1) _
            first | assumption | exact KN.drew (by assumption) | exact KN.alloc (by assumption) _ | exact KN.below (by assumption) (Below.refl _ _)
          clear hK K
          try simp only [Act.put, List.setIfInBounds_toArray, List.set_cons_zero, List.set_cons_succ]
          refine wpAnyH_ready (rs := [38]) (by kernel_rfl) (by simp) ?_
          refine AllReadyH.cons rfl (fun K hK => ?_) AllReadyH.nil
          go_simp
          first
            | refine hK.out _ _ ?_ (fun hHeld => ?_)
            | (go_wp2_with fail
               refine hK.out _ _ ?_ (fun hHeld => ?_))
          · show KN w w1.heap.size (w1.heap.size + 1) (.slice A1 1 c1) (.slice B1 1 d1) _
            first | assumption | exact KN.drew (by assumption) | exact KN.alloc (by assumption) _ | exact KN.below (by assumption) (Below.refl _ _)
          clear hK K
          try simp only [Act.put, List.setIfInBounds_toArray, List.set_cons_zero, List.set_cons_succ]
          refine wpAnyH_ready (rs := [39]) (by kernel_rfl) (by simp) ?_
          refine AllReadyH.cons rfl (fun K hK => ?_) AllReadyH.nil
          go_simp
          first
            | refine hK.out _ _ ?_ (fun hHeld => ?_)
            | (go_wp2_with fail
               refine hK.out _ _ ?_ (fun hHeld => ?_))
          · show KN w w1.heap.size (w1.heap.size + 1) (.slice A1 1 c1) (.slice B1 1 d1) _
            first | assumption | exact KN.drew (by assumption) | exact KN.alloc (by assumption) _ | exact KN.below (by assumption) (Below.refl _ _)
          clear hK K
          try simp only [Act.put, List.setIfInBounds_toArray, List.set_cons_zero, List.set_cons_succ]
          refine wpAnyH_done (by kernel_rfl) ?_ _
          go_wp2_with fail
          go_meet
          exact ⟨rfl, by assumption⟩
      · go_simp
        first
          | refine hK.out _ _ ?_ (fun hHeld => ?_)
          | (go_wp2_with fail
             refine hK.out _ _ ?_ (fun hHeld => ?_))
        · show KN w w1.heap.size (w1.heap.size + 1) (.slice A1 1 c1) (.slice B1 1 d1) _
          first | assumption | exact KN.drew (by assumption) | exact KN.alloc (by assumption) _ | exact KN.below (by assumption) (Below.refl _ _)
        clear hK K
        try simp only [Act.put, List.setIfInBounds_toArray, List.set_cons_zero, List.set_cons_succ]
        refine wpAnyH_ready (rs := [33]) (by kernel_rfl) (by simp) ?_
        refine AllReadyH.cons rfl (fun K hK => ?_) AllReadyH.nil
        go_simp
        refine (law3Of _ _ _ [(1, 5), (1, 3), (1, 4)] _ (by first | exact SlAt.blk encD_len ((heap_alloc_old _ _ (by simp)).trans (heap_alloc_new _ _)) | exact SlAt.blk encD_len (heap_alloc_new _ _) | exact SlAt.blk encD_len ((heap_alloc_old _ _ (by simp)).trans (heap_alloc_new _ _))) (by rfl) (by simp)).mono ?_
        rintro e wx76 ⟨⟨Ax76, cx76, rfl, hvx76⟩, hb1⟩
        have hSx76 := KN.below (show KN w w1.heap.size (w1.heap.size + 1) (.slice A1 1 c1) (.slice B1 1 d1) _ from by assumption) hb1
        have hx76 := hvx76.holds
        have dx78 : DotsAt wx76 (some ⟨wx70.heap.size + 1, 0, none⟩) [(1, 3), (1, 5)] := SlAt.below (by exact SlAt.blk encD_len (heap_alloc_new1 _ _ _)) hb1
        clear hb1 hvx76
        first
          | refine hK.out _ _ ?_ (fun hHeld => ?_)
          | (go_wp2_with fail
             refine hK.out _ _ ?_ (fun hHeld => ?_))
        · show KN w w1.heap.size (w1.heap.size + 1) (.slice A1 1 c1) (.slice B1 1 d1) _
          first | assumption | exact KN.drew (by assumption) | exact KN.alloc (by assumption) _ | exact KN.below (by assumption) (Below.refl _ _)
        clear hK K
        try simp only [Act.put, List.setIfInBounds_toArray, List.set_cons_zero, List.set_cons_succ]
        refine wpAnyH_ready (rs := [34]) (by kernel_rfl) (by simp) ?_
        refine AllReadyH.cons rfl (fun K hK => ?_) AllReadyH.nil
        go_simp
        refine (miss_h _ _ _ [⟨(1, 2), by simp [Wf]⟩] [(1, 4)] [(1, 5), (1, 3), (1, 4)] [(1, 3), (1, 5)] _ (KN.c (show KN w w1.heap.size (w1.heap.size + 1) (.slice A1 1 c1) (.slice B1 1 d1) _ from by assumption)) (by first | exact hx76 | exact hx76.below ((Below.refl _ _).alloc (Nat.le_refl _) _)) (by simp) (by kernel_rfl)).mono ?_
        rintro e wx77 ⟨⟨Ax77, cx77, rfl, hx77⟩, hb1⟩
        have hSx77 := KN.below (show KN w w1.heap.size (w1.heap.size + 1) (.slice A1 1 c1) (.slice B1 1 d1) _ from by assumption) hb1
        have ex78 : DotsAt wx77 (some ⟨wx70.heap.size + 1, 0, none⟩) [(1, 3), (1, 5)] := SlAt.below dx78 hb1
        clear hb1
        first
          | refine hK.out _ _ ?_ (fun hHeld => ?_)
          | (go_wp2_with fail
             refine hK.out _ _ ?_ (fun hHeld => ?_))
        · show KN w w1.heap.size (w1.heap.size + 1) (.slice A1 1 c1) (.slice B1 1 d1) _
          first | assumption | exact KN.drew (by assumption) | exact KN.alloc (by assumption) _ | exact KN.below (by assumption) (Below.refl _ _)
        clear hK K
        try simp only [Act.put, List.setIfInBounds_toArray, List.set_cons_zero, List.set_cons_succ]
        refine wpAnyH_ready (rs := [36]) (by kernel_rfl) (by simp) ?_
        refine AllReadyH.cons rfl (fun K hK => ?_) AllReadyH.nil
        go_simp
        refine (law3Of _ _ _ [(1, 3), (1, 5)] _ (by first | exact ex78 | exact SlAt.blk encD_len (heap_alloc_new _ _) | exact SlAt.blk encD_len ((heap_alloc_old _ _ (by simp)).trans (heap_alloc_new _ _))) (by rfl) (by simp)).mono ?_
        rintro e wx79 ⟨⟨Ax79, cx79, rfl, hvx79⟩, hb1⟩
        have hSx79 := KN.below (show KN w w1.heap.size (w1.heap.size + 1) (.slice A1 1 c1) (.slice B1 1 d1) _ from by assumption) hb1
        have hx79 := hvx79.holds
        have hy77 := Holds.below (by first | exact hx77 | exact hx77.below ((Below.refl _ _).alloc (Nat.le_refl _) _)) hb1
        clear hb1 hvx79
        first
          | refine hK.out _ _ ?_ (fun hHeld => ?_)
          | (go_wp2_with fail
             refine hK.out _ _ ?_ (fun hHeld => ?_))
        · show KN w w1.heap.size (w1.heap.size + 1) (.slice A1 1 c1) (.slice B1 1 d1) _
          first | assumption | exact KN.drew (by assumption) | exact KN.alloc (by assumption) _ | exact KN.below (by assumption) (Below.refl _ _)
        clear hK K
        try simp only [Act.put, List.setIfInBounds_toArray, List.set_cons_zero, List.set_cons_succ]
        refine wpAnyH_ready (rs := [37]) (by kernel_rfl) (by simp) ?_
        refine AllReadyH.cons rfl (fun K hK => ?_) AllReadyH.nil
        go_simp
        refine (same_h3 _ _ [(1, 3), (1, 5)] [(1, 3), (1, 5)] true _ hy77 hx79 (by kernel_rfl)).mono ?_
        rintro e wx80 ⟨rfl, hb1⟩
        have hSx80 := KN.below (show KN w w1.heap.size (w1.heap.size + 1) (.slice A1 1 c1) (.slice B1 1 d1) _ from by assumption) hb1
        clear hb1
        first
          | refine hK.out _ _ ?_ (fun hHeld => ?_)
          | (go_wp2_with fail
             refine hK.out _ _ ?_ (fun hHeld => ?_))
        · show KN w w1.heap.size (w1.heap.size + 1) (.slice A1 1 c1) (.slice B1 1 d1) _
          first | assumption | exact KN.drew (by assumption) | exact KN.alloc (by assumption) _ | exact KN.below (by assumption) (Below.refl _ _)
        clear hK K
        try simp only [Act.put, List.setIfInBounds_toArray, List.set_cons_zero, List.set_cons_succ]
        refine wpAnyH_ready (rs := [38]) (by kernel_rfl) (by simp) ?_
        refine AllReadyH.cons rfl (fun K hK => ?_) AllReadyH.nil
        go_simp
        first
          | refine hK.out _ _ ?_ (fun hHeld => ?_)
          | (go_wp2_with fail
             refine hK.out _ _ ?_ (fun hHeld => ?_))
        · show KN w w1.heap.size (w1.heap.size + 1) (.slice A1 1 c1) (.slice B1 1 d1) _
          first | assumption | exact KN.drew (by assumption) | exact KN.alloc (by assumption) _ | exact KN.below (by assumption) (Below.refl _ _)
        clear hK K
        try simp only [Act.put, List.setIfInBounds_toArray, List.set_cons_zero, List.set_cons_succ]
        refine wpAnyH_ready (rs := [39]) (by kernel_rfl) (by simp) ?_
        refine AllReadyH.cons rfl (fun K hK => ?_) AllReadyH.nil
        go_simp
        first
          | refine hK.out _ _ ?_ (fun hHeld => ?_)
          | (go_wp2_with fail
             refine hK.out _ _ ?_ (fun hHeld => ?_))
        · show KN w w1.heap.size (w1.heap.size + 1) (.slice A1 1 c1) (.slice B1 1 d1) _
          first | assumption | exact KN.drew (by assumption) | exact KN.alloc (by assumption) _ | exact KN.below (by assumption) (Below.refl _ _)
        clear hK K
        try simp only [Act.put, List.setIfInBounds_toArray, List.set_cons_zero, List.set_cons_succ]
        refine wpAnyH_done (by kernel_rfl) ?_ _
        go_wp2_with fail
        go_meet
        exact ⟨rfl, by assumption⟩
    · go_simp
      first
        | refine hK.out _ _ ?_ (fun hHeld => ?_)
        | (go_wp2_with fail
           refine hK.out _ _ ?_ (fun hHeld => ?_))
      · show KN w w1.heap.size (w1.heap.size + 1) (.slice A1 1 c1) (.slice B1 1 d1) _
        first | assumption | exact KN.drew (by assumption) | exact KN.alloc (by assumption) _ | exact KN.below (by assumption) (Below.refl _ _)
      clear hK K
      try simp only [Act.put, List.setIfInBounds_toArray, List.set_cons_zero, List.set_cons_succ]
      refine wpAnyH_ready (rs := [32]) (by kernel_rfl) (by simp) ?_
      refine AllReadyH.cons rfl (fun K hK => ?_) AllReadyH.nil
      go_simp
      first
        | refine hK.out _ _ ?_ (fun hHeld => ?_)
        | (go_wp2_with fail
           refine hK.out _ _ ?_ (fun hHeld => ?_))
      · show KN w w1.heap.size (w1.heap.size + 1) (.slice A1 1 c1) (.slice B1 1 d1) _
        first | assumption | exact KN.drew (by assumption) | exact KN.alloc (by assumption) _ | exact KN.below (by assumption) (Below.refl _ _)
      clear hK K
      try simp only [Act.put, List.setIfInBounds_toArray, List.set_cons_zero, List.set_cons_succ]
      refine wpAnyH_ready (rs := [33]) (by kernel_rfl) (by simp) ?_
      refine AllReadyH.cons rfl (fun K hK => ?_) AllReadyH.nil
      go_simp
      refine (law3Of _ _ _ [(1, 5), (1, 3), (1, 4)] _ (by first | exact SlAt.blk encD_len (heap_alloc_new1 _ _ _) | exact SlAt.blk encD_len (heap_alloc_new _ _) | exact SlAt.blk encD_len ((heap_alloc_old _ _ (by simp)).trans (heap_alloc_new _ _))) (by rfl) (by simp)).mono ?_
      rintro e wx76 ⟨⟨Ax76, cx76, rfl, hvx76⟩, hb1⟩
      have hSx76 := KN.below (show KN w w1.heap.size (w1.heap.size + 1) (.slice A1 1 c1) (.slice B1 1 d1) _ from by assumption) hb1
      have hx76 := hvx76.holds
      have dx78 : DotsAt wx76 (some ⟨wx70.heap.size, 0, none⟩) [(1, 3), (1, 5)] := SlAt.below (by exact SlAt.blk encD_len ((heap_alloc_old _ _ (by simp)).trans (heap_alloc_new _ _))) hb1
      clear hb1 hvx76
      first
        | refine hK.out _ _ ?_ (fun hHeld => ?_)
        | (go_wp2_with fail
           refine hK.out _ _ ?_ (fun hHeld => ?_))
      · show KN w w1.heap.size (w1.heap.size + 1) (.slice A1 1 c1) (.slice B1 1 d1) _
        first | assumption | exact KN.drew (by assumption) | exact KN.alloc (by assumption) _ | exact KN.below (by assumption) (Below.refl _ _)
      clear hK K
      try simp only [Act.put, List.setIfInBounds_toArray, List.set_cons_zero, List.set_cons_succ]
      refine wpAnyH_ready (rs := [34]) (by kernel_rfl) (by simp) ?_
      refine AllReadyH.cons rfl (fun K hK => ?_) AllReadyH.nil
      go_simp
      refine (miss_h _ _ _ [⟨(1, 2), by simp [Wf]⟩] [(1, 4)] [(1, 5), (1, 3), (1, 4)] [(1, 3), (1, 5)] _ (KN.c (show KN w w1.heap.size (w1.heap.size + 1) (.slice A1 1 c1) (.slice B1 1 d1) _ from by assumption)) (by first | exact hx76 | exact hx76.below ((Below.refl _ _).alloc (Nat.le_refl _) _)) (by simp) (by kernel_rfl)).mono ?_
      rintro e wx77 ⟨⟨Ax77, cx77, rfl, hx77⟩, hb1⟩
      have hSx77 := KN.below (show KN w w1.heap.size (w1.heap.size + 1) (.slice A1 1 c1) (.slice B1 1 d1) _ from by assumption) hb1
      have ex78 : DotsAt wx77 (some ⟨wx70.heap.size, 0, none⟩) [(1, 3), (1, 5)] := SlAt.below dx78 hb1
      clear hb1
      first
        | refine hK.out _ _ ?_ (fun hHeld => ?_)
        | (go_wp2_with fail
           refine hK.out _ _ ?_ (fun hHeld => ?_))
      · show KN w w1.heap.size (w1.heap.size + 1) (.slice A1 1 c1) (.slice B1 1 d1) _
        first | assumption | exact KN.drew (by assumption) | exact KN.alloc (by assumption) _ | exact KN.below (by assumption) (Below.refl _ _)
      clear hK K
      try simp only [Act.put, List.setIfInBounds_toArray, List.set_cons_zero, List.set_cons_succ]
      refine wpAnyH_ready (rs := [36]) (by kernel_rfl) (by simp) ?_
      refine AllReadyH.cons rfl (fun K hK => ?_) AllReadyH.nil
      go_simp
      refine (law3Of _ _ _ [(1, 3), (1, 5)] _ (by first | exact ex78 | exact SlAt.blk encD_len (heap_alloc_new _ _) | exact SlAt.blk encD_len ((heap_alloc_old _ _ (by simp)).trans (heap_alloc_new _ _))) (by rfl) (by simp)).mono ?_
      rintro e wx79 ⟨⟨Ax79, cx79, rfl, hvx79⟩, hb1⟩
      have hSx79 := KN.below (show KN w w1.heap.size (w1.heap.size + 1) (.slice A1 1 c1) (.slice B1 1 d1) _ from by assumption) hb1
      have hx79 := hvx79.holds
      have hy77 := Holds.below (by first | exact hx77 | exact hx77.below ((Below.refl _ _).alloc (Nat.le_refl _) _)) hb1
      clear hb1 hvx79
      first
        | refine hK.out _ _ ?_ (fun hHeld => ?_)
        | (go_wp2_with fail
           refine hK.out _ _ ?_ (fun hHeld => ?_))
      · show KN w w1.heap.size (w1.heap.size + 1) (.slice A1 1 c1) (.slice B1 1 d1) _
        first | assumption | exact KN.drew (by assumption) | exact KN.alloc (by assumption) _ | exact KN.below (by assumption) (Below.refl _ _)
      clear hK K
      try simp only [Act.put, List.setIfInBounds_toArray, List.set_cons_zero, List.set_cons_succ]
      refine wpAnyH_ready (rs := [37]) (by kernel_rfl) (by simp) ?_
      refine AllReadyH.cons rfl (fun K hK => ?_) AllReadyH.nil
      go_simp
      refine (same_h3 _ _ [(1, 3), (1, 5)] [(1, 3), (1, 5)] true _ hy77 hx79 (by kernel_rfl)).mono ?_
      rintro e wx80 ⟨rfl, hb1⟩
      have hSx80 := KN.below (show KN w w1.heap.size (w1.heap.size + 1) (.slice A1 1 c1) (.slice B1 1 d1) _ from by assumption) hb1
      clear hb1
      first
        | refine hK.out _ _ ?_ (fun hHeld => ?_)
        | (go_wp2_with fail
           refine hK.out _ _ ?_ (fun hHeld => ?_))
      · show KN w w1.heap.size (w1.heap.size + 1) (.slice A1 1 c1) (.slice B1 1 d1) _
        first | assumption | exact KN.drew (by assumption) | exact KN.alloc (by assumption) _ | exact KN.below (by assumption) (Below.refl _ _)
      clear hK K
      try simp only [Act.put, List.setIfInBounds_toArray, List.set_cons_zero, List.set_cons_succ]
      refine wpAnyH_ready (rs := [38]) (by kernel_rfl) (by simp) ?_
      refine AllReadyH.cons rfl (fun K hK => ?_) AllReadyH.nil
      go_simp
      first
        | refine hK.out _ _ ?_ (fun hHeld => ?_)
        | (go_wp2_with fail
           refine hK.out _ _ ?_ (fun hHeld => ?_))
      · show KN w w1.heap.size (w1.heap.size + 1) (.slice A1 1 c1) (.slice B1 1 d1) _
        first | assumption | exact KN.drew (by assumption) | exact KN.alloc (by assumption) _ | exact KN.below (by assumption) (Below.refl _ _)
      clear hK K
      try simp only [Act.put, List.setIfInBounds_toArray, List.set_cons_zero, List.set_cons_succ]
      refine wpAnyH_ready (rs := [39]) (by kernel_rfl) (by simp) ?_
      refine AllReadyH.cons rfl (fun K hK => ?_) AllReadyH.nil
      go_simp
      first
        | refine hK.out _ _ ?_ (fun hHeld => ?_)
        | (go_wp2_with fail
           refine hK.out _ _ ?_ (fun hHeld => ?_))
      · show KN w w1.heap.size (w1.heap.size + 1) (.slice A1 1 c1) (.slice B1 1 d1) _
        first | assumption | exact KN.drew (by assumption) | exact KN.alloc (by assumption) _ | exact KN.below (by assumption) (Below.refl _ _)
      clear hK K
      try simp only [Act.put, List.setIfInBounds_toArray, List.set_cons_zero, List.set_cons_succ]
      refine wpAnyH_done (by kernel_rfl) ?_ _
      go_wp2_with fail
      go_meet
      exact ⟨rfl, by assumption⟩
  case rest =>
    obtain ⟨rfl, K⟩ := hcut
    try go_wp2_with fail
    go_cut [113] (fun b wx => b = .bool false ∧ KN w w1.heap.size (w1.heap.size + 1) (.slice A1 1 c1) (.slice B1 1 d1) wx)
    case first =>
      try clear k0 k1 k2 k3
      obtain ⟨k0, k1, k2, k3, kx⟩ := id K
      refine wp_region_held_drew (S := (fun W => W.cell? ⟨w1.heap.size, 0, none⟩ = some (.slice A1 1 c1) ∧ W.cell? ⟨w1.heap.size, 1, none⟩ = some (.slice B1 1 d1) ∧ W.cell? ⟨w1.heap.size + 1, 0, none⟩ = some (.slice none 0 0) ∧ W.cell? ⟨w1.heap.size + 1, 1, none⟩ = some (.slice none 0 0) ∧ KX w [(⟨w1.heap.size + 1, 0, none⟩, .slice none 0 0), (⟨w1.heap.size + 1, 1, none⟩, .slice none 0 0), (⟨w1.heap.size, 0, none⟩, .slice A1 1 c1), (⟨w1.heap.size, 1, none⟩, .slice B1 1 d1)] [(.slice A1 1 c1, [(1, 2)]), (.slice B1 1 d1, [(1, 4)])] W)) (by kernel_rfl) ?_ (fun hHeld => ?_)
      · exact KN.drew K
      clear K k0 k1 k2 k3 kx
      apply join6_0 (KN w w1.heap.size (w1.heap.size + 1) (.slice A1 1 c1) (.slice B1 1 d1))
      · intro j
        refine wpAnyH_ready (rs := [0, 2]) (by kernel_rfl) (by simp) ?_
        refine AllReadyH.cons rfl (fun K hK => ?_) (AllReadyH.cons rfl (fun K hK => ?_) AllReadyH.nil)
        · go_simp
          first
            | refine hK.out _ _ ?_ (fun hHeld => ?_)
            | (go_wp2_with fail
               refine hK.out _ _ ?_ (fun hHeld => ?_))
          · show KN w w1.heap.size (w1.heap.size + 1) (.slice A1 1 c1) (.slice B1 1 d1) _
            first | assumption | exact KN.drew (by assumption) | exact KN.alloc (by assumption) _ | exact KN.below (by assumption) (Below.refl _ _)
          clear hK K
          try simp only [Act.put, List.setIfInBounds_toArray, List.set_cons_zero, List.set_cons_succ]
          refine wpAnyH_ready (rs := [1, 2]) (by kernel_rfl) (by simp) ?_
          refine AllReadyH.cons rfl (fun K hK => ?_) (AllReadyH.cons rfl (fun K hK => ?_) AllReadyH.nil)
          · go_simp
            refine (law3Of _ _ _ [(1, 3), (1, 1), (2, 2), (1, 2)] _ (by first | exact SlAt.blk encD_len (heap_alloc_new _ _) | exact SlAt.blk encD_len ((heap_alloc_old _ _ (by simp)).trans (heap_alloc_new _ _))) (by rfl) (by simp)).mono ?_
            rintro e wx84 ⟨⟨Ax84, cx84, rfl, hvx84⟩, hb1⟩
            have hSx84 := KN.below (show KN w w1.heap.size (w1.heap.size + 1) (.slice A1 1 c1) (.slice B1 1 d1) _ from by assumption) hb1
            have hx84 := hvx84.holds
            clear hb1 hvx84
            first
              | refine hK.out _ _ ?_ (fun hHeld => ?_)
              | (go_wp2_with fail
                 refine hK.out _ _ ?_ (fun hHeld => ?_))
            · show KN w w1.heap.size (w1.heap.size + 1) (.slice A1 1 c1) (.slice B1 1 d1) _
              first | assumption | exact KN.drew (by assumption) | exact KN.alloc (by assumption) _ | exact KN.below (by assumption) (Below.refl _ _)
            clear hK K
            try simp only [Act.put, List.setIfInBounds_toArray, List.set_cons_zero, List.set_cons_succ]
            refine wpAnyH_ready (rs := [2]) (by kernel_rfl) (by simp) ?_
            refine AllReadyH.cons rfl (fun K hK => ?_) AllReadyH.nil
            go_simp
            first
              | refine hK.out _ _ ?_ (fun hHeld => ?_)
              | (go_wp2_with fail
                 refine hK.out _ _ ?_ (fun hHeld => ?_))
            · show KN w w1.heap.size (w1.heap.size + 1) (.slice A1 1 c1) (.slice B1 1 d1) _
              first | assumption | exact KN.drew (by assumption) | exact KN.alloc (by assumption) _ | exact KN.below (by assumption) (Below.refl _ _)
            clear hK K
            try simp only [Act.put, List.setIfInBounds_toArray, List.set_cons_zero, List.set_cons_succ]
            refine wpAnyH_ready (rs := [3]) (by kernel_rfl) (by simp) ?_
            refine AllReadyH.cons rfl (fun K hK => ?_) AllReadyH.nil
            go_simp
            refine (con_h 1 _ _ _ [(1, 3), (2, 2)] [(1, 3)] [(2, 2)] _ (by first | exact SlAt.blk encD_len (heap_alloc_new _ _) | exact SlAt.blk encD_len ((heap_alloc_old _ _ (by simp)).trans (heap_alloc_new _ _))) (by rfl) (by simp) (by simp) (by simp) rfl rfl).mono ?_
            rintro e wx86 ⟨⟨Ax86, cx86, Bx86, dx86, rfl, hx86⟩, hb1⟩
            have hSx86 := KN.below (show KN w w1.heap.size (w1.heap.size + 1) (.slice A1 1 c1) (.slice B1 1 d1) _ from by assumption) hb1
            have h2x84 := Holds.below (by first | exact hx84 | exact Holds.below hx84 ((Below.refl _ _).alloc (Nat.le_refl _) _)) hb1
            clear hb1
            first
              | refine hK.out _ _ ?_ (fun hHeld => ?_)
              | (go_wp2_with fail
                 refine hK.out _ _ ?_ (fun hHeld => ?_))
            · show KN w w1.heap.size (w1.heap.size + 1) (.slice A1 1 c1) (.slice B1 1 d1) _
              first | assumption | exact KN.drew (by assumption) | exact KN.alloc (by assumption) _ | exact KN.below (by assumption) (Below.refl _ _)
            clear hK K
            try simp only [Act.put, List.setIfInBounds_toArray, List.set_cons_zero, List.set_cons_succ]
            refine wpAnyH_ready (rs := [4]) (by kernel_rfl) (by simp) ?_
            refine AllReadyH.cons rfl (fun K hK => ?_) AllReadyH.nil
            go_simp
            refine (law3Made _ _ [(1, 3), (1, 1), (2, 2), (1, 2)] [(1, 3)] [(2, 2)] 0 true _ h2x84 hx86 (by simp) (by kernel_rfl)).mono ?_
            rintro e wx87 ⟨rfl, hb1⟩
            have hSx87 := KN.below (show KN w w1.heap.size (w1.heap.size + 1) (.slice A1 1 c1) (.slice B1 1 d1) _ from by assumption) hb1
            clear hb1
            first
              | refine hK.out _ _ ?_ (fun hHeld => ?_)
              | (go_wp2_with fail
                 refine hK.out _ _ ?_ (fun hHeld => ?_))
            · show KN w w1.heap.size (w1.heap.size + 1) (.slice A1 1 c1) (.slice B1 1 d1) _
              first | assumption | exact KN.drew (by assumption) | exact KN.alloc (by assumption) _ | exact KN.below (by assumption) (Below.refl _ _)
            clear hK K
            try simp only [Act.put, List.setIfInBounds_toArray, List.set_cons_zero, List.set_cons_succ]
            refine wpAnyH_ready (rs := [5]) (by kernel_rfl) (by simp) ?_
            refine AllReadyH.cons rfl (fun K hK => ?_) AllReadyH.nil
            go_simp
            first
              | refine hK.out _ _ ?_ (fun hHeld => ?_)
              | (go_wp2_with fail
                 refine hK.out _ _ ?_ (fun hHeld => ?_))
            · show KN w w1.heap.size (w1.heap.size + 1) (.slice A1 1 c1) (.slice B1 1 d1) _
              first | assumption | exact KN.drew (by assumption) | exact KN.alloc (by assumption) _ | exact KN.below (by assumption) (Below.refl _ _)
            clear hK K
            try simp only [Act.put, List.setIfInBounds_toArray, List.set_cons_zero, List.set_cons_succ]
            refine wpAnyH_ready (rs := [6]) (by kernel_rfl) (by simp) ?_
            refine AllReadyH.cons rfl (fun K hK => ?_) AllReadyH.nil
            go_simp
            first
              | refine hK.out _ _ ?_ (fun hHeld => ?_)
              | (go_wp2_with fail
                 refine hK.out _ _ ?_ (fun hHeld => ?_))
            · show KN w w1.heap.size (w1.heap.size + 1) (.slice A1 1 c1) (.slice B1 1 d1) _
              first | assumption | exact KN.drew (by assumption) | exact KN.alloc (by assumption) _ | exact KN.below (by assumption) (Below.refl _ _)
            clear hK K
            try simp only [Act.put, List.setIfInBounds_toArray, List.set_cons_zero, List.set_cons_succ]
            generalize (Value.slice (some ⟨_, 0, none⟩) 8 8) = v83
            generalize (Value.slice (some ⟨_, 0, none⟩) 4 4) = v85
            exact j v83 v85 Ax84 cx84 Ax86 cx86 Bx86 dx86 wx87 (by assumption)
          · go_simp
            first
              | refine hK.out _ _ ?_ (fun hHeld => ?_)
              | (go_wp2_with fail
                 refine hK.out _ _ ?_ (fun hHeld => ?_))
            · show KN w w1.heap.size (w1.heap.size + 1) (.slice A1 1 c1) (.slice B1 1 d1) _
              first | assumption | exact KN.drew (by assumption) | exact KN.alloc (by assumption) _ | exact KN.below (by assumption) (Below.refl _ _)
            clear hK K
            try simp only [Act.put, List.setIfInBounds_toArray, List.set_cons_zero, List.set_cons_succ]
            refine wpAnyH_ready (rs := [1]) (by kernel_rfl) (by simp) ?_
            refine AllReadyH.cons rfl (fun K hK => ?_) AllReadyH.nil
            go_simp
            refine (law3Of _ _ _ [(1, 3), (1, 1), (2, 2), (1, 2)] _ (by first | exact SlAt.blk encD_len ((heap_alloc_old _ _ (by simp)).trans (heap_alloc_new _ _)) | exact SlAt.blk encD_len (heap_alloc_new _ _) | exact SlAt.blk encD_len ((heap_alloc_old _ _ (by simp)).trans (heap_alloc_new _ _))) (by rfl) (by simp)).mono ?_
            rintro e wx84 ⟨⟨Ax84, cx84, rfl, hvx84⟩, hb1⟩
            have hSx84 := KN.below (show KN w w1.heap.size (w1.heap.size + 1) (.slice A1 1 c1) (.slice B1 1 d1) _ from by assumption) hb1
            have hx84 := hvx84.holds
            have dx : DotsAt wx84 (some ⟨wc.heap.size + 1, 0, none⟩) [(1, 3), (2, 2)] := SlAt.below (by exact SlAt.blk encD_len (heap_alloc_new1 _ _ _)) hb1
            clear hb1 hvx84
            first
              | refine hK.out _ _ ?_ (fun hHeld => ?_)
              | (go_wp2_with fail
                 refine hK.out _ _ ?_ (fun hHeld => ?_))
            · show KN w w1.heap.size (w1.heap.size + 1) (.slice A1 1 c1) (.slice B1 1 d1) _
              first | assumption | exact KN.drew (by assumption) | exact KN.alloc (by assumption) _ | exact KN.below (by assumption) (Below.refl _ _)
            clear hK K
            try simp only [Act.put, List.setIfInBounds_toArray, List.set_cons_zero, List.set_cons_succ]
            refine wpAnyH_ready (rs := [3]) (by kernel_rfl) (by simp) ?_
            refine AllReadyH.cons rfl (fun K hK => ?_) AllReadyH.nil
            go_simp
            refine (con_h 1 _ _ _ [(1, 3), (2, 2)] [(1, 3)] [(2, 2)] _ (by first | exact dx | exact SlAt.blk encD_len (heap_alloc_new _ _) | exact SlAt.blk encD_len ((heap_alloc_old _ _ (by simp)).trans (heap_alloc_new _ _))) (by rfl) (by simp) (by simp) (by simp) rfl rfl).mono ?_
            rintro e wx86 ⟨⟨Ax86, cx86, Bx86, dx86, rfl, hx86⟩, hb1⟩
            have hSx86 := KN.below (show KN w w1.heap.size (w1.heap.size + 1) (.slice A1 1 c1) (.slice B1 1 d1) _ from by assumption) hb1
            have h2x84 := Holds.below (by first | exact hx84 | exact Holds.below hx84 ((Below.refl _ _).alloc (Nat.le_refl _) _)) hb1
            clear hb1
            first
              | refine hK.out _ _ ?_ (fun hHeld => ?_)
              | (go_wp2_with fail
                 refine hK.out _ _ ?_ (fun hHeld => ?_))
            · show KN w w1.heap.size (w1.heap.size + 1) (.slice A1 1 c1) (.slice B1 1 d1) _
              first | assumption | exact KN.drew (by assumption) | exact KN.alloc (by assumption) _ | exact KN.below (by assumption) (Below.refl _ _)
            clear hK K
            try simp only [Act.put, List.setIfInBounds_toArray, List.set_cons_zero, List.set_cons_succ]
            refine wpAnyH_ready (rs := [4]) (by kernel_rfl) (by simp) ?_
            refine AllReadyH.cons rfl (fun K hK => ?_) AllReadyH.nil
            go_simp
            refine (law3Made _ _ [(1, 3), (1, 1), (2, 2), (1, 2)] [(1, 3)] [(2, 2)] 0 true _ h2x84 hx86 (by simp) (by kernel_rfl)).mono ?_
            rintro e wx87 ⟨rfl, hb1⟩
            have hSx87 := KN.below (show KN w w1.heap.size (w1.heap.size + 1) (.slice A1 1 c1) (.slice B1 1 d1) _ from by assumption) hb1
            clear hb1
            first
              | refine hK.out _ _ ?_ (fun hHeld => ?_)
              | (go_wp2_with fail
                 refine hK.out _ _ ?_ (fun hHeld => ?_))
            · show KN w w1.heap.size (w1.heap.size + 1) (.slice A1 1 c1) (.slice B1 1 d1) _
              first | assumption | exact KN.drew (by assumption) | exact KN.alloc (by assumption) _ | exact KN.below (by assumption) (Below.refl _ _)
            clear hK K
            try simp only [Act.put, List.setIfInBounds_toArray, List.set_cons_zero, List.set_cons_succ]
            refine wpAnyH_ready (rs := [5]) (by kernel_rfl) (by simp) ?_
            refine AllReadyH.cons rfl (fun K hK => ?_) AllReadyH.nil
            go_simp
            first
              | refine hK.out _ _ ?_ (fun hHeld => ?_)
              | (go_wp2_with fail
                 refine hK.out _ _ ?_ (fun hHeld => ?_))
            · show KN w w1.heap.size (w1.heap.size + 1) (.slice A1 1 c1) (.slice B1 1 d1) _
              first | assumption | exact KN.drew (by assumption) | exact KN.alloc (by assumption) _ | exact KN.below (by assumption) (Below.refl _ _)
            clear hK K
            try simp only [Act.put, List.setIfInBounds_toArray, List.set_cons_zero, List.set_cons_succ]
            refine wpAnyH_ready (rs := [6]) (by kernel_rfl) (by simp) ?_
            refine AllReadyH.cons rfl (fun K hK => ?_) AllReadyH.nil
            go_simp
            first
              | refine hK.out _ _ ?_ (fun hHeld => ?_)
              | (go_wp2_with fail
                 refine hK.out _ _ ?_ (fun hHeld => ?_))
            · show KN w w1.heap.size (w1.heap.size + 1) (.slice A1 1 c1) (.slice B1 1 d1) _
              first | assumption | exact KN.drew (by assumption) | exact KN.alloc (by assumption) _ | exact KN.below (by assumption) (Below.refl _ _)
            clear hK K
            try simp only [Act.put, List.setIfInBounds_toArray, List.set_cons_zero, List.set_cons_succ]
            exact j _ _ _ _ _ _ _ _ _ (by assumption)
        · go_simp
          first
            | refine hK.out _ _ ?_ (fun hHeld => ?_)
            | (go_wp2_with fail
               refine hK.out _ _ ?_ (fun hHeld => ?_))
          · show KN w w1.heap.size (w1.heap.size + 1) (.slice A1 1 c1) (.slice B1 1 d1) _
            first | assumption | exact KN.drew (by assumption) | exact KN.alloc (by assumption) _ | exact KN.below (by assumption) (Below.refl _ _)
          clear hK K
          try simp only [Act.put, List.setIfInBounds_toArray, List.set_cons_zero, List.set_cons_succ]
          refine wpAnyH_ready (rs := [0]) (by kernel_rfl) (by simp) ?_
          refine AllReadyH.cons rfl (fun K hK => ?_) AllReadyH.nil
          go_simp
          first
            | refine hK.out _ _ ?_ (fun hHeld => ?_)
            | (go_wp2_with fail
               refine hK.out _ _ ?_ (fun hHeld => ?_))
          · show KN w w1.heap.size (w1.heap.size + 1) (.slice A1 1 c1) (.slice B1 1 d1) _
            first | assumption | exact KN.drew (by assumption) | exact KN.alloc (by assumption) _ | exact KN.below (by assumption) (Below.refl _ _)
          clear hK K
          try simp only [Act.put, List.setIfInBounds_toArray, List.set_cons_zero, List.set_cons_succ]
          refine wpAnyH_ready (rs := [1]) (by kernel_rfl) (by simp) ?_
          refine AllReadyH.cons rfl (fun K hK => ?_) AllReadyH.nil
          go_simp
          refine (law3Of _ _ _ [(1, 3), (1, 1), (2, 2), (1, 2)] _ (by first | exact SlAt.blk encD_len (heap_alloc_new1 _ _ _) | exact SlAt.blk encD_len (heap_alloc_new _ _) | exact SlAt.blk encD_len ((heap_alloc_old _ _ (by simp)).trans (heap_alloc_new _ _))) (by rfl) (by simp)).mono ?_
          rintro e wx84 ⟨⟨Ax84, cx84, rfl, hvx84⟩, hb1⟩
          have hSx84 := KN.below (show KN w w1.heap.size (w1.heap.size + 1) (.slice A1 1 c1) (.slice B1 1 d1) _ from by assumption) hb1
          have hx84 := hvx84.holds
          have dx : DotsAt wx84 (some ⟨wc.heap.size, 0, none⟩) [(1, 3), (2, 2)] := SlAt.below (by exact SlAt.blk encD_len ((heap_alloc_old _ _ (by simp)).trans (heap_alloc_new _ _))) hb1
          clear hb1 hvx84
          first
            | refine hK.out _ _ ?_ (fun hHeld => ?_)
            | (go_wp2_with fail
               refine hK.out _ _ ?_ (fun hHeld => ?_))
          · show KN w w1.heap.size (w1.heap.size + 1) (.slice A1 1 c1) (.slice B1 1 d1) _
            first | assumption | exact KN.drew (by assumption) | exact KN.alloc (by assumption) _ | exact KN.below (by assumption) (Below.refl _ _)
          clear hK K
          try simp only [Act.put, List.setIfInBounds_toArray, List.set_cons_zero, List.set_cons_succ]
          refine wpAnyH_ready (rs := [3]) (by kernel_rfl) (by simp) ?_
          refine AllReadyH.cons rfl (fun K hK => ?_) AllReadyH.nil
          go_simp
          refine (con_h 1 _ _ _ [(1, 3), (2, 2)] [(1, 3)] [(2, 2)] _ (by first | exact dx | exact SlAt.blk encD_len (heap_alloc_new _ _) | exact SlAt.blk encD_len ((heap_alloc_old _ _ (by simp)).trans (heap_alloc_new _ _))) (by rfl) (by simp) (by simp) (by simp) rfl rfl).mono ?_
          rintro e wx86 ⟨⟨Ax86, cx86, Bx86, dx86, rfl, hx86⟩, hb1⟩
          have hSx86 := KN.below (show KN w w1.heap.size (w1.heap.size + 1) (.slice A1 1 c1) (.slice B1 1 d1) _ from by assumption) hb1
          have h2x84 := Holds.below (by first | exact hx84 | exact Holds.below hx84 ((Below.refl _ _).alloc (Nat.le_refl _) _)) hb1
          clear hb1
          first
            | refine hK.out _ _ ?_ (fun hHeld => ?_)
            | (go_wp2_with fail
               refine hK.out _ _ ?_ (fun hHeld => ?_))
          · show KN w w1.heap.size (w1.heap.size + 1) (.slice A1 1 c1) (.slice B1 1 d1) _
            first | assumption | exact KN.drew (by assumption) | exact KN.alloc (by assumption) _ | exact KN.below (by assumption) (Below.refl _ _)
          clear hK K
          try simp only [Act.put, List.setIfInBounds_toArray, List.set_cons_zero, List.set_cons_succ]
          refine wpAnyH_ready (rs := [4]) (by kernel_rfl) (by simp) ?_
          refine AllReadyH.cons rfl (fun K hK => ?_) AllReadyH.nil
          go_simp
          refine (law3Made _ _ [(1, 3), (1, 1), (2, 2), (1, 2)] [(1, 3)] [(2, 2)] 0 true _ h2x84 hx86 (by simp) (by kernel_rfl)).mono ?_
          rintro e wx87 ⟨rfl, hb1⟩
          have hSx87 := KN.below (show KN w w1.heap.size (w1.heap.size + 1) (.slice A1 1 c1) (.slice B1 1 d1) _ from by assumption) hb1
          clear hb1
          first
            | refine hK.out _ _ ?_ (fun hHeld => ?_)
            | (go_wp2_with fail
               refine hK.out _ _ ?_ (fun hHeld => ?_))
          · show KN w w1.heap.size (w1.heap.size + 1) (.slice A1 1 c1) (.slice B1 1 d1) _
            first | assumption | exact KN.drew (by assumption) | exact KN.alloc (by assumption) _ | exact KN.below (by assumption) (Below.refl _ _)
          clear hK K
          try simp only [Act.put, List.setIfInBounds_toArray, List.set_cons_zero, List.set_cons_succ]
          refine wpAnyH_ready (rs := [5]) (by kernel_rfl) (by simp) ?_
          refine AllReadyH.cons rfl (fun K hK => ?_) AllReadyH.nil
          go_simp
          first
            | refine hK.out _ _ ?_ (fun hHeld => ?_)
            | (go_wp2_with fail
               refine hK.out _ _ ?_ (fun hHeld => ?_))
          · show KN w w1.heap.size (w1.heap.size + 1) (.slice A1 1 c1) (.slice B1 1 d1) _
            first | assumption | exact KN.drew (by assumption) | exact KN.alloc (by assumption) _ | exact KN.below (by assumption) (Below.refl _ _)
          clear hK K
          try simp only [Act.put, List.setIfInBounds_toArray, List.set_cons_zero, List.set_cons_succ]
          refine wpAnyH_ready (rs := [6]) (by kernel_rfl) (by simp) ?_
          refine AllReadyH.cons rfl (fun K hK => ?_) AllReadyH.nil
          go_simp
          first
            | refine hK.out _ _ ?_ (fun hHeld => ?_)
            | (go_wp2_with fail
               refine hK.out _ _ ?_ (fun hHeld => ?_))
          · show KN w w1.heap.size (w1.heap.size + 1) (.slice A1 1 c1) (.slice B1 1 d1) _
            first | assumption | exact KN.drew (by assumption) | exact KN.alloc (by assumption) _ | exact KN.below (by assumption) (Below.refl _ _)
          clear hK K
          try simp only [Act.put, List.setIfInBounds_toArray, List.set_cons_zero, List.set_cons_succ]
          exact j _ _ _ _ _ _ _ _ _ (by assumption)
      intro v83 v85 A84 c84 A86 c86 B86 d86 wj0 hSj0
      apply join6_1 (KN w w1.heap.size (w1.heap.size + 1) (.slice A1 1 c1) (.slice B1 1 d1))
      · intro j
        refine wpAnyH_take (i := 7) (v := ?_) rfl (by kernel_rfl) (by kernel_rfl) (by kernel_rfl) (fun _ _ _ h => h) (Or.inl ⟨by rfl, ?_⟩) (by assumption) ?_
        rotate_left 1
        · intro w hSw
          (try dsimp only at hSw)
          go_simp
          try with_reducible rfl
        try simp only [Act.put, List.setIfInBounds_toArray]
        refine wpAnyH_ready (rs := [8, 10]) (by kernel_rfl) (by simp) ?_
        refine AllReadyH.cons rfl (fun K hK => ?_) (AllReadyH.cons rfl (fun K hK => ?_) AllReadyH.nil)
        · go_simp
          first
            | refine hK.out _ _ ?_ (fun hHeld => ?_)
            | (go_wp2_with fail
               refine hK.out _ _ ?_ (fun hHeld => ?_))
          · show KN w w1.heap.size (w1.heap.size + 1) (.slice A1 1 c1) (.slice B1 1 d1) _
            first | assumption | exact KN.drew (by assumption) | exact KN.alloc (by assumption) _ | exact KN.below (by assumption) (Below.refl _ _)
          clear hK K
          try simp only [Act.put, List.setIfInBounds_toArray, List.set_cons_zero, List.set_cons_succ]
          refine wpAnyH_ready (rs := [9, 10]) (by kernel_rfl) (by simp) ?_
          refine AllReadyH.cons rfl (fun K hK => ?_) (AllReadyH.cons rfl (fun K hK => ?_) AllReadyH.nil)
          · go_simp
            refine (law3Of _ _ _ [(1, 3)] _ (by first | exact SlAt.blk encD_len (heap_alloc_new _ _) | exact SlAt.blk encD_len ((heap_alloc_old _ _ (by simp)).trans (heap_alloc_new _ _))) (by rfl) (by simp)).mono ?_
            rintro e wx92 ⟨⟨Ax92, cx92, rfl, hvx92⟩, hb1⟩
            have hSx92 := KN.below (show KN w w1.heap.size (w1.heap.size + 1) (.slice A1 1 c1) (.slice B1 1 d1) _ from by assumption) hb1
            have hx92 := hvx92.holds
            clear hb1 hvx92
            first
              | refine hK.out _ _ ?_ (fun hHeld => ?_)
              | (go_wp2_with fail
                 refine hK.out _ _ ?_ (fun hHeld => ?_))
            · show KN w w1.heap.size (w1.heap.size + 1) (.slice A1 1 c1) (.slice B1 1 d1) _
              first | assumption | exact KN.drew (by assumption) | exact KN.alloc (by assumption) _ | exact KN.below (by assumption) (Below.refl _ _)
            clear hK K
            try simp only [Act.put, List.setIfInBounds_toArray, List.set_cons_zero, List.set_cons_succ]
            refine wpAnyH_ready (rs := [10]) (by kernel_rfl) (by simp) ?_
            refine AllReadyH.cons rfl (fun K hK => ?_) AllReadyH.nil
            go_simp
            first
              | refine hK.out _ _ ?_ (fun hHeld => ?_)
              | (go_wp2_with fail
                 refine hK.out _ _ ?_ (fun hHeld => ?_))
            · show KN w w1.heap.size (w1.heap.size + 1) (.slice A1 1 c1) (.slice B1 1 d1) _
              first | assumption | exact KN.drew (by assumption) | exact KN.alloc (by assumption) _ | exact KN.below (by assumption) (Below.refl _ _)
            clear hK K
            try simp only [Act.put, List.setIfInBounds_toArray, List.set_cons_zero, List.set_cons_succ]
            refine wpAnyH_ready (rs := [11]) (by kernel_rfl) (by simp) ?_
            refine AllReadyH.cons rfl (fun K hK => ?_) AllReadyH.nil
            go_simp
            refine (con_h 1 _ _ _ [(1, 4)] [(1, 4)] [] _ (by first | exact SlAt.blk encD_len (heap_alloc_new _ _) | exact SlAt.blk encD_len ((heap_alloc_old _ _ (by simp)).trans (heap_alloc_new _ _))) (by rfl) (by simp) (by simp) (by simp) rfl rfl).mono ?_
            rintro e wx94 ⟨⟨Ax94, cx94, Bx94, dx94, rfl, hx94⟩, hb1⟩
            have hSx94 := KN.below (show KN w w1.heap.size (w1.heap.size + 1) (.slice A1 1 c1) (.slice B1 1 d1) _ from by assumption) hb1
            have h2x92 := Holds.below (by first | exact hx92 | exact Holds.below hx92 ((Below.refl _ _).alloc (Nat.le_refl _) _)) hb1
            clear hb1
            first
              | refine hK.out _ _ ?_ (fun hHeld => ?_)
              | (go_wp2_with fail
                 refine hK.out _ _ ?_ (fun hHeld => ?_))
            · show KN w w1.heap.size (w1.heap.size + 1) (.slice A1 1 c1) (.slice B1 1 d1) _
              first | assumption | exact KN.drew (by assumption) | exact KN.alloc (by assumption) _ | exact KN.below (by assumption) (Below.refl _ _)
            clear hK K
            try simp only [Act.put, List.setIfInBounds_toArray, List.set_cons_zero, List.set_cons_succ]
            refine wpAnyH_ready (rs := [12]) (by kernel_rfl) (by simp) ?_
            refine AllReadyH.cons rfl (fun K hK => ?_) AllReadyH.nil
            go_simp
            refine (law3Added _ _ _ [(1, 2)] [(1, 4)] [(1, 3)] [(1, 4)] [] 0 true _ (KN.c (show KN w w1.heap.size (w1.heap.size + 1) (.slice A1 1 c1) (.slice B1 1 d1) _ from by assumption)) h2x92 hx94 (by simp) (by kernel_rfl)).mono ?_
            rintro e wx95 ⟨rfl, hb1⟩
            have hSx95 := KN.below (show KN w w1.heap.size (w1.heap.size + 1) (.slice A1 1 c1) (.slice B1 1 d1) _ from by assumption) hb1
            clear hb1
            first
              | refine hK.out _ _ ?_ (fun hHeld => ?_)
              | (go_wp2_with fail
                 refine hK.out _ _ ?_ (fun hHeld => ?_))
            · show KN w w1.heap.size (w1.heap.size + 1) (.slice A1 1 c1) (.slice B1 1 d1) _
              first | assumption | exact KN.drew (by assumption) | exact KN.alloc (by assumption) _ | exact KN.below (by assumption) (Below.refl _ _)
            clear hK K
            try simp only [Act.put, List.setIfInBounds_toArray, List.set_cons_zero, List.set_cons_succ]
            refine wpAnyH_ready (rs := [13]) (by kernel_rfl) (by simp) ?_
            refine AllReadyH.cons rfl (fun K hK => ?_) AllReadyH.nil
            go_simp
            first
              | refine hK.out _ _ ?_ (fun hHeld => ?_)
              | (go_wp2_with fail
                 refine hK.out _ _ ?_ (fun hHeld => ?_))
            · show KN w w1.heap.size (w1.heap.size + 1) (.slice A1 1 c1) (.slice B1 1 d1) _
              first | assumption | exact KN.drew (by assumption) | exact KN.alloc (by assumption) _ | exact KN.below (by assumption) (Below.refl _ _)
            clear hK K
            try simp only [Act.put, List.setIfInBounds_toArray, List.set_cons_zero, List.set_cons_succ]
            refine wpAnyH_ready (rs := [14]) (by kernel_rfl) (by simp) ?_
            refine AllReadyH.cons rfl (fun K hK => ?_) AllReadyH.nil
            go_simp
            first
              | refine hK.out _ _ ?_ (fun hHeld => ?_)
              | (go_wp2_with fail
                 refine hK.out _ _ ?_ (fun hHeld => ?_))
            · show KN w w1.heap.size (w1.heap.size + 1) (.slice A1 1 c1) (.slice B1 1 d1) _
              first | assumption | exact KN.drew (by assumption) | exact KN.alloc (by assumption) _ | exact KN.below (by assumption) (Below.refl _ _)
            clear hK K
            try simp only [Act.put, List.setIfInBounds_toArray, List.set_cons_zero, List.set_cons_succ]
            refine wpAnyH_ready (rs := [15]) (by kernel_rfl) (by simp) ?_
            refine AllReadyH.cons rfl (fun K hK => ?_) AllReadyH.nil
            go_simp
            first
              | refine hK.out _ _ ?_ (fun hHeld => ?_)
              | (go_wp2_with fail
                 refine hK.out _ _ ?_ (fun hHeld => ?_))
            · show KN w w1.heap.size (w1.heap.size + 1) (.slice A1 1 c1) (.slice B1 1 d1) _
              first | assumption | exact KN.drew (by assumption) | exact KN.alloc (by assumption) _ | exact KN.below (by assumption) (Below.refl _ _)
            clear hK K
            try simp only [Act.put, List.setIfInBounds_toArray, List.set_cons_zero, List.set_cons_succ]
            generalize (Value.slice (some ⟨_, 0, none⟩) 2 2) = v91
            generalize (Value.slice (some ⟨_, 0, none⟩) 2 2) = v93
            exact j v91 v93 Ax92 cx92 Ax94 cx94 Bx94 dx94 wx95 (by assumption)
          · go_simp
            first
              | refine hK.out _ _ ?_ (fun hHeld => ?_)
              | (go_wp2_with fail
                 refine hK.out _ _ ?_ (fun hHeld => ?_))
            · show KN w w1.heap.size (w1.heap.size + 1) (.slice A1 1 c1) (.slice B1 1 d1) _
              first | assumption | exact KN.drew (by assumption) | exact KN.alloc (by assumption) _ | exact KN.below (by assumption) (Below.refl _ _)
            clear hK K
            try simp only [Act.put, List.setIfInBounds_toArray, List.set_cons_zero, List.set_cons_succ]
            refine wpAnyH_ready (rs := [9]) (by kernel_rfl) (by simp) ?_
            refine AllReadyH.cons rfl (fun K hK => ?_) AllReadyH.nil
            go_simp
            refine (law3Of _ _ _ [(1, 3)] _ (by first | exact SlAt.blk encD_len ((heap_alloc_old _ _ (by simp)).trans (heap_alloc_new _ _)) | exact SlAt.blk encD_len (heap_alloc_new _ _) | exact SlAt.blk encD_len ((heap_alloc_old _ _ (by simp)).trans (heap_alloc_new _ _))) (by rfl) (by simp)).mono ?_
            rintro e wx92 ⟨⟨Ax92, cx92, rfl, hvx92⟩, hb1⟩
            have hSx92 := KN.below (show KN w w1.heap.size (w1.heap.size + 1) (.slice A1 1 c1) (.slice B1 1 d1) _ from by assumption) hb1
            have hx92 := hvx92.holds
            have dx : DotsAt wx92 (some ⟨wj0.heap.size + 1, 0, none⟩) [(1, 4)] := SlAt.below (by exact SlAt.blk encD_len (heap_alloc_new1 _ _ _)) hb1
            clear hb1 hvx92
            first
              | refine hK.out _ _ ?_ (fun hHeld => ?_)
              | (go_wp2_with fail
                 refine hK.out _ _ ?_ (fun hHeld => ?_))
            · show KN w w1.heap.size (w1.heap.size + 1) (.slice A1 1 c1) (.slice B1 1 d1) _
              first | assumption | exact KN.drew (by assumption) | exact KN.alloc (by assumption) _ | exact KN.below (by assumption) (Below.refl _ _)
            clear hK K
            try simp only [Act.put, List.setIfInBounds_toArray, List.set_cons_zero, List.set_cons_succ]
            refine wpAnyH_ready (rs := [11]) (by kernel_rfl) (by simp) ?_
            refine AllReadyH.cons rfl (fun K hK => ?_) AllReadyH.nil
            go_simp
            refine (con_h 1 _ _ _ [(1, 4)] [(1, 4)] [] _ (by first | exact dx | exact SlAt.blk encD_len (heap_alloc_new _ _) | exact SlAt.blk encD_len ((heap_alloc_old _ _ (by simp)).trans (heap_alloc_new _ _))) (by rfl) (by simp) (by simp) (by simp) rfl rfl).mono ?_
            rintro e wx94 ⟨⟨Ax94, cx94, Bx94, dx94, rfl, hx94⟩, hb1⟩
            have hSx94 := KN.below (show KN w w1.heap.size (w1.heap.size + 1) (.slice A1 1 c1) (.slice B1 1 d1) _ from by assumption) hb1
            have h2x92 := Holds.below (by first | exact hx92 | exact Holds.below hx92 ((Below.refl _ _).alloc (Nat.le_refl _) _)) hb1
            clear hb1
            first
              | refine hK.out _ _ ?_ (fun hHeld => ?_)
              | (go_wp2_with fail
                 refine hK.out _ _ ?_ (fun hHeld => ?_))
            · show KN w w1.heap.size (w1.heap.size + 1) (.slice A1 1 c1) (.slice B1 1 d1) _
              first | assumption | exact KN.drew (by assumption) | exact KN.alloc (by assumption) _ | exact KN.below (by assumption) (Below.refl _ _)
            clear hK K
            try simp only [Act.put, List.setIfInBounds_toArray, List.set_cons_zero, List.set_cons_succ]
            refine wpAnyH_ready (rs := [12]) (by kernel_rfl) (by simp) ?_
            refine AllReadyH.cons rfl (fun K hK => ?_) AllReadyH.nil
            go_simp
            refine (law3Added _ _ _ [(1, 2)] [(1, 4)] [(1, 3)] [(1, 4)] [] 0 true _ (KN.c (show KN w w1.heap.size (w1.heap.size + 1) (.slice A1 1 c1) (.slice B1 1 d1) _ from by assumption)) h2x92 hx94 (by simp) (by kernel_rfl)).mono ?_
            rintro e wx95 ⟨rfl, hb1⟩
            have hSx95 := KN.below (show KN w w1.heap.size (w1.heap.size + 1) (.slice A1 1 c1) (.slice B1 1 d1) _ from by assumption) hb1
            clear hb1
            first
              | refine hK.out _ _ ?_ (fun hHeld => ?_)
              | (go_wp2_with fail
                 refine hK.out _ _ ?_ (fun hHeld => ?_))
            · show KN w w1.heap.size (w1.heap.size + 1) (.slice A1 1 c1) (.slice B1 1 d1) _
              first | assumption | exact KN.drew (by assumption) | exact KN.alloc (by assumption) _ | exact KN.below (by assumption) (Below.refl _ _)
            clear hK K
            try simp only [Act.put, List.setIfInBounds_toArray, List.set_cons_zero, List.set_cons_succ]
            refine wpAnyH_ready (rs := [13]) (by kernel_rfl) (by simp) ?_
            refine AllReadyH.cons rfl (fun K hK => ?_) AllReadyH.nil
            go_simp
            first
              | refine hK.out _ _ ?_ (fun hHeld => ?_)
              | (go_wp2_with fail
                 refine hK.out _ _ ?_ (fun hHeld => ?_))
            · show KN w w1.heap.size (w1.heap.size + 1) (.slice A1 1 c1) (.slice B1 1 d1) _
              first | assumption | exact KN.drew (by assumption) | exact KN.alloc (by assumption) _ | exact KN.below (by assumption) (Below.refl _ _)
            clear hK K
            try simp only [Act.put, List.setIfInBounds_toArray, List.set_cons_zero, List.set_cons_succ]
            refine wpAnyH_ready (rs := [14]) (by kernel_rfl) (by simp) ?_
            refine AllReadyH.cons rfl (fun K hK => ?_) AllReadyH.nil
            go_simp
            first
              | refine hK.out _ _ ?_ (fun hHeld => ?_)
              | (go_wp2_with fail
                 refine hK.out _ _ ?_ (fun hHeld => ?_))
            · show KN w w1.heap.size (w1.heap.size + 1) (.slice A1 1 c1) (.slice B1 1 d1) _
              first | assumption | exact KN.drew (by assumption) | exact KN.alloc (by assumption) _ | exact KN.below (by assumption) (Below.refl _ _)
            clear hK K
            try simp only [Act.put, List.setIfInBounds_toArray, List.set_cons_zero, List.set_cons_succ]
            refine wpAnyH_ready (rs := [15]) (by kernel_rfl) (by simp) ?_
            refine AllReadyH.cons rfl (fun K hK => ?_) AllReadyH.nil
            go_simp
            first
              | refine hK.out _ _ ?_ (fun hHeld => ?_)
              | (go_wp2_with fail
                 refine hK.out _ _ ?_ (fun hHeld => ?_))
            · show KN w w1.heap.size (w1.heap.size + 1) (.slice A1 1 c1) (.slice B1 1 d1) _
              first | assumption | exact KN.drew (by assumption) | exact KN.alloc (by assumption) _ | exact KN.below (by assumption) (Below.refl _ _)
            clear hK K
            try simp only [Act.put, List.setIfInBounds_toArray, List.set_cons_zero, List.set_cons_succ]
            exact j _ _ _ _ _ _ _ _ _ (by assumption)
        · go_simp
          first
            | refine hK.out _ _ ?_ (fun hHeld => ?_)
            | (go_wp2_with fail
               refine hK.out _ _ ?_ (fun hHeld => ?_))
          · show KN w w1.heap.size (w1.heap.size + 1) (.slice A1 1 c1) (.slice B1 1 d1) _
            first | assumption | exact KN.drew (by assumption) | exact KN.alloc (by assumption) _ | exact KN.below (by assumption) (Below.refl _ _)
          clear hK K
          try simp only [Act.put, List.setIfInBounds_toArray, List.set_cons_zero, List.set_cons_succ]
          refine wpAnyH_ready (rs := [8]) (by kernel_rfl) (by simp) ?_
          refine AllReadyH.cons rfl (fun K hK => ?_) AllReadyH.nil
          go_simp
          first
            | refine hK.out _ _ ?_ (fun hHeld => ?_)
            | (go_wp2_with fail
               refine hK.out _ _ ?_ (fun hHeld => ?_))
          · show KN w w1.heap.size (w1.heap.size + 1) (.slice A1 1 c1) (.slice B1 1 d1) _
            first | assumption | exact KN.drew (by assumption) | exact KN.alloc (by assumption) _ | exact KN.below (by assumption) (Below.refl _ _)
          clear hK K
          try simp only [Act.put, List.setIfInBounds_toArray, List.set_cons_zero, List.set_cons_succ]
          refine wpAnyH_ready (rs := [9]) (by kernel_rfl) (by simp) ?_
          refine AllReadyH.cons rfl (fun K hK => ?_) AllReadyH.nil
          go_simp
          refine (law3Of _ _ _ [(1, 3)] _ (by first | exact SlAt.blk encD_len (heap_alloc_new1 _ _ _) | exact SlAt.blk encD_len (heap_alloc_new _ _) | exact SlAt.blk encD_len ((heap_alloc_old _ _ (by simp)).trans (heap_alloc_new _ _))) (by rfl) (by simp)).mono ?_
          rintro e wx92 ⟨⟨Ax92, cx92, rfl, hvx92⟩, hb1⟩
          have hSx92 := KN.below (show KN w w1.heap.size (w1.heap.size + 1) (.slice A1 1 c1) (.slice B1 1 d1) _ from by assumption) hb1
          have hx92 := hvx92.holds
          have dx : DotsAt wx92 (some ⟨wj0.heap.size, 0, none⟩) [(1, 4)] := SlAt.below (by exact SlAt.blk encD_len ((heap_alloc_old _ _ (by simp)).trans (heap_alloc_new _ _))) hb1
          clear hb1 hvx92
          first
            | refine hK.out _ _ ?_ (fun hHeld => ?_)
            | (go_wp2_with fail
               refine hK.out _ _ ?_ (fun hHeld => ?_))
          · show KN w w1.heap.size (w1.heap.size + 1) (.slice A1 1 c1) (.slice B1 1 d1) _
            first | assumption | exact KN.drew (by assumption) | exact KN.alloc (by assumption) _ | exact KN.below (by assumption) (Below.refl _ _)
          clear hK K
          try simp only [Act.put, List.setIfInBounds_toArray, List.set_cons_zero, List.set_cons_succ]
          refine wpAnyH_ready (rs := [11]) (by kernel_rfl) (by simp) ?_
          refine AllReadyH.cons rfl (fun K hK => ?_) AllReadyH.nil
          go_simp
          refine (con_h 1 _ _ _ [(1, 4)] [(1, 4)] [] _ (by first | exact dx | exact SlAt.blk encD_len (heap_alloc_new _ _) | exact SlAt.blk encD_len ((heap_alloc_old _ _ (by simp)).trans (heap_alloc_new _ _))) (by rfl) (by simp) (by simp) (by simp) rfl rfl).mono ?_
          rintro e wx94 ⟨⟨Ax94, cx94, Bx94, dx94, rfl, hx94⟩, hb1⟩
          have hSx94 := KN.below (show KN w w1.heap.size (w1.heap.size + 1) (.slice A1 1 c1) (.slice B1 1 d1) _ from by assumption) hb1
          have h2x92 := Holds.below (by first | exact hx92 | exact Holds.below hx92 ((Below.refl _ _).alloc (Nat.le_refl _) _)) hb1
          clear hb1
          first
            | refine hK.out _ _ ?_ (fun hHeld => ?_)
            | (go_wp2_with fail
               refine hK.out _ _ ?_ (fun hHeld => ?_))
          · show KN w w1.heap.size (w1.heap.size + 1) (.slice A1 1 c1) (.slice B1 1 d1) _
            first | assumption | exact KN.drew (by assumption) | exact KN.alloc (by assumption) _ | exact KN.below (by assumption) (Below.refl _ _)
          clear hK K
          try simp only [Act.put, List.setIfInBounds_toArray, List.set_cons_zero, List.set_cons_succ]
          refine wpAnyH_ready (rs := [12]) (by kernel_rfl) (by simp) ?_
          refine AllReadyH.cons rfl (fun K hK => ?_) AllReadyH.nil
          go_simp
          refine (law3Added _ _ _ [(1, 2)] [(1, 4)] [(1, 3)] [(1, 4)] [] 0 true _ (KN.c (show KN w w1.heap.size (w1.heap.size + 1) (.slice A1 1 c1) (.slice B1 1 d1) _ from by assumption)) h2x92 hx94 (by simp) (by kernel_rfl)).mono ?_
          rintro e wx95 ⟨rfl, hb1⟩
          have hSx95 := KN.below (show KN w w1.heap.size (w1.heap.size + 1) (.slice A1 1 c1) (.slice B1 1 d1) _ from by assumption) hb1
          clear hb1
          first
            | refine hK.out _ _ ?_ (fun hHeld => ?_)
            | (go_wp2_with fail
               refine hK.out _ _ ?_ (fun hHeld => ?_))
          · show KN w w1.heap.size (w1.heap.size + 1) (.slice A1 1 c1) (.slice B1 1 d1) _
            first | assumption | exact KN.drew (by assumption) | exact KN.alloc (by assumption) _ | exact KN.below (by assumption) (Below.refl _ _)
          clear hK K
          try simp only [Act.put, List.setIfInBounds_toArray, List.set_cons_zero, List.set_cons_succ]
          refine wpAnyH_ready (rs := [13]) (by kernel_rfl) (by simp) ?_
          refine AllReadyH.cons rfl (fun K hK => ?_) AllReadyH.nil
          go_simp
          first
            | refine hK.out _ _ ?_ (fun hHeld => ?_)
            | (go_wp2_with fail
               refine hK.out _ _ ?_ (fun hHeld => ?_))
          · show KN w w1.heap.size (w1.heap.size + 1) (.slice A1 1 c1) (.slice B1 1 d1) _
            first | assumption | exact KN.drew (by assumption) | exact KN.alloc (by assumption) _ | exact KN.below (by assumption) (Below.refl _ _)
          clear hK K
          try simp only [Act.put, List.setIfInBounds_toArray, List.set_cons_zero, List.set_cons_succ]
          refine wpAnyH_ready (rs := [14]) (by kernel_rfl) (by simp) ?_
          refine AllReadyH.cons rfl (fun K hK => ?_) AllReadyH.nil
          go_simp
          first
            | refine hK.out _ _ ?_ (fun hHeld => ?_)
            | (go_wp2_with fail
               refine hK.out _ _ ?_ (fun hHeld => ?_))
          · show KN w w1.heap.size (w1.heap.size + 1) (.slice A1 1 c1) (.slice B1 1 d1) _
            first | assumption | exact KN.drew (by assumption) | exact KN.alloc (by assumption) _ | exact KN.below (by assumption) (Below.refl _ _)
          clear hK K
          try simp only [Act.put, List.setIfInBounds_toArray, List.set_cons_zero, List.set_cons_succ]
          refine wpAnyH_ready (rs := [15]) (by kernel_rfl) (by simp) ?_
          refine AllReadyH.cons rfl (fun K hK => ?_) AllReadyH.nil
          go_simp
          first
            | refine hK.out _ _ ?_ (fun hHeld => ?_)
            | (go_wp2_with fail
               refine hK.out _ _ ?_ (fun hHeld => ?_))
          · show KN w w1.heap.size (w1.heap.size + 1) (.slice A1 1 c1) (.slice B1 1 d1) _
            first | assumption | exact KN.drew (by assumption) | exact KN.alloc (by assumption) _ | exact KN.below (by assumption) (Below.refl _ _)
          clear hK K
          try simp only [Act.put, List.setIfInBounds_toArray, List.set_cons_zero, List.set_cons_succ]
          exact j _ _ _ _ _ _ _ _ _ (by assumption)
      intro v91 v93 A92 c92 A94 c94 B94 d94 wj1 hSj1
      apply join6_2 (KN w w1.heap.size (w1.heap.size + 1) (.slice A1 1 c1) (.slice B1 1 d1))
      · intro j
        refine wpAnyH_take (i := 16) (v := ?_) rfl (by kernel_rfl) (by kernel_rfl) (by kernel_rfl) (fun _ _ _ h => h) (Or.inl ⟨by rfl, ?_⟩) (by assumption) ?_
        rotate_left 1
        · intro w hSw
          (try dsimp only at hSw)
          go_simp
          try with_reducible rfl
        try simp only [Act.put, List.setIfInBounds_toArray]
        refine wpAnyH_ready (rs := [17, 19]) (by kernel_rfl) (by simp) ?_
        refine AllReadyH.cons rfl (fun K hK => ?_) (AllReadyH.cons rfl (fun K hK => ?_) AllReadyH.nil)
        · go_simp
          first
            | refine hK.out _ _ ?_ (fun hHeld => ?_)
            | (go_wp2_with fail
               refine hK.out _ _ ?_ (fun hHeld => ?_))
          · show KN w w1.heap.size (w1.heap.size + 1) (.slice A1 1 c1) (.slice B1 1 d1) _
            first | assumption | exact KN.drew (by assumption) | exact KN.alloc (by assumption) _ | exact KN.below (by assumption) (Below.refl _ _)
          clear hK K
          try simp only [Act.put, List.setIfInBounds_toArray, List.set_cons_zero, List.set_cons_succ]
          refine wpAnyH_ready (rs := [18, 19]) (by kernel_rfl) (by simp) ?_
          refine AllReadyH.cons rfl (fun K hK => ?_) (AllReadyH.cons rfl (fun K hK => ?_) AllReadyH.nil)
          · go_simp
            refine (con_h 1 _ _ _ [(1, 1), (2, 2), (1, 3)] [(1, 1)] [(2, 2), (1, 3)] _ (by first | exact SlAt.blk encD_len (heap_alloc_new _ _) | exact SlAt.blk encD_len ((heap_alloc_old _ _ (by simp)).trans (heap_alloc_new _ _))) (by rfl) (by simp) (by simp) (by simp) rfl rfl).mono ?_
            rintro e wx101 ⟨⟨Ax101, cx101, Bx101, dx101, rfl, hx101⟩, hb1⟩
            have hSx101 := KN.below (show KN w w1.heap.size (w1.heap.size + 1) (.slice A1 1 c1) (.slice B1 1 d1) _ from by assumption) hb1
            clear hb1
            first
              | refine hK.out _ _ ?_ (fun hHeld => ?_)
              | (go_wp2_with fail
                 refine hK.out _ _ ?_ (fun hHeld => ?_))
            · show KN w w1.heap.size (w1.heap.size + 1) (.slice A1 1 c1) (.slice B1 1 d1) _
              first | assumption | exact KN.drew (by assumption) | exact KN.alloc (by assumption) _ | exact KN.below (by assumption) (Below.refl _ _)
            clear hK K
            try simp only [Act.put, List.setIfInBounds_toArray, List.set_cons_zero, List.set_cons_succ]
            refine wpAnyH_ready (rs := [19]) (by kernel_rfl) (by simp) ?_
            refine AllReadyH.cons rfl (fun K hK => ?_) AllReadyH.nil
            go_simp
            first
              | refine hK.out _ _ ?_ (fun hHeld => ?_)
              | (go_wp2_with fail
                 refine hK.out _ _ ?_ (fun hHeld => ?_))
            · show KN w w1.heap.size (w1.heap.size + 1) (.slice A1 1 c1) (.slice B1 1 d1) _
              first | assumption | exact KN.drew (by assumption) | exact KN.alloc (by assumption) _ | exact KN.below (by assumption) (Below.refl _ _)
            clear hK K
            try simp only [Act.put, List.setIfInBounds_toArray, List.set_cons_zero, List.set_cons_succ]
            refine wpAnyH_ready (rs := [20]) (by kernel_rfl) (by simp) ?_
            refine AllReadyH.cons rfl (fun K hK => ?_) AllReadyH.nil
            go_simp
            refine (con_h 1 _ _ _ [(1, 4), (2, 2)] [(1, 4)] [(2, 2)] _ (by first | exact SlAt.blk encD_len (heap_alloc_new _ _) | exact SlAt.blk encD_len ((heap_alloc_old _ _ (by simp)).trans (heap_alloc_new _ _))) (by rfl) (by simp) (by simp) (by simp) rfl rfl).mono ?_
            rintro e wx103 ⟨⟨Ax103, cx103, Bx103, dx103, rfl, hx103⟩, hb1⟩
            have hSx103 := KN.below (show KN w w1.heap.size (w1.heap.size + 1) (.slice A1 1 c1) (.slice B1 1 d1) _ from by assumption) hb1
            have h2x101 := HoldsC.below (by first | exact hx101 | exact HoldsC.below hx101 ((Below.refl _ _).alloc (Nat.le_refl _) _)) hb1
            clear hb1
            first
              | refine hK.out _ _ ?_ (fun hHeld => ?_)
              | (go_wp2_with fail
                 refine hK.out _ _ ?_ (fun hHeld => ?_))
            · show KN w w1.heap.size (w1.heap.size + 1) (.slice A1 1 c1) (.slice B1 1 d1) _
              first | assumption | exact KN.drew (by assumption) | exact KN.alloc (by assumption) _ | exact KN.below (by assumption) (Below.refl _ _)
            clear hK K
            try simp only [Act.put, List.setIfInBounds_toArray, List.set_cons_zero, List.set_cons_succ]
            refine wpAnyH_ready (rs := [21]) (by kernel_rfl) (by simp) ?_
            refine AllReadyH.cons rfl (fun K hK => ?_) AllReadyH.nil
            go_simp
            refine (law3United _ _ _ [(1, 2)] [(1, 4)] [(1, 1)] [(2, 2), (1, 3)] [(1, 4)] [(2, 2)] 0 true _ (KN.c (show KN w w1.heap.size (w1.heap.size + 1) (.slice A1 1 c1) (.slice B1 1 d1) _ from by assumption)) h2x101 hx103 (by simp) (by kernel_rfl)).mono ?_
            rintro e wx104 ⟨rfl, hb1⟩
            have hSx104 := KN.below (show KN w w1.heap.size (w1.heap.size + 1) (.slice A1 1 c1) (.slice B1 1 d1) _ from by assumption) hb1
            clear hb1
            first
              | refine hK.out _ _ ?_ (fun hHeld => ?_)
              | (go_wp2_with fail
                 refine hK.out _ _ ?_ (fun hHeld => ?_))
            · show KN w w1.heap.size (w1.heap.size + 1) (.slice A1 1 c1) (.slice B1 1 d1) _
              first | assumption | exact KN.drew (by assumption) | exact KN.alloc (by assumption) _ | exact KN.below (by assumption) (Below.refl _ _)
            clear hK K
            try simp only [Act.put, List.setIfInBounds_toArray, List.set_cons_zero, List.set_cons_succ]
            refine wpAnyH_ready (rs := [22]) (by kernel_rfl) (by simp) ?_
            refine AllReadyH.cons rfl (fun K hK => ?_) AllReadyH.nil
            go_simp
            first
              | refine hK.out _ _ ?_ (fun hHeld => ?_)
              | (go_wp2_with fail
                 refine hK.out _ _ ?_ (fun hHeld => ?_))
            · show KN w w1.heap.size (w1.heap.size + 1) (.slice A1 1 c1) (.slice B1 1 d1) _
              first | assumption | exact KN.drew (by assumption) | exact KN.alloc (by assumption) _ | exact KN.below (by assumption) (Below.refl _ _)
            clear hK K
            try simp only [Act.put, List.setIfInBounds_toArray, List.set_cons_zero, List.set_cons_succ]
            refine wpAnyH_ready (rs := [23]) (by kernel_rfl) (by simp) ?_
            refine AllReadyH.cons rfl (fun K hK => ?_) AllReadyH.nil
            go_simp
            first
              | refine hK.out _ _ ?_ (fun hHeld => ?_)
              | (go_wp2_with fail
                 refine hK.out _ _ ?_ (fun hHeld => ?_))
            · show KN w w1.heap.size (w1.heap.size + 1) (.slice A1 1 c1) (.slice B1 1 d1) _
              first | assumption | exact KN.drew (by assumption) | exact KN.alloc (by assumption) _ | exact KN.below (by assumption) (Below.refl _ _)
            clear hK K
            try simp only [Act.put, List.setIfInBounds_toArray, List.set_cons_zero, List.set_cons_succ]
            refine wpAnyH_ready (rs := [24]) (by kernel_rfl) (by simp) ?_
            refine AllReadyH.cons rfl (fun K hK => ?_) AllReadyH.nil
            go_simp
            first
              | refine hK.out _ _ ?_ (fun hHeld => ?_)
              | (go_wp2_with fail
                 refine hK.out _ _ ?_ (fun hHeld => ?_))
            · show KN w w1.heap.size (w1.heap.size + 1) (.slice A1 1 c1) (.slice B1 1 d1) _
              first | assumption | exact KN.drew (by assumption) | exact KN.alloc (by assumption) _ | exact KN.below (by assumption) (Below.refl _ _)
            clear hK K
            try simp only [Act.put, List.setIfInBounds_toArray, List.set_cons_zero, List.set_cons_succ]
            generalize (Value.slice (some ⟨_, 0, none⟩) 6 6) = v100
            generalize (Value.slice (some ⟨_, 0, none⟩) 4 4) = v102
            exact j v100 v102 Ax101 cx101 Bx101 dx101 Ax103 cx103 Bx103 dx103 wx104 (by assumption)
          · go_simp
            first
              | refine hK.out _ _ ?_ (fun hHeld => ?_)
              | (go_wp2_with fail
                 refine hK.out _ _ ?_ (fun hHeld => ?_))
            · show KN w w1.heap.size (w1.heap.size + 1) (.slice A1 1 c1) (.slice B1 1 d1) _
              first | assumption | exact KN.drew (by assumption) | exact KN.alloc (by assumption) _ | exact KN.below (by assumption) (Below.refl _ _)
            clear hK K
            try simp only [Act.put, List.setIfInBounds_toArray, List.set_cons_zero, List.set_cons_succ]
            refine wpAnyH_ready (rs := [18]) (by kernel_rfl) (by simp) ?_
            refine AllReadyH.cons rfl (fun K hK => ?_) AllReadyH.nil
            go_simp
            refine (con_h 1 _ _ _ [(1, 1), (2, 2), (1, 3)] [(1, 1)] [(2, 2), (1, 3)] _ (by first | exact SlAt.blk encD_len ((heap_alloc_old _ _ (by simp)).trans (heap_alloc_new _ _)) | exact SlAt.blk encD_len (heap_alloc_new _ _) | exact SlAt.blk encD_len ((heap_alloc_old _ _ (by simp)).trans (heap_alloc_new _ _))) (by rfl) (by simp) (by simp) (by simp) rfl rfl).mono ?_
            rintro e wx101 ⟨⟨Ax101, cx101, Bx101, dx101, rfl, hx101⟩, hb1⟩
            have hSx101 := KN.below (show KN w w1.heap.size (w1.heap.size + 1) (.slice A1 1 c1) (.slice B1 1 d1) _ from by assumption) hb1
            have dx : DotsAt wx101 (some ⟨wj1.heap.size + 1, 0, none⟩) [(1, 4), (2, 2)] := SlAt.below (by exact SlAt.blk encD_len (heap_alloc_new1 _ _ _)) hb1
            clear hb1
            first
              | refine hK.out _ _ ?_ (fun hHeld => ?_)
              | (go_wp2_with fail
                 refine hK.out _ _ ?_ (fun hHeld => ?_))
            · show KN w w1.heap.size (w1.heap.size + 1) (.slice A1 1 c1) (.slice B1 1 d1) _
              first | assumption | exact KN.drew (by assumption) | exact KN.alloc (by assumption) _ | exact KN.below (by assumption) (Below.refl _ _)
            clear hK K
            try simp only [Act.put, List.setIfInBounds_toArray, List.set_cons_zero, List.set_cons_succ]
            refine wpAnyH_ready (rs := [20]) (by kernel_rfl) (by simp) ?_
            refine AllReadyH.cons rfl (fun K hK => ?_) AllReadyH.nil
            go_simp
            refine (con_h 1 _ _ _ [(1, 4), (2, 2)] [(1, 4)] [(2, 2)] _ (by first | exact dx | exact SlAt.blk encD_len (heap_alloc_new _ _) | exact SlAt.blk encD_len ((heap_alloc_old _ _ (by simp)).trans (heap_alloc_new _ _))) (by rfl) (by simp) (by simp) (by simp) rfl rfl).mono ?_
            rintro e wx103 ⟨⟨Ax103, cx103, Bx103, dx103, rfl, hx103⟩, hb1⟩
            have hSx103 := KN.below (show KN w w1.heap.size (w1.heap.size + 1) (.slice A1 1 c1) (.slice B1 1 d1) _ from by assumption) hb1
            have h2x101 := HoldsC.below (by first | exact hx101 | exact HoldsC.below hx101 ((Below.refl _ _).alloc (Nat.le_refl _) _)) hb1
            clear hb1
            first
              | refine hK.out _ _ ?_ (fun hHeld => ?_)
              | (go_wp2_with fail
                 refine hK.out _ _ ?_ (fun hHeld => ?_))
            · show KN w w1.heap.size (w1.heap.size + 1) (.slice A1 1 c1) (.slice B1 1 d1) _
              first | assumption | exact KN.drew (by assumption) | exact KN.alloc (by assumption) _ | exact KN.below (by assumption) (Below.refl _ _)
            clear hK K
            try simp only [Act.put, List.setIfInBounds_toArray, List.set_cons_zero, List.set_cons_succ]
            refine wpAnyH_ready (rs := [21]) (by kernel_rfl) (by simp) ?_
            refine AllReadyH.cons rfl (fun K hK => ?_) AllReadyH.nil
            go_simp
            refine (law3United _ _ _ [(1, 2)] [(1, 4)] [(1, 1)] [(2, 2), (1, 3)] [(1, 4)] [(2, 2)] 0 true _ (KN.c (show KN w w1.heap.size (w1.heap.size + 1) (.slice A1 1 c1) (.slice B1 1 d1) _ from by assumption)) h2x101 hx103 (by simp) (by kernel_rfl)).mono ?_
            rintro e wx104 ⟨rfl, hb1⟩
            have hSx104 := KN.below (show KN w w1.heap.size (w1.heap.size + 1) (.slice A1 1 c1) (.slice B1 1 d1) _ from by assumption) hb1
            clear hb1
            first
              | refine hK.out _ _ ?_ (fun hHeld => ?_)
              | (go_wp2_with fail
                 refine hK.out _ _ ?_ (fun hHeld => ?_))
            · show KN w w1.heap.size (w1.heap.size + 1) (.slice A1 1 c1) (.slice B1 1 d1) _
              first | assumption | exact KN.drew (by assumption) | exact KN.alloc (by assumption) _ | exact KN.below (by assumption) (Below.refl _ _)
            clear hK K
            try simp only [Act.put, List.setIfInBounds_toArray, List.set_cons_zero, List.set_cons_succ]
            refine wpAnyH_ready (rs := [22]) (by kernel_rfl) (by simp) ?_
            refine AllReadyH.cons rfl (fun K hK => ?_) AllReadyH.nil
            go_simp
            first
              | refine hK.out _ _ ?_ (fun hHeld => ?_)
              | (go_wp2_with fail
                 refine hK.out _ _ ?_ (fun hHeld => ?_))
            · show KN w w1.heap.size (w1.heap.size + 1) (.slice A1 1 c1) (.slice B1 1 d1) _
              first | assumption | exact KN.drew (by assumption) | exact KN.alloc (by assumption) _ | exact KN.below (by assumption) (Below.refl _ _)
            clear hK K
            try simp only [Act.put, List.setIfInBounds_toArray, List.set_cons_zero, List.set_cons_succ]
            refine wpAnyH_ready (rs := [23]) (by kernel_rfl) (by simp) ?_
            refine AllReadyH.cons rfl (fun K hK => ?_) AllReadyH.nil
            go_simp
            first
              | refine hK.out _ _ ?_ (fun hHeld => ?_)
              | (go_wp2_with fail
                 refine hK.out _ _ ?_ (fun hHeld => ?_))
            · show KN w w1.heap.size (w1.heap.size + 1) (.slice A1 1 c1) (.slice B1 1 d1) _
              first | assumption | exact KN.drew (by assumption) | exact KN.alloc (by assumption) _ | exact KN.below (by assumption) (Below.refl _ _)
            clear hK K
            try simp only [Act.put, List.setIfInBounds_toArray, List.set_cons_zero, List.set_cons_succ]
            refine wpAnyH_ready (rs := [24]) (by kernel_rfl) (by simp) ?_
            refine AllReadyH.cons rfl (fun K hK => ?_) AllReadyH.nil
            go_simp
            first
              | refine hK.out _ _ ?_ (fun hHeld => ?_)
              | (go_wp2_with fail
                 refine hK.out _ _ ?_ (fun hHeld => ?_))
            · show KN w w1.heap.size (w1.heap.size + 1) (.slice A1 1 c1) (.slice B1 1 d1) _
              first | assumption | exact KN.drew (by assumption) | exact KN.alloc (by assumption) _ | exact KN.below (by assumption) (Below.refl _ _)
            clear hK K
            try simp only [Act.put, List.setIfInBounds_toArray, List.set_cons_zero, List.set_cons_succ]
            exact j _ _ _ _ _ _ _ _ _ _ _ (by assumption)
        · go_simp
          first
            | refine hK.out _ _ ?_ (fun hHeld => ?_)
            | (go_wp2_with fail
               refine hK.out _ _ ?_ (fun hHeld => ?_))
          · show KN w w1.heap.size (w1.heap.size + 1) (.slice A1 1 c1) (.slice B1 1 d1) _
            first | assumption | exact KN.drew (by assumption) | exact KN.alloc (by assumption) _ | exact KN.below (by assumption) (Below.refl _ _)
          clear hK K
          try simp only [Act.put, List.setIfInBounds_toArray, List.set_cons_zero, List.set_cons_succ]
          refine wpAnyH_ready (rs := [17]) (by kernel_rfl) (by simp) ?_
          refine AllReadyH.cons rfl (fun K hK => ?_) AllReadyH.nil
          go_simp
          first
            | refine hK.out _ _ ?_ (fun hHeld => ?_)
            | (go_wp2_with fail
               refine hK.out _ _ ?_ (fun hHeld => ?_))
          · show KN w w1.heap.size (w1.heap.size + 1) (.slice A1 1 c1) (.slice B1 1 d1) _
            first | assumption | exact KN.drew (by assumption) | exact KN.alloc (by assumption) _ | exact KN.below (by assumption) (Below.refl _ _)
          clear hK K
          try simp only [Act.put, List.setIfInBounds_toArray, List.set_cons_zero, List.set_cons_succ]
          refine wpAnyH_ready (rs := [18]) (by kernel_rfl) (by simp) ?_
          refine AllReadyH.cons rfl (fun K hK => ?_) AllReadyH.nil
          go_simp
          refine (con_h 1 _ _ _ [(1, 1), (2, 2), (1, 3)] [(1, 1)] [(2, 2), (1, 3)] _ (by first | exact SlAt.blk encD_len (heap_alloc_new1 _ _ _) | exact SlAt.blk encD_len (heap_alloc_new _ _) | exact SlAt.blk encD_len ((heap_alloc_old _ _ (by simp)).trans (heap_alloc_new _ _))) (by rfl) (by simp) (by simp) (by simp) rfl rfl).mono ?_
          rintro e wx101 ⟨⟨Ax101, cx101, Bx101, dx101, rfl, hx101⟩, hb1⟩
          have hSx101 := KN.below (show KN w w1.heap.size (w1.heap.size + 1) (.slice A1 1 c1) (.slice B1 1 d1) _ from by assumption) hb1
          have dx : DotsAt wx101 (some ⟨wj1.heap.size, 0, none⟩) [(1, 4), (2, 2)] := SlAt.below (by exact SlAt.blk encD_len ((heap_alloc_old _ _ (by simp)).trans (heap_alloc_new _ _))) hb1
          clear hb1
          first
            | refine hK.out _ _ ?_ (fun hHeld => ?_)
            | (go_wp2_with fail
               refine hK.out _ _ ?_ (fun hHeld => ?_))
          · show KN w w1.heap.size (w1.heap.size + 1) (.slice A1 1 c1) (.slice B1 1 d1) _
            first | assumption | exact KN.drew (by assumption) | exact KN.alloc (by assumption) _ | exact KN.below (by assumption) (Below.refl _ _)
          clear hK K
          try simp only [Act.put, List.setIfInBounds_toArray, List.set_cons_zero, List.set_cons_succ]
          refine wpAnyH_ready (rs := [20]) (by kernel_rfl) (by simp) ?_
          refine AllReadyH.cons rfl (fun K hK => ?_) AllReadyH.nil
          go_simp
          refine (con_h 1 _ _ _ [(1, 4), (2, 2)] [(1, 4)] [(2, 2)] _ (by first | exact dx | exact SlAt.blk encD_len (heap_alloc_new _ _) | exact SlAt.blk encD_len ((heap_alloc_old _ _ (by simp)).trans (heap_alloc_new _ _))) (by rfl) (by simp) (by simp) (by simp) rfl rfl).mono ?_
          rintro e wx103 ⟨⟨Ax103, cx103, Bx103, dx103, rfl, hx103⟩, hb1⟩
          have hSx103 := KN.below (show KN w w1.heap.size (w1.heap.size + 1) (.slice A1 1 c1) (.slice B1 1 d1) _ from by assumption) hb1
          have h2x101 := HoldsC.below (by first | exact hx101 | exact HoldsC.below hx101 ((Below.refl _ _).alloc (Nat.le_refl _) _)) hb1
          clear hb1
          first
            | refine hK.out _ _ ?_ (fun hHeld => ?_)
            | (go_wp2_with fail
               refine hK.out _ _ ?_ (fun hHeld => ?_))
          · show KN w w1.heap.size (w1.heap.size + 1) (.slice A1 1 c1) (.slice B1 1 d1) _
            first | assumption | exact KN.drew (by assumption) | exact KN.alloc (by assumption) _ | exact KN.below (by assumption) (Below.refl _ _)
          clear hK K
          try simp only [Act.put, List.setIfInBounds_toArray, List.set_cons_zero, List.set_cons_succ]
          refine wpAnyH_ready (rs := [21]) (by kernel_rfl) (by simp) ?_
          refine AllReadyH.cons rfl (fun K hK => ?_) AllReadyH.nil
          go_simp
          refine (law3United _ _ _ [(1, 2)] [(1, 4)] [(1, 1)] [(2, 2), (1, 3)] [(1, 4)] [(2, 2)] 0 true _ (KN.c (show KN w w1.heap.size (w1.heap.size + 1) (.slice A1 1 c1) (.slice B1 1 d1) _ from by assumption)) h2x101 hx103 (by simp) (by kernel_rfl)).mono ?_
          rintro e wx104 ⟨rfl, hb1⟩
          have hSx104 := KN.below (show KN w w1.heap.size (w1.heap.size + 1) (.slice A1 1 c1) (.slice B1 1 d1) _ from by assumption) hb1
          clear hb1
          first
            | refine hK.out _ _ ?_ (fun hHeld => ?_)
            | (go_wp2_with fail
               refine hK.out _ _ ?_ (fun hHeld => ?_))
          · show KN w w1.heap.size (w1.heap.size + 1) (.slice A1 1 c1) (.slice B1 1 d1) _
            first | assumption | exact KN.drew (by assumption) | exact KN.alloc (by assumption) _ | exact KN.below (by assumption) (Below.refl _ _)
          clear hK K
          try simp only [Act.put, List.setIfInBounds_toArray, List.set_cons_zero, List.set_cons_succ]
          refine wpAnyH_ready (rs := [22]) (by kernel_rfl) (by simp) ?_
          refine AllReadyH.cons rfl (fun K hK => ?_) AllReadyH.nil
          go_simp
          first
            | refine hK.out _ _ ?_ (fun hHeld => ?_)
            | (go_wp2_with fail
               refine hK.out _ _ ?_ (fun hHeld => ?_))
          · show KN w w1.heap.size (w1.heap.size + 1) (.slice A1 1 c1) (.slice B1 1 d1) _
            first | assumption | exact KN.drew (by assumption) | exact KN.alloc (by assumption) _ | exact KN.below (by assumption) (Below.refl _ _)
          clear hK K
          try simp only [Act.put, List.setIfInBounds_toArray, List.set_cons_zero, List.set_cons_succ]
          refine wpAnyH_ready (rs := [23]) (by kernel_rfl) (by simp) ?_
          refine AllReadyH.cons rfl (fun K hK => ?_) AllReadyH.nil
          go_simp
          first
            | refine hK.out _ _ ?_ (fun hHeld => ?_)
            | (go_wp2_with fail
               refine hK.out _ _ ?_ (fun hHeld => ?_))
          · show KN w w1.heap.size (w1.heap.size + 1) (.slice A1 1 c1) (.slice B1 1 d1) _
            first | assumption | exact KN.drew (by assumption) | exact KN.alloc (by assumption) _ | exact KN.below (by assumption) (Below.refl _ _)
          clear hK K
          try simp only [Act.put, List.setIfInBounds_toArray, List.set_cons_zero, List.set_cons_succ]
          refine wpAnyH_ready (rs := [24]) (by kernel_rfl) (by simp) ?_
          refine AllReadyH.cons rfl (fun K hK => ?_) AllReadyH.nil
          go_simp
          first
            | refine hK.out _ _ ?_ (fun hHeld => ?_)
            | (go_wp2_with fail
               refine hK.out _ _ ?_ (fun hHeld => ?_))
          · show KN w w1.heap.size (w1.heap.size + 1) (.slice A1 1 c1) (.slice B1 1 d1) _
            first | assumption | exact KN.drew (by assumption) | exact KN.alloc (by assumption) _ | exact KN.below (by assumption) (Below.refl _ _)
          clear hK K
          try simp only [Act.put, List.setIfInBounds_toArray, List.set_cons_zero, List.set_cons_succ]
          exact j _ _ _ _ _ _ _ _ _ _ _ (by assumption)
      intro v100 v102 A101 c101 B101 d101 A103 c103 B103 d103 wj2 hSj2
      refine wpAnyH_take (i := 27) (v := ?_) rfl (by kernel_rfl) (by kernel_rfl) (by kernel_rfl) (fun _ _ _ h => h) (Or.inl ⟨by rfl, ?_⟩) (by assumption) ?_
      rotate_left 1
      · intro w hSw
        (try dsimp only at hSw)
        go_simp
        try with_reducible rfl
      try simp only [Act.put, List.setIfInBounds_toArray]
      refine wpAnyH_ready (rs := [25]) (by kernel_rfl) (by simp) ?_
      refine AllReadyH.cons rfl (fun K hK => ?_) AllReadyH.nil
      go_simp
      first
        | refine hK.out _ _ ?_ (fun hHeld => ?_)
        | (go_wp2_with fail
           refine hK.out _ _ ?_ (fun hHeld => ?_))
      · show KN w w1.heap.size (w1.heap.size + 1) (.slice A1 1 c1) (.slice B1 1 d1) _
        first | assumption | exact KN.drew (by assumption) | exact KN.alloc (by assumption) _ | exact KN.below (by assumption) (Below.refl _ _)
      clear hK K
      try simp only [Act.put, List.setIfInBounds_toArray, List.set_cons_zero, List.set_cons_succ]
      refine wpAnyH_ready (rs := [26]) (by kernel_rfl) (by simp) ?_
      refine AllReadyH.cons rfl (fun K hK => ?_) AllReadyH.nil
      go_simp
      refine (law3Of _ _ _ [(0, 1)] _ (by first | exact SlAt.blk encD_len (heap_alloc_new _ _) | exact SlAt.blk encD_len ((heap_alloc_old _ _ (by simp)).trans (heap_alloc_new _ _))) (by rfl) (by simp)).mono ?_
      rintro e wx109 ⟨⟨Ax109, cx109, rfl, hvx109⟩, hb1⟩
      have hSx109 := KN.below (show KN w w1.heap.size (w1.heap.size + 1) (.slice A1 1 c1) (.slice B1 1 d1) _ from by assumption) hb1
      have hx109 := hvx109.holds
      clear hb1 hvx109
      first
        | refine hK.out _ _ ?_ (fun hHeld => ?_)
        | (go_wp2_with fail
           refine hK.out _ _ ?_ (fun hHeld => ?_))
      · show KN w w1.heap.size (w1.heap.size + 1) (.slice A1 1 c1) (.slice B1 1 d1) _
        first | assumption | exact KN.drew (by assumption) | exact KN.alloc (by assumption) _ | exact KN.below (by assumption) (Below.refl _ _)
      clear hK K
      try simp only [Act.put, List.setIfInBounds_toArray, List.set_cons_zero, List.set_cons_succ]
      refine wpAnyH_ready (rs := [28]) (by kernel_rfl) (by simp) ?_
      refine AllReadyH.cons rfl (fun K hK => ?_) AllReadyH.nil
      go_simp
      refine (law3Made _ _ [(0, 1)] [] [] 2 true _ hx109 (HoldsC.nil _) (by simp) (by kernel_rfl)).mono ?_
      rintro e wx111 ⟨rfl, hb1⟩
      have hSx111 := KN.below (show KN w w1.heap.size (w1.heap.size + 1) (.slice A1 1 c1) (.slice B1 1 d1) _ from by assumption) hb1
      clear hb1
      first
        | refine hK.out _ _ ?_ (fun hHeld => ?_)
        | (go_wp2_with fail
           refine hK.out _ _ ?_ (fun hHeld => ?_))
      · show KN w w1.heap.size (w1.heap.size + 1) (.slice A1 1 c1) (.slice B1 1 d1) _
        first | assumption | exact KN.drew (by assumption) | exact KN.alloc (by assumption) _ | exact KN.below (by assumption) (Below.refl _ _)
      clear hK K
      try simp only [Act.put, List.setIfInBounds_toArray, List.set_cons_zero, List.set_cons_succ]
      refine wpAnyH_ready (rs := [29]) (by kernel_rfl) (by simp) ?_
      refine AllReadyH.cons rfl (fun K hK => ?_) AllReadyH.nil
      go_simp
      first
        | refine hK.out _ _ ?_ (fun hHeld => ?_)
        | (go_wp2_with fail
           refine hK.out _ _ ?_ (fun hHeld => ?_))
      · show KN w w1.heap.size (w1.heap.size + 1) (.slice A1 1 c1) (.slice B1 1 d1) _
        first | assumption | exact KN.drew (by assumption) | exact KN.alloc (by assumption) _ | exact KN.below (by assumption) (Below.refl _ _)
      clear hK K
      try simp only [Act.put, List.setIfInBounds_toArray, List.set_cons_zero, List.set_cons_succ]
      refine wpAnyH_ready (rs := [30]) (by kernel_rfl) (by simp) ?_
      refine AllReadyH.cons rfl (fun K hK => ?_) AllReadyH.nil
      go_simp
      first
        | refine hK.out _ _ ?_ (fun hHeld => ?_)
        | (go_wp2_with fail
           refine hK.out _ _ ?_ (fun hHeld => ?_))
      · show KN w w1.heap.size (w1.heap.size + 1) (.slice A1 1 c1) (.slice B1 1 d1) _
        first | assumption | exact KN.drew (by assumption) | exact KN.alloc (by assumption) _ | exact KN.below (by assumption) (Below.refl _ _)
      clear hK K
      try simp only [Act.put, List.setIfInBounds_toArray, List.set_cons_zero, List.set_cons_succ]
      refine wpAnyH_done (by kernel_rfl) ?_ _
      go_wp2_with fail
      go_meet
      exact ⟨rfl, by assumption⟩
    case rest =>
      obtain ⟨rfl, K⟩ := hcut
      try clear k0 k1 k2 k3
      obtain ⟨k0, k1, k2, k3, _⟩ := id K
      go_wp2_with fail
      refine (con_h 1 _ _ _ [(1, 2)] [(1, 2)] [] _ (SlAt.blk encD_len (heap_alloc_new _ _)) rfl (by simp) (by simp) (by simp) rfl rfl).mono ?_
      rintro e w201 ⟨⟨A201, c201, B201, d201, rfl, h201⟩, hb1⟩
      replace K := KN.below (by first | exact K | exact K.alloc _) hb1
      clear k0 k1 k2 k3
      obtain ⟨k0, k1, k2, k3, _⟩ := id K
      clear hb1
      go_wp2_with fail
      refine (con_h 0 _ _ _ [(1, 1), (1, 2)] [] [(1, 1), (1, 2)] _ (SlAt.blk encD_len (heap_alloc_new _ _)) rfl (by simp) (by simp) (by simp) rfl rfl).mono ?_
      rintro e w202 ⟨⟨A202, c202, B202, d202, rfl, h202⟩, hb1⟩
      replace K := KN.below (by first | exact K | exact K.alloc _) hb1
      clear k0 k1 k2 k3
      obtain ⟨k0, k1, k2, k3, _⟩ := id K
      replace h201 := HoldsC.below (by first | exact h201 | exact HoldsC.below h201 ((Below.refl _ _).alloc (Nat.le_refl _) _)) hb1
      clear hb1
      go_wp2_with fail
      refine (law3Within _ _ [(1, 2)] [] [] [(1, 1), (1, 2)] true 0 true _ h201 h202 (by simp) (by kernel_rfl)).mono ?_
      rintro e w203 ⟨rfl, hb1⟩
      replace K := KN.below (by first | exact K | exact K.alloc _) hb1
      clear k0 k1 k2 k3
      obtain ⟨k0, k1, k2, k3, _⟩ := id K
      clear hb1
      go_wp2_with fail
      clear h201 h202
      refine (con_h 1 _ _ _ [(1, 2)] [(1, 2)] [] _ (SlAt.blk encD_len (heap_alloc_new _ _)) rfl (by simp) (by simp) (by simp) rfl rfl).mono ?_
      rintro e w204 ⟨⟨A204, c204, B204, d204, rfl, h204⟩, hb1⟩
      replace K := KN.below (by first | exact K | exact K.alloc _) hb1
      clear k0 k1 k2 k3
      obtain ⟨k0, k1, k2, k3, _⟩ := id K
      clear hb1
      go_wp2_with fail
      refine (con_h 0 _ _ _ [(1, 2)] [] [(1, 2)] _ (SlAt.blk encD_len (heap_alloc_new _ _)) rfl (by simp) (by simp) (by simp) rfl rfl).mono ?_
      rintro e w205 ⟨⟨A205, c205, B205, d205, rfl, h205⟩, hb1⟩
      replace K := KN.below (by first | exact K | exact K.alloc _) hb1
      clear k0 k1 k2 k3
      obtain ⟨k0, k1, k2, k3, _⟩ := id K
      replace h204 := HoldsC.below (by first | exact h204 | exact HoldsC.below h204 ((Below.refl _ _).alloc (Nat.le_refl _) _)) hb1
      clear hb1
      go_wp2_with fail
      refine (law3Within _ _ [(1, 2)] [] [] [(1, 2)] false 0 true _ h204 h205 (by simp) (by kernel_rfl)).mono ?_
      rintro e w206 ⟨rfl, hb1⟩
      replace K := KN.below (by first | exact K | exact K.alloc _) hb1
      clear k0 k1 k2 k3
      obtain ⟨k0, k1, k2, k3, _⟩ := id K
      clear hb1
      go_wp2_with fail
      clear h204 h205
      refine (law3Within _ _ [] [] [] [] true 0 true _ (HoldsC.nil _) (HoldsC.nil _) (by simp) (by kernel_rfl)).mono ?_
      rintro e wz ⟨rfl, hb1⟩
      replace K := KN.below (by first | exact K | exact K.alloc _) hb1
      clear hb1
      go_wp2
      go_ret
      exact ⟨rfl, K.bel⟩

end Go.Proofs.Ytibnlifdeknicaa
