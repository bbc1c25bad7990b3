/- The chapter's examples: known is true. -/
import Derived.Test.YtimamilmaobgcaaQtyI
import Derived.Deep.CutBlock
namespace Go.Proofs.Ytimamilmaobgcaa
open Go.RowKit

/-- The contracts at literals. -/
theorem valid_l (q : Int) (b : Bool) (w : World) (h : qtyN q = b) : Calls Try.prog 10 #[.int .i64 q] w (One (.bool b) w) := by subst h; exact qtyValid q w
theorem mark_l (r c q T : Int) (w : World) (h : 0 ≤ T) : Calls Try.prog 31 #[.int .i64 r, .int .i64 c, .int .i64 q, .int .u64 T] w (OneB (.agg #[.int .i64 r, .int .i64 c, .int .i64 q, .int .u64 T]) w) := by
  have k := lawMark r c q T.toNat w
  rw [Int.toNat_of_nonneg h] at k
  have e : mkV ⟨r, c, q, T.toNat⟩ = .agg #[.int .i64 r, .int .i64 c, .int .i64 q, .int .u64 T] := by simp [Int.toNat_of_nonneg h]
  rw [e] at k
  exact k
theorem valM_l (r c q T : Int) (b : Bool) (w : World) (h : 0 ≤ T) (hb : validM ⟨r, c, q, T.toNat⟩ = b) : Calls Try.prog 12 #[.agg #[.int .i64 r, .int .i64 c, .int .i64 q, .int .u64 T]] w (OneB (.bool b) w) := by
  have k := qtyMark ⟨r, c, q, T.toNat⟩ w
  have e : mkV ⟨r, c, q, T.toNat⟩ = .agg #[.int .i64 r, .int .i64 c, .int .i64 q, .int .u64 T] := by simp [Int.toNat_of_nonneg h]
  rw [e, hb] at k
  exact k
theorem cmp_l (r c q T r' c' q' T' z : Int) (w : World) (h : 0 ≤ T) (h' : 0 ≤ T') (hz : cmpN ⟨r, c, q, T.toNat⟩ ⟨r', c', q', T'.toNat⟩ = z) :
    Calls Try.prog 15 #[.agg #[.int .i64 r, .int .i64 c, .int .i64 q, .int .u64 T], .agg #[.int .i64 r', .int .i64 c', .int .i64 q', .int .u64 T']] w (OneB (.int .i64 z) w) := by
  have k := qtyCompare ⟨r, c, q, T.toNat⟩ ⟨r', c', q', T'.toNat⟩ w
  have e : mkV ⟨r, c, q, T.toNat⟩ = .agg #[.int .i64 r, .int .i64 c, .int .i64 q, .int .u64 T] := by simp [Int.toNat_of_nonneg h]
  have e' : mkV ⟨r', c', q', T'.toNat⟩ = .agg #[.int .i64 r', .int .i64 c', .int .i64 q', .int .u64 T'] := by simp [Int.toNat_of_nonneg h']
  rw [e, e', hz] at k
  exact k
theorem sums_l (g : Nat) (xs : List Int) (n c : Nat) (s e : Int) (w : World) (hx : NumsAt w (some ⟨g, 0, none⟩) xs) (hn : xs.length = n) (hm : xs.length ≤ maxLen) (he : 0 ≤ e) (hv : sumV xs = (s, e.toNat)) :
    Calls Try.prog 14 #[.slice (some ⟨g, 0, none⟩) n c, .int .i64 s, .int .i64 e] w (One (.bool true) w) := by
  have k := lawSums (some ⟨g, 0, none⟩) xs c s e.toNat w hx hm hv
  rw [hn, Int.toNat_of_nonneg he] at k
  exact k
theorem newest_l (A : Option Addr) (xs : List Mk) (n cap : Nat) (r c q T e : Int) (w : World) (hx : MarksAt w A xs) (hn : xs.length = n) (hm : xs.length ≤ maxLen) (h : 0 ≤ T) (he : 0 ≤ e) (hv : newV validM xs = (⟨r, c, q, T.toNat⟩, e.toNat)) :
    Calls Try.prog 18 #[.slice A n cap, .agg #[.int .i64 r, .int .i64 c, .int .i64 q, .int .u64 T], .int .i64 e] w (TrueB w) := by
  have k := lawNewest A xs cap ⟨r, c, q, T.toNat⟩ e.toNat w hx hm hv
  have e1 : mkV ⟨r, c, q, T.toNat⟩ = .agg #[.int .i64 r, .int .i64 c, .int .i64 q, .int .u64 T] := by simp [Int.toNat_of_nonneg h]
  rw [hn, e1, Int.toNat_of_nonneg he] at k
  exact k
theorem next_l (A : Option Addr) (xs : List Mk) (n cap : Nat) (T e : Int) (w : World) (hx : MarksAt w A xs) (hn : xs.length = n) (hm : xs.length ≤ maxLen) (ht : ∀ m ∈ xs, m.t < 18446744073709551616) (h : 0 ≤ T) (he : 0 ≤ e) (hv : nextV validM xs = (T.toNat, e.toNat)) :
    Calls Try.prog 19 #[.slice A n cap, .int .u64 T, .int .i64 e] w (TrueB w) := by
  have k := lawNext A xs cap T.toNat e.toNat w hx hm ht hv
  rw [hn, Int.toNat_of_nonneg h, Int.toNat_of_nonneg he] at k
  exact k

abbrev mA : Mk := ⟨1, 1, 5, 3⟩
abbrev mB : Mk := ⟨2, 1, 7, 4⟩
theorem u1 : qtyN 0 = false := by decide
theorem u2 : qtyN 2147483647 = true := by decide
theorem u3 : qtyN 2147483648 = false := by decide
theorem u4 : validM ⟨1, 1, 5, 0⟩ = false := by decide
theorem u5 : sumV [3, 4] = (7, 0) := by decide
theorem u6 : sumV [2147483647, 1] = (0, 14) := by decide
theorem u7 : sumV [3, 0] = (0, 14) := by decide
theorem u8 : cmpN ⟨1, 1, 5, (3 : Int).toNat⟩ ⟨2, 9, 5, (2 : Int).toNat⟩ = 1 := by decide
theorem u9 : cmpN ⟨1, 9, 5, (3 : Int).toNat⟩ ⟨2, 1, 5, (3 : Int).toNat⟩ = -1 := by decide
theorem u10 : cmpN ⟨1, 1, 5, (3 : Int).toNat⟩ ⟨1, 1, 6, (3 : Int).toNat⟩ = -1 := by decide
theorem u11 : cmpN ⟨1, 1, 5, (3 : Int).toNat⟩ ⟨1, 1, 5, (3 : Int).toNat⟩ = 0 := by decide
theorem u12 : newV validM [mA, mB] = (mB, 0) := by decide
theorem u13 : nextV validM [mA, mB] = (5, 0) := by decide
theorem u14 : nextV validM [⟨1, 1, 5, 18446744073709551615⟩] = (0, 15) := by decide
theorem u15 : isSetB [((1 : Int), (1 : Int)), (2, 1)] = true := by decide
theorem u16 : isSetB [((2 : Int), (1 : Int)), (1, 1)] = false := by decide
theorem u17 : isSetB [((1 : Int), (1 : Int)), (1, 1)] = false := by decide

/-- What holds all along: three blocks, and nothing old has changed. -/
structure KQ (w : World) (g : Nat) (W : World) : Prop where
  a : BlkM W g mA
  b : BlkM W (g + 1) mB
  z : BlkM W (g + 1 + 1) Mk.zero
  bel : Below w.heap.size w W
section
variable {w W W' : World} {g : Nat}
theorem KQ.next (h : KQ w g W) (hb : Below W.heap.size W W') : KQ w g W' := ⟨h.a.below hb, h.b.below hb, h.z.below hb, below_trans h.bel hb⟩
theorem KQ.alloc (h : KQ w g W) (o : Obj) : KQ w g (W.alloc o) := h.next ((Below.refl _ _).alloc (Nat.le_refl _) _)
theorem KQ.drew (h : KQ w g W) : KQ w g W.drew := h.next (Below.refl _ _).drew
theorem KQ.cells (h : KQ w g W) : W.cell? ⟨g, 0, none⟩ = some (.int .i64 1) ∧ W.cell? ⟨g, 1, none⟩ = some (.int .i64 1) ∧ W.cell? ⟨g, 2, none⟩ = some (.int .i64 5) ∧ W.cell? ⟨g, 3, none⟩ = some (.int .u64 3) ∧
    W.cell? ⟨g + 1, 0, none⟩ = some (.int .i64 2) ∧ W.cell? ⟨g + 1, 1, none⟩ = some (.int .i64 1) ∧ W.cell? ⟨g + 1, 2, none⟩ = some (.int .i64 7) ∧ W.cell? ⟨g + 1, 3, none⟩ = some (.int .u64 4) ∧
    W.cell? ⟨g + 1 + 1, 0, none⟩ = some (.int .i64 0) ∧ W.cell? ⟨g + 1 + 1, 1, none⟩ = some (.int .i64 0) ∧ W.cell? ⟨g + 1 + 1, 2, none⟩ = some (.int .i64 0) ∧ W.cell? ⟨g + 1 + 1, 3, none⟩ = some (.int .u64 0) ∧ g + 1 + 1 < W.heap.size ∧ g + 1 < W.heap.size ∧ g < W.heap.size :=
  ⟨h.a.cell0, h.a.cell1, h.a.cell2, h.a.cell3, h.b.cell0, h.b.cell1, h.b.cell2, h.b.cell3, h.z.cell0, h.z.cell1, h.z.cell2, h.z.cell3, h.z.lt, h.b.lt, h.a.lt⟩
end

/-- What the last statement leans on in every order. -/
def KR (w : World) (g : Nat) (W : World) : Prop := W.cell? ⟨g, 0, none⟩ = some (.int .i64 1) ∧ W.cell? ⟨g, 1, none⟩ = some (.int .i64 1) ∧ W.cell? ⟨g, 2, none⟩ = some (.int .i64 5) ∧ W.cell? ⟨g, 3, none⟩ = some (.int .u64 3) ∧ W.cell? ⟨g + 1, 0, none⟩ = some (.int .i64 2) ∧ W.cell? ⟨g + 1, 1, none⟩ = some (.int .i64 1) ∧ W.cell? ⟨g + 1, 2, none⟩ = some (.int .i64 7) ∧ W.cell? ⟨g + 1, 3, none⟩ = some (.int .u64 4) ∧ g < W.heap.size ∧ g + 1 < W.heap.size ∧ KQ w g W
section
variable {w W W' : World} {g : Nat}
theorem KR.of (h : KQ w g W) : KR w g W := by
  obtain ⟨a0, a1, a2, a3, b0, b1, b2, b3, _, _, _, _, _, yl, xl⟩ := h.cells
  exact ⟨a0, a1, a2, a3, b0, b1, b2, b3, xl, yl, h⟩
theorem KR.kq (h : KR w g W) : KQ w g W := h.2.2.2.2.2.2.2.2.2.2
theorem KR.below (h : KR w g W) (hb : Below W.heap.size W W') : KR w g W' := .of (h.kq.next hb)
theorem KR.alloc (h : KR w g W) (o : Obj) : KR w g (W.alloc o) := .of (h.kq.alloc o)
theorem KR.drew (h : KR w g W) : KR w g W.drew := .of h.kq.drew
end
/-- Two marks that were written out. -/
theorem lit_l (X : World) (n : Nat) (r c q T r' c' q' T' : Int) (hn : X.heap.size = n) (h : 0 ≤ T) (h' : 0 ≤ T') : MarksAt (X.alloc (.cells #[.int .i64 r, .int .i64 c, .int .i64 q, .int .u64 T, .int .i64 r', .int .i64 c', .int .i64 q', .int .u64 T'] 26)) (some ⟨n, 0, none⟩) [⟨r, c, q, T.toNat⟩, ⟨r', c', q', T'.toNat⟩] := by
  have k := SlAt.litAt encM_len X n hn 26 [⟨r, c, q, T.toNat⟩, ⟨r', c', q', T'.toNat⟩] (by simp [maxLen])
  have e : (cellsOf encM [⟨r, c, q, T.toNat⟩, ⟨r', c', q', T'.toNat⟩]).toArray = #[.int .i64 r, .int .i64 c, .int .i64 q, .int .u64 T, .int .i64 r', .int .i64 c', .int .i64 q', .int .u64 T'] := by
    simp [cellsOf, encM, Int.toNat_of_nonneg h, Int.toNat_of_nonneg h']
  rw [e] at k
  exact k
theorem lit_d (X : World) (n : Nat) (r c q T r' c' q' T' : Int) (hn : X.heap.size = n) (h : 0 ≤ T) (h' : 0 ≤ T') : MarksAt (X.alloc (.cells #[.int .i64 r, .int .i64 c, .int .i64 q, .int .u64 T, .int .i64 r', .int .i64 c', .int .i64 q', .int .u64 T'] 26)).drew (some ⟨n, 0, none⟩) [⟨r, c, q, T.toNat⟩, ⟨r', c', q', T'.toNat⟩] :=
  (lit_l X n r c q T r' c' q' T' hn h h').below (Below.refl _ _).drew
theorem isList_l (W : World) (n : Nat) (a b : Mk) (x : Bool) (h : MarksAt W (some ⟨n, 0, none⟩) [a, b]) (hx : isSetB [(a.r, a.c), (b.r, b.c)] = x) : Calls Try.prog 23 #[.slice (some ⟨n, 0, none⟩) 2 2] W (OneB (.bool x) W) :=
  qtyIsList (some ⟨n, 0, none⟩) [a, b] 2 x W h (by simp) hx
theorem dots_l (W : World) (n : Nat) (a b : Mk) (h : MarksAt W (some ⟨n, 0, none⟩) [a, b]) : Calls Try.prog 26 #[.slice (some ⟨n, 0, none⟩) 2 2] W fun e w' => (∃ v, e = .returned v ∧ Holds w' v [(a.r, a.c), (b.r, b.c)]) ∧ Below W.heap.size W w' :=
  qtyDots (some ⟨n, 0, none⟩) [a, b] 2 W h (by simp)
theorem Holds.drew {W : World} {v : Value} {xs : List (Int × Int)} (h : Holds W v xs) : Holds W.drew v xs := h.below (Below.refl _ _).drew
/-- Two dots that were written out. -/
theorem holds_l (X : World) (n : Nat) (r c r' c' : Int) (hn : X.heap.size = n) : Holds (X.alloc (.cells #[.int .i64 r, .int .i64 c, .int .i64 r', .int .i64 c'] 23)) (.slice (some ⟨n, 0, none⟩) 2 2) [(r, c), (r', c')] :=
  ⟨_, 2, rfl, SlAt.litAt encD_len X n hn 23 [(r, c), (r', c')] (by simp [maxLen]), by simp, by simp [maxLen]⟩

set_option maxRecDepth 100000 in
set_option maxHeartbeats 4000000 in
theorem known8 (w : World) : Calls Try.prog 8 #[] w (TrueB w) := by
  go_enter Try.func8, Try.ntmps8
  go_wp2_with fail
  refine (mark_l 1 1 5 3 w (by decide)).mono ?_
  rintro e w1 ⟨rfl, hb1⟩
  go_wp2_with fail
  refine (mark_l 2 1 7 4 w1 (by decide)).mono ?_
  rintro e w2 ⟨rfl, hb2⟩
  have hb := below_trans hb1 hb2
  clear hb1 hb2
  go_wp2_with fail
  obtain ⟨g, hg⟩ : ∃ g, w2.heap.size = g := ⟨_, rfl⟩
  have K3 := Lib.hid (show KQ w w2.heap.size (((w2.alloc (.cells #[.int .i64 1, .int .i64 1, .int .i64 5, .int .u64 3] 26)).alloc (.cells #[.int .i64 2, .int .i64 1, .int .i64 7, .int .u64 4] 26)).alloc (.cells #[.int .i64 0, .int .i64 0, .int .i64 0, .int .u64 0] 26)) from by
    have s1 : (w2.alloc (.cells #[.int .i64 1, .int .i64 1, .int .i64 5, .int .u64 3] 26)).heap.size = w2.heap.size + 1 := by simp
    have s2 : ((w2.alloc (.cells #[.int .i64 1, .int .i64 1, .int .i64 5, .int .u64 3] 26)).alloc (.cells #[.int .i64 2, .int .i64 1, .int .i64 7, .int .u64 4] 26)).heap.size = w2.heap.size + 1 + 1 := by simp
    have q1 := BlkM.new w2 mA
    have q2 := BlkM.new (w2.alloc (.cells #[.int .i64 1, .int .i64 1, .int .i64 5, .int .u64 3] 26)) mB
    have q3 := BlkM.new ((w2.alloc (.cells #[.int .i64 1, .int .i64 1, .int .i64 5, .int .u64 3] 26)).alloc (.cells #[.int .i64 2, .int .i64 1, .int .i64 7, .int .u64 4] 26)) Mk.zero
    rw [s1] at q2
    rw [s2] at q3
    have l1 := (Below.refl _ w2).alloc (Nat.le_refl _) (.cells #[.int .i64 1, .int .i64 1, .int .i64 5, .int .u64 3] 26)
    have l2 := (Below.refl _ (w2.alloc (.cells #[.int .i64 1, .int .i64 1, .int .i64 5, .int .u64 3] 26))).alloc (Nat.le_refl _) (.cells #[.int .i64 2, .int .i64 1, .int .i64 7, .int .u64 4] 26)
    have l3 := (Below.refl _ ((w2.alloc (.cells #[.int .i64 1, .int .i64 1, .int .i64 5, .int .u64 3] 26)).alloc (.cells #[.int .i64 2, .int .i64 1, .int .i64 7, .int .u64 4] 26))).alloc (Nat.le_refl _) (.cells #[.int .i64 0, .int .i64 0, .int .i64 0, .int .u64 0] 26)
    exact ⟨(q1.below l2).below l3, q2.below l3, q3, below_trans (below_trans (below_trans hb l1) l2) l3⟩)
  clear hb
  rw [hg] at K3 ⊢
  generalize World.alloc (World.alloc (World.alloc w2 _) _) _ = w3 at K3 ⊢
  clear hg
  obtain ⟨a0, a1, a2, a3, b0, b1, b2, b3, z0, z1, z2, z3, zl, yl, xl⟩ := K3.out.cells
  go_wp2_with fail
  refine (valid_l 0 false _ u1).mono ?_
  rintro e w4 ⟨rfl, rfl⟩
  go_wp2_with fail
  refine (valid_l 2147483647 true _ u2).mono ?_
  rintro e w4 ⟨rfl, rfl⟩
  go_wp2_with fail
  refine (valid_l 2147483648 false _ u3).mono ?_
  rintro e w4 ⟨rfl, rfl⟩
  go_wp2_with fail
  refine (mark_l 1 1 5 0 w3 (by decide)).mono ?_
  rintro e w4 ⟨rfl, hb⟩
  have K4 := Lib.hid (K3.out.next hb)
  clear a0 a1 a2 a3 b0 b1 b2 b3 z0 z1 z2 z3 zl yl xl
  clear hb K3
  obtain ⟨a0, a1, a2, a3, b0, b1, b2, b3, z0, z1, z2, z3, zl, yl, xl⟩ := K4.out.cells
  go_wp2_with fail
  refine (valM_l 1 1 5 0 false w4 (by decide) u4).mono ?_
  rintro e w5 ⟨rfl, hb⟩
  have K5 := Lib.hid (K4.out.next hb)
  clear a0 a1 a2 a3 b0 b1 b2 b3 z0 z1 z2 z3 zl yl xl
  clear hb K4
  obtain ⟨a0, a1, a2, a3, b0, b1, b2, b3, z0, z1, z2, z3, zl, yl, xl⟩ := K5.out.cells
  go_wp2_with fail
  have K6 := Lib.hid (K5.out.alloc (.cells #[.int .i64 3, .int .i64 4] 3))
  have HL := Lib.hid (show NumsAt (w5.alloc (.cells #[.int .i64 3, .int .i64 4] 3)) (some ⟨w5.heap.size, 0, none⟩) [3, 4] from SlAt.litK encZ_len w5 3 [3, 4] (by decide))
  obtain ⟨g6, hg⟩ : ∃ g, w5.heap.size = g := ⟨_, rfl⟩
  rw [hg] at HL ⊢
  clear a0 a1 a2 a3 b0 b1 b2 b3 z0 z1 z2 z3 zl yl xl
  clear K5 hg
  generalize World.alloc w5 _ = w6 at K6 HL ⊢
  refine (sums_l g6 [3, 4] 2 2 7 0 w6 HL.out rfl (by decide) (by decide) u5).mono ?_
  rintro e w7 ⟨rfl, rfl⟩
  clear HL
  obtain ⟨a0, a1, a2, a3, b0, b1, b2, b3, z0, z1, z2, z3, zl, yl, xl⟩ := K6.out.cells
  go_wp2_with fail
  have K7 := Lib.hid (K6.out.alloc (.cells #[.int .i64 2147483647, .int .i64 1] 3))
  have HL := Lib.hid (show NumsAt (w6.alloc (.cells #[.int .i64 2147483647, .int .i64 1] 3)) (some ⟨w6.heap.size, 0, none⟩) [2147483647, 1] from SlAt.litK encZ_len w6 3 [2147483647, 1] (by decide))
  obtain ⟨g7, hg⟩ : ∃ g, w6.heap.size = g := ⟨_, rfl⟩
  rw [hg] at HL ⊢
  clear a0 a1 a2 a3 b0 b1 b2 b3 z0 z1 z2 z3 zl yl xl
  clear K6 hg
  generalize World.alloc w6 _ = w7 at K7 HL ⊢
  refine (sums_l g7 [2147483647, 1] 2 2 0 14 w7 HL.out rfl (by decide) (by decide) u6).mono ?_
  rintro e w8 ⟨rfl, rfl⟩
  clear HL
  obtain ⟨a0, a1, a2, a3, b0, b1, b2, b3, z0, z1, z2, z3, zl, yl, xl⟩ := K7.out.cells
  go_wp2_with fail
  have K8 := Lib.hid (K7.out.alloc (.cells #[.int .i64 3, .int .i64 0] 3))
  have HL := Lib.hid (show NumsAt (w7.alloc (.cells #[.int .i64 3, .int .i64 0] 3)) (some ⟨w7.heap.size, 0, none⟩) [3, 0] from SlAt.litK encZ_len w7 3 [3, 0] (by decide))
  obtain ⟨g8, hg⟩ : ∃ g, w7.heap.size = g := ⟨_, rfl⟩
  rw [hg] at HL ⊢
  clear a0 a1 a2 a3 b0 b1 b2 b3 z0 z1 z2 z3 zl yl xl
  clear K7 hg
  generalize World.alloc w7 _ = w8 at K8 HL ⊢
  refine (sums_l g8 [3, 0] 2 2 0 14 w8 HL.out rfl (by decide) (by decide) u7).mono ?_
  rintro e w9 ⟨rfl, rfl⟩
  clear HL
  obtain ⟨a0, a1, a2, a3, b0, b1, b2, b3, z0, z1, z2, z3, zl, yl, xl⟩ := K8.out.cells
  go_wp2_with fail
  refine (lawSums none [] 0 0 9 w8 SlAt.nil (by decide) rfl).mono ?_
  rintro e wx ⟨rfl, rfl⟩
  go_wp2_with fail
  have m0 := fun p => cell_far (p := p) (show g < w8.heap.size by omega) a0
  have m1 := fun p => cell_far (p := p) (show g < w8.heap.size by omega) a1
  have m2 := fun p => cell_far (p := p) (show g < w8.heap.size by omega) a2
  have m3 := fun p => cell_far (p := p) (show g < w8.heap.size by omega) a3
  refine wp_region_far (by kernel_rfl) (by kernel_rfl) ?_
  repeat (go_big_quiet_step ((first | (go_at_call 31; with_reducible first | exact OneB.far (mark_l 2 9 5 2 _ (by decide)) | exact OneB.far (mark_l 1 9 5 3 _ (by decide)) | exact OneB.far (mark_l 2 1 5 3 _ (by decide)) | exact OneB.far (mark_l 1 1 6 3 _ (by decide))) | (go_at_call 15; with_reducible first | exact OneB.far (cmp_l 1 1 5 3 2 9 5 2 1 _ (by decide) (by decide) u8) | exact OneB.far (cmp_l 1 9 5 3 2 1 5 3 (-1) _ (by decide) (by decide) u9) | exact OneB.far (cmp_l 1 1 5 3 1 1 6 3 (-1) _ (by decide) (by decide) u10) | exact OneB.far (cmp_l 1 1 5 3 1 1 5 3 0 _ (by decide) (by decide) u11)))))
  refine wpQuiet_nil ?_
  rintro _ ⟨p, rfl⟩
  have K9 := Lib.hid (K8.out.next (below_far w8 p))
  clear m0 m1 m2 m3
  clear a0 a1 a2 a3 b0 b1 b2 b3 z0 z1 z2 z3 zl yl xl
  clear K8
  generalize far w8 p = w9 at K9 ⊢
  obtain ⟨a0, a1, a2, a3, b0, b1, b2, b3, z0, z1, z2, z3, zl, yl, xl⟩ := K9.out.cells
  go_wp2_with fail
  have K10 := Lib.hid (K9.out.alloc (.cells #[.int .i64 1, .int .i64 1, .int .i64 5, .int .u64 3, .int .i64 2, .int .i64 1, .int .i64 7, .int .u64 4] 26))
  have HL := Lib.hid (show MarksAt (w9.alloc (.cells #[.int .i64 1, .int .i64 1, .int .i64 5, .int .u64 3, .int .i64 2, .int .i64 1, .int .i64 7, .int .u64 4] 26)) (some ⟨w9.heap.size, 0, none⟩) [⟨1, 1, 5, 3⟩, ⟨2, 1, 7, 4⟩] from SlAt.litK encM_len w9 26 [⟨1, 1, 5, 3⟩, ⟨2, 1, 7, 4⟩] (by simp [maxLen]))
  obtain ⟨g10, hg⟩ : ∃ g, w9.heap.size = g := ⟨_, rfl⟩
  rw [hg] at HL ⊢
  clear a0 a1 a2 a3 b0 b1 b2 b3 z0 z1 z2 z3 zl yl xl
  clear K9 hg
  generalize World.alloc w9 _ = w10 at K10 HL ⊢
  refine (newest_l (some ⟨g10, 0, none⟩) [⟨1, 1, 5, 3⟩, ⟨2, 1, 7, 4⟩] 2 2 2 1 7 4 0 w10 HL.out rfl (by simp [maxLen]) (by decide) (by decide) u12).mono ?_
  rintro e w11 ⟨rfl, hb⟩
  have K11 := Lib.hid (K10.out.next hb)
  clear hb HL K10
  obtain ⟨a0, a1, a2, a3, b0, b1, b2, b3, z0, z1, z2, z3, zl, yl, xl⟩ := K11.out.cells
  go_wp2_with fail
  refine (newest_l none [] 0 0 0 0 0 0 9 w11 SlAt.nil rfl (by simp [maxLen]) (by decide) (by decide) rfl).mono ?_
  rintro e w12 ⟨rfl, hb⟩
  have K12 := Lib.hid (K11.out.next hb)
  clear a0 a1 a2 a3 b0 b1 b2 b3 z0 z1 z2 z3 zl yl xl
  clear hb K11
  obtain ⟨a0, a1, a2, a3, b0, b1, b2, b3, z0, z1, z2, z3, zl, yl, xl⟩ := K12.out.cells
  go_wp2_with fail
  have K13 := Lib.hid (K12.out.alloc (.cells #[.int .i64 1, .int .i64 1, .int .i64 5, .int .u64 3, .int .i64 2, .int .i64 1, .int .i64 7, .int .u64 4] 26))
  have HL := Lib.hid (show MarksAt (w12.alloc (.cells #[.int .i64 1, .int .i64 1, .int .i64 5, .int .u64 3, .int .i64 2, .int .i64 1, .int .i64 7, .int .u64 4] 26)) (some ⟨w12.heap.size, 0, none⟩) [⟨1, 1, 5, 3⟩, ⟨2, 1, 7, 4⟩] from SlAt.litK encM_len w12 26 [⟨1, 1, 5, 3⟩, ⟨2, 1, 7, 4⟩] (by simp [maxLen]))
  obtain ⟨g13, hg⟩ : ∃ g, w12.heap.size = g := ⟨_, rfl⟩
  rw [hg] at HL ⊢
  clear a0 a1 a2 a3 b0 b1 b2 b3 z0 z1 z2 z3 zl yl xl
  clear K12 hg
  generalize World.alloc w12 _ = w13 at K13 HL ⊢
  refine (next_l (some ⟨g13, 0, none⟩) [⟨1, 1, 5, 3⟩, ⟨2, 1, 7, 4⟩] 2 2 5 0 w13 HL.out rfl (by simp [maxLen]) (by decide) (by decide) (by decide) u13).mono ?_
  rintro e w14 ⟨rfl, hb⟩
  have K14 := Lib.hid (K13.out.next hb)
  clear hb HL K13
  obtain ⟨a0, a1, a2, a3, b0, b1, b2, b3, z0, z1, z2, z3, zl, yl, xl⟩ := K14.out.cells
  go_wp2_with fail
  refine (next_l none [] 0 0 1 0 w14 SlAt.nil rfl (by simp [maxLen]) (by decide) (by decide) (by decide) rfl).mono ?_
  rintro e w15 ⟨rfl, hb⟩
  have K15 := Lib.hid (K14.out.next hb)
  clear a0 a1 a2 a3 b0 b1 b2 b3 z0 z1 z2 z3 zl yl xl
  clear hb K14
  obtain ⟨a0, a1, a2, a3, b0, b1, b2, b3, z0, z1, z2, z3, zl, yl, xl⟩ := K15.out.cells
  go_wp2_with fail
  refine (mark_l 1 1 5 18446744073709551615 w15 (by decide)).mono ?_
  rintro e w16 ⟨rfl, hb⟩
  have K16 := Lib.hid (K15.out.next hb)
  clear a0 a1 a2 a3 b0 b1 b2 b3 z0 z1 z2 z3 zl yl xl
  clear hb K15
  obtain ⟨a0, a1, a2, a3, b0, b1, b2, b3, z0, z1, z2, z3, zl, yl, xl⟩ := K16.out.cells
  go_wp2_with fail
  have K17 := Lib.hid (K16.out.alloc (.cells #[.int .i64 1, .int .i64 1, .int .i64 5, .int .u64 18446744073709551615] 26))
  have HL := Lib.hid (show MarksAt (w16.alloc (.cells #[.int .i64 1, .int .i64 1, .int .i64 5, .int .u64 18446744073709551615] 26)) (some ⟨w16.heap.size, 0, none⟩) [⟨1, 1, 5, 18446744073709551615⟩] from SlAt.litK encM_len w16 26 [⟨1, 1, 5, 18446744073709551615⟩] (by simp [maxLen]))
  obtain ⟨g17, hg⟩ : ∃ g, w16.heap.size = g := ⟨_, rfl⟩
  rw [hg] at HL ⊢
  clear a0 a1 a2 a3 b0 b1 b2 b3 z0 z1 z2 z3 zl yl xl
  clear K16 hg
  generalize World.alloc w16 _ = w17 at K17 HL ⊢
  refine (next_l (some ⟨g17, 0, none⟩) [⟨1, 1, 5, 18446744073709551615⟩] 1 1 0 15 w17 HL.out rfl (by simp [maxLen]) (by decide) (by decide) (by decide) u14).mono ?_
  rintro e w18 ⟨rfl, hb⟩
  have K18 := Lib.hid (K17.out.next hb)
  clear hb HL K17
  obtain ⟨a0, a1, a2, a3, b0, b1, b2, b3, z0, z1, z2, z3, zl, yl, xl⟩ := K18.out.cells
  go_wp2_with fail
  have hS := KR.of K18.out
  have hS' : w18.cell? ⟨g, 0, none⟩ = some (.int .i64 1) ∧ w18.cell? ⟨g, 1, none⟩ = some (.int .i64 1) ∧ w18.cell? ⟨g, 2, none⟩ = some (.int .i64 5) ∧ w18.cell? ⟨g, 3, none⟩ = some (.int .u64 3) ∧ w18.cell? ⟨g + 1, 0, none⟩ = some (.int .i64 2) ∧ w18.cell? ⟨g + 1, 1, none⟩ = some (.int .i64 1) ∧ w18.cell? ⟨g + 1, 2, none⟩ = some (.int .i64 7) ∧ w18.cell? ⟨g + 1, 3, none⟩ = some (.int .u64 4) ∧ g < w18.heap.size ∧ g + 1 < w18.heap.size ∧ KQ w g w18 := hS
  clear K18 a0 a1 a2 a3 b0 b1 b2 b3 z0 z1 z2 z3 zl yl xl
  go_region_held3 (fun w' => w'.cell? ⟨g, 0, none⟩ = some (.int .i64 1) ∧ w'.cell? ⟨g, 1, none⟩ = some (.int .i64 1) ∧ w'.cell? ⟨g, 2, none⟩ = some (.int .i64 5) ∧ w'.cell? ⟨g, 3, none⟩ = some (.int .u64 3) ∧ w'.cell? ⟨g + 1, 0, none⟩ = some (.int .i64 2) ∧ w'.cell? ⟨g + 1, 1, none⟩ = some (.int .i64 1) ∧ w'.cell? ⟨g + 1, 2, none⟩ = some (.int .i64 7) ∧ w'.cell? ⟨g + 1, 3, none⟩ = some (.int .u64 4) ∧ g < w'.heap.size ∧ g + 1 < w'.heap.size ∧ KQ w g w')
    (first
      | assumption
      | (exact KR.drew (by assumption))
      | (exact KR.alloc (by assumption) _)
      | (exact KR.drew (KR.alloc (by assumption) _)))
    (first
      | (go_at_call 23; first
           | refine (isList_l _ _ ⟨1, 1, 5, (3 : Int).toNat⟩ ⟨2, 1, 7, (4 : Int).toNat⟩ true (by first | exact lit_l _ _ 1 1 5 3 2 1 7 4 (by simp) (by decide) (by decide) | exact lit_d _ _ 1 1 5 3 2 1 7 4 (by simp) (by decide) (by decide)) u15).mono ?_
           | refine (isList_l _ _ ⟨2, 1, 7, (4 : Int).toNat⟩ ⟨1, 1, 5, (3 : Int).toNat⟩ false (by first | exact lit_l _ _ 2 1 7 4 1 1 5 3 (by simp) (by decide) (by decide) | exact lit_d _ _ 2 1 7 4 1 1 5 3 (by simp) (by decide) (by decide)) u16).mono ?_
           | refine (isList_l _ _ ⟨1, 1, 5, (3 : Int).toNat⟩ ⟨1, 1, 7, (4 : Int).toNat⟩ false (by first | exact lit_l _ _ 1 1 5 3 1 1 7 4 (by simp) (by decide) (by decide) | exact lit_d _ _ 1 1 5 3 1 1 7 4 (by simp) (by decide) (by decide)) u17).mono ?_
         rintro e w1 ⟨rfl, hb1⟩
         have hS1 := KR.below (by first | assumption | exact KR.alloc (by assumption) _ | exact KR.drew (KR.alloc (by assumption) _)) hb1)
      | (go_at_call 31; refine (mark_l 1 1 7 4 _ (by decide)).mono ?_
         rintro e w1 ⟨rfl, hb1⟩
         have hS1 := KR.below (by assumption) hb1)
      | (go_at_call 26; refine (dots_l _ _ ⟨2, 1, 7, (4 : Int).toNat⟩ ⟨1, 1, 5, (3 : Int).toNat⟩ (by first | exact lit_l _ _ 2 1 7 4 1 1 5 3 (by simp) (by decide) (by decide) | exact lit_d _ _ 2 1 7 4 1 1 5 3 (by simp) (by decide) (by decide) | exact (lit_l _ _ 2 1 7 4 1 1 5 3 (by simp) (by decide) (by decide)).below ((Below.refl _ _).alloc (Nat.le_refl _) _))).mono ?_
         rintro e w2 ⟨⟨v2, rfl, hv2⟩, hb2⟩
         have hS2 := KR.below (by first | assumption | exact KR.alloc (by assumption) _ | exact KR.drew (KR.alloc (by assumption) _) | exact KR.alloc (KR.alloc (by assumption) _) _) hb2)
      | (go_at_call 25; refine (refSame_h _ _ [(2, 1), (1, 1)] _ (by first | exact hv2 | exact hv2.below ((Below.refl _ _).alloc (Nat.le_refl _) _) | exact (hv2.below ((Below.refl _ _).alloc (Nat.le_refl _) _)).drew) (by first | exact holds_l _ _ 2 1 1 1 (by simp) | exact (holds_l _ _ 2 1 1 1 (by simp)).drew | (refine Holds.below ?_ hb2; first | exact holds_l _ _ 2 1 1 1 (by simp) | exact (holds_l _ _ 2 1 1 1 (by simp)).drew | exact (holds_l _ _ 2 1 1 1 (by simp)).below ((Below.refl _ _).alloc (Nat.le_refl _) _)))).mono ?_
         rintro e w3 ⟨rfl, hb3⟩
         have hS3 := KR.below (by assumption) hb3))
  all_goals
    have HS := Lib.hid hS3.kq.bel
    clear hS hS' hS1 hS2 hS3
    go_wp2_with fail
    go_ret
    exact ⟨rfl, HS.out⟩

end Go.Proofs.Ytimamilmaobgcaa
