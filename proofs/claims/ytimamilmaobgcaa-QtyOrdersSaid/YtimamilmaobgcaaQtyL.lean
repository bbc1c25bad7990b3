/- The laws QtyValid, QtyOrders, QtyLists. -/
import Derived.Test.YtimamilmaobgcaaQtyJ
namespace Go.Proofs.Ytimamilmaobgcaa
open Go.RowKit

set_option maxRecDepth 100000 in
set_option maxHeartbeats 2000000 in
theorem lawValid8 (q : Int) (m : Mk) (A : Option Addr) (xs : List Int) (c : Nat) (w : World) (hx : NumsAt w A xs) (hm : xs.length ≤ maxLen) :
    Calls Try.prog 3 #[.int .i64 q, mkV m, .slice A xs.length c] w (TrueB w) := by
  unfold maxLen at hm
  have hb0 := Lib.hid ((Below.refl w.heap.size w).alloc (Nat.le_refl _) (.cells #[.int .i64 m.r, .int .i64 m.c, .int .i64 m.q, .int .u64 (m.t : Int)] 26))
  have hB0 := Lib.hid (BlkM.new w m)
  by_cases h40 : 40 < xs.length
  · have i0 : (40 : Int) < (xs.length : Int) := by omega
    go_enter Try.func3, Try.ntmps3
    go_wp2_with fail
    refine (known8 _).mono ?_
    rintro e w1 ⟨rfl, hb⟩
    have HB := Lib.hid (below_trans hb0.out hb)
    clear hb
    go_wp2_with fail
    go_ret
    exact ⟨rfl, HB.out⟩
  · have i0 : ¬ (40 : Int) < (xs.length : Int) := by omega
    have h41 : xs.length ≤ 40 := by omega
    obtain ⟨s, n, hs⟩ : ∃ s n, sumV xs = (s, n) := ⟨_, _, rfl⟩
    have HR := Lib.hid fun W h => refSum A xs c s n W h (by omega) hs
    have HX := Lib.hid (SlAt.below hx hb0.out)
    have HS := Lib.hid fun W (h : NumsAt W A xs) => lawSums A xs c s n W h (by simp [maxLen]; omega) hs
    clear hx hs h40
    go_enter Try.func3, Try.ntmps3
    go_wp2_with fail
    refine (HR.out _ HX.out).mono ?_
    rintro e w1 ⟨rfl, rfl⟩
    generalize w.alloc _ = w1 at hb0 hB0 HX ⊢
    have hlw := hB0.out.lt
    have m0 := fun p => cell_far (p := p) hlw hB0.out.cell0
    have m1 := fun p => cell_far (p := p) hlw hB0.out.cell1
    have m2 := fun p => cell_far (p := p) hlw hB0.out.cell2
    have m3 := fun p => cell_far (p := p) hlw hB0.out.cell3
    have HQ := Lib.hid fun W => qtyValid q W
    have HQ2 := Lib.hid fun W => refQty q W
    have HM := Lib.hid fun W => qtyMark m W
    have HM2 := Lib.hid fun W => refMark m W
    generalize qtyN q = b1 at HQ HQ2
    generalize validM m = b2 at HM HM2
    go_wp2_with fail
    refine wp_region_far (by kernel_rfl) (by kernel_rfl) ?_
    repeat (go_big_quiet_step ((first | (go_at_call 10; exact One.far (HQ.out _)) | (go_at_call 11; exact One.far (HQ2.out _)) | (go_at_call 12; exact OneB.far (HM.out _)) | (go_at_call 13; exact OneB.far (HM2.out _)) | (go_at_call 14; exact One.far (HS.out _ (HX.out.far _))) | (go_at_call 8; exact OneB.far (known8 _)))))
    refine wpQuiet_nil ?_
    rintro _ ⟨p, rfl⟩
    have HB := Lib.hid (below_trans hb0.out (below_far w1 p))
    clear m0 m1 m2 m3
    go_wp2_with fail
    go_ret
    exact ⟨rfl, HB.out⟩

set_option maxRecDepth 100000 in
set_option maxHeartbeats 2000000 in
theorem lawOrders8 (a b : Mk) (w : World) :
    Calls Try.prog 4 #[mkV a, mkV b] w (TrueB w) := by
  have hb0 := Lib.hid (((Below.refl w.heap.size w).alloc (Nat.le_refl _) (.cells #[.int .i64 a.r, .int .i64 a.c, .int .i64 a.q, .int .u64 (a.t : Int)] 26)).alloc (by simp) (.cells #[.int .i64 b.r, .int .i64 b.c, .int .i64 b.q, .int .u64 (b.t : Int)] 26))
  have hA := Lib.hid ((BlkM.new w a).below ((Below.refl _ _).alloc (Nat.le_refl _) (.cells #[.int .i64 b.r, .int .i64 b.c, .int .i64 b.q, .int .u64 (b.t : Int)] 26)))
  have hB := Lib.hid (show BlkM ((w.alloc (.cells #[.int .i64 a.r, .int .i64 a.c, .int .i64 a.q, .int .u64 (a.t : Int)] 26)).alloc (.cells #[.int .i64 b.r, .int .i64 b.c, .int .i64 b.q, .int .u64 (b.t : Int)] 26)) (w.heap.size + 1) b from by
    have h := BlkM.new (w.alloc (.cells #[.int .i64 a.r, .int .i64 a.c, .int .i64 a.q, .int .u64 (a.t : Int)] 26)) b
    rwa [show (w.alloc (.cells #[.int .i64 a.r, .int .i64 a.c, .int .i64 a.q, .int .u64 (a.t : Int)] 26)).heap.size = w.heap.size + 1 by simp] at h)
  have C1 := Lib.hid fun W => qtyCompare a b W
  have C2 := Lib.hid fun W => refCompare8 a b W
  have D1 := Lib.hid fun W => qtyCompare b a W
  have D2 := Lib.hid fun W => refCompare8 b a W
  have E1 := Lib.hid fun W => qtyCompare a a W
  rw [cmpN_self] at E1
  generalize cmpN a b = x at C1 C2
  generalize cmpN b a = y at D1 D2
  go_enter Try.func4, Try.ntmps4
  go_wp2_with fail
  generalize World.alloc (World.alloc w _) _ = w1 at hb0 hA hB ⊢
  have hla := hA.out.lt
  have hlb := hB.out.lt
  have m0 := fun p => cell_far (p := p) hla hA.out.cell0
  have m1 := fun p => cell_far (p := p) hla hA.out.cell1
  have m2 := fun p => cell_far (p := p) hla hA.out.cell2
  have m3 := fun p => cell_far (p := p) hla hA.out.cell3
  have n0 := fun p => cell_far (p := p) hlb hB.out.cell0
  have n1 := fun p => cell_far (p := p) hlb hB.out.cell1
  have n2 := fun p => cell_far (p := p) hlb hB.out.cell2
  have n3 := fun p => cell_far (p := p) hlb hB.out.cell3
  refine wp_region_far (by kernel_rfl) (by kernel_rfl) ?_
  repeat (go_big_quiet_step ((first | (go_at_call 15; with_reducible first | exact OneB.far (C1.out _) | exact OneB.far (D1.out _) | exact OneB.far (E1.out _)) | (go_at_call 16; with_reducible first | exact OneB.far (C2.out _) | exact OneB.far (D2.out _)) | (go_at_call 8; exact OneB.far (known8 _)))))
  refine wpQuiet_nil ?_
  rintro _ ⟨p, rfl⟩
  have HB := Lib.hid (below_trans hb0.out (below_far w1 p))
  clear m0 m1 m2 m3 n0 n1 n2 n3
  go_wp2_with fail
  go_ret
  exact ⟨rfl, HB.out⟩

end Go.Proofs.Ytimamilmaobgcaa
