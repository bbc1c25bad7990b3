/- The law of looks of layer 2 returns true. -/
import Derived.Test.YteeigngomleijaaDoorVecN
import Derived.Test.YteeigngomleijaaDoorTextsW
namespace Go.Proofs.YteeigngomleijaaDoor
open Go.RowKit

theorem ref2Valid_h (v : Value) (xs : List (Int × Int)) (b : Bool) (w : World) (h : Holds w v xs) (hb : validV xs = b) :
    Calls Tryd.prog 27 #[v] w fun e w' => e = .returned (.bool b) ∧ Below w.heap.size w w' := by
  obtain ⟨A, c, rfl, h1, h2, h3⟩ := h
  subst hb
  exact ref2Valid A xs c w h1 (Nat.le_trans h2 h3)
theorem ref2Get_h (v : Value) (xs : List (Int × Int)) (r n : Int) (w : World) (h : Holds w v xs) (hn : getV xs r = n) :
    Calls Tryd.prog 29 #[v, .int .i64 r] w fun e w' => e = .returned (.int .i64 n) ∧ Below w.heap.size w w' := by
  obtain ⟨A, c, rfl, h1, h2, h3⟩ := h
  subst hn
  exact ref2Get A xs c r w h1 (Nat.le_trans h2 h3)
theorem ref2Has_h (v : Value) (xs : List (Int × Int)) (r q : Int) (b : Bool) (w : World) (h : Holds w v xs) (hb : hasV xs r q = b) :
    Calls Tryd.prog 31 #[v, .agg #[.int .i64 r, .int .i64 q]] w fun e w' => e = .returned (.bool b) ∧ Below w.heap.size w w' := by
  obtain ⟨A, c, rfl, h1, h2, h3⟩ := h
  subst hb
  exact ref2Has A xs c r q w h1 (Nat.le_trans h2 h3)

set_option maxRecDepth 100000 in
set_option maxHeartbeats 4000000 in
theorem lawVectorLooks (A : Option Addr) (xs : List (Int × Int)) (c : Nat) (r0 rx cx : Int) (w : World) (hx : Holds w (.slice A xs.length c) xs) (ht : TabOK w) :
    Calls Tryd.prog 5 #[.slice A xs.length c, .int .i64 r0, .agg #[.int .i64 rx, .int .i64 cx]] w fun e w' => e = .returned (.bool true) ∧ Below w.heap.size w w' := by
  have LX : xs.length ≤ maxLen := by obtain ⟨_, _, h, _, h2, h3⟩ := hx; omega
  unfold maxLen at LX
  have hal : Below w.heap.size w (w.alloc (.cells #[.int .i64 rx, .int .i64 cx] 23)) := (Below.refl _ w).alloc (Nat.le_refl _) _
  have HAL := Lib.hid hal
  by_cases h1 : xs.length ≤ 40
  · have t1 : ¬ (40 < (xs.length : Int)) := by omega
    have g0 : (w.alloc (.cells #[.int .i64 rx, .int .i64 cx] 23)).cell? ⟨w.heap.size, 0, none⟩ = some (.int .i64 rx) := by go_simp
    have g1 : (w.alloc (.cells #[.int .i64 rx, .int .i64 cx] 23)).cell? ⟨w.heap.size, 1, none⟩ = some (.int .i64 cx) := by go_simp
    have gz : w.heap.size < (w.alloc (.cells #[.int .i64 rx, .int .i64 cx] 23)).heap.size := by simp
    have l4 := fun p => cell_far (p := p) (a := ⟨w.heap.size, 0, none⟩) gz g0
    have l5 := fun p => cell_far (p := p) (a := ⟨w.heap.size, 1, none⟩) gz g1
    obtain ⟨b1, hb1⟩ : ∃ b, b = validV xs := ⟨_, rfl⟩
    obtain ⟨n1, hn1⟩ : ∃ n, n = getV xs r0 := ⟨_, rfl⟩
    obtain ⟨b2, hb2⟩ : ∃ b, b = hasV xs rx cx := ⟨_, rfl⟩
    have H1 := Lib.hid fun p => vecValid_h _ xs b1 _ ((hx.below hal).below (below_far _ p)) hb1.symm
    have H2 := Lib.hid fun p => ref2Valid_h _ xs b1 _ ((hx.below hal).below (below_far _ p)) hb1.symm
    have H3 := Lib.hid fun p => vecGet_h _ xs r0 n1 _ ((hx.below hal).below (below_far _ p)) hn1.symm
    have H4 := Lib.hid fun p => ref2Get_h _ xs r0 n1 _ ((hx.below hal).below (below_far _ p)) hn1.symm
    have H5 := Lib.hid fun p => vecHas_h _ xs rx cx b2 _ ((hx.below hal).below (below_far _ p)) hb2.symm
    have H6 := Lib.hid fun p => ref2Has_h _ xs rx cx b2 _ ((hx.below hal).below (below_far _ p)) hb2.symm
    have KN := Lib.hid fun p => known2 _ ((ht.below hal).below (below_far _ p))
    clear g0 g1 gz hal hx ht hb1 hn1 hb2
    go_enter Tryd.func5, Tryd.ntmps5
    go_wp2_with fail
    generalize w.alloc (.cells #[.int .i64 rx, .int .i64 cx] 23) = W at *
    refine wp_region_far (by kernel_rfl) (by kernel_rfl) ?_
    repeat (go_big_quiet_step ((first | (go_at_call 26; exact far_of (H1.out _)) | (go_at_call 27; exact far_of (H2.out _)) | (go_at_call 28; exact far_of (H3.out _)) | (go_at_call 29; exact far_of (H4.out _)) | (go_at_call 30; exact far_of (H5.out _)) | (go_at_call 31; exact far_of (H6.out _)) | (go_at_call 25; exact far_of (KN.out _)))))
    refine wpQuiet_nil ?_
    rintro _ ⟨p, rfl⟩
    go_wp2
    go_ret
    exact ⟨ret_bool (by simp), below_trans HAL.out (below_far W p)⟩
  · have t1 : 40 < (xs.length : Int) := by omega
    have KN := Lib.hid (known2 _ (ht.below hal))
    clear hal hx ht
    go_enter Tryd.func5, Tryd.ntmps5
    go_wp2_with (go_at_call 25; refine KN.out.mono ?_; rintro e w1 ⟨rfl, hb⟩)
    go_ret
    exact ⟨rfl, below_trans HAL.out hb⟩

end Go.Proofs.YteeigngomleijaaDoor
