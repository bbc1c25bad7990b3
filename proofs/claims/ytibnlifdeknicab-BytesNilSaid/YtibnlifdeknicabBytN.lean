/- Nil and zero readers: what they answer; the law BytesNil. -/
import Derived.Test.YtibnlifdeknicabBytL
import Derived.Lib.SmallJoins
import Derived.Outline
namespace Go.Proofs.Ytibnlifdeknicab
open Go.RowKit

/-- A reader that is nil or zero. -/
def ZeroR (p : Value) (w : World) : Prop := Calls Try.prog 38 #[p] w fun e w' => e = .returned (.bool true) ∧ w = w'

theorem numZ (p : Value) (n : Nat) (w : World) (h : ZeroR p w) : Calls Try.prog 25 #[p, .int .u64 (n : Int)] w fun e w' => e = .returned (.tuple #[.int .u64 0, .int .i64 1]) ∧ w = w' := by
  have HZ := Lib.hid h
  clear h
  go_enter Try.func25, Try.ntmps25
  go_wp2_with (first | (go_at_call 38; refine HZ.out.mono ?_; rintro e w1 ⟨rfl, rfl⟩) | go_in)
  go_ret2
  exact ⟨rfl, rfl⟩
theorem textZ (p : Value) (n : Int) (w : World) (h : ZeroR p w) : Calls Try.prog 37 #[p, .int .i64 n] w fun e w' => e = .returned (.tuple #[.string ⟨#[]⟩, .int .i64 1]) ∧ w = w' := by
  have HZ := Lib.hid h
  clear h
  go_enter Try.func37, Try.ntmps37
  go_wp2_with (first | (go_at_call 38; refine HZ.out.mono ?_; rintro e w1 ⟨rfl, rfl⟩) | go_in)
  go_ret2
  exact ⟨rfl, rfl⟩
theorem takeZ (p : Value) (n : Int) (w : World) (h : ZeroR p w) : Calls Try.prog 26 #[p, .int .i64 n] w fun e w' => e = .returned (.tuple #[.slice none 0 0, .int .i64 1]) ∧ w = w' := by
  have HZ := Lib.hid h
  clear h
  go_enter Try.func26, Try.ntmps26
  go_wp2_with (first | (go_at_call 38; refine HZ.out.mono ?_; rintro e w1 ⟨rfl, rfl⟩) | go_in)
  go_ret2
  exact ⟨rfl, rfl⟩
theorem readsZ (p : Value) (n : Nat) (w : World) (h : ZeroR p w) : Calls Try.prog 20 #[p, .int .u64 (n : Int), .int .u64 0, .int .i64 1] w fun e w' => e = .returned (.bool true) ∧ w = w' := by
  have HZ := Lib.hid (numZ p n w h)
  clear h
  go_enter Try.func20, Try.ntmps20
  go_wp2_with fail
  refine HZ.out.mono ?_
  rintro e w1 ⟨rfl, rfl⟩
  go_wp2_with fail
  go_ret
  exact ⟨rfl, rfl⟩
theorem hearsZ (p : Value) (n : Int) (w : World) (h : ZeroR p w) : Calls Try.prog 22 #[p, .int .i64 n, .string ⟨#[]⟩, .int .i64 1] w fun e w' => e = .returned (.bool true) ∧ w = w' := by
  have HZ := Lib.hid (textZ p n w h)
  clear h
  go_enter Try.func22, Try.ntmps22
  go_wp2_with fail
  refine HZ.out.mono ?_
  rintro e w1 ⟨rfl, rfl⟩
  go_wp2_with fail
  go_ret
  exact ⟨rfl, rfl⟩
theorem takesZ (p : Value) (n : Int) (w : World) (h : ZeroR p w) : Calls Try.prog 23 #[p, .int .i64 n, .string ⟨#[]⟩, .int .i64 1] w fun e w' => e = .returned (.bool true) ∧ w = w' := by
  have HZ := Lib.hid (takeZ p n w h)
  have hcv : (convert 25 9 (.slice none 0 0)).run Try.prog w = .ok (.string ⟨#[]⟩) w := convB w none 0 [] (HoldsB.nil w)
  clear h
  go_enter Try.func23, Try.ntmps23
  go_wp2_with fail
  refine HZ.out.mono ?_
  rintro e w1 ⟨rfl, rfl⟩
  go_wp2_with fail
  go_ret
  exact ⟨rfl, rfl⟩
theorem leftZ (g : Nat) (w : World) (hg : g < w.heap.size) (h1 : w.cell? ⟨g, 1, none⟩ = some (.slice none 0 0)) (h2 : w.cell? ⟨g, 2, none⟩ = some (.int .i64 0)) : Calls Try.prog 28 #[.pointer (some ⟨g, 0, none⟩)] w fun e w' => e = .returned (.int .i64 0) ∧ Below w.heap.size w w' := by
  have j1 := fun z => cell_far (p := z) (w := w) (a := ⟨g, 1, none⟩) hg h1
  have j2 := fun z => cell_far (p := z) (w := w) (a := ⟨g, 2, none⟩) hg h2
  clear hg h1 h2
  go_enter Try.func28, Try.ntmps28
  go_wp2_with fail
  refine wp_region_far (by kernel_rfl) (by kernel_rfl) ?_
  repeat (go_big_quiet_step ((fail)))
  refine wpQuiet_nil ?_
  rintro _ ⟨p, rfl⟩
  go_wp2
  go_ret
  exact ⟨rfl, below_far _ _⟩
theorem atZ (g : Nat) (w : World) (h2 : w.cell? ⟨g, 2, none⟩ = some (.int .i64 0)) : Calls Try.prog 27 #[.pointer (some ⟨g, 0, none⟩)] w fun e w' => e = .returned (.int .i64 0) ∧ w = w' := by
  go_enter Try.func27, Try.ntmps27
  go_wp2
  go_ret
  exact ⟨rfl, rfl⟩

/-- What lies while the two readers are asked. -/
structure NilW (w W : World) : Prop where
  bel : Below w.heap.size w W
  lt : w.heap.size + 1 < W.heap.size
  zero : W.heap[w.heap.size]? = some (.cells #[.bool false, .slice none 0 0, .int .i64 0] 62 (0, 0))
  two : W.heap[w.heap.size + 1]? = some (.cells #[.pointer none, .pointer (some ⟨w.heap.size, 0, none⟩)] 40 (0, 0))
theorem NilW.start (w : World) : NilW w ((w.alloc (.cells #[.bool false, .slice none 0 0, .int .i64 0] 62)).alloc (.cells #[.pointer none, .pointer (some ⟨w.heap.size, 0, none⟩)] 40)) := by
  have hb : Below (w.alloc (.cells #[.bool false, .slice none 0 0, .int .i64 0] 62)).heap.size (w.alloc (.cells #[.bool false, .slice none 0 0, .int .i64 0] 62)) ((w.alloc (.cells #[.bool false, .slice none 0 0, .int .i64 0] 62)).alloc (.cells #[.pointer none, .pointer (some ⟨w.heap.size, 0, none⟩)] 40)) := (Below.refl _ _).alloc (Nat.le_refl _) _
  have hs : (w.alloc (.cells #[.bool false, .slice none 0 0, .int .i64 0] 62)).heap.size = w.heap.size + 1 := by simp
  have h2 := heap_alloc_new (w.alloc (.cells #[.bool false, .slice none 0 0, .int .i64 0] 62)) (.cells #[.pointer none, .pointer (some ⟨w.heap.size, 0, none⟩)] 40)
  rw [hs] at h2
  exact ⟨below_trans ((Below.refl _ w).alloc (Nat.le_refl _) _) hb, by simp, (hb.block w.heap.size (by simp)).trans (heap_alloc_new w _), h2⟩
theorem NilW.below {w W W' : World} (h : NilW w W) (hb : Below W.heap.size W W') : NilW w W' :=
  ⟨below_trans h.bel hb, Nat.lt_of_lt_of_le h.lt hb.size, (hb.block _ (by have := h.lt; omega)).trans h.zero, (hb.block _ h.lt).trans h.two⟩
theorem NilW.cells {w W : World} (h : NilW w W) : W.cell? ⟨w.heap.size, 0, none⟩ = some (.bool false) ∧ W.cell? ⟨w.heap.size, 1, none⟩ = some (.slice none 0 0) ∧ W.cell? ⟨w.heap.size, 2, none⟩ = some (.int .i64 0) ∧ W.cell? ⟨w.heap.size + 1, 0, none⟩ = some (.pointer none) ∧ W.cell? ⟨w.heap.size + 1, 1, none⟩ = some (.pointer (some ⟨w.heap.size, 0, none⟩)) := by
  simp [World.cell?, h.zero, h.two]

theorem numNo (n : Nat) : numP (rd (List.drop 0 ([] : List UInt8))) n = (0, 4) := by
  show numP (0, 0, 4) n = _
  unfold numP
  rw [if_pos (by simp)]

set_option maxRecDepth 100000 in
set_option maxHeartbeats 4000000 in
theorem lawNil_a (n : Nat) (most : Int) (v : Value) (xs : List UInt8) (w : World) (hn : n < 18446744073709551616) (h : HoldsB w v xs) (hl : xs.length ≤ 100) :
    Calls Try.prog 6 #[.int .u64 (n : Int), .int .i64 most, v] w fun e w' => e = .returned (.bool true) ∧ Below w.heap.size w w' := by
  obtain ⟨A, c, rfl, h1, h2, h3⟩ := h
  have HV := Lib.hid (show HoldsB w (.slice A xs.length c) xs from ⟨A, c, rfl, h1, h2, h3⟩)
  have HN := Lib.hid hn
  have HL := Lib.hid hl
  have i1 : ¬ (100 : Int) < (xs.length : Int) := by omega
  clear h1 h2 h3 hn hl
  go_enter Try.func6, Try.ntmps6
  go_wp2_with fail
  go_loopw [21] (fun a wr => ∃ k : Nat, k ≤ 2 ∧ a = .int .i64 k ∧ Hid (NilW w wr)) (fun a _ => 2 - (intOf a).toNat)
  case atStart =>
    exact ⟨0, by omega, rfl, NilW.start w⟩
  case round =>
    obtain ⟨k, hk, rfl, KN⟩ := hrel
    match k, hk with
    | 0, _ =>
      obtain ⟨z0, z1, z2, z3, z4⟩ := KN.out.cells
      have KB := Lib.hid KN.out
      have HZ := Lib.hid (zeroNil wr)
      have HLF := Lib.hid (leftNil wr)
      clear KN
      go_wp2_with fail
      refine (readsZ _ n _ HZ.out).mono ?_
      rintro e w1 ⟨rfl, rfl⟩
      go_wp2_with fail
      refine (hearsZ _ most _ HZ.out).mono ?_
      rintro e w1 ⟨rfl, rfl⟩
      go_wp2_with fail
      refine (takesZ _ most _ HZ.out).mono ?_
      rintro e w1 ⟨rfl, rfl⟩
      go_wp2_with fail
      refine HLF.out.mono ?_
      rintro e w1 ⟨rfl, rfl⟩
      go_wp2_with fail
      refine (atNil _).mono ?_
      rintro e w1 ⟨rfl, rfl⟩
      go_wp2_with fail
      refine (endZ _ _ HZ.out).mono ?_
      rintro e w1 ⟨rfl, rfl⟩
      go_wp2_with fail
      refine (copyZ _ _ HZ.out).mono ?_
      rintro e w1 ⟨rfl, rfl⟩
      have KE := KB
      go_wp2_with fail
      go_roundw
      case rel => exact ⟨1, by omega, by go_num, KE⟩
      case measure => decide
    | 1, _ =>
      obtain ⟨z0, z1, z2, z3, z4⟩ := KN.out.cells
      have KB := Lib.hid KN.out
      have HZ := Lib.hid (zeroZero w.heap.size wr z0)
      have HLF := Lib.hid (leftZ w.heap.size wr (by have := KN.out.lt; omega) z1 z2)
      clear KN
      go_wp2_with fail
      refine (readsZ _ n _ HZ.out).mono ?_
      rintro e w1 ⟨rfl, rfl⟩
      go_wp2_with fail
      refine (hearsZ _ most _ HZ.out).mono ?_
      rintro e w1 ⟨rfl, rfl⟩
      go_wp2_with fail
      refine (takesZ _ most _ HZ.out).mono ?_
      rintro e w1 ⟨rfl, rfl⟩
      go_wp2_with fail
      refine HLF.out.mono ?_
      rintro e w1 ⟨rfl, hb⟩
      have KE := Lib.hid (KB.out.below hb)
      obtain ⟨y0, y1, y2, y3, y4⟩ := KE.out.cells
      have HZ1 := Lib.hid (zeroZero w.heap.size w1 y0)
      clear hb z0 z1 z2 z3 z4 HZ HLF KB
      go_wp2_with fail
      refine (atZ _ _ y2).mono ?_
      rintro e w2 ⟨rfl, rfl⟩
      go_wp2_with fail
      refine (endZ _ _ HZ1.out).mono ?_
      rintro e w2 ⟨rfl, rfl⟩
      go_wp2_with fail
      refine (copyZ _ _ HZ1.out).mono ?_
      rintro e w2 ⟨rfl, rfl⟩
      go_wp2_with fail
      go_roundw
      case rel => exact ⟨2, by omega, by go_num, KE⟩
      case measure => decide
    | 2, _ =>
      have K := Lib.hid KN.out.bel
      have HV2 := Lib.hid (HV.out.below KN.out.bel)
      clear KN HV
      go_wp2_with fail
      refine (numNil n _ HN.out).mono ?_
      rintro e w2 ⟨rfl, hb⟩
      have K2 := Lib.hid (below_trans K.out hb)
      have HV3 := Lib.hid (HV2.out.below hb)
      clear hb K HV2
      have hcv := convB w2 A c xs HV3.out
      go_wp2_with fail
      clear hcv
      refine (strNil ⟨xs.toArray⟩ _ (by have := HL.out; show xs.toArray.size ≤ 100000; rw [List.size_toArray]; omega)).mono ?_
      rintro e w3 ⟨rfl, hb⟩
      have K3 := Lib.hid (below_trans K2.out hb)
      clear hb K2 HV3
      go_wp2_with fail
      refine (putNil _ _).mono ?_
      rintro e w4 ⟨rfl, rfl⟩
      go_wp2_with fail
      refine (newAt _ [] _ (HoldsB.nil _) (by simp)).mono ?_
      rintro e w5 ⟨⟨g, B, d, rfl, hR, hg, _⟩, hb⟩
      have K5 := Lib.hid (below_trans K3.out hb)
      have hgw : w.heap.size ≤ g := Nat.le_trans K3.out.size hg
      have G := Lib.hid hgw
      have R := Lib.hid hR
      clear hb K3 hg hgw hR
      go_wp2_with fail
      refine (lenNil _).mono ?_
      rintro e w6 ⟨rfl, rfl⟩
      go_wp2_with fail
      refine (bytesNil _).mono ?_
      rintro e w6 ⟨rfl, rfl⟩
      go_wp2_with fail
      refine (endAt g B d [] 0 0 _ R.out rfl).mono ?_
      rintro e w6 ⟨rfl, hb⟩
      have K6 := Lib.hid (below_trans K5.out hb)
      have R6 := Lib.hid (R.out.below hb)
      have HLF := Lib.hid (leftAt g B d [] 0 w6 (R.out.below hb))
      have hlf : ((([] : List UInt8).length - 0 : Nat) : Int) = 0 := rfl
      rw [hlf] at HLF
      clear hb K5 R hlf
      go_wp2_with fail
      refine HLF.out.mono ?_
      rintro e w7 ⟨rfl, hb⟩
      have K7 := Lib.hid (below_trans K6.out hb)
      have R7 := Lib.hid (R6.out.below hb)
      clear hb K6 R6 HLF
      go_wp2_with fail
      refine (lawReads g B d [] 0 n 0 4 0 0 4 true _ R7.out HN.out (numNo n) rfl rfl).mono ?_
      rintro e w8 ⟨rfl, hR, hC⟩
      have K8 := Lib.hid (K7.out.trans (hC.below K7.out.size fun k hk => by rw [hk]; exact G.out))
      clear hR hC K7 R7
      go_wp2_with fail
      refine (knownB _).mono ?_
      rintro e w9 ⟨rfl, hb⟩
      have K9 := Lib.hid (below_trans K8.out hb)
      clear hb K8
      go_wp2_with fail
      go_ret
      exact ⟨rfl, K9.out⟩
    | k + 3, hk => omega

set_option maxRecDepth 100000 in
theorem lawNil_b (n : Nat) (most : Int) (v : Value) (xs : List UInt8) (w : World) (h : HoldsB w v xs) (hl : 100 < xs.length) :
    Calls Try.prog 6 #[.int .u64 (n : Int), .int .i64 most, v] w fun e w' => e = .returned (.bool true) ∧ Below w.heap.size w w' := by
  obtain ⟨A, c, rfl, h1, h2, h3⟩ := h
  have i1 : (100 : Int) < (xs.length : Int) := by omega
  clear h1 h2 h3 hl
  go_enter Try.func6, Try.ntmps6
  go_wp2_with fail
  refine (knownB _).mono ?_
  rintro e w1 ⟨rfl, hb⟩
  have K := Lib.hid hb
  clear hb
  go_wp2_with fail
  go_ret
  exact ⟨rfl, K.out⟩

theorem lawNil (n : Nat) (most : Int) (v : Value) (xs : List UInt8) (w : World) (hn : n < 18446744073709551616) (h : HoldsB w v xs) :
    Calls Try.prog 6 #[.int .u64 (n : Int), .int .i64 most, v] w fun e w' => e = .returned (.bool true) ∧ Below w.heap.size w w' := by
  by_cases hl : xs.length ≤ 100
  · exact lawNil_a n most v xs w hn h hl
  · exact lawNil_b n most v xs w h (by omega)

end Go.Proofs.Ytibnlifdeknicab
