/- known of layer 5. -/
import Derived.Test.YtkloheabbbpboabDoorCrcY
import Derived.Lib.SlBytesConst
namespace Go.Proofs.YtkloheabbbpboabDoor
open Go.RowKit

/-- What holds all along. -/
def KK (w W : World) : Prop := Below w.heap.size w W ∧ LaidOK W
theorem KK.al {w W : World} (h : KK w W) (o : Obj) : KK w (W.alloc o) := ⟨h.1.alloc h.1.size o, h.2.below ((Below.refl _ W).alloc (Nat.le_refl _) o)⟩
theorem KK.bel {w W W' : World} (h : KK w W) (hb : Below W.heap.size W W') : KK w W' := ⟨below_trans h.1 hb, h.2.below hb⟩
theorem marked_at (W : World) (l : List UInt8) (fz : Nat × Nat) : BytesAt (W.alloc (.cells (cellsOf encB l).toArray 5 fz)) (some ⟨W.heap.size, 0, none⟩) l := fun h0 => by
  refine ⟨W.heap.size, 0, rfl, by simp, fun j x hx i u hu => ?_⟩
  match i, hu with
  | 0, hu =>
    have hu' : Value.int .u8 (x.toNat : Int) = u := by simpa using hu
    subst hu'
    have h1 := cells_at l j
    rw [hx] at h1
    have hb : (W.alloc (.cells (cellsOf encB l).toArray 5 fz)).heap[W.heap.size]? = some (.cells (cellsOf encB l).toArray 5 fz) := heap_alloc_new W _
    generalize cellsOf encB l = cs at hb h1 ⊢
    simp only [World.cell?, hb]
    show cs.toArray[0 + j * 1 + 0]? = _
    rw [show 0 + j * 1 + 0 = j by omega, List.getElem?_toArray, h1]
    rfl
  | i + 1, hu => exact absurd hu (by simp)
theorem sumMark (l : List UInt8) (n : Nat) (W : World) (fz : Nat × Nat) (hl : l.length ≤ 1000) (hn : updN 0 l = n) :
    Calls Tryd.prog 10 #[.slice (some ⟨W.heap.size, 0, none⟩) l.length l.length] (W.alloc (.cells (cellsOf encB l).toArray 5 fz)) (One (.int .u32 (n : Int)) (W.alloc (.cells (cellsOf encB l).toArray 5 fz))) := by
  have h := crcSum (some ⟨W.heap.size, 0, none⟩) l.length l _ (marked_at W l fz) (by omega)
  rw [hn] at h
  exact h
theorem updMark (s : Nat) (l : List UInt8) (n : Nat) (W : World) (fz : Nat × Nat) (hs : s < 4294967296) (hl : l.length ≤ 1000) (hn : updN s l = n) :
    Calls Tryd.prog 11 #[.int .u32 (s : Int), .slice (some ⟨W.heap.size, 0, none⟩) l.length l.length] (W.alloc (.cells (cellsOf encB l).toArray 5 fz)) (One (.int .u32 (n : Int)) (W.alloc (.cells (cellsOf encB l).toArray 5 fz))) := by
  have h := crcUpdate s (some ⟨W.heap.size, 0, none⟩) l.length l _ hs (marked_at W l fz) (by omega)
  rw [hn] at h
  exact h
theorem sumLit (l : List UInt8) (n : Nat) (W : World) (hl : l.length ≤ 1000) (hn : updN 0 l = n) :
    Calls Tryd.prog 10 #[.slice (some ⟨W.heap.size, 0, none⟩) l.length l.length] (W.alloc (.cells (cellsOf encB l).toArray 5)) (One (.int .u32 (n : Int)) (W.alloc (.cells (cellsOf encB l).toArray 5))) := by
  obtain ⟨_, _, e, hat, _⟩ := HoldsB.lit W l (by simp [maxLen]; omega)
  cases e
  have h := crcSum (some ⟨W.heap.size, 0, none⟩) l.length l _ hat (by omega)
  rw [hn] at h
  exact h
theorem textLit (n : Nat) (t : ByteArray) (w W : World) (hn : n < 4294967296) (K : KK w W) (ht : txt n = t) :
    Calls Tryd.prog 12 #[.int .u32 (n : Int)] W fun e W' => e = .returned (.string t) ∧ KK w W' := by
  have h := crcText n W hn K.2
  rw [ht] at h
  exact h.mono fun e W' ⟨he, hb⟩ => ⟨he, K.bel hb⟩
theorem joinLit (a b len n : Nat) (W : World) (ha : a < 4294967296) (hb : b < 4294967296) (hl : len ≤ 16777216) (hn : joinN a b len = n) :
    Calls Tryd.prog 7 #[.int .u32 (a : Int), .int .u32 (b : Int), .int .i64 (len : Int), .int .u32 (n : Int), .int .i64 0] W (One (.bool true) W) := by
  have h := crcJoin a b len W ha hb hl
  rw [hn] at h
  exact lawJoins _ _ _ _ _ W h
theorem parseLit (l : List UInt8) (n : Nat) (er : Int) (w W : World) (hl : l.length ≤ 1000) (K : KK w W) (hp : (prs l = some n ∧ er = 0) ∨ (prs l = none ∧ n = 0 ∧ er = 6)) :
    Calls Tryd.prog 15 #[.string ⟨l.toArray⟩, .int .u32 (n : Int), .int .i64 er] W fun e W' => e = .returned (.bool true) ∧ KK w W' :=
  (lawParses l n er W (crcParse l n er W hl K.2 hp)).mono fun e W' ⟨he, hb⟩ => ⟨he, K.bel hb⟩

set_option maxRecDepth 100000 in
set_option maxHeartbeats 4000000 in
theorem known5 (w : World) (ht : LaidOK w) : Calls Tryd.prog 8 #[] w fun e w' => e = .returned (.bool true) ∧ KK w w' := by
  have K0 := Lib.hid (show KK w w from ⟨Below.refl _ _, ht⟩)
  clear ht
  have qc := fun (w : World) (C : Array Value) (n c : Nat) => Lib.run_convert_bytes_const (P := Tryd.prog) w 28 5 C n c Tryd.underlying28 Tryd.underlying5
  go_enter Tryd.func8, Tryd.ntmps8
  go_wp2_with fail
  refine (sumMark [49, 50, 51, 52, 53] 3421846044 w (5, 6) (by decide) (by decide +kernel)).mono ?_
  rintro e w1 ⟨rfl, rfl⟩
  have K1 := Lib.hid (K0.out.al (.cells (cellsOf encB [49, 50, 51, 52, 53]).toArray 5 (5, 6)))
  generalize w.alloc (.cells (cellsOf encB [49, 50, 51, 52, 53]).toArray 5 (5, 6)) = w1 at K1 ⊢
  clear K0
  go_wp2_with fail
  refine (sumMark [54, 55, 56, 57] 2646261639 w1 (4, 5) (by decide) (by decide +kernel)).mono ?_
  rintro e w2 ⟨rfl, rfl⟩
  have K2 := Lib.hid (K1.out.al (.cells (cellsOf encB [54, 55, 56, 57]).toArray 5 (4, 5)))
  generalize w1.alloc (.cells (cellsOf encB [54, 55, 56, 57]).toArray 5 (4, 5)) = w2 at K2 ⊢
  clear K1
  go_wp2_with fail
  refine (crcSum none 0 [] w2 SlAt.nil (by decide)).mono ?_
  rintro e w100 ⟨rfl, rfl⟩
  rw [show updN 0 [] = 0 from by decide +kernel]
  go_wp2_with fail
  refine (textLit 0 ⟨#[48, 48, 48, 48, 48, 48, 48, 48]⟩ w w2 (by decide) K2.out (by kernel_rfl)).mono ?_
  rintro e w3 ⟨rfl, hk⟩
  have K3 := Lib.hid hk
  clear hk K2
  go_wp2_with fail
  refine (sumLit [0] 3523407757 w3 (by decide) (by decide +kernel)).mono ?_
  rintro e w4 ⟨rfl, rfl⟩
  have K4 := Lib.hid (K3.out.al (.cells (cellsOf encB [0]).toArray 5))
  generalize w3.alloc (.cells (cellsOf encB [0]).toArray 5) = w4 at K4 ⊢
  clear K3
  go_wp2_with fail
  refine (textLit 3523407757 ⟨#[100, 50, 48, 50, 101, 102, 56, 100]⟩ w w4 (by decide) K4.out (by kernel_rfl)).mono ?_
  rintro e w5 ⟨rfl, hk⟩
  have K5 := Lib.hid hk
  clear hk K4
  go_wp2_with fail
  refine (sumMark [97] 3904355907 w5 (1, 2) (by decide) (by decide +kernel)).mono ?_
  rintro e w6 ⟨rfl, rfl⟩
  have K6 := Lib.hid (K5.out.al (.cells (cellsOf encB [97]).toArray 5 (1, 2)))
  generalize w5.alloc (.cells (cellsOf encB [97]).toArray 5 (1, 2)) = w6 at K6 ⊢
  clear K5
  go_wp2_with fail
  refine (textLit 3904355907 ⟨#[101, 56, 98, 55, 98, 101, 52, 51]⟩ w w6 (by decide) K6.out (by kernel_rfl)).mono ?_
  rintro e w7 ⟨rfl, hk⟩
  have K7 := Lib.hid hk
  clear hk K6
  go_wp2_with fail
  refine (sumMark [49, 50, 51, 52, 53, 54, 55, 56, 57] 3421780262 w7 (9, 10) (by decide) (by decide +kernel)).mono ?_
  rintro e w8 ⟨rfl, rfl⟩
  have K8 := Lib.hid (K7.out.al (.cells (cellsOf encB [49, 50, 51, 52, 53, 54, 55, 56, 57]).toArray 5 (9, 10)))
  generalize w7.alloc (.cells (cellsOf encB [49, 50, 51, 52, 53, 54, 55, 56, 57]).toArray 5 (9, 10)) = w8 at K8 ⊢
  clear K7
  go_wp2_with fail
  refine (textLit 3421780262 ⟨#[99, 98, 102, 52, 51, 57, 50, 54]⟩ w w8 (by decide) K8.out (by kernel_rfl)).mono ?_
  rintro e w9 ⟨rfl, hk⟩
  have K9 := Lib.hid hk
  clear hk K8
  go_wp2_with fail
  refine (updMark 3421846044 [54, 55, 56, 57] 3421780262 w9 (4, 5) (by decide) (by decide) (by decide +kernel)).mono ?_
  rintro e w10 ⟨rfl, rfl⟩
  have K10 := Lib.hid (K9.out.al (.cells (cellsOf encB [54, 55, 56, 57]).toArray 5 (4, 5)))
  generalize w9.alloc (.cells (cellsOf encB [54, 55, 56, 57]).toArray 5 (4, 5)) = w10 at K10 ⊢
  clear K9
  go_wp2_with fail
  refine (joinLit 3421846044 2646261639 4 3421780262 w10 (by decide) (by decide) (by decide) (by decide +kernel)).mono ?_
  rintro e w101 ⟨rfl, rfl⟩
  go_wp2_with fail
  refine (textLit 3421780262 ⟨#[99, 98, 102, 52, 51, 57, 50, 54]⟩ w w10 (by decide) K10.out (by kernel_rfl)).mono ?_
  rintro e w11 ⟨rfl, hk⟩
  have K11 := Lib.hid hk
  clear hk K10
  go_wp2_with fail
  refine (lawJoins 1 2 (-1) 0 2 w11 (crcJoinArg 1 2 (-1) w11 (.inl (by decide)))).mono ?_
  rintro e w102 ⟨rfl, rfl⟩
  go_wp2_with fail
  refine (joinLit 7 0 0 7 w11 (by decide) (by decide) (by decide) (by decide +kernel)).mono ?_
  rintro e w103 ⟨rfl, rfl⟩
  go_wp2_with fail
  refine (parseLit [100, 50, 48, 50, 101, 102, 56, 100] 3523407757 0 w w11 (by decide) K11.out (.inl ⟨by decide +kernel, rfl⟩)).mono ?_
  rintro e w12 ⟨rfl, hk⟩
  have K12 := Lib.hid hk
  clear hk K11
  go_wp2_with fail
  refine (parseLit [68, 50, 48, 50, 69, 70, 56, 68] 0 6 w w12 (by decide) K12.out (.inr ⟨by decide +kernel, rfl, rfl⟩)).mono ?_
  rintro e w13 ⟨rfl, hk⟩
  have K13 := Lib.hid hk
  clear hk K12
  go_wp2_with fail
  refine (parseLit [48] 0 6 w w13 (by decide) K13.out (.inr ⟨by decide +kernel, rfl, rfl⟩)).mono ?_
  rintro e w14 ⟨rfl, hk⟩
  have K14 := Lib.hid hk
  clear hk K13
  go_wp2_with fail
  go_ret
  exact ⟨rfl, K14.out⟩

end Go.Proofs.YtkloheabbbpboabDoor
