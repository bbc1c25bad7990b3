/- The chapter's examples of layer 2: known is true. -/
import Derived.Test.YteeigngomleijaaDoorVecM
import Derived.Deep.CutBlock
namespace Go.Proofs.YteeigngomleijaaDoor
open Go.RowKit

/-- What the walk leans on: the heap as it lay, three vectors. -/
def K2 (w0 : World) (v1 v2 v3 : Value) (W : World) : Prop := Below w0.heap.size w0 W ∧ Holds W v1 [(1, 2), (3, 7)] ∧ Holds W v2 [(1, 2)] ∧ Holds W v3 [(3, 7)]
theorem K2.below {w0 : World} {v1 v2 v3 : Value} {W W' : World} (h : K2 w0 v1 v2 v3 W) (hb : Below W.heap.size W W') : K2 w0 v1 v2 v3 W' := ⟨below_trans h.1 hb, h.2.1.below hb, h.2.2.1.below hb, h.2.2.2.below hb⟩
theorem K2.alloc {w0 : World} {v1 v2 v3 : Value} {W : World} (h : K2 w0 v1 v2 v3 W) (o : Obj) : K2 w0 v1 v2 v3 (W.alloc o) := h.below ((Below.refl _ W).alloc (Nat.le_refl _) o)

set_option maxRecDepth 100000 in
set_option maxHeartbeats 8000000 in
theorem known2 (w : World) (ht : TabOK w) : Calls Tryd.prog 25 #[] w fun e w' => e = .returned (.bool true) ∧ Below w.heap.size w w' := by
  go_enter Tryd.func25, Tryd.ntmps25
  go_wp2_with fail
  refine (lawOf2 1 2 _).mono ?_
  rintro e w1 ⟨rfl, hb1⟩
  go_wp2_with fail
  refine (lawOf2 3 7 _).mono ?_
  rintro e w2 ⟨rfl, hb2⟩
  have hb := below_trans hb1 hb2
  clear hb1 hb2
  go_wp2_with fail
  have h1 : Holds (w2.alloc (.cells #[.int .i64 1, .int .i64 2, .int .i64 3, .int .i64 7] 23)) (.slice (some ⟨w2.heap.size, 0, none⟩) 2 2) [(1, 2), (3, 7)] := Holds.blk rfl (by simp) (by simp [maxLen]) (heap_alloc_new _ _)
  have hbb := hb.alloc hb.size (.cells #[.int .i64 1, .int .i64 2, .int .i64 3, .int .i64 7] 23)
  clear hb
  refine (lawOf2 1 2 _).mono ?_
  rintro e w3 ⟨rfl, hb1⟩
  replace h1 := h1.below hb1
  replace hbb := below_trans hbb hb1
  generalize w2.heap.size = g1 at h1 ⊢
  clear hb1
  go_wp2_with fail
  replace h1 := h1.alloc (.cells #[.int .i64 1, .int .i64 2] 23)
  have h2 : Holds (w3.alloc (.cells #[.int .i64 1, .int .i64 2] 23)) (.slice (some ⟨w3.heap.size, 0, none⟩) 1 1) [(1, 2)] := Holds.blk rfl (by simp) (by simp [maxLen]) (heap_alloc_new _ _)
  replace hbb := hbb.alloc hbb.size (.cells #[.int .i64 1, .int .i64 2] 23)
  refine (lawOf2 3 7 _).mono ?_
  rintro e w4 ⟨rfl, hb1⟩
  replace h1 := h1.below hb1
  replace h2 := h2.below hb1
  replace hbb := below_trans hbb hb1
  generalize w3.heap.size = g2 at h2 ⊢
  clear hb1
  go_wp2_with fail
  replace h1 := h1.alloc (.cells #[.int .i64 3, .int .i64 7] 23)
  replace h2 := h2.alloc (.cells #[.int .i64 3, .int .i64 7] 23)
  have h3 : Holds (w4.alloc (.cells #[.int .i64 3, .int .i64 7] 23)) (.slice (some ⟨w4.heap.size, 0, none⟩) 1 1) [(3, 7)] := Holds.blk rfl (by simp) (by simp [maxLen]) (heap_alloc_new _ _)
  replace hbb := hbb.alloc hbb.size (.cells #[.int .i64 3, .int .i64 7] 23)
  generalize w4.heap.size = g3 at h3 ⊢
  have K : K2 w (.slice (some ⟨g1, 0, none⟩) 2 2) (.slice (some ⟨g2, 0, none⟩) 1 1) (.slice (some ⟨g3, 0, none⟩) 1 1) _ := ⟨hbb, h1, h2, h3⟩
  clear hbb h1 h2 h3
  generalize w4.alloc (.cells #[.int .i64 3, .int .i64 7] 23) = w5 at K ⊢
  refine (lawOf2 3 7 _).mono ?_
  rintro e y1 ⟨rfl, hb1⟩
  replace K : K2 w (.slice (some ⟨g1, 0, none⟩) 2 2) (.slice (some ⟨g2, 0, none⟩) 1 1) (.slice (some ⟨g3, 0, none⟩) 1 1) y1 := (by first | exact K.below hb1 | exact (K.alloc _).below hb1 | exact ((K.alloc _).alloc _).below hb1)
  clear hb1
  go_wp2_with fail
  refine (lawOf2 1 2 _).mono ?_
  rintro e y2 ⟨rfl, hb1⟩
  replace K : K2 w (.slice (some ⟨g1, 0, none⟩) 2 2) (.slice (some ⟨g2, 0, none⟩) 1 1) (.slice (some ⟨g3, 0, none⟩) 1 1) y2 := (by first | exact K.below hb1 | exact (K.alloc _).below hb1 | exact ((K.alloc _).alloc _).below hb1)
  clear hb1
  go_wp2_with fail
  refine (lawOf2 3 4 _).mono ?_
  rintro e y3 ⟨rfl, hb1⟩
  replace K : K2 w (.slice (some ⟨g1, 0, none⟩) 2 2) (.slice (some ⟨g2, 0, none⟩) 1 1) (.slice (some ⟨g3, 0, none⟩) 1 1) y3 := (by first | exact K.below hb1 | exact (K.alloc _).below hb1 | exact ((K.alloc _).alloc _).below hb1)
  clear hb1
  go_wp2_with fail
  refine (lawMade _ _ [(3, 7), (1, 2), (3, 4)] [(1, 2), (3, 7)] 0 true _ (Holds.blk rfl (by simp) (by simp [maxLen]) (heap_alloc_new _ _)) (K.alloc _).2.1 (by simp) (by kernel_rfl)).mono ?_
  rintro e y4 ⟨rfl, hb1⟩
  replace K : K2 w (.slice (some ⟨g1, 0, none⟩) 2 2) (.slice (some ⟨g2, 0, none⟩) 1 1) (.slice (some ⟨g3, 0, none⟩) 1 1) y4 := (by first | exact K.below hb1 | exact (K.alloc _).below hb1 | exact ((K.alloc _).alloc _).below hb1)
  clear hb1
  go_wp2_with fail
  refine (lawMade _ _ [] [] 0 true _ (Holds.nil _) (Holds.nil _) (by simp) (by kernel_rfl)).mono ?_
  rintro e y5 ⟨rfl, hb1⟩
  replace K : K2 w (.slice (some ⟨g1, 0, none⟩) 2 2) (.slice (some ⟨g2, 0, none⟩) 1 1) (.slice (some ⟨g3, 0, none⟩) 1 1) y5 := (by first | exact K.below hb1 | exact (K.alloc _).below hb1 | exact ((K.alloc _).alloc _).below hb1)
  clear hb1
  go_wp2_with fail
  refine (lawOf2 0 1 _).mono ?_
  rintro e y6 ⟨rfl, hb1⟩
  replace K : K2 w (.slice (some ⟨g1, 0, none⟩) 2 2) (.slice (some ⟨g2, 0, none⟩) 1 1) (.slice (some ⟨g3, 0, none⟩) 1 1) y6 := (by first | exact K.below hb1 | exact (K.alloc _).below hb1 | exact ((K.alloc _).alloc _).below hb1)
  clear hb1
  go_wp2_with fail
  refine (lawMade _ _ [(0, 1)] [] 2 true _ (Holds.blk rfl (by simp) (by simp [maxLen]) (heap_alloc_new _ _)) (Holds.nil _) (by simp) (by kernel_rfl)).mono ?_
  rintro e y7 ⟨rfl, hb1⟩
  replace K : K2 w (.slice (some ⟨g1, 0, none⟩) 2 2) (.slice (some ⟨g2, 0, none⟩) 1 1) (.slice (some ⟨g3, 0, none⟩) 1 1) y7 := (by first | exact K.below hb1 | exact (K.alloc _).below hb1 | exact ((K.alloc _).alloc _).below hb1)
  clear hb1
  go_wp2_with fail
  refine (vecGet_h _ _ 3 7 _ K.2.1 (by kernel_rfl)).mono ?_
  rintro e y8 ⟨rfl, hb1⟩
  replace K : K2 w (.slice (some ⟨g1, 0, none⟩) 2 2) (.slice (some ⟨g2, 0, none⟩) 1 1) (.slice (some ⟨g3, 0, none⟩) 1 1) y8 := (by first | exact K.below hb1 | exact (K.alloc _).below hb1 | exact ((K.alloc _).alloc _).below hb1)
  clear hb1
  go_wp2_with fail
  refine (vecGet_h _ _ 2 0 _ K.2.1 (by kernel_rfl)).mono ?_
  rintro e y9 ⟨rfl, hb1⟩
  replace K : K2 w (.slice (some ⟨g1, 0, none⟩) 2 2) (.slice (some ⟨g2, 0, none⟩) 1 1) (.slice (some ⟨g3, 0, none⟩) 1 1) y9 := (by first | exact K.below hb1 | exact (K.alloc _).below hb1 | exact ((K.alloc _).alloc _).below hb1)
  clear hb1
  go_wp2_with fail
  refine (lawOf2 3 7 _).mono ?_
  rintro e y10 ⟨rfl, hb1⟩
  replace K : K2 w (.slice (some ⟨g1, 0, none⟩) 2 2) (.slice (some ⟨g2, 0, none⟩) 1 1) (.slice (some ⟨g3, 0, none⟩) 1 1) y10 := (by first | exact K.below hb1 | exact (K.alloc _).below hb1 | exact ((K.alloc _).alloc _).below hb1)
  clear hb1
  go_wp2_with fail
  refine (vecHas_h _ _ 3 7 true _ K.2.1 (by kernel_rfl)).mono ?_
  rintro e y11 ⟨rfl, hb1⟩
  replace K : K2 w (.slice (some ⟨g1, 0, none⟩) 2 2) (.slice (some ⟨g2, 0, none⟩) 1 1) (.slice (some ⟨g3, 0, none⟩) 1 1) y11 := (by first | exact K.below hb1 | exact (K.alloc _).below hb1 | exact ((K.alloc _).alloc _).below hb1)
  clear hb1
  go_wp2_with fail
  refine (lawOf2 3 8 _).mono ?_
  rintro e y12 ⟨rfl, hb1⟩
  replace K : K2 w (.slice (some ⟨g1, 0, none⟩) 2 2) (.slice (some ⟨g2, 0, none⟩) 1 1) (.slice (some ⟨g3, 0, none⟩) 1 1) y12 := (by first | exact K.below hb1 | exact (K.alloc _).below hb1 | exact ((K.alloc _).alloc _).below hb1)
  clear hb1
  go_wp2_with fail
  refine (vecHas_h _ _ 3 8 false _ K.2.1 (by kernel_rfl)).mono ?_
  rintro e y13 ⟨rfl, hb1⟩
  replace K : K2 w (.slice (some ⟨g1, 0, none⟩) 2 2) (.slice (some ⟨g2, 0, none⟩) 1 1) (.slice (some ⟨g3, 0, none⟩) 1 1) y13 := (by first | exact K.below hb1 | exact (K.alloc _).below hb1 | exact ((K.alloc _).alloc _).below hb1)
  clear hb1
  go_wp2_with fail
  refine (lawOf2 1 0 _).mono ?_
  rintro e y14 ⟨rfl, hb1⟩
  replace K : K2 w (.slice (some ⟨g1, 0, none⟩) 2 2) (.slice (some ⟨g2, 0, none⟩) 1 1) (.slice (some ⟨g3, 0, none⟩) 1 1) y14 := (by first | exact K.below hb1 | exact (K.alloc _).below hb1 | exact ((K.alloc _).alloc _).below hb1)
  clear hb1
  go_wp2_with fail
  refine (vecHas_h _ _ 1 0 false _ K.2.1 (by kernel_rfl)).mono ?_
  rintro e y15 ⟨rfl, hb1⟩
  replace K : K2 w (.slice (some ⟨g1, 0, none⟩) 2 2) (.slice (some ⟨g2, 0, none⟩) 1 1) (.slice (some ⟨g3, 0, none⟩) 1 1) y15 := (by first | exact K.below hb1 | exact (K.alloc _).below hb1 | exact ((K.alloc _).alloc _).below hb1)
  clear hb1
  go_wp2_with fail
  refine (lawOf2 2 5 _).mono ?_
  rintro e y16 ⟨rfl, hb1⟩
  replace K : K2 w (.slice (some ⟨g1, 0, none⟩) 2 2) (.slice (some ⟨g2, 0, none⟩) 1 1) (.slice (some ⟨g3, 0, none⟩) 1 1) y16 := (by first | exact K.below hb1 | exact (K.alloc _).below hb1 | exact ((K.alloc _).alloc _).below hb1)
  clear hb1
  go_wp2_with fail
  refine (lawOf2 1 2 _).mono ?_
  rintro e y17 ⟨rfl, hb1⟩
  replace K : K2 w (.slice (some ⟨g1, 0, none⟩) 2 2) (.slice (some ⟨g2, 0, none⟩) 1 1) (.slice (some ⟨g3, 0, none⟩) 1 1) y17 := (by first | exact K.below hb1 | exact (K.alloc _).below hb1 | exact ((K.alloc _).alloc _).below hb1)
  clear hb1
  go_wp2_with fail
  refine (lawOf2 2 5 _).mono ?_
  rintro e y18 ⟨rfl, hb1⟩
  replace K : K2 w (.slice (some ⟨g1, 0, none⟩) 2 2) (.slice (some ⟨g2, 0, none⟩) 1 1) (.slice (some ⟨g3, 0, none⟩) 1 1) y18 := (by first | exact K.below hb1 | exact (K.alloc _).below hb1 | exact ((K.alloc _).alloc _).below hb1)
  clear hb1
  go_wp2_with fail
  refine (lawOf2 3 7 _).mono ?_
  rintro e y19 ⟨rfl, hb1⟩
  replace K : K2 w (.slice (some ⟨g1, 0, none⟩) 2 2) (.slice (some ⟨g2, 0, none⟩) 1 1) (.slice (some ⟨g3, 0, none⟩) 1 1) y19 := (by first | exact K.below hb1 | exact (K.alloc _).below hb1 | exact ((K.alloc _).alloc _).below hb1)
  clear hb1
  go_wp2_with fail
  refine (lawRaised _ _ [(1, 2), (3, 7)] [(1, 2), (2, 5), (3, 7)] 2 5 0 true _ (K.alloc _).2.1 (Holds.blk rfl (by simp) (by simp [maxLen]) (heap_alloc_new _ _)) (by simp) (by kernel_rfl)).mono ?_
  rintro e y20 ⟨rfl, hb1⟩
  replace K : K2 w (.slice (some ⟨g1, 0, none⟩) 2 2) (.slice (some ⟨g2, 0, none⟩) 1 1) (.slice (some ⟨g3, 0, none⟩) 1 1) y20 := (by first | exact K.below hb1 | exact (K.alloc _).below hb1 | exact ((K.alloc _).alloc _).below hb1)
  clear hb1
  go_wp2_with fail
  refine (lawOf2 3 5 _).mono ?_
  rintro e y21 ⟨rfl, hb1⟩
  replace K : K2 w (.slice (some ⟨g1, 0, none⟩) 2 2) (.slice (some ⟨g2, 0, none⟩) 1 1) (.slice (some ⟨g3, 0, none⟩) 1 1) y21 := (by first | exact K.below hb1 | exact (K.alloc _).below hb1 | exact ((K.alloc _).alloc _).below hb1)
  clear hb1
  go_wp2_with fail
  refine (lawRaised _ _ _ [(1, 2), (3, 7)] 3 5 0 true _ K.2.1 K.2.1 (by simp) (by kernel_rfl)).mono ?_
  rintro e y22 ⟨rfl, hb1⟩
  replace K : K2 w (.slice (some ⟨g1, 0, none⟩) 2 2) (.slice (some ⟨g2, 0, none⟩) 1 1) (.slice (some ⟨g3, 0, none⟩) 1 1) y22 := (by first | exact K.below hb1 | exact (K.alloc _).below hb1 | exact ((K.alloc _).alloc _).below hb1)
  clear hb1
  go_wp2_with fail
  refine (lawOf2 1 4 _).mono ?_
  rintro e y23 ⟨rfl, hb1⟩
  replace K : K2 w (.slice (some ⟨g1, 0, none⟩) 2 2) (.slice (some ⟨g2, 0, none⟩) 1 1) (.slice (some ⟨g3, 0, none⟩) 1 1) y23 := (by first | exact K.below hb1 | exact (K.alloc _).below hb1 | exact ((K.alloc _).alloc _).below hb1)
  clear hb1
  go_wp2_with fail
  refine (lawOf2 2 1 _).mono ?_
  rintro e y24 ⟨rfl, hb1⟩
  replace K : K2 w (.slice (some ⟨g1, 0, none⟩) 2 2) (.slice (some ⟨g2, 0, none⟩) 1 1) (.slice (some ⟨g3, 0, none⟩) 1 1) y24 := (by first | exact K.below hb1 | exact (K.alloc _).below hb1 | exact ((K.alloc _).alloc _).below hb1)
  clear hb1
  go_wp2_with fail
  have hT : Holds _ _ [(1, 4), (2, 1)] := Holds.blk (t := 23) (fr := (0, 0)) rfl (Nat.le_refl 2) (by simp [maxLen]) (heap_alloc_new y24 (.cells #[.int .i64 1, .int .i64 4, .int .i64 2, .int .i64 1] 23))
  refine (lawOf2 1 4 _).mono ?_
  rintro e y25 ⟨rfl, hb1⟩
  replace hT := hT.below hb1
  replace K : K2 w (.slice (some ⟨g1, 0, none⟩) 2 2) (.slice (some ⟨g2, 0, none⟩) 1 1) (.slice (some ⟨g3, 0, none⟩) 1 1) y25 := (by first | exact K.below hb1 | exact (K.alloc _).below hb1 | exact ((K.alloc _).alloc _).below hb1)
  clear hb1
  go_wp2_with fail
  refine (lawOf2 2 1 _).mono ?_
  rintro e y26 ⟨rfl, hb1⟩
  replace hT := hT.below hb1
  replace K : K2 w (.slice (some ⟨g1, 0, none⟩) 2 2) (.slice (some ⟨g2, 0, none⟩) 1 1) (.slice (some ⟨g3, 0, none⟩) 1 1) y26 := (by first | exact K.below hb1 | exact (K.alloc _).below hb1 | exact ((K.alloc _).alloc _).below hb1)
  clear hb1
  go_wp2_with fail
  refine (lawOf2 3 7 _).mono ?_
  rintro e y27 ⟨rfl, hb1⟩
  replace hT := hT.below hb1
  replace K : K2 w (.slice (some ⟨g1, 0, none⟩) 2 2) (.slice (some ⟨g2, 0, none⟩) 1 1) (.slice (some ⟨g3, 0, none⟩) 1 1) y27 := (by first | exact K.below hb1 | exact (K.alloc _).below hb1 | exact ((K.alloc _).alloc _).below hb1)
  clear hb1
  go_wp2_with fail
  refine (lawMerged _ _ _ _ [(1, 4), (2, 1)] [(1, 4), (2, 1), (3, 7)] 0 true _ (K.alloc _).2.1 (hT.alloc _) (Holds.blk rfl (by simp) (by simp [maxLen]) (heap_alloc_new _ _)) (by simp) (by kernel_rfl)).mono ?_
  rintro e y28 ⟨rfl, hb1⟩
  clear hT
  replace K : K2 w (.slice (some ⟨g1, 0, none⟩) 2 2) (.slice (some ⟨g2, 0, none⟩) 1 1) (.slice (some ⟨g3, 0, none⟩) 1 1) y28 := (by first | exact K.below hb1 | exact (K.alloc _).below hb1 | exact ((K.alloc _).alloc _).below hb1)
  clear hb1
  go_wp2_with fail
  refine (lawOf2 3 7 _).mono ?_
  rintro e y29 ⟨rfl, hb1⟩
  replace K : K2 w (.slice (some ⟨g1, 0, none⟩) 2 2) (.slice (some ⟨g2, 0, none⟩) 1 1) (.slice (some ⟨g3, 0, none⟩) 1 1) y29 := (by first | exact K.below hb1 | exact (K.alloc _).below hb1 | exact ((K.alloc _).alloc _).below hb1)
  clear hb1
  go_wp2_with fail
  refine (lawOf2 1 2 _).mono ?_
  rintro e y30 ⟨rfl, hb1⟩
  replace K : K2 w (.slice (some ⟨g1, 0, none⟩) 2 2) (.slice (some ⟨g2, 0, none⟩) 1 1) (.slice (some ⟨g3, 0, none⟩) 1 1) y30 := (by first | exact K.below hb1 | exact (K.alloc _).below hb1 | exact ((K.alloc _).alloc _).below hb1)
  clear hb1
  go_wp2_with fail
  refine (lawMerged _ _ _ [(3, 7), (1, 2)] [] [] 2 true _ (Holds.blk rfl (by simp) (by simp [maxLen]) (heap_alloc_new _ _)) (Holds.nil _) (Holds.nil _) (by simp) (by kernel_rfl)).mono ?_
  rintro e y31 ⟨rfl, hb1⟩
  replace K : K2 w (.slice (some ⟨g1, 0, none⟩) 2 2) (.slice (some ⟨g2, 0, none⟩) 1 1) (.slice (some ⟨g3, 0, none⟩) 1 1) y31 := (by first | exact K.below hb1 | exact (K.alloc _).below hb1 | exact ((K.alloc _).alloc _).below hb1)
  clear hb1
  go_wp2_with fail
  refine (lawOrders _ _ _ _ (-1) 0 true _ K.2.2.1 K.2.1 (by simp) (by kernel_rfl)).mono ?_
  rintro e y32 ⟨rfl, hb1⟩
  replace K : K2 w (.slice (some ⟨g1, 0, none⟩) 2 2) (.slice (some ⟨g2, 0, none⟩) 1 1) (.slice (some ⟨g3, 0, none⟩) 1 1) y32 := (by first | exact K.below hb1 | exact (K.alloc _).below hb1 | exact ((K.alloc _).alloc _).below hb1)
  clear hb1
  go_wp2_with fail
  refine (lawOrders _ _ _ _ 1 0 true _ K.2.1 K.2.2.1 (by simp) (by kernel_rfl)).mono ?_
  rintro e y33 ⟨rfl, hb1⟩
  replace K : K2 w (.slice (some ⟨g1, 0, none⟩) 2 2) (.slice (some ⟨g2, 0, none⟩) 1 1) (.slice (some ⟨g3, 0, none⟩) 1 1) y33 := (by first | exact K.below hb1 | exact (K.alloc _).below hb1 | exact ((K.alloc _).alloc _).below hb1)
  clear hb1
  go_wp2_with fail
  refine (lawOrders _ _ _ _ 2 0 true _ K.2.2.1 K.2.2.2 (by simp) (by kernel_rfl)).mono ?_
  rintro e y34 ⟨rfl, hb1⟩
  replace K : K2 w (.slice (some ⟨g1, 0, none⟩) 2 2) (.slice (some ⟨g2, 0, none⟩) 1 1) (.slice (some ⟨g3, 0, none⟩) 1 1) y34 := (by first | exact K.below hb1 | exact (K.alloc _).below hb1 | exact ((K.alloc _).alloc _).below hb1)
  clear hb1
  go_wp2_with fail
  refine (lawOrders _ _ [] [] 0 0 true _ (Holds.nil _) (Holds.nil _) (by simp) (by kernel_rfl)).mono ?_
  rintro e y35 ⟨rfl, hb1⟩
  replace K : K2 w (.slice (some ⟨g1, 0, none⟩) 2 2) (.slice (some ⟨g2, 0, none⟩) 1 1) (.slice (some ⟨g3, 0, none⟩) 1 1) y35 := (by first | exact K.below hb1 | exact (K.alloc _).below hb1 | exact ((K.alloc _).alloc _).below hb1)
  clear hb1
  go_wp2_with fail
  refine (lawTexts2 _ [] ⟨#[45]⟩ 0 true _ (Holds.nil _) (ht.below K.1) (by simp) (by rw [ByteArray.toList_eq, ByteArray.toList_eq]; kernel_rfl)).mono ?_
  rintro e y36 ⟨rfl, hb1⟩
  replace K : K2 w (.slice (some ⟨g1, 0, none⟩) 2 2) (.slice (some ⟨g2, 0, none⟩) 1 1) (.slice (some ⟨g3, 0, none⟩) 1 1) y36 := (by first | exact K.below hb1 | exact (K.alloc _).below hb1 | exact ((K.alloc _).alloc _).below hb1)
  clear hb1
  go_wp2_with fail
  refine (lawParses2 ⟨#[49, 46, 50, 32, 51, 46, 55]⟩ _ _ 0 true _ K.2.1 (by decide) (by kernel_rfl)).mono ?_
  rintro e y37 ⟨rfl, hb1⟩
  replace K : K2 w (.slice (some ⟨g1, 0, none⟩) 2 2) (.slice (some ⟨g2, 0, none⟩) 1 1) (.slice (some ⟨g3, 0, none⟩) 1 1) y37 := (by first | exact K.below hb1 | exact (K.alloc _).below hb1 | exact ((K.alloc _).alloc _).below hb1)
  clear hb1
  go_wp2_with fail
  refine (lawParses2 ⟨#[51, 46, 55, 32, 49, 46, 50]⟩ _ [] 6 true _ (Holds.nil _) (by decide) (by kernel_rfl)).mono ?_
  rintro e y38 ⟨rfl, hb1⟩
  replace K : K2 w (.slice (some ⟨g1, 0, none⟩) 2 2) (.slice (some ⟨g2, 0, none⟩) 1 1) (.slice (some ⟨g3, 0, none⟩) 1 1) y38 := (by first | exact K.below hb1 | exact (K.alloc _).below hb1 | exact ((K.alloc _).alloc _).below hb1)
  clear hb1
  go_wp2_with fail
  refine (lawParses2 ⟨#[]⟩ _ [] 6 true _ (Holds.nil _) (by decide) (by kernel_rfl)).mono ?_
  rintro e y39 ⟨rfl, hb1⟩
  replace K : K2 w (.slice (some ⟨g1, 0, none⟩) 2 2) (.slice (some ⟨g2, 0, none⟩) 1 1) (.slice (some ⟨g3, 0, none⟩) 1 1) y39 := (by first | exact K.below hb1 | exact (K.alloc _).below hb1 | exact ((K.alloc _).alloc _).below hb1)
  clear hb1
  go_wp2
  go_ret
  exact ⟨rfl, K.1⟩

end Go.Proofs.YteeigngomleijaaDoor
