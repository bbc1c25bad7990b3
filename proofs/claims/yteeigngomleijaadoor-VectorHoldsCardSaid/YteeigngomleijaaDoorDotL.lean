/- Package dot: pick, Minus, Both, Has. -/
import Derived.Test.YteeigngomleijaaDoorDotJ
import Derived.Test.YteeigngomleijaaDoorDotK
namespace Go.Proofs.YteeigngomleijaaDoor
open Go.RowKit

set_option maxHeartbeats 1000000 in
theorem dotPick (A B : Option Addr) (xs ys : List (Int × Int)) (c c' : Nat) (inn : Bool) (w : World) (hx : DotsAt w A xs) (hy : DotsAt w B ys) (hm : xs.length + ys.length ≤ 1000000) :
    Calls Tryd.prog 56 #[.slice A xs.length c, .slice B ys.length c', .bool inn] w fun e w' => ∃ v, e = .returned v ∧ Mine w w' v (pickL xs ys inn) := by
  have hsb := fun W hW => dotSet B ys c' W hW (by omega)
  have hsa := fun W hW => dotSet A xs c W hW (by omega)
  have hlb := ordL_len ys
  have hla := ordL_len xs
  have HB := Lib.hid hsb
  have HA := Lib.hid hsa
  clear hsb hsa
  go_enter Tryd.func56, Tryd.ntmps56
  go_wp2_with fail
  have hb0 := (Below.refl w.heap.size w).alloc (Nat.le_refl _) (.cells #[.bool inn] 4)
  refine (HB.out _ (hy.below hb0)).mono ?_
  rintro e w1 ⟨v, rfl, h1⟩
  have hb1 := below_trans hb0 h1.2
  have hin : w1.cell? ⟨w.heap.size, 0, none⟩ = some (.bool inn) := (h1.2.cell (p := ⟨w.heap.size, 0, none⟩) (by simp)).trans (by simp [World.cell?_alloc_new])
  have hlt1 : w.heap.size < w1.heap.size := by have := h1.2.size; simp at this; omega
  obtain ⟨C, cc, rfl, k1, k2, k3⟩ := h1.holds
  have K1 := Lib.hid k1
  clear h1 k1
  go_wp2_with fail
  have hal : Below w1.heap.size w1 (w1.alloc (.cells #[.slice C (ordL ys).length cc] 33)) := (Below.refl _ w1).alloc (Nat.le_refl _) _
  have hc0 : (w1.alloc (.cells #[.slice C (ordL ys).length cc] 33)).cell? ⟨w1.heap.size, 0, none⟩ = some (.slice C (ordL ys).length cc) := by simp [World.cell?_alloc_new]
  have hc1 : (w1.alloc (.cells #[.slice C (ordL ys).length cc] 33)).cell? ⟨w.heap.size, 0, none⟩ = some (.bool inn) := (hal.cell (p := ⟨w.heap.size, 0, none⟩) hlt1).trans hin
  have hb2 := below_trans hb1 hal
  have hsay := Says.pick1 (K1.out.below hal) (by omega) (inc_ordL ys) hc0 hc1
  have HY := Lib.hid hsay
  clear hin hsay hc0 hc1 hal
  generalize w1.alloc (.cells #[.slice C (ordL ys).length cc] 33) = w2 at *
  refine (HA.out _ (hx.below hb2)).mono ?_
  rintro e w3 ⟨v2, rfl, h2⟩
  have hdel := deleteFunc _ _ w2.heap.size w2 v2 (ordL xs) w3 HY.out h2.2 h2.2.size h2.1 (by omega)
  have HD := Lib.hid hdel
  have H2 := Lib.hid h2
  clear hdel h2
  go_wp2_with fail
  refine HD.out.mono ?_
  rintro e w4 ⟨v4, rfl, ho4, hg4⟩
  have H4 := Lib.hid ((H2.out.step ho4 hg4).base hb2)
  clear ho4 hg4
  go_wp2
  go_ret
  exact ⟨_, rfl, H4.out⟩

set_option maxHeartbeats 400000 in
theorem dotMinus (A B : Option Addr) (xs ys : List (Int × Int)) (c c' : Nat) (w : World) (hx : DotsAt w A xs) (hy : DotsAt w B ys) (hm : xs.length + ys.length ≤ 1000000) :
    Calls Tryd.prog 22 #[.slice A xs.length c, .slice B ys.length c'] w fun e w' => ∃ v, e = .returned v ∧ Mine w w' v (pickL xs ys false) := by
  have h := dotPick A B xs ys c c' false w hx hy hm
  have H := Lib.hid h
  clear h
  go_enter Tryd.func22, Tryd.ntmps22
  go_wp2_with fail
  refine H.out.mono ?_
  rintro e w1 ⟨v, rfl, h1⟩
  have H1 := Lib.hid h1; clear h1
  go_wp2
  go_ret
  exact ⟨_, rfl, H1.out⟩

set_option maxHeartbeats 400000 in
theorem dotBoth (A B : Option Addr) (xs ys : List (Int × Int)) (c c' : Nat) (w : World) (hx : DotsAt w A xs) (hy : DotsAt w B ys) (hm : xs.length + ys.length ≤ 1000000) :
    Calls Tryd.prog 21 #[.slice A xs.length c, .slice B ys.length c'] w fun e w' => ∃ v, e = .returned v ∧ Mine w w' v (pickL xs ys true) := by
  have h := dotPick A B xs ys c c' true w hx hy hm
  have H := Lib.hid h
  clear h
  go_enter Tryd.func21, Tryd.ntmps21
  go_wp2_with fail
  refine H.out.mono ?_
  rintro e w1 ⟨v, rfl, h1⟩
  have H1 := Lib.hid h1; clear h1
  go_wp2
  go_ret
  exact ⟨_, rfl, H1.out⟩


end Go.Proofs.YteeigngomleijaaDoor
