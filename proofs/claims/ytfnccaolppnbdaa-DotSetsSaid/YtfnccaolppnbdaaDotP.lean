/- The law of the order of dots returns true, whatever the dots. -/
import Derived.Test.YtfnccaolppnbdaaDotO
import Derived.Deep.SlicePairs
import Derived.Lib.SmallJoins
import Derived.ProofKit
import Derived.OpenShut
import Derived.ChangeOld
import Derived.Below
namespace Go.Proofs.Ytfnccaolppnbdaa
open Go.RowKit
open Go.ChangeShapes Go.WideShapes Go.ChangeAt

set_option maxHeartbeats 2000000 in
theorem lawOrders (r c r' c' : Int) (w : World) :
    Calls Try.prog 3 #[.agg #[.int .i64 r, .int .i64 c], .agg #[.int .i64 r', .int .i64 c']] w fun e w' => e = .returned (.bool true) ∧ Below w.heap.size w w' := by
  have V1 : ∃ b, ∀ w, Calls Try.prog 6 #[.agg #[.int .i64 r, .int .i64 c]] w fun e w' => e = .returned (.bool b) ∧ Below w.heap.size w w' := ⟨_, dotValid r c⟩
  have V2 : ∀ w, Calls Try.prog 7 #[.agg #[.int .i64 r, .int .i64 c]] w fun e w' => e = .returned (.bool (validD r c)) ∧ Below w.heap.size w w' := refValid r c
  have V1 : ∀ w, Calls Try.prog 6 #[.agg #[.int .i64 r, .int .i64 c]] w fun e w' => e = .returned (.bool (validD r c)) ∧ Below w.heap.size w w' := dotValid r c
  have C1 := dotCompare r c r' c'
  have C2 := dotCompare r' c' r c
  have R1 := refCompare r c r' c'
  have R2 := refCompare r' c' r c
  have KN := known1
  generalize validD r c = b at V1 V2
  generalize cmpD r c r' c' = v at C1 R1
  generalize cmpD r' c' r c = v' at C2 R2
  replace V1 := Lib.hid V1
  replace V2 := Lib.hid V2
  replace C1 := Lib.hid C1
  replace C2 := Lib.hid C2
  replace R1 := Lib.hid R1
  replace R2 := Lib.hid R2
  replace KN := Lib.hid KN
  go_enter Try.func3, Try.ntmps3
  cases b
  all_goals
    go_wp2_with fail
    have hal : Below w.heap.size w ((w.alloc (.cells #[.int .i64 r, .int .i64 c] 23)).alloc (.cells #[.int .i64 r', .int .i64 c'] 23)) :=
      ((Below.refl _ w).alloc (Nat.le_refl _) _).alloc (by simp) _
    have hz : w.heap.size + 1 < ((w.alloc (.cells #[.int .i64 r, .int .i64 c] 23)).alloc (.cells #[.int .i64 r', .int .i64 c'] 23)).heap.size := by simp
    have hK : ∀ b o v, b < w.heap.size + 2 → ((w.alloc (.cells #[.int .i64 r, .int .i64 c] 23)).alloc (.cells #[.int .i64 r', .int .i64 c'] 23)).cell? ⟨b, o, none⟩ = some v → ∀ p, (far ((w.alloc (.cells #[.int .i64 r, .int .i64 c] 23)).alloc (.cells #[.int .i64 r', .int .i64 c'] 23)) p).cell? ⟨b, o, none⟩ = some v :=
      fun b o v hb h p => cell_far (p := p) (by show b < _; omega) h
    have k1 := hK w.heap.size 0 (.int .i64 r) (by omega) (by go_simp)
    have k2 := hK w.heap.size 1 (.int .i64 c) (by omega) (by go_simp)
    have k3 := hK (w.heap.size + 1) 0 (.int .i64 r') (by omega) (by go_simp)
    have k4 := hK (w.heap.size + 1) 1 (.int .i64 c') (by omega) (by go_simp)
    clear hK hz
    generalize ((w.alloc (.cells #[.int .i64 r, .int .i64 c] 23)).alloc (.cells #[.int .i64 r', .int .i64 c'] 23)) = W at *
    refine wp_region_far (by kernel_rfl) (by kernel_rfl) ?_
    repeat (go_big_quiet_step ((first | (go_at_call 6; exact far_of (V1.out _)) | (go_at_call 7; exact far_of (V2.out _)) | (go_at_call 8; with_reducible first | exact far_of (C1.out _) | exact far_of (C2.out _)) | (go_at_call 9; with_reducible first | exact far_of (R1.out _) | exact far_of (R2.out _)) | (go_at_call 10; exact far_of (KN.out _)))))
    refine wpQuiet_nil ?_
    rintro _ ⟨p, rfl⟩
    go_wp2
    go_ret
    exact ⟨rfl, below_trans hal (below_far _ _)⟩

/-- A dot that comes in, opened. -/
theorem open_dot {H : Type} {enc : TypeId × Value → H} {W : World} {base b0 : Nat} {spare : Nat → Bool} {held : Bool} {v : Value} {d : DataW H} {p : List MemPlace}
    (hv : Value.okWide Try.prog W .any b0 23 v) (h : DataW.Trod enc Try.prog W base spare held 23 v d p) :
    ∃ r c, v = .agg #[.int .i64 r, .int .i64 c] := by
  obtain ⟨v0, v1, y0, y1, n, rfl, _, _, h0, h1⟩ := Go.Joins.open_agg2 Try.underlying23 (by kernel_rfl) (by kernel_rfl) hv h
  obtain ⟨r, hr, _, _⟩ := DataW.trod_int Try.underlying3 h0
  obtain ⟨c, hc, _, _⟩ := DataW.trod_int Try.underlying3 h1
  cases hr
  cases hc
  exact ⟨r, c, rfl⟩

theorem ownP : ownKnob Try.prog.godebug = none := by kernel_rfl
theorem laidP : laidOutB Try.prog = true := by kernel_rfl

set_option maxRecDepth 100000 in
theorem orders_lifted (os : Os) (started : os.Started) (H : Type) (enc : TypeId × Value → H) :
    ReturnsInHanded {} Try.checked os 3 .any (Rows.dotOrdersSpec.pre6 enc Try.prog Try.f3 Rows.dotOrdersRow.domain false) (Rows.dotOrdersSpec.post enc Try.prog Try.f3 false true false false) := by
  refine returnsInHanded_of_change (C := Try.checked) ownP started (by kernel_rfl) Try.func3
    (ChangeSpec.witness6 (enc := enc) (C := Try.checked) false ⟨#[], #[.agg #[.int .i64 0, .int .i64 0], .agg #[.int .i64 0, .int .i64 0]], []⟩ 8 (by kernel_rfl) (by kernel_rfl) (by kernel_rfl) (by kernel_rfl)) ?_
  intro W base args ds gs before hval0 hW _ _
  have hval : ∀ (j : Nat) t v, Try.f3.params[j]? = some t → args[j]? = some v → Value.okWide Try.prog W .any base t v := hval0
  have hW' := hW
  obtain ⟨p, q, hA0, hV, rfl, _, _⟩ := hW
  have hA : DataW.TrodAll enc Try.prog W 0 (fun _ => true) true Try.f3.params.toList args.toList ds p := hA0
  rw [Try.params3] at hA hval
  obtain ⟨v0, v1, d0, d1, p0, p1, rfl, rfl, rfl, h0, h1⟩ := trodAll_two hA
  obtain ⟨rfl, rfl⟩ := trodVars_none hV
  have k0 := h0
  have k1 := h1
  obtain ⟨r0, c0, rfl⟩ := open_dot (hval 0 _ v0 rfl rfl) h0
  obtain ⟨r1, c1, rfl⟩ := open_dot (hval 1 _ v1 rfl rfl) h1
  clear hA0 hval0
  simp only [List.append_nil] at hW'
  have lt0 : ∀ x ∈ p0, x.block < W.heap.size := by obtain ⟨m, hm⟩ := k0; exact DataW.trod_lt m _ _ _ hm
  have lt1 : ∀ x ∈ p1, x.block < W.heap.size := by obtain ⟨m, hm⟩ := k1; exact DataW.trod_lt m _ _ _ hm
  refine (lawOrders r0 c0 r1 c1 W).mono fun e W' ⟨he, bel⟩ => ?_
  subst he
  exact ⟨_, rfl, _, _, _, [], _, [], hW', trodAll_mk1 (shut_bool Try.underlying4 _), trodAll_mk2 (Below.trod laidP (by kernel_rfl) (of_decide_eq_true (by kernel_rfl)) k0 bel lt0) (Below.trod laidP (by kernel_rfl) (of_decide_eq_true (by kernel_rfl)) k1 bel lt1), rfl, bel.frame _, fun h => by cases h⟩

theorem orders_over : Rows.DotOrdersSaid :=
  OpenClaim.holds_of_wide 3 Try.f3 rfl rfl rfl rfl rfl rfl rfl ⟨rfl, rfl, rfl, rfl, rfl⟩ rfl rfl rfl rfl rfl (by kernel_rfl) Try.func3 (by kernel_rfl)
    (of_decide_eq_true (by kernel_rfl)) (by unfold Func.isWrapper; first | (rw [if_pos (by decide +kernel)]; kernel_rfl) | (rw [if_neg (by decide +kernel)]; exact ⟨rfl, rfl⟩))
    (fun os started H enc _ => orders_lifted os started H enc)

end Go.Proofs.Ytfnccaolppnbdaa
