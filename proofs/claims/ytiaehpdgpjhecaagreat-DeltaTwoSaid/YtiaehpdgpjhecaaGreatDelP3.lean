/- DeltaTwo is proved for every input. -/
import Derived.Test.YtiaehpdgpjhecaaGreatNBL
import Derived.Test.YtiaehpdgpjhecaaGreatNBM
namespace Go.Proofs.YtiaehpdgpjhecaaGreat
open Go.RowKit
open Go.ChangeShapes Go.WideShapes Go.ChangeAt
open Go.ChangeMaps (open_string)

set_option maxRecDepth 100000 in
theorem dtwo_lifted (os : Os) (started : os.Started) (H : Type) (enc : TypeId × Value → H) :
    ReturnsInHanded {} Tryz.checked os 7 .any (Rows.deltaTwoSpec.pre6 enc Tryz.prog Tryz.f7 Rows.deltaTwoRow.domain false) (Rows.deltaTwoSpec.post enc Tryz.prog Tryz.f7 false true false false) := by
  refine returnsInHanded_of_change (C := Tryz.checked) ownP started (by kernel_rfl) Tryz.func7
    (ChangeSpec.witness6 (enc := enc) (C := Tryz.checked) false ⟨#[], #[.agg #[.slice none 0 0, .slice none 0 0, .slice none 0 0], .agg #[.int .i64 0, .int .i64 0], .agg #[.int .i64 0, .int .i64 0], .string ByteArray.empty, .int .i64 0, .string ByteArray.empty, .int .u8 0], []⟩ 8 (by kernel_rfl) (by kernel_rfl) (by kernel_rfl) (by kernel_rfl)) ?_
  intro W base args ds gs before hval0 hW _ _
  have hval : ∀ (j : Nat) t v, Tryz.f7.params[j]? = some t → args[j]? = some v → Value.okWide Tryz.prog W .any base t v := hval0
  have hW' := hW
  obtain ⟨p, q, hA0, hV, rfl, _, _⟩ := hW
  have hA : DataW.TrodAll enc Tryz.prog W 0 (fun _ => true) true Tryz.f7.params.toList args.toList ds p := hA0
  rw [Tryz.params7] at hA hval
  obtain ⟨v0, v1, v2, v3, v4, v5, v6, d0, d1, d2, d3, d4, d5, d6, p0, p1, p2, p3, p4, p5, p6, rfl, rfl, rfl, h0, h1, h2, h3, h4, h5, h6⟩ := trodAll_seven hA
  obtain ⟨rfl, rfl⟩ := trodVars_none hV
  have k0 := h0
  have k1 := h1
  have k2 := h2
  have k3 := h3
  have k4 := h4
  have k5 := h5
  have k6 := h6
  obtain ⟨c0, rfl, ho0, ht0⟩ := open_cart (hval 0 _ v0 rfl rfl) h0
  obtain ⟨r1, c1, rfl⟩ := open_dot9 (hval 1 _ v1 rfl rfl) h1
  obtain ⟨r2, c2, rfl⟩ := open_dot9 (hval 2 _ v2 rfl rfl) h2
  obtain ⟨s3, rfl, _, _, ws3⟩ := open_string Tryz.underlying9 (hval 3 _ v3 rfl rfl) h3
  obtain ⟨l3, hl3⟩ : ∃ l : List UInt8, s3 = ⟨l.toArray⟩ := ⟨_, str_list9 s3⟩
  subst hl3
  obtain ⟨n4, rfl, _, _, wn4⟩ := open_int Tryz.underlying3 (hval 4 _ v4 rfl rfl) h4
  obtain ⟨s5, rfl, _, _, ws5⟩ := open_string Tryz.underlying9 (hval 5 _ v5 rfl rfl) h5
  obtain ⟨l5, hl5⟩ : ∃ l : List UInt8, s5 = ⟨l.toArray⟩ := ⟨_, str_list9 s5⟩
  subst hl5
  obtain ⟨n6, rfl, _, _, wn6⟩ := open_int Tryz.underlying5 (hval 6 _ v6 rfl rfl) h6
  obtain ⟨m6, rfl, hm6⟩ := wfB wn6
  clear hA0 hval0
  simp only [List.append_nil] at hW'
  have lt0 : ∀ x ∈ p0, x.block < W.heap.size := by obtain ⟨m, hm⟩ := k0; exact DataW.trod_lt m _ _ _ hm
  have lt1 : ∀ x ∈ p1, x.block < W.heap.size := by obtain ⟨m, hm⟩ := k1; exact DataW.trod_lt m _ _ _ hm
  have lt2 : ∀ x ∈ p2, x.block < W.heap.size := by obtain ⟨m, hm⟩ := k2; exact DataW.trod_lt m _ _ _ hm
  have lt3 : ∀ x ∈ p3, x.block < W.heap.size := by obtain ⟨m, hm⟩ := k3; exact DataW.trod_lt m _ _ _ hm
  have lt4 : ∀ x ∈ p4, x.block < W.heap.size := by obtain ⟨m, hm⟩ := k4; exact DataW.trod_lt m _ _ _ hm
  have lt5 : ∀ x ∈ p5, x.block < W.heap.size := by obtain ⟨m, hm⟩ := k5; exact DataW.trod_lt m _ _ _ hm
  have lt6 : ∀ x ∈ p6, x.block < W.heap.size := by obtain ⟨m, hm⟩ := k6; exact DataW.trod_lt m _ _ _ hm
  refine (lawDeltaTwo12 known12T delOK c0 r1 c1 r2 c2 l3 n4 l5 m6 hm6 _ ho0 ht0).mono fun e W' ⟨he, bel⟩ => ?_
  subst he
  exact ⟨_, rfl, _, _, _, [], _, [], hW', trodAll_mk1 (shut_bool Tryz.underlying4 _), trodAll_mk7 (Below.trod laidP (by kernel_rfl) (of_decide_eq_true (by kernel_rfl)) k0 bel lt0) (Below.trod laidP (by kernel_rfl) (of_decide_eq_true (by kernel_rfl)) k1 bel lt1) (Below.trod laidP (by kernel_rfl) (of_decide_eq_true (by kernel_rfl)) k2 bel lt2) (Below.trod laidP (by kernel_rfl) (of_decide_eq_true (by kernel_rfl)) k3 bel lt3) (Below.trod laidP (by kernel_rfl) (of_decide_eq_true (by kernel_rfl)) k4 bel lt4) (Below.trod laidP (by kernel_rfl) (of_decide_eq_true (by kernel_rfl)) k5 bel lt5) (Below.trod laidP (by kernel_rfl) (of_decide_eq_true (by kernel_rfl)) k6 bel lt6), rfl, bel.frame _, fun h => by cases h⟩

theorem dtwo_over : Rows.DeltaTwoSaid :=
  OpenClaim.holds_of_wide 7 Tryz.f7 rfl rfl rfl rfl rfl rfl rfl ⟨rfl, rfl, rfl, rfl, rfl⟩ rfl rfl rfl rfl rfl (by kernel_rfl) Tryz.func7 (by kernel_rfl)
    (of_decide_eq_true (by kernel_rfl)) (by unfold Func.isWrapper; first | (rw [if_pos (by decide +kernel)]; kernel_rfl) | (rw [if_neg (by decide +kernel)]; exact ⟨rfl, rfl⟩))
    (fun os started H enc _ => dtwo_lifted os started H enc)

end Go.Proofs.YtiaehpdgpjhecaaGreat
