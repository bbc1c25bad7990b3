/- The law of stage 1 (DotHolds) returns true, whatever the lists and the dots: the walk. -/
import Derived.Test.YteeigngomleijaaDoorTextsW
namespace Go.Proofs.YteeigngomleijaaDoor
open Go.RowKit

theorem digits_short : ∀ (k n : Nat), 1 ≤ k → n < 10 ^ k → (Lib.decDigits n).length ≤ k
  | 0, _, h, _ => by omega
  | k + 1, n, _, h => by
    by_cases h1 : n < 10
    · rw [Lib.decDigits_one h1]; simp
    · rw [Lib.decDigits, dif_neg h1, List.length_append, List.length_singleton]
      have hk : 1 ≤ k := by
        rcases Nat.eq_zero_or_pos k with e | e
        · subst e; simp at h; omega
        · exact e
      have := digits_short k (n / 10) hk (by rw [Nat.pow_succ] at h; omega)
      omega
theorem cmp_two (r c r' c' : Int) : cmpD r' c' r c = - cmpD r c r' c' := by
  have h1 := lessD_iff r c r' c'
  have h2 := lessD_iff r' c' r c
  unfold cmpD
  cases h3 : lessD r c r' c' <;> cases h4 : lessD r' c' r c <;> simp
  rw [h3] at h1; rw [h4] at h2
  have a := h1.1 rfl
  have b := h2.1 rfl
  omega
theorem cmp_three {rx cx ry cy rz cz : Int} :
    (cmpD rx cx ry cy = 0 ∧ rx = ry ∧ cx = cy) ∨
    (cmpD rx cx ry cy = -1 ∧ ((cmpD ry cy rz cz = -1 ∧ cmpD rx cx rz cz = -1) ∨ cmpD ry cy rz cz = 0 ∨ cmpD ry cy rz cz = 1) ∧ (¬ rx = ry ∨ rx = ry ∧ ¬ cx = cy)) ∨
    (cmpD rx cx ry cy = 1 ∧ ((cmpD ry cy rz cz = 1 ∧ cmpD rx cx rz cz = 1) ∨ cmpD ry cy rz cz = 0 ∨ cmpD ry cy rz cz = -1) ∧ (¬ rx = ry ∨ rx = ry ∧ ¬ cx = cy)) := by
  have e := fun a b c d => lessD_iff a b c d
  have h1 := e rx cx ry cy
  have h2 := e ry cy rx cx
  have h3 := e ry cy rz cz
  have h4 := e rz cz ry cy
  have h5 := e rx cx rz cz
  have h6 := e rz cz rx cx
  unfold cmpD
  cases g1 : lessD rx cx ry cy <;> cases g2 : lessD ry cy rx cx <;> cases g3 : lessD ry cy rz cz <;> cases g4 : lessD rz cz ry cy <;> cases g5 : lessD rx cx rz cz <;> cases g6 : lessD rz cz rx cx
  all_goals
    simp only [g1, g2, g3, g4, g5, g6, Bool.false_eq_true, false_iff, true_iff] at h1 h2 h3 h4 h5 h6
    simp
    try omega

/-- What the set of a list, what Minus and what Both return come to. -/
theorem minus_both_len (xs ys : List (Int × Int)) : (setL (xs.filter fun d => !decide (d ∈ ys))).length + (bothL xs ys).length = (setL xs).length := by
  have h1 : bothL xs ys = (setL xs).filter (fun d => decide (d ∈ ys)) := by
    rw [filter_setL]
    refine setL_congr fun d => ?_
    simp only [List.mem_filter, mem_setL]
    simp
    intro h h'
    exact absurd h h'
  rw [h1, ← filter_setL]
  induction setL xs with
  | nil => rfl
  | cons x l ih =>
    by_cases h : x ∈ ys
    · simp only [List.filter_cons, h, decide_true, Bool.not_true, Bool.false_eq_true, if_false, if_true, List.length_cons]; omega
    · simp only [List.filter_cons, h, decide_false, Bool.not_false, Bool.false_eq_true, if_false, if_true, List.length_cons]; omega
theorem mem_bothL (xs ys : List (Int × Int)) (d : Int × Int) : d ∈ bothL xs ys ↔ d ∈ xs ∧ d ∈ ys := by
  unfold bothL
  simp only [mem_setL, List.mem_filter]
  by_cases h : d ∈ xs <;> by_cases h' : d ∈ ys <;> simp [h, h']
theorem inc_bothL (xs ys : List (Int × Int)) : Inc (bothL xs ys) := inc_setL _
theorem both_comm (xs ys : List (Int × Int)) : bothL ys xs = bothL xs ys := (inc_bothL _ _).ext (inc_bothL _ _) fun d => by rw [mem_bothL, mem_bothL, and_comm]
theorem union_comm (xs ys : List (Int × Int)) : setL (ys ++ xs) = setL (xs ++ ys) := setL_congr fun d => by simp [or_comm]
theorem union_back (xs ys : List (Int × Int)) : setL (setL (xs.filter fun d => !decide (d ∈ ys)) ++ bothL xs ys) = setL xs := setL_congr fun d => by
  rw [List.mem_append, mem_setL, mem_bothL, List.mem_filter]
  by_cases h : d ∈ ys <;> simp [h]
theorem both_none (xs ys : List (Int × Int)) : bothL (setL (xs.filter fun d => !decide (d ∈ ys))) (bothL xs ys) = [] := by
  apply List.eq_nil_iff_forall_not_mem.2
  intro d hd
  rw [mem_bothL, mem_setL, mem_bothL, List.mem_filter] at hd
  obtain ⟨⟨_, h⟩, _, h'⟩ := hd
  simp [h'] at h
theorem setL_idem (xs : List (Int × Int)) : setL (setL xs) = setL xs := setL_of_inc (inc_setL xs)

/-- What holds all along. -/
def KH (w0 : World) (A B : Option Addr) (xs ys : List (Int × Int)) (c c' g : Nat) (rx cx : Int) (W : World) : Prop :=
  W.cell? ⟨g, 0, none⟩ = some (.int .i64 rx) ∧ W.cell? ⟨g, 1, none⟩ = some (.int .i64 cx) ∧ g < W.heap.size ∧ Below w0.heap.size w0 W ∧ Holds W (.slice A xs.length c) xs ∧ Holds W (.slice B ys.length c') ys ∧ TabOK W
section
variable {w0 : World} {A B : Option Addr} {xs ys : List (Int × Int)} {c c' g : Nat} {rx cx : Int} {W W' : World}
theorem KH.below (h : KH w0 A B xs ys c c' g rx cx W) (hb : Below W.heap.size W W') : KH w0 A B xs ys c c' g rx cx W' := by
  obtain ⟨h1, h2, h3, h4, h5, h6, h7⟩ := h
  exact ⟨(hb.cell (p := ⟨g, 0, none⟩) h3).trans h1, (hb.cell (p := ⟨g, 1, none⟩) h3).trans h2, Nat.lt_of_lt_of_le h3 hb.size, below_trans h4 hb, h5.below hb, h6.below hb, h7.below hb⟩
theorem KH.bel (h : KH w0 A B xs ys c c' g rx cx W) : Below w0.heap.size w0 W := h.2.2.2.1
theorem KH.ha (h : KH w0 A B xs ys c c' g rx cx W) : Holds W (.slice A xs.length c) xs := h.2.2.2.2.1
theorem KH.hb (h : KH w0 A B xs ys c c' g rx cx W) : Holds W (.slice B ys.length c') ys := h.2.2.2.2.2.1
theorem KH.tab (h : KH w0 A B xs ys c c' g rx cx W) : TabOK W := h.2.2.2.2.2.2
end

set_option maxRecDepth 100000 in
set_option maxHeartbeats 4000000 in
theorem lawDotHolds (A B : Option Addr) (xs ys : List (Int × Int)) (c c' : Nat) (rx cx ry cy rz cz : Int) (w : World) (hx : Holds w (.slice A xs.length c) xs) (hy : Holds w (.slice B ys.length c') ys) (ht : TabOK w) :
    Calls Tryd.prog 4 #[.slice A xs.length c, .slice B ys.length c', .agg #[.int .i64 rx, .int .i64 cx], .agg #[.int .i64 ry, .int .i64 cy], .agg #[.int .i64 rz, .int .i64 cz]] w fun e w' => e = .returned (.bool true) ∧ Below w.heap.size w w' := by
  have KN := Lib.hid known1
  have LX : xs.length ≤ maxLen := by obtain ⟨_, _, h, _, h2, h3⟩ := hx; omega
  have LY : ys.length ≤ maxLen := by obtain ⟨_, _, h, _, h2, h3⟩ := hy; omega
  unfold maxLen at LX LY
  have hal : Below w.heap.size w (((w.alloc (.cells #[.int .i64 rx, .int .i64 cx] 23)).alloc (.cells #[.int .i64 ry, .int .i64 cy] 23)).alloc (.cells #[.int .i64 rz, .int .i64 cz] 23)) :=
    (((Below.refl _ w).alloc (Nat.le_refl _) _).alloc (by simp) _).alloc (by simp; omega) _
  by_cases h1 : xs.length ≤ 60
  · by_cases h2 : ys.length ≤ 60
    · have t1 : ¬ (60 < (xs.length : Int)) := by omega
      have t2 : ¬ (60 < (ys.length : Int)) := by omega
      have HX := Lib.hid hx
      have HY := Lib.hid hy
      have HT := Lib.hid ht
      have HAL := Lib.hid hal
      have L1 := Lib.hid h1
      have L2 := Lib.hid h2
      clear hx hy ht hal LX LY h1 h2
      have hc := cmp_three (rx := rx) (cx := cx) (ry := ry) (cy := cy) (rz := rz) (cz := cz)
      have C1 := dotCompare rx cx ry cy
      have C2 := dotCompare ry cy rz cz
      have C3 := dotCompare rx cx rz cz
      have C4 := dotCompare ry cy rx cx
      rw [cmp_two rx cx ry cy] at C4
      generalize cmpD rx cx ry cy = P0 at hc C1 C4
      generalize cmpD ry cy rz cz = Q0 at hc C2
      generalize cmpD rx cx rz cz = R0 at hc C3
      have D1 := Lib.hid C1
      have D2 := Lib.hid C2
      have D3 := Lib.hid C3
      have D4 := Lib.hid C4
      have HC := Lib.hid hc
      clear C1 C2 C3 C4 hc
      have l1 := setL_len xs
      have l2 := setL_len (xs ++ ys)
      rw [List.length_append] at l2
      have l3 := minus_both_len xs ys
      have f2 := setL_idem xs
      have f1 := (isSetB_inc _).2 (inc_setL xs)
      have f3 := union_comm xs ys
      have f4 := both_comm xs ys
      have f5 := union_back xs ys
      have f6 := both_none xs ys
      have f8 := (isSetB_inc _).2 (inc_setL (xs.filter fun d => !decide (d ∈ ys)))
      have f9 := (isSetB_inc _).2 (inc_bothL xs ys)
      obtain ⟨ss, hss⟩ : ∃ ss, setL xs = ss := ⟨_, rfl⟩
      obtain ⟨us, hus⟩ : ∃ us, setL (xs ++ ys) = us := ⟨_, rfl⟩
      obtain ⟨ms, hms⟩ : ∃ ms, setL (xs.filter fun d => !decide (d ∈ ys)) = ms := ⟨_, rfl⟩
      obtain ⟨ns, hns⟩ : ∃ ns, bothL xs ys = ns := ⟨_, rfl⟩
      rw [hss] at l1 l3 f1 f2 f5
      rw [hus] at l2 f3
      rw [hms] at l3 f5 f6 f8
      rw [hns] at l3 f4 f5 f6 f9
      have l4 : ss.length ≤ 60 ∧ us.length ≤ 120 ∧ ms.length ≤ 60 ∧ ns.length ≤ 60 := by have := L1.out; have := L2.out; omega
      have l5 : (((ms.length : Int) + (ns.length : Int)) != (ss.length : Int)) = false := by rw [bne_eq_false_iff_eq]; omega
      have F := Lib.hid (And.intro f1 (And.intro f2 (And.intro f3 (And.intro f4 (And.intro f5 (And.intro f6 (And.intro f8 (And.intro f9 l4))))))))
      have HSS := Lib.hid hss
      have HUS := Lib.hid hus
      have HMS := Lib.hid hms
      have HNS := Lib.hid hns
      obtain ⟨b1, b2, b3, b4⟩ := l4
      clear l1 l2 l3 f1 f2 f3 f4 f5 f6 f8 f9 hss hus hms hns
      go_enter Tryd.func4, Tryd.ntmps4
      go_wp2_with fail
      have hz : w.heap.size + 1 + 1 < (((w.alloc (.cells #[.int .i64 rx, .int .i64 cx] 23)).alloc (.cells #[.int .i64 ry, .int .i64 cy] 23)).alloc (.cells #[.int .i64 rz, .int .i64 cz] 23)).heap.size := by simp
      have hK : ∀ b o v, b < w.heap.size + 3 → (((w.alloc (.cells #[.int .i64 rx, .int .i64 cx] 23)).alloc (.cells #[.int .i64 ry, .int .i64 cy] 23)).alloc (.cells #[.int .i64 rz, .int .i64 cz] 23)).cell? ⟨b, o, none⟩ = some v → ∀ p, (far (((w.alloc (.cells #[.int .i64 rx, .int .i64 cx] 23)).alloc (.cells #[.int .i64 ry, .int .i64 cy] 23)).alloc (.cells #[.int .i64 rz, .int .i64 cz] 23)) p).cell? ⟨b, o, none⟩ = some v :=
        fun b o v hb h p => cell_far (p := p) (by show b < _; omega) h
      have k1 := hK w.heap.size 0 (.int .i64 rx) (by omega) (by go_simp)
      have k2 := hK w.heap.size 1 (.int .i64 cx) (by omega) (by go_simp)
      have k3 := hK (w.heap.size + 1) 0 (.int .i64 ry) (by omega) (by go_simp)
      have k4 := hK (w.heap.size + 1) 1 (.int .i64 cy) (by omega) (by go_simp)
      have k5 := hK (w.heap.size + 1 + 1) 0 (.int .i64 rz) (by omega) (by go_simp)
      have k6 := hK (w.heap.size + 1 + 1) 1 (.int .i64 cz) (by omega) (by go_simp)
      clear hK
      have HZ := Lib.hid hz
      clear hz
      generalize (((w.alloc (.cells #[.int .i64 rx, .int .i64 cx] 23)).alloc (.cells #[.int .i64 ry, .int .i64 cy] 23)).alloc (.cells #[.int .i64 rz, .int .i64 cz] 23)) = W at *
      refine wp_region_far (by kernel_rfl) (by kernel_rfl) ?_
      repeat (go_big_quiet_step ((go_at_call 16; with_reducible first | exact far_of (D1.out _) | exact far_of (D2.out _) | exact far_of (D3.out _))))
      refine wpQuiet_nil ?_
      rintro _ ⟨p, rfl⟩
      have bel := below_trans HAL.out (below_far W p)
      have K : KH w A B xs ys c c' w.heap.size rx cx (far W p) :=
        ⟨k1 p, k2 p, by have := HZ.out; rw [size_far]; omega, bel, HX.out.below bel, HY.out.below bel, HT.out.below bel⟩
      replace k1 := k1 p
      replace k2 := k2 p
      replace k3 := k3 p
      replace k4 := k4 p
      replace k5 := k5 p
      replace k6 := k6 p
      clear bel
      generalize far W p = W1 at *
      go_upto_region 4 with fail
      go_cut [74] (fun b wx => b = .bool false ∧ KH w A B xs ys c c' w.heap.size rx cx wx)
      case first =>
        rcases HC.out with ⟨rfl, rfl, rfl⟩ | ⟨rfl, ⟨rfl, rfl⟩ | rfl | rfl, h | ⟨rfl, h⟩⟩ | ⟨rfl, ⟨rfl, rfl⟩ | rfl | rfl, h | ⟨rfl, h⟩⟩
        all_goals
          have D5 := D4.out
          (try simp only [Int.neg_neg, Int.neg_zero] at D5)
          replace D5 := Lib.hid D5
          go_wp2_with fail
          refine (D5.out _).mono ?_
          rintro e w1 ⟨rfl, hb⟩
          have K1 := Lib.hid (K.below hb)
          clear hb
          go_wp2_with fail
          go_meet
          exact ⟨rfl, K1.out⟩
      case rest =>
        obtain ⟨rfl, K2⟩ := hcut
        have K := K2
        clear k1 k2 k3 k4 k5 k6 K2
        obtain ⟨f1, f2, f3, f4, f5, f6, f8, f9, _⟩ := F.out
        have F1 := Lib.hid f1
        have F2 := Lib.hid f2
        have F3 := Lib.hid f3
        have F4 := Lib.hid f4
        have F5 := Lib.hid f5
        have F6 := Lib.hid f6
        have F8 := Lib.hid f8
        have F9 := Lib.hid f9
        clear f1 f2 f3 f4 f5 f6 f8 f9
        go_wp2_with fail
        refine (set_h _ xs ss _ K.ha (by have := L1.out; omega) HSS.out).mono ?_
        rintro e wa ⟨⟨sv, rfl, S⟩, hb⟩
        replace K := K.below hb
        clear hb
        go_wp2_with fail
        refine (isSet_h _ ss true _ S F1.out).mono ?_
        rintro e wb ⟨rfl, hb⟩
        replace K := K.below hb
        replace S := S.below hb
        clear hb
        go_wp2_with fail
        refine (set_h _ ss ss _ S (by omega) F2.out).mono ?_
        rintro e wc1 ⟨⟨sv2, rfl, S2⟩, hb⟩
        replace K := K.below hb
        replace S := S.below hb
        clear hb
        go_wp2_with fail
        refine (same_h _ _ ss ss true _ S2 S (by simp)).mono ?_
        rintro e wd ⟨rfl, hb⟩
        replace K := K.below hb
        replace S := S.below hb
        clear hb S2
        go_wp2_with fail
        refine (union_h _ _ xs ys us _ K.ha K.hb (by have := L1.out; have := L2.out; omega) HUS.out).mono ?_
        rintro e we ⟨⟨uv, rfl, U⟩, hb⟩
        replace K := K.below hb
        replace S := S.below hb
        clear hb
        go_wp2_with fail
        refine (union_h _ _ ys xs us _ K.hb K.ha (by have := L1.out; have := L2.out; omega) F3.out).mono ?_
        rintro e wf ⟨⟨uv2, rfl, U2⟩, hb⟩
        replace K := K.below hb
        replace S := S.below hb
        replace U := U.below hb
        clear hb
        go_wp2_with fail
        refine (same_h _ _ us us true _ U U2 (by simp)).mono ?_
        rintro e wg ⟨rfl, hb⟩
        replace K := K.below hb
        replace S := S.below hb
        clear hb U U2
        go_wp2_with fail
        refine (both_h _ _ xs ys ns _ K.ha K.hb (by have := L1.out; have := L2.out; omega) HNS.out).mono ?_
        rintro e wh ⟨⟨uv3, rfl, U⟩, hb⟩
        replace K := K.below hb
        replace S := S.below hb
        clear hb
        go_wp2_with fail
        refine (both_h _ _ ys xs ns _ K.hb K.ha (by have := L1.out; have := L2.out; omega) F4.out).mono ?_
        rintro e wi ⟨⟨uv4, rfl, U2⟩, hb⟩
        replace K := K.below hb
        replace S := S.below hb
        replace U := U.below hb
        clear hb
        go_wp2_with fail
        refine (same_h _ _ ns ns true _ U U2 (by simp)).mono ?_
        rintro e wj ⟨rfl, hb⟩
        replace K := K.below hb
        replace S := S.below hb
        clear hb U U2
        go_wp2_with fail
        refine (minus_h _ _ xs ys ms _ K.ha K.hb (by have := L1.out; have := L2.out; omega) HMS.out).mono ?_
        rintro e wk ⟨⟨mv, rfl, M⟩, hb⟩
        replace K := K.below hb
        replace S := S.below hb
        clear hb
        go_wp2_with fail
        refine (both_h _ _ xs ys ns _ K.ha K.hb (by have := L1.out; have := L2.out; omega) HNS.out).mono ?_
        rintro e wl ⟨⟨nv, rfl, N⟩, hb⟩
        replace K := K.below hb
        replace S := S.below hb
        replace M := M.below hb
        clear hb
        go_wp2_with fail
        refine (union_h _ _ ms ns ss _ M N (by omega) F5.out).mono ?_
        rintro e wm ⟨⟨uv5, rfl, U⟩, hb⟩
        replace K := K.below hb
        replace S := S.below hb
        replace M := M.below hb
        replace N := N.below hb
        clear hb
        go_wp2_with fail
        refine (same_h _ _ ss ss true _ U S (by simp)).mono ?_
        rintro e wn ⟨rfl, hb⟩
        replace K := K.below hb
        replace S := S.below hb
        replace M := M.below hb
        replace N := N.below hb
        clear hb U
        go_wp2_with fail
        refine (both_h _ _ ms ns [] _ M N (by omega) F6.out).mono ?_
        rintro e wo ⟨⟨uv6, rfl, U⟩, hb⟩
        replace K := K.below hb
        replace S := S.below hb
        replace M := M.below hb
        replace N := N.below hb
        clear hb
        obtain ⟨Au, cu, rfl, _, _, _⟩ := id U
        obtain ⟨As, cs, rfl, _, _, _⟩ := id S
        obtain ⟨Am, cm, rfl, _, _, _⟩ := id M
        obtain ⟨An, cn, rfl, _, _, _⟩ := id N
        clear U
        go_wp2_with fail
        refine (isSet_h _ ms true _ M F8.out).mono ?_
        rintro e wp ⟨rfl, hb⟩
        replace K := K.below hb
        replace N := N.below hb
        clear hb M S
        go_wp2_with fail
        refine (isSet_h _ ns true _ N F9.out).mono ?_
        rintro e wq ⟨rfl, hb⟩
        replace K := K.below hb
        clear hb N
        have hcl := And.intro K.1 K.2.1
        obtain ⟨k1, k2⟩ := hcl
        go_wp2_with fail
        cases hv : validD rx cx with
        | false =>
          have hT : textV rx cx = .tuple #[.string ⟨#[]⟩, .int .i64 2] := by simp [textV, hv]
          have VD := dotValid rx cx
          rw [hv] at VD
          have HVD := Lib.hid VD
          have HTX := Lib.hid (dotText rx cx _ K.tab)
          rw [hT] at HTX
          clear VD hT hv
          refine HTX.out.mono ?_
          rintro e wr ⟨rfl, hb⟩
          replace K := K.below hb
          clear hb k1 k2
          obtain ⟨k1, k2⟩ := And.intro K.1 K.2.1
          go_wp2_with fail
          refine (HVD.out _).mono ?_
          rintro e wt ⟨rfl, hb⟩
          replace K := K.below hb
          clear hb k1 k2
          go_wp2_with fail
          refine (KN.out _).mono ?_
          rintro e wu ⟨rfl, hb⟩
          replace K := K.below hb
          clear hb
          go_wp2_with fail
          go_ret
          exact ⟨rfl, K.bel⟩
        | true =>
          have hT : textV rx cx = .tuple #[.string ⟨(textL rx.toNat cx.toNat).toArray⟩, .int .i64 0] := by simp [textV, hv]
          have VD := dotValid rx cx
          rw [hv] at VD
          have hsz : (⟨(textL rx.toNat cx.toNat).toArray⟩ : ByteArray).size ≤ 1000000 := by
            have h := hv
            simp [validD] at h
            have h1 := digits_short 10 rx.toNat (by omega) (by omega)
            have h2 := digits_short 10 cx.toNat (by omega) (by omega)
            simp only [ByteArray.size, List.size_toArray, textL, List.length_append, List.length_cons]
            omega
          have hpb : parsesB (⟨(textL rx.toNat cx.toNat).toArray⟩ : ByteArray).data.toList rx cx 0 = true := by
            have := (parseL_iff (textL rx.toNat cx.toNat) rx cx).2 ⟨hv, rfl⟩
            simp [parsesB, this]
          generalize (⟨(textL rx.toNat cx.toNat).toArray⟩ : ByteArray) = tx at hT hsz hpb
          have HVD := Lib.hid VD
          have HTX := Lib.hid (dotText rx cx _ K.tab)
          rw [hT] at HTX
          have HPB := Lib.hid hpb
          clear VD hT hv hpb
          refine HTX.out.mono ?_
          rintro e wr ⟨rfl, hb⟩
          replace K := K.below hb
          clear hb k1 k2
          obtain ⟨k1, k2⟩ := And.intro K.1 K.2.1
          go_wp2_with fail
          refine (HVD.out _).mono ?_
          rintro e wt ⟨rfl, hb⟩
          replace K := K.below hb
          clear hb k1 k2
          obtain ⟨k1, k2⟩ := And.intro K.1 K.2.1
          go_wp2_with fail
          refine (parses_h tx _ _ _ true _ hsz HPB.out).mono ?_
          rintro e wv ⟨rfl, hb⟩
          replace K := K.below hb
          clear hb k1 k2
          go_wp2_with fail
          refine (KN.out _).mono ?_
          rintro e wu ⟨rfl, hb⟩
          replace K := K.below hb
          clear hb
          go_wp2_with fail
          go_ret
          exact ⟨rfl, K.bel⟩
    · have t1 : ¬ (60 < (xs.length : Int)) := by omega
      have t2 : 60 < (ys.length : Int) := by omega
      have HAL := Lib.hid hal
      clear hal
      go_enter Tryd.func4, Tryd.ntmps4
      go_wp2_with (go_at_call 10; refine (KN.out _).mono ?_; rintro e w1 ⟨rfl, hb⟩)
      go_ret
      exact ⟨rfl, below_trans HAL.out hb⟩
  · have t1 : 60 < (xs.length : Int) := by omega
    have HAL := Lib.hid hal
    clear hal
    go_enter Tryd.func4, Tryd.ntmps4
    go_wp2_with (go_at_call 10; refine (KN.out _).mono ?_; rintro e w1 ⟨rfl, hb⟩)
    go_ret
    exact ⟨rfl, below_trans HAL.out hb⟩

end Go.Proofs.YteeigngomleijaaDoor
