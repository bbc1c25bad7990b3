/- Several texts in one: CarV, CarX. -/
import Derived.Test.YtfmhhmceoikgpaaGreatNF
import Derived.Test.YtfmhhmceoikgpaaGreatNB
import Derived.Test.YtfmhhmceoikgpaaGreatNG
namespace Go.Proofs.YtfmhhmceoikgpaaGreat

section
open Go.RowKit

theorem cellsS_made (n : Nat) : (madeCells (Value.string ⟨#[]⟩).cells (n * 1)).toList = cellsOf encS (List.replicate n ([] : List UInt8)) := by
  have e : cellsOf encS (List.replicate n ([] : List UInt8)) = List.replicate n (.string ⟨#[]⟩) := by
    induction n with
    | zero => rfl
    | succ n ih => rw [List.replicate_succ, List.replicate_succ, ← ih]; rfl
  rw [e]
  apply List.ext_getElem?
  intro j
  by_cases hj : j < n
  · simp [madeCells, hj, Value.cells, Nat.mod_one]
  · simp [madeCells, hj]
theorem set_repS {ys : List (List UInt8)} {y : List UInt8} {n : Nat} (h : ys.length < n) : (ys ++ List.replicate (n - ys.length) []).set ys.length y = (ys ++ [y]) ++ List.replicate (n - (ys ++ [y]).length) [] := by
  have e : n - ys.length = (n - (ys ++ [y]).length) + 1 := by simp; omega
  rw [List.set_append_right _ _ (Nat.le_refl _), Nat.sub_self, e, List.replicate_succ, List.set_cons_zero]
  simp
theorem cells_setS (ys : List (List UInt8)) (j : Nat) (s : List UInt8) (hj : j < ys.length) : (cellsOf encS ys).set j (.string ⟨s.toArray⟩) = cellsOf encS (ys.set j s) := by
  induction ys generalizing j with
  | nil => simp at hj
  | cons y r ih =>
    cases j with
    | zero => rfl
    | succ j => simp only [List.set_cons_succ]; show _ :: (cellsOf encS r).set j _ = _ :: _; rw [ih j (by simpa using hj)]; rfl
/-- What Names returns. -/
def namesC (c : Ca) : List (List UInt8) := if validK c = true then c.2.map (·.1) else []

/-- The sum of quantities. -/
def sumQ (l : List It) : Int := (l.map fun x => (qtyI x).1).sum
def unitsC (c : Ca) : Int := if validK c = true then sumQ c.2 else 0
theorem qtyI_small (x : It) : 0 ≤ (qtyI x).1 ∧ (qtyI x).1 ≤ 2147483647 := by
  unfold qtyI
  by_cases h : okI x = true
  · rw [if_pos h]
    have hv := (okI_parts h).2.2.1
    unfold newV
    rw [if_pos hv]
    cases hn : newestN x.2 with
    | none => simp [Mk.zero]
    | some m =>
      have hm : m ∈ x.2 := (newestN_max hn).1
      rw [List.all_eq_true] at hv
      have := hv m hm
      simp only [validM, qtyN, Bool.and_eq_true, decide_eq_true_eq] at this
      show 0 ≤ m.q ∧ m.q ≤ 2147483647
      omega
  · rw [if_neg h]; simp
theorem sumQ_small : ∀ l : List It, 0 ≤ sumQ l ∧ sumQ l ≤ 2147483647 * l.length
  | [] => by simp [sumQ]
  | x :: r => by
    have h1 := sumQ_small r
    have h2 := qtyI_small x
    unfold sumQ at h1 ⊢
    rw [List.map_cons, List.sum_cons, List.length_cons]
    omega
theorem sumQ_snoc (l : List It) (x : It) : sumQ (l ++ [x]) = sumQ l + (qtyI x).1 := by simp [sumQ]
theorem qtyI_err {x : It} (h : (qtyI x).2 ≠ 0) : okI x = false := by
  cases k : okI x with
  | false => rfl
  | true =>
    exfalso; apply h
    unfold qtyI newV
    obtain ⟨_, h0, hv, _⟩ := okI_parts k
    rw [if_pos k, if_pos hv]
    cases hn : newestN x.2 with
    | none => rw [newestN_none] at hn; rw [hn] at h0; simp at h0
    | some m => rfl
theorem validK_bad {c : Ca} {x : It} (hx : x ∈ c.2) (h : okI x = false) : validK c = false := by
  cases k : validK c with
  | false => rfl
  | true => have := (validK_iff.1 k).2.1.1 x hx; rw [this] at h; cases h

set_option maxRecDepth 100000 in
set_option maxHeartbeats 4000000 in
theorem caNames (c : CaV) (ns : List (List UInt8)) (w : World) (hc : CaOK w c) (hf : FitsK c) (hv : namesC c.ca = ns) :
    Calls Tryz.prog 21 #[mkC c] w fun e w' => (∃ v, e = .returned v ∧ HoldsS w' v ns) ∧ Below w.heap.size w w' := by
  obtain ⟨ti0, hi0, hz0, hz1, hz2⟩ := info_parts infoS
  have K0 := Lib.hid (KB1.new w c hc)
  obtain ⟨b, hb⟩ : ∃ b, validK c.ca = b := ⟨_, rfl⟩
  unfold namesC at hv
  rw [hb] at hv
  have HV := Lib.hid fun W (h : CaOK W c) => caValid c b W h hf hb
  have HF := Lib.hid hf.1
  have hm := hf.1.1
  clear hc hb hf
  cases b with
  | false =>
    have HE := Lib.hid (show ns = [] from by rw [← hv]; rfl)
    clear hv
    go_enter Tryz.func21, Tryz.ntmps21
    go_upto_region 1 with fail
    generalize World.alloc w _ = w2 at K0 ⊢
    obtain ⟨x0, x1, x2, xl, _⟩ := K0.out.sp
    go_wp2_with fail
    refine (HV.out _ K0.out.ok).mono ?_
    rintro e w3 ⟨rfl, hb⟩
    have KB := Lib.hid (K0.out.next hb).bel
    clear hb K0 x0 x1 x2 xl
    go_wp2_with fail
    go_ret
    exact ⟨⟨_, rfl, by rw [HE.out]; exact HoldsS.nil _⟩, KB.out⟩
  | true =>
    have HE := Lib.hid (show ns = c.xs.map (·.nm) from by rw [← hv, if_pos rfl]; simp [CaV.ca, its, List.map_map]; intro a _; rfl)
    clear hv
    go_enter Tryz.func21, Tryz.ntmps21
    go_upto_region 1 with fail
    generalize World.alloc w _ = w2 at K0 ⊢
    obtain ⟨x0, x1, x2, xl, _⟩ := K0.out.sp
    go_wp2_with fail
    refine (HV.out _ K0.out.ok).mono ?_
    rintro e w3 ⟨rfl, hb⟩
    have K1 := Lib.hid (K0.out.next hb)
    clear hb K0 x0 x1 x2 xl
    obtain ⟨x0, x1, x2, xl, _⟩ := K1.out.sp
    have hsz1 := K1.out.size
    go_wp2_with (refine wpList_make_full _ rfl (.tmp 11) (.tmp 11) 41 rfl (w.heap.size + 1) 9 ti0 _ 1 Tryz.underlying41 hi0 hz0 hz1 .i64 .i64 _ _ c.xs.length rfl rfl rfl rfl (by rw [hz2]; omega) (by simp [maxLen]; omega) (by omega) ?_; intro w4 hown hg; rw [cellsS_made] at hown; have HO := Lib.hid hown; have K2 := Lib.hid (K1.out.grown hg (fun _ h => by cases h)); clear hown hg K1 x0 x1 x2 xl; obtain ⟨x0, x1, x2, xl, _⟩ := K2.out.sp)
    have hnl : (0 : Nat) ≤ c.xs.length := Nat.zero_le _
    go_loopw [4, 5, 16] (fun _ _ i wr => ∃ k : Nat, k ≤ c.xs.length ∧ i = .int .i64 k ∧ Hid (wr.ownsRow (w.heap.size + 1) 9 1 (.slice (some ⟨w3.heap.size, 0, none⟩) c.xs.length c.xs.length) c.xs.length (cellsOf encS ((c.xs.take k).map (·.nm) ++ List.replicate (c.xs.length - k) []))) ∧ Hid (KB1 w c wr)) (fun _ _ i _ => c.xs.length - (intOf i).toNat)
    case atStart => exact ⟨0, by omega, rfl, Lib.hid (by simpa using HO.out), K2⟩
    case round =>
      clear K2 HO hnl x0 x1 x2 xl
      obtain ⟨k, hk, rfl, hr, K⟩ := hrel
      by_cases hlt : k < c.xs.length
      · have i0 : (k : Int) < (c.xs.length : Int) := by omega
        obtain ⟨b, off, x, hI, hbl, hx1, _, hc0, hc1, hok⟩ := K.out.items.cells (j := k) hlt
        have hI2 : c.i = .slice (some ⟨b, off, none⟩) c.xs.length c.ni := by rw [← hI]
        rw [hI2]
        clear hI2
        have HNM := Lib.hid (map_take1 (·.nm) hx1)
        have hxn := (HF.out.2 x (List.mem_of_getElem? hx1)).1
        have HSC := Lib.hid fun W => strClone x.nm W (by omega)
        have HAL := Lib.hid fun o => (Below.refl wr.heap.size wr).alloc (Nat.le_refl _) o
        have hln : ((c.xs.take k).map (·.nm)).length = k := by rw [List.length_map, List.length_take]; omega
        clear hx1 hok hI hxn
        generalize (c.xs.take k).map (·.nm) = ns' at hr hln HNM ⊢
        subst hln
        go_wp2_with fail
        refine (HSC.out _).mono ?_
        rintro e w5 ⟨rfl, hb⟩
        have hb5 := below_trans (HAL.out _) hb
        have K5 := Lib.hid (K.out.next hb5)
        have ho5 : w5.ownsRow (w.heap.size + 1) 9 1 (.slice (some ⟨w3.heap.size, 0, none⟩) c.xs.length c.xs.length) c.xs.length (cellsOf encS (ns' ++ List.replicate (c.xs.length - ns'.length) [])) := hr.out.kept (grown_of_below hb5 none) (by simp [Value.ownBlock])
        obtain ⟨hs5, hg5⟩ := ho5.stored ns'.length (.string ⟨x.nm.toArray⟩)
        rw [cells_setS _ _ _ (by simp; omega), set_repS hlt] at hs5
        have d0 : ∃ u, w5.cell? ⟨w3.heap.size, ns'.length, none⟩ = some u := by
          rw [ho5.cellAt ns'.length (by omega)]
          exact ⟨_, List.getElem?_eq_getElem (by rw [cellsOf_length encS_len]; simp; omega)⟩
        obtain ⟨u0, d0⟩ := d0
        have f0 := ho5.frozenAt ns'.length
        have hlw : w3.heap.size < w5.heap.size := World.block_lt_of_cell? w5 _ d0
        have HOS := Lib.hid hs5
        have KS5 := Lib.hid (K5.out.grown hg5 (fun j hj => by cases hj; exact (ho5.lt _ rfl).1))
        clear hs5 hg5 ho5 hb hb5 K5 K hr
        go_wp2_with fail
        go_roundw
        case rel => exact ⟨ns'.length + 1, by omega, by go_num, by rw [HNM.out]; have h := HOS.out; rw [List.length_append, List.length_singleton] at h; exact h, KS5⟩
        case measure => simp [intOf]; omega
      · have i0 : ¬ (k : Int) < (c.xs.length : Int) := by omega
        obtain rfl : k = c.xs.length := by omega
        have h := hr.out
        rw [Nat.sub_self, List.replicate_zero, List.append_nil, List.take_length] at h
        have hh := HoldsS.of_own (show RowS wr (w.heap.size + 1) (.slice (some ⟨w3.heap.size, 0, none⟩) c.xs.length c.xs.length) (c.xs.map (·.nm)) from by show wr.ownsRow _ _ _ _ (c.xs.map (·.nm)).length _; rw [List.length_map]; exact h)
        have HH := Lib.hid hh
        have HB := Lib.hid K.out.bel
        clear hlt K hr h hh
        go_wp2_with fail
        go_ret
        exact ⟨⟨_, rfl, by rw [HE.out]; exact HH.out⟩, HB.out⟩

set_option maxRecDepth 100000 in
set_option maxHeartbeats 4000000 in
theorem caUnits (c : CaV) (u : Int) (w : World) (hc : CaOK w c) (hf : FitsK c) (hv : unitsC c.ca = u) :
    Calls Tryz.prog 22 #[mkC c] w (OneB (.int .i64 u) w) := by
  have K0 := Lib.hid (KB1.new w c hc)
  have HF := Lib.hid hf
  have hm := hf.1.1
  have HV := Lib.hid hv
  clear hc hf hv
  go_enter Tryz.func22, Tryz.ntmps22
  go_wp2_with fail
  go_step3
  generalize World.alloc w _ = w2 at K0 ⊢
  obtain ⟨x0, x1, x2, xl, _⟩ := K0.out.sp
  go_wp2_with fail
  go_step3
  go_wp2_with fail
  go_loopw [3, 5, 6, 7, 11, 20, 21] (fun s3 _ _ _ i _ _ wr => ∃ k : Nat, k ≤ c.xs.length ∧ i = .int .i64 k ∧ s3 = .int .i64 (sumQ ((its c.xs).take k)) ∧ Hid (∀ x ∈ (its c.xs).take k, (qtyI x).2 = 0) ∧ Hid (KB1 w c wr)) (fun _ _ _ _ i _ _ _ => c.xs.length - (intOf i).toNat)
  case atStart => exact ⟨0, by omega, rfl, rfl, Lib.hid (fun x h => by simp at h), K0⟩
  case round =>
    clear K0 x0 x1 x2 xl
    obtain ⟨k, hk, rfl, rfl, hz, K⟩ := hrel
    obtain ⟨x0, x1, x2, xl, _⟩ := K.out.sp
    by_cases hlt : k < c.xs.length
    · have i0 : (k : Int) < (c.xs.length : Int) := by omega
      obtain ⟨b, off, x, hI, hbl, hx1, _, hc0, hc1, hok⟩ := K.out.items.cells (j := k) hlt
      have hI2 : c.i = .slice (some ⟨b, off, none⟩) c.xs.length c.ni := by rw [← hI]
      rw [hI2]
      clear hI2
      obtain ⟨q, n, hq⟩ : ∃ q n, qtyI x.it = (q, n) := ⟨_, _, rfl⟩
      have hxf := HF.out.1.2 x (List.mem_of_getElem? hx1)
      have HQ := Lib.hid fun W (h : ItOK W x) => itQty x q n W h hxf.1 (by omega) hq
      have HAL := Lib.hid fun o => (Below.refl wr.heap.size wr).alloc (Nat.le_refl _) o
      have HOK := Lib.hid hok
      have hit := its_at hx1
      have HSN := Lib.hid (show (its c.xs).take (k + 1) = (its c.xs).take k ++ [x.it] from take_step hit)
      have hqs := qtyI_small x.it
      rw [hq] at hqs
      have hsm := sumQ_small ((its c.xs).take k)
      have hl2 : ((its c.xs).take k).length ≤ 100 := by rw [List.length_take]; omega
      have HNQ := Lib.hid (show sumQ ((its c.xs).take (k + 1)) = sumQ ((its c.xs).take k) + q from by rw [HSN.out, sumQ_snoc, hq])
      rcases Nat.eq_zero_or_pos n with rfl | hn
      · have HZ := Lib.hid (show ∀ z ∈ (its c.xs).take (k + 1), (qtyI z).2 = 0 from fun z h => by
          rw [HSN.out] at h
          rcases List.mem_append.1 h with h | h
          · exact hz.out z h
          · obtain rfl : z = x.it := by simpa using h
            rw [hq])
        generalize sumQ ((its c.xs).take k) = s at *
        generalize ((its c.xs).take k).length = lk at *
        clear hz hx1 hok hI hit hq hxf HSN
        go_wp2_with fail
        refine (HQ.out _ (HOK.out.below (HAL.out _))).mono ?_
        rintro e w5 ⟨rfl, hb⟩
        have K5 := Lib.hid (K.out.next (below_trans (HAL.out _) hb))
        clear hb x0 x1 x2 xl hc0 hc1 hbl
        go_wp2_with fail
        go_roundw
        case rel => exact ⟨k + 1, by omega, by go_num, by rw [HNQ.out], HZ, K5⟩
        case measure => simp [intOf]; omega
      · have ik : ((n : Int) == 0) = false := eqF (by omega)
        have HB := Lib.hid (show u = 0 from by
          have h1 := validK_bad (c := c.ca) (x := x.it) (List.mem_of_getElem? hit) (qtyI_err (by rw [hq]; show n ≠ 0; omega))
          rw [← HV.out]; unfold unitsC; rw [if_neg (by simp [h1])])
        have HVF := Lib.hid fun W (h : CaOK W c) => caValid c false W h HF.out (validK_bad (c := c.ca) (x := x.it) (List.mem_of_getElem? hit) (qtyI_err (by rw [hq]; show n ≠ 0; omega)))
        generalize sumQ ((its c.xs).take k) = s at *
        generalize ((its c.xs).take k).length = lk at *
        clear hz hx1 hok hI hit hq hxf HSN HNQ
        go_wp2_with fail
        refine (HQ.out _ (HOK.out.below (HAL.out _))).mono ?_
        rintro e w5 ⟨rfl, hb⟩
        have K5 := Lib.hid (K.out.next (below_trans (HAL.out _) hb))
        clear hb x0 x1 x2 xl hc0 hc1 hbl
        obtain ⟨x0, x1, x2, xl, _⟩ := K5.out.sp
        go_wp2_with fail
        refine (HVF.out _ K5.out.ok).mono ?_
        rintro e w6 ⟨rfl, hb⟩
        have KB := Lib.hid (K5.out.next hb).bel
        clear hb x0 x1 x2 xl K5
        go_wp2_with fail
        try rw [Exit.noGoto_ret]
        go_ret
        exact OneB.int HB.out.symm KB.out
    · have i0 : ¬ (k : Int) < (c.xs.length : Int) := by omega
      obtain rfl : k = c.xs.length := by omega
      obtain ⟨b, hb⟩ : ∃ b, validK c.ca = b := ⟨_, rfl⟩
      have HVF := Lib.hid fun W (h : CaOK W c) => caValid c b W h HF.out hb
      have HS := Lib.hid (show (if b = true then sumQ ((its c.xs).take c.xs.length) else 0) = u from by rw [← HV.out]; unfold unitsC; rw [hb, ← its_len c.xs, List.take_length]; rfl)
      clear hb hz
      generalize sumQ ((its c.xs).take c.xs.length) = s at *
      cases b with
      | false =>
        have HE := Lib.hid (show 0 = u from HS.out)
        clear HS
        go_wp2_with fail
        refine (HVF.out _ K.out.ok).mono ?_
        rintro e w6 ⟨rfl, hb⟩
        have KB := Lib.hid (K.out.next hb).bel
        clear hb x0 x1 x2 xl K
        go_wp2_with fail
        try rw [Exit.noGoto_ret]
        go_ret
        exact OneB.int HE.out KB.out
      | true =>
        have HE := Lib.hid (show s = u from HS.out)
        clear HS
        go_wp2_with fail
        refine (HVF.out _ K.out.ok).mono ?_
        rintro e w6 ⟨rfl, hb⟩
        have KB := Lib.hid (K.out.next hb).bel
        clear hb x0 x1 x2 xl K
        go_wp2_with fail
        try rw [Exit.noGoto_ret]
        go_ret
        exact OneB.int HE.out KB.out

end

section
open Go.RowKit

/-- Not too much for the program's Canon. -/
def FitsN (c : CaV) : Prop := Fits c.xs ∧ c.vs.length + c.ls.length + (marksX c.xs).length ≤ 1000
/-- What Canon returns: the cart, its rows of the call's own, or the error. -/
def CanP (B : Nat) (r : Option Ca) (e : Ending) (W : World) : Prop := match r with
  | none => e = .returned (.tuple #[.agg #[.slice none 0 0, .slice none 0 0, .slice none 0 0], .int .i64 2])
  | some d => ∃ k : CaV, e = .returned (.tuple #[mkC k, .int .i64 0]) ∧ k.ca = d ∧ RowC W B k.v k.vs ∧ RowC W B k.l k.ls ∧ OwnI W B k.i k.xs
theorem at_split {xs ys : List It} {f : It → It} {k : Nat} {y : It} (h : ys = (xs.take k).map f ++ xs.drop k) (hk : k ≤ xs.length) (hy : ys[k]? = some y) : xs[k]? = some y := by
  have hlk : ((xs.take k).map f).length = k := by rw [List.length_map, List.length_take]; omega
  rw [h, List.getElem?_append_right (by omega), hlk, Nat.sub_self, List.getElem?_drop, Nat.add_zero] at hy
  exact hy
theorem set_split {xs ys : List It} {f : It → It} {k : Nat} {x z : It} (h : ys = (xs.take k).map f ++ xs.drop k) (hx : xs[k]? = some x) (hz : z = f x) : ys.set k z = (xs.take (k + 1)).map f ++ xs.drop (k + 1) := by
  obtain ⟨hk, e⟩ := List.getElem?_eq_some_iff.1 hx
  have hlk : ((xs.take k).map f).length = k := by rw [List.length_map, List.length_take]; omega
  rw [h, List.set_append_right _ _ (by omega), hlk, Nat.sub_self, List.drop_eq_getElem_cons hk, List.set_cons_zero, take_step hx, List.map_append, hz]
  simp
theorem its_set (ys : List ItV) (k : Nat) (y : ItV) : its (ys.set k y) = (its ys).set k y.it := by unfold its; rw [List.map_set]
theorem holds_row {W : World} {B : Nat} {v : Value} {ds : List (Int × Int)} (h : RowC W B v ds) : Holds W v ds := by
  obtain ⟨A, c, rfl, h1, h2, h3⟩ := SlAt.of_own encD_len h
  exact ⟨A, c, rfl, h3, h1, h2⟩
theorem notdec {p : Prop} [Decidable p] (h : (!decide p) = false) : p := by simpa using h
theorem KR.ctx {w W : World} {c : CaV} (h : KR w c W) : HoldsC W (.agg #[c.v, c.l]) c.vs c.ls := h.kb.ok.ctx

set_option maxRecDepth 100000 in
set_option maxHeartbeats 8000000 in
theorem caCanon (c : CaV) (r : Option Ca) (w : World) (hc : CaOK w c) (hf : FitsN c) (hr : canonK c.ca = r) :
    Calls Tryz.prog 19 #[mkC c] w fun e w' => CanP w.heap.size r e w' ∧ Below w.heap.size w w' := by
  obtain ⟨tiS, hiS, hzS0, hzS1, hzS2⟩ := info_parts infoS
  obtain ⟨tiD, hiD, hzD0, hzD1, hzD2⟩ := info_parts infoD
  have K0 := Lib.hid (KR.new w c hc)
  have HF := Lib.hid hf
  have hm := hf.1.1
  have HR := Lib.hid hr
  have HL := Lib.hid (show ¬ LooseI (its c.xs) → r = none from fun h => by rw [← hr]; exact canonK_loose h)
  clear hc hf hr
  go_enter Tryz.func19, Tryz.ntmps19
  go_upto_region 1 with fail
  generalize World.alloc (World.alloc w _) _ = w2 at K0 ⊢
  obtain ⟨x0, x1, x2, xl, _⟩ := K0.out.kb.sp
  go_wp2_with fail
  refine (itCopyD_h _ c.xs w2 K0.out.items HF.out.1).mono ?_
  rintro e w3 ⟨v4, ys0, rfl, hys, ho, hap, hb⟩
  have hlen : ys0.length = c.xs.length := by rw [← its_len ys0, hys, its_len]
  obtain ⟨A0, d0, rfl, _⟩ := SlAt.of_own encIt_len ho.1
  have KI := Lib.hid (show KL w c w2.heap.size A0 d0 ys0 (.slice none 0 0) (.slice none 0 0) [] [] w3 from ⟨K0.out.next hb, ho, hap, World.ownsRow_nil _ _ _ _, World.ownsRow_nil _ _ _ _, K0.out.lt, hb.size⟩)
  rw [hlen]
  have HYS := Lib.hid hys
  clear hb ho hap hys K0 x0 x1 x2 xl
  go_wp2_with fail
  go_loopw [5, 6, 8, 16] (fun v5 v6 _ i wr => ∃ (k : Nat) (ys : List ItV), k ≤ c.xs.length ∧ ys.length = c.xs.length ∧ i = .int .i64 k ∧ Hid (its ys = ((its c.xs).take k).map ordI ++ (its c.xs).drop k) ∧ Hid (∀ x ∈ (its c.xs).take k, okI (ordI x) = true) ∧ Hid (KL w c w2.heap.size A0 d0 ys v5 v6 (((its c.xs).take k).map (·.1)) (metD ((its c.xs).take k)) wr)) (fun _ _ _ i _ => c.xs.length - (intOf i).toNat)
  case atStart => exact ⟨0, ys0, by omega, hlen, rfl, Lib.hid (by rw [HYS.out]; rfl), Lib.hid (fun x h => by simp at h), KI⟩
  case round =>
    clear KI hlen HYS
    obtain ⟨k, ys, hk, hyl, rfl, hys, hok, K⟩ := hrel
    by_cases hlt : k < c.xs.length
    · have i0 : (k : Int) < (c.xs.length : Int) := by omega
      have hky : k < ys.length := by omega
      obtain ⟨b, off, y, hI, hbl, hy1, _, hc0, hc1, hyk⟩ := K.out.items.cells (j := k) hky
      subst hI
      have hxk : (its c.xs)[k]? = some y.it := at_split hys.out (by rw [its_len]; omega) (its_at hy1)
      have hmem : y.it ∈ its c.xs := List.mem_of_getElem? hxk
      have hxf : y.nm.length ≤ 1000 ∧ y.ms.length ≤ 100 := by
        obtain ⟨z, hz, e⟩ := List.mem_map.1 hmem
        have := HF.out.1.2 z hz
        have e1 : z.nm = y.nm := congrArg Prod.fst e
        have e2 : z.ms = y.ms := congrArg Prod.snd e
        rw [← e1, ← e2]; exact this
      have HSO := Lib.hid fun W (h : RowM W w2.heap.size (slV y) y.ms) => sortMarksF (slV y) w2.heap.size y.ms W h (by omega)
      have KA := Lib.hid (K.out.alloc (.cells #[.string ⟨y.nm.toArray⟩, .slice y.A y.ms.length y.c] 56))
      have BA := Lib.hid (BlkI.new wr y)
      have HY1 := Lib.hid hy1
      have HXK := Lib.hid hxk
      have HMEM := Lib.hid hmem
      clear hyk K hy1 hxk hmem
      have b0 := BA.out.cell0
      have b1 := BA.out.cell1
      go_wp2_with fail
      refine (HSO.out _ (KA.out.own.2 y (List.mem_of_getElem? HY1.out))).mono ?_
      rintro e w5 ⟨rfl, ms, hp, hso, hrow, hg⟩
      have hml : ms.length = y.ms.length := hp.length_eq
      have K5 := Lib.hid (KA.out.sort HY1.out hg hrow hml)
      have B5 := Lib.hid (show BlkI w5 wr.heap.size ⟨y.nm, y.A, y.c, ms⟩ from by
        have h := blk_typed BA.out (KA.out.own.2 y (List.mem_of_getElem? HY1.out)) (by decide) hg
        unfold BlkI
        rw [h, hml])
      have hmy : (⟨y.nm, y.A, y.c, ms⟩ : ItV) ∈ ys.set k ⟨y.nm, y.A, y.c, ms⟩ := List.mem_of_getElem? (by rw [List.getElem?_set_self hky])
      have hoky : ItOK w5 ⟨y.nm, y.A, y.c, ms⟩ := RowM.ok (K5.out.own.2 _ hmy)
      obtain ⟨ok, hoe⟩ : ∃ ok, okI (y.nm, ms) = ok := ⟨_, rfl⟩
      have hoo : okI (ordI y.it) = ok := by rw [← hoe]; exact (okI_sorted hso hp).symm
      have HVA := Lib.hid (holdsA w5 w5.heap.size ⟨y.nm, y.A, y.c, ms⟩ rfl hoky)
      have HVV := Lib.hid fun W v (h : HoldsX W v [⟨y.nm, y.A, y.c, ms⟩]) => itValid_h v [⟨y.nm, y.A, y.c, ms⟩] ok W h ⟨by simp, fun z hz => by simp at hz; subst hz; exact ⟨hxf.1, by show ms.length ≤ 100; omega⟩⟩ (by show validL [(y.nm, ms)] = ok; rw [validL_single]; exact hoe)
      have HMY := Lib.hid hmy
      have HML := Lib.hid hml
      have b0 := B5.out.cell0
      have b1 := B5.out.cell1
      have bl := B5.out.lt
      have HAL := Lib.hid fun o => (Below.refl w5.heap.size w5).alloc (Nat.le_refl _) o
      have hm100 : ms.length ≤ 100 := by omega
      have HP := Lib.hid hp
      have HSS := Lib.hid hso
      have HOE := Lib.hid hoe
      have HOO := Lib.hid hoo
      clear hg hrow hmy hoky hoe hoo hml hp hso KA BA HSO hc0 hc1 hbl
      go_wp2_with fail
      refine (HVV.out _ _ HVA.out).mono ?_
      rintro e w7 ⟨rfl, hb⟩
      have K7 := Lib.hid (K5.out.next (below_trans (HAL.out _) hb))
      have B7 := Lib.hid (B5.out.below (below_trans (HAL.out _) hb))
      clear hb K5 B5 b0 b1 bl HVA HVV
      cases ok with
      | false =>
        obtain rfl : r = none := HL.out fun h => by have := h.1 y.it HMEM.out; rw [HOO.out] at this; cases this
        obtain ⟨r0, r1, r2, t0, t1, t2, hrl⟩ := KR.cells K7.out.kr
        have HST := Lib.hid (KR.stored K7.out.kr (.slice none 0 0) (.slice none 0 0) (.slice none 0 0))
        clear hys hok
        go_wp2_with fail
        refine bodyPost_ret (v := .tuple #[.agg #[.slice none 0 0, .slice none 0 0, .slice none 0 0], .int .i64 2]) (by simp [results, Tryz.results19, go_sem, r0, r1, r2]) rfl ⟨rfl, HST.out⟩
      | true =>
        have b0 := B7.out.cell0
        have b1 := B7.out.cell1
        have bl := B7.out.lt
        have e1 : ms = sortM y.ms := congrArg Prod.snd (ord_sorted (x := y.it) HSS.out HP.out HOE.out)
        have HNS := Lib.hid (show ((its c.xs).take (k + 1)).map (·.1) = ((its c.xs).take k).map (·.1) ++ [y.nm] from by rw [take_step HXK.out, List.map_append]; rfl)
        have HDS := Lib.hid (show metD ((its c.xs).take (k + 1)) = metD ((its c.xs).take k) ++ dotsM ms from by rw [take_step HXK.out, metD_snoc, e1]; rfl)
        have HYN := Lib.hid (show its (ys.set k ⟨y.nm, y.A, y.c, ms⟩) = ((its c.xs).take (k + 1)).map ordI ++ (its c.xs).drop (k + 1) from by rw [its_set]; exact set_split hys.out HXK.out (ord_sorted (x := y.it) HSS.out HP.out HOE.out))
        have HON := Lib.hid (show ∀ x ∈ (its c.xs).take (k + 1), okI (ordI x) = true from fun x hx => by
          rw [take_step HXK.out] at hx
          rcases List.mem_append.1 hx with h | h
          · exact hok.out x h
          · obtain rfl : x = y.it := by simpa using h
            exact HOO.out)
        have hnl : (((its c.xs).take k).map (·.1)).length ≤ 100 := by rw [List.length_map, List.length_take]; omega
        have hdl : (metD ((its c.xs).take k)).length ≤ 1000 := by
          rw [metD_len]
          have h1 : (((its c.xs).take k).flatMap (·.2)).length ≤ (marksX c.xs).length := by
            rw [← marksX_its]
            have h2 := List.take_append_drop k (its c.xs)
            have h3 := congrArg (fun l : List It => (l.flatMap (·.2)).length) h2
            simp only [List.flatMap_append, List.length_append] at h3
            omega
          have := HF.out.2
          omega
        clear e1 hys hok
        generalize ((its c.xs).take k).map (·.1) = ns at K7 HNS hnl
        generalize metD ((its c.xs).take k) = ds at K7 HDS hdl
        have KB := Lib.hid (K7.out.alloc (.cells #[.string ⟨y.nm.toArray⟩] 9))
        have BB := Lib.hid (B7.out.below ((Below.refl _ _).alloc (Nat.le_refl _) (.cells #[.string ⟨y.nm.toArray⟩] 9)))
        have hbB := KB.out.bB
        clear K7 B7
        go_wp2_with (at_builtin; refine wpList_append_sl _ encS 1 rfl (.tmp 28) (.tmp 31) 41 rfl encS_len (by omega) encS_one w2.heap.size 9 tiS _ 16 Tryz.underlying41 hiS hzS0 hzS1 hzS2 rfl _ ns rfl KB.out.rs _ 1 _ [y.nm] rfl rfl (SlAt.one (t := 9) (heap_alloc_new w7 _)) (by simp [maxLen]; omega) (by simp; omega) hbB ?_; intro v1 w8 hown hg hat; have K8 := Lib.hid (KB.out.names hg hown); have B8 := Lib.hid (show BlkI w8 wr.heap.size ⟨y.nm, y.A, y.c, ms⟩ from blk_typed BB.out KB.out.rs (by decide) hg); clear hown hg hat; have s0 := B8.out.cell0; have s1 := B8.out.cell1; have sl := B8.out.lt)
        refine (qtyDots y.A ms y.c w8 (RowM.ok (K8.out.own.2 _ HMY.out)).1 (by omega)).mono ?_
        rintro e w9 ⟨⟨vd, rfl, hvd⟩, hb⟩
        obtain ⟨D, dc, rfl, hD, _, _⟩ := hvd
        have K9 := Lib.hid (K8.out.next hb)
        have hbB9 := K9.out.bB
        have HD := Lib.hid hD
        have hdm : (dotsM ms).length ≤ 100 := by rw [dotsM_len]; omega
        clear hb hD s0 s1 sl K8 B8 b0 b1 bl hbB
        go_wp2_with (at_builtin; refine wpList_append_sl _ encD 2 rfl (.tmp 33) (.tmp 36) 22 rfl encD_len (by omega) encD_one w2.heap.size 63 tiD _ 16 Tryz.underlying22 hiD hzD0 hzD1 hzD2 rfl _ ds rfl K9.out.rd _ _ _ (dotsM ms) rfl rfl HD.out (by simp [maxLen]; omega) (by omega) hbB9 ?_; intro v1' w10 hown hg hat; have K10 := Lib.hid (K9.out.dots hg hown); clear hown hg hat)
        go_roundw
        case rel => exact ⟨k + 1, _, by omega, by rw [List.length_set]; exact hyl, by go_num, HYN, HON, (show Hid _ from by rw [HNS.out, HDS.out]; exact K10.out)⟩
        case measure => simp [intOf]; omega
    · have i0 : ¬ (k : Int) < (c.xs.length : Int) := by omega
      obtain rfl : k = c.xs.length := by omega
      have htk : (its c.xs).take c.xs.length = its c.xs := by rw [← its_len c.xs, List.take_length]
      have HOK := Lib.hid (show ∀ x ∈ its c.xs, okI (ordI x) = true from by have h := hok.out; rw [htk] at h; exact h)
      have HYS := Lib.hid (show its ys = (its c.xs).map ordI from by rw [hys.out, htk, ← its_len c.xs, List.drop_length, List.append_nil])
      rw [htk] at K
      have hnl : ∀ x ∈ (its c.xs).map (·.1), x.length ≤ 1000000 := fun x hx => by
        obtain ⟨z, hz, rfl⟩ := List.mem_map.1 hx
        obtain ⟨z', hz', rfl⟩ := List.mem_map.1 hz
        have := (HF.out.1.2 z' hz').1
        show z'.nm.length ≤ _
        omega
      have hnn : ((its c.xs).map (·.1)).length ≤ 100000 := by rw [List.length_map, its_len]; omega
      have hdl : (metD (its c.xs)).length ≤ (marksX c.xs).length := by rw [metD_len, marksX_its]; exact Nat.le_refl _
      have hdv := metD_valid HOK.out
      have hd2 := HF.out.2
      obtain ⟨p, hp⟩ : ∃ p, (!decide ((its c.xs).map (·.1)).Nodup) = p := ⟨_, rfl⟩
      obtain ⟨q, hq⟩ : ∃ q, (!decide (metD (its c.xs)).Nodup) = q := ⟨_, rfl⟩
      have HTS := Lib.hid fun v W (h : HoldsS W v ((its c.xs).map (·.1))) => twiceS_h v _ p W h hnn hnl hp
      have HTD := Lib.hid fun v W (h : Holds W v (metD (its c.xs))) => twiceD_h v _ q W h (by omega) hdv hq
      have HPP := Lib.hid hp
      have HQQ := Lib.hid hq
      have hdo : okL (metD (its c.xs)) = true := by unfold okL; rw [List.all_eq_true]; exact hdv
      obtain ⟨vc, hvc⟩ : ∃ vc, validC c.vs c.ls = vc := ⟨_, rfl⟩
      have HCA := Lib.hid fun v x W (h : HoldsC W v c.vs c.ls) (hx : Holds W x (metD (its c.xs))) => ctxAdd v x c.vs c.ls (metD (its c.xs)) W h hx (by omega)
      obtain ⟨us, hus⟩ : ∃ us, (addC c.vs c.ls (metD (its c.xs))).1 = us := ⟨_, rfl⟩
      obtain ⟨rs, hrs⟩ : ∃ rs, (addC c.vs c.ls (metD (its c.xs))).2 = rs := ⟨_, rfl⟩
      rw [hvc, hdo, Bool.and_true, hus, hrs] at HCA
      have HAD := Lib.hid (show addC c.vs c.ls (metD (its c.xs)) = (us, rs) from Prod.ext hus hrs)
      clear hus hrs
      have HVC := Lib.hid hvc
      clear hlt hk hys hok htk hnl hnn hdl hdv hd2 hp hq hdo hvc
      cases p with
      | true =>
        obtain rfl : r = none := HL.out fun h => by
          have h1 := ((loose_iff HOK.out).1 h).1
          have h2 := HPP.out
          rw [decide_eq_true h1] at h2; cases h2
        go_wp2_with fail
        refine (HTS.out _ _ (HoldsS.of_own K.out.rs)).mono ?_
        rintro e w5 ⟨rfl, hb⟩
        have K5 := Lib.hid (K.out.next hb)
        clear hb K
        obtain ⟨r0, r1, r2, t0, t1, t2, hrl⟩ := KR.cells K5.out.kr
        have HST := Lib.hid (KR.stored K5.out.kr (.slice none 0 0) (.slice none 0 0) (.slice none 0 0))
        clear HTS
        go_wp2_with fail
        refine bodyPost_ret (v := .tuple #[.agg #[.slice none 0 0, .slice none 0 0, .slice none 0 0], .int .i64 2]) (by simp [results, Tryz.results19, go_sem, r0, r1, r2]) rfl ⟨rfl, HST.out⟩
      | false =>
        go_wp2_with fail
        refine (HTS.out _ _ (HoldsS.of_own K.out.rs)).mono ?_
        rintro e w5 ⟨rfl, hb⟩
        have K5 := Lib.hid (K.out.next hb)
        clear hb K
        go_wp2_with fail
        refine (HTD.out _ _ (holds_row K5.out.rd)).mono ?_
        rintro e w6 ⟨rfl, hb⟩
        have K6 := Lib.hid (K5.out.next hb)
        clear hb K5
        cases q with
        | true =>
          obtain rfl : r = none := HL.out fun h => by
            have h1 := ((loose_iff HOK.out).1 h).2
            have h2 := HQQ.out
            rw [decide_eq_true h1] at h2; cases h2
          obtain ⟨r0, r1, r2, t0, t1, t2, hrl⟩ := KR.cells K6.out.kr
          have HST := Lib.hid (KR.stored K6.out.kr (.slice none 0 0) (.slice none 0 0) (.slice none 0 0))
          clear HTS
          go_wp2_with fail
          refine bodyPost_ret (v := .tuple #[.agg #[.slice none 0 0, .slice none 0 0, .slice none 0 0], .int .i64 2]) (by simp [results, Tryz.results19, go_sem, r0, r1, r2]) rfl ⟨rfl, HST.out⟩
        | false =>
          obtain ⟨x0, x1, x2, xl, _⟩ := K6.out.kr.kb.sp
          go_wp2_with fail
          refine (HCA.out _ _ _ K6.out.kr.ctx (holds_row K6.out.rd)).mono ?_
          rintro e w7 ⟨⟨hT, hF⟩, hb⟩
          have K7 := Lib.hid (K6.out.next hb)
          have K6B := Lib.hid K6.out.bB
          clear K6 x0 x1 x2 xl
          cases vc with
          | false =>
            obtain rfl : r = none := by rw [← HR.out]; exact canonK_ctx HVC.out
            obtain rfl := hF rfl
            have K8 := Lib.hid (K7.out.alloc (.cells #[.slice none 0 0, .slice none 0 0] 25))
            clear hT hF hb K7
            obtain ⟨r0, r1, r2, t0, t1, t2, hrl⟩ := KR.cells K8.out.kr
            have HST := Lib.hid (KR.stored K8.out.kr (.slice none 0 0) (.slice none 0 0) (.slice none 0 0))
            clear HTS
            go_wp2_with fail
            refine bodyPost_ret (v := .tuple #[.agg #[.slice none 0 0, .slice none 0 0, .slice none 0 0], .int .i64 2]) (by simp [results, Tryz.results19, go_sem, r0, r1, r2]) rfl ⟨rfl, HST.out⟩
          | true =>
            obtain ⟨x, y, rfl, hx, hy⟩ := hT rfl
            have hbB := K6B.out
            have rx := Lib.hid (show RowC w7 w2.heap.size x us from Joins.ownsRow_le hx.1 hbB)
            have ry := Lib.hid (show RowC w7 w2.heap.size y rs from Joins.ownsRow_le hy.1 hbB)
            clear hx hy hT hF hb
            obtain ⟨A1, n1, rfl, _, _, _⟩ := SlAt.of_own encD_len rx.out
            obtain ⟨A2, n2, rfl, _, _, _⟩ := SlAt.of_own encD_len ry.out
            have HAL := Lib.hid ((Below.refl w7.heap.size w7).alloc (Nat.le_refl _) (.cells #[.slice A1 us.length n1, .slice A2 rs.length n2] 25))
            have K8 := Lib.hid (K7.out.next HAL.out)
            have BX := Lib.hid (heap_alloc_new w7 (.cells #[.slice A1 us.length n1, .slice A2 rs.length n2] 25))
            have HIT := Lib.hid (show RowT (w7.alloc (.cells #[.slice A1 us.length n1, .slice A2 rs.length n2] 25)) w2.heap.size (.slice A0 c.xs.length d0) ys from by rw [← hyl]; exact K8.out.own.1)
            go_wp2_with fail
            refine (sortItemsF _ w2.heap.size ys _ HIT.out (by omega)).mono ?_
            rintro e w9 ⟨rfl, ws, hpw, hsw, hrw, hg9⟩
            have hwl : ws.length = c.xs.length := by rw [hpw.length_eq]; exact hyl
            have KR9 := Lib.hid (K8.out.kr.far hg9 fun j hj => by have := (HIT.out.lt j hj).1; have := K8.out.hB; omega)
            have HO9 := Lib.hid (show OwnI w9 w2.heap.size (.slice A0 ws.length d0) ws from ⟨by rw [hwl]; exact hrw, fun z hz => keep_typed (K8.out.own.2 z (hpw.mem_iff.1 hz)) HIT.out (by decide) hg9⟩)
            have RX := Lib.hid (show RowC w9 w2.heap.size (.slice A1 us.length n1) us from keep_typed (row_below rx.out HAL.out) HIT.out (by decide) hg9)
            have RY := Lib.hid (show RowC w9 w2.heap.size (.slice A2 rs.length n2) rs from keep_typed (row_below ry.out HAL.out) HIT.out (by decide) hg9)
            obtain ⟨_, q0, q1, g0, g1, ql⟩ := box2_kept (Below.refl _ w9) (blk_typed BX.out HIT.out (by decide) hg9)
            have hrr : r = some ((us, rs), its ws) := by
              rw [← HR.out, canonK_prog (ws := its ws) HVC.out HOK.out (notdec HPP.out) (notdec HQQ.out) (show (its ws).Perm ((its c.xs).map ordI) from by rw [← HYS.out]; exact hpw.map _) (by unfold its; rw [List.pairwise_map]; exact hsw)]
              rw [show addC c.ca.1.1 c.ca.1.2 (metD c.ca.2) = (us, rs) from HAD.out]
            have HRR := Lib.hid hrr
            have hbw : w.heap.size ≤ w2.heap.size := by have := K8.out.hB; omega
            obtain ⟨r0, r1, r2, t0, t1, t2, hrl⟩ := KR.cells KR9.out
            have hres := KR9.out.res
            have HD := Lib.hid (show RowC (((w9.setCell ⟨w.heap.size + 1, 0, none⟩ (.slice A1 us.length n1)).setCell ⟨w.heap.size + 1, 1, none⟩ (.slice A2 rs.length n2)).setCell ⟨w.heap.size + 1, 2, none⟩ (.slice A0 c.xs.length d0)) w.heap.size (.slice A1 us.length n1) us from Joins.ownsRow_le (row_set3 RX.out hres (by decide)) hbw)
            have HE := Lib.hid (show RowC (((w9.setCell ⟨w.heap.size + 1, 0, none⟩ (.slice A1 us.length n1)).setCell ⟨w.heap.size + 1, 1, none⟩ (.slice A2 rs.length n2)).setCell ⟨w.heap.size + 1, 2, none⟩ (.slice A0 c.xs.length d0)) w.heap.size (.slice A2 rs.length n2) rs from Joins.ownsRow_le (row_set3 RY.out hres (by decide)) hbw)
            have HI := Lib.hid (show OwnI (((w9.setCell ⟨w.heap.size + 1, 0, none⟩ (.slice A1 us.length n1)).setCell ⟨w.heap.size + 1, 1, none⟩ (.slice A2 rs.length n2)).setCell ⟨w.heap.size + 1, 2, none⟩ (.slice A0 c.xs.length d0)) w.heap.size (.slice A0 ws.length d0) ws from OwnI.le ⟨row_set3 HO9.out.1 hres (by decide), fun z hz => row_set3 (HO9.out.2 z hz) hres (by decide)⟩ hbw)
            have HB := Lib.hid (KR9.out.stored (.slice A1 us.length n1) (.slice A2 rs.length n2) (.slice A0 c.xs.length d0))
            clear hpw hsw hrw hg9 hrr hres K7 K8 KR9 HIT hbB
            go_wp2_with fail
            refine bodyPost_ret (v := .tuple #[mkC ⟨A1, n1, us, A2, n2, rs, A0, d0, ws⟩, .int .i64 0]) (by simp [results, Tryz.results19, go_sem, r0, r1, r2, hwl]) rfl ⟨?_, HB.out⟩
            rw [HRR.out]
            exact ⟨⟨A1, n1, us, A2, n2, rs, A0, d0, ws⟩, rfl, rfl, HD.out, HE.out, HI.out⟩

end

end Go.Proofs.YtfmhhmceoikgpaaGreat
