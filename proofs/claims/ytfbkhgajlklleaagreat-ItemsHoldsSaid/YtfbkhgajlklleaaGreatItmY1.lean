/- The laws ItemsValid and ItemsRemoves. -/
import Derived.Test.YtfbkhgajlklleaaGreatItmX
namespace Go.Proofs.YtfbkhgajlklleaaGreat
open Go.RowKit

theorem Fits.of_its {xs ys : List ItV} (h : its ys = its xs) (hf : Fits xs) : Fits ys := by
  refine ⟨by rw [← its_len ys, h, its_len]; exact hf.1, fun y hy => ?_⟩
  have hm : y.it ∈ its xs := by rw [← h]; exact List.mem_map.2 ⟨y, hy, rfl⟩
  obtain ⟨x, hx, e⟩ := List.mem_map.1 hm
  have e1 : x.nm = y.nm := congrArg Prod.fst e
  have e2 : x.ms = y.ms := congrArg Prod.snd e
  rw [← e1, ← e2]
  exact hf.2 x hx
theorem len_of_its {xs ys : List ItV} (h : its ys = its xs) : ys.length = xs.length := by rw [← its_len ys, h, its_len]
theorem Fits.le {xs : List ItV} (h : Fits xs) : xs.length ≤ 100000 := Nat.le_trans h.1 (by decide)
theorem Fits.nam {xs : List ItV} (h : Fits xs) : ∀ x ∈ xs, x.nm.length ≤ 100000 := fun x hx => Nat.le_trans (h.2 x hx).1 (by decide)
theorem Fits.mar {xs : List ItV} (h : Fits xs) : ∀ x ∈ xs, x.ms.length ≤ 100000 := fun x hx => Nat.le_trans (h.2 x hx).2 (by decide)

set_option maxRecDepth 100000 in
set_option maxHeartbeats 8000000 in
theorem lawValid9 (v u : Value) (xs ys : List ItV) (w : World) (h : HoldsX w v xs) (k : HoldsX w u ys) : Calls Tryz.prog 3 #[v, u] w (TrueB w) := by
  have HA := Lib.hid h
  have HB := Lib.hid k
  have K0 := Lib.hid (Below.refl w.heap.size w)
  clear h k
  obtain ⟨b1, hb1⟩ : ∃ b, lightX xs = b := ⟨_, rfl⟩
  obtain ⟨b2, hb2⟩ : ∃ b, lightX ys = b := ⟨_, rfl⟩
  have L1 := Lib.hid (lawLight v xs b1 w HA.out hb1)
  have L2 := Lib.hid (lawLight u ys b2 w HB.out hb2)
  go_enter Tryz.func3, Tryz.ntmps3
  go_wp2_with fail
  refine (L1.out).mono ?_
  rintro e wq ⟨rfl, rfl⟩
  cases b1 with
  | false =>
    go_wp2_with fail
    refine (known9 _).mono ?_
    rintro e wz ⟨rfl, hb⟩
    have KZZ := Lib.hid (below_trans K0.out hb)
    clear hb K0
    go_wp2_with fail
    go_ret
    exact ⟨rfl, KZZ.out⟩
  | true =>
    go_wp2_with fail
    refine (L2.out).mono ?_
    rintro e wq ⟨rfl, rfl⟩
    cases b2 with
    | false =>
      go_wp2_with fail
      refine (known9 _).mono ?_
      rintro e wz ⟨rfl, hb⟩
      have KZZ := Lib.hid (below_trans K0.out hb)
      clear hb K0
      go_wp2_with fail
      go_ret
      exact ⟨rfl, KZZ.out⟩
    | true =>
      have F1 := Lib.hid (lightX_fits hb1).1
      have F2 := Lib.hid (lightX_fits hb2).1
      obtain ⟨p, hp⟩ : ∃ b, validL (its xs) = b := ⟨_, rfl⟩
      obtain ⟨q, hq⟩ : ∃ b, decide (its xs = its ys) = b := ⟨_, rfl⟩
      have HP := Lib.hid hp
      have HQ := Lib.hid hq
      have pp : (p != p) = false := by simp
      have qq : (q != q) = false := by simp
      clear hp hq hb1 hb2 L1 L2
      go_wp2_with fail
      refine (itValid_h v xs p w (HA.out.below K0.out) F1.out HP.out).mono ?_
      rintro e w1 ⟨rfl, hb⟩
      have K1 := Lib.hid (below_trans K0.out hb)
      clear hb K0
      go_wp2_with fail
      refine (refValid_h v xs p w1 (HA.out.below K1.out) F1.out HP.out).mono ?_
      rintro e w2 ⟨rfl, hb⟩
      have K2 := Lib.hid (below_trans K1.out hb)
      clear hb K1
      go_wp2_with fail
      refine (itEqual_h v u xs ys q w2 (HA.out.below K2.out) (HB.out.below K2.out) F1.out.le F2.out.le HQ.out).mono ?_
      rintro e w3 ⟨rfl, hb⟩
      have K3 := Lib.hid (below_trans K2.out hb)
      clear hb K2
      go_wp2_with fail
      refine (refEqual_h v u xs ys q w3 (HA.out.below K3.out) (HB.out.below K3.out) F1.out.le F2.out.le HQ.out).mono ?_
      rintro e w4 ⟨rfl, hb⟩
      have K4 := Lib.hid (below_trans K3.out hb)
      clear hb K3
      go_wp2_with fail
      refine (itEqual_h v v xs xs true w4 (HA.out.below K4.out) (HA.out.below K4.out) F1.out.le F1.out.le (decide_eq_true rfl)).mono ?_
      rintro e w5 ⟨rfl, hb⟩
      have K5 := Lib.hid (below_trans K4.out hb)
      clear hb K4
      go_wp2_with fail
      refine (itCopy_h v xs w5 (HA.out.below K5.out) F1.out).mono ?_
      rintro e w6 ⟨v1, ys1, rfl, hy1, ho1, hb⟩
      have K6 := Lib.hid (below_trans K5.out hb)
      have HY1 := Lib.hid hy1
      have HO1 := Lib.hid ho1.holds
      have F3 := Lib.hid (Fits.of_its hy1 F1.out)
      clear hb K5 hy1 ho1
      go_wp2_with fail
      have K6x := K6
      have HX1 := Lib.hid (Below.refl w6.heap.size w6)
      clear K6x
      refine (refEqual_h v1 v ys1 xs true w6 (HO1.out.below HX1.out) (HA.out.below K6.out) F3.out.le F1.out.le (decide_eq_true HY1.out)).mono ?_
      rintro e w7 ⟨rfl, hb⟩
      have K7 := Lib.hid (below_trans K6.out hb)
      have HX2 := Lib.hid (below_trans HX1.out hb)
      clear hb K6 HX1
      go_wp2_with fail
      have HX1 := HX2
      clear HX2
      have HW := Lib.hid (HO1.out.below HX1.out)
      refine (itCopy_h v1 ys1 w7 HW.out F3.out).mono ?_
      rintro e w8 ⟨v2, ys2, rfl, hy2, ho2, hb⟩
      have K8 := Lib.hid (below_trans K7.out hb)
      have HO2 := Lib.hid ho2
      have F4 := Lib.hid (Fits.of_its hy2 F3.out)
      have KB := Lib.hid hb
      have KC := K7
      clear hb K7 hy2 ho2 HX1
      go_wp2_with fail
      refine (lawSpoil v2 w7.heap.size ys2 w8 HO2.out F4.out.le F4.out.nam).mono ?_
      rintro e w9 ⟨rfl, hb⟩
      have hbb : Below w7.heap.size w7 w9 := KB.out.trans hb
      have K9 := Lib.hid (below_trans KC.out hbb)
      have HV := Lib.hid (HW.out.below hbb)
      clear hb hbb KC KB HW K8
      go_wp2_with fail
      have HVV := HV
      refine (refEqual_h v1 v ys1 xs true w9 HV.out (HA.out.below K9.out) F3.out.le F1.out.le (decide_eq_true HY1.out)).mono ?_
      rintro e w10 ⟨rfl, hb⟩
      have K10 := Lib.hid (below_trans K9.out hb)
      clear hb K9
      go_wp2_with fail
      refine (known9 _).mono ?_
      rintro e wz ⟨rfl, hb⟩
      have KZZ := Lib.hid (below_trans K10.out hb)
      clear hb K10
      go_wp2_with fail
      go_ret
      exact ⟨rfl, KZZ.out⟩

theorem findIdx_cases (l : List It) (nm : List UInt8) : (∃ (k : Nat) (x : It), l[k]? = some x ∧ (x.1 == nm) = true ∧ findZ l nm = (k : Int) ∧ findV l nm = (x, 0)) ∨ ((∀ y ∈ l, y.1 ≠ nm) ∧ findZ l nm = -1 ∧ findV l nm = (([], []), 9)) := by
  cases h : l.findIdx? (fun x => x.1 == nm) with
  | none =>
    rw [List.findIdx?_eq_none_iff] at h
    have hn : ∀ (j : Nat) (y : It), j < l.length → l[j]? = some y → (y.1 == nm) = false := fun j y _ hy => h y (List.mem_of_getElem? hy)
    exact .inr ⟨fun y hy e => by have := h y hy; rw [e] at this; simp at this, findZ_none hn, findV_none hn⟩
  | some k =>
    obtain ⟨hk, h1, h2⟩ := List.findIdx?_eq_some_iff_getElem.1 h
    have hx := List.getElem?_eq_getElem hk
    have hb : ∀ (j : Nat) (y : It), j < k → l[j]? = some y → (y.1 == nm) = false := fun j y hj hy => by
      obtain ⟨hjl, rfl⟩ := List.getElem?_eq_some_iff.1 hy
      have := h2 j hj
      simpa using this
    exact .inl ⟨k, l[k], hx, h1, findZ_some hx h1 hb, findV_some hx h1 hb⟩
theorem find_cases (xs : List ItV) (nm : List UInt8) : (∃ (k : Nat) (x : ItV), xs[k]? = some x ∧ (x.nm == nm) = true ∧ findZ (its xs) nm = (k : Int) ∧ findV (its xs) nm = (x.it, 0)) ∨ ((∀ y ∈ its xs, y.1 ≠ nm) ∧ findZ (its xs) nm = -1 ∧ findV (its xs) nm = (([], []), 9)) := by
  rcases findIdx_cases (its xs) nm with ⟨k, x, h1, h2, h3, h4⟩ | h
  · rw [List.getElem?_map] at h1
    cases hx : xs[k]? with
    | none => rw [hx] at h1; simp at h1
    | some y =>
      rw [hx] at h1
      have e : y.it = x := by simpa using h1
      subst e
      exact .inl ⟨k, y, hx, h2, h3, h4⟩
  · exact .inr h
theorem rem_shorter {l : List It} {nm : List UInt8} {x : It} (hx : x ∈ l) (h : (x.1 == nm) = true) : (remN l nm).length ≠ l.length := fun e => by
  have hs : remN l nm = l := List.filter_sublist.eq_of_length e
  have hm : x ∈ remN l nm := by rw [hs]; exact hx
  rw [mem_remN] at hm
  exact hm.2 (by simpa using h)
theorem delN_some {l : List It} {nm : List UInt8} {x : It} (hv : validL l = true) (hx : x ∈ l) (h : (x.1 == nm) = true) : delN l nm = (remN l nm, 0) := by
  unfold delN; rw [if_pos hv, if_neg (rem_shorter hx h)]
theorem delN_none {l : List It} {nm : List UInt8} (hv : validL l = true) (h : ∀ y ∈ l, y.1 ≠ nm) : delN l nm = ([], 9) := by
  unfold delN; rw [if_pos hv, if_pos (by rw [rem_same h])]
theorem delN_bad {l : List It} {nm : List UInt8} (hv : validL l = false) : delN l nm = ([], 2) := by
  unfold delN; rw [if_neg (by rw [hv]; simp)]
theorem refFind_h (v : Value) (xs : List ItV) (nm : List UInt8) (z : Int) (w : World) (h : HoldsX w v xs) (hm : xs.length ≤ 100000) (hz : findZ (its xs) nm = z) : Calls Tryz.prog 17 #[v, .string ⟨nm.toArray⟩] w (One (.int .i64 z) w) := by
  obtain ⟨A, c, rfl, h1, _⟩ := h
  exact refFind9 A xs c nm z w h1 hm hz
theorem refRemove_h (v : Value) (xs : List ItV) (nm : List UInt8) (w : World) (h : HoldsX w v xs) (hm : xs.length ≤ 100000) : Calls Tryz.prog 34 #[v, .string ⟨nm.toArray⟩] w fun e w' => (∃ v, e = .returned v ∧ HoldsX w' v (remX xs nm)) ∧ Below w.heap.size w w' := by
  obtain ⟨A, c, rfl, h1, _⟩ := h
  exact refRemove9 A xs c nm w h1 hm

set_option maxRecDepth 100000 in
set_option maxHeartbeats 8000000 in
theorem lawRemoves9 (v : Value) (xs : List ItV) (nm : List UInt8) (w : World) (h : HoldsX w v xs) : Calls Tryz.prog 6 #[v, .string ⟨nm.toArray⟩] w (TrueB w) := by
  have HA := Lib.hid h
  have K0 := Lib.hid (Below.refl w.heap.size w)
  clear h
  have hsz := size_mk nm
  obtain ⟨b1, hb1⟩ : ∃ b, lightX xs = b := ⟨_, rfl⟩
  have L1 := Lib.hid (lawLight v xs b1 w HA.out hb1)
  go_enter Tryz.func6, Tryz.ntmps6
  go_wp2_with fail
  refine (L1.out).mono ?_
  rintro e wq ⟨rfl, rfl⟩
  cases b1 with
  | false =>
    go_wp2_with fail
    refine (known9 _).mono ?_
    rintro e wz ⟨rfl, hb⟩
    have KZZ := Lib.hid (below_trans K0.out hb)
    clear hb K0
    go_wp2_with fail
    go_ret
    exact ⟨rfl, KZZ.out⟩
  | true =>
    by_cases hn : nm.length ≤ 100
    · have j1 : ¬ (100 : Int) < (nm.length : Int) := by omega
      have F1 := Lib.hid (lightX_fits hb1).1
      obtain ⟨p, hp⟩ : ∃ b, validL (its xs) = b := ⟨_, rfl⟩
      have HP := Lib.hid hp
      clear hp hb1 L1 hn
      go_wp2_with fail
      refine (refValid_h v xs p w (HA.out.below K0.out) F1.out HP.out).mono ?_
      rintro e w1 ⟨rfl, hb⟩
      have K1 := Lib.hid (below_trans K0.out hb)
      clear hb K0
      cases p with
      | false =>
        go_wp2_with fail
        refine (lawRemoves v (.slice none 0 0) xs [] nm 2 w1 (HA.out.below K1.out) (HoldsX.nil _) F1.out (by decide) (delN_bad HP.out)).mono ?_
        rintro e w2 ⟨rfl, hb⟩
        have K2 := Lib.hid (below_trans K1.out hb)
        clear hb K1
        go_wp2_with fail
        refine (known9 _).mono ?_
        rintro e wz ⟨rfl, hb⟩
        have KZZ := Lib.hid (below_trans K2.out hb)
        clear hb K2
        go_wp2_with fail
        go_ret
        exact ⟨rfl, KZZ.out⟩
      | true =>
        rcases find_cases xs nm with ⟨k, x, hk1, hk2, hk3, hk4⟩ | ⟨hk2, hk3, hk4⟩
        · have z0 : ¬ (k : Int) < 0 := by omega
          have HF := Lib.hid hk3
          have HDL := Lib.hid (show delN (its xs) nm = (remN (its xs) nm, 0) from delN_some HP.out (List.mem_map.2 ⟨x, List.mem_of_getElem? hk1, rfl⟩) hk2)
          clear hk1 hk2 hk3 hk4
          go_wp2_with fail
          refine (refFind_h v xs nm (k : Int) w1 (HA.out.below K1.out) F1.out.le HF.out).mono ?_
          rintro e wq ⟨rfl, rfl⟩
          go_wp2_with fail
          refine (lawOwn v xs w1 (HA.out.below K1.out) (Nat.le_trans F1.out.1 (by decide)) F1.out.mar).mono ?_
          rintro e w2 ⟨v1, ys1, rfl, hy1, ho1, hb⟩
          have K2 := Lib.hid (below_trans K1.out hb)
          have HY1 := Lib.hid hy1
          have HO1 := Lib.hid ho1.holds
          have F3 := Lib.hid (Fits.of_its hy1 F1.out)
          clear hb K1 hy1 ho1
          go_wp2_with fail
          refine (itRemove_h v1 ys1 nm (remN (its xs) nm) 0 w2 HO1.out F3.out (by rw [HY1.out]; exact HDL.out)).mono ?_
          rintro e w3 ⟨⟨v2, zs, rfl, hz, ho2⟩, hb⟩
          have K3 := Lib.hid (below_trans K2.out hb)
          have HZ := Lib.hid hz
          have HO2 := Lib.hid ho2
          have HW := Lib.hid (HO1.out.below hb)
          have KB := Lib.hid hb
          have KC := K2
          clear hb K2 hz ho2
          go_wp2_with fail
          refine (refRemove_h v xs nm w3 (HA.out.below K3.out) F1.out.le).mono ?_
          rintro e w4 ⟨⟨v3, rfl, h3⟩, hb⟩
          have K4 := Lib.hid (below_trans K3.out hb)
          have H3 := Lib.hid h3
          have HO3 := Lib.hid (OwnI.below HO2.out hb)
          have KD := Lib.hid (KB.out.trans (hb.mono KB.out.size))
          have HW2 := Lib.hid (HW.out.below hb)
          have FZ := Lib.hid (show Fits zs from Fits.of_its (xs := remX xs nm) (by rw [HZ.out, its_remX]) (F1.out.rem nm))
          have FR := Lib.hid (F1.out.rem nm)
          clear hb K3 h3 HO2 KB HW
          go_wp2_with fail
          refine (refEqual_h v2 v3 zs (remX xs nm) true w4 HO3.out.holds H3.out FZ.out.le FR.out.le (decide_eq_true (by rw [HZ.out, its_remX]))).mono ?_
          rintro e w5 ⟨rfl, hb⟩
          have K5 := Lib.hid (below_trans K4.out hb)
          have HO4 := Lib.hid (OwnI.below HO3.out hb)
          have KE := Lib.hid (KD.out.trans (hb.mono KD.out.size))
          clear hb K4 HO3 KD H3 HW2
          go_wp2_with fail
          refine (lawSpoil v2 w2.heap.size zs w5 HO4.out FZ.out.le FZ.out.nam).mono ?_
          rintro e w6 ⟨rfl, hb⟩
          have hbb : Below w2.heap.size w2 w6 := KE.out.trans hb
          have K6 := Lib.hid (below_trans KC.out hbb)
          have HV := Lib.hid (HO1.out.below hbb)
          clear hb hbb KC KE K5
          go_wp2_with fail
          refine (refEqual_h v1 v ys1 xs true w6 HV.out (HA.out.below K6.out) F3.out.le F1.out.le (decide_eq_true HY1.out)).mono ?_
          rintro e w7 ⟨rfl, hb⟩
          have K7 := Lib.hid (below_trans K6.out hb)
          clear hb K6
          go_wp2_with fail
          refine (known9 _).mono ?_
          rintro e wz ⟨rfl, hb⟩
          have KZZ := Lib.hid (below_trans K7.out hb)
          clear hb K7
          go_wp2_with fail
          go_ret
          exact ⟨rfl, KZZ.out⟩
        · have HF := Lib.hid hk3
          have HDL := Lib.hid (show delN (its xs) nm = ([], 9) from delN_none HP.out hk2)
          clear hk2 hk3 hk4
          go_wp2_with fail
          refine (refFind_h v xs nm (-1) w1 (HA.out.below K1.out) F1.out.le HF.out).mono ?_
          rintro e wq ⟨rfl, rfl⟩
          go_wp2_with fail
          refine (lawRemoves v (.slice none 0 0) xs [] nm 9 w1 (HA.out.below K1.out) (HoldsX.nil _) F1.out (by decide) HDL.out).mono ?_
          rintro e w2 ⟨rfl, hb⟩
          have K2 := Lib.hid (below_trans K1.out hb)
          clear hb K1
          go_wp2_with fail
          refine (known9 _).mono ?_
          rintro e wz ⟨rfl, hb⟩
          have KZZ := Lib.hid (below_trans K2.out hb)
          clear hb K2
          go_wp2_with fail
          go_ret
          exact ⟨rfl, KZZ.out⟩
    · have j1 : (100 : Int) < (nm.length : Int) := by omega
      go_wp2_with fail
      refine (known9 _).mono ?_
      rintro e wz ⟨rfl, hb⟩
      have KZZ := Lib.hid (below_trans K0.out hb)
      clear hb K0
      go_wp2_with fail
      go_ret
      exact ⟨rfl, KZZ.out⟩

end Go.Proofs.YtfbkhgajlklleaaGreat
