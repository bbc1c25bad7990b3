/- The law ItemsOrders. -/
import Derived.Test.YtfbkhgajlklleaaGreatItmY2
namespace Go.Proofs.YtfbkhgajlklleaaGreat
open Go.RowKit

theorem turn_ne {n m j k : Nat} (hj : j < k) (hk : k < n) : (j + m) % n ≠ (k + m) % n := fun e => by
  have h := Nat.sub_mod_eq_zero_of_mod_eq e.symm
  rw [show k + m - (j + m) = k - j by omega, Nat.mod_eq_of_lt (by omega)] at h
  omega
theorem turn_hit {n : Nat} (m : Nat) {i : Nat} (hi : i < n) : ∃ j, j < n ∧ (j + m) % n = i := by
  refine ⟨(i + (n - m % n)) % n, Nat.mod_lt _ (by omega), ?_⟩
  rw [Nat.mod_add_mod]
  have h1 := Nat.div_add_mod m n
  have h2 := Nat.mod_lt m (show n > 0 by omega)
  have e : i + (n - m % n) + m = i + n * (m / n + 1) := by
    rw [Nat.mul_succ]; omega
  rw [e, Nat.add_mul_mod_self_left, Nat.mod_eq_of_lt hi]
/-- What was put so far: the first items of those that are turned. -/
structure TurnInv (l : List It) (m k : Nat) (zs : List It) : Prop where
  good : Good zs
  len : zs.length = k
  mem : ∀ d, d ∈ zs ↔ ∃ j, j < k ∧ l[(j + m) % l.length]? = some d
theorem TurnInv.zero (l : List It) (m : Nat) : TurnInv l m 0 [] := ⟨good_nil, rfl, fun d => ⟨fun h => (by cases h), fun ⟨j, hj, _⟩ => (by omega)⟩⟩
theorem TurnInv.step {l : List It} {m k : Nat} {zs : List It} {x : It} (hl : Good l) (h : TurnInv l m k zs) (hk : k < l.length) (hx : l[(k + m) % l.length]? = some x) : putN zs x = (insN zs x, 0) ∧ TurnInv l m (k + 1) (insN zs x) := by
  have hxm : x ∈ l := List.mem_of_getElem? hx
  have hn : ∀ y ∈ zs, y.1 ≠ x.1 := fun y hy e => by
    obtain ⟨j, hj, hy1⟩ := (h.mem y).1 hy
    have exy : y = x := hl.2.1.name (List.mem_of_getElem? hy1) hxm e
    subst exy
    have hne := turn_ne (m := m) hj hk
    obtain ⟨p1, e1⟩ := List.getElem?_eq_some_iff.1 hy1
    obtain ⟨p2, e2⟩ := List.getElem?_eq_some_iff.1 hx
    rcases Nat.lt_or_gt_of_ne hne with hlt | hgt
    · have := hl.2.1.get hy1 hx hlt; rw [beforeN_irrefl] at this; cases this
    · have := hl.2.1.get hx hy1 hgt; rw [beforeN_irrefl] at this; cases this
  have hm : (zs.any fun y => meetN y.2 x.2) = false := by
    rw [List.any_eq_false]
    intro y hy
    obtain ⟨j, hj, hy1⟩ := (h.mem y).1 hy
    rw [Bool.not_eq_true]
    exact hl.apart (List.mem_of_getElem? hy1) hxm (hn y hy)
  have hv : validL zs = true := validL_good.2 h.good
  have ho : okI x = true := hl.1 x hxm
  refine ⟨?_, h.good.ins ho hn hm, by rw [insN_len, h.len], fun d => ?_⟩
  · unfold putN
    rw [if_pos ⟨hv, ho⟩, rem_same hn, if_neg (by rw [hm]; simp)]
  · rw [mem_insN]
    constructor
    · rintro (hd | hd)
      · obtain ⟨j, hj, e⟩ := (h.mem d).1 hd
        exact ⟨j, by omega, e⟩
      · subst hd; exact ⟨k, by omega, hx⟩
    · rintro ⟨j, hj, e⟩
      rcases Nat.lt_or_ge j k with h1 | h1
      · exact .inl ((h.mem d).2 ⟨j, h1, e⟩)
      · obtain rfl : j = k := by omega
        rw [hx] at e
        exact .inr (Option.some.inj e).symm
theorem TurnInv.done {l : List It} {m : Nat} {zs : List It} (hl : Good l) (h : TurnInv l m l.length zs) : zs = l := IncN.ext h.good.2.1 hl.2.1 fun d => by
  rw [h.mem]
  constructor
  · rintro ⟨j, _, e⟩; exact List.mem_of_getElem? e
  · intro hd
    obtain ⟨i, hi⟩ := List.mem_iff_getElem?.1 hd
    obtain ⟨j, hj, e⟩ := turn_hit m (List.getElem?_eq_some_iff.1 hi).1
    exact ⟨j, hj, by rw [e]; exact hi⟩
theorem TurnInv.fits {xs zs : List ItV} {m k : Nat} (hf : Fits xs) (h : TurnInv (its xs) m k (its zs)) (hk : k ≤ xs.length) : Fits zs := by
  refine ⟨by rw [← its_len zs, h.len]; exact Nat.le_trans hk hf.1, fun z hz => ?_⟩
  obtain ⟨j, _, e⟩ := (h.mem z.it).1 (List.mem_map.2 ⟨z, hz, rfl⟩)
  obtain ⟨y, hy, ey⟩ := List.mem_map.1 (List.mem_of_getElem? e)
  have e1 : y.nm = z.nm := congrArg Prod.fst ey
  have e2 : y.ms = z.ms := congrArg Prod.snd ey
  rw [← e1, ← e2]; exact hf.2 y hy

set_option maxRecDepth 100000 in
set_option maxHeartbeats 8000000 in
theorem lawOrders9 (v : Value) (xs : List ItV) (m : Nat) (w : World) (h : HoldsX w v xs) (hm : m < 256) : Calls Tryz.prog 7 #[v, .int .u8 (m : Int)] w (TrueB w) := by
  have K0 := Lib.hid (Below.refl w.heap.size w)
  have HA := Lib.hid h
  obtain ⟨b1, hb1⟩ : ∃ b, lightX xs = b := ⟨_, rfl⟩
  have L1 := Lib.hid fun W h => lawLight v xs b1 W h hb1
  obtain ⟨A, cap, rfl, hat, _⟩ := h
  have HAT := Lib.hid hat
  clear hat
  go_enter Tryz.func7, Tryz.ntmps7
  go_wp2_with fail
  refine (L1.out _ (HA.out.below K0.out)).mono ?_
  rintro e wq ⟨rfl, rfl⟩
  cases b1 with
  | false =>
    go_wp2_with fail
    refine (known9 _).mono ?_
    rintro e wz ⟨rfl, hb⟩
    have KZZ := Lib.hid (below_trans K0.out hb)
    clear hb K0
    go_wp2_with fail
    go_ret
    exact ⟨rfl, KZZ.out⟩
  | true =>
    have F1 := Lib.hid (lightX_fits hb1).1
    obtain ⟨p, hp⟩ : ∃ b, validL (its xs) = b := ⟨_, rfl⟩
    have HP := Lib.hid hp
    clear hp hb1 L1
    go_wp2_with fail
    refine (refValid_h (.slice A xs.length cap) xs p w (HA.out.below K0.out) F1.out HP.out).mono ?_
    rintro e w1 ⟨rfl, hb⟩
    have K1 := Lib.hid (below_trans K0.out hb)
    clear hb K0
    cases p with
    | false =>
      go_wp2_with fail
      refine (known9 _).mono ?_
      rintro e wz ⟨rfl, hb⟩
      have KZZ := Lib.hid (below_trans K1.out hb)
      clear hb K1
      go_wp2_with fail
      go_ret
      exact ⟨rfl, KZZ.out⟩
    | true =>
      have HG := Lib.hid (validL_good.1 HP.out)
      have hm20 : xs.length ≤ 100 := F1.out.1
      have ZN : HoldsX w1 (.slice none 0 0) [] := HoldsX.nil _
      have Z0 := Lib.hid ZN
      clear ZN
      go_wp2_with fail
      go_loopw [5, 6, 7, 8, 20] (fun vx _ _ _ i wr => ∃ (k : Nat) (zs : List ItV), k ≤ xs.length ∧ i = .int .i64 k ∧ Hid (HoldsX wr vx zs) ∧ Hid (TurnInv (its xs) m k (its zs)) ∧ Hid (Below w.heap.size w wr)) (fun _ _ _ _ i _ => xs.length - (intOf i).toNat)
      case atStart => exact ⟨0, [], by omega, rfl, Z0, Lib.hid (TurnInv.zero _ _), K1⟩
      case round =>
        clear Z0 K1
        obtain ⟨k, zs, hk, rfl, hz, ht, hb⟩ := hrel
        by_cases hlt : k < xs.length
        · have i0 : (k : Int) < (xs.length : Int) := by omega
          obtain ⟨q, hq⟩ : ∃ q, (k + m) % xs.length = q := ⟨_, rfl⟩
          have hql : q < xs.length := by rw [← hq]; exact Nat.mod_lt _ (by omega)
          have q1 : ((k : Int) + (m : Int)) % (xs.length : Int) = (q : Int) := by rw [← hq]; simp
          have q2 : ((k : Int) + (m : Int)).tmod (xs.length : Int) = (q : Int) := by rw [← hq, Int.tmod_eq_emod_of_nonneg (by omega)]; simp
          have q3 : (q : Int) < (xs.length : Int) := by omega
          have q4 : (0 : Int) ≤ (q : Int) := by omega
          have q5 : ¬ (xs.length : Int) = 0 := by omega
          obtain ⟨bb, off, x, rfl, hbl, hx1, hxk, hc0, hc1, hok⟩ := (HAT.out.below hb.out).cells (j := q) hql
          have HST := Lib.hid (ht.out.step HG.out (by rw [its_len]; exact hlt) (x := x.it) (by rw [its_len, hq]; exact its_at hx1))
          have HOK := Lib.hid hok
          have FX := Lib.hid (F1.out.2 x (List.mem_of_getElem? hx1))
          have FZ := Lib.hid (ht.out.fits F1.out hk)
          obtain ⟨AZ, cz, rfl, _⟩ := id hz.out
          clear hxk
          clear hx1 hok hq hql ht
          go_wp2_with fail
          refine (itPut_h _ zs x _ 0 wr hz.out HOK.out FZ.out FX.out.1 FX.out.2 HST.out.1).mono ?_
          rintro e wn ⟨⟨v3, us, rfl, hu, ho3⟩, hb3⟩
          have HB3 := Lib.hid (below_trans hb.out hb3)
          have HU := Lib.hid ho3.holds
          have HT := Lib.hid (show TurnInv (its xs) m (k + 1) (its us) from by rw [hu]; exact HST.out.2)
          have hul : us.length = k + 1 := by rw [← its_len us, HT.out.len]
          obtain ⟨A3, c3, rfl, _⟩ := id HU.out
          have hz1 : ((us.length : Int) != (k : Int) + 1) = false := neF (by omega)
          clear hu ho3 hb3 hz hb hul hc0 hc1 hbl q1 q2 q3 q4 q5 HST HOK
          go_wp2_with fail
          go_roundw
          case rel => exact ⟨k + 1, us, by omega, by go_num, HU, HT, HB3⟩
          case measure => simp [intOf]; omega
        · have i0 : ¬ (k : Int) < (xs.length : Int) := by omega
          obtain rfl : k = xs.length := by omega
          have HE := Lib.hid (show its zs = its xs from TurnInv.done HG.out (by rw [its_len]; exact ht.out))
          have FZ := Lib.hid (ht.out.fits F1.out (Nat.le_refl _))
          obtain ⟨AZ, cz, rfl, _⟩ := id hz.out
          clear hlt ht
          go_wp2_with fail
          refine (refEqual_h _ _ zs xs true wr hz.out (HA.out.below hb.out) FZ.out.le F1.out.le (decide_eq_true HE.out)).mono ?_
          rintro e wy ⟨rfl, hby⟩
          have KY := Lib.hid (below_trans hb.out hby)
          clear hby hb hz
          go_wp2_with fail
          refine (known9 _).mono ?_
          rintro e wz ⟨rfl, hbz⟩
          have KZZ := Lib.hid (below_trans KY.out hbz)
          clear hbz KY
          go_wp2_with fail
          go_ret
          exact ⟨rfl, KZZ.out⟩

end Go.Proofs.YtfbkhgajlklleaaGreat
