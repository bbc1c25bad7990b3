/- The law JoinAlls, from what known() is (written by mkLA.py). -/
import Derived.Test.YtfjbocipjmpogaaGreatMBO
import Derived.Test.YtfjbocipjmpogaaGreatMBK
namespace Go.Proofs.YtfjbocipjmpogaaGreat
open Go.RowKit

def alsP (b off n cap k : Nat) (y z : CaV) (l3 : List CaV) : Nat → Value → World → Prop
  | 0, v, _ => v = .slice (some ⟨b, off, none⟩) n cap
  | 1, v, _ => v = .int .i64 k
  | 2, v, _ => v = .slice (some ⟨b, off + k * 3, none⟩) (n - k) (cap - k)
  | 4, v, _ => v = .slice (some ⟨b, off, none⟩) n cap
  | 5, v, _ => v = .int .i64 k
  | 6, v, _ => v = .slice (some ⟨b, off, none⟩) k cap
  | 8, v, _ => v = .slice (some ⟨b, off, none⟩) n cap
  | 9, v, _ => v = .int .i64 k
  | 10, v, _ => v = .pointer (some ⟨b, off + k * 3, none⟩)
  | 11, v, _ => v = mkC y
  | 13, v, W => ∃ A c, v = .slice A l3.length c ∧ CartsAt W A l3 ∧ l3.length ≤ c ∧ c ≤ maxLen
  | 14, v, _ => v = mkC z
  | 15, v, _ => v = .bool true
  | 16, v, _ => v = .bool true
  | 17, v, _ => v = .bool true
  | 18, v, _ => v = .bool true
  | 19, v, _ => v = .bool true
  | _, _, _ => True
theorem alsP_below {b off n cap k : Nat} {y z : CaV} {l3 : List CaV} {j : Nat} {v : Value} {W W' : World} (hp : alsP b off n cap k y z l3 j v W) (hb : j = 13 → BelW W W') : alsP b off n cap k y z l3 j v W' := by
  match j, hp with
  | 0, h => exact h
  | 1, h => exact h
  | 2, h => exact h
  | 3, _ => exact trivial
  | 4, h => exact h
  | 5, h => exact h
  | 6, h => exact h
  | 7, _ => exact trivial
  | 8, h => exact h
  | 9, h => exact h
  | 10, h => exact h
  | 11, h => exact h
  | 12, _ => exact trivial
  | 13, ⟨A, c, h1, h2, h3⟩ => exact ⟨A, c, h1, h2.below (hb rfl), h3⟩
  | 14, h => exact h
  | 15, h => exact h
  | 16, h => exact h
  | 17, h => exact h
  | 18, h => exact h
  | 19, h => exact h
  | j + 20, _ => exact trivial

abbrev RowK (W : World) (B : Nat) (v : Value) (l : List CaV) : Prop := W.ownsRow B 28 3 v l.length (cellsOf encCa l)
theorem RowK.some_block {W : World} {B : Nat} {v : Value} {l : List CaV} (h : RowK W B v l) (hl : 0 < l.length) : v.ownBlock ≠ none := by
  rcases h.2 with ⟨_, h0⟩ | ⟨g, cap, cur, rfl, _⟩
  · omega
  · simp [Value.ownBlock]
theorem encCa_one (x : CaV) : ∀ u ∈ encCa x, u.oneCell' = true := by
  intro u hu
  simp only [encCa, List.mem_cons, List.not_mem_nil, or_false] at hu
  rcases hu with rfl | rfl | rfl <;> rfl
theorem infoCa : (Tryz.prog.info? 28).map (fun i => (i.zero, i.size, i.bytes)) = some (some (.agg #[.slice none 0 0, .slice none 0 0, .slice none 0 0]), 3, 72) := by kernel_rfl
theorem eval_nil (a : Act) : a.eval (.const (.slice none 0 0)) = .slice none 0 0 := rfl
theorem eval_const (a : Act) (v : Value) : a.eval (.const v) = v := rfl
theorem all_take {α : Type} {p : α → Bool} {l : List α} {k : Nat} {x : α} (h : l[k]? = some x) : (l.take (k + 1)).all p = ((l.take k).all p && p x) := by
  rw [take_snoc h, List.all_append]; simp
theorem put_size (a : Act) (d : Option Tmp) (v : Value) : (a.put d v).tmps.size = a.tmps.size := by cases d <;> simp [Act.put]
theorem put_len {a : Act} {d : Tmp} {v : Value} (h : d < a.tmps.size) : (a.put (some d) v).eval (.tmp d) = v := eval_put_eq h

section
variable (E : World) (l1 l2 : List CaV) (y : CaV)
/-- The rows that the appends take, until they take them. -/
def alsG2 (L : Nat → Bool) (a : Act) (W : World) : Prop :=
  Below E.heap.size E W ∧
  (L 3 = true → L 7 = false → RowK W E.heap.size (a.eval (.tmp 56)) l1) ∧
  (L 7 = true → L 13 = false → RowK W E.heap.size (a.eval (.tmp 60)) (l1 ++ l2)) ∧
  (L 12 = true → L 13 = false → ∃ q, a.eval (.tmp 65) = .slice (some ⟨q, 0, none⟩) 1 1 ∧ q < W.heap.size ∧ SlAt encCa 3 W (some ⟨q, 0, none⟩) [y] ∧ (L 3 = true → L 7 = false → (a.eval (.tmp 56)).ownBlock ≠ some q) ∧ (L 7 = true → (a.eval (.tmp 60)).ownBlock ≠ some q))
/-- With the frame's size. -/
def alsGS (n : Nat) (L : Nat → Bool) (a : Act) (W : World) : Prop := alsG2 E l1 l2 y L a W ∧ a.tmps.size = n
variable {E l1 l2 y}
theorem more_ne {L : Nat → Bool} {k j : Nat} (h : j ≠ k) : moreL L k j = L j := by unfold moreL; simp [h]
theorem more_eq {L : Nat → Bool} {k : Nat} : moreL L k k = true := by unfold moreL; simp
theorem als_gk (k d : Nat) (v : Value) (hk : k ≠ 3 ∧ k ≠ 7 ∧ k ≠ 12 ∧ k ≠ 13) (hd : d ≠ 56 ∧ d ≠ 60 ∧ d ≠ 65) (L : Nat → Bool) (a : Act) (W W' : World) (hG : alsG2 E l1 l2 y L a W) (hb : BelW W W') : alsG2 E l1 l2 y (moreL L k) (a.put (some d) v) W' := by
  obtain ⟨g0, g1, g2, g3⟩ := hG
  unfold alsG2
  rw [more_ne (Ne.symm hk.1), more_ne (Ne.symm hk.2.1), more_ne (Ne.symm hk.2.2.1), more_ne (Ne.symm hk.2.2.2), eval_put_ne hd.1, eval_put_ne hd.2.1, eval_put_ne hd.2.2]
  exact ⟨below_trans g0 hb, fun h h' => kept_below (g1 h h') hb, fun h h' => kept_below (g2 h h') hb, fun h h' => by
    obtain ⟨q, q1, q2, q3, q4⟩ := g3 h h'
    exact ⟨q, q1, Nat.lt_of_lt_of_le q2 hb.size, q3.below hb, q4⟩⟩
theorem als_g3 (L : Nat → Bool) (a : Act) (W W' : World) (v' : Value) (hG : alsG2 E l1 l2 y L a W) (hz : 66 < a.tmps.size) (_ : L 3 = false) (hL7 : L 7 = false) (hown : RowK W' E.heap.size v' l1) (hgr : W.grownBy W' none) (hv : v'.ownBlock = some W.heap.size) : alsG2 E l1 l2 y (moreL L 3) (a.put (some 56) v') W' := by
  obtain ⟨g0, g1, g2, g3⟩ := hG
  have hb : BelW W W' := (Below.refl W.heap.size W).grown hgr (Nat.le_refl _) (fun g h => by cases h)
  unfold alsG2
  rw [more_eq, more_ne (by decide : 7 ≠ 3), more_ne (by decide : 12 ≠ 3), more_ne (by decide : 13 ≠ 3), put_len (a := a) (d := 56) (v := v') (Nat.lt_trans (by decide : (56 : Nat) < 66) hz), eval_put_ne (by decide : 56 ≠ 60), eval_put_ne (by decide : 56 ≠ 65), hv]
  refine ⟨below_trans g0 hb, fun _ _ => hown, fun h => (by rw [hL7] at h; cases h), fun h h' => ?_⟩
  obtain ⟨q, q1, q2, q3, _, q5⟩ := g3 h h'
  exact ⟨q, q1, Nat.lt_of_lt_of_le q2 hb.size, q3.below hb, fun _ _ e => by injection e with e; omega, q5⟩
theorem als_g7 (L : Nat → Bool) (a : Act) (W W' : World) (v' : Value) (hG : alsG2 E l1 l2 y L a W) (hz : 66 < a.tmps.size) (hL7 : L 7 = false) (hL3 : L 3 = true) (hown : RowK W' E.heap.size v' (l1 ++ l2)) (hgr : W.grownBy W' (a.eval (.tmp 56)).ownBlock) (hv : v'.ownBlock = (a.eval (.tmp 56)).ownBlock ∨ v'.ownBlock = some W.heap.size) : alsG2 E l1 l2 y (moreL L 7) (a.put (some 60) v') W' := by
  obtain ⟨g0, g1, g2, g3⟩ := hG
  have h56 := g1 hL3 hL7
  have hEW : Below E.heap.size E W' := g0.grown hgr g0.size (fun g h => (h56.lt g h).1)
  unfold alsG2
  rw [more_eq, more_ne (by decide : 3 ≠ 7), more_ne (by decide : 12 ≠ 7), more_ne (by decide : 13 ≠ 7), put_len (a := a) (d := 60) (v := v') (Nat.lt_trans (by decide : (60 : Nat) < 66) hz), eval_put_ne (by decide : 60 ≠ 56), eval_put_ne (by decide : 60 ≠ 65)]
  refine ⟨hEW, fun _ h => (by cases h), fun _ _ => hown, fun h h' => ?_⟩
  obtain ⟨q, q1, q2, q3, q4, _⟩ := g3 h h'
  have hne := q4 hL3 hL7
  refine ⟨q, q1, Nat.lt_of_lt_of_le q2 hgr.size, fun hn => ?_, fun _ h => (by cases h), fun _ e => ?_⟩
  · obtain ⟨b, off, e, hlt, hcc⟩ := q3 hn
    cases e
    refine ⟨q, 0, rfl, Nat.lt_of_lt_of_le hlt hgr.size, fun j x hx i u hu => ?_⟩
    have h1 := hcc j x hx i u hu
    unfold World.cell? at h1 ⊢
    rw [hgr.block q q2 (fun e => hne e.symm)]
    exact h1
  · rcases hv with h | h
    · rw [h] at e; exact hne e
    · rw [h] at e; injection e with e; omega
theorem als_g12 (L : Nat → Bool) (a : Act) (W : World) (hG : alsG2 E l1 l2 y L a W) (hz : 66 < a.tmps.size) (_ : L 12 = false) (hL13 : L 13 = false) : alsG2 E l1 l2 y (moreL L 12) (a.put (some 65) (.slice (some ⟨W.heap.size, 0, none⟩) 1 1)) (W.alloc (.cells #[y.v, y.l, y.i] 28)) := by
  obtain ⟨g0, g1, g2, g3⟩ := hG
  have hb : BelW W (W.alloc (.cells #[y.v, y.l, y.i] 28)) := (Below.refl _ W).alloc (Nat.le_refl _) _
  unfold alsG2
  rw [more_eq, more_ne (by decide : 3 ≠ 12), more_ne (by decide : 7 ≠ 12), more_ne (by decide : 13 ≠ 12), put_len (a := a) (d := 65) (v := .slice (some ⟨W.heap.size, 0, none⟩) 1 1) (Nat.lt_trans (by decide : (65 : Nat) < 66) hz), eval_put_ne (by decide : 65 ≠ 56), eval_put_ne (by decide : 65 ≠ 60)]
  refine ⟨below_trans g0 hb, fun h h' => kept_below (g1 h h') hb, fun h h' => kept_below (g2 h h') hb, fun _ _ => ⟨W.heap.size, rfl, by simp, SlAt.one (enc := encCa) (heap_alloc_new W _), fun h h' e => ?_, fun h e => ?_⟩⟩
  · have := ((g1 h h').lt _ e).2; omega
  · have := ((g2 h hL13).lt _ e).2; omega
end

set_option maxRecDepth 100000 in
set_option maxHeartbeats 8000000 in
theorem lawJoinAlls11 (KN : KnownJ) (A : Option Addr) (cs : List CaV) (cap m : Nat) (hm : m < 256) (hcap : cs.length ≤ cap) (hcm : cap ≤ maxLen) (w : World) (hx : CartsAt w A cs) :
    Calls Tryz.prog 4 #[.slice A cs.length cap, .int .u8 (m : Int)] w (TrueB w) := by
  obtain ⟨tc0, hic, hzc0, hzc1, hzc2⟩ := info_parts infoCa
  have HKN := Lib.hid KN
  have HX := Lib.hid hx
  have HCM := Lib.hid hcm
  clear hx KN hcm
  by_cases h6 : 6 < cs.length
  · have i0 : (6 : Int) < (cs.length : Int) := by omega
    clear HX h6 hm hic
    go_enter Tryz.func4, Tryz.ntmps4
    go_wp2_with fail
    refine (HKN.out _).mono ?_
    rintro e wk ⟨rfl, hb⟩
    have KC := Lib.hid hb
    clear hb
    go_wp2_with fail
    go_ret
    exact OneB.bool rfl KC.out
  · have i0 : ¬ (6 : Int) < (cs.length : Int) := by omega
    have hn6 : cs.length ≤ 6 := by omega
    clear h6
    go_enter Tryz.func4, Tryz.ntmps4
    go_wp2_with fail
    go_loopw [5, 7, 16] (fun f _ i wr => ∃ (k : Nat) (q : Bool), k ≤ cs.length ∧ f = .bool q ∧ i = .int .i64 k ∧ Hid (Below w.heap.size w wr) ∧ Hid ((cs.take k).all lightK = true) ∧ Hid ((cs.take k).all (fun c => validK c.ca) = q)) (fun _ _ i _ => cs.length - (intOf i).toNat)
    case atStart => exact ⟨0, true, by omega, rfl, rfl, Lib.hid (Below.refl _ _), Lib.hid (show (cs.take 0).all lightK = true from rfl), Lib.hid (show (cs.take 0).all (fun c => validK c.ca) = true from rfl)⟩
    case round =>
      obtain ⟨k, q, hk, rfl, rfl, hB, hLI, hVA⟩ := hrel
      by_cases hlt : k < cs.length
      · have i1 : (k : Int) < (cs.length : Int) := by omega
        obtain ⟨b, off, c, rfl, hbl, hck, c0, c1, c2, hok⟩ := (HX.out.below hB.out).at (j := k) hlt
        have HCK := Lib.hid hck
        have hal := (Below.refl wr.heap.size wr).alloc (Nat.le_refl _) (.cells #[c.v, c.l, c.i] 28)
        have HB2 := Lib.hid (below_trans hB.out hal)
        have HBX := Lib.hid (BlkC.new wr c)
        have HOK := Lib.hid (hok.below hal)
        obtain ⟨lc, hlc⟩ : ∃ lc, lightK c = lc := ⟨_, rfl⟩
        have HLC := Lib.hid hlc
        clear hck hal hok hlc hB
        go_wp2_with fail
        refine (lawLight10 c lc _ HOK.out HLC.out).mono ?_
        rintro e w3 ⟨rfl, hb⟩
        have HB3 := Lib.hid (below_trans HB2.out hb)
        have HBX3 := Lib.hid (HBX.out.below hb)
        have HOK3 := Lib.hid (HOK.out.below hb)
        clear hb HB2 HBX HOK c0 c1 c2 hbl
        cases lc with
        | false =>
          clear hLI hVA HBX3 HOK3
          go_wp2_with fail
          refine (HKN.out _).mono ?_
          rintro e wk ⟨rfl, hb⟩
          have KC := Lib.hid (below_trans HB3.out hb)
          clear hb HB3
          go_wp2_with fail
          go_ret
          exact OneB.bool rfl KC.out
        | true =>
          have HL2 := Lib.hid (show (cs.take (k + 1)).all lightK = true from by rw [all_take HCK.out, hLI.out, HLC.out]; rfl)
          cases q with
          | false =>
            have HV2 := Lib.hid (show (cs.take (k + 1)).all (fun c => validK c.ca) = false from by rw [all_take HCK.out, hVA.out]; rfl)
            clear HBX3 HOK3 hLI hVA HCK
            go_wp2_with fail
            go_roundw
            case rel => exact ⟨k + 1, false, by omega, rfl, by go_num, HB3, HL2, HV2⟩
            case measure => simp [intOf]; omega
          | true =>
            obtain ⟨vc, hvc⟩ : ∃ vc, validK c.ca = vc := ⟨_, rfl⟩
            have HVC := Lib.hid hvc
            have HV2 := Lib.hid (show (cs.take (k + 1)).all (fun c => validK c.ca) = vc from by rw [all_take HCK.out, hVA.out]; simp [hvc])
            have x0 := HBX3.out.cell0
            have x1 := HBX3.out.cell1
            have x2 := HBX3.out.cell2
            have xl := HBX3.out.lt
            clear hvc hLI hVA HCK
            go_wp2_with fail
            refine (rvalid_j c vc 1 w3 HOK3.out (lightK_size HLC.out) (by omega) HVC.out).mono ?_
            rintro e w4 ⟨rfl, hb⟩
            have HB4 := Lib.hid (below_trans HB3.out hb)
            clear hb HB3 HBX3 HOK3 x0 x1 x2 xl
            go_wp2_with fail
            go_roundw
            case rel => exact ⟨k + 1, vc, by omega, rfl, by go_num, HB4, HL2, HV2⟩
            case measure => simp [intOf]; omega
      · obtain rfl : k = cs.length := by omega
        have i1 : ¬ (cs.length : Int) < (cs.length : Int) := by omega
        have hli := hLI.out
        have hva := hVA.out
        rw [List.take_length] at hli hva
        have HS := Lib.hid (show ∀ c ∈ cs, SizeK 1 c.ca from fun c hc => lightK_size (List.all_eq_true.1 hli c hc))
        have HO := Lib.hid (show okA (cs.map (·.ca)) = q from by
          rw [← hva]; unfold okA; rw [List.all_map]; rfl)
        have HX2 := Lib.hid (HX.out.below hB.out)
        clear hlt hk hLI hVA hli hva HX
        cases q with
        | false =>
          go_wp2_with fail
          refine (all_bad A cs cap zC _ HX2.out hcap HCM.out (by omega) HS.out (zC_ok _) rfl HO.out).mono ?_
          rintro e w3 ⟨rfl, hb⟩
          have HB3 := Lib.hid (below_trans hB.out hb)
          clear hb HX2 hB
          go_wp2_with fail
          refine (HKN.out _).mono ?_
          rintro e wk ⟨rfl, hb⟩
          have KC := Lib.hid (below_trans HB3.out hb)
          clear hb HB3
          go_wp2_with fail
          go_ret
          exact OneB.bool rfl KC.out
        | true =>
          have HV := Lib.hid (show ∀ c ∈ cs, validK c.ca = true from fun c hc => okA_iff.1 HO.out _ (List.mem_map.2 ⟨c, hc, rfl⟩))
          have HSZ := Lib.hid (show ∀ z : CaV, z.ca = allK (cs.map (·.ca)) → z.xs.length ≤ 100000 from fun z hz => by
            have h1 := allV_size (l := cs.map (·.ca)) (fun x hx => by obtain ⟨c, hc, rfl⟩ := List.mem_map.1 hx; exact HS.out c hc)
            rw [allV_t HO.out, ← hz] at h1
            have := CaV.num h1
            rw [List.length_map] at this
            omega)
          go_wp2_with fail
          refine (refAll11 A cs cap wr HX2.out (by omega) HS.out HV.out).mono ?_
          rintro e w3 ⟨⟨z, rfl, hz, ho⟩, hb⟩
          have HZ := Lib.hid hz
          have hal := (Below.refl w3.heap.size w3).alloc (Nat.le_refl _) (.cells #[z.v, z.l, z.i] 28)
          have KZ := Lib.hid (show KK w3 [(w3.heap.size, z)] (w3.alloc (.cells #[z.v, z.l, z.i] 28)) from KK.new w3 z ho)
          have HB3 := Lib.hid (below_trans hB.out (below_trans hb hal))
          have HX3 := Lib.hid (HX2.out.below (below_trans hb hal))
          clear hb hz ho hal hB HX2
          go_wp2_with fail
          refine (all_j A cs cap z _ HX3.out hcap HCM.out (by omega) (fun c hc => ⟨HS.out c hc, HV.out c hc⟩) (KZ.out.ok (g := w3.heap.size) (by simp)) (HSZ.out z HZ.out) HZ.out.symm).mono ?_
          rintro e w4 ⟨rfl, hb⟩
          have KE := Lib.hid (show KK w3 [(w3.heap.size, z)] w4 from KZ.out.next hb)
          have HB4 := Lib.hid (below_trans HB3.out hb)
          have HX4 := Lib.hid (HX3.out.below hb)
          clear hb KZ HB3 HX3
          by_cases h0 : cs.length = 0
          · have i4 : ((cs.length : Int) == 0) = true := eqT (by omega)
            clear HX4 KE
            go_wp2_with fail
            refine (HKN.out _).mono ?_
            rintro e wk ⟨rfl, hb⟩
            have KC := Lib.hid (below_trans HB4.out hb)
            clear hb HB4
            go_wp2_with fail
            go_ret
            exact OneB.bool rfl KC.out
          · have i4 : ((cs.length : Int) == 0) = false := eqF (by omega)
            obtain ⟨k, hkm⟩ : ∃ k, m % cs.length = k := ⟨_, rfl⟩
            have hkn : k < cs.length := by rw [← hkm]; exact Nat.mod_lt _ (by omega)
            have i3 : (m : Int).tmod (cs.length : Int) = (k : Int) := by rw [Int.tmod_eq_emod_of_nonneg (Int.natCast_nonneg m), ← hkm]; rfl
            have im : (0 : Int) ≤ (m : Int) := by omega
            have im2 : (m : Int) < 256 := by omega
            clear hkm
            go_upto_region 19 with fail
            obtain ⟨b, off, y, hA, hbl, hyk, y0, y1, y2, hyo⟩ := HX4.out.at (j := k) hkn
            have hcut := HX4.out.cut k cap hcap
            have htak := HX4.out.take k
            rw [hA, if_neg (by omega : ¬ cap = k)] at hcut
            rw [hA] at htak
            have h1 : SlAt encCa 3 w4 (some ⟨b, off + k * 3, none⟩) (cs.drop k) := by
              have := hcut.row
              rwa [show (some (⟨b, off, none⟩ : Addr)).map (·.add (k * 3)) = some ⟨b, off + k * 3, none⟩ from by rw [Option.map_some, Addr_add]] at this
            have h2 : SlAt encCa 3 w4 (some ⟨b, off, none⟩) (cs.take k) := htak.row
            have hturn : allK (((cs.drop k ++ cs.take k) ++ [y]).map (·.ca)) = z.ca := by
              rw [HZ.out, List.map_append, List.map_append, List.map_drop, List.map_take]
              exact allK_turn (fun x hx => by obtain ⟨c, hc, rfl⟩ := List.mem_map.1 hx; exact HV.out c hc) (by rw [List.getElem?_map, hyk]; rfl)
            have hmem : ∀ x ∈ (cs.drop k ++ cs.take k) ++ [y], x ∈ cs := fun x hx => by
              rcases List.mem_append.1 hx with hx | hx
              · rcases List.mem_append.1 hx with hx | hx
                · exact List.mem_of_mem_drop hx
                · exact List.mem_of_mem_take hx
              · obtain rfl : x = y := by simpa using hx
                exact List.mem_of_getElem? hyk
            have hl1 : (cs.drop k).length = cs.length - k := List.length_drop
            have hl2 : (cs.take k).length = k := by rw [List.length_take]; omega
            have hokx : ∀ x ∈ (cs.drop k ++ cs.take k) ++ [y], CaOK w4 x := fun x hx => HX4.out.ok x (hmem x hx)
            have hsx : ∀ x ∈ (cs.drop k ++ cs.take k) ++ [y], SizeK 1 x.ca ∧ validK x.ca = true := fun x hx => ⟨HS.out x (hmem x hx), HV.out x (hmem x hx)⟩
            have Hy0 := Lib.hid y0
            have Hy1 := Lib.hid y1
            have Hy2 := Lib.hid y2
            have hzl := HSZ.out z HZ.out
            have hcm2 := HCM.out
            clear hcut htak hmem y0 y1 y2 hyo hyk HX4 HSZ HZ HV HS HO HCM
            generalize cs.drop k = l1 at *
            generalize cs.take k = l2 at *
            obtain ⟨l3, hl3e⟩ : ∃ l3, l1 ++ l2 ++ [y] = l3 := ⟨_, rfl⟩
            rw [hl3e] at hturn hokx hsx
            have hl3n : l3.length = cs.length + 1 := by rw [← hl3e, List.length_append, List.length_append, hl1, hl2, List.length_singleton]; omega
            have hl1p : 0 < l1.length := by omega
            subst hA
            generalize cs.length = n at *
            have hkle : k ≤ n := by omega
            have hkc : ¬ cap = k := by omega
            have hkc2 : ¬ cap < k := by omega
            have hkc3 : k ≤ cap := by omega
            have hall : ∀ (W : World) (A3 : Option Addr) (c3 : Nat), Below w4.heap.size w4 W → CartsAt W A3 l3 → l3.length ≤ c3 → c3 ≤ maxLen → Calls Tryz.prog 17 #[.slice A3 l3.length c3, mkC z, .int .i64 0] W (TrueB W) := fun W A3 c3 hb h3 hc hm => all_j A3 l3 c3 z W h3 hc hm (by omega) hsx ((KE.out.next hb).ok (g := w3.heap.size) (by simp)) hzl hturn
            have hok := hokx
            generalize hgW : w3.heap.size = gW at *
            clear hgW hokx hsx hturn hzl
            generalize w4 = E at *
            have hkp : ∀ W W', BelW W W' → ∀ L, KeepsT ⟨alsGS E l1 l2 y 72, alsP b off n cap k y z l3⟩ L W W' := fun W W' hb L j v hj hp => alsP_below hp (fun _ => hb)
            have hkp2 : ∀ W W' L, L 13 = false → KeepsT ⟨alsGS E l1 l2 y 72, alsP b off n cap k y z l3⟩ L W W' := fun W W' L h13 j v hj hp => alsP_below hp (fun h => by subst h; rw [h13] at hj; cases hj)
            refine wp_region_T (S := ⟨alsGS E l1 l2 y 72, alsP b off n cap k y z l3⟩) (by kernel_rfl) (by kernel_rfl) (by kernel_rfl) (dst_small (n := 72) (by kernel_rfl)) ⟨⟨(Below.refl _ _).drew, fun h => (by cases h), fun h => (by cases h), fun h => (by cases h)⟩, by rfl⟩ ?_ ?_
            ·
              refine ⟨?_, ?_, ?_, ?_, ?_, ?_, ?_, ?_, ?_, ?_, ?_, ?_, ?_, ?_, ?_, ?_, ?_, ?_, ?_, ?_, trivial⟩
              · refine StepT.val rfl fun L a W hI hk hd => ?_
                have e0 : a.tmps[0]?.getD undef = .slice (some ⟨b, off, none⟩) n cap := hI.at 0 (by kernel_rfl)
                exact ⟨rfl, .slice (some ⟨b, off, none⟩) n cap, W, by go_simp, hkp W W (Below.refl _ W) L, ⟨als_gk 0 53 _ (by decide) (by decide) L a W W hI.glob.1 (Below.refl _ W), (put_size _ _ _).trans hI.glob.2⟩, rfl⟩
              · refine StepT.val rfl fun L a W hI hk hd => ?_
                have e9 : a.tmps[9]?.getD undef = .int .i64 k := hI.at 9 (by kernel_rfl)
                exact ⟨rfl, .int .i64 k, W, by go_simp, hkp W W (Below.refl _ W) L, ⟨als_gk 1 54 _ (by decide) (by decide) L a W W hI.glob.1 (Below.refl _ W), (put_size _ _ _).trans hI.glob.2⟩, rfl⟩
              · refine StepT.val rfl fun L a W hI hk hd => ?_
                obtain ⟨_, e53, rfl⟩ := hI.get 0 53 (hd 0 rfl) rfl
                obtain ⟨_, e54, rfl⟩ := hI.get 1 54 (hd 1 rfl) rfl
                exact ⟨rfl, .slice (some ⟨b, off + k * 3, none⟩) (n - k) (cap - k), W, by go_simp, hkp W W (Below.refl _ W) L, ⟨als_gk 2 55 _ (by decide) (by decide) L a W W hI.glob.1 (Below.refl _ W), (put_size _ _ _).trans hI.glob.2⟩, rfl⟩
              · refine StepT.val rfl fun L a W hI hk hd => ?_
                obtain ⟨_, e55, rfl⟩ := hI.get 2 55 (hd 2 rfl) rfl
                obtain ⟨v', W', hrun, hown, hgr, hblk⟩ := run_append_sl (P := Tryz.prog) W encCa 3 encCa_len (by omega) encCa_one E.heap.size 39 39 28 tc0 _ 72 Tryz.underlying39 hic hzc0 hzc1 hzc2 rfl (.slice none 0 0) ([]) (World.ownsRow_nil _ _ _ _) (some ⟨b, off + k * 3, none⟩) (cap - k) (l1) (h1.below (hI.glob.1.1)) (by (try simp only [maxLen, List.length_nil]); omega) (by (try simp only [List.length_nil]); omega) hI.glob.1.1.size
                have hrun2 : (Builtin.append_ #[39, 39] 39 #[.slice none 0 0, .slice (some ⟨b, off + k * 3, none⟩) (n - k) (cap - k)]).run Tryz.prog W = .ok v' W' := by rw [← hl1]; exact hrun
                have hs2 : a.eval (.tmp 55) = .slice (some ⟨b, off + k * 3, none⟩) (n - k) (cap - k) := by rw [eval_tmp]; exact e55
                refine ⟨rfl, v', W', ?_, hkp W W' ((Below.refl W.heap.size W).grown hgr (Nat.le_refl _) (fun g h => by cases h)) L, ?_, trivial⟩
                · unfold execOp
                  simp only [resolve, invoke, builtin, Sem.run_bind, Sem.run_pure, Result.andThen_ok, List.map_toArray, List.map_cons, List.map_nil, eval_nil, hs2, hrun2]
                · exact ⟨als_g3 L a W W' v' hI.glob.1 (by rw [hI.glob.2]; decide) hk (hI.before (j := 7) (o := _) rfl (k := 3) rfl hk) hown hgr (hblk.resolve_left (fun h => RowK.some_block (B := E.heap.size) hown hl1p h)), (put_size _ _ _).trans hI.glob.2⟩
              · refine StepT.val rfl fun L a W hI hk hd => ?_
                have e0 : a.tmps[0]?.getD undef = .slice (some ⟨b, off, none⟩) n cap := hI.at 0 (by kernel_rfl)
                exact ⟨rfl, .slice (some ⟨b, off, none⟩) n cap, W, by go_simp, hkp W W (Below.refl _ W) L, ⟨als_gk 4 57 _ (by decide) (by decide) L a W W hI.glob.1 (Below.refl _ W), (put_size _ _ _).trans hI.glob.2⟩, rfl⟩
              · refine StepT.val rfl fun L a W hI hk hd => ?_
                have e9 : a.tmps[9]?.getD undef = .int .i64 k := hI.at 9 (by kernel_rfl)
                exact ⟨rfl, .int .i64 k, W, by go_simp, hkp W W (Below.refl _ W) L, ⟨als_gk 5 58 _ (by decide) (by decide) L a W W hI.glob.1 (Below.refl _ W), (put_size _ _ _).trans hI.glob.2⟩, rfl⟩
              · refine StepT.val rfl fun L a W hI hk hd => ?_
                obtain ⟨_, e57, rfl⟩ := hI.get 4 57 (hd 4 rfl) rfl
                obtain ⟨_, e58, rfl⟩ := hI.get 5 58 (hd 5 rfl) rfl
                exact ⟨rfl, .slice (some ⟨b, off, none⟩) k cap, W, by go_simp, hkp W W (Below.refl _ W) L, ⟨als_gk 6 59 _ (by decide) (by decide) L a W W hI.glob.1 (Below.refl _ W), (put_size _ _ _).trans hI.glob.2⟩, rfl⟩
              · refine StepT.val rfl fun L a W hI hk hd => ?_
                obtain ⟨_, e59, rfl⟩ := hI.get 6 59 (hd 6 rfl) rfl
                have hL3 : L 3 = true := hd 3 rfl
                have hown0 := hI.glob.1.2.1 hL3 hk
                obtain ⟨v', W', hrun, hown, hgr, hblk⟩ := run_append_sl (P := Tryz.prog) W encCa 3 encCa_len (by omega) encCa_one E.heap.size 39 39 28 tc0 _ 72 Tryz.underlying39 hic hzc0 hzc1 hzc2 rfl (a.eval (.tmp 56)) (l1) (hown0) (some ⟨b, off, none⟩) (cap) (l2) (h2.below (hI.glob.1.1)) (by (try simp only [maxLen]); omega) (by (try simp only [maxLen]); omega) hI.glob.1.1.size
                have hrun2 : (Builtin.append_ #[39, 39] 39 #[a.eval (.tmp 56), .slice (some ⟨b, off, none⟩) k (cap)]).run Tryz.prog W = .ok v' W' := by rw [← hl2]; exact hrun
                have hs2 : a.eval (.tmp 59) = .slice (some ⟨b, off, none⟩) k cap := by rw [eval_tmp]; exact e59
                have h13 : L 13 = false := hI.before (j := 13) (o := _) rfl (k := 7) rfl hk
                refine ⟨rfl, v', W', ?_, hkp2 W W' L h13, ?_, trivial⟩
                · unfold execOp
                  simp only [resolve, invoke, builtin, Sem.run_bind, Sem.run_pure, Result.andThen_ok, List.map_toArray, List.map_cons, List.map_nil, hs2, hrun2]
                · exact ⟨als_g7 L a W W' v' hI.glob.1 (by rw [hI.glob.2]; decide) hk hL3 hown hgr hblk, (put_size _ _ _).trans hI.glob.2⟩
              · refine StepT.val rfl fun L a W hI hk hd => ?_
                have e0 : a.tmps[0]?.getD undef = .slice (some ⟨b, off, none⟩) n cap := hI.at 0 (by kernel_rfl)
                exact ⟨rfl, .slice (some ⟨b, off, none⟩) n cap, W, by go_simp, hkp W W (Below.refl _ W) L, ⟨als_gk 8 61 _ (by decide) (by decide) L a W W hI.glob.1 (Below.refl _ W), (put_size _ _ _).trans hI.glob.2⟩, rfl⟩
              · refine StepT.val rfl fun L a W hI hk hd => ?_
                have e9 : a.tmps[9]?.getD undef = .int .i64 k := hI.at 9 (by kernel_rfl)
                exact ⟨rfl, .int .i64 k, W, by go_simp, hkp W W (Below.refl _ W) L, ⟨als_gk 9 62 _ (by decide) (by decide) L a W W hI.glob.1 (Below.refl _ W), (put_size _ _ _).trans hI.glob.2⟩, rfl⟩
              · refine StepT.val rfl fun L a W hI hk hd => ?_
                obtain ⟨_, e61, rfl⟩ := hI.get 8 61 (hd 8 rfl) rfl
                obtain ⟨_, e62, rfl⟩ := hI.get 9 62 (hd 9 rfl) rfl
                exact ⟨rfl, .pointer (some ⟨b, off + k * 3, none⟩), W, by go_simp, hkp W W (Below.refl _ W) L, ⟨als_gk 10 63 _ (by decide) (by decide) L a W W hI.glob.1 (Below.refl _ W), (put_size _ _ _).trans hI.glob.2⟩, rfl⟩
              · refine StepT.val rfl fun L a W hI hk hd => ?_
                obtain ⟨_, e63, rfl⟩ := hI.get 10 63 (hd 10 rfl) rfl
                have c0 : W.cell? ⟨b, off + k * 3, none⟩ = some y.v := (hI.glob.1.1.cell (p := ⟨b, off + k * 3, none⟩) hbl).trans Hy0.out
                have c1 : W.cell? ⟨b, off + k * 3 + 1, none⟩ = some y.l := (hI.glob.1.1.cell (p := ⟨b, off + k * 3 + 1, none⟩) hbl).trans Hy1.out
                have c2 : W.cell? ⟨b, off + k * 3 + 2, none⟩ = some y.i := (hI.glob.1.1.cell (p := ⟨b, off + k * 3 + 2, none⟩) hbl).trans Hy2.out
                exact ⟨rfl, mkC y, W, by go_simp, hkp W W (Below.refl _ W) L, ⟨als_gk 11 64 _ (by decide) (by decide) L a W W hI.glob.1 (Below.refl _ W), (put_size _ _ _).trans hI.glob.2⟩, rfl⟩
              · refine StepT.val rfl fun L a W hI hk hd => ?_
                obtain ⟨_, e64, rfl⟩ := hI.get 11 64 (hd 11 rfl) rfl
                have h13 : L 13 = false := hI.before (j := 13) (o := _) rfl (k := 12) rfl hk
                exact ⟨rfl, .slice (some ⟨W.heap.size, 0, none⟩) 1 1, W.alloc (.cells #[y.v, y.l, y.i] 28), by go_simp, hkp W _ ((Below.refl _ W).alloc (Nat.le_refl _) _) L, ⟨als_g12 L a W hI.glob.1 (by rw [hI.glob.2]; decide) hk h13, (put_size _ _ _).trans hI.glob.2⟩, trivial⟩
              · refine StepT.val rfl fun L a W hI hk hd => ?_
                have hL7 : L 7 = true := hd 7 rfl
                have hL12 : L 12 = true := hd 12 rfl
                have hown0 := hI.glob.1.2.2.1 hL7 hk
                obtain ⟨q, hq1, hq2, hq3, _, hq4⟩ := hI.glob.1.2.2.2 hL12 hk
                obtain ⟨v', W', hrun, hown, hgr, hblk⟩ := run_append_sl (P := Tryz.prog) W encCa 3 encCa_len (by omega) encCa_one E.heap.size 39 39 28 tc0 _ 72 Tryz.underlying39 hic hzc0 hzc1 hzc2 rfl (a.eval (.tmp 60)) (l1 ++ l2) (hown0) (some ⟨q, 0, none⟩) (1) ([y]) (hq3) (by (try simp only [maxLen, List.length_append, List.length_singleton]); omega) (by (try simp only [List.length_append, List.length_singleton]); omega) hI.glob.1.1.size
                have hrun2 : (Builtin.append_ #[39, 39] 39 #[a.eval (.tmp 60), .slice (some ⟨q, 0, none⟩) 1 (1)]).run Tryz.prog W = .ok v' W' := by exact hrun
                rw [hl3e] at hown
                obtain ⟨A3, c3, rfl, hl3, hm3, hat3⟩ := SlAt.of_own encCa_len hown
                have hEW : Below E.heap.size E W' := hI.glob.1.1.grown hgr hI.glob.1.1.size (fun g h => (hown0.lt g h).1)
                refine ⟨rfl, _, W', ?_, hkp2 W W' L hk, ⟨⟨hEW, fun _ h => (by rw [more_ne (by decide : 7 ≠ 13), hL7] at h; cases h), fun _ h => (by cases h), fun _ h => (by cases h)⟩, (put_size _ _ _).trans hI.glob.2⟩, A3, c3, rfl, ⟨hat3, fun x hx => CaOK.below (hok x hx) hEW⟩, hl3, hm3⟩
                unfold execOp
                simp only [resolve, invoke, builtin, Sem.run_bind, Sem.run_pure, Result.andThen_ok, List.map_toArray, List.map_cons, List.map_nil, hq1, hrun2]
              · refine StepT.val rfl fun L a W hI hk hd => ?_
                have e8 : a.tmps[8]?.getD undef = .pointer (some ⟨gW, 0, none⟩) := hI.at 8 (by kernel_rfl)
                obtain ⟨c0, c1, c2, _⟩ := (KE.out.next hI.glob.1.1).cells4 (g := gW) (c := z) (by simp)
                exact ⟨rfl, mkC z, W, by go_simp, hkp W W (Below.refl _ W) L, ⟨als_gk 14 67 _ (by decide) (by decide) L a W W hI.glob.1 (Below.refl _ W), (put_size _ _ _).trans hI.glob.2⟩, rfl⟩
              · refine StepT.call rfl fun L a W hI hk hd => ?_
                obtain ⟨_, e66, A3, c3, rfl, hat3, hl3, hm3⟩ := hI.get 13 66 (hd 13 rfl) rfl
                obtain ⟨_, e67, rfl⟩ := hI.get 14 67 (hd 14 rfl) rfl
                refine ⟨rfl, 17, #[.slice A3 l3.length c3, mkC z, .int .i64 0], by go_simp, (hall W A3 c3 hI.glob.1.1 hat3 hl3 hm3).mono ?_⟩
                rintro e W' ⟨rfl, hb⟩
                exact ⟨_, rfl, hkp W W' hb L, ⟨als_gk 15 68 _ (by decide) (by decide) L a W W' hI.glob.1 hb, (put_size _ _ _).trans hI.glob.2⟩, rfl⟩
              · refine StepT.val rfl fun L a W hI hk hd => ?_
                obtain ⟨_, e68, rfl⟩ := hI.get 15 68 (hd 15 rfl) rfl
                exact ⟨rfl, .bool true, W, by go_simp, hkp W W (Below.refl _ W) L, ⟨als_gk 16 69 _ (by decide) (by decide) L a W W hI.glob.1 (Below.refl _ W), (put_size _ _ _).trans hI.glob.2⟩, rfl⟩
              · refine StepT.call rfl fun L a W hI hk hd => ?_
                refine ⟨hI.wants rfl (hd 16 rfl) rfl (fun _ h => h), 9, #[], by go_simp, (HKN.out W).mono ?_⟩
                rintro e W' ⟨rfl, hb⟩
                exact ⟨_, rfl, hkp W W' hb L, ⟨als_gk 17 70 _ (by decide) (by decide) L a W W' hI.glob.1 hb, (put_size _ _ _).trans hI.glob.2⟩, rfl⟩
              · refine StepT.val rfl fun L a W hI hk hd => ?_
                obtain ⟨_, e69, rfl⟩ := hI.get 16 69 (hd 16 rfl) rfl
                obtain ⟨_, e70, rfl⟩ := hI.get 17 70 (hd 17 rfl) rfl
                exact ⟨rfl, .bool true, W, by go_simp, hkp W W (Below.refl _ W) L, ⟨als_gk 18 71 _ (by decide) (by decide) L a W W hI.glob.1 (Below.refl _ W), (put_size _ _ _).trans hI.glob.2⟩, rfl⟩
              · refine StepT.val rfl fun L a W hI hk hd => ?_
                obtain ⟨_, e71, rfl⟩ := hI.get 18 71 (hd 18 rfl) rfl
                exact ⟨rfl, .bool true, W, by go_simp, hkp W W (Below.refl _ W) L, ⟨als_gk 19 4 _ (by decide) (by decide) L a W W hI.glob.1 (Below.refl _ W), (put_size _ _ _).trans hI.glob.2⟩, rfl⟩
            · intro a W L hL hI
              have k4 : a.eval (.tmp 4) = .bool true := by
                obtain ⟨_, e4, rfl⟩ := hI.get 19 4 (hL 19 (by decide)) rfl
                rw [eval_tmp]; exact e4
              have KC := Lib.hid (below_trans HB4.out hI.glob.1.1)
              rw [hI.frame]
              simp only [List.filterMap, List.foldl]
              rw [k4]
              generalize a.eval (.tmp 53) = v53
              generalize a.eval (.tmp 54) = v54
              generalize a.eval (.tmp 55) = v55
              generalize a.eval (.tmp 56) = v56
              generalize a.eval (.tmp 57) = v57
              generalize a.eval (.tmp 58) = v58
              generalize a.eval (.tmp 59) = v59
              generalize a.eval (.tmp 60) = v60
              generalize a.eval (.tmp 61) = v61
              generalize a.eval (.tmp 62) = v62
              generalize a.eval (.tmp 63) = v63
              generalize a.eval (.tmp 64) = v64
              generalize a.eval (.tmp 65) = v65
              generalize a.eval (.tmp 66) = v66
              generalize a.eval (.tmp 67) = v67
              generalize a.eval (.tmp 68) = v68
              generalize a.eval (.tmp 69) = v69
              generalize a.eval (.tmp 70) = v70
              generalize a.eval (.tmp 71) = v71
              clear hI hL k4 hkp hkp2 hall hok
              simp only [List.setIfInBounds_toArray, List.set_cons_succ, List.set_cons_zero]
              go_wp2_with fail
              go_ret
              exact OneB.bool rfl KC.out

end Go.Proofs.YtfjbocipjmpogaaGreat
