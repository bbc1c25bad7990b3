/- Several texts in one: JoiX, JoiY, JoiZ, JoiAA, JoiAB. -/
import Derived.Test.YtfjbocipjmpogaaGreatMBJ
import Derived.Test.YtfjbocipjmpogaaGreatMAZ
namespace Go.Proofs.YtfjbocipjmpogaaGreat

section
open Go.RowKit

set_option maxRecDepth 100000 in
set_option maxHeartbeats 4000000 in
theorem refWithin11 (c d : CaV) (n m : Nat) (b : Bool) (w : World) (hc : CaOK w c) (hd : CaOK w d) (hn : SizeK n c.ca) (hm : SizeK m d.ca) (h7 : n + m ≤ 7) (hvc : validK c.ca = true) (hvd : validK d.ca = true) (hb : withinK c.ca d.ca = b) :
    Calls Tryz.prog 21 #[mkC c, mkC d] w (OneB (.bool b) w) := by
  have hb1 := (Below.refl w.heap.size w).alloc (Nat.le_refl _) (.cells #[c.v, c.l, c.i] 28)
  have K0 := KK.push (L := [(w.heap.size, c)]) (KK.new w c hc) d (hd.below hb1) (w.heap.size + 1) (by simp)
  have HJ := Lib.hid fun W (h : CaOK W c) (h' : CaOK W d) => refJoin11 c d n m W h h' hn hm h7 hvc hvd
  have HL := Lib.hid (show ∀ z : CaV, z.ca = joinK c.ca d.ca → z.xs.length ≤ 100000 from fun z hz => by
    have := CaV.num (c := z) (hz ▸ joinK_size hvc hvd hn hm)
    omega)
  have HE := Lib.hid fun (z : CaV) W (hz : z.ca = joinK c.ca d.ca) (h : CaOK W z) (h' : CaOK W d) => refEqual10 z d b W h h' (HL.out z hz) (by have := CaV.num hm; omega) (by rw [hz]; exact hb)
  clear hc hd hn hm h7 hvc hvd hb hb1 HL
  go_enter Tryz.func21, Tryz.ntmps21
  go_wp2_with fail
  generalize World.alloc (World.alloc w _) _ = w2 at K0 ⊢
  have hS := K0
  have hS' := hS.sp2
  clear K0
  go_region_held3 (fun W => W.cell? ⟨w.heap.size, 0, none⟩ = some c.v ∧ W.cell? ⟨w.heap.size, 1, none⟩ = some c.l ∧ W.cell? ⟨w.heap.size, 2, none⟩ = some c.i ∧ W.cell? ⟨w.heap.size + 1, 0, none⟩ = some d.v ∧ W.cell? ⟨w.heap.size + 1, 1, none⟩ = some d.l ∧ W.cell? ⟨w.heap.size + 1, 2, none⟩ = some d.i ∧ w.heap.size < W.heap.size ∧ w.heap.size + 1 < W.heap.size ∧ KK w [(w.heap.size, c), (w.heap.size + 1, d)] W)
    (first
      | assumption
      | (exact KK.sp2 (by assumption))
      | (exact KK.sp2 (KK.drew (by assumption))))
    (first
      | (go_at_call 15; refine (HJ.out _ (KK.ok (g := w.heap.size) (by first | assumption | exact KK.drew (by assumption)) (by simp)) (KK.ok (g := w.heap.size + 1) (by first | assumption | exact KK.drew (by assumption)) (by simp))).mono ?_
         rintro e wa ⟨⟨z, rfl, hz, hok⟩, hb1⟩
         have hS1 := KK.next (by first | assumption | exact KK.drew (by assumption)) hb1
         have hS1' := hS1.sp2)
      | (go_at_call 14; refine (HE.out z _ hz hok (KK.ok (g := w.heap.size + 1) hS1 (by simp))).mono ?_
         rintro e wb ⟨rfl, hb2⟩
         have hS2 := KK.next hS1 hb2
         have hS2' := hS2.sp2))
  all_goals
    have HB := Lib.hid hS2.bel
    clear hS hS' hS1 hS1' hS2 hS2' hb1 hb2 hok
    go_wp2_with fail
    go_ret
    exact ⟨rfl, HB.out⟩

end

section
open Go.RowKit

/-- Rows are read as before where only a box of slices changes. -/
theorem SlAt.off_only {α : Type} {enc : α → List Value} {k g : Nat} {W W' : World} {A : Option Addr} {xs : List α} {t : TypeId} {z : Nat × Nat} {cur : List Value} (h : SlAt enc k W A xs) (h0 : ∀ x, ∃ u, (enc x)[0]? = some u ∧ NoSl u)
    (hg : W.heap[g]? = some (.cells cur.toArray t z)) (hc : ∀ u ∈ cur, ∃ A n c, u = .slice A n c) (hs : W.heap.size ≤ W'.heap.size) (hk : ∀ b, b ≠ g → W'.heap[b]? = W.heap[b]?) : SlAt enc k W' A xs := fun hn => by
  obtain ⟨b, off, rfl, hlt, hcc⟩ := h hn
  have hbg : b ≠ g := by
    rintro rfl
    obtain ⟨u, hu, hne⟩ := h0 xs[0]
    have := hcc 0 _ (List.getElem?_eq_getElem hn) 0 u hu
    simp only [World.cell?, hg] at this
    have hm : u ∈ cur := by
      have h1 : cur.toArray[off + 0 * k + 0]? = some u := this
      rw [List.getElem?_toArray] at h1
      exact List.mem_of_getElem? h1
    obtain ⟨A, n, c, e⟩ := hc u hm
    exact hne A n c e
  exact ⟨b, off, rfl, Nat.lt_of_lt_of_le hlt hs, fun j x hx i u hu => by
    have := hcc j x hx i u hu
    unfold World.cell? at this ⊢
    rw [hk b hbg]; exact this⟩
theorem CaOK.off_only {g : Nat} {W W' : World} {c d : CaV} (h : CaOK W c) (hg : BlkC W g d) (hs : W.heap.size ≤ W'.heap.size) (hk : ∀ b, b ≠ g → W'.heap[b]? = W.heap[b]?) : CaOK W' c := by
  have hc := KRj.slices d.V d.L d.I d.nv d.nl d.ni d.vs.length d.ls.length d.xs.length
  have hg' : W.heap[g]? = some (.cells ([d.v, d.l, d.i] : List Value).toArray 28 (0, 0)) := hg
  have hd : ∀ {v : Value} {l : List (Int × Int)}, Holds W v l → Holds W' v l := fun {v l} ⟨A, n, e, h1, h2⟩ => ⟨A, n, e, SlAt.off_only h1 (fun x => ⟨_, rfl, fun _ _ _ e => by cases e⟩) hg' hc hs hk, h2⟩
  obtain ⟨h1, h2, A, n, e, h3, h4⟩ := h
  exact ⟨hd h1, hd h2, A, n, e, ⟨SlAt.off_only h3.1 (fun x => ⟨_, rfl, fun _ _ _ e => by cases e⟩) hg' hc hs hk, fun x hx => ⟨SlAt.off_only (h3.2 x hx).1 (fun y => ⟨_, rfl, fun _ _ _ e => by cases e⟩) hg' hc hs hk, (h3.2 x hx).2⟩⟩, h4⟩

/-- While All of the reference runs. -/
structure KRa (w : World) (z : CaV) (W : World) : Prop where
  res : BlkC W w.heap.size zC
  out : BlkC W (w.heap.size + 1) z
  ok : CaOK W z
  bel : Below w.heap.size w W
section
variable {w W W' : World} {z : CaV}
theorem KRa.next (h : KRa w z W) (hb : Below W.heap.size W W') : KRa w z W' := ⟨h.res.below hb, h.out.below hb, h.ok.below hb, below_trans h.bel hb⟩
theorem KRa.drew (h : KRa w z W) : KRa w z W.drew := h.next (Below.refl _ _).drew
theorem KRa.set {z' : CaV} (h : KRa w z W) (hz : CaOK W z') : KRa w z' (((W.setCell ⟨w.heap.size + 1, 0, none⟩ z'.v).setCell ⟨w.heap.size + 1, 1, none⟩ z'.l).setCell ⟨w.heap.size + 1, 2, none⟩ z'.i) :=
  ⟨(set3_other W (w.heap.size + 1) w.heap.size _ _ _ (by omega)).trans h.res, BlkC.fill h.out _ _ _, hz.off_only h.out (by simp) (fun b hb => set3_other W (w.heap.size + 1) b _ _ _ hb), below_fill h.bel (by omega) _ _ _⟩
end

section
variable (w : World) (z c : CaV) (b off n cap k : Nat) (x : Ca)
def alP : Nat → Value → World → Prop
  | 0, v, _ => v = mkC z
  | 1, v, _ => v = .slice (some ⟨b, off, none⟩) n cap
  | 2, v, _ => v = .int .i64 k
  | 3, v, _ => v = .pointer (some ⟨b, off + k * 3, none⟩)
  | 4, v, _ => v = mkC c
  | 5, v, W => ∃ z' : CaV, v = mkC z' ∧ z'.ca = x ∧ CaOK W z'
  | _, _, _ => True
def alG (L : Nat → Bool) (W : World) : Prop := (L 6 = false → KRa w z W) ∧ (L 6 = true → ∃ z' : CaV, z'.ca = x ∧ KRa w z' W)
abbrev alS : RegS := ⟨fun _ => none, BelW, alG w z x, alP z c b off n cap k x, fun _ _ _ => True⟩
variable {w z c b off n cap k x}
theorem alP_keep {j : Nat} {v : Value} {W W' : World} (h : alP z c b off n cap k x j v W) (hk : ∀ y : CaV, CaOK W y → CaOK W' y) : alP z c b off n cap k x j v W' := by
  match j, h with
  | 0, h => exact h
  | 1, h => exact h
  | 2, h => exact h
  | 3, h => exact h
  | 4, h => exact h
  | 5, ⟨z', h1, h2, h3⟩ => exact ⟨z', h1, h2, hk z' h3⟩
  | j + 6, _ => exact trivial
theorem al_keep {L : Nat → Bool} {q : Nat} {W W' : World} (hq : q ≠ 6) (hG : alG w z x L W) (hb : BelW W W') : KeepsR (alS w z c b off n cap k x) L W W' ∧ alG w z x (moreL L q) W' := by
  refine ⟨⟨fun j v _ h => alP_keep h fun y hy => hy.below hb, fun _ _ _ _ => trivial⟩, ?_⟩
  have e6 : moreL L q 6 = L 6 := by unfold moreL; simp [Ne.symm hq]
  unfold alG
  rw [e6]
  exact ⟨fun h => (hG.1 h).next hb, fun h => by
    obtain ⟨z', h1, h2⟩ := hG.2 h
    exact ⟨z', h1, h2.next hb⟩⟩
end
set_option maxRecDepth 100000 in
set_option maxHeartbeats 8000000 in
theorem refAll11 (A : Option Addr) (cs : List CaV) (cap : Nat) (w : World) (hx : CartsAt w A cs) (h7 : cs.length ≤ 7) (hs : ∀ c ∈ cs, SizeK 1 c.ca) (hv : ∀ c ∈ cs, validK c.ca = true) :
    Calls Tryz.prog 18 #[.slice A cs.length cap] w (RefJ (allK (cs.map (·.ca))) w) := by
  have HX := Lib.hid hx
  have HSZ := Lib.hid (show ∀ k, validK (allK ((cs.take k).map (·.ca))) = true ∧ SizeK (cs.take k).length (allK ((cs.take k).map (·.ca))) from fun k => by
    have h1 : ∀ x ∈ (cs.take k).map (·.ca), validK x = true := fun x hx => by
      obtain ⟨c, hc, rfl⟩ := List.mem_map.1 hx
      exact hv c (List.mem_of_mem_take hc)
    have h2 : ∀ x ∈ (cs.take k).map (·.ca), SizeK 1 x := fun x hx => by
      obtain ⟨c, hc, rfl⟩ := List.mem_map.1 hx
      exact hs c (List.mem_of_mem_take hc)
    refine ⟨allK_valid h1, ?_⟩
    have := foldJ_size validK_zeroK h1 SizeK.zero h2
    rw [Nat.zero_add, List.length_map] at this
    exact this)
  have HV := Lib.hid hv
  have HS := Lib.hid hs
  have hba := (Below.refl w.heap.size w).alloc (Nat.le_refl _) (.cells #[zC.v, zC.l, zC.i] 28)
  have K0 : KRa w zC ((w.alloc (.cells #[zC.v, zC.l, zC.i] 28)).alloc (.cells #[zC.v, zC.l, zC.i] 28)) := by
    have h2 := BlkC.new (w.alloc (.cells #[zC.v, zC.l, zC.i] 28)) zC
    rw [World.size_alloc] at h2
    exact ⟨(BlkC.new w zC).below ((Below.refl _ _).alloc (Nat.le_refl _) _), h2, zC_ok _, below_trans hba ((Below.refl _ _).alloc (Nat.le_refl _) _)⟩
  have HK := Lib.hid K0
  clear hx hs hv K0 hba
  go_enter Tryz.func18, Tryz.ntmps18
  go_wp2_with fail
  generalize World.alloc (World.alloc w _) _ = w2 at HK ⊢
  go_loopw [4] (fun i wr => ∃ (k : Nat) (z : CaV), k ≤ cs.length ∧ i = .int .i64 k ∧ Hid (z.ca = allK ((cs.take k).map (·.ca))) ∧ Hid (KRa w z wr)) (fun i _ => cs.length - (intOf i).toNat)
  case atStart => exact ⟨0, zC, by omega, rfl, show Hid _ from rfl, HK⟩
  case round =>
    clear HK
    obtain ⟨k, z, hk, rfl, hz, hK⟩ := hrel
    by_cases hlt : k < cs.length
    · have i0 : (k : Int) < (cs.length : Int) := by omega
      obtain ⟨b, off, c, rfl, hbl, hck, c0, c1, c2, hok⟩ := HX.out.at (j := k) hlt
      have hmem := List.mem_of_getElem? hck
      have hst : allK ((cs.take (k + 1)).map (·.ca)) = joinK z.ca c.ca := by
        rw [take_snoc hck, List.map_append, hz.out]
        show List.foldl joinK zeroK (_ ++ [c.ca]) = _
        rw [List.foldl_append]; rfl
      have HST := Lib.hid hst
      obtain ⟨hv1, hs1⟩ := HSZ.out k
      rw [← hz.out] at hv1 hs1
      have hl : (cs.take k).length = k := by rw [List.length_take]; omega
      rw [hl] at hs1
      have HJ := Lib.hid fun W (h : CaOK W z) (h' : CaOK W c) => refJoin11 z c k 1 W h h' hs1 (HS.out c hmem) (by omega) hv1 (HV.out c hmem)
      have HCK := Lib.hid (show ∀ W, KRa w z W → CaOK W c ∧ W.cell? ⟨b, off + k * 3, none⟩ = some c.v ∧ W.cell? ⟨b, off + k * 3 + 1, none⟩ = some c.l ∧ W.cell? ⟨b, off + k * 3 + 2, none⟩ = some c.i from fun W h => ⟨hok.below h.bel, (h.bel.cell (p := ⟨b, off + k * 3, none⟩) hbl).trans c0, (h.bel.cell (p := ⟨b, off + k * 3 + 1, none⟩) hbl).trans c1, (h.bel.cell (p := ⟨b, off + k * 3 + 2, none⟩) hbl).trans c2⟩)
      clear hck hmem hst hv1 hs1 hl c0 c1 c2 hok
      go_upto_region 5 with fail
      have hnb : ∀ {k : Nat}, ∀ j, (fun _ : Nat => (none : Option Nat)) j ≠ some k := fun j h => by cases h
      have hkp : ∀ {q : Nat}, q ≠ 6 → ∀ L W W', alG w z (joinK z.ca c.ca) L W → BelW W W' → KeepsR (alS w z c b off cs.length cap k (joinK z.ca c.ca)) L W W' ∧ alG w z (joinK z.ca c.ca) (moreL L q) W' := fun hq L W W' hG hb => al_keep hq hG hb
      refine wp_region_R (S := alS w z c b off cs.length cap k (joinK z.ca c.ca)) (by kernel_rfl) (by kernel_rfl) (by kernel_rfl) (dst_small (n := 18) (by kernel_rfl)) (fun j k h => by cases h) (fun j j' k h1 h2 => by cases h1)
        ⟨fun _ => hK.out.drew, fun h => (by cases h)⟩
        (fun j k v W h hp => by cases h) (fun _ j v W W' m k b _ hm => by cases hm) (fun _ j v W W' m k b _ hm => by cases hm) ?_ ?_
      · refine ⟨StepR.pure rfl rfl hnb (fun W => Below.refl _ W) (hkp (by decide)) fun L a W hI hk hd => ⟨rfl, mkC z, ?_, rfl⟩,
          StepR.pure rfl rfl hnb (fun W => Below.refl _ W) (hkp (by decide)) fun L a W hI hk hd => ⟨rfl, .slice (some ⟨b, off, none⟩) cs.length cap, ?_, rfl⟩,
          StepR.pure rfl rfl hnb (fun W => Below.refl _ W) (hkp (by decide)) fun L a W hI hk hd => ⟨rfl, .int .i64 k, ?_, rfl⟩,
          StepR.pure rfl rfl hnb (fun W => Below.refl _ W) (hkp (by decide)) fun L a W hI hk hd => ⟨rfl, .pointer (some ⟨b, off + k * 3, none⟩), ?_, rfl⟩,
          StepR.pure rfl rfl hnb (fun W => Below.refl _ W) (hkp (by decide)) fun L a W hI hk hd => ⟨rfl, mkC c, ?_, rfl⟩,
          StepR.call rfl rfl hnb (hkp (by decide)) fun L a W hI hk hd => ⟨rfl, 15, #[mkC z, mkC c], ?_, ?_⟩,
          StepR.skipL rfl rfl hnb rfl fun L a W hI hk hd => ⟨rfl, ?_⟩, trivial⟩
        · have hL : L 6 = false := hI.before (o := _) rfl (k := 0) rfl hk
          have hq := (hI.glob.1 hL).out
          have e3 : a.tmps[3]?.getD undef = .pointer (some ⟨w.heap.size + 1, 0, none⟩) := hI.at 3 (by kernel_rfl)
          have c0 := hq.cell0
          have c1 := hq.cell1
          have c2 := hq.cell2
          clear hq
          go_simp
        · have e0 : a.tmps[0]?.getD undef = .slice (some ⟨b, off, none⟩) cs.length cap := hI.at 0 (by kernel_rfl)
          go_simp
        · have e4 : a.tmps[4]?.getD undef = .int .i64 k := hI.at 4 (by kernel_rfl)
          go_simp
        · obtain ⟨_, e12, rfl⟩ := hI.get 1 12 (hd 1 rfl) rfl
          obtain ⟨_, e13, rfl⟩ := hI.get 2 13 (hd 2 rfl) rfl
          go_simp
        · have hL : L 6 = false := hI.before (o := _) rfl (k := 4) rfl hk
          obtain ⟨_, c0, c1, c2⟩ := HCK.out W (hI.glob.1 hL)
          obtain ⟨_, e14, rfl⟩ := hI.get 3 14 (hd 3 rfl) rfl
          go_simp
        · obtain ⟨_, e11, rfl⟩ := hI.get 0 11 (hd 0 rfl) rfl
          obtain ⟨_, e15, rfl⟩ := hI.get 4 15 (hd 4 rfl) rfl
          go_simp
        · have hL : L 6 = false := hI.before (o := _) rfl (k := 5) rfl hk
          have hq := hI.glob.1 hL
          refine (HJ.out W hq.ok (HCK.out W hq).1).mono ?_
          rintro e W' ⟨⟨z', rfl, hz', hok'⟩, hb⟩
          exact ⟨_, rfl, hb, z', rfl, hz', hok'⟩
        · have hq := hI.glob.1 hk
          obtain ⟨_, e16, z', rfl, hz', hok'⟩ := hI.get 5 16 (hd 5 rfl) rfl
          have e3 : a.tmps[3]?.getD undef = .pointer (some ⟨w.heap.size + 1, 0, none⟩) := hI.at 3 (by kernel_rfl)
          have c0 := hq.out.cell0
          have c1 := hq.out.cell1
          have c2 := hq.out.cell2
          obtain ⟨f0, f1, f2⟩ := hq.out.frozens
          refine ⟨_, ?_, ⟨fun j v hj hp => alP_keep hp fun y hy => hy.off_only hq.out (by simp) (fun b hb => set3_other W (w.heap.size + 1) b z'.v z'.l z'.i hb), fun _ _ _ _ => trivial⟩, fun h6 => (by cases h6), fun _ => ⟨z', hz', hq.set hok'⟩⟩
          clear hq hz' hok'
          go_simp
      · intro a W L hL hI
        obtain ⟨z', hz', hk'⟩ := hI.glob.2 (hL 6 (by decide))
        have HZ' := Lib.hid (hz'.trans HST.out.symm)
        have HK' := Lib.hid hk'
        rw [hI.frame]
        simp only [List.filterMap, List.foldl]
        generalize a.eval (.tmp 11) = v11
        generalize a.eval (.tmp 12) = v12
        generalize a.eval (.tmp 13) = v13
        generalize a.eval (.tmp 14) = v14
        generalize a.eval (.tmp 15) = v15
        generalize a.eval (.tmp 16) = v16
        clear hI hL hz' hk' hnb hkp HJ HCK hz hK HST
        simp only [List.setIfInBounds_toArray, List.set_cons_succ, List.set_cons_zero]
        go_wp2_with fail
        go_roundw
        case rel => exact ⟨k + 1, z', by omega, by go_num, HZ', HK'⟩
        case measure => simp [intOf]; omega
    · obtain rfl : k = cs.length := by omega
      have i0 : ¬ (cs.length : Int) < (cs.length : Int) := by omega
      have hz2 : z.ca = allK (cs.map (·.ca)) := by have := hz.out; rwa [List.take_length] at this
      have o0 := hK.out.out.cell0
      have o1 := hK.out.out.cell1
      have o2 := hK.out.out.cell2
      have ol := hK.out.out.lt
      obtain ⟨r0, r1, r2, f0, f1, f2⟩ := results_zero hK.out.res
      have hrl := hK.out.res.lt
      have HFA := Lib.hid (fill_cells hK.out.res z.v z.l z.i)
      have HR := Lib.hid (show RefJ (allK (cs.map (·.ca))) w (.returned (mkC z)) (((wr.setCell ⟨w.heap.size, 0, none⟩ z.v).setCell ⟨w.heap.size, 1, none⟩ z.l).setCell ⟨w.heap.size, 2, none⟩ z.i) from
        ⟨⟨z, rfl, hz2, hK.out.ok.off_only hK.out.res (by simp) (fun b hb => set3_other wr w.heap.size b _ _ _ hb)⟩, below_fill hK.out.bel (Nat.le_refl _) _ _ _⟩)
      clear hz2 hz hK hlt hk
      go_wp2_with fail
      obtain ⟨s0, s1, s2⟩ := HFA.out
      exact bodyPost_ret (v := .agg #[z.v, z.l, z.i]) (by simp [results, Tryz.results18, go_sem, s0, s1, s2]) rfl HR.out

end

section
open Go.RowKit

theorem KK.sp3 {w W : World} {g g' g'' : Nat} {c d t : CaV} (h : KK w [(g, c), (g', d), (g'', t)] W) : W.cell? ⟨g, 0, none⟩ = some c.v ∧ W.cell? ⟨g, 1, none⟩ = some c.l ∧ W.cell? ⟨g, 2, none⟩ = some c.i ∧ W.cell? ⟨g', 0, none⟩ = some d.v ∧ W.cell? ⟨g', 1, none⟩ = some d.l ∧ W.cell? ⟨g', 2, none⟩ = some d.i ∧ W.cell? ⟨g'', 0, none⟩ = some t.v ∧ W.cell? ⟨g'', 1, none⟩ = some t.l ∧ W.cell? ⟨g'', 2, none⟩ = some t.i ∧ g'' < W.heap.size :=
  ⟨(h.blk (g := g) (c := c) (by simp)).cell0, (h.blk (g := g) (c := c) (by simp)).cell1, (h.blk (g := g) (c := c) (by simp)).cell2, (h.blk (g := g') (c := d) (by simp)).cell0, (h.blk (g := g') (c := d) (by simp)).cell1, (h.blk (g := g') (c := d) (by simp)).cell2, (h.blk (g := g'') (c := t) (by simp)).cell0, (h.blk (g := g'') (c := t) (by simp)).cell1, (h.blk (g := g'') (c := t) (by simp)).cell2, (h.blk (g := g'') (c := t) (by simp)).lt⟩
set_option maxRecDepth 100000 in
set_option maxHeartbeats 4000000 in
theorem lawJoins11 (c d t : CaV) (k : Int) (n m : Nat) (b : Bool) (w : World) (hc : CaOK w c) (hd : CaOK w d) (ht : CaOK w t) (htl : t.xs.length ≤ 100000) (hn : SizeK n c.ca) (hm : SizeK m d.ca) (h1 : n ≤ 7) (h2 : m ≤ 7) (hb : (sameC (joinV c.ca d.ca) t.ca && (joinE c.ca d.ca == k)) = b) :
    Calls Tryz.prog 11 #[mkC c, mkC d, mkC t, .int .i64 k] w (OneB (.bool b) w) := by
  have hb1 := (Below.refl w.heap.size w).alloc (Nat.le_refl _) (.cells #[c.v, c.l, c.i] 28)
  have KA := KK.push (L := [(w.heap.size, c)]) (KK.new w c hc) d (hd.below hb1) (w.heap.size + 1) (by simp)
  have K0 := Lib.hid (KK.push KA t (ht.below KA.bel) (w.heap.size + 2) (by simp))
  have HJ := Lib.hid fun W (h : CaOK W c) (h' : CaOK W d) => joJoin c d n m W h h' hn hm h1 h2
  have HL := Lib.hid (show ∀ z : CaV, z.ca = joinV c.ca d.ca → z.xs.length ≤ 100000 from fun z hz => by
    have := CaV.num (c := z) (hz ▸ joinV_size hn hm)
    omega)
  generalize joinV c.ca d.ca = v at *
  generalize joinE c.ca d.ca = e0 at *
  obtain ⟨q, hq⟩ : ∃ q, sameC v t.ca = q := ⟨_, rfl⟩
  rw [hq] at hb
  have HQ := Lib.hid fun (z : CaV) W (hz : z.ca = v) (h : CaOK W z) (h' : CaOK W t) => refEqual10 z t q W h h' (HL.out z hz) htl (by rw [hz]; exact hq)
  clear hc hd ht htl hn hm h1 h2 hb1 KA hq HL
  go_enter Tryz.func11, Tryz.ntmps11
  go_wp2_with fail
  generalize World.alloc (World.alloc (World.alloc w _) _) _ = w2 at K0 ⊢
  obtain ⟨x0, x1, x2, x3, x4, x5, x6, x7, x8, xl⟩ := K0.out.sp3
  go_wp2_with fail
  refine (HJ.out w2 (K0.out.ok (g := w.heap.size) (by simp)) (K0.out.ok (g := w.heap.size + 1) (by simp))).mono ?_
  rintro e w3 ⟨⟨z, rfl, hz, ho⟩, hb3⟩
  have K1 := Lib.hid (K0.out.next hb3)
  have K2 := Lib.hid (KK.push (K0.out.next hb3) z ho.ok _ rfl)
  have HZ := Lib.hid hz
  clear hz ho hb3 K0 HJ x0 x1 x2 x3 x4 x5 x6 x7 x8 xl
  obtain ⟨_, _, _, _, _, _, x6, x7, x8, xl⟩ := K1.out.sp3
  go_wp2_with fail
  refine (HQ.out z _ HZ.out (K2.out.ok (g := w3.heap.size) (by simp)) (K2.out.ok (g := w.heap.size + 2) (by simp))).mono ?_
  rintro e w4 ⟨rfl, hb4⟩
  have HB := Lib.hid (below_trans K2.out.bel hb4)
  clear hb4 K1 K2 x6 x7 x8 xl
  cases q with
  | false =>
    obtain rfl : false = b := by simpa using hb
    go_wp2_with fail
    go_ret
    exact ⟨rfl, HB.out⟩
  | true =>
    have HE := Lib.hid (show (e0 == k) = b from by simpa using hb)
    clear hb
    go_wp2_with fail
    go_ret
    exact OneB.bool HE.out HB.out

end

section
open Go.RowKit

set_option maxRecDepth 100000 in
set_option maxHeartbeats 4000000 in
theorem lawWithin11 (c d : CaV) (u : Bool) (k : Int) (n m : Nat) (b : Bool) (w : World) (hc : CaOK w c) (hd : CaOK w d) (hn : SizeK n c.ca) (hm : SizeK m d.ca) (h1 : n ≤ 7) (h2 : m ≤ 7) (hb : ((withinJ c.ca d.ca == u) && (joinE c.ca d.ca == k)) = b) :
    Calls Tryz.prog 19 #[mkC c, mkC d, .bool u, .int .i64 k] w (OneB (.bool b) w) := by
  have hb1 := (Below.refl w.heap.size w).alloc (Nat.le_refl _) (.cells #[c.v, c.l, c.i] 28)
  have K0 := Lib.hid (KK.push (L := [(w.heap.size, c)]) (KK.new w c hc) d (hd.below hb1) (w.heap.size + 1) (by simp))
  have HJ := Lib.hid fun W (h : CaOK W c) (h' : CaOK W d) => joWithin c d n m W h h' hn hm h1 h2
  generalize withinJ c.ca d.ca = v at *
  generalize joinE c.ca d.ca = e0 at *
  clear hc hd hn hm h1 h2 hb1
  go_enter Tryz.func19, Tryz.ntmps19
  go_wp2_with fail
  generalize World.alloc (World.alloc w _) _ = w2 at K0 ⊢
  obtain ⟨x0, x1, x2, x3, x4, x5, _⟩ := K0.out.sp2
  go_wp2_with fail
  refine (HJ.out w2 (K0.out.ok (g := w.heap.size) (by simp)) (K0.out.ok (g := w.heap.size + 1) (by simp))).mono ?_
  rintro e w3 ⟨rfl, hb3⟩
  have HB := Lib.hid (below_trans K0.out.bel hb3)
  clear hb3 K0 HJ x0 x1 x2 x3 x4 x5
  cases v <;> cases u
  · have HE := Lib.hid (show (e0 == k) = b from by simpa using hb)
    clear hb
    go_wp2_with fail
    go_ret
    exact OneB.bool HE.out HB.out
  · obtain rfl : false = b := by simpa using hb
    go_wp2_with fail
    go_ret
    exact ⟨rfl, HB.out⟩
  · obtain rfl : false = b := by simpa using hb
    go_wp2_with fail
    go_ret
    exact ⟨rfl, HB.out⟩
  · have HE := Lib.hid (show (e0 == k) = b from by simpa using hb)
    clear hb
    go_wp2_with fail
    go_ret
    exact OneB.bool HE.out HB.out
set_option maxRecDepth 100000 in
set_option maxHeartbeats 4000000 in
theorem lawFits11 (c d : CaV) (u : Bool) (k : Int) (n m : Nat) (b : Bool) (w : World) (hc : CaOK w c) (hd : CaOK w d) (hn : SizeK n c.ca) (hm : SizeK m d.ca) (h1 : n ≤ 7) (h2 : m ≤ 7) (hb : ((fitsV c.ca d.ca == u) && (joinE c.ca d.ca == k)) = b) :
    Calls Tryz.prog 20 #[mkC c, mkC d, .bool u, .int .i64 k] w (OneB (.bool b) w) := by
  have hb1 := (Below.refl w.heap.size w).alloc (Nat.le_refl _) (.cells #[c.v, c.l, c.i] 28)
  have K0 := Lib.hid (KK.push (L := [(w.heap.size, c)]) (KK.new w c hc) d (hd.below hb1) (w.heap.size + 1) (by simp))
  have HJ := Lib.hid fun W (h : CaOK W c) (h' : CaOK W d) => joFits c d n m W h h' hn hm h1 h2
  generalize fitsV c.ca d.ca = v at *
  generalize joinE c.ca d.ca = e0 at *
  clear hc hd hn hm h1 h2 hb1
  go_enter Tryz.func20, Tryz.ntmps20
  go_wp2_with fail
  generalize World.alloc (World.alloc w _) _ = w2 at K0 ⊢
  obtain ⟨x0, x1, x2, x3, x4, x5, _⟩ := K0.out.sp2
  go_wp2_with fail
  refine (HJ.out w2 (K0.out.ok (g := w.heap.size) (by simp)) (K0.out.ok (g := w.heap.size + 1) (by simp))).mono ?_
  rintro e w3 ⟨rfl, hb3⟩
  have HB := Lib.hid (below_trans K0.out.bel hb3)
  clear hb3 K0 HJ x0 x1 x2 x3 x4 x5
  cases v <;> cases u
  · have HE := Lib.hid (show (e0 == k) = b from by simpa using hb)
    clear hb
    go_wp2_with fail
    go_ret
    exact OneB.bool HE.out HB.out
  · obtain rfl : false = b := by simpa using hb
    go_wp2_with fail
    go_ret
    exact ⟨rfl, HB.out⟩
  · obtain rfl : false = b := by simpa using hb
    go_wp2_with fail
    go_ret
    exact ⟨rfl, HB.out⟩
  · have HE := Lib.hid (show (e0 == k) = b from by simpa using hb)
    clear hb
    go_wp2_with fail
    go_ret
    exact OneB.bool HE.out HB.out
set_option maxRecDepth 100000 in
set_option maxHeartbeats 4000000 in
theorem lawAll11 (A : Option Addr) (cs : List CaV) (cap : Nat) (t : CaV) (k : Int) (b : Bool) (w : World) (hx : CartsAt w A cs) (hcap : cs.length ≤ cap) (hcm : cap ≤ maxLen) (h7 : cs.length ≤ 7) (hs : ∀ c ∈ cs, SizeK 1 c.ca) (ht : CaOK w t) (htl : t.xs.length ≤ 100000) (hb : (sameC (allV (cs.map (·.ca))) t.ca && (allE (cs.map (·.ca)) == k)) = b) :
    Calls Tryz.prog 17 #[.slice A cs.length cap, mkC t, .int .i64 k] w (OneB (.bool b) w) := by
  have hba := (Below.refl w.heap.size w).alloc (Nat.le_refl _) (.cells #[t.v, t.l, t.i] 28)
  have K0 := Lib.hid (KK.new w t ht)
  have HX := Lib.hid (hx.below hba)
  have HJ := Lib.hid fun W (h : CartsAt W A cs) => joAll cs.length A cs cap W (Nat.le_refl _) h hcap hcm h7 hs
  have HL := Lib.hid (show ∀ z : CaV, z.ca = allV (cs.map (·.ca)) → z.xs.length ≤ 100000 from fun z hz => by
    have h1 := allV_size (l := cs.map (·.ca)) (fun x hx => by obtain ⟨c, hc, rfl⟩ := List.mem_map.1 hx; exact hs c hc)
    have := CaV.num (c := z) (hz ▸ h1)
    rw [List.length_map] at this
    omega)
  generalize allV (cs.map (·.ca)) = v at *
  generalize allE (cs.map (·.ca)) = e0 at *
  obtain ⟨q, hq⟩ : ∃ q, sameC v t.ca = q := ⟨_, rfl⟩
  rw [hq] at hb
  have HQ := Lib.hid fun (z : CaV) W (hz : z.ca = v) (h : CaOK W z) (h' : CaOK W t) => refEqual10 z t q W h h' (HL.out z hz) htl (by rw [hz]; exact hq)
  clear hx ht htl hs hba hq HL
  go_enter Tryz.func17, Tryz.ntmps17
  go_wp2_with fail
  refine (HJ.out _ HX.out).mono ?_
  rintro e w3 ⟨⟨z, rfl, hz, ho⟩, hb3⟩
  have K1 := Lib.hid (K0.out.next hb3)
  have K2 := Lib.hid (KK.push (K0.out.next hb3) z ho.ok _ rfl)
  have HZ := Lib.hid hz
  clear hz ho hb3 K0 HJ HX
  obtain ⟨x6, x7, x8, xl, _⟩ := K1.out.sp
  go_wp2_with fail
  refine (HQ.out z _ HZ.out (K2.out.ok (g := w3.heap.size) (by simp)) (K2.out.ok (g := w.heap.size) (by simp))).mono ?_
  rintro e w4 ⟨rfl, hb4⟩
  have HB := Lib.hid (below_trans K2.out.bel hb4)
  clear hb4 K1 K2 x6 x7 x8 xl
  cases q with
  | false =>
    obtain rfl : false = b := by simpa using hb
    go_wp2_with fail
    go_ret
    exact ⟨rfl, HB.out⟩
  | true =>
    have HE := Lib.hid (show (e0 == k) = b from by simpa using hb)
    clear hb
    go_wp2_with fail
    go_ret
    exact OneB.bool HE.out HB.out

end

section
open Go.RowKit

set_option maxRecDepth 100000 in
set_option maxHeartbeats 8000000 in
theorem lawSpoil11 (c : CaV) (B : Nat) (w : World) (hv : DtsO w B c.V c.vs.length) (hd : DtsO w B c.L c.ls.length) (hi : OwnI w B c.i c.xs) (hB : B ≤ w.heap.size) (h1 : c.vs.length ≤ 100000) (h2 : c.ls.length ≤ 100000) (hm : c.xs.length ≤ 100000) (hl : ∀ x ∈ c.xs, x.nm.length ≤ 100000) :
    Calls Tryz.prog 16 #[mkC c] w fun e w' => e = .returned (.tuple #[]) ∧ Below B w w' := by
  have hba : Below w.heap.size w (w.alloc (.cells #[c.v, c.l, c.i] 28)) := (Below.refl _ w).alloc (Nat.le_refl _) _
  have K0 := Lib.hid (show KP w B c (w.alloc (.cells #[c.v, c.l, c.i] 28)) from ⟨BlkC.new w c, hv.below hba, hd.below hba, hi.below hba, hba.mono hB⟩)
  have HL := Lib.hid hl
  clear hv hd hi hl hba
  go_enter Tryz.func16, Tryz.ntmps16
  go_upto_region 1 with fail
  generalize World.alloc w _ = w2 at K0 ⊢
  have x0 := K0.out.box.cell0
  have x1 := K0.out.box.cell1
  have x2 := K0.out.box.cell2
  have xl := K0.out.box.lt
  go_wp2_with fail
  clear x0 x1 x2 xl
  go_loopw [2, 10] (fun _ i wr => ∃ k : Nat, k ≤ c.vs.length ∧ i = .int .i64 k ∧ Hid (KP w B c wr)) (fun _ i _ => c.vs.length - (intOf i).toNat)
  case atStart => exact ⟨0, by omega, rfl, K0⟩
  case round =>
    clear K0
    obtain ⟨k, hk, rfl, K⟩ := hrel
    have x0 := K.out.box.cell0
    have x1 := K.out.box.cell1
    have x2 := K.out.box.cell2
    have xl := K.out.box.lt
    by_cases hlt : k < c.vs.length
    · have i0 : (k : Int) < (c.vs.length : Int) := by omega
      obtain h0 | ⟨g, hA, hD⟩ := K.out.dv
      · omega
      · obtain ⟨q, hq⟩ := hD.num k hlt
        have hf := hD.frozen (k * 2 + 1)
        have hgl := hD.lt
        have HK := Lib.hid fun x => K.out.store (o := k * 2 + 1) hD x
        change wr.cell? _ = some (.slice c.V c.vs.length c.nv) at x0
        rw [hA] at x0
        clear hD hA K
        go_wp2_with fail
        go_roundw
        case rel => exact ⟨k + 1, by omega, by go_num, HK.out _⟩
        case measure => simp [intOf]; omega
    · have i0 : ¬ (k : Int) < (c.vs.length : Int) := by omega
      clear hlt hk
      have HK := Lib.hid K.out
      clear K
      go_wp2_with fail
      clear x0 x1 x2 xl i0
      go_loopw [3, 28] (fun _ i wr => ∃ k : Nat, k ≤ c.ls.length ∧ i = .int .i64 k ∧ Hid (KP w B c wr)) (fun _ i _ => c.ls.length - (intOf i).toNat)
      case atStart => exact ⟨0, by omega, rfl, HK⟩
      case round =>
        clear HK
        obtain ⟨k, hk, rfl, K⟩ := hrel
        have x0 := K.out.box.cell0
        have x1 := K.out.box.cell1
        have x2 := K.out.box.cell2
        have xl := K.out.box.lt
        by_cases hlt : k < c.ls.length
        · have i0 : (k : Int) < (c.ls.length : Int) := by omega
          obtain h0 | ⟨g, hA, hD⟩ := K.out.dl
          · omega
          · obtain ⟨q, hq⟩ := hD.num k hlt
            have hf := hD.frozen (k * 2 + 1)
            have hgl := hD.lt
            have HK := Lib.hid fun x => K.out.store (o := k * 2 + 1) hD x
            change wr.cell? _ = some (.slice c.L c.ls.length c.nl) at x1
            rw [hA] at x1
            clear hD hA K
            go_wp2_with fail
            go_roundw
            case rel => exact ⟨k + 1, by omega, by go_num, HK.out _⟩
            case measure => simp [intOf]; omega
        · have i0 : ¬ (k : Int) < (c.ls.length : Int) := by omega
          clear hlt hk
          by_cases hx0 : 0 < c.xs.length
          · obtain ⟨g, d, _, hI, _, _⟩ := K.out.own.1.form hx0
            have HKQ := Lib.hid (show KQ w B g c.xs.length d 100000 c wr c.xs from ⟨K.out.box, ⟨by rw [← hI]; exact K.out.own, rfl, HL.out, K.out.bel⟩⟩)
            rw [hI] at x2
            clear K
            go_wp2_with fail
            clear x0 x1 x2 xl i0 HL
            have HI := Lib.hid hI
            clear hI
            generalize hn : c.xs.length = n at *
            have HN := Lib.hid hn
            clear hn
            have HKQ' := Lib.hid (show ∃ ys, KQ w B g n d 100000 c wr ys from ⟨_, HKQ.out⟩)
            clear HKQ
            go_loopw [4, 5, 45] (fun _ _ i wr => ∃ (k : Nat) (ys : List ItV), k ≤ n ∧ i = .int .i64 k ∧ Hid (KQ w B g n d 100000 c wr ys)) (fun _ _ i _ => n - (intOf i).toNat)
            case atStart =>
              obtain ⟨ys, hys⟩ := HKQ'.out
              exact ⟨0, ys, by omega, rfl, hys⟩
            case round =>
              clear HKQ'
              obtain ⟨j, ys, hk, rfl, K⟩ := hrel
              have y2 := K.out.box.cell2
              rw [HI.out] at y2
              have yl := K.out.box.lt
              by_cases hlt : j < n
              · have i0 : (j : Int) < (n : Int) := by omega
                obtain ⟨x, hx⟩ : ∃ x, ys[j]? = some x := ⟨_, List.getElem?_eq_getElem (by rw [K.out.spo.len]; exact hlt)⟩
                obtain ⟨c0, c1, f0, hgl, _⟩ := K.out.spo.cells hx
                obtain ⟨A, m, cx, hA, hm1, hcx⟩ : ∃ A m cx, x.A = A ∧ x.ms.length = m ∧ x.c = cx := ⟨_, _, _, rfl, rfl, rfl⟩
                have HX2 := Lib.hid (show ∃ ys y, Hid (KQ w B g n d 100000 c wr ys) ∧ ys[j]? = some y ∧ y.A = A ∧ y.c = cx ∧ y.ms.length = m from ⟨_, _, K, hx, hA, hcx, hm1⟩)
                have hmm : m ≤ 9223372036854775807 := by
                  obtain ⟨zs, z, K2, hz, _, _, hz3⟩ := HX2.out
                  have := (RowM.ok (K2.out.spo.own.2 z (List.mem_of_getElem? hz))).len
                  unfold maxLen at this; omega
                rw [hA, hm1, hcx] at c1
                clear K hx hA hm1 hcx
                go_wp2_with fail
                clear c0 c1 f0 hgl y2 yl
                go_loopw [5, 55] (fun _ i wr => ∃ (k : Nat) (ys : List ItV) (y : ItV), k ≤ m ∧ i = .int .i64 k ∧ Hid (KQ w B g n d 100000 c wr ys) ∧ Hid (ys[j]? = some y) ∧ Hid (y.A = A) ∧ Hid (y.c = cx) ∧ Hid (y.ms.length = m)) (fun _ i _ => m - (intOf i).toNat)
                case atStart =>
                  obtain ⟨zs, z, K2, hz, hz1, hz2, hz3⟩ := HX2.out
                  exact ⟨0, zs, z, by omega, rfl, K2, Lib.hid hz, Lib.hid hz1, Lib.hid hz2, Lib.hid hz3⟩
                case round =>
                  clear HX2
                  obtain ⟨k, zs, z, hk2, rfl, K2, hz, hz1, hz2, hz3⟩ := hrel
                  by_cases hkm : k < m
                  · have i1 : (k : Int) < (m : Int) := by omega
                    have y2 := K2.out.box.cell2
                    rw [HI.out] at y2
                    have yl := K2.out.box.lt
                    obtain ⟨d0, d1, _, hgl2, _⟩ := K2.out.spo.cells hz.out
                    rw [hz1.out, hz2.out, hz3.out] at d1
                    obtain ⟨b, q, hA, e0, e1, hbl, hnx⟩ := K2.out.marks (k := k) hz.out (by rw [hz3.out]; exact hkm)
                    rw [hz1.out] at hA
                    subst hA
                    have HNX := Lib.hid (hnx (wrap64 (q + 1)))
                    clear hnx d0
                    go_wp2_with fail
                    go_roundw
                    case rel =>
                      obtain ⟨us, u, K3, hu, hu1, hu2, hu3⟩ := HNX.out
                      exact ⟨k + 1, us, u, by omega, by go_num, Lib.hid K3, Lib.hid hu, Lib.hid (hu1.trans hz1.out), Lib.hid (hu2.trans hz2.out), Lib.hid (hu3.trans hz3.out)⟩
                    case measure => simp [intOf]; omega
                  · have i1 : ¬ (k : Int) < (m : Int) := by omega
                    clear hz hz1 hz2 hz3
                    go_wp2_with fail
                    go_roundw
                    case rel => exact ⟨j + 1, zs, by omega, by go_num, K2⟩
                    case measure => simp [intOf]; omega
              · have i0 : ¬ (j : Int) < (n : Int) := by omega
                have HB := Lib.hid K.out.spo.bel
                clear K
                go_wp2_with fail
                exact ⟨rfl, .tuple #[], results_none (by kernel_rfl) _ _ _, rfl, HB.out⟩
          · have hz : c.xs.length = 0 := by omega
            obtain ⟨ws, hws⟩ : ∃ W, W = wr := ⟨_, rfl⟩
            have HB := Lib.hid K.out.bel
            change _ = some (Value.slice c.I c.xs.length c.ni) at x2
            rw [hz] at x2
            clear K HL
            go_wp2_with fail
            go_loopw [4, 5, 45] (fun _ _ i wx => i = .int .i64 0 ∧ Hid (Below B w wx)) (fun _ _ _ _ => 0)
            case atStart => exact ⟨rfl, HB⟩
            case round =>
              obtain ⟨rfl, hb⟩ := hrel
              go_wp2_with fail
              exact ⟨rfl, .tuple #[], results_none (by kernel_rfl) _ _ _, rfl, hb.out⟩

end

end Go.Proofs.YtfjbocipjmpogaaGreat
