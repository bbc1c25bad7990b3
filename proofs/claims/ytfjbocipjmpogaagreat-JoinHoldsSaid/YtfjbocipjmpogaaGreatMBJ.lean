/- Several texts in one: JoiW. -/
import Derived.Test.YtfjbocipjmpogaaGreatMBI
import Derived.Test.YtfjbocipjmpogaaGreatMAZ
namespace Go.Proofs.YtfjbocipjmpogaaGreat

section
open Go.RowKit

/-- A cart that a call of the reference has made. -/
def RefJ (x : Ca) (w : World) (e : Ending) (w' : World) : Prop := (∃ z : CaV, e = .returned (mkC z) ∧ z.ca = x ∧ CaOK w' z) ∧ Below w.heap.size w w'
/-- The items behind the first names. -/
def outJ (a b : Ca) (k : Nat) : List It := ((namesJ a b).take k).foldl (stepJ a b (dotsJ a b)) []
theorem outJ_step {a b : Ca} {k : Nat} {nm : List UInt8} (h : (namesJ a b)[k]? = some nm) : outJ a b (k + 1) = stepJ a b (dotsJ a b) (outJ a b k) nm := by
  unfold outJ
  rw [take_snoc h, List.foldl_append]; rfl
theorem outJ_all (a b : Ca) : outJ a b (namesJ a b).length = joinI a b := by unfold outJ joinI; rw [List.take_length]
theorem outJ_in {a b : Ca} {k : Nat} : IncN (outJ a b k) ∧ ∀ x ∈ outJ a b k, x ∈ joinI a b := by
  obtain ⟨h1, h2⟩ := joinI_inv (a := a) (b := b) ((namesJ a b).take k) [] [] List.Pairwise.nil (fun x => by simp)
  refine ⟨h1, fun x hx => ?_⟩
  obtain ⟨h3, h4⟩ := (h2 x).1 hx
  exact mem_joinI.2 ⟨List.mem_of_mem_take (by simpa using h3), h4⟩
theorem outJ_fits {a b : Ca} {n m k : Nat} {ys : List ItV} (ha : validK a = true) (hb : validK b = true) (hn : SizeK n a) (hm : SizeK m b) (h7 : n + m ≤ 7) (hy : its ys = outJ a b k) : Fits ys := by
  have hs := joinK_size ha hb hn hm
  obtain ⟨h1, h2⟩ := outJ_in (a := a) (b := b) (k := k)
  have hl : ys.length ≤ 20 * (n + m) := by
    have := sub_len (α := List UInt8) (l := (outJ a b k).map (·.1)) (k := (joinI a b).map (·.1)) h1.nodup (fun x hx => by
      obtain ⟨y, hy, rfl⟩ := List.mem_map.1 hx
      exact List.mem_map.2 ⟨y, h2 y hy, rfl⟩)
    rw [List.length_map, List.length_map, ← hy, its_len] at this
    exact Nat.le_trans this hs.num
  refine ⟨by omega, fun x hx => ?_⟩
  have h3 := hs.one x.it (h2 _ (hy ▸ List.mem_map.2 ⟨x, hx, rfl⟩))
  have h4 : x.nm.length ≤ 100 := h3.1
  have h5 : x.ms.length ≤ 10 * (n + m) := h3.2
  omega
/-- Whether a name is there. -/
theorem find_any (xs : List ItV) (nm : List UInt8) : (∃ k : Nat, findZ (its xs) nm = (k : Int) ∧ (its xs).any (fun x => x.1 == nm) = true) ∨ (findZ (its xs) nm = -1 ∧ (its xs).any (fun x => x.1 == nm) = false) := by
  cases h : (its xs).findIdx? (fun x => x.1 == nm) with
  | none =>
    refine .inr ⟨by unfold findZ; rw [h], ?_⟩
    rw [List.findIdx?_eq_none_iff] at h
    rw [List.any_eq_false]
    intro x hx
    simp [h x hx]
  | some k =>
    obtain ⟨hk, hp, _⟩ := List.findIdx?_eq_some_iff_getElem.1 h
    exact .inl ⟨k, by unfold findZ; rw [h], List.any_eq_true.2 ⟨_, List.getElem_mem hk, hp⟩⟩
theorem marks_step {a b : Ca} {ds : List (Int × Int)} {nm : List UInt8} {j : Nat} {d : Int × Int} {o : Option Mk} (h : ds[j]? = some d) (ho : joinedK a b nm d = o) : marksJ a b (ds.take (j + 1)) nm = marksJ a b (ds.take j) nm ++ o.toList := by
  unfold marksJ
  rw [take_snoc h, List.filterMap_append]
  congr 1
  simp only [List.filterMap_cons, List.filterMap_nil, ho]
  cases o <;> rfl

theorem KRj.items {w W : World} {c d : CaV} {g : Nat} {V L I : Option Addr} {nv nl ni : Nat} {us rs : List (Int × Int)} {ys : List ItV} (h : KRj w c d g V L I nv nl ni us rs ys W) : ItemsAt W I ys := by
  obtain ⟨A, n, e, h1, _⟩ := h.hi
  injection e with e1 _ _
  rw [e1]; exact h1
theorem keep_item {W W' : World} {B g : Nat} {x : ItV} {v : Value} {ms : List Mk} (h : BlkI W g x) (hr : RowM W B v ms) (hg : W.grownBy W' v.ownBlock) : BlkI W' g x :=
  (hg.block g h.lt (fun e => row_ne hr h (by decide) e.symm)).trans h
theorem BlkI.set1 {W : World} {g : Nat} {x y : ItV} {u : Value} (h : BlkI W g x) (hn : x.nm = y.nm) (hu : u = .slice y.A y.ms.length y.c) : BlkI (W.setCell ⟨g, 1, none⟩ u) g y := by
  subst hu
  show (W.heap.modify g _)[g]? = _
  rw [Array.getElem?_modify, if_pos rfl, show W.heap[g]? = _ from h, ← hn]
  rfl
/-- The same, since a world behind. -/
structure KRe (w : World) (c d : CaV) (g : Nat) (V L I : Option Addr) (nv nl ni : Nat) (us rs : List (Int × Int)) (ys : List ItV) (E W : World) : Prop where
  k : KRj w c d g V L I nv nl ni us rs ys E
  bel : Below E.heap.size E W
section
variable {w E W W' : World} {c d : CaV} {g : Nat} {V L I : Option Addr} {nv nl ni : Nat} {us rs : List (Int × Int)} {ys : List ItV}
theorem KRe.now (h : KRe w c d g V L I nv nl ni us rs ys E W) : KRj w c d g V L I nv nl ni us rs ys W := h.k.next h.bel
theorem KRe.next (h : KRe w c d g V L I nv nl ni us rs ys E W) (hb : Below W.heap.size W W') : KRe w c d g V L I nv nl ni us rs ys E W' := ⟨h.k, below_trans h.bel hb⟩
theorem KRe.drew (h : KRe w c d g V L I nv nl ni us rs ys E W) : KRe w c d g V L I nv nl ni us rs ys E W.drew := h.next (Below.refl _ _).drew
theorem KRe.grown (h : KRe w c d g V L I nv nl ni us rs ys E W) {row : Option Nat} (hg : W.grownBy W' row) (hr : ∀ k, row = some k → E.heap.size ≤ k) : KRe w c d g V L I nv nl ni us rs ys E W' := ⟨h.k, h.bel.grown hg h.bel.size hr⟩
theorem KRe.size (h : KRe w c d g V L I nv nl ni us rs ys E W) : E.heap.size ≤ W.heap.size := h.bel.size
theorem KRe.sp (h : KRe w c d g V L I nv nl ni us rs ys E W) : W.cell? ⟨w.heap.size, 0, none⟩ = some c.v ∧ W.cell? ⟨w.heap.size, 1, none⟩ = some c.l ∧ W.cell? ⟨w.heap.size, 2, none⟩ = some c.i ∧ W.cell? ⟨w.heap.size + 1, 0, none⟩ = some d.v ∧ W.cell? ⟨w.heap.size + 1, 1, none⟩ = some d.l ∧ W.cell? ⟨w.heap.size + 1, 2, none⟩ = some d.i ∧ w.heap.size < W.heap.size ∧ w.heap.size + 1 < W.heap.size ∧ KRe w c d g V L I nv nl ni us rs ys E W := by
  obtain ⟨h0, h1, h2, h3, h4, h5, h6, h7, _⟩ := h.now.sp
  exact ⟨h0, h1, h2, h3, h4, h5, h6, h7, h⟩
end
theorem refDots_h (v : Value) (xs : List ItV) (w : World) (h : HoldsX w v xs) (hf : Fits xs) :
    Calls Tryz.prog 30 #[v] w fun e w' => (∃ v, e = .returned v ∧ Holds w' v (dotsI (its xs))) ∧ Below w.heap.size w w' := by
  obtain ⟨A, n, rfl, h1, _⟩ := h
  exact refDots9 A xs n w h1 hf

set_option maxRecDepth 100000 in
set_option maxHeartbeats 8000000 in
theorem refJoin11 (c d : CaV) (n m : Nat) (w : World) (hc : CaOK w c) (hd : CaOK w d) (hn : SizeK n c.ca) (hm : SizeK m d.ca) (h7 : n + m ≤ 7) (hvc : validK c.ca = true) (hvd : validK d.ca = true) :
    Calls Tryz.prog 15 #[mkC c, mkC d] w (RefJ (joinK c.ca d.ca) w) := by
  obtain ⟨ts0, his, hzs0, hzs1, hzs2⟩ := info_parts infoS
  obtain ⟨tm0, him, hzm0, hzm1, hzm2⟩ := info_parts infoM
  have HF := Lib.hid (FitsP.of hn hm (by omega) (by omega))
  have hvv : validC c.vs c.ls = true ∧ validC d.vs d.ls = true := ⟨(compC_iff.1 (validK_iff.1 hvc).1).2, (compC_iff.1 (validK_iff.1 hvd).1).2⟩
  obtain ⟨us, rs, hz⟩ : ∃ a b, unionC c.vs c.ls d.vs d.ls = (a, b) := ⟨_, _, rfl⟩
  have HU := Lib.hid fun W (h : CaOK W c) (h' : CaOK W d) => ref3Union (.agg #[c.v, c.l]) (.agg #[d.v, d.l]) c.vs c.ls d.vs d.ls us rs W h.ctx h'.ctx hvv.1 hvv.2 HF.out.un hz
  have HJK := Lib.hid (show joinK c.ca d.ca = ((us, rs), joinI c.ca d.ca) from by unfold joinK; rw [ca_v, ca_l, ca_v, ca_l, hz])
  have HOF := Lib.hid (show ∀ k ys, its ys = outJ c.ca d.ca k → Fits ys from fun k ys h => outJ_fits hvc hvd hn hm h7 h)
  have HD1 := Lib.hid fun W (h : CaOK W c) => refDots_h c.i c.xs W h.2.2 HF.out.kc.1
  have HD2 := Lib.hid fun W (h : CaOK W d) => refDots_h d.i d.xs W h.2.2 HF.out.kd.1
  have hdl1 : (dotsI (its c.xs)).length ≤ 3000 := by have := HF.out.kc.2; omega
  have hdl2 : (dotsI (its d.xs)).length ≤ 3000 := by have := HF.out.kd.2; omega
  obtain ⟨ds, hds⟩ : ∃ ds, dotsJ c.ca d.ca = ds := ⟨_, rfl⟩
  have hds2 : setL (dotsI (its c.xs) ++ dotsI (its d.xs)) = ds := hds
  have hdsl : ds.length ≤ 6000 := by
    rw [← hds2]
    exact Nat.le_trans (setL_len _) (by rw [List.length_append]; omega)
  have HDS := Lib.hid hds
  have HU1 := Lib.hid fun W v v' (h : Holds W v (dotsI (its c.xs))) (h' : Holds W v' (dotsI (its d.xs))) => refUnion_h3 v v' _ _ ds W h h' (by omega) hds2
  clear hds hds2
  have HN1 := Lib.hid fun W (h : CaOK W c) => refNames10o c W h (by have := HF.out.kc.1.1; omega)
  have HN2 := Lib.hid fun W (h : CaOK W d) => refNames10o d W h (by have := HF.out.kd.1.1; omega)
  have hb1 := (Below.refl w.heap.size w).alloc (Nat.le_refl _) (.cells #[c.v, c.l, c.i] 28)
  have KA := KK.push (L := [(w.heap.size, c)]) (KK.new w c hc) d (hd.below hb1) (w.heap.size + 1) (by simp)
  have K0 := Lib.hid (KK.push KA zC (zC_ok _) (w.heap.size + 2) (by simp))
  have HC := Lib.hid hc
  have HD := Lib.hid hd
  have hnl : (namesJ c.ca d.ca).length ≤ 400 := by
    unfold namesJ
    rw [List.length_append, List.length_map, List.length_map, ca_x, ca_x, its_len, its_len]
    have := HF.out.kc.1.1
    have := HF.out.kd.1.1
    omega
  clear hc hd hn hm h7 hvc hvd hvv hz hb1 KA
  go_enter Tryz.func15, Tryz.ntmps15
  go_wp2_with fail
  generalize World.alloc (World.alloc (World.alloc w _) _) _ = w2 at K0 ⊢
  have ha := K0.out.blk (g := w.heap.size) (c := c) (by simp)
  have hb := K0.out.blk (g := w.heap.size + 1) (c := d) (by simp)
  have a0 := ha.cell0
  have a1 := ha.cell1
  have a2 := ha.cell2
  have b0 := hb.cell0
  have b1 := hb.cell1
  have b2 := hb.cell2
  clear ha hb
  go_wp2_with fail
  refine (HU.out w2 (K0.out.ok (g := w.heap.size) (by simp)) (K0.out.ok (g := w.heap.size + 1) (by simp))).mono ?_
  rintro e w3 ⟨⟨x, rfl, hctx⟩, hb⟩
  obtain ⟨A, nv, B, nl, rfl, hv, hl⟩ := hctx
  have hS := KRj.new (K0.out.next hb) HC.out HD.out hv hl
  clear hb hv hl K0 a0 a1 a2 b0 b1 b2 HU
  go_upto_region 2 with fail
  obtain ⟨g, hg⟩ : ∃ g, w3.heap.size = g := ⟨_, rfl⟩
  rw [hg] at hS ⊢
  clear hg
  generalize World.alloc w3 _ = wE at hS ⊢
  have hKE : KRe w c d g A B none nv nl 0 us rs [] wE wE := ⟨hS, Below.refl _ _⟩
  have hnm : namesJ c.ca d.ca = c.xs.map (·.nm) ++ d.xs.map (·.nm) := by
    unfold namesJ
    rw [ca_x, ca_x]
    unfold its
    rw [List.map_map, List.map_map]; rfl
  have HNM := Lib.hid hnm
  have hl1 : (c.xs.map (·.nm)).length ≤ 200 := by rw [List.length_map]; exact HF.out.kc.1.1
  have hl2 : (d.xs.map (·.nm)).length ≤ 200 := by rw [List.length_map]; exact HF.out.kd.1.1
  clear hS hnm
  generalize c.xs.map (·.nm) = n1 at *
  generalize d.xs.map (·.nm) = n2 at *
  have hS := hKE
  have hS' := hS.sp
  go_cut [6] (fun v wx => ∃ u, v = u ∧ Hid (RowS wx wE.heap.size u (n1 ++ n2)) ∧ Hid (KRe w c d g A B none nv nl 0 us rs [] wE wx))
  case first =>
    go_region_held3 (fun W => W.cell? ⟨w.heap.size, 0, none⟩ = some c.v ∧ W.cell? ⟨w.heap.size, 1, none⟩ = some c.l ∧ W.cell? ⟨w.heap.size, 2, none⟩ = some c.i ∧ W.cell? ⟨w.heap.size + 1, 0, none⟩ = some d.v ∧ W.cell? ⟨w.heap.size + 1, 1, none⟩ = some d.l ∧ W.cell? ⟨w.heap.size + 1, 2, none⟩ = some d.i ∧ w.heap.size < W.heap.size ∧ w.heap.size + 1 < W.heap.size ∧ KRe w c d g A B none nv nl 0 us rs [] wE W)
      (first
        | assumption
        | (exact KRe.sp (by assumption))
        | (exact KRe.sp (KRe.drew (by assumption))))
      (first
        | (go_at_call 42; with_reducible refine (HN1.out _ (KRj.a (KRe.now (by first | assumption | exact KRe.drew (by assumption))))).mono ?_
           rintro e wa ⟨⟨v1, rfl, hr1⟩, hb1⟩
           have hr1 := Joins.ownsRow_le hr1 (show wE.heap.size ≤ _ from KRe.size (by first | assumption | exact KRe.drew (by assumption)))
           have hS1 := KRe.next (by first | assumption | exact KRe.drew (by assumption)) hb1
           have hS1' := hS1.sp)
        | (go_at_call 42; with_reducible refine (HN2.out _ (KRj.b (KRe.now (by assumption)))).mono ?_
           rintro e wb ⟨⟨v2, rfl, hr2⟩, hb2⟩
           have hS2 := KRe.next (by assumption) hb2
           have hS2' := hS2.sp
           have hr1b := kept_below hr1 hb2
           obtain ⟨A2, c2, rfl, _, _, ha2⟩ := SlAt.of_own encS_len hr2)
        | (refine step_append_sl (o := ⟨some 23, _, _, _, _, _⟩) _ encS 1 (by rfl) (.tmp 20) (.tmp 22) 77 (by rfl) encS_len (by omega) encS_one wE.heap.size 9 ts0 _ 16 Tryz.underlying77 his hzs0 hzs1 hzs2 rfl v1 n1 (by rfl) hr1b A2 n2.length c2 n2 (by rfl) (by rfl) ha2 (by simp [maxLen]; omega) (by omega) (KRe.size hS2) ?_
           intro v3 w3b hown3 hg3 hat3
           have hS3 := KRe.grown hS2 hg3 (fun k hk => (hr1b.lt k hk).1)
           have hS3' := hS3.sp))
    all_goals
      clear hS hS' hS1 hS1' hS2 hS2' hr1 hr1b hr2 ha2 hb1 hb2 hg3 hat3 hS3'
      go_wp2_with fail
      go_meet
      exact ⟨_, rfl, hown3, hS3⟩
  case rest =>
    obtain ⟨u, rfl, hr, hK⟩ := hcut
    have HKN := Lib.hid hK.out.now
    have HNS := Lib.hid (HoldsS.of_own hr.out)
    clear hS hS' hr hK hKE HN1 HN2
    rw [← HNM.out] at HNS
    have hnl2 : n1.length + n2.length ≤ 400 := by omega
    clear HNM hl1 hl2 hnl2
    generalize dotsI (its c.xs) = dl1 at *
    generalize dotsI (its d.xs) = dl2 at *
    have hS : KRe w c d g A B none nv nl 0 us rs [] wc wc := ⟨HKN.out, Below.refl _ _⟩
    have hS' := hS.sp
    go_upto_region 3 with fail
    go_cut [7] (fun v wx => ∃ u, v = u ∧ Hid (Holds wx u ds) ∧ Hid (KRe w c d g A B none nv nl 0 us rs [] wc wx))
    case first =>
      go_region_held3 (fun W => W.cell? ⟨w.heap.size, 0, none⟩ = some c.v ∧ W.cell? ⟨w.heap.size, 1, none⟩ = some c.l ∧ W.cell? ⟨w.heap.size, 2, none⟩ = some c.i ∧ W.cell? ⟨w.heap.size + 1, 0, none⟩ = some d.v ∧ W.cell? ⟨w.heap.size + 1, 1, none⟩ = some d.l ∧ W.cell? ⟨w.heap.size + 1, 2, none⟩ = some d.i ∧ w.heap.size < W.heap.size ∧ w.heap.size + 1 < W.heap.size ∧ KRe w c d g A B none nv nl 0 us rs [] wc W)
        (first
          | assumption
          | (exact KRe.sp (by assumption))
          | (exact KRe.sp (KRe.drew (by assumption))))
        (first
          | (go_at_call 30; with_reducible refine (HD1.out _ (KRj.a (KRe.now (by first | assumption | exact KRe.drew (by assumption))))).mono ?_
             rintro e wa ⟨⟨v1, rfl, hr1⟩, hb1⟩
             have hS1 := KRe.next (by first | assumption | exact KRe.drew (by assumption)) hb1
             have hS1' := hS1.sp)
          | (go_at_call 30; with_reducible refine (HD2.out _ (KRj.b (KRe.now (by assumption)))).mono ?_
             rintro e wb ⟨⟨v2, rfl, hr2⟩, hb2⟩
             have hS2 := KRe.next (by assumption) hb2
             have hS2' := hS2.sp
             have hr1b := hr1.below hb2)
          | (go_at_call 43; refine (HU1.out _ _ _ hr1b hr2).mono ?_
             rintro e wd ⟨⟨D, dd, rfl, hr3⟩, hb3⟩
             have hS3 := KRe.next hS2 hb3
             have hS3' := hS3.sp))
      all_goals
        clear hS hS' hS1 hS1' hS2 hS2' hr1 hr1b hr2 hb1 hb2 hb3 hS3'
        go_wp2_with fail
        go_meet
        exact ⟨_, rfl, hr3, hS3⟩
    case rest =>
      obtain ⟨u7, rfl, hdd, hK⟩ := hcut
      have HKL := Lib.hid hK.out.now
      have HN0 := Lib.hid (HNS.out.below hK.out.bel)
      clear HKN HNS hS hS' hK HD1 HD2 HU1 hdl1 hdl2
      have HJ := Lib.hid (fun (nm : List UInt8) (r s : Int) (o : Option Mk) W (h : CaOK W c) (h' : CaOK W d) (ho : joinedK c.ca d.ca nm (r, s) = o) => refJoined11 c d nm r s o W h h' (by have := HF.out.kc.1.1; omega) (by have := HF.out.kd.1.1; omega) ho)
      have HST := Lib.hid (show ∀ k nm, (namesJ c.ca d.ca)[k]? = some nm → outJ c.ca d.ca (k + 1) = stepJ c.ca d.ca ds (outJ c.ca d.ca k) nm from fun k nm h => by rw [outJ_step h, HDS.out])
      have HNL := Lib.hid (show ∀ nm ∈ namesJ c.ca d.ca, nm.length ≤ 1000 from fun nm h => by
        unfold namesJ at h
        rcases List.mem_append.1 h with h | h
        · obtain ⟨x, hx, rfl⟩ := List.mem_map.1 h
          obtain ⟨y, hy, rfl⟩ := List.mem_map.1 hx
          exact (HF.out.kc.1.2 y hy).1
        · obtain ⟨x, hx, rfl⟩ := List.mem_map.1 h
          obtain ⟨y, hy, rfl⟩ := List.mem_map.1 hx
          exact (HF.out.kd.1.2 y hy).1)
      have HEND := Lib.hid (show outJ c.ca d.ca (namesJ c.ca d.ca).length = joinI c.ca d.ca from outJ_all _ _)
      generalize namesJ c.ca d.ca = nms at *
      obtain ⟨NA, nc, rfl, hna, hnc, hncm⟩ := HN0.out
      obtain ⟨DA, dc, rfl, hda, hdc, hdcm⟩ := hdd.out
      have HNA := Lib.hid hna
      have HDA := Lib.hid hda
      clear HN0 hdd hna hda
      unfold maxLen at hncm hdcm
      go_wp2_with fail
      go_loopw [8] (fun i wr => ∃ (k : Nat) (I : Option Addr) (ni : Nat) (ys : List ItV), k ≤ nms.length ∧ i = .int .i64 k ∧ Hid (its ys = outJ c.ca d.ca k) ∧ Hid (KRj w c d g A B I nv nl ni us rs ys wr) ∧ Hid (StrsAt wr NA nms) ∧ Hid (DotsAt wr DA ds)) (fun i _ => nms.length - (intOf i).toNat)
      case atStart => exact ⟨0, none, 0, [], by omega, rfl, show Hid _ from rfl, HKL, HNA, HDA⟩
      case round =>
        clear HKL HNA HDA
        obtain ⟨k, I, ni, ys, hk, rfl, hits, hK, hN, hD⟩ := hrel
        by_cases hlt : k < nms.length
        · have i0 : (k : Int) < (nms.length : Int) := by omega
          obtain ⟨nb, noff, rfl, hbl, hc0⟩ := SlAt.cell1 (f := fun l => .string ⟨l.toArray⟩) hN.out (j := k) hlt
          obtain ⟨nm, hnm⟩ : ∃ nm, nms[k] = nm := ⟨_, rfl⟩
          rw [hnm] at hc0
          have hnk : nms[k]? = some nm := by rw [List.getElem?_eq_getElem hlt, hnm]
          have HSTEP := Lib.hid (HST.out k nm hnk)
          have HNMK := Lib.hid (HNL.out nm (List.mem_of_getElem? hnk))
          clear hnm hnk
          obtain ⟨o0, o1, o2, of2⟩ := hK.out.cells
          have hgl := hK.out.gl
          have l0 := fun p => cell_far (p := p) hbl hc0
          have l2 := fun p => cell_far (p := p) hgl o2
          have hfi := hK.out.hi
          obtain ⟨I', ni', eI, hit, hni, hnim⟩ := hfi
          injection eI with e1 e2 e3
          subst e1 e3
          have hfit := HOF.out k ys hits.out
          clear e2 o0 o1 o2 of2 hc0
          rcases find_any ys nm with ⟨z, hz, hany⟩ | ⟨hz, hany⟩
          · have HFD := Lib.hid fun p => refFind9 I ys ni nm _ (far wr p) (hit.far p) (by have := hfit.1; omega) hz
            have HREL := Lib.hid (show its ys = outJ c.ca d.ca (k + 1) from by rw [HSTEP.out, ← hits.out]; unfold stepJ; rw [if_pos hany])
            have i3 : (z : Int) ≥ 0 := by omega
            clear hz hany hit
            go_wp2_with fail
            refine wp_region_far (by kernel_rfl) (by kernel_rfl) ?_
            repeat (go_big_quiet_step ((go_at_call 44; exact One.far (HFD.out _))))
            refine wpQuiet_nil ?_
            rintro _ ⟨p, rfl⟩
            go_wp2_with fail
            go_roundw
            case rel => exact ⟨k + 1, I, ni, ys, by omega, by go_num, HREL, hK.out.next (below_far wr p), hN.out.below (below_far wr p), hD.out.below (below_far wr p)⟩
            case measure => simp [intOf]; omega
          · have HFD := Lib.hid fun p => refFind9 I ys ni nm _ (far wr p) (hit.far p) (by have := hfit.1; omega) hz
            have HIT := Lib.hid hit
            have HFT := Lib.hid hfit
            have hany' : stepJ c.ca d.ca ds (outJ c.ca d.ca k) nm = if (marksJ c.ca d.ca ds nm).isEmpty = true then outJ c.ca d.ca k else insN (outJ c.ca d.ca k) (nm, marksJ c.ca d.ca ds nm) := by
              unfold stepJ
              rw [if_neg (by rw [← hits.out, hany]; simp)]
            rw [hany'] at HSTEP
            clear hz hany hit hany' hfit
            go_wp2_with fail
            refine wp_region_far (by kernel_rfl) (by kernel_rfl) ?_
            repeat (go_big_quiet_step ((go_at_call 44; exact One.far (HFD.out _))))
            refine wpQuiet_nil ?_
            rintro _ ⟨p, rfl⟩
            have KF := Lib.hid (hK.out.next (below_far wr p))
            have NF := Lib.hid (hN.out.below (below_far wr p))
            have DF := Lib.hid (hD.out.below (below_far wr p))
            have l0 := l0 p
            have hblf : nb < (far wr p).heap.size := Nat.lt_of_lt_of_le hbl (below_far wr p).size
            clear hK hN hD HFD l2 hgl HIT
            generalize far wr p = wf at *
            have BI := Lib.hid (BlkI.new wf ⟨nm, none, 0, []⟩)
            have HBI := Lib.hid ((Below.refl wf.heap.size wf).alloc (Nat.le_refl _) (.cells #[.string ⟨nm.toArray⟩, .slice none 0 0] 49))
            have hL0 := Lib.hid l0
            have hgw : w.heap.size + 2 < wf.heap.size := KF.out.res.lt
            go_wp2_with fail
            clear l0
            obtain ⟨gI, hgI⟩ : ∃ gI, wf.heap.size = gI := ⟨_, rfl⟩
            rw [hgI] at BI hblf hgw ⊢
            have HGI := Lib.hid hgI
            clear hgI
            go_loopw [10] (fun i2 wr2 => ∃ (j : Nat) (x : ItV), j ≤ ds.length ∧ i2 = .int .i64 j ∧ Hid (x.nm = nm ∧ x.ms = marksJ c.ca d.ca (ds.take j) nm) ∧ Hid (BlkI wr2 gI x) ∧ Hid (RowM wr2 gI (slV x) x.ms) ∧ Hid (Below wf.heap.size wf wr2)) (fun i2 _ => ds.length - (intOf i2).toNat)
            case atStart => exact ⟨0, ⟨nm, none, 0, []⟩, by omega, rfl, show Hid _ from ⟨rfl, rfl⟩, BI, show Hid _ from World.ownsRow_nil _ _ _ _, HBI⟩
            case round =>
              clear BI HBI
              obtain ⟨j, ⟨xn, xA, xc, xms⟩, hj, rfl, hx, hBI, hRM, hBE⟩ := hrel
              obtain rfl : xn = nm := hx.out.1
              have KW := Lib.hid (KF.out.next hBE.out)
              have hxl : xms.length ≤ ds.length := by
                have h1 : xms = marksJ c.ca d.ca (ds.take j) xn := hx.out.2
                rw [h1]; unfold marksJ
                exact Nat.le_trans (List.length_filterMap_le _ _) (by rw [List.length_take]; omega)
              by_cases hjl : j < ds.length
              · have i1 : (j : Int) < (ds.length : Int) := by omega
                obtain ⟨db, doff, r, s, hDA, hdb, hdk, hr0, hr1⟩ := SlAt.dot (show DotsAt wr DA ds from DF.out.below hBE.out) (j := j) hjl
                obtain rfl : DA = some ⟨db, doff, none⟩ := hDA
                obtain ⟨o, ho⟩ : ∃ o, joinedK c.ca d.ca xn (r, s) = o := ⟨_, rfl⟩
                have hmk : marksJ c.ca d.ca (ds.take (j + 1)) xn = xms ++ o.toList := by
                  have h1 : xms = marksJ c.ca d.ca (ds.take j) xn := hx.out.2
                  rw [marks_step hdk ho, h1]
                have HMK := Lib.hid hmk
                have HJW := Lib.hid (fun W (h : CaOK W c) (h' : CaOK W d) => HJ.out xn r s o W h h' ho)
                have hn0 : wr.cell? ⟨nb, noff + k, none⟩ = some (.string ⟨xn.toArray⟩) := (hBE.out.cell (p := ⟨nb, noff + k, none⟩) (by rw [HGI.out]; exact hblf)).trans hL0.out
                have hnbw : nb < wr.heap.size := Nat.lt_of_lt_of_le hblf (by rw [← HGI.out]; exact hBE.out.size)
                have HNX := Lib.hid hn0
                have HR0 := Lib.hid hr0
                have HR1 := Lib.hid hr1
                clear hdk ho hmk hn0 hr0 hr1
                go_upto_region 12 with fail
                have hnb : ∀ {k : Nat}, k ≠ 14 → ∀ j, jnB j ≠ some k := fun h14 j h => h14 (jnB_cases h).2
                have hGb : ∀ (L : Nat → Bool) (W W' : World), Below wr.heap.size wr W → BelW W W' → KeepsR (jnS c d xn r s o (.slice (some ⟨nb, noff, none⟩) nms.length nc) (.slice (some ⟨db, doff, none⟩) ds.length dc) k j ⟨nb, noff + k, none⟩ ⟨db, doff + j * 2, none⟩ wr) L W W' ∧ Below wr.heap.size wr W' := fun _ W W' h1 h2 => ⟨⟨fun j v _ h => jnP_box h (fun b m hb => ⟨m, hb.below h2⟩), fun j v _ h => jnQ_below h h2⟩, below_trans h1 h2⟩
                refine wp_region_R (S := jnS c d xn r s o (.slice (some ⟨nb, noff, none⟩) nms.length nc) (.slice (some ⟨db, doff, none⟩) ds.length dc) k j ⟨nb, noff + k, none⟩ ⟨db, doff + j * 2, none⟩ wr) (by kernel_rfl) (by kernel_rfl) (by kernel_rfl) (dst_small (n := 87) (by kernel_rfl)) (fun j k h => by obtain ⟨rfl, _⟩ := jnB_cases h; rfl) (fun j j' k h1 h2 => (jnB_cases h1).1.trans (jnB_cases h2).1.symm) (Below.refl _ _).drew
                  (fun j k v W h hp => by obtain ⟨_, rfl⟩ := jnB_cases h; obtain ⟨b, m, h1, _, h3⟩ := hp; exact ⟨b, h1, h3.lt⟩) (fun _ j v W W' m k b _ hm hk ho hq h => jnP_store hm ho hq h) (fun _ j v W W' m k b _ hm hk ho hne h => jnQ_only ho hne h) ?_ ?_
                · clear hBI hRM hx HMK HSTEP hits HFT NF DF KF
                  refine ⟨StepR.pure rfl rfl (hnb (by decide)) (fun W => Below.refl _ W) hGb fun L a W hI hk hd => ⟨rfl, mkC c, ?_, rfl⟩,
                    StepR.pure rfl rfl (hnb (by decide)) (fun W => Below.refl _ W) hGb fun L a W hI hk hd => ⟨rfl, mkC d, ?_, rfl⟩,
                    StepR.pure rfl rfl (hnb (by decide)) (fun W => Below.refl _ W) hGb fun L a W hI hk hd => ⟨rfl, .slice (some ⟨nb, noff, none⟩) nms.length nc, ?_, rfl⟩,
                    StepR.pure rfl rfl (hnb (by decide)) (fun W => Below.refl _ W) hGb fun L a W hI hk hd => ⟨rfl, .int .i64 k, ?_, rfl⟩,
                    StepR.pure rfl rfl (hnb (by decide)) (fun W => Below.refl _ W) hGb fun L a W hI hk hd => ⟨rfl, .pointer (some ⟨nb, noff + k, none⟩), ?_, rfl⟩,
                    StepR.pure rfl rfl (hnb (by decide)) (fun W => Below.refl _ W) hGb fun L a W hI hk hd => ⟨rfl, .string ⟨xn.toArray⟩, ?_, rfl⟩,
                    StepR.pure rfl rfl (hnb (by decide)) (fun W => Below.refl _ W) hGb fun L a W hI hk hd => ⟨rfl, .slice (some ⟨db, doff, none⟩) ds.length dc, ?_, rfl⟩,
                    StepR.pure rfl rfl (hnb (by decide)) (fun W => Below.refl _ W) hGb fun L a W hI hk hd => ⟨rfl, .int .i64 j, ?_, rfl⟩,
                    StepR.pure rfl rfl (hnb (by decide)) (fun W => Below.refl _ W) hGb fun L a W hI hk hd => ⟨rfl, .pointer (some ⟨db, doff + j * 2, none⟩), ?_, rfl⟩,
                    StepR.pure rfl rfl (hnb (by decide)) (fun W => Below.refl _ W) hGb fun L a W hI hk hd => ⟨rfl, .agg #[.int .i64 r, .int .i64 s], ?_, rfl⟩,
                    StepR.call rfl rfl (hnb (by decide)) hGb fun L a W hI hk hd => ⟨rfl, 45, #[mkC c, mkC d, .string ⟨xn.toArray⟩, .agg #[.int .i64 r, .int .i64 s]], ?_, ?_⟩,
                    StepR.pure rfl rfl (hnb (by decide)) (fun W => Below.refl _ W) hGb fun L a W hI hk hd => ⟨rfl, markV o, ?_, rfl⟩,
                    StepR.pure rfl rfl (hnb (by decide)) (fun W => Below.refl _ W) hGb fun L a W hI hk hd => ⟨rfl, mkV (o.getD Mk.zero), ?_, rfl⟩,
                    StepR.pure rfl rfl (hnb (by decide)) (fun W => Below.refl _ W) hGb fun L a W hI hk hd => ⟨rfl, .bool o.isSome, ?_, rfl⟩,
                    StepR.boxed rfl rfl (fun W o => (Below.refl _ W).alloc (Nat.le_refl _) o) hGb fun L a W hI => ⟨rfl, .cells #[.int .i64 0, .int .i64 0, .int .i64 0, .int .u64 0] 54, ?_, W.heap.size, Mk.zero, rfl, hI.glob.size, BlkM.new W Mk.zero⟩,
                    StepR.store rfl rfl rfl fun L a W hI hd => ⟨rfl, ?_⟩,
                    StepR.pure rfl rfl (hnb (by decide)) (fun W => Below.refl _ W) hGb fun L a W hI hk hd => ⟨rfl, .bool o.isSome, ?_, rfl⟩, trivial⟩
                  · have e2 : a.tmps[2]?.getD undef = .pointer (some ⟨w.heap.size, 0, none⟩) := hI.at 2 (by kernel_rfl)
                    have hq := (KW.out.next hI.glob).ba
                    have c0 := hq.cell0
                    have c1 := hq.cell1
                    have c2 := hq.cell2
                    clear hq
                    go_simp
                  · have e3 : a.tmps[3]?.getD undef = .pointer (some ⟨w.heap.size + 1, 0, none⟩) := hI.at 3 (by kernel_rfl)
                    have hq := (KW.out.next hI.glob).bb
                    have c0 := hq.cell0
                    have c1 := hq.cell1
                    have c2 := hq.cell2
                    clear hq
                    go_simp
                  · have e6 : a.tmps[6]?.getD undef = .slice (some ⟨nb, noff, none⟩) nms.length nc := hI.at 6 (by kernel_rfl)
                    go_simp
                  · have e8 : a.tmps[8]?.getD undef = .int .i64 k := hI.at 8 (by kernel_rfl)
                    go_simp
                  · obtain ⟨_, e59, rfl⟩ := hI.get 2 59 (hd 2 rfl) rfl
                    obtain ⟨_, e60, rfl⟩ := hI.get 3 60 (hd 3 rfl) rfl
                    go_simp
                  · obtain ⟨_, e61, rfl⟩ := hI.get 4 61 (hd 4 rfl) rfl
                    have c0 : W.cell? ⟨nb, noff + k, none⟩ = some (.string ⟨xn.toArray⟩) := (hI.glob.cell (p := ⟨nb, noff + k, none⟩) hnbw).trans HNX.out
                    go_simp
                  · have e7 : a.tmps[7]?.getD undef = .slice (some ⟨db, doff, none⟩) ds.length dc := hI.at 7 (by kernel_rfl)
                    go_simp
                  · have e10 : a.tmps[10]?.getD undef = .int .i64 j := hI.at 10 (by kernel_rfl)
                    go_simp
                  · obtain ⟨_, e63, rfl⟩ := hI.get 6 63 (hd 6 rfl) rfl
                    obtain ⟨_, e64, rfl⟩ := hI.get 7 64 (hd 7 rfl) rfl
                    go_simp
                  · obtain ⟨_, e65, rfl⟩ := hI.get 8 65 (hd 8 rfl) rfl
                    have c0 : W.cell? ⟨db, doff + j * 2, none⟩ = some (.int .i64 r) := (hI.glob.cell (p := ⟨db, doff + j * 2, none⟩) hdb).trans HR0.out
                    have c1 : W.cell? ⟨db, doff + j * 2 + 1, none⟩ = some (.int .i64 s) := (hI.glob.cell (p := ⟨db, doff + j * 2 + 1, none⟩) hdb).trans HR1.out
                    go_simp
                  · obtain ⟨_, e57, rfl⟩ := hI.get 0 57 (hd 0 rfl) rfl
                    obtain ⟨_, e58, rfl⟩ := hI.get 1 58 (hd 1 rfl) rfl
                    obtain ⟨_, e62, rfl⟩ := hI.get 5 62 (hd 5 rfl) rfl
                    obtain ⟨_, e66, rfl⟩ := hI.get 9 66 (hd 9 rfl) rfl
                    go_simp
                  · refine (HJW.out W (KW.out.next hI.glob).a (KW.out.next hI.glob).b).mono ?_
                    rintro e W' ⟨rfl, hb⟩
                    exact ⟨_, rfl, hb, rfl⟩
                  · obtain ⟨_, e67, rfl⟩ := hI.get 10 67 (hd 10 rfl) rfl
                    go_simp
                  · obtain ⟨_, e56, hv⟩ := hI.get 11 56 (hd 11 rfl) rfl
                    have hv : _ = Value.tuple #[mkV (o.getD Mk.zero), .bool o.isSome] := hv
                    subst hv
                    go_simp
                  · obtain ⟨_, e56, hv⟩ := hI.get 11 56 (hd 11 rfl) rfl
                    have hv : _ = Value.tuple #[mkV (o.getD Mk.zero), .bool o.isSome] := hv
                    subst hv
                    go_simp
                  · go_simp
                  · obtain ⟨_, e11, b, m, rfl, hn, hB⟩ := hI.get 14 11 (hd 14 rfl) rfl
                    obtain ⟨_, e68, rfl⟩ := hI.get 12 68 (hd 12 rfl) rfl
                    have c0 := hB.cell0
                    have c1 := hB.cell1
                    have c2 := hB.cell2
                    have c3 := hB.cell3
                    have f0 := hB.frozen 0
                    have f1 := hB.frozen 1
                    have f2 := hB.frozen 2
                    have f3 := hB.frozen 3
                    refine ⟨b, 11, setM W b (o.getD Mk.zero), rfl, hd 14 rfl, by rw [eval_tmp]; exact e11, ?_, OnlyB.setM _ _ _, below_setM hI.glob hn _, b, rfl, hB.set _⟩
                    generalize o.getD Mk.zero = mm at *
                    clear hB
                    go_simp
                  · obtain ⟨_, e69, rfl⟩ := hI.get 13 69 (hd 13 rfl) rfl
                    go_simp
                · intro a W L hL hI
                  obtain ⟨b11, e11, hB11⟩ := (hI.box 15 14 11 (hL 15 (by decide)) rfl rfl).2
                  obtain ⟨v12, e12, hv12⟩ := hI.get 16 12 (hL 16 (by decide)) rfl
                  have e12' : a.eval (.tmp 12) = .bool o.isSome := by rw [eval_tmp, e12]; exact hv12
                  have HBW := Lib.hid hI.glob
                  have HB11 := Lib.hid hB11
                  rw [hI.frame]
                  simp only [List.filterMap, List.foldl]
                  rw [e11, e12']
                  generalize a.eval (.tmp 56) = v56
                  generalize a.eval (.tmp 57) = v57
                  generalize a.eval (.tmp 58) = v58
                  generalize a.eval (.tmp 59) = v59
                  generalize a.eval (.tmp 60) = v60
                  generalize a.eval (.tmp 61) = v61
                  generalize a.eval (.tmp 62) = v62
                  generalize a.eval (.tmp 63) = v63
                  generalize a.eval (.tmp 64) = v64
                  generalize a.eval (.tmp 65) = v65
                  generalize a.eval (.tmp 66) = v66
                  generalize a.eval (.tmp 67) = v67
                  generalize a.eval (.tmp 68) = v68
                  generalize a.eval (.tmp 69) = v69
                  clear hI hL e11 e12 e12' hv12 hB11 hnb hGb
                  simp only [List.setIfInBounds_toArray, List.set_cons_succ, List.set_cons_zero]
                  have HBE2 := Lib.hid (below_trans hBE.out HBW.out)
                  have hB2 := hBI.out.below HBW.out
                  have HBI2 := Lib.hid hB2
                  have HRM2 := Lib.hid (show RowM W gI (.slice xA xms.length xc) xms from RowM.below hRM.out HBW.out)
                  have b0 : W.cell? ⟨gI, 0, none⟩ = some (.string ⟨xn.toArray⟩) := hB2.cell0
                  have b1 : W.cell? ⟨gI, 1, none⟩ = some (.slice xA xms.length xc) := hB2.cell1
                  have bl := hB2.lt
                  clear hBI hRM hB2 hx KW
                  cases o with
                  | none =>
                    have HX2 := Lib.hid (show xn = xn ∧ xms = marksJ c.ca d.ca (ds.take (j + 1)) xn from ⟨rfl, by rw [HMK.out]; simp⟩)
                    clear HMK HB11 HBW
                    go_wp2_with fail
                    go_roundw
                    case rel => exact ⟨j + 1, ⟨xn, xA, xc, xms⟩, by omega, by go_num, HX2, HBI2, HRM2, HBE2⟩
                    case measure => simp [intOf]; omega
                  | some m1 =>
                    have HX2 := Lib.hid (show xn = xn ∧ xms ++ [m1] = marksJ c.ca d.ca (ds.take (j + 1)) xn from ⟨rfl, by rw [HMK.out]; simp⟩)
                    have hM1 : BlkM W b11 m1 := HB11.out
                    have m0 := hM1.cell0
                    have m1' := hM1.cell1
                    have m2 := hM1.cell2
                    have m3 := hM1.cell3
                    have ml := hM1.lt
                    have hszW : gI ≤ W.heap.size := Nat.le_of_lt bl
                    have hba := (Below.refl W.heap.size W).alloc (Nat.le_refl _) (.cells #[.int .i64 m1.r, .int .i64 m1.c, .int .i64 m1.q, .int .u64 (m1.t : Int)] 54)
                    have HBI2a := Lib.hid (HBI2.out.below hba)
                    have HRM2a := Lib.hid (RowM.below HRM2.out hba)
                    have HBE2a := Lib.hid (below_trans HBE2.out hba)
                    have hsza : gI ≤ (W.alloc (.cells #[.int .i64 m1.r, .int .i64 m1.c, .int .i64 m1.q, .int .u64 (m1.t : Int)] 54)).heap.size := by simp; omega
                    have HSZ := Lib.hid hsza
                    clear HMK HB11 HBW hM1 hba hsza
                    go_wp2_with (at_builtin; refine wpList_append_sl _ encM 4 rfl (.tmp 72) (.tmp 74) 47 rfl encM_len (by omega) encM_one gI 54 tm0 _ 32 Tryz.underlying47 him hzm0 hzm1 hzm2 rfl _ xms rfl HRM2a.out _ 1 _ [m1] rfl rfl (SlAt.one (t := 54) (heap_alloc_new W _)) (by simp [maxLen]; omega) (by simp; omega) HSZ.out ?_; intro v1 w1 hown hg hat; obtain ⟨A1, c1, rfl, _, _, _⟩ := SlAt.of_own encM_len hown; have HO := Lib.hid hown; have HBI3 := Lib.hid (show BlkI w1 gI ⟨xn, xA, xc, xms⟩ from keep_item HBI2a.out HRM2a.out hg); have HBE3 := Lib.hid (Below.grown HBE2a.out hg (by rw [HGI.out]; exact HSZ.out) (fun k hk => by rw [HGI.out]; exact (HRM2a.out.lt k hk).1)); have q0 := HBI3.out.cell0; have q1 := HBI3.out.cell1; have q2 := HBI3.out.frozen 1; clear hown hg hat)
                    go_roundw
                    case rel => exact ⟨j + 1, ⟨xn, A1, c1, xms ++ [m1]⟩, by omega, by go_num, HX2, HBI3.out.set1 rfl (by simp), row_set1 HO.out HBI3.out (by decide), Below.setCell (p := ⟨gI, 1, none⟩) HBE3.out (by rw [HGI.out]; exact Nat.le_refl _) _⟩
                    case measure => simp [intOf]; omega
              · obtain rfl : j = ds.length := by omega
                have i1 : ¬ (ds.length : Int) < (ds.length : Int) := by omega
                have hms : xms = marksJ c.ca d.ca ds xn := by have := hx.out.2; rwa [List.take_length] at this
                have HST2 := HSTEP.out
                rw [← hms, ← hits.out] at HST2
                have HN2 := Lib.hid (NF.out.below hBE.out)
                have HD2 := Lib.hid (DF.out.below hBE.out)
                have b0 : wr.cell? ⟨gI, 0, none⟩ = some (.string ⟨xn.toArray⟩) := hBI.out.cell0
                have b1 : wr.cell? ⟨gI, 1, none⟩ = some (.slice xA xms.length xc) := hBI.out.cell1
                have bl := hBI.out.lt
                have HOK := Lib.hid (show ItOK wr ⟨xn, xA, xc, xms⟩ from RowM.ok hRM.out)
                clear hms HSTEP hBI hRM hx NF DF hBE KF hjl hj
                cases xms with
                | nil =>
                  have HREL := Lib.hid (show its ys = outJ c.ca d.ca (k + 1) from by rw [HST2]; rfl)
                  have b1' : wr.cell? ⟨gI, 1, none⟩ = some (.slice xA 0 xc) := b1
                  clear b1 HST2 HOK
                  go_wp2_with fail
                  go_roundw
                  case rel => exact ⟨k + 1, I, ni, ys, by omega, by go_num, HREL, KW, HN2, HD2⟩
                  case measure => simp [intOf]; omega
                | cons m0 rest =>
                  have HREL := Lib.hid (show its (insX ys ⟨xn, xA, xc, m0 :: rest⟩) = outJ c.ca d.ca (k + 1) from by rw [HST2, its_insX]; rfl)
                  clear HST2
                  have i2 : (0 : Int) < ((m0 :: rest).length : Int) := by simp
                  generalize m0 :: rest = xms at *
                  obtain ⟨o0, o1, o2, of2⟩ := KW.out.cells
                  have hgl := KW.out.gl
                  go_wp2_with fail
                  refine (refWith9 I ys ni ⟨xn, xA, xc, xms⟩ wr KW.out.items HOK.out HFT.out HNMK.out hni hnim).mono ?_
                  rintro e w9 ⟨⟨v, rfl, hv⟩, hb⟩
                  obtain ⟨I', ni', rfl, _⟩ := id hv
                  have K9 := Lib.hid (KW.out.next hb)
                  have HV9 := Lib.hid hv
                  have HN3 := Lib.hid (HN2.out.below hb)
                  have HD3 := Lib.hid (HD2.out.below hb)
                  clear hv hb o0 o1 o2 of2 hgl b0 b1 bl HN2 HD2 KW
                  obtain ⟨o0, o1, o2, of2⟩ := K9.out.cells
                  have hgl := K9.out.gl
                  go_wp2_with fail
                  go_roundw
                  case rel => exact ⟨k + 1, I', ni', insX ys ⟨xn, xA, xc, xms⟩, by omega, by go_num, HREL, K9.out.store HV9.out, SlAt.off_cells HN3.out (fun x => ⟨_, rfl, fun _ _ _ e => by cases e⟩) K9.out.out (KRj.slices _ _ _ _ _ _ _ _ _) _, SlAt.off_cells HD3.out (fun x => ⟨_, rfl, fun _ _ _ e => by cases e⟩) K9.out.out (KRj.slices _ _ _ _ _ _ _ _ _) _⟩
                  case measure => simp [intOf]; omega
        · obtain rfl : k = nms.length := by omega
          have i0 : ¬ (nms.length : Int) < (nms.length : Int) := by omega
          have hji : its ys = joinI c.ca d.ca := hits.out.trans HEND.out
          have hfi := hK.out.hi
          obtain ⟨I', ni', eI, _⟩ := id hfi
          obtain ⟨o0, o1, o2, of2⟩ := hK.out.cells
          have hgl := hK.out.gl
          obtain ⟨r0, r1, r2, f0, f1, f2⟩ := results_zero hK.out.res
          have hrl := hK.out.res.lt
          have HFA := Lib.hid (fill_cells hK.out.res (.slice A us.length nv) (.slice B rs.length nl) (.slice I ys.length ni))
          have hok : CaOK wr ⟨A, nv, us, B, nl, rs, I, ni, ys⟩ := ⟨hK.out.hv, hK.out.hl, hK.out.hi⟩
          have HR := Lib.hid (show RefJ (joinK c.ca d.ca) w (.returned (mkC ⟨A, nv, us, B, nl, rs, I, ni, ys⟩)) (((wr.setCell ⟨w.heap.size + 2, 0, none⟩ (.slice A us.length nv)).setCell ⟨w.heap.size + 2, 1, none⟩ (.slice B rs.length nl)).setCell ⟨w.heap.size + 2, 2, none⟩ (.slice I ys.length ni)) from
            ⟨⟨_, rfl, by rw [HJK.out, ← hji]; rfl, hok.off_box hK.out.res (by simp) (fun b hb => set3_other wr (w.heap.size + 2) b _ _ _ hb)⟩, below_fill hK.out.bel (by omega) _ _ _⟩)
          clear hok hfi eI hji hits hK hN hD hlt hk
          go_wp2_with fail
          obtain ⟨s0, s1, s2⟩ := HFA.out
          exact bodyPost_ret (v := .agg #[.slice A us.length nv, .slice B rs.length nl, .slice I ys.length ni]) (by simp [results, Tryz.results15, go_sem, s0, s1, s2]) rfl HR.out

end

end Go.Proofs.YtfjbocipjmpogaaGreat
