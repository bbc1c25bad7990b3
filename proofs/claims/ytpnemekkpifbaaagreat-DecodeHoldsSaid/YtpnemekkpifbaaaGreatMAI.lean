/- Several texts in one: CtxT, CtxJ, CtxU, CtxG, CtxV. -/
import Derived.Test.YtpnemekkpifbaaaGreatMAH
import Derived.OneCell
import Derived.Test.YtpnemekkpifbaaaGreatMAF
import Derived.Deep.CutBlock
namespace Go.Proofs.YtpnemekkpifbaaaGreat

section
open Go.RowKit

set_option maxHeartbeats 400000 in
theorem cloneVec (A : Option Addr) (xs : List (Int × Int)) (cap : Nat) (w : World) (hx : DotsAt w A xs) (hm : xs.length ≤ 1000000) :
    Calls Tryz.prog 69 #[.slice A xs.length cap] w fun e w' => ∃ v, e = .returned v ∧ Mine w w' v xs := by
  obtain ⟨i0, hi0, hz0, hz1, hz2⟩ := info_parts infoD
  match A with
  | none =>
    have h0 : xs = [] := by
      cases xs with
      | nil => rfl
      | cons x r => obtain ⟨_, _, h, _⟩ := hx (by simp); cases h
    subst h0
    have hc : Calls Tryz.prog 69 #[.slice none 0 cap] w _ := AnyE.slices_Clone_nil Tryz.cloneVec 0 cap w
    refine hc.mono ?_
    rintro e w' ⟨rfl, rfl⟩
    exact ⟨_, rfl, World.ownsRow_nil _ _ _ _, Below.refl _ _⟩
  | some a =>
    have q22 : ∀ (w : World) (a : Option Addr) (n c n' c' : Nat), (binOp .eql 26 (.slice a n c) (.slice none n' c')).run Tryz.prog w = .ok (.bool a.isNone) w := fun w a n c n' c' => Lib.run_eql_slice_nil w _ _ a n c n' c' Tryz.underlying26
    go_enter Tryz.func69, Tryz.ntmps69
    go_wp2_with (at_builtin; refine wpList_append_sl _ encD 2 rfl (.tmp 5) (.tmp 6) 26 rfl encD_len (by omega) encD_one w.heap.size 52 i0 _ 16 Tryz.underlying26 hi0 hz0 hz1 hz2 rfl _ [] rfl (World.ownsRow_made w #[] 0 (Nat.le_refl _) (Nat.zero_le _) (by simp)) (some a) _ cap xs rfl rfl (hx.below ((Below.refl _ w).alloc (Nat.le_refl _) _)) (by simp [maxLen]; omega) (by simp; omega) (by simp) ?_; intro v1 w1 hown1 hg1 hat1)
    rw [List.nil_append] at hown1
    have HO := Lib.hid hown1
    clear hown1
    go_wp2
    go_ret
    refine ⟨_, rfl, HO.out, ((Below.refl _ w).alloc (Nat.le_refl _) _).grown hg1 (by simp) ?_⟩
    intro k hk
    have e0 : some w.heap.size = some k := hk
    injection e0 with e
    omega

/-- A map reads as a function of the replicas. -/
def GetF (D : DataW Unit) (f : Int → Int) : Prop := ∀ r, D.atKey (.int .i64 r) (.lit (.int .i64 0)) = .lit (.int .i64 (f r))
theorem GetF.step {D : DataW Unit} {f : Int → Int} (hD : Maps.IsMap D) (h : GetF D f) (d : Int × Int) {f' : Int → Int} (hf : ∀ r, f' r = if r = d.1 then d.2 else f r) : GetF (D.put (.int .i64 d.1) (.lit (.int .i64 d.2))) f' := by
  intro r
  rw [hf]
  by_cases e : r = d.1
  · subst e
    rw [Maps.atKey_put_same hD (show WideAt.IsKeyLit (.int .i64 d.1) from trivial), if_pos rfl]
  · rw [if_neg e, Maps.atKey_put_other (lit_ne e), h]
theorem GetF.val {D : DataW Unit} {f : Int → Int} (h : GetF D f) {r c : Int} (hat : D.atKey (.int .i64 r) (.lit (.int .i64 0)) = .lit (.int .i64 c)) : c = f r := by
  rw [h] at hat
  injection hat with hat
  injection hat with _ hat
  exact hat.symm

theorem row_ne_map {W : World} {base : Nat} {e : TypeId} {size : Nat} {v : Value} {n : Nat} {xs : List Value} {P : Program} {k : TypeId} {R : Value → Option (DataW Unit × List MemPlace)} {b m : Nat} {D : DataW Unit}
    (h : W.ownsRow base e size v n xs) (hm : W.ownsMap P k R b m D) : v.ownBlock ≠ some b := by
  intro e
  obtain ⟨es, clock, hb, _⟩ := hm
  rcases h.2 with ⟨rfl, _⟩ | ⟨g, cap, cur, rfl, _, hg, _⟩
  · simp [Value.ownBlock] at e
  · have e2 : g = b := by simpa [Value.ownBlock] using e
    subst e2
    rw [hb] at hg; cases hg

/-- What holds inside the loop; the call's own begins at W0's end. -/
def InC (W0 : World) (vs ls : List (Int × Int)) (b k : Nat) (re cl : Value) (u rl rs : List (Int × Int)) (D : DataW Unit) (W : World) : Prop :=
  AtC vs ls k u rl rs ∧ W.ownsRow W0.heap.size 52 2 re rl.length (cellsOf encD rl) ∧ W.ownsRow W0.heap.size 52 2 cl rs.length (cellsOf encD rs) ∧ (∀ g, re.ownBlock = some g → cl.ownBlock ≠ some g) ∧
  W.ownsMap Tryz.prog 3 (plainElem Tryz.prog 3) b (vs.length + k) D ∧ GetF D (getV u) ∧ W0.heap.size ≤ b ∧ Below W0.heap.size W0 W
section
variable {W0 W W' w1 w2 : World} {vs ls u rl rs : List (Int × Int)} {b k : Nat} {re cl r2 : Value} {D : DataW Unit} {d : Int × Int} {o : Obj}
theorem InC.at (h : InC W0 vs ls b k re cl u rl rs D W) : AtC vs ls k u rl rs := h.1
theorem InC.bel (h : InC W0 vs ls b k re cl u rl rs D W) : Below W0.heap.size W0 W := h.2.2.2.2.2.2.2
theorem InC.map (h : InC W0 vs ls b k re cl u rl rs D W) : W.ownsMap Tryz.prog 3 (plainElem Tryz.prog 3) b (vs.length + k) D := h.2.2.2.2.1
theorem InC.get (h : InC W0 vs ls b k re cl u rl rs D W) : GetF D (getV u) := h.2.2.2.2.2.1
theorem InC.row (h : InC W0 vs ls b k re cl u rl rs D W) : W.ownsRow W0.heap.size 52 2 re rl.length (cellsOf encD rl) := h.2.1
theorem InC.cloud (h : InC W0 vs ls b k re cl u rl rs D W) : W.ownsRow W0.heap.size 52 2 cl rs.length (cellsOf encD rs) := h.2.2.1
theorem InC.below (h : InC W0 vs ls b k re cl u rl rs D W) (hb : Below W.heap.size W W') : InC W0 vs ls b k re cl u rl rs D W' := by
  obtain ⟨h1, h2, h3, h4, h5, h6, h7, h8⟩ := h
  have hg := grown_of_below2 hb none
  exact ⟨h1, h2.kept hg (by cases re.ownBlock <;> simp), h3.kept hg (by cases cl.ownBlock <;> simp), h4, h5.kept hg (by simp), h6, h7, h8.trans (hb.mono h8.size)⟩
theorem ne_or {x y : Value} (h : ∀ g, x.ownBlock = some g → y.ownBlock ≠ some g) : y.ownBlock = none ∨ y.ownBlock ≠ x.ownBlock := by
  cases e : y.ownBlock with
  | none => exact .inl rfl
  | some g => exact .inr fun e2 => h g e2.symm e
theorem ne_or' {x y : Value} (h : ∀ g, x.ownBlock = some g → y.ownBlock ≠ some g) : x.ownBlock = none ∨ x.ownBlock ≠ y.ownBlock := by
  cases e : x.ownBlock with
  | none => exact .inl rfl
  | some g => exact .inr fun e2 => h g e e2.symm
theorem InC.next (h : InC W0 vs ls b k re cl u rl rs D W) (hd : ls[k]? = some d) (hv : validD d.1 d.2 = true) (hn : d.2 = getV u d.1 + 1) (hg1 : W.grownBy w1 (some b))
    (hm1 : w1.ownsMap Tryz.prog 3 (plainElem Tryz.prog 3) b (vs.length + k + 1) (D.put (.int .i64 d.1) (.lit (.int .i64 d.2))))
    (ho : w2.ownsRow W0.heap.size 52 2 r2 (rl ++ [d]).length (cellsOf encD (rl ++ [d]))) (hg : (w1.alloc o).grownBy w2 re.ownBlock) (hat : r2.ownBlock = re.ownBlock ∨ r2.ownBlock = some (w1.alloc o).heap.size) :
    InC W0 vs ls b (k + 1) r2 cl (raiseV u d) (rl ++ [d]) rs (D.put (.int .i64 d.1) (.lit (.int .i64 d.2))) w2 := by
  obtain ⟨h1, h2, h3, h4, h5, h6, h7, h8⟩ := h
  have hsz := hg1.size
  have nb := row_ne_map h2 h5
  have nc := row_ne_map h3 h5
  have B1 := h8.grown hg1 h8.size (fun j e => by cases e; exact h7)
  have B2 := B1.alloc B1.size o
  refine ⟨h1.next hd hv hn, ho, ((h3.kept hg1 (.inr nc)).alloc o).kept hg (ne_or h4), ?_, (hm1.alloc o).kept hg (fun e => nb e.symm), h6.step h5.isMap d (get_next h1.2.2.1 hv hn), h7, B2.grown hg B2.size (fun j hj => (h2.lt j hj).1)⟩
  intro g e
  rcases hat with h | h
  · exact h4 g (by rw [← h]; exact e)
  · intro e2
    have := (h3.lt g e2).2
    rw [h] at e
    injection e with e
    simp at e
    omega
theorem InC.keep (h : InC W0 vs ls b k re cl u rl rs D W) (hd : ls[k]? = some d) (hn : getV u d.1 + 1 < d.2)
    (ho : w2.ownsRow W0.heap.size 52 2 r2 (rs ++ [d]).length (cellsOf encD (rs ++ [d]))) (hg : (W.alloc o).grownBy w2 cl.ownBlock) (hat : r2.ownBlock = cl.ownBlock ∨ r2.ownBlock = some (W.alloc o).heap.size) :
    InC W0 vs ls b (k + 1) re r2 u rl (rs ++ [d]) D w2 := by
  obtain ⟨h1, h2, h3, h4, h5, h6, h7, h8⟩ := h
  have nc := row_ne_map h3 h5
  have B2 := h8.alloc h8.size o
  refine ⟨h1.keep hd hn, (h2.alloc o).kept hg (ne_or' h4), ho, ?_, ((h5.alloc o).kept hg (fun e => nc e.symm)).mono (by omega), h6, h7, B2.grown hg B2.size (fun j hj => (h3.lt j hj).1)⟩
  intro g e
  rcases hat with h | h
  · rw [h]; exact h4 g e
  · intro e2
    have := (h2.lt g e).2
    rw [h] at e2
    injection e2 with e2
    simp at e2
    omega
theorem InC.skip (h : InC W0 vs ls b k re cl u rl rs D W) (hd : ls[k]? = some d) (hv : validD d.1 d.2 = true) (hn : d.2 ≤ getV u d.1) : InC W0 vs ls b (k + 1) re cl u rl rs D W := by
  obtain ⟨h1, h2, h3, h4, h5, h6, h7, h8⟩ := h
  exact ⟨h1.skip hd hv hn, h2, h3, h4, h5.mono (by omega), h6, h7, h8⟩
end

/-- What a function that makes a context returns: rows of the call's own, or an error. -/
def CtxR (ok : Bool) (us rs : List (Int × Int)) (w : World) (e : Ending) (w' : World) : Prop :=
  ((ok = true → ∃ x y, e = .returned (.tuple #[.agg #[x, y], .int .i64 0]) ∧ MineV w w' x us ∧ MineV w w' y rs) ∧ (ok = false → e = .returned (.tuple #[.agg #[.slice none 0 0, .slice none 0 0], .int .i64 2]))) ∧ Below w.heap.size w w'

theorem row_set2 {W : World} {base g n : Nat} {v : Value} {xs : List Value} (h : W.ownsRow base 52 2 v n xs) (hg : v.ownBlock ≠ some g) (x y : Value) : ((W.setCell ⟨g, 0, none⟩ x).setCell ⟨g, 1, none⟩ y).ownsRow base 52 2 v n xs :=
  ownsRow_setCell_other (ownsRow_setCell_other h (a := ⟨g, 0, none⟩) hg x) (a := ⟨g, 1, none⟩) hg y
theorem wf_valid {p : Int × Int} (h : validD p.1 p.2 = true) : Wf p := by
  simp [validD] at h
  unfold Wf; omega
theorem wf_list {l : List (Int × Int)} (h : ∀ p ∈ l, validD p.1 p.2 = true) : ∃ zs : List WD, zs.map (·.1) = l :=
  ⟨l.pmap (fun d h => ⟨d, h⟩) fun p hp => wf_valid (h p hp), by simp [List.map_pmap]⟩

set_option maxRecDepth 100000 in
set_option maxHeartbeats 8000000 in
theorem ctxCompact (v : Value) (vs ls : List (Int × Int)) (w : World) (h : HoldsC w v vs ls) (hm : vs.length + ls.length ≤ 90000) :
    Calls Tryz.prog 42 #[v] w fun e w' => CtxR (validC vs ls) (compactC vs ls).1 (compactC vs ls).2 w e w' := by
  obtain ⟨i0, hi0, hz0, hz1, hz2⟩ := info_parts infoD
  obtain ⟨A, n, B, m, rfl, h1, h2⟩ := h
  obtain ⟨W0, hW0⟩ : ∃ W0, ((w.alloc (.cells #[.slice A vs.length n, .slice B ls.length m] 28)).alloc (.cells #[.slice none 0 0, .slice none 0 0] 28)) = W0 := ⟨_, rfl⟩
  have hal : Below w.heap.size w W0 := by rw [← hW0]; exact ((Below.refl _ w).alloc (Nat.le_refl _) _).alloc (by simp) _
  have hsz : W0.heap.size = w.heap.size + 2 := by rw [← hW0]; simp
  have x0 : Blk2 W0 w.heap.size (.slice A vs.length n) (.slice B ls.length m) := by rw [← hW0]; exact (heap_alloc_old _ _ (by simp)).trans (heap_alloc_new w _)
  have x1 : Blk2 W0 (w.heap.size + 1) (.slice none 0 0) (.slice none 0 0) := by
    rw [← hW0]
    have h := heap_alloc_new (w.alloc (.cells #[.slice A vs.length n, .slice B ls.length m] 28)) (.cells #[.slice none 0 0, .slice none 0 0] 28)
    rwa [World.size_alloc] at h
  have l1 := h1.below hal
  have l2 := h2.below hal
  have X0 := Lib.hid x0
  have X1 := Lib.hid x1
  have L1 := Lib.hid l1
  have L2 := Lib.hid l2
  have HAL := Lib.hid hal
  have HSZ := Lib.hid hsz
  have c0 := x0.cell0
  have c1 := x0.cell1
  have d0 := x1.cell0
  have d1 := x1.cell1
  clear h1 h2 x0 x1 l1 l2 hal hsz
  cases hv : validC vs ls with
  | false =>
    have HV := Lib.hid (ctxValid _ vs ls false W0 (HoldsC.mk L1.out L2.out) hv)
    clear hv
    go_enter Tryz.func42, Tryz.ntmps42
    go_wp2_with fail
    refine HV.out.mono ?_
    rintro e w1 ⟨rfl, hb1⟩
    have y1 := X1.out.below hb1
    have d0 := y1.cell0
    have d1 := y1.cell1
    have f0 := y1.frozen 0
    have f1 := y1.frozen 1
    have BEL := Lib.hid (below_trans HAL.out hb1)
    have Y1 := Lib.hid y1
    clear c0 c1 hb1 y1
    go_wp2_with fail
    have hs := Y1.out.set (.slice none 0 0) (.slice none 0 0)
    have s6 := hs.cell0
    have s7 := hs.cell1
    refine bodyPost_ret (v := .tuple #[.agg #[.slice none 0 0, .slice none 0 0], .int .i64 2]) (by simp [results, Tryz.results42, go_sem, s6, s7]) rfl ⟨⟨fun h => (by cases h), fun _ => rfl⟩, below_set2 BEL.out (by omega) _ _⟩
  | true =>
    obtain ⟨hvv, hinc, hok⟩ := validC_iff.1 hv
    obtain ⟨zs, hzs⟩ := wf_list ((validV_iff vs).1 hvv).1
    have hzl : zs.length = vs.length := by rw [← hzs]; simp
    have HV := Lib.hid (ctxValid _ vs ls true W0 (HoldsC.mk L1.out L2.out) hv)
    have HCT := Lib.hid fun W (hW : Below W0.heap.size W0 W) => ctxCounters A n zs W (by rw [hzs, hzl]; exact L1.out.below hW) (by omega)
    have HCL := Lib.hid fun W (hW : Below W0.heap.size W0 W) => cloneVec A vs n W (by obtain ⟨A', c', e, h, _⟩ := L1.out.below hW; cases e; exact h) (by omega)
    rw [hzs, hzl] at HCT
    have HOK := Lib.hid hok
    have HVV := Lib.hid hvv
    have HVC := Lib.hid hv
    clear hv hvv hinc hok hzs hzl
    go_enter Tryz.func42, Tryz.ntmps42
    go_wp2_with fail
    refine HV.out.mono ?_
    rintro e w1 ⟨rfl, hb1⟩
    have B1 := Lib.hid hb1
    have y0 := X0.out.below B1.out
    have c0 := y0.cell0
    have c1 := y0.cell1
    clear hb1 y0
    go_wp2_with fail
    refine (HCT.out _ B1.out).mono ?_
    rintro e w2 ⟨b, D, rfl, hbge, hb2, hmap, hget⟩
    have B2 := Lib.hid (below_trans B1.out hb2)
    have HMAP := Lib.hid hmap
    have HGET := Lib.hid hget
    have HBGE := Lib.hid (show W0.heap.size ≤ b from Nat.le_trans B1.out.size hbge)
    clear c0 c1
    have y0 := X0.out.below B2.out
    have c0 := y0.cell0
    have c1 := y0.cell1
    clear hb2 y0 hbge hmap hget
    go_wp2_with fail
    refine (HCL.out _ B2.out).mono ?_
    rintro e w3 ⟨v3, rfl, hmine⟩
    have I0 : Hid (InC W0 vs ls b 0 v3 (.slice none 0 0) vs vs [] D w3) := by
      have hb3 := below_trans B2.out hmine.2
      exact ⟨AtC.start HVV.out, Joins.ownsRow_le hmine.1 B2.out.size, World.ownsRow_nil _ _ _ _, (fun g _ => by simp [Value.ownBlock]), HMAP.out.kept (grown_of_below2 hmine.2 none) (by simp), HGET.out, HBGE.out, hb3⟩
    have y0 := X0.out.below I0.out.bel
    have c0 := y0.cell0
    have c1 := y0.cell1
    clear y0 hmine
    go_wp2_with fail
    go_loopw [5, 6, 25] (fun re cl i wr => ∃ (k : Nat) (u rl rs : List (Int × Int)) (D : DataW Unit), k ≤ ls.length ∧ i = .int .i64 k ∧ Hid (InC W0 vs ls b k re cl u rl rs D wr)) (fun _ _ i _ => ls.length - (intOf i).toNat)
    case atStart => exact ⟨0, vs, vs, [], D, by omega, rfl, I0⟩
    case round =>
      obtain ⟨k, u, rl, rs, D', hk2, rfl, hI⟩ := hrel
      by_cases hlt : k < ls.length
      · obtain ⟨A', c', e, hx, _⟩ := L2.out.below hI.out.bel
        cases e
        obtain ⟨bb, off, r, c, rfl, hbl, hx1, hc0, hc1⟩ := hx.dot (j := k) hlt
        have hal : Below wr.heap.size wr (wr.alloc (.cells #[.int .i64 r, .int .i64 c] 52)) := (Below.refl _ wr).alloc (Nat.le_refl _) _
        have hInW := Lib.hid (hI.out.below hal)
        have hlen := hI.out.at.2.2.2.2
        have hsw := hI.out.bel.size
        have hbw := hI.out.map.lt
        have hvd := HOK.out _ (List.mem_of_getElem? hx1)
        have hvb : 1 ≤ r ∧ r ≤ 65535 ∧ 1 ≤ c ∧ c ≤ 4294967295 := by simpa [validD] using hvd
        have hkey : keyOf Tryz.prog 3 (.int .i64 r) = some (.int .i64 r) := Maps.keyOf_int_mk Tryz.underlying3 (WalkArith.wf_i64 (by omega))
        have hgt := getV_top hI.out.at.2.2.1 r
        have HVD := Lib.hid hvd
        have HX1 := Lib.hid hx1
        have k0 : (wr.alloc (.cells #[.int .i64 r, .int .i64 c] 52)).cell? ⟨wr.heap.size, 0, none⟩ = some (.int .i64 r) := by simp [World.cell?_alloc_new]
        have k1 : (wr.alloc (.cells #[.int .i64 r, .int .i64 c] 52)).cell? ⟨wr.heap.size, 1, none⟩ = some (.int .i64 c) := by simp [World.cell?_alloc_new]
        have hval := fun c0 h => hInW.out.get.val (r := r) (c := c0) h
        have HG := Lib.hid (show getV u r = getV u r from rfl)
        obtain ⟨g, hg⟩ : ∃ g, getV u r = g := ⟨_, rfl⟩
        rw [hg] at hval hgt
        have HVAL := Lib.hid hval
        have HGE := Lib.hid hg
        clear hval hg hvd hx1 hx hal HG
        by_cases e1 : c = g + 1
        · have HN := Lib.hid (show g + 1 = getV u r + 1 from by rw [HGE.out])
          subst e1
          go_wp2_with (first
            | (at_lookup; refine wpList_lookup_own_int _ rfl _ _ mapT rfl 3 3 .i64 law3 Tryz.underlying103 Tryz.underlying3 (zero3 _) b _ _ rfl hInW.out.map _ _ rfl hkey ?_; intro c0 hat hwc; obtain rfl := HVAL.out _ hat; clear hat hwc)
            | (at_mapUpdate; go_loud (refine wpList_mapUpdate_own _ rfl _ _ _ mapT rfl 3 3 law3 Tryz.underlying103 _ b _ _ rfl hInW.out.map (by unfold maxLen; omega) _ _ _ rfl rfl hkey _ [] (plainElem_int Tryz.underlying3 (WalkArith.wf_i64 (by omega))) ?_; intro wa hown1 hgrow1; have hbk := hgrow1.block wr.heap.size (by simp) (by simp; omega); have q0 : wa.cell? ⟨wr.heap.size, 0, none⟩ = some (.int .i64 r) := (World.cell?_of_block hbk).trans k0; have q1 : wa.cell? ⟨wr.heap.size, 1, none⟩ = some (.int .i64 (_ + 1)) := (World.cell?_of_block hbk).trans k1; clear hbk; have HR := Lib.hid (hInW.out.row.kept hgrow1 (.inr (row_ne_map hInW.out.row hInW.out.map))); have hsa := hgrow1.size))
            | (at_builtin
               refine wpList_append_sl (o := ⟨some 46, _, _, _, _, _⟩) _ encD 2 rfl (.tmp 43) (.tmp 45) 26 rfl encD_len (by omega) encD_one W0.heap.size 52 i0 _ 16 Tryz.underlying26 hi0 hz0 hz1 hz2 rfl _ rl rfl (HR.out.alloc _) _ 1 _ [(r, _)] rfl rfl (SlAt.one (heap_alloc_new _ _)) (by simp [maxLen]; omega) (by simp; omega) (by simp at *; omega) ?_
               intro r2 wb hown3 hg3 hat3
               have hI5 := Lib.hid (hInW.out.next HX1.out HVD.out HN.out hgrow1 hown1 hown3 hg3 hat3))
            | go_in)
          go_roundw
          case rel => exact ⟨k + 1, _, _, _, _, by omega, by go_num, hI5⟩
          case measure => simp [intOf]; omega
        · by_cases e2 : g + 1 < c
          · have HN := Lib.hid (show getV u r + 1 < c from by rw [HGE.out]; exact e2)
            have hnw := heap_alloc_new (wr.alloc (.cells #[.int .i64 r, .int .i64 c] 52)) (.cells #[.int .i64 r, .int .i64 c] 52)
            rw [World.size_alloc] at hnw
            have HNW := Lib.hid hnw
            clear hnw
            go_wp2_with (first
              | (at_lookup; refine wpList_lookup_own_int _ rfl _ _ mapT rfl 3 3 .i64 law3 Tryz.underlying103 Tryz.underlying3 (zero3 _) b _ _ rfl hInW.out.map _ _ rfl hkey ?_; intro c0 hat hwc; obtain rfl := HVAL.out _ hat; clear hat hwc)
              | (at_builtin
                 refine wpList_append_sl (o := ⟨some 55, _, _, _, _, _⟩) _ encD 2 rfl (.tmp 52) (.tmp 54) 25 rfl encD_len (by omega) encD_one W0.heap.size 52 i0 _ 16 Tryz.underlying25 hi0 hz0 hz1 hz2 rfl _ rs rfl (hInW.out.cloud.alloc _) _ 1 _ [(r, c)] rfl rfl (SlAt.one HNW.out) (by simp [maxLen]; omega) (by simp; omega) (by simp at *; omega) ?_
                 intro r2 wb hown3 hg3 hat3
                 have hI5 := Lib.hid (hInW.out.keep HX1.out HN.out hown3 hg3 hat3))
              | go_in)
            go_roundw
            case rel => exact ⟨k + 1, _, _, _, _, by omega, by go_num, hI5⟩
            case measure => simp [intOf]; omega
          · have hI5 := Lib.hid (hInW.out.skip HX1.out HVD.out (show c ≤ getV u r from by rw [HGE.out]; omega))
            go_wp2_with (first
              | (at_lookup; refine wpList_lookup_own_int _ rfl _ _ mapT rfl 3 3 .i64 law3 Tryz.underlying103 Tryz.underlying3 (zero3 _) b _ _ rfl hInW.out.map _ _ rfl hkey ?_; intro c0 hat hwc; obtain rfl := HVAL.out _ hat; clear hat hwc)
              | go_in)
            go_roundw
            case rel => exact ⟨k + 1, _, _, _, _, by omega, by go_num, hI5⟩
            case measure => simp [intOf]; omega
      · have hkk : k = ls.length := by omega
        have hI2 := hI.out
        rw [hkk] at hI2
        obtain ⟨q1, q2⟩ := hI2.at.done HVC.out
        have HI := Lib.hid hI2
        obtain ⟨A5, n5, rfl, h51, h52, h53⟩ := SlAt.of_own encD_len hI2.row
        have hof := vecOf A5 rl n5 wr ⟨A5, n5, rfl, h53, h51, h52⟩ (by have := hI2.at.2.2.2.2; omega)
        rw [show ofOk rl = true from List.all_eq_true.2 hI2.at.2.2.2.1, q2] at hof
        have HOF := Lib.hid hof
        have HQ := Lib.hid q1
        clear hI2 q1 q2 hof h51 h52 h53 hkk
        go_wp2_with fail
        refine HOF.out.mono ?_
        rintro e w4 hmr
        obtain ⟨v4, rfl, hmv⟩ := hmr.1 rfl
        have HMV := Lib.hid hmv
        obtain ⟨A6, n6, rfl, _⟩ := hmv.holds
        obtain ⟨B6, m6, rfl, _⟩ := SlAt.of_own encD_len HI.out.cloud
        have y1 := X1.out.below (HI.out.bel.trans (hmv.2.mono HI.out.bel.size))
        have Y1 := Lib.hid y1
        have d0 := y1.cell0
        have d1 := y1.cell1
        have f0 := y1.frozen 0
        have f1 := y1.frozen 1
        clear hmr hmv y1
        go_wp2_with fail
        have hs := Y1.out.set (.slice A6 u.length n6) (.slice B6 rs.length m6)
        have s6 := hs.cell0
        have s7 := hs.cell1
        refine bodyPost_ret (v := .tuple #[.agg #[.slice A6 u.length n6, .slice B6 rs.length m6], .int .i64 0]) (by simp [results, Tryz.results42, go_sem, s6, s7]) rfl ?_
        have bel := below_trans HAL.out (HI.out.bel.trans (HMV.out.2.mono HI.out.bel.size))
        have hsz := HSZ.out
        have B9 := below_set2 bel (show w.heap.size ≤ w.heap.size + 1 by omega) (.slice A6 u.length n6) (.slice B6 rs.length m6)
        refine ⟨⟨fun _ => ⟨_, _, rfl, ?_, ?_⟩, fun h => (by cases h)⟩, B9⟩
        · rw [HQ.out]
          exact ⟨row_set2 (Joins.ownsRow_le HMV.out.1 (by have := HI.out.bel.size; omega)) (fun e => by have := (HMV.out.1.lt _ e).1; have := HI.out.bel.size; omega) _ _, B9⟩
        · rw [HQ.out]
          exact ⟨row_set2 (Joins.ownsRow_le (HI.out.cloud.kept (grown_of_below2 HMV.out.2 none) (by cases (Value.slice B6 rs.length m6).ownBlock <;> simp)) (by omega)) (fun e => by have := (HI.out.cloud.lt _ e).1; omega) _ _, B9⟩

end

section
open Go.RowKit

end

section
open Go.RowKit

theorem MineV.set2 {w W wc : World} {x : Value} {us : List (Int × Int)} {g : Nat} (h : MineV W wc x us) (hw : w.heap.size ≤ W.heap.size) (hg : g < W.heap.size) (hb : Below w.heap.size w wc) (hwg : w.heap.size ≤ g) (a b : Value) :
    MineV w ((wc.setCell ⟨g, 0, none⟩ a).setCell ⟨g, 1, none⟩ b) x us :=
  ⟨row_set2 (Joins.ownsRow_le h.1 hw) (fun e => by have := (h.1.lt _ e).1; omega) _ _, below_set2 hb hwg _ _⟩

theorem ctxCompact_t (v : Value) (vs ls us rs : List (Int × Int)) (w : World) (h : HoldsC w v vs ls) (hv : validC vs ls = true) (hm : vs.length + ls.length ≤ 90000) (hz : compactC vs ls = (us, rs)) :
    Calls Tryz.prog 42 #[v] w fun e w' => (∃ A n B m, e = .returned (.tuple #[.agg #[.slice A us.length n, .slice B rs.length m], .int .i64 0]) ∧ MineV w w' (.slice A us.length n) us ∧ MineV w w' (.slice B rs.length m) rs) ∧ Below w.heap.size w w' := by
  refine (ctxCompact v vs ls w h hm).mono ?_
  rintro e w' ⟨⟨h1, _⟩, hb⟩
  rw [hz] at h1
  obtain ⟨x, y, he, hx, hy⟩ := h1 hv
  have hx0 := hx
  have hy0 := hy
  obtain ⟨A, n, rfl, _⟩ := hx.holds
  obtain ⟨B, m, rfl, _⟩ := hy.holds
  exact ⟨⟨A, n, B, m, he, hx0, hy0⟩, hb⟩
theorem ctxCompact_f (v : Value) (vs ls : List (Int × Int)) (w : World) (h : HoldsC w v vs ls) (hv : validC vs ls = false) (hm : vs.length + ls.length ≤ 90000) :
    Calls Tryz.prog 42 #[v] w fun e w' => e = .returned (.tuple #[.agg #[.slice none 0 0, .slice none 0 0], .int .i64 2]) ∧ Below w.heap.size w w' :=
  (ctxCompact v vs ls w h hm).mono fun _ _ ⟨⟨_, h1⟩, hb⟩ => ⟨h1 hv, hb⟩

theorem compact_self_iff {vs ls us rs : List (Int × Int)} (h : validC vs ls = true) (hz : compactC vs ls = (us, rs)) : (decide (us = vs) && decide (rs = ls)) = compC vs ls := by
  rw [Bool.eq_iff_iff, Bool.and_eq_true, decide_eq_true_eq, decide_eq_true_eq]
  constructor
  · rintro ⟨rfl, rfl⟩
    have := compactC_comp h
    rwa [hz] at this
  · intro hc
    rw [compactC_self hc] at hz
    cases hz
    exact ⟨rfl, rfl⟩

set_option maxRecDepth 100000 in
set_option maxHeartbeats 2000000 in
theorem ctxIsCompact (v : Value) (vs ls : List (Int × Int)) (b : Bool) (w : World) (h : HoldsC w v vs ls) (hm : vs.length + ls.length ≤ 90000) (hb : compC vs ls = b) :
    Calls Tryz.prog 23 #[v] w fun e w' => e = .returned (.bool b) ∧ Below w.heap.size w w' := by
  obtain ⟨A, n, B, m, rfl, h1, h2⟩ := h
  have K := Lib.hid ((((KX.nil w).push h1).push h2).box (.slice A vs.length n) (.slice B ls.length m) 28)
  clear h1 h2
  obtain ⟨us, rs, hz⟩ : ∃ us rs, compactC vs ls = (us, rs) := ⟨_, _, rfl⟩
  cases hv : validC vs ls with
  | false =>
    have HB := Lib.hid (show false = b by rw [← hb]; unfold compC; rw [hv, Bool.and_false])
    have HC := Lib.hid fun W (h : HoldsC W (.agg #[.slice A vs.length n, .slice B ls.length m]) vs ls) => ctxCompact_f _ vs ls W h hv hm
    clear hv hb hz
    go_enter Tryz.func23, Tryz.ntmps23
    go_wp2_with fail
    refine (HC.out _ (HoldsC.mk (K.out.h (by simp)) (K.out.h (by simp)))).mono ?_
    rintro e w1 ⟨rfl, hb1⟩
    have K1 := Lib.hid ((K.out.below hb1).alloc (.cells #[.slice none 0 0, .slice none 0 0] 28))
    clear hb1
    go_wp2
    go_ret
    exact ⟨ret_bool HB.out, K1.out.bel⟩
  | true =>
    have HE := Lib.hid ((compact_self_iff hv hz).trans hb)
    have HC := Lib.hid fun W (h : HoldsC W (.agg #[.slice A vs.length n, .slice B ls.length m]) vs ls) => ctxCompact_t _ vs ls us rs W h hv hm hz
    clear hv hb hz
    go_enter Tryz.func23, Tryz.ntmps23
    go_wp2_with fail
    refine (HC.out _ (HoldsC.mk (K.out.h (by simp)) (K.out.h (by simp)))).mono ?_
    rintro e w1 ⟨⟨A1, n1, B1, m1, rfl, hx, hy⟩, hb1⟩
    have K0 := K.out.below hb1
    have K1 := Lib.hid (((K0.push hx.holds).push hy.holds).alloc (.cells #[.slice A1 us.length n1, .slice B1 rs.length m1] 28))
    have k0 := K1.out.cell (a := ⟨w.heap.size, 0, none⟩) (v := .slice A vs.length n) (by simp)
    have k1 := K1.out.cell (a := ⟨w.heap.size, 1, none⟩) (v := .slice B ls.length m) (by simp)
    clear hb1 hx hy K0
    go_wp2_with fail
    refine (ctxEqual _ _ us rs vs ls b _ (HoldsC.mk (K1.out.h (v := .slice A1 us.length n1) (xs := us) (by simp)) (K1.out.h (v := .slice B1 rs.length m1) (xs := rs) (by simp))) (HoldsC.mk (K1.out.h (v := .slice A vs.length n) (xs := vs) (by simp)) (K1.out.h (v := .slice B ls.length m) (xs := ls) (by simp))) HE.out).mono ?_
    rintro e w2 ⟨rfl, hb1⟩
    have K2 := Lib.hid (K1.out.below hb1)
    clear hb1
    go_wp2
    go_ret
    exact ⟨rfl, K2.out.bel⟩

end

section
open Go.RowKit

/-- What holds while the answer's block waits. -/
def KG (w0 : World) (g : Nat) (x y : Value) (L : List (Value × List (Int × Int))) (W : World) : Prop :=
  W.cell? ⟨g, 0, none⟩ = some x ∧ W.cell? ⟨g, 1, none⟩ = some y ∧ W.cell? ⟨g + 1, 0, none⟩ = some (.slice none 0 0) ∧ W.cell? ⟨g + 1, 1, none⟩ = some (.slice none 0 0) ∧ W.frozen? ⟨g + 1, 0, none⟩ = false ∧ W.frozen? ⟨g + 1, 1, none⟩ = false ∧
  Blk2 W g x y ∧ Blk2 W (g + 1) (.slice none 0 0) (.slice none 0 0) ∧ Below w0.heap.size w0 W ∧ ∀ p ∈ L, Holds W p.1 p.2
section
variable {w0 W W' : World} {g : Nat} {x y : Value} {L : List (Value × List (Int × Int))}
theorem KG.mk (h1 : Blk2 W g x y) (h2 : Blk2 W (g + 1) (.slice none 0 0) (.slice none 0 0)) (h3 : Below w0.heap.size w0 W) (h4 : ∀ p ∈ L, Holds W p.1 p.2) : KG w0 g x y L W :=
  ⟨h1.cell0, h1.cell1, h2.cell0, h2.cell1, h2.frozen 0, h2.frozen 1, h1, h2, h3, h4⟩
theorem KG.b1 (h : KG w0 g x y L W) : Blk2 W g x y := h.2.2.2.2.2.2.1
theorem KG.b2 (h : KG w0 g x y L W) : Blk2 W (g + 1) (.slice none 0 0) (.slice none 0 0) := h.2.2.2.2.2.2.2.1
theorem KG.bel (h : KG w0 g x y L W) : Below w0.heap.size w0 W := h.2.2.2.2.2.2.2.2.1
theorem KG.hs (h : KG w0 g x y L W) : ∀ p ∈ L, Holds W p.1 p.2 := h.2.2.2.2.2.2.2.2.2
theorem KG.h {v : Value} {xs : List (Int × Int)} (h : KG w0 g x y L W) (hm : (v, xs) ∈ L) : Holds W v xs := h.hs _ hm
theorem KG.below (h : KG w0 g x y L W) (hb : Below W.heap.size W W') : KG w0 g x y L W' := .mk (h.b1.below hb) (h.b2.below hb) (below_trans h.bel hb) fun p hp => (h.hs p hp).below hb
theorem KG.alloc (h : KG w0 g x y L W) (o : Obj) : KG w0 g x y L (W.alloc o) := h.below ((Below.refl _ W).alloc (Nat.le_refl _) o)
theorem KG.drew (h : KG w0 g x y L W) : KG w0 g x y L W.drew := h.below (Below.refl _ W).drew
end
end

section
open Go.RowKit

/-- What holds of a context's box and of a second box, whatever this holds. -/
def KB1v (w0 : World) (g : Nat) (x y : Value) (L : List (Value × List (Int × Int))) (W : World) : Prop :=
  Blk2 W g x y ∧ (∃ A n c B m d, Blk2 W (g + 1) (.slice A n c) (.slice B m d)) ∧ Below w0.heap.size w0 W ∧ ∀ p ∈ L, Holds W p.1 p.2
def KC1 (w0 : World) (g : Nat) (x y : Value) (L : List (Value × List (Int × Int))) (W : World) : Prop :=
  W.cell? ⟨g, 0, none⟩ = some x ∧ W.cell? ⟨g, 1, none⟩ = some y ∧ KB1v w0 g x y L W
section
variable {w0 W W' : World} {g : Nat} {x y : Value} {L : List (Value × List (Int × Int))}
theorem KC1.mk (h : KB1v w0 g x y L W) : KC1 w0 g x y L W := ⟨h.1.cell0, h.1.cell1, h⟩
theorem KC1.kb (h : KC1 w0 g x y L W) : KB1v w0 g x y L W := h.2.2
theorem KB1v.below (h : KB1v w0 g x y L W) (hb : Below W.heap.size W W') : KB1v w0 g x y L W' := by
  obtain ⟨h1, ⟨A, n, c, B, m, d, h3⟩, h4, h5⟩ := h
  exact ⟨h1.below hb, ⟨A, n, c, B, m, d, h3.below hb⟩, below_trans h4 hb, fun p hp => (h5 p hp).below hb⟩
theorem KC1.h {v : Value} {xs : List (Int × Int)} (h : KC1 w0 g x y L W) (hm : (v, xs) ∈ L) : Holds W v xs := h.kb.2.2.2 _ hm
theorem KC1.bel (h : KC1 w0 g x y L W) : Below w0.heap.size w0 W := h.kb.2.2.1
theorem KC1.below (h : KC1 w0 g x y L W) (hb : Below W.heap.size W W') : KC1 w0 g x y L W' := .mk (h.kb.below hb)
theorem KC1.drew (h : KC1 w0 g x y L W) : KC1 w0 g x y L W.drew := h.below (Below.refl _ W).drew
theorem KC1.store (h : KC1 w0 g x y L W) (hg : w0.heap.size ≤ g) (A : Option Addr) (n c : Nat) (B : Option Addr) (m d : Nat) : KC1 w0 g x y L ((W.setCell ⟨g + 1, 0, none⟩ (.slice A n c)).setCell ⟨g + 1, 1, none⟩ (.slice B m d)) := by
  obtain ⟨h1, ⟨A', n', c', B', m', d', h3⟩, h4, h5⟩ := h.kb
  refine .mk ⟨(h1.other (by omega) 0 _).other (by omega) 1 _, ⟨_, _, _, _, _, _, h3.set _ _⟩, below_set2 h4 (by omega) _ _, fun p hp => ?_⟩
  exact (h5 p hp).set2 h3 (by intro z; simp) (by intro z; simp)
theorem KC1.bound (h : KC1 w0 g x y L W) : g + 1 < W.heap.size ∧ w0.heap.size ≤ W.heap.size := by
  obtain ⟨A, n, c, B, m, d, h3⟩ := h.kb.2.1
  exact ⟨h3.lt, h.kb.2.2.1.size⟩
theorem KC1.second (h : KC1 w0 g x y L W) : ∃ A n c B m d, W.cell? ⟨g + 1, 0, none⟩ = some (.slice A n c) ∧ W.cell? ⟨g + 1, 1, none⟩ = some (.slice B m d) ∧ W.frozen? ⟨g + 1, 0, none⟩ = false ∧ W.frozen? ⟨g + 1, 1, none⟩ = false ∧ Blk2 W (g + 1) (.slice A n c) (.slice B m d) := by
  obtain ⟨A, n, c, B, m, d, h3⟩ := h.kb.2.1
  exact ⟨A, n, c, B, m, d, h3.cell0, h3.cell1, h3.frozen 0, h3.frozen 1, h3⟩
end

end

end Go.Proofs.YtpnemekkpifbaaaGreat
