/- The reference of layer 3: Compact returns the compact context with the same dots. -/
import Derived.Test.YtibnlifdeknicaaCtxE
namespace Go.Proofs.Ytibnlifdeknicaa
open Go.RowKit

/-- What holds between passes. -/
def OutP (w : World) (vs0 ls0 vs ls : List (Int × Int)) (x y : Value) (W : World) : Prop :=
  Blk2 W w.heap.size x y ∧ Blk2 W (w.heap.size + 1) (.slice none 0 0) (.slice none 0 0) ∧ Holds W x vs ∧ Holds W y ls ∧ Below w.heap.size w W ∧ validC vs ls = true ∧ (∀ r c, hasC vs ls r c = hasC vs0 ls0 r c) ∧ vs.length + ls.length ≤ 1000
theorem OutP.below {w W W' : World} {vs0 ls0 vs ls : List (Int × Int)} {x y : Value} (h : OutP w vs0 ls0 vs ls x y W) (hb : Below W.heap.size W W') : OutP w vs0 ls0 vs ls x y W' :=
  ⟨h.1.below hb, h.2.1.below hb, h.2.2.1.below hb, h.2.2.2.1.below hb, below_trans h.2.2.2.2.1 hb, h.2.2.2.2.2⟩

theorem set2_size (W : World) (g : Nat) (x y : Value) : ((W.setCell ⟨g, 0, none⟩ x).setCell ⟨g, 1, none⟩ y).heap.size = W.heap.size := by
  simp
theorem set2_off (W : World) (g : Nat) (x y : Value) (k : Nat) (hk : k ≠ g) : ((W.setCell ⟨g, 0, none⟩ x).setCell ⟨g, 1, none⟩ y).heap[k]? = W.heap[k]? :=
  (Below.heap_setCell _ ⟨g, 1, none⟩ y k hk).trans (Below.heap_setCell W ⟨g, 0, none⟩ x k hk)
theorem Holds.set2 {W : World} {g : Nat} {x y x' y' v : Value} {xs : List (Int × Int)} (h : Holds W v xs) (hB : Blk2 W g x y) (hx : ∀ z, x ≠ .int .i64 z) (hy : ∀ z, y ≠ .int .i64 z) : Holds ((W.setCell ⟨g, 0, none⟩ x').setCell ⟨g, 1, none⟩ y') v xs :=
  h.off hB hx hy (by rw [set2_size]; exact Nat.le_refl _) fun k hk _ => set2_off W g x' y' k hk
theorem below_set2 {w W : World} {g : Nat} (h : Below w.heap.size w W) (hg : w.heap.size ≤ g) (x y : Value) : Below w.heap.size w ((W.setCell ⟨g, 0, none⟩ x).setCell ⟨g, 1, none⟩ y) :=
  (h.setCell (p := ⟨g, 0, none⟩) hg _).setCell (p := ⟨g, 1, none⟩) hg _
/-- After a pass: what was read and what is left are stored. -/
theorem OutP.next {w w1 W : World} {vs0 ls0 vs ls us rs : List (Int × Int)} {x y vv rest : Value} (h : OutP w vs0 ls0 vs ls x y w1) (hx : ∀ z, x ≠ .int .i64 z) (hy : ∀ z, y ≠ .int .i64 z) (hI : InP w1 vs ls ls.length rest vv rs us W) :
    OutP w vs0 ls0 us rs vv rest ((W.setCell ⟨w.heap.size, 0, none⟩ vv).setCell ⟨w.heap.size, 1, none⟩ rest) := by
  have hp : passC vs [] ls = (us, rs) := by have := hI.1; rwa [List.drop_length, passC] at this
  have hB := h.1.below hI.bel
  have hB2 := h.2.1.below hI.bel
  have hv := pass_validC h.2.2.2.2.2.1
  have hh := pass_hasC h.2.2.2.2.2.1
  rw [hp] at hv hh
  refine ⟨hB.set _ _, (hB2.other (by omega) 0 _).other (by omega) 1 _, hI.vec.set2 hB hx hy, ?_, below_set2 (below_trans h.2.2.2.2.1 hI.bel) (Nat.le_refl _) _ _, hv, fun r c => by rw [hh, h.2.2.2.2.2.2.1], by have := hI.len; have := h.2.2.2.2.2.2.2; omega⟩
  obtain ⟨A, c, e0, h1, h2, h3⟩ := SlAt.of_own encD_len hI.own
  exact Holds.set2 ⟨A, c, e0, h3, h1, h2⟩ hB hx hy

set_option maxRecDepth 100000 in
set_option maxHeartbeats 4000000 in
theorem ref3Compact (v : Value) (vs0 ls0 : List (Int × Int)) (w : World) (h : HoldsC w v vs0 ls0) (hv : validC vs0 ls0 = true) (hm : vs0.length + ls0.length ≤ 1000) :
    Calls Try.prog 22 #[v] w fun e w' => (∃ v', e = .returned v' ∧ HoldsC w' v' (compactC vs0 ls0).1 (compactC vs0 ls0).2) ∧ Below w.heap.size w w' := by
  obtain ⟨i0, hi0, hz0, hz1, hz2⟩ := info_parts infoD
  obtain ⟨A, n, B, m, rfl, h1, h2⟩ := h
  have hal : Below w.heap.size w ((w.alloc (.cells #[.slice A vs0.length n, .slice B ls0.length m] 25)).alloc (.cells #[.slice none 0 0, .slice none 0 0] 25)) :=
    ((Below.refl _ w).alloc (Nat.le_refl _) _).alloc (by simp) _
  have K : OutP w vs0 ls0 vs0 ls0 (.slice A vs0.length n) (.slice B ls0.length m) ((w.alloc (.cells #[.slice A vs0.length n, .slice B ls0.length m] 25)).alloc (.cells #[.slice none 0 0, .slice none 0 0] 25)) := by
    refine ⟨?_, ?_, h1.below hal, h2.below hal, hal, hv, fun _ _ => rfl, hm⟩
    · exact (heap_alloc_old _ _ (by simp)).trans (heap_alloc_new w _)
    · have h := heap_alloc_new (w.alloc (.cells #[.slice A vs0.length n, .slice B ls0.length m] 25)) (.cells #[.slice none 0 0, .slice none 0 0] 25)
      rwa [World.size_alloc] at h
  have K := Lib.hid K
  clear h1 h2 hal hm
  go_enter Try.func22, Try.ntmps22
  go_wp2_with fail
  go_loopw [3] (fun _ wr => ∃ (vs ls : List (Int × Int)) (A : Option Addr) (n : Nat) (B : Option Addr) (m : Nat), Hid (OutP w vs0 ls0 vs ls (.slice A vs.length n) (.slice B ls.length m) wr)) (fun _ wr => lenB w.heap.size wr)
  case atStart => exact ⟨vs0, ls0, A, n, B, m, K⟩
  case round =>
    obtain ⟨vs, ls, A, n, B, m, hK⟩ := hrel
    have c0 := hK.out.1.cell0
    have c1 := hK.out.1.cell1
    cases hc : compC vs ls with
    | true =>
      have HI := Lib.hid (ref3IsCompact_h _ _ vs ls true wr hK.out.2.2.1 hK.out.2.2.2.1 hc)
      have he := comp_unique hc (compactC_comp hv) fun r c => by rw [hK.out.2.2.2.2.2.2.1, compactC_has hv]
      have HE := Lib.hid he
      clear hc he
      go_wp2_with fail
      refine HI.out.mono ?_
      rintro e w1 ⟨rfl, hb⟩
      have K1 := Lib.hid (hK.out.below hb)
      clear hb c0 c1
      have c0 := K1.out.1.cell0
      have c1 := K1.out.1.cell1
      have d0 := K1.out.2.1.cell0
      have d1 := K1.out.2.1.cell1
      have f0 := K1.out.2.1.frozen 0
      have f1 := K1.out.2.1.frozen 1
      go_wp2_with fail
      have hs := K1.out.2.1.set (.slice A vs.length n) (.slice B ls.length m)
      have s0 := hs.cell0
      have s1 := hs.cell1
      refine bodyPost_ret (v := .agg #[.slice A vs.length n, .slice B ls.length m]) (by simp [results, Try.results22, go_sem, s0, s1]) rfl ⟨⟨_, rfl, ?_⟩, below_set2 K1.out.2.2.2.2.1 (by omega) _ _⟩
      rw [← HE.out.1, ← HE.out.2]
      exact HoldsC.mk (K1.out.2.2.1.set2 K1.out.2.1 (by intro z; simp) (by intro z; simp)) (K1.out.2.2.2.1.set2 K1.out.2.1 (by intro z; simp) (by intro z; simp))
    | false =>
      have HI := Lib.hid (ref3IsCompact_h _ _ vs ls false wr hK.out.2.2.1 hK.out.2.2.2.1 hc)
      have hnc := not_comp hK.out.2.2.2.2.2.1 hc
      have HNC := Lib.hid hnc
      have hl0 := hK.out.1.len
      clear hc hnc
      go_wp2_with fail
      refine HI.out.mono ?_
      rintro e w1 ⟨rfl, hb⟩
      have K1 := Lib.hid (hK.out.below hb)
      clear hb c0 c1
      have c0 := K1.out.1.cell0
      have c1 := K1.out.1.cell1
      have LL := K1.out.2.2.2.2.2.2.2
      have hok := (validC_iff.1 K1.out.2.2.2.2.2.1).2.2
      have HOK := Lib.hid hok
      clear hok
      go_wp2_with fail
      go_loopw [3, 4, 5] (fun rest vv i wr2 => ∃ (k : Nat) (rs us : List (Int × Int)), k ≤ ls.length ∧ i = .int .i64 k ∧ Hid (InP w1 vs ls k rest vv rs us wr2)) (fun _ _ i _ => ls.length - (intOf i).toNat)
      case atStart => exact ⟨0, [], vs, by omega, rfl, ⟨by rw [List.drop_zero], World.ownsRow_nil _ _ _ _, K1.out.2.2.1, Apart.nil _ _, Below.refl _ _, by simp, (validC_iff.1 K1.out.2.2.2.2.2.1).1⟩⟩
      case round =>
        obtain ⟨k, rs, us, hk2, rfl, hIn⟩ := hrel
        have b0 := K1.out.1.below hIn.out.bel
        have c0 := b0.cell0
        have c1 := b0.cell1
        by_cases hlt : k < ls.length
        · have hls := K1.out.2.2.2.1.below hIn.out.bel
          obtain ⟨A', c', e, hx, _⟩ := hls
          cases e
          obtain ⟨bb, off, r, c, rfl, hbl, hx1, hc0, hc1⟩ := hx.dot (j := k) hlt
          have hal : Below wr.heap.size wr (wr.alloc (.cells #[.int .i64 r, .int .i64 c] 38)) := (Below.refl _ wr).alloc (Nat.le_refl _) _
          have hInW := Lib.hid (hIn.out.below hal)
          have KB := Lib.hid ((KX.nil wr).box (.int .i64 r) (.int .i64 c) 38)
          have hvd := HOK.out _ (List.mem_of_getElem? hx1)
          have hlen := hIn.out.len
          have HX1 := Lib.hid hx1
          have HVD := Lib.hid hvd
          clear hal hx hvd hx1
          cases hbh : hasV us r c with
          | true =>
            have HB := Lib.hid hbh
            have HH := Lib.hid (ref2Has_h3 u4 us r c true _ hInW.out.vec hbh)
            clear hbh
            go_wp2_with fail
            refine HH.out.mono ?_
            rintro e w3 ⟨rfl, hb⟩
            have hI3 := Lib.hid ((hInW.out.below hb).skip HX1.out HB.out)
            clear hb c0 c1 hc0 hc1
            go_wp2
            go_roundw
            case rel => exact ⟨k + 1, rs, us, by omega, by go_num, hI3⟩
            case measure => simp [intOf]; omega
          | false =>
            have HB := Lib.hid hbh
            have HH := Lib.hid (ref2Has_h3 u4 us r c false _ hInW.out.vec hbh)
            clear hbh
            go_wp2_with fail
            refine HH.out.mono ?_
            rintro e w3 ⟨rfl, hb⟩
            have hI3 := Lib.hid (hInW.out.below hb)
            have K3 := Lib.hid (KB.out.below hb)
            clear hb c0 c1 hc0 hc1
            obtain ⟨g, hg⟩ : ∃ g, getV us r = g := ⟨_, rfl⟩
            have hgt := getV_top hIn.out.valid r
            rw [hg] at hgt
            have hw : wrap64 (g + 1) = g + 1 := by unfold wrap64; omega
            have HG := Lib.hid fun p => ref2Get_h3 u4 us r g _ (hI3.out.below (below_far w3 p)).vec hg
            have l2 := fun p => (K3.out.far p).cell (a := ⟨wr.heap.size, 0, none⟩) (v := .int .i64 r) (by simp)
            have l3 := fun p => (K3.out.far p).cell (a := ⟨wr.heap.size, 1, none⟩) (v := .int .i64 c) (by simp)
            cases hn : (c == wrap64 (g + 1)) with
            | true =>
              have hn2 : c = getV us r + 1 := by rw [hg, ← hw]; simpa using hn
              have HN := Lib.hid hn2
              clear hn2 hg hgt hw
              go_wp2_with fail
              refine wp_region_far (by kernel_rfl) (by kernel_rfl) ?_
              repeat (go_big_quiet_step ((go_at_call 50; exact far_of (HG.out _))))
              refine wpQuiet_nil ?_
              rintro _ ⟨p, rfl⟩
              have hI4 := Lib.hid (hI3.out.below (below_far w3 p))
              have K4 := Lib.hid (K3.out.far p)
              generalize far w3 p = w4 at hI4 K4 ⊢
              clear l2 l3
              have l2 := K4.out.cell (a := ⟨wr.heap.size, 0, none⟩) (v := .int .i64 r) (by simp)
              have l3 := K4.out.cell (a := ⟨wr.heap.size, 1, none⟩) (v := .int .i64 c) (by simp)
              go_wp2_with fail
              refine (ref2RaiseO_h u4 us r c w4 hI4.out.vec (by omega) HB.out).mono ?_
              rintro e w5 ⟨⟨v', rfl, ho⟩, hb⟩
              have hI5 := Lib.hid (hI4.out.rise HX1.out HVD.out HB.out HN.out hb ho)
              clear hb ho l2 l3
              go_wp2
              go_roundw
              case rel => exact ⟨k + 1, rs, _, by omega, by go_num, hI5⟩
              case measure => simp [intOf]; omega
            | false =>
              have hn2 : c ≠ getV us r + 1 := by rw [hg, ← hw]; simpa using hn
              have HN := Lib.hid hn2
              have hn3 : ¬ c = wrap64 (g + 1) := by simpa using hn
              clear hn2 hg hgt hw
              go_wp2_with fail
              refine wp_region_far (by kernel_rfl) (by kernel_rfl) ?_
              repeat (go_big_quiet_step ((go_at_call 50; exact far_of (HG.out _))))
              refine wpQuiet_nil ?_
              rintro _ ⟨p, rfl⟩
              have hI4 := Lib.hid (hI3.out.below (below_far w3 p))
              have K4 := Lib.hid (K3.out.far p)
              generalize far w3 p = w4 at hI4 K4 ⊢
              clear l2 l3
              have l2 := K4.out.cell (a := ⟨wr.heap.size, 0, none⟩) (v := .int .i64 r) (by simp)
              have l3 := K4.out.cell (a := ⟨wr.heap.size, 1, none⟩) (v := .int .i64 c) (by simp)
              have hsz := hI4.out.bel.size
              go_wp2_with (at_builtin
                           refine wpList_append_sl (o := ⟨some 27, _, _, _, _, _⟩) _ encD 2 rfl (.tmp 24) (.tmp 26) 22 rfl encD_len (by omega) encD_one w1.heap.size 38 i0 _ 16 Try.underlying22 hi0 hz0 hz1 hz2 rfl _ rs rfl (hI4.out.own.kept (World.grownBy_alloc w4 _ none) (by cases u3.ownBlock <;> simp)) _ 1 _ [(r, c)] rfl rfl (SlAt.one (heap_alloc_new _ _)) (by simp [maxLen]; omega) (by simp; omega) (by simp; omega) ?_
                           intro r2 w5 hown3 hg3 hat3
                           have hI5 := Lib.hid (hI4.out.stay HX1.out HB.out HN.out hown3 hg3 hat3)
                           clear hown3 hg3 hat3)
              go_roundw
              case rel => exact ⟨k + 1, _, us, by omega, by go_num, hI5⟩
              case measure => simp [intOf]; omega
        · have hkk : k = ls.length := by omega
          have HKK := Lib.hid hkk
          obtain ⟨A2, n2, e2, _⟩ := id hIn.out.vec
          obtain ⟨B2, m2, e3, _⟩ := SlAt.of_own encD_len hIn.out.own
          subst e2
          subst e3
          have f0 := b0.frozen 0
          have f1 := b0.frozen 1
          clear hkk
          go_wp2_with fail
          have hI2 := hIn.out
          rw [HKK.out] at hI2
          have hp : passC vs [] ls = (us, rs) := by have := hI2.1; rwa [List.drop_length, passC] at this
          have ho := OutP.next K1.out (by intro z; simp) (by intro z; simp) hI2
          have hless : rs.length < ls.length := by
            obtain ⟨d, hd, hg⟩ := HNC.out
            have := pass_less (rest := []) hd hg
            rw [hp] at this
            simpa using this
          exact ⟨⟨us, rs, A2, n2, B2, m2, ho⟩, by rw [ho.1.len, hl0]; exact hless⟩

end Go.Proofs.Ytibnlifdeknicaa
