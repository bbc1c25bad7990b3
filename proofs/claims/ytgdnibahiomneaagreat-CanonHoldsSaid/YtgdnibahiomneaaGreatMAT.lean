/- Several texts in one: CanM. -/
import Derived.Test.YtgdnibahiomneaaGreatMAS
namespace Go.Proofs.YtgdnibahiomneaaGreat

section
open Go.RowKit

/-- Rows of dots, of marks, of items of the call's own. -/
abbrev RowD14 (W : World) (B : Nat) (v : Value) (l : List (Int × Int)) : Prop := W.ownsRow B 51 2 v l.length (cellsOf encD l)
abbrev RowM14 (W : World) (B : Nat) (v : Value) (l : List Mk) : Prop := W.ownsRow B 53 4 v l.length (cellsOf encM l)
abbrev RowI14 (W : World) (B : Nat) (v : Value) (l : List ItV) : Prop := W.ownsRow B 56 2 v l.length (cellsOf encIt l)
abbrev slV14 (y : ItV) : Value := .slice y.A y.ms.length y.c
theorem ownKeep {W W' : World} {B n k : Nat} {e : TypeId} {v : Value} {xs : List Value} {S : Nat → Prop} (h : W.ownsRow B e k v n xs) (hc : Chg S W W') (hn : ∀ j, v.ownBlock = some j → ¬ S j) : W'.ownsRow B e k v n xs := by
  refine ⟨h.1, ?_⟩
  rcases h.2 with hn' | ⟨r, cap, cur, rfl, hb, hg, rest⟩
  · exact .inl hn'
  · exact .inr ⟨r, cap, cur, rfl, hb, (hc.block r (Array.getElem?_eq_some_iff.1 hg).1 (hn r rfl)).trans hg, rest⟩
theorem ownBelow {W W' : World} {B n k : Nat} {e : TypeId} {v : Value} {xs : List Value} (h : W.ownsRow B e k v n xs) (hb : BelW W W') : W'.ownsRow B e k v n xs := ownKeep h (S := fun _ => False) (.of_below hb) (fun _ _ => id)
theorem own_ne {W : World} {B g k n : Nat} {e t : TypeId} {v : Value} {xs : List Value} {cur : Array Value} {z : Nat × Nat} (h : W.ownsRow B e k v n xs) (hg : W.heap[g]? = some (.cells cur t z)) (ht : t ≠ e) : v.ownBlock ≠ some g := by
  rcases h.2 with ⟨rfl, _⟩ | ⟨g', cap, cur', rfl, _, hg', _⟩
  · simp [Value.ownBlock]
  · intro e1
    have e2 : g' = g := by simpa [Value.ownBlock] using e1
    subst e2
    rw [hg] at hg'
    injection hg' with h1
    injection h1 with _ h2 _
    exact ht h2
theorem own_own {W : World} {B B' k k' n n' : Nat} {e e' : TypeId} {u v : Value} {xs ys : List Value} (h : W.ownsRow B e k u n xs) (h' : W.ownsRow B' e' k' v n' ys) (he : e ≠ e') : ∀ j, v.ownBlock = some j → u.ownBlock ≠ some j := by
  intro j hj
  rcases h'.2 with ⟨rfl, _⟩ | ⟨g', cap, cur', rfl, _, hg', _⟩
  · cases hj
  · have e2 : g' = j := by simpa [Value.ownBlock] using hj
    subst e2
    exact own_ne h hg' (Ne.symm he)
/-- What holds while a copy's box is made. -/
structure CpG (E : World) (vs ls : List (Int × Int)) (L : Nat → Bool) (a : Act) (W : World) : Prop where
  bel : Below E.heap.size E W
  sz : a.tmps.size = 39
  r1 : L 3 = true → RowD14 W E.heap.size (a.eval (.tmp 9)) vs
  r2 : L 7 = true → RowD14 W E.heap.size (a.eval (.tmp 13)) ls
  b1 : L 8 = true → a.eval (.tmp 14) = .agg #[a.eval (.tmp 9), a.eval (.tmp 13)]
  b2 : L 9 = true → a.eval (.tmp 15) = .agg #[a.eval (.tmp 9), a.eval (.tmp 13), .slice none 0 0]
  bx : L 10 = true → ∃ b, a.eval (.tmp 3) = ptr0 b ∧ E.heap.size ≤ b ∧ (L 11 = false → W.heap[b]? = some (.cells #[.slice none 0 0, .slice none 0 0, .slice none 0 0] 28 (0, 0))) ∧ (L 11 = true → W.heap[b]? = some (.cells #[a.eval (.tmp 9), a.eval (.tmp 13), .slice none 0 0] 28 (0, 0)))
def cpP (g : Nat) (v l : Value) : Nat → Option Value
  | 0 => some (.pointer (some ⟨g, 0, none⟩))
  | 1 => some (.pointer (some ⟨g, 0, none⟩))
  | 2 => some v
  | 4 => some (.pointer (some ⟨g, 0, none⟩))
  | 5 => some (.pointer (some ⟨g, 1, none⟩))
  | 6 => some l
  | _ => none
abbrev cpS (E : World) (vs ls : List (Int × Int)) (g : Nat) (v l : Value) : RegT := ⟨CpG E vs ls, fun j u _ => ∀ z, cpP g v l j = some z → u = z⟩
section
variable {E W W' : World} {vs ls : List (Int × Int)} {L : Nat → Bool} {a : Act} {k d : Nat} {u : Value}
theorem heapKeep {g : Nat} {o : Obj} (h : W.heap[g]? = some o) (hb : BelW W W') : W'.heap[g]? = some o := (hb.block g (Array.getElem?_eq_some_iff.1 h).1).trans h
/-- Another value, or another row. -/
theorem CpG.keep (g : CpG E vs ls L a W) (hb : BelW W W') (hk : (k != 3 && k != 7 && k != 8 && k != 9 && k != 10 && k != 11) = true) (hd : (d != 9 && d != 13 && d != 14 && d != 15 && d != 3) = true) : CpG E vs ls (moreL L k) (a.put (some d) u) W' := by
  simp only [Bool.and_eq_true, bne_iff_ne, ne_eq] at hk hd
  obtain ⟨⟨⟨⟨⟨k3, k7⟩, k8⟩, k9⟩, k10⟩, k11⟩ := hk
  obtain ⟨⟨⟨⟨d9, d13⟩, d14⟩, d15⟩, d3⟩ := hd
  have m : ∀ {j}, k ≠ j → moreL L k j = L j := fun h => moreL_ne (Ne.symm h)
  refine ⟨below_trans g.bel hb, (put_sz _ _ _).trans g.sz, fun h => ?_, fun h => ?_, fun h => ?_, fun h => ?_, fun h => ?_⟩
  · rw [m k3] at h; rw [eval_put_ne d9]; exact ownBelow (g.r1 h) hb
  · rw [m k7] at h; rw [eval_put_ne d13]; exact ownBelow (g.r2 h) hb
  · rw [m k8] at h; rw [eval_put_ne d14, eval_put_ne d9, eval_put_ne d13]; exact g.b1 h
  · rw [m k9] at h; rw [eval_put_ne d15, eval_put_ne d9, eval_put_ne d13]; exact g.b2 h
  · rw [m k10] at h
    obtain ⟨b, e, h1, h2, h3⟩ := g.bx h
    rw [eval_put_ne d3, eval_put_ne d9, eval_put_ne d13, m k11]
    exact ⟨b, e, h1, fun h => heapKeep (h2 h) hb, fun h => heapKeep (h3 h) hb⟩
end

theorem fill14 {W : World} {n : Nat} {a b e : Value} (h : W.heap[n]? = some (.cells #[a, b, e] 28 (0, 0))) (u v z : Value) : (((W.setCell ⟨n, 0, none⟩ u).setCell ⟨n, 1, none⟩ v).setCell ⟨n, 2, none⟩ z).heap[n]? = some (.cells #[u, v, z] 28 (0, 0)) := by
  have s1 : (W.setCell ⟨n, 0, none⟩ u).heap[n]? = some (.cells #[u, b, e] 28 (0, 0)) := by
    show (W.heap.modify n _)[n]? = _
    rw [Array.getElem?_modify, if_pos rfl, h]; rfl
  have s2 : ((W.setCell ⟨n, 0, none⟩ u).setCell ⟨n, 1, none⟩ v).heap[n]? = some (.cells #[u, v, e] 28 (0, 0)) := by
    show ((W.setCell ⟨n, 0, none⟩ u).heap.modify n _)[n]? = _
    rw [Array.getElem?_modify, if_pos rfl, s1]; rfl
  show (((W.setCell ⟨n, 0, none⟩ u).setCell ⟨n, 1, none⟩ v).heap.modify n _)[n]? = _
  rw [Array.getElem?_modify, if_pos rfl, s2]; rfl

theorem cells14 {W : World} {n : Nat} {a b e : Value} (h : W.heap[n]? = some (.cells #[a, b, e] 28 (0, 0))) : W.cell? ⟨n, 0, none⟩ = some a ∧ W.cell? ⟨n, 1, none⟩ = some b ∧ W.cell? ⟨n, 2, none⟩ = some e :=
  ⟨by simp [World.cell?, h], by simp [World.cell?, h], by simp [World.cell?, h]⟩

set_option maxRecDepth 100000 in
set_option maxHeartbeats 4000000 in
theorem refCopy14 (c : CaV) (w : World) (hc : CaOK w c) (hl : LenB c.ca) :
    Calls Tryz.prog 10 #[mkC c] w (MadeC c.ca w) := by
  obtain ⟨td0, hid0, hzd0, hzd1, hzd2⟩ := info_parts infoD
  obtain ⟨tm0, him, hzm0, hzm1, hzm2⟩ := info_parts infoM
  obtain ⟨ti0, hii, hzi0, hzi1, hzi2⟩ := info_parts infoIt
  obtain ⟨V, nv, vs, Lc, nl, ls, I, ni, xs⟩ := c
  obtain ⟨hV, hL, hX⟩ := hc
  obtain ⟨V', nv', eV, hV, _, _⟩ := hV
  obtain ⟨L', nl', eL, hL, _, _⟩ := hL
  obtain ⟨I', ni', eI, hX, _, _⟩ := hX
  cases eV
  cases eL
  cases eI
  obtain ⟨l1, l2, l3, l4⟩ := hl
  replace l1 : vs.length ≤ 1000 := l1
  replace l2 : ls.length ≤ 1000 := l2
  replace l3 : xs.length ≤ 1000 := by simpa [CaV.ca, its] using l3
  have HIT := Lib.hid (show ∀ x ∈ xs, x.nm.length ≤ 1000 ∧ x.ms.length ≤ 1000 from fun x hx => ⟨(l4 x.it (by simp only [CaV.ca, its]; exact List.mem_map_of_mem hx)).1, (l4 x.it (by simp only [CaV.ca, its]; exact List.mem_map_of_mem hx)).2.1⟩)
  have h1 : Below w.heap.size w (w.alloc (.cells #[.slice V vs.length nv, .slice Lc ls.length nl, .slice I xs.length ni] 28)) := (Below.refl _ w).alloc (Nat.le_refl _) _
  have h2 : Below w.heap.size w ((w.alloc (.cells #[.slice V vs.length nv, .slice Lc ls.length nl, .slice I xs.length ni] 28)).alloc (.cells #[.slice none 0 0, .slice none 0 0, .slice none 0 0] 28)) := h1.alloc (by simp) _
  have hbx : ((w.alloc (.cells #[.slice V vs.length nv, .slice Lc ls.length nl, .slice I xs.length ni] 28)).alloc (.cells #[.slice none 0 0, .slice none 0 0, .slice none 0 0] 28)).heap[w.heap.size]? = some (.cells #[.slice V vs.length nv, .slice Lc ls.length nl, .slice I xs.length ni] 28 (0, 0)) := by
    rw [heap_old (by simp)]; exact heap_new rfl
  have hby : ((w.alloc (.cells #[.slice V vs.length nv, .slice Lc ls.length nl, .slice I xs.length ni] 28)).alloc (.cells #[.slice none 0 0, .slice none 0 0, .slice none 0 0] 28)).heap[w.heap.size + 1]? = some (.cells #[.slice none 0 0, .slice none 0 0, .slice none 0 0] 28 (0, 0)) := heap_new (by simp)
  have HB0 := Lib.hid h2
  have HV := Lib.hid (SlAt.below hV h2)
  have HL := Lib.hid (SlAt.below hL h2)
  have HX := Lib.hid (hX.below h2)
  have HBX0 := Lib.hid hbx
  have HBY0 := Lib.hid hby
  clear hV hL hX h1 h2 hbx hby l4
  show Calls _ _ #[.agg #[.slice V vs.length nv, .slice Lc ls.length nl, .slice I xs.length ni]] _ _
  go_enter Tryz.func10, Tryz.ntmps10
  go_upto_region 1 with fail
  generalize World.alloc (World.alloc w _) _ = E at HB0 HV HL HX HBX0 HBY0 ⊢
  have HBX := Lib.hid fun (W : World) (hW : Below E.heap.size E W) => (show W.cell? ⟨w.heap.size, 0, none⟩ = some (.slice V vs.length nv) ∧ W.cell? ⟨w.heap.size, 1, none⟩ = some (.slice Lc ls.length nl) ∧ W.cell? ⟨w.heap.size, 2, none⟩ = some (.slice I xs.length ni) from by
    have h := heapKeep HBX0.out hW
    exact ⟨by simp [World.cell?, h], by simp [World.cell?, h], by simp [World.cell?, h]⟩)
  refine wp_region_T (S := cpS E vs ls w.heap.size (.slice V vs.length nv) (.slice Lc ls.length nl)) (by kernel_rfl) (by kernel_rfl) (by kernel_rfl) (dst_small (n := 39) (by kernel_rfl)) ⟨(Below.refl _ E).drew, by rfl, fun h => (by cases h), fun h => (by cases h), fun h => (by cases h), fun h => (by cases h), fun h => (by cases h)⟩ ?_ ?_
  · refine ⟨?_, ?_, ?_, ?_, ?_, ?_, ?_, ?_, ?_, ?_, ?_, ?_, trivial⟩
    · refine StepT.val rfl fun L a W hI hk hd => ?_
      have e1 : a.tmps[1]?.getD undef = .pointer (some ⟨w.heap.size, 0, none⟩) := hI.at 1 (by kernel_rfl)
      exact ⟨rfl, .pointer (some ⟨w.heap.size, 0, none⟩), W, by go_simp, fun _ _ _ h => h, hI.glob.keep (Below.refl _ W) (by rfl) (by rfl), fun z hz => Option.some.inj hz⟩
    · refine StepT.val rfl fun L a W hI hk hd => ?_
      obtain ⟨_, e6, hp6⟩ := hI.get 0 6 (hd 0 rfl) rfl
      rw [hp6 _ rfl] at e6
      exact ⟨rfl, .pointer (some ⟨w.heap.size, 0, none⟩), W, by go_simp, fun _ _ _ h => h, hI.glob.keep (Below.refl _ W) (by rfl) (by rfl), fun z hz => Option.some.inj hz⟩
    · refine StepT.val rfl fun L a W hI hk hd => ?_
      obtain ⟨_, e7, hp7⟩ := hI.get 1 7 (hd 1 rfl) rfl
      rw [hp7 _ rfl] at e7
      obtain ⟨x0, x1, x2⟩ := HBX.out W hI.glob.bel
      exact ⟨rfl, .slice V vs.length nv, W, by go_simp, fun _ _ _ h => h, hI.glob.keep (Below.refl _ W) (by rfl) (by rfl), fun z hz => Option.some.inj hz⟩
    · refine StepT.val rfl fun L a W hI hk hd => ?_
      obtain ⟨_, e8, hp8⟩ := hI.get 2 8 (hd 2 rfl) rfl
      rw [hp8 _ rfl] at e8
      have h8 : L 8 = false := hI.before (j := 8) (o := _) rfl (k := 3) rfl hk
      have h9 : L 9 = false := hI.before (j := 9) (o := _) rfl (k := 8) rfl h8
      have h11 : L 11 = false := hI.before (j := 11) (o := _) rfl (k := 9) rfl h9
      have g := hI.glob
      obtain ⟨v', W', hrun, hown, hgr, _⟩ := run_append_sl (P := Tryz.prog) W encD 2 encD_len (by omega) encD_one E.heap.size 23 23 51 td0 _ 16 Tryz.underlying23 hid0 hzd0 hzd1 hzd2 rfl (.slice none 0 0) [] (World.ownsRow_nil _ _ _ _) V nv vs (SlAt.below HV.out g.bel) (by simp [maxLen]; omega) (by simp; omega) g.bel.size
      have hrun2 : (Builtin.append_ #[23, 23] 23 #[.slice none 0 0, .slice V vs.length nv]).run Tryz.prog W = .ok v' W' := hrun
      rw [List.nil_append] at hown
      have hs2 : a.eval (.tmp 8) = .slice V vs.length nv := by rw [eval_tmp]; exact e8
      have hb : BelW W W' := (Below.refl _ W).grown hgr (Nat.le_refl _) (fun _ h => by cases h)
      refine ⟨rfl, v', W', ?_, fun _ _ _ h => h, ?_, fun z hz => by cases hz⟩
      · unfold execOp
        simp only [resolve, invoke, builtin, Sem.run_bind, Sem.run_pure, Result.andThen_ok, List.map_toArray, List.map_cons, List.map_nil, hs2, show a.eval (.const (.slice none 0 0)) = .slice none 0 0 from rfl, hrun2]
      · have m : ∀ {i}, 3 ≠ i → moreL L 3 i = L i := fun h => moreL_ne (Ne.symm h)
        refine ⟨below_trans g.bel hb, (put_sz _ _ _).trans g.sz, fun h => ?_, fun h => ?_, fun h => ?_, fun h => ?_, fun h => ?_⟩
        · rw [eval_put_eq (by rw [g.sz]; decide)]; exact hown
        · rw [m (by decide)] at h; rw [eval_put_ne (by decide)]; exact ownBelow (g.r2 h) hb
        · rw [m (by decide), h8] at h; cases h
        · rw [m (by decide), h9] at h; cases h
        · rw [m (by decide)] at h
          obtain ⟨b, e, h1, h2, h3⟩ := g.bx h
          rw [eval_put_ne (by decide), m (by decide)]
          exact ⟨b, e, h1, fun h => heapKeep (h2 h) hb, fun h => by rw [h11] at h; cases h⟩
    · refine StepT.val rfl fun L a W hI hk hd => ?_
      have e1 : a.tmps[1]?.getD undef = .pointer (some ⟨w.heap.size, 0, none⟩) := hI.at 1 (by kernel_rfl)
      exact ⟨rfl, .pointer (some ⟨w.heap.size, 0, none⟩), W, by go_simp, fun _ _ _ h => h, hI.glob.keep (Below.refl _ W) (by rfl) (by rfl), fun z hz => Option.some.inj hz⟩
    · refine StepT.val rfl fun L a W hI hk hd => ?_
      obtain ⟨_, e10, hp10⟩ := hI.get 4 10 (hd 4 rfl) rfl
      rw [hp10 _ rfl] at e10
      exact ⟨rfl, .pointer (some ⟨w.heap.size, 1, none⟩), W, by go_simp, fun _ _ _ h => h, hI.glob.keep (Below.refl _ W) (by rfl) (by rfl), fun z hz => Option.some.inj hz⟩
    · refine StepT.val rfl fun L a W hI hk hd => ?_
      obtain ⟨_, e11, hp11⟩ := hI.get 5 11 (hd 5 rfl) rfl
      rw [hp11 _ rfl] at e11
      obtain ⟨x0, x1, x2⟩ := HBX.out W hI.glob.bel
      exact ⟨rfl, .slice Lc ls.length nl, W, by go_simp, fun _ _ _ h => h, hI.glob.keep (Below.refl _ W) (by rfl) (by rfl), fun z hz => Option.some.inj hz⟩
    · refine StepT.val rfl fun L a W hI hk hd => ?_
      obtain ⟨_, e12, hp12⟩ := hI.get 6 12 (hd 6 rfl) rfl
      rw [hp12 _ rfl] at e12
      have h8 : L 8 = false := hI.before (j := 8) (o := _) rfl (k := 7) rfl hk
      have h9 : L 9 = false := hI.before (j := 9) (o := _) rfl (k := 8) rfl h8
      have h11 : L 11 = false := hI.before (j := 11) (o := _) rfl (k := 9) rfl h9
      have g := hI.glob
      obtain ⟨v', W', hrun, hown, hgr, _⟩ := run_append_sl (P := Tryz.prog) W encD 2 encD_len (by omega) encD_one E.heap.size 22 22 51 td0 _ 16 Tryz.underlying22 hid0 hzd0 hzd1 hzd2 rfl (.slice none 0 0) [] (World.ownsRow_nil _ _ _ _) Lc nl ls (SlAt.below HL.out g.bel) (by simp [maxLen]; omega) (by simp; omega) g.bel.size
      have hrun2 : (Builtin.append_ #[22, 22] 22 #[.slice none 0 0, .slice Lc ls.length nl]).run Tryz.prog W = .ok v' W' := hrun
      rw [List.nil_append] at hown
      have hs2 : a.eval (.tmp 12) = .slice Lc ls.length nl := by rw [eval_tmp]; exact e12
      have hb : BelW W W' := (Below.refl _ W).grown hgr (Nat.le_refl _) (fun _ h => by cases h)
      refine ⟨rfl, v', W', ?_, fun _ _ _ h => h, ?_, fun z hz => by cases hz⟩
      · unfold execOp
        simp only [resolve, invoke, builtin, Sem.run_bind, Sem.run_pure, Result.andThen_ok, List.map_toArray, List.map_cons, List.map_nil, hs2, show a.eval (.const (.slice none 0 0)) = .slice none 0 0 from rfl, hrun2]
      · have m : ∀ {i}, 7 ≠ i → moreL L 7 i = L i := fun h => moreL_ne (Ne.symm h)
        refine ⟨below_trans g.bel hb, (put_sz _ _ _).trans g.sz, fun h => ?_, fun h => ?_, fun h => ?_, fun h => ?_, fun h => ?_⟩
        · rw [m (by decide)] at h; rw [eval_put_ne (by decide)]; exact ownBelow (g.r1 h) hb
        · rw [eval_put_eq (by rw [g.sz]; decide)]; exact hown
        · rw [m (by decide), h8] at h; cases h
        · rw [m (by decide), h9] at h; cases h
        · rw [m (by decide)] at h
          obtain ⟨b, e, h1, h2, h3⟩ := g.bx h
          rw [eval_put_ne (by decide), m (by decide)]
          exact ⟨b, e, h1, fun h => heapKeep (h2 h) hb, fun h => by rw [h11] at h; cases h⟩
    · refine StepT.val rfl fun L a W hI hk hd => ?_
      have g := hI.glob
      have h9 : L 9 = false := hI.before (j := 9) (o := _) rfl (k := 8) rfl hk
      have h11 : L 11 = false := hI.before (j := 11) (o := _) rfl (k := 9) rfl h9
      obtain ⟨A9, c9, f9, _, _, _⟩ := SlAt.of_own encD_len (g.r1 (hd 3 rfl))
      obtain ⟨A13, c13, f13, _, _, _⟩ := SlAt.of_own encD_len (g.r2 (hd 7 rfl))
      have e9 : a.tmps[9]?.getD undef = .slice A9 vs.length c9 := by rw [← eval_tmp]; exact f9
      have e13 : a.tmps[13]?.getD undef = .slice A13 ls.length c13 := by rw [← eval_tmp]; exact f13
      refine ⟨rfl, .agg #[.slice A9 vs.length c9, .slice A13 ls.length c13], W, by go_simp, fun _ _ _ h => h, ?_, fun z hz => by cases hz⟩
      have m : ∀ {i}, 8 ≠ i → moreL L 8 i = L i := fun h => moreL_ne (Ne.symm h)
      refine ⟨g.bel, (put_sz _ _ _).trans g.sz, fun h => ?_, fun h => ?_, fun h => ?_, fun h => ?_, fun h => ?_⟩
      · rw [eval_put_ne (by decide)]; exact g.r1 (hd 3 rfl)
      · rw [eval_put_ne (by decide)]; exact g.r2 (hd 7 rfl)
      · rw [eval_put_eq (by rw [g.sz]; decide), eval_put_ne (by decide), eval_put_ne (by decide), f9, f13]
      · rw [m (by decide), h9] at h; cases h
      · rw [m (by decide)] at h
        obtain ⟨b, e, h1, h2, h3⟩ := g.bx h
        rw [eval_put_ne (by decide), m (by decide)]
        exact ⟨b, e, h1, h2, fun h => by rw [h11] at h; cases h⟩
    · refine StepT.val rfl fun L a W hI hk hd => ?_
      have g := hI.glob
      have h8 : L 8 = true := hd 8 rfl
      have h3' : L 3 = true := waits_spec (hI.clo 8 _ rfl h8) 3 rfl
      have h7' : L 7 = true := waits_spec (hI.clo 8 _ rfl h8) 7 rfl
      have h11 : L 11 = false := hI.before (j := 11) (o := _) rfl (k := 9) rfl hk
      obtain ⟨A9, c9, f9, _, _, _⟩ := SlAt.of_own encD_len (g.r1 h3')
      obtain ⟨A13, c13, f13, _, _, _⟩ := SlAt.of_own encD_len (g.r2 h7')
      have e14 : a.tmps[14]?.getD undef = .agg #[.slice A9 vs.length c9, .slice A13 ls.length c13] := by rw [← eval_tmp, g.b1 h8, f9, f13]
      refine ⟨rfl, .agg #[.slice A9 vs.length c9, .slice A13 ls.length c13, .slice none 0 0], W, by go_simp, fun _ _ _ h => h, ?_, fun z hz => by cases hz⟩
      have m : ∀ {i}, 9 ≠ i → moreL L 9 i = L i := fun h => moreL_ne (Ne.symm h)
      refine ⟨g.bel, (put_sz _ _ _).trans g.sz, fun h => ?_, fun h => ?_, fun h => ?_, fun h => ?_, fun h => ?_⟩
      · rw [eval_put_ne (by decide)]; exact g.r1 h3'
      · rw [eval_put_ne (by decide)]; exact g.r2 h7'
      · rw [eval_put_ne (by decide), eval_put_ne (by decide), eval_put_ne (by decide)]; exact g.b1 h8
      · rw [eval_put_eq (by rw [g.sz]; decide), eval_put_ne (by decide), eval_put_ne (by decide), f9, f13]
      · rw [m (by decide)] at h
        obtain ⟨b, e, h1, h2, h3⟩ := g.bx h
        rw [eval_put_ne (by decide), m (by decide)]
        exact ⟨b, e, h1, h2, fun h => by rw [h11] at h; cases h⟩
    · refine StepT.val rfl fun L a W hI hk hd => ?_
      have g := hI.glob
      have h11 : L 11 = false := hI.before (j := 11) (o := _) rfl (k := 10) rfl hk
      have hb : BelW W (W.alloc (.cells #[.slice none 0 0, .slice none 0 0, .slice none 0 0] 28)) := (Below.refl _ W).alloc (Nat.le_refl _) _
      refine ⟨rfl, ptr0 W.heap.size, W.alloc (.cells #[.slice none 0 0, .slice none 0 0, .slice none 0 0] 28), by go_simp, fun _ _ _ h => h, ?_, fun z hz => by cases hz⟩
      have m : ∀ {i}, 10 ≠ i → moreL L 10 i = L i := fun h => moreL_ne (Ne.symm h)
      refine ⟨below_trans g.bel hb, (put_sz _ _ _).trans g.sz, fun h => ?_, fun h => ?_, fun h => ?_, fun h => ?_, fun h => ?_⟩
      · rw [m (by decide)] at h; rw [eval_put_ne (by decide)]; exact ownBelow (g.r1 h) hb
      · rw [m (by decide)] at h; rw [eval_put_ne (by decide)]; exact ownBelow (g.r2 h) hb
      · rw [m (by decide)] at h; rw [eval_put_ne (by decide), eval_put_ne (by decide), eval_put_ne (by decide)]; exact g.b1 h
      · rw [m (by decide)] at h; rw [eval_put_ne (by decide), eval_put_ne (by decide), eval_put_ne (by decide)]; exact g.b2 h
      · rw [eval_put_eq (by rw [g.sz]; decide), m (by decide)]
        exact ⟨W.heap.size, rfl, g.bel.size, fun _ => heap_alloc_new W _, fun h => by rw [h11] at h; cases h⟩
    · refine StepT.skip rfl rfl fun L a W hI hk hd => ?_
      have g := hI.glob
      have h9 : L 9 = true := hd 9 rfl
      have h8 : L 8 = true := waits_spec (hI.clo 9 _ rfl h9) 8 rfl
      have h3' : L 3 = true := waits_spec (hI.clo 8 _ rfl h8) 3 rfl
      have h7' : L 7 = true := waits_spec (hI.clo 8 _ rfl h8) 7 rfl
      obtain ⟨A9, c9, f9, _, _, _⟩ := SlAt.of_own encD_len (g.r1 h3')
      obtain ⟨A13, c13, f13, _, _, _⟩ := SlAt.of_own encD_len (g.r2 h7')
      obtain ⟨b, e3, hle, h2, _⟩ := g.bx (hd 10 rfl)
      have hB := h2 hk
      have e15 : a.tmps[15]?.getD undef = .agg #[.slice A9 vs.length c9, .slice A13 ls.length c13, .slice none 0 0] := by rw [← eval_tmp, g.b2 h9, f9, f13]
      have e3' : a.tmps[3]?.getD undef = ptr0 b := by rw [← eval_tmp]; exact e3
      have q0 : W.cell? ⟨b, 0, none⟩ = some (.slice none 0 0) := by simp [World.cell?, hB]
      have q1 : W.cell? ⟨b, 1, none⟩ = some (.slice none 0 0) := by simp [World.cell?, hB]
      have q2 : W.cell? ⟨b, 2, none⟩ = some (.slice none 0 0) := by simp [World.cell?, hB]
      have z0 : W.frozen? ⟨b, 0, none⟩ = false := by simp [World.frozen?, hB]
      have z1 : W.frozen? ⟨b, 1, none⟩ = false := by simp [World.frozen?, hB]
      have z2 : W.frozen? ⟨b, 2, none⟩ = false := by simp [World.frozen?, hB]
      have hch : Chg (fun j => j = b) W (((W.setCell ⟨b, 0, none⟩ (.slice A9 vs.length c9)).setCell ⟨b, 1, none⟩ (.slice A13 ls.length c13)).setCell ⟨b, 2, none⟩ (.slice none 0 0)) := ((Chg.of_set (S := fun j => j = b) ⟨b, 0, none⟩ _ rfl).trans (Chg.of_set (S := fun j => j = b) ⟨b, 1, none⟩ _ rfl) (fun _ _ h => h)).trans (Chg.of_set (S := fun j => j = b) ⟨b, 2, none⟩ _ rfl) (fun _ _ h => h)
      refine ⟨rfl, (((W.setCell ⟨b, 0, none⟩ (.slice A9 vs.length c9)).setCell ⟨b, 1, none⟩ (.slice A13 ls.length c13)).setCell ⟨b, 2, none⟩ (.slice none 0 0)), ?_, fun _ _ _ h => h, ?_⟩
      · clear g hB h2 f9 f13 e3 hch
        go_simp
      · have m : ∀ {i}, 11 ≠ i → moreL L 11 i = L i := fun h => moreL_ne (Ne.symm h)
        refine ⟨Below.setCell (p := ⟨b, 2, none⟩) (Below.setCell (p := ⟨b, 1, none⟩) (Below.setCell (p := ⟨b, 0, none⟩) g.bel hle _) hle _) hle _, g.sz, fun _ => ownKeep (g.r1 h3') hch (fun j hj e => own_ne (g.r1 h3') hB (by decide) (e ▸ hj)), fun _ => ownKeep (g.r2 h7') hch (fun j hj e => own_ne (g.r2 h7') hB (by decide) (e ▸ hj)), fun _ => g.b1 h8, fun _ => g.b2 h9, fun _ => ⟨b, e3, hle, fun h => (by cases h), fun _ => ?_⟩⟩
        show _ = some (Obj.cells #[a.eval (.tmp 9), a.eval (.tmp 13), .slice none 0 0] 28 (0, 0))
        rw [f9, f13]
        have s1 : (W.setCell ⟨b, 0, none⟩ (.slice A9 vs.length c9)).heap[b]? = some (.cells #[.slice A9 vs.length c9, .slice none 0 0, .slice none 0 0] 28 (0, 0)) := by
          show (W.heap.modify b _)[b]? = _
          rw [Array.getElem?_modify, if_pos rfl, hB]; rfl
        have s2 : ((W.setCell ⟨b, 0, none⟩ (.slice A9 vs.length c9)).setCell ⟨b, 1, none⟩ (.slice A13 ls.length c13)).heap[b]? = some (.cells #[.slice A9 vs.length c9, .slice A13 ls.length c13, .slice none 0 0] 28 (0, 0)) := by
          show ((W.setCell ⟨b, 0, none⟩ (.slice A9 vs.length c9)).heap.modify b _)[b]? = _
          rw [Array.getElem?_modify, if_pos rfl, s1]; rfl
        show (((W.setCell ⟨b, 0, none⟩ (.slice A9 vs.length c9)).setCell ⟨b, 1, none⟩ (.slice A13 ls.length c13)).heap.modify b _)[b]? = _
        rw [Array.getElem?_modify, if_pos rfl, s2]; rfl
  · intro a W L hL2 hI
    have g := hI.glob
    obtain ⟨b, e3, hle, _, h3⟩ := g.bx (hL2 10 (by decide))
    have hB := h3 (hL2 11 (by decide))
    have r9 := g.r1 (hL2 3 (by decide))
    have r13 := g.r2 (hL2 7 (by decide))
    obtain ⟨A9, c9, f9, _, _, _⟩ := SlAt.of_own encD_len r9
    obtain ⟨A13, c13, f13, _, _, _⟩ := SlAt.of_own encD_len r13
    rw [f9] at hB r9
    rw [f13] at hB r13
    rw [hI.frame]
    simp only [List.filterMap, List.foldl]
    rw [e3, f9, f13]
    have HR9 := Lib.hid r9
    have HR13 := Lib.hid r13
    have HBb := Lib.hid hB
    have HBel := Lib.hid (show Below E.heap.size E W from g.bel)
    have HLE := Lib.hid hle
    clear g hI hL2 r9 r13 hB h3 e3 f9 f13 hle
    generalize a.eval (.tmp 6) = v6
    generalize a.eval (.tmp 7) = v7
    generalize a.eval (.tmp 8) = v8
    generalize a.eval (.tmp 10) = v10
    generalize a.eval (.tmp 11) = v11
    generalize a.eval (.tmp 12) = v12
    generalize a.eval (.tmp 14) = v14
    generalize a.eval (.tmp 15) = v15
    have HY0 := Lib.hid (show RowI14 W E.heap.size (.slice none 0 0) [] from World.ownsRow_nil _ _ _ _)
    go_wp2_with fail
    go_loopw [4] (fun i wr => ∃ (k : Nat) (iv : Value) (ys : List ItV), k ≤ xs.length ∧ i = .int .i64 k ∧ Hid (its ys = (its xs).take k) ∧ Hid (wr.heap[b]? = some (Obj.cells #[.slice A9 vs.length c9, .slice A13 ls.length c13, iv] 28 (0, 0))) ∧ Hid (RowI14 wr E.heap.size iv ys) ∧ Hid (∀ y ∈ ys, RowM14 wr E.heap.size (slV14 y) y.ms) ∧ Hid (RowD14 wr E.heap.size (.slice A9 vs.length c9) vs ∧ RowD14 wr E.heap.size (.slice A13 ls.length c13) ls) ∧ Hid (Below E.heap.size E wr)) (fun i _ => xs.length - (intOf i).toNat)
    case atStart => exact ⟨0, .slice none 0 0, [], by omega, rfl, Lib.hid (by simp [its]), HBb, HY0, Lib.hid (fun y hy => by cases hy), Lib.hid ⟨HR9.out, HR13.out⟩, HBel⟩
    case round =>
      clear HR9 HR13 HBb HBel HY0
      obtain ⟨k, iv, ys, hk, rfl, HIS, HBB, HRI, HRM, HRD, HB⟩ := hrel
      obtain ⟨x0, x1, x2⟩ := HBX.out wr HB.out
      have hkl := l3
      by_cases hlt : k < xs.length
      · have i0 : (k : Int) < (xs.length : Int) := by omega
        obtain ⟨bi, off, x, rfl, hbl, hx1, _, hc0', hc1', hok⟩ := HX.out.cells (j := k) hlt
        obtain ⟨nm, A, cA, ms⟩ := x
        have hc0 := (HB.out.cell (p := ⟨bi, off + k * 2, none⟩) hbl).trans hc0'
        have hc1 := (HB.out.cell (p := ⟨bi, off + k * 2 + 1, none⟩) hbl).trans hc1'
        have hmx : nm.length ≤ 1000 ∧ ms.length ≤ 1000 := HIT.out _ (List.mem_of_getElem? hx1)
        have HMA := Lib.hid (show MarksAt E A ms from hok.1)
        have HIS2 := Lib.hid (show its ys ++ [((nm, ms) : It)] = (its xs).take (k + 1) from by
          rw [HIS.out]
          have : (its xs)[k]? = some (nm, ms) := by simp [its, hx1, ItV.it]
          rw [take_snoc this])
        have hyl : ys.length = k := by
          have := congrArg List.length HIS.out
          simp [its] at this
          omega
        have HYL := Lib.hid (show ys.length ≤ 1000 from by omega)
        clear hyl
        -- the worlds of the step, up to the first append
        have hb1 : BelW wr (wr.alloc (.cells #[.string ⟨nm.toArray⟩, .slice A ms.length cA] 56)) := (Below.refl _ wr).alloc (Nat.le_refl _) _
        have hx5 := BlkI.new wr ⟨nm, A, cA, ms⟩
        have HB1 := Lib.hid hb1
        have HX5 := Lib.hid hx5
        have q0 := hx5.cell0
        have q1 := hx5.cell1
        have HMX := Lib.hid hmx
        clear hx5 hb1 hok hc0' hc1' hx1 hmx
        go_upto_region 6 with fail
        clear hc0 hc1 x0 x1 x2 hbl
        generalize wr.alloc (.cells #[.string ⟨nm.toArray⟩, .slice A ms.length cA] 56) = w1 at HB1 HX5 q0 q1 ⊢
        obtain ⟨n5, hn5⟩ : ∃ n5, wr.heap.size = n5 := ⟨_, rfl⟩
        rw [hn5] at HX5 q0 q1 ⊢
        have HN5 := Lib.hid hn5
        clear hn5
        have HRI0 := HRI
        have HRM0 := HRM
        have HRD0 := HRD
        have HEN := Lib.hid (show E.heap.size ≤ n5 from HN5.out ▸ HB.out.size)
        have HBLT := Lib.hid (show b < n5 from HN5.out ▸ (Array.getElem?_eq_some_iff.1 HBB.out).1)
        have hB1 := below_trans HB.out HB1.out
        have HBE1 := Lib.hid hB1
        have HBB1 := Lib.hid (heapKeep HBB.out HB1.out)
        have HRI1 := Lib.hid (ownBelow HRI.out HB1.out)
        have HRM1 := Lib.hid (show ∀ y ∈ ys, RowM14 w1 E.heap.size (slV14 y) y.ms from fun y hy => ownBelow (HRM.out y hy) HB1.out)
        have HRD1 := Lib.hid (And.intro (ownBelow HRD.out.1 HB1.out) (ownBelow HRD.out.2 HB1.out))
        clear hB1
        clear HRI HRM HRD HB HBB HB1 HIS
        go_upto_region 7 with (at_builtin; refine wpList_append_sl _ encM 4 rfl (.const (.slice none 0 0)) (.tmp 29) 54 rfl encM_len (by omega) encM_one E.heap.size 53 tm0 _ 32 Tryz.underlying54 him hzm0 hzm1 hzm2 rfl (.slice none 0 0) [] rfl (World.ownsRow_nil _ _ _ _) A _ cA ms rfl rfl (SlAt.below HMA.out HBE1.out) (by have := HMX.out.2; simp [maxLen]; omega) (by have := HMX.out.2; simp; omega) HBE1.out.size ?_; intro v1 w2 hown1 hg1 hat1; rw [List.nil_append] at hown1; obtain ⟨A1, c1, rfl, m1, m2, m3⟩ := SlAt.of_own encM_len hown1; have hb2 : BelW w1 w2 := (Below.refl _ w1).grown hg1 (Nat.le_refl _) (fun _ h => by cases h); have HX2 := Lib.hid (show BlkI w2 n5 ⟨nm, A, cA, ms⟩ from heapKeep HX5.out hb2); have q0 := HX2.out.cell0; have q1 := HX2.out.cell1; have f0 := HX2.out.frozen 0; have f1 := HX2.out.frozen 1; have HOWN := Lib.hid hown1; have HB2 := Lib.hid hb2; have HAT := Lib.hid hat1; clear m1 m2 m3 hown1 hg1 hat1 hb2)
        clear q0 q1 f0 f1
        -- the box of the step, with the new marks
        have hch : Chg (fun j => j = n5) w2 (w2.setCell ⟨n5, 1, none⟩ (.slice A1 ms.length c1)) := Chg.of_set (S := fun j => j = n5) ⟨n5, 1, none⟩ _ rfl
        have hx3 : BlkI (w2.setCell ⟨n5, 1, none⟩ (.slice A1 ms.length c1)) n5 ⟨nm, A1, c1, ms⟩ := by
          show (w2.heap.modify n5 _)[n5]? = _
          rw [Array.getElem?_modify, if_pos rfl, show w2.heap[n5]? = _ from HX2.out]
          rfl
        have hEn : E.heap.size ≤ n5 := HEN.out
        have hlt5 : ∀ {e : TypeId} {kk n : Nat} {v : Value} {zs : List Value}, wr.ownsRow E.heap.size e kk v n zs → ∀ j, v.ownBlock = some j → ¬ j = n5 := fun h j hj e => by
          have := (World.ownsRow.lt h j hj).2
          have := HN5.out
          omega
        have HX3 := Lib.hid hx3
        have HBE3 := Lib.hid (Below.setCell (p := ⟨n5, 1, none⟩) (below_trans HBE1.out HB2.out) hEn (.slice A1 ms.length c1))
        have HBB3 := Lib.hid (hch.box (heapKeep HBB1.out HB2.out) (fun e => by have := HBLT.out; omega))
        have HRI3 := Lib.hid (ownKeep (ownBelow HRI1.out HB2.out) hch (hlt5 HRI0.out))
        have HRM3 := Lib.hid (show ∀ y ∈ ys, RowM14 (w2.setCell ⟨n5, 1, none⟩ (.slice A1 ms.length c1)) E.heap.size (slV14 y) y.ms from fun y hy => ownKeep (ownBelow (HRM1.out y hy) HB2.out) hch (hlt5 (HRM0.out y hy)))
        have HRD3 := Lib.hid (And.intro (ownKeep (ownBelow HRD1.out.1 HB2.out) hch (hlt5 HRD0.out.1)) (ownKeep (ownBelow HRD1.out.2 HB2.out) hch (hlt5 HRD0.out.2)))
        have HNEW3 := Lib.hid (show RowM14 (w2.setCell ⟨n5, 1, none⟩ (.slice A1 ms.length c1)) E.heap.size (.slice A1 ms.length c1) ms from ownKeep HOWN.out hch (fun j hj e => by
          rcases HAT.out with h | h
          · rw [h] at hj; cases hj
          · rw [h] at hj
            have := Option.some.inj hj
            have := HX5.out.lt
            omega))
        clear hch hx3 hEn hlt5 HX2 HBE1 HBB1 HRI1 HRM1 HRD1 HX5 HOWN HAT HB2 HRI0 HRM0 HRD0
        generalize w2.setCell ⟨n5, 1, none⟩ (.slice A1 ms.length c1) = w3 at HX3 HBE3 HBB3 HRI3 HRM3 HRD3 HNEW3 ⊢
        have q0 := HX3.out.cell0
        have q1 := HX3.out.cell1
        have u0 : w3.cell? ⟨b, 0, none⟩ = some (.slice A9 vs.length c9) := by have h := HBB3.out; simp [World.cell?, h]
        have u1 : w3.cell? ⟨b, 1, none⟩ = some (.slice A13 ls.length c13) := by have h := HBB3.out; simp [World.cell?, h]
        have u2 : w3.cell? ⟨b, 2, none⟩ = some iv := by have h := HBB3.out; simp [World.cell?, h]
        -- the item as a literal
        have hb4 : BelW w3 (w3.alloc (.cells #[.string ⟨nm.toArray⟩, .slice A1 ms.length c1] 56)) := (Below.refl _ w3).alloc (Nat.le_refl _) _
        have HL4 := Lib.hid (show SlAt encIt 2 (w3.alloc (.cells #[.string ⟨nm.toArray⟩, .slice A1 ms.length c1] 56)) (some ⟨w3.heap.size, 0, none⟩) [(⟨nm, A1, c1, ms⟩ : ItV)] from SlAt.one (BlkI.new w3 ⟨nm, A1, c1, ms⟩))
        have HBE4 := Lib.hid (below_trans HBE3.out hb4)
        have HBB4 := Lib.hid (heapKeep HBB3.out hb4)
        have HRI4 := Lib.hid (ownBelow HRI3.out hb4)
        have HRM4 := Lib.hid (show ∀ y ∈ ys, RowM14 _ E.heap.size (slV14 y) y.ms from fun y hy => ownBelow (HRM3.out y hy) hb4)
        have HRD4 := Lib.hid (And.intro (ownBelow HRD3.out.1 hb4) (ownBelow HRD3.out.2 hb4))
        have HNEW4 := Lib.hid (ownBelow HNEW3.out hb4)
        clear hb4 HX3 HBE3 HBB3 HRI3 HRM3 HRD3 HNEW3
        obtain ⟨Ai, ci, rfl, _, _, _⟩ := SlAt.of_own encIt_len HRI4.out
        go_wp2_with (at_builtin; refine wpList_append_sl _ encIt 2 rfl (.tmp 33) (.tmp 35) 26 rfl encIt_len (by omega) encIt_one E.heap.size 56 ti0 _ 40 Tryz.underlying26 hii hzi0 hzi1 hzi2 rfl _ ys rfl HRI4.out _ 1 _ [(⟨nm, A1, c1, ms⟩ : ItV)] rfl rfl HL4.out (by have := HYL.out; simp [maxLen]; omega) (by have := HYL.out; simp; omega) HBE4.out.size ?_; intro v5 w5 hown5 hg5 hat5; have hbox5 := (Chg.of_grown hg5 (fun _ e => e)).box HBB4.out (own_ne HRI4.out HBB4.out (by decide)); have u0 : w5.cell? ⟨b, 0, none⟩ = some (.slice A9 vs.length c9) := (by simp [World.cell?, hbox5]); have u1 : w5.cell? ⟨b, 1, none⟩ = some (.slice A13 ls.length c13) := (by simp [World.cell?, hbox5]); have u2 : w5.cell? ⟨b, 2, none⟩ = some (.slice Ai ys.length ci) := (by simp [World.cell?, hbox5]); have z2 : w5.frozen? ⟨b, 2, none⟩ = false := (by simp [World.frozen?, hbox5]); obtain ⟨A5, c5, rfl, m1, m2, m3⟩ := SlAt.of_own encIt_len hown5; have HO5 := Lib.hid hown5; have HG5 := Lib.hid hg5; have HBX5 := Lib.hid hbox5; clear m1 m2 m3 hown5 hg5 hat5 hbox5)
        have hle : (ys ++ [(⟨nm, A1, c1, ms⟩ : ItV)]).length = ys.length + 1 := by simp
        have hown := HO5.out
        rw [hle] at hown
        have HO6 := Lib.hid hown
        have hll := hle
        have hch : Chg (fun j => j = b) w5 (w5.setCell ⟨b, 2, none⟩ (.slice A5 (ys.length + 1) c5)) := Chg.of_set (S := fun j => j = b) ⟨b, 2, none⟩ _ rfl
        have hgc := Chg.of_grown HG5.out (S := fun j => (Value.slice Ai ys.length ci).ownBlock = some j) (fun _ e => e)
        have hbx6 : (w5.setCell ⟨b, 2, none⟩ (.slice A5 (ys.length + 1) c5)).heap[b]? = some (Obj.cells #[.slice A9 vs.length c9, .slice A13 ls.length c13, .slice A5 (ys.length + 1) c5] 28 (0, 0)) := by
          show (w5.heap.modify b _)[b]? = _
          rw [Array.getElem?_modify, if_pos rfl, HBX5.out]
          rfl
        have hkp : ∀ {e : TypeId} {kk n : Nat} {v : Value} {zs : List Value}, e ≠ 56 → e ≠ 28 → (w3.alloc (.cells #[.string ⟨nm.toArray⟩, .slice A1 ms.length c1] 56)).ownsRow E.heap.size e kk v n zs → (w5.setCell ⟨b, 2, none⟩ (.slice A5 (ys.length + 1) c5)).ownsRow E.heap.size e kk v n zs := fun he he2 h => by
          have h5 := ownKeep h hgc (own_own HRI4.out h (Ne.symm he))
          exact ownKeep h5 hch (fun j hj e1 => own_ne h5 HBX5.out (Ne.symm he2) (e1 ▸ hj))
        have hI6 : RowI14 (w5.setCell ⟨b, 2, none⟩ (.slice A5 (ys.length + 1) c5)) E.heap.size (.slice A5 (ys.length + 1) c5) (ys ++ [(⟨nm, A1, c1, ms⟩ : ItV)]) := by
          have h := ownKeep HO6.out hch (fun j hj e1 => own_ne HO6.out HBX5.out (by decide) (e1 ▸ hj))
          show World.ownsRow _ _ _ _ _ (ys ++ [(⟨nm, A1, c1, ms⟩ : ItV)]).length _
          rw [hll]
          exact h
        have hM6 : ∀ y ∈ ys ++ [(⟨nm, A1, c1, ms⟩ : ItV)], RowM14 (w5.setCell ⟨b, 2, none⟩ (.slice A5 (ys.length + 1) c5)) E.heap.size (slV14 y) y.ms := by
          intro y hy
          rcases List.mem_append.1 hy with h | h
          · exact hkp (by decide) (by decide) (HRM4.out y h)
          · rw [List.mem_singleton] at h
            subst h
            exact hkp (by decide) (by decide) HNEW4.out
        have hB6 := Below.setCell (p := ⟨b, 2, none⟩) (HBE4.out.grown HG5.out HBE4.out.size (fun j hj => (World.ownsRow.lt HRI4.out j hj).1)) HLE.out (.slice A5 (ys.length + 1) c5)
        have hits : its (ys ++ [(⟨nm, A1, c1, ms⟩ : ItV)]) = (its xs).take (k + 1) := by rw [← HIS2.out]; simp [its, ItV.it]
        have HR := Lib.hid (And.intro hits (And.intro hbx6 (And.intro hI6 (And.intro hM6 (And.intro (And.intro (hkp (by decide) (by decide) HRD4.out.1) (hkp (by decide) (by decide) HRD4.out.2)) hB6)))))
        clear hll hle hown hch hgc hbx6 hkp hI6 hM6 hB6 hits
        go_roundw
        case rel =>
          obtain ⟨r1, r2, r3, r4, r5, r6⟩ := HR.out
          exact ⟨k + 1, .slice A5 (ys.length + 1) c5, ys ++ [⟨nm, A1, c1, ms⟩], by omega, by simp, Lib.hid r1, Lib.hid r2, Lib.hid r3, Lib.hid r4, Lib.hid r5, Lib.hid r6⟩
        case measure => simp [intOf]; omega
      · have i0 : ¬ (k : Int) < (xs.length : Int) := by omega
        have hke : k = xs.length := by omega
        subst hke
        have hIS : its ys = its xs := by rw [HIS.out]; exact List.take_of_length_le (by simp [its])
        have HIS2 := Lib.hid hIS
        clear hIS HIS
        obtain ⟨Ai, ci, rfl, _, _, _⟩ := SlAt.of_own encIt_len HRI.out
        have hbb := HBB.out
        have u0 : wr.cell? ⟨b, 0, none⟩ = some (.slice A9 vs.length c9) := by simp [World.cell?, hbb]
        have u1 : wr.cell? ⟨b, 1, none⟩ = some (.slice A13 ls.length c13) := by simp [World.cell?, hbb]
        have u2 : wr.cell? ⟨b, 2, none⟩ = some (.slice Ai ys.length ci) := by simp [World.cell?, hbb]
        have hy := heapKeep HBY0.out HB.out
        have y0 : wr.cell? ⟨w.heap.size + 1, 0, none⟩ = some (.slice none 0 0) := by simp [World.cell?, hy]
        have y1 : wr.cell? ⟨w.heap.size + 1, 1, none⟩ = some (.slice none 0 0) := by simp [World.cell?, hy]
        have y2 : wr.cell? ⟨w.heap.size + 1, 2, none⟩ = some (.slice none 0 0) := by simp [World.cell?, hy]
        have f0 : wr.frozen? ⟨w.heap.size + 1, 0, none⟩ = false := by simp [World.frozen?, hy]
        have f1 : wr.frozen? ⟨w.heap.size + 1, 1, none⟩ = false := by simp [World.frozen?, hy]
        have f2 : wr.frozen? ⟨w.heap.size + 1, 2, none⟩ = false := by simp [World.frozen?, hy]
        have HYY := Lib.hid hy
        clear hy hbb
        go_wp2_with fail
        have hfl := fill14 HYY.out (.slice A9 vs.length c9) (.slice A13 ls.length c13) (.slice Ai ys.length ci)
        obtain ⟨s0, s1, s2⟩ := cells14 hfl
        refine bodyPost_ret (v := .agg #[.slice A9 vs.length c9, .slice A13 ls.length c13, .slice Ai ys.length ci]) (by simp [results, Tryz.results10, go_sem, s0, s1, s2]) rfl ?_
        clear s0 s1 s2 hfl
        have hlt : w.heap.size + 1 < E.heap.size := (Array.getElem?_eq_some_iff.1 HBY0.out).1
        have hch : Chg (fun j => j = w.heap.size + 1) wr (((wr.setCell ⟨w.heap.size + 1, 0, none⟩ (.slice A9 vs.length c9)).setCell ⟨w.heap.size + 1, 1, none⟩ (.slice A13 ls.length c13)).setCell ⟨w.heap.size + 1, 2, none⟩ (.slice Ai ys.length ci)) := ((Chg.of_set (S := fun j => j = w.heap.size + 1) ⟨w.heap.size + 1, 0, none⟩ _ rfl).trans (Chg.of_set (S := fun j => j = w.heap.size + 1) ⟨w.heap.size + 1, 1, none⟩ _ rfl) (fun _ _ h => h)).trans (Chg.of_set (S := fun j => j = w.heap.size + 1) ⟨w.heap.size + 1, 2, none⟩ _ rfl) (fun _ _ h => h)
        have hkp : ∀ {e : TypeId} {kk n : Nat} {v : Value} {zs : List Value}, wr.ownsRow E.heap.size e kk v n zs → (((wr.setCell ⟨w.heap.size + 1, 0, none⟩ (.slice A9 vs.length c9)).setCell ⟨w.heap.size + 1, 1, none⟩ (.slice A13 ls.length c13)).setCell ⟨w.heap.size + 1, 2, none⟩ (.slice Ai ys.length ci)).ownsRow E.heap.size e kk v n zs := fun h => ownKeep h hch (fun j hj e1 => by
          have := (World.ownsRow.lt h j hj).1
          omega)
        obtain ⟨X1, X2, X3, X4, X5, X6⟩ := SlAt.of_own encD_len (hkp HRD.out.1)
        cases X3
        obtain ⟨Y1, Y2, Y3, Y4, Y5, Y6⟩ := SlAt.of_own encD_len (hkp HRD.out.2)
        cases Y3
        obtain ⟨Z1, Z2, Z3, Z4, Z5, Z6⟩ := SlAt.of_own encIt_len (hkp HRI.out)
        cases Z3
        refine ⟨⟨⟨A9, c9, vs, A13, c13, ls, Ai, ci, ys⟩, rfl, ?_, ⟨A9, c9, rfl, X6, X4, X5⟩, ⟨A13, c13, rfl, Y6, Y4, Y5⟩, ⟨Ai, ci, rfl, ⟨Z6, fun y hy => ?_⟩, Z4, Z5⟩⟩, ?_⟩
        · have h := HIS2.out
          simp [CaV.ca, h]
        · obtain ⟨M1, M2, M3, M4, M5, M6⟩ := SlAt.of_own encM_len (hkp (HRM.out y hy))
          cases M3
          exact ⟨M6, M4, M5⟩
        · exact Below.setCell (p := ⟨w.heap.size + 1, 2, none⟩) (Below.setCell (p := ⟨w.heap.size + 1, 1, none⟩) (Below.setCell (p := ⟨w.heap.size + 1, 0, none⟩) (below_trans HB0.out HB.out) (Nat.le_succ _) _) (Nat.le_succ _) _) (Nat.le_succ _) _

end

end Go.Proofs.YtgdnibahiomneaaGreat
