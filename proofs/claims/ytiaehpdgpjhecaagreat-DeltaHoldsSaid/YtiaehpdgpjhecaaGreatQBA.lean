/- Several texts in one: JoiG. -/
import Derived.Test.YtiaehpdgpjhecaaGreatQAZ
namespace Go.Proofs.YtiaehpdgpjhecaaGreat

section
open Go.RowKit Go.Maps

theorem Holds.only {b : Nat} {w w' : World} {v : Value} {xs : List (Int × Int)} {t : TypeId} {u : Value} (h : Holds w v xs) (ho : OnlyB b w w') (hB : Boxed w b t u) (hu : ∀ z, u ≠ .int .i64 z) : Holds w' v xs := by
  obtain ⟨A, c, rfl, hat, h2, h3⟩ := h
  refine ⟨A, c, rfl, fun hn => ?_, h2, h3⟩
  obtain ⟨g, off, rfl, hb, hcell⟩ := hat hn
  have hne : g ≠ b := by
    intro e
    subst e
    obtain ⟨p, hp⟩ : ∃ p, xs[0]? = some p := ⟨_, List.getElem?_eq_getElem hn⟩
    have hc := hcell 0 p hp 0 (.int .i64 p.1) rfl
    simp only [World.cell?, show w.heap[g]? = _ from hB] at hc
    generalize off + 0 * 2 + 0 = k at hc
    match k with
    | 0 => simp at hc; exact hu _ hc
    | k + 1 => simp at hc
  exact ⟨g, off, rfl, by rw [ho.size]; exact hb, fun j p hj i q hq => (World.cell?_of_block (a := ⟨g, off + j * 2 + i, none⟩) (ho.block g hne)).trans (hcell j p hj i q hq)⟩
theorem OwnsH.only {b mb : Nat} {w w' : World} {D : DataW Value} {t : TypeId} {u : Value} (h : OwnsH w mb D) (ho : OnlyB b w w') (hB : Boxed w b t u) : OwnsH w' mb D := by
  refine World.ownsMap.kept h ho.grown fun e => ?_
  injection e with e
  subst e
  obtain ⟨es, clock, hb, _⟩ := h
  rw [show w.heap[mb]? = _ from hB] at hb; cases hb
theorem Boxed.only {b b' : Nat} {w w' : World} {t : TypeId} {u : Value} (h : Boxed w b' t u) (ho : OnlyB b w w') (hne : b' ≠ b) : Boxed w' b' t u := (ho.block b' hne).trans h

section
variable (c d : CaV) (g n : Nat)
/-- What the values of staying's first region say. -/
def staP : Nat → Value → World → Prop
  | 0, v, _ => v = mkC d
  | 1, v, W => ∃ mb D, v = .map (some mb) ∧ OwnsH W mb D ∧ MapH D (flatH (its d.xs))
  | 2, v, _ => v = .pointer (some ⟨g + 1, 0, none⟩)
  | 3, v, _ => v = .agg #[d.v, d.l]
  | 4, v, _ => v = .pointer (some ⟨g, 2, none⟩)
  | 5, v, _ => v = c.i
  | 6, v, W => Holds W v (dotsI (its c.xs))
  | 7, v, W => Holds W v (missC d.vs d.ls (dotsI (its c.xs)))
  | 8, v, W => ∃ b u, v = ptr0 b ∧ n ≤ b ∧ Boxed W b 145 u ∧ ∀ z, u ≠ .int .i64 z
  | 9, v, W => ∃ b u, v = ptr0 b ∧ n ≤ b ∧ Boxed W b 22 u ∧ ∀ z, u ≠ .int .i64 z
  | _, _, _ => True
def staQ : Nat → Value → World → Prop
  | 10, v, W => ∃ b mb D, v = ptr0 b ∧ Boxed W b 145 (.map (some mb)) ∧ OwnsH W mb D ∧ MapH D (flatH (its d.xs))
  | 11, v, W => ∃ b u, v = ptr0 b ∧ Boxed W b 22 u ∧ Holds W u (missC d.vs d.ls (dotsI (its c.xs)))
  | _, _, _ => True
def staB : Nat → Option Nat
  | 10 => some 8
  | 11 => some 9
  | _ => none
variable {c d g n}
theorem staP_below {j : Nat} {v : Value} {w w' : World} (h : staP c d g n j v w) (hb : Below w.heap.size w w') : staP c d g n j v w' := by
  match j, h with
  | 0, h => exact h
  | 1, ⟨mb, D, h1, h2, h3⟩ => exact ⟨mb, D, h1, World.ownsMap.kept h2 (grown_of_below hb none) (by simp), h3⟩
  | 2, h => exact h
  | 3, h => exact h
  | 4, h => exact h
  | 5, h => exact h
  | 6, h => exact Holds.below h hb
  | 7, h => exact Holds.below h hb
  | 8, ⟨b, u, h1, h2, h3, h4⟩ => exact ⟨b, u, h1, h2, Boxed.below h3 hb, h4⟩
  | 9, ⟨b, u, h1, h2, h3, h4⟩ => exact ⟨b, u, h1, h2, Boxed.below h3 hb, h4⟩
  | j + 10, _ => exact trivial
theorem staQ_below {j : Nat} {v : Value} {w w' : World} (h : staQ c d j v w) (hb : Below w.heap.size w w') : staQ c d j v w' := by
  unfold staQ at h ⊢
  split
  · obtain ⟨b, mb, D, h1, h2, h3, h4⟩ := h
    exact ⟨b, mb, D, h1, Boxed.below h2 hb, World.ownsMap.kept h3 (grown_of_below hb none) (by simp), h4⟩
  · obtain ⟨b, u, h1, h2, h3⟩ := h
    exact ⟨b, u, h1, Boxed.below h2 hb, Holds.below h3 hb⟩
  · trivial
theorem staB_cases {j k : Nat} (h : staB j = some k) : (j = 10 ∧ k = 8) ∨ (j = 11 ∧ k = 9) := by
  unfold staB at h
  split at h
  · injection h with h; exact .inl ⟨rfl, h.symm⟩
  · injection h with h; exact .inr ⟨rfl, h.symm⟩
  · cases h
theorem staP_box {j k : Nat} {v : Value} {w : World} (h : staB j = some k) (hp : staP c d g n k v w) : ∃ b u t, v = ptr0 b ∧ n ≤ b ∧ Boxed w b t u ∧ ∀ z, u ≠ .int .i64 z := by
  rcases staB_cases h with ⟨_, rfl⟩ | ⟨_, rfl⟩
  · obtain ⟨b, u, h1, h2, h3, h4⟩ := hp; exact ⟨b, u, _, h1, h2, h3, h4⟩
  · obtain ⟨b, u, h1, h2, h3, h4⟩ := hp; exact ⟨b, u, _, h1, h2, h3, h4⟩
theorem staP_only {j m k b : Nat} {v : Value} {w w' : World} (hm : staB m = some k) (hk : staP c d g n k (ptr0 b) w) (ho : OnlyB b w w') (hq : staQ c d m (ptr0 b) w') (h : staP c d g n j v w) : staP c d g n j v w' := by
  obtain ⟨b0, u0, t0, e0, _, hB, hu⟩ := staP_box hm hk
  injection e0 with e0; injection e0 with e0; injection e0 with e0
  subst e0
  match j, h with
  | 0, h => exact h
  | 1, ⟨mb, D, h1, h2, h3⟩ => exact ⟨mb, D, h1, OwnsH.only h2 ho hB, h3⟩
  | 2, h => exact h
  | 3, h => exact h
  | 4, h => exact h
  | 5, h => exact h
  | 6, h => exact Holds.only h ho hB hu
  | 7, h => exact Holds.only h ho hB hu
  | 8, ⟨b', u, h1, h2, h3, h4⟩ =>
    by_cases e : b' = b
    · subst e
      rcases staB_cases hm with ⟨rfl, rfl⟩ | ⟨rfl, rfl⟩
      · obtain ⟨b'', mb, D, e, hx, _⟩ := hq
        injection e with e; injection e with e; injection e with e
        subst e
        exact ⟨b', _, h1, h2, hx, fun z e => by cases e⟩
      · obtain ⟨b'', u', e', _, hB', _⟩ := hk
        injection e' with e; injection e with e; injection e with e
        subst e
        have hx : some _ = some _ := (show w.heap[b']? = some _ from h3).symm.trans (show w.heap[b']? = some _ from hB')
        injection hx with hx
        injection hx with _ ht _
        exact absurd ht (by decide)
    · exact ⟨b', u, h1, h2, Boxed.only h3 ho e, h4⟩
  | 9, ⟨b', u, h1, h2, h3, h4⟩ =>
    by_cases e : b' = b
    · subst e
      rcases staB_cases hm with ⟨rfl, rfl⟩ | ⟨rfl, rfl⟩
      · obtain ⟨b'', u', e', _, hB', _⟩ := hk
        injection e' with e; injection e with e; injection e with e
        subst e
        have hx : some _ = some _ := (show w.heap[b']? = some _ from h3).symm.trans (show w.heap[b']? = some _ from hB')
        injection hx with hx
        injection hx with _ ht _
        exact absurd ht (by decide)
      · obtain ⟨b'', u', e, hx, A, cc, e2, _⟩ := hq
        injection e with e; injection e with e; injection e with e
        subst e
        exact ⟨b', _, h1, h2, hx, fun z e => by rw [e2] at e; cases e⟩
    · exact ⟨b', u, h1, h2, Boxed.only h3 ho e, h4⟩
  | j + 10, _ => exact trivial
theorem staQ_only {j b : Nat} {v : Value} {w w' : World} {t : TypeId} {u0 : Value} (hB : Boxed w b t u0) (hu : ∀ z, u0 ≠ .int .i64 z) (ho : OnlyB b w w') (hne : v ≠ ptr0 b) (h : staQ c d j v w) : staQ c d j v w' := by
  unfold staQ at h ⊢
  split
  · obtain ⟨b', mb, D, h1, h2, h3, h4⟩ := h
    exact ⟨b', mb, D, h1, Boxed.only h2 ho (fun e => hne (by rw [h1, e])), OwnsH.only h3 ho hB, h4⟩
  · obtain ⟨b', u, h1, h2, h3⟩ := h
    exact ⟨b', u, h1, Boxed.only h2 ho (fun e => hne (by rw [h1, e])), Holds.only h3 ho hB hu⟩
  · trivial
end

/-- How much a pair of carts may be for staying. -/
structure FitsJ (c d : CaV) : Prop where
  fc : Fits c.xs
  fd : Fits d.xs
  mis : d.vs.length + d.ls.length + (dotsI (its c.xs)).length ≤ 3000
theorem flat_valid {l : List It} (h : Good l) : ∀ x ∈ flatH l, validD x.2.r x.2.c = true := by
  intro x hx
  obtain ⟨y, hy, _, hm⟩ := mem_flatH.1 hx
  have h1 := List.all_eq_true.1 (okI_parts (h.1 y hy)).2.2.1 _ hm
  unfold validM at h1
  rw [Bool.and_eq_true] at h1
  exact h1.1
theorem stay_filter {c d : Ca} (_ : validK d = true) : (flatH c.2).filter (fun x => !(!decide (dotH x ∈ missC d.1.1 d.1.2 (dotsI c.2)) && decide (nameH (lookH (flatH d.2) (dotH x)) ≠ x.1))) = stayH c d := by
  unfold stayH
  refine List.filter_congr fun x hx => ?_
  unfold stayB hasK
  have hin : dotH x ∈ dotsI c.2 := by
    obtain ⟨y, hy, _, hm⟩ := mem_flatH.1 hx
    exact mem_dotsI.2 ⟨y, hy, x.2, hm, rfl⟩
  have h1 : decide (dotH x ∈ missC d.1.1 d.1.2 (dotsI c.2)) = !hasC d.1.1 d.1.2 (dotH x).1 (dotH x).2 := by
    rw [Bool.eq_iff_iff, decide_eq_true_eq]
    unfold missC
    rw [mem_setL, List.mem_filter]
    exact ⟨fun h => h.2, fun h => ⟨hin, h⟩⟩
  rw [h1]
  by_cases h2 : nameH (lookH (flatH d.2) (dotH x)) = x.1 <;> cases hasC d.1.1 d.1.2 (dotH x).1 (dotH x).2 <;> simp [h2]

theorem ca_x (c : CaV) : c.ca.2 = its c.xs := rfl
theorem ca_v (c : CaV) : c.ca.1.1 = c.vs := rfl
theorem ca_l (c : CaV) : c.ca.1.2 = c.ls := rfl
set_option maxRecDepth 100000 in
set_option maxHeartbeats 8000000 in
theorem joStaying (c d : CaV) (w : World) (hc : CaOK w c) (hd : CaOK w d) (hf : FitsJ c d) (hvc : validK c.ca = true) (hvd : validK d.ca = true) :
    Calls Tryz.prog 68 #[mkC c, mkC d] w fun e w' => (∃ v, e = .returned v ∧ RowH w' w.heap.size v (stayH c.ca d.ca)) ∧ Below w.heap.size w w' := by
  have h1 := (Below.refl w.heap.size w).alloc (Nat.le_refl _) (.cells #[c.v, c.l, c.i] 28)
  have K0 := Lib.hid (KK.push (L := [(w.heap.size, c)]) (KK.new w c hc) d (hd.below h1) (w.heap.size + 1) (by simp))
  have hfc : ∀ h ∈ flatH (its c.xs), validD h.2.r h.2.c = true := flat_valid (validK_iff.1 hvc).2.1
  have hfd : ∀ h ∈ flatH (its d.xs), validD h.2.r h.2.c = true := flat_valid (validK_iff.1 hvd).2.1
  have HBY := Lib.hid fun W (h : CaOK W d) => joByDot d W h hf.fd hfd
  have HDO := Lib.hid fun W (h : CaOK W c) => itDots_h c.i c.xs W h.2.2 hf.fc
  have HFL := Lib.hid fun W (h : CaOK W c) => joFlat c W h hf.fc
  have HMI := Lib.hid fun W (u : Value) (h : CaOK W d) (hu : Holds W u (dotsI (its c.xs))) => show Calls Tryz.prog 61 #[.agg #[d.v, d.l], u] W (fun e w' => (∃ v', e = .returned v' ∧ Holds w' v' (missC d.vs d.ls (dotsI (its c.xs)))) ∧ Below W.heap.size W w') from by
    obtain ⟨X, cx, rfl, _⟩ := id hu
    exact ctxMissing_v _ X cx d.vs d.ls (dotsI (its c.xs)) W h.ctx hu hf.mis (compC_valid (validK_iff.1 hvd).1)
  have hst := stay_filter (c := c.ca) (d := d.ca) hvd
  rw [ca_x, ca_x, ca_v, ca_l] at hst
  have HST := Lib.hid hst
  have HLM := Lib.hid (show (missC d.vs d.ls (dotsI (its c.xs))).length ≤ 1000000 from Nat.le_trans (Nat.le_trans (setL_len _) (List.length_filter_le _ _)) (by have := hf.mis; omega))
  have HLF := Lib.hid (show (flatH (its c.xs)).length ≤ 1000000 from by rw [flatH_len]; have := cntM_fits hf.fc; omega)
  have HFC := Lib.hid hfc
  clear h1 hfc hfd hc hd hvc hvd hf hst
  go_enter Tryz.func68, Tryz.ntmps68
  go_wp2_with fail
  generalize hg : w.heap.size = g at K0 ⊢
  generalize World.alloc (World.alloc w _) _ = w2 at K0 ⊢
  have hgw : g + 1 < w2.heap.size := (K0.out.blk (g := g + 1) (c := d) (by simp)).lt
  have hnb : ∀ {k : Nat}, k ≠ 8 → k ≠ 9 → ∀ j, staB j ≠ some k := fun h8 h9 j h => by
    rcases staB_cases h with ⟨_, e⟩ | ⟨_, e⟩
    · exact h8 e
    · exact h9 e
  have hGb : ∀ (L : Nat → Bool) W W', Below w2.heap.size w2 W → BelW W W' → KeepsR ⟨staB, BelW, fun _ W => Below w2.heap.size w2 W, staP c d g w2.heap.size, staQ c d⟩ L W W' ∧ Below w2.heap.size w2 W' := fun _ W W' h1 h2 => ⟨⟨fun j v _ h => staP_below h h2, fun j v _ h => staQ_below h h2⟩, below_trans h1 h2⟩
  refine wp_region_R (S := ⟨staB, BelW, fun _ W => Below w2.heap.size w2 W, staP c d g w2.heap.size, staQ c d⟩) (by kernel_rfl) (by kernel_rfl) (by kernel_rfl) (dst_small (n := 19) (by kernel_rfl)) (fun j k h => ?_) (fun j j' k h1 h2 => ?_) (Below.refl _ _).drew
    (fun j k v W h hp => ?_) (fun _ j v W W' m k b _ hm hk ho hq h => staP_only hm hk ho hq h) (fun _ j v W W' m k b _ hm hk ho hne h => ?_) ?_ ?_
  · rcases staB_cases h with ⟨rfl, _⟩ | ⟨rfl, _⟩ <;> rfl
  · rcases staB_cases h1 with ⟨rfl, rfl⟩ | ⟨rfl, rfl⟩ <;> rcases staB_cases h2 with ⟨e1, e2⟩ | ⟨e1, e2⟩ <;> first | exact e1.symm | cases e2
  · obtain ⟨b, u, t, h1, h2, h3, _⟩ := staP_box h hp
    exact ⟨b, h1, h3.lt⟩
  · obtain ⟨b0, u, t, h1, _, h3, h4⟩ := staP_box hm hk
    injection h1 with h1; injection h1 with h1; injection h1 with h1
    subst h1
    exact staQ_only h3 h4 ho hne h
  · have hcd : ∀ W, Below w2.heap.size w2 W → CaOK W c ∧ CaOK W d ∧ BlkC W g c ∧ BlkC W (g + 1) d := fun W hW =>
      ⟨(K0.out.next hW).ok (g := g) (by simp), (K0.out.next hW).ok (g := g + 1) (by simp), (K0.out.next hW).blk (g := g) (by simp), (K0.out.next hW).blk (g := g + 1) (by simp)⟩
    refine ⟨StepR.pure rfl rfl (hnb (by decide) (by decide)) (fun W => Below.refl _ W) (hGb) fun L a W hI _ hd => ⟨rfl, mkC d, ?_, rfl⟩,
      StepR.call rfl rfl (hnb (by decide) (by decide)) hGb fun L a W hI _ hd => ⟨rfl, 121, #[mkC d], ?_, ?_⟩,
      StepR.pure rfl rfl (hnb (by decide) (by decide)) (fun W => Below.refl _ W) (hGb) fun L a W hI _ hd => ⟨rfl, .pointer (some ⟨g + 1, 0, none⟩), ?_, rfl⟩,
      StepR.pure rfl rfl (hnb (by decide) (by decide)) (fun W => Below.refl _ W) (hGb) fun L a W hI _ hd => ⟨rfl, .agg #[d.v, d.l], ?_, rfl⟩,
      StepR.pure rfl rfl (hnb (by decide) (by decide)) (fun W => Below.refl _ W) (hGb) fun L a W hI _ hd => ⟨rfl, .pointer (some ⟨g, 2, none⟩), ?_, rfl⟩,
      StepR.pure rfl rfl (hnb (by decide) (by decide)) (fun W => Below.refl _ W) (hGb) fun L a W hI _ hd => ⟨rfl, c.i, ?_, rfl⟩,
      StepR.call rfl rfl (hnb (by decide) (by decide)) hGb fun L a W hI _ hd => ⟨rfl, 62, #[c.i], ?_, ?_⟩,
      StepR.call rfl rfl (hnb (by decide) (by decide)) hGb fun L a W hI _ hd => ⟨rfl, ?_⟩,
      StepR.boxed rfl rfl (fun W o => (Below.refl _ W).alloc (Nat.le_refl _) o) hGb fun L a W hI => ⟨rfl, .cells #[.map none] 145, ?_, W.heap.size, .map none, rfl, hI.glob.size, Boxed.new W _ _, fun z e => by cases e⟩,
      StepR.boxed rfl rfl (fun W o => (Below.refl _ W).alloc (Nat.le_refl _) o) hGb fun L a W hI => ⟨rfl, .cells #[.slice none 0 0] 22, ?_, W.heap.size, .slice none 0 0, rfl, hI.glob.size, Boxed.new W _ _, fun z e => by cases e⟩,
      StepR.store rfl rfl rfl fun L a W hI hd => ⟨rfl, ?_⟩, StepR.store rfl rfl rfl fun L a W hI hd => ⟨rfl, ?_⟩, trivial⟩
    · have e3 : a.tmps[3]?.getD undef = .pointer (some ⟨g + 1, 0, none⟩) := hI.at 3 (by kernel_rfl)
      have c0 := (hcd W hI.glob).2.2.2.cell0
      have c1 := (hcd W hI.glob).2.2.2.cell1
      have c2 := (hcd W hI.glob).2.2.2.cell2
      go_simp
    · obtain ⟨_, e7, rfl⟩ := hI.get 0 7 (hd 0 rfl) rfl
      go_simp
    · refine (HBY.out W (hcd W hI.glob).2.1).mono ?_
      rintro e W' ⟨⟨mb, D, rfl, _, h1, h2⟩, hb⟩
      exact ⟨_, rfl, hb, mb, D, rfl, h1, h2⟩
    · have e3 : a.tmps[3]?.getD undef = .pointer (some ⟨g + 1, 0, none⟩) := hI.at 3 (by kernel_rfl)
      go_simp
    · obtain ⟨_, e9, rfl⟩ := hI.get 2 9 (hd 2 rfl) rfl
      have c0 := (hcd W hI.glob).2.2.2.cell0
      have c1 := (hcd W hI.glob).2.2.2.cell1
      go_simp
    · have e2 : a.tmps[2]?.getD undef = .pointer (some ⟨g, 0, none⟩) := hI.at 2 (by kernel_rfl)
      go_simp
    · obtain ⟨_, e11, rfl⟩ := hI.get 4 11 (hd 4 rfl) rfl
      have c2 := (hcd W hI.glob).2.2.1.cell2
      go_simp
    · obtain ⟨_, e12, rfl⟩ := hI.get 5 12 (hd 5 rfl) rfl
      go_simp
    · refine (HDO.out W (hcd W hI.glob).1).mono ?_
      rintro e W' ⟨⟨v, rfl, hv⟩, hb⟩
      exact ⟨_, rfl, hb, hv⟩
    · obtain ⟨_, e10, rfl⟩ := hI.get 3 10 (hd 3 rfl) rfl
      obtain ⟨v, e13, hv⟩ := hI.get 6 13 (hd 6 rfl) rfl
      refine ⟨61, #[.agg #[d.v, d.l], v], ?_, (HMI.out W v (hcd W hI.glob).2.1 hv).mono ?_⟩
      · clear hv
        go_simp
      · rintro e W' ⟨⟨v', rfl, hv'⟩, hb⟩
        exact ⟨_, rfl, hb, hv'⟩
    · go_simp
    · go_simp
    · obtain ⟨v5, e5, b, u, rfl, hn, hB, hu⟩ := hI.get 8 5 (hd 8 rfl) rfl
      obtain ⟨v8, e8, mb, D, rfl, h1, h2⟩ := hI.get 1 8 (hd 1 rfl) rfl
      have hc0 := Boxed.cell hB
      have hf0 : W.frozen? ⟨b, 0, none⟩ = false := by simp [World.frozen?, show W.heap[b]? = _ from hB]
      refine ⟨b, 5, W.setCell ⟨b, 0, none⟩ (.map (some mb)), rfl, hd 8 rfl, by rw [eval_tmp]; exact e5, ?_, OnlyB.setCell _ _ _ _, Below.setCell (p := ⟨b, 0, none⟩) hI.glob hn _, b, mb, D, rfl, hB.set _, OwnsH.only h1 (OnlyB.setCell _ _ _ _) hB, h2⟩
      clear h1 h2 hB
      go_simp
    · obtain ⟨v6, e6, b, u, rfl, hn, hB, hu⟩ := hI.get 9 6 (hd 9 rfl) rfl
      obtain ⟨v14, e14, h1⟩ := hI.get 7 14 (hd 7 rfl) rfl
      have hc0 := Boxed.cell hB
      have hf0 : W.frozen? ⟨b, 0, none⟩ = false := by simp [World.frozen?, show W.heap[b]? = _ from hB]
      have h2 : Holds (W.setCell ⟨b, 0, none⟩ v14) v14 (missC d.vs d.ls (dotsI (its c.xs))) := Holds.only h1 (OnlyB.setCell _ _ _ _) hB hu
      refine ⟨b, 6, W.setCell ⟨b, 0, none⟩ v14, rfl, hd 9 rfl, by rw [eval_tmp]; exact e6, ?_, OnlyB.setCell _ _ _ _, Below.setCell (p := ⟨b, 0, none⟩) hI.glob hn _, b, v14, rfl, hB.set _, h2⟩
      obtain ⟨A, cc, rfl, _⟩ := id h1
      clear h1 h2 hB
      go_simp
  · intro a W L hL hI
    obtain ⟨b5, mb, D, e5, hB5, h5, hD⟩ := (hI.box 10 8 5 (hL 10 (by decide)) rfl rfl).2
    obtain ⟨b6, u6, e6, hB6, h6⟩ := (hI.box 11 9 6 (hL 11 (by decide)) rfl rfl).2
    have hfr := hI.frame
    rw [hfr]
    simp only [List.filterMap, List.foldl]
    rw [e5, e6]
    generalize a.eval (.tmp 7) = u7
    generalize a.eval (.tmp 8) = u8
    generalize a.eval (.tmp 9) = u9
    generalize a.eval (.tmp 10) = u10
    generalize a.eval (.tmp 11) = u11
    generalize a.eval (.tmp 12) = u12
    generalize a.eval (.tmp 13) = u13
    generalize a.eval (.tmp 14) = u14
    have HG := Lib.hid hI.glob
    obtain ⟨A6, c6, rfl, hat6, _⟩ := h6
    have HSA := Lib.hid (SaysH.staying hat6 HLM.out (inc_setL _) (Boxed.cell hB6) (Boxed.cell hB5) h5 hD)
    have HK := Lib.hid (K0.out.next HG.out)
    clear hfr hI hL e5 e6 hB5 hB6 h5 hD hat6 hnb hGb
    simp only [List.setIfInBounds_toArray, List.set_cons_succ, List.set_cons_zero]
    have hBc := HK.out.blk (g := g) (c := c) (by simp)
    have c0 := hBc.cell0
    have c1 := hBc.cell1
    have c2 := hBc.cell2
    have HCA := Lib.hid (HK.out.ok (g := g) (c := c) (by simp))
    have HBL := Lib.hid HK.out.bel
    clear hBc K0
    go_wp2_with fail
    refine (HFL.out W HCA.out).mono ?_
    rintro e w3 ⟨⟨v, rfl, hrow⟩, hb⟩
    have hdel := deleteHeld _ _ _ W.heap.size W v (flatH (its c.xs)) w3 HSA.out HFC.out hb hb.size hrow HLF.out
    rw [HST.out] at hdel
    have HD := Lib.hid hdel
    have HB3 := Lib.hid (below_trans HBL.out hb)
    have HR := Lib.hid hrow
    have hgW : g ≤ W.heap.size := by rw [← hg]; exact HBL.out.size
    clear hdel hb hrow c0 c1 c2
    go_wp2_with fail
    refine HD.out.mono ?_
    rintro e w4 ⟨v4, rfl, ho4, hg4⟩
    have H4 := Lib.hid (show RowH w4 g v4 (stayH c.ca d.ca) from Joins.ownsRow_le ho4 hgW)
    have HB4 := Lib.hid (show Below w.heap.size w w4 from HB3.out.grown hg4 HB3.out.size fun k hk => by rw [hg]; exact Nat.le_trans hgW (HR.out.lt k hk).1)
    clear ho4 hg4
    go_wp2_with fail
    go_ret
    exact ⟨⟨v4, rfl, by rw [hg]; exact H4.out⟩, HB4.out⟩

end

end Go.Proofs.YtiaehpdgpjhecaaGreat
