/- The reference of package items: With, Put. -/
import Derived.Test.YtfbkhgajlklleaaGreatItmE
namespace Go.Proofs.YtfbkhgajlklleaaGreat
open Go.RowKit

theorem tw_at {α : Type} {p : α → Bool} {xs : List α} {m : Nat} (h : ∀ (j : Nat) (y : α), j < m → xs[j]? = some y → p y = true) (he : ∀ y, xs[m]? = some y → p y = false) :
    xs.take m = xs.takeWhile p ∧ xs.drop m = xs.dropWhile p := by
  induction xs generalizing m with
  | nil => simp
  | cons x r ih =>
    match m with
    | 0 =>
      have := he x rfl
      simp [this]
    | m + 1 =>
      have h0 := h 0 x (by omega) rfl
      obtain ⟨h1, h2⟩ := ih (m := m) (fun j y hj hy => h (j + 1) y (by omega) (by simpa using hy)) (fun y hy => he y (by simpa using hy))
      simp [h0, h1, h2]
/-- Items with one more, at its place. -/
def insX (xs : List ItV) (x : ItV) : List ItV := xs.takeWhile (fun y => beforeN y.nm x.nm) ++ x :: xs.dropWhile (fun y => beforeN y.nm x.nm)
theorem insX_at {xs : List ItV} {x : ItV} {m : Nat} (h : ∀ (j : Nat) (y : ItV), j < m → xs[j]? = some y → beforeN y.nm x.nm = true) (he : ∀ y, xs[m]? = some y → beforeN y.nm x.nm = false) : insX xs x = xs.take m ++ x :: xs.drop m := by
  obtain ⟨h1, h2⟩ := tw_at (p := fun y : ItV => beforeN y.nm x.nm) h he
  unfold insX; rw [h1, h2]
theorem insX_mem {xs : List ItV} {x y : ItV} (h : y ∈ insX xs x) : y ∈ xs ∨ y = x := by
  unfold insX at h
  rcases List.mem_append.1 h with h | h
  · exact .inl (List.takeWhile_subset _ h)
  · rcases List.mem_cons.1 h with h | h
    · exact .inr h
    · exact .inl (List.dropWhile_subset _ h)
theorem step_true {α : Type} {p : α → Bool} {xs : List α} {k : Nat} {x : α} (h : ∀ (j : Nat) (y : α), j < k → xs[j]? = some y → p y = true) (hx : xs[k]? = some x) (he : p x = true) : ∀ (j : Nat) (y : α), j < k + 1 → xs[j]? = some y → p y = true := fun j y hj hy => by
  rcases Nat.lt_or_ge j k with h1 | h1
  · exact h j y h1 hy
  · obtain rfl : j = k := by omega
    rw [hx] at hy; cases hy; exact he

/-- What holds all along: the item in its block, the items where they lay. -/
structure KW (w : World) (x : ItV) (A : Option Addr) (xs : List ItV) (W : World) : Prop where
  blk : BlkI W w.heap.size x
  bel : Below w.heap.size w W
  xs0 : ItemsAt w A xs
  ok0 : ItOK w x
section
variable {w W W' : World} {x : ItV} {A : Option Addr} {xs : List ItV}
theorem KW.items (h : KW w x A xs W) : ItemsAt W A xs := h.xs0.below h.bel
theorem KW.ok (h : KW w x A xs W) : ItOK W x := h.ok0.below h.bel
theorem KW.next (h : KW w x A xs W) (hb : Below W.heap.size W W') : KW w x A xs W' := ⟨h.blk.below hb, below_trans h.bel hb, h.xs0, h.ok0⟩
theorem KW.alloc (h : KW w x A xs W) (o : Obj) : KW w x A xs (W.alloc o) := h.next ((Below.refl _ _).alloc (Nat.le_refl _) _)
theorem KW.drew (h : KW w x A xs W) : KW w x A xs W.drew := h.next (Below.refl _ _).drew
theorem KW.size (h : KW w x A xs W) : w.heap.size + 1 ≤ W.heap.size := h.blk.lt
theorem KW.grown (h : KW w x A xs W) {row : Option Nat} (hg : W.grownBy W' row) (hr : ∀ k, row = some k → w.heap.size + 1 ≤ k) : KW w x A xs W' := by
  have hz := h.size
  exact ⟨(hg.block _ h.blk.lt (fun e => by have := hr _ e.symm; omega)).trans h.blk, h.bel.grown hg (by omega) (fun k hk => by have := hr k hk; omega), h.xs0, h.ok0⟩
theorem KW.sp (h : KW w x A xs W) : W.cell? ⟨w.heap.size, 0, none⟩ = some (.string ⟨x.nm.toArray⟩) ∧ W.cell? ⟨w.heap.size, 1, none⟩ = some (.slice x.A x.ms.length x.c) ∧ w.heap.size < W.heap.size ∧ KW w x A xs W := ⟨h.blk.cell0, h.blk.cell1, h.blk.lt, h⟩
theorem KW.new (hx : ItemsAt w A xs) (ho : ItOK w x) : KW w x A xs (w.alloc (.cells #[.string ⟨x.nm.toArray⟩, .slice x.A x.ms.length x.c] 34)) := ⟨BlkI.new w x, (Below.refl _ w).alloc (Nat.le_refl _) _, hx, ho⟩
end

set_option maxRecDepth 100000 in
set_option maxHeartbeats 4000000 in
theorem refWith9 (A : Option Addr) (xs : List ItV) (cap : Nat) (x : ItV) (w : World) (hx : ItemsAt w A xs) (ho : ItOK w x) (hf : Fits xs) (hn : x.nm.length ≤ 1000) (hc : xs.length ≤ cap) (hcm : cap ≤ maxLen) :
    Calls Tryz.prog 57 #[.slice A xs.length cap, mkIt x] w fun e w' => (∃ v, e = .returned v ∧ HoldsX w' v (insX xs x)) ∧ Below w.heap.size w w' := by
  obtain ⟨i0, hi0, hz0, hz1, hz2⟩ := info_parts infoIt
  have hm := hf.1
  have HF := Lib.hid hf.2
  have K0 := Lib.hid (KW.new hx ho)
  unfold maxLen at hcm
  clear hx ho hf
  go_enter Tryz.func57, Tryz.ntmps57
  go_upto_block 0 with fail
  generalize w.alloc _ = w1 at K0 ⊢
  go_cut [5] (fun i wx => ∃ m : Nat, m ≤ xs.length ∧ i = .int .i64 m ∧ Hid (KW w x A xs wx) ∧ Hid (insX xs x = xs.take m ++ x :: xs.drop m))
  case first =>
    go_wp2_with fail
    go_loopw [5] (fun i wr => ∃ m : Nat, m ≤ xs.length ∧ i = .int .i64 m ∧ Hid (KW w x A xs wr) ∧ Hid (∀ (j : Nat) (y : ItV), j < m → xs[j]? = some y → beforeN y.nm x.nm = true)) (fun i _ => xs.length - (intOf i).toNat)
    case atStart => exact ⟨0, by omega, rfl, K0, fun j y h => by omega⟩
    case round =>
      clear K0
      obtain ⟨m, hk2, rfl, K, hs⟩ := hrel
      have hlb := K.out.blk.lt
      have b0 := fun p => cell_far (p := p) hlb K.out.blk.cell0
      by_cases hlt : m < xs.length
      · have i1 : (m : Int) < (xs.length : Int) := by omega
        obtain ⟨b, off, y, rfl, hbl, hx1, _, hc0, hc1, hok⟩ := K.out.items.cells (j := m) hlt
        have l0 := fun p => cell_far (p := p) hbl hc0
        have hym := HF.out y (List.mem_of_getElem? hx1)
        obtain ⟨q, hq⟩ : ∃ q, beforeN y.nm x.nm = q := ⟨_, rfl⟩
        have HB := Lib.hid fun W => refBefore y.nm x.nm W (by omega) (by omega)
        rw [hq] at HB
        cases q with
        | true =>
          have HS := Lib.hid (step_true (p := fun y : ItV => beforeN y.nm x.nm) hs.out hx1 hq)
          clear hx1 hq hc0 hc1 hok
          go_wp2_with fail
          refine wp_region_far (by kernel_rfl) (by kernel_rfl) ?_
          repeat (go_big_quiet_step ((go_at_call 40; exact OneB.far (HB.out _))))
          refine wpQuiet_nil ?_
          rintro _ ⟨p, rfl⟩
          go_wp2_with fail
          go_roundw
          case rel => exact ⟨m + 1, by omega, by go_num, K.out.next (below_far wr p), HS⟩
          case measure => simp [intOf]; omega
        | false =>
          have HV := Lib.hid (insX_at hs.out (fun z hz => by rw [hx1] at hz; cases hz; exact hq))
          clear hx1 hq hc0 hc1 hok
          go_wp2_with fail
          refine wp_region_far (by kernel_rfl) (by kernel_rfl) ?_
          repeat (go_big_quiet_step ((go_at_call 40; exact OneB.far (HB.out _))))
          refine wpQuiet_nil ?_
          rintro _ ⟨p, rfl⟩
          go_wp2_with fail
          go_meet
          exact ⟨m, by omega, rfl, K.out.next (below_far wr p), HV⟩
      · have HV := Lib.hid (insX_at hs.out (fun z hz => by rw [List.getElem?_eq_none (by omega)] at hz; cases hz))
        have i1 : ¬ (m : Int) < (xs.length : Int) := by omega
        go_wp2_with fail
        refine wp_region_far (by kernel_rfl) (by kernel_rfl) ?_
        repeat (go_big_quiet_step ((fail)))
        refine wpQuiet_nil ?_
        rintro _ ⟨p, rfl⟩
        go_wp2_with fail
        go_meet
        exact ⟨m, by omega, rfl, K.out.next (below_far wr p), HV⟩
  case rest =>
    obtain ⟨m, hk2, rfl, K, hval⟩ := hcut
    have hm0 : (0 : Int) ≤ (m : Int) := by omega
    have hm1 : (m : Int) ≤ (xs.length : Int) := by omega
    have hm2 : (m : Int) ≤ (cap : Int) := by omega
    have hS := K.out
    have hS' := KW.sp K.out
    clear K K0
    go_wp2_with fail
    go_region_held3 (fun W' => W'.cell? ⟨w.heap.size, 0, none⟩ = some (.string ⟨x.nm.toArray⟩) ∧ W'.cell? ⟨w.heap.size, 1, none⟩ = some (.slice x.A x.ms.length x.c) ∧ w.heap.size < W'.heap.size ∧ KW w x A xs W')
      (first
        | assumption
        | (exact KW.sp (by assumption))
        | (exact KW.sp (KW.drew (by assumption)))
        | (exact KW.sp (KW.alloc (by assumption) _))
        | (exact KW.sp (KW.drew (KW.alloc (by assumption) _))))
      (first
        | (refine step_append_sl (o := ⟨some 25, _, _, _, _, _⟩) _ encIt 2 (by rfl) (.const (.slice none 0 0)) (.tmp 24) 22 (by rfl) encIt_len (by omega) encIt_one (w.heap.size + 1) 34 i0 _ 40 Tryz.underlying22 hi0 hz0 hz1 hz2 rfl (.slice none 0 0) [] (by rfl) (World.ownsRow_nil _ _ _ _) A m cap (xs.take m) (by rfl) (by simp; omega) ((KW.items (by first | assumption | exact KW.drew (by assumption) | exact KW.alloc (by assumption) _ | exact KW.alloc (KW.drew (by assumption)) _ | exact KW.drew (KW.alloc (by assumption) _) | exact KW.drew (KW.alloc (KW.drew (by assumption)) _))).1.take m) (by simp [maxLen]; omega) (by simp; omega) (KW.size (by first | assumption | exact KW.drew (by assumption) | exact KW.alloc (by assumption) _ | exact KW.alloc (KW.drew (by assumption)) _ | exact KW.drew (KW.alloc (by assumption) _) | exact KW.drew (KW.alloc (KW.drew (by assumption)) _))) ?_
           intro v1 w1 hown1 hg1 hat1
           have hS1 := KW.grown (by first | assumption | exact KW.drew (by assumption) | exact KW.alloc (by assumption) _ | exact KW.alloc (KW.drew (by assumption)) _ | exact KW.drew (KW.alloc (by assumption) _) | exact KW.drew (KW.alloc (KW.drew (by assumption)) _)) hg1 (by simp [Value.ownBlock]))
        | (refine step_append_sl (o := ⟨some 28, _, _, _, _, _⟩) _ encIt 2 (by rfl) (.tmp 25) (.tmp 27) 22 (by rfl) encIt_len (by omega) encIt_one (w.heap.size + 1) 34 i0 _ 40 Tryz.underlying22 hi0 hz0 hz1 hz2 rfl v1 ([] ++ xs.take m) (by rfl) (by first | exact hown1 | exact hown1.alloc _ | exact (hown1.alloc _).drew) _ 1 _ [x] (by rfl) (by rfl) (by first | exact SlAt.one (heap_alloc_new w1 _) | exact SlAt.one ((hg1.block _ (by simp) (by simp [Value.ownBlock])).trans (heap_alloc_new wc _))) (by simp [maxLen]; omega) (by simp; omega) (KW.size (by first | assumption | exact KW.drew (by assumption) | exact KW.alloc (by assumption) _ | exact KW.alloc (KW.drew (by assumption)) _ | exact KW.drew (KW.alloc (by assumption) _) | exact KW.drew (KW.alloc (KW.drew (by assumption)) _))) ?_
           intro v2 w2 hown2 hg2 hat2
           have hS2 := KW.grown (by first | assumption | exact KW.drew (by assumption) | exact KW.alloc (by assumption) _ | exact KW.alloc (KW.drew (by assumption)) _ | exact KW.drew (KW.alloc (by assumption) _) | exact KW.drew (KW.alloc (KW.drew (by assumption)) _)) hg2 (fun k hk => (hown1.lt k hk).1))
        | (refine step_append_sl (o := ⟨some 32, _, _, _, _, _⟩) _ encIt 2 (by rfl) (.tmp 28) (.tmp 31) 22 (by rfl) encIt_len (by omega) encIt_one (w.heap.size + 1) 34 i0 _ 40 Tryz.underlying22 hi0 hz0 hz1 hz2 rfl v2 ([] ++ xs.take m ++ [x]) (by rfl) hown2 _ (xs.length - m) _ (xs.drop m) (by rfl) (by simp) ((KW.items (by first | assumption | exact KW.drew (by assumption) | exact KW.alloc (by assumption) _ | exact KW.alloc (KW.drew (by assumption)) _ | exact KW.drew (KW.alloc (by assumption) _) | exact KW.drew (KW.alloc (KW.drew (by assumption)) _))).1.cut m cap hc) (by simp [maxLen]; omega) (by simp; omega) (KW.size (by first | assumption | exact KW.drew (by assumption) | exact KW.alloc (by assumption) _ | exact KW.alloc (KW.drew (by assumption)) _ | exact KW.drew (KW.alloc (by assumption) _) | exact KW.drew (KW.alloc (KW.drew (by assumption)) _))) ?_
           intro v3 w3 hown3 hg3 hat3
           have hS3 := KW.grown (by first | assumption | exact KW.drew (by assumption) | exact KW.alloc (by assumption) _ | exact KW.alloc (KW.drew (by assumption)) _ | exact KW.drew (KW.alloc (by assumption) _) | exact KW.drew (KW.alloc (KW.drew (by assumption)) _)) hg3 (fun k hk => (hown2.lt k hk).1)))
    all_goals
      have e : [] ++ xs.take m ++ [x] ++ xs.drop m = insX xs x := by rw [hval.out]; simp
      rw [e] at hown3
      have HH := Lib.hid (HoldsX.of_own hown3 fun y hy => by
        rcases insX_mem hy with h | h
        · exact hS3.items.2 y h
        · subst h; exact hS3.ok)
      have HB := Lib.hid hS3.bel
      obtain ⟨A', c', rfl, _⟩ := SlAt.of_own encIt_len hown3
      clear hS1 hS2 hS3 hown1 hown2 hown3 hg1 hg2 hg3 hat1 hat2 hat3 e hS hS' hval
      go_wp2_with fail
      all_goals
        go_ret
        exact ⟨⟨_, rfl, HH.out⟩, HB.out⟩

/-- What Put returns: items, or that a dot is another item's. -/
def putX (xs : List ItV) (x : ItV) : Option (List ItV) := if ((remX xs x.nm).any fun y => meetN y.ms x.ms) = true then none else some (insX (remX xs x.nm) x)

/-- The same, as an ending. -/
def PutR (o : Option (List ItV)) (e : Ending) (w' : World) : Prop := match o with
  | none => e = .returned (.tuple #[.slice none 0 0, .int .i64 11])
  | some ys => ∃ v, e = .returned (.tuple #[v, .int .i64 0]) ∧ HoldsX w' v ys

set_option maxRecDepth 100000 in
set_option maxHeartbeats 2000000 in
theorem refPut9 (A : Option Addr) (xs : List ItV) (cap : Nat) (x : ItV) (w : World) (hx : ItemsAt w A xs) (ho : ItOK w x) (hf : Fits xs) (hn : x.nm.length ≤ 1000) :
    Calls Tryz.prog 29 #[.slice A xs.length cap, mkIt x] w fun e w' =>
      PutR (putX xs x) e w' ∧ Below w.heap.size w w' := by
  have hm := hf.1
  have HF := Lib.hid hf.2
  have K0 := Lib.hid (KW.new hx ho)
  have HR := Lib.hid fun W (h : ItemsAt W A xs) => refRemove9 A xs cap x.nm W h (by omega)
  have hrl := remX_len xs x.nm
  obtain ⟨rs, hrs⟩ : ∃ rs, remX xs x.nm = rs := ⟨_, rfl⟩
  have hp : putX xs x = if (rs.any fun y => meetN y.ms x.ms) = true then none else some (insX rs x) := by unfold putX; rw [hrs]
  have HFR := Lib.hid (show Fits rs from by
    rw [← hrs]
    exact ⟨by omega, fun y hy => hf.2 y (remX_mem hy)⟩)
  rw [hrs] at HR hrl
  have HP := Lib.hid hp
  have hb0 := K0.out.blk.cell0
  clear hx ho hf hrs hp
  go_enter Tryz.func29, Tryz.ntmps29
  go_wp2_with fail
  refine (HR.out _ K0.out.items).mono ?_
  rintro e w2 ⟨⟨v, rfl, D, d, rfl, hat, hd1, hd2⟩, hb⟩
  have K2 := Lib.hid (K0.out.next hb)
  have HD := Lib.hid hat
  clear hb K0 hb0 hat
  generalize w.alloc _ = w1 at *
  have hrl2 : rs.length ≤ 100 := by omega
  go_wp2_with fail
  go_loopw [6] (fun i wr => ∃ k : Nat, k ≤ rs.length ∧ i = .int .i64 k ∧ Hid (Below w2.heap.size w2 wr) ∧ Hid ((rs.take k).any (fun y => meetN y.ms x.ms) = false)) (fun i _ => rs.length - (intOf i).toNat)
  case atStart => exact ⟨0, by omega, rfl, Below.refl _ _, show Hid _ from rfl⟩
  case round =>
    obtain ⟨k, hk, rfl, hb, hs⟩ := hrel
    have KR := Lib.hid (K2.out.next hb.out)
    have hlb := KR.out.blk.lt
    by_cases hlt : k < rs.length
    · have i0 : (k : Int) < (rs.length : Int) := by omega
      obtain ⟨g, off, y, rfl, hbl, hx1, _, hc0, hc1, hok⟩ := (HD.out.below hb.out).cells (j := k) hlt
      have b0 := fun p => cell_far (p := p) hlb KR.out.blk.cell0
      have b1 := fun p => cell_far (p := p) hlb KR.out.blk.cell1
      have l0 := fun p => cell_far (p := p) hbl hc0
      have l1 := fun p => cell_far (p := p) hbl hc1
      have HM := Lib.hid fun p => refMeet y x (far wr p) (hok.below (below_far wr p)) (KR.out.ok.below (below_far wr p))
      cases hq : meetN y.ms x.ms with
      | true =>
        have HV := Lib.hid (show putX xs x = none from by rw [HP.out, if_pos (any_true_at hx1 hq)])
        simp only [hq] at HM
        clear hx1 hok hq hc0 hc1
        go_wp2_with fail
        refine wp_region_far (by kernel_rfl) (by kernel_rfl) ?_
        repeat (go_big_quiet_step ((go_at_call 41; exact OneB.far (HM.out _))))
        refine wpQuiet_nil ?_
        rintro _ ⟨p, rfl⟩
        go_wp2_with fail
        go_ret2
        rw [HV.out]
        exact ⟨rfl, (KR.out.next (below_far wr p)).bel⟩
      | false =>
        have HV := Lib.hid (any_false_step (p := fun y : ItV => meetN y.ms x.ms) hs.out hx1 hq)
        simp only [hq] at HM
        clear hx1 hok hq hc0 hc1
        go_wp2_with fail
        refine wp_region_far (by kernel_rfl) (by kernel_rfl) ?_
        repeat (go_big_quiet_step ((go_at_call 41; exact OneB.far (HM.out _))))
        refine wpQuiet_nil ?_
        rintro _ ⟨p, rfl⟩
        go_wp2_with fail
        go_roundw
        case rel => exact ⟨k + 1, by omega, by go_num, hb.out.trans ((below_far wr p).mono hb.out.size), HV⟩
        case measure => simp [intOf]; omega
    · obtain rfl : k = rs.length := by omega
      rw [List.take_length] at hs
      have i0 : ¬ (rs.length : Int) < (rs.length : Int) := by omega
      have HV := Lib.hid (show putX xs x = some (insX rs x) from by rw [HP.out, if_neg (by rw [hs.out]; simp)])
      have HW := Lib.hid (refWith9 D rs d x wr (HD.out.below hb.out) KR.out.ok HFR.out hn hd1 hd2)
      have b0 := KR.out.blk.cell0
      have b1 := KR.out.blk.cell1
      clear hlt hk hs
      go_wp2_with fail
      refine HW.out.mono ?_
      rintro e w3 ⟨⟨v, rfl, hv⟩, hb3⟩
      have HH := Lib.hid hv
      have KE := Lib.hid (KR.out.next hb3)
      clear hv hb3 b0 b1
      go_wp2_with fail
      go_ret2
      rw [HV.out]
      exact ⟨⟨_, rfl, HH.out⟩, KE.out.bel⟩

end Go.Proofs.YtfbkhgajlklleaaGreat
