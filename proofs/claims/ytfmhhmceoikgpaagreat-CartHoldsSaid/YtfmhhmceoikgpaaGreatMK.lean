/- Several texts in one: ItmE, ItmF, ItmG. -/
import Derived.Test.YtfmhhmceoikgpaaGreatMJ
import Derived.Lib.Bytealg
namespace Go.Proofs.YtfmhhmceoikgpaaGreat

section
open Go.RowKit

/-- The dots of all items. -/
def dotsI (l : List It) : List (Int × Int) := l.foldl (fun s x => setL (s ++ dotsM x.2)) []
theorem dotsI_snoc (l : List It) (x : It) : dotsI (l ++ [x]) = setL (dotsI l ++ dotsM x.2) := by simp [dotsI, List.foldl_append]
theorem dotsI_fold : ∀ (l : List It) (s : List (Int × Int)), (∀ x ∈ l, x.2.length ≤ 100) → (l.foldl (fun s x => setL (s ++ dotsM x.2)) s).length ≤ s.length + 100 * l.length
  | [], s, _ => by simp
  | x :: r, s, h => by
    have h1 := setL_len (s ++ dotsM x.2)
    have h2 := dotsI_fold r (setL (s ++ dotsM x.2)) fun y hy => h y (List.mem_cons_of_mem _ hy)
    have h3 := h x (by simp)
    rw [List.length_append, dotsM_len] at h1
    rw [List.foldl_cons, List.length_cons]
    omega
theorem dotsI_len (l : List It) (h : ∀ x ∈ l, x.2.length ≤ 100) : (dotsI l).length ≤ 100 * l.length := by
  have := dotsI_fold l [] h
  rw [List.length_nil, Nat.zero_add] at this
  exact this
/-- A value that reads as items. -/
def HoldsX (w : World) (v : Value) (xs : List ItV) : Prop := ∃ A c, v = .slice A xs.length c ∧ ItemsAt w A xs ∧ xs.length ≤ c ∧ c ≤ maxLen
theorem HoldsX.below {w w' : World} {v : Value} {xs : List ItV} (h : HoldsX w v xs) (hb : Below w.heap.size w w') : HoldsX w' v xs := by
  obtain ⟨A, c, rfl, h1, h2, h3⟩ := h
  exact ⟨A, c, rfl, h1.below hb, h2, h3⟩
theorem HoldsX.nil (w : World) : HoldsX w (.slice none 0 0) [] := ⟨none, 0, rfl, ItemsAt.nil _ _, by simp, by simp [maxLen]⟩
/-- Items in a row of the call's own. -/
abbrev RowT (W : World) (B : Nat) (v : Value) (xs : List ItV) : Prop := W.ownsRow B 56 2 v xs.length (cellsOf encIt xs)
theorem HoldsX.of_own {w : World} {B : Nat} {v : Value} {xs : List ItV} (h : RowT w B v xs) (hk : ∀ x ∈ xs, ItOK w x) : HoldsX w v xs := by
  obtain ⟨A, c, rfl, h1, h2, h3⟩ := SlAt.of_own encIt_len h
  exact ⟨A, c, rfl, ⟨h3, hk⟩, h1, h2⟩

set_option maxHeartbeats 400000 in
theorem refDots9 (A : Option Addr) (xs : List ItV) (cap : Nat) (w : World) (hx : ItemsAt w A xs) (hf : Fits xs) :
    Calls Tryz.prog 43 #[.slice A xs.length cap] w fun e w' => (∃ v, e = .returned v ∧ Holds w' v (dotsI (its xs))) ∧ Below w.heap.size w w' := by
  have hm := hf.1
  have HF := Lib.hid hf.2
  have HX := Lib.hid hx
  clear hx hf
  go_enter Tryz.func43, Tryz.ntmps43
  go_wp2_with fail
  go_loopw [3, 4] (fun s3 i wr => ∃ (k : Nat) (v : Value), k ≤ xs.length ∧ v = s3 ∧ i = .int .i64 k ∧ Hid (Below w.heap.size w wr) ∧ Hid (Holds wr v (dotsI ((its xs).take k)))) (fun _ i _ => xs.length - (intOf i).toNat)
  case atStart => exact ⟨0, _, by omega, rfl, rfl, Below.refl _ _, Holds.nil _⟩
  case round =>
    obtain ⟨k, v, hk, rfl, rfl, hb, hs⟩ := hrel
    by_cases hlt : k < xs.length
    · have i0 : (k : Int) < (xs.length : Int) := by omega
      obtain ⟨g, off, x, rfl, hbl, hx1, _, hc0, hc1, hok⟩ := (HX.out.below hb.out).cells (j := k) hlt
      have hxm := HF.out x (List.mem_of_getElem? hx1)
      have hdl : (dotsI ((its xs).take k)).length ≤ 10000 := by
        have h := dotsI_len ((its xs).take k) fun y hy => by
          obtain ⟨z, hz, rfl⟩ := List.mem_map.1 (List.mem_of_mem_take hy)
          exact (HF.out z hz).2
        have h2 : ((its xs).take k).length ≤ k := List.length_take_le _ _
        omega
      have HE := Lib.hid (show dotsI ((its xs).take (k + 1)) = setL (dotsI ((its xs).take k) ++ dotsM x.ms) from by rw [take_step (its_at hx1), dotsI_snoc]; rfl)
      have HD := Lib.hid (refDots x.A x.ms x.c wr hok.1 (by omega))
      have hx100 := hxm.2
      clear hx1 hok hxm
      go_wp2_with fail
      refine HD.out.mono ?_
      rintro e w1 ⟨⟨v1, rfl, hv1⟩, hb1⟩
      have HV1 := Lib.hid hv1
      have HS := Lib.hid (hs.out.below hb1)
      have HB := Lib.hid (below_trans hb.out hb1)
      clear hv1 hb1 hc0 hc1
      have HU := Lib.hid (show Calls Tryz.prog 89 #[v, v1] w1 (fun e w' => (∃ v, e = .returned v ∧ Holds w' v (setL (dotsI ((its xs).take k) ++ dotsM x.ms))) ∧ Below w1.heap.size w1 w') from by
        obtain ⟨A1, c1, rfl, a1, a2, a3⟩ := HS.out
        obtain ⟨A2, c2, rfl, b1, b2, b3⟩ := HV1.out
        exact refUnion A1 A2 _ _ c1 c2 w1 a1 b1 (by rw [dotsM_len]; omega))
      go_wp2_with fail
      refine HU.out.mono ?_
      rintro e w2 ⟨⟨v2, rfl, hv2⟩, hb2⟩
      have HV2 := Lib.hid (show Holds w2 v2 (dotsI ((its xs).take (k + 1))) from by rw [HE.out]; exact hv2)
      have HB2 := Lib.hid (below_trans HB.out hb2)
      clear hv2 hb2
      go_wp2_with fail
      go_roundw
      case rel => exact ⟨k + 1, v2, by omega, rfl, by go_num, HB2, HV2⟩
      case measure => simp [intOf]; omega
    · obtain rfl : k = xs.length := by omega
      have i0 : ¬ (xs.length : Int) < (xs.length : Int) := by omega
      have HS := Lib.hid (show Holds wr v (dotsI (its xs)) from by have := hs.out; rwa [← its_len xs, List.take_length] at this)
      clear hlt hk
      go_wp2_with fail
      go_ret
      exact ⟨⟨_, rfl, HS.out⟩, hb.out⟩

end

section
open Go.RowKit

theorem tw_at {α : Type} {p : α → Bool} {xs : List α} {m : Nat} (h : ∀ (j : Nat) (y : α), j < m → xs[j]? = some y → p y = true) (he : ∀ y, xs[m]? = some y → p y = false) :
    xs.take m = xs.takeWhile p ∧ xs.drop m = xs.dropWhile p := by
  induction xs generalizing m with
  | nil => simp
  | cons x r ih =>
    match m with
    | 0 =>
      have := he x rfl
      simp [this]
    | m + 1 =>
      have h0 := h 0 x (by omega) rfl
      obtain ⟨h1, h2⟩ := ih (m := m) (fun j y hj hy => h (j + 1) y (by omega) (by simpa using hy)) (fun y hy => he y (by simpa using hy))
      simp [h0, h1, h2]
/-- Items with one more, at its place. -/
def insX (xs : List ItV) (x : ItV) : List ItV := xs.takeWhile (fun y => beforeN y.nm x.nm) ++ x :: xs.dropWhile (fun y => beforeN y.nm x.nm)
theorem insX_at {xs : List ItV} {x : ItV} {m : Nat} (h : ∀ (j : Nat) (y : ItV), j < m → xs[j]? = some y → beforeN y.nm x.nm = true) (he : ∀ y, xs[m]? = some y → beforeN y.nm x.nm = false) : insX xs x = xs.take m ++ x :: xs.drop m := by
  obtain ⟨h1, h2⟩ := tw_at (p := fun y : ItV => beforeN y.nm x.nm) h he
  unfold insX; rw [h1, h2]
theorem insX_mem {xs : List ItV} {x y : ItV} (h : y ∈ insX xs x) : y ∈ xs ∨ y = x := by
  unfold insX at h
  rcases List.mem_append.1 h with h | h
  · exact .inl (List.takeWhile_subset _ h)
  · rcases List.mem_cons.1 h with h | h
    · exact .inr h
    · exact .inl (List.dropWhile_subset _ h)
theorem step_true {α : Type} {p : α → Bool} {xs : List α} {k : Nat} {x : α} (h : ∀ (j : Nat) (y : α), j < k → xs[j]? = some y → p y = true) (hx : xs[k]? = some x) (he : p x = true) : ∀ (j : Nat) (y : α), j < k + 1 → xs[j]? = some y → p y = true := fun j y hj hy => by
  rcases Nat.lt_or_ge j k with h1 | h1
  · exact h j y h1 hy
  · obtain rfl : j = k := by omega
    rw [hx] at hy; cases hy; exact he

/-- What holds all along: the item in its block, the items where they lay. -/
structure KW (w : World) (x : ItV) (A : Option Addr) (xs : List ItV) (W : World) : Prop where
  blk : BlkI W w.heap.size x
  bel : Below w.heap.size w W
  xs0 : ItemsAt w A xs
  ok0 : ItOK w x
section
variable {w W W' : World} {x : ItV} {A : Option Addr} {xs : List ItV}
theorem KW.items (h : KW w x A xs W) : ItemsAt W A xs := h.xs0.below h.bel
theorem KW.ok (h : KW w x A xs W) : ItOK W x := h.ok0.below h.bel
theorem KW.next (h : KW w x A xs W) (hb : Below W.heap.size W W') : KW w x A xs W' := ⟨h.blk.below hb, below_trans h.bel hb, h.xs0, h.ok0⟩
theorem KW.alloc (h : KW w x A xs W) (o : Obj) : KW w x A xs (W.alloc o) := h.next ((Below.refl _ _).alloc (Nat.le_refl _) _)
theorem KW.drew (h : KW w x A xs W) : KW w x A xs W.drew := h.next (Below.refl _ _).drew
theorem KW.size (h : KW w x A xs W) : w.heap.size + 1 ≤ W.heap.size := h.blk.lt
theorem KW.grown (h : KW w x A xs W) {row : Option Nat} (hg : W.grownBy W' row) (hr : ∀ k, row = some k → w.heap.size + 1 ≤ k) : KW w x A xs W' := by
  have hz := h.size
  exact ⟨(hg.block _ h.blk.lt (fun e => by have := hr _ e.symm; omega)).trans h.blk, h.bel.grown hg (by omega) (fun k hk => by have := hr k hk; omega), h.xs0, h.ok0⟩
theorem KW.sp (h : KW w x A xs W) : W.cell? ⟨w.heap.size, 0, none⟩ = some (.string ⟨x.nm.toArray⟩) ∧ W.cell? ⟨w.heap.size, 1, none⟩ = some (.slice x.A x.ms.length x.c) ∧ w.heap.size < W.heap.size ∧ KW w x A xs W := ⟨h.blk.cell0, h.blk.cell1, h.blk.lt, h⟩
theorem KW.new (hx : ItemsAt w A xs) (ho : ItOK w x) : KW w x A xs (w.alloc (.cells #[.string ⟨x.nm.toArray⟩, .slice x.A x.ms.length x.c] 56)) := ⟨BlkI.new w x, (Below.refl _ w).alloc (Nat.le_refl _) _, hx, ho⟩
end

set_option maxRecDepth 100000 in
set_option maxHeartbeats 4000000 in
theorem refWith9 (A : Option Addr) (xs : List ItV) (cap : Nat) (x : ItV) (w : World) (hx : ItemsAt w A xs) (ho : ItOK w x) (hf : Fits xs) (hn : x.nm.length ≤ 1000) (hc : xs.length ≤ cap) (hcm : cap ≤ maxLen) :
    Calls Tryz.prog 56 #[.slice A xs.length cap, mkIt x] w fun e w' => (∃ v, e = .returned v ∧ HoldsX w' v (insX xs x)) ∧ Below w.heap.size w w' := by
  obtain ⟨i0, hi0, hz0, hz1, hz2⟩ := info_parts infoIt
  have hm := hf.1
  have HF := Lib.hid hf.2
  have K0 := Lib.hid (KW.new hx ho)
  unfold maxLen at hcm
  clear hx ho hf
  go_enter Tryz.func56, Tryz.ntmps56
  go_upto_block 0 with fail
  generalize w.alloc _ = w1 at K0 ⊢
  go_cut [5] (fun i wx => ∃ m : Nat, m ≤ xs.length ∧ i = .int .i64 m ∧ Hid (KW w x A xs wx) ∧ Hid (insX xs x = xs.take m ++ x :: xs.drop m))
  case first =>
    go_wp2_with fail
    go_loopw [5] (fun i wr => ∃ m : Nat, m ≤ xs.length ∧ i = .int .i64 m ∧ Hid (KW w x A xs wr) ∧ Hid (∀ (j : Nat) (y : ItV), j < m → xs[j]? = some y → beforeN y.nm x.nm = true)) (fun i _ => xs.length - (intOf i).toNat)
    case atStart => exact ⟨0, by omega, rfl, K0, fun j y h => by omega⟩
    case round =>
      clear K0
      obtain ⟨m, hk2, rfl, K, hs⟩ := hrel
      have hlb := K.out.blk.lt
      have b0 := fun p => cell_far (p := p) hlb K.out.blk.cell0
      by_cases hlt : m < xs.length
      · have i1 : (m : Int) < (xs.length : Int) := by omega
        obtain ⟨b, off, y, rfl, hbl, hx1, _, hc0, hc1, hok⟩ := K.out.items.cells (j := m) hlt
        have l0 := fun p => cell_far (p := p) hbl hc0
        have hym := HF.out y (List.mem_of_getElem? hx1)
        obtain ⟨q, hq⟩ : ∃ q, beforeN y.nm x.nm = q := ⟨_, rfl⟩
        have HB := Lib.hid fun W => refBefore y.nm x.nm W (by omega) (by omega)
        rw [hq] at HB
        cases q with
        | true =>
          have HS := Lib.hid (step_true (p := fun y : ItV => beforeN y.nm x.nm) hs.out hx1 hq)
          clear hx1 hq hc0 hc1 hok
          go_wp2_with fail
          refine wp_region_far (by kernel_rfl) (by kernel_rfl) ?_
          repeat (go_big_quiet_step ((go_at_call 86; exact OneB.far (HB.out _))))
          refine wpQuiet_nil ?_
          rintro _ ⟨p, rfl⟩
          go_wp2_with fail
          go_roundw
          case rel => exact ⟨m + 1, by omega, by go_num, K.out.next (below_far wr p), HS⟩
          case measure => simp [intOf]; omega
        | false =>
          have HV := Lib.hid (insX_at hs.out (fun z hz => by rw [hx1] at hz; cases hz; exact hq))
          clear hx1 hq hc0 hc1 hok
          go_wp2_with fail
          refine wp_region_far (by kernel_rfl) (by kernel_rfl) ?_
          repeat (go_big_quiet_step ((go_at_call 86; exact OneB.far (HB.out _))))
          refine wpQuiet_nil ?_
          rintro _ ⟨p, rfl⟩
          go_wp2_with fail
          go_meet
          exact ⟨m, by omega, rfl, K.out.next (below_far wr p), HV⟩
      · have HV := Lib.hid (insX_at hs.out (fun z hz => by rw [List.getElem?_eq_none (by omega)] at hz; cases hz))
        have i1 : ¬ (m : Int) < (xs.length : Int) := by omega
        go_wp2_with fail
        refine wp_region_far (by kernel_rfl) (by kernel_rfl) ?_
        repeat (go_big_quiet_step ((fail)))
        refine wpQuiet_nil ?_
        rintro _ ⟨p, rfl⟩
        go_wp2_with fail
        go_meet
        exact ⟨m, by omega, rfl, K.out.next (below_far wr p), HV⟩
  case rest =>
    obtain ⟨m, hk2, rfl, K, hval⟩ := hcut
    have hm0 : (0 : Int) ≤ (m : Int) := by omega
    have hm1 : (m : Int) ≤ (xs.length : Int) := by omega
    have hm2 : (m : Int) ≤ (cap : Int) := by omega
    have hS := K.out
    have hS' := KW.sp K.out
    clear K K0
    go_wp2_with fail
    go_region_held3 (fun W' => W'.cell? ⟨w.heap.size, 0, none⟩ = some (.string ⟨x.nm.toArray⟩) ∧ W'.cell? ⟨w.heap.size, 1, none⟩ = some (.slice x.A x.ms.length x.c) ∧ w.heap.size < W'.heap.size ∧ KW w x A xs W')
      (first
        | assumption
        | (exact KW.sp (by assumption))
        | (exact KW.sp (KW.drew (by assumption)))
        | (exact KW.sp (KW.alloc (by assumption) _))
        | (exact KW.sp (KW.drew (KW.alloc (by assumption) _))))
      (first
        | (refine step_append_sl (o := ⟨some 25, _, _, _, _, _⟩) _ encIt 2 (by rfl) (.const (.slice none 0 0)) (.tmp 24) 26 (by rfl) encIt_len (by omega) encIt_one (w.heap.size + 1) 56 i0 _ 40 Tryz.underlying26 hi0 hz0 hz1 hz2 rfl (.slice none 0 0) [] (by rfl) (World.ownsRow_nil _ _ _ _) A m cap (xs.take m) (by rfl) (by simp; omega) ((KW.items (by first | assumption | exact KW.drew (by assumption) | exact KW.alloc (by assumption) _ | exact KW.alloc (KW.drew (by assumption)) _ | exact KW.drew (KW.alloc (by assumption) _) | exact KW.drew (KW.alloc (KW.drew (by assumption)) _))).1.take m) (by simp [maxLen]; omega) (by simp; omega) (KW.size (by first | assumption | exact KW.drew (by assumption) | exact KW.alloc (by assumption) _ | exact KW.alloc (KW.drew (by assumption)) _ | exact KW.drew (KW.alloc (by assumption) _) | exact KW.drew (KW.alloc (KW.drew (by assumption)) _))) ?_
           intro v1 w1 hown1 hg1 hat1
           have hS1 := KW.grown (by first | assumption | exact KW.drew (by assumption) | exact KW.alloc (by assumption) _ | exact KW.alloc (KW.drew (by assumption)) _ | exact KW.drew (KW.alloc (by assumption) _) | exact KW.drew (KW.alloc (KW.drew (by assumption)) _)) hg1 (by simp [Value.ownBlock]))
        | (refine step_append_sl (o := ⟨some 28, _, _, _, _, _⟩) _ encIt 2 (by rfl) (.tmp 25) (.tmp 27) 26 (by rfl) encIt_len (by omega) encIt_one (w.heap.size + 1) 56 i0 _ 40 Tryz.underlying26 hi0 hz0 hz1 hz2 rfl v1 ([] ++ xs.take m) (by rfl) (by first | exact hown1 | exact hown1.alloc _ | exact (hown1.alloc _).drew) _ 1 _ [x] (by rfl) (by rfl) (by first | exact SlAt.one (heap_alloc_new w1 _) | exact SlAt.one ((hg1.block _ (by simp) (by simp [Value.ownBlock])).trans (heap_alloc_new wc _))) (by simp [maxLen]; omega) (by simp; omega) (KW.size (by first | assumption | exact KW.drew (by assumption) | exact KW.alloc (by assumption) _ | exact KW.alloc (KW.drew (by assumption)) _ | exact KW.drew (KW.alloc (by assumption) _) | exact KW.drew (KW.alloc (KW.drew (by assumption)) _))) ?_
           intro v2 w2 hown2 hg2 hat2
           have hS2 := KW.grown (by first | assumption | exact KW.drew (by assumption) | exact KW.alloc (by assumption) _ | exact KW.alloc (KW.drew (by assumption)) _ | exact KW.drew (KW.alloc (by assumption) _) | exact KW.drew (KW.alloc (KW.drew (by assumption)) _)) hg2 (fun k hk => (hown1.lt k hk).1))
        | (refine step_append_sl (o := ⟨some 32, _, _, _, _, _⟩) _ encIt 2 (by rfl) (.tmp 28) (.tmp 31) 26 (by rfl) encIt_len (by omega) encIt_one (w.heap.size + 1) 56 i0 _ 40 Tryz.underlying26 hi0 hz0 hz1 hz2 rfl v2 ([] ++ xs.take m ++ [x]) (by rfl) hown2 _ (xs.length - m) _ (xs.drop m) (by rfl) (by simp) ((KW.items (by first | assumption | exact KW.drew (by assumption) | exact KW.alloc (by assumption) _ | exact KW.alloc (KW.drew (by assumption)) _ | exact KW.drew (KW.alloc (by assumption) _) | exact KW.drew (KW.alloc (KW.drew (by assumption)) _))).1.cut m cap hc) (by simp [maxLen]; omega) (by simp; omega) (KW.size (by first | assumption | exact KW.drew (by assumption) | exact KW.alloc (by assumption) _ | exact KW.alloc (KW.drew (by assumption)) _ | exact KW.drew (KW.alloc (by assumption) _) | exact KW.drew (KW.alloc (KW.drew (by assumption)) _))) ?_
           intro v3 w3 hown3 hg3 hat3
           have hS3 := KW.grown (by first | assumption | exact KW.drew (by assumption) | exact KW.alloc (by assumption) _ | exact KW.alloc (KW.drew (by assumption)) _ | exact KW.drew (KW.alloc (by assumption) _) | exact KW.drew (KW.alloc (KW.drew (by assumption)) _)) hg3 (fun k hk => (hown2.lt k hk).1)))
    all_goals
      have e : [] ++ xs.take m ++ [x] ++ xs.drop m = insX xs x := by rw [hval.out]; simp
      rw [e] at hown3
      have HH := Lib.hid (HoldsX.of_own hown3 fun y hy => by
        rcases insX_mem hy with h | h
        · exact hS3.items.2 y h
        · subst h; exact hS3.ok)
      have HB := Lib.hid hS3.bel
      obtain ⟨A', c', rfl, _⟩ := SlAt.of_own encIt_len hown3
      clear hS1 hS2 hS3 hown1 hown2 hown3 hg1 hg2 hg3 hat1 hat2 hat3 e hS hS' hval
      go_wp2_with fail
      all_goals
        go_ret
        exact ⟨⟨_, rfl, HH.out⟩, HB.out⟩

end

section
open Go.RowKit

theorem bytesLess_eq : ∀ (a b : List UInt8), Op.bytesLess a b = beforeN a b
  | [], [] => rfl
  | [], _ :: _ => rfl
  | _ :: _, [] => rfl
  | a :: r, b :: s => by
    rw [Op.bytesLess, beforeN, bytesLess_eq r s]
    by_cases h : a = b
    · subst h; simp
    · rw [if_neg h]; simp [h, UInt8.lt_iff_toNat_lt]
theorem cmpBytes_neg : ∀ (a b : List UInt8), Lib.compareBytes a b < 0 ↔ beforeN a b = true
  | [], [] => by simp [Lib.compareBytes, beforeN]
  | [], _ :: _ => by simp [Lib.compareBytes, beforeN]
  | _ :: _, [] => by simp [Lib.compareBytes, beforeN]
  | a :: r, b :: s => by
    rw [Lib.compareBytes, beforeN]
    by_cases h : a = b
    · subst h
      rw [if_neg (by simp), if_neg (by simp), if_pos rfl]
      exact cmpBytes_neg r s
    · rw [if_neg h]
      by_cases h1 : a < b
      · rw [if_pos h1]
        have := UInt8.lt_iff_toNat_lt.1 h1
        simp [this]
      · rw [if_neg h1]
        have h2 : ¬ a.toNat < b.toNat := fun k => h1 (UInt8.lt_iff_toNat_lt.2 k)
        split <;> simp [h2]
        have h3 : ¬ b.toNat < a.toNat := fun k => (by assumption : ¬ b < a) (UInt8.lt_iff_toNat_lt.2 k)
        exact absurd (UInt8.toNat_inj.1 (by omega)) h

set_option maxRecDepth 100000 in
theorem cmpString (a b : List UInt8) (w : World) : Calls Tryz.prog 113 #[.string ⟨a.toArray⟩, .string ⟨b.toArray⟩] w (One (.int .i64 (Lib.compareBytes a b)) w) := by
  go_enter Tryz.func113, Tryz.ntmps113
  go_wp2
  rw [run_callFunc_extern Tryz.func156 (by kernel_rfl) (by kernel_rfl) (by kernel_rfl) (e := Extern.BytealgCompare.compare) (by kernel_rfl), Lib.run_compareString]
  simp only [Result.andThen]
  rw [Oper.upon_value]
  go_wp2
  go_ret
  exact ⟨rfl, rfl⟩
theorem strCompare (a b : List UInt8) (w : World) : Calls Tryz.prog 67 #[.string ⟨a.toArray⟩, .string ⟨b.toArray⟩] w (One (.int .i64 (Lib.compareBytes a b)) w) := by
  have H := Lib.hid (cmpString a b w)
  generalize Lib.compareBytes a b = z at *
  go_enter Tryz.func67, Tryz.ntmps67
  go_wp2_with fail
  refine H.out.mono ?_
  rintro e w1 ⟨rfl, rfl⟩
  go_wp2_with fail
  go_ret
  exact ⟨rfl, rfl⟩

set_option maxHeartbeats 2000000 in
theorem equalMarks (A B : Option Addr) (xs ys : List Mk) (cap cap' : Nat) (w : World) (hx : MarksAt w A xs) (hy : MarksAt w B ys) (hm : xs.length ≤ maxLen) (_ : ys.length ≤ maxLen) :
    Calls Tryz.prog 94 #[.slice A xs.length cap, .slice B ys.length cap'] w (OneB (.bool (decide (xs = ys))) w) := by
  unfold maxLen at hm
  by_cases hl : xs.length = ys.length
  · have hl' : ((xs.length : Int) != (ys.length : Int)) = false := neF (by omega)
    have HL := Lib.hid hl
    clear hl
    go_enter Tryz.func94, Tryz.ntmps94
    go_wp2_with fail
    go_loopw [5, 13] (fun _ i wr => ∃ m : Nat, m ≤ xs.length ∧ i = .int .i64 m ∧ Below w.heap.size w wr ∧ Hid (∀ j, j < m → xs[j]? = ys[j]?)) (fun _ i _ => xs.length - (intOf i).toNat)
    case atStart => exact ⟨0, by omega, rfl, Below.refl _ _, fun j h => by omega⟩
    case round =>
      obtain ⟨m, hk2, rfl, hb, hs⟩ := hrel
      by_cases hlt : m < xs.length
      · have i0 : (m : Int) < (xs.length : Int) := by omega
        have i1 : (m : Int) < (ys.length : Int) := by have := HL.out; omega
        obtain ⟨g, off, x, rfl, hbl, hx1, _, hc0, hc1, hc2, hc3⟩ := (SlAt.below hx hb).mark (j := m) hlt
        obtain ⟨g', off', x', rfl, hbl', hx2, _, hd0, hd1, hd2, hd3⟩ := (SlAt.below hy hb).mark (j := m) (by have := HL.out; omega)
        have l0 := fun p => cell_far (p := p) hbl hc0
        have l1 := fun p => cell_far (p := p) hbl hc1
        have l2 := fun p => cell_far (p := p) hbl hc2
        have l3 := fun p => cell_far (p := p) hbl hc3
        have m0 := fun p => cell_far (p := p) hbl' hd0
        have m1 := fun p => cell_far (p := p) hbl' hd1
        have m2 := fun p => cell_far (p := p) hbl' hd2
        have m3 := fun p => cell_far (p := p) hbl' hd3
        clear hc0 hc1 hc2 hc3 hd0 hd1 hd2 hd3
        have hne := fun w => neqMark x x' w
        by_cases he : x = x'
        · have HE := Lib.hid (same_to hs.out hx1 (by rw [hx2, he]))
          rw [decide_eq_true he] at hne
          obtain ⟨r, c, q, t⟩ := x
          obtain ⟨r', c', q', t'⟩ := x'
          simp only [mkV, Bool.not_true] at hne
          clear hx1 hx2 he
          go_wp2_with fail
          refine wp_region_far (by kernel_rfl) (by kernel_rfl) ?_
          repeat (go_big_quiet_step ((fail)))
          refine wpQuiet_nil ?_
          rintro _ ⟨p, rfl⟩
          go_wp2_with fail
          go_roundw
          case rel => exact ⟨m + 1, by omega, by go_num, hb.trans ((below_far wr p).mono hb.size), HE⟩
          case measure => simp [intOf]; omega
        · have HN := Lib.hid (show false = decide (xs = ys) from (decide_eq_false (ne_at hx1 hx2 he)).symm)
          rw [decide_eq_false he] at hne
          obtain ⟨r, c, q, t⟩ := x
          obtain ⟨r', c', q', t'⟩ := x'
          simp only [mkV, Bool.not_false] at hne
          clear hx1 hx2 he
          go_wp2_with fail
          refine wp_region_far (by kernel_rfl) (by kernel_rfl) ?_
          repeat (go_big_quiet_step ((fail)))
          refine wpQuiet_nil ?_
          rintro _ ⟨p, rfl⟩
          go_wp2_with fail
          go_ret
          exact OneB.bool HN.out (hb.trans ((below_far wr p).mono hb.size))
      · obtain rfl : m = xs.length := by omega
        have i0 : ¬ (xs.length : Int) < (xs.length : Int) := by omega
        have HN := Lib.hid (show true = decide (xs = ys) from (decide_eq_true (same_all HL.out hs.out)).symm)
        clear hlt hk2
        go_wp2_with fail
        go_ret
        exact OneB.bool HN.out hb
  · have hl' : ((xs.length : Int) != (ys.length : Int)) = true := neT (by omega)
    have HN := Lib.hid (show false = decide (xs = ys) from (decide_eq_false (fun e => hl (by rw [e]))).symm)
    clear hl
    go_enter Tryz.func94, Tryz.ntmps94
    go_wp2_with fail
    go_ret
    exact OneB.bool HN.out (Below.refl _ _)

set_option maxHeartbeats 1000000 in
theorem equal1 (x y : ItV) (q : Bool) (w : World) (hx : ItOK w x) (hy : ItOK w y) (hq : decide (x.it = y.it) = q) :
    Calls Tryz.prog 93 #[mkIt x, mkIt y] w (OneB (.bool q) w) := by
  have h1 : Below w.heap.size w ((w.alloc (.cells #[.string ⟨x.nm.toArray⟩, .slice x.A x.ms.length x.c] 56)).alloc (.cells #[.string ⟨y.nm.toArray⟩, .slice y.A y.ms.length y.c] 56)) := ((Below.refl _ w).alloc (Nat.le_refl _) _).alloc (by simp) _
  have HB := Lib.hid h1
  have HE := Lib.hid fun W (h : Below w.heap.size w W) => equalMarks x.A y.A x.ms y.ms x.c y.c W (SlAt.below hx.1 h) (SlAt.below hy.1 h) hx.len hy.len
  clear h1 hx hy
  by_cases hn : x.nm = y.nm
  · have hnb : (x.nm == y.nm) = true := by simp [hn]
    have HQ := Lib.hid (show decide (x.ms = y.ms) = q from by rw [← hq]; simp [ItV.it, hn])
    clear hq hn
    go_enter Tryz.func93, Tryz.ntmps93
    go_wp2_with fail
    refine (HE.out _ HB.out).mono ?_
    rintro e w1 ⟨rfl, hb⟩
    have HB2 := Lib.hid (below_trans HB.out hb)
    clear hb
    go_wp2_with fail
    go_ret
    exact OneB.bool HQ.out HB2.out
  · have hnb : (x.nm == y.nm) = false := by simp [hn]
    have HQ := Lib.hid (show false = q from by rw [← hq]; simp [ItV.it, hn])
    clear hq hn
    go_enter Tryz.func93, Tryz.ntmps93
    go_wp2_with fail
    go_ret
    exact OneB.bool HQ.out HB.out

set_option maxHeartbeats 2000000 in
theorem equalFunc (A B : Option Addr) (xs ys : List ItV) (cap cap' : Nat) (w : World) (hx : ItemsAt w A xs) (hy : ItemsAt w B ys) (hm : xs.length ≤ 100000) (_ : ys.length ≤ 100000) :
    Calls Tryz.prog 92 #[.slice A xs.length cap, .slice B ys.length cap', .func (.func 93) #[] #[]] w (OneB (.bool (decide (its xs = its ys))) w) := by
  have HX := Lib.hid hx
  have HY := Lib.hid hy
  clear hx hy
  by_cases hl : xs.length = ys.length
  · have hl' : ((xs.length : Int) != (ys.length : Int)) = false := neF (by omega)
    have HL := Lib.hid hl
    clear hl
    go_enter Tryz.func92, Tryz.ntmps92
    go_wp2_with fail
    go_loopw [7, 8, 9, 17] (fun _ _ _ i wr => ∃ m : Nat, m ≤ xs.length ∧ i = .int .i64 m ∧ Below w.heap.size w wr ∧ Hid (∀ j, j < m → (its xs)[j]? = (its ys)[j]?)) (fun _ _ _ i _ => xs.length - (intOf i).toNat)
    case atStart => exact ⟨0, by omega, rfl, Below.refl _ _, fun j h => by omega⟩
    case round =>
      obtain ⟨m, hk2, rfl, hb, hs⟩ := hrel
      by_cases hlt : m < xs.length
      · have i0 : (m : Int) < (xs.length : Int) := by omega
        have i1 : (m : Int) < (ys.length : Int) := by have := HL.out; omega
        obtain ⟨g, off, x, rfl, hbl, hx1, _, hc0, hc1, hok⟩ := (HX.out.below hb).cells (j := m) hlt
        obtain ⟨g', off', y, rfl, hbl', hx2, _, hd0, hd1, hok'⟩ := (HY.out.below hb).cells (j := m) (by have := HL.out; omega)
        have hba : Below wr.heap.size wr ((wr.alloc (.cells #[.string ⟨x.nm.toArray⟩, .slice x.A x.ms.length x.c] 56)).alloc (.cells #[.string ⟨y.nm.toArray⟩, .slice y.A y.ms.length y.c] 56)) := ((Below.refl _ wr).alloc (Nat.le_refl _) _).alloc (by simp) _
        have HBA := Lib.hid hba
        obtain ⟨q, hq⟩ : ∃ q, decide (x.it = y.it) = q := ⟨_, rfl⟩
        have HE := Lib.hid (equal1 x y q _ (hok.below hba) (hok'.below hba) hq)
        clear hba hok hok'
        cases q with
        | true =>
          have HS := Lib.hid (same_to (x := x.it) hs.out (its_at hx1) (by rw [its_at hx2, of_decide_eq_true hq]))
          clear hx1 hx2 hq
          go_wp2_with fail
          refine HE.out.mono ?_
          rintro e w1 ⟨rfl, hb1⟩
          have HB := Lib.hid (hb.trans ((below_trans HBA.out hb1).mono hb.size))
          clear hb1 hc0 hc1 hd0 hd1
          go_wp2_with fail
          go_roundw
          case rel => exact ⟨m + 1, by omega, by go_num, HB.out, HS⟩
          case measure => simp [intOf]; omega
        | false =>
          have HN := Lib.hid (show false = decide (its xs = its ys) from (decide_eq_false (ne_at (its_at hx1) (its_at hx2) fun e => of_decide_eq_false hq e)).symm)
          clear hx1 hx2 hq
          go_wp2_with fail
          refine HE.out.mono ?_
          rintro e w1 ⟨rfl, hb1⟩
          have HB := Lib.hid (hb.trans ((below_trans HBA.out hb1).mono hb.size))
          clear hb1 hc0 hc1 hd0 hd1
          go_wp2_with fail
          go_ret
          exact OneB.bool HN.out HB.out
      · obtain rfl : m = xs.length := by omega
        have i0 : ¬ (xs.length : Int) < (xs.length : Int) := by omega
        have HN := Lib.hid (show true = decide (its xs = its ys) from (decide_eq_true (same_all (by rw [its_len, its_len]; exact HL.out) (by rw [its_len]; exact hs.out))).symm)
        clear hlt hk2
        go_wp2_with fail
        go_ret
        exact OneB.bool HN.out hb
  · have hl' : ((xs.length : Int) != (ys.length : Int)) = true := neT (by omega)
    have HN := Lib.hid (show false = decide (its xs = its ys) from (decide_eq_false (fun e => hl (by rw [← its_len xs, e, its_len]))).symm)
    clear hl
    go_enter Tryz.func92, Tryz.ntmps92
    go_wp2_with fail
    go_ret
    exact OneB.bool HN.out (Below.refl _ _)
set_option maxHeartbeats 400000 in
theorem itemsEqual (A B : Option Addr) (xs ys : List ItV) (cap cap' : Nat) (w : World) (hx : ItemsAt w A xs) (hy : ItemsAt w B ys) (hm : xs.length ≤ 100000) (hm' : ys.length ≤ 100000) :
    Calls Tryz.prog 45 #[.slice A xs.length cap, .slice B ys.length cap'] w (OneB (.bool (decide (its xs = its ys))) w) := by
  have H := Lib.hid (equalFunc A B xs ys cap cap' w hx hy hm hm')
  generalize decide (its xs = its ys) = q at *
  go_enter Tryz.func45, Tryz.ntmps45
  go_wp2_with fail
  refine H.out.mono ?_
  rintro e w1 ⟨rfl, hb⟩
  have HB := Lib.hid hb
  clear hb
  go_wp2_with fail
  go_ret
  exact OneB.bool rfl HB.out

set_option maxHeartbeats 400000 in
theorem valid1 (m : Mk) (w : World) : Calls Tryz.prog 125 #[mkV m] w (OneB (.bool (!validM m)) w) := by
  have H := Lib.hid fun W => qtyMark m W
  go_enter Tryz.func125, Tryz.ntmps125
  go_wp2_with fail
  refine (H.out _).mono ?_
  rintro e w1 ⟨rfl, hb1⟩
  have HB := Lib.hid (below_trans ((Below.refl _ w).alloc (Nat.le_refl _) _) hb1)
  clear hb1
  go_wp2_with fail
  go_ret
  exact OneB.bool (by simp) HB.out

set_option maxHeartbeats 1000000 in
theorem indexMarksV (A : Option Addr) (xs : List Mk) (cap : Nat) (w : World) (hx : MarksAt w A xs) (hm : xs.length ≤ maxLen) :
    Calls Tryz.prog 169 #[.slice A xs.length cap, .func (.func 125) #[] #[]] w fun e w' =>
      ((∃ i : Nat, e = .returned (.int .i64 i) ∧ xs.all validM = false) ∨ (e = .returned (.int .i64 (-1)) ∧ xs.all validM = true)) ∧ Below w.heap.size w w' := by
  unfold maxLen at hm
  go_enter Tryz.func169, Tryz.ntmps169
  go_wp2
  go_loopw [5, 8] (fun _ i wr => ∃ m : Nat, m ≤ xs.length ∧ i = .int .i64 m ∧ Below w.heap.size w wr ∧ Hid (∀ (j : Nat) (y : Mk), j < m → xs[j]? = some y → validM y = true)) (fun _ i _ => xs.length - (intOf i).toNat)
  case atStart => exact ⟨0, by omega, rfl, Below.refl _ _, fun j q h => by omega⟩
  case round =>
    obtain ⟨m, hk2, rfl, hb, hs⟩ := hrel
    by_cases hlt : m < xs.length
    · obtain ⟨b, off, y, rfl, hbl, hx1, _, hc0, hc1, hc2, hc3⟩ := (hx.below hb).mark (j := m) hlt
      have hr := fun W => valid1 y W
      cases hq : validM y
      · rw [hq] at hr
        have HR := Lib.hid hr
        have HV := Lib.hid (all_no hx1 hq)
        clear hr hq hx1
        go_wp2_with fail
        refine (HR.out _).mono ?_
        rintro e w1 ⟨rfl, hb1⟩
        clear hc0 hc1 hc2 hc3
        go_wp2
        go_ret
        exact ⟨.inl ⟨m, rfl, HV.out⟩, hb.trans (hb1.mono hb.size)⟩
      · rw [hq] at hr
        have HR := Lib.hid hr
        have HV := Lib.hid (step_all hs.out hx1 hq)
        clear hr hq hx1
        go_wp2_with fail
        refine (HR.out _).mono ?_
        rintro e w1 ⟨rfl, hb1⟩
        clear hc0 hc1 hc2 hc3
        go_wp2
        go_roundw
        case rel => exact ⟨m + 1, by omega, by go_num, hb.trans (hb1.mono hb.size), HV⟩
        case measure => simp [intOf]; omega
    · obtain rfl : m = xs.length := by omega
      have HV := Lib.hid (all_yes hs.out)
      go_wp2
      go_ret
      exact ⟨.inr ⟨rfl, HV.out⟩, hb⟩
set_option maxHeartbeats 400000 in
theorem containsMarksV (A : Option Addr) (xs : List Mk) (cap : Nat) (w : World) (hx : MarksAt w A xs) (hm : xs.length ≤ maxLen) :
    Calls Tryz.prog 124 #[.slice A xs.length cap, .func (.func 125) #[] #[]] w (OneB (.bool (!xs.all validM)) w) := by
  have H := Lib.hid (indexMarksV A xs cap w hx hm)
  go_enter Tryz.func124, Tryz.ntmps124
  go_wp2_with fail
  refine H.out.mono ?_
  rintro e w1 ⟨h, hb⟩
  have HB := Lib.hid hb
  clear hb
  rcases h with ⟨i, rfl, h⟩ | ⟨rfl, h⟩
  · have HV := Lib.hid h
    have i0 : (0 : Int) ≤ (i : Int) := by omega
    clear h
    go_wp2_with fail
    go_ret
    exact OneB.bool (by rw [HV.out]; rfl) HB.out
  · have HV := Lib.hid h
    clear h
    go_wp2_with fail
    go_ret
    exact OneB.bool (by rw [HV.out]; rfl) HB.out

end

end Go.Proofs.YtfmhhmceoikgpaaGreat
