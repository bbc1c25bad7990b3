/- Several texts in one: DotC, GenA. -/
import Derived.Test.YtfmhhmceoikgpaaGreatMB
import Derived.Test.YtfmhhmceoikgpaaGreatMA
import Derived.Deep.RegionHeld3
import Derived.Deep.CutBlock
import Derived.Outline
import Derived.WalkSpells
import Derived.IntWalk
namespace Go.Proofs.YtfmhhmceoikgpaaGreat

section
open Go.RowKit

abbrev ltD (p q : Int × Int) : Bool := lessD p.1 p.2 q.1 q.2

/-- A set with one more dot. -/
def insD (xs : List (Int × Int)) (d : Int × Int) : List (Int × Int) := if d ∈ xs then xs else xs.takeWhile (ltD · d) ++ d :: xs.dropWhile (ltD · d)

theorem takeWhile_at {xs : List (Int × Int)} {d : Int × Int} {m : Nat} (h : ∀ j p, j < m → xs[j]? = some p → ltD p d = true) (he : ∀ p, xs[m]? = some p → ltD p d = false) :
    xs.take m = xs.takeWhile (ltD · d) ∧ xs.drop m = xs.dropWhile (ltD · d) := by
  induction xs generalizing m with
  | nil => simp
  | cons x r ih =>
    match m with
    | 0 =>
      have := he x rfl
      simp [this]
    | m + 1 =>
      have h0 := h 0 x (by omega) rfl
      obtain ⟨h1, h2⟩ := ih (m := m) (fun j p hj hp => h (j + 1) p (by omega) (by simpa using hp)) (fun p hp => he p (by simpa using hp))
      simp [h0, h1, h2]

theorem infoD : (Tryz.prog.info? 63).map (fun i => (i.zero, i.size, i.bytes)) = some (some (.agg #[.int .i64 0, .int .i64 0]), 2, 16) := by kernel_rfl
theorem encD_len : ∀ d, (encD d).length = 2 := fun _ => rfl
theorem encD_one : ∀ d, ∀ u ∈ encD d, u.oneCell' = true := fun d u hu => by
  simp [encD] at hu; rcases hu with rfl | rfl <;> rfl

/-- What the last statement of With leans on in every order. -/
def KS (w : World) (r0 c0 : Int) (W : World) : Prop :=
  W.cell? ⟨w.heap.size, 0, none⟩ = some (.int .i64 r0) ∧ W.cell? ⟨w.heap.size, 1, none⟩ = some (.int .i64 c0) ∧ Below (w.heap.size + 1) (w.alloc (.cells #[.int .i64 r0, .int .i64 c0] 63)) W
theorem KS.of {w W : World} {r0 c0 : Int} (h : Below (w.heap.size + 1) (w.alloc (.cells #[.int .i64 r0, .int .i64 c0] 63)) W) : KS w r0 c0 W :=
  ⟨(h.cell (p := ⟨w.heap.size, 0, none⟩) (by simp)).trans (by simp [World.cell?_alloc_new]), (h.cell (p := ⟨w.heap.size, 1, none⟩) (by simp)).trans (by simp [World.cell?_alloc_new]), h⟩
theorem KS.size {w W : World} {r0 c0 : Int} (h : KS w r0 c0 W) : w.heap.size + 1 ≤ W.heap.size := by have := h.2.2.size; simpa using this
theorem KS.alloc {w W : World} {r0 c0 : Int} (h : KS w r0 c0 W) (o : Obj) : KS w r0 c0 (W.alloc o) := .of (h.2.2.alloc h.size o)
theorem KS.drew {w W : World} {r0 c0 : Int} (h : KS w r0 c0 W) : KS w r0 c0 W.drew := .of h.2.2.drew
theorem KS.grown {w W W' : World} {r0 c0 : Int} (h : KS w r0 c0 W) {row : Option Nat} (hg : W.grownBy W' row) (hr : ∀ k, row = some k → w.heap.size + 1 ≤ k) : KS w r0 c0 W' := .of (h.2.2.grown hg h.size hr)
theorem KS.below {w W : World} {r0 c0 : Int} (h : KS w r0 c0 W) : Below w.heap.size w W := ((Below.refl _ w).alloc (Nat.le_refl _) _).trans (h.2.2.mono (by omega))

theorem SlAt.take {α : Type} {enc : α → List Value} {k : Nat} {w : World} {A : Option Addr} {xs : List α} (h : SlAt enc k w A xs) (m : Nat) : SlAt enc k w A (xs.take m) := fun hn => by
  obtain ⟨b, off, rfl, hb, hc⟩ := h (by simp at hn; omega)
  refine ⟨b, off, rfl, hb, fun j x hx => hc j x ?_⟩
  rw [List.getElem?_take] at hx
  split at hx
  · exact hx
  · cases hx
theorem SlAt.cut {α : Type} {enc : α → List Value} {k : Nat} {w : World} {A : Option Addr} {xs : List α} (h : SlAt enc k w A xs) (m cap : Nat) (hc : xs.length ≤ cap) : SlAt enc k w (if cap = m then A else A.map (·.add (m * k))) (xs.drop m) := fun hn => by
  obtain ⟨b, off, rfl, hb, hcell⟩ := h (by simp at hn; omega)
  have hne : ¬ cap = m := by simp at hn; omega
  rw [if_neg hne]
  refine ⟨b, off + m * k, by simp [Addr_add], hb, fun j x hx i u hu => ?_⟩
  rw [List.getElem?_drop] at hx
  have := hcell (m + j) x hx i u hu
  rw [Nat.add_mul] at this
  rw [show off + m * k + j * k + i = off + (m * k + j * k) + i by omega]
  exact this
/-- One element in a new block. -/
theorem SlAt.one {α : Type} {enc : α → List Value} {k : Nat} {w : World} {g : Nat} {x : α} {t : TypeId} (h : w.heap[g]? = some (.cells (enc x).toArray t (0, 0))) : SlAt enc k w (some ⟨g, 0, none⟩) [x] := fun _ =>
  ⟨g, 0, rfl, (Array.getElem?_eq_some_iff.1 h).1, fun j y hy i u hu => by
    match j, hy with
    | 0, hy => simp at hy; subst hy; rw [cell_of_row w g _ _ t (0, 0) h]; simpa using hu⟩

set_option maxRecDepth 100000 in
set_option maxHeartbeats 1000000 in
theorem refWith (A : Option Addr) (xs : List (Int × Int)) (cap : Nat) (r0 c0 : Int) (w : World) (hx : DotsAt w A xs) (hm : xs.length ≤ 1000000) (hc : xs.length ≤ cap) (hcm : cap ≤ maxLen) :
    Calls Tryz.prog 88 #[.slice A xs.length cap, .agg #[.int .i64 r0, .int .i64 c0]] w fun e w' =>
      (∃ A' c', e = .returned (.slice A' (insD xs (r0, c0)).length c') ∧ DotsAt w' A' (insD xs (r0, c0)) ∧ (insD xs (r0, c0)).length ≤ c' ∧ c' ≤ maxLen) ∧ Below w.heap.size w w' := by
  obtain ⟨i0, hi0, hz0, hz1, hz2⟩ := info_parts infoD
  by_cases hin : (r0, c0) ∈ xs
  · have hv : insD xs (r0, c0) = xs := by simp [insD, hin]
    rw [hv]
    have hh := fun W hW => refHas A xs cap r0 c0 W hW (by simp only [maxLen]; omega)
    simp only [hin, decide_true] at hh
    have HH := Lib.hid hh
    clear hv hin hh
    unfold maxLen at hcm
    go_enter Tryz.func88, Tryz.ntmps88
    go_wp2_with fail
    refine (HH.out _ (hx.below ((Below.refl _ w).alloc (Nat.le_refl _) _))).mono ?_
    rintro e w1 ⟨rfl, hb1⟩
    go_wp2
    go_ret
    have hbb := below_trans ((Below.refl _ w).alloc (Nat.le_refl _) _) hb1
    exact ⟨⟨A, cap, rfl, hx.below hbb, hc, hcm⟩, hbb⟩
  · have hh := fun W hW => refHas A xs cap r0 c0 W hW (by simp only [maxLen]; omega)
    simp only [hin, decide_false] at hh
    have HH := Lib.hid hh
    have hv : ∀ m, (∀ j p, j < m → xs[j]? = some p → ltD p (r0, c0) = true) → (∀ p, xs[m]? = some p → ltD p (r0, c0) = false) → insD xs (r0, c0) = xs.take m ++ (r0, c0) :: xs.drop m := fun m h1 h2 => by
      obtain ⟨e1, e2⟩ := takeWhile_at h1 h2
      simp [insD, hin, e1, e2]
    have HV := Lib.hid hv
    clear hv hin hh
    unfold maxLen at hcm
    go_enter Tryz.func88, Tryz.ntmps88
    go_wp2_with fail
    refine (HH.out _ (hx.below ((Below.refl _ w).alloc (Nat.le_refl _) _))).mono ?_
    rintro e w1 ⟨rfl, hb1⟩
    have hb0 : Below (w.heap.size + 1) (w.alloc (.cells #[.int .i64 r0, .int .i64 c0] 63)) w1 := hb1.mono (by simp)
    clear hb1
    go_upto_block 0 with fail
    go_cut [5] (fun i wx => ∃ m : Nat, m ≤ xs.length ∧ i = .int .i64 m ∧ Below (w.heap.size + 1) (w.alloc (.cells #[.int .i64 r0, .int .i64 c0] 63)) wx ∧ Hid (insD xs (r0, c0) = xs.take m ++ (r0, c0) :: xs.drop m))
    case first =>
      go_wp2
      go_loopw [5] (fun i wr => ∃ m : Nat, m ≤ xs.length ∧ i = .int .i64 m ∧ Below (w.heap.size + 1) (w.alloc (.cells #[.int .i64 r0, .int .i64 c0] 63)) wr ∧ Hid (∀ j p, j < m → xs[j]? = some p → ltD p (r0, c0) = true)) (fun i _ => xs.length - (intOf i).toNat)
      case atStart => exact ⟨0, by omega, rfl, hb0, fun j p h => by omega⟩
      case round =>
        obtain ⟨m, hk2, rfl, hb1, hs⟩ := hrel
        have hb : Below w.heap.size w wr := ((Below.refl _ w).alloc (Nat.le_refl _) _).trans (hb1.mono (by omega))
        have hz : w.heap.size + 1 ≤ wr.heap.size := by have := hb1.size; simpa using this
        have k0 := cell_far (w := wr) (a := ⟨w.heap.size, 0, none⟩) (v := .int .i64 r0) (show w.heap.size < wr.heap.size by omega) ((hb1.cell (p := ⟨w.heap.size, 0, none⟩) (by simp)).trans (by simp [World.cell?_alloc_new]))
        have k1 := cell_far (w := wr) (a := ⟨w.heap.size, 1, none⟩) (v := .int .i64 c0) (show w.heap.size < wr.heap.size by omega) ((hb1.cell (p := ⟨w.heap.size, 1, none⟩) (by simp)).trans (by simp [World.cell?_alloc_new]))
        by_cases hlt : m < xs.length
        · obtain ⟨b, off, r, c, rfl, hbl, hx1, hc0, hc1⟩ := (hx.below hb).dot (j := m) (by omega)
          have l0 := fun p => cell_far (p := p) hbl hc0
          have l1 := fun p => cell_far (p := p) hbl hc1
          clear hc0 hc1
          have HX1 := Lib.hid hx1; clear hx1
          have hr := fun W => refLess r c r0 c0 W
          cases hq : lessD r c r0 c0
          · rw [hq] at hr
            have HR := Lib.hid hr; clear hr
            have hval := HV.out m hs.out (fun p hp => by rw [HX1.out] at hp; cases hp; exact hq)
            have HVAL := Lib.hid hval; clear hval hq
            go_wp2_with fail
            refine wp_region_far (by kernel_rfl) (by kernel_rfl) ?_
            repeat (go_big_quiet_step ((go_at_call 100; exact far_of (HR.out _))))
            refine wpQuiet_nil ?_
            rintro _ ⟨p, rfl⟩
            go_wp2_with fail
            go_meet
            exact ⟨m, by omega, rfl, hb1.trans ((below_far wr p).mono hz), HVAL⟩
          · rw [hq] at hr
            have HR := Lib.hid hr; clear hr
            have HQ := Lib.hid hq; clear hq
            go_wp2_with fail
            refine wp_region_far (by kernel_rfl) (by kernel_rfl) ?_
            repeat (go_big_quiet_step ((go_at_call 100; exact far_of (HR.out _))))
            refine wpQuiet_nil ?_
            rintro _ ⟨p, rfl⟩
            go_wp2
            go_roundw
            case rel => 
              refine ⟨m + 1, by omega, by go_num, hb1.trans ((below_far wr p).mono hz), (show Hid _ from fun j p hj hp => ?_)⟩
              by_cases e : j = m
              · subst e; rw [HX1.out] at hp; cases hp; exact HQ.out
              · exact hs.out j p (by omega) hp
            case measure => simp [intOf]; omega
        · have hval := HV.out m hs.out (fun p hp => by rw [List.getElem?_eq_none (by omega)] at hp; cases hp)
          have HVAL := Lib.hid hval; clear hval
          have hd : decide ((m : Int) < (xs.length : Int)) = false := by simp; omega
          go_wp2_with fail
          refine wp_region_far (by kernel_rfl) (by kernel_rfl) ?_
          repeat (go_big_quiet_step ((fail)))
          refine wpQuiet_nil ?_
          rintro _ ⟨p, rfl⟩
          go_wp2_with fail
          go_meet
          exact ⟨m, by omega, rfl, hb1.trans ((below_far wr p).mono hz), HVAL⟩
    case rest =>
      obtain ⟨m, hk2, rfl, hb1, hval⟩ := hcut
      have hS := KS.of hb1
      have HM := Lib.hid hm
      have hm0 : (0 : Int) ≤ (m : Int) := by omega
      have hm1 : (m : Int) ≤ (xs.length : Int) := by omega
      have hm2 : (m : Int) ≤ (cap : Int) := by omega
      have hS' : wc.cell? ⟨w.heap.size, 0, none⟩ = some (.int .i64 r0) ∧ wc.cell? ⟨w.heap.size, 1, none⟩ = some (.int .i64 c0) ∧ Below (w.heap.size + 1) (w.alloc (.cells #[.int .i64 r0, .int .i64 c0] 63)) wc := hS
      go_wp2_with fail
      go_region_held3 (fun w' => w'.cell? ⟨w.heap.size, 0, none⟩ = some (.int .i64 r0) ∧ w'.cell? ⟨w.heap.size, 1, none⟩ = some (.int .i64 c0) ∧ Below (w.heap.size + 1) (w.alloc (.cells #[.int .i64 r0, .int .i64 c0] 63)) w')
        (first
          | assumption
          | (exact KS.drew (by assumption))
          | (exact KS.alloc (by assumption) _)
          | (exact KS.drew (KS.alloc (by assumption) _)))
        (first
          | (refine step_append_sl (o := ⟨some 27, _, _, _, _, _⟩) _ encD 2 (by rfl) (.const (.slice none 0 0)) (.tmp 26) 22 (by rfl) encD_len (by omega) encD_one (w.heap.size + 1) 63 i0 _ 16 Tryz.underlying22 hi0 hz0 hz1 hz2 rfl (.slice none 0 0) [] (by rfl) (World.ownsRow_nil _ _ _ _) A m cap (xs.take m) (by rfl) (by simp; omega) ((hx.below (KS.below (by assumption))).take m) (by simp [maxLen]; have := HM.out; omega) (by simp; have := HM.out; omega) (KS.size (by assumption)) ?_
             intro v1 w1 hown1 hg1 hat1
             have hS1 := KS.grown (by assumption) hg1 (by simp [Value.ownBlock]))
          | (refine step_append_sl (o := ⟨some 30, _, _, _, _, _⟩) _ encD 2 (by rfl) (.tmp 27) (.tmp 29) 22 (by rfl) encD_len (by omega) encD_one (w.heap.size + 1) 63 i0 _ 16 Tryz.underlying22 hi0 hz0 hz1 hz2 rfl v1 ([] ++ xs.take m) (by rfl) (by first | exact hown1 | exact hown1.alloc _ | exact (hown1.alloc _).drew) _ 1 _ [(r0, c0)] (by rfl) (by rfl) (by first | exact SlAt.one (heap_alloc_new w1 _) | exact SlAt.one ((hg1.block _ (by simp) (by simp [Value.ownBlock])).trans (heap_alloc_new wc _))) (by simp [maxLen]; have := HM.out; omega) (by simp; have := HM.out; omega) (KS.size (by assumption)) ?_
             intro v2 w2 hown2 hg2 hat2
             have hS2 := KS.grown (by assumption) hg2 (fun k hk => (hown1.lt k hk).1))
          | (refine step_append_sl (o := ⟨some 34, _, _, _, _, _⟩) _ encD 2 (by rfl) (.tmp 30) (.tmp 33) 22 (by rfl) encD_len (by omega) encD_one (w.heap.size + 1) 63 i0 _ 16 Tryz.underlying22 hi0 hz0 hz1 hz2 rfl v2 ([] ++ xs.take m ++ [(r0, c0)]) (by rfl) hown2 _ (xs.length - m) _ (xs.drop m) (by rfl) (by simp) ((hx.below (KS.below (by assumption))).cut m cap hc) (by simp [maxLen]; have := HM.out; omega) (by simp; have := HM.out; omega) (KS.size (by assumption)) ?_
             intro v3 w3 hown3 hg3 hat3
             have hS3 := KS.grown (by assumption) hg3 (fun k hk => (hown2.lt k hk).1)))
      all_goals
        have e : [] ++ xs.take m ++ [(r0, c0)] ++ xs.drop m = insD xs (r0, c0) := by rw [hval.out]; simp
        rw [e] at hown3
        obtain ⟨A', c', rfl, hc', hcm', hat'⟩ := SlAt.of_own encD_len hown3
        have hbb := hS3.below
        clear hS1 hS2 hS3 hown1 hown2 hown3 hg1 hg2 hg3 hat1 hat2 hat3 e hS hS' hval
        have HAT := Lib.hid hat'; clear hat'
        go_wp2
        all_goals
          go_ret
          exact ⟨⟨A', c', rfl, HAT.out, hc', hcm'⟩, hbb⟩

/-- The set of a list. -/
def setL (xs : List (Int × Int)) : List (Int × Int) := xs.foldl insD []
theorem setL_snoc (xs : List (Int × Int)) (d : Int × Int) : setL (xs ++ [d]) = insD (setL xs) d := by simp [setL, List.foldl_append]
theorem insD_len (xs : List (Int × Int)) (d : Int × Int) : (insD xs d).length ≤ xs.length + 1 := by
  unfold insD
  split
  · omega
  · have := congrArg List.length (List.takeWhile_append_dropWhile (p := (ltD · d)) (l := xs))
    simp only [List.length_append, List.length_cons] at this ⊢
    omega
theorem foldl_ins_len : ∀ (l s : List (Int × Int)), (l.foldl insD s).length ≤ s.length + l.length
  | [], s => by simp
  | d :: l, s => by
    have h1 := foldl_ins_len l (insD s d)
    have h2 := insD_len s d
    simp only [List.foldl_cons, List.length_cons]; omega
theorem setL_len (xs : List (Int × Int)) : (setL xs).length ≤ xs.length := by
  have := foldl_ins_len xs []
  simpa [setL] using this
theorem take_snoc {α : Type} {xs : List α} {m : Nat} {x : α} (h : xs[m]? = some x) : xs.take (m + 1) = xs.take m ++ [x] := by
  rw [List.take_add_one, h]; rfl

/-- What a slot holds that reads as a list of dots. -/
def Holds (w : World) (v : Value) (xs : List (Int × Int)) : Prop := ∃ A c, v = .slice A xs.length c ∧ DotsAt w A xs ∧ xs.length ≤ c ∧ c ≤ maxLen
theorem Holds.below {w w' : World} {v : Value} {xs : List (Int × Int)} (h : Holds w v xs) (hb : Below w.heap.size w w') : Holds w' v xs := by
  obtain ⟨A, c, rfl, h1, h2, h3⟩ := h
  exact ⟨A, c, rfl, h1.below hb, h2, h3⟩
theorem Holds.nil (w : World) : Holds w (.slice none 0 0) [] := ⟨none, 0, rfl, SlAt.nil, by simp, by simp [maxLen]⟩

theorem refWith_h (v : Value) (xs : List (Int × Int)) (r0 c0 : Int) (w : World) (h : Holds w v xs) (hm : xs.length ≤ 1000000) :
    Calls Tryz.prog 88 #[v, .agg #[.int .i64 r0, .int .i64 c0]] w fun e w' => (∃ v', e = .returned v' ∧ Holds w' v' (insD xs (r0, c0))) ∧ Below w.heap.size w w' := by
  obtain ⟨A, c, rfl, h1, h2, h3⟩ := h
  exact (refWith A xs c r0 c0 w h1 hm h2 h3).mono fun e w' ⟨⟨A', c', h1, h2, h3, h4⟩, hb⟩ => ⟨⟨_, h1, A', c', rfl, h2, h3, h4⟩, hb⟩

set_option maxHeartbeats 1000000 in
theorem refUnion (A B : Option Addr) (xs ys : List (Int × Int)) (cap cap' : Nat) (w : World) (hx : DotsAt w A xs) (hy : DotsAt w B ys) (hm : xs.length + ys.length ≤ 100000) :
    Calls Tryz.prog 89 #[.slice A xs.length cap, .slice B ys.length cap'] w fun e w' => (∃ v, e = .returned v ∧ Holds w' v (setL (xs ++ ys))) ∧ Below w.heap.size w w' := by
  go_enter Tryz.func89, Tryz.ntmps89
  go_wp2
  go_loopw [5, 6] (fun v i wr => ∃ m : Nat, m ≤ xs.length ∧ i = .int .i64 m ∧ Below w.heap.size w wr ∧ Holds wr v (setL (xs.take m))) (fun _ i _ => xs.length - (intOf i).toNat)
  case atStart => exact ⟨0, by omega, rfl, Below.refl _ _, Holds.nil _⟩
  case round =>
    obtain ⟨m, hk2, rfl, hb, hs⟩ := hrel
    by_cases hlt : m < xs.length
    · obtain ⟨b, off, r, c, rfl, hbl, hx1, hc0, hc1⟩ := (hx.below hb).dot (j := m) (by omega)
      have hl := setL_len (xs.take m)
      have hl2 : (xs.take m).length ≤ m := List.length_take_le _ _
      have HX1 := Lib.hid hx1; clear hx1
      go_wp2_with (go_at_call 88; refine (refWith_h _ (setL (xs.take m)) _ _ _ hs (by omega)).mono ?_; rintro e w1 ⟨⟨v', rfl, hs'⟩, hb1⟩)
      go_roundw
      case rel => exact ⟨m + 1, by omega, by go_num, hb.trans (hb1.mono hb.size), by rw [take_snoc HX1.out, setL_snoc]; exact hs'⟩
      case measure => simp [intOf]; omega
    · have hmx : xs.take m = xs := List.take_of_length_le (by omega)
      rw [hmx] at hs
      clear hmx
      go_wp2
      go_loopw [5, 7] (fun v i wr => ∃ m : Nat, m ≤ ys.length ∧ i = .int .i64 m ∧ Below w.heap.size w wr ∧ Holds wr v (setL (xs ++ ys.take m))) (fun _ i _ => ys.length - (intOf i).toNat)
      case atStart => exact ⟨0, by omega, rfl, hb, by simpa using hs⟩
      case round =>
        obtain ⟨n, hn2, rfl, hb', hs'⟩ := hrel
        by_cases hlt' : n < ys.length
        · obtain ⟨b, off, r, c, rfl, hbl, hx1, hc0, hc1⟩ := (hy.below hb').dot (j := n) (by omega)
          have hl := setL_len (xs ++ ys.take n)
          have hl2 : (xs ++ ys.take n).length ≤ xs.length + n := by simp; omega
          have HX1 := Lib.hid hx1; clear hx1
          go_wp2_with (go_at_call 88; refine (refWith_h _ (setL (xs ++ ys.take n)) _ _ _ hs' (by omega)).mono ?_; rintro e w1 ⟨⟨v', rfl, hs2⟩, hb1⟩)
          go_roundw
          case rel => exact ⟨n + 1, by omega, by go_num, hb'.trans (hb1.mono hb'.size), by rw [take_snoc HX1.out, ← List.append_assoc, setL_snoc]; exact hs2⟩
          case measure => simp [intOf]; omega
        · have hmx : ys.take n = ys := List.take_of_length_le (by omega)
          rw [hmx] at hs'
          clear hmx
          have HS := Lib.hid hs'; clear hs'
          go_wp2
          go_ret
          exact ⟨⟨_, rfl, HS.out⟩, hb'⟩

end

section
open Go.RowKit

/-- One result that is known, nothing changed. -/
def One (v : Value) (w : World) (e : Ending) (w' : World) : Prop := e = .returned v ∧ w = w'
/-- One result that is known, nothing changed of what was there. -/
def OneB (v : Value) (w : World) (e : Ending) (w' : World) : Prop := e = .returned v ∧ Below w.heap.size w w'
theorem OneB.int {k : IntKind} {a b : Int} {w w' : World} (h : a = b) (hb : Below w.heap.size w w') : OneB (.int k b) w (.returned (.int k a)) w' := by subst h; exact ⟨rfl, hb⟩
theorem One.int {k : IntKind} {a b : Int} (w : World) (h : a = b) : One (.int k b) w (.returned (.int k a)) w := by subst h; exact ⟨rfl, rfl⟩
theorem One.bool {a b : Bool} (w : World) (h : a = b) : One (.bool b) w (.returned (.bool a)) w := by subst h; exact ⟨rfl, rfl⟩
theorem OneB.bool {a b : Bool} {w w' : World} (h : a = b) (hb : Below w.heap.size w w') : OneB (.bool b) w (.returned (.bool a)) w' := by subst h; exact ⟨rfl, hb⟩
theorem OneB.pair {v v' u u' : Value} {w w' : World} (h : v = v') (k : u = u') (hb : Below w.heap.size w w') : OneB (.tuple #[v', u']) w (.returned (.tuple #[v, u])) w' := by subst h k; exact ⟨rfl, hb⟩
theorem One.below {v : Value} {w w' : World} {e : Ending} (h : One v w e w') : OneB v w e w' := by obtain ⟨rfl, rfl⟩ := h; exact ⟨rfl, Below.refl _ _⟩
/-- True, nothing changed of what was there. -/
abbrev TrueB (w : World) : Ending → World → Prop := OneB (.bool true) w
theorem OneB.far {P : Program} {f : FuncId} {args : Array Value} {w : World} {p : FarBy} {v : Value}
    (h : Calls P f args (Go.Proofs.YtfmhhmceoikgpaaGreat.far w p) (OneB v (Go.Proofs.YtfmhhmceoikgpaaGreat.far w p))) :
    Calls P f args (Go.Proofs.YtfmhhmceoikgpaaGreat.far w p) fun e w'' => e = .returned v ∧ ∃ q : FarBy, w'' = Go.Proofs.YtfmhhmceoikgpaaGreat.far w q := far_of h
theorem One.far {P : Program} {f : FuncId} {args : Array Value} {w : World} {p : FarBy} {v : Value}
    (h : Calls P f args (Go.Proofs.YtfmhhmceoikgpaaGreat.far w p) (One v (Go.Proofs.YtfmhhmceoikgpaaGreat.far w p))) :
    Calls P f args (Go.Proofs.YtfmhhmceoikgpaaGreat.far w p) fun e w'' => e = .returned v ∧ ∃ q : FarBy, w'' = Go.Proofs.YtfmhhmceoikgpaaGreat.far w q := far_of_same h

theorem eqT {a b : Int} (h : a = b) : (a == b) = true := by simpa using h
theorem eqF {a b : Int} (h : a ≠ b) : (a == b) = false := by simpa using h
theorem neT {a b : Int} (h : a ≠ b) : (a != b) = true := by simpa using h
theorem neF {a b : Int} (h : a = b) : (a != b) = false := by simpa using h

theorem SlAt.cell1 {α : Type} {f : α → Value} {w : World} {A : Option Addr} {xs : List α} (h : SlAt (fun x => [f x]) 1 w A xs) {j : Nat} (hj : j < xs.length) :
    ∃ b off, A = some ⟨b, off, none⟩ ∧ b < w.heap.size ∧ w.cell? ⟨b, off + j, none⟩ = some (f xs[j]) := by
  obtain ⟨b, off, rfl, hb, hc⟩ := h (by omega)
  exact ⟨b, off, rfl, hb, by simpa using hc j _ (List.getElem?_eq_getElem hj) 0 _ rfl⟩
/-- A literal slice in a new block, at elements of k cells. -/
theorem SlAt.litK {α : Type} {enc : α → List Value} {k : Nat} (hk : ∀ x, (enc x).length = k) (W : World) (t : TypeId) (xs : List α) (hm : xs.length ≤ maxLen) :
    SlAt enc k (W.alloc (.cells (cellsOf enc xs).toArray t)) (some ⟨W.heap.size, 0, none⟩) xs := by
  have hl : (cellsOf enc xs).length = xs.length * k := cellsOf_length hk xs
  have h := World.ownsRow_lit (base := 0) (e := t) (size := k) W (cellsOf enc xs).toArray xs.length (Nat.zero_le _) hm (by rw [List.size_toArray, hl])
  rw [List.toList_toArray] at h
  obtain ⟨A, c, e, _, _, h3⟩ := SlAt.of_own hk h
  injection e with e1 e2 e3
  rw [e1]
  exact h3
theorem SlAt.litAt {α : Type} {enc : α → List Value} {k : Nat} (hk : ∀ x, (enc x).length = k) (W : World) (n : Nat) (hn : W.heap.size = n) (t : TypeId) (xs : List α) (hm : xs.length ≤ maxLen) :
    SlAt enc k (W.alloc (.cells (cellsOf enc xs).toArray t)) (some ⟨n, 0, none⟩) xs := by
  subst hn
  exact SlAt.litK hk W t xs hm

end

end Go.Proofs.YtfmhhmceoikgpaaGreat
