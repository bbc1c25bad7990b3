/- Several texts in one: DotC, Sort, DotD, DotE. -/
import Derived.Test.YtiaehpdgpjhecaaGreatMAB
import Derived.Deep.RegionHeld3
import Derived.Deep.CutBlock
import Derived.Test.YtiaehpdgpjhecaaGreatShelf
import Derived.Deep.AppendLies
namespace Go.Proofs.YtiaehpdgpjhecaaGreat

section
open Go.RowKit

abbrev ltD (p q : Int × Int) : Bool := lessD p.1 p.2 q.1 q.2

/-- A set with one more dot. -/
def insD (xs : List (Int × Int)) (d : Int × Int) : List (Int × Int) := if d ∈ xs then xs else xs.takeWhile (ltD · d) ++ d :: xs.dropWhile (ltD · d)

theorem takeWhile_at {xs : List (Int × Int)} {d : Int × Int} {m : Nat} (h : ∀ j p, j < m → xs[j]? = some p → ltD p d = true) (he : ∀ p, xs[m]? = some p → ltD p d = false) :
    xs.take m = xs.takeWhile (ltD · d) ∧ xs.drop m = xs.dropWhile (ltD · d) := by
  induction xs generalizing m with
  | nil => simp
  | cons x r ih =>
    match m with
    | 0 =>
      have := he x rfl
      simp [this]
    | m + 1 =>
      have h0 := h 0 x (by omega) rfl
      obtain ⟨h1, h2⟩ := ih (m := m) (fun j p hj hp => h (j + 1) p (by omega) (by simpa using hp)) (fun p hp => he p (by simpa using hp))
      simp [h0, h1, h2]

theorem infoD : (Tryz.prog.info? 30).map (fun i => (i.zero, i.size, i.bytes)) = some (some (.agg #[.int .i64 0, .int .i64 0]), 2, 16) := by kernel_rfl
theorem encD_len : ∀ d, (encD d).length = 2 := fun _ => rfl
theorem encD_one : ∀ d, ∀ u ∈ encD d, u.oneCell' = true := fun d u hu => by
  simp [encD] at hu; rcases hu with rfl | rfl <;> rfl

/-- What the last statement of With leans on in every order. -/
def KS (w : World) (r0 c0 : Int) (W : World) : Prop :=
  W.cell? ⟨w.heap.size, 0, none⟩ = some (.int .i64 r0) ∧ W.cell? ⟨w.heap.size, 1, none⟩ = some (.int .i64 c0) ∧ Below (w.heap.size + 1) (w.alloc (.cells #[.int .i64 r0, .int .i64 c0] 30)) W
theorem KS.of {w W : World} {r0 c0 : Int} (h : Below (w.heap.size + 1) (w.alloc (.cells #[.int .i64 r0, .int .i64 c0] 30)) W) : KS w r0 c0 W :=
  ⟨(h.cell (p := ⟨w.heap.size, 0, none⟩) (by simp)).trans (by simp [World.cell?_alloc_new]), (h.cell (p := ⟨w.heap.size, 1, none⟩) (by simp)).trans (by simp [World.cell?_alloc_new]), h⟩
theorem KS.size {w W : World} {r0 c0 : Int} (h : KS w r0 c0 W) : w.heap.size + 1 ≤ W.heap.size := by have := h.2.2.size; simpa using this
theorem KS.alloc {w W : World} {r0 c0 : Int} (h : KS w r0 c0 W) (o : Obj) : KS w r0 c0 (W.alloc o) := .of (h.2.2.alloc h.size o)
theorem KS.drew {w W : World} {r0 c0 : Int} (h : KS w r0 c0 W) : KS w r0 c0 W.drew := .of h.2.2.drew
theorem KS.grown {w W W' : World} {r0 c0 : Int} (h : KS w r0 c0 W) {row : Option Nat} (hg : W.grownBy W' row) (hr : ∀ k, row = some k → w.heap.size + 1 ≤ k) : KS w r0 c0 W' := .of (h.2.2.grown hg h.size hr)
theorem KS.below {w W : World} {r0 c0 : Int} (h : KS w r0 c0 W) : Below w.heap.size w W := ((Below.refl _ w).alloc (Nat.le_refl _) _).trans (h.2.2.mono (by omega))

theorem SlAt.take {α : Type} {enc : α → List Value} {k : Nat} {w : World} {A : Option Addr} {xs : List α} (h : SlAt enc k w A xs) (m : Nat) : SlAt enc k w A (xs.take m) := fun hn => by
  obtain ⟨b, off, rfl, hb, hc⟩ := h (by simp at hn; omega)
  refine ⟨b, off, rfl, hb, fun j x hx => hc j x ?_⟩
  rw [List.getElem?_take] at hx
  split at hx
  · exact hx
  · cases hx
theorem SlAt.cut {α : Type} {enc : α → List Value} {k : Nat} {w : World} {A : Option Addr} {xs : List α} (h : SlAt enc k w A xs) (m cap : Nat) (hc : xs.length ≤ cap) : SlAt enc k w (if cap = m then A else A.map (·.add (m * k))) (xs.drop m) := fun hn => by
  obtain ⟨b, off, rfl, hb, hcell⟩ := h (by simp at hn; omega)
  have hne : ¬ cap = m := by simp at hn; omega
  rw [if_neg hne]
  refine ⟨b, off + m * k, by simp [Addr_add], hb, fun j x hx i u hu => ?_⟩
  rw [List.getElem?_drop] at hx
  have := hcell (m + j) x hx i u hu
  rw [Nat.add_mul] at this
  rw [show off + m * k + j * k + i = off + (m * k + j * k) + i by omega]
  exact this
/-- One element in a new block. -/
theorem SlAt.one {α : Type} {enc : α → List Value} {k : Nat} {w : World} {g : Nat} {x : α} {t : TypeId} (h : w.heap[g]? = some (.cells (enc x).toArray t (0, 0))) : SlAt enc k w (some ⟨g, 0, none⟩) [x] := fun _ =>
  ⟨g, 0, rfl, (Array.getElem?_eq_some_iff.1 h).1, fun j y hy i u hu => by
    match j, hy with
    | 0, hy => simp at hy; subst hy; rw [cell_of_row w g _ _ t (0, 0) h]; simpa using hu⟩

set_option maxRecDepth 100000 in
set_option maxHeartbeats 1000000 in
theorem refWith (A : Option Addr) (xs : List (Int × Int)) (cap : Nat) (r0 c0 : Int) (w : World) (hx : DotsAt w A xs) (hm : xs.length ≤ 1000000) (hc : xs.length ≤ cap) (hcm : cap ≤ maxLen) :
    Calls Tryz.prog 158 #[.slice A xs.length cap, .agg #[.int .i64 r0, .int .i64 c0]] w fun e w' =>
      (∃ A' c', e = .returned (.slice A' (insD xs (r0, c0)).length c') ∧ DotsAt w' A' (insD xs (r0, c0)) ∧ (insD xs (r0, c0)).length ≤ c' ∧ c' ≤ maxLen) ∧ Below w.heap.size w w' := by
  obtain ⟨i0, hi0, hz0, hz1, hz2⟩ := info_parts infoD
  by_cases hin : (r0, c0) ∈ xs
  · have hv : insD xs (r0, c0) = xs := by simp [insD, hin]
    rw [hv]
    have hh := fun W hW => refHas A xs cap r0 c0 W hW (by simp only [maxLen]; omega)
    simp only [hin, decide_true] at hh
    have HH := Lib.hid hh
    clear hv hin hh
    unfold maxLen at hcm
    go_enter Tryz.func158, Tryz.ntmps158
    go_wp2_with fail
    refine (HH.out _ (hx.below ((Below.refl _ w).alloc (Nat.le_refl _) _))).mono ?_
    rintro e w1 ⟨rfl, hb1⟩
    go_wp2
    go_ret
    have hbb := below_trans ((Below.refl _ w).alloc (Nat.le_refl _) _) hb1
    exact ⟨⟨A, cap, rfl, hx.below hbb, hc, hcm⟩, hbb⟩
  · have hh := fun W hW => refHas A xs cap r0 c0 W hW (by simp only [maxLen]; omega)
    simp only [hin, decide_false] at hh
    have HH := Lib.hid hh
    have hv : ∀ m, (∀ j p, j < m → xs[j]? = some p → ltD p (r0, c0) = true) → (∀ p, xs[m]? = some p → ltD p (r0, c0) = false) → insD xs (r0, c0) = xs.take m ++ (r0, c0) :: xs.drop m := fun m h1 h2 => by
      obtain ⟨e1, e2⟩ := takeWhile_at h1 h2
      simp [insD, hin, e1, e2]
    have HV := Lib.hid hv
    clear hv hin hh
    unfold maxLen at hcm
    go_enter Tryz.func158, Tryz.ntmps158
    go_wp2_with fail
    refine (HH.out _ (hx.below ((Below.refl _ w).alloc (Nat.le_refl _) _))).mono ?_
    rintro e w1 ⟨rfl, hb1⟩
    have hb0 : Below (w.heap.size + 1) (w.alloc (.cells #[.int .i64 r0, .int .i64 c0] 30)) w1 := hb1.mono (by simp)
    clear hb1
    go_upto_block 0 with fail
    go_cut [5] (fun i wx => ∃ m : Nat, m ≤ xs.length ∧ i = .int .i64 m ∧ Below (w.heap.size + 1) (w.alloc (.cells #[.int .i64 r0, .int .i64 c0] 30)) wx ∧ Hid (insD xs (r0, c0) = xs.take m ++ (r0, c0) :: xs.drop m))
    case first =>
      go_wp2
      go_loopw [5] (fun i wr => ∃ m : Nat, m ≤ xs.length ∧ i = .int .i64 m ∧ Below (w.heap.size + 1) (w.alloc (.cells #[.int .i64 r0, .int .i64 c0] 30)) wr ∧ Hid (∀ j p, j < m → xs[j]? = some p → ltD p (r0, c0) = true)) (fun i _ => xs.length - (intOf i).toNat)
      case atStart => exact ⟨0, by omega, rfl, hb0, fun j p h => by omega⟩
      case round =>
        obtain ⟨m, hk2, rfl, hb1, hs⟩ := hrel
        have hb : Below w.heap.size w wr := ((Below.refl _ w).alloc (Nat.le_refl _) _).trans (hb1.mono (by omega))
        have hz : w.heap.size + 1 ≤ wr.heap.size := by have := hb1.size; simpa using this
        have k0 := cell_far (w := wr) (a := ⟨w.heap.size, 0, none⟩) (v := .int .i64 r0) (show w.heap.size < wr.heap.size by omega) ((hb1.cell (p := ⟨w.heap.size, 0, none⟩) (by simp)).trans (by simp [World.cell?_alloc_new]))
        have k1 := cell_far (w := wr) (a := ⟨w.heap.size, 1, none⟩) (v := .int .i64 c0) (show w.heap.size < wr.heap.size by omega) ((hb1.cell (p := ⟨w.heap.size, 1, none⟩) (by simp)).trans (by simp [World.cell?_alloc_new]))
        by_cases hlt : m < xs.length
        · obtain ⟨b, off, r, c, rfl, hbl, hx1, hc0, hc1⟩ := (hx.below hb).dot (j := m) (by omega)
          have l0 := fun p => cell_far (p := p) hbl hc0
          have l1 := fun p => cell_far (p := p) hbl hc1
          clear hc0 hc1
          have HX1 := Lib.hid hx1; clear hx1
          have hr := fun W => refLess r c r0 c0 W
          cases hq : lessD r c r0 c0
          · rw [hq] at hr
            have HR := Lib.hid hr; clear hr
            have hval := HV.out m hs.out (fun p hp => by rw [HX1.out] at hp; cases hp; exact hq)
            have HVAL := Lib.hid hval; clear hval hq
            go_wp2_with fail
            refine wp_region_far (by kernel_rfl) (by kernel_rfl) ?_
            repeat (go_big_quiet_step ((go_at_call 206; exact far_of (HR.out _))))
            refine wpQuiet_nil ?_
            rintro _ ⟨p, rfl⟩
            go_wp2_with fail
            go_meet
            exact ⟨m, by omega, rfl, hb1.trans ((below_far wr p).mono hz), HVAL⟩
          · rw [hq] at hr
            have HR := Lib.hid hr; clear hr
            have HQ := Lib.hid hq; clear hq
            go_wp2_with fail
            refine wp_region_far (by kernel_rfl) (by kernel_rfl) ?_
            repeat (go_big_quiet_step ((go_at_call 206; exact far_of (HR.out _))))
            refine wpQuiet_nil ?_
            rintro _ ⟨p, rfl⟩
            go_wp2
            go_roundw
            case rel => 
              refine ⟨m + 1, by omega, by go_num, hb1.trans ((below_far wr p).mono hz), (show Hid _ from fun j p hj hp => ?_)⟩
              by_cases e : j = m
              · subst e; rw [HX1.out] at hp; cases hp; exact HQ.out
              · exact hs.out j p (by omega) hp
            case measure => simp [intOf]; omega
        · have hval := HV.out m hs.out (fun p hp => by rw [List.getElem?_eq_none (by omega)] at hp; cases hp)
          have HVAL := Lib.hid hval; clear hval
          have hd : decide ((m : Int) < (xs.length : Int)) = false := by simp; omega
          go_wp2_with fail
          refine wp_region_far (by kernel_rfl) (by kernel_rfl) ?_
          repeat (go_big_quiet_step ((fail)))
          refine wpQuiet_nil ?_
          rintro _ ⟨p, rfl⟩
          go_wp2_with fail
          go_meet
          exact ⟨m, by omega, rfl, hb1.trans ((below_far wr p).mono hz), HVAL⟩
    case rest =>
      obtain ⟨m, hk2, rfl, hb1, hval⟩ := hcut
      have hS := KS.of hb1
      have HM := Lib.hid hm
      have hm0 : (0 : Int) ≤ (m : Int) := by omega
      have hm1 : (m : Int) ≤ (xs.length : Int) := by omega
      have hm2 : (m : Int) ≤ (cap : Int) := by omega
      have hS' : wc.cell? ⟨w.heap.size, 0, none⟩ = some (.int .i64 r0) ∧ wc.cell? ⟨w.heap.size, 1, none⟩ = some (.int .i64 c0) ∧ Below (w.heap.size + 1) (w.alloc (.cells #[.int .i64 r0, .int .i64 c0] 30)) wc := hS
      go_wp2_with fail
      go_region_held3 (fun w' => w'.cell? ⟨w.heap.size, 0, none⟩ = some (.int .i64 r0) ∧ w'.cell? ⟨w.heap.size, 1, none⟩ = some (.int .i64 c0) ∧ Below (w.heap.size + 1) (w.alloc (.cells #[.int .i64 r0, .int .i64 c0] 30)) w')
        (first
          | assumption
          | (exact KS.drew (by assumption))
          | (exact KS.alloc (by assumption) _)
          | (exact KS.drew (KS.alloc (by assumption) _)))
        (first
          | (refine step_append_sl (o := ⟨some 27, _, _, _, _, _⟩) _ encD 2 (by rfl) (.const (.slice none 0 0)) (.tmp 26) 22 (by rfl) encD_len (by omega) encD_one (w.heap.size + 1) 30 i0 _ 16 Tryz.underlying22 hi0 hz0 hz1 hz2 rfl (.slice none 0 0) [] (by rfl) (World.ownsRow_nil _ _ _ _) A m cap (xs.take m) (by rfl) (by simp; omega) ((hx.below (KS.below (by assumption))).take m) (by simp [maxLen]; have := HM.out; omega) (by simp; have := HM.out; omega) (KS.size (by assumption)) ?_
             intro v1 w1 hown1 hg1 hat1
             have hS1 := KS.grown (by assumption) hg1 (by simp [Value.ownBlock]))
          | (refine step_append_sl (o := ⟨some 30, _, _, _, _, _⟩) _ encD 2 (by rfl) (.tmp 27) (.tmp 29) 22 (by rfl) encD_len (by omega) encD_one (w.heap.size + 1) 30 i0 _ 16 Tryz.underlying22 hi0 hz0 hz1 hz2 rfl v1 ([] ++ xs.take m) (by rfl) (by first | exact hown1 | exact hown1.alloc _ | exact (hown1.alloc _).drew) _ 1 _ [(r0, c0)] (by rfl) (by rfl) (by first | exact SlAt.one (heap_alloc_new w1 _) | exact SlAt.one ((hg1.block _ (by simp) (by simp [Value.ownBlock])).trans (heap_alloc_new wc _))) (by simp [maxLen]; have := HM.out; omega) (by simp; have := HM.out; omega) (KS.size (by assumption)) ?_
             intro v2 w2 hown2 hg2 hat2
             have hS2 := KS.grown (by assumption) hg2 (fun k hk => (hown1.lt k hk).1))
          | (refine step_append_sl (o := ⟨some 34, _, _, _, _, _⟩) _ encD 2 (by rfl) (.tmp 30) (.tmp 33) 22 (by rfl) encD_len (by omega) encD_one (w.heap.size + 1) 30 i0 _ 16 Tryz.underlying22 hi0 hz0 hz1 hz2 rfl v2 ([] ++ xs.take m ++ [(r0, c0)]) (by rfl) hown2 _ (xs.length - m) _ (xs.drop m) (by rfl) (by simp) ((hx.below (KS.below (by assumption))).cut m cap hc) (by simp [maxLen]; have := HM.out; omega) (by simp; have := HM.out; omega) (KS.size (by assumption)) ?_
             intro v3 w3 hown3 hg3 hat3
             have hS3 := KS.grown (by assumption) hg3 (fun k hk => (hown2.lt k hk).1)))
      all_goals
        have e : [] ++ xs.take m ++ [(r0, c0)] ++ xs.drop m = insD xs (r0, c0) := by rw [hval.out]; simp
        rw [e] at hown3
        obtain ⟨A', c', rfl, hc', hcm', hat'⟩ := SlAt.of_own encD_len hown3
        have hbb := hS3.below
        clear hS1 hS2 hS3 hown1 hown2 hown3 hg1 hg2 hg3 hat1 hat2 hat3 e hS hS' hval
        have HAT := Lib.hid hat'; clear hat'
        go_wp2
        all_goals
          go_ret
          exact ⟨⟨A', c', rfl, HAT.out, hc', hcm'⟩, hbb⟩

/-- The set of a list. -/
def setL (xs : List (Int × Int)) : List (Int × Int) := xs.foldl insD []
theorem setL_snoc (xs : List (Int × Int)) (d : Int × Int) : setL (xs ++ [d]) = insD (setL xs) d := by simp [setL, List.foldl_append]
theorem insD_len (xs : List (Int × Int)) (d : Int × Int) : (insD xs d).length ≤ xs.length + 1 := by
  unfold insD
  split
  · omega
  · have := congrArg List.length (List.takeWhile_append_dropWhile (p := (ltD · d)) (l := xs))
    simp only [List.length_append, List.length_cons] at this ⊢
    omega
theorem foldl_ins_len : ∀ (l s : List (Int × Int)), (l.foldl insD s).length ≤ s.length + l.length
  | [], s => by simp
  | d :: l, s => by
    have h1 := foldl_ins_len l (insD s d)
    have h2 := insD_len s d
    simp only [List.foldl_cons, List.length_cons]; omega
theorem setL_len (xs : List (Int × Int)) : (setL xs).length ≤ xs.length := by
  have := foldl_ins_len xs []
  simpa [setL] using this
theorem take_snoc {α : Type} {xs : List α} {m : Nat} {x : α} (h : xs[m]? = some x) : xs.take (m + 1) = xs.take m ++ [x] := by
  rw [List.take_add_one, h]; rfl

/-- What a slot holds that reads as a list of dots. -/
def Holds (w : World) (v : Value) (xs : List (Int × Int)) : Prop := ∃ A c, v = .slice A xs.length c ∧ DotsAt w A xs ∧ xs.length ≤ c ∧ c ≤ maxLen
theorem Holds.below {w w' : World} {v : Value} {xs : List (Int × Int)} (h : Holds w v xs) (hb : Below w.heap.size w w') : Holds w' v xs := by
  obtain ⟨A, c, rfl, h1, h2, h3⟩ := h
  exact ⟨A, c, rfl, h1.below hb, h2, h3⟩
theorem Holds.nil (w : World) : Holds w (.slice none 0 0) [] := ⟨none, 0, rfl, SlAt.nil, by simp, by simp [maxLen]⟩

theorem refWith_h (v : Value) (xs : List (Int × Int)) (r0 c0 : Int) (w : World) (h : Holds w v xs) (hm : xs.length ≤ 1000000) :
    Calls Tryz.prog 158 #[v, .agg #[.int .i64 r0, .int .i64 c0]] w fun e w' => (∃ v', e = .returned v' ∧ Holds w' v' (insD xs (r0, c0))) ∧ Below w.heap.size w w' := by
  obtain ⟨A, c, rfl, h1, h2, h3⟩ := h
  exact (refWith A xs c r0 c0 w h1 hm h2 h3).mono fun e w' ⟨⟨A', c', h1, h2, h3, h4⟩, hb⟩ => ⟨⟨_, h1, A', c', rfl, h2, h3, h4⟩, hb⟩

set_option maxHeartbeats 1000000 in
theorem refUnion (A B : Option Addr) (xs ys : List (Int × Int)) (cap cap' : Nat) (w : World) (hx : DotsAt w A xs) (hy : DotsAt w B ys) (hm : xs.length + ys.length ≤ 100000) :
    Calls Tryz.prog 152 #[.slice A xs.length cap, .slice B ys.length cap'] w fun e w' => (∃ v, e = .returned v ∧ Holds w' v (setL (xs ++ ys))) ∧ Below w.heap.size w w' := by
  go_enter Tryz.func152, Tryz.ntmps152
  go_wp2
  go_loopw [5, 6] (fun v i wr => ∃ m : Nat, m ≤ xs.length ∧ i = .int .i64 m ∧ Below w.heap.size w wr ∧ Holds wr v (setL (xs.take m))) (fun _ i _ => xs.length - (intOf i).toNat)
  case atStart => exact ⟨0, by omega, rfl, Below.refl _ _, Holds.nil _⟩
  case round =>
    obtain ⟨m, hk2, rfl, hb, hs⟩ := hrel
    by_cases hlt : m < xs.length
    · obtain ⟨b, off, r, c, rfl, hbl, hx1, hc0, hc1⟩ := (hx.below hb).dot (j := m) (by omega)
      have hl := setL_len (xs.take m)
      have hl2 : (xs.take m).length ≤ m := List.length_take_le _ _
      have HX1 := Lib.hid hx1; clear hx1
      go_wp2_with (go_at_call 158; refine (refWith_h _ (setL (xs.take m)) _ _ _ hs (by omega)).mono ?_; rintro e w1 ⟨⟨v', rfl, hs'⟩, hb1⟩)
      go_roundw
      case rel => exact ⟨m + 1, by omega, by go_num, hb.trans (hb1.mono hb.size), by rw [take_snoc HX1.out, setL_snoc]; exact hs'⟩
      case measure => simp [intOf]; omega
    · have hmx : xs.take m = xs := List.take_of_length_le (by omega)
      rw [hmx] at hs
      clear hmx
      go_wp2
      go_loopw [5, 7] (fun v i wr => ∃ m : Nat, m ≤ ys.length ∧ i = .int .i64 m ∧ Below w.heap.size w wr ∧ Holds wr v (setL (xs ++ ys.take m))) (fun _ i _ => ys.length - (intOf i).toNat)
      case atStart => exact ⟨0, by omega, rfl, hb, by simpa using hs⟩
      case round =>
        obtain ⟨n, hn2, rfl, hb', hs'⟩ := hrel
        by_cases hlt' : n < ys.length
        · obtain ⟨b, off, r, c, rfl, hbl, hx1, hc0, hc1⟩ := (hy.below hb').dot (j := n) (by omega)
          have hl := setL_len (xs ++ ys.take n)
          have hl2 : (xs ++ ys.take n).length ≤ xs.length + n := by simp; omega
          have HX1 := Lib.hid hx1; clear hx1
          go_wp2_with (go_at_call 158; refine (refWith_h _ (setL (xs ++ ys.take n)) _ _ _ hs' (by omega)).mono ?_; rintro e w1 ⟨⟨v', rfl, hs2⟩, hb1⟩)
          go_roundw
          case rel => exact ⟨n + 1, by omega, by go_num, hb'.trans (hb1.mono hb'.size), by rw [take_snoc HX1.out, ← List.append_assoc, setL_snoc]; exact hs2⟩
          case measure => simp [intOf]; omega
        · have hmx : ys.take n = ys := List.take_of_length_le (by omega)
          rw [hmx] at hs'
          clear hmx
          have HS := Lib.hid hs'; clear hs'
          go_wp2
          go_ret
          exact ⟨⟨_, rfl, HS.out⟩, hb'⟩

end

section
open Go.RowKit Go.Sort

section
variable {α : Type} [Inhabited α] {enc : α → List Value} {k : Nat}

theorem flatK_cells (hk : ∀ x, (enc x).length = k) (hk0 : 0 < k) (d : Array α) : (flatK enc k d).toList = cellsOf enc d.toList := by
  apply List.ext_getElem?
  intro t
  by_cases ht : t < d.size * k
  · have h1 : (flatK enc k d)[t]! = (enc d[t / k]!)[t % k]! := get_flatK enc k d t ht
    have hs : t < (flatK enc k d).size := by rw [size_flatK]; exact ht
    have hd : t / k < d.size := (Nat.div_lt_iff_lt_mul hk0).2 ht
    have hm : t % k < k := Nat.mod_lt _ hk0
    have h2 : (cellsOf enc d.toList)[t / k * k + t % k]? = some ((enc d[t / k]!)[t % k]!) := by
      refine cellsOf_at hk d.toList (t / k) d[t / k]! (t % k) _ (by simp [hd]) ?_
      have : t % k < (enc d[t / k]!).length := by rw [hk]; exact hm
      rw [List.getElem?_eq_getElem this]; simp [this]
    rw [Nat.div_add_mod'] at h2
    rw [h2, Array.getElem?_toList, Array.getElem?_eq_getElem hs]
    rw [getElem!_pos (flatK enc k d) t hs] at h1
    rw [h1]
  · rw [List.getElem?_eq_none (by simp; omega), List.getElem?_eq_none (by rw [cellsOf_length hk]; simp; omega)]

theorem holdsK_of_own (hk : ∀ x, (enc x).length = k) (hk0 : 0 < k) {w : World} {base g n cap : Nat} {e : TypeId} {xs : List α} (h : w.ownsRow base e k (.slice (some ⟨g, 0, none⟩) n cap) xs.length (cellsOf enc xs)) :
    HoldsK enc k w g 0 xs.toArray := by
  intro t ht
  have hrow := h.cells (g := g) rfl
  have hf : w.frozen? ⟨g, 0 + t, none⟩ = false := by
    rcases h.2 with ⟨h0, _⟩ | ⟨g', cap', cur, hv, _, hg, _⟩
    · cases h0
    · cases hv; simp [World.frozen?, hg]
  refine ⟨?_, hf⟩
  have hl : (flatK enc k xs.toArray).toList = cellsOf enc xs := by rw [flatK_cells hk hk0]
  have h1 : (cellsOf enc xs)[t]? = some (flatK enc k xs.toArray)[t]! := by
    rw [← hl, Array.getElem?_toList, Array.getElem?_eq_getElem ht, getElem!_pos (flatK enc k xs.toArray) t ht]
  have := hrow t _ h1
  rw [Addr_add] at this
  simpa using this

theorem own_of_sort (hk : ∀ x, (enc x).length = k) (hk0 : 0 < k) {w : World} {base g n cap m : Nat} {e : TypeId} {xs : List α} {d : Array α} {os : Array Obj} (h : w.ownsRow base e k (.slice (some ⟨g, 0, none⟩) n cap) xs.length (cellsOf enc xs)) (hd : d.size = xs.length) :
    (sortWorldK enc k w g 0 m d os).ownsRow base e k (.slice (some ⟨g, 0, none⟩) n cap) d.toList.length (cellsOf enc d.toList) ∧ w.grownBy (sortWorldK enc k w g 0 m d os) (some g) := by
  have hlen := h.1
  rcases h.2 with ⟨h0, _⟩ | ⟨g', cap', cur, hv, hb, hg, hn, hc, hs, ht⟩
  · cases h0
  · cases hv
    have hgl : g < w.heap.size := (Array.getElem?_eq_some_iff.1 hg).1
    have hsz : d.size * k ≤ cur.size := by rw [hs, hd]; exact Nat.mul_le_mul_right k hn
    constructor
    · refine ⟨cellsOf_length hk _, .inr ⟨g, cap, putCells id 0 (flatK enc k d) cur, by simp [hd], hb, ?_, by simp [hd]; exact hn, hc, by simpa [putCells] using hs, ?_⟩⟩
      · unfold sortWorldK
        rw [heap_grow_old _ _ (by simpa [putRowK, putRow, mapBlock] using hgl)]
        simp only [putRowK, putRow, mapBlock, Array.getElem?_modify]
        rw [if_pos trivial]
        show Option.map _ w.heap[g]? = _
        rw [hg]; rfl
      · rw [← flatK_cells hk hk0]
        apply List.ext_getElem?
        intro t
        rw [List.getElem?_take]
        by_cases hlt : t < d.size * k
        · rw [if_pos (by simpa using hlt)]
          have h1 : t < cur.size := by omega
          have h2 : t < (flatK enc k d).size := by simpa using hlt
          simp only [putCells, Array.getElem?_toList, Array.getElem?_mapIdx, Array.getElem?_eq_getElem h1, Option.map_some, Array.getElem?_eq_getElem h2, size_flatK]
          rw [if_pos ⟨Nat.zero_le _, by omega⟩, Nat.sub_zero, getElem!_pos (flatK enc k d) t h2]
          rfl
        · rw [if_neg (by simpa using hlt), List.getElem?_eq_none (by simp; omega)]
    · refine ⟨rfl, rfl, rfl, by simp [sortWorldK, putRowK, putRow, mapBlock], fun j hj hne => ?_⟩
      unfold sortWorldK
      rw [heap_grow_old _ _ (by simpa [putRowK, putRow, mapBlock] using hj)]
      simp only [putRowK, putRow, mapBlock, Array.getElem?_modify]
      rw [if_neg (by rintro rfl; exact hne rfl)]
      rfl
end

end

section
open Go.RowKit Go.Sort

theorem ltOf_cmpD : (ltOf fun p q : Int × Int => cmpD p.1 p.2 q.1 q.2) = ltD := by
  funext p q
  simp only [ltOf, cmpD, ltD]
  by_cases h : lessD p.1 p.2 q.1 q.2 = true
  · simp [h]
  · have h' : lessD p.1 p.2 q.1 q.2 = false := by simpa using h
    by_cases h2 : lessD q.1 q.2 p.1 p.2 = true <;> simp [h', h2]

theorem lessD_iff (a b c d : Int) : lessD a b c d = true ↔ (b < d ∨ b = d ∧ a < c) := by simp [lessD]
theorem swoD : SWO ltD where
  irrefl x := by simp [ltD, lessD]
  trans x y z h1 h2 := by rw [ltD, lessD_iff] at *; omega
  ntrans x y z h1 h2 := by
    rw [← Bool.not_eq_true, ltD, lessD_iff] at *; omega
theorem ltD_total (x y : Int × Int) (h1 : ltD x y = false) (h2 : ltD y x = false) : x = y := by
  rw [← Bool.not_eq_true, ltD, lessD_iff] at *
  apply Prod.ext <;> omega

/-- A list in order, equal ones side by side. -/
def sortedL (xs : List (Int × Int)) : List (Int × Int) := xs.mergeSort fun x y => !ltD y x

theorem cmpLays (blk off size : Nat) (w : World) : CmpLays Tryz.prog 115 #[] encD 2 (fun p q : Int × Int => cmpD p.1 p.2 q.1 q.2) blk off size w :=
  fun _ _ _ _ x y => dotCompareG x.1 x.2 y.1 y.2 _

theorem sortFunc (v : Value) (base : Nat) (xs : List (Int × Int)) (w : World) (h : w.ownsRow base 30 2 v xs.length (cellsOf encD xs)) (hm : xs.length ≤ 1000000) :
    Calls Tryz.prog 190 #[v, .func (.func 115) #[] #[]] w fun e w' => e = .returned (.tuple #[]) ∧ w'.ownsRow base 30 2 v (sortedL xs).length (cellsOf encD (sortedL xs)) ∧ w.grownBy w' v.ownBlock := by
  rcases Nat.eq_zero_or_pos xs.length with h0 | h0
  · have hn : xs = [] := List.eq_nil_of_length_eq_zero h0
    subst hn
    obtain ⟨A, c, rfl, _⟩ := SlAt.of_own encD_len h
    have hc := AnyF.slices_SortFunc_none (P := Tryz.prog) (ρ := Tryz.sortDots_ren) { Tryz.sortDots with } A c (.func (.func 115) #[] #[]) w
    refine Calls.mono (show Calls Tryz.prog 190 _ _ _ from hc) ?_
    rintro e w' ⟨he, rfl⟩
    exact ⟨he, by simpa [sortedL] using h, World.grownBy.refl _ _⟩
  · obtain ⟨g, cap, rfl, hb, hg⟩ := h.form h0
    have eg : ∀ args w, (callFunc 115 args).run Tryz.prog w = .ok (.enter 115 args) w := enters_of Tryz.func115 (by kernel_rfl) rfl
    have hc := AnyQ.slices_SortFunc_total Tryz.sortDots 2 Tryz.isAgg30 Tryz.sizeOf30 encD encD_len encD_one (fun p q : Int × Int => cmpD p.1 p.2 q.1 q.2) (by rw [ltOf_cmpD]; exact swoD) 115 #[] g 0 cap xs.toArray w eg (cmpLays g 0 _ w) (holdsK_of_own encD_len (by omega) h) hg (by simp; omega) (by rw [ltOf_cmpD]; exact ltD_total)
    have hc' : Calls Tryz.prog 190 #[.slice (some ⟨g, 0, none⟩) xs.length cap, .func (.func 115) #[] #[]] w _ := hc
    refine hc'.mono ?_
    rintro e w' ⟨he, n, os, rfl⟩
    obtain ⟨h1, h2⟩ := own_of_sort (m := n) (os := os) (d := (xs.toArray.toList.mergeSort fun x y => !(ltOf fun p q : Int × Int => cmpD p.1 p.2 q.1 q.2) y x).toArray) encD_len (by omega) h (by simp)
    refine ⟨he, ?_, h2⟩
    rw [ltOf_cmpD] at h1 ⊢
    exact h1

end

section
open Go.RowKit

/-- Of equal ones side by side one is left. -/
def dd : List (Int × Int) → List (Int × Int)
  | [] => []
  | [x] => [x]
  | x :: y :: r => if x = y then dd (y :: r) else x :: dd (y :: r)
theorem dd_head : ∀ (x : Int × Int) (r : List (Int × Int)), ∃ t, dd (x :: r) = x :: t
  | x, [] => ⟨[], rfl⟩
  | x, y :: r => by
    rw [dd]
    split
    · rename_i h; subst h; exact dd_head x r
    · exact ⟨_, rfl⟩
theorem dd_snoc : ∀ (l : List (Int × Int)) (y x : Int × Int), dd (l ++ [y, x]) = if y = x then dd (l ++ [y]) else dd (l ++ [y]) ++ [x]
  | [], y, x => by
    simp only [List.nil_append, dd]
    split
    · rename_i h; rw [h]
    · rfl
  | [a], y, x => by
    have h := dd_snoc [] y x
    simp only [List.nil_append] at h
    simp only [List.cons_append, List.nil_append]
    rw [dd, h]
    by_cases h1 : a = y <;> by_cases h2 : y = x <;> simp [h1, h2, dd]
  | a :: b :: l, y, x => by
    have h := dd_snoc (b :: l) y x
    simp only [List.cons_append] at h ⊢
    rw [dd, h, dd]
    by_cases h1 : a = b <;> by_cases h2 : y = x <;> simp [h1, h2]
theorem dd_same : ∀ (xs : List (Int × Int)), (∀ j p q, xs[j]? = some p → xs[j + 1]? = some q → p ≠ q) → dd xs = xs
  | [], _ => rfl
  | [_], _ => rfl
  | x :: y :: r, h => by
    rw [dd, if_neg (h 0 x y rfl rfl), dd_same (y :: r) (fun j p q h1 h2 => h (j + 1) p q (by simpa using h1) (by simpa using h2))]
theorem dd_len : ∀ (xs : List (Int × Int)), (dd xs).length ≤ xs.length
  | [] => by simp [dd]
  | [_] => by simp [dd]
  | x :: y :: r => by
    have := dd_len (y :: r)
    rw [dd]
    split <;> simp at this ⊢ <;> omega

theorem dd_step {xs : List (Int × Int)} {m : Nat} {y x : Int × Int} (hy : xs[m]? = some y) (hx : xs[m + 1]? = some x) : dd (xs.take (m + 2)) = if y = x then dd (xs.take (m + 1)) else dd (xs.take (m + 1)) ++ [x] := by
  rw [take_snoc hx, take_snoc hy, List.append_assoc]
  exact dd_snoc (xs.take m) y x

/-- The cells of an element of a row of the call's own. -/
theorem own_dot {w : World} {base g n cap : Nat} {e : TypeId} {ys : List (Int × Int)} (h : w.ownsRow base e 2 (.slice (some ⟨g, 0, none⟩) n cap) n (cellsOf encD ys)) {j : Nat} {r c : Int} (hj : ys[j]? = some (r, c)) :
    w.cell? ⟨g, j * 2, none⟩ = some (.int .i64 r) ∧ w.cell? ⟨g, j * 2 + 1, none⟩ = some (.int .i64 c) ∧ w.frozen? ⟨g, j * 2, none⟩ = false ∧ w.frozen? ⟨g, j * 2 + 1, none⟩ = false := by
  have h0 := h.cells (g := g) rfl (j * 2) _ (cellsOf_at encD_len ys j (r, c) 0 _ hj rfl)
  have h1 := h.cells (g := g) rfl (j * 2 + 1) _ (cellsOf_at encD_len ys j (r, c) 1 _ hj rfl)
  rw [Addr_add] at h0 h1
  exact ⟨by simpa using h0, by simpa using h1, h.frozenAt _, h.frozenAt _⟩

theorem cells_setD (ys : List (Int × Int)) (j : Nat) (r c : Int) (hj : j < ys.length) : ((cellsOf encD ys).set (j * 2) (.int .i64 r)).set (j * 2 + 1) (.int .i64 c) = cellsOf encD (ys.set j (r, c)) := by
  induction ys generalizing j with
  | nil => simp at hj
  | cons y l ih =>
    match j with
    | 0 => simp [cellsOf, encD]
    | j + 1 =>
      have := ih j (by simpa using hj)
      simp only [cellsOf, encD, List.flatMap_cons, List.set_cons_succ, List.cons_append, List.nil_append] at this ⊢
      rw [show (j + 1) * 2 = j * 2 + 1 + 1 by omega, show j * 2 + 1 + 1 + 1 = (j * 2 + 1) + 1 + 1 by omega]
      simp only [List.set_cons_succ]
      rw [this]

/-- One element is stored. -/
theorem own_store {w : World} {base g n cap : Nat} {e : TypeId} {ys : List (Int × Int)} (h : w.ownsRow base e 2 (.slice (some ⟨g, 0, none⟩) n cap) n (cellsOf encD ys)) {j : Nat} {r c : Int} (hj : j < ys.length) :
    ((w.setCell ⟨g, j * 2, none⟩ (.int .i64 r)).setCell ⟨g, j * 2 + 1, none⟩ (.int .i64 c)).ownsRow base e 2 (.slice (some ⟨g, 0, none⟩) n cap) n (cellsOf encD (ys.set j (r, c))) ∧
    w.grownBy ((w.setCell ⟨g, j * 2, none⟩ (.int .i64 r)).setCell ⟨g, j * 2 + 1, none⟩ (.int .i64 c)) (some g) := by
  obtain ⟨h1, g1⟩ := h.stored (j * 2) (.int .i64 r)
  obtain ⟨h2, g2⟩ := h1.stored (j * 2 + 1) (.int .i64 c)
  rw [cells_setD ys j r c hj] at h2
  exact ⟨h2, ⟨g2.os.trans g1.os, g2.tape.trans g1.tape, g2.output.trans g1.output, Nat.le_trans g1.size g2.size, fun i hi hne => (g2.block i (Nat.lt_of_lt_of_le hi g1.size) hne).trans (g1.block i hi hne)⟩⟩

/-- 'clear(s[m:])', s a row of the call's own. -/
theorem run_clear_own {P : Program} {w : World} {base g n cap m k : Nat} {e t : TypeId} {cs : List Value} {z : Value} (ht : P.underlying t = some (.slice e)) (hv : ∀ w, (zeroValue e).run P w = .ok z w) (hz : z.cells.size = k) (h1 : ∀ u ∈ z.cells.toList, u.oneCell' = true)
    (h : w.ownsRow base e k (.slice (some ⟨g, 0, none⟩) n cap) n cs) (hm : m < n) (c : Nat) :
    ∃ w', (∀ ty, (Builtin.clear_ #[t] ty #[.slice (some ⟨g, m * k, none⟩) (n - m) c]).run P w = .ok (.tuple #[]) w') ∧ w'.ownsRow base e k (.slice (some ⟨g, 0, none⟩) m cap) m (cs.take (m * k)) ∧ w.grownBy w' (some g) := by
  have hlen := h.1
  rcases h.2 with ⟨h0, _⟩ | ⟨g', cap', cur, hv', hb, hg, hn, hc, hs, htk⟩
  · cases h0
  · cases hv'
    have hzl : (Builtin.zeroCells z.cells (n - m)).toList.length = (n - m) * k := by simp [Builtin.zeroCells, hz]
    have hle : m * k + (n - m) * k ≤ cur.size := by
      rw [← Nat.add_mul, hs]; exact Nat.mul_le_mul_right k (by omega)
    have hmk : m * k ≤ n * k := Nat.mul_le_mul_right k (by omega)
    have hst := run_storeCells_at P g (m * k) e (Builtin.zeroCells z.cells (n - m)).toList 0 cur w hg (by simp only [Nat.add_zero]; rw [hzl]; exact hle) (by
      intro u hu
      simp only [Builtin.zeroCells, Array.toList_map, List.mem_map] at hu
      obtain ⟨i, hi, rfl⟩ := hu
      have hi' : i < (n - m) * z.cells.size := by simpa using hi
      have hk0 : 0 < z.cells.size := by
        rcases Nat.eq_zero_or_pos z.cells.size with h | h
        · rw [h] at hi'; omega
        · exact h
      refine h1 _ ?_
      rw [getElem!_pos z.cells _ (Nat.mod_lt _ hk0)]
      exact Array.getElem_mem_toList _)
    have hcs : (cur.toList.take (m * k + 0) ++ (Builtin.zeroCells z.cells (n - m)).toList ++ cur.toList.drop (m * k + 0 + (Builtin.zeroCells z.cells (n - m)).toList.length)).length = cur.size := by
      simp only [List.length_append, List.length_take, List.length_drop, hzl, Array.length_toList]; omega
    generalize hZ : (Builtin.zeroCells z.cells (n - m)).toList = Z at *
    refine ⟨w.setRow g (cur.toList.take (m * k + 0) ++ Z ++ cur.toList.drop (m * k + 0 + Z.length)).toArray, ?_, ⟨?_, .inr ⟨g, cap, _, rfl, hb, setRow_heap w g cur _ e (0, 0) hg, by omega, hc, ?_, ?_⟩⟩, ?_⟩
    · intro ty
      obtain ⟨q, hq⟩ : ∃ q, n - m = q + 1 := ⟨n - m - 1, by omega⟩
      rw [hq] at hZ ⊢
      simp only [Builtin.clear_]
      simp [run_underlying ht, hv, hZ, hst]
    · rw [List.length_take, hlen]; omega
    · rw [← hs, List.size_toArray, hcs]
    · rw [← htk, List.take_take, Nat.min_eq_left hmk]
      show List.take (m * k) (cur.toList.take (m * k + 0) ++ Z ++ _) = _
      rw [List.append_assoc, List.take_append_of_le_length (by simp; omega), List.take_take, Nat.add_zero, Nat.min_self]
    · refine ⟨rfl, rfl, rfl, by simp [World.setRow], fun i hi hne => ?_⟩
      simp only [World.setRow, Array.getElem?_modify]
      rw [if_neg (by rintro rfl; exact hne rfl)]

end

end Go.Proofs.YtiaehpdgpjhecaaGreat
