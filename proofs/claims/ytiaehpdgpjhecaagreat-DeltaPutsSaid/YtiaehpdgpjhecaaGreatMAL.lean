/- Several texts in one: CtxB, CtxC, VecC, VecD, VecE. -/
import Derived.Test.YtiaehpdgpjhecaaGreatMAK
import Derived.Test.YtiaehpdgpjhecaaGreatMAF
import Derived.Test.YtiaehpdgpjhecaaGreatMAC
import Derived.Maps.Own
import Derived.Maps.OwnOps
import Derived.Maps.OwnSet
import Derived.Maps.RangeWalk
import Derived.Maps.Views
import Derived.OwnWalk
import Derived.Test.YtiaehpdgpjhecaaGreatShelf
import Derived.Deep.AppendLies
import Derived.Sort.OwnSorted
import Derived.Lib.SmallJoins
namespace Go.Proofs.YtiaehpdgpjhecaaGreat

section
open Go.RowKit

/-- As the reference reckons it, in 64 bits. -/
def goesW (v : List (Int × Int)) (d : Int × Int) : Bool := hasV v d.1 d.2 || (d.2 == wrap64 (getV v d.1 + 1))
theorem getV_top {v : List (Int × Int)} (h : validV v = true) (r : Int) : 0 ≤ getV v r ∧ getV v r ≤ 4294967295 := by
  have h0 := getV_nonneg ((validV_iff v).1 h).1 r
  by_cases e : getV v r = 0
  · omega
  · have hd := ((validV_iff v).1 h).1 _ (getV_of_pos e)
    simp [validD] at hd
    omega
theorem goesW_eq {v : List (Int × Int)} (h : validV v = true) (d : Int × Int) : goesW v d = goesC v d := by
  unfold goesW goesC
  have := getV_top h d.1
  rw [show wrap64 (getV v d.1 + 1) = getV v d.1 + 1 by unfold wrap64; omega]
theorem compC_no {vs ls : List (Int × Int)} {d : Int × Int} (hd : d ∈ ls) (hg : goesW vs d = true) : compC vs ls = false := by
  cases e : compC vs ls
  · rfl
  · obtain ⟨h1, h2⟩ := compC_iff.1 e
    have := h1 d hd
    rw [← goesW_eq (validC_iff.1 h2).1, hg] at this; cases this
theorem compC_all {vs ls : List (Int × Int)} (h : ∀ d ∈ ls, goesW vs d = false) : compC vs ls = validC vs ls := by
  cases e : validC vs ls
  · unfold compC; rw [e, Bool.and_false]
  · exact compC_iff.2 ⟨fun d hd => by rw [← goesW_eq (validC_iff.1 e).1]; exact h d hd, e⟩

theorem KX.drop2 {w0 W : World} {a b : Addr × Value} {C : List (Addr × Value)} {L : List (Value × List (Int × Int))} (h : KX w0 (a :: b :: C) L W) : KX w0 C L W := ⟨fun p hp => h.1 p (by simp [hp]), h.2.1, h.2.2⟩

set_option maxRecDepth 100000 in
set_option maxHeartbeats 2000000 in
theorem ref3IsCompact (v : Value) (vs ls : List (Int × Int)) (b : Bool) (w : World) (h : HoldsC w v vs ls) (hb : compC vs ls = b) :
    Calls Tryz.prog 98 #[v] w fun e w' => e = .returned (.bool b) ∧ Below w.heap.size w w' := by
  obtain ⟨A, n, B, m0, rfl, h1, h2⟩ := h
  have LA : vs.length ≤ maxLen := by obtain ⟨_, _, h, _, h2, h3⟩ := h1; omega
  have LB : ls.length ≤ maxLen := by obtain ⟨_, _, h, _, h2, h3⟩ := h2; omega
  have K := Lib.hid ((((KX.nil w).push h1).push h2).box (.slice A vs.length n) (.slice B ls.length m0) 25)
  have LA2 := Lib.hid LA
  unfold maxLen at LA LB
  have HB := Lib.hid hb
  clear h1 h2 hb
  go_enter Tryz.func98, Tryz.ntmps98
  go_wp2_with fail
  go_loopw [3] (fun i wr => ∃ m : Nat, m ≤ ls.length ∧ i = .int .i64 m ∧ Hid (KX w [(⟨w.heap.size, 0, none⟩, .slice A vs.length n), (⟨w.heap.size, 1, none⟩, .slice B ls.length m0)] [(.slice B ls.length m0, ls), (.slice A vs.length n, vs)] wr) ∧ Hid (∀ j p, j < m → ls[j]? = some p → goesW vs p = false)) (fun i _ => ls.length - (intOf i).toNat)
  case atStart => exact ⟨0, by omega, rfl, K, fun j p h => by omega⟩
  case round =>
    obtain ⟨m, hk2, rfl, hK, hs⟩ := hrel
    have c0 := hK.out.cell (a := ⟨w.heap.size, 0, none⟩) (v := .slice A vs.length n) (by simp)
    have c1 := hK.out.cell (a := ⟨w.heap.size, 1, none⟩) (v := .slice B ls.length m0) (by simp)
    by_cases hlt : m < ls.length
    · have hx : DotsAt wr B ls := by
        obtain ⟨A', c', e, h, _⟩ := hK.out.h (v := .slice B ls.length m0) (xs := ls) (by simp)
        cases e; exact h
      obtain ⟨bb, off, r, c, rfl, hbl, hx1, hc0, hc1⟩ := hx.dot (j := m) hlt
      have hva : DotsAt wr A vs := by
        obtain ⟨A', c', e, h, _⟩ := hK.out.h (v := .slice A vs.length n) (xs := vs) (by simp)
        cases e; exact h
      have KW := hK.out.box (.int .i64 r) (.int .i64 c) 30
      have hal : Below wr.heap.size wr (wr.alloc (.cells #[.int .i64 r, .int .i64 c] 30)) := (Below.refl _ wr).alloc (Nat.le_refl _) _
      have l0 := fun p => (KW.far p).cell (a := ⟨w.heap.size, 0, none⟩) (v := .slice A vs.length n) (by simp)
      have l2 := fun p => (KW.far p).cell (a := ⟨wr.heap.size, 0, none⟩) (v := .int .i64 r) (by simp)
      have l3 := fun p => (KW.far p).cell (a := ⟨wr.heap.size, 1, none⟩) (v := .int .i64 c) (by simp)
      have HH := fun p => ref2Has A vs n r c _ ((hva.below hal).far p) LA2.out
      have HG := fun p => ref2Get A vs n r _ ((hva.below hal).far p) LA2.out
      have HK := Lib.hid KW
      clear KW hx hva hal
      obtain ⟨bh, hbh⟩ : ∃ bh, hasV vs r c = bh := ⟨_, rfl⟩
      obtain ⟨g, hg⟩ : ∃ g, getV vs r = g := ⟨_, rfl⟩
      simp only [hbh] at HH
      simp only [hg] at HG
      have hgo : goesW vs (r, c) = (bh || (c == wrap64 (g + 1))) := by unfold goesW; rw [hbh, hg]
      have HH := Lib.hid HH
      have HG := Lib.hid HG
      cases bh with
      | true =>
        have HN := Lib.hid (show b = false from by rw [← HB.out]; exact compC_no (List.mem_of_getElem? hx1) (by rw [hgo]; rfl))
        clear hbh hg hgo hx1
        go_wp2_with fail
        generalize wr.alloc (.cells #[.int .i64 r, .int .i64 c] 30) = W at *
        refine wp_region_far (by kernel_rfl) (by kernel_rfl) ?_
        repeat (go_big_quiet_step ((first | (go_at_call 104; exact far_of (HH.out _)) | (go_at_call 153; exact far_of (HG.out _)))))
        refine wpQuiet_nil ?_
        rintro _ ⟨p, rfl⟩
        go_wp2
        go_ret
        exact ⟨ret_bool HN.out.symm, (HK.out.far p).bel⟩
      | false =>
        cases hn : (c == wrap64 (g + 1)) with
        | true =>
          have HN := Lib.hid (show b = false from by rw [← HB.out]; exact compC_no (List.mem_of_getElem? hx1) (by rw [hgo, hn]; rfl))
          clear hbh hg hgo hx1
          go_wp2_with fail
          generalize wr.alloc (.cells #[.int .i64 r, .int .i64 c] 30) = W at *
          refine wp_region_far (by kernel_rfl) (by kernel_rfl) ?_
          repeat (go_big_quiet_step ((first | (go_at_call 104; exact far_of (HH.out _)) | (go_at_call 153; exact far_of (HG.out _)))))
          refine wpQuiet_nil ?_
          rintro _ ⟨p, rfl⟩
          go_wp2
          go_ret
          exact ⟨ret_bool HN.out.symm, (HK.out.far p).bel⟩
        | false =>
          have hn2 : ¬ c = wrap64 (g + 1) := by simpa using hn
          have HN := Lib.hid (show ∀ j p, j < m + 1 → ls[j]? = some p → goesW vs p = false from fun j p hj hp => by
            by_cases e : j = m
            · subst e; rw [hx1] at hp; cases hp; rw [hgo, hn]; rfl
            · exact hs.out j p (by omega) hp)
          clear hbh hg hgo hx1
          go_wp2_with fail
          generalize hW : wr.alloc (.cells #[.int .i64 r, .int .i64 c] 30) = W at *
          refine wp_region_far (by kernel_rfl) (by kernel_rfl) ?_
          repeat (go_big_quiet_step ((first | (go_at_call 104; exact far_of (HH.out _)) | (go_at_call 153; exact far_of (HG.out _)))))
          refine wpQuiet_nil ?_
          rintro _ ⟨p, rfl⟩
          have KF := Lib.hid ((HK.out.far p).drop2)
          go_wp2
          go_roundw
          case rel => exact ⟨m + 1, by omega, by go_num, KF, HN⟩
          case measure => simp [intOf]; omega
    · have hall := Lib.hid (show compC vs ls = validC vs ls from compC_all fun d hd => by
        obtain ⟨j, hj⟩ := List.mem_iff_getElem?.1 hd
        have hl := (List.getElem?_eq_some_iff.1 hj).1
        exact hs.out j d (by omega) hj)
      have HV := Lib.hid (ref3Valid _ vs ls b wr (HoldsC.mk (hK.out.h (v := .slice A vs.length n) (xs := vs) (by simp)) (hK.out.h (v := .slice B ls.length m0) (xs := ls) (by simp))) (by rw [← hall.out]; exact HB.out))
      go_wp2_with fail
      refine HV.out.mono ?_
      rintro e w1 ⟨rfl, hb1⟩
      have K2 := Lib.hid (hK.out.below hb1)
      clear hb1
      go_wp2
      go_ret
      exact ⟨rfl, K2.out.bel⟩

end

section
open Go.RowKit

theorem ref2Has_h3 (v : Value) (xs : List (Int × Int)) (r q : Int) (b : Bool) (w : World) (h : Holds w v xs) (hb : hasV xs r q = b) :
    Calls Tryz.prog 104 #[v, .agg #[.int .i64 r, .int .i64 q]] w fun e w' => e = .returned (.bool b) ∧ Below w.heap.size w w' := by
  obtain ⟨A, c, rfl, h1, h2, h3⟩ := h
  subst hb
  exact ref2Has A xs c r q w h1 (Nat.le_trans h2 h3)
theorem refHas_h3 (v : Value) (xs : List (Int × Int)) (r c : Int) (b : Bool) (w : World) (h : Holds w v xs) (hb : decide ((r, c) ∈ xs) = b) :
    Calls Tryz.prog 105 #[v, .agg #[.int .i64 r, .int .i64 c]] w fun e w' => e = .returned (.bool b) ∧ Below w.heap.size w w' := by
  obtain ⟨A, n, rfl, h1, h2, h3⟩ := h
  subst hb
  exact refHas A xs n r c w h1 (Nat.le_trans h2 h3)

set_option maxRecDepth 100000 in
set_option maxHeartbeats 2000000 in
theorem ref3Has (v : Value) (vs ls : List (Int × Int)) (r c : Int) (b : Bool) (w : World) (h : HoldsC w v vs ls) (hb : hasC vs ls r c = b) :
    Calls Tryz.prog 54 #[v, .agg #[.int .i64 r, .int .i64 c]] w fun e w' => e = .returned (.bool b) ∧ Below w.heap.size w w' := by
  obtain ⟨A, n, B, m, rfl, h1, h2⟩ := h
  have K := ((((KX.nil w).push h1).push h2).box (.slice A vs.length n) (.slice B ls.length m) 25).box (.int .i64 r) (.int .i64 c) 30
  rw [World.size_alloc] at K
  have K := Lib.hid K
  clear h1 h2
  have VD := fun W => refValid r c W
  unfold hasC at hb
  cases hd : validD r c with
  | false =>
    rw [hd] at hb VD
    have HB := Lib.hid (show false = b from hb)
    have HD := Lib.hid VD
    clear hb hd VD
    go_enter Tryz.func54, Tryz.ntmps54
    go_wp2_with fail
    refine (HD.out _).mono ?_
    rintro e w1 ⟨rfl, hb1⟩
    have K1 := Lib.hid (K.out.below hb1)
    clear hb1
    go_wp2
    go_ret
    exact ⟨ret_bool HB.out, K1.out.bel⟩
  | true =>
    rw [hd] at hb VD
    have HD := Lib.hid VD
    rw [Bool.true_and] at hb
    cases hv : hasV vs r c with
    | true =>
      rw [hv] at hb
      have HB := Lib.hid (show true = b from hb)
      have HV := Lib.hid fun v W (h : Holds W v vs) => ref2Has_h3 v vs r c true W h hv
      clear hb hd VD hv
      go_enter Tryz.func54, Tryz.ntmps54
      go_wp2_with fail
      refine (HD.out _).mono ?_
      rintro e w1 ⟨rfl, hb1⟩
      have K1 := Lib.hid (K.out.below hb1)
      have k0 := K1.out.cell (a := ⟨w.heap.size, 0, none⟩) (v := .slice A vs.length n) (by simp)
      have k2 := K1.out.cell (a := ⟨w.heap.size + 1, 0, none⟩) (v := .int .i64 r) (by simp)
      have k3 := K1.out.cell (a := ⟨w.heap.size + 1, 1, none⟩) (v := .int .i64 c) (by simp)
      clear hb1
      go_wp2_with fail
      refine (HV.out _ _ (K1.out.h (by simp))).mono ?_
      rintro e w2 ⟨rfl, hb1⟩
      have K2 := Lib.hid (K1.out.below hb1)
      clear hb1 k0 k2 k3
      go_wp2
      go_ret
      exact ⟨ret_bool HB.out, K2.out.bel⟩
    | false =>
      rw [hv, Bool.false_or] at hb
      have HV := Lib.hid fun v W (h : Holds W v vs) => ref2Has_h3 v vs r c false W h hv
      have HL := Lib.hid fun v W (h : Holds W v ls) => refHas_h3 v ls r c b W h hb
      clear hb hd VD hv
      go_enter Tryz.func54, Tryz.ntmps54
      go_wp2_with fail
      refine (HD.out _).mono ?_
      rintro e w1 ⟨rfl, hb1⟩
      have K1 := Lib.hid (K.out.below hb1)
      have k0 := K1.out.cell (a := ⟨w.heap.size, 0, none⟩) (v := .slice A vs.length n) (by simp)
      have k2 := K1.out.cell (a := ⟨w.heap.size + 1, 0, none⟩) (v := .int .i64 r) (by simp)
      have k3 := K1.out.cell (a := ⟨w.heap.size + 1, 1, none⟩) (v := .int .i64 c) (by simp)
      clear hb1
      go_wp2_with fail
      refine (HV.out _ _ (K1.out.h (by simp))).mono ?_
      rintro e w2 ⟨rfl, hb1⟩
      have K2 := Lib.hid (K1.out.below hb1)
      clear hb1 k0 k2 k3
      have k1 := K2.out.cell (a := ⟨w.heap.size, 1, none⟩) (v := .slice B ls.length m) (by simp)
      have k2 := K2.out.cell (a := ⟨w.heap.size + 1, 0, none⟩) (v := .int .i64 r) (by simp)
      have k3 := K2.out.cell (a := ⟨w.heap.size + 1, 1, none⟩) (v := .int .i64 c) (by simp)
      go_wp2_with fail
      refine (HL.out _ _ (K2.out.h (by simp))).mono ?_
      rintro e w3 ⟨rfl, hb1⟩
      have K3 := Lib.hid (K2.out.below hb1)
      clear hb1 k1 k2 k3
      go_wp2
      go_ret
      exact ⟨rfl, K3.out.bel⟩

end

section
open Go.RowKit Go.Maps Go.Sort

theorem law3 : Keyed Tryz.prog 3 := int_keyed Tryz.underlying3
theorem zero3 (w : World) : (zeroValue 3).run Tryz.prog w = .ok (.int .i64 0) w := by kernel_rfl
abbrev mapT : TypeId := 133

/-- A map reads as the greatest counters of a list of dots. -/
def MapIs (D : DataW Unit) (l : List (Int × Int)) : Prop :=
  (∀ r, D.atKey (.int .i64 r) (.lit (.int .i64 0)) = .lit (.int .i64 (maxC l r 0))) ∧ ∀ r, Maps.has D (.int .i64 r) = l.any fun p => p.1 == r
theorem MapIs.start : MapIs (.map []) [] := ⟨fun _ => rfl, fun _ => rfl⟩
theorem MapIs.val {D : DataW Unit} {l : List (Int × Int)} (h : MapIs D l) {r c : Int} (hat : D.atKey (.int .i64 r) (.lit (.int .i64 0)) = .lit (.int .i64 c)) : c = maxC l r 0 := by
  rw [h.1] at hat
  injection hat with hat
  injection hat with _ hat
  exact hat.symm
theorem lit_ne {r r' : Int} (h : ¬ r = r') : (Lit.int .i64 r) ≠ .int .i64 r' := fun e => by injection e with _ e; exact h e
theorem MapIs.step {D : DataW Unit} {l : List (Int × Int)} (hD : IsMap D) (h : MapIs D l) (d : Int × Int) : MapIs (D.put (.int .i64 d.1) (.lit (.int .i64 (max (maxC l d.1 0) d.2)))) (l ++ [d]) := by
  constructor
  · intro r
    rw [maxC_snoc]
    by_cases e : d.1 = r
    · subst e
      rw [atKey_put_same hD (show WideAt.IsKeyLit (.int .i64 d.1) from trivial), if_pos rfl]
    · rw [if_neg e, atKey_put_other (lit_ne (Ne.symm e)), h.1]
  · intro r
    rw [List.any_append]
    by_cases e : d.1 = r
    · subst e
      rw [has_put_same hD (show WideAt.IsKeyLit (.int .i64 d.1) from trivial)]; simp
    · rw [has_put_other (lit_ne (Ne.symm e)), h.2]; simp [e]

theorem maxC_range : ∀ {l : List (Int × Int)} (r n : Int), (∀ p ∈ l, validD p.1 p.2 = true) → 0 ≤ n → n ≤ 4294967295 → 0 ≤ maxC l r n ∧ maxC l r n ≤ 4294967295
  | [], r, n, _, h0, h1 => ⟨h0, h1⟩
  | d :: l, r, n, hv, h0, h1 => by
    rw [maxC]
    have hd := hv d (by simp)
    simp [validD] at hd
    exact maxC_range r _ (fun p hp => hv p (by simp [hp])) (by split <;> omega) (by split <;> omega)

/-- Slices in a row that read as lists. -/
def ListsAt (w : World) (b : Nat) (vs : List Value) (ls : List (List (Int × Int))) : Prop :=
  b < w.heap.size ∧ vs.length = ls.length ∧ ∀ j v, vs[j]? = some v → w.cell? ⟨b, j, none⟩ = some v ∧ ∃ l, ls[j]? = some l ∧ Holds w v l
theorem ListsAt.below {w w' : World} {b : Nat} {vs : List Value} {ls : List (List (Int × Int))} (h : ListsAt w b vs ls) (hb : Below w.heap.size w w') : ListsAt w' b vs ls :=
  ⟨Nat.lt_of_lt_of_le h.1 hb.size, h.2.1, fun j v hj => ⟨(hb.cell (p := ⟨b, j, none⟩) h.1).trans (h.2.2 j v hj).1, by
    obtain ⟨l, h1, h2⟩ := (h.2.2 j v hj).2
    exact ⟨l, h1, h2.below hb⟩⟩⟩
theorem ListsAt.get {w : World} {b : Nat} {vs : List Value} {ls : List (List (Int × Int))} (h : ListsAt w b vs ls) {j : Nat} (hj : j < vs.length) :
    ∃ A c l, w.cell? ⟨b, j, none⟩ = some (.slice A (l : List (Int × Int)).length c) ∧ ls[j]? = some l ∧ DotsAt w A l ∧ l.length ≤ maxLen := by
  obtain ⟨h1, l, h2, A, c, e, h3, h4, h5⟩ := h.2.2 j _ (List.getElem?_eq_getElem hj)
  exact ⟨A, c, l, by rw [h1, e], h2, h3, Nat.le_trans h4 h5⟩
theorem flat_snoc {ls : List (List (Int × Int))} {m : Nat} {l : List (Int × Int)} (h : ls[m]? = some l) : (ls.take (m + 1)).flatten = (ls.take m).flatten ++ l := by
  rw [take_snoc h]; simp
theorem flat_len (ls : List (List (Int × Int))) (m : Nat) : (ls.take m).flatten.length ≤ ls.flatten.length := by
  have := congrArg List.length (congrArg List.flatten (List.take_append_drop m ls))
  simp only [List.flatten_append, List.length_append] at this
  omega
theorem flat_len2 {ls : List (List (Int × Int))} {m : Nat} {l : List (Int × Int)} (h : ls[m]? = some l) : (ls.take m).flatten.length + l.length ≤ ls.flatten.length := by
  have := flat_len ls (m + 1)
  rw [flat_snoc h, List.length_append] at this
  exact this

set_option maxRecDepth 100000 in
set_option maxHeartbeats 2000000 in
theorem vecCounters (b cap : Nat) (vs : List Value) (ls : List (List (Int × Int))) (w : World) (hL : ListsAt w b vs ls) (hm : ls.flatten.length ≤ 100000) (hn : vs.length ≤ 3000) (hv : ∀ p ∈ ls.flatten, validD p.1 p.2 = true) :
    Calls Tryz.prog 175 #[.slice (some ⟨b, 0, none⟩) vs.length cap] w fun e w' => e = .returned (.map (some w.heap.size)) ∧ Below w.heap.size w w' ∧
      ∃ D, w'.ownsMap Tryz.prog 3 (plainElem Tryz.prog 3) w.heap.size ls.flatten.length D ∧ MapIs D ls.flatten := by
  have hmm := @run_makeMap Tryz.prog
  have HV := Lib.hid hv; clear hv
  have HLL := Lib.hid hL
  go_enter Tryz.func175, Tryz.ntmps175
  go_wp2_with fail
  go_loopw [5, 7, 11] (fun _ _ i wr => ∃ m : Nat, m ≤ vs.length ∧ i = .int .i64 m ∧ Below w.heap.size w wr ∧ ∃ D, Hid (wr.ownsMap Tryz.prog 3 (plainElem Tryz.prog 3) w.heap.size (ls.take m).flatten.length D) ∧ Hid (MapIs D (ls.take m).flatten)) (fun _ _ i _ => vs.length - (intOf i).toNat)
  case atStart => exact ⟨0, by omega, rfl, (Below.refl _ _).alloc (Nat.le_refl _) _, .map [], World.ownsMap_made _ _ _ _, MapIs.start⟩
  case round =>
    obtain ⟨m, hk2, rfl, hb, D, hown, hD⟩ := hrel
    by_cases hlt : m < vs.length
    · obtain ⟨A, c, l, hc0, hl, hdl, hml⟩ := HLL.out.get hlt
      have hc := (hb.cell (p := ⟨b, m, none⟩) HLL.out.1).trans hc0
      unfold maxLen at hml
      have HD := Lib.hid hdl
      have HL := Lib.hid hl
      have hfl := flat_len2 hl
      clear hl hdl hc0
      go_wp2_with fail
      go_loopw [7, 17] (fun _ i wr' => ∃ n : Nat, n ≤ l.length ∧ i = .int .i64 n ∧ Below w.heap.size w wr' ∧ ∃ D, Hid (wr'.ownsMap Tryz.prog 3 (plainElem Tryz.prog 3) w.heap.size ((ls.take m).flatten ++ l.take n).length D) ∧ Hid (MapIs D ((ls.take m).flatten ++ l.take n))) (fun _ i _ => l.length - (intOf i).toNat)
      case atStart => exact ⟨0, by omega, rfl, hb, D, by simpa [Hid] using hown.out, by simpa [Hid] using hD.out⟩
      case round =>
        obtain ⟨n, hn2, rfl, hb', D', hown', hD'⟩ := hrel
        by_cases hlt' : n < l.length
        · obtain ⟨g, off, r, q, rfl, hgl, hx1, hc0, hc1⟩ := (HD.out.below hb').dot hlt'
          have hvd : validD r q = true := HV.out (r, q) (List.mem_flatten.2 ⟨l, List.mem_of_getElem? HL.out, List.mem_of_getElem? hx1⟩)
          have hmx := maxC_range (l := (ls.take m).flatten ++ l.take n) r 0 (fun p hp => HV.out p (by
            rcases List.mem_append.1 hp with h | h
            · obtain ⟨l', h1, h2⟩ := List.mem_flatten.1 h
              exact List.mem_flatten.2 ⟨l', List.mem_of_mem_take h1, h2⟩
            · exact List.mem_flatten.2 ⟨l, List.mem_of_getElem? HL.out, List.mem_of_mem_take h⟩)) (by omega) (by omega)
          have hvb : 1 ≤ r ∧ r ≤ 65535 ∧ 1 ≤ q ∧ q ≤ 4294967295 := by simpa [validD] using hvd
          have hkey : keyOf Tryz.prog 3 (.int .i64 r) = some (.int .i64 r) := keyOf_int_mk Tryz.underlying3 (WalkArith.wf_i64 (by omega))
          have hst := hD'.out.step hown'.out.isMap (r, q)
          have HX1 := Lib.hid hx1
          have hlen : ((ls.take m).flatten ++ l.take n).length < 200000 := by rw [List.length_append, List.length_take]; omega
          have hle : ((ls.take m).flatten ++ l.take (n + 1)).length = ((ls.take m).flatten ++ l.take n).length + 1 := by rw [take_snoc hx1, ← List.append_assoc, List.length_append, List.length_singleton]
          have hap : (ls.take m).flatten ++ l.take n ++ [(r, q)] = (ls.take m).flatten ++ l.take (n + 1) := by rw [take_snoc hx1, List.append_assoc]
          rw [hap] at hst
          have HST := Lib.hid hst
          have HLE := Lib.hid hle
          have hval := fun c0 h => hD'.out.val (r := r) (c := c0) h
          generalize maxC ((ls.take m).flatten ++ l.take n) r 0 = mx at hmx hst HST hval
          have HVAL := Lib.hid hval
          clear hvd hx1 hst hle hap hval
          generalize ((ls.take m).flatten ++ l.take n).length = kk at *
          go_wp2_with (first
            | (at_lookup; refine wpList_lookup_own_int _ rfl _ _ mapT rfl 3 3 .i64 law3 Tryz.underlying133 Tryz.underlying3 (zero3 _) w.heap.size _ _ rfl (hown'.out.alloc _) _ _ rfl hkey ?_; intro c0 hat hwc; obtain rfl := HVAL.out _ hat; clear hat hwc)
            | (at_mapUpdate; refine wpList_mapUpdate_own _ rfl _ _ _ mapT rfl 3 3 law3 Tryz.underlying133 _ w.heap.size _ _ rfl (hown'.out.alloc _) (by unfold maxLen; omega) _ _ _ rfl rfl hkey _ [] (plainElem_int Tryz.underlying3 (WalkArith.wf_i64 (by omega))) ?_; intro w1 hown1 hgrow1)
            | go_in)
          go_roundw
          case rel => exact ⟨n + 1, by omega, by go_num, (hb'.alloc hb'.size _).grown hgrow1 (by have := hb'.size; simp; omega) (fun j hj => by cases hj; exact Nat.le_refl _), _, (show Hid _ from by rw [HLE.out]; exact hown1), HST⟩
          case measure => simp [intOf]; omega
        · have hmx : l.take n = l := List.take_of_length_le (by omega)
          have hown2 := hown'.out
          have hD2 := hD'.out
          rw [hmx, ← flat_snoc HL.out] at hown2 hD2
          have HO := Lib.hid hown2
          have HD2 := Lib.hid hD2
          clear hown2 hD2 hmx
          go_wp2_with fail
          go_roundw
          case rel => exact ⟨m + 1, by omega, by go_num, hb', D', HO, HD2⟩
          case measure => simp [intOf]; omega
    · have hmx : ls.take m = ls := List.take_of_length_le (by have := HLL.out.2.1; omega)
      have hown2 := hown.out
      have hD2 := hD.out
      rw [hmx] at hown2 hD2
      have HO := Lib.hid hown2
      have HD2 := Lib.hid hD2
      clear hown2 hD2 hmx
      go_wp2
      go_ret
      exact ⟨rfl, hb, D, HO.out, HD2.out⟩


end

section
open Go.RowKit Go.Maps Go.Sort

theorem cmpI_neg {a b : Int} : cmpI a b < 0 ↔ a < b := by
  unfold cmpI
  by_cases h : a < b
  · simp [h]
  · by_cases h2 : b < a <;> simp [h, h2]

set_option maxHeartbeats 400000 in
theorem vecLess (r c r' c' : Int) (w : World) :
    Calls Tryz.prog 215 #[.agg #[.int .i64 r, .int .i64 c], .agg #[.int .i64 r', .int .i64 c']] w fun e w' => e = .returned (.int .i64 (cmpI r r')) ∧ ∃ q os', w' = Sort.grow (w.drewN q) os' := by
  go_enter Tryz.func215, Tryz.ntmps215
  go_wp2_with (go_at_call 168; refine (cmpCompare _ _ _).mono ?_; rintro e w' ⟨rfl, rfl⟩)
  go_ret
  exact ⟨rfl, 0, _, by rw [Sort.alloc_eq_grow, Sort.alloc_eq_grow, Sort.grow_grow]; rfl⟩

theorem ltOf_vec : (ltOf fun p q : Int × Int => cmpI p.1 q.1) = fun p q => decide (p.1 < q.1) := by
  funext p q
  simp only [ltOf]
  rw [Bool.eq_iff_iff]
  simp [cmpI_neg]
theorem swoV : SWO (fun p q : Int × Int => decide (p.1 < q.1)) where
  irrefl x := by simp
  trans x y z h1 h2 := by simp at *; omega
  ntrans x y z h1 h2 := by simp at *; omega

theorem vecLays (blk off size : Nat) (w : World) : CmpLays Tryz.prog 215 #[] encD 2 (fun p q : Int × Int => cmpI p.1 q.1) blk off size w :=
  fun _ _ _ _ x y => vecLess x.1 x.2 y.1 y.2 _

set_option maxRecDepth 100000 in
set_option maxHeartbeats 2000000 in
theorem sortVecEq (blk cap : Nat) (d : Array (Int × Int)) (w : World) (hH : HoldsK encD 2 w blk 0 d) (hblk : blk < w.heap.size) (hsz : d.size < 4611686018427387904) :
    Calls Tryz.prog 214 #[.slice (some ⟨blk, 0, none⟩) d.size cap, .func (.func 215) #[] #[]] w fun e w' =>
      e = .returned (.tuple #[]) ∧ ∃ n os, w' = sortWorldK encD 2 w blk 0 n (pdq (ltOf fun p q : Int × Int => cmpI p.1 q.1) d 0 d.size (Lib.bitLen d.size) true true) os := by
  have eg : ∀ args w, (callFunc 215 args).run Tryz.prog w = .ok (.enter 215 args) w := enters_of Tryz.func215 (by kernel_rfl) rfl
  have hO : SWO (ltOf fun p q : Int × Int => cmpI p.1 q.1) := by rw [ltOf_vec]; exact swoV
  have hlim : Lib.bitLen d.size < 4611686018427387904 := Nat.lt_of_le_of_lt (Lib.bitLen_le d.size 62 (by omega) (by omega)) (by omega)
  have hp := AnyQ.pdqsortCmpFunc_all (P := Tryz.prog) (ρ := Tryz.sortDots_ren) { Tryz.sortDots with } 2 Tryz.isAgg30 Tryz.sizeOf30 encD (fun p q : Int × Int => cmpI p.1 q.1) 215 #[] hO blk 0 cap d w eg (vecLays blk 0 d.size w) ⟨encD_len, encD_one, hH, hblk⟩ (d.size + 1) 0 d.size (Lib.bitLen d.size) d w (by omega) rfl (SWK.start hH) (Nat.zero_le _) (Nat.le_refl _) hsz hlim (Or.inl rfl)
  have hl : Calls Tryz.prog 126 #[.int .u64 (d.size : Int)] w fun e w' => e = .returned (.int .i64 (Lib.bitLen d.size : Nat)) ∧ w' = w := by
    have h := Any.bits_Len (SlLaysF0.n15.bits (P := Tryz.prog) (ρ := Tryz.sortDots_ren) { Tryz.sortDots with }) (d.size : Int) w (by omega) (by omega)
    rw [Int.toNat_natCast] at h
    exact h
  have wr : IntKind.u64.wrap (d.size : Int) = d.size := by simp [IntKind.wrap, IntKind.bits, IntKind.signed]; omega
  have hp' : Calls Tryz.prog 221 #[.slice (some ⟨blk, 0, none⟩) d.size cap, .int .i64 0, .int .i64 d.size, .int .i64 (Lib.bitLen d.size), .func (.func 215) #[] #[]] w _ := hp
  clear hp hH
  go_enter Tryz.func214, Tryz.ntmps214
  go_wp2_with (first | (go_at_call 126; refine hl.mono ?_; rintro e w' ⟨rfl, rfl⟩) | (go_at_call 221; refine hp'.mono ?_; rintro e w' ⟨rfl, n, os, rfl⟩))
  go_end0
  exact ⟨rfl, n, os, rfl⟩

theorem sortVec (g cap base : Nat) (xs : List (Int × Int)) (w : World) (h : w.ownsRow base 30 2 (.slice (some ⟨g, 0, none⟩) xs.length cap) xs.length (cellsOf encD xs)) (hm : xs.length ≤ 1000000) :
    Calls Tryz.prog 214 #[.slice (some ⟨g, 0, none⟩) xs.length cap, .func (.func 215) #[] #[]] w fun e w' => e = .returned (.tuple #[]) ∧
      ∃ ys : List (Int × Int), ys.Perm xs ∧ ys.Pairwise (fun p q => ¬ q.1 < p.1) ∧ w'.ownsRow base 30 2 (.slice (some ⟨g, 0, none⟩) xs.length cap) ys.length (cellsOf encD ys) ∧ w.grownBy w' (some g) := by
  have hg : g < w.heap.size := by
    rcases h.2 with ⟨h0, _⟩ | ⟨g', cap', cur, hv, hb, hg, _⟩
    · cases h0
    · cases hv; exact (Array.getElem?_eq_some_iff.1 hg).1
  have hc := sortVecEq g cap xs.toArray w (holdsK_of_own encD_len (by omega) h) hg (by simp; omega)
  have hO : SWO (ltOf fun p q : Int × Int => cmpI p.1 q.1) := by rw [ltOf_vec]; exact swoV
  obtain ⟨hp, hs⟩ := pdq_sorts (ltOf fun p q : Int × Int => cmpI p.1 q.1) hO xs.toArray 0 xs.toArray.size (Lib.bitLen xs.toArray.size) true true (Nat.zero_le _) (Nat.le_refl _) (Or.inl rfl)
  generalize pdq (ltOf fun p q : Int × Int => cmpI p.1 q.1) xs.toArray 0 xs.toArray.size (Lib.bitLen xs.toArray.size) true true = d at hp hs hc
  obtain ⟨hsz, _, hperm⟩ := hp
  have e1 : d.extract 0 xs.toArray.size = d := by rw [← hsz]; exact Array.extract_size
  rw [e1, Array.extract_size] at hperm
  refine Calls.mono (show Calls Tryz.prog 214 #[.slice (some ⟨g, 0, none⟩) xs.length cap, .func (.func 215) #[] #[]] w _ from hc) ?_
  rintro e w' ⟨he, n, os, rfl⟩
  obtain ⟨h1, h2⟩ := own_of_sort (m := n) (os := os) (d := d) encD_len (by omega) h (by simpa using hsz)
  refine ⟨he, d.toList, by simpa using hperm, ?_, h1, h2⟩
  rw [List.pairwise_iff_getElem]
  intro i j hi hj hij
  have := hs i j (Nat.zero_le _) hij (by rw [← hsz]; simpa using hj)
  rw [ltOf_vec] at this
  simp only [Array.length_toList] at hi hj
  rw [getElem!_pos d i hi, getElem!_pos d j hj] at this
  simpa using this

/-- What was met so far of a map: no key twice, each with its element. -/
def Coll (l : List (Int × Int)) (left : Lit → Bool) (ys : List (Int × Int)) : Prop :=
  ys.Pairwise (fun p q => p.1 ≠ q.1) ∧ (∀ p ∈ ys, p.2 = maxC l p.1 0 ∧ (∃ q ∈ l, q.1 = p.1) ∧ left (.int .i64 p.1) = false) ∧ ∀ q ∈ l, left (.int .i64 q.1) = false → ∃ p ∈ ys, p.1 = q.1
theorem Coll.start {D : DataW Unit} {l : List (Int × Int)} (h : MapIs D l) : Coll l (Maps.has D) [] :=
by
  refine ⟨List.Pairwise.nil, fun p hp => (by cases hp), fun q hq hl => ?_⟩
  rw [h.2] at hl
  have : (l.any fun p => p.1 == q.1) = true := List.any_eq_true.2 ⟨q, hq, by simp⟩
  rw [this] at hl; cases hl
theorem sameKey_self (x : Int) : (Lit.int .i64 x).sameKey (.int .i64 x) = true := by simp [Lit.sameKey]
theorem Coll.step {D : DataW Unit} {l : List (Int × Int)} {left : Lit → Bool} {ys : List (Int × Int)} (hD : MapIs D l) (h : Coll l left ys) {x c : Int} (hl : left (.int .i64 x) = true) (hh : ∃ q ∈ l, q.1 = x) (hat : ∀ zd, D.atKey (.int .i64 x) zd = .lit (.int .i64 c)) :
    Coll l (fun z => left z && !z.sameKey (.int .i64 x)) (ys ++ [(x, c)]) := by
  obtain ⟨h1, h2, h3⟩ := h
  have hc := hD.val (hat _)
  refine ⟨List.pairwise_append.2 ⟨h1, by simp, fun p hp q hq => ?_⟩, fun p hp => ?_, fun q hq hl' => ?_⟩
  · simp at hq; subst hq
    intro e
    have := (h2 p hp).2.2
    rw [e] at this
    simp only at this
    rw [hl] at this; cases this
  · rcases List.mem_append.1 hp with hp | hp
    · obtain ⟨a, b, c'⟩ := h2 p hp
      exact ⟨a, b, by simp [c']⟩
    · simp at hp; subst hp
      exact ⟨hc, hh, by simp [sameKey_self]⟩
  · by_cases e : q.1 = x
    · exact ⟨(x, c), by simp, e.symm⟩
    · have hne : (Lit.int .i64 q.1).sameKey (.int .i64 x) = false := sameKey_ne (lit_ne e)
      simp only [hne, Bool.not_false, Bool.and_true] at hl'
      obtain ⟨p, hp, e2⟩ := h3 q hq hl'
      exact ⟨p, by simp [hp], e2⟩
theorem coll_sorted {l ys zs : List (Int × Int)} {left : Lit → Bool} (hv : ∀ p ∈ l, validD p.1 p.2 = true) (h : Coll l left ys) (hl : ∀ k, left k = false) (hp : zs.Perm ys) (hs : zs.Pairwise fun p q => ¬ q.1 < p.1) : zs = ofV l := by
  obtain ⟨h1, h2, h3⟩ := h
  have hn : zs.Pairwise fun p q => p.1 ≠ q.1 := hp.symm.pairwise h1 (fun h => Ne.symm h)
  refine ofV_unique hv ?_ (fun p hp' => ?_) (fun q hq => ?_)
  · refine (hs.and hn).imp ?_
    rintro a b ⟨h, h'⟩
    omega
  · obtain ⟨a, b, _⟩ := h2 p (hp.mem_iff.1 hp')
    exact ⟨a, b⟩
  · obtain ⟨p, hp', e⟩ := h3 q hq (hl _)
    exact ⟨p, hp.mem_iff.2 hp', e⟩

end

section
open Go.RowKit Go.Maps

/-- A row of the call's own, and all that was there as it was. -/
def MineV (w w' : World) (v : Value) (xs : List (Int × Int)) : Prop := w'.ownsRow w.heap.size 30 2 v xs.length (cellsOf encD xs) ∧ RowKit.Below w.heap.size w w'
theorem MineV.holds {w w' : World} {v : Value} {xs : List (Int × Int)} (h : MineV w w' v xs) : Holds w' v xs := by
  obtain ⟨A, c, rfl, h1, h2, h3⟩ := SlAt.of_own encD_len h.1
  exact ⟨A, c, rfl, h3, h1, h2⟩
theorem MineV.base {w0 w w' : World} {v : Value} {xs : List (Int × Int)} (hb : RowKit.Below w0.heap.size w0 w) (h : MineV w w' v xs) : MineV w0 w' v xs := by
  refine ⟨⟨h.1.1, ?_⟩, below_trans hb h.2⟩
  rcases h.1.2 with h1 | ⟨g, cap, cur, hv, hg, r⟩
  · exact .inl h1
  · exact .inr ⟨g, cap, cur, hv, Nat.le_trans hb.size hg, r⟩

set_option maxRecDepth 100000 in
set_option maxHeartbeats 2000000 in
theorem vecOrdered (b n : Nat) (D : DataW Unit) (l : List (Int × Int)) (w : World) (hown : w.ownsMap Tryz.prog 3 (plainElem Tryz.prog 3) b n D) (hD : MapIs D l) (hv : ∀ p ∈ l, validD p.1 p.2 = true) (hs : Maps.size D ≤ 100000) :
    Calls Tryz.prog 174 #[.map (some b)] w fun e w' => ∃ v, e = .returned v ∧ MineV w w' v (ofV l) := by
  obtain ⟨i0, hi0, hz0, hz1, hz2⟩ := info_parts infoD
  have HV := Lib.hid hv; clear hv
  have HO := Lib.hid hown
  have HS := Lib.hid hs
  have HD := Lib.hid hD
  generalize hsz : Maps.size D = sz at hs
  have HSZ := Lib.hid hsz; clear hsz
  have hbl := hown.lt
  clear hown hD
  go_enter Tryz.func174, Tryz.ntmps174
  go_wp2_with (first
    | (at_len; refine wpList_len_own _ rfl _ mapT rfl 3 3 Tryz.underlying133 _ b n D rfl HO.out ?_; rw [HSZ.out])
    | (at_make; refine wpList_make_own _ rfl (.const (.int .i64 0)) (.tmp 7) 23 rfl w.heap.size 30 i0 _ 2 Tryz.underlying23 hi0 hz0 hz1 .i64 .i64 _ sz rfl rfl rfl (by rw [hz2]; omega) (by unfold maxLen; omega) (Nat.le_refl _) ?_; intro w1 hown1 hg1)
    | (at_range; refine wpList_range_own _ rfl _ mapT rfl 3 3 law3 Tryz.underlying133 _ b n D rfl (HO.out.kept hg1 (by simp)) ?_; intro w2 hrg2 hg2 hs2)
    | go_in)
  go_frame
  have hb2 := ((RowKit.Below.refl w.heap.size w).grown hg1 (Nat.le_refl _) (fun j hj => by cases hj)).grown hg2 hg1.size (fun j hj => by cases hj)
  have hown2 := hown1.kept hg2 (by cases hg : (Value.slice (some ⟨w.heap.size, 0, none⟩) 0 sz).ownBlock <;> simp)
  have hsz1 := hg1.size
  rw [HSZ.out] at hrg2
  have HRG := Lib.hid hrg2
  have HOW := Lib.hid hown2
  have HB2 := Lib.hid hb2
  clear hrg2 hown2 hb2 hown1 hs2
  go_loopw [3, 4, 5] (fun sv _ _ wr => ∃ (left : Lit → Bool) (cnt : Nat) (ys : List (Int × Int)), Hid (wr.ranges Tryz.prog 3 (plainElem Tryz.prog 3) b w1.heap.size n D left cnt) ∧ ys.length + cnt ≤ sz ∧
      Hid (wr.ownsRow w.heap.size 30 2 sv ys.length (cellsOf encD ys)) ∧ Hid (sv ≠ .slice none 0 0) ∧ Hid (Coll l left ys) ∧ Hid (RowKit.Below w.heap.size w wr))
    (fun _ _ _ wr => wr.rangeLeft b w1.heap.size)
  case atStart => exact ⟨_, _, [], HRG, by simp, HOW, (show Hid _ from fun h => by cases h), Coll.start HD.out, HB2⟩
  case round =>
    obtain ⟨left, cnt, ys, hrg, hcs, hrow, hnn, hC, hnx⟩ := hrel
    go_wp2_with (first
      | (at_next; refine wpList_next_ranges_ii _ rfl _ rfl 3 3 .i64 .i64 law3 Tryz.underlying3 Tryz.underlying3 b w1.heap.size n _ _ _ rfl hrg.out ?_ ?_)
      | go_in)
    · intro hc0 hl0
      rcases Go.Joins.ownsRow_forms hrow.out with ⟨hnil, _⟩ | ⟨g, cap, rfl⟩
      · exact absurd hnil hnn.out
      have hc := sortVec g cap w.heap.size ys wr hrow.out (by omega)
      have HC := Lib.hid hc; clear hc
      go_wp2_with fail
      refine HC.out.mono ?_
      rintro e w' ⟨rfl, zs, hp, hs', ho, hg'⟩
      have HZ := Lib.hid (coll_sorted HV.out hC.out hl0 hp (hs'.imp (by intro a b h; omega)))
      have hB' := hnx.out.grown hg' hnx.out.size (fun j hj => by cases hj; exact (hrow.out.lt g rfl).1)
      have HM : MineV w w' (.slice (some ⟨g, 0, none⟩) ys.length cap) zs := ⟨ho, hB'⟩
      have HM2 := Lib.hid HM
      clear hp hs' ho hg' hB' HM
      go_wp2_with fail
      go_ret
      exact ⟨_, rfl, by rw [← HZ.out]; exact HM2.out⟩
    · intro x c wn cnt1 hwx hwc hlx hat hrg1 hlt hg1' hs1 hen
      have hhas : ∃ q ∈ l, q.1 = x := by
        have h1 := has_true_of_atKey (D := D) (k := .int .i64 x) (y := .lit (.int .i64 c)) hat
        rw [HD.out.2] at h1
        obtain ⟨q, hq, e⟩ := List.any_eq_true.1 h1
        exact ⟨q, hq, by simpa using e⟩
      have hst := Coll.step HD.out hC.out hlx hhas hat
      have hrow2 := hrow.out.kept hg1' (Or.inr (row_ne_iter hrow.out hrg.out).symm)
      have hB1 := hnx.out.grown hg1' hnx.out.size (fun j hj => by cases hj; exact hsz1)
      have HST := Lib.hid hst
      have HR1 := Lib.hid hrg1
      have HROW := Lib.hid hrow2
      have HB1 := Lib.hid hB1
      clear hs1 hst hhas hat hwx hwc hlx hrow2 hB1 hrg1
      go_wp2_with (first
        | (at_builtin; refine wpList_append_sl (o := ⟨some 21, _, _, _, _, _⟩) _ encD 2 rfl (.tmp 16) (.tmp 20) 23 rfl encD_len (by omega) encD_one w.heap.size 30 i0 _ 16 Tryz.underlying23 hi0 hz0 hz1 hz2 rfl _ ys rfl (HROW.out.alloc _) _ 1 _ [(x, c)] rfl rfl (SlAt.one (heap_alloc_new _ _)) (by simp [maxLen]; omega) (by simp; omega) (by have := HB1.out.size; simp; omega) ?_; intro v3 w3 hown3 hg3 hat3; go_frame)
        | go_in)
      have hrg3 := (HR1.out.alloc _).kept hg3 (row_ne_low HROW.out hbl) (row_ne_iter HROW.out HR1.out)
      have hB3 := (HB1.out.alloc HB1.out.size _).grown hg3 (by have := HB1.out.size; simp; omega) (fun j hj => (HROW.out.lt j hj).1)
      have hnn3 : v3 ≠ .slice none 0 0 := fun e => by
        have h := hown3.1
        rw [e] at hown3
        rcases hown3.2 with ⟨_, h0⟩ | ⟨g, cap, cur, hv, _⟩
        · simp at h0
        · cases hv
      go_roundw
      case rel => exact ⟨_, cnt1, ys ++ [(x, c)], hrg3, by simp; omega, hown3, hnn3, HST, hB3⟩
      case measure => rw [hrg3.left_eq, hrg.out.left_eq]; exact hlt

end

end Go.Proofs.YtiaehpdgpjhecaaGreat
