/- Package names: first, Fields, Canon. -/
import Derived.Test.YtpkpacgmmhjfpaaDoorNamP3
namespace Go.Proofs.YtpkpacgmmhjfpaaDoor
open Go.RowKit

/-- A line without the spaces in front. -/
def skipN (l : List UInt8) : List UInt8 := Lib.trimLeftB l 32
theorem skipN_len (l : List UInt8) : (skipN l).length ≤ l.length := (List.dropWhile_suffix _).length_le
theorem skipN_head (l : List UInt8) : ∀ a, (skipN l)[0]? = some a → a.toNat ≠ 32 := by
  intro a ha h
  have h32 : a = 32 := eq32 h
  induction l with
  | nil => cases ha
  | cons b r ih =>
    unfold skipN Lib.trimLeftB at ha
    rw [List.dropWhile_cons] at ha
    split at ha
    · exact ih ha
    · rename_i hb
      have e : b = a := by simpa using ha
      rw [e, h32] at hb
      exact hb (by decide)
theorem skipN_fields (l : List UInt8) : fieldsN (skipN l) = fieldsN l := by
  induction l with
  | nil => rfl
  | cons b r ih =>
    unfold skipN Lib.trimLeftB
    rw [List.dropWhile_cons]
    split
    · rename_i hb
      have : b = 32 := by simpa using hb
      subst this
      rw [fieldsN_space rfl]
      exact ih
    · rfl
theorem nmSkip (l : List UInt8) (w : World) : Calls Tryd.prog 40 #[.string ⟨l.toArray⟩] w (One (.string ⟨(skipN l).toArray⟩) w) := by
  have H := Lib.hid (show Calls Tryd.prog 48 #[.string ⟨l.toArray⟩, .string ⟨#[32]⟩] w (One (.string ⟨(skipN l).toArray⟩) w) from
    (Any.strings_TrimLeft_one Tryd.laysTrim ⟨l.toArray⟩ 32 (by decide) w).mono fun e w' ⟨he, hw⟩ => ⟨he, hw.symm⟩)
  generalize skipN l = x at *
  go_enter Tryd.func40, Tryd.ntmps40
  go_wp2_with fail
  refine H.out.mono ?_
  rintro e w1 ⟨rfl, rfl⟩
  go_wp2_with fail
  go_ret
  exact ⟨rfl, rfl⟩

theorem plain_any (l : List UInt8) : Lib.indexAny l [32, 34] = if (plainL l).length = l.length then -1 else ((plainL l).length : Int) := by
  induction l with
  | nil => rfl
  | cons b r ih =>
    unfold Lib.indexAny
    by_cases hb : b.toNat = 32 ∨ b.toNat = 34
    · have hc : ([32, 34] : List UInt8).contains b = true := by
        rcases hb with h | h
        · rw [show b = 32 from UInt8.toNat_inj.1 h]; decide
        · rw [show b = 34 from UInt8.toNat_inj.1 h]; decide
      have hp : plainL (b :: r) = [] := by
        unfold plainL
        rw [List.takeWhile_cons, if_neg (by simp; omega)]
      rw [if_pos hc, hp]
      simp
    · have hc : ¬ (([32, 34] : List UInt8).contains b = true) := by
        simp
        constructor
        · intro e; subst e; exact hb (.inl rfl)
        · intro e; subst e; exact hb (.inr rfl)
      have hp : plainL (b :: r) = b :: plainL r := by
        unfold plainL
        rw [List.takeWhile_cons, if_pos (by simp; omega)]
      rw [if_neg hc, hp, ih]
      by_cases h : (plainL r).length = r.length
      · simp [h]
      · have := plainL_len r
        simp [h]
theorem plainL_take' (l : List UInt8) : l.take (plainL l).length = plainL l := by
  have := List.takeWhile_prefix (p := fun c : UInt8 => c.toNat != 32 && c.toNat != 34) (l := l)
  exact (List.prefix_iff_eq_take.1 this).symm

/-- What the first field of a line is, and what is behind it. -/
def FstP (l : List UInt8) (w : World) (e : Ending) (w' : World) : Prop :=
  (∀ x n, fieldN l = some (x, n) → e = .returned (.tuple #[.string ⟨x.toArray⟩, .string ⟨(l.drop n).toArray⟩, .int .i64 0])) ∧ (fieldN l = none → ∃ r : ByteArray, e = .returned (.tuple #[.string ⟨#[]⟩, .string r, .int .i64 6])) ∧ Below w.heap.size w w'
theorem FstP.some {l x R : List UInt8} {n : Nat} {w w' : World} (h : fieldN l = some (x, n)) (hR : l.drop n = R) (hb : Below w.heap.size w w') : FstP l w (.returned (.tuple #[.string ⟨x.toArray⟩, .string ⟨R.toArray⟩, .int .i64 0])) w' := by
  subst hR
  exact ⟨fun y m e => (by rw [h] at e; cases e; rfl), fun e => (by rw [h] at e; cases e), hb⟩
theorem FstP.none {l : List UInt8} {r : ByteArray} {w w' : World} (h : fieldN l = none) (hb : Below w.heap.size w w') : FstP l w (.returned (.tuple #[.string ⟨#[]⟩, .string r, .int .i64 6])) w' :=
  ⟨fun y m e => (by rw [h] at e; cases e), fun _ => ⟨_, rfl⟩, hb⟩
set_option maxHeartbeats 4000000 in
theorem nmFirst (l : List UInt8) (w : World) (hl : l.length ≤ 20000) (h0 : 0 < l.length) (hL : LaidOK w) : Calls Tryd.prog 41 #[.string ⟨l.toArray⟩] w (FstP l w) := by
  have hsz := size_mk l
  have hx := str_at h0
  obtain ⟨b, hb⟩ : ∃ b, l[0] = b := ⟨_, rfl⟩
  rw [hb] at hx
  have i0 : (0 : Int) < (l.length : Int) := by omega
  have hlb : l = b :: l.drop 1 := by
    have := List.drop_eq_getElem_cons h0
    rw [List.drop_zero, hb] at this
    exact this
  by_cases h34 : b.toNat = 34
  · have k0 : ((b.toNat : Int) == 34) = true := eqT (by omega)
    have hf0 : fieldN l = firstN l := by rw [hlb]; unfold fieldN; simp only; rw [if_pos h34]
    cases hf : firstN l with
    | some y =>
      obtain ⟨x, n⟩ := y
      obtain ⟨hn, hlq⟩ := firstN_some hf
      have HF := Lib.hid (show fieldN l = some (x, n) from by rw [hf0, hf])
      have hnl := firstN_len hf
      obtain ⟨Q, hQ⟩ : ∃ Q, quoteN x = Q := ⟨_, rfl⟩
      obtain ⟨R, hR⟩ : ∃ R, l.drop n = R := ⟨_, rfl⟩
      have HR := Lib.hid hR
      have hQl : Q.length = n := by rw [← hQ, hn]
      have H1 := libPrefixQ x (l.drop n) w (by rw [← hlq]; omega) hL
      rw [← hlq, hQ] at H1
      have H1H := Lib.hid H1
      have hu := unquoteN_quote x
      rw [hQ] at hu
      have HU0 := fun (W : World) (hW : LaidOK W) => nmUnquote Q W (by omega) hW
      rw [hu] at HU0
      have HU := Lib.hid HU0
      have hszQ := size_mk Q
      rw [hQl] at hszQ
      have ex := extract_drop l n
      rw [hR] at ex
      have i1 : (n : Int) ≤ (l.length : Int) := by omega
      have HL := Lib.hid hL
      clear hlb hb h34 hf0 hf hn hlq H1 HU0 hu hQ hR hL hQl hnl
      go_enter Tryd.func41, Tryd.ntmps41
      go_wp2_with fail
      refine H1H.out.mono ?_
      rintro e w1 ⟨rfl, hb⟩
      have HB := Lib.hid hb
      clear hb H1H
      go_wp2_with fail
      refine (HU.out _ (HL.out.below HB.out)).mono ?_
      rintro e w2 ⟨rfl, hb⟩
      have HB2 := Lib.hid (below_trans HB.out hb)
      clear hb HU
      unfold pairU
      go_wp2_with fail
      go_region
      all_goals
        go_wp2_with fail
        go_ret3
        exact FstP.some HF.out HR.out HB2.out.drew
    | none =>
      have HF := Lib.hid (show fieldN l = none from by rw [hf0, hf])
      have HFN := Lib.hid hf
      have H1H := Lib.hid (libPrefix l w (by omega) (fun h => by rw [hb]; exact UInt8.toNat_inj.1 h34) hL)
      have HL := Lib.hid hL
      have HUU := Lib.hid (fun (k : Nat) (W : World) (hk : k ≤ l.length) (hW : LaidOK W) => (show Calls Tryd.prog 27 #[.string ⟨(l.take k).toArray⟩] W (OneB (.tuple #[.string ⟨#[]⟩, .int .i64 6]) W) from by
        have h := nmUnquote (l.take k) W (by rw [List.length_take]; omega) hW
        have hn : unquoteN (l.take k) = none := by
          cases hu : unquoteN (l.take k) with
          | none => rfl
          | some y =>
            exfalso
            have e1 := unquoteN_some hu
            have e2 : l = quoteN y ++ l.drop k := by rw [← e1, List.take_append_drop]
            have h2 := firstN_quote y (l.drop k)
            rw [← e2, hf] at h2
            cases h2
        rw [hn] at h
        exact h))
      clear hlb hb h34 hf0 hf hL
      go_enter Tryd.func41, Tryd.ntmps41
      go_wp2_with fail
      refine H1H.out.mono ?_
      rintro e w1 ⟨⟨k, er, rfl, hk⟩, hb⟩
      have HB := Lib.hid hb
      clear hb H1H
      have HU := Lib.hid (HUU.out k w1 hk (HL.out.below HB.out))
      obtain ⟨Q, hQ⟩ : ∃ Q, l.take k = Q := ⟨_, rfl⟩
      have hQl : Q.length = k := by rw [← hQ, List.length_take]; omega
      have hszQ := size_mk Q
      rw [hQl] at hszQ
      rw [hQ] at HU ⊢
      have ex := extract_drop l k
      have i1 : (k : Int) ≤ (l.length : Int) := by omega
      clear hQ hQl HUU
      go_wp2_with fail
      refine HU.out.mono ?_
      rintro e w2 ⟨rfl, hb⟩
      have HB2 := Lib.hid (below_trans HB.out hb)
      clear hb HU
      go_wp2_with fail
      go_region
      all_goals
        go_wp2_with fail
        go_ret3
        exact FstP.none HF.out HB2.out.drew
  · have k0 : ((b.toNat : Int) == 34) = false := eqF (by omega)
    have HF := Lib.hid (show fieldN l = some (plainL l, (plainL l).length) from by
      have : ∀ r, l = b :: r → fieldN l = some (plainL l, (plainL l).length) := by
        intro r hr
        subst hr
        unfold fieldN
        simp only
        rw [if_neg h34]
      exact this _ hlb)
    have HI := indexAnyQ l w (by omega)
    rw [plain_any] at HI
    have hpl := plainL_len l
    have hpt := plainL_take' l
    obtain ⟨x, hxx⟩ : ∃ x, plainL l = x := ⟨_, rfl⟩
    rw [hxx] at HI HF hpl hpt
    obtain ⟨n, hn⟩ : ∃ n, x.length = n := ⟨_, rfl⟩
    rw [hn] at HI HF hpl hpt
    have HC := Lib.hid (fun W => strClone x W (by omega))
    have exT := extract_to l n
    rw [hpt] at exT
    obtain ⟨R, hR⟩ : ∃ R, l.drop n = R := ⟨_, rfl⟩
    have HR := Lib.hid hR
    have ex := extract_drop l n
    rw [hR] at ex
    have i1 : (n : Int) ≤ (l.length : Int) := by omega
    clear hlb hb h34 hxx hn hR hpt
    by_cases he : n = l.length
    · rw [if_pos he] at HI
      have HIH := Lib.hid HI
      subst he
      clear HI hpl
      go_enter Tryd.func41, Tryd.ntmps41
      go_wp2_with fail
      refine HIH.out.mono ?_
      rintro e w1 ⟨rfl, hb⟩
      have HB := Lib.hid hb
      clear hb HIH
      go_wp2_with fail
      refine wp_region_far (by kernel_rfl) (by kernel_rfl) ?_
      repeat (go_big_quiet_step (((go_at_call 31; exact far_of (HC.out _)))))
      refine wpQuiet_nil ?_
      rintro _ ⟨p, rfl⟩
      go_wp2_with fail
      go_ret3
      exact FstP.some HF.out List.drop_length (below_trans HB.out (below_far _ _))
    · rw [if_neg he] at HI
      have HIH := Lib.hid HI
      have i2 : ¬ (n : Int) < 0 := by omega
      clear HI hpl he
      go_enter Tryd.func41, Tryd.ntmps41
      go_wp2_with fail
      refine HIH.out.mono ?_
      rintro e w1 ⟨rfl, hb⟩
      have HB := Lib.hid hb
      clear hb HIH
      go_wp2_with fail
      refine wp_region_far (by kernel_rfl) (by kernel_rfl) ?_
      repeat (go_big_quiet_step (((go_at_call 31; exact far_of (HC.out _)))))
      refine wpQuiet_nil ?_
      rintro _ ⟨p, rfl⟩
      go_wp2_with fail
      go_ret3
      exact FstP.some HF.out HR.out (below_trans HB.out (below_far _ _))

/-- What Fields returns. -/
def FldQ (o : Option (List (List UInt8))) (w : World) (e : Ending) (w' : World) : Prop :=
  (∀ v, o = some v → ∃ x, e = .returned (.tuple #[x, .int .i64 0]) ∧ HoldsS w' x v) ∧ (o = none → e = .returned (.tuple #[.slice none 0 0, .int .i64 6])) ∧ Below w.heap.size w w'
theorem FldQ.no {o : Option (List (List UInt8))} {w w' : World} (h : o = none) (hb : Below w.heap.size w w') : FldQ o w (.returned (.tuple #[.slice none 0 0, .int .i64 6])) w' := ⟨fun v e => by (rw [h] at e; cases e), fun _ => rfl, hb⟩
theorem FldQ.yes {o : Option (List (List UInt8))} {x : Value} {v : List (List UInt8)} {w w' : World} (h : o = some v) (hx : HoldsS w' x v) (hb : Below w.heap.size w w') : FldQ o w (.returned (.tuple #[x, .int .i64 0])) w' := ⟨fun u e => by (rw [h] at e; cases e; exact ⟨x, rfl, hx⟩), fun e => by (rw [h] at e; cases e), hb⟩
/-- Where the reading of a line stands. -/
def FldTo (l T : List UInt8) (v : List (List UInt8)) : Prop := fieldsN l = (fieldsN T).map (v ++ ·)
theorem FldTo.field {l T x : List UInt8} {n : Nat} {v : List (List UInt8)} (h : FldTo l T v) (ha : ∀ a, T[0]? = some a → a.toNat ≠ 32) (hn : fieldN T = some (x, n)) (ht : ∀ b, (T.drop n)[0]? = some b → b.toNat = 32) : FldTo l (skipN (T.drop n)) (v ++ [x]) := by
  unfold FldTo at *
  rw [h, fieldsN_field ha hn ht, skipN_fields, Option.map_map]
  congr 1
  funext y
  simp
set_option maxRecDepth 100000 in
set_option maxHeartbeats 8000000 in
theorem nmFields (l : List UInt8) (w : World) (hl : l.length ≤ 20000) (hL : LaidOK w) : Calls Tryd.prog 29 #[.string ⟨l.toArray⟩] w (FldQ (fieldsN l) w) := by
  obtain ⟨ti0, hi0, hz0, hz1, hz2⟩ := info_parts infoS
  have HL := Lib.hid hL
  have HS0 := Lib.hid (nmSkip l w)
  have HLL := Lib.hid hl
  have HQ0 := Lib.hid (show FldTo l (skipN l) [] from by unfold FldTo; rw [skipN_fields]; simp)
  have HA0 := Lib.hid (skipN_head l)
  have hs0 := skipN_len l
  obtain ⟨T0, hT0⟩ : ∃ T, skipN l = T := ⟨_, rfl⟩
  rw [hT0] at HS0 HQ0 HA0 hs0
  clear hT0 hL
  go_enter Tryd.func29, Tryd.ntmps29
  go_wp2_with fail
  refine HS0.out.mono ?_
  rintro e w1 ⟨rfl, rfl⟩
  go_wp2_with fail
  go_loopw [4, 5] (fun s4 s5 wr => ∃ (T : List UInt8) (D : Option Addr) (d : Nat) (v : List (List UInt8)), v.length + T.length ≤ l.length ∧ s4 = .slice D v.length d ∧ s5 = .string ⟨T.toArray⟩ ∧ Hid (RowS wr w.heap.size (.slice D v.length d) v) ∧ Hid (Below w.heap.size w wr) ∧ Hid (FldTo l T v) ∧ Hid (∀ a, T[0]? = some a → a.toNat ≠ 32)) (fun _ s5 _ => strLen s5)
  case atStart => exact ⟨T0, none, 0, [], by simp; omega, rfl, rfl, World.ownsRow_nil _ _ _ _, Below.refl _ _, HQ0, HA0⟩
  case round =>
    clear HS0 HQ0 HA0
    obtain ⟨T, D, d, v, hvl, rfl, rfl, HO, HB, HQ, HA⟩ := hrel
    by_cases h0 : 0 < T.length
    case neg =>
      have hT : T = [] := List.eq_nil_of_length_eq_zero (by omega)
      subst hT
      have HN := Lib.hid (show fieldsN l = some v from by have h := HQ.out; unfold FldTo at h; rw [h, fieldsN_nil]; simp)
      have HH := Lib.hid (RowS.at HO.out)
      have he : ([] : List UInt8).isEmpty = true := rfl
      clear h0 hvl
      go_wp2_with fail
      go_ret2
      exact FldQ.yes HN.out HH.out HB.out
    have hTe : T.isEmpty = false := by
      cases T with
      | nil => simp at h0
      | cons a r => rfl
    have HF := Lib.hid (nmFirst T wr (by have := HLL.out; omega) h0 (HL.out.below HB.out))
    obtain ⟨a, r, hTa⟩ : ∃ a r, T = a :: r := by
      cases T with
      | nil => simp at h0
      | cons a r => exact ⟨a, r, rfl⟩
    have HA32 := Lib.hid (show a.toNat ≠ 32 from HA.out a (by rw [hTa]; rfl))
    have HTA := Lib.hid hTa
    clear hTa
    cases hf : fieldN T with
    | none =>
      have HFN := Lib.hid hf
      have HN := Lib.hid (show fieldsN l = none from by
        have h := HQ.out
        unfold FldTo at h
        rw [h]
        have h2 := HFN.out
        rw [HTA.out] at h2 ⊢
        rw [fieldsN_none HA32.out h2]; rfl)
      clear hf h0
      go_wp2_with fail
      refine HF.out.mono ?_
      rintro e w1 ⟨_, h2, hb⟩
      obtain ⟨rr, he⟩ := h2 HFN.out
      subst he
      have HB1 := Lib.hid (below_trans HB.out hb)
      clear hb h2 HF
      go_wp2_with fail
      go_ret2
      exact FldQ.no HN.out HB1.out
    | some y =>
      obtain ⟨x, n⟩ := y
      have HFN := Lib.hid hf
      have hn1 : 1 ≤ n := by
        have h2 := HFN.out
        rw [HTA.out] at h2
        exact (fieldN_len HA32.out h2).1
      obtain ⟨R, hR⟩ : ∃ R, T.drop n = R := ⟨_, rfl⟩
      have hRl : R.length = T.length - n := by rw [← hR, List.length_drop]
      have HR := Lib.hid hR
      have HVM := Lib.hid (show v.length ≤ 100000 from by have := HLL.out; omega)
      clear hf hR
      go_wp2_with fail
      refine HF.out.mono ?_
      rintro e w1 ⟨h1, _, hb⟩
      have he := h1 x n HFN.out
      subst he
      rw [HR.out]
      have HB1 := Lib.hid (below_trans HB.out hb)
      have HO1 := Lib.hid (own_keep HO.out hb)
      clear hb h1 HF
      cases R with
      | nil =>
        have he : ([] : List UInt8).isEmpty = true := rfl
        have HS := Lib.hid (show FldTo l [] (v ++ [x]) from by
          have h := HQ.out.field HA.out HFN.out (fun b hb => by rw [HR.out] at hb; cases hb)
          rw [HR.out] at h
          exact h)
        have HK := Lib.hid (fun W => nmSkip [] W)
        clear hRl
        go_wp2_with (at_builtin; refine wpList_append_sl _ encS 1 rfl (.tmp 30) (.tmp 32) 28 rfl encS_len (by omega) encS_one w.heap.size 9 ti0 _ 16 Tryd.underlying28 hi0 hz0 hz1 hz2 rfl _ v rfl (HO1.out.alloc _) _ 1 _ [x] rfl rfl rowS_one (by simp [maxLen]; have := HVM.out; omega) (by simp; have := HVM.out; omega) (by have := HB1.out.size; simp; omega) ?_; intro v1 w2 hown hg hat; have HB2 := Lib.hid ((HB1.out.alloc HB1.out.size _).grown hg (by have := HB1.out.size; simp; omega) (fun k hk => (HO1.out.lt k hk).1)); obtain ⟨D2, d3, rfl, _⟩ := SlAt.of_own encS_len hown; have HO2 := Lib.hid hown; clear hown hg hat)
        refine (HK.out _).mono ?_
        rintro e w3 ⟨rfl, rfl⟩
        go_wp2_with fail
        go_roundw
        case rel => exact ⟨[], D2, d3, v ++ [x], by rw [List.length_append]; simp; omega, by rw [List.length_append]; rfl, rfl, HO2, HB2, HS, show Hid _ from fun a ha => by cases ha⟩
        case measure => rw [strLen_mk, strLen_mk]; exact h0
      | cons b t =>
        have he : (b :: t).isEmpty = false := rfl
        obtain ⟨S, hS⟩ : ∃ S, b :: t = S := ⟨_, rfl⟩
        rw [hS] at he hRl HR ⊢
        have hszS := size_mk S
        have hS0 : 0 < S.length := by rw [← hS]; simp
        have hxS := str_at hS0
        have hSb : S[0] = b := by subst hS; rfl
        rw [hSb] at hxS
        have j0 : (0 : Int) < (S.length : Int) := by omega
        have HSB := Lib.hid (show S[0]? = some b from by rw [← hS]; rfl)
        clear hSb hS
        by_cases hb32 : b.toNat = 32
        · have k1 : ((b.toNat : Int) != 32) = false := neF (by omega)
          have HS := Lib.hid (show FldTo l (skipN S) (v ++ [x]) from by
            have h := HQ.out.field HA.out HFN.out (fun c hc => by rw [HR.out, HSB.out] at hc; cases hc; exact hb32)
            rw [HR.out] at h
            exact h)
          have HK := Lib.hid (fun W => nmSkip S W)
          have hkl := skipN_len S
          have HKH := Lib.hid (skipN_head S)
          obtain ⟨U, hU⟩ : ∃ U, skipN S = U := ⟨_, rfl⟩
          rw [hU] at HS HK hkl HKH
          clear hU hb32
          go_wp2_with (at_builtin; refine wpList_append_sl _ encS 1 rfl (.tmp 30) (.tmp 32) 28 rfl encS_len (by omega) encS_one w.heap.size 9 ti0 _ 16 Tryd.underlying28 hi0 hz0 hz1 hz2 rfl _ v rfl (HO1.out.alloc _) _ 1 _ [x] rfl rfl rowS_one (by simp [maxLen]; have := HVM.out; omega) (by simp; have := HVM.out; omega) (by have := HB1.out.size; simp; omega) ?_; intro v1 w2 hown hg hat; have HB2 := Lib.hid ((HB1.out.alloc HB1.out.size _).grown hg (by have := HB1.out.size; simp; omega) (fun k hk => (HO1.out.lt k hk).1)); obtain ⟨D2, d3, rfl, _⟩ := SlAt.of_own encS_len hown; have HO2 := Lib.hid hown; clear hown hg hat)
          refine (HK.out _).mono ?_
          rintro e w3 ⟨rfl, rfl⟩
          go_wp2_with fail
          go_roundw
          case rel => exact ⟨U, D2, d3, v ++ [x], by rw [List.length_append]; simp; omega, by rw [List.length_append]; rfl, rfl, HO2, HB2, HS, HKH⟩
          case measure => rw [strLen_mk, strLen_mk]; omega
        · have k1 : ((b.toNat : Int) != 32) = true := neT (by omega)
          have HN := Lib.hid (show fieldsN l = none from by
            have h := HQ.out
            unfold FldTo at h
            rw [h, fieldsN_stop HA.out HFN.out (by rw [HR.out]; exact HSB.out) hb32]
            rfl)
          clear hb32
          go_wp2_with fail
          go_ret2
          exact FldQ.no HN.out HB1.out

theorem nmCanon (l : List UInt8) (w : World) (hl : l.length ≤ 200000) : Calls Tryd.prog 21 #[.string ⟨l.toArray⟩] w (OneB (if itemN (canonN l) then .tuple #[.string ⟨(canonN l).toArray⟩, .int .i64 0] else .tuple #[.string ⟨#[]⟩, .int .i64 2]) w) := by
  have hc := canonN_len0 l
  have H := Lib.hid (spaced l w (by omega))
  have HI := Lib.hid (fun W => nmItem (canonN l) W (by omega))
  have HC := Lib.hid (fun W => strClone (canonN l) W (by omega))
  generalize canonN l = x at *
  cases hi : itemN x with
  | true =>
    rw [hi] at HI
    clear hi hc
    rw [if_pos rfl]
    go_enter Tryd.func21, Tryd.ntmps21
    go_wp2_with fail
    refine H.out.mono ?_
    rintro e w1 ⟨rfl, hb⟩
    have HB := Lib.hid hb
    clear hb H
    go_wp2_with fail
    refine (HI.out _).mono ?_
    rintro e w2 ⟨rfl, hb⟩
    have HB2 := Lib.hid (below_trans HB.out hb)
    clear hb HI
    go_wp2_with fail
    refine (HC.out _).mono ?_
    rintro e w3 ⟨rfl, hb⟩
    have HB3 := Lib.hid (below_trans HB2.out hb)
    clear hb HC
    go_wp2_with fail
    go_ret2
    exact ⟨rfl, HB3.out⟩
  | false =>
    rw [hi] at HI
    clear hi hc HC
    rw [if_neg (by decide)]
    go_enter Tryd.func21, Tryd.ntmps21
    go_wp2_with fail
    refine H.out.mono ?_
    rintro e w1 ⟨rfl, hb⟩
    have HB := Lib.hid hb
    clear hb H
    go_wp2_with fail
    refine (HI.out _).mono ?_
    rintro e w2 ⟨rfl, hb⟩
    have HB2 := Lib.hid (below_trans HB.out hb)
    clear hb HI
    go_wp2_with fail
    go_ret2
    exact ⟨rfl, HB2.out⟩

end Go.Proofs.YtpkpacgmmhjfpaaDoor
