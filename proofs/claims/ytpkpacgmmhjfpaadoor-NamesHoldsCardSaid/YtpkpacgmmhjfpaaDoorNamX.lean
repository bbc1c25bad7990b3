/- The library's unquote at strings in quotes: what it returns. -/
import Derived.Test.YtpkpacgmmhjfpaaDoorNamM
namespace Go.Proofs.YtpkpacgmmhjfpaaDoor
open Go.RowKit

theorem hasC_false {l : List UInt8} {c : UInt8} (h : hasC l c = false) : c ∉ l := by
  have h1 : Lib.indexByte l c = -1 := by simpa [hasC] using h
  clear h
  induction l with
  | nil => simp
  | cons b r ih =>
    unfold Lib.indexByte at h1
    split at h1
    · cases h1
    · rename_i hb
      have h2 : Lib.indexByte r c = -1 := by
        split at h1
        · rename_i h3; simpa using h3
        · have := Lib.indexByte_ge r c; omega
      intro hm
      rcases List.mem_cons.1 hm with e | e
      · exact hb (by rw [e]; simp)
      · exact ih h2 e
theorem index_quote (x R : List UInt8) : ∃ i : Nat, Lib.indexByte (x.flatMap oneN ++ 34 :: R) 34 = (i : Int) := by
  generalize x.flatMap oneN = A
  induction A with
  | nil => exact ⟨0, by simp [Lib.indexByte]⟩
  | cons b r ih =>
    obtain ⟨i, hi⟩ := ih
    rw [List.cons_append]
    unfold Lib.indexByte
    split
    · exact ⟨0, rfl⟩
    · rw [if_neg (by rw [hi]; simp), hi]
      exact ⟨i + 1, by omega⟩
theorem oneN_head (c : UInt8) (R : List UInt8) : ∃ b r, oneN c ++ R = b :: r ∧ b.toNat ≠ 34 ∧ b.toNat ≠ 10 ∧ (b.toNat ≠ 92 → oneN c = [c] ∧ b = c ∧ c.toNat < 128) := by
  unfold oneN
  split
  · exact ⟨92, c :: R, rfl, by decide, by decide, fun h => absurd rfl h⟩
  · rename_i h1
    split
    · exact ⟨92, _, rfl, by decide, by decide, fun h => absurd rfl h⟩
    · exact ⟨c, R, rfl, fun e => h1 (.inl e), by omega, fun _ => ⟨rfl, rfl, by omega⟩⟩
/-- Where no backslash is in front of the first quotation mark, no byte is written in another way. -/
theorem quote_plain (x R : List UInt8) (i : Nat) (hi : Lib.indexByte (x.flatMap oneN ++ 34 :: R) 34 = (i : Int)) (h92 : (92 : UInt8) ∉ (x.flatMap oneN ++ 34 :: R).take i) :
    x.flatMap oneN = x ∧ i = x.length ∧ ∀ c ∈ x, c.toNat < 128 := by
  induction x generalizing i with
  | nil =>
    have : Lib.indexByte (([] : List UInt8).flatMap oneN ++ 34 :: R) 34 = 0 := by simp [Lib.indexByte]
    rw [this] at hi
    exact ⟨rfl, by simp; omega, by simp⟩
  | cons c r ih =>
    obtain ⟨b, t, hbt, h34, _, hpl⟩ := oneN_head c (r.flatMap oneN ++ 34 :: R)
    have e : (c :: r).flatMap oneN ++ 34 :: R = b :: t := by rw [← hbt]; simp
    rw [e] at hi h92
    have hb34 : (b == 34) = false := by simp; intro e; subst e; exact h34 rfl
    unfold Lib.indexByte at hi
    rw [hb34] at hi
    simp only [Bool.false_eq_true, if_false] at hi
    obtain ⟨j, rfl⟩ : ∃ j, i = j + 1 := by
      refine ⟨i - 1, ?_⟩
      split at hi
      · omega
      · have := Lib.indexByte_ge t 34; rename_i h1; simp at h1; omega
    have hb92 : b.toNat ≠ 92 := fun e => h92 (by rw [show b = 92 from UInt8.toNat_inj.1 e]; simp)
    obtain ⟨h1, h2, h3⟩ := hpl hb92
    have ht : t = r.flatMap oneN ++ 34 :: R := by
      rw [h1] at hbt
      injection hbt with _ h; exact h.symm
    subst ht
    have hi2 : Lib.indexByte (r.flatMap oneN ++ 34 :: R) 34 = (j : Int) := by
      split at hi
      · omega
      · omega
    obtain ⟨g1, g2, g3⟩ := ih j hi2 (fun hm => h92 (by rw [List.take_succ_cons]; exact List.mem_cons_of_mem _ hm))
    refine ⟨by rw [List.flatMap_cons, h1, g1]; rfl, by simp; omega, fun d hd => ?_⟩
    rcases List.mem_cons.1 hd with e | e
    · rw [e]; exact h3
    · exact g3 d e
theorem valid_ascii (l : List UInt8) (h : ∀ c ∈ l, c.toNat < 128) : Lib.validD l = true := by
  unfold Lib.validD
  induction l with
  | nil => rfl
  | cons b t ih =>
    have hb := h b (by simp)
    rw [List.length_cons]
    unfold Lib.validGoD
    rw [if_neg (by simp), Lib.decodeL_ascii b t hb, if_neg (by simp; omega)]
    exact ih fun c hc => h c (by simp [hc])
theorem un3 {x : ByteArray} {y : ByteArray} {a b : ByteArray} {w w' : World} (h1 : a = x) (h2 : b = y) (hb : Below w.heap.size w w') : OneB (.tuple #[.string x, .string y, .nilIface]) w (.returned (.tuple #[.string a, .string b, .nilIface])) w' := by subst h1; subst h2; exact ⟨rfl, hb⟩
/-- Where the loop stands: what was read, what is to be read. -/
structure QTo (x R ys T : List UInt8) : Prop where
  h : ∃ z, x = ys ++ z ∧ T = z.flatMap oneN ++ 34 :: R


set_option maxRecDepth 100000 in
set_option maxHeartbeats 16000000 in
theorem unqXtrue (l x R : List UInt8) (q : UInt8) (i : Nat) (w : World) (hl : l.length ≤ 100000) (hlq : l = quoteN x ++ R) (h2 : 2 ≤ l.length) (hq0 : l[0] = q) (hq : q.toNat = 34) (hi : Lib.indexByte (l.drop 1) q = (i : Int)) (hL : LaidOK w) :
    Calls Tryd.prog 47 #[.string ⟨l.toArray⟩, .bool true] w (OneB (.tuple #[.string ⟨(x).toArray⟩, .string ⟨R.toArray⟩, .nilIface]) w) := by
  obtain ⟨ti0, hi0, hz0, hz1, hz2⟩ := info_parts infoB
  have hsz := size_mk l
  have HL0 := Lib.hid hL
  obtain ⟨ty, p, hE⟩ := hL.2
  have hx := str_at (show 0 < l.length by omega)
  rw [hq0] at hx
  have j0 : ¬ (l.length : Int) < 2 := by omega
  have j1 : (0 : Int) < (l.length : Int) := by omega
  have j2 : (1 : Int) ≤ (l.length : Int) := by omega
  have k96 : ((q.toNat : Int) == 96) = false := eqF (by omega)
  have k34 : ((q.toNat : Int) == 34) = true := eqT (by omega)
  have k39 : ((q.toNat : Int) == 39) = false := eqF (by omega)
  obtain ⟨T1, hT1⟩ : ∃ T, l.drop 1 = T := ⟨_, rfl⟩
  have ex1 := extract_drop l 1
  rw [hT1] at ex1 hi
  have hil : i < T1.length := (indexByte_some hi).1
  have hT1l : T1.length = l.length - 1 := by rw [← hT1, List.length_drop]
  obtain ⟨e, he⟩ : ∃ e, e = i + 2 := ⟨_, rfl⟩
  obtain ⟨e1, he1⟩ : ∃ e1, e1 = i + 1 := ⟨_, rfl⟩
  have em : (i : Int) + 2 = (e : Int) := by omega
  have em1 : (e : Int) - 1 = (e1 : Int) := by omega
  have j3 : ¬ (i : Int) < 0 := by omega
  have j4 : (e : Int) ≤ (l.length : Int) := by omega
  have j5 : (1 : Int) ≤ (e1 : Int) := by omega
  have j6 : (e1 : Int) ≤ (e : Int) := by omega
  have j7 : (e1 : Int) ≤ (l.length : Int) := by omega
  obtain ⟨E, hE0⟩ : ∃ E, l.take e = E := ⟨_, rfl⟩
  have exE := extract_to l e
  rw [hE0] at exE
  have hEl : E.length = e := by rw [← hE0, List.length_take]; omega
  have hszE : (ByteArray.mk E.toArray).size = e := by rw [size_mk, hEl]
  obtain ⟨V, hV⟩ : ∃ V, (l.drop 1).take (e1 - 1) = V := ⟨_, rfl⟩
  have exV := extract_mid l 1 e1
  rw [hV] at exV
  have hVE : (E.drop 1).take (e1 - 1) = V := by
    rw [← hE0, ← hV, List.drop_take, List.take_take]
    congr 1
    omega
  have exV2 := extract_mid E 1 e1
  rw [hVE] at exV2
  obtain ⟨Rr, hRr⟩ : ∃ R, l.drop e = R := ⟨_, rfl⟩
  have exR := extract_drop l e
  rw [hRr] at exR
  have eq34 : q = 34 := UInt8.toNat_inj.1 hq
  have HT0 := Lib.hid (show T1 = x.flatMap oneN ++ 34 :: R from by rw [← hT1, hlq]; simp [quoteN])
  have HFast := Lib.hid (show hasC E 92 = false → Lib.validD V = true ∧ ByteArray.mk V.toArray = ⟨x.toArray⟩ ∧ ByteArray.mk E.toArray = ⟨(quoteN x).toArray⟩ ∧ ByteArray.mk Rr.toArray = ⟨R.toArray⟩ from by
    intro h
    have h92 := hasC_false h
    have e0 : l = 34 :: T1 := by rw [HT0.out, hlq]; simp [quoteN]
    have hE2 : E = 34 :: T1.take (i + 1) := by rw [← hE0, he, e0]; rfl
    have h3 : (92 : UInt8) ∉ (x.flatMap oneN ++ 34 :: R).take i := fun hm => h92 (by
      rw [hE2, HT0.out]
      refine List.mem_cons_of_mem _ ?_
      rw [List.take_add_one]
      exact List.mem_append_left _ hm)
    rw [HT0.out, eq34] at hi
    obtain ⟨g1, g2, g3⟩ := quote_plain x R i hi h3
    have eV : V = x := by
      rw [← hV, hT1, HT0.out, g1, he1, show i + 1 - 1 = x.length by omega, List.take_left]
    have eQ : quoteN x = 34 :: (x ++ [34]) := by unfold quoteN; rw [g1]
    refine ⟨by rw [eV]; exact valid_ascii x g3, by rw [eV], ?_, ?_⟩
    · rw [← hE0, he, hlq, eQ, List.take_left' (by simp; omega)]
    · rw [← hRr, he, hlq, eQ, List.drop_left' (by simp; omega)])
  have HQX := Lib.hid (show l = quoteN x ++ R from hlq)
  have HVl := Lib.hid (show V.length ≤ l.length from by rw [← hV, List.length_take, List.length_drop]; omega)
  have HEE := Lib.hid (show e ≤ l.length ∧ E = l.take e ∧ e = i + 2 ∧ e1 = i + 1 ∧ E.length = e ∧ V.length = i from ⟨by omega, hE0.symm, he, he1, hEl, by rw [← hV, List.length_take, List.length_drop]; omega⟩)
  have HI := sIndex T1 q w
  rw [hi] at HI
  have HIH := Lib.hid HI
  have HT1 := Lib.hid (show T1.length = l.length - 1 from hT1l)
  have HLL := Lib.hid (show l.length ≤ 100000 ∧ 2 ≤ l.length from ⟨hl, h2⟩)
  have h8 := toNat8 q
  have HQ := Lib.hid hq
  clear hlq eq34 hq HI hi hil hT1 hT1l he he1 hE0 hEl hV hVE hRr hq0 hL
  go_enter Tryd.func47, Tryd.ntmps47
  go_wp2_with fail
  refine HIH.out.mono ?_
  rintro e w1 ⟨rfl, rfl⟩
  clear HIH
  go_upto_region 25 with fail
  go_cut [99] (fun t wx => ∃ v : Bool, t = .bool v ∧ w = wx ∧ (v = true → hasC E 92 = false))
  case first =>
    have HC1 := Lib.hid (sContains E 92 w)
    have HC2 := Lib.hid (sContains E 10 w)
    go_wp2_with fail
    refine HC1.out.mono ?_
    rintro e w1 ⟨rfl, rfl⟩
    cases h92 : hasC E 92 with
    | true =>
      clear h92
      go_wp2_with fail
      go_meet
      exact ⟨_, rfl, rfl, fun e => by cases e⟩
    | false =>
      have H92 := Lib.hid h92
      clear h92
      go_wp2_with fail
      refine HC2.out.mono ?_
      rintro e w1 ⟨rfl, rfl⟩
      cases hasC E 10 with
      | true =>
        go_wp2_with fail
        go_meet
        exact ⟨_, rfl, rfl, fun _ => H92.out⟩
      | false =>
        go_wp2_with fail
        go_meet
        exact ⟨_, rfl, rfl, fun _ => H92.out⟩
  case rest =>
    obtain ⟨v, rfl, hw, hv92⟩ := hcut
    subst hw
    have HV92 := Lib.hid hv92
    clear hv92
    go_upto_if 99 with fail
    go_cut [4] (fun u wx => Hid (Below w.heap.size w wx))
    case first =>
      cases v with
      | false =>
        go_wp2_with fail
        go_meet
        exact Below.refl _ _
      | true =>
        have HVS := Lib.hid (validStr V w (by have := HVl.out; have := HLL.out; omega) HL0.out)
        go_wp2_with fail
        refine HVS.out.mono ?_
        rintro e w1 ⟨rfl, hb⟩
        have HB1 := Lib.hid hb
        clear hb HVS
        have hfa := HFast.out (HV92.out (by trivial))
        rw [hfa.1]
        have HFA := Lib.hid hfa.2
        clear hfa
        go_wp2_with fail
        go_region
        all_goals
          go_wp2_with fail
          go_ret3
          exact un3 HFA.out.1 HFA.out.2.2 HB1.out.drew
    case rest =>
      have HB0 := hcut
      obtain ⟨wq, rfl⟩ : ∃ W, W = wc := ⟨_, rfl⟩
      obtain ⟨c, hc⟩ : ∃ c, c = 3 * e / 2 := ⟨_, rfl⟩
      have hee : e ≤ 100000 := by have := HEE.out; have := HLL.out; omega
      have ec : 3 * (e : Int) / 2 = (c : Int) := by omega
      obtain ⟨W0, hmk, hown0, hg0⟩ := run_make_own (P := Tryd.prog) wq w.heap.size 27 5 ti0 _ 1 Tryd.underlying27 hi0 hz0 hz1 .i64 .i64 c (by rw [hz2]; omega) (by unfold maxLen; omega) HB0.out.size
      have HO0 := Lib.hid hown0
      have HB1 := Lib.hid (HB0.out.grown hg0 HB0.out.size (fun k hk => by cases hk))
      clear hown0 hg0 hc hee
      go_upto_block 5 with fail
      clear ec hmk
      go_cut [0, 14] (fun s0 s14 wx => ∃ (T : List UInt8) (D : Option Addr) (d : Nat) (ys : List UInt8), s0 = .string ⟨T.toArray⟩ ∧ T.length ≤ l.length ∧ ys.length + 4 * T.length ≤ 4 * l.length ∧ s14 = .slice D ys.length d ∧ Hid (RowB wx w.heap.size (.slice D ys.length d) ys) ∧ Hid (Below w.heap.size w wx) ∧ Hid (T = 34 :: R ∧ ys = x))
      case first =>
        go_wp2_with fail
        go_loopw [0, 14] (fun s0 s14 wr => ∃ (T : List UInt8) (D : Option Addr) (d : Nat) (ys : List UInt8), s0 = .string ⟨T.toArray⟩ ∧ T.length ≤ l.length ∧ ys.length + 4 * T.length ≤ 4 * l.length ∧ s14 = .slice D ys.length d ∧ Hid (RowB wr w.heap.size (.slice D ys.length d) ys) ∧ Hid (Below w.heap.size w wr) ∧ Hid (QTo x R ys T)) (fun s0 _ _ => strLen s0)
        case atStart => exact ⟨T1, _, _, [], rfl, by have := HT1.out; omega, by have := HT1.out; simp; omega, rfl, HO0, HB1, ⟨x, rfl, HT0.out⟩⟩
        case round =>
          obtain ⟨T, D, d, ys, rfl, hTl, hys, rfl, HO, HB, HX⟩ := hrel
          have hszT := size_mk T
          have hTm : T.length ≤ 100000 := by have := HLL.out; omega
          obtain ⟨z, hz1', hz2'⟩ := HX.out.h
          have eq34 : q = 34 := UInt8.toNat_inj.1 HQ.out
          cases z with
          | nil =>
            rw [List.flatMap_nil, List.nil_append] at hz2'
            have h0 : 0 < T.length := by rw [hz2']; simp
            have i0 : (0 : Int) < (T.length : Int) := by omega
            have hxT := str_at h0
            have hxx : T[0] = q := by subst hz2'; rw [eq34]; rfl
            rw [hxx] at hxT
            have k1 : ((q.toNat : Int) != (q.toNat : Int)) = false := neF rfl
            have HXE := Lib.hid (show T = 34 :: R ∧ ys = x from ⟨hz2', by rw [hz1', List.append_nil]⟩)
            clear hxx hz1' hz2' eq34
            go_wp2_with fail
            go_meet
            exact ⟨T, D, d, ys, rfl, hTl, hys, rfl, HO, HB, HXE⟩
          | cons c r =>
            obtain ⟨t, ht⟩ : ∃ t, r.flatMap oneN ++ 34 :: R = t := ⟨_, rfl⟩
            have hT2 : T = oneN c ++ t := by rw [hz2', ← ht]; simp
            obtain ⟨x0, tt, hbt, h34, h10, _⟩ := oneN_head c t
            have h0 : 0 < T.length := by rw [hT2, hbt]; simp
            have i0 : (0 : Int) < (T.length : Int) := by omega
            have hxT := str_at h0
            have hxx : T[0] = x0 := by
              have : T = x0 :: tt := by rw [hT2, hbt]
              subst this; rfl
            rw [hxx] at hxT
            have k1 : ((x0.toNat : Int) != (q.toNat : Int)) = true := neT (by rw [eq34]; show (x0.toNat : Int) ≠ 34; omega)
            have k2 : ((x0.toNat : Int) == 10) = false := eqF (by omega)
            have hol := oneN_len c
            have htl : t.length < T.length := by rw [hT2, List.length_append]; omega
            have HU := Lib.hid (show Calls Tryd.prog 57 #[.string ⟨T.toArray⟩, .int .u8 (q.toNat : Int)] wr (OneB (.tuple #[.int .i32 (c.toNat : Int), .bool false, .string ⟨t.toArray⟩, .nilIface]) wr) from by
              rw [hT2, eq34]
              exact uqExact c t wr (by rw [← hT2]; omega) (HL0.out.below HB.out))
            have HX2 := Lib.hid (show QTo x R (ys ++ [c]) t from ⟨r, by rw [hz1']; simp, ht.symm⟩)
            have hc8 := toNat8 c
            clear hxx hbt hT2 ht hz1' hz2' eq34 hol h34 h10
            go_wp2_with fail
            refine HU.out.mono ?_
            rintro e w1 ⟨rfl, hb⟩
            have HB1 := Lib.hid (below_trans HB.out hb)
            have HO1 := Lib.hid (own_keep HO.out hb)
            clear hb HU
            have HYL := Lib.hid (show ys.length ≤ 400000 from by omega)
            have ew8 : IntKind.u8.wrap (c.toNat : Int) = (c.toNat : Int) := by simp [IntKind.wrap, IntKind.bits, IntKind.signed]; omega
            by_cases c128 : (c.toNat : Int) < 128
            · go_wp2_with (at_builtin; refine wpList_append_sl _ encB 1 rfl (.tmp 186) (.tmp 189) 27 rfl encB_len (by omega) encB_one w.heap.size 5 ti0 _ 1 Tryd.underlying27 hi0 hz0 hz1 hz2 rfl _ ys rfl (HO1.out.alloc _) _ 1 _ [c] rfl rfl rowB_one (by simp [maxLen]; have := HYL.out; omega) (by simp; have := HYL.out; omega) (by have := HB1.out.size; simp; omega) ?_; intro v1 w2 hown hg hat; have HB2 := Lib.hid ((HB1.out.alloc HB1.out.size _).grown hg (by have := HB1.out.size; simp; omega) (fun k hk => (HO1.out.lt k hk).1)); obtain ⟨D2, d3, rfl, _⟩ := SlAt.of_own encB_len hown; have HO2 := Lib.hid hown; clear hown hg hat)
              go_roundw
              case rel => exact ⟨t, _, _, ys ++ [c], rfl, by omega, (by rw [List.length_append, List.length_singleton]; omega), (by rw [List.length_append]; rfl), HO2, HB2, HX2⟩
              case measure => rw [strLen_mk, strLen_mk]; omega
            · go_wp2_with (at_builtin; refine wpList_append_sl _ encB 1 rfl (.tmp 186) (.tmp 189) 27 rfl encB_len (by omega) encB_one w.heap.size 5 ti0 _ 1 Tryd.underlying27 hi0 hz0 hz1 hz2 rfl _ ys rfl (HO1.out.alloc _) _ 1 _ [c] rfl rfl rowB_one (by simp [maxLen]; have := HYL.out; omega) (by simp; have := HYL.out; omega) (by have := HB1.out.size; simp; omega) ?_; intro v1 w2 hown hg hat; have HB2 := Lib.hid ((HB1.out.alloc HB1.out.size _).grown hg (by have := HB1.out.size; simp; omega) (fun k hk => (HO1.out.lt k hk).1)); obtain ⟨D2, d3, rfl, _⟩ := SlAt.of_own encB_len hown; have HO2 := Lib.hid hown; clear hown hg hat)
              go_roundw
              case rel => exact ⟨t, _, _, ys ++ [c], rfl, by omega, (by rw [List.length_append, List.length_singleton]; omega), (by rw [List.length_append]; rfl), HO2, HB2, HX2⟩
              case measure => rw [strLen_mk, strLen_mk]; omega
      case rest =>
        obtain ⟨T, D, d, ys, rfl, hTl, hys, rfl, HO, HB, HX⟩ := hcut
        obtain ⟨wr, rfl⟩ : ∃ W, W = wc := ⟨_, rfl⟩
        have hszT := size_mk T
        have hTm : T.length ≤ 100000 := by have := HLL.out; omega
        have eq34 : q = 34 := UInt8.toNat_inj.1 HQ.out
        have hT0 := HX.out.1
        have h0 : 0 < T.length := by rw [hT0]; simp
        have i0 : (0 : Int) < (T.length : Int) := by omega
        have hxT := str_at h0
        have hxx : T[0] = q := by rw [eq34]; subst hT0; rfl
        rw [hxx] at hxT
        have k1 : ((q.toNat : Int) == (q.toNat : Int)) = true := eqT rfl
        have exU := extract_drop T 1
        rw [show T.drop 1 = R from by rw [hT0]; rfl] at exU
        have hszU := size_mk R
        have j8 : (1 : Int) ≤ (T.length : Int) := by omega
        clear hxx hT0 eq34
        have hcv := convB wr D d ys (HoldsB.of_own HO.out)
        go_wp2_with fail
        go_ret3
        exact un3 (by rw [HX.out.2]) rfl HB.out

end Go.Proofs.YtpkpacgmmhjfpaaDoor
