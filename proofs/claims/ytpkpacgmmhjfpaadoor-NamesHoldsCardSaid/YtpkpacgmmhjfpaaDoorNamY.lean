/- strconv.Unquote and QuotedPrefix. -/
import Derived.Test.YtpkpacgmmhjfpaaDoorNamM2
import Derived.Test.YtpkpacgmmhjfpaaDoorNamM3
import Derived.Test.YtpkpacgmmhjfpaaDoorNamX2
namespace Go.Proofs.YtpkpacgmmhjfpaaDoor
open Go.RowKit

theorem hasC_true {l : List UInt8} {c : UInt8} (h : hasC l c = true) : c ∈ l := by
  induction l with
  | nil => simp [hasC, Lib.indexByte] at h
  | cons b r ih =>
    by_cases hb : b = c
    · rw [hb]; simp
    · refine List.mem_cons_of_mem _ (ih ?_)
      unfold hasC Lib.indexByte at h
      rw [if_neg (by simpa using hb)] at h
      unfold hasC
      cases e : Lib.indexByte r c == -1 with
      | true => rw [e] at h; simp at h
      | false => simpa using e
theorem raw_room {l : List UInt8} {q : UInt8} {i : Nat} (h2 : 2 ≤ l.length) (hq0 : l[0] = q) (hq : q.toNat = 96) (hi : Lib.indexByte (l.drop 1) q = (i : Int)) (h : hasC (l.take (i + 2)) 13 = true) : 1 ≤ i := by
  rcases Nat.eq_zero_or_pos i with h0 | h0
  · exfalso
    subst h0
    obtain ⟨h1, h3⟩ := indexByte_some hi
    have hm := hasC_true h
    match l, h2, hq0, h1, h3, hm with
    | a :: b :: r, _, hq0, _, h3, hm =>
      have e1 : a = q := hq0
      have e2 : b = q := h3
      rw [e1, e2] at hm
      have : (13 : UInt8) = q := by simpa using hm
      rw [← this] at hq
      exact absurd hq (by decide)
  · exact h0

set_option maxRecDepth 100000 in
set_option maxHeartbeats 16000000 in
theorem unq96true (l : List UInt8) (q : UInt8) (i : Nat) (w : World) (hl : l.length ≤ 100000) (h2 : 2 ≤ l.length) (hq0 : l[0] = q) (hq : q.toNat = 96) (hi : Lib.indexByte (l.drop 1) q = (i : Int)) (hL : LaidOK w) :
    Calls Tryd.prog 47 #[.string ⟨l.toArray⟩, .bool true] w (UnP l true w) := by
  obtain ⟨ti0, hi0, hz0, hz1, hz2⟩ := info_parts infoB
  have hsz := size_mk l
  have HL0 := Lib.hid hL
  obtain ⟨ty, p, hE⟩ := hL.2
  have hx := str_at (show 0 < l.length by omega)
  rw [hq0] at hx
  have j0 : ¬ (l.length : Int) < 2 := by omega
  have j1 : (0 : Int) < (l.length : Int) := by omega
  have j2 : (1 : Int) ≤ (l.length : Int) := by omega
  have k96 : ((q.toNat : Int) == 96) = true := eqT (by omega)
  have k34 : ((q.toNat : Int) == 34) = false := eqF (by omega)
  have k39 : ((q.toNat : Int) == 39) = false := eqF (by omega)
  obtain ⟨T1, hT1⟩ : ∃ T, l.drop 1 = T := ⟨_, rfl⟩
  have ex1 := extract_drop l 1
  rw [hT1] at ex1 hi
  have hil : i < T1.length := (indexByte_some hi).1
  have hT1l : T1.length = l.length - 1 := by rw [← hT1, List.length_drop]
  obtain ⟨e, he⟩ : ∃ e, e = i + 2 := ⟨_, rfl⟩
  obtain ⟨e1, he1⟩ : ∃ e1, e1 = i + 1 := ⟨_, rfl⟩
  have em : (i : Int) + 2 = (e : Int) := by omega
  have em1 : (e : Int) - 1 = (e1 : Int) := by omega
  have j3 : ¬ (i : Int) < 0 := by omega
  have j4 : (e : Int) ≤ (l.length : Int) := by omega
  have j5 : (1 : Int) ≤ (e1 : Int) := by omega
  have j6 : (e1 : Int) ≤ (e : Int) := by omega
  have j7 : (e1 : Int) ≤ (l.length : Int) := by omega
  obtain ⟨E, hE0⟩ : ∃ E, l.take e = E := ⟨_, rfl⟩
  have exE := extract_to l e
  rw [hE0] at exE
  have hEl : E.length = e := by rw [← hE0, List.length_take]; omega
  have hszE : (ByteArray.mk E.toArray).size = e := by rw [size_mk, hEl]
  obtain ⟨V, hV⟩ : ∃ V, (l.drop 1).take (e1 - 1) = V := ⟨_, rfl⟩
  have exV := extract_mid l 1 e1
  rw [hV] at exV
  have hVE : (E.drop 1).take (e1 - 1) = V := by
    rw [← hE0, ← hV, List.drop_take, List.take_take]
    congr 1
    omega
  have exV2 := extract_mid E 1 e1
  rw [hVE] at exV2
  obtain ⟨Rr, hRr⟩ : ∃ R, l.drop e = R := ⟨_, rfl⟩
  have exR := extract_drop l e
  rw [hRr] at exR
  have HRM := Lib.hid (show hasC E 13 = true → 1 ≤ i from fun h => raw_room h2 hq0 hq (by rw [hT1]; exact hi) (by rw [← he, hE0]; exact h))
  have HVl := Lib.hid (show V.length ≤ l.length from by rw [← hV, List.length_take, List.length_drop]; omega)
  have HEE := Lib.hid (show e ≤ l.length ∧ E = l.take e ∧ e = i + 2 ∧ e1 = i + 1 ∧ E.length = e ∧ V.length = i from ⟨by omega, hE0.symm, he, he1, hEl, by rw [← hV, List.length_take, List.length_drop]; omega⟩)
  have HI := sIndex T1 q w
  rw [hi] at HI
  have HIH := Lib.hid HI
  have HT1 := Lib.hid (show T1.length = l.length - 1 from hT1l)
  have HLL := Lib.hid (show l.length ≤ 100000 ∧ 2 ≤ l.length from ⟨hl, h2⟩)
  have h8 := toNat8 q
  have HQ := Lib.hid hq
  clear hq HI hi hil hT1 hT1l he he1 hE0 hEl hV hVE hRr hq0 hL
  go_enter Tryd.func47, Tryd.ntmps47
  have HC1 := Lib.hid (sContains E 13 w)
  go_wp2_with fail
  refine HIH.out.mono ?_
  rintro e w1 ⟨rfl, rfl⟩
  clear HIH
  go_wp2_with fail
  refine HC1.out.mono ?_
  rintro e w1 ⟨rfl, rfl⟩
  cases h13 : hasC E 13 with
  | false =>
    clear h13
    go_wp2_with fail
    go_region
    all_goals
      go_wp2_with fail
      go_ret3
      exact UnP.ok (Below.refl _ _).drew (by have := HVl.out; omega) (fun e => by cases e)
  | true =>
    have hi1 := HRM.out h13
    obtain ⟨c, hc⟩ : ∃ c, c = i - 1 := ⟨_, rfl⟩
    have he := HEE.out
    have hll := HLL.out
    have em2 : (e1 : Int) - 1 = (i : Int) := by omega
    have em3 : (i : Int) - 1 = (c : Int) := by omega
    obtain ⟨W0, hmk, hown0, hg0⟩ := run_make_own (P := Tryd.prog) w w.heap.size 27 5 ti0 _ 1 Tryd.underlying27 hi0 hz0 hz1 .i64 .i64 c (by rw [hz2]; omega) (by unfold maxLen; omega) (Nat.le_refl _)
    have HO0 := Lib.hid hown0
    have HB0 := Lib.hid ((Below.refl w.heap.size w).grown hg0 (Nat.le_refl _) (fun k hk => by cases hk))
    have he1 : 1 ≤ e1 := by omega
    have he1l : e1 ≤ l.length := by omega
    have hle : l.length ≤ 100000 := hll.1
    clear hown0 hg0 hc h13 hi1 he hll
    go_upto_block 2 with fail
    clear em2 em3 hmk
    go_cut [9] (fun s9 wx => ∃ (D : Option Addr) (d : Nat) (ys : List UInt8), s9 = .slice D ys.length d ∧ ys.length ≤ l.length ∧ Hid (RowB wx w.heap.size (.slice D ys.length d) ys) ∧ Hid (Below w.heap.size w wx))
    case first =>
      go_wp2_with fail
      go_loopw [9, 10] (fun s9 s10 wr => ∃ (k : Nat) (D : Option Addr) (d : Nat) (ys : List UInt8), 1 ≤ k ∧ k ≤ e1 ∧ ys.length ≤ k ∧ s9 = .slice D ys.length d ∧ s10 = .int .i64 k ∧ Hid (RowB wr w.heap.size (.slice D ys.length d) ys) ∧ Hid (Below w.heap.size w wr)) (fun _ s10 _ => e1 - (intOf s10).toNat)
      case atStart => exact ⟨1, _, _, [], by omega, by omega, by simp, rfl, rfl, HO0, HB0⟩
      case round =>
        obtain ⟨k, D, d, ys, hk1, hk, hys, rfl, rfl, HO, HB⟩ := hrel
        by_cases hlt : k < e1
        · have i0 : (k : Int) < (e1 : Int) := by omega
          have hkl : k < l.length := by omega
          have i1 : (k : Int) < (l.length : Int) := by omega
          have hxk := str_at hkl
          obtain ⟨x, hxx⟩ : ∃ x, l[k] = x := ⟨_, rfl⟩
          rw [hxx] at hxk
          have HYL := Lib.hid (show ys.length ≤ 400000 from by omega)
          by_cases c13 : x.toNat = 13
          · have k1 : ((x.toNat : Int) != 13) = false := neF (by omega)
            clear c13 hxx
            go_wp2_with fail
            go_roundw
            case rel => exact ⟨k + 1, D, d, ys, by omega, by omega, by omega, rfl, by go_num, HO, HB⟩
            case measure => simp [intOf]; omega
          · have k1 : ((x.toNat : Int) != 13) = true := neT (by omega)
            clear c13 hxx
            go_wp2_with (at_builtin; refine wpList_append_sl _ encB 1 rfl (.tmp 57) (.tmp 61) 27 rfl encB_len (by omega) encB_one w.heap.size 5 ti0 _ 1 Tryd.underlying27 hi0 hz0 hz1 hz2 rfl _ ys rfl (HO.out.alloc _) _ 1 _ [x] rfl rfl rowB_one (by simp [maxLen]; have := HYL.out; omega) (by simp; have := HYL.out; omega) (by have := HB.out.size; simp; omega) ?_; intro v1 w2 hown hg hat; have HB2 := Lib.hid ((HB.out.alloc HB.out.size _).grown hg (by have := HB.out.size; simp; omega) (fun k hk => (HO.out.lt k hk).1)); obtain ⟨D2, d3, rfl, _⟩ := SlAt.of_own encB_len hown; have HO2 := Lib.hid hown; clear hown hg hat)
            go_roundw
            case rel => exact ⟨k + 1, _, _, ys ++ [x], by omega, by omega, (by rw [List.length_append, List.length_singleton]; omega), (by rw [List.length_append]; rfl), by go_num, HO2, HB2⟩
            case measure => simp [intOf]; omega
        · obtain rfl : k = e1 := by omega
          have i0 : ¬ (k : Int) < (k : Int) := by omega
          go_wp2_with fail
          go_meet
          exact ⟨D, d, ys, rfl, by omega, HO, HB⟩
    case rest =>
      obtain ⟨D, d, ys, rfl, hys, HO, HB⟩ := hcut
      obtain ⟨wr, rfl⟩ : ∃ W, W = wc := ⟨_, rfl⟩
      have hcv := convB wr D d ys (HoldsB.of_own HO.out)
      go_wp2_with fail
      go_region
      all_goals
        go_wp2_with fail
        go_ret3
        exact UnP.ok HB.out.drew (by omega) (fun e => by cases e)

set_option maxRecDepth 100000 in
theorem unqShort (l : List UInt8) (b : Bool) (w : World) (h2 : l.length < 2) (hL : LaidOK w) :
    Calls Tryd.prog 47 #[.string ⟨l.toArray⟩, .bool b] w (UnP l b w) := by
  have hsz := size_mk l
  obtain ⟨_, ty, p, hE⟩ := hL
  have j0 : (l.length : Int) < 2 := by omega
  go_enter Tryd.func47, Tryd.ntmps47
  go_wp2_with fail
  go_region
  all_goals
    go_wp2_with fail
    go_ret3
    exact UnP.err (Below.refl _ _).drew
set_option maxRecDepth 100000 in
set_option maxHeartbeats 4000000 in
theorem unqNone (l : List UInt8) (q : UInt8) (b : Bool) (w : World) (h2 : 2 ≤ l.length) (hq0 : l[0] = q) (hi : Lib.indexByte (l.drop 1) q = -1) (hL : LaidOK w) :
    Calls Tryd.prog 47 #[.string ⟨l.toArray⟩, .bool b] w (UnP l b w) := by
  have hsz := size_mk l
  obtain ⟨_, ty, p, hE⟩ := hL
  have hx := str_at (show 0 < l.length by omega)
  rw [hq0] at hx
  have j0 : ¬ (l.length : Int) < 2 := by omega
  have j1 : (0 : Int) < (l.length : Int) := by omega
  have j2 : (1 : Int) ≤ (l.length : Int) := by omega
  obtain ⟨T1, hT1⟩ : ∃ T, l.drop 1 = T := ⟨_, rfl⟩
  have ex1 := extract_drop l 1
  rw [hT1] at ex1 hi
  have HI := sIndex T1 q w
  rw [hi] at HI
  have HIH := Lib.hid HI
  have h8 := toNat8 q
  clear HI hi hT1 hq0
  go_enter Tryd.func47, Tryd.ntmps47
  go_wp2_with fail
  refine HIH.out.mono ?_
  rintro e w1 ⟨rfl, rfl⟩
  go_wp2_with fail
  go_region
  all_goals
    go_wp2_with fail
    go_ret3
    exact UnP.err (Below.refl _ _).drew
set_option maxRecDepth 100000 in
set_option maxHeartbeats 4000000 in
theorem unqOther (l : List UInt8) (q : UInt8) (b : Bool) (i : Nat) (w : World) (hl : l.length ≤ 100000) (h2 : 2 ≤ l.length) (hq0 : l[0] = q) (hi : Lib.indexByte (l.drop 1) q = (i : Int)) (hq : q.toNat ≠ 34 ∧ q.toNat ≠ 39 ∧ q.toNat ≠ 96) (hL : LaidOK w) :
    Calls Tryd.prog 47 #[.string ⟨l.toArray⟩, .bool b] w (UnP l b w) := by
  have hsz := size_mk l
  obtain ⟨_, ty, p, hE⟩ := hL
  have hx := str_at (show 0 < l.length by omega)
  rw [hq0] at hx
  have j0 : ¬ (l.length : Int) < 2 := by omega
  have j1 : (0 : Int) < (l.length : Int) := by omega
  have j2 : (1 : Int) ≤ (l.length : Int) := by omega
  have k96 : ((q.toNat : Int) == 96) = false := eqF (by omega)
  have k34 : ((q.toNat : Int) == 34) = false := eqF (by omega)
  have k39 : ((q.toNat : Int) == 39) = false := eqF (by omega)
  obtain ⟨T1, hT1⟩ : ∃ T, l.drop 1 = T := ⟨_, rfl⟩
  have ex1 := extract_drop l 1
  rw [hT1] at ex1 hi
  have hil : i < T1.length := (indexByte_some hi).1
  have hT1l : T1.length = l.length - 1 := by rw [← hT1, List.length_drop]
  have j3 : ¬ (i : Int) < 0 := by omega
  have j9 : (i : Int) ≤ 100000 := by omega
  have HI := sIndex T1 q w
  rw [hi] at HI
  have HIH := Lib.hid HI
  have h8 := toNat8 q
  clear HI hi hT1 hT1l hq0 hq
  go_enter Tryd.func47, Tryd.ntmps47
  go_wp2_with fail
  refine HIH.out.mono ?_
  rintro e w1 ⟨rfl, rfl⟩
  go_wp2_with fail
  go_region
  all_goals
    go_wp2_with fail
    go_ret3
    exact UnP.err (Below.refl _ _).drew
theorem index_cases (l : List UInt8) (q : UInt8) : Lib.indexByte l q = -1 ∨ ∃ i : Nat, Lib.indexByte l q = (i : Int) := by
  have h := Lib.indexByte_ge l q
  by_cases h1 : Lib.indexByte l q = -1
  · exact .inl h1
  · exact .inr ⟨(Lib.indexByte l q).toNat, by omega⟩
/-- unquote ends, at whatever it is given. -/
theorem unqAny (l : List UInt8) (w : World) (hl : l.length ≤ 100000) (hL : LaidOK w) :
    Calls Tryd.prog 47 #[.string ⟨l.toArray⟩, .bool true] w (UnP l true w) := by
  by_cases h2 : l.length < 2
  · exact unqShort l true w h2 hL
  have h2' : 2 ≤ l.length := by omega
  rcases index_cases (l.drop 1) l[0] with hi | ⟨i, hi⟩
  · exact unqNone l _ true w h2' rfl hi hL
  by_cases c1 : l[0].toNat = 34
  · exact unq34true l _ i w hl h2' rfl c1 hi hL
  by_cases c2 : l[0].toNat = 39
  · exact unq39true l _ i w hl h2' rfl c2 hi hL
  by_cases c3 : l[0].toNat = 96
  · exact unq96true l _ i w hl h2' rfl c3 hi hL
  · exact unqOther l _ true i w hl h2' rfl hi ⟨c1, c2, c3⟩ hL
theorem preAny (l : List UInt8) (w : World) (hl : l.length ≤ 100000) (h0 : ∀ h : 0 < l.length, l[0] = 34) (hL : LaidOK w) :
    Calls Tryd.prog 47 #[.string ⟨l.toArray⟩, .bool false] w (UnP l false w) := by
  by_cases h2 : l.length < 2
  · exact unqShort l false w h2 hL
  have h2' : 2 ≤ l.length := by omega
  rcases index_cases (l.drop 1) l[0] with hi | ⟨i, hi⟩
  · exact unqNone l _ false w h2' rfl hi hL
  exact unq34false l _ i w hl h2' rfl (by rw [h0 (by omega)]; decide) hi hL
theorem quote_head (x R : List UInt8) : ∃ i : Nat, 2 ≤ (quoteN x ++ R).length ∧ (∀ h : 0 < (quoteN x ++ R).length, (quoteN x ++ R)[0] = 34) ∧ Lib.indexByte ((quoteN x ++ R).drop 1) 34 = (i : Int) := by
  obtain ⟨i, hi⟩ := index_quote x R
  refine ⟨i, by have := quoteN_len x; rw [List.length_append]; omega, fun _ => by simp [quoteN], ?_⟩
  rw [show (quoteN x ++ R).drop 1 = x.flatMap oneN ++ 34 :: R by simp [quoteN]]
  exact hi
theorem unqQuote (x R : List UInt8) (w : World) (hl : (quoteN x ++ R).length ≤ 100000) (hL : LaidOK w) :
    Calls Tryd.prog 47 #[.string ⟨(quoteN x ++ R).toArray⟩, .bool true] w (OneB (.tuple #[.string ⟨x.toArray⟩, .string ⟨R.toArray⟩, .nilIface]) w) := by
  obtain ⟨i, h2, h0, hi⟩ := quote_head x R
  exact unqXtrue _ x R 34 i w hl rfl h2 (h0 (by omega)) (by decide) hi hL
theorem preQuote (x R : List UInt8) (w : World) (hl : (quoteN x ++ R).length ≤ 100000) (hL : LaidOK w) :
    Calls Tryd.prog 47 #[.string ⟨(quoteN x ++ R).toArray⟩, .bool false] w (OneB (.tuple #[.string ⟨(quoteN x).toArray⟩, .string ⟨R.toArray⟩, .nilIface]) w) := by
  obtain ⟨i, h2, h0, hi⟩ := quote_head x R
  exact unqXfalse _ x R 34 i w hl rfl h2 (h0 (by omega)) (by decide) hi hL

/-- What Unquote and QuotedPrefix return where no string in quotes is: an error, or a string. -/
def StP (l : List UInt8) (w : World) (e : Ending) (w' : World) : Prop :=
  ((∃ (x : ByteArray) (ty : TypeId) (p : Value), e = .returned (.tuple #[.string x, .iface ty p]) ∧ x = ⟨#[]⟩) ∨ (∃ x : List UInt8, e = .returned (.tuple #[.string ⟨x.toArray⟩, .nilIface]) ∧ x.length ≤ 4 * l.length)) ∧ Below w.heap.size w w'
theorem pair2 {x y : ByteArray} {w w' : World} (h : x = y) (hb : Below w.heap.size w w') : OneB (.tuple #[.string y, .nilIface]) w (.returned (.tuple #[.string x, .nilIface])) w' := by subst h; exact ⟨rfl, hb⟩
theorem libUnquote (l : List UInt8) (w : World) (hl : l.length ≤ 100000) (hL : LaidOK w) :
    Calls Tryd.prog 38 #[.string ⟨l.toArray⟩] w (StP l w) := by
  have H := Lib.hid (unqAny l w hl hL)
  obtain ⟨ty, p, hE⟩ := hL.2
  clear hL
  go_enter Tryd.func38, Tryd.ntmps38
  go_wp2_with fail
  refine H.out.mono ?_
  rintro e w1 ⟨hr, hb⟩
  have HB := Lib.hid hb
  have hE1 : w1.cell? ⟨0, 0, none⟩ = some (.iface ty p) := (HB.out.cell (World.block_lt_of_cell? w _ hE)).trans hE
  clear hb H
  rcases hr with ⟨r, ty2, p2, rfl⟩ | ⟨x, r, rfl, hx, _⟩
  · by_cases h0 : (0 : Int) < (r.size : Int)
    · go_wp2_with fail
      go_region
      all_goals
        go_wp2_with fail
        go_ret2
        exact ⟨.inl ⟨_, _, _, rfl, rfl⟩, HB.out.drew⟩
    · go_wp2_with fail
      go_ret2
      exact ⟨.inl ⟨_, _, _, rfl, rfl⟩, HB.out⟩
  · by_cases h0 : (0 : Int) < (r.size : Int)
    · go_wp2_with fail
      go_region
      all_goals
        go_wp2_with fail
        go_ret2
        exact ⟨.inl ⟨_, _, _, rfl, rfl⟩, HB.out.drew⟩
    · go_wp2_with fail
      go_ret2
      exact ⟨.inr ⟨_, rfl, hx⟩, HB.out⟩
theorem libUnquoteQ (x : List UInt8) (w : World) (hl : (quoteN x).length ≤ 100000) (hL : LaidOK w) :
    Calls Tryd.prog 38 #[.string ⟨(quoteN x).toArray⟩] w (OneB (.tuple #[.string ⟨x.toArray⟩, .nilIface]) w) := by
  have H0 := unqQuote x [] w (by simpa using hl) hL
  rw [List.append_nil] at H0
  have H := Lib.hid H0
  clear H0 hL
  generalize quoteN x = l at *
  go_enter Tryd.func38, Tryd.ntmps38
  go_wp2_with fail
  refine H.out.mono ?_
  rintro e w1 ⟨rfl, hb⟩
  have HB := Lib.hid hb
  clear hb H
  have hs0 : (ByteArray.mk ([] : List UInt8).toArray).size = 0 := rfl
  go_wp2_with fail
  go_ret2
  exact ⟨rfl, HB.out⟩
/-- QuotedPrefix: a beginning of the line. -/
def PreP (l : List UInt8) (w : World) (e : Ending) (w' : World) : Prop :=
  (∃ (k : Nat) (er : Value), e = .returned (.tuple #[.string ⟨(l.take k).toArray⟩, er]) ∧ k ≤ l.length) ∧ Below w.heap.size w w'
theorem libPrefix (l : List UInt8) (w : World) (hl : l.length ≤ 100000) (h0 : ∀ h : 0 < l.length, l[0] = 34) (hL : LaidOK w) :
    Calls Tryd.prog 49 #[.string ⟨l.toArray⟩] w (PreP l w) := by
  have H := Lib.hid (preAny l w hl h0 hL)
  clear hL h0
  go_enter Tryd.func49, Tryd.ntmps49
  go_wp2_with fail
  refine H.out.mono ?_
  rintro e w1 ⟨hr, hb⟩
  have HB := Lib.hid hb
  clear hb H
  rcases hr with ⟨r, ty2, p2, rfl⟩ | ⟨x, r, rfl, _, hk⟩
  · go_wp2_with fail
    go_ret2
    exact ⟨⟨0, _, rfl, by omega⟩, HB.out⟩
  · obtain ⟨k, hk1, rfl⟩ := hk rfl
    go_wp2_with fail
    go_ret2
    exact ⟨⟨k, _, rfl, hk1⟩, HB.out⟩
theorem libPrefixQ (x R : List UInt8) (w : World) (hl : (quoteN x ++ R).length ≤ 100000) (hL : LaidOK w) :
    Calls Tryd.prog 49 #[.string ⟨(quoteN x ++ R).toArray⟩] w (OneB (.tuple #[.string ⟨(quoteN x).toArray⟩, .nilIface]) w) := by
  have H := Lib.hid (preQuote x R w hl hL)
  clear hL
  generalize quoteN x ++ R = l at *
  go_enter Tryd.func49, Tryd.ntmps49
  go_wp2_with fail
  refine H.out.mono ?_
  rintro e w1 ⟨rfl, hb⟩
  have HB := Lib.hid hb
  clear hb H
  go_wp2_with fail
  go_ret2
  exact ⟨rfl, HB.out⟩

end Go.Proofs.YtpkpacgmmhjfpaaDoor
