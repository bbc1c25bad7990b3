/- The reference of package vector: Text, Parse. -/
import Derived.Test.YteeigngomleijaaDoorVecH
import Derived.Test.YteeigngomleijaaDoorTextsW
namespace Go.Proofs.YteeigngomleijaaDoor
open Go.RowKit

theorem refText_v {r c : Int} (hv : validD r c = true) (w : World) :
    Calls Tryd.prog 13 #[.agg #[.int .i64 r, .int .i64 c]] w fun e w' => e = .returned (.string (txtB (r, c))) ∧ Below w.heap.size w w' := by
  have hb := hv
  simp [validD] at hb
  have h := refText r.toNat c.toNat w (by omega) (by omega)
  rwa [show ((r.toNat : Nat) : Int) = r by omega, show ((c.toNat : Nat) : Int) = c by omega] at h

theorem joinT_snoc : ∀ {v : List (Int × Int)} (d : Int × Int), v ≠ [] → joinT (v ++ [d]) = joinT v ++ 32 :: textL d.1.toNat d.2.toNat
  | [], _, h => absurd rfl h
  | [e], d, _ => by simp [joinT]
  | e :: f :: v, d, _ => by
    have ih := joinT_snoc (v := f :: v) d (by simp)
    simp only [List.cons_append, joinT] at ih ⊢
    rw [ih]; simp

set_option maxRecDepth 100000 in
set_option maxHeartbeats 2000000 in
theorem ref2Text (A : Option Addr) (xs : List (Int × Int)) (cap : Nat) (w : World) (hx : DotsAt w A xs) (hm : xs.length ≤ 100000) (hv : ∀ p ∈ xs, validD p.1 p.2 = true) :
    Calls Tryd.prog 43 #[.slice A xs.length cap] w fun e w' => e = .returned (.string ⟨(textVL xs).toArray⟩) ∧ Below w.heap.size w w' := by
  have HV := Lib.hid hv
  have HX := Lib.hid hx
  clear hv
  by_cases h0 : xs.length = 0
  · have hnil : xs = [] := List.eq_nil_of_length_eq_zero h0
    have hV : (⟨(textVL xs).toArray⟩ : ByteArray) = ⟨#[45]⟩ := by rw [hnil]; rfl
    rw [hV]
    have hl : ((xs.length : Int) == 0) = true := by rw [h0]; rfl
    clear hV hnil h0
    go_enter Tryd.func43, Tryd.ntmps43
    go_wp2_with fail
    go_ret
    exact ⟨rfl, Below.refl _ _⟩
  · have hne : xs ≠ [] := fun e => h0 (by rw [e]; rfl)
    have hV : (⟨(textVL xs).toArray⟩ : ByteArray) = ⟨(joinT xs).toArray⟩ := by simp [textVL, hne]
    rw [hV]
    have hl : ((xs.length : Int) == 0) = false := by simp; exact hne
    obtain ⟨b, off, r0, c0, rfl, hbl, hx1, hc0, hc1⟩ := hx.dot (j := 0) (by omega)
    simp only [Nat.zero_mul, Nat.add_zero] at hc0 hc1
    have h1 := refText_v (HV.out _ (List.mem_of_getElem? hx1)) w
    have ht1 : txtB (r0, c0) = ⟨(joinT (xs.take 1)).toArray⟩ := by rw [take_snoc hx1]; rfl
    rw [ht1] at h1
    have H1 := Lib.hid h1
    clear hV hx1 ht1 h1
    obtain ⟨s1, hs1⟩ : ∃ s1 : ByteArray, s1 = ⟨(joinT (xs.take 1)).toArray⟩ := ⟨_, rfl⟩
    rw [← hs1] at H1
    have HS1 := Lib.hid hs1
    clear hs1
    have hlen : 1 ≤ xs.length := by omega
    clear h0 hne
    go_enter Tryd.func43, Tryd.ntmps43
    go_wp2_with fail
    refine H1.out.mono ?_
    rintro e w1 ⟨rfl, hb1⟩
    clear hc0 hc1
    go_wp2_with fail
    go_loopw [3, 4] (fun sv i wr => ∃ (m : Nat) (s : ByteArray), 1 ≤ m ∧ m ≤ xs.length ∧ i = .int .i64 m ∧ sv = .string s ∧ Hid (s = ⟨(joinT (xs.take m)).toArray⟩) ∧ Below w.heap.size w wr) (fun _ i _ => xs.length - (intOf i).toNat)
    case atStart => exact ⟨1, s1, by omega, by omega, rfl, rfl, HS1, hb1⟩
    case round =>
      obtain ⟨m, s, hm1, hm2, rfl, rfl, hs, hb⟩ := hrel
      by_cases hlt : m < xs.length
      · obtain ⟨b', off', r, c, e0, hbl', hx1, hc0, hc1⟩ := (hx.below hb).dot hlt
        cases e0
        have hvd := HV.out _ (List.mem_of_getElem? hx1)
        have h1 := refText_v hvd wr
        have hts := text_short (d := (r, c)) hvd
        have hjs := joinT_short (v := xs.take m) fun p hp => HV.out p (List.mem_of_mem_take hp)
        have hll : (xs.take m).length = m := by simp; omega
        have hnx : s ++ ⟨#[32]⟩ ++ txtB (r, c) = ⟨(joinT (xs.take (m + 1))).toArray⟩ := by
          rw [hs.out, take_snoc hx1, joinT_snoc _ (by intro e; rw [e] at hll; simp at hll; omega)]
          apply ByteArray.ext; simp
        have hsz : s.size = (joinT (xs.take m)).length := by rw [hs.out]; simp [ByteArray.size]
        have htz : (txtB (r, c)).size ≤ 21 := by simpa [ByteArray.size] using hts
        generalize txtB (r, c) = t at h1 hnx htz
        have z1 : ¬ (9223372036854775807 < s.size + (⟨#[32]⟩ : ByteArray).size) := by have : (⟨#[32]⟩ : ByteArray).size = 1 := rfl; omega
        have z2 : ¬ (9223372036854775807 < (s ++ (⟨#[32]⟩ : ByteArray)).size + t.size) := by rw [ByteArray.size_append]; have : (⟨#[32]⟩ : ByteArray).size = 1 := rfl; omega
        have H2 := Lib.hid h1
        have HN := Lib.hid hnx
        clear hx1 hvd hts hjs hll hnx hsz htz h1
        go_wp2_with fail
        refine H2.out.mono ?_
        rintro e w2 ⟨rfl, hb2⟩
        have HB2 := Lib.hid (hb.trans (hb2.mono hb.size))
        clear hb2
        go_wp2
        go_roundw
        case rel => exact ⟨m + 1, _, by omega, by omega, by go_num, rfl, HN, HB2.out⟩
        case measure => simp [intOf]; omega
      · have hs2 := hs.out
        rw [List.take_of_length_le (by omega)] at hs2
        have HS2 := Lib.hid hs2
        clear hs2
        go_wp2
        go_ret
        exact ⟨by rw [HS2.out]; rfl, hb⟩

/-- What Parse of the reference returns. -/
def P2R (o : Option (List (Int × Int))) (e : Ending) (w' : World) : Prop :=
  (∀ v, o = some v → ∃ x, e = .returned (.tuple #[x, .bool true]) ∧ Holds w' x v) ∧ (o = none → e = .returned (.tuple #[.slice none 0 0, .bool false]))

/-- Where the reading stands. -/
def At (S : List UInt8) (m fr : Nat) (ys : List (Int × Int)) : Prop :=
  (m ≤ S.length → fr ≤ m ∧ scanF [] [] S = scanF ((S.drop fr).take (m - fr)) ys (S.drop m)) ∧ (m = S.length + 1 → scanF [] [] S = some ys)

theorem take_drop_snoc {S : List UInt8} {fr m : Nat} {x : UInt8} (h : fr ≤ m) (hx : S[m]? = some x) : (S.drop fr).take (m + 1 - fr) = (S.drop fr).take (m - fr) ++ [x] := by
  rw [show m + 1 - fr = (m - fr) + 1 by omega]
  apply take_snoc
  rw [List.getElem?_drop, show fr + (m - fr) = m by omega, hx]
theorem drop_cons {S : List UInt8} {m : Nat} {x : UInt8} (hx : S[m]? = some x) : S.drop m = x :: S.drop (m + 1) := by
  obtain ⟨hl, hx2⟩ := List.getElem?_eq_some_iff.1 hx
  rw [← hx2]; exact List.drop_eq_getElem_cons hl
theorem At.go {S : List UInt8} {m fr : Nat} {ys : List (Int × Int)} {x : UInt8} (h : At S m fr ys) (hx : S[m]? = some x) (h32 : x.toNat ≠ 32) : At S (m + 1) fr ys := by
  have hl := (List.getElem?_eq_some_iff.1 hx).1
  obtain ⟨h1, h2⟩ := h.1 (by omega)
  refine ⟨fun _ => ⟨by omega, ?_⟩, fun e => by omega⟩
  rw [h2, drop_cons hx, scanF, if_neg h32, take_drop_snoc h1 hx]
theorem At.none {S : List UInt8} {m fr : Nat} {ys : List (Int × Int)} (h : At S m fr ys) (hm : m ≤ S.length) (h32 : ∀ x, S[m]? = some x → x.toNat = 32) (hp : parseL ((S.drop fr).take (m - fr)) = none) : scanF [] [] S = none := by
  obtain ⟨h1, h2⟩ := h.1 hm
  rw [h2]
  cases hx : S[m]? with
  | none =>
    have e : S.drop m = [] := List.drop_eq_nil_of_le (List.getElem?_eq_none_iff.1 hx)
    rw [e, scanF, hp]
  | some x => rw [drop_cons hx, scanF, if_pos (h32 x hx), hp]
theorem At.some {S : List UInt8} {m fr : Nat} {ys : List (Int × Int)} {d : Int × Int} (h : At S m fr ys) (hm : m ≤ S.length) (h32 : ∀ x, S[m]? = some x → x.toNat = 32) (hp : parseL ((S.drop fr).take (m - fr)) = some d) : At S (m + 1) (m + 1) (ys ++ [d]) := by
  obtain ⟨h1, h2⟩ := h.1 hm
  cases hx : S[m]? with
  | none =>
    rw [List.getElem?_eq_none_iff] at hx
    refine ⟨fun e => by omega, fun _ => ?_⟩
    have e : S.drop m = [] := List.drop_eq_nil_of_le hx
    rw [h2, e, scanF, hp]
  | some x =>
    have hl := (List.getElem?_eq_some_iff.1 hx).1
    refine ⟨fun _ => ⟨Nat.le_refl _, ?_⟩, fun e => by omega⟩
    rw [h2, drop_cons hx, scanF, if_pos (h32 x hx), hp]
    simp
theorem field_data (s : ByteArray) (fr m : Nat) : (s.extract fr m).data.toList = (s.data.toList.drop fr).take (m - fr) := by
  rw [ByteArray.data_extract, Array.toList_extract]

theorem heap_alloc_new2 (W : World) (o1 o2 : Obj) : ((W.alloc o1).alloc o2).heap[W.heap.size + 1]? = some o2 := by
  have h := heap_alloc_new (W.alloc o1) o2
  rwa [World.size_alloc] at h
/-- What it returns. -/
def resF : Option (Int × Int) → Value
  | some d => .tuple #[.agg #[.int .i64 d.1, .int .i64 d.2], .bool true]
  | none => .tuple #[.agg #[.int .i64 0, .int .i64 0], .bool false]
/-- Parse of the reference's first layer, at a field. -/
theorem refField (s : ByteArray) (fr m : Nat) (hs : s.size ≤ 1000) (o : Option (Int × Int)) (ho : parseL ((s.data.toList.drop fr).take (m - fr)) = o) (w : World) :
    Calls Tryd.prog 14 #[.string (s.extract fr m)] w fun e w' => e = .returned (resF o) ∧ Below w.heap.size w w' := by
  have hz : (s.extract fr m).size ≤ 1000000 := by rw [ByteArray.size_extract]; omega
  have h := refParse (s.extract fr m) w hz
  rw [field_data] at h
  have hR := parseR_eq ((s.data.toList.drop fr).take (m - fr))
  rw [ho] at hR
  cases o with
  | none => rw [parseRV_none hR] at h; exact h
  | some d => rw [parseRV_some (r := d.1) (c := d.2) hR] at h; exact h

set_option maxRecDepth 100000 in
set_option maxHeartbeats 2000000 in
theorem ref2Parse (s : ByteArray) (w : World) (hm : s.size ≤ 1000) :
    Calls Tryd.prog 44 #[.string s] w fun e w' => P2R (parseVL s.data.toList) e w' ∧ Below w.heap.size w w' := by
  obtain ⟨i0, hi0, hz0, hz1, hz2⟩ := info_parts infoD
  by_cases hd : s.data.toList = [45]
  · have hs : s = ⟨#[45]⟩ := by apply ByteArray.ext; apply Array.toList_inj.1; exact hd
    have hp : parseVL s.data.toList = some [] := by rw [hd]; rfl
    have HP := Lib.hid hp
    have HS := Lib.hid hs
    have hn : (s.toList == [45]) = true := by rw [ByteArray.toList_eq, hd]; rfl
    clear hp hs hd
    go_enter Tryd.func44, Tryd.ntmps44
    go_wp2_with fail
    go_ret2
    rw [HP.out]
    exact ⟨⟨fun v h => (by cases h; exact ⟨_, rfl, Holds.nil _⟩), fun h => (by cases h)⟩, Below.refl _ _⟩
  · have hpn : scanF [] [] s.data.toList = none → parseVL s.data.toList = none := fun h => by rw [parseVL, if_neg hd, h]
    have hps : ∀ v, scanF [] [] s.data.toList = some v → parseVL s.data.toList = if validV v then some v else none := fun v h => by rw [parseVL, if_neg hd, h]
    have hn : (s.toList == [45]) = false := by rw [ByteArray.toList_eq, beq_eq_false_iff_ne]; exact hd
    have HPN := Lib.hid hpn
    have HPS := Lib.hid hps
    have hSl : s.data.toList.length = s.size := by rw [Array.length_toList]; rfl
    have HSL := Lib.hid hSl
    have HM := Lib.hid hm
    clear hpn hps hd hSl
    go_enter Tryd.func44, Tryd.ntmps44
    go_wp2_with fail
    go_loopw [4, 5, 6, 7, 8] (fun sv sf si _ _ wr => ∃ (m fr : Nat) (ys : List (Int × Int)), m ≤ s.size + 1 ∧ fr ≤ m ∧ si = .int .i64 m ∧ sf = .int .i64 fr ∧ ys.length ≤ m ∧ Hid (wr.ownsRow w.heap.size 23 2 sv ys.length (cellsOf encD ys)) ∧ Hid (Below w.heap.size w wr) ∧ Hid (At s.data.toList m fr ys)) (fun _ _ si _ _ _ => s.size + 1 - (intOf si).toNat)
    case atStart => exact ⟨0, 0, [], by omega, by omega, rfl, rfl, by simp, World.ownsRow_nil _ _ _ _, Below.refl _ _, ⟨fun _ => ⟨by omega, by simp⟩, fun h => by omega⟩⟩
    case round =>
      obtain ⟨m, fr, ys, hm1, hfm, rfl, rfl, hyl, ho, hB, hA⟩ := hrel
      by_cases hlt : m < s.size
      · obtain ⟨x, hx⟩ : ∃ x, s.data.toList[m]? = some x := ⟨_, List.getElem?_eq_getElem (by simpa using hlt)⟩
        have hsx : s[m]'hlt = x := by
          have hx' := hx
          rw [Array.getElem?_toList] at hx'
          obtain ⟨_, h⟩ := Array.getElem?_eq_some_iff.1 hx'
          exact h
        have hsn : (((s[m]'hlt).toNat : Int)) = (x.toNat : Int) := by rw [hsx]
        by_cases h32 : x.toNat = 32
        · have te : (((s[m]'hlt).toNat : Int) == 32) = true := by rw [hsn, h32]; rfl
          have te2 : ((s[m]'hlt).toNat : Int) = 32 := by omega
          have h33 : ∀ y, s.data.toList[m]? = some y → y.toNat = 32 := fun y hy => by rw [hx] at hy; cases hy; exact h32
          cases hp : parseL ((s.data.toList.drop fr).take (m - fr)) with
          | none =>
            have HV := Lib.hid (HPN.out (hA.out.none (by rw [HSL.out]; omega) h33 hp))
            have HF := Lib.hid (refField s fr m hm none hp wr)
            unfold resF at HF
            clear hsn hsx hx hp h33
            go_wp2_with fail
            refine HF.out.mono ?_
            rintro e w1 ⟨rfl, hb1⟩
            have HB1 := Lib.hid ((hB.out.trans (hb1.mono hB.out.size)).alloc (by have := hB.out.size; have := hb1.size; omega) (.cells #[.int .i64 0, .int .i64 0] 23))
            clear hb1
            go_wp2_with fail
            go_ret2
            rw [HV.out]
            exact ⟨⟨fun v h => (by cases h), fun _ => rfl⟩, HB1.out⟩
          | some d =>
            have HA2 := Lib.hid (hA.out.some (by rw [HSL.out]; omega) h33 hp)
            have HF := Lib.hid (refField s fr m hm (some d) hp wr)
            obtain ⟨dr, dc⟩ := d
            unfold resF at HF
            clear hsn hsx hx hp h33
            go_wp2_with fail
            refine HF.out.mono ?_
            rintro e w1 ⟨rfl, hb1⟩
            have ho1 := ho.out.kept (grown_of_below2 hb1 none) (by cases u4.ownBlock <;> simp)
            have HO1 := Lib.hid ho1
            have HB1 := Lib.hid (hB.out.trans (hb1.mono hB.out.size))
            clear hb1 ho1
            go_wp2_with (first
              | (at_builtin; refine wpList_append_sl (o := ⟨some 40, _, _, _, _, _⟩) _ encD 2 rfl (.tmp 37) (.tmp 39) 42 rfl encD_len (by omega) encD_one w.heap.size 23 i0 _ 16 Tryd.underlying42 hi0 hz0 hz1 hz2 rfl _ ys rfl ((HO1.out.alloc _).alloc _) _ 1 _ [(dr, dc)] rfl rfl (SlAt.one (heap_alloc_new2 _ _ _)) (by simp [maxLen]; have := HM.out; omega) (by simp; have := HM.out; omega) (by have := HB1.out.size; simp; omega) ?_; intro v3 w3 hown3 hg3 hat3)
              | go_in)
            have hB3 := ((HB1.out.alloc HB1.out.size (.cells #[.int .i64 dr, .int .i64 dc] 23)).alloc (by have := HB1.out.size; simp; omega) (.cells #[.int .i64 dr, .int .i64 dc] 23)).grown hg3 (by have := HB1.out.size; simp; omega) (fun j hj => (HO1.out.lt j hj).1)
            go_roundw
            case rel => exact ⟨m + 1, m + 1, ys ++ [(dr, dc)], by omega, by omega, by go_num, by go_num, by simp; omega, hown3, hB3, HA2⟩
            case measure => simp [intOf]; omega
        · have te : (((s[m]'hlt).toNat : Int) == 32) = false := by rw [hsn, beq_eq_false_iff_ne]; omega
          have te2 : ¬ ((s[m]'hlt).toNat : Int) = 32 := by omega
          have HA2 := Lib.hid (hA.out.go hx h32)
          clear hsn hsx hx
          go_wp2_with fail
          exact ⟨⟨m + 1, fr, ys, by omega, by omega, by go_num, rfl, by omega, ho, hB, HA2⟩, by simp [intOf]; omega⟩
      · by_cases he : m = s.size
        · have hle : m ≤ s.size := by omega
          have h33 : ∀ y, s.data.toList[m]? = some y → y.toNat = 32 := fun y hy => by rw [List.getElem?_eq_none (by rw [HSL.out]; omega)] at hy; cases hy
          cases hp : parseL ((s.data.toList.drop fr).take (m - fr)) with
          | none =>
            have HV := Lib.hid (HPN.out (hA.out.none (by rw [HSL.out]; omega) h33 hp))
            have HF := Lib.hid (refField s fr m hm none hp wr)
            unfold resF at HF
            have HE := Lib.hid he
            clear hp h33 he
            go_wp2_with fail
            refine HF.out.mono ?_
            rintro e w1 ⟨rfl, hb1⟩
            have HB1 := Lib.hid ((hB.out.trans (hb1.mono hB.out.size)).alloc (by have := hB.out.size; have := hb1.size; omega) (.cells #[.int .i64 0, .int .i64 0] 23))
            clear hb1
            go_wp2_with fail
            go_ret2
            rw [HV.out]
            exact ⟨⟨fun v h => (by cases h), fun _ => rfl⟩, HB1.out⟩
          | some d =>
            have HA2 := Lib.hid (hA.out.some (by rw [HSL.out]; omega) h33 hp)
            have HF := Lib.hid (refField s fr m hm (some d) hp wr)
            obtain ⟨dr, dc⟩ := d
            unfold resF at HF
            have HE := Lib.hid he
            clear hp h33 he
            go_wp2_with fail
            refine HF.out.mono ?_
            rintro e w1 ⟨rfl, hb1⟩
            have ho1 := ho.out.kept (grown_of_below2 hb1 none) (by cases u4.ownBlock <;> simp)
            have HO1 := Lib.hid ho1
            have HB1 := Lib.hid (hB.out.trans (hb1.mono hB.out.size))
            clear hb1 ho1
            go_wp2_with (first
              | (at_builtin; refine wpList_append_sl (o := ⟨some 40, _, _, _, _, _⟩) _ encD 2 rfl (.tmp 37) (.tmp 39) 42 rfl encD_len (by omega) encD_one w.heap.size 23 i0 _ 16 Tryd.underlying42 hi0 hz0 hz1 hz2 rfl _ ys rfl ((HO1.out.alloc _).alloc _) _ 1 _ [(dr, dc)] rfl rfl (SlAt.one (heap_alloc_new2 _ _ _)) (by simp [maxLen]; have := HM.out; omega) (by simp; have := HM.out; omega) (by have := HB1.out.size; simp; omega) ?_; intro v3 w3 hown3 hg3 hat3)
              | go_in)
            have hB3 := ((HB1.out.alloc HB1.out.size (.cells #[.int .i64 dr, .int .i64 dc] 23)).alloc (by have := HB1.out.size; simp; omega) (.cells #[.int .i64 dr, .int .i64 dc] 23)).grown hg3 (by have := HB1.out.size; simp; omega) (fun j hj => (HO1.out.lt j hj).1)
            go_roundw
            case rel => exact ⟨m + 1, m + 1, ys ++ [(dr, dc)], by have := HE.out; omega, by omega, by go_num, by go_num, by simp; omega, hown3, hB3, HA2⟩
            case measure => have := HE.out; simp [intOf]; omega
        · have hle : ¬ m ≤ s.size := by omega
          have hsc := hA.out.2 (by rw [HSL.out]; omega)
          have hpv := HPS.out ys hsc
          obtain ⟨A', c', e0, h1', h2', h3'⟩ := SlAt.of_own encD_len ho.out
          have HH := Lib.hid (show Holds wr u4 ys from ⟨A', c', e0, h3', h1', h2'⟩)
          have hva := fun (b : Bool) (hb : validV ys = b) => (show Calls Tryd.prog 27 #[u4] wr fun e w' => e = .returned (.bool b) ∧ Below wr.heap.size wr w' from by
            rw [e0, ← hb]; exact ref2Valid A' ys c' wr h3' (Nat.le_trans h1' h2'))
          have HVA := Lib.hid hva
          have HPV := Lib.hid hpv
          clear hsc hpv h1' h2' h3' hva e0
          cases hb : validV ys
          · have hpv2 := HPV.out
            rw [hb] at hpv2
            have HPV2 := Lib.hid hpv2
            have HC := Lib.hid (HVA.out false hb)
            clear hpv2 hb HPV HVA
            go_wp2_with fail
            refine HC.out.mono ?_
            rintro e w1 ⟨rfl, hb1⟩
            have HB1 := Lib.hid (hB.out.trans (hb1.mono hB.out.size)); clear hb1
            go_wp2_with fail
            go_ret2
            rw [HPV2.out]
            exact ⟨⟨fun v h => (by cases h), fun _ => rfl⟩, HB1.out⟩
          · have hpv2 := HPV.out
            rw [hb] at hpv2
            have HPV2 := Lib.hid hpv2
            have HC := Lib.hid (HVA.out true hb)
            clear hpv2 hb HPV HVA
            go_wp2_with fail
            refine HC.out.mono ?_
            rintro e w1 ⟨rfl, hb1⟩
            have HB1 := Lib.hid (hB.out.trans (hb1.mono hB.out.size))
            have HH1 := Lib.hid (HH.out.below hb1)
            clear hb1
            go_wp2_with fail
            go_ret2
            rw [HPV2.out]
            exact ⟨⟨fun v h => (by cases h; exact ⟨_, rfl, HH1.out⟩), fun h => (by cases h)⟩, HB1.out⟩

end Go.Proofs.YteeigngomleijaaDoor
