/- The reference's Fields. -/
import Derived.Test.YtpkpacgmmhjfpaaDoorNamG
namespace Go.Proofs.YtpkpacgmmhjfpaaDoor
open Go.RowKit

theorem takeWhile_take {α : Type} {p : α → Bool} : ∀ (R : List α) (k : Nat), (∀ i, i < k → ∀ c, R[i]? = some c → p c = true) → k ≤ R.length → (∀ c, R[k]? = some c → p c = false) → R.takeWhile p = R.take k
  | [], k, _, hk, _ => by simp
  | a :: r, 0, _, _, h2 => by
    have := h2 a rfl
    simp [this]
  | a :: r, k + 1, h1, hk, h2 => by
    have h0 := h1 0 (by omega) a rfl
    have ih := takeWhile_take r k (fun i hi c hc => h1 (i + 1) (by omega) c hc) (by simpa using hk) (fun c hc => h2 c hc)
    rw [List.takeWhile_cons, h0, if_pos rfl, ih]
    rfl
/-- The bytes from m to e are neither spaces nor quotation marks. -/
def PlainTo (l : List UInt8) (m e : Nat) : Prop := ∀ i, m ≤ i → i < e → ∀ c, l[i]? = some c → c.toNat ≠ 32 ∧ c.toNat ≠ 34
theorem PlainTo.next {l : List UInt8} {m e : Nat} {b : UInt8} (h : PlainTo l m e) (hb : l[e]? = some b) (h1 : b.toNat ≠ 32) (h2 : b.toNat ≠ 34) : PlainTo l m (e + 1) := fun i hi hie c hc => by
  by_cases hlt : i < e
  · exact h i hi hlt c hc
  · have : i = e := by omega
    subst this
    rw [hb] at hc
    cases hc
    exact ⟨h1, h2⟩
theorem plainL_take {l : List UInt8} {m e : Nat} (h : PlainTo l m e) (hme : m ≤ e) (hel : e ≤ l.length) (hs : ∀ c, l[e]? = some c → c.toNat = 32 ∨ c.toNat = 34) : plainL (l.drop m) = (l.drop m).take (e - m) := by
  refine takeWhile_take _ _ (fun i hi c hc => ?_) (by rw [List.length_drop]; omega) fun c hc => ?_
  · rw [List.getElem?_drop] at hc
    obtain ⟨h1, h2⟩ := h (m + i) (by omega) (by omega) c hc
    simp [h1, h2]
  · rw [List.getElem?_drop, show m + (e - m) = e by omega] at hc
    rcases hs c hc with h | h <;> simp [h]
theorem extract_take (l : List UInt8) (m e : Nat) : (ByteArray.mk l.toArray).extract m e = ⟨((l.drop m).take (e - m)).toArray⟩ := by
  apply ByteArray.ext
  rw [ByteArray.data_extract]
  apply Array.toList_inj.1
  rw [Array.toList_extract]
theorem fieldsN_field {s x : List UInt8} {n : Nat} (ha : ∀ a, s[0]? = some a → a.toNat ≠ 32) (hn : fieldN s = some (x, n)) (ht : ∀ b, (s.drop n)[0]? = some b → b.toNat = 32) : fieldsN s = (fieldsN (s.drop n)).map (x :: ·) := by
  match s with
  | [] => cases hn
  | a :: r =>
    cases hd : (a :: r).drop n with
    | nil => rw [fieldsN_last (ha a rfl) hn hd]; rfl
    | cons b t =>
      rw [hd] at ht
      exact fieldsN_next (ha a rfl) hn hd (ht b rfl)
theorem fieldsN_stop {s x : List UInt8} {n : Nat} {b : UInt8} (ha : ∀ a, s[0]? = some a → a.toNat ≠ 32) (hn : fieldN s = some (x, n)) (ht : (s.drop n)[0]? = some b) (hb : b.toNat ≠ 32) : fieldsN s = none := by
  match s with
  | [] => cases hn
  | a :: r =>
    cases hd : (a :: r).drop n with
    | nil => rw [hd] at ht; cases ht
    | cons b' t =>
      rw [hd] at ht
      cases ht
      exact fieldsN_bad (ha a rfl) hn hd hb

/-- What Fields of the reference returns. -/
def FldR (o : Option (List (List UInt8))) (w : World) (e : Ending) (w' : World) : Prop :=
  (∀ v, o = some v → ∃ x, e = .returned (.tuple #[x, .bool true]) ∧ HoldsS w' x v) ∧ (o = none → e = .returned (.tuple #[.slice none 0 0, .bool false])) ∧ Below w.heap.size w w'
theorem FldR.no {o : Option (List (List UInt8))} {w w' : World} (h : o = none) (hb : Below w.heap.size w w') : FldR o w (.returned (.tuple #[.slice none 0 0, .bool false])) w' := ⟨fun v e => by (rw [h] at e; cases e), fun _ => rfl, hb⟩
theorem FldR.yes {o : Option (List (List UInt8))} {x : Value} {v : List (List UInt8)} {w w' : World} (h : o = some v) (hx : HoldsS w' x v) (hb : Below w.heap.size w w') : FldR o w (.returned (.tuple #[x, .bool true])) w' := ⟨fun u e => by (rw [h] at e; cases e; exact ⟨x, rfl, hx⟩), fun e => by (rw [h] at e; cases e), hb⟩
/-- Where the reading of a line stands. -/
def FldAt (l : List UInt8) (m : Nat) (xs : List (List UInt8)) : Prop := fieldsN l = (fieldsN (l.drop m)).map (xs ++ ·)
theorem FldAt.field {l x : List UInt8} {m n : Nat} {xs : List (List UInt8)} (h : FldAt l m xs) (ha : ∀ a, (l.drop m)[0]? = some a → a.toNat ≠ 32) (hn : fieldN (l.drop m) = some (x, n)) (ht : ∀ b, l[m + n]? = some b → b.toNat = 32) : FldAt l (m + n) (xs ++ [x]) := by
  unfold FldAt at *
  rw [h, fieldsN_field ha hn (fun b hb => ht b (by rw [List.drop_drop, List.getElem?_drop] at hb; exact hb)), List.drop_drop, Option.map_map]
  congr 1
  funext y
  simp
theorem FldAt.stop {l x : List UInt8} {m n : Nat} {xs : List (List UInt8)} {b : UInt8} (h : FldAt l m xs) (ha : ∀ a, (l.drop m)[0]? = some a → a.toNat ≠ 32) (hn : fieldN (l.drop m) = some (x, n)) (ht : l[m + n]? = some b) (hb : b.toNat ≠ 32) : fieldsN l = none := by
  rw [h, fieldsN_stop ha hn (by rw [List.drop_drop, List.getElem?_drop]; exact ht) hb]
  rfl
theorem rowS_one {w : World} {x : List UInt8} : StrsAt (w.alloc (.cells #[.string ⟨x.toArray⟩] 9)) (some ⟨w.heap.size, 0, none⟩) [x] := SlAt.one (t := 9) (heap_alloc_new w _)
theorem RowS.at {w : World} {B : Nat} {D : Option Addr} {d : Nat} {xs : List (List UInt8)} (h : RowS w B (.slice D xs.length d) xs) : HoldsS w (.slice D xs.length d) xs := HoldsS.of_own h

set_option maxRecDepth 100000 in
set_option maxHeartbeats 4000000 in
theorem refFields (l : List UInt8) (w : World) (hl : l.length ≤ 100000) :
    Calls Tryd.prog 19 #[.string ⟨l.toArray⟩] w (FldR (fieldsN l) w) := by
  obtain ⟨ti0, hi0, hz0, hz1, hz2⟩ := info_parts infoS
  have hsz := size_mk l
  go_enter Tryd.func19, Tryd.ntmps19
  go_wp2_with fail
  go_loopw [4, 5] (fun s4 s5 wr => ∃ (m : Nat) (D : Option Addr) (d : Nat) (xs : List (List UInt8)), m ≤ l.length ∧ xs.length ≤ m ∧ s4 = .slice D xs.length d ∧ s5 = .int .i64 m ∧ Hid (RowS wr w.heap.size (.slice D xs.length d) xs) ∧ Hid (Below w.heap.size w wr) ∧ Hid (FldAt l m xs)) (fun _ s5 _ => l.length - (intOf s5).toNat)
  case atStart => exact ⟨0, none, 0, [], by omega, by simp, rfl, rfl, World.ownsRow_nil _ _ _ _, Below.refl _ _, show Hid (FldAt l 0 []) from by (show FldAt l 0 []; unfold FldAt; simp)⟩
  case round =>
    obtain ⟨m, D, d, xs, hm, hxm, rfl, rfl, HO, HB, HQ⟩ := hrel
    by_cases hlt : m < l.length
    · have i0 : (m : Int) < (l.length : Int) := by omega
      obtain ⟨b, hb⟩ : ∃ b, l[m] = b := ⟨_, rfl⟩
      have hx := str_at hlt
      rw [hb] at hx
      have hx2 : l[m] = b := hb
      have hdr : l.drop m = b :: l.drop (m + 1) := by rw [List.drop_eq_getElem_cons hlt, hb]
      by_cases hb32 : b.toNat = 32
      · have k0 : ((b.toNat : Int) == 32) = true := eqT (by omega)
        have HS := Lib.hid (show FldAt l (m + 1) xs from by
          have h := HQ.out
          unfold FldAt at h ⊢
          rw [h, hdr, fieldsN_space hb32])
        clear hdr hb32
        go_wp2_with fail
        go_roundw
        case rel => exact ⟨m + 1, D, d, xs, by omega, by omega, rfl, by go_num, HO, HB, HS⟩
        case measure => simp [intOf]; omega
      have k0 : ((b.toNat : Int) == 32) = false := eqF (by omega)
      have HA := Lib.hid (show ∀ a, (l.drop m)[0]? = some a → a.toNat ≠ 32 from fun a ha => by rw [hdr] at ha; cases ha; exact hb32)
      by_cases hb34 : b.toNat = 34
      · have k1 : ((b.toNat : Int) == 34) = true := eqT (by omega)
        obtain ⟨R, hR⟩ : ∃ R, l.drop m = R := ⟨_, rfl⟩
        have ex := extract_drop l m
        rw [hR] at ex
        have i2 : (m : Int) ≤ (l.length : Int) := by omega
        have hRn : R.length = l.length - m := by rw [← hR, List.length_drop]
        have HF := fun W => refFirst R W (by omega)
        have HFN := Lib.hid (show fieldN (l.drop m) = firstN R from by rw [← hR, hdr]; unfold fieldN; simp only; rw [if_pos hb34])
        cases hf : firstN R with
        | none =>
          rw [hf] at HF HFN
          have H1 := Lib.hid HF
          have HN := Lib.hid (show fieldsN l = none from by
            have h := HQ.out
            unfold FldAt at h
            rw [h]
            have h2 := HFN.out
            rw [hdr] at h2 ⊢
            rw [fieldsN_none hb32 h2]; rfl)
          clear HF hf hdr hb32 hb34 hR
          go_wp2_with fail
          refine (H1.out _).mono ?_
          rintro e w1 ⟨rfl, hb1⟩
          have HB1 := Lib.hid (below_trans HB.out hb1)
          clear hb1
          unfold firstV
          go_wp2_with fail
          go_ret2
          exact FldR.no HN.out HB1.out
        | some y =>
          obtain ⟨x, n⟩ := y
          have hnl := firstN_len hf
          rw [hf] at HF HFN
          have H1 := Lib.hid HF
          have hmn : m + n ≤ l.length := by omega
          have HXM := Lib.hid (show xs.length ≤ 100000 from by omega)
          clear HF hf hdr hb32 hb34 hR
          go_wp2_with fail
          refine (H1.out _).mono ?_
          rintro e w1 ⟨rfl, hb1⟩
          have HB1 := Lib.hid (below_trans HB.out hb1)
          have HO1 := Lib.hid (own_keep HO.out hb1)
          clear hb1
          unfold firstV
          obtain ⟨p, hp⟩ : ∃ p, m + n = p := ⟨_, rfl⟩
          have ep : (m : Int) + (n : Int) = (p : Int) := by omega
          have hpl : p ≤ l.length := by omega
          have hyl : (xs ++ [x]).length ≤ p := by rw [List.length_append, List.length_singleton]; omega
          have hpm : m < p := by omega
          by_cases hpe : p = l.length
          · have i3 : ¬ (p : Int) < (l.length : Int) := by omega
            have HS := Lib.hid (show FldAt l p (xs ++ [x]) from by
              rw [← hp]
              exact HQ.out.field HA.out HFN.out (fun c hc => by rw [List.getElem?_eq_none (by omega)] at hc; cases hc))
            clear hpe hp
            go_wp2_with (at_builtin; refine wpList_append_sl _ encS 1 rfl (.tmp 35) (.tmp 37) 28 rfl encS_len (by omega) encS_one w.heap.size 9 ti0 _ 16 Tryd.underlying28 hi0 hz0 hz1 hz2 rfl _ xs rfl (HO1.out.alloc _) _ 1 _ [x] rfl rfl rowS_one (by simp [maxLen]; have := HXM.out; omega) (by simp; have := HXM.out; omega) (by have := HB1.out.size; simp; omega) ?_; intro v1 w2 hown hg hat; have HB2 := Lib.hid ((HB1.out.alloc HB1.out.size _).grown hg (by have := HB1.out.size; simp; omega) (fun k hk => (HO1.out.lt k hk).1)); obtain ⟨D2, d3, rfl, _⟩ := SlAt.of_own encS_len hown; have HO2 := Lib.hid hown; clear hown hg hat)
            go_roundw
            case rel => exact ⟨p, D2, d3, xs ++ [x], hpl, hyl, by rw [List.length_append]; rfl, rfl, HO2, HB2, HS⟩
            case measure => simp [intOf]; omega
          have hpl2 : p < l.length := by omega
          have i3 : (p : Int) < (l.length : Int) := by omega
          obtain ⟨c, hc⟩ : ∃ c, l[p] = c := ⟨_, rfl⟩
          have hy := str_at hpl2
          rw [hc] at hy
          have hy2 : l[p] = c := hc
          have hgc : l[m + n]? = some c := by rw [hp, ← hc]; exact List.getElem?_eq_getElem hpl2
          by_cases hc32 : c.toNat = 32
          · have k3 : ((c.toNat : Int) != 32) = false := neF (by omega)
            have HS := Lib.hid (show FldAt l p (xs ++ [x]) from by
              rw [← hp]
              exact HQ.out.field HA.out HFN.out (fun c' hc' => by rw [hgc] at hc'; cases hc'; exact hc32))
            clear hpe hgc hp hc32
            go_wp2_with (at_builtin; refine wpList_append_sl _ encS 1 rfl (.tmp 35) (.tmp 37) 28 rfl encS_len (by omega) encS_one w.heap.size 9 ti0 _ 16 Tryd.underlying28 hi0 hz0 hz1 hz2 rfl _ xs rfl (HO1.out.alloc _) _ 1 _ [x] rfl rfl rowS_one (by simp [maxLen]; have := HXM.out; omega) (by simp; have := HXM.out; omega) (by have := HB1.out.size; simp; omega) ?_; intro v1 w2 hown hg hat; have HB2 := Lib.hid ((HB1.out.alloc HB1.out.size _).grown hg (by have := HB1.out.size; simp; omega) (fun k hk => (HO1.out.lt k hk).1)); obtain ⟨D2, d3, rfl, _⟩ := SlAt.of_own encS_len hown; have HO2 := Lib.hid hown; clear hown hg hat)
            go_roundw
            case rel => exact ⟨p, D2, d3, xs ++ [x], hpl, hyl, by rw [List.length_append]; rfl, rfl, HO2, HB2, HS⟩
            case measure => simp [intOf]; omega
          · have k3 : ((c.toNat : Int) != 32) = true := neT (by omega)
            have HN := Lib.hid (HQ.out.stop HA.out HFN.out hgc hc32)
            clear hpe hgc hp hc32
            go_wp2_with (at_builtin; refine wpList_append_sl _ encS 1 rfl (.tmp 35) (.tmp 37) 28 rfl encS_len (by omega) encS_one w.heap.size 9 ti0 _ 16 Tryd.underlying28 hi0 hz0 hz1 hz2 rfl _ xs rfl (HO1.out.alloc _) _ 1 _ [x] rfl rfl rowS_one (by simp [maxLen]; have := HXM.out; omega) (by simp; have := HXM.out; omega) (by have := HB1.out.size; simp; omega) ?_; intro v1 w2 hown hg hat; have HB2 := Lib.hid ((HB1.out.alloc HB1.out.size _).grown hg (by have := HB1.out.size; simp; omega) (fun k hk => (HO1.out.lt k hk).1)); obtain ⟨D2, d3, rfl, _⟩ := SlAt.of_own encS_len hown; have HO2 := Lib.hid hown; clear hown hg hat)
            go_ret2
            exact FldR.no HN.out HB2.out
      have k1 : ((b.toNat : Int) == 34) = false := eqF (by omega)
      have HF0 := Lib.hid (show ∀ x, plainL (l.drop m) = x → fieldN (l.drop m) = some (x, x.length) from fun x h => by
        rw [← h, hdr]; unfold fieldN; simp only; rw [if_neg hb34])
      clear hdr
      go_wp2_with fail
      obtain ⟨wq, rfl⟩ : ∃ W, W = wr := ⟨_, rfl⟩
      go_loopw [6] (fun a wr => ∃ (e : Nat), m ≤ e ∧ e ≤ l.length ∧ a = .int .i64 e ∧ wr = wq ∧ Hid (PlainTo l m e)) (fun a _ => l.length - (intOf a).toNat)
      case atStart => exact ⟨m, by omega, by omega, rfl, rfl, show Hid (PlainTo l m m) from fun i h1 h2 => by omega⟩
      case round =>
        obtain ⟨p, hmp, hpl, rfl, rfl, HP⟩ := hrel
        have HO1 := HO
        have HB1 := HB
        have HXM := Lib.hid (show xs.length ≤ 100000 from by omega)
        obtain ⟨x, hxx⟩ : ∃ x, (l.drop m).take (p - m) = x := ⟨_, rfl⟩
        have hxl : x.length = p - m := by rw [← hxx, List.length_take, List.length_drop]; omega
        have ex := extract_take l m p
        rw [hxx] at ex
        have i5 : (m : Int) ≤ (p : Int) := by omega
        have i6 : (p : Int) ≤ (l.length : Int) := by omega
        by_cases hpe : p = l.length
        · have i3 : ¬ (p : Int) < (l.length : Int) := by omega
          have HFN := HF0.out x ((plainL_take HP.out hmp hpl (fun c hc => by rw [List.getElem?_eq_none (by omega)] at hc; cases hc)).trans hxx)
          have hn : m + x.length = p := by omega
          have HS := Lib.hid (show FldAt l p (xs ++ [x]) from by
            rw [← hn]
            exact HQ.out.field HA.out HFN (fun c hc => by rw [List.getElem?_eq_none (by omega)] at hc; cases hc))
          have hpm : m < p := by omega
          have hyl : (xs ++ [x]).length ≤ p := by rw [List.length_append, List.length_singleton]; omega
          clear hpe hxx HFN hn hxl
          go_wp2_with (at_builtin; refine wpList_append_sl _ encS 1 rfl (.tmp 60) (.tmp 65) 28 rfl encS_len (by omega) encS_one w.heap.size 9 ti0 _ 16 Tryd.underlying28 hi0 hz0 hz1 hz2 rfl _ xs rfl (HO1.out.alloc _) _ 1 _ [x] rfl rfl rowS_one (by simp [maxLen]; have := HXM.out; omega) (by simp; have := HXM.out; omega) (by have := HB1.out.size; simp; omega) ?_; intro v1 w2 hown hg hat; have HB2 := Lib.hid ((HB1.out.alloc HB1.out.size _).grown hg (by have := HB1.out.size; simp; omega) (fun k hk => (HO1.out.lt k hk).1)); obtain ⟨D2, d3, rfl, _⟩ := SlAt.of_own encS_len hown; have HO2 := Lib.hid hown; clear hown hg hat)
          go_roundw
          case rel => exact ⟨p, D2, d3, xs ++ [x], hpl, hyl, by rw [List.length_append]; rfl, rfl, HO2, HB2, HS⟩
          case measure => simp [intOf]; omega
        have hpl2 : p < l.length := by omega
        have i3 : (p : Int) < (l.length : Int) := by omega
        obtain ⟨c, hc⟩ : ∃ c, l[p] = c := ⟨_, rfl⟩
        have hy := str_at hpl2
        rw [hc] at hy
        have hy2 : l[p] = c := hc
        have hgc : l[p]? = some c := by rw [← hc]; exact List.getElem?_eq_getElem hpl2
        by_cases hc32 : c.toNat = 32
        · have k3 : ((c.toNat : Int) != 32) = false := neF (by omega)
          have HFN := HF0.out x ((plainL_take HP.out hmp hpl (fun c' hc' => by rw [hgc] at hc'; cases hc'; exact .inl hc32)).trans hxx)
          have hn : m + x.length = p := by omega
          have HS := Lib.hid (show FldAt l p (xs ++ [x]) from by
            rw [← hn]
            exact HQ.out.field HA.out HFN (fun c' hc' => by rw [hn, hgc] at hc'; cases hc'; exact hc32))
          have hpm : m < p := by
            rcases Nat.lt_or_ge m p with h | h
            · exact h
            · have : p = m := by omega
              subst this
              rw [hb] at hc
              subst hc
              exact absurd hc32 hb32
          have hyl : (xs ++ [x]).length ≤ p := by rw [List.length_append, List.length_singleton]; omega
          clear hpe hxx HFN hn hxl hgc hc32
          go_wp2_with (at_builtin; refine wpList_append_sl _ encS 1 rfl (.tmp 60) (.tmp 65) 28 rfl encS_len (by omega) encS_one w.heap.size 9 ti0 _ 16 Tryd.underlying28 hi0 hz0 hz1 hz2 rfl _ xs rfl (HO1.out.alloc _) _ 1 _ [x] rfl rfl rowS_one (by simp [maxLen]; have := HXM.out; omega) (by simp; have := HXM.out; omega) (by have := HB1.out.size; simp; omega) ?_; intro v1 w2 hown hg hat; have HB2 := Lib.hid ((HB1.out.alloc HB1.out.size _).grown hg (by have := HB1.out.size; simp; omega) (fun k hk => (HO1.out.lt k hk).1)); obtain ⟨D2, d3, rfl, _⟩ := SlAt.of_own encS_len hown; have HO2 := Lib.hid hown; clear hown hg hat)
          go_roundw
          case rel => exact ⟨p, D2, d3, xs ++ [x], hpl, hyl, by rw [List.length_append]; rfl, rfl, HO2, HB2, HS⟩
          case measure => simp [intOf]; omega
        have k3 : ((c.toNat : Int) != 32) = true := neT (by omega)
        by_cases hc34 : c.toNat = 34
        · have k4 : ((c.toNat : Int) != 34) = false := neF (by omega)
          have HFN := HF0.out x ((plainL_take HP.out hmp hpl (fun c' hc' => by rw [hgc] at hc'; cases hc'; exact .inr hc34)).trans hxx)
          have hn : m + x.length = p := by omega
          have HN := Lib.hid (HQ.out.stop HA.out HFN (by rw [hn]; exact hgc) hc32)
          clear hpe hxx HFN hn hxl hgc hc32 hc34
          go_wp2_with (at_builtin; refine wpList_append_sl _ encS 1 rfl (.tmp 60) (.tmp 65) 28 rfl encS_len (by omega) encS_one w.heap.size 9 ti0 _ 16 Tryd.underlying28 hi0 hz0 hz1 hz2 rfl _ xs rfl (HO1.out.alloc _) _ 1 _ [x] rfl rfl rowS_one (by simp [maxLen]; have := HXM.out; omega) (by simp; have := HXM.out; omega) (by have := HB1.out.size; simp; omega) ?_; intro v1 w2 hown hg hat; have HB2 := Lib.hid ((HB1.out.alloc HB1.out.size _).grown hg (by have := HB1.out.size; simp; omega) (fun k hk => (HO1.out.lt k hk).1)); obtain ⟨D2, d3, rfl, _⟩ := SlAt.of_own encS_len hown; have HO2 := Lib.hid hown; clear hown hg hat)
          go_ret2
          exact FldR.no HN.out HB2.out
        · have k4 : ((c.toNat : Int) != 34) = true := neT (by omega)
          have HP2 := Lib.hid (HP.out.next hgc hc32 hc34)
          clear hpe hxx hxl hgc hc32 hc34 ex
          go_wp2_with fail
          go_roundw
          case rel => exact ⟨p + 1, by omega, by omega, by go_num, by trivial, HP2⟩
          case measure => simp [intOf]; omega
    · obtain rfl : m = l.length := by omega
      have i0 : ¬ (l.length : Int) < (l.length : Int) := by omega
      have HN := Lib.hid (show fieldsN l = some xs from by
        have h := HQ.out
        unfold FldAt at h
        rw [h, List.drop_of_length_le (Nat.le_refl _), fieldsN_nil]
        simp)
      have HH := Lib.hid (RowS.at HO.out)
      clear hlt hm
      go_wp2_with fail
      go_ret2
      exact FldR.yes HN.out HH.out HB.out

end Go.Proofs.YtpkpacgmmhjfpaaDoor
