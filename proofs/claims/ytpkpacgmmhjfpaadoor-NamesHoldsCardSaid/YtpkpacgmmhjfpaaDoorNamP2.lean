/- Package names: Quote, Unquote. -/
import Derived.Test.YtpkpacgmmhjfpaaDoorNamP1
import Derived.Deep.RegionLaw
namespace Go.Proofs.YtpkpacgmmhjfpaaDoor
open Go.RowKit

/-- A row of the call's own, and the bytes that are read, apart. -/
structure QuoI (w : World) (l ys : List UInt8) (v : Value) (W : World) : Prop where
  row : RowB W w.heap.size v ys
  bel : Below w.heap.size w W
  bytes : BytesAt W (some ⟨w.heap.size + 1, 0, none⟩) l
  ne : v.ownBlock ≠ some (w.heap.size + 1)
  big : w.heap.size + 2 ≤ W.heap.size
theorem QuoI.drew {w W : World} {l ys : List UInt8} {v : Value} (h : QuoI w l ys v W) : QuoI w l ys v W.drew := ⟨h.row, h.bel.drew, h.bytes, h.ne, h.big⟩
theorem QuoI.alloc {w W : World} {l ys : List UInt8} {v : Value} (h : QuoI w l ys v W) (o : Obj) : QuoI w l ys v (W.alloc o) :=
  ⟨h.row.alloc o, h.bel.alloc h.bel.size o, h.bytes.below ((Below.refl _ _).alloc (Nat.le_refl _) o), h.ne, by have := h.big; simp; omega⟩
theorem QuoI.next2 {w W W' : World} {l ys zs : List UInt8} {v v' : Value} (h : QuoI w l ys v W) (hr : W'.ownsRow w.heap.size 5 1 v' (ys ++ zs).length (cellsOf encB (ys ++ zs))) (hg : W.grownBy W' v.ownBlock) (ha : v'.ownBlock = v.ownBlock ∨ v'.ownBlock = some W.heap.size) : QuoI w l (ys ++ zs) v' W' := by
  have hb := h.bel.size
  have hbig := h.big
  have hc : Chg (fun k => v.ownBlock = some k) W W' := Chg.of_grown hg fun k hk => hk
  refine ⟨hr, h.bel.grown hg hb fun k hk => (h.row.lt k hk).1, fun h0 => ?_, ?_, ?_⟩
  · obtain ⟨b, off, e, hb1, hcl⟩ := h.bytes h0
    cases e
    exact ⟨_, _, rfl, by have := hc.size; omega, fun j x hx i u hu => hc.cell (hcl j x hx i u hu) h.ne⟩
  · rcases ha with e | e
    · rw [e]; exact h.ne
    · rw [e]; intro e2; injection e2; omega
  · have := hc.size; omega
theorem QuoI.next {w W W' : World} {l ys zs : List UInt8} {v v' : Value} {o : Obj} (h : QuoI w l ys v W) (hr : W'.ownsRow w.heap.size 5 1 v' (ys ++ zs).length (cellsOf encB (ys ++ zs))) (hg : (W.alloc o).grownBy W' v.ownBlock) (ha : v'.ownBlock = v.ownBlock ∨ v'.ownBlock = some (W.alloc o).heap.size) : QuoI w l (ys ++ zs) v' W' :=
  (h.alloc o).next2 hr hg ha
theorem rowB_lit (W : World) (l : List UInt8) (hl : l.length ≤ maxLen) : RowB (W.alloc (.cells (cellsOf encB l).toArray 5)) W.heap.size (.slice (some ⟨W.heap.size, 0, none⟩) l.length l.length) l := by
  refine ⟨by rw [cellsOf_length encB_len], .inr ⟨W.heap.size, l.length, (cellsOf encB l).toArray, rfl, Nat.le_refl _, heap_alloc_new W _, Nat.le_refl _, hl, ?_, ?_⟩⟩
  · rw [List.size_toArray, cellsOf_length encB_len]
  · rw [List.toList_toArray, List.take_of_length_le (by rw [cellsOf_length encB_len]; exact Nat.le_refl _)]
theorem quo_start (l : List UInt8) (w : World) : QuoI w l [34] (.slice (some ⟨w.heap.size, 0, none⟩) 1 1) (Lib.bytesWorld (w.alloc (.cells #[.int .u8 34] 5)) 5 ⟨l.toArray⟩) := by
  have hs : (w.alloc (.cells #[.int .u8 34] 5)).heap.size = w.heap.size + 1 := by simp
  have hb := bytesWorld_below (w.alloc (.cells #[.int .u8 34] 5)) ⟨l.toArray⟩
  have ha := bytesWorld_at (w.alloc (.cells #[.int .u8 34] 5)) ⟨l.toArray⟩
  rw [hs] at ha
  have hr : RowB (w.alloc (.cells #[.int .u8 34] 5)) w.heap.size (.slice (some ⟨w.heap.size, 0, none⟩) 1 1) [34] := rowB_lit w [34] (by simp [maxLen])
  refine ⟨own_keep hr hb, below_trans ((Below.refl _ _).alloc (Nat.le_refl _) _) hb, ha, ?_, ?_⟩
  · intro e; simp [Value.ownBlock] at e
  · have h := Lib.bytesWorld_at_new (w.alloc (.cells #[.int .u8 34] 5)) 5 ⟨l.toArray⟩
    have := (Array.getElem?_eq_some_iff.1 h).1
    omega
theorem digit_at : ∀ d : Fin 16, ∀ h, (ByteArray.mk #[48, 49, 50, 51, 52, 53, 54, 55, 56, 57, 97, 98, 99, 100, 101, 102])[d.val]'h = hexC d.val := by
  intro d h
  have : (ByteArray.mk #[48, 49, 50, 51, 52, 53, 54, 55, 56, 57, 97, 98, 99, 100, 101, 102])[d.val]'h = (#[48, 49, 50, 51, 52, 53, 54, 55, 56, 57, 97, 98, 99, 100, 101, 102] : Array UInt8)[d.val]'h := rfl
  rw [this]
  revert d
  decide +kernel
set_option maxRecDepth 100000 in
set_option maxHeartbeats 8000000 in
theorem nmQuote (l : List UInt8) (w : World) (hl : l.length ≤ 1000000) : Calls Tryd.prog 15 #[.string ⟨l.toArray⟩] w (OneB (.string ⟨(quoteN l).toArray⟩) w) := by
  obtain ⟨ti0, hi0, hz0, hz1, hz2⟩ := info_parts infoB
  have hsz := size_mk l
  have q1 := fun (w : World) => Lib.run_convert_string_bytes (P := Tryd.prog) w 9 27 5 ⟨l.toArray⟩ Tryd.underlying9 Tryd.underlying27 Tryd.underlying5
  have I0 := Lib.hid (quo_start l w)
  go_enter Tryd.func15, Tryd.ntmps15
  go_wp2_with fail
  generalize Lib.bytesWorld (w.alloc (.cells #[.int .u8 34] 5)) 5 ⟨l.toArray⟩ = W1 at I0 ⊢
  clear q1
  go_loopw [3, 10] (fun s3 s10 wr => ∃ (k : Nat) (D : Option Addr) (d : Nat) (ys : List UInt8), k ≤ l.length ∧ ys.length ≤ 4 * k + 1 ∧ s3 = .slice D ys.length d ∧ s10 = .int .i64 k ∧ Hid (QuoI w l ys (.slice D ys.length d) wr) ∧ Hid (ys = 34 :: (l.take k).flatMap oneN)) (fun _ s10 _ => l.length - (intOf s10).toNat)
  case atStart => exact ⟨0, _, _, [34], by omega, by simp, rfl, rfl, I0, rfl⟩
  case round =>
    clear I0
    obtain ⟨k, D, d, ys, hk, hys, rfl, rfl, I, HQ⟩ := hrel
    have HYL := Lib.hid (show ys.length ≤ 4000001 from by omega)
    by_cases hlt : k < l.length
    · have i0 : (k : Int) < (l.length : Int) := by omega
      obtain ⟨c, hc⟩ : ∃ c, l[k] = c := ⟨_, rfl⟩
      obtain ⟨bb, off, eA, hbl, hcl⟩ := I.out.bytes (by omega)
      cases eA
      have hc0 := hcl k c (by rw [List.getElem?_eq_getElem hlt, hc]) 0 _ rfl
      have d0 : wr.cell? ⟨w.heap.size + 1, k, none⟩ = some (.int .u8 (c.toNat : Int)) := by simpa using hc0
      have HN := Lib.hid (show ys ++ oneN c = 34 :: (l.take (k + 1)).flatMap oneN from by
        rw [HQ.out, List.take_succ_eq_append_getElem hlt, hc, List.flatMap_append]; simp)
      have h8 := toNat8 c
      clear hc hc0 hcl hbl
      by_cases h1 : c.toNat = 34 ∨ c.toNat = 92
      · have HO := Lib.hid (show oneN c = [92, c] from by unfold oneN; rw [if_pos h1])
        rcases h1 with h1 | h1
        · have k1 : ((c.toNat : Int) == 34) = true := eqT (by omega)
          clear h1
          go_wp2_with (at_builtin; refine wpList_append_sl _ encB 1 rfl (.tmp 30) (.tmp 32) 27 rfl encB_len (by omega) encB_one w.heap.size 5 ti0 _ 1 Tryd.underlying27 hi0 hz0 hz1 hz2 rfl _ ys rfl (I.out.row.alloc _) _ 2 _ [92, c] rfl rfl (SlAt.lit encB_len _ 5 [92, c] (by simp [maxLen])) (by simp [maxLen]; have := HYL.out; omega) (by simp; have := HYL.out; omega) (by have := I.out.bel.size; simp; omega) ?_; intro v1 w2 hown hg hat; have hI2 := I.out.next hown hg hat; clear hown hg hat; obtain ⟨zs, hzs⟩ : ∃ zs, ys ++ [92, c] = zs := ⟨_, rfl⟩; rw [hzs] at hI2; obtain ⟨D2, d3, rfl, _⟩ := SlAt.of_own encB_len hI2.row; have I2 := Lib.hid hI2; have HZ := Lib.hid hzs; clear hI2 hzs)
          go_roundw
          case rel => exact ⟨k + 1, _, _, zs, by omega, (by rw [← HZ.out, List.length_append]; simp; omega), rfl, by go_num, I2, by rw [← HZ.out, ← HO.out]; exact HN.out⟩
          case measure => simp [intOf]; omega
        · have k1 : ((c.toNat : Int) == 34) = false := eqF (by omega)
          have k2 : ((c.toNat : Int) == 92) = true := eqT (by omega)
          clear h1
          go_wp2_with (at_builtin; refine wpList_append_sl _ encB 1 rfl (.tmp 30) (.tmp 32) 27 rfl encB_len (by omega) encB_one w.heap.size 5 ti0 _ 1 Tryd.underlying27 hi0 hz0 hz1 hz2 rfl _ ys rfl (I.out.row.alloc _) _ 2 _ [92, c] rfl rfl (SlAt.lit encB_len _ 5 [92, c] (by simp [maxLen])) (by simp [maxLen]; have := HYL.out; omega) (by simp; have := HYL.out; omega) (by have := I.out.bel.size; simp; omega) ?_; intro v1 w2 hown hg hat; have hI2 := I.out.next hown hg hat; clear hown hg hat; obtain ⟨zs, hzs⟩ : ∃ zs, ys ++ [92, c] = zs := ⟨_, rfl⟩; rw [hzs] at hI2; obtain ⟨D2, d3, rfl, _⟩ := SlAt.of_own encB_len hI2.row; have I2 := Lib.hid hI2; have HZ := Lib.hid hzs; clear hI2 hzs)
          go_roundw
          case rel => exact ⟨k + 1, _, _, zs, by omega, (by rw [← HZ.out, List.length_append]; simp; omega), rfl, by go_num, I2, by rw [← HZ.out, ← HO.out]; exact HN.out⟩
          case measure => simp [intOf]; omega
      · have k1 : ((c.toNat : Int) == 34) = false := eqF (by omega)
        have k2 : ((c.toNat : Int) == 92) = false := eqF (by omega)
        have HP := Lib.hid (printable c wr)
        by_cases h2 : c.toNat < 32 ∨ 126 < c.toNat
        · have HO := Lib.hid (show oneN c = [92, 120, hexC (c.toNat / 16), hexC (c.toNat % 16)] from by unfold oneN; rw [if_neg h1, if_pos h2])
          have hpf : printC c = false := by
            unfold printC
            rcases h2 with h2 | h2
            · simp; omega
            · simp; omega
          rw [hpf] at HP
          obtain ⟨m, hm⟩ : ∃ m, c.toNat / 16 = m := ⟨_, rfl⟩
          obtain ⟨n, hn⟩ : ∃ n, c.toNat % 16 = n := ⟨_, rfl⟩
          rw [hm, hn] at HO
          have em : (c.toNat : Int) / 16 = (m : Int) := by omega
          have en : (c.toNat : Int) % 16 = (n : Int) := by omega
          have en2 : (c.toNat : Int).tmod 16 = (n : Int) := by rw [Int.tmod_eq_emod_of_nonneg (by omega)]; exact en
          have hm16 : m < 16 := by omega
          have hn16 : n < 16 := by omega
          have dm := digit_at ⟨m, hm16⟩
          have dn := digit_at ⟨n, hn16⟩
          simp only at dm dn
          have im : (m : Int) < 16 := by omega
          have wm : IntKind.u8.wrap (m : Int) = (m : Int) := by simp [IntKind.wrap, IntKind.bits, IntKind.signed]; omega
          have wn : IntKind.u8.wrap (n : Int) = (n : Int) := by simp [IntKind.wrap, IntKind.bits, IntKind.signed]; omega
          have in' : (n : Int) < 16 := by omega
          clear h1 h2 hpf hm hn
          go_wp2_with fail
          refine HP.out.mono ?_
          rintro e w1 ⟨rfl, rfl⟩
          clear HP
          go_wp2_with fail
          go_region_law (refine step_append_sl (o := ⟨some 22, _, _, _, _, _⟩) _ encB 1 (by rfl) (.tmp 14) (.tmp 21) 27 (by rfl) encB_len (by omega) encB_one w.heap.size 5 ti0 _ 1 Tryd.underlying27 hi0 hz0 hz1 hz2 rfl (.slice D ys.length d) ys (by rfl) ((I.out.drew.alloc _).row) _ 4 _ [92, 120, hexC m, hexC n] (by rfl) (by rfl) (SlAt.litAt encB_len _ _ (by rfl) 5 [92, 120, hexC m, hexC n] (by simp [maxLen])) (by simp [maxLen]; have := HYL.out; omega) (by simp; have := HYL.out; omega) (I.out.drew.alloc _).bel.size ?_; intro v1 w2 hown hg hat; have hI2 := (I.out.drew.alloc _).next2 hown hg hat; clear hown hg hat; obtain ⟨zs, hzs⟩ : ∃ zs, ys ++ [92, 120, hexC m, hexC n] = zs := ⟨_, rfl⟩; rw [hzs] at hI2; obtain ⟨D2, d3, rfl, _⟩ := SlAt.of_own encB_len hI2.row; have I2 := Lib.hid hI2; have HZ := Lib.hid hzs; clear hI2 hzs)
          all_goals
           go_wp2_with fail
           go_roundw
           case rel => exact ⟨k + 1, _, _, zs, by omega, (by rw [← HZ.out, List.length_append]; simp; omega), rfl, by go_num, I2, by rw [← HZ.out, ← HO.out]; exact HN.out⟩
           case measure => simp [intOf]; omega
        · have HO := Lib.hid (show oneN c = [c] from by unfold oneN; rw [if_neg h1, if_neg h2])
          have hpt : printC c = true := by unfold printC; simp; omega
          rw [hpt] at HP
          clear h1 h2 hpt
          go_wp2_with fail
          refine HP.out.mono ?_
          rintro e w1 ⟨rfl, rfl⟩
          clear HP
          go_wp2_with (at_builtin; refine wpList_append_sl _ encB 1 rfl (.tmp 37) (.tmp 39) 27 rfl encB_len (by omega) encB_one w.heap.size 5 ti0 _ 1 Tryd.underlying27 hi0 hz0 hz1 hz2 rfl _ ys rfl (I.out.row.alloc _) _ 1 _ [c] rfl rfl (SlAt.lit encB_len _ 5 [c] (by simp [maxLen])) (by simp [maxLen]; have := HYL.out; omega) (by simp; have := HYL.out; omega) (by have := I.out.bel.size; simp; omega) ?_; intro v1 w2 hown hg hat; have hI2 := I.out.next hown hg hat; clear hown hg hat; obtain ⟨zs, hzs⟩ : ∃ zs, ys ++ [c] = zs := ⟨_, rfl⟩; rw [hzs] at hI2; obtain ⟨D2, d3, rfl, _⟩ := SlAt.of_own encB_len hI2.row; have I2 := Lib.hid hI2; have HZ := Lib.hid hzs; clear hI2 hzs)
          go_roundw
          case rel => exact ⟨k + 1, _, _, zs, by omega, (by rw [← HZ.out, List.length_append]; simp; omega), rfl, by go_num, I2, by rw [← HZ.out, ← HO.out]; exact HN.out⟩
          case measure => simp [intOf]; omega
    · obtain rfl : k = l.length := by omega
      have i0 : ¬ (l.length : Int) < (l.length : Int) := by omega
      have HE := Lib.hid (show ys ++ [34] = quoteN l from by rw [HQ.out, List.take_length]; simp [quoteN])
      go_wp2_with (at_builtin; refine wpList_append_sl _ encB 1 rfl (.tmp 42) (.tmp 43) 27 rfl encB_len (by omega) encB_one w.heap.size 5 ti0 _ 1 Tryd.underlying27 hi0 hz0 hz1 hz2 rfl _ ys rfl (I.out.row.alloc _) _ 1 _ [34] rfl rfl (SlAt.lit encB_len _ 5 [34] (by simp [maxLen])) (by simp [maxLen]; have := HYL.out; omega) (by simp; have := HYL.out; omega) (by have := I.out.bel.size; simp; omega) ?_; intro v1 w2 hown hg hat; have hI2 := I.out.next hown hg hat; clear hown hg hat; obtain ⟨zs, hzs⟩ : ∃ zs, ys ++ [34] = zs := ⟨_, rfl⟩; rw [hzs] at hI2; obtain ⟨D2, d3, rfl, _⟩ := SlAt.of_own encB_len hI2.row; have I2 := Lib.hid hI2; have HZ := Lib.hid hzs; clear hI2 hzs; have hcv := convB _ D2 d3 zs (HoldsB.of_own I2.out.row))
      go_ret
      exact OneB.str (by rw [← HE.out, HZ.out]) I2.out.bel

def pairU : Option (List UInt8) → Value
  | some x => .tuple #[.string ⟨x.toArray⟩, .int .i64 0]
  | none => .tuple #[.string ⟨#[]⟩, .int .i64 6]
theorem quoteN_ge (x : List UInt8) : x.length ≤ (quoteN x).length := by
  have h : x.length ≤ (x.flatMap oneN).length := by
    induction x with
    | nil => simp
    | cons c r ih =>
      have := (oneN_len c).1
      rw [List.flatMap_cons, List.length_append, List.length_cons]
      omega
  simp only [quoteN, List.length_cons, List.length_append, List.length_nil]
  omega

theorem nmUnquote (l : List UInt8) (w : World) (hl : l.length ≤ 20000) (hL : LaidOK w) : Calls Tryd.prog 27 #[.string ⟨l.toArray⟩] w (OneB (pairU (unquoteN l)) w) := by
  cases hu : unquoteN l with
  | some x =>
    have e := unquoteN_some hu
    have hx : x.length ≤ l.length := by rw [e]; exact quoteN_ge x
    have H0 := libUnquoteQ x w (by rw [← e]; omega) hL
    rw [← e] at H0
    have H := Lib.hid H0
    have HQ0 := fun W => nmQuote x W (by omega)
    rw [← e] at HQ0
    have HQ := Lib.hid HQ0
    have HC := Lib.hid (fun W => strClone x W (by omega))
    have e1 : (l == l) = true := by simp
    clear H0 HQ0 e hx hu hL
    go_enter Tryd.func27, Tryd.ntmps27
    go_wp2_with fail
    refine H.out.mono ?_
    rintro e w1 ⟨rfl, hb⟩
    have HB := Lib.hid hb
    clear hb H
    go_wp2_with fail
    refine (HQ.out _).mono ?_
    rintro e w2 ⟨rfl, hb⟩
    have HB2 := Lib.hid (below_trans HB.out hb)
    clear hb HQ
    go_wp2_with fail
    refine (HC.out _).mono ?_
    rintro e w3 ⟨rfl, hb⟩
    have HB3 := Lib.hid (below_trans HB2.out hb)
    clear hb HC
    go_wp2_with fail
    go_ret2
    exact ⟨rfl, HB3.out⟩
  | none =>
    have H := Lib.hid (libUnquote l w (by omega) hL)
    have HN := Lib.hid (fun t => unquoteN_none hu t)
    clear hu hL
    go_enter Tryd.func27, Tryd.ntmps27
    go_wp2_with fail
    refine H.out.mono ?_
    rintro e w1 ⟨hr, hb⟩
    have HB := Lib.hid hb
    clear hb H
    rcases hr with ⟨x, ty, p, rfl, hx0⟩ | ⟨x, rfl, hx⟩
    · subst hx0
      go_wp2_with fail
      go_ret2
      exact ⟨rfl, HB.out⟩
    · have HQ := Lib.hid (nmQuote x w1 (by omega))
      obtain ⟨y, hy⟩ : ∃ y, quoteN x = y := ⟨_, rfl⟩
      have hne : (y == l) = false := by rw [beq_eq_false_iff_ne, ← hy]; exact HN.out x
      rw [hy] at HQ
      clear hy hx
      go_wp2_with fail
      refine HQ.out.mono ?_
      rintro e w2 ⟨rfl, hb⟩
      have HB2 := Lib.hid (below_trans HB.out hb)
      clear hb HQ
      go_wp2_with fail
      go_ret2
      exact ⟨rfl, HB2.out⟩

end Go.Proofs.YtpkpacgmmhjfpaaDoor
