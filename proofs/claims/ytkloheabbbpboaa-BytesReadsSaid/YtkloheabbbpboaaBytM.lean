/- The law BytesNumbers. -/
import Derived.Test.YtkloheabbbpboaaBytL
import Derived.Laws.OwnMore
import Derived.Lib.SmallJoins
import Derived.Outline
namespace Go.Proofs.Ytkloheabbbpboaa
open Go.RowKit

/-- The bytes of a number with 128 more in the last one. -/
def encUp (n : Nat) : List UInt8 := if n < 128 then [UInt8.ofNat (n + 128)] else UInt8.ofNat (n % 128 + 128) :: encUp (n / 128)
termination_by n
decreasing_by omega
theorem encLong_up (n : Nat) : encLong n = encUp n ++ [0] := by
  induction n using Nat.strongRecOn with
  | ind n ih =>
    by_cases h : n < 128
    · rw [encLong, encUp, if_pos h, if_pos h]; rfl
    · rw [encLong, encUp, if_neg h, if_neg h, ih (n / 128) (by omega)]; rfl
/-- The last byte. -/
def lastB (n : Nat) : Nat := if n < 128 then n else lastB (n / 128)
termination_by n
decreasing_by omega
theorem lastB_lt (n : Nat) : lastB n < 128 := by
  induction n using Nat.strongRecOn with
  | ind n ih =>
    by_cases h : n < 128
    · rw [lastB, if_pos h]; exact h
    · rw [lastB, if_neg h]; exact ih _ (by omega)
theorem enc_last (n : Nat) : (enc n)[(enc n).length - 1]? = some (UInt8.ofNat (lastB n)) := by
  induction n using Nat.strongRecOn with
  | ind n ih =>
    by_cases h : n < 128
    · rw [enc_lt h, lastB, if_pos h]; rfl
    · rw [enc_ge (by omega), lastB, if_neg h, List.length_cons]
      have hp := enc_pos (n / 128)
      rw [show (enc (n / 128)).length + 1 - 1 = ((enc (n / 128)).length - 1) + 1 by omega, List.getElem?_cons_succ]
      exact ih _ (by omega)
theorem enc_set (n : Nat) : (enc n).set ((enc n).length - 1) (UInt8.ofNat (lastB n + 128)) = encUp n := by
  induction n using Nat.strongRecOn with
  | ind n ih =>
    by_cases h : n < 128
    · rw [enc_lt h, encUp, if_pos h, lastB, if_pos h]; rfl
    · rw [enc_ge (by omega), encUp, if_neg h, lastB, if_neg h, List.length_cons]
      have hp := enc_pos (n / 128)
      rw [show (enc (n / 128)).length + 1 - 1 = ((enc (n / 128)).length - 1) + 1 by omega, List.set_cons_succ, ih _ (by omega)]
theorem cells_set (l : List UInt8) (j : Nat) (b : UInt8) : (cellsOf encB l).set j (.int .u8 b.toNat) = cellsOf encB (l.set j b) := by
  induction l generalizing j with
  | nil => rfl
  | cons x r ih =>
    cases j with
    | zero => rfl
    | succ j =>
      show Value.int .u8 x.toNat :: (cellsOf encB r).set j _ = _
      rw [ih]; rfl
theorem cells_at (l : List UInt8) (j : Nat) : (cellsOf encB l)[j]? = l[j]?.map fun b => Value.int .u8 (b.toNat : Int) := by
  induction l generalizing j with
  | nil => rfl
  | cons x r ih =>
    cases j with
    | zero => rfl
    | succ j => exact ih j
theorem cells_last {n k : Nat} (h : (enc n).length = k) : (cellsOf encB (enc n))[k - 1]? = some (.int .u8 (lastB n : Int)) := by
  have hl := lastB_lt n
  rw [cells_at, ← h, enc_last]
  show some (Value.int .u8 ((UInt8.ofNat (lastB n)).toNat : Int)) = _
  rw [ofNat_toNat (by omega)]
theorem wrap_last (n : Nat) : IntKind.u8.wrap ((lastB n : Int) + 128) = ((lastB n + 128 : Nat) : Int) := by
  have hl := lastB_lt n
  simp [IntKind.wrap, IntKind.bits, IntKind.signed]
  omega
theorem up_len (n : Nat) : (encUp n).length = (enc n).length := by rw [← enc_set, List.length_set]
theorem up_cells {n k : Nat} (h : (enc n).length = k) : (cellsOf encB (enc n)).set (k - 1) (.int .u8 ((lastB n : Int) + 128)) = cellsOf encB (encUp n) := by
  have hl := lastB_lt n
  have e := cells_set (enc n) (k - 1) (UInt8.ofNat (lastB n + 128))
  rw [ofNat_toNat (by omega)] at e
  rw [show ((lastB n : Int) + 128) = ((lastB n + 128 : Nat) : Int) from by omega, e, ← enc_set n, h]
theorem own_keep {w w' : World} {B : Nat} {e : TypeId} {v : Value} {n : Nat} {xs : List Value} (h : w.ownsRow B e 1 v n xs) (hb : Below w.heap.size w w') : w'.ownsRow B e 1 v n xs := by
  refine ⟨h.1, ?_⟩
  rcases h.2 with hn | ⟨r, cap, cur, rfl, h1, hg, rest⟩
  · exact .inl hn
  · exact .inr ⟨r, cap, cur, rfl, h1, (hb.block r (Array.getElem?_eq_some_iff.1 hg).1).trans hg, rest⟩
theorem up_step {n k g c B : Nat} {wr w9 : World} (hL : (enc n).length = k) (hown : w9.ownsRow B 5 1 (.slice (some ⟨g, 0, none⟩) k c) k (cellsOf encB (enc n))) (hg : wr.grownBy w9 (Value.slice none 0 0).ownBlock) (hB : B ≤ wr.heap.size) :
    ((w9.setCell ⟨g, k - 1, none⟩ (.int .u8 ((lastB n : Int) + 128))).alloc (.cells #[.int .u8 0] 5)).ownsRow B 5 1 (.slice (some ⟨g, 0, none⟩) k c) (encUp n).length (cellsOf encB (encUp n)) ∧
    BytesAt ((w9.setCell ⟨g, k - 1, none⟩ (.int .u8 ((lastB n : Int) + 128))).alloc (.cells #[.int .u8 0] 5)) (some ⟨w9.heap.size, 0, none⟩) [0] ∧
    Chg (fun j => B ≤ j) wr ((w9.setCell ⟨g, k - 1, none⟩ (.int .u8 ((lastB n : Int) + 128))).alloc (.cells #[.int .u8 0] 5)) ∧ B ≤ g := by
  have hBg : B ≤ g := by
    rcases hown.2 with ⟨e, _⟩ | ⟨g', c', cur, e, hb, _⟩
    · cases e
    · cases e; exact hb
  have h1 := (hown.stored (k - 1) (.int .u8 ((lastB n : Int) + 128))).1
  rw [up_cells hL] at h1
  have ha : Below (w9.setCell ⟨g, k - 1, none⟩ (.int .u8 ((lastB n : Int) + 128))).heap.size (w9.setCell ⟨g, k - 1, none⟩ (.int .u8 ((lastB n : Int) + 128))) ((w9.setCell ⟨g, k - 1, none⟩ (.int .u8 ((lastB n : Int) + 128))).alloc (.cells #[.int .u8 0] 5)) := (Below.refl _ _).alloc (Nat.le_refl _) _
  have hz := HoldsB.lit (w9.setCell ⟨g, k - 1, none⟩ (.int .u8 ((lastB n : Int) + 128))) [0] (by simp [maxLen])
  refine ⟨?_, ?_, ?_, hBg⟩
  · rw [up_len, hL]
    exact own_keep h1 ha
  · obtain ⟨A', c', e, hat, _⟩ := hz
    cases e
    rw [show (w9.setCell ⟨g, k - 1, none⟩ (.int .u8 ((lastB n : Int) + 128))).heap.size = w9.heap.size from (by simp)] at hat
    exact hat
  · exact ((Chg.of_grown hg (fun j hj => by cases hj)).trans (Chg.of_set _ _ hBg) (fun _ _ h => h)).trans (Chg.of_below ha) (S := fun j => B ≤ j) (T := fun j => B ≤ j) (fun _ _ h => h)
theorem numP_ok {n z most : Nat} {l : List UInt8} (h : rd l = (n, z, 0)) (hm : n ≤ most) : numP (rd l) most = (n, 0) := by
  rw [h]; unfold numP; rw [if_neg (by simp), if_neg (by simp only []; omega)]
theorem numP_big {n z most : Nat} {l : List UInt8} (h : rd l = (n, z, 0)) (hm : most < n) : numP (rd l) most = (0, 3) := by
  rw [h]; unfold numP; rw [if_neg (by simp), if_pos hm]
theorem numP_no {er : Int} {most : Nat} {l : List UInt8} (h : rd l = (0, 0, er)) (he : er ≠ 0) : numP (rd l) most = (0, er) := by
  rw [h]; unfold numP; rw [if_pos he]

set_option maxRecDepth 100000 in
set_option maxHeartbeats 4000000 in
theorem lawNumbers_a (n : Nat) (w : World) (hn : n < 18446744073709551616) (h0 : n = 0) :
    Calls Try.prog 5 #[.int .u64 (n : Int)] w fun e w' => e = .returned (.bool true) ∧ Below w.heap.size w w' := by
  obtain ⟨i0, hi0, hz0, hz1, hz2⟩ := info_parts infoB
  have c0 : ¬ (0 : Int) < (n : Int) := by omega
  clear h0
  have HN := Lib.hid hn
  have HR := Lib.hid (refNumber n n w (Nat.le_refl _) hn)
  have hrd : rd (enc n) = (n, (enc n).length, 0) := by have := rd_enc hn []; rwa [List.append_nil] at this
  have HRD := Lib.hid hrd
  have ht := enc_ten hn
  have hp := enc_pos n
  clear hn hrd
  go_enter Try.func5, Try.ntmps5
  go_wp2_with fail
  refine HR.out.mono ?_
  rintro e w1 ⟨⟨A, c, rfl, ho⟩, hb⟩
  have hv := HoldsB.of_own ho
  have K := Lib.hid hb
  have HV := Lib.hid hv
  have hcv := fun z => convB (far w1 z) A c (enc n) (hv.below (below_far w1 z))
  have HQ0 := Lib.hid fun z => lawNumber n (far w1 z) HN.out
  have HQ1 := Lib.hid fun z => sizeAt n (far w1 z) HN.out
  clear ho hv hb
  go_wp2_with fail
  refine wp_region_far (by kernel_rfl) (by kernel_rfl) ?_
  repeat (go_big_quiet_step ((first | (go_at_call 30; exact far_of (HQ0.out _)) | (go_at_call 17; exact far_of_same (HQ1.out _)))))
  refine wpQuiet_nil ?_
  rintro _ ⟨p, rfl⟩
  have hb2 := below_far w1 p
  have HV2 := Lib.hid (HV.out.below hb2)
  have K2 := Lib.hid (below_trans K.out hb2)
  clear hcv HQ0 HQ1 K HV hb2 HR
  generalize far w1 p = w2 at *
  go_wp2_with fail
  refine (newAt _ (enc n) _ HV2.out (by omega)).mono ?_
  rintro e w3 ⟨⟨g, Ag, cg, rfl, hR, hg, hAg⟩, hb⟩
  have K3 := Lib.hid (below_trans K2.out hb)
  have HV3 := Lib.hid (HV2.out.below hb)
  have R3 := Lib.hid hR
  have G := Lib.hid (show w.heap.size ≤ g ∧ (∀ a, A = some a → a.block ≠ g) ∧ g < w3.heap.size from ⟨Nat.le_trans K2.out.size hg, fun a ha => by
    subst ha
    obtain ⟨A', c', e, hat, _, _⟩ := HV2.out
    cases e
    obtain ⟨b, off, e, hbl, _⟩ := hat (by omega)
    cases e
    simp only []
    omega, hR.lt⟩)
  clear hR hb hg hAg K2 HV2
  have e1 := numP_ok (l := (enc n).drop 0) (most := n) HRD.out (Nat.le_refl _)
  have e2 : (rd ((enc n).drop 0)).2.1 = (enc n).length := by rw [List.drop_zero, HRD.out]
  go_wp2_with fail
  refine (lawReads g Ag cg (enc n) 0 n n 0 n (enc n).length 0 true _ R3.out HN.out e1 e2 (by simp)).mono ?_
  rintro e w5 ⟨rfl, hR, hC⟩
  have K5 := Lib.hid (K3.out.trans (hC.below K3.out.size fun k hk => by rw [hk]; exact G.out.1))
  have HV5 := Lib.hid (hC.holds HV3.out fun k hk e => by
    obtain ⟨a, rfl, rfl⟩ : ∃ a, A = some a ∧ a.block = k := by
      cases A with
      | none => simp [Value.ownBlock] at hk
      | some a => exact ⟨a, rfl, by simpa [Value.ownBlock] using hk⟩
    exact G.out.2.1 a rfl e)
  have R5 := Lib.hid (show Rd w5 g Ag cg (enc n) (0 + adv 0 (enc n).length) from hR)
  clear hR hC K3 HV3 R3
  rw [show 0 + adv 0 (enc n).length = (enc n).length from by simp [adv]] at R5
  go_wp2_with fail
  refine (endAt g Ag cg (enc n) (enc n).length 0 _ R5.out (by simp)).mono ?_
  rintro e w6 ⟨rfl, hb⟩
  have K6 := Lib.hid (below_trans K5.out hb)
  have HV6 := Lib.hid (HV5.out.below hb)
  clear hb K5 HV5 R5 G e1 e2 c0 
  obtain ⟨L, hL⟩ : ∃ L, (enc n).length = L := ⟨_, rfl⟩
  have HL := Lib.hid hL
  rw [hL] at ht hp ⊢
  clear hL
  go_wp2_with fail
  go_loopw [5] (fun a wr => ∃ k : Nat, k ≤ L ∧ a = .int .i64 k ∧ Hid (Below w.heap.size w wr) ∧ Hid (HoldsB wr (.slice A (enc n).length c) (enc n))) (fun a _ => L - (intOf a).toNat)
  case atStart => exact ⟨0, by omega, rfl, K6, HV6⟩
  case round =>
    obtain ⟨k, hk, rfl, K7, HV7⟩ := hrel
    by_cases hlt : k < L
    · have hvk : HoldsB wr (.slice A k c) ((enc n).take k) := by
        obtain ⟨A', c', e, hat, h2, h3⟩ := HV7.out
        cases e
        refine ⟨A, c, by rw [List.length_take, HL.out, Nat.min_eq_left (by omega)], hat.take k, ?_, h3⟩
        rw [List.length_take]; omega
      have hfi := lawFirst _ ((enc n).take k) 4 0 0 4 wr hvk (by rw [List.length_take]; omega) (numP_no (rd_short HN.out (by rw [HL.out]; exact hlt)) (by decide)) rfl (by decide)
      have HFI := Lib.hid hfi
      have hck : (k : Int) ≤ (c : Int) := by
        obtain ⟨A', c', e, hat, h2, h3⟩ := HV7.out
        cases e
        have := HL.out
        omega
      have z0 : (0 : Int) ≤ (k : Int) := by omega
      clear hvk hfi
      go_wp2_with fail
      refine HFI.out.mono ?_
      rintro e w8 ⟨rfl, hb⟩
      have K8 := Lib.hid (below_trans K7.out hb)
      have HV8 := Lib.hid (HV7.out.below hb)
      clear hb
      go_wp2_with fail
      go_roundw
      case rel => exact ⟨k + 1, by omega, by go_num, K8, HV8⟩
      case measure => simp [intOf]; omega
    · obtain rfl : k = L := by omega
      clear hk hlt K6 HV6
      have hat : BytesAt wr A (enc n) := by
        obtain ⟨A', c', e, hat, _, _⟩ := HV7.out
        cases e
        exact hat
      have hl100 : (enc n).length ≤ 100 := by rw [HL.out]; omega
      have HLL := Lib.hid HL.out.symm
      go_wp2_with (at_builtin; first | (refine wpList_append_sl (o := ⟨some 60, _, _, _, _, _⟩) _ encB 1 rfl (.const (.slice none 0 0)) (.tmp 59) 25 rfl encB_len (by omega) encB_one wr.heap.size 5 i0 _ 1 Try.underlying25 hi0 hz0 hz1 hz2 rfl (.slice none 0 0) [] rfl (World.ownsRow_nil _ _ _ _) A _ c (enc n) rfl HLL.out hat (by simp [maxLen]; omega) (by simp; omega) (Nat.le_refl _) ?_; intro v6 w9 hown1 hg1 hat1; rw [List.nil_append, HL.out] at hown1; obtain ⟨g6, c6, rfl⟩ := Joins.ownsRow_form hown1 hp; have l1 : (1 : Int) ≤ (k : Int) := (by omega); have l2 : (k : Int) - 1 < (k : Int) := (by omega); have hc9 : w9.cell? ⟨g6, k - 1, none⟩ = some (.int .u8 (lastB n : Int)) := (hown1.cellAt (k - 1) (by omega)).trans (cells_last HL.out); have hf9 := hown1.frozenAt (k - 1); have lw : IntKind.u8.wrap ((lastB n : Int) + 128) = ((lastB n + 128 : Nat) : Int) := wrap_last n; obtain ⟨hu1, hu2, hu3, hu4⟩ := up_step HL.out hown1 hg1 (Nat.le_refl _)) | (go_loud (refine wpList_append_sl (o := ⟨some 71, _, _, _, _, _⟩) _ encB 1 rfl (.tmp 69) (.tmp 70) 25 rfl encB_len (by omega) encB_one wr.heap.size 5 i0 _ 1 Try.underlying25 hi0 hz0 hz1 hz2 rfl _ (encUp n) rfl hu1 _ _ _ [0] rfl rfl hu2 (by rw [up_len, HL.out]; simp [maxLen]; omega) (by rw [up_len, HL.out]; simp; omega) (Nat.le_trans (Nat.le_refl _) (hu3.size)) ?_; intro v7 w10 hown2 hg2 hat2)))
      have hb10 := below_trans K7.out ((hu3.trans (Chg.of_grown hg2 (fun j hj => by cases hj; exact hu4)) (fun _ _ h => h)).below (Nat.le_refl _) (fun _ h => h))
      have h12 := lawFirst v7 (encUp n ++ [0]) 12 0 0 12 w10 (HoldsB.of_own hown2) (by rw [List.length_append, up_len, HL.out]; simp; omega) (numP_no (by rw [← encLong_up]; exact rd_long HN.out) (by decide)) rfl (by decide)
      have K10 := Lib.hid hb10
      have H12 := Lib.hid h12
      clear hb10 h12 hu1 hu2 hu3 hu4 hown1 hown2 hg1 hg2 hat1 hat2 hc9 hf9 lw l1 l2 K7 HV7
      refine H12.out.mono ?_
      rintro e w11 ⟨rfl, hb11⟩
      have K11 := Lib.hid (below_trans K10.out hb11)
      clear hb11 K10 H12
      go_wp2_with fail
      refine (knownB w11).mono ?_
      rintro e w12 ⟨rfl, hb12⟩
      have K12 := Lib.hid (below_trans K11.out hb12)
      clear hb12 K11
      go_wp2_with fail
      go_ret
      exact ⟨rfl, K12.out⟩

set_option maxRecDepth 100000 in
set_option maxHeartbeats 4000000 in
theorem lawNumbers_b (n : Nat) (w : World) (hn : n < 18446744073709551616) (h0 : 0 < n) :
    Calls Try.prog 5 #[.int .u64 (n : Int)] w fun e w' => e = .returned (.bool true) ∧ Below w.heap.size w w' := by
  obtain ⟨i0, hi0, hz0, hz1, hz2⟩ := info_parts infoB
  have c0 : (0 : Int) < (n : Int) := by omega
  have cw : IntKind.u64.wrap ((n : Int) - 1) = ((n - 1 : Nat) : Int) := by simp [IntKind.wrap, IntKind.bits, IntKind.signed]; omega
  have H0 := Lib.hid h0
  clear h0
  have HN := Lib.hid hn
  have HR := Lib.hid (refNumber n n w (Nat.le_refl _) hn)
  have hrd : rd (enc n) = (n, (enc n).length, 0) := by have := rd_enc hn []; rwa [List.append_nil] at this
  have HRD := Lib.hid hrd
  have ht := enc_ten hn
  have hp := enc_pos n
  clear hn hrd
  go_enter Try.func5, Try.ntmps5
  go_wp2_with fail
  refine HR.out.mono ?_
  rintro e w1 ⟨⟨A, c, rfl, ho⟩, hb⟩
  have hv := HoldsB.of_own ho
  have K := Lib.hid hb
  have HV := Lib.hid hv
  have hcv := fun z => convB (far w1 z) A c (enc n) (hv.below (below_far w1 z))
  have HQ0 := Lib.hid fun z => lawNumber n (far w1 z) HN.out
  have HQ1 := Lib.hid fun z => sizeAt n (far w1 z) HN.out
  clear ho hv hb
  go_wp2_with fail
  refine wp_region_far (by kernel_rfl) (by kernel_rfl) ?_
  repeat (go_big_quiet_step ((first | (go_at_call 30; exact far_of (HQ0.out _)) | (go_at_call 17; exact far_of_same (HQ1.out _)))))
  refine wpQuiet_nil ?_
  rintro _ ⟨p, rfl⟩
  have hb2 := below_far w1 p
  have HV2 := Lib.hid (HV.out.below hb2)
  have K2 := Lib.hid (below_trans K.out hb2)
  clear hcv HQ0 HQ1 K HV hb2 HR
  generalize far w1 p = w2 at *
  go_wp2_with fail
  refine (newAt _ (enc n) _ HV2.out (by omega)).mono ?_
  rintro e w3 ⟨⟨g, Ag, cg, rfl, hR, hg, hAg⟩, hb⟩
  have K3 := Lib.hid (below_trans K2.out hb)
  have HV3 := Lib.hid (HV2.out.below hb)
  have R3 := Lib.hid hR
  have G := Lib.hid (show w.heap.size ≤ g ∧ (∀ a, A = some a → a.block ≠ g) ∧ g < w3.heap.size from ⟨Nat.le_trans K2.out.size hg, fun a ha => by
    subst ha
    obtain ⟨A', c', e, hat, _, _⟩ := HV2.out
    cases e
    obtain ⟨b, off, e, hbl, _⟩ := hat (by omega)
    cases e
    simp only []
    omega, hR.lt⟩)
  clear hR hb hg hAg K2 HV2
  have e0 := numP_big (l := (enc n).drop 0) (most := n - 1) HRD.out (by have := H0.out; omega)
  go_wp2_with fail
  refine (lawReads g Ag cg (enc n) 0 (n - 1) 0 3 0 _ 3 true _ R3.out (by have := HN.out; omega) e0 rfl (by simp)).mono ?_
  rintro e w4 ⟨rfl, hR, hC⟩
  have K4 := Lib.hid (K3.out.trans (hC.below K3.out.size fun k hk => by rw [hk]; exact G.out.1))
  have HV4 := Lib.hid (hC.holds HV3.out fun k hk e => by
    obtain ⟨a, rfl, rfl⟩ : ∃ a, A = some a ∧ a.block = k := by
      cases A with
      | none => simp [Value.ownBlock] at hk
      | some a => exact ⟨a, rfl, by simpa [Value.ownBlock] using hk⟩
    exact G.out.2.1 a rfl e)
  have R4 := Lib.hid (show Rd w4 g Ag cg (enc n) (0) from hR)
  clear hR hC K3 HV3 R3
  have e1 := numP_ok (l := (enc n).drop 0) (most := n) HRD.out (Nat.le_refl _)
  have e2 : (rd ((enc n).drop 0)).2.1 = (enc n).length := by rw [List.drop_zero, HRD.out]
  go_wp2_with fail
  refine (lawReads g Ag cg (enc n) 0 n n 0 n (enc n).length 0 true _ R4.out HN.out e1 e2 (by simp)).mono ?_
  rintro e w5 ⟨rfl, hR, hC⟩
  have K5 := Lib.hid (K4.out.trans (hC.below K4.out.size fun k hk => by rw [hk]; exact G.out.1))
  have HV5 := Lib.hid (hC.holds HV4.out fun k hk e => by
    obtain ⟨a, rfl, rfl⟩ : ∃ a, A = some a ∧ a.block = k := by
      cases A with
      | none => simp [Value.ownBlock] at hk
      | some a => exact ⟨a, rfl, by simpa [Value.ownBlock] using hk⟩
    exact G.out.2.1 a rfl e)
  have R5 := Lib.hid (show Rd w5 g Ag cg (enc n) (0 + adv 0 (enc n).length) from hR)
  clear hR hC K4 HV4 R4
  rw [show 0 + adv 0 (enc n).length = (enc n).length from by simp [adv]] at R5
  go_wp2_with fail
  refine (endAt g Ag cg (enc n) (enc n).length 0 _ R5.out (by simp)).mono ?_
  rintro e w6 ⟨rfl, hb⟩
  have K6 := Lib.hid (below_trans K5.out hb)
  have HV6 := Lib.hid (HV5.out.below hb)
  clear hb K5 HV5 R5 G e1 e2 c0 cw e0 H0
  obtain ⟨L, hL⟩ : ∃ L, (enc n).length = L := ⟨_, rfl⟩
  have HL := Lib.hid hL
  rw [hL] at ht hp ⊢
  clear hL
  go_wp2_with fail
  go_loopw [5] (fun a wr => ∃ k : Nat, k ≤ L ∧ a = .int .i64 k ∧ Hid (Below w.heap.size w wr) ∧ Hid (HoldsB wr (.slice A (enc n).length c) (enc n))) (fun a _ => L - (intOf a).toNat)
  case atStart => exact ⟨0, by omega, rfl, K6, HV6⟩
  case round =>
    obtain ⟨k, hk, rfl, K7, HV7⟩ := hrel
    by_cases hlt : k < L
    · have hvk : HoldsB wr (.slice A k c) ((enc n).take k) := by
        obtain ⟨A', c', e, hat, h2, h3⟩ := HV7.out
        cases e
        refine ⟨A, c, by rw [List.length_take, HL.out, Nat.min_eq_left (by omega)], hat.take k, ?_, h3⟩
        rw [List.length_take]; omega
      have hfi := lawFirst _ ((enc n).take k) 4 0 0 4 wr hvk (by rw [List.length_take]; omega) (numP_no (rd_short HN.out (by rw [HL.out]; exact hlt)) (by decide)) rfl (by decide)
      have HFI := Lib.hid hfi
      have hck : (k : Int) ≤ (c : Int) := by
        obtain ⟨A', c', e, hat, h2, h3⟩ := HV7.out
        cases e
        have := HL.out
        omega
      have z0 : (0 : Int) ≤ (k : Int) := by omega
      clear hvk hfi
      go_wp2_with fail
      refine HFI.out.mono ?_
      rintro e w8 ⟨rfl, hb⟩
      have K8 := Lib.hid (below_trans K7.out hb)
      have HV8 := Lib.hid (HV7.out.below hb)
      clear hb
      go_wp2_with fail
      go_roundw
      case rel => exact ⟨k + 1, by omega, by go_num, K8, HV8⟩
      case measure => simp [intOf]; omega
    · obtain rfl : k = L := by omega
      clear hk hlt K6 HV6
      have hat : BytesAt wr A (enc n) := by
        obtain ⟨A', c', e, hat, _, _⟩ := HV7.out
        cases e
        exact hat
      have hl100 : (enc n).length ≤ 100 := by rw [HL.out]; omega
      have HLL := Lib.hid HL.out.symm
      go_wp2_with (at_builtin; first | (refine wpList_append_sl (o := ⟨some 60, _, _, _, _, _⟩) _ encB 1 rfl (.const (.slice none 0 0)) (.tmp 59) 25 rfl encB_len (by omega) encB_one wr.heap.size 5 i0 _ 1 Try.underlying25 hi0 hz0 hz1 hz2 rfl (.slice none 0 0) [] rfl (World.ownsRow_nil _ _ _ _) A _ c (enc n) rfl HLL.out hat (by simp [maxLen]; omega) (by simp; omega) (Nat.le_refl _) ?_; intro v6 w9 hown1 hg1 hat1; rw [List.nil_append, HL.out] at hown1; obtain ⟨g6, c6, rfl⟩ := Joins.ownsRow_form hown1 hp; have l1 : (1 : Int) ≤ (k : Int) := (by omega); have l2 : (k : Int) - 1 < (k : Int) := (by omega); have hc9 : w9.cell? ⟨g6, k - 1, none⟩ = some (.int .u8 (lastB n : Int)) := (hown1.cellAt (k - 1) (by omega)).trans (cells_last HL.out); have hf9 := hown1.frozenAt (k - 1); have lw : IntKind.u8.wrap ((lastB n : Int) + 128) = ((lastB n + 128 : Nat) : Int) := wrap_last n; obtain ⟨hu1, hu2, hu3, hu4⟩ := up_step HL.out hown1 hg1 (Nat.le_refl _)) | (go_loud (refine wpList_append_sl (o := ⟨some 71, _, _, _, _, _⟩) _ encB 1 rfl (.tmp 69) (.tmp 70) 25 rfl encB_len (by omega) encB_one wr.heap.size 5 i0 _ 1 Try.underlying25 hi0 hz0 hz1 hz2 rfl _ (encUp n) rfl hu1 _ _ _ [0] rfl rfl hu2 (by rw [up_len, HL.out]; simp [maxLen]; omega) (by rw [up_len, HL.out]; simp; omega) (Nat.le_trans (Nat.le_refl _) (hu3.size)) ?_; intro v7 w10 hown2 hg2 hat2)))
      have hb10 := below_trans K7.out ((hu3.trans (Chg.of_grown hg2 (fun j hj => by cases hj; exact hu4)) (fun _ _ h => h)).below (Nat.le_refl _) (fun _ h => h))
      have h12 := lawFirst v7 (encUp n ++ [0]) 12 0 0 12 w10 (HoldsB.of_own hown2) (by rw [List.length_append, up_len, HL.out]; simp; omega) (numP_no (by rw [← encLong_up]; exact rd_long HN.out) (by decide)) rfl (by decide)
      have K10 := Lib.hid hb10
      have H12 := Lib.hid h12
      clear hb10 h12 hu1 hu2 hu3 hu4 hown1 hown2 hg1 hg2 hat1 hat2 hc9 hf9 lw l1 l2 K7 HV7
      refine H12.out.mono ?_
      rintro e w11 ⟨rfl, hb11⟩
      have K11 := Lib.hid (below_trans K10.out hb11)
      clear hb11 K10 H12
      go_wp2_with fail
      refine (knownB w11).mono ?_
      rintro e w12 ⟨rfl, hb12⟩
      have K12 := Lib.hid (below_trans K11.out hb12)
      clear hb12 K11
      go_wp2_with fail
      go_ret
      exact ⟨rfl, K12.out⟩

theorem lawNumbers (n : Nat) (w : World) (hn : n < 18446744073709551616) :
    Calls Try.prog 5 #[.int .u64 (n : Int)] w fun e w' => e = .returned (.bool true) ∧ Below w.heap.size w w' := by
  by_cases h0 : n = 0
  · exact lawNumbers_a n w hn h0
  · exact lawNumbers_b n w hn (by omega)

end Go.Proofs.Ytkloheabbbpboaa
