/- known: the examples of the chapter bytes. -/
import Derived.Test.YtkloheabbbpboaaBytJ
namespace Go.Proofs.Ytkloheabbbpboaa
open Go.RowKit

/-- Bytes written out. -/
theorem HoldsB.lit (W : World) (l : List UInt8) (hl : l.length ≤ maxLen) : HoldsB (W.alloc (.cells (cellsOf encB l).toArray 5)) (.slice (some ⟨W.heap.size, 0, none⟩) l.length l.length) l := by
  have ho : (W.alloc (.cells (cellsOf encB l).toArray 5)).ownsRow W.heap.size 5 1 (.slice (some ⟨W.heap.size, 0, none⟩) l.length l.length) l.length (cellsOf encB l) := by
    refine ⟨by rw [cellsOf_length encB_len], .inr ⟨W.heap.size, l.length, (cellsOf encB l).toArray, rfl, Nat.le_refl _, heap_alloc_new W _, Nat.le_refl _, hl, ?_, ?_⟩⟩
    · rw [List.size_toArray, cellsOf_length encB_len]
    · rw [List.toList_toArray, List.take_of_length_le (by rw [cellsOf_length encB_len]; exact Nat.le_refl _)]
  exact HoldsB.of_own ho
theorem Rd.after {W W' : World} {g g' : Nat} {A : Option Addr} {c : Nat} {xs : List UInt8} {i : Nat} (h : Rd W g' A c xs i) (hc : Chg (fun k => k = g) W W') (h1 : g < g') (h2 : ∀ a, A = some a → g < a.block) : Rd W' g' A c xs i :=
  h.chg hc (by omega) fun a ha => by have := h2 a ha; omega

theorem number_h (n : Nat) (x : Int) (l : Array UInt8) (w : World) (hx : (n : Int) = x) (hn : n < 18446744073709551616) (hl : (enc n).toArray = l) :
    Calls Try.prog 30 #[.int .u64 x] w fun e w' => e = .returned (.string ⟨l⟩) ∧ Below w.heap.size w w' := by
  subst hx; subst hl
  exact lawNumber n w hn

set_option maxHeartbeats 1000000 in
theorem lawNines (b : UInt8) (x : Int) (w : World) (hx : (b.toNat : Int) = x) :
    Calls Try.prog 32 #[.int .u8 x] w fun e w' => (∃ B d, e = .returned (.slice B 10 d) ∧ HoldsB w' (.slice B 10 d) [255, 255, 255, 255, 255, 255, 255, 255, 255, b]) ∧ Below w.heap.size w w' := by
  subst hx
  have hl := HoldsB.lit w [255, 255, 255, 255, 255, 255, 255, 255, 255, b] (by simp [maxLen])
  have HL := Lib.hid (show HoldsB (w.alloc (.cells #[.int .u8 255, .int .u8 255, .int .u8 255, .int .u8 255, .int .u8 255, .int .u8 255, .int .u8 255, .int .u8 255, .int .u8 255, .int .u8 b.toNat] 5)) (.slice (some ⟨w.heap.size, 0, none⟩) 10 10) _ from hl)
  clear hl
  go_enter Try.func32, Try.ntmps32
  go_wp2
  go_ret
  exact ⟨⟨_, _, rfl, HL.out⟩, (Below.refl _ w).alloc (Nat.le_refl _) _⟩

theorem hears_h (g : Nat) (A : Option Addr) (c : Nat) (xs : List UInt8) (i : Nat) (most : Int) (want : Array UInt8) (ys : List UInt8) (z : Nat) (no er : Int) (w : World) (h : Rd w g A c xs i) (hn0 : -9223372036854775808 ≤ most) (hn1 : most ≤ 9223372036854775807) (ht : rdS (xs.drop i) most = (ys, z, er)) (hw : ys.toArray = want) (hb : er = no) :
    Calls Try.prog 22 #[.pointer (some ⟨g, 0, none⟩), .int .i64 most, .string ⟨want⟩, .int .i64 no] w (AskR w g A c xs (i + adv er z) true) := by
  subst hw
  exact lawHears g A c xs i most ys ys z no er true w h hn0 hn1 ht (by simp [hb])
theorem takes_h (g : Nat) (A : Option Addr) (c : Nat) (xs : List UInt8) (i : Nat) (n : Int) (want : Array UInt8) (ys : List UInt8) (no er : Int) (w : World) (h : Rd w g A c xs i) (hn0 : -9223372036854775808 ≤ n) (hn1 : n ≤ 9223372036854775807) (ht : takeP (xs.drop i) n = (ys, er)) (hw : ys.toArray = want) (hb : er = no) :
    Calls Try.prog 23 #[.pointer (some ⟨g, 0, none⟩), .int .i64 n, .string ⟨want⟩, .int .i64 no] w (AskR w g A c xs (i + adv er ys.length) true) := by
  subst hw
  exact lawTakes g A c xs i n ys ys no er true w h hn0 hn1 ht (by simp [hb])
theorem reads_h (g : Nat) (A : Option Addr) (c : Nat) (xs : List UInt8) (i most want : Nat) (m x no : Int) (z : Nat) (er : Int) (w : World) (h : Rd w g A c xs i) (hmx : (most : Int) = m) (hwx : (want : Int) = x) (hmost : most < 18446744073709551616) (hr : numP (rd (xs.drop i)) most = (want, er)) (hz : (rd (xs.drop i)).2.1 = z) (hb : er = no) :
    Calls Try.prog 20 #[.pointer (some ⟨g, 0, none⟩), .int .u64 m, .int .u64 x, .int .i64 no] w (AskR w g A c xs (i + adv er z) true) := by
  subst hmx; subst hwx; subst hb
  exact lawReads g A c xs i most want er want z er true w h hmost hr hz (by simp)

set_option maxRecDepth 100000 in
set_option maxHeartbeats 4000000 in
theorem knownB (w : World) : Calls Try.prog 9 #[] w fun e w' => e = .returned (.bool true) ∧ Below w.heap.size w w' := by
  have hal : Below w.heap.size w (w.alloc (.cells #[.slice none 0 0] 27)) := (Below.refl _ w).alloc (Nat.le_refl _) _
  have HS := Lib.hid (strAt w.heap.size (.slice none 0 0) [] ⟨#[97, 98]⟩ _ (Wr.new w) (by decide) (by decide))
  have HAL := Lib.hid hal
  clear hal
  go_enter Try.func9, Try.ntmps9
  go_wp2_with fail
  refine HS.out.mono ?_
  rintro e w1 ⟨rfl, hw⟩
  have K := Lib.hid (hw.bel HAL.out (Nat.le_refl _))
  obtain ⟨v1, hw1, _, _⟩ := hw
  have hw1 : Wr w1 w.heap.size v1 [2, 97, 98] := by
    have e : ([] : List UInt8) ++ (enc (ByteArray.size ⟨#[97, 98]⟩) ++ (⟨#[97, 98]⟩ : ByteArray).data.toList) = [2, 97, 98] := by
      rw [show ByteArray.size ⟨#[97, 98]⟩ = 2 from rfl, enc_lt (by omega)]; rfl
    rw [e] at hw1
    exact hw1
  have HW := Lib.hid hw1
  clear hw1 HS HAL
  go_wp2_with fail
  refine (number_h 0 0 #[0] _ rfl (by omega) (by rw [enc_lt (by omega)]; rfl)).mono ?_
  rintro e w2 ⟨rfl, hb⟩
  replace K := Lib.hid (below_trans K.out hb)
  replace HW := Lib.hid (HW.out.below hb)
  clear hb
  go_wp2_with fail
  refine (number_h 127 127 #[127] _ rfl (by omega) (by rw [enc_lt (by omega)]; rfl)).mono ?_
  rintro e w3 ⟨rfl, hb⟩
  replace K := Lib.hid (below_trans K.out hb)
  replace HW := Lib.hid (HW.out.below hb)
  clear hb
  go_wp2_with fail
  refine (number_h 128 128 #[128, 1] _ rfl (by omega) (by rw [enc_ge (by omega), enc_lt (by omega)]; rfl)).mono ?_
  rintro e w4 ⟨rfl, hb⟩
  replace K := Lib.hid (below_trans K.out hb)
  replace HW := Lib.hid (HW.out.below hb)
  clear hb
  go_wp2_with fail
  refine (number_h 300 300 #[172, 2] _ rfl (by omega) (by rw [enc_ge (by omega), enc_lt (by omega)]; rfl)).mono ?_
  rintro e w5 ⟨rfl, hb⟩
  replace K := Lib.hid (below_trans K.out hb)
  replace HW := Lib.hid (HW.out.below hb)
  clear hb
  go_wp2_with fail
  refine (number_h 18446744073709551615 18446744073709551615 #[255, 255, 255, 255, 255, 255, 255, 255, 255, 1] _ rfl (by omega) (by simp [enc])).mono ?_
  rintro e w6 ⟨rfl, hb⟩
  replace K := Lib.hid (below_trans K.out hb)
  replace HW := Lib.hid (HW.out.below hb)
  clear hb
  go_wp2_with fail
  refine (lawNines 1 1 _ rfl).mono ?_
  rintro e w7 ⟨⟨B, d, rfl, hv⟩, hb⟩
  replace K := Lib.hid (below_trans K.out hb)
  replace HW := Lib.hid (HW.out.below hb)
  clear hb
  have hcv := (show (convert 25 9 (.slice B 10 d)).run Try.prog w7 = .ok (.string ⟨#[255, 255, 255, 255, 255, 255, 255, 255, 255, 1]⟩) w7 from convB w7 B d [255, 255, 255, 255, 255, 255, 255, 255, 255, 1] hv)
  clear hv
  go_wp2_with fail
  refine (bytesAt w.heap.size v1 [2, 97, 98] w7 HW.out (by simp)).mono ?_
  rintro e w8 ⟨⟨v2, rfl, ho⟩, hb⟩
  replace K := Lib.hid (below_trans K.out hb)
  have hv := HoldsB.of_own ho
  have hv0 := hv
  obtain ⟨B2, d2, rfl, _⟩ := hv
  clear hcv
  have hcv := (show (convert 25 9 (.slice B2 3 d2)).run Try.prog w8 = .ok (.string ⟨#[2, 97, 98]⟩) w8 from convB w8 B2 d2 [2, 97, 98] hv0)
  clear ho hv0 hb HW
  have hlit := (show HoldsB (w8.alloc (.cells #[.int .u8 172, .int .u8 2, .int .u8 5] 5)) (.slice (some ⟨w8.heap.size, 0, none⟩) 3 3) [172, 2, 5] from HoldsB.lit w8 [172, 2, 5] (by simp [maxLen]))
  have HLIT := Lib.hid hlit
  clear hlit
  go_wp2_with fail
  refine (newAt _ [172, 2, 5] _ HLIT.out (by simp)).mono ?_
  rintro e w9 ⟨⟨gr, Ar, cr, rfl, hR, hg, hA⟩, hb0⟩
  have hb : Below w8.heap.size w8 w9 := below_trans ((Below.refl _ w8).alloc (Nat.le_refl _) _) hb0
  have Rr := Lib.hid hR
  have Gr : Hid (w.heap.size ≤ gr) := Nat.le_trans K.out.size (Nat.le_trans (by simp) hg)
  replace K := Lib.hid (below_trans K.out hb)
  clear hR hg hA hb hb0 HLIT
  go_wp2_with fail
  refine (reads_h gr Ar cr _ 0 1000 300 1000 300 0 2 0 _ Rr.out rfl rfl (by omega) (by decide +kernel) (by decide +kernel) rfl).mono ?_
  rintro e w10 ⟨rfl, hR, hC⟩
  replace K := Lib.hid (K.out.trans (hC.below K.out.size fun k hk => by rw [hk]; exact Gr.out))
  replace Rr := Lib.hid (show Rd w10 gr Ar cr _ 2 from hR)
  clear hR hC
  go_wp2_with fail
  refine (atAt gr Ar cr _ 2 _ Rr.out).mono ?_
  rintro e wt ⟨rfl, rfl⟩
  go_wp2_with fail
  refine (reads_h gr Ar cr _ 2 4 0 4 0 3 1 3 _ Rr.out rfl rfl (by omega) (by decide +kernel) (by decide +kernel) rfl).mono ?_
  rintro e w11 ⟨rfl, hR, hC⟩
  replace K := Lib.hid (K.out.trans (hC.below K.out.size fun k hk => by rw [hk]; exact Gr.out))
  replace Rr := Lib.hid (show Rd w11 gr Ar cr _ 2 from hR)
  clear hR hC
  go_wp2_with fail
  refine (reads_h gr Ar cr _ 2 5 5 5 5 0 1 0 _ Rr.out rfl rfl (by omega) (by decide +kernel) (by decide +kernel) rfl).mono ?_
  rintro e w12 ⟨rfl, hR, hC⟩
  replace K := Lib.hid (K.out.trans (hC.below K.out.size fun k hk => by rw [hk]; exact Gr.out))
  replace Rr := Lib.hid (show Rd w12 gr Ar cr _ 3 from hR)
  clear hR hC
  go_wp2_with fail
  refine (endAt gr Ar cr _ 3 0 _ Rr.out (by simp)).mono ?_
  rintro e w13 ⟨rfl, hb⟩
  replace K := Lib.hid (below_trans K.out hb)
  clear hb
  clear Rr Gr
  have hlit := (show HoldsB (w13.alloc (.cells #[.int .u8 128] 5)) (.slice (some ⟨w13.heap.size, 0, none⟩) 1 1) [128] from HoldsB.lit w13 [128] (by simp [maxLen]))
  have HLIT := Lib.hid hlit
  clear hlit
  go_wp2_with fail
  refine (lawFirst _ [128] 4 0 0 4 _ HLIT.out (by simp) (by decide +kernel) rfl (by decide)).mono ?_
  rintro e w14 ⟨rfl, hb0⟩
  replace K := Lib.hid (below_trans K.out (below_trans ((Below.refl _ w13).alloc (Nat.le_refl _) _) hb0))
  clear hb0 HLIT
  have hlit := (show HoldsB (w14.alloc (.cells #[.int .u8 128, .int .u8 0] 5)) (.slice (some ⟨w14.heap.size, 0, none⟩) 2 2) [128, 0] from HoldsB.lit w14 [128, 0] (by simp [maxLen]))
  have HLIT := Lib.hid hlit
  clear hlit
  go_wp2_with fail
  refine (lawFirst _ [128, 0] 12 0 0 12 _ HLIT.out (by simp) (by decide +kernel) rfl (by decide)).mono ?_
  rintro e w15 ⟨rfl, hb0⟩
  replace K := Lib.hid (below_trans K.out (below_trans ((Below.refl _ w14).alloc (Nat.le_refl _) _) hb0))
  clear hb0 HLIT
  go_wp2_with fail
  refine (lawNines 255 255 _ rfl).mono ?_
  rintro e w16 ⟨⟨B, d, rfl, hv⟩, hb⟩
  replace K := Lib.hid (below_trans K.out hb)
  clear hb
  have HV := Lib.hid hv
  clear hv
  go_wp2_with fail
  refine (lawFirst _ [255, 255, 255, 255, 255, 255, 255, 255, 255, 255] 12 0 0 12 _ HV.out (by simp) (by decide +kernel) rfl (by decide)).mono ?_
  rintro e w17 ⟨rfl, hb0⟩
  replace K := Lib.hid (below_trans K.out hb0)
  clear hb0 HV
  go_wp2_with fail
  refine (lawNines 2 2 _ rfl).mono ?_
  rintro e w18 ⟨⟨B, d, rfl, hv⟩, hb⟩
  replace K := Lib.hid (below_trans K.out hb)
  clear hb
  have HV := Lib.hid hv
  clear hv
  go_wp2_with fail
  refine (lawFirst _ [255, 255, 255, 255, 255, 255, 255, 255, 255, 2] 12 0 0 12 _ HV.out (by simp) (by decide +kernel) rfl (by decide)).mono ?_
  rintro e w19 ⟨rfl, hb0⟩
  replace K := Lib.hid (below_trans K.out hb0)
  clear hb0 HV
  go_wp2_with fail
  refine (lawFirst _ [] 4 0 0 4 _ (HoldsB.nil _) (by simp) (by decide +kernel) rfl (by decide)).mono ?_
  rintro e w20 ⟨rfl, hb0⟩
  replace K := Lib.hid (below_trans K.out hb0)
  clear hb0
  have hlit := (show HoldsB (w20.alloc (.cells #[.int .u8 2, .int .u8 97, .int .u8 98] 5)) (.slice (some ⟨w20.heap.size, 0, none⟩) 3 3) [2, 97, 98] from HoldsB.lit w20 [2, 97, 98] (by simp [maxLen]))
  have HLIT := Lib.hid hlit
  clear hlit
  go_wp2_with fail
  refine (newAt _ [2, 97, 98] _ HLIT.out (by simp)).mono ?_
  rintro e w21 ⟨⟨gx, Ax, cx, rfl, hR, hg, hA⟩, hb0⟩
  have hb : Below w20.heap.size w20 w21 := below_trans ((Below.refl _ w20).alloc (Nat.le_refl _) _) hb0
  have Rx := Lib.hid hR
  have Gx : Hid (w.heap.size ≤ gx) := Nat.le_trans K.out.size (Nat.le_trans (by simp) hg)
  replace K := Lib.hid (below_trans K.out hb)
  clear hR hg hA hb hb0 HLIT
  have hlit := (show HoldsB (w21.alloc (.cells #[.int .u8 2, .int .u8 97, .int .u8 98] 5)) (.slice (some ⟨w21.heap.size, 0, none⟩) 3 3) [2, 97, 98] from HoldsB.lit w21 [2, 97, 98] (by simp [maxLen]))
  have HLIT := Lib.hid hlit
  clear hlit
  go_wp2_with fail
  refine (newAt _ [2, 97, 98] _ HLIT.out (by simp)).mono ?_
  rintro e w22 ⟨⟨gy, Ay, cy, rfl, hR, hg, hA⟩, hb0⟩
  have hb : Below w21.heap.size w21 w22 := below_trans ((Below.refl _ w21).alloc (Nat.le_refl _) _) hb0
  have Ry := Lib.hid hR
  have Gy : Hid (w.heap.size ≤ gy) := Nat.le_trans K.out.size (Nat.le_trans (by simp) hg)
  have Oxy : Hid (gx < gy ∧ ∀ a, Ay = some a → gx < a.block) := ⟨Nat.lt_of_lt_of_le Rx.out.lt (Nat.le_trans (by simp) hg), fun a ha => Nat.lt_of_lt_of_le Rx.out.lt (Nat.le_trans (by simp) (hA a ha))⟩
  replace Rx := Lib.hid (Rx.out.below hb)
  replace K := Lib.hid (below_trans K.out hb)
  clear hR hg hA hb hb0 HLIT
  have hlit := (show HoldsB (w22.alloc (.cells #[.int .u8 2, .int .u8 97] 5)) (.slice (some ⟨w22.heap.size, 0, none⟩) 2 2) [2, 97] from HoldsB.lit w22 [2, 97] (by simp [maxLen]))
  have HLIT := Lib.hid hlit
  clear hlit
  go_wp2_with fail
  refine (newAt _ [2, 97] _ HLIT.out (by simp)).mono ?_
  rintro e w23 ⟨⟨gz, Az, cz, rfl, hR, hg, hA⟩, hb0⟩
  have hb : Below w22.heap.size w22 w23 := below_trans ((Below.refl _ w22).alloc (Nat.le_refl _) _) hb0
  have Rz := Lib.hid hR
  have Gz : Hid (w.heap.size ≤ gz) := Nat.le_trans K.out.size (Nat.le_trans (by simp) hg)
  have Oxz : Hid (gx < gz ∧ ∀ a, Az = some a → gx < a.block) := ⟨Nat.lt_of_lt_of_le Rx.out.lt (Nat.le_trans (by simp) hg), fun a ha => Nat.lt_of_lt_of_le Rx.out.lt (Nat.le_trans (by simp) (hA a ha))⟩
  have Oyz : Hid (gy < gz ∧ ∀ a, Az = some a → gy < a.block) := ⟨Nat.lt_of_lt_of_le Ry.out.lt (Nat.le_trans (by simp) hg), fun a ha => Nat.lt_of_lt_of_le Ry.out.lt (Nat.le_trans (by simp) (hA a ha))⟩
  replace Rx := Lib.hid (Rx.out.below hb)
  replace Ry := Lib.hid (Ry.out.below hb)
  replace K := Lib.hid (below_trans K.out hb)
  clear hR hg hA hb hb0 HLIT
  have hlit := (show HoldsB (w23.alloc (.cells #[.int .u8 7, .int .u8 8] 5)) (.slice (some ⟨w23.heap.size, 0, none⟩) 2 2) [7, 8] from HoldsB.lit w23 [7, 8] (by simp [maxLen]))
  have HLIT := Lib.hid hlit
  clear hlit
  go_wp2_with fail
  refine (newAt _ [7, 8] _ HLIT.out (by simp)).mono ?_
  rintro e w24 ⟨⟨gt, At, ct, rfl, hR, hg, hA⟩, hb0⟩
  have hb : Below w23.heap.size w23 w24 := below_trans ((Below.refl _ w23).alloc (Nat.le_refl _) _) hb0
  have Rt := Lib.hid hR
  have Gt : Hid (w.heap.size ≤ gt) := Nat.le_trans K.out.size (Nat.le_trans (by simp) hg)
  have Oxt : Hid (gx < gt ∧ ∀ a, At = some a → gx < a.block) := ⟨Nat.lt_of_lt_of_le Rx.out.lt (Nat.le_trans (by simp) hg), fun a ha => Nat.lt_of_lt_of_le Rx.out.lt (Nat.le_trans (by simp) (hA a ha))⟩
  have Oyt : Hid (gy < gt ∧ ∀ a, At = some a → gy < a.block) := ⟨Nat.lt_of_lt_of_le Ry.out.lt (Nat.le_trans (by simp) hg), fun a ha => Nat.lt_of_lt_of_le Ry.out.lt (Nat.le_trans (by simp) (hA a ha))⟩
  have Ozt : Hid (gz < gt ∧ ∀ a, At = some a → gz < a.block) := ⟨Nat.lt_of_lt_of_le Rz.out.lt (Nat.le_trans (by simp) hg), fun a ha => Nat.lt_of_lt_of_le Rz.out.lt (Nat.le_trans (by simp) (hA a ha))⟩
  replace Rx := Lib.hid (Rx.out.below hb)
  replace Ry := Lib.hid (Ry.out.below hb)
  replace Rz := Lib.hid (Rz.out.below hb)
  replace K := Lib.hid (below_trans K.out hb)
  clear hR hg hA hb hb0 HLIT
  go_wp2_with fail
  refine (hears_h gx Ax cx _ 0 5 #[97, 98] [97, 98] 3 0 0 _ Rx.out (by omega) (by omega) (by decide +kernel) rfl rfl).mono ?_
  rintro e w25 ⟨rfl, hR, hC⟩
  replace K := Lib.hid (K.out.trans (hC.below K.out.size fun k hk => by rw [hk]; exact Gx.out))
  replace Ry := Lib.hid (Ry.out.after hC Oxy.out.1 Oxy.out.2)
  replace Rz := Lib.hid (Rz.out.after hC Oxz.out.1 Oxz.out.2)
  replace Rt := Lib.hid (Rt.out.after hC Oxt.out.1 Oxt.out.2)
  replace Rx := Lib.hid (show Rd w25 gx Ax cx _ 3 from hR)
  clear hR hC
  go_wp2_with fail
  refine (hears_h gy Ay cy _ 0 1 #[] [] 0 5 5 _ Ry.out (by omega) (by omega) (by decide +kernel) rfl rfl).mono ?_
  rintro e w26 ⟨rfl, hR, hC⟩
  replace K := Lib.hid (K.out.trans (hC.below K.out.size fun k hk => by rw [hk]; exact Gy.out))
  replace Rz := Lib.hid (Rz.out.after hC Oyz.out.1 Oyz.out.2)
  replace Rt := Lib.hid (Rt.out.after hC Oyt.out.1 Oyt.out.2)
  replace Ry := Lib.hid (show Rd w26 gy Ay cy _ 0 from hR)
  clear hR hC
  go_wp2_with fail
  refine (hears_h gz Az cz _ 0 5 #[] [] 0 4 4 _ Rz.out (by omega) (by omega) (by decide +kernel) rfl rfl).mono ?_
  rintro e w27 ⟨rfl, hR, hC⟩
  replace K := Lib.hid (K.out.trans (hC.below K.out.size fun k hk => by rw [hk]; exact Gz.out))
  replace Rt := Lib.hid (Rt.out.after hC Ozt.out.1 Ozt.out.2)
  replace Rz := Lib.hid (show Rd w27 gz Az cz _ 0 from hR)
  clear hR hC
  go_wp2_with fail
  refine (takes_h gt At ct _ 0 1 #[7] [7] 0 0 _ Rt.out (by omega) (by omega) (by decide +kernel) rfl rfl).mono ?_
  rintro e w28 ⟨rfl, hR, hC⟩
  replace K := Lib.hid (K.out.trans (hC.below K.out.size fun k hk => by rw [hk]; exact Gt.out))
  replace Rt := Lib.hid (show Rd w28 gt At ct _ 1 from hR)
  clear hR hC
  go_wp2_with fail
  refine (endAt gt At ct _ 1 12 _ Rt.out (by simp)).mono ?_
  rintro e w29 ⟨rfl, hb⟩
  replace K := Lib.hid (below_trans K.out hb)
  clear hb
  go_wp2_with fail
  go_ret
  exact ⟨rfl, K.out⟩

end Go.Proofs.Ytkloheabbbpboaa
