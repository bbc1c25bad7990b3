/- Package bytes: a writer's String, nil writers, Size; the reference's bytes of numbers and strings. -/
import Derived.Test.YtkloheabbbpboaaBytB
import Derived.Lib.ConvBytes
import Derived.Lib.SlBytesRow
import Derived.Lib.BufferRead
import Derived.Lib.ItoaNum
import Derived.Shelf.Small.Bits
namespace Go.Proofs.Ytkloheabbbpboaa
open Go.RowKit

theorem bytesWorld_below (w : World) (s : ByteArray) : Below w.heap.size w (Lib.bytesWorld w 5 s) := by
  refine ⟨rfl, rfl, rfl, ?_, fun k hk => Lib.bytesWorld_at_old w _ s k hk⟩
  have h := Lib.bytesWorld_at_new w 5 s
  have := (Array.getElem?_eq_some_iff.1 h).1
  omega
theorem bytesWorld_at (w : World) (s : ByteArray) : BytesAt (Lib.bytesWorld w 5 s) (some ⟨w.heap.size, 0, none⟩) s.data.toList := fun _ => by
  have h := Lib.bytesWorld_at_new w 5 s
  refine ⟨w.heap.size, 0, rfl, (Array.getElem?_eq_some_iff.1 h).1, fun j x hx i u hu => ?_⟩
  match i, hu with
  | 0, hu =>
    have hu' : Value.int .u8 x.toNat = u := by simpa using hu
    subst hu'
    simp only [World.cell?, h]
    have hj : j < s.data.size := by
      have := (List.getElem?_eq_some_iff.1 hx).1
      simpa using this
    have hx' : s.data[j]? = some x := by rw [← Array.getElem?_toList]; exact hx
    simp [Lib.bytesCells, Array.getElem?_append, hj, hx']
    intro hle
    have e2 : s.size = s.data.size := rfl
    omega
  | i + 1, hu => simp at hu
theorem size_list (s : ByteArray) : s.size = s.data.toList.length := by rw [Array.length_toList]; rfl

set_option maxHeartbeats 1000000 in
theorem strAt (g : Nat) (v : Value) (xs : List UInt8) (s : ByteArray) (w : World) (h : Wr w g v xs) (hs : s.size ≤ 100000) (hm : xs.length ≤ 800000) :
    Calls Try.prog 12 #[.pointer (some ⟨g, 0, none⟩), .string s] w fun e w' => e = .returned (.tuple #[]) ∧ Wrote w g v (xs ++ (enc s.size ++ s.data.toList)) w' := by
  have q1 := fun (w : World) => Lib.run_convert_string_bytes (P := Try.prog) w 9 25 5 s Try.underlying9 Try.underlying25 Try.underlying5
  have HN := Lib.hid (numAt g v xs s.size w h (by omega) (by omega))
  have hl := enc_ten (n := s.size) (by omega)
  have HW := Lib.hid fun w1 (h1 : Wrote w g v (xs ++ enc s.size) w1) => (show Calls Try.prog 33 #[.pointer (some ⟨g, 0, none⟩), .slice (some ⟨w1.heap.size, 0, none⟩) s.size (grownCap w1 s.size 0 5)] (Lib.bytesWorld w1 5 s) (fun e w' => e = .returned (.tuple #[]) ∧ Wrote w g v (xs ++ (enc s.size ++ s.data.toList)) w') from (by
    obtain ⟨v', hw, k1, hc⟩ := h1.after (bytesWorld_below w1 s)
    have hh := writeAt g v' _ s.data.toList _ (grownCap w1 s.size 0 5) _ hw (bytesWorld_at w1 s) (by rw [List.length_append, ← size_list]; omega)
    rw [← size_list] at hh
    exact hh.mono fun e w' ⟨he, hz⟩ => ⟨he, by rw [← List.append_assoc]; exact Wrote.next k1 hc hz⟩))
  have hsz : (s.size : Int) ≤ 100000 := by omega
  clear h hl hs
  go_enter Try.func12, Try.ntmps12
  go_wp2_with fail
  refine HN.out.mono ?_
  rintro e w1 ⟨rfl, h1⟩
  have H1 := Lib.hid h1
  clear h1
  go_wp2_with fail
  refine (HW.out _ H1.out).mono ?_
  rintro e w2 ⟨rfl, h2⟩
  have H2 := Lib.hid h2
  clear h2
  go_wp2_with fail
  exact ⟨rfl, .tuple #[], results_none (by kernel_rfl) _ _ _, rfl, H2.out⟩

set_option maxHeartbeats 1000000 in
theorem numNil (n : Nat) (w : World) (hn : n < 18446744073709551616) :
    Calls Try.prog 10 #[.pointer none, .int .u64 (n : Int)] w fun e w' => e = .returned (.tuple #[]) ∧ Below w.heap.size w w' := by
  have HN := Lib.hid hn
  have HW := Lib.hid fun v w => writeNil v w
  clear hn
  go_enter Try.func10, Try.ntmps10
  go_wp2
  go_loopw [1] (fun a wr => ∃ (m : Nat), a = .int .u64 (m : Int) ∧ Hid (Below w.heap.size w wr) ∧ m ≤ 18446744073709551615) (fun a _ => (intOf a).toNat)
  case atStart => exact ⟨n, rfl, Below.refl _ _, by have := HN.out; omega⟩
  case round =>
    obtain ⟨m, rfl, hb, hm64⟩ := hrel
    by_cases hlt : 128 ≤ m
    · have i0 : (128 : Int) ≤ (m : Int) := by omega
      go_wp2_with fail
      refine (HW.out _ _).mono ?_
      rintro e w1 ⟨rfl, rfl⟩
      go_wp2_with fail
      go_roundw
      case rel => exact ⟨m / 128, by simp, hb.out.alloc hb.out.size _, by omega⟩
      case measure => simp [intOf]; omega
    · have i0 : ¬ (128 : Int) ≤ (m : Int) := by omega
      go_wp2_with fail
      refine (HW.out _ _).mono ?_
      rintro e w1 ⟨rfl, rfl⟩
      go_wp2_with fail
      exact ⟨rfl, .tuple #[], results_none (by kernel_rfl) _ _ _, rfl, hb.out.alloc hb.out.size _⟩

set_option maxHeartbeats 1000000 in
theorem strNil (s : ByteArray) (w : World) (hs : s.size ≤ 100000) :
    Calls Try.prog 12 #[.pointer none, .string s] w fun e w' => e = .returned (.tuple #[]) ∧ Below w.heap.size w w' := by
  have q1 := fun (w : World) => Lib.run_convert_string_bytes (P := Try.prog) w 9 25 5 s Try.underlying9 Try.underlying25 Try.underlying5
  have HN := Lib.hid (numNil s.size w (by omega))
  have HW := Lib.hid fun v w => writeNil v w
  have hsz : (s.size : Int) ≤ 100000 := by omega
  clear hs
  go_enter Try.func12, Try.ntmps12
  go_wp2_with fail
  refine HN.out.mono ?_
  rintro e w1 ⟨rfl, h1⟩
  have H1 := Lib.hid h1
  clear h1
  go_wp2_with fail
  refine (HW.out _ _).mono ?_
  rintro e w2 ⟨rfl, rfl⟩
  go_wp2_with fail
  exact ⟨rfl, .tuple #[], results_none (by kernel_rfl) _ _ _, rfl, below_trans H1.out (bytesWorld_below w1 s)⟩

/-- How many bytes a number has, by its bits. -/
theorem enc_bits (n : Nat) (h : n < 18446744073709551616) : ((enc n).length : Int) = max 1 (((Lib.bitLen n : Nat) + 7 - 1) / 7 : Int) := by
  by_cases h0 : n = 0
  · subst h0
    rw [enc_lt (by omega)]
    have : Lib.bitLen 0 = 0 := Lib.bitLenAux_zero 64
    rw [this]; rfl
  · obtain ⟨h1, h2, h3⟩ := Lib.bitLenAux_bounds 64 n (by omega) h0
    have e : Lib.bitLen n = Lib.bitLenAux 64 n := rfl
    rw [← e] at h1 h2 h3
    generalize Lib.bitLen n = L at *
    obtain ⟨q, hq⟩ : ∃ q, (L + 6) / 7 = q + 1 := ⟨(L + 6) / 7 - 1, by omega⟩
    have p7 : ∀ k, 128 ^ k = 2 ^ (7 * k) := fun k => by rw [Nat.pow_mul]
    have u := enc_len_le q n (Nat.lt_of_lt_of_le h3 (by rw [p7]; exact Nat.pow_le_pow_right (by omega) (by omega)))
    have l := enc_len_ge q n (Nat.le_trans (by rw [p7]; exact Nat.pow_le_pow_right (by omega) (by omega)) h2)
    have hl : (enc n).length = q + 1 := by omega
    rw [hl]
    omega

theorem lenBits (x : Int) (w : World) (h0 : 0 ≤ x) (h1 : x ≤ 18446744073709551615) :
    Calls Try.prog 35 #[.int .u64 x] w fun e w' => e = .returned (.int .i64 (Lib.bitLen x.toNat)) ∧ w' = w := Go.Proofs.Any.bits_Len64 Try.lays129 x w h0 h1

set_option maxHeartbeats 1000000 in
theorem sizeAt (n : Nat) (w : World) (hn : n < 18446744073709551616) :
    Calls Try.prog 17 #[.int .u64 (n : Int)] w fun e w' => e = .returned (.int .i64 ((enc n).length : Int)) ∧ w = w' := by
  have HB := Lib.hid (lenBits (n : Int) w (by omega) (by omega))
  have he := enc_bits n hn
  have ht := enc_ten hn
  have hb : Lib.bitLen n ≤ 64 := by
    by_cases h0 : n = 0
    · subst h0; rw [show Lib.bitLen 0 = 0 from Lib.bitLenAux_zero 64]; omega
    · rcases Nat.lt_or_ge 64 (Lib.bitLen n) with hlt | hge
      · have h2 := (Lib.bitLenAux_bounds 64 n (by omega) h0).2.1
        have e : Lib.bitLen n = Lib.bitLenAux 64 n := rfl
        rw [← e] at h2
        have : 2 ^ 64 ≤ 2 ^ (Lib.bitLen n - 1) := Nat.pow_le_pow_right (by omega) (by omega)
        omega
      · exact hge
  have HE := Lib.hid he
  clear he ht hn
  go_enter Try.func17, Try.ntmps17
  go_wp2_with fail
  refine HB.out.mono ?_
  rintro e w' ⟨rfl, rfl⟩
  have e1 : ((n : Int)).toNat = n := by omega
  rw [e1]
  generalize Lib.bitLen n = L at *
  clear e1
  go_wp2_with fail
  go_ret
  exact ⟨by rw [HE.out]; rfl, rfl⟩

/-- What the references' functions that make bytes leave. -/
def MadeB (xs : List UInt8) (w : World) (e : Ending) (w' : World) : Prop := (∃ A c, e = .returned (.slice A xs.length c) ∧ w'.ownsRow w.heap.size 5 1 (.slice A xs.length c) xs.length (cellsOf encB xs)) ∧ Below w.heap.size w w'
theorem MadeB.of {xs : List UInt8} {w w' : World} {v : Value} (h : w'.ownsRow w.heap.size 5 1 v xs.length (cellsOf encB xs)) (hb : Below w.heap.size w w') : MadeB xs w (.returned v) w' := by
  have h0 := h
  obtain ⟨A, c, rfl, _⟩ := SlAt.of_own encB_len h
  exact ⟨⟨A, c, rfl, h0⟩, hb⟩
theorem own_one (w : World) (b : UInt8) : (w.alloc (.cells #[.int .u8 (b.toNat : Int)] 5)).ownsRow w.heap.size 5 1 (.slice (some ⟨w.heap.size, 0, none⟩) 1 1) [b].length (cellsOf encB [b]) :=
  ⟨rfl, .inr ⟨w.heap.size, 1, #[.int .u8 (b.toNat : Int)], rfl, Nat.le_refl _, heap_alloc_new w _, Nat.le_refl _, by simp [maxLen], rfl, rfl⟩⟩

set_option maxHeartbeats 1000000 in
theorem refNumber (k : Nat) : ∀ (n : Nat) (w : World), n ≤ k → n < 18446744073709551616 →
    Calls Try.prog 11 #[.int .u64 (n : Int)] w (MadeB (enc n) w) := by
  obtain ⟨i0, hi0, hz0, hz1, hz2⟩ := info_parts infoB
  induction k with
  | zero =>
    intro n w hk hn
    obtain rfl : n = 0 := by omega
    have ho := own_one w (UInt8.ofNat 0)
    have HO := Lib.hid ho
    clear ho
    go_enter Try.func11, Try.ntmps11
    go_wp2_with fail
    go_ret
    exact MadeB.of (by rw [enc_lt (by omega)]; exact HO.out) ((Below.refl _ _).alloc (Nat.le_refl _) _)
  | succ k ih =>
    intro n w hk hn
    by_cases hlt : n < 128
    · have i0 : (n : Int) < 128 := by omega
      have ho := own_one w (UInt8.ofNat n)
      rw [ofNat_toNat (by omega)] at ho
      have HO := Lib.hid ho
      have HE := Lib.hid (enc_lt hlt)
      clear ho ih hk hn
      go_enter Try.func11, Try.ntmps11
      go_wp2_with fail
      go_ret
      exact MadeB.of (by rw [HE.out]; exact HO.out) ((Below.refl _ _).alloc (Nat.le_refl _) _)
    · have i1 : ¬ (n : Int) < 128 := by omega
      have hx : ((UInt8.ofNat (n % 128 + 128)).toNat : Int) = (n : Int) % 128 + 128 := by rw [ofNat_toNat (by omega)]; omega
      have ho := own_one w (UInt8.ofNat (n % 128 + 128))
      rw [hx] at ho
      have HO := Lib.hid ho
      have HE := Lib.hid (enc_ge (n := n) (by omega))
      have HT := Lib.hid (enc_ten hn)
      have hal : Below w.heap.size w (w.alloc (.cells #[.int .u8 ((n : Int) % 128 + 128)] 5)) := (Below.refl _ w).alloc (Nat.le_refl _) _
      have HAL := Lib.hid hal
      have HI := Lib.hid (ih (n / 128) (w.alloc (.cells #[.int .u8 ((n : Int) % 128 + 128)] 5)) (by omega) (by omega))
      have e1 : ((n / 128 : Nat) : Int) = (n : Int) / 128 := by omega
      rw [e1] at HI
      have eW : IntKind.u64.wrap ((n : Int) / 128) = (n : Int) / 128 := by simp [IntKind.wrap, IntKind.bits, IntKind.signed]; omega
      clear ho hx ih hk hal e1 hn
      go_enter Try.func11, Try.ntmps11
      go_wp2_with fail
      refine HI.out.mono ?_
      rintro e w1 ⟨⟨A, c, rfl, ho1⟩, hb⟩
      clear eW
      have hat : BytesAt w1 A (enc (n / 128)) := by
        obtain ⟨A', c', e, _, _, h⟩ := SlAt.of_own encB_len ho1
        cases e; exact h
      have hown : w1.ownsRow w.heap.size 5 1 (.slice (some ⟨w.heap.size, 0, none⟩) 1 1) [UInt8.ofNat (n % 128 + 128)].length (cellsOf encB [UInt8.ofNat (n % 128 + 128)]) := by
        have h0 := HO.out
        refine ⟨h0.1, .inr ?_⟩
        rcases h0.2 with ⟨h1, _⟩ | ⟨g, cap, cur, e1, hb1, hg, rest⟩
        · cases h1
        · exact ⟨g, cap, cur, e1, hb1, (hb.block g (Array.getElem?_eq_some_iff.1 hg).1).trans hg, rest⟩
      have hb2 := below_trans HAL.out hb
      have HX := Lib.hid hown
      have HA := Lib.hid hat
      have HB2 := Lib.hid hb2
      have hle : (enc (n / 128)).length ≤ 100 := by have h1 := HT.out; rw [HE.out, List.length_cons] at h1; omega
      clear ho1 hb hown hat hb2
      go_wp2_with (at_builtin; refine wpList_append_sl _ encB 1 rfl (.tmp 12) (.tmp 15) 25 rfl encB_len (by omega) encB_one w.heap.size 5 i0 _ 1 Try.underlying25 hi0 hz0 hz1 hz2 rfl _ [UInt8.ofNat (n % 128 + 128)] rfl HX.out A _ c (enc (n / 128)) rfl rfl HA.out (by simp [maxLen]; omega) (by simp; omega) HB2.out.size ?_; intro v1 w2 hown1 hg1 hat1)
      go_ret
      refine MadeB.of (by rw [HE.out]; exact hown1) (HB2.out.grown hg1 HB2.out.size (fun k hk => ?_))
      have e0 : some w.heap.size = some k := hk
      injection e0 with e
      omega

end Go.Proofs.Ytkloheabbbpboaa
