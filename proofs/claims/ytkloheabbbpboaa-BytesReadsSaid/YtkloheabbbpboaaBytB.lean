/- Package bytes: a writer: Num, String; how many bytes a number has. -/
import Derived.Test.YtkloheabbbpboaaBytA
import Derived.Outline
namespace Go.Proofs.Ytkloheabbbpboaa
open Go.RowKit

theorem SlAt.one {α : Type} {enc : α → List Value} {k : Nat} {w : World} {g : Nat} {x : α} {t : TypeId} (h : w.heap[g]? = some (.cells (enc x).toArray t (0, 0))) : SlAt enc k w (some ⟨g, 0, none⟩) [x] := fun _ =>
  ⟨g, 0, rfl, (Array.getElem?_eq_some_iff.1 h).1, fun j y hy i u hu => by
    match j, hy with
    | 0, hy => simp at hy; subst hy; rw [cell_of_row w g _ _ t (0, 0) h]; simpa using hu⟩

theorem or128 : ∀ x : Fin 256, bits BinOp.or IntKind.u8 (x.val : Int) 128 = ((x.val % 128 + 128 : Nat) : Int) := by decide +kernel
theorem or128_at (m : Nat) : bits BinOp.or IntKind.u8 ((m : Int) % 256) 128 = (((UInt8.ofNat (m % 128 + 128)).toNat : Nat) : Int) := by
  have h := or128 ⟨m % 256, Nat.mod_lt _ (by omega)⟩
  have e : ((m : Int) % 256) = ((m % 256 : Nat) : Int) := by omega
  rw [e, h, ofNat_toNat (by omega)]
  have : m % 256 % 128 = m % 128 := by omega
  simp only [this]

theorem writeOne (g : Nat) (v : Value) (ys : List UInt8) (b : UInt8) (x : Int) (w wr : World) (h : Wrote w g v ys wr) (hx : (b.toNat : Int) = x) (hm : ys.length ≤ 999999) :
    Calls Try.prog 33 #[.pointer (some ⟨g, 0, none⟩), .slice (some ⟨wr.heap.size, 0, none⟩) 1 1] (wr.alloc (.cells #[.int .u8 x] 5)) fun e w' => e = .returned (.tuple #[]) ∧ Wrote w g v (ys ++ [b]) w' := by
  subst hx
  have hal : Below wr.heap.size wr (wr.alloc (.cells #[.int .u8 b.toNat] 5)) := (Below.refl _ wr).alloc (Nat.le_refl _) _
  obtain ⟨v', hw, h1, hc⟩ := h.after hal
  have hone : BytesAt (wr.alloc (.cells #[.int .u8 b.toNat] 5)) (some ⟨wr.heap.size, 0, none⟩) [b] := SlAt.one (t := 5) (heap_alloc_new wr _)
  exact (writeAt g v' ys [b] (some ⟨wr.heap.size, 0, none⟩) 1 _ hw hone (by simp; omega)).mono fun e w' ⟨he, hz⟩ => ⟨he, Wrote.next h1 hc hz⟩

set_option maxHeartbeats 1000000 in
theorem numAt (g : Nat) (v : Value) (xs : List UInt8) (n : Nat) (w : World) (h : Wr w g v xs) (hn : n < 18446744073709551616) (hm : xs.length ≤ 999900) :
    Calls Try.prog 10 #[.pointer (some ⟨g, 0, none⟩), .int .u64 (n : Int)] w fun e w' => e = .returned (.tuple #[]) ∧ Wrote w g v (xs ++ enc n) w' := by
  have HN := Lib.hid hn
  have h0 := Lib.hid (Wrote.refl h)
  clear h hn
  go_enter Try.func10, Try.ntmps10
  go_wp2
  go_loopw [1] (fun a wr => ∃ (m : Nat) (pre : List UInt8), a = .int .u64 (m : Int) ∧ Hid (enc n = pre ++ enc m) ∧ Hid (Wrote w g v (xs ++ pre) wr) ∧ m ≤ 18446744073709551615) (fun a _ => (intOf a).toNat)
  case atStart => exact ⟨n, [], rfl, rfl, by rw [List.append_nil]; exact h0, by have := HN.out; omega⟩
  case round =>
    obtain ⟨m, pre, rfl, he, hw, hm64⟩ := hrel
    have hlen : (xs ++ pre).length ≤ 999999 := by
      have h1 := congrArg List.length he.out
      have h2 := enc_ten HN.out
      rw [List.length_append] at h1 ⊢
      omega
    by_cases hlt : 128 ≤ m
    · have i0 : (128 : Int) ≤ (m : Int) := by omega
      have HC := Lib.hid (writeOne g v (xs ++ pre) (UInt8.ofNat (m % 128 + 128)) _ w wr hw.out (or128_at m).symm hlen)
      have he2 : Hid (enc n = (pre ++ [UInt8.ofNat (m % 128 + 128)]) ++ enc (m / 128)) := by
        show enc n = _
        rw [he.out, enc_ge hlt, List.append_assoc]
        rfl
      clear he hw
      go_wp2_with fail
      refine HC.out.mono ?_
      rintro e w1 ⟨rfl, hw1⟩
      have HW := Lib.hid hw1
      clear hw1
      go_wp2_with fail
      go_roundw
      case rel => exact ⟨m / 128, pre ++ [UInt8.ofNat (m % 128 + 128)], by simp, he2, by rw [← List.append_assoc]; exact HW, by omega⟩
      case measure => simp [intOf]; omega
    · have i0 : ¬ (128 : Int) ≤ (m : Int) := by omega
      have HC := Lib.hid (writeOne g v (xs ++ pre) (UInt8.ofNat m) (m : Int) w wr hw.out (by rw [ofNat_toNat (by omega)]) hlen)
      have he2 : Hid (enc n = pre ++ [UInt8.ofNat m]) := by
        show enc n = _
        rw [he.out, enc_lt (by omega)]
      clear he hw
      go_wp2_with fail
      refine HC.out.mono ?_
      rintro e w1 ⟨rfl, hw1⟩
      have HW := Lib.hid hw1
      clear hw1
      go_wp2_with fail
      exact ⟨rfl, .tuple #[], results_none (by kernel_rfl) _ _ _, rfl, by rw [he2.out, ← List.append_assoc]; exact HW.out⟩

end Go.Proofs.Ytkloheabbbpboaa
