/- The law NamesBytes. -/
import Derived.Test.YtpkpacgmmhjfpaaDoorNamR
namespace Go.Proofs.YtpkpacgmmhjfpaaDoor
open Go.RowKit

/-- The strings that NamesBytes goes through. -/
def bytesL (c : UInt8) : List (List UInt8) := [[c], [97, c, 98], [97, c, c, 98]]
theorem bytesL_len (c : UInt8) : (bytesL c).length = 3 := rfl
theorem bytesL_short (c : UInt8) : ∀ l ∈ bytesL c, l.length ≤ 4 := by
  intro l hl
  simp only [bytesL, List.mem_cons, List.not_mem_nil, or_false] at hl
  rcases hl with rfl | rfl | rfl <;> simp

set_option maxRecDepth 100000 in
set_option maxHeartbeats 4000000 in
theorem lawBytes7 (c : UInt8) (w : World) (ht : LaidOK w) :
    Calls Tryd.prog 4 #[.int .u8 (c.toNat : Int)] w (TrueB w) := by
  have K0 := Lib.hid (show KK w w from ⟨Below.refl _ _, ht⟩)
  clear ht
  obtain ⟨W1, hW1⟩ : ∃ W, W = w.alloc (.cells #[.int .u8 c.toNat] 5) := ⟨_, rfl⟩
  obtain ⟨W2, hW2⟩ : ∃ W, W = W1.alloc (.cells #[.int .u8 97, .int .u8 c.toNat, .int .u8 98] 5) := ⟨_, rfl⟩
  obtain ⟨W3, hW3⟩ : ∃ W, W = W2.alloc (.cells #[.int .u8 97, .int .u8 c.toNat, .int .u8 c.toNat, .int .u8 98] 5) := ⟨_, rfl⟩
  have s1 : W1.heap.size = w.heap.size + 1 := by rw [hW1]; simp
  have s2 : W2.heap.size = w.heap.size + 2 := by rw [hW2]; simp [s1]
  have s3 : W3.heap.size = w.heap.size + 3 := by rw [hW3]; simp [s2]
  have q1 : (convert 27 9 (.slice (some ⟨w.heap.size, 0, none⟩) 1 1)).run Tryd.prog W1 = .ok (.string ⟨[c].toArray⟩) W1 := by
    have h : BytesAt W1 (some ⟨w.heap.size, 0, none⟩) [c] := by rw [hW1]; exact SlAt.litAt encB_len w _ rfl 5 [c] (by simp [maxLen])
    exact convAt _ _ 1 [c] h
  have q2 : (convert 27 9 (.slice (some ⟨w.heap.size + 1, 0, none⟩) 3 3)).run Tryd.prog W2 = .ok (.string ⟨[97, c, 98].toArray⟩) W2 := by
    have h : BytesAt W2 (some ⟨w.heap.size + 1, 0, none⟩) [97, c, 98] := by rw [hW2]; exact SlAt.litAt encB_len W1 _ s1 5 [97, c, 98] (by simp [maxLen])
    exact convAt _ _ 3 [97, c, 98] h
  have q3 : (convert 27 9 (.slice (some ⟨w.heap.size + 2, 0, none⟩) 4 4)).run Tryd.prog W3 = .ok (.string ⟨[97, c, c, 98].toArray⟩) W3 := by
    have h : BytesAt W3 (some ⟨w.heap.size + 2, 0, none⟩) [97, c, c, 98] := by rw [hW3]; exact SlAt.litAt encB_len W2 _ s2 5 [97, c, c, 98] (by simp [maxLen])
    exact convAt _ _ 4 [97, c, c, 98] h
  have HS := Lib.hid (show StrsAt (W3.alloc (.cells #[.string ⟨#[c]⟩, .string ⟨#[97, c, 98]⟩, .string ⟨#[97, c, c, 98]⟩] 9)) (some ⟨w.heap.size + 1 + 1 + 1, 0, none⟩) (bytesL c) from SlAt.litAt encS_len W3 _ s3 9 (bytesL c) (by simp [maxLen, bytesL]))
  have KA := Lib.hid (show KK w (W3.alloc (.cells #[.string ⟨#[c]⟩, .string ⟨#[97, c, 98]⟩, .string ⟨#[97, c, c, 98]⟩] 9)) from by
    rw [hW3, hW2, hW1]
    exact (((K0.out.alloc _).alloc _).alloc _).alloc _)
  subst hW3
  subst hW2
  subst hW1
  clear s1 s2 s3 K0
  go_enter Tryd.func4, Tryd.ntmps4
  go_wp2_with fail
  clear q1 q2 q3
  generalize World.alloc (World.alloc (World.alloc (World.alloc w _) _) _) _ = W4 at HS KA ⊢
  generalize w.heap.size + 1 + 1 + 1 = g at HS ⊢
  have HL := Lib.hid (bytesL_short c)
  have HN := Lib.hid (bytesL_len c)
  generalize bytesL c = xs at *
  go_loopw [17] (fun a wr => ∃ (k : Nat), k ≤ 3 ∧ a = .int .i64 k ∧ Hid (Below W4.heap.size W4 wr)) (fun a _ => 3 - (intOf a).toNat)
  case atStart => exact ⟨0, by omega, rfl, Below.refl _ _⟩
  case round =>
    obtain ⟨k, hk, rfl, HB⟩ := hrel
    by_cases hlt : k < 3
    · have i0 : (k : Int) < 3 := by omega
      have hkx : k < xs.length := by rw [HN.out]; exact hlt
      obtain ⟨b, off, e, hbl, hc0⟩ := SlAt.cell1 (f := fun l : List UInt8 => Value.string ⟨l.toArray⟩) (HS.out.below HB.out) hkx
      cases e
      have hs4 := HL.out _ (List.getElem_mem hkx)
      obtain ⟨l, hl⟩ : ∃ l, xs[k] = l := ⟨_, rfl⟩
      rw [hl] at hc0 hs4
      have d0 : wr.cell? ⟨g, k, none⟩ = some (.string ⟨l.toArray⟩) := by simpa using hc0
      clear hl hkx hc0
      have K0 := Lib.hid (KA.out.next HB.out)
      have C1 := Lib.hid (fun (W : World) (h : LaidOK W) => namKey l W (by omega) h)
      have C2 := Lib.hid (fun (W : World) => refKey l W (by omega))
      have C3 := Lib.hid (fun (W : World) (h : LaidOK W) => namItem l W (by omega) h)
      have C4 := Lib.hid (fun (W : World) => refItem l W (by omega))
      have C5 := Lib.hid (fun (W : World) (h : LaidOK W) => namQuote l W (by omega) h)
      have C6 := Lib.hid (fun (W : World) => refQuote l W (by omega))
      have C7 := Lib.hid (fun (W : World) (h : LaidOK W) => lawUnq (quoteN l) l 0 W (by have := (quoteN_len l).2; omega) h (by unfold unquoteV; rw [unquoteN_quote]))
      have n1 : (keyN l != keyN l) = false := by simp
      have n2 : (itemN l != itemN l) = false := by simp
      have e1 := beq_self (quoteN l)
      generalize keyN l = kb at *
      generalize itemN l = ib at *
      generalize quoteN l = q at *
      go_wp2_with fail
      refine (C1.out _ K0.out.laid).mono ?_
      rintro e w1 ⟨rfl, hb⟩
      have K1 := Lib.hid (below_trans HB.out hb)
      clear hb
      go_wp2_with fail
      refine (C2.out _).mono ?_
      rintro e w2 ⟨rfl, rfl⟩
      go_wp2_with fail
      refine (C3.out _ (KA.out.next K1.out).laid).mono ?_
      rintro e w2 ⟨rfl, hb⟩
      have K2 := Lib.hid (below_trans K1.out hb)
      clear hb
      go_wp2_with fail
      refine (C4.out _).mono ?_
      rintro e w3 ⟨rfl, rfl⟩
      go_wp2_with fail
      refine (C5.out _ (KA.out.next K2.out).laid).mono ?_
      rintro e w3 ⟨rfl, hb⟩
      have K3 := Lib.hid (below_trans K2.out hb)
      clear hb
      go_wp2_with fail
      refine (C6.out _).mono ?_
      rintro e w4 ⟨rfl, hb⟩
      have K4 := Lib.hid (below_trans K3.out hb)
      clear hb
      go_wp2_with fail
      refine (C6.out _).mono ?_
      rintro e w5 ⟨rfl, hb⟩
      have K5 := Lib.hid (below_trans K4.out hb)
      clear hb
      go_wp2_with fail
      refine (C7.out _ (KA.out.next K5.out).laid).mono ?_
      rintro e w6 ⟨rfl, hb⟩
      have K6 := Lib.hid (below_trans K5.out hb)
      clear hb
      go_wp2_with fail
      go_roundw
      case rel => exact ⟨k + 1, by omega, by go_num, K6⟩
      case measure => simp [intOf]; omega
    · obtain rfl : k = 3 := by omega
      have K1 := Lib.hid (KA.out.next HB.out)
      go_wp2_with fail
      refine (known7 _ K1.out.laid).mono ?_
      rintro e w1 ⟨rfl, hb⟩
      have K2 := Lib.hid (K1.out.next hb)
      clear hb
      go_wp2_with fail
      go_ret
      exact ⟨rfl, K2.out.below⟩

end Go.Proofs.YtpkpacgmmhjfpaaDoor
