/- Package bytes: a reader: New, Left, At, End, zero, Copy. -/
import Derived.Test.YtkloheabbbpboaaBytC
import Derived.Laws.BitsAllLaws
namespace Go.Proofs.Ytkloheabbbpboaa
open Go.RowKit

/-- A reader's block: the bytes xs, of which i were read; its row lies in another block. -/
def Rd (W : World) (g : Nat) (A : Option Addr) (c : Nat) (xs : List UInt8) (i : Nat) : Prop :=
  W.heap[g]? = some (.cells #[.bool true, .slice A xs.length c, .int .i64 i] 62 (0, 0)) ∧ BytesAt W A xs ∧ (∀ a, A = some a → a.block ≠ g) ∧ i ≤ xs.length ∧ xs.length ≤ 1000000 ∧ xs.length ≤ c ∧ c ≤ maxLen
section
variable {W W' : World} {g : Nat} {A : Option Addr} {c : Nat} {xs : List UInt8} {i : Nat}
theorem Rd.lt (h : Rd W g A c xs i) : g < W.heap.size := (Array.getElem?_eq_some_iff.1 h.1).1
theorem Rd.c0 (h : Rd W g A c xs i) : W.cell? ⟨g, 0, none⟩ = some (.bool true) := by simp [World.cell?, h.1]
theorem Rd.c1 (h : Rd W g A c xs i) : W.cell? ⟨g, 1, none⟩ = some (.slice A xs.length c) := by simp [World.cell?, h.1]
theorem Rd.c2 (h : Rd W g A c xs i) : W.cell? ⟨g, 2, none⟩ = some (.int .i64 i) := by simp [World.cell?, h.1]
theorem Rd.f2 (h : Rd W g A c xs i) : W.frozen? ⟨g, 2, none⟩ = false := by simp [World.frozen?, h.1]
theorem Rd.below (h : Rd W g A c xs i) (hb : Below W.heap.size W W') : Rd W' g A c xs i := ⟨(hb.block g h.lt).trans h.1, h.2.1.below hb, h.2.2⟩
theorem Rd.holds (h : Rd W g A c xs i) : HoldsB W (.slice A xs.length c) xs := ⟨A, c, rfl, h.2.1, h.2.2.2.2.2.1, h.2.2.2.2.2.2⟩
theorem Rd.chg {S : Nat → Prop} (h : Rd W g A c xs i) (hc : Chg S W W') (h1 : ¬ S g) (h2 : ∀ a, A = some a → ¬ S a.block) : Rd W' g A c xs i := by
  refine ⟨(hc.block g h.lt h1).trans h.1, fun hn => ?_, h.2.2⟩
  obtain ⟨b, off, rfl, hb, hcell⟩ := h.2.1 hn
  exact ⟨b, off, rfl, Nat.lt_of_lt_of_le hb hc.size, fun j x hx k u hu => hc.cell (hcell j x hx k u hu) (show ¬ S b from h2 ⟨b, off, none⟩ rfl)⟩
/-- The place is stored. -/
theorem Rd.set (h : Rd W g A c xs i) {j : Nat} (hj : j ≤ xs.length) : Rd (W.setCell ⟨g, 2, none⟩ (.int .i64 j)) g A c xs j ∧ Chg (fun k => k = g) W (W.setCell ⟨g, 2, none⟩ (.int .i64 j)) := by
  refine ⟨⟨?_, fun hn => ?_, h.2.2.1, hj, h.2.2.2.2⟩, .of_set _ _ rfl⟩
  · obtain ⟨hlt, hk⟩ := Array.getElem?_eq_some_iff.1 h.1
    show (W.heap.modify g _)[g]? = _
    rw [Array.getElem?_modify, if_pos rfl, h.1]
    rfl
  · obtain ⟨b, off, rfl, hb, hcell⟩ := h.2.1 hn
    exact ⟨b, off, rfl, by simpa using hb, fun j x hx k u hu => (World.cell?_of_block (Below.heap_setCell W ⟨g, 2, none⟩ _ b (h.2.2.1 _ rfl))).trans (hcell j x hx k u hu)⟩
end

theorem zeroNil (w : World) : Calls Try.prog 38 #[.pointer none] w fun e w' => e = .returned (.bool true) ∧ w = w' := by
  go_enter Try.func38, Try.ntmps38
  go_wp2
  go_ret
  exact ⟨rfl, rfl⟩
theorem zeroNot (g : Nat) (w : World) (h : w.cell? ⟨g, 0, none⟩ = some (.bool true)) : Calls Try.prog 38 #[.pointer (some ⟨g, 0, none⟩)] w fun e w' => e = .returned (.bool false) ∧ w = w' := by
  go_enter Try.func38, Try.ntmps38
  go_wp2
  go_ret
  exact ⟨rfl, rfl⟩
theorem zeroZero (g : Nat) (w : World) (h : w.cell? ⟨g, 0, none⟩ = some (.bool false)) : Calls Try.prog 38 #[.pointer (some ⟨g, 0, none⟩)] w fun e w' => e = .returned (.bool true) ∧ w = w' := by
  go_enter Try.func38, Try.ntmps38
  go_wp2
  go_ret
  exact ⟨rfl, rfl⟩

set_option maxHeartbeats 1000000 in
theorem newAt (v : Value) (xs : List UInt8) (w : World) (h : HoldsB w v xs) (hm : xs.length ≤ 1000000) :
    Calls Try.prog 18 #[v] w fun e w' => (∃ g A c, e = .returned (.pointer (some ⟨g, 0, none⟩)) ∧ Rd w' g A c xs 0 ∧ w.heap.size ≤ g ∧ ∀ a, A = some a → w.heap.size ≤ a.block) ∧ Below w.heap.size w w' := by
  obtain ⟨A, c, rfl, h1, h2, h3⟩ := h
  have H := Lib.hid (cloneB A xs c w h1 hm)
  have HM := Lib.hid hm
  clear h1 h2 h3 hm
  go_enter Try.func18, Try.ntmps18
  go_wp2_with fail
  refine H.out.mono ?_
  rintro e w1 ⟨⟨v2, rfl, ho⟩, hb⟩
  have ho0 := ho
  obtain ⟨A2, c2, rfl, hc1, hc2, hat⟩ := SlAt.of_own encB_len ho
  have HO := Lib.hid ho0
  have HB := Lib.hid hb
  have HA := Lib.hid hat
  have HC1 := Lib.hid hc1
  have HC2 := Lib.hid hc2
  clear ho ho0 hb hat hc1 hc2
  go_wp2
  go_ret
  have hal : Below w1.heap.size w1 (w1.alloc (.cells #[.bool true, .slice A2 xs.length c2, .int .i64 0] 62)) := (Below.refl _ w1).alloc (Nat.le_refl _) _
  refine ⟨⟨w1.heap.size, A2, c2, rfl, ⟨heap_alloc_new w1 _, HA.out.below hal, fun a ha => ?_, Nat.zero_le _, HM.out, HC1.out, HC2.out⟩, HB.out.size, fun a ha => ?_⟩, below_trans HB.out hal⟩
  · subst ha
    have := (HO.out.lt a.block rfl).2
    omega
  · subst ha
    exact (HO.out.lt a.block rfl).1

set_option maxHeartbeats 1000000 in
theorem leftAt (g : Nat) (A : Option Addr) (c : Nat) (xs : List UInt8) (i : Nat) (w : World) (h : Rd w g A c xs i) :
    Calls Try.prog 28 #[.pointer (some ⟨g, 0, none⟩)] w fun e w' => e = .returned (.int .i64 ((xs.length - i : Nat) : Int)) ∧ Below w.heap.size w w' := by
  have j1 := fun z => cell_far (p := z) (w := w) (a := ⟨g, 1, none⟩) h.lt h.c1
  have j2 := fun z => cell_far (p := z) (w := w) (a := ⟨g, 2, none⟩) h.lt h.c2
  have hi := h.2.2.2.1
  have hm := h.2.2.2.2.1
  have HI := Lib.hid (show ((xs.length : Int) - (i : Int)) = ((xs.length - i : Nat) : Int) by omega)
  have e1 : IntKind.i64.wrap ((xs.length : Int) - (i : Int)) = (xs.length : Int) - (i : Int) := by simp [IntKind.wrap, IntKind.bits, IntKind.signed]; omega
  clear h
  go_enter Try.func28, Try.ntmps28
  go_wp2_with fail
  refine wp_region_far (by kernel_rfl) (by kernel_rfl) ?_
  repeat (go_big_quiet_step ((fail)))
  refine wpQuiet_nil ?_
  rintro _ ⟨p, rfl⟩
  clear e1
  go_wp2
  go_ret
  exact ⟨by rw [← HI.out]; rfl, below_far _ _⟩
theorem leftNil (w : World) : Calls Try.prog 28 #[.pointer none] w fun e w' => e = .returned (.int .i64 0) ∧ w = w' := by
  go_enter Try.func28, Try.ntmps28
  go_wp2
  go_ret
  exact ⟨rfl, rfl⟩

theorem atAt (g : Nat) (A : Option Addr) (c : Nat) (xs : List UInt8) (i : Nat) (w : World) (h : Rd w g A c xs i) :
    Calls Try.prog 27 #[.pointer (some ⟨g, 0, none⟩)] w fun e w' => e = .returned (.int .i64 i) ∧ w = w' := by
  have j2 := h.c2
  clear h
  go_enter Try.func27, Try.ntmps27
  go_wp2
  go_ret
  exact ⟨rfl, rfl⟩
theorem atNil (w : World) : Calls Try.prog 27 #[.pointer none] w fun e w' => e = .returned (.int .i64 0) ∧ w = w' := by
  go_enter Try.func27, Try.ntmps27
  go_wp2
  go_ret
  exact ⟨rfl, rfl⟩

set_option maxHeartbeats 1000000 in
theorem endAt (g : Nat) (A : Option Addr) (c : Nat) (xs : List UInt8) (i : Nat) (n : Int) (w : World) (h : Rd w g A c xs i) (hn : (if i = xs.length then 0 else 12) = n) :
    Calls Try.prog 29 #[.pointer (some ⟨g, 0, none⟩)] w fun e w' => e = .returned (.int .i64 n) ∧ Below w.heap.size w w' := by
  have HZ := Lib.hid (zeroNot g w h.c0)
  have HL := Lib.hid (leftAt g A c xs i w h)
  have hi := h.2.2.2.1
  have HN := Lib.hid hn
  by_cases e : i = xs.length
  · have HE : Hid (n = 0) := by show n = 0; rw [← hn, if_pos e]
    have i0 : ((xs.length - i : Nat) : Int) = 0 := by omega
    rw [i0] at HL
    clear h hn hi e i0 HN
    go_enter Try.func29, Try.ntmps29
    go_wp2_with fail
    refine HZ.out.mono ?_
    rintro e w1 ⟨rfl, rfl⟩
    go_wp2_with fail
    refine HL.out.mono ?_
    rintro e w1 ⟨rfl, hb⟩
    have HB := Lib.hid hb
    clear hb
    go_wp2_with fail
    go_ret
    exact ⟨by rw [HE.out]; rfl, HB.out⟩
  · have HE : Hid (n = 12) := by show n = 12; rw [← hn, if_neg e]
    have i0 : (0 : Int) < ((xs.length - i : Nat) : Int) := by omega
    generalize ((xs.length - i : Nat) : Int) = q at *
    clear h hn hi e HN
    go_enter Try.func29, Try.ntmps29
    go_wp2_with fail
    refine HZ.out.mono ?_
    rintro e w1 ⟨rfl, rfl⟩
    go_wp2_with fail
    refine HL.out.mono ?_
    rintro e w1 ⟨rfl, hb⟩
    have HB := Lib.hid hb
    clear hb
    go_wp2_with fail
    go_ret
    exact ⟨by rw [HE.out]; rfl, HB.out⟩
theorem endZ (p : Value) (w : World) (h : Calls Try.prog 38 #[p] w fun e w' => e = .returned (.bool true) ∧ w = w') : Calls Try.prog 29 #[p] w fun e w' => e = .returned (.int .i64 1) ∧ w = w' := by
  have HZ := Lib.hid h
  clear h
  go_enter Try.func29, Try.ntmps29
  go_wp2_with fail
  refine HZ.out.mono ?_
  rintro e w1 ⟨rfl, rfl⟩
  go_wp2_with fail
  go_ret
  exact ⟨rfl, rfl⟩
theorem copyZ (p : Value) (w : World) (h : Calls Try.prog 38 #[p] w fun e w' => e = .returned (.bool true) ∧ w = w') : Calls Try.prog 24 #[p] w fun e w' => e = .returned (.pointer none) ∧ w = w' := by
  have HZ := Lib.hid h
  clear h
  go_enter Try.func24, Try.ntmps24
  go_wp2_with fail
  refine HZ.out.mono ?_
  rintro e w1 ⟨rfl, rfl⟩
  go_wp2_with fail
  go_ret
  exact ⟨rfl, rfl⟩

end Go.Proofs.Ytkloheabbbpboaa
