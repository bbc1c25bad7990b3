/- Parts: what BytesWrites and BytesHolds are given; small. -/
import Derived.Test.YtkloheabbbpboaaBytL
import Derived.Outline
namespace Go.Proofs.Ytkloheabbbpboaa
open Go.RowKit

/-- A part: what, the number, where the data lie, the data. -/
structure PartV where
  what : Int
  n : Nat
  A : Option Addr
  c : Nat
  xs : List UInt8
/-- The slice of a part's data. -/
def PartV.data (p : PartV) : Value := .slice p.A p.xs.length p.c
/-- A part's cells. -/
def encP (p : PartV) : List Value := [.int .i64 p.what, .int .u64 (p.n : Int), .slice p.A p.xs.length p.c]
theorem encP_len (p : PartV) : (encP p).length = 3 := rfl
/-- A slice of parts. -/
def PartsAt (W : World) (X : Option Addr) (ps : List PartV) : Prop :=
  SlAt encP 3 W X ps ∧ ∀ p ∈ ps, HoldsB W (.slice p.A p.xs.length p.c) p.xs ∧ p.n < 18446744073709551616
theorem PartsAt.below {W W' : World} {X : Option Addr} {ps : List PartV} (h : PartsAt W X ps) (hb : Below W.heap.size W W') : PartsAt W' X ps :=
  ⟨h.1.below hb, fun p hp => ⟨(h.2 p hp).1.below hb, (h.2 p hp).2⟩⟩
theorem PartsAt.cells {W : World} {X : Option Addr} {ps : List PartV} (h : PartsAt W X ps) {j : Nat} (hj : j < ps.length) : ∃ b off, X = some ⟨b, off, none⟩ ∧ b < W.heap.size ∧ W.cell? ⟨b, off + j * 3, none⟩ = some (.int .i64 (ps[j]).what) ∧ W.cell? ⟨b, off + j * 3 + 1, none⟩ = some (.int .u64 ((ps[j]).n : Int)) ∧ W.cell? ⟨b, off + j * 3 + 2, none⟩ = some (.slice (ps[j]).A (ps[j]).xs.length (ps[j]).c) := by
  obtain ⟨b, off, rfl, hb, hc⟩ := h.1 (by omega)
  have hx : ps[j]? = some ps[j] := List.getElem?_eq_getElem hj
  exact ⟨b, off, rfl, hb, hc j _ hx 0 _ rfl, hc j _ hx 1 _ rfl, hc j _ hx 2 _ rfl⟩

/-- What small answers: if it is true, the parts are few and short. -/
def SmallR (ps : List PartV) (e : Ending) : Prop := ∃ b, e = .returned (.bool b) ∧ (b = true → ps.length ≤ 40 ∧ ∀ p ∈ ps, p.xs.length ≤ 300)

set_option maxHeartbeats 1000000 in
theorem lawSmall (X : Option Addr) (cx : Nat) (ps : List PartV) (w : World) (h : PartsAt w X ps) (hm : ps.length ≤ cx ∧ cx ≤ maxLen) :
    Calls Try.prog 8 #[.slice X ps.length cx] w fun e w' => SmallR ps e ∧ w = w' := by
  have H := Lib.hid h
  clear h
  go_enter Try.func8, Try.ntmps8
  go_wp2_with fail
  go_loopw [3] (fun a wr => ∃ k : Nat, k ≤ ps.length ∧ k ≤ 41 ∧ a = .int .i64 k ∧ wr = w ∧ Hid (∀ i, (hi : i < ps.length) → i < k → (ps[i]).xs.length ≤ 300)) (fun a _ => 41 - (intOf a).toNat)
  case atStart => exact ⟨0, by omega, by omega, rfl, rfl, fun i _ h => absurd h (by omega)⟩
  case round =>
    obtain ⟨k, hk, hk2, rfl, rfl, HS⟩ := hrel
    by_cases hlt : k < ps.length
    · have i1 : (k : Int) < (ps.length : Int) := by omega
      by_cases h41 : k < 41
      · have i2 : (k : Int) < 41 := by omega
        obtain ⟨b, off, rfl, hb, c0, c1, c2⟩ := H.out.cells hlt
        by_cases hbig : (ps[k]).xs.length ≤ 300
        · have i3 : ¬ (300 : Int) < ((ps[k]).xs.length : Int) := by omega
          have HBIG := Lib.hid hbig
          clear hbig
          go_wp2_with fail
          go_roundw
          case rel => exact ⟨k + 1, by omega, by omega, by go_num, by trivial, fun i hi hik => by
            rcases Nat.lt_or_ge i k with h | h
            · exact HS.out i hi h
            · obtain rfl : i = k := by omega
              exact HBIG.out⟩
          case measure => simp [intOf]; omega
        · have i3 : (300 : Int) < ((ps[k]).xs.length : Int) := by omega
          clear hbig
          go_wp2_with fail
          go_ret
          exact ⟨⟨false, rfl, fun h => absurd h (by decide)⟩, rfl⟩
      · have i2 : ¬ (k : Int) < 41 := by omega
        have i4 : ¬ (ps.length : Int) ≤ 40 := by omega
        go_wp2_with fail
        go_ret
        exact ⟨⟨false, rfl, fun h => absurd h (by decide)⟩, rfl⟩
    · have i1 : ¬ (k : Int) < (ps.length : Int) := by omega
      have HS2 := Lib.hid (show ∀ p ∈ ps, p.xs.length ≤ 300 from fun p hp => by
        obtain ⟨i, hi, rfl⟩ := List.getElem_of_mem hp
        exact HS.out i hi (by omega))
      by_cases h40 : ps.length ≤ 40
      · have i4 : (ps.length : Int) ≤ 40 := by omega
        have H40 := Lib.hid h40
        clear h40
        go_wp2_with fail
        go_ret
        exact ⟨⟨true, rfl, fun _ => ⟨H40.out, HS2.out⟩⟩, rfl⟩
      · have i4 : ¬ (ps.length : Int) ≤ 40 := by omega
        clear h40
        go_wp2_with fail
        go_ret
        exact ⟨⟨false, rfl, fun h => absurd h (by decide)⟩, rfl⟩

end Go.Proofs.Ytkloheabbbpboaa
