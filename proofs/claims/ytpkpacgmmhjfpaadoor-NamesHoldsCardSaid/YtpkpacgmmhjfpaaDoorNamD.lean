/- The reference's hex, one, Quote, starts. -/
import Derived.Test.YtpkpacgmmhjfpaaDoorNamC
namespace Go.Proofs.YtpkpacgmmhjfpaaDoor
open Go.RowKit

def hexDs : List UInt8 := [48, 49, 50, 51, 52, 53, 54, 55, 56, 57, 97, 98, 99, 100, 101, 102]
theorem hexDs_at : ∀ d : Fin 16, (ByteArray.mk hexDs.toArray).extract d.val (d.val + 1) = ⟨[hexC d.val].toArray⟩ := by decide +kernel
theorem refHex (d : Nat) (w : World) (hd : d < 16) :
    Calls Tryd.prog 37 #[.int .u8 (d : Int)] w (One (.string ⟨[hexC d].toArray⟩) w) := by
  have ex := hexDs_at ⟨d, hd⟩
  simp only [hexDs] at ex
  have e1 : IntKind.u8.wrap ((d : Int) + 1) = (d : Int) + 1 := by simp [IntKind.wrap, IntKind.bits, IntKind.signed]; omega
  go_enter Tryd.func37, Tryd.ntmps37
  go_wp2_with fail
  go_ret
  exact ⟨rfl, rfl⟩

theorem starts_eq (l x : List UInt8) : (((ByteArray.mk l.toArray).extract 0 x.length).toList == x) = x.isPrefixOf l := by
  have e : ((ByteArray.mk l.toArray).extract 0 x.length).toList = l.take x.length := by
    rw [ByteArray.toList_eq, ByteArray.data_extract, Array.toList_extract]
    simp
  rw [e, Bool.eq_iff_iff, beq_iff_eq, List.isPrefixOf_iff_prefix, List.prefix_iff_eq_take]
  exact eq_comm
theorem refStarts (l x : List UInt8) (w : World) (hl : l.length ≤ 100000) (hx : x.length ≤ 100000) :
    Calls Tryd.prog 39 #[.string ⟨l.toArray⟩, .string ⟨x.toArray⟩] w (One (.bool (x.isPrefixOf l)) w) := by
  have hsl := size_mk l
  have hsx := size_mk x
  have HE := Lib.hid (starts_eq l x)
  by_cases h : x.length ≤ l.length
  · have i0 : (x.length : Int) ≤ (l.length : Int) := by omega
    go_enter Tryd.func39, Tryd.ntmps39
    go_wp2_with fail
    go_ret
    exact One.bool _ HE.out
  · have i0 : ¬ (x.length : Int) ≤ (l.length : Int) := by omega
    have HF := Lib.hid (show false = x.isPrefixOf l from by
      cases e : x.isPrefixOf l with
      | false => rfl
      | true => exact absurd ((List.isPrefixOf_iff_prefix.1 e).length_le) h)
    clear HE
    go_enter Tryd.func39, Tryd.ntmps39
    go_wp2_with fail
    go_ret
    exact One.bool _ HF.out

set_option maxHeartbeats 1000000 in
theorem refOne (c : UInt8) (w : World) : Calls Tryd.prog 26 #[.int .u8 (c.toNat : Int)] w (OneB (.string ⟨(oneN c).toArray⟩) w) := by
  have h8 := toNat8 c
  have hcv : (convert 27 9 (.slice (some ⟨w.heap.size, 0, none⟩) 1 1)).run Tryd.prog (w.alloc (.cells #[.int .u8 c.toNat] 5)) = .ok (.string ⟨[c].toArray⟩) (w.alloc (.cells #[.int .u8 c.toNat] 5)) :=
    convAt _ _ 1 [c] (SlAt.one (t := 5) (heap_alloc_new w _))
  have HB := Lib.hid (show Below w.heap.size w (w.alloc (.cells #[.int .u8 c.toNat] 5)) from (Below.refl _ _).alloc (Nat.le_refl _) _)
  have z1 : ¬ (9223372036854775807 < (ByteArray.mk #[92]).size + (ByteArray.mk [c].toArray).size) := by have : (ByteArray.mk #[92]).size = 1 := rfl; have : (ByteArray.mk [c].toArray).size = 1 := rfl; omega
  by_cases h1 : c.toNat = 34
  · have HE := Lib.hid (show (ByteArray.mk #[92]) ++ ⟨[c].toArray⟩ = ⟨(oneN c).toArray⟩ from by
      rw [show (ByteArray.mk #[92]) = ⟨[92].toArray⟩ from rfl, app_mk]; unfold oneN; rw [if_pos (.inl h1)]; rfl)
    have k1 : ((c.toNat : Int) == 34) = true := eqT (by omega)
    clear h1
    go_enter Tryd.func26, Tryd.ntmps26
    go_wp2_with fail
    go_ret
    exact OneB.str HE.out HB.out
  have k1 : ((c.toNat : Int) == 34) = false := eqF (by omega)
  by_cases h2 : c.toNat = 92
  · have HE := Lib.hid (show (ByteArray.mk #[92]) ++ ⟨[c].toArray⟩ = ⟨(oneN c).toArray⟩ from by
      rw [show (ByteArray.mk #[92]) = ⟨[92].toArray⟩ from rfl, app_mk]; unfold oneN; rw [if_pos (.inr h2)]; rfl)
    have k2 : ((c.toNat : Int) == 92) = true := eqT (by omega)
    clear h1 h2
    go_enter Tryd.func26, Tryd.ntmps26
    go_wp2_with fail
    go_ret
    exact OneB.str HE.out HB.out
  have k2 : ((c.toNat : Int) == 92) = false := eqF (by omega)
  have h34 : ¬ (c.toNat = 34 ∨ c.toNat = 92) := by omega
  by_cases h3 : c.toNat < 32 ∨ 126 < c.toNat
  · have HE := Lib.hid (show (ByteArray.mk #[92, 120]) ++ ⟨[hexC (c.toNat / 16)].toArray⟩ ++ ⟨[hexC (c.toNat % 16)].toArray⟩ = ⟨(oneN c).toArray⟩ from by
      rw [show (ByteArray.mk #[92, 120]) = ⟨[92, 120].toArray⟩ from rfl, app_mk, app_mk]; unfold oneN; rw [if_neg h34, if_pos h3]; rfl)
    obtain ⟨q, hq⟩ : ∃ q, c.toNat / 16 = q := ⟨_, rfl⟩
    obtain ⟨r, hr⟩ : ∃ r, c.toNat % 16 = r := ⟨_, rfl⟩
    rw [hq, hr] at HE
    have H1 := Lib.hid (refHex q w (by omega))
    have H2 := Lib.hid (refHex r w (by omega))
    have e1 : (c.toNat : Int) / 16 = (q : Int) := by omega
    have e2 : (c.toNat : Int) % 16 = (r : Int) := by omega
    clear hq hr
    have z2 : ∀ d : UInt8, ¬ (9223372036854775807 < (ByteArray.mk #[92, 120]).size + (ByteArray.mk [d].toArray).size) := fun d => by have : (ByteArray.mk #[92, 120]).size = 2 := rfl; have : (ByteArray.mk [d].toArray).size = 1 := rfl; omega
    have z3 : ∀ d d' : UInt8, ¬ (9223372036854775807 < (ByteArray.mk #[92, 120] ++ ByteArray.mk [d].toArray).size + (ByteArray.mk [d'].toArray).size) := fun d d' => by rw [ByteArray.size_append]; have : (ByteArray.mk #[92, 120]).size = 2 := rfl; have : (ByteArray.mk [d].toArray).size = 1 := rfl; have : (ByteArray.mk [d'].toArray).size = 1 := rfl; omega
    clear hcv HB z1
    rcases h3 with h3 | h3
    all_goals
      (first | have k3 : (c.toNat : Int) < 32 := by omega
             | have k3 : ¬ (c.toNat : Int) < 32 := by omega)
      (first | have k4 : (126 : Int) < (c.toNat : Int) := by omega
             | have k4 : ¬ (126 : Int) < (c.toNat : Int) := by omega)
      clear h34 h3
      go_enter Tryd.func26, Tryd.ntmps26
      go_wp2_with fail
      refine H1.out.mono ?_
      rintro e w1 ⟨rfl, rfl⟩
      go_wp2_with fail
      refine H2.out.mono ?_
      rintro e w1 ⟨rfl, rfl⟩
      go_wp2_with fail
      go_ret
      exact OneB.str HE.out (Below.refl _ _)
  · have HE := Lib.hid (show (ByteArray.mk [c].toArray) = ⟨(oneN c).toArray⟩ from by unfold oneN; rw [if_neg h34, if_neg h3])
    have k3 : ¬ (c.toNat : Int) < 32 := by omega
    have k4 : ¬ (126 : Int) < (c.toNat : Int) := by omega
    clear h34 h1 h2 h3
    go_enter Tryd.func26, Tryd.ntmps26
    go_wp2_with fail
    go_ret
    exact OneB.str HE.out HB.out

end Go.Proofs.YtpkpacgmmhjfpaaDoor
