/- The reference's Quote, Same. -/
import Derived.Test.YtpkpacgmmhjfpaaDoorNamD
namespace Go.Proofs.YtpkpacgmmhjfpaaDoor
open Go.RowKit

theorem quoteTo_len (l : List UInt8) (k : Nat) (hk : k ≤ l.length) : (34 :: (l.take k).flatMap oneN).length ≤ 4 * l.length + 1 := by
  have := quoteN_len (l.take k)
  simp only [quoteN, List.length_cons, List.length_append, List.length_nil, List.length_take] at this
  rw [List.length_cons]
  omega
set_option maxHeartbeats 1000000 in
theorem refQuote (l : List UInt8) (w : World) (hl : l.length ≤ 1000) :
    Calls Tryd.prog 16 #[.string ⟨l.toArray⟩] w (OneB (.string ⟨(quoteN l).toArray⟩) w) := by
  have hsz := size_mk l
  go_enter Tryd.func16, Tryd.ntmps16
  go_wp2_with fail
  go_loopw [3, 4] (fun s3 s4 wr => ∃ (k : Nat) (s : ByteArray), k ≤ l.length ∧ s3 = .string s ∧ s4 = .int .i64 k ∧ Hid (s = ⟨(34 :: (l.take k).flatMap oneN).toArray⟩) ∧ Hid (Below w.heap.size w wr)) (fun _ s4 _ => l.length - (intOf s4).toNat)
  case atStart => exact ⟨0, ⟨#[34]⟩, by omega, rfl, rfl, rfl, Below.refl _ _⟩
  case round =>
    obtain ⟨k, s, hk, rfl, rfl, HQ, HB⟩ := hrel
    have hs1 : s.size ≤ 4001 := by
      have := quoteTo_len l k hk
      rw [HQ.out, size_mk]
      omega
    by_cases hlt : k < l.length
    · have i0 : (k : Int) < (l.length : Int) := by omega
      obtain ⟨b, hb⟩ : ∃ b, l[k] = b := ⟨_, rfl⟩
      have hx := str_at hlt
      rw [hb] at hx
      have hx2 : l[k] = b := hb
      have HO := Lib.hid (refOne b wr)
      have HS := Lib.hid (show s ++ ⟨(oneN b).toArray⟩ = ⟨(34 :: (l.take (k + 1)).flatMap oneN).toArray⟩ from by
        rw [HQ.out, app_mk, List.take_succ_eq_append_getElem hlt, hb]; simp)
      have hol := oneN_len b
      have z1 : ¬ (9223372036854775807 < s.size + (ByteArray.mk (oneN b).toArray).size) := by have := size_mk (oneN b); omega
      generalize (ByteArray.mk (oneN b).toArray) = t at *
      clear hol
      go_wp2_with fail
      refine HO.out.mono ?_
      rintro e w1 ⟨rfl, hb1⟩
      have HB1 := Lib.hid (below_trans HB.out hb1)
      clear hb1
      go_wp2_with fail
      go_roundw
      case rel => exact ⟨k + 1, _, by omega, rfl, by go_num, HS, HB1⟩
      case measure => simp [intOf]; omega
    · obtain rfl : k = l.length := by omega
      have i0 : ¬ (l.length : Int) < (l.length : Int) := by omega
      rw [List.take_length] at HQ
      have HE := Lib.hid (show s ++ ⟨#[34]⟩ = ⟨(quoteN l).toArray⟩ from by
        rw [HQ.out, show (ByteArray.mk #[34]) = ⟨[34].toArray⟩ from rfl, app_mk]; rfl)
      have z1 : ¬ (9223372036854775807 < s.size + (ByteArray.mk #[34]).size) := by have : (ByteArray.mk #[34]).size = 1 := rfl; omega
      clear hlt hk
      go_wp2_with fail
      go_ret
      exact OneB.str HE.out HB.out

/-- The lists agree up to m. -/
def SameTo {α : Type} (xs ys : List α) (m : Nat) : Prop := ∀ j, j < m → xs[j]? = ys[j]?

set_option maxHeartbeats 1000000 in
theorem refSame (A B : Option Addr) (xs ys : List (List UInt8)) (cap cap' : Nat) (w : World) (hx : StrsAt w A xs) (hy : StrsAt w B ys) (hm : xs.length ≤ 100000) (hm' : ys.length ≤ 100000) :
    Calls Tryd.prog 30 #[.slice A xs.length cap, .slice B ys.length cap'] w (OneB (.bool (decide (xs = ys))) w) := by
  by_cases hl : xs.length = ys.length
  · have hl' : ((xs.length : Int) != (ys.length : Int)) = false := by simp [hl]
    have HL := Lib.hid hl; clear hl
    go_enter Tryd.func30, Tryd.ntmps30
    go_wp2_with fail
    go_loopw [5] (fun i wr => ∃ m : Nat, m ≤ xs.length ∧ i = .int .i64 m ∧ Below w.heap.size w wr ∧ Hid (SameTo xs ys m)) (fun i _ => xs.length - (intOf i).toNat)
    case atStart => exact ⟨0, by omega, rfl, Below.refl _ _, fun j h => by omega⟩
    case round =>
      obtain ⟨m, hk2, rfl, hb, hs⟩ := hrel
      by_cases hlt : m < xs.length
      · have hlt2 : m < ys.length := by have := HL.out; omega
        have i0 : (m : Int) < (xs.length : Int) := by omega
        obtain ⟨b, off, rfl, hbl, hc0⟩ := (SlAt.cell1 (f := fun l : List UInt8 => Value.string ⟨l.toArray⟩) (hx.below hb) (j := m) (by omega))
        obtain ⟨b', off', rfl, hbl', hd0⟩ := (SlAt.cell1 (f := fun l : List UInt8 => Value.string ⟨l.toArray⟩) (hy.below hb) (j := m) (by omega))
        have l0 := fun p => cell_far (p := p) hbl hc0
        have l2 := fun p => cell_far (p := p) hbl' hd0
        have HX := Lib.hid (List.getElem?_eq_getElem hlt)
        have HY := Lib.hid (List.getElem?_eq_getElem hlt2)
        clear hc0 hd0
        generalize xs[m] = x at *
        generalize ys[m] = y at *
        by_cases hq : x = y
        · subst hq
          go_wp2_with fail
          refine wp_region_far (by kernel_rfl) (by kernel_rfl) ?_
          repeat (go_big_quiet_step ((fail)))
          refine wpQuiet_nil ?_
          rintro _ ⟨p, rfl⟩
          go_wp2_with fail
          go_roundw
          case rel =>
            refine ⟨m + 1, by omega, by go_num, hb.trans ((below_far wr p).mono hb.size), (show Hid _ from fun j hj => ?_)⟩
            by_cases e : j = m
            · subst e; rw [HX.out, HY.out]
            · exact hs.out j (by omega)
          case measure => simp [intOf]; omega
        · have hne : ¬ xs = ys := fun e => by
            have h1 := HX.out
            have h2 := HY.out
            rw [e, h2] at h1
            cases h1
            exact hq rfl
          have HN := Lib.hid hne; clear hne
          have hq' : (x == y) = false := by rw [beq_eq_false_iff_ne]; exact hq
          clear hq
          go_wp2_with fail
          refine wp_region_far (by kernel_rfl) (by kernel_rfl) ?_
          repeat (go_big_quiet_step ((fail)))
          refine wpQuiet_nil ?_
          rintro _ ⟨p, rfl⟩
          go_wp2_with fail
          go_ret
          exact ⟨ret_bool (by simp [HN.out]), hb.trans ((below_far wr p).mono hb.size)⟩
      · have i0 : ¬ (m : Int) < (xs.length : Int) := by omega
        go_wp2_with fail
        go_ret
        refine ⟨ret_bool ?_, hb⟩
        have : xs = ys := List.ext_getElem? fun j => by
          by_cases e : j < m
          · exact hs.out j e
          · have := HL.out
            rw [List.getElem?_eq_none (by omega), List.getElem?_eq_none (by omega)]
        simp [this]
  · have hl' : ((xs.length : Int) != (ys.length : Int)) = true := neT (by omega)
    have HL := Lib.hid hl; clear hl
    go_enter Tryd.func30, Tryd.ntmps30
    go_wp2_with fail
    go_ret
    refine ⟨ret_bool ?_, Below.refl _ _⟩
    have : ¬ xs = ys := fun e => HL.out (by rw [e])
    simp [this]

end Go.Proofs.YtpkpacgmmhjfpaaDoor
