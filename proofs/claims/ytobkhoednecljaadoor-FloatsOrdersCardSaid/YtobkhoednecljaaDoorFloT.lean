/- Package floats' reference: Text, Parse. -/
import Derived.Test.YtobkhoednecljaaDoorFloA
import Derived.Test.YtobkhoednecljaaDoorFloX
namespace Go.Proofs.YtobkhoednecljaaDoor
open Go.RowKit

/-- The reference's digits. -/
abbrev digs16 : ByteArray := ⟨#[48, 49, 50, 51, 52, 53, 54, 55, 56, 57, 97, 98, 99, 100, 101, 102]⟩
theorem digs16_all : ∀ d : Fin 16, digs16.extract d.val (d.val + 1) = ⟨#[hexD d.val]⟩ := by decide +kernel
theorem hexL_cons (j s q : Nat) (hq : q = s / 16 ^ j) : (⟨#[hexD (q % 16)]⟩ : ByteArray) ++ ⟨(hexL j s).toArray⟩ = ⟨(hexL (j + 1) s).toArray⟩ := by
  apply ByteArray.ext
  simp [hexL, hq]

set_option maxHeartbeats 400000 in
theorem refText13 (s : Nat) (w : World) (hs : s < 18446744073709551616) :
    Calls Tryd.prog 29 #[.int .u64 (s : Int)] w (One (.string (txtF s)) w) := by
  go_enter Tryd.func29, Tryd.ntmps29
  go_wp2_with fail
  go_loopw [0, 3, 4] (fun s0 s3 s4 wr => ∃ (j q : Nat) (t : ByteArray), j ≤ 16 ∧ s0 = .int .u64 (q : Int) ∧ s3 = .string t ∧ s4 = .int .i64 (j : Int) ∧ wr = w ∧ t.size ≤ 16 ∧ Hid (q < 18446744073709551616 ∧ q = s / 16 ^ j ∧ t = ⟨(hexL j s).toArray⟩)) (fun _ _ s4 _ => 16 - (intOf s4).toNat)
  case atStart => exact ⟨0, s, ⟨#[]⟩, by omega, rfl, rfl, rfl, rfl, by decide, ⟨hs, by simp, rfl⟩⟩
  case round =>
    obtain ⟨j, q, t, hj, rfl, rfl, rfl, rfl, hts, HQ⟩ := hrel
    by_cases h8 : j < 16
    · have i0 : (j : Int) < 16 := by omega
      have hm : q % 16 < 16 := Nat.mod_lt _ (by decide)
      have hx := digs16_all ⟨q % 16, hm⟩
      go_wp2_with fail
      have HS := Lib.hid (show (⟨#[hexD (q % 16)]⟩ : ByteArray) ++ t = ⟨(hexL (j + 1) s).toArray⟩ from by rw [HQ.out.2.2]; exact hexL_cons j s q HQ.out.2.1)
      have HZ := Lib.hid (show ((⟨#[hexD (q % 16)]⟩ : ByteArray) ++ t).size ≤ 16 from by
        rw [HS.out]
        show (hexL (j + 1) s).toArray.size ≤ 16
        rw [List.size_toArray, hexL_len]
        omega)
      go_roundw
      case rel => exact ⟨j + 1, q / 16, _, by omega, congrArg (Value.int .u64) (by have := HQ.out.1; rw [wrapU64]; omega), rfl, by go_num, by trivial, HZ.out, ⟨by have := HQ.out.1; omega, by rw [HQ.out.2.1, Nat.div_div_eq_div_mul, Nat.pow_succ], HS.out⟩⟩
      case measure => simp [intOf]; omega
    · obtain rfl : j = 16 := by omega
      have HS := Lib.hid HQ.out.2.2
      go_wp2_with fail
      go_ret
      exact ⟨congrArg (fun x => Ending.returned (Value.string x)) HS.out, rfl⟩

/-- What the reference's Parse returns. -/
def PrsF (o : Option Nat) (w : World) (e : Ending) (w' : World) : Prop := e = .returned (.tuple #[.int .u64 ((o.getD 0 : Nat) : Int), .bool o.isSome]) ∧ w = w'
theorem PrsF.no {o : Option Nat} (w : World) (h : o = none) : PrsF o w (.returned (.tuple #[.int .u64 0, .bool false])) w := by subst h; exact ⟨rfl, rfl⟩
theorem PrsF.yes {o : Option Nat} {n : Nat} (w : World) (h : o = some n) : PrsF o w (.returned (.tuple #[.int .u64 (n : Int), .bool true])) w := by subst h; exact ⟨rfl, rfl⟩

set_option maxHeartbeats 1000000 in
theorem refParse13 (l : List UInt8) (w : World) (_ : l.length ≤ 1000) :
    Calls Tryd.prog 30 #[.string ⟨l.toArray⟩] w (PrsF (prsF l) w) := by
  have hs : (ByteArray.mk l.toArray).size = l.length := by show l.toArray.size = _; simp
  by_cases h8 : l.length = 16
  · have z0 : ((l.length : Int) != 16) = false := by rw [h8]; rfl
    have HP := Lib.hid (show prsF l = rdX l 0 from if_pos h8)
    have H8 := Lib.hid h8
    clear hs h8
    go_enter Tryd.func30, Tryd.ntmps30
    go_wp2_with fail
    go_loopw [4, 5] (fun s4 s5 wr => ∃ (j a : Nat), j ≤ 16 ∧ s4 = .int .u64 (a : Int) ∧ s5 = .int .i64 (j : Int) ∧ wr = w ∧ Hid (a < 16 ^ j ∧ rdX l 0 = rdX (l.drop j) a)) (fun _ s5 _ => 16 - (intOf s5).toNat)
    case atStart => exact ⟨0, 0, by omega, rfl, rfl, rfl, ⟨by decide, rfl⟩⟩
    case round =>
      obtain ⟨j, a, hj, rfl, rfl, rfl, HQ⟩ := hrel
      by_cases hj8 : j < 16
      · have i0 : (j : Int) < 16 := by omega
        have hjl : j < l.length := by rw [H8.out]; exact hj8
        have hd := List.drop_eq_getElem_cons hjl
        obtain ⟨b, hb⟩ : ∃ b, l[j] = b := ⟨_, rfl⟩
        rw [hb] at hd
        have hB := toNat8 b
        have hx : ∀ h : j < (ByteArray.mk l.toArray).size, (ByteArray.mk l.toArray)[j]'h = b := fun h => by rw [← hb]; rfl
        have hx2 : l[j] = b := hb
        have ha : a < 1152921504606846976 := Nat.lt_of_lt_of_le HQ.out.1 (show 16 ^ j ≤ 16 ^ 15 from Nat.pow_le_pow_right (by decide) (by omega))
        have hrx := HQ.out.2
        rw [hd] at hrx
        have HB := Lib.hid hB
        by_cases c1 : 48 ≤ b.toNat ∧ b.toNat ≤ 57
        · have hdv : dv b = some (b.toNat - 48) := if_pos c1
          rw [rdX_cons hdv] at hrx
          have HS := Lib.hid (show 16 * a + (b.toNat - 48) < 16 ^ (j + 1) ∧ rdX l 0 = rdX (l.drop (j + 1)) (16 * a + (b.toNat - 48)) from ⟨by have := HQ.out.1; rw [Nat.pow_succ]; omega, hrx⟩)
          have k1 : (48 : Int) ≤ (b.toNat : Int) := by omega
          have k2 : (b.toNat : Int) ≤ 57 := by omega
          have e1 : IntKind.u8.wrap ((b.toNat : Int) - 48) = ((b.toNat - 48 : Nat) : Int) := by simp [IntKind.wrap, IntKind.bits, IntKind.signed]; omega
          have e2 : IntKind.u64.wrap (((b.toNat - 48 : Nat)) : Int) = ((b.toNat - 48 : Nat) : Int) := by simp [IntKind.wrap, IntKind.bits, IntKind.signed]; omega
          clear hd hrx hdv hb c1
          go_wp2_with fail
          go_roundw
          case rel => exact ⟨j + 1, 16 * a + (b.toNat - 48), by omega, congrArg (Value.int .u64) (by omega), by go_num, by trivial, HS.out⟩
          case measure => simp [intOf]; omega
        · have c1' : ¬ (48 ≤ b.toNat) ∨ (48 ≤ b.toNat ∧ ¬ b.toNat ≤ 57) := by omega
          by_cases c2 : 97 ≤ b.toNat ∧ b.toNat ≤ 102
          · have hdv : dv b = some (b.toNat - 87) := by unfold dv; rw [if_neg c1, if_pos c2]
            rw [rdX_cons hdv] at hrx
            have HS := Lib.hid (show 16 * a + (b.toNat - 87) < 16 ^ (j + 1) ∧ rdX l 0 = rdX (l.drop (j + 1)) (16 * a + (b.toNat - 87)) from ⟨by have := HQ.out.1; rw [Nat.pow_succ]; omega, hrx⟩)
            have k1 : (48 : Int) ≤ (b.toNat : Int) := by omega
            have k2 : ¬ (b.toNat : Int) ≤ 57 := by omega
            have k3 : (97 : Int) ≤ (b.toNat : Int) := by omega
            have k4 : (b.toNat : Int) ≤ 102 := by omega
            have e1 : IntKind.u8.wrap ((b.toNat : Int) - 97) = ((b.toNat - 97 : Nat) : Int) := by simp [IntKind.wrap, IntKind.bits, IntKind.signed]; omega
            have e2 : IntKind.u64.wrap (((b.toNat - 97 : Nat)) : Int) = ((b.toNat - 97 : Nat) : Int) := by simp [IntKind.wrap, IntKind.bits, IntKind.signed]; omega
            clear hd hrx hdv hb c1 c1' c2
            go_wp2_with fail
            go_roundw
            case rel => exact ⟨j + 1, 16 * a + (b.toNat - 87), by omega, congrArg (Value.int .u64) (by omega), by go_num, by trivial, HS.out⟩
            case measure => simp [intOf]; omega
          · have hdv : dv b = none := by unfold dv; rw [if_neg c1, if_neg c2]
            have HN := Lib.hid (show prsF l = none from by rw [HP.out, hrx, rdX_bad hdv])
            have c3 : b.toNat < 48 ∨ (48 ≤ b.toNat ∧ 57 < b.toNat ∧ b.toNat < 97) ∨ 102 < b.toNat := by omega
            clear hd hrx hdv hb c1 c1' c2
            rcases c3 with c3 | ⟨c3, c4, c5⟩ | c3
            · have k1 : ¬ (48 : Int) ≤ (b.toNat : Int) := by omega
              have k3 : ¬ (97 : Int) ≤ (b.toNat : Int) := by omega
              clear c3
              go_wp2_with fail
              go_ret2
              exact PrsF.no _ HN.out
            · have k1 : (48 : Int) ≤ (b.toNat : Int) := by omega
              have k2 : ¬ (b.toNat : Int) ≤ 57 := by omega
              have k3 : ¬ (97 : Int) ≤ (b.toNat : Int) := by omega
              clear c3 c4 c5
              go_wp2_with fail
              go_ret2
              exact PrsF.no _ HN.out
            · have k1 : (48 : Int) ≤ (b.toNat : Int) := by omega
              have k2 : ¬ (b.toNat : Int) ≤ 57 := by omega
              have k3 : (97 : Int) ≤ (b.toNat : Int) := by omega
              have k4 : ¬ (b.toNat : Int) ≤ 102 := by omega
              clear c3
              go_wp2_with fail
              go_ret2
              exact PrsF.no _ HN.out
      · obtain rfl : j = 16 := by omega
        have hlen := H8.out
        have hrx := HQ.out.2
        rw [List.drop_of_length_le (by omega)] at hrx
        have HN := Lib.hid (show prsF l = some a from by rw [HP.out, hrx]; rfl)
        clear hlen hrx
        go_wp2_with fail
        go_ret2
        exact PrsF.yes _ HN.out
  · have z0 : ((l.length : Int) != 16) = true := by simp; omega
    have HP := Lib.hid (show prsF l = none from if_neg h8)
    clear hs h8
    go_enter Tryd.func30, Tryd.ntmps30
    go_wp2_with fail
    go_ret2
    exact PrsF.no _ HP.out

end Go.Proofs.YtobkhoednecljaaDoor
