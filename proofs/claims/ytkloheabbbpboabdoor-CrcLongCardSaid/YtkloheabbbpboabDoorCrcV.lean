/- Reading hexadecimal digits: plain facts; the reference's Parse. -/
import Derived.Test.YtkloheabbbpboabDoorCrcU
namespace Go.Proofs.YtkloheabbbpboabDoor
open Go.RowKit

/-- The value of a digit. -/
def dv (b : UInt8) : Option Nat := if 48 ≤ b.toNat ∧ b.toNat ≤ 57 then some (b.toNat - 48) else if 97 ≤ b.toNat ∧ b.toNat ≤ 102 then some (b.toNat - 87) else none
theorem dv_hex : ∀ d : Fin 16, dv (hexD d.val) = some d.val := by decide +kernel
theorem hexD_dv : ∀ b : Fin 256, ∀ d : Fin 16, dv (UInt8.ofNat b.val) = some d.val → UInt8.ofNat b.val = hexD d.val := by decide +kernel
theorem dv_lt {b : UInt8} {d : Nat} (h : dv b = some d) : d < 16 := by
  unfold dv at h
  split at h
  · cases h; omega
  · split at h
    · cases h; omega
    · cases h
theorem dv_eq {b : UInt8} {d : Nat} (h : dv b = some d) : b = hexD d := by
  have h1 := hexD_dv ⟨b.toNat, toNat8 b⟩ ⟨d, dv_lt h⟩
  have e : UInt8.ofNat b.toNat = b := by simp
  simp only [e] at h1
  exact h1 h
/-- What hexadecimal digits read as. -/
def rdX : List UInt8 → Nat → Option Nat
  | [], acc => some acc
  | b :: r, acc => match dv b with
    | some d => rdX r (16 * acc + d)
    | none => none
theorem rdX_cons {b : UInt8} {r : List UInt8} {acc d : Nat} (h : dv b = some d) : rdX (b :: r) acc = rdX r (16 * acc + d) := by rw [rdX, h]
theorem rdX_bad {b : UInt8} {r : List UInt8} {acc : Nat} (h : dv b = none) : rdX (b :: r) acc = none := by rw [rdX, h]
theorem rdX_some {l : List UInt8} {acc v : Nat} (h : rdX l acc = some v) : l = hexL l.length v ∧ v / 16 ^ l.length = acc := by
  induction l generalizing acc with
  | nil => cases h; exact ⟨rfl, by simp⟩
  | cons b r ih =>
    unfold rdX at h
    cases hd : dv b with
    | none => rw [hd] at h; cases h
    | some d =>
      rw [hd] at h
      obtain ⟨h1, h2⟩ := ih h
      have h16 := dv_lt hd
      refine ⟨?_, ?_⟩
      · rw [List.length_cons, hexL, h2, show (16 * acc + d) % 16 = d by omega, ← h1, ← dv_eq hd]
      · rw [List.length_cons, Nat.pow_succ, ← Nat.div_div_eq_div_mul, h2]; omega
theorem rdX_hex (k n acc : Nat) : rdX (hexL k n) acc = some (acc * 16 ^ k + n % 16 ^ k) := by
  induction k generalizing acc with
  | zero => simp [hexL, rdX, Nat.mod_one]
  | succ k ih =>
    rw [hexL]
    unfold rdX
    rw [dv_hex ⟨n / 16 ^ k % 16, Nat.mod_lt _ (by decide)⟩]
    simp only []
    rw [ih]
    congr 1
    have h1 : n % 16 ^ (k + 1) = n / 16 ^ k % 16 * 16 ^ k + n % 16 ^ k := by
      rw [Nat.pow_succ, Nat.mod_mul, Nat.mul_comm (16 ^ k), Nat.add_comm]
    rw [h1, Nat.add_mul, Nat.pow_succ, Nat.mul_comm 16 acc, Nat.mul_assoc, Nat.mul_comm 16 (16 ^ k)]
    omega
/-- The check sum of a text. -/
def prs (l : List UInt8) : Option Nat := if l.length = 8 then rdX l 0 else none
theorem prs_some {l : List UInt8} {v : Nat} (h : prs l = some v) : v < 4294967296 ∧ l = hexL 8 v := by
  unfold prs at h
  split at h
  · rename_i h8
    obtain ⟨h1, h2⟩ := rdX_some h
    rw [h8] at h1 h2
    refine ⟨?_, h1⟩
    have : v / 4294967296 = 0 := h2
    omega
  · cases h
theorem prs_hex {n : Nat} (h : n < 4294967296) : prs (hexL 8 n) = some n := by
  unfold prs
  rw [if_pos (hexL_len 8 n), rdX_hex, Nat.zero_mul, Nat.zero_add]
  exact congrArg some (Nat.mod_eq_of_lt h)

/-- What the reference's Parse returns. -/
def PrsR (o : Option Nat) (w : World) (e : Ending) (w' : World) : Prop := e = .returned (.tuple #[.int .u32 ((o.getD 0 : Nat) : Int), .bool o.isSome]) ∧ w = w'
theorem PrsR.no {o : Option Nat} (w : World) (h : o = none) : PrsR o w (.returned (.tuple #[.int .u32 0, .bool false])) w := by subst h; exact ⟨rfl, rfl⟩
theorem PrsR.yes {o : Option Nat} {n : Nat} (w : World) (h : o = some n) : PrsR o w (.returned (.tuple #[.int .u32 (n : Int), .bool true])) w := by subst h; exact ⟨rfl, rfl⟩

set_option maxHeartbeats 1000000 in
theorem refParse (l : List UInt8) (w : World) (hl : l.length ≤ 1000) :
    Calls Tryd.prog 14 #[.string ⟨l.toArray⟩] w (PrsR (prs l) w) := by
  have hs : (ByteArray.mk l.toArray).size = l.length := by show l.toArray.size = _; simp
  by_cases h8 : l.length = 8
  · have z0 : ((l.length : Int) != 8) = false := by rw [h8]; rfl
    have HP := Lib.hid (show prs l = rdX l 0 from if_pos h8)
    have H8 := Lib.hid h8
    clear hl hs h8
    go_enter Tryd.func14, Tryd.ntmps14
    go_wp2_with fail
    go_loopw [4, 5] (fun s4 s5 wr => ∃ (j a : Nat), j ≤ 8 ∧ s4 = .int .u32 (a : Int) ∧ s5 = .int .i64 (j : Int) ∧ wr = w ∧ Hid (a < 16 ^ j ∧ rdX l 0 = rdX (l.drop j) a)) (fun _ s5 _ => 8 - (intOf s5).toNat)
    case atStart => exact ⟨0, 0, by omega, rfl, rfl, rfl, ⟨by decide, rfl⟩⟩
    case round =>
      obtain ⟨j, a, hj, rfl, rfl, rfl, HQ⟩ := hrel
      by_cases hj8 : j < 8
      · have i0 : (j : Int) < 8 := by omega
        have hjl : j < l.length := by rw [H8.out]; exact hj8
        have hd := List.drop_eq_getElem_cons hjl
        obtain ⟨b, hb⟩ : ∃ b, l[j] = b := ⟨_, rfl⟩
        rw [hb] at hd
        have hB := toNat8 b
        have hx : ∀ h : j < (ByteArray.mk l.toArray).size, (ByteArray.mk l.toArray)[j]'h = b := fun h => by rw [← hb]; rfl
        have hx2 : l[j] = b := hb
        have ha : a < 268435456 := Nat.lt_of_lt_of_le HQ.out.1 (show 16 ^ j ≤ 16 ^ 7 from Nat.pow_le_pow_right (by decide) (by omega))
        have hrx := HQ.out.2
        rw [hd] at hrx
        have HB := Lib.hid hB
        by_cases c1 : 48 ≤ b.toNat ∧ b.toNat ≤ 57
        · have hdv : dv b = some (b.toNat - 48) := if_pos c1
          rw [rdX_cons hdv] at hrx
          have HS := Lib.hid (show 16 * a + (b.toNat - 48) < 16 ^ (j + 1) ∧ rdX l 0 = rdX (l.drop (j + 1)) (16 * a + (b.toNat - 48)) from ⟨by have := HQ.out.1; rw [Nat.pow_succ]; omega, hrx⟩)
          have k1 : (48 : Int) ≤ (b.toNat : Int) := by omega
          have k2 : (b.toNat : Int) ≤ 57 := by omega
          have e1 : IntKind.u8.wrap ((b.toNat : Int) - 48) = ((b.toNat - 48 : Nat) : Int) := by simp [IntKind.wrap, IntKind.bits, IntKind.signed]; omega
          have e2 : IntKind.u32.wrap (((b.toNat - 48 : Nat)) : Int) = ((b.toNat - 48 : Nat) : Int) := by simp [IntKind.wrap, IntKind.bits, IntKind.signed]; omega
          clear hd hrx hdv hb c1
          go_wp2_with fail
          go_roundw
          case rel => exact ⟨j + 1, 16 * a + (b.toNat - 48), by omega, congrArg (Value.int .u32) (by omega), by go_num, by trivial, HS.out⟩
          case measure => simp [intOf]; omega
        · have c1' : ¬ (48 ≤ b.toNat) ∨ (48 ≤ b.toNat ∧ ¬ b.toNat ≤ 57) := by omega
          by_cases c2 : 97 ≤ b.toNat ∧ b.toNat ≤ 102
          · have hdv : dv b = some (b.toNat - 87) := by unfold dv; rw [if_neg c1, if_pos c2]
            rw [rdX_cons hdv] at hrx
            have HS := Lib.hid (show 16 * a + (b.toNat - 87) < 16 ^ (j + 1) ∧ rdX l 0 = rdX (l.drop (j + 1)) (16 * a + (b.toNat - 87)) from ⟨by have := HQ.out.1; rw [Nat.pow_succ]; omega, hrx⟩)
            have k1 : (48 : Int) ≤ (b.toNat : Int) := by omega
            have k2 : ¬ (b.toNat : Int) ≤ 57 := by omega
            have k3 : (97 : Int) ≤ (b.toNat : Int) := by omega
            have k4 : (b.toNat : Int) ≤ 102 := by omega
            have e1 : IntKind.u8.wrap ((b.toNat : Int) - 97) = ((b.toNat - 97 : Nat) : Int) := by simp [IntKind.wrap, IntKind.bits, IntKind.signed]; omega
            have e2 : IntKind.u32.wrap (((b.toNat - 97 : Nat)) : Int) = ((b.toNat - 97 : Nat) : Int) := by simp [IntKind.wrap, IntKind.bits, IntKind.signed]; omega
            clear hd hrx hdv hb c1 c1' c2
            go_wp2_with fail
            go_roundw
            case rel => exact ⟨j + 1, 16 * a + (b.toNat - 87), by omega, congrArg (Value.int .u32) (by omega), by go_num, by trivial, HS.out⟩
            case measure => simp [intOf]; omega
          · have hdv : dv b = none := by unfold dv; rw [if_neg c1, if_neg c2]
            have HN := Lib.hid (show prs l = none from by rw [HP.out, hrx, rdX_bad hdv])
            have c3 : b.toNat < 48 ∨ (48 ≤ b.toNat ∧ 57 < b.toNat ∧ b.toNat < 97) ∨ 102 < b.toNat := by omega
            clear hd hrx hdv hb c1 c1' c2
            rcases c3 with c3 | ⟨c3, c4, c5⟩ | c3
            · have k1 : ¬ (48 : Int) ≤ (b.toNat : Int) := by omega
              have k3 : ¬ (97 : Int) ≤ (b.toNat : Int) := by omega
              clear c3
              go_wp2_with fail
              go_ret2
              exact PrsR.no _ HN.out
            · have k1 : (48 : Int) ≤ (b.toNat : Int) := by omega
              have k2 : ¬ (b.toNat : Int) ≤ 57 := by omega
              have k3 : ¬ (97 : Int) ≤ (b.toNat : Int) := by omega
              clear c3 c4 c5
              go_wp2_with fail
              go_ret2
              exact PrsR.no _ HN.out
            · have k1 : (48 : Int) ≤ (b.toNat : Int) := by omega
              have k2 : ¬ (b.toNat : Int) ≤ 57 := by omega
              have k3 : (97 : Int) ≤ (b.toNat : Int) := by omega
              have k4 : ¬ (b.toNat : Int) ≤ 102 := by omega
              clear c3
              go_wp2_with fail
              go_ret2
              exact PrsR.no _ HN.out
      · obtain rfl : j = 8 := by omega
        have hlen := H8.out
        have hrx := HQ.out.2
        rw [List.drop_of_length_le (by omega)] at hrx
        have HN := Lib.hid (show prs l = some a from by rw [HP.out, hrx]; rfl)
        clear hlen hrx
        go_wp2_with fail
        go_ret2
        exact PrsR.yes _ HN.out
  · have z0 : ((l.length : Int) != 8) = true := by simp; omega
    have HP := Lib.hid (show prs l = none from if_neg h8)
    clear hl hs h8
    go_enter Tryd.func14, Tryd.ntmps14
    go_wp2_with fail
    go_ret2
    exact PrsR.no _ HP.out

end Go.Proofs.YtkloheabbbpboabDoor
