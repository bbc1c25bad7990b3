/- The reference of layer 4: Read, Num, Str. -/
import Derived.Test.YtkloheabbbpboaaBytH
namespace Go.Proofs.Ytkloheabbbpboaa
open Go.RowKit

theorem pow_le9 {q : Nat} (h : q ≤ 9) : 128 ^ q ≤ 9223372036854775808 := by
  have : 128 ^ q ≤ 128 ^ 9 := Nat.pow_le_pow_right (by omega) h
  omega
theorem sum_val (acc q x f : Nat) (hx : x < 128) (hq : q ≤ 9) (h9 : acc < 128 ^ q) (hf : f = 128 ^ q) (h1 : q ≤ 8 ∨ x ≤ 1) :
    ∃ a : Nat, IntKind.u64.wrap ((acc : Int) + IntKind.u64.wrap ((x : Int) * (f : Int))) = (a : Int) ∧ a = acc + x * 128 ^ q ∧ a < 18446744073709551616 ∧ (q ≤ 8 → a < 128 ^ (q + 1)) := by
  subst hf
  have hp := pow_le9 hq
  have hlt : x * 128 ^ q < 9223372036854775809 := by
    rcases h1 with h | h
    · have : 128 ^ q ≤ 128 ^ 8 := Nat.pow_le_pow_right (by omega) h
      have h2 : x * 128 ^ q ≤ 127 * 128 ^ 8 := Nat.mul_le_mul (by omega) this
      omega
    · have h2 : x * 128 ^ q ≤ 1 * 128 ^ q := Nat.mul_le_mul_right _ h
      omega
  refine ⟨acc + x * 128 ^ q, ?_, rfl, by omega, fun h8 => ?_⟩
  · have e : (x : Int) * ((128 ^ q : Nat) : Int) = ((x * 128 ^ q : Nat) : Int) := by simp
    rw [e, wrap_nat, Nat.mod_eq_of_lt (by omega)]
    have e2 : (acc : Int) + ((x * 128 ^ q : Nat) : Int) = ((acc + x * 128 ^ q : Nat) : Int) := by simp
    rw [e2, wrap_nat, Nat.mod_eq_of_lt (by omega)]
  · have h2 : x * 128 ^ q ≤ 127 * 128 ^ q := Nat.mul_le_mul_right _ (by omega)
    rw [Nat.pow_succ]
    omega
theorem fac_val (q f : Nat) (hf : f = 128 ^ q) : ∃ f' : Nat, IntKind.u64.wrap ((f : Int) * 128) = (f' : Int) ∧ f' < 18446744073709551616 ∧ (q ≤ 8 → f' = 128 ^ (q + 1)) := by
  have e : (f : Int) * 128 = ((f * 128 : Nat) : Int) := by simp
  refine ⟨f * 128 % 18446744073709551616, by rw [e, wrap_nat], Nat.mod_lt _ (by omega), fun h => ?_⟩
  have := pow_le9 (q := q + 1) (by omega)
  rw [Nat.pow_succ] at this
  rw [hf, Nat.mod_eq_of_lt (by omega), Nat.pow_succ]

/-- What Read returns. -/
def ReadR (l : List UInt8) (w : World) (e : Ending) (w' : World) : Prop := e = .returned (.tuple #[.int .u64 ((rd l).1 : Nat), .int .i64 ((rd l).2.1 : Nat), .int .i64 (rd l).2.2]) ∧ w = w'
theorem ReadR.mk {l : List UInt8} {w : World} {n z : Nat} {er : Int} (h : rd l = (n, z, er)) {n' z' er' : Int} (hn : (n : Int) = n') (hz : (z : Int) = z') (he : er = er') : ReadR l w (.returned (.tuple #[.int .u64 n', .int .i64 z', .int .i64 er'])) w := by
  subst hn; subst hz; subst he
  exact ⟨by rw [h], rfl⟩

set_option maxRecDepth 100000 in
set_option maxHeartbeats 4000000 in
theorem refRead (A : Option Addr) (c : Nat) (l : List UInt8) (w : World) (h : BytesAt w A l) (hm : l.length ≤ 1000000) :
    Calls Try.prog 36 #[.slice A l.length c] w (ReadR l w) := by
  have H := Lib.hid h
  clear h
  go_enter Try.func36, Try.ntmps36
  go_wp2_with fail
  go_loop [5, 6, 7] (fun a fa k => ∃ (q acc f : Nat), q ≤ 10 ∧ k = .int .i64 q ∧ a = .int .u64 acc ∧ fa = .int .u64 f ∧ acc < 18446744073709551616 ∧ f < 18446744073709551616 ∧ Hid (q ≤ 9 → acc < 128 ^ q ∧ f = 128 ^ q) ∧ Hid (rd l = rdN (10 - q) q acc (l.drop q)) ∧ q ≤ l.length) (fun _ _ k => 10 - (intOf k).toNat)
  case atStart => exact ⟨0, 0, 1, by omega, rfl, rfl, rfl, by omega, by omega, fun _ => by simp, rfl, by omega⟩
  case round =>
    obtain ⟨q, acc, f, hq, rfl, rfl, rfl, hacc, hf, hq9, hrd, hql⟩ := hrel
    by_cases hlt : q < 10
    · by_cases hle : l.length = q
      · have hs : rd l = (0, 0, 4) := by
          rw [hrd.out, List.drop_of_length_le (by omega), show 10 - q = (9 - q) + 1 by omega]
          rfl
        have HS := Lib.hid hs
        have n1 : ((q : Int) == (l.length : Int)) = true := by simp; omega
        have n2 : (q : Int) = (l.length : Int) := by omega
        clear hs hle n2
        go_wp2_with fail
        exact bodyPost_ret (v := .tuple #[.int .u64 0, .int .i64 0, .int .i64 4]) (by simp [results, Try.results36, go_sem]) rfl (ReadR.mk HS.out rfl rfl rfl)
      · have hlt2 : q < l.length := by omega
        obtain ⟨b, hbx⟩ : ∃ b, l[q]'hlt2 = b := ⟨_, rfl⟩
        have hd := List.getElem?_eq_getElem hlt2
        rw [hbx] at hd
        have HD := Lib.hid (show l.drop q = b :: l.drop (q + 1) by rw [List.drop_eq_getElem_cons hlt2, hbx])
        obtain ⟨bk, off, hA, hbl, hcell⟩ := H.out (by omega)
        subst hA
        have hc0 := hcell q b hd 0 _ rfl
        have d0 : w.cell? ⟨bk, off + q, none⟩ = some (.int .u8 b.toNat) := by simpa using hc0
        have n0 : ¬ (q : Int) = (l.length : Int) := by omega
        have n1 : ((q : Int) == (l.length : Int)) = false := by simp; omega
        have n2 : (q : Int) < (l.length : Int) := by omega
        have hbt := toNat_lt b
        have hrd2 := hrd.out
        rw [HD.out, show 10 - q = (9 - q) + 1 by omega, rdN_cons] at hrd2
        have h9 := hq9.out (by omega)
        have em : ((b.toNat % 128 : Nat) : Int) = (b.toNat : Int) % 128 := by omega
        obtain ⟨f', hf', hf64, hfn⟩ := fac_val q f h9.2
        have HF' := Lib.hid hf'
        have HFN := Lib.hid hfn
        clear hbx hd hcell hc0 hle hf' hfn
        by_cases h1 : q ≤ 8 ∨ b.toNat % 128 ≤ 1
        · obtain ⟨a, hav, hae, ha64, ha9⟩ := sum_val acc q (b.toNat % 128) f (Nat.mod_lt _ (by omega)) (by omega) h9.1 h9.2 h1
          rw [em] at hav
          have HAV := Lib.hid hav
          have HA9 := Lib.hid ha9
          rw [← hae] at hrd2
          clear ha9 hae em
          by_cases h128 : 128 ≤ b.toNat
          · rw [if_pos h128] at hrd2
            have HRD := Lib.hid hrd2
            have k0 : (128 : Int) ≤ (b.toNat : Int) := by omega
            have hcs : (q ≤ 8) ∨ (q = 9 ∧ b.toNat % 128 ≤ 1) := by omega
            clear hrd2 hav h1 h9
            rcases hcs with h8 | ⟨h8, hx⟩
            · have z9 : ((q : Int) == 9) = false := by simp; omega
              go_wp2_with fail
              go_round
              case rel => exact ⟨q + 1, a, f', by omega, by go_num, by rw [HAV.out], by rw [HF'.out], ha64, hf64, fun h => ⟨HA9.out (by omega), HFN.out (by omega)⟩, by show rd l = _; rw [HRD.out, show 10 - (q + 1) = 9 - q by omega], by omega⟩
              case measure => simp [intOf]; omega
            · obtain rfl : q = 9 := h8
              have z8 : decide ((1 : Int) < (b.toNat : Int) % 128) = false := by simp; omega
              have m1 : ((9 : Int) == (l.length : Int)) = false := by simp; omega
              have m2 : (9 : Int) < (l.length : Int) := by omega
              clear n0 n1 n2
              go_wp2_with fail
              go_round
              case rel => exact ⟨10, a, f', by omega, rfl, by rw [HAV.out], by rw [HF'.out], ha64, hf64, fun h => absurd h (by omega), HRD.out, by omega⟩
              case measure => simp [intOf]
          · rw [if_neg h128] at hrd2
            have k0 : ¬ (128 : Int) ≤ (b.toNat : Int) := by omega
            by_cases hbad : (b.toNat = 0 ∧ 0 < q) ∨ (1 < b.toNat ∧ q = 9)
            · rw [if_pos hbad] at hrd2
              have HRD := Lib.hid hrd2
              have hcs : b.toNat = 0 ∧ 0 < q := by omega
              clear hrd2 hav h1 h9 hbad
              have z0 : ((b.toNat : Int) % 128 == 0) = true := by simp; omega
              have z1 : decide (0 < q) = true := by simp; omega
              have z2 : decide ((1 : Int) < (b.toNat : Int) % 128) = false := by simp; omega
              have z3 : (0 : Int) < (q : Int) := by omega
              clear hcs
              by_cases hq9e : q = 9
              · subst hq9e
                have m1 : ((9 : Int) == (l.length : Int)) = false := by simp; omega
                have m2 : (9 : Int) < (l.length : Int) := by omega
                clear n0 n1 n2 z1 z3
                go_wp2_with fail
                exact bodyPost_ret (v := .tuple #[.int .u64 0, .int .i64 0, .int .i64 12]) (by simp [results, Try.results36, go_sem]) rfl (ReadR.mk HRD.out rfl rfl rfl)
              · have z9 : ((q : Int) == 9) = false := by simp; omega
                clear hq9e
                go_wp2_with fail
                exact bodyPost_ret (v := .tuple #[.int .u64 0, .int .i64 0, .int .i64 12]) (by simp [results, Try.results36, go_sem]) rfl (ReadR.mk HRD.out rfl rfl rfl)
            · rw [if_neg hbad] at hrd2
              have HRD := Lib.hid hrd2
              have hcs : (b.toNat = 0 ∧ q = 0) ∨ (0 < b.toNat ∧ q < 9) ∨ (0 < b.toNat ∧ q = 9) := by omega
              clear hrd2 h1 h9
              rcases hcs with ⟨hb0, hq0⟩ | ⟨hb0, hq0⟩ | ⟨hb0, hq0⟩
              · subst hq0
                rw [Nat.add_zero] at d0
                have z0 : ((b.toNat : Int) % 128 == 0) = true := by simp; omega
                have m1 : ((0 : Int) == (l.length : Int)) = false := by simp; omega
                have m2 : (0 : Int) < (l.length : Int) := by omega
                clear n0 n1 n2 hb0 hbad
                go_wp2_with fail
                refine bodyPost_ret (v := .tuple #[.int .u64 (a : Int), .int .i64 1, .int .i64 0]) (by simp [results, Try.results36, go_sem]) rfl (ReadR.mk HRD.out rfl rfl rfl)
              · have z0 : ((b.toNat : Int) % 128 == 0) = false := by simp; omega
                have z9 : ((q : Int) == 9) = false := by simp; omega
                clear hb0 hq0 hbad
                go_wp2_with fail
                refine bodyPost_ret (v := .tuple #[.int .u64 (a : Int), .int .i64 ((q : Int) + 1), .int .i64 0]) (by simp [results, Try.results36, go_sem]) rfl (ReadR.mk HRD.out rfl (by omega) rfl)
              · subst hq0
                have z0 : ((b.toNat : Int) % 128 == 0) = false := by simp; omega
                have z2 : decide ((1 : Int) < (b.toNat : Int) % 128) = false := by simp; omega
                have m1 : ((9 : Int) == (l.length : Int)) = false := by simp; omega
                have m2 : (9 : Int) < (l.length : Int) := by omega
                clear n0 n1 n2 hb0 hbad
                go_wp2_with fail
                refine bodyPost_ret (v := .tuple #[.int .u64 (a : Int), .int .i64 10, .int .i64 0]) (by simp [results, Try.results36, go_sem]) rfl (ReadR.mk HRD.out rfl rfl rfl)
        · obtain rfl : q = 9 := by omega
          have hs : rd l = (0, 0, 12) := by
            rw [hrd2]
            by_cases h128 : 128 ≤ b.toNat
            · rw [if_pos h128, show 9 - 9 = 0 from rfl, rdN_zero]
            · rw [if_neg h128, if_pos (.inr ⟨by omega, rfl⟩)]
          have HS := Lib.hid hs
          have z2 : decide ((1 : Int) < (b.toNat : Int) % 128) = true := by simp; omega
          have z3 : (1 : Int) < (b.toNat : Int) % 128 := by omega
          have m1 : ((9 : Int) == (l.length : Int)) = false := by simp; omega
          have m2 : (9 : Int) < (l.length : Int) := by omega
          clear n0 n1 n2 hs hrd2 h1 h9 em
          go_wp2_with fail
          exact bodyPost_ret (v := .tuple #[.int .u64 0, .int .i64 0, .int .i64 12]) (by simp [results, Try.results36, go_sem]) rfl (ReadR.mk HS.out rfl rfl rfl)
    · obtain rfl : q = 10 := by omega
      have HS : Hid (rd l = (0, 0, 12)) := by
        show rd l = _
        rw [hrd.out, rdN_zero]
      clear hrd hq9 hlt hq
      go_wp2_with fail
      exact bodyPost_ret (v := .tuple #[.int .u64 0, .int .i64 0, .int .i64 12]) (by simp [results, Try.results36, go_sem]) rfl (ReadR.mk HS.out rfl rfl rfl)

end Go.Proofs.Ytkloheabbbpboaa
