/- Package bytes: a reader's num. -/
import Derived.Test.YtkloheabbbpboaaBytD
import Derived.Outline
namespace Go.Proofs.Ytkloheabbbpboaa
open Go.RowKit

/-- What num returns. -/
def numP (t : Nat × Nat × Int) (most : Nat) : Nat × Int := if t.2.2 ≠ 0 then (0, t.2.2) else if most < t.1 then (0, 3) else (t.1, 0)
theorem numP_rdM (l : List UInt8) (most : Nat) : numP (rd l) most = ((rdM l most).1, (rdM l most).2.2) := by
  unfold numP rdM
  by_cases h : (rd l).2.2 = 0
  · by_cases h2 : most < (rd l).1
    · rw [if_neg (by simp [h]), if_pos h2, if_pos ⟨h, h2⟩]
    · rw [if_neg (by simp [h]), if_neg h2, if_neg (by simp [h2]), h]
  · rw [if_pos h, if_neg (by simp [h]), rd_err h]

theorem rdN_nil (k i acc : Nat) : rdN (k + 1) i acc [] = (0, 0, 4) := rfl
theorem rdN_zero (i acc : Nat) (l : List UInt8) : rdN 0 i acc l = (0, 0, 12) := by cases l <;> rfl
theorem or_add (a x k : Nat) (h : a < 128 ^ k) : a ||| (x * 128 ^ k) = a + x * 128 ^ k := by
  have e : 128 ^ k = 2 ^ (7 * k) := by rw [Nat.pow_mul]
  rw [e] at h ⊢
  rw [Nat.or_comm, ← Nat.shiftLeft_eq, ← Nat.shiftLeft_add_eq_or_of_lt h, Nat.add_comm]
theorem wrap_nat (n : Nat) : IntKind.u64.wrap (n : Int) = ((n % 18446744073709551616 : Nat) : Int) := by simp [IntKind.wrap, IntKind.bits, IntKind.signed]
/-- The number with one group more. -/
theorem or_val (acc q x : Nat) (hacc : acc < 18446744073709551616) (hx : x < 128) (hq : q ≤ 9) (h9 : acc < 128 ^ q) :
    ∃ a : Nat, bits BinOp.or IntKind.u64 (acc : Int) (IntKind.u64.wrap ((x : Int) * 2 ^ (7 * q))) = (a : Int) ∧ a < 18446744073709551616 ∧ ((q ≤ 8 ∨ x ≤ 1) → a = acc + x * 128 ^ q) ∧ (q ≤ 8 → a < 128 ^ (q + 1)) := by
  have e : (x : Int) * 2 ^ (7 * q) = ((x * 128 ^ q : Nat) : Int) := by rw [show (128 : Nat) ^ q = 2 ^ (7 * q) by rw [Nat.pow_mul]]; simp
  rw [e, wrap_nat, u64_or_nat acc _ hacc (Nat.mod_lt _ (by omega))]
  refine ⟨_, rfl, ?_, ?_, ?_⟩
  · exact Nat.or_lt_two_pow (n := 64) hacc (Nat.mod_lt _ (by omega))
  · intro h
    have hlt : x * 128 ^ q < 18446744073709551616 := by
      rcases h with h | h
      · have : 128 ^ q ≤ 128 ^ 8 := Nat.pow_le_pow_right (by omega) h
        have h2 : x * 128 ^ q ≤ 127 * 128 ^ 8 := Nat.mul_le_mul (by omega) this
        omega
      · have : 128 ^ q ≤ 128 ^ 9 := Nat.pow_le_pow_right (by omega) hq
        have h2 : x * 128 ^ q ≤ 1 * 128 ^ 9 := Nat.mul_le_mul h this
        omega
    rw [Nat.mod_eq_of_lt hlt, or_add _ _ _ h9]
  · intro h
    have hle : 128 ^ q ≤ 128 ^ 8 := Nat.pow_le_pow_right (by omega) h
    have h2 : x * 128 ^ q ≤ 127 * 128 ^ q := Nat.mul_le_mul_right _ (by omega)
    have h3 : x * 128 ^ q < 18446744073709551616 := by omega
    rw [Nat.mod_eq_of_lt h3, or_add _ _ _ h9, Nat.pow_succ]
    omega
theorem rdN_cons (k i acc : Nat) (b : UInt8) (r : List UInt8) : rdN (k + 1) i acc (b :: r) = if 128 ≤ b.toNat then rdN k (i + 1) (acc + b.toNat % 128 * 128 ^ i) r
    else if (b.toNat = 0 ∧ 0 < i) ∨ (1 < b.toNat ∧ i = 9) then (0, 0, 12) else (acc + b.toNat % 128 * 128 ^ i, i + 1, 0) := rfl

/-- What num leaves. -/
def NumR (w : World) (g : Nat) (A : Option Addr) (c : Nat) (xs : List UInt8) (i : Nat) (n : Nat) (er : Int) (e : Ending) (w' : World) : Prop :=
  e = .returned (.tuple #[.int .u64 n, .int .i64 er]) ∧ ∃ j, Rd w' g A c xs j ∧ Chg (fun k => k = g) w w' ∧ (er = 0 → j = i + (rd (xs.drop i)).2.1)
theorem NumR.mk {w w' : World} {g : Nat} {A : Option Addr} {c : Nat} {xs : List UInt8} {i n j : Nat} {er : Int} (h : Rd w' g A c xs j) (hc : Chg (fun k => k = g) w w') (hj : er = 0 → j = i + (rd (xs.drop i)).2.1) {n' er' : Int} (hn : (n : Int) = n') (he : er = er') : NumR w g A c xs i n er (.returned (.tuple #[.int .u64 n', .int .i64 er'])) w' := by
  subst hn; subst he; exact ⟨rfl, j, h, hc, hj⟩

set_option maxRecDepth 100000 in
set_option maxHeartbeats 4000000 in
theorem numIn (g : Nat) (A : Option Addr) (c : Nat) (xs : List UInt8) (i : Nat) (most : Nat) (w : World) (h : Rd w g A c xs i) (hmost : most < 18446744073709551616) (n : Nat) (er : Int) (hr : numP (rd (xs.drop i)) most = (n, er)) :
    Calls Try.prog 40 #[.pointer (some ⟨g, 0, none⟩), .int .u64 (most : Int)] w (NumR w g A c xs i n er) := by
  have H := Lib.hid h
  have HR := Lib.hid hr
  clear h hr
  go_enter Try.func40, Try.ntmps40
  go_wp2_with fail
  go_loopw [6, 9] (fun a k wr => ∃ (q acc : Nat), q ≤ 10 ∧ k = .int .i64 q ∧ a = .int .u64 acc ∧ acc < 18446744073709551616 ∧ Hid (q ≤ 9 → acc < 128 ^ q) ∧ Hid (rd (xs.drop i) = rdN (10 - q) q acc (xs.drop (i + q))) ∧ Hid (Rd wr g A c xs (i + q)) ∧ Hid (Chg (fun k => k = g) w wr)) (fun _ k _ => 10 - (intOf k).toNat)
  case atStart => exact ⟨0, 0, by omega, rfl, rfl, by omega, fun _ => by simp, rfl, H, Chg.refl _ _⟩
  case round =>
    obtain ⟨q, acc, hq, rfl, rfl, hacc, hq9, hrd, hR, hC⟩ := hrel
    by_cases hlt : q < 10
    · have HL := Lib.hid (leftAt g A c xs (i + q) wr hR.out)
      by_cases hle : xs.length = i + q
      · have i0 : ((xs.length - (i + q) : Nat) : Int) = 0 := by omega
        rw [i0] at HL
        clear i0
        have hs : rd (xs.drop i) = (0, 0, 4) := by
          rw [hrd.out, List.drop_of_length_le (by omega), show 10 - q = (9 - q) + 1 by omega]
          rfl
        have hne : n = 0 ∧ er = 4 := by
          have := HR.out
          rw [hs] at this
          simp [numP] at this
          exact ⟨this.1.symm, this.2.symm⟩
        have HNE := Lib.hid hne
        clear hs hne hle
        go_wp2_with fail
        refine HL.out.mono ?_
        rintro e w1 ⟨rfl, hb⟩
        have HB := Lib.hid hb
        clear hb
        go_wp2_with fail
        go_ret2
        exact NumR.mk (hR.out.below HB.out) (hC.out.trans (T := fun _ => False) (Chg.of_below HB.out) (fun _ _ e => e.elim)) (fun e => by have := HNE.out.2; omega) (by rw [HNE.out.1]; rfl) HNE.out.2
      · have i0 : (0 : Int) < ((xs.length - (i + q) : Nat) : Int) := by have := hR.out.2.2.2.1; omega
        have hlt2 : i + q < xs.length := by have := hR.out.2.2.2.1; omega
        generalize ((xs.length - (i + q) : Nat) : Int) = z at *
        obtain ⟨b, hbx⟩ : ∃ b, xs[i + q]'hlt2 = b := ⟨_, rfl⟩
        have hd := List.getElem?_eq_getElem hlt2
        rw [hbx] at hd
        have HD := Lib.hid (show xs.drop (i + q) = b :: xs.drop (i + (q + 1)) by rw [List.drop_eq_getElem_cons hlt2, hbx]; rfl)
        obtain ⟨bk, off, hA, hbl, hcell⟩ := hR.out.2.1 (by omega)
        subst hA
        have hc0 := hcell (i + q) b hd 0 _ rfl
        clear hbx
        go_wp2_with fail
        refine HL.out.mono ?_
        rintro e w1 ⟨rfl, hb⟩
        have HB := Lib.hid hb
        have hR1 := hR.out.below hb
        have c1 := fun z => cell_far (p := z) (w := w1) (a := ⟨g, 1, none⟩) hR1.lt hR1.c1
        have c2 := fun z => cell_far (p := z) (w := w1) (a := ⟨g, 2, none⟩) hR1.lt hR1.c2
        have d0 : w1.cell? ⟨bk, off + (i + q), none⟩ = some (.int .u8 b.toNat) := (hb.cell (p := ⟨bk, off + (i + q), none⟩) hbl).trans (by simpa using hc0)
        have d1 := fun z => cell_far (p := z) (w := w1) (a := ⟨bk, off + (i + q), none⟩) (World.block_lt_of_cell? w1 _ d0) d0
        have b0 : (0 : Int) ≤ ((i + q : Nat) : Int) := by omega
        have b1 : ((i + q : Nat) : Int) < (xs.length : Int) := by omega
        clear hb hc0 hcell hd d0
        go_wp2_with fail
        refine wp_region_far (by kernel_rfl) (by kernel_rfl) ?_
        repeat (go_big_quiet_step ((fail)))
        refine wpQuiet_nil ?_
        rintro _ ⟨p, rfl⟩
        have hR2 := hR1.below (below_far w1 p)
        have hC2 := hC.out.trans (T := fun _ => False) (Chg.of_below (below_trans HB.out (below_far w1 p))) (fun _ _ e => e.elim)
        clear c1 c2 d1 hR1 HB b0 b1
        generalize far w1 p = w2 at *
        have c2 := hR2.c2
        have f2 := hR2.f2
        have hst := hR2.set (j := i + (q + 1)) (by omega)
        have HST := Lib.hid (show Rd (w2.setCell ⟨g, 2, none⟩ (.int .i64 (((i + q : Nat) : Int) + 1))) g (some ⟨bk, off, none⟩) c xs (i + (q + 1)) ∧ Chg (fun k => k = g) w (w2.setCell ⟨g, 2, none⟩ (.int .i64 (((i + q : Nat) : Int) + 1))) from by
          rw [show ((i + q : Nat) : Int) + 1 = ((i + (q + 1) : Nat) : Int) by omega]
          exact ⟨hst.1, hC2.trans hst.2 fun _ _ e => e⟩)
        have a0 : (0 : Int) ≤ ((i + q : Nat) : Int) := by omega
        have a1 : ((i + q : Nat) : Int) ≤ 1000000 := by have := hR2.2.2.2.2.1; omega
        have HI := Lib.hid hlt2
        clear hst hR2 hC2 hR hC hlt2
        generalize ((i + q : Nat) : Int) = at0 at *
        have hbt := toNat_lt b
        obtain ⟨a, hav, ha64, ha, ha9⟩ := or_val acc q (b.toNat % 128) hacc (Nat.mod_lt _ (by omega)) (by omega) (hq9.out (by omega))
        have em : ((b.toNat % 128 : Nat) : Int) = (b.toNat : Int) % 128 := by omega
        rw [em] at hav
        have HA := Lib.hid ha
        have HA9 := Lib.hid ha9
        have hrd2 := hrd.out
        rw [HD.out, show 10 - q = (9 - q) + 1 by omega, rdN_cons] at hrd2
        clear em ha ha9
        by_cases h128 : 128 ≤ b.toNat
        · rw [if_pos h128] at hrd2
          have HRD := Lib.hid hrd2
          have HV := Lib.hid hav
          have k0 : (128 : Int) ≤ (b.toNat : Int) := by omega
          clear hrd2 hav
          go_wp2_with fail
          go_roundw
          case rel =>
            refine ⟨q + 1, a, by omega, by go_num, by rw [HV.out], ha64, fun h9 => HA9.out (by omega), ?_, HST.out.1, HST.out.2⟩
            show rd (xs.drop i) = _
            rw [HRD.out]
            by_cases h8 : q ≤ 8
            · rw [HA.out (.inl h8), show 10 - (q + 1) = 9 - q by omega]
            · obtain rfl : q = 9 := by omega
              rw [rdN_zero, rdN_zero]
          case measure => simp [intOf]; omega
        · rw [if_neg h128] at hrd2
          have k0 : ¬ (128 : Int) ≤ (b.toNat : Int) := by omega
          by_cases hbad : (b.toNat = 0 ∧ 0 < q) ∨ (1 < b.toNat ∧ q = 9)
          · rw [if_pos hbad] at hrd2
            have HNE : Hid (n = 0 ∧ er = 12) := by
              have := HR.out
              rw [hrd2] at this
              simp [numP] at this
              exact ⟨this.1.symm, this.2.symm⟩
            clear hrd2 hav h128
            have fin : NumR w g (some ⟨bk, off, none⟩) c xs i n er (.returned (.tuple #[.int .u64 0, .int .i64 12])) (w2.setCell ⟨g, 2, none⟩ (.int .i64 (at0 + 1))) :=
              NumR.mk HST.out.1 HST.out.2 (fun e => by have := HNE.out.2; omega) (by rw [HNE.out.1]; rfl) HNE.out.2
            have FIN := Lib.hid fin
            clear fin
            rcases hbad with ⟨hb0, hq0⟩ | ⟨hb1, hq9'⟩
            · have z0 : (b.toNat : Int) = 0 := by omega
              have z1 : (0 : Int) < (q : Int) := by omega
              clear hb0 hq0 hbt
              go_wp2_with fail
              go_ret2
              exact FIN.out
            · have z0 : ((b.toNat : Int) == 0) = false := by simp; omega
              have z2 : (1 : Int) < (b.toNat : Int) := by omega
              have z3 : (q : Int) = 9 := by omega
              clear hb1 hq9'
              go_wp2_with fail
              go_ret2
              exact FIN.out
          · rw [if_neg hbad] at hrd2
            have hx1 : q ≤ 8 ∨ b.toNat % 128 ≤ 1 := by omega
            have hae := HA.out hx1
            rw [← hae] at hrd2
            have HRD := Lib.hid hrd2
            have hz : (((b.toNat : Int) == 0) && decide ((0 : Int) < (q : Int))) = false := by
              cases hh : ((b.toNat : Int) == 0)
              · rfl
              · have : b.toNat = 0 := by simpa using hh
                simp; omega
            clear hrd2 hae hx1 hz
            obtain ⟨FR, hFR⟩ : ∃ FR : Nat × Int, (if most < a then (0, 3) else (a, 0)) = FR := ⟨_, rfl⟩
            have HNE : Hid (n = FR.1 ∧ er = FR.2) := by
              have := HR.out
              rw [HRD.out] at this
              simp only [numP] at this
              rw [if_neg (by simp), hFR] at this
              rw [this]; exact ⟨rfl, rfl⟩
            have FIN := Lib.hid (show NumR w g (some ⟨bk, off, none⟩) c xs i n er (.returned (.tuple #[.int .u64 (FR.1 : Int), .int .i64 FR.2])) (w2.setCell ⟨g, 2, none⟩ (.int .i64 (at0 + 1))) from
              NumR.mk HST.out.1 HST.out.2 (fun _ => by rw [HRD.out]) (by rw [HNE.out.1]) HNE.out.2)
            clear HNE
            have hcs : (b.toNat = 0 ∧ q = 0) ∨ (b.toNat = 1) ∨ (1 < b.toNat ∧ q ≠ 9) := by omega
            by_cases hgt : most < a
            · rw [if_pos hgt] at hFR
              subst hFR
              have g1 : (most : Int) < (a : Int) := by omega
              clear hgt hbad h128
              rcases hcs with ⟨hb0, hq0⟩ | hb1 | ⟨hb2, hq2⟩
              · have z0 : ((b.toNat : Int) == 0) = true := by simp; omega
                have z1 : decide (0 < q) = false := by simp; omega
                have z2 : decide ((1 : Int) < (b.toNat : Int)) = false := by simp; omega
                clear hb0 hq0 hbt
                go_wp2_with fail
                go_ret2
                exact FIN.out
              · have z0 : ((b.toNat : Int) == 0) = false := by simp; omega
                have z2 : decide ((1 : Int) < (b.toNat : Int)) = false := by simp; omega
                clear hb1 hbt
                go_wp2_with fail
                go_ret2
                exact FIN.out
              · have z0 : ((b.toNat : Int) == 0) = false := by simp; omega
                have z2 : (1 : Int) < (b.toNat : Int) := by omega
                have z3 : ((q : Int) == 9) = false := by simp; omega
                clear hb2 hq2
                go_wp2_with fail
                go_ret2
                exact FIN.out
            · rw [if_neg hgt] at hFR
              subst hFR
              have g1 : ¬ (most : Int) < (a : Int) := by omega
              clear hgt hbad h128
              rcases hcs with ⟨hb0, hq0⟩ | hb1 | ⟨hb2, hq2⟩
              · have z0 : ((b.toNat : Int) == 0) = true := by simp; omega
                have z1 : decide (0 < q) = false := by simp; omega
                have z2 : decide ((1 : Int) < (b.toNat : Int)) = false := by simp; omega
                clear hb0 hq0 hbt
                go_wp2_with fail
                go_ret2
                exact FIN.out
              · have z0 : ((b.toNat : Int) == 0) = false := by simp; omega
                have z2 : decide ((1 : Int) < (b.toNat : Int)) = false := by simp; omega
                clear hb1 hbt
                go_wp2_with fail
                go_ret2
                exact FIN.out
              · have z0 : ((b.toNat : Int) == 0) = false := by simp; omega
                have z2 : (1 : Int) < (b.toNat : Int) := by omega
                have z3 : ((q : Int) == 9) = false := by simp; omega
                clear hb2 hq2
                go_wp2_with fail
                go_ret2
                exact FIN.out
    · obtain rfl : q = 10 := by omega
      have hrd2 := hrd.out
      rw [rdN_zero] at hrd2
      have HNE : Hid (n = 0 ∧ er = 12) := by
        have := HR.out
        rw [hrd2] at this
        simp [numP] at this
        exact ⟨this.1.symm, this.2.symm⟩
      have FIN := Lib.hid (show NumR w g A c xs i n er (.returned (.tuple #[.int .u64 0, .int .i64 12])) wr from
        NumR.mk hR.out hC.out (fun e => by have := HNE.out.2; omega) (by rw [HNE.out.1]; rfl) HNE.out.2)
      clear hrd2 HNE hrd hR hC hq9 hlt hq hacc
      go_wp2_with fail
      go_ret2
      exact FIN.out

end Go.Proofs.Ytkloheabbbpboaa
