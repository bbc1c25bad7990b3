/- ParseUint at base 16 and 64 bits. -/
import Derived.Test.YtobkhoednecljaaDoorFloU
import Derived.Test.YtobkhoednecljaaDoorShelf
namespace Go.Proofs.YtobkhoednecljaaDoor
open Go.RowKit

theorem hexL_get : ∀ (k n i : Nat), i < k → (hexL k n)[i]? = some (hexD (n / 16 ^ (k - 1 - i) % 16))
  | 0, _, _, h => absurd h (by omega)
  | k + 1, n, 0, _ => by rw [hexL]; rfl
  | k + 1, n, i + 1, h => by
    rw [hexL, List.getElem?_cons_succ, hexL_get k n i (by omega)]
    congr 5
    omega
theorem txt_stepF {l : List UInt8} {k n : Nat} (hl : l = hexL 16 n) (hk : k < l.length) : ∃ x, x < 16 ∧ l[k] = hexD x ∧ n / 16 ^ (16 - (k + 1)) = 16 * (n / 16 ^ (16 - k)) + x := by
  have h8 : l.length = 16 := by rw [hl, hexL_len]
  have hk8 : k < 16 := by omega
  refine ⟨n / 16 ^ (15 - k) % 16, Nat.mod_lt _ (by decide), ?_, ?_⟩
  · have h1 := hexL_get 16 n k hk8
    rw [← hl, List.getElem?_eq_getElem hk] at h1
    exact Option.some.inj h1
  · rw [show 16 - (k + 1) = 15 - k by omega, show 16 - k = (15 - k) + 1 by omega, Nat.pow_succ, ← Nat.div_div_eq_div_mul]
    omega
theorem div_smallF {n k : Nat} (hn : n < 18446744073709551616) (hk : k < 16) : n / 16 ^ (16 - k) < 1152921504606846976 := by
  have h1 : 16 ^ 1 ≤ 16 ^ (16 - k) := Nat.pow_le_pow_right (by decide) (by omega)
  rw [Nat.div_lt_iff_lt_mul (Nat.pow_pos (by decide))]
  have h2 := Nat.mul_le_mul_left 1152921504606846976 h1
  omega
theorem len_lt16 {l : List UInt8} {n k : Nat} (h : l = hexL 16 n) (hk : k < l.length) : k < 16 := by rw [h, hexL_len] at hk; exact hk
theorem dig_lo : ∀ x : Fin 16, x.val < 10 → 48 ≤ (hexD x.val).toNat ∧ (hexD x.val).toNat ≤ 57 ∧ (hexD x.val).toNat - 48 = x.val := by decide +kernel
theorem dig_hi : ∀ x : Fin 16, 10 ≤ x.val → 57 < (hexD x.val).toNat ∧ 97 ≤ ((hexD x.val).toNat ||| 32) ∧ ((hexD x.val).toNat ||| 32) ≤ 102 ∧ ((hexD x.val).toNat ||| 32) - 87 = x.val := by decide +kernel

theorem lowerU (b : Nat) (w : World) (h : b < 256) : Calls Tryd.prog 86 #[.int .u8 (b : Int)] w (One (.int .u8 ((b ||| 32 : Nat) : Int)) w) := by
  have e1 : bits .or .u8 (b : Int) 32 = ((b ||| 32 : Nat) : Int) := u8_or_nat b 32 h (by decide)
  clear h
  generalize b ||| 32 = L at *
  go_enter Tryd.func86, Tryd.ntmps86
  go_wp2_with fail
  go_ret
  exact ⟨rfl, rfl⟩

theorem lowerV (b L : Nat) (w : World) (h : b < 256 ∧ b ||| 32 = L) : Calls Tryd.prog 86 #[.int .u8 (b : Int)] w (One (.int .u8 (L : Int)) w) := by
  obtain ⟨h1, rfl⟩ := h
  exact lowerU b w h1
/-- What ParseUint returns. -/
def PuF (l : List UInt8) (w : World) (e : Ending) (w' : World) : Prop :=
  ∃ (v : Nat) (err : Value), e = .returned (.tuple #[.int .u64 (v : Int), err]) ∧ (err = .nilIface ∨ err = .iface 116 (.int .i64 1) ∨ err = .iface 116 (.int .i64 2)) ∧ v < 18446744073709551616 ∧ (∀ n, n < 18446744073709551616 → l = hexL 16 n → v = n ∧ err = .nilIface) ∧ Below w.heap.size w w'

set_option maxRecDepth 100000 in
set_option maxHeartbeats 2000000 in
theorem parseUF (l : List UInt8) (w : World) (hl : l.length ≤ 1000) :
    Calls Tryd.prog 73 #[.string ⟨l.toArray⟩, .int .i64 16, .int .i64 64] w (PuF l w) := by
  have q1 := fun (w : World) (s : ByteArray) => Lib.run_convert_string_bytes (P := Tryd.prog) w 9 68 5 s Tryd.underlying9 Tryd.underlying68 Tryd.underlying5
  have ewm : IntKind.u64.wrap (IntKind.u64.wrap 18446744073709551616 - 1) = 18446744073709551615 := by decide
  cases l with
  | nil =>
    go_enter Tryd.func73, Tryd.ntmps73
    go_wp2_with fail
    go_ret2
    exact ⟨0, _, rfl, .inr (.inr rfl), by decide, fun n _ h => absurd (congrArg List.length h) (by rw [hexL_len]; decide), Below.refl _ _⟩
  | cons b0 r0 =>
    have hne : (b0 :: r0).isEmpty = false := rfl
    have hsz : (ByteArray.mk (b0 :: r0).toArray).size = (b0 :: r0).length := by show (b0 :: r0).toArray.size = _; simp
    generalize hl0 : b0 :: r0 = l at *
    clear hl0
    go_enter Tryd.func73, Tryd.ntmps73
    go_wp2_with fail
    have HB := Lib.hid (bytesWorld_below w ⟨l.toArray⟩)
    have HAT := Lib.hid (bytesWorld_at w ⟨l.toArray⟩)
    clear q1 hne
    generalize Lib.bytesWorld w 5 ⟨l.toArray⟩ = W1 at HB HAT ⊢
    go_loopw [12, 13, 101] (fun s12 s13 s101 wr => ∃ (k m : Nat), k ≤ l.length ∧ s12 = .bool false ∧ s13 = .int .u64 (m : Int) ∧ s101 = .int .i64 (k : Int) ∧ wr = W1 ∧ Hid (m < 18446744073709551616 ∧ ∀ n, n < 18446744073709551616 → l = hexL 16 n → m = n / 16 ^ (16 - k))) (fun _ _ s101 _ => l.length - (intOf s101).toNat)
    case atStart => exact ⟨0, 0, by omega, rfl, rfl, rfl, rfl, ⟨by decide, fun n hn _ => by show 0 = n / 18446744073709551616; omega⟩⟩
    case round =>
      obtain ⟨k, m, hk, rfl, rfl, rfl, rfl, HQ⟩ := hrel
      by_cases hkl : k < l.length
      · have i0 : (k : Int) < (l.length : Int) := by omega
        obtain ⟨b, hb⟩ : ∃ b, l[k] = b := ⟨_, rfl⟩
        have hat : BytesAt wr (some ⟨w.heap.size, 0, none⟩) l := HAT.out
        obtain ⟨bb, off, eA, hlt, hc⟩ := hat (by omega)
        cases eA
        have hc0 := hc k b (by rw [List.getElem?_eq_getElem hkl, hb]) 0 _ rfl
        have d0 : wr.cell? ⟨w.heap.size, k, none⟩ = some (.int .u8 (b.toNat : Int)) := by simpa using hc0
        have hB := toNat8 b
        have HST := Lib.hid (show ∀ n, l = hexL 16 n → ∃ x, x < 16 ∧ b = hexD x ∧ n / 16 ^ (16 - (k + 1)) = 16 * (n / 16 ^ (16 - k)) + x from fun n h => by rw [← hb]; exact txt_stepF h hkl)
        have HK := Lib.hid hkl
        clear hat hc hc0 hlt hb
        by_cases c1 : 48 ≤ b.toNat ∧ b.toNat ≤ 57
        · have k1 : (48 : Int) ≤ (b.toNat : Int) := by omega
          have k2 : (b.toNat : Int) ≤ 57 := by omega
          have HNX := Lib.hid (show ∀ n, n < 18446744073709551616 → l = hexL 16 n → 16 * m + (b.toNat - 48) = n / 16 ^ (16 - (k + 1)) ∧ 16 * m + (b.toNat - 48) < 18446744073709551616 from fun n hn h => by
            obtain ⟨x, hx, hbx, he⟩ := HST.out n h
            have h1 := dig_lo ⟨x, hx⟩
            have h2 := dig_hi ⟨x, hx⟩
            simp only [← hbx] at h1 h2
            have hd : b.toNat - 48 = x := by
              by_cases h10 : x < 10
              · exact (h1 h10).2.2
              · have := (h2 (by omega)).1; omega
            have hle : n / 16 ^ (16 - (k + 1)) ≤ n := Nat.div_le_self _ _
            rw [hd, HQ.out.2 n hn h, ← he]
            exact ⟨rfl, by omega⟩)
          obtain ⟨d, hd⟩ : ∃ d, b.toNat - 48 = d := ⟨_, rfl⟩
          have hd10 : d < 10 := by omega
          rw [hd] at HNX
          have hdi : (b.toNat : Int) - 48 = (d : Int) := by omega
          have hm := HQ.out.1
          have e3 : IntKind.u8.wrap (d : Int) = (d : Int) := by simp [IntKind.wrap, IntKind.bits, IntKind.signed]; omega
          have e4 : IntKind.u64.wrap (d : Int) = (d : Int) := by simp [IntKind.wrap, IntKind.bits, IntKind.signed]; omega
          have j2 : ¬ (16 : Int) ≤ (d : Int) := by omega
          have HD := Lib.hid (show b.toNat - 48 = d ∧ d < 10 from ⟨hd, hd10⟩)
          by_cases hbig : m < 1152921504606846976
          · skip
            have j1 : ¬ (1152921504606846976 : Int) ≤ (m : Int) := by omega
            have e1 : IntKind.u64.wrap ((m : Int) * 16) = (m : Int) * 16 := by simp [IntKind.wrap, IntKind.bits, IntKind.signed]; omega
            have e2 : IntKind.u64.wrap ((m : Int) * 16 + (d : Int)) = (m : Int) * 16 + (d : Int) := by simp [IntKind.wrap, IntKind.bits, IntKind.signed]; omega
            have j3 : ¬ (m : Int) * 16 + (d : Int) < (m : Int) * 16 := by omega
            have j4 : ¬ (18446744073709551615 : Int) < (m : Int) * 16 + (d : Int) := by omega
            have hbig2 : 16 * m + d < 18446744073709551616 := by omega
            have HBG := Lib.hid hbig2
            clear hbig hbig2 hm hd hd10 c1 hB
            go_wp2_with fail
            go_roundw
            case rel => exact ⟨k + 1, 16 * m + d, by omega, rfl, congrArg (Value.int .u64) (by omega), by go_num, by trivial, ⟨HBG.out, fun n hn h => (HNX.out n hn h).1⟩⟩
            case measure => simp [intOf]; omega
          · have j1 : (1152921504606846976 : Int) ≤ (m : Int) := by omega
            have HNO := Lib.hid (show ∀ n, n < 18446744073709551616 → l = hexL 16 n → False from fun n hn h => hbig (HQ.out.2 n hn h ▸ div_smallF hn (len_lt16 h HK.out)))
            clear hbig hm hd hd10 c1 hB
            go_wp2_with fail
            go_ret2
            exact ⟨18446744073709551615, _, rfl, .inr (.inl rfl), by decide, fun n hn h => (HNO.out n hn h).elim, HB.out⟩
        · obtain ⟨L, hL⟩ : ∃ L, b.toNat ||| 32 = L := ⟨_, rfl⟩
          have HLB := Lib.hid (show b.toNat < 256 ∧ b.toNat ||| 32 = L from ⟨hB, hL⟩)
          have hL256 : L < 256 := by rw [← hL]; exact Nat.or_lt_two_pow (n := 8) hB (by decide)
          have hm := HQ.out.1
          have HX := Lib.hid (show ∀ n, l = hexL 16 n → ∃ x, x < 16 ∧ 10 ≤ x ∧ 57 < b.toNat ∧ 97 ≤ L ∧ L ≤ 102 ∧ L - 87 = x ∧ n / 16 ^ (16 - (k + 1)) = 16 * (n / 16 ^ (16 - k)) + x from fun n h => by
            obtain ⟨x, hx, hbx, he⟩ := HST.out n h
            have h1 := dig_lo ⟨x, hx⟩
            have h2 := dig_hi ⟨x, hx⟩
            simp only [← hbx, hL] at h1 h2
            by_cases h10 : x < 10
            · exact absurd ⟨(h1 h10).1, (h1 h10).2.1⟩ c1
            · obtain ⟨a1, a2, a3, a4⟩ := h2 (by omega)
              exact ⟨x, hx, by omega, a1, a2, a3, a4, he⟩)
          by_cases hlo : b.toNat < 48
          · have hL97 : L < 64 := by rw [← hL]; exact Nat.or_lt_two_pow (n := 6) (by omega) (by decide)
            have k1 : ¬ (48 : Int) ≤ (b.toNat : Int) := by omega
            have k3 : ¬ (97 : Int) ≤ (L : Int) := by omega
            have h95 : ((b.toNat : Int) == 95) = false := by simp; omega
            have HNO := Lib.hid (show ∀ n, l = hexL 16 n → 0 = n ∧ Value.iface 116 (.int .i64 2) = .nilIface from fun n h => by
              obtain ⟨x, _, _, h57, _⟩ := HX.out n h
              omega)
            clear c1 hL hlo hL97 hB hm hL256
            go_wp2_with fail
            refine (lowerV b.toNat L _ HLB.out).mono ?_
            rintro e w1 ⟨rfl, rfl⟩
            go_wp2_with fail
            go_ret2
            exact ⟨0, _, rfl, .inr (.inr rfl), by decide, fun n hn h => HNO.out n h, HB.out⟩
          · have k1 : (48 : Int) ≤ (b.toNat : Int) := by omega
            have k2 : ¬ (b.toNat : Int) ≤ 57 := by omega
            by_cases h95 : b.toNat = 95
            · have hb127 : L = 127 := by rw [← hL, h95]; rfl
              have z95 : ((b.toNat : Int) == 95) = true := by simp [h95]
              have k3 : (97 : Int) ≤ (L : Int) := by omega
              have k4 : ¬ (L : Int) ≤ 122 := by omega
              have HNO := Lib.hid (show ∀ n, l = hexL 16 n → 0 = n ∧ Value.iface 116 (.int .i64 2) = .nilIface from fun n h => by
                obtain ⟨x, _, _, _, _, h102, _⟩ := HX.out n h
                omega)
              clear c1 hL hlo hB hm hL256 hb127 h95
              go_wp2_with fail
              refine (lowerV b.toNat L _ HLB.out).mono ?_
              rintro e w1 ⟨rfl, rfl⟩
              go_wp2_with fail
              refine (lowerV b.toNat L _ HLB.out).mono ?_
              rintro e w1 ⟨rfl, rfl⟩
              go_wp2_with fail
              go_ret2
              exact ⟨0, _, rfl, .inr (.inr rfl), by decide, fun n hn h => HNO.out n h, HB.out⟩
            · have z95 : ((b.toNat : Int) == 95) = false := by simp; omega
              by_cases hL97 : L < 97
              · have k3 : ¬ (97 : Int) ≤ (L : Int) := by omega
                have HNO := Lib.hid (show ∀ n, l = hexL 16 n → 0 = n ∧ Value.iface 116 (.int .i64 2) = .nilIface from fun n h => by
                  obtain ⟨x, _, _, _, h97, _⟩ := HX.out n h
                  omega)
                clear c1 hL hlo hB hm hL256 h95 hL97
                go_wp2_with fail
                refine (lowerV b.toNat L _ HLB.out).mono ?_
                rintro e w1 ⟨rfl, rfl⟩
                go_wp2_with fail
                go_ret2
                exact ⟨0, _, rfl, .inr (.inr rfl), by decide, fun n hn h => HNO.out n h, HB.out⟩
              · have k3 : (97 : Int) ≤ (L : Int) := by omega
                by_cases hL122 : 122 < L
                · have k4 : ¬ (L : Int) ≤ 122 := by omega
                  have HNO := Lib.hid (show ∀ n, l = hexL 16 n → 0 = n ∧ Value.iface 116 (.int .i64 2) = .nilIface from fun n h => by
                    obtain ⟨x, _, _, _, _, h102, _⟩ := HX.out n h
                    omega)
                  clear c1 hL hlo hB hm hL256 h95 hL97 hL122
                  go_wp2_with fail
                  refine (lowerV b.toNat L _ HLB.out).mono ?_
                  rintro e w1 ⟨rfl, rfl⟩
                  go_wp2_with fail
                  refine (lowerV b.toNat L _ HLB.out).mono ?_
                  rintro e w1 ⟨rfl, rfl⟩
                  go_wp2_with fail
                  go_ret2
                  exact ⟨0, _, rfl, .inr (.inr rfl), by decide, fun n hn h => HNO.out n h, HB.out⟩
                · have k4 : (L : Int) ≤ 122 := by omega
                  obtain ⟨d, hd⟩ : ∃ d, L - 87 = d := ⟨_, rfl⟩
                  have f1 : IntKind.u8.wrap ((L : Int) - 97) = (d : Int) - 10 := by simp [IntKind.wrap, IntKind.bits, IntKind.signed]; omega
                  have f2 : IntKind.u8.wrap ((d : Int) - 10 + 10) = (d : Int) := by simp [IntKind.wrap, IntKind.bits, IntKind.signed]; omega
                  have f3 : (L : Int) - 97 = (d : Int) - 10 := by omega
                  have f4 : (d : Int) - 10 + 10 = (d : Int) := by omega
                  have e3 : IntKind.u8.wrap (d : Int) = (d : Int) := by simp [IntKind.wrap, IntKind.bits, IntKind.signed]; omega
                  by_cases hd16 : 16 ≤ d
                  · have j2 : (16 : Int) ≤ (d : Int) := by omega
                    have HNO := Lib.hid (show ∀ n, l = hexL 16 n → 0 = n ∧ Value.iface 116 (.int .i64 2) = .nilIface from fun n h => by
                      obtain ⟨x, hx, _, _, _, _, hdx, _⟩ := HX.out n h
                      omega)
                    clear c1 hL hlo hB hm hL256 h95 hL97 hL122 hd hd16
                    go_wp2_with fail
                    refine (lowerV b.toNat L _ HLB.out).mono ?_
                    rintro e w1 ⟨rfl, rfl⟩
                    go_wp2_with fail
                    refine (lowerV b.toNat L _ HLB.out).mono ?_
                    rintro e w1 ⟨rfl, rfl⟩
                    go_wp2_with fail
                    refine (lowerV b.toNat L _ HLB.out).mono ?_
                    rintro e w1 ⟨rfl, rfl⟩
                    go_wp2_with fail
                    go_ret2
                    exact ⟨0, _, rfl, .inr (.inr rfl), by decide, fun n hn h => HNO.out n h, HB.out⟩
                  · have j2 : ¬ (16 : Int) ≤ (d : Int) := by omega
                    have HNX := Lib.hid (show ∀ n, n < 18446744073709551616 → l = hexL 16 n → 16 * m + d = n / 16 ^ (16 - (k + 1)) ∧ 16 * m + d < 18446744073709551616 from fun n hn h => by
                      obtain ⟨x, hx, _, _, _, _, hdx, he⟩ := HX.out n h
                      have hle : n / 16 ^ (16 - (k + 1)) ≤ n := Nat.div_le_self _ _
                      rw [show d = x by omega, HQ.out.2 n hn h, ← he]
                      exact ⟨rfl, by omega⟩)
                    have e4 : IntKind.u64.wrap (d : Int) = (d : Int) := by simp [IntKind.wrap, IntKind.bits, IntKind.signed]; omega
                    by_cases hbig : m < 1152921504606846976
                    · have j1 : decide ((1152921504606846976 : Int) ≤ (m : Int)) = false := by simp; omega
                      have e1 : IntKind.u64.wrap ((m : Int) * 16) = (m : Int) * 16 := by simp [IntKind.wrap, IntKind.bits, IntKind.signed]; omega
                      have e2 : IntKind.u64.wrap ((m : Int) * 16 + (d : Int)) = (m : Int) * 16 + (d : Int) := by simp [IntKind.wrap, IntKind.bits, IntKind.signed]; omega
                      have j3 : ¬ (m : Int) * 16 + (d : Int) < (m : Int) * 16 := by omega
                      have j4 : ¬ (18446744073709551615 : Int) < (m : Int) * 16 + (d : Int) := by omega
                      have hbig2 : 16 * m + d < 18446744073709551616 := by omega
                      have HBG := Lib.hid hbig2
                      clear hbig2
                      have J := Lib.hid (And.intro j1 (And.intro j2 (And.intro j3 (And.intro j4 (And.intro e1 (And.intro e2 (And.intro e3 e4)))))))
                      clear c1 hL hlo hB hm hL256 h95 hL97 hL122 hd hd16 hbig j1 j2 j3 j4 e1 e2 e3 e4
                      go_wp2_with fail
                      refine (lowerV b.toNat L _ HLB.out).mono ?_
                      rintro e w1 ⟨rfl, rfl⟩
                      go_wp2_with fail
                      refine (lowerV b.toNat L _ HLB.out).mono ?_
                      rintro e w1 ⟨rfl, rfl⟩
                      go_wp2_with fail
                      refine (lowerV b.toNat L _ HLB.out).mono ?_
                      rintro e w1 ⟨rfl, rfl⟩
                      go_upto_region 46 with fail
                      clear f1 f2 f3 f4 k1 k2 k3 k4 z95
                      obtain ⟨j1, j2, j3, j4, e1, e2, e3, e4⟩ := J.out
                      go_wp2_with fail
                      go_roundw
                      case rel => exact ⟨k + 1, 16 * m + d, by have := HK.out; omega, rfl, congrArg (Value.int .u64) (by omega), by go_num, by trivial, ⟨HBG.out, fun n hn h => (HNX.out n hn h).1⟩⟩
                      case measure => have := HK.out; simp [intOf]; omega
                    · have j1 : decide ((1152921504606846976 : Int) ≤ (m : Int)) = true := by simp; omega
                      have HNO := Lib.hid (show ∀ n, n < 18446744073709551616 → l = hexL 16 n → False from fun n hn h => hbig (HQ.out.2 n hn h ▸ div_smallF hn (len_lt16 h HK.out)))
                      have J := Lib.hid (And.intro j1 (And.intro j2 (And.intro e3 e4)))
                      clear c1 hL hlo hB hm hL256 h95 hL97 hL122 hd hd16 hbig j1 j2 e3 e4
                      go_wp2_with fail
                      refine (lowerV b.toNat L _ HLB.out).mono ?_
                      rintro e w1 ⟨rfl, rfl⟩
                      go_wp2_with fail
                      refine (lowerV b.toNat L _ HLB.out).mono ?_
                      rintro e w1 ⟨rfl, rfl⟩
                      go_wp2_with fail
                      refine (lowerV b.toNat L _ HLB.out).mono ?_
                      rintro e w1 ⟨rfl, rfl⟩
                      go_upto_region 46 with fail
                      clear f1 f2 f3 f4 k1 k2 k3 k4 z95
                      obtain ⟨j1, j2, e3, e4⟩ := J.out
                      go_wp2_with fail
                      go_ret2
                      exact ⟨18446744073709551615, _, rfl, .inr (.inl rfl), by decide, fun n hn h => (HNO.out n hn h).elim, HB.out⟩
      · obtain rfl : k = l.length := by omega
        have HF := Lib.hid (show m < 18446744073709551616 ∧ ∀ n, n < 18446744073709551616 → l = hexL 16 n → m = n ∧ Value.nilIface = Value.nilIface from ⟨by have := HQ.out.1; omega, fun n hn h => ⟨by
          have h1 := HQ.out.2 n hn h
          have h8 : l.length = 16 := by rw [h, hexL_len]
          rw [h8] at h1
          simpa using h1, rfl⟩⟩)
        have i0 : ¬ (l.length : Int) < (l.length : Int) := by omega
        clear hkl hk
        go_wp2_with fail
        go_ret2
        exact ⟨m, _, rfl, .inl rfl, HF.out.1, fun n hn h => ⟨(HF.out.2 n hn h).1, rfl⟩, HB.out⟩

end Go.Proofs.YtobkhoednecljaaDoor
