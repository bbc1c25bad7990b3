/- The reference's Canon. -/
import Derived.Test.YtpkpacgmmhjfpaaDoorNamB
namespace Go.Proofs.YtpkpacgmmhjfpaaDoor
open Go.RowKit

theorem sepC_cases (b : UInt8) : (sepC b = true ∧ (b.toNat = 9 ∨ b.toNat = 10 ∨ b.toNat = 13 ∨ b.toNat = 32)) ∨ (sepC b = false ∧ b.toNat ≠ 9 ∧ b.toNat ≠ 10 ∧ b.toNat ≠ 13 ∧ b.toNat ≠ 32) := by
  cases h : sepC b with
  | true => refine .inl ⟨rfl, ?_⟩; simp [sepC] at h; omega
  | false => refine .inr ⟨rfl, ?_⟩; simp [sepC] at h; omega
theorem extract_one {l : List UInt8} {k : Nat} (hk : k < l.length) : (ByteArray.mk l.toArray).extract k (k + 1) = ⟨[l[k]].toArray⟩ := by
  apply ByteArray.ext
  rw [ByteArray.data_extract]
  apply Array.toList_inj.1
  rw [Array.toList_extract]
  show (l.drop k).take (k + 1 - k) = [l[k]]
  rw [show k + 1 - k = 1 by omega, List.drop_eq_getElem_cons hk]
  rfl

set_option maxRecDepth 100000 in
set_option maxHeartbeats 4000000 in
theorem refCanon (l : List UInt8) (w : World) (hl : l.length ≤ 1000) :
    Calls Tryd.prog 13 #[.string ⟨l.toArray⟩] w (One (.string ⟨(canonN l).toArray⟩) w) := by
  have hsz := size_mk l
  go_enter Tryd.func13, Tryd.ntmps13
  go_wp2_with fail
  go_loopw [3, 4, 5] (fun s3 s4 s5 wr => ∃ (k : Nat) (s : ByteArray) (sp : Bool), k ≤ l.length ∧ s3 = .string s ∧ s4 = .bool sp ∧ s5 = .int .i64 k ∧ wr = w ∧ Hid (s = ⟨(canonS (l.take k)).1.toArray⟩ ∧ sp = (canonS (l.take k)).2)) (fun _ _ s5 _ => l.length - (intOf s5).toNat)
  case atStart => exact ⟨0, ⟨#[]⟩, false, by omega, rfl, rfl, rfl, rfl, rfl, rfl⟩
  case round =>
    obtain ⟨k, s, sp, hk, rfl, rfl, rfl, rfl, HQ⟩ := hrel
    by_cases hlt : k < l.length
    · have i0 : (k : Int) < (l.length : Int) := by omega
      obtain ⟨b, hb⟩ : ∃ b, l[k] = b := ⟨_, rfl⟩
      have hx := str_at hlt
      rw [hb] at hx
      have hx2 : l[k] = b := hb
      have h8 := toNat8 b
      have HT := Lib.hid (show canonS (l.take (k + 1)) = canonF (canonS (l.take k)) b from by rw [List.take_succ_eq_append_getElem hlt, canonS_snoc, hb])
      rcases sepC_cases b with ⟨hg, hc⟩ | ⟨hg, h9, h10, h13, h32⟩
      · have HS := Lib.hid (show s = ⟨(canonS (l.take (k + 1))).1.toArray⟩ ∧ true = (canonS (l.take (k + 1))).2 from by
          rw [HT.out]; unfold canonF; rw [if_pos hg]; exact ⟨HQ.out.1, rfl⟩)
        clear hg
        rcases hc with hc | hc | hc | hc
        all_goals
          go_wp2_with fail
          go_roundw
          case rel => exact ⟨k + 1, s, true, by omega, rfl, rfl, by go_num, by trivial, HS⟩
          case measure => simp [intOf]; omega
      · have k9 : ((b.toNat : Int) == 9) = false := eqF (by omega)
        have k10 : ((b.toNat : Int) == 10) = false := eqF (by omega)
        have k13 : ((b.toNat : Int) == 13) = false := eqF (by omega)
        have k32 : ((b.toNat : Int) == 32) = false := eqF (by omega)
        have ex := extract_one hlt
        rw [hb] at ex
        have hs1 : s.size ≤ 2000 := by
          have := canonS_len (l.take k)
          rw [HQ.out.1, size_mk]
          rw [List.length_take] at this
          omega
        have z1 : ¬ (9223372036854775807 < s.size + (ByteArray.mk [b].toArray).size) := by have : (ByteArray.mk [b].toArray).size = 1 := rfl; omega
        cases sp with
        | false =>
          have HS := Lib.hid (show s ++ ⟨[b].toArray⟩ = ⟨(canonS (l.take (k + 1))).1.toArray⟩ ∧ false = (canonS (l.take (k + 1))).2 from by
            rw [HT.out]; unfold canonF; rw [hg, ← HQ.out.2, HQ.out.1]
            refine ⟨?_, rfl⟩
            rw [app_mk]; simp)
          clear hg h9 h10 h13 h32
          go_wp2_with fail
          go_roundw
          case rel => exact ⟨k + 1, _, false, by omega, rfl, rfl, by go_num, by trivial, HS⟩
          case measure => simp [intOf]; omega
        | true =>
          by_cases he : (canonS (l.take k)).1 = []
          · have hn : (s.toList == []) = true := by rw [ByteArray.toList_eq, HQ.out.1, he]; rfl
            have HS := Lib.hid (show s ++ ⟨[b].toArray⟩ = ⟨(canonS (l.take (k + 1))).1.toArray⟩ ∧ false = (canonS (l.take (k + 1))).2 from by
              rw [HT.out]; unfold canonF; rw [hg, ← HQ.out.2, HQ.out.1, he]
              exact ⟨rfl, rfl⟩)
            clear hg h9 h10 h13 h32 he
            go_wp2_with fail
            go_roundw
            case rel => exact ⟨k + 1, _, false, by omega, rfl, rfl, by go_num, by trivial, HS⟩
            case measure => simp [intOf]; omega
          · have hn : (s.toList == []) = false := by rw [ByteArray.toList_eq, HQ.out.1, beq_eq_false_iff_ne]; exact he
            have z2 : ¬ (9223372036854775807 < s.size + (ByteArray.mk #[32]).size) := by have : (ByteArray.mk #[32]).size = 1 := rfl; omega
            have z3 : ¬ (9223372036854775807 < (s ++ ByteArray.mk #[32]).size + (ByteArray.mk [b].toArray).size) := by rw [ByteArray.size_append]; have : (ByteArray.mk #[32]).size = 1 := rfl; have : (ByteArray.mk [b].toArray).size = 1 := rfl; omega
            have HS := Lib.hid (show s ++ ⟨#[32]⟩ ++ ⟨[b].toArray⟩ = ⟨(canonS (l.take (k + 1))).1.toArray⟩ ∧ false = (canonS (l.take (k + 1))).2 from by
              rw [HT.out]; unfold canonF; rw [hg, ← HQ.out.2, HQ.out.1]
              refine ⟨?_, rfl⟩
              rw [show (ByteArray.mk #[32]) = ⟨[32].toArray⟩ from rfl, app_mk, app_mk]
              simp [he])
            clear hg h9 h10 h13 h32 he
            go_wp2_with fail
            go_roundw
            case rel => exact ⟨k + 1, _, false, by omega, rfl, rfl, by go_num, by trivial, HS⟩
            case measure => simp [intOf]; omega
    · obtain rfl : k = l.length := by omega
      have i0 : ¬ (l.length : Int) < (l.length : Int) := by omega
      rw [List.take_length] at HQ
      have HE := Lib.hid (show s = ⟨(canonN l).toArray⟩ from HQ.out.1)
      clear hlt hk
      go_wp2_with fail
      go_ret
      exact One.str _ HE.out

end Go.Proofs.YtpkpacgmmhjfpaaDoor
