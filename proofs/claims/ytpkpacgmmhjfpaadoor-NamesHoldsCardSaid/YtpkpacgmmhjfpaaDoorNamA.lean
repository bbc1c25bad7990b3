/- The reference's Key, Item, Canon. -/
import Derived.Test.YtpkpacgmmhjfpaaDoorGenS
import Derived.Test.YtpkpacgmmhjfpaaDoorNamK
namespace Go.Proofs.YtpkpacgmmhjfpaaDoor
open Go.RowKit

theorem keyC_cases {y : Nat} : (keyC y = true ∧ (y = 45 ∨ y = 46 ∨ y = 47 ∨ y = 95 ∨ (48 ≤ y ∧ y ≤ 57) ∨ (97 ≤ y ∧ y ≤ 122))) ∨ (keyC y = false ∧ (y < 45 ∨ (57 < y ∧ y < 95) ∨ y = 96 ∨ 122 < y)) := by
  cases h : keyC y with
  | true =>
    refine .inl ⟨rfl, ?_⟩
    simp [keyC] at h
    omega
  | false =>
    refine .inr ⟨rfl, ?_⟩
    simp [keyC] at h
    omega

set_option maxRecDepth 100000 in
set_option maxHeartbeats 4000000 in
theorem refKey (l : List UInt8) (w : World) (hl : l.length ≤ 1000) :
    Calls Tryd.prog 10 #[.string ⟨l.toArray⟩] w (One (.bool (keyN l)) w) := by
  have hsz := size_mk l
  go_enter Tryd.func10, Tryd.ntmps10
  go_wp2_with fail
  go_loopw [3] (fun a wr => ∃ (k : Nat), k ≤ l.length ∧ a = .int .i64 k ∧ wr = w ∧ Hid (∀ c ∈ l.take k, keyC c.toNat = true)) (fun a _ => l.length - (intOf a).toNat)
  case atStart => exact ⟨0, by omega, rfl, rfl, show Hid (∀ c ∈ l.take 0, keyC c.toNat = true) from fun c hc => by simp at hc⟩
  case round =>
    obtain ⟨k, hk, rfl, rfl, HQ⟩ := hrel
    by_cases hlt : k < l.length
    · have i0 : (k : Int) < (l.length : Int) := by omega
      obtain ⟨b, hb⟩ : ∃ b, l[k] = b := ⟨_, rfl⟩
      have hx : ∀ h : k < (ByteArray.mk l.toArray).size, (ByteArray.mk l.toArray)[k]'h = b := fun h => by rw [← hb]; rfl
      have hx2 : l[k] = b := hb
      have h8 := toNat8 b
      rcases keyC_cases (y := b.toNat) with ⟨hg, hc⟩ | ⟨hg, hc⟩
      · have HS := Lib.hid (show ∀ c ∈ l.take (k + 1), keyC c.toNat = true from fun c hc => by
          rw [List.take_succ_eq_append_getElem hlt, hb] at hc
          rcases List.mem_append.1 hc with h | h
          · exact HQ.out c h
          · rw [List.mem_singleton.1 h]; exact hg)
        clear hg
        rcases hc with hc | hc | hc | hc | hc | hc
        all_goals
          (first | have k1 : (97 : Int) ≤ (b.toNat : Int) := by omega
                 | have k1 : ¬ (97 : Int) ≤ (b.toNat : Int) := by omega)
          (first | have k2 : (b.toNat : Int) ≤ 122 := by omega
                 | have k2 : ¬ (b.toNat : Int) ≤ 122 := by omega)
          (first | have k3 : (48 : Int) ≤ (b.toNat : Int) := by omega
                 | have k3 : ¬ (48 : Int) ≤ (b.toNat : Int) := by omega)
          (first | have k4 : (b.toNat : Int) ≤ 57 := by omega
                 | have k4 : ¬ (b.toNat : Int) ≤ 57 := by omega)
          go_wp2_with fail
          go_roundw
          case rel => exact ⟨k + 1, by omega, by go_num, by trivial, HS⟩
          case measure => simp [intOf]; omega
      · have HS := Lib.hid (show false = keyN l from by
          have : (l.all fun c => keyC c.toNat) = false := by
            rw [List.all_eq_false]
            exact ⟨b, hb ▸ List.getElem_mem hlt, by simp [hg]⟩
          unfold keyN
          rw [this, Bool.and_false])
        clear hg
        rcases hc with hc | hc | hc | hc
        all_goals
          (first | have k1 : (97 : Int) ≤ (b.toNat : Int) := by omega
                 | have k1 : ¬ (97 : Int) ≤ (b.toNat : Int) := by omega)
          (first | have k2 : (b.toNat : Int) ≤ 122 := by omega
                 | have k2 : ¬ (b.toNat : Int) ≤ 122 := by omega)
          (first | have k3 : (48 : Int) ≤ (b.toNat : Int) := by omega
                 | have k3 : ¬ (48 : Int) ≤ (b.toNat : Int) := by omega)
          (first | have k4 : (b.toNat : Int) ≤ 57 := by omega
                 | have k4 : ¬ (b.toNat : Int) ≤ 57 := by omega)
          have k5 : ((b.toNat : Int) != 45) = true := by simp; omega
          have k6 : ((b.toNat : Int) != 95) = true := by simp; omega
          have k7 : ((b.toNat : Int) != 46) = true := by simp; omega
          have k8 : ((b.toNat : Int) != 47) = true := by simp; omega
          go_wp2_with fail
          go_ret
          exact One.bool _ HS.out
    · obtain rfl : k = l.length := by omega
      rw [List.take_length] at HQ
      have i0 : ¬ (l.length : Int) < (l.length : Int) := by omega
      have hall : (l.all fun c => keyC c.toNat) = true := by rw [List.all_eq_true]; exact HQ.out
      have HS := Lib.hid (show (decide (0 < l.length) && decide (l.length ≤ 64)) = keyN l from by unfold keyN; rw [hall, Bool.and_true])
      clear hall
      by_cases hp : 0 < l.length
      · have i1 : (0 : Int) < (l.length : Int) := by omega
        have HE := Lib.hid (show decide ((l.length : Int) ≤ 64) = keyN l from by rw [← HS.out]; simp [hp]; omega)
        clear hlt hk hp
        go_wp2_with fail
        go_ret
        exact One.bool _ HE.out
      · have i1 : ¬ (0 : Int) < (l.length : Int) := by omega
        have HE := Lib.hid (show false = keyN l from by rw [← HS.out]; simp [hp])
        clear hlt hk hp
        go_wp2_with fail
        go_ret
        exact One.bool _ HE.out

end Go.Proofs.YtpkpacgmmhjfpaaDoor
