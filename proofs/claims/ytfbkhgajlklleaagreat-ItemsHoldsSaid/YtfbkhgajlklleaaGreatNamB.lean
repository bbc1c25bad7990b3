/- The reference's Item. -/
import Derived.Test.YtfbkhgajlklleaaGreatNamA
namespace Go.Proofs.YtfbkhgajlklleaaGreat
open Go.RowKit

/-- What is known of the first k bytes of a name. -/
def ItemTo (l : List UInt8) (k : Nat) : Prop := (∀ c ∈ l.take k, 32 ≤ c.toNat ∧ c.toNat ≤ 126) ∧ ∀ i : Nat, i + 1 < k → l[i]? = some 32 → l[i + 1]? ≠ some 32
theorem ItemTo.next {l : List UInt8} {k : Nat} {b : UInt8} (h : ItemTo l k) (hk : l[k]? = some b) (hb : 32 ≤ b.toNat ∧ b.toNat ≤ 126) (h2 : ∀ m, k = m + 1 → l[m]? = some 32 → b.toNat ≠ 32) : ItemTo l (k + 1) := by
  obtain ⟨hlt, he⟩ := List.getElem?_eq_some_iff.1 hk
  refine ⟨fun c hc => ?_, fun i hi h32 e => ?_⟩
  · rw [List.take_succ_eq_append_getElem hlt] at hc
    rcases List.mem_append.1 hc with h' | h'
    · exact h.1 c h'
    · rw [List.mem_singleton.1 h', he]; exact hb
  · by_cases hik : i + 1 < k
    · exact h.2 i hik h32 e
    · have : k = i + 1 := by omega
      subst this
      have e2 : b = 32 := Option.some.inj (hk.symm.trans e)
      exact h2 i rfl h32 (by rw [e2]; rfl)
theorem ItemTo.bad {l : List UInt8} {b : UInt8} {k : Nat} (hk : l[k]? = some b) (hb : ¬ (32 ≤ b.toNat ∧ b.toNat ≤ 126)) : itemN l = false :=
  itemN_no fun h => hb (h.bytes b (List.mem_of_getElem? hk))

set_option maxRecDepth 100000 in
set_option maxHeartbeats 4000000 in
theorem refItem (l : List UInt8) (w : World) (hl : l.length ≤ 1000) :
    Calls Tryz.prog 52 #[.string ⟨l.toArray⟩] w (One (.bool (itemN l)) w) := by
  have hsz := size_mk l
  by_cases h0 : l.length = 0
  · have i0 : ((l.length : Int) == 0) = true := eqT (by omega)
    have HN := Lib.hid (show false = itemN l from (itemN_no fun h => by have := h.pos; omega).symm)
    clear h0
    go_enter Tryz.func52, Tryz.ntmps52
    go_wp2_with fail
    go_ret
    exact One.bool _ HN.out
  have i0 : ((l.length : Int) == 0) = false := eqF (by omega)
  by_cases h64 : 64 < l.length
  · have i1 : (64 : Int) < (l.length : Int) := by omega
    have HN := Lib.hid (show false = itemN l from (itemN_no fun h => by have := h.short; omega).symm)
    clear h0 h64
    go_enter Tryz.func52, Tryz.ntmps52
    go_wp2_with fail
    go_ret
    exact One.bool _ HN.out
  have i1 : ¬ (64 : Int) < (l.length : Int) := by omega
  obtain ⟨n, hn⟩ : ∃ n, l.length = n + 1 := ⟨l.length - 1, by omega⟩
  have em : (l.length : Int) - 1 = (n : Int) := by omega
  have p0 : 0 < l.length := by omega
  have pn : n < l.length := by omega
  have in0 : (0 : Int) < (l.length : Int) := by omega
  have in1 : (n : Int) < (l.length : Int) := by omega
  obtain ⟨b0, hb0⟩ : ∃ b, l[0] = b := ⟨_, rfl⟩
  obtain ⟨bn, hbn⟩ : ∃ b, l[n] = b := ⟨_, rfl⟩
  have hx0 := str_at p0
  have hxn := str_at pn
  rw [hb0] at hx0
  rw [hbn] at hxn
  have g0 : l[0]? = some b0 := by rw [← hb0]; exact List.getElem?_eq_getElem p0
  have gn : l[l.length - 1]? = some bn := by rw [hn, Nat.add_sub_cancel, ← hbn]; exact List.getElem?_eq_getElem pn
  by_cases c0 : b0.toNat = 32
  · have k0 : ((b0.toNat : Int) == 32) = true := eqT (by omega)
    have HN := Lib.hid (show false = itemN l from (itemN_no fun h => h.first (by rw [g0, eq32 c0])).symm)
    clear c0 g0 gn h0 h64 hn
    go_enter Tryz.func52, Tryz.ntmps52
    go_wp2_with fail
    go_ret
    exact One.bool _ HN.out
  have k0 : ((b0.toNat : Int) == 32) = false := eqF (by omega)
  by_cases cn : bn.toNat = 32
  · have kn : ((bn.toNat : Int) == 32) = true := eqT (by omega)
    have HN := Lib.hid (show false = itemN l from (itemN_no fun h => h.last (by rw [gn, eq32 cn])).symm)
    clear c0 cn g0 gn h0 h64 hn
    go_enter Tryz.func52, Tryz.ntmps52
    go_wp2_with fail
    go_ret
    exact One.bool _ HN.out
  have kn : ((bn.toNat : Int) == 32) = false := eqF (by omega)
  have HT := Lib.hid (show ItemTo l l.length → true = itemN l from fun h => ((itemN_iff l).2 ⟨by omega, by omega, fun e => c0 (by rw [g0] at e; cases e; rfl), fun e => cn (by rw [gn] at e; cases e; rfl), by have := h.1; rwa [List.take_length] at this, fun i hi => by
    by_cases hlt : i + 1 < l.length
    · exact h.2 i hlt hi
    · rw [List.getElem?_eq_none (by omega)]; simp⟩).symm)
  clear c0 cn g0 gn h0 h64 hn
  go_enter Tryz.func52, Tryz.ntmps52
  go_wp2_with fail
  clear em in0 in1 hb0 hbn hx0 hxn k0 kn i0 i1 pn
  go_loopw [3] (fun a wr => ∃ (k : Nat), k ≤ l.length ∧ a = .int .i64 k ∧ wr = w ∧ Hid (ItemTo l k)) (fun a _ => l.length - (intOf a).toNat)
  case atStart => exact ⟨0, by omega, rfl, rfl, show Hid (ItemTo l 0) from ⟨fun c hc => by simp at hc, fun i hi => by omega⟩⟩
  case round =>
    obtain ⟨k, hk, rfl, rfl, HQ⟩ := hrel
    by_cases hlt : k < l.length
    · have i0 : (k : Int) < (l.length : Int) := by omega
      obtain ⟨b, hb⟩ : ∃ b, l[k] = b := ⟨_, rfl⟩
      have hx := str_at hlt
      rw [hb] at hx
      have hx2 : l[k] = b := hb
      have G := Lib.hid (show l[k]? = some b from by rw [← hb]; exact List.getElem?_eq_getElem hlt)
      have h8 := toNat8 b
      by_cases ha : b.toNat < 32
      · have k1 : (b.toNat : Int) < 32 := by omega
        have HN := Lib.hid (show false = itemN l from (ItemTo.bad G.out (by omega)).symm)
        go_wp2_with fail
        go_ret
        exact One.bool _ HN.out
      have k1 : ¬ (b.toNat : Int) < 32 := by omega
      by_cases hz : 126 < b.toNat
      · have k2 : (126 : Int) < (b.toNat : Int) := by omega
        have HN := Lib.hid (show false = itemN l from (ItemTo.bad G.out (by omega)).symm)
        go_wp2_with fail
        go_ret
        exact One.bool _ HN.out
      have k2 : ¬ (126 : Int) < (b.toNat : Int) := by omega
      have HR := Lib.hid (show 32 ≤ b.toNat ∧ b.toNat ≤ 126 from by omega)
      by_cases hk0 : k = 0
      · subst hk0
        have HS := Lib.hid (HQ.out.next G.out HR.out fun m e => by omega)
        go_wp2_with fail
        go_roundw
        case rel => exact ⟨1, by omega, by go_num, by trivial, HS⟩
        case measure => simp [intOf]; omega
      have k3 : (0 : Int) < (k : Int) := by omega
      by_cases h32 : b.toNat = 32
      · have k4 : ((b.toNat : Int) == 32) = true := eqT (by omega)
        obtain ⟨m, hm⟩ : ∃ m, k = m + 1 := ⟨k - 1, by omega⟩
        have hml : m < l.length := by omega
        have em : (k : Int) - 1 = (m : Int) := by omega
        have i2 : (m : Int) < (l.length : Int) := by omega
        obtain ⟨p, hp⟩ : ∃ b, l[m] = b := ⟨_, rfl⟩
        have hxm := str_at hml
        rw [hp] at hxm
        have Gm := Lib.hid (show l[m]? = some p from by rw [← hp]; exact List.getElem?_eq_getElem hml)
        by_cases hp32 : p.toNat = 32
        · have k5 : ((p.toNat : Int) == 32) = true := eqT (by omega)
          have HN := Lib.hid (show false = itemN l from (itemN_no fun h => h.single m (by rw [Gm.out, eq32 hp32]) (by rw [← hm, G.out, eq32 h32])).symm)
          clear hm hk0 hp32 h32
          go_wp2_with fail
          go_ret
          exact One.bool _ HN.out
        · have k5 : ((p.toNat : Int) == 32) = false := eqF (by omega)
          have HS := Lib.hid (HQ.out.next G.out HR.out fun m' e h' => by
            have : m' = m := by omega
            subst this
            rw [Gm.out] at h'
            cases h'
            exact absurd rfl hp32)
          clear hm hk0 hp32 h32
          go_wp2_with fail
          go_roundw
          case rel => exact ⟨k + 1, by omega, by go_num, by trivial, HS⟩
          case measure => simp [intOf]; omega
      · have k4 : ((b.toNat : Int) == 32) = false := eqF (by omega)
        have HS := Lib.hid (HQ.out.next G.out HR.out fun m e _ => h32)
        clear hk0 h32
        go_wp2_with fail
        go_roundw
        case rel => exact ⟨k + 1, by omega, by go_num, by trivial, HS⟩
        case measure => simp [intOf]; omega
    · obtain rfl : k = l.length := by omega
      have i0 : ¬ (l.length : Int) < (l.length : Int) := by omega
      have HE := Lib.hid (HT.out HQ.out)
      clear hlt hk
      go_wp2_with fail
      go_ret
      exact One.bool _ HE.out

end Go.Proofs.YtfbkhgajlklleaaGreat
