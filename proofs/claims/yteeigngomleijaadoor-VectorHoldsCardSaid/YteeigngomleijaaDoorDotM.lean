/- Package dot: numbers in texts, Parse. -/
import Derived.Test.YteeigngomleijaaDoorDotL
import Derived.Laws.IdiomStrings
namespace Go.Proofs.YteeigngomleijaaDoor
open Go.RowKit

/-- The number behind n with more digits. -/
def numGo (most : Int) : List UInt8 → Int → Option Int
  | [], n => some n
  | c :: r, n => if (c.toNat : Int) < 48 ∨ 57 < (c.toNat : Int) then none else if most < 10 * n + ((c.toNat : Int) - 48) then none else numGo most r (10 * n + ((c.toNat : Int) - 48))
/-- The number with a text. -/
def numL (most : Int) : List UInt8 → Option Int
  | [] => none
  | c :: r => if c = 48 then none else numGo most (c :: r) 0

theorem ret_num {a b : Option Int} (h : a = b) : Ending.returned (.tuple #[.int .i64 (a.getD 0), .bool a.isSome]) = .returned (.tuple #[.int .i64 (b.getD 0), .bool b.isSome]) := by rw [h]

set_option maxHeartbeats 1000000 in
theorem dotNumber (s : ByteArray) (most : Int) (w : World) (h0 : 0 ≤ most) (h1 : most ≤ 4294967296) (hm : s.size ≤ 1000000) :
    Calls Tryd.prog 68 #[.string s, .int .i64 most] w fun e w' => e = .returned (.tuple #[.int .i64 ((numL most s.data.toList).getD 0), .bool (numL most s.data.toList).isSome]) ∧ Below w.heap.size w w' := by
  have hconv := fun W => run_bytes_of_string (P := Tryd.prog) W 9 105 5 s Tryd.underlying9 Tryd.underlying105 Tryd.underlying5
  by_cases hz : s.size = 0
  · have hs : s.toList = [] := by
      rw [ByteArray.toList_eq]
      exact List.eq_nil_of_length_eq_zero (by simpa using hz)
    have hv : numL most s.data.toList = none := by
      rw [← ByteArray.toList_eq, hs]; rfl
    rw [hv]
    clear hv hconv
    go_enter Tryd.func68, Tryd.ntmps68
    go_wp2
    go_ret2
    exact ⟨rfl, Below.refl _ _⟩
  · have hp : 0 < s.size := by omega
    obtain ⟨c0, r0, hl⟩ : ∃ c r, s.data.toList = c :: r := by
      cases h : s.data.toList with
      | nil =>
        have := congrArg List.length h
        rw [Array.length_toList] at this
        exact absurd (show s.size = 0 from this) hz
      | cons c r => exact ⟨c, r, rfl⟩
    have hs : ¬ s.toList = [] := by rw [ByteArray.toList_eq, hl]; simp
    have hs' : s.toList.isEmpty = false := by rw [ByteArray.toList_eq, hl]; rfl
    have hc0 : s[0]'hp = c0 := by
      have : s.data.toList[0]? = some c0 := by rw [hl]; rfl
      rw [Array.getElem?_toList] at this
      obtain ⟨_, h⟩ := Array.getElem?_eq_some_iff.1 this
      exact h
    by_cases h48 : c0 = 48
    · have hd : (((s[0]'hp).toNat : Int) == 48) = true := by rw [hc0, h48]; rfl
      have hv : numL most s.data.toList = none := by rw [hl, numL, if_pos h48]
      rw [hv]
      clear hv hconv hc0 h48 hl
      go_enter Tryd.func68, Tryd.ntmps68
      go_wp2
      go_ret2
      exact ⟨rfl, Below.refl _ _⟩
    · have hd : (((s[0]'hp).toNat : Int) == 48) = false := by
        rw [hc0, beq_eq_false_iff_ne]
        intro h
        exact h48 (by apply UInt8.toNat_inj.1; have : c0.toNat = 48 := by omega
                      simpa using this)
      have hv : numL most s.data.toList = numGo most s.data.toList 0 := by rw [hl, numL, if_neg h48]
      rw [hv]
      have hlen : s.data.toList.length = s.size := by simp
      generalize hL : s.data.toList = L at *
      have HL := Lib.hid hL
      have HLEN := Lib.hid hlen
      clear hv hc0 h48 hl hL hlen
      go_enter Tryd.func68, Tryd.ntmps68
      go_wp2
      go_loopw [6, 8, 19] (fun n _ i wr => ∃ (k : Nat) (nv : Int), k ≤ s.size ∧ i = .int .i64 k ∧ n = .int .i64 nv ∧ 0 ≤ nv ∧ nv ≤ most ∧ Hid (numGo most (L.drop k) nv = numGo most L 0) ∧ Below w.heap.size w wr ∧ Hid (∀ k c, L[k]? = some c → wr.cell? ⟨w.heap.size, k, none⟩ = some (.int .u8 c.toNat))) (fun _ _ i _ => s.size - (intOf i).toNat)
      case atStart =>
        refine ⟨0, 0, by omega, rfl, rfl, by omega, by omega, rfl, ?_, ?_⟩
        · exact ((Below.refl _ w).alloc (Nat.le_refl _) _).drew
        · intro k c hc
          show (w.alloc _).cell? _ = _
          rw [cell_of_row _ _ _ _ _ _ (heap_alloc_new w _)]
          have hk : s.data[k]? = some c := by
            rw [← Array.getElem?_toList, HL.out]; exact hc
          obtain ⟨hk1, hk2⟩ := Array.getElem?_eq_some_iff.1 hk
          rw [bytesRow, Array.getElem?_append_left (by simpa using hk1), Array.getElem?_map, hk]
          rfl
      case round =>
        obtain ⟨k, nv, hk, rfl, rfl, hn0, hn1, hgo, hb, hcell⟩ := hrel
        by_cases hlt : k < s.size
        · obtain ⟨c, hc⟩ : ∃ c, L[k]? = some c := ⟨_, List.getElem?_eq_getElem (by rw [HLEN.out]; exact hlt)⟩
          have l0 := hcell.out k c hc
          have hg := hgo.out
          rw [List.drop_eq_getElem_cons (by rw [HLEN.out]; exact hlt)] at hg
          have hck : L[k]'(by rw [HLEN.out]; exact hlt) = c := by
            rw [List.getElem?_eq_getElem (by rw [HLEN.out]; exact hlt)] at hc; injection hc
          rw [hck, numGo] at hg
          have h255 : (c.toNat : Int) ≤ 255 := by have := c.toNat_lt; omega
          have h00 : (0 : Int) ≤ (c.toNat : Int) := by omega
          clear hck hc
          by_cases hbad : (c.toNat : Int) < 48
          · rw [if_pos (.inl hbad)] at hg
            have HG := Lib.hid hg; clear hg
            go_wp2
            go_ret2
            exact ⟨by rw [← HG.out]; rfl, hb⟩
          · by_cases hbad2 : 57 < (c.toNat : Int)
            · rw [if_pos (.inr hbad2)] at hg
              have HG := Lib.hid hg; clear hg
              go_wp2
              go_ret2
              exact ⟨by rw [← HG.out]; rfl, hb⟩
            · rw [if_neg (by omega)] at hg
              by_cases hbig : most < 10 * nv + ((c.toNat : Int) - 48)
              · rw [if_pos hbig] at hg
                have HG := Lib.hid hg; clear hg
                go_wp2
                go_ret2
                exact ⟨by rw [← HG.out]; rfl, hb⟩
              · rw [if_neg hbig] at hg
                have HG := Lib.hid hg; clear hg
                go_wp2
                go_roundw
                case rel => exact ⟨k + 1, _, by omega, by go_num, rfl, by omega, by omega, HG, hb, hcell⟩
                case measure => simp [intOf]; omega
        · have hg := hgo.out
          rw [List.drop_eq_nil_of_le (by rw [HLEN.out]; omega), numGo] at hg
          have HG := Lib.hid hg; clear hg
          go_wp2
          go_ret2
          exact ⟨by rw [← HG.out]; rfl, hb⟩

end Go.Proofs.YteeigngomleijaaDoor
