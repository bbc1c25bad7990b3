/- Package names: keys, names of items, what is canonical. -/
import Derived.Test.YtfbkhgajlklleaaGreatNamL
import Derived.Test.YtfbkhgajlklleaaGreatNamB
import Derived.Test.YtfbkhgajlklleaaGreatShelfT
import Derived.Lib.SlBytesRow
namespace Go.Proofs.YtfbkhgajlklleaaGreat
open Go.RowKit

theorem below_drewN' {B : Nat} {a w : World} (h : Below B a w) (n : Nat) : Below B a (w.drewN n) := ⟨h.os, h.tape, h.output, h.size, h.block⟩

theorem printable (c : UInt8) (w : World) : Calls Tryz.prog 89 #[.int .u8 (c.toNat : Int)] w (One (.bool (printC c)) w) := by
  have h8 := toNat8 c
  have HN := Lib.hid (show printC c = (decide (32 ≤ c.toNat) && decide (c.toNat ≤ 126)) from rfl)
  generalize printC c = b at *
  by_cases h1 : 32 ≤ c.toNat
  · have k1 : (32 : Int) ≤ (c.toNat : Int) := by omega
    by_cases h2 : c.toNat ≤ 126
    · have k2 : (c.toNat : Int) ≤ 126 := by omega
      have HE := Lib.hid (show true = b from by rw [HN.out]; simp [h1, h2])
      clear h1 h2
      go_enter Tryz.func89, Tryz.ntmps89
      go_wp2_with fail
      go_ret
      exact One.bool _ HE.out
    · have k2 : ¬ (c.toNat : Int) ≤ 126 := by omega
      have HE := Lib.hid (show false = b from by rw [HN.out]; simp [h2])
      clear h1 h2
      go_enter Tryz.func89, Tryz.ntmps89
      go_wp2_with fail
      go_ret
      exact One.bool _ HE.out
  · have k1 : ¬ (32 : Int) ≤ (c.toNat : Int) := by omega
    have HE := Lib.hid (show false = b from by rw [HN.out]; simp [h1])
    clear h1
    go_enter Tryz.func89, Tryz.ntmps89
    go_wp2_with fail
    go_ret
    exact One.bool _ HE.out
theorem parts (r : Nat) (w : World) : Calls Tryz.prog 116 #[.int .i32 (r : Int)] w (One (.bool (sepR r)) w) := by
  by_cases c1 : r = 9 ∨ r = 10 ∨ r = 13 ∨ r = 32
  · have HN := Lib.hid (show true = sepR r from by rcases c1 with rfl | rfl | rfl | rfl <;> rfl)
    rcases c1 with hc | hc | hc | hc
    all_goals
      (first | have k5 : ((r : Int) == 9) = true := eqT (by omega)
             | have k5 : ((r : Int) == 9) = false := eqF (by omega))
      (first | have k6 : ((r : Int) == 10) = true := eqT (by omega)
             | have k6 : ((r : Int) == 10) = false := eqF (by omega))
      (first | have k7 : ((r : Int) == 13) = true := eqT (by omega)
             | have k7 : ((r : Int) == 13) = false := eqF (by omega))
      (first | have k8 : ((r : Int) == 32) = true := eqT (by omega)
             | have k8 : ((r : Int) == 32) = false := eqF (by omega))
      clear hc
      go_enter Tryz.func116, Tryz.ntmps116
      go_wp2_with fail
      go_ret
      exact One.bool _ HN.out
  · have HN := Lib.hid (show false = sepR r from by
      cases e : sepR r with
      | false => rfl
      | true => exact absurd (by simpa [sepR, or_assoc] using e) c1)
    have k5 : ((r : Int) == 9) = false := eqF (by omega)
    have k6 : ((r : Int) == 10) = false := eqF (by omega)
    have k7 : ((r : Int) == 13) = false := eqF (by omega)
    have k8 : ((r : Int) == 32) = false := eqF (by omega)
    clear c1
    go_enter Tryz.func116, Tryz.ntmps116
    go_wp2_with fail
    go_ret
    exact One.bool _ HN.out

/-- strings.Clone. -/
theorem strClone (l : List UInt8) (w : World) (hl : l.length ≤ 1000000) : Calls Tryz.prog 65 #[.string ⟨l.toArray⟩] w (OneB (.string ⟨l.toArray⟩) w) := by
  have hsz := size_mk l
  have H := Lib.hid (show Calls Tryz.prog 87 #[.string ⟨l.toArray⟩] w _ from Any.stringslite_Clone Tryz.laysClone ⟨l.toArray⟩ w (by omega))
  go_enter Tryz.func65, Tryz.ntmps65
  go_wp2_with fail
  refine H.out.mono ?_
  rintro e w1 ⟨rfl, hb⟩
  have HB := Lib.hid hb
  clear hb H
  go_wp2_with fail
  go_ret
  exact ⟨rfl, HB.out⟩

theorem canonN_len0 (l : List UInt8) : (canonN l).length ≤ 2 * l.length := canonS_len l
/-- What is canonical, by the library's FieldsFunc and Join. -/
theorem libFields (l : List UInt8) (w : World) (hl : l.length ≤ 1000000) :
    Calls Tryz.prog 115 #[.string ⟨l.toArray⟩, .func (.func 116) #[] #[]] w fun e w' => ∃ A, e = .returned (.slice (some ⟨A, 0, none⟩) (Lib.goFieldsP sepR ⟨l.toArray⟩).length (Lib.goFieldsP sepR ⟨l.toArray⟩).length) ∧
      w'.ownsRow w.heap.size 9 1 (.slice (some ⟨A, 0, none⟩) (Lib.goFieldsP sepR ⟨l.toArray⟩).length (Lib.goFieldsP sepR ⟨l.toArray⟩).length) (Lib.goFieldsP sepR ⟨l.toArray⟩).length ((Lib.goFieldsP sepR ⟨l.toArray⟩).map Value.string) ∧ Below w.heap.size w w' := by
  have hsz := size_mk l
  have eg : ∀ args w, (callFunc 116 args).run Tryz.prog w = .ok (.enter 116 args) w := enters_of Tryz.func116 (by kernel_rfl) rfl
  have hp : PredAtRunes Tryz.prog 116 #[] sepR w := fun W x _ _ => (parts x W).mono fun e w' ⟨he, hw⟩ => ⟨he, 0, hw.symm⟩
  exact (Any.strings_FieldsFunc_runes Tryz.laysFields 116 #[] eg sepR ⟨l.toArray⟩ w (by omega) hp (by kernel_rfl) (by kernel_rfl)).mono fun e w' ⟨A, h1, _, h3, h4⟩ => ⟨A, h1, h3, h4⟩
theorem spaced (l : List UInt8) (w : World) (hl : l.length ≤ 1000000) : Calls Tryz.prog 90 #[.string ⟨l.toArray⟩] w (OneB (.string ⟨(canonN l).toArray⟩) w) := by
  have H := Lib.hid (libFields l w hl)
  have HJ := Lib.hid (words_canon l)
  have HL := Lib.hid (words_len l)
  have HC := Lib.hid (canonN_len0 l)
  have HLL := Lib.hid hl
  generalize Lib.goFieldsP sepR ⟨l.toArray⟩ = xs at *
  clear hl
  go_enter Tryz.func90, Tryz.ntmps90
  go_wp2_with fail
  refine H.out.mono ?_
  rintro e w1 ⟨A, rfl, ho, hb⟩
  have HB := Lib.hid hb
  have hlt := (ho.lt A rfl).2
  have hcl : ∀ (j : Nat) (x : ByteArray), xs[j]? = some x → w1.cell? ⟨A, 0 + j, none⟩ = some (.string x) := fun j x hx => by
    have h := ho.cells (g := A) rfl j (.string x) (by rw [List.getElem?_map, hx]; rfl)
    rwa [Addr_add] at h
  have hJ0 := Any.strings_Join Tryz.laysJoin Tryz.joinExtra A 0 xs.length xs ⟨#[32]⟩ w1 hcl hlt (by have := HL.out; have := HLL.out; omega) (by omega) (by
    show (Lib.join (xs.map (·.data.toList)) [32]).length ≤ _
    rw [HJ.out]; have := HC.out; have := HLL.out; omega)
  have hJ1 : Calls Tryz.prog 114 #[.slice (some ⟨A, 0, none⟩) xs.length xs.length, .string ⟨#[32]⟩] w1 (OneB (.string ⟨(canonN l).toArray⟩) w1) := by
    have e : Lib.join (xs.map (·.data.toList)) (ByteArray.mk #[32]).data.toList = canonN l := HJ.out
    rw [e] at hJ0
    exact hJ0
  have HJ1 := Lib.hid hJ1
  clear hJ0 hJ1 hcl hlt ho hb H HJ
  generalize canonN l = y at *
  go_wp2_with fail
  refine HJ1.out.mono ?_
  rintro e w2 ⟨rfl, hb⟩
  have HB2 := Lib.hid (below_trans HB.out hb)
  clear hb
  go_wp2_with fail
  go_ret
  exact ⟨rfl, HB2.out⟩

theorem kindItem (c : UInt8) (g : Nat) (w : World) (hc : w.cell? ⟨g, 0, none⟩ = some (.func (.func 89) #[] #[])) :
    Calls Tryz.prog 113 #[.int .u8 (c.toNat : Int), .pointer (some ⟨g, 0, none⟩)] w (One (.bool (!printC c)) w) := by
  have H := Lib.hid (printable c w)
  generalize printC c = b at *
  go_enter Tryz.func113, Tryz.ntmps113
  go_wp2_with fail
  refine H.out.mono ?_
  rintro e w1 ⟨rfl, rfl⟩
  go_wp2_with fail
  go_ret
  exact ⟨rfl, rfl⟩
theorem containsItem (l : List UInt8) (A : Option Addr) (cap g : Nat) (w : World) (hl : 0 < l.length) (hm : l.length ≤ 1000000) (hat : BytesAt w A l) (hc : w.cell? ⟨g, 0, none⟩ = some (.func (.func 89) #[] #[])) :
    Calls Tryz.prog 112 #[.slice A l.length cap, .func (.func 113) #[] #[.pointer (some ⟨g, 0, none⟩)]] w (OneB (.bool (!(l.all printC))) w) := by
  obtain ⟨b, off, rfl, hb, hcl⟩ := hat hl
  have eg : ∀ args w, (callFunc 113 args).run Tryz.prog w = .ok (.enter 113 args) w := enters_of Tryz.func113 (by kernel_rfl) rfl
  have hg := World.block_lt_of_cell? w _ hc
  have hp : PredAt Tryz.prog 113 #[.pointer (some ⟨g, 0, none⟩)] (fun c : UInt8 => Value.int .u8 (c.toNat : Int)) (fun c : UInt8 => !printC c) w := fun W x hW =>
    (kindItem x g W ((hW.cell (p := ⟨g, 0, none⟩) hg).trans hc)).mono fun e w' ⟨he, hw⟩ => ⟨he, 0, hw.symm⟩
  have h := AnyE.slices_ContainsFunc (α := UInt8) Tryz.laysContains (fun c : UInt8 => Value.int .u8 (c.toNat : Int)) (fun c : UInt8 => !printC c) 113 #[.pointer (some ⟨g, 0, none⟩)] eg b off l.length cap l w hp (Nat.le_refl _) (by omega)
    (fun j hj => by
      have := hcl j l[j] (List.getElem?_eq_getElem hj) 0 _ rfl
      rw [getElem!_pos l j hj]
      simpa using this)
  rw [List.take_length] at h
  have e : (l.any fun c : UInt8 => !printC c) = !(l.all printC) := by rw [Bool.eq_iff_iff]; simp
  rw [e] at h
  exact h.mono fun e w' ⟨he, q, hw⟩ => ⟨he, hw ▸ below_drewN' (Below.refl _ _) q⟩
theorem consistsItem (l : List UInt8) (w : World) (hl : l.length ≤ 1000000) :
    Calls Tryz.prog 88 #[.string ⟨l.toArray⟩, .int .i64 64, .func (.func 89) #[] #[]] w (OneB (.bool ((decide (1 ≤ l.length) && decide (l.length ≤ 64)) && l.all printC)) w) := by
  have hsz := size_mk l
  have hb0 := Lib.hid ((Below.refl w.heap.size w).alloc (Nat.le_refl _) (.cells #[.func (.func 89) #[] #[]] 103))
  by_cases h1 : 1 ≤ l.length
  · have k1 : (1 : Int) ≤ (l.length : Int) := by omega
    by_cases h2 : l.length ≤ 64
    · have k2 : (l.length : Int) ≤ 64 := by omega
      have q1 := fun (w : World) => Lib.run_convert_string_bytes (P := Tryz.prog) w 9 117 5 ⟨l.toArray⟩ Tryz.underlying9 Tryz.underlying117 Tryz.underlying5
      have hs1 : (w.alloc (.cells #[.func (.func 89) #[] #[]] 103)).heap.size = w.heap.size + 1 := by simp
      have hbw := bytesWorld_below (w.alloc (.cells #[.func (.func 89) #[] #[]] 103)) ⟨l.toArray⟩
      have hat := bytesWorld_at (w.alloc (.cells #[.func (.func 89) #[] #[]] 103)) ⟨l.toArray⟩
      rw [hs1] at hat
      have hcb : (w.alloc (.cells #[.func (.func 89) #[] #[]] 103)).cell? ⟨w.heap.size, 0, none⟩ = some (.func (.func 89) #[] #[]) := by rw [cell_of_row _ w.heap.size _ _ _ (0, 0) (heap_alloc_new w _)]; rfl
      have HC := Lib.hid (fun (cap : Nat) => containsItem l (some ⟨w.heap.size + 1, 0, none⟩) cap w.heap.size _ (by omega) hl hat ((hbw.cell (World.block_lt_of_cell? _ _ hcb)).trans hcb))
      have HBW := Lib.hid (below_trans hb0.out hbw)
      clear hs1 hbw hat hcb
      have HE := Lib.hid (show l.all (printC) = ((decide (1 ≤ l.length) && decide (l.length ≤ 64)) && l.all printC) from by simp [h1, h2])
      generalize hX : ((decide (1 ≤ l.length) && decide (l.length ≤ 64)) && l.all printC) = X at *
      generalize l.all (printC) = Y at *
      clear hX h1 h2
      go_enter Tryz.func88, Tryz.ntmps88
      go_wp2_with fail
      refine (HC.out _).mono ?_
      rintro e w1 ⟨rfl, hb⟩
      have HB := Lib.hid (below_trans HBW.out hb)
      clear hb
      go_wp2_with fail
      go_ret
      exact OneB.bool (by rw [← HE.out]) HB.out
    · have k2 : ¬ (l.length : Int) ≤ 64 := by omega
      have HE := Lib.hid (show false = ((decide (1 ≤ l.length) && decide (l.length ≤ 64)) && l.all printC) from by simp [h2])
      clear h1 h2
      go_enter Tryz.func88, Tryz.ntmps88
      go_wp2_with fail
      go_ret
      exact OneB.bool HE.out hb0.out
  · have k1 : ¬ (1 : Int) ≤ (l.length : Int) := by omega
    have HE := Lib.hid (show false = ((decide (1 ≤ l.length) && decide (l.length ≤ 64)) && l.all printC) from by simp [h1])
    clear h1
    go_enter Tryz.func88, Tryz.ntmps88
    go_wp2_with fail
    go_ret
    exact OneB.bool HE.out hb0.out

theorem nmItem (l : List UInt8) (w : World) (hl : l.length ≤ 500000) : Calls Tryz.prog 66 #[.string ⟨l.toArray⟩] w (OneB (.bool (itemN l)) w) := by
  have H := Lib.hid (consistsItem l w (by omega))
  have HS := Lib.hid (fun W => spaced l W (by omega))
  have HI := Lib.hid (itemN_canon l)
  generalize ((decide (1 ≤ l.length) && decide (l.length ≤ 64)) && l.all printC) = b at *
  generalize itemN l = d at *
  go_enter Tryz.func66, Tryz.ntmps66
  go_wp2_with fail
  refine H.out.mono ?_
  rintro e w1 ⟨rfl, hb⟩
  have HB := Lib.hid hb
  clear hb
  cases b with
  | false =>
    go_wp2_with fail
    go_ret
    exact OneB.bool (by rw [HI.out]; rfl) HB.out
  | true =>
    generalize canonN l = y at *
    go_wp2_with fail
    refine (HS.out _).mono ?_
    rintro e w2 ⟨rfl, hb⟩
    have HB2 := Lib.hid (below_trans HB.out hb)
    clear hb
    go_wp2_with fail
    go_ret
    exact OneB.bool (by rw [HI.out]; simp) HB2.out

end Go.Proofs.YtfbkhgajlklleaaGreat
