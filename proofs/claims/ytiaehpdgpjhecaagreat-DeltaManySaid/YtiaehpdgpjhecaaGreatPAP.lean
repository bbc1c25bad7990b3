/- Several texts in one: NamP1, ItmL, DotQ, ItmM. -/
import Derived.Test.YtiaehpdgpjhecaaGreatPAO
import Derived.Test.YtiaehpdgpjhecaaGreatPAG
import Derived.Test.YtiaehpdgpjhecaaGreatShelfT
import Derived.Lib.SlBytesRow
import Derived.Test.YtiaehpdgpjhecaaGreatPAN
import Derived.Test.YtiaehpdgpjhecaaGreatPAJ
import Derived.Test.YtiaehpdgpjhecaaGreatShelf
namespace Go.Proofs.YtiaehpdgpjhecaaGreat

section
open Go.RowKit

theorem below_drewN' {B : Nat} {a w : World} (h : Below B a w) (n : Nat) : Below B a (w.drewN n) := ⟨h.os, h.tape, h.output, h.size, h.block⟩

theorem printable (c : UInt8) (w : World) : Calls Tryz.prog 117 #[.int .u8 (c.toNat : Int)] w (One (.bool (printC c)) w) := by
  have h8 := toNat8 c
  have HN := Lib.hid (show printC c = (decide (32 ≤ c.toNat) && decide (c.toNat ≤ 126)) from rfl)
  generalize printC c = b at *
  by_cases h1 : 32 ≤ c.toNat
  · have k1 : (32 : Int) ≤ (c.toNat : Int) := by omega
    by_cases h2 : c.toNat ≤ 126
    · have k2 : (c.toNat : Int) ≤ 126 := by omega
      have HE := Lib.hid (show true = b from by rw [HN.out]; simp [h1, h2])
      clear h1 h2
      go_enter Tryz.func117, Tryz.ntmps117
      go_wp2_with fail
      go_ret
      exact One.bool _ HE.out
    · have k2 : ¬ (c.toNat : Int) ≤ 126 := by omega
      have HE := Lib.hid (show false = b from by rw [HN.out]; simp [h2])
      clear h1 h2
      go_enter Tryz.func117, Tryz.ntmps117
      go_wp2_with fail
      go_ret
      exact One.bool _ HE.out
  · have k1 : ¬ (32 : Int) ≤ (c.toNat : Int) := by omega
    have HE := Lib.hid (show false = b from by rw [HN.out]; simp [h1])
    clear h1
    go_enter Tryz.func117, Tryz.ntmps117
    go_wp2_with fail
    go_ret
    exact One.bool _ HE.out
theorem parts (r : Nat) (w : World) : Calls Tryz.prog 173 #[.int .i32 (r : Int)] w (One (.bool (sepR r)) w) := by
  by_cases c1 : r = 9 ∨ r = 10 ∨ r = 13 ∨ r = 32
  · have HN := Lib.hid (show true = sepR r from by rcases c1 with rfl | rfl | rfl | rfl <;> rfl)
    rcases c1 with hc | hc | hc | hc
    all_goals
      (first | have k5 : ((r : Int) == 9) = true := eqT (by omega)
             | have k5 : ((r : Int) == 9) = false := eqF (by omega))
      (first | have k6 : ((r : Int) == 10) = true := eqT (by omega)
             | have k6 : ((r : Int) == 10) = false := eqF (by omega))
      (first | have k7 : ((r : Int) == 13) = true := eqT (by omega)
             | have k7 : ((r : Int) == 13) = false := eqF (by omega))
      (first | have k8 : ((r : Int) == 32) = true := eqT (by omega)
             | have k8 : ((r : Int) == 32) = false := eqF (by omega))
      clear hc
      go_enter Tryz.func173, Tryz.ntmps173
      go_wp2_with fail
      go_ret
      exact One.bool _ HN.out
  · have HN := Lib.hid (show false = sepR r from by
      cases e : sepR r with
      | false => rfl
      | true => exact absurd (by simpa [sepR, or_assoc] using e) c1)
    have k5 : ((r : Int) == 9) = false := eqF (by omega)
    have k6 : ((r : Int) == 10) = false := eqF (by omega)
    have k7 : ((r : Int) == 13) = false := eqF (by omega)
    have k8 : ((r : Int) == 32) = false := eqF (by omega)
    clear c1
    go_enter Tryz.func173, Tryz.ntmps173
    go_wp2_with fail
    go_ret
    exact One.bool _ HN.out

/-- strings.Clone. -/
theorem strClone (l : List UInt8) (w : World) (hl : l.length ≤ 1000000) : Calls Tryz.prog 109 #[.string ⟨l.toArray⟩] w (OneB (.string ⟨l.toArray⟩) w) := by
  have hsz := size_mk l
  have H := Lib.hid (show Calls Tryz.prog 164 #[.string ⟨l.toArray⟩] w _ from Any.stringslite_Clone Tryz.laysClone ⟨l.toArray⟩ w (by omega))
  go_enter Tryz.func109, Tryz.ntmps109
  go_wp2_with fail
  refine H.out.mono ?_
  rintro e w1 ⟨rfl, hb⟩
  have HB := Lib.hid hb
  clear hb H
  go_wp2_with fail
  go_ret
  exact ⟨rfl, HB.out⟩

theorem canonN_len0 (l : List UInt8) : (canonN l).length ≤ 2 * l.length := canonS_len l
/-- What is canonical, by the library's FieldsFunc and Join. -/
theorem libFields (l : List UInt8) (w : World) (hl : l.length ≤ 1000000) :
    Calls Tryz.prog 172 #[.string ⟨l.toArray⟩, .func (.func 173) #[] #[]] w fun e w' => ∃ A, e = .returned (.slice (some ⟨A, 0, none⟩) (Lib.goFieldsP sepR ⟨l.toArray⟩).length (Lib.goFieldsP sepR ⟨l.toArray⟩).length) ∧
      w'.ownsRow w.heap.size 9 1 (.slice (some ⟨A, 0, none⟩) (Lib.goFieldsP sepR ⟨l.toArray⟩).length (Lib.goFieldsP sepR ⟨l.toArray⟩).length) (Lib.goFieldsP sepR ⟨l.toArray⟩).length ((Lib.goFieldsP sepR ⟨l.toArray⟩).map Value.string) ∧ Below w.heap.size w w' := by
  have hsz := size_mk l
  have eg : ∀ args w, (callFunc 173 args).run Tryz.prog w = .ok (.enter 173 args) w := enters_of Tryz.func173 (by kernel_rfl) rfl
  have hp : PredAtRunes Tryz.prog 173 #[] sepR w := fun W x _ _ => (parts x W).mono fun e w' ⟨he, hw⟩ => ⟨he, 0, hw.symm⟩
  exact (Any.strings_FieldsFunc_runes Tryz.laysFields 173 #[] eg sepR ⟨l.toArray⟩ w (by omega) hp (by kernel_rfl) (by kernel_rfl)).mono fun e w' ⟨A, h1, _, h3, h4⟩ => ⟨A, h1, h3, h4⟩
theorem spaced (l : List UInt8) (w : World) (hl : l.length ≤ 1000000) : Calls Tryz.prog 118 #[.string ⟨l.toArray⟩] w (OneB (.string ⟨(canonN l).toArray⟩) w) := by
  have H := Lib.hid (libFields l w hl)
  have HJ := Lib.hid (words_canon l)
  have HL := Lib.hid (words_len l)
  have HC := Lib.hid (canonN_len0 l)
  have HLL := Lib.hid hl
  generalize Lib.goFieldsP sepR ⟨l.toArray⟩ = xs at *
  clear hl
  go_enter Tryz.func118, Tryz.ntmps118
  go_wp2_with fail
  refine H.out.mono ?_
  rintro e w1 ⟨A, rfl, ho, hb⟩
  have HB := Lib.hid hb
  have hlt := (ho.lt A rfl).2
  have hcl : ∀ (j : Nat) (x : ByteArray), xs[j]? = some x → w1.cell? ⟨A, 0 + j, none⟩ = some (.string x) := fun j x hx => by
    have h := ho.cells (g := A) rfl j (.string x) (by rw [List.getElem?_map, hx]; rfl)
    rwa [Addr_add] at h
  have hJ0 := Any.strings_Join Tryz.laysJoin Tryz.joinExtra A 0 xs.length xs ⟨#[32]⟩ w1 hcl hlt (by have := HL.out; have := HLL.out; omega) (by omega) (by
    show (Lib.join (xs.map (·.data.toList)) [32]).length ≤ _
    rw [HJ.out]; have := HC.out; have := HLL.out; omega)
  have hJ1 : Calls Tryz.prog 171 #[.slice (some ⟨A, 0, none⟩) xs.length xs.length, .string ⟨#[32]⟩] w1 (OneB (.string ⟨(canonN l).toArray⟩) w1) := by
    have e : Lib.join (xs.map (·.data.toList)) (ByteArray.mk #[32]).data.toList = canonN l := HJ.out
    rw [e] at hJ0
    exact hJ0
  have HJ1 := Lib.hid hJ1
  clear hJ0 hJ1 hcl hlt ho hb H HJ
  generalize canonN l = y at *
  go_wp2_with fail
  refine HJ1.out.mono ?_
  rintro e w2 ⟨rfl, hb⟩
  have HB2 := Lib.hid (below_trans HB.out hb)
  clear hb
  go_wp2_with fail
  go_ret
  exact ⟨rfl, HB2.out⟩

theorem kindItem (c : UInt8) (g : Nat) (w : World) (hc : w.cell? ⟨g, 0, none⟩ = some (.func (.func 117) #[] #[])) :
    Calls Tryz.prog 170 #[.int .u8 (c.toNat : Int), .pointer (some ⟨g, 0, none⟩)] w (One (.bool (!printC c)) w) := by
  have H := Lib.hid (printable c w)
  generalize printC c = b at *
  go_enter Tryz.func170, Tryz.ntmps170
  go_wp2_with fail
  refine H.out.mono ?_
  rintro e w1 ⟨rfl, rfl⟩
  go_wp2_with fail
  go_ret
  exact ⟨rfl, rfl⟩
theorem containsItem (l : List UInt8) (A : Option Addr) (cap g : Nat) (w : World) (hl : 0 < l.length) (hm : l.length ≤ 1000000) (hat : BytesAt w A l) (hc : w.cell? ⟨g, 0, none⟩ = some (.func (.func 117) #[] #[])) :
    Calls Tryz.prog 169 #[.slice A l.length cap, .func (.func 170) #[] #[.pointer (some ⟨g, 0, none⟩)]] w (OneB (.bool (!(l.all printC))) w) := by
  obtain ⟨b, off, rfl, hb, hcl⟩ := hat hl
  have eg : ∀ args w, (callFunc 170 args).run Tryz.prog w = .ok (.enter 170 args) w := enters_of Tryz.func170 (by kernel_rfl) rfl
  have hg := World.block_lt_of_cell? w _ hc
  have hp : PredAt Tryz.prog 170 #[.pointer (some ⟨g, 0, none⟩)] (fun c : UInt8 => Value.int .u8 (c.toNat : Int)) (fun c : UInt8 => !printC c) w := fun W x hW =>
    (kindItem x g W ((hW.cell (p := ⟨g, 0, none⟩) hg).trans hc)).mono fun e w' ⟨he, hw⟩ => ⟨he, 0, hw.symm⟩
  have h := AnyE.slices_ContainsFunc (α := UInt8) Tryz.laysContains (fun c : UInt8 => Value.int .u8 (c.toNat : Int)) (fun c : UInt8 => !printC c) 170 #[.pointer (some ⟨g, 0, none⟩)] eg b off l.length cap l w hp (Nat.le_refl _) (by omega)
    (fun j hj => by
      have := hcl j l[j] (List.getElem?_eq_getElem hj) 0 _ rfl
      rw [getElem!_pos l j hj]
      simpa using this)
  rw [List.take_length] at h
  have e : (l.any fun c : UInt8 => !printC c) = !(l.all printC) := by rw [Bool.eq_iff_iff]; simp
  rw [e] at h
  exact h.mono fun e w' ⟨he, q, hw⟩ => ⟨he, hw ▸ below_drewN' (Below.refl _ _) q⟩
theorem consistsItem (l : List UInt8) (w : World) (hl : l.length ≤ 1000000) :
    Calls Tryz.prog 116 #[.string ⟨l.toArray⟩, .int .i64 64, .func (.func 117) #[] #[]] w (OneB (.bool ((decide (1 ≤ l.length) && decide (l.length ≤ 64)) && l.all printC)) w) := by
  have hsz := size_mk l
  have hb0 := Lib.hid ((Below.refl w.heap.size w).alloc (Nat.le_refl _) (.cells #[.func (.func 117) #[] #[]] 140))
  by_cases h1 : 1 ≤ l.length
  · have k1 : (1 : Int) ≤ (l.length : Int) := by omega
    by_cases h2 : l.length ≤ 64
    · have k2 : (l.length : Int) ≤ 64 := by omega
      have q1 := fun (w : World) => Lib.run_convert_string_bytes (P := Tryz.prog) w 9 52 5 ⟨l.toArray⟩ Tryz.underlying9 Tryz.underlying52 Tryz.underlying5
      have hs1 : (w.alloc (.cells #[.func (.func 117) #[] #[]] 140)).heap.size = w.heap.size + 1 := by simp
      have hbw := bytesWorld_below (w.alloc (.cells #[.func (.func 117) #[] #[]] 140)) ⟨l.toArray⟩
      have hat := bytesWorld_at (w.alloc (.cells #[.func (.func 117) #[] #[]] 140)) ⟨l.toArray⟩
      rw [hs1] at hat
      have hcb : (w.alloc (.cells #[.func (.func 117) #[] #[]] 140)).cell? ⟨w.heap.size, 0, none⟩ = some (.func (.func 117) #[] #[]) := by rw [cell_of_row _ w.heap.size _ _ _ (0, 0) (heap_alloc_new w _)]; rfl
      have HC := Lib.hid (fun (cap : Nat) => containsItem l (some ⟨w.heap.size + 1, 0, none⟩) cap w.heap.size _ (by omega) hl hat ((hbw.cell (World.block_lt_of_cell? _ _ hcb)).trans hcb))
      have HBW := Lib.hid (below_trans hb0.out hbw)
      clear hs1 hbw hat hcb
      have HE := Lib.hid (show l.all (printC) = ((decide (1 ≤ l.length) && decide (l.length ≤ 64)) && l.all printC) from by simp [h1, h2])
      generalize hX : ((decide (1 ≤ l.length) && decide (l.length ≤ 64)) && l.all printC) = X at *
      generalize l.all (printC) = Y at *
      clear hX h1 h2
      go_enter Tryz.func116, Tryz.ntmps116
      go_wp2_with fail
      refine (HC.out _).mono ?_
      rintro e w1 ⟨rfl, hb⟩
      have HB := Lib.hid (below_trans HBW.out hb)
      clear hb
      go_wp2_with fail
      go_ret
      exact OneB.bool (by rw [← HE.out]) HB.out
    · have k2 : ¬ (l.length : Int) ≤ 64 := by omega
      have HE := Lib.hid (show false = ((decide (1 ≤ l.length) && decide (l.length ≤ 64)) && l.all printC) from by simp [h2])
      clear h1 h2
      go_enter Tryz.func116, Tryz.ntmps116
      go_wp2_with fail
      go_ret
      exact OneB.bool HE.out hb0.out
  · have k1 : ¬ (1 : Int) ≤ (l.length : Int) := by omega
    have HE := Lib.hid (show false = ((decide (1 ≤ l.length) && decide (l.length ≤ 64)) && l.all printC) from by simp [h1])
    clear h1
    go_enter Tryz.func116, Tryz.ntmps116
    go_wp2_with fail
    go_ret
    exact OneB.bool HE.out hb0.out

theorem nmItem (l : List UInt8) (w : World) (hl : l.length ≤ 500000) : Calls Tryz.prog 63 #[.string ⟨l.toArray⟩] w (OneB (.bool (itemN l)) w) := by
  have H := Lib.hid (consistsItem l w (by omega))
  have HS := Lib.hid (fun W => spaced l W (by omega))
  have HI := Lib.hid (itemN_canon l)
  generalize ((decide (1 ≤ l.length) && decide (l.length ≤ 64)) && l.all printC) = b at *
  generalize itemN l = d at *
  go_enter Tryz.func63, Tryz.ntmps63
  go_wp2_with fail
  refine H.out.mono ?_
  rintro e w1 ⟨rfl, hb⟩
  have HB := Lib.hid hb
  clear hb
  cases b with
  | false =>
    go_wp2_with fail
    go_ret
    exact OneB.bool (by rw [HI.out]; rfl) HB.out
  | true =>
    generalize canonN l = y at *
    go_wp2_with fail
    refine (HS.out _).mono ?_
    rintro e w2 ⟨rfl, hb⟩
    have HB2 := Lib.hid (below_trans HB.out hb)
    clear hb
    go_wp2_with fail
    go_ret
    exact OneB.bool (by rw [HI.out]; simp) HB2.out

end

section
open Go.RowKit

set_option maxHeartbeats 2000000 in
theorem itValid (x : ItV) (b : Bool) (w : World) (hx : ItOK w x) (hn : x.nm.length ≤ 1000) (hm : x.ms.length ≤ 100000) (hb : okI x.it = b) :
    Calls Tryz.prog 79 #[mkIt x] w (OneB (.bool b) w) := by
  have hml := hx.len
  have HI := Lib.hid fun W => nmItem x.nm W (by omega)
  have HM := Lib.hid fun W (h : MarksAt W x.A x.ms) => containsMarksV x.A x.ms x.c W h hml
  have HL := Lib.hid fun W b (h : MarksAt W x.A x.ms) (hb : isSetB (dotsM x.ms) = b) => qtyIsList x.A x.ms x.c b W h hm hb
  have HX := Lib.hid hx.1
  have hb' : (itemN x.nm && (decide (0 < x.ms.length) && (x.ms.all validM && isSetB (dotsM x.ms)))) = b := hb
  have B0 := Lib.hid (BlkI.new w x)
  have HB := Lib.hid ((Below.refl w.heap.size w).alloc (Nat.le_refl _) (.cells #[.string ⟨x.nm.toArray⟩, .slice x.A x.ms.length x.c] 50))
  obtain ⟨p1, h1⟩ : ∃ p, itemN x.nm = p := ⟨_, rfl⟩
  obtain ⟨p2, h2⟩ : ∃ p, x.ms.all validM = p := ⟨_, rfl⟩
  obtain ⟨p3, h3⟩ : ∃ p, isSetB (dotsM x.ms) = p := ⟨_, rfl⟩
  rw [h1] at HI hb'
  rw [h2] at HM hb'
  rw [h3] at hb'
  have H3 := Lib.hid h3
  have hlw := B0.out.lt
  have c0 := B0.out.cell0
  have c1 := B0.out.cell1
  clear hb hx h1 h2 h3 hml
  cases p1 with
  | false =>
    obtain rfl : b = false := by simpa using hb'.symm
    clear hb'
    go_enter Tryz.func79, Tryz.ntmps79
    go_wp2_with fail
    refine (HI.out _).mono ?_
    rintro e w1 ⟨rfl, hb1⟩
    have HB1 := Lib.hid (below_trans HB.out hb1)
    clear hb1 c0 c1 hlw
    go_wp2_with fail
    go_ret
    exact ⟨rfl, HB1.out⟩
  | true =>
    by_cases h0 : 0 < x.ms.length
    · have i0 : ((x.ms.length : Int) == 0) = false := eqF (by omega)
      have hd : decide (0 < x.ms.length) = true := decide_eq_true h0
      rw [hd] at hb'
      clear h0 hd
      cases p3 with
      | false =>
        obtain rfl : b = false := by simpa using hb'.symm
        clear hb'
        go_enter Tryz.func79, Tryz.ntmps79
        go_wp2_with fail
        refine (HI.out _).mono ?_
        rintro e w1 ⟨rfl, hb1⟩
        have HB1 := Lib.hid (below_trans HB.out hb1)
        have B1 := Lib.hid (B0.out.below hb1)
        clear hb1 c0 c1 hlw
        have c0 := B1.out.cell0
        have c1 := B1.out.cell1
        go_wp2_with fail
        refine (HL.out _ _ (HX.out.below HB1.out) H3.out).mono ?_
        rintro e w2 ⟨rfl, hb2⟩
        have HB2 := Lib.hid (below_trans HB1.out hb2)
        clear hb2 c0 c1
        go_wp2_with fail
        go_ret
        exact ⟨rfl, HB2.out⟩
      | true =>
        obtain rfl : b = p2 := by simpa using hb'.symm
        clear hb'
        go_enter Tryz.func79, Tryz.ntmps79
        go_wp2_with fail
        refine (HI.out _).mono ?_
        rintro e w1 ⟨rfl, hb1⟩
        have HB1 := Lib.hid (below_trans HB.out hb1)
        have B1 := Lib.hid (B0.out.below hb1)
        clear hb1 c0 c1 hlw
        have c0 := B1.out.cell0
        have c1 := B1.out.cell1
        go_wp2_with fail
        refine (HL.out _ _ (HX.out.below HB1.out) H3.out).mono ?_
        rintro e w2 ⟨rfl, hb2⟩
        have HB2 := Lib.hid (below_trans HB1.out hb2)
        have B2 := Lib.hid (B1.out.below hb2)
        clear hb2 c0 c1
        have c0 := B2.out.cell0
        have c1 := B2.out.cell1
        go_wp2_with fail
        refine (HM.out _ (HX.out.below HB2.out)).mono ?_
        rintro e w3 ⟨rfl, hb3⟩
        have HB3 := Lib.hid (below_trans HB2.out hb3)
        clear hb3 c0 c1
        go_wp2_with fail
        go_ret
        exact OneB.bool (by simp) HB3.out
    · have i0 : ((x.ms.length : Int) == 0) = true := eqT (by omega)
      have hd : decide (0 < x.ms.length) = false := decide_eq_false (by omega)
      rw [hd] at hb'
      obtain rfl : b = false := by simpa using hb'.symm
      clear h0 hd hb'
      go_enter Tryz.func79, Tryz.ntmps79
      go_wp2_with fail
      refine (HI.out _).mono ?_
      rintro e w1 ⟨rfl, hb1⟩
      have HB1 := Lib.hid (below_trans HB.out hb1)
      have B1 := Lib.hid (B0.out.below hb1)
      clear hb1 c0 c1 hlw
      have c1 := B1.out.cell1
      go_wp2_with fail
      go_ret
      exact ⟨rfl, HB1.out⟩

/-- Marks in a row of the call's own; and all that was there as it was. -/
abbrev RowM (W : World) (B : Nat) (v : Value) (ms : List Mk) : Prop := W.ownsRow B 55 4 v ms.length (cellsOf encM ms)
def MineM (w w' : World) (v : Value) (ms : List Mk) : Prop := RowM w' w.heap.size v ms ∧ Below w.heap.size w w'
theorem RowM.at {W : World} {B : Nat} {v : Value} {ms : List Mk} (h : RowM W B v ms) : ∃ A c, v = .slice A ms.length c ∧ ms.length ≤ c ∧ c ≤ maxLen ∧ MarksAt W A ms := SlAt.of_own encM_len h
theorem RowM.below {W W' : World} {B : Nat} {v : Value} {ms : List Mk} (h : RowM W B v ms) (hb : Below W.heap.size W W') : RowM W' B v ms := by
  refine World.ownsRow.kept h (grown_of_below hb none) ?_
  obtain ⟨A, c, rfl, _⟩ := RowM.at h
  cases A <;> simp [Value.ownBlock]

set_option maxHeartbeats 400000 in
theorem cloneMarks (A : Option Addr) (xs : List Mk) (cap : Nat) (w : World) (hx : MarksAt w A xs) (hm : xs.length ≤ 1000000) :
    Calls Tryz.prog 138 #[.slice A xs.length cap] w fun e w' => ∃ v, e = .returned v ∧ MineM w w' v xs := by
  obtain ⟨i0, hi0, hz0, hz1, hz2⟩ := info_parts infoM
  have q22 : ∀ (w : World) (a : Option Addr) (n c n' c' : Nat), (binOp .eql 48 (.slice a n c) (.slice none n' c')).run Tryz.prog w = .ok (.bool a.isNone) w := fun w a n c n' c' => Lib.run_eql_slice_nil w _ _ a n c n' c' Tryz.underlying48
  match A with
  | none =>
    have h0 : xs = [] := by
      cases xs with
      | nil => rfl
      | cons x r => obtain ⟨_, _, h, _⟩ := hx (by simp); cases h
    subst h0
    go_enter Tryz.func138, Tryz.ntmps138
    go_wp2
    go_ret
    exact ⟨_, rfl, World.ownsRow_nil _ _ _ _, Below.refl _ _⟩
  | some a =>
    go_enter Tryz.func138, Tryz.ntmps138
    go_wp2_with (at_builtin; refine wpList_append_sl _ encM 4 rfl (.tmp 5) (.tmp 6) 48 rfl encM_len (by omega) encM_one w.heap.size 55 i0 _ 32 Tryz.underlying48 hi0 hz0 hz1 hz2 rfl _ [] rfl (World.ownsRow_made w #[] 0 (Nat.le_refl _) (Nat.zero_le _) (by simp)) (some a) _ cap xs rfl rfl (hx.below ((Below.refl _ w).alloc (Nat.le_refl _) _)) (by simp [maxLen]; omega) (by simp; omega) (by simp) ?_; intro v1 w1 hown1 hg1 hat1)
    rw [List.nil_append] at hown1
    have HO := Lib.hid hown1
    clear hown1
    go_wp2
    go_ret
    refine ⟨_, rfl, HO.out, ((Below.refl _ w).alloc (Nat.le_refl _) _).grown hg1 (by simp) ?_⟩
    intro k hk
    have e0 : some w.heap.size = some k := hk
    injection e0 with e
    omega

/-- A block of two cells that holds an item. -/
def Blk2I (W : World) (g : Nat) (u v : Value) : Prop := W.heap[g]? = some (.cells #[u, v] 50 (0, 0))
section
variable {W W' : World} {g : Nat} {u v : Value}
theorem Blk2I.lt (h : Blk2I W g u v) : g < W.heap.size := (Array.getElem?_eq_some_iff.1 h).1
theorem Blk2I.cell0 (h : Blk2I W g u v) : W.cell? ⟨g, 0, none⟩ = some u := by simp [World.cell?, show W.heap[g]? = _ from h]
theorem Blk2I.cell1 (h : Blk2I W g u v) : W.cell? ⟨g, 1, none⟩ = some v := by simp [World.cell?, show W.heap[g]? = _ from h]
theorem Blk2I.frozen (h : Blk2I W g u v) (k : Nat) : W.frozen? ⟨g, k, none⟩ = false := by simp [World.frozen?, show W.heap[g]? = _ from h]
theorem Blk2I.below (h : Blk2I W g u v) (hb : Below W.heap.size W W') : Blk2I W' g u v := (hb.block g h.lt).trans h
theorem Blk2I.set (h : Blk2I W g u v) (u' v' : Value) : Blk2I ((W.setCell ⟨g, 0, none⟩ u').setCell ⟨g, 1, none⟩ v') g u' v' := by
  have h2 := block_set1 (k := 1) (x := v') (block_set1 (k := 0) (x := u') h)
  have e : ((#[u, v] : Array Value).setIfInBounds 0 u').setIfInBounds 1 v' = #[u', v'] := by simp
  rw [e] at h2
  exact h2
theorem Blk2I.other (h : Blk2I W g u v) {g' : Nat} (hne : g ≠ g') (o : Nat) (z : Value) : Blk2I (W.setCell ⟨g', o, none⟩ z) g u v := (Below.heap_setCell W ⟨g', o, none⟩ z g hne).trans h
theorem below_set2I {w : World} {B : Nat} (h : Below B w W) (hg : B ≤ g) (u v : Value) : Below B w ((W.setCell ⟨g, 0, none⟩ u).setCell ⟨g, 1, none⟩ v) :=
  (h.setCell (p := ⟨g, 0, none⟩) hg _).setCell (p := ⟨g, 1, none⟩) hg _
theorem row_set2I {base n size : Nat} {e : TypeId} {r : Value} {xs : List Value} (h : W.ownsRow base e size r n xs) (hg : r.ownBlock ≠ some g) (u v : Value) : ((W.setCell ⟨g, 0, none⟩ u).setCell ⟨g, 1, none⟩ v).ownsRow base e size r n xs :=
  ownsRow_setCell_other (ownsRow_setCell_other h (a := ⟨g, 0, none⟩) hg u) (a := ⟨g, 1, none⟩) hg v
end

/-- The item in its block, the result's block behind it. -/
structure KC (w : World) (x : ItV) (W : World) : Prop where
  blk : BlkI W w.heap.size x
  res : ∃ s A n c, Blk2I W (w.heap.size + 1) (.string s) (.slice A n c)
  bel : Below w.heap.size w W
  ok0 : ItOK w x
section
variable {w W W' : World} {x : ItV}
theorem KC.ok (h : KC w x W) : ItOK W x := h.ok0.below h.bel
theorem KC.next (h : KC w x W) (hb : Below W.heap.size W W') : KC w x W' := by
  obtain ⟨s, A, n, c, hr⟩ := h.res
  exact ⟨h.blk.below hb, ⟨s, A, n, c, hr.below hb⟩, below_trans h.bel hb, h.ok0⟩
theorem KC.drew (h : KC w x W) : KC w x W.drew := h.next (Below.refl _ _).drew
theorem KC.store (h : KC w x W) (s : ByteArray) (A : Option Addr) (n c : Nat) : KC w x ((W.setCell ⟨w.heap.size + 1, 0, none⟩ (.string s)).setCell ⟨w.heap.size + 1, 1, none⟩ (.slice A n c)) := by
  obtain ⟨s', A', n', c', hr⟩ := h.res
  refine ⟨?_, ⟨s, A, n, c, hr.set _ _⟩, below_set2I h.bel (by omega) _ _, h.ok0⟩
  exact (Blk2I.other (Blk2I.other (show Blk2I W w.heap.size (.string ⟨x.nm.toArray⟩) (.slice x.A x.ms.length x.c) from h.blk) (by omega) 0 _) (by omega) 1 _)
theorem KC.second (h : KC w x W) : ∃ s A n c, W.cell? ⟨w.heap.size + 1, 0, none⟩ = some (.string s) ∧ W.cell? ⟨w.heap.size + 1, 1, none⟩ = some (.slice A n c) ∧ W.frozen? ⟨w.heap.size + 1, 0, none⟩ = false ∧ W.frozen? ⟨w.heap.size + 1, 1, none⟩ = false ∧ w.heap.size + 1 < W.heap.size ∧ Blk2I W (w.heap.size + 1) (.string s) (.slice A n c) := by
  obtain ⟨s, A, n, c, hr⟩ := h.res
  exact ⟨s, A, n, c, hr.cell0, hr.cell1, hr.frozen _, hr.frozen _, hr.lt, hr⟩
theorem KC.sp (h : KC w x W) : W.cell? ⟨w.heap.size, 0, none⟩ = some (.string ⟨x.nm.toArray⟩) ∧ W.cell? ⟨w.heap.size, 1, none⟩ = some (.slice x.A x.ms.length x.c) ∧ w.heap.size < W.heap.size ∧ KC w x W := ⟨h.blk.cell0, h.blk.cell1, h.blk.lt, h⟩
theorem KC.new (ho : ItOK w x) : KC w x ((w.alloc (.cells #[.string ⟨x.nm.toArray⟩, .slice x.A x.ms.length x.c] 50)).alloc (.cells #[.string ⟨#[]⟩, .slice none 0 0] 50)) := by
  refine ⟨(BlkI.new w x).below ((Below.refl _ _).alloc (Nat.le_refl _) _), ⟨⟨#[]⟩, none, 0, 0, ?_⟩, ((Below.refl _ w).alloc (Nat.le_refl _) _).alloc (by simp) _, ho⟩
  have h := heap_alloc_new (w.alloc (.cells #[.string ⟨x.nm.toArray⟩, .slice x.A x.ms.length x.c] 50)) (.cells #[.string ⟨#[]⟩, .slice none 0 0] 50)
  rwa [World.size_alloc] at h
end

/-- An item's marks as a value. -/
abbrev slV (x : ItV) : Value := .slice x.A x.ms.length x.c
set_option maxHeartbeats 4000000 in
theorem itClone (x : ItV) (w : World) (hx : ItOK w x) (hn : x.nm.length ≤ 1000000) (hm : x.ms.length ≤ 1000000) :
    Calls Tryz.prog 78 #[mkIt x] w fun e w' => ∃ y : ItV, e = .returned (mkIt y) ∧ y.it = x.it ∧ RowM w' w.heap.size (slV y) y.ms ∧ Below w.heap.size w w' := by
  have K0 := Lib.hid (KC.new hx)
  have HS := Lib.hid fun W => strClone x.nm W hn
  have HM := Lib.hid fun W (h : MarksAt W x.A x.ms) => cloneMarks x.A x.ms x.c W h hm
  clear hx hn hm
  go_enter Tryz.func78, Tryz.ntmps78
  go_wp2_with fail
  generalize World.alloc (World.alloc w _) _ = w1 at K0 ⊢
  have hS := K0.out
  have hS' := KC.sp K0.out
  clear K0
  obtain ⟨q0, q1, q2, _⟩ := id hS'
  obtain ⟨s0, A0, n0, c0, t0, t1, t2, t3, t4, hB3⟩ := hS.second
  go_region_held3 (fun W' => W'.cell? ⟨w.heap.size, 0, none⟩ = some (.string ⟨x.nm.toArray⟩) ∧ W'.cell? ⟨w.heap.size, 1, none⟩ = some (.slice x.A x.ms.length x.c) ∧ w.heap.size < W'.heap.size ∧ KC w x W')
    (first
      | assumption
      | (exact KC.sp (by assumption))
      | (exact KC.sp (KC.drew (by assumption)))
      | (exact KC.sp (KC.store (by assumption) _ _ _ _))
      | (exact KC.sp (KC.store (KC.drew (by assumption)) _ _ _ _)))
    (first
      | (go_at_call 109; refine (HS.out _).mono ?_
         rintro e wa ⟨rfl, hb1⟩
         have hS1 := KC.next (by first | assumption | exact KC.drew (by assumption)) hb1
         have hS1' := KC.sp hS1
         obtain ⟨u0, u1, u2, _⟩ := id hS1'
         obtain ⟨s1, A1, n1, c1, t0, t1, t2, t3, t4, hB3⟩ := hS1.second)
      | (go_at_call 138; refine (HM.out _ (KC.ok (by first | assumption | exact KC.drew (by assumption))).1).mono ?_
         rintro e wb ⟨v, rfl, hv, hb2⟩
         have hz2 := (show KC w x _ by first | assumption | exact KC.drew (by assumption)).second
         have hS2 := KC.next (by first | assumption | exact KC.drew (by assumption)) hb2
         have hS2' := KC.sp hS2
         obtain ⟨A2, c2, rfl, _⟩ := RowM.at hv
         obtain ⟨u0, u1, u2, _⟩ := id hS2'
         obtain ⟨s1, A1, n1, c1, t0, t1, t2, t3, t4, hB3⟩ := hS2.second))
  all_goals
    obtain ⟨_, _, _, _, _, _, _, _, z4, _⟩ := hz2
    have hs := hB3.set (.string ⟨x.nm.toArray⟩) (.slice A2 x.ms.length c2)
    have s6 := hs.cell0
    have s7 := hs.cell1
    have HE := Lib.hid (show ∃ y : ItV, Ending.returned (.agg #[.string ⟨x.nm.toArray⟩, .slice A2 x.ms.length c2]) = .returned (mkIt y) ∧ y.it = x.it ∧ RowM ((wb.setCell ⟨w.heap.size + 1, 0, none⟩ (.string ⟨x.nm.toArray⟩)).setCell ⟨w.heap.size + 1, 1, none⟩ (.slice A2 x.ms.length c2)) w.heap.size (slV y) y.ms ∧ Below w.heap.size w ((wb.setCell ⟨w.heap.size + 1, 0, none⟩ (.string ⟨x.nm.toArray⟩)).setCell ⟨w.heap.size + 1, 1, none⟩ (.slice A2 x.ms.length c2)) from
      ⟨⟨x.nm, A2, c2, x.ms⟩, rfl, rfl, row_set2I (Joins.ownsRow_le hv (by have := hS1.bel.size; omega)) (fun e => by have := (hv.lt _ e).1; omega) _ _, below_set2I hS2.bel (by omega) _ _⟩)
    clear hS1 hS1' hS2 hS2' hv hB3 hs
    go_wp2_with fail
    exact bodyPost_ret (v := .agg #[.string ⟨x.nm.toArray⟩, .slice A2 x.ms.length c2]) (by simp [results, Tryz.results78, go_sem, s6, s7]) rfl HE.out

end

section
open Go.RowKit

end

section
open Go.RowKit

def ItV.zero : ItV := ⟨[], none, 0, []⟩
/-- Items that a call owns: their row, and the rows of their marks. -/
def OwnI (W : World) (B : Nat) (v : Value) (xs : List ItV) : Prop := RowT W B v xs ∧ ∀ x ∈ xs, RowM W B (slV x) x.ms
theorem RowM.ok {W : World} {B : Nat} {x : ItV} (h : RowM W B (slV x) x.ms) : ItOK W x := by
  obtain ⟨A, c, e, h1, h2, h3⟩ := RowM.at h
  injection e with e1 e2 e3
  refine ⟨?_, ?_, ?_⟩
  · rw [e1]; exact h3
  · rw [e3]; exact h1
  · rw [e3]; exact h2
theorem OwnI.holds {W : World} {B : Nat} {v : Value} {xs : List ItV} (h : OwnI W B v xs) : HoldsX W v xs := HoldsX.of_own h.1 fun x hx => RowM.ok (h.2 x hx)
theorem RowT.below {W W' : World} {B : Nat} {v : Value} {xs : List ItV} (h : RowT W B v xs) (hb : Below W.heap.size W W') : RowT W' B v xs := by
  refine World.ownsRow.kept h (grown_of_below hb none) ?_
  obtain ⟨A, c, rfl, _⟩ := SlAt.of_own encIt_len h
  cases A <;> simp [Value.ownBlock]
theorem OwnI.below {W W' : World} {B : Nat} {v : Value} {xs : List ItV} (h : OwnI W B v xs) (hb : Below W.heap.size W W') : OwnI W' B v xs := ⟨RowT.below h.1 hb, fun x hx => RowM.below (h.2 x hx) hb⟩
theorem OwnI.nil (W : World) (B : Nat) : OwnI W B (.slice none 0 0) [] := ⟨World.ownsRow_nil _ _ _ _, fun _ h => by cases h⟩
theorem OwnI.le {W : World} {B B' : Nat} {v : Value} {xs : List ItV} (h : OwnI W B v xs) (hb : B' ≤ B) : OwnI W B' v xs := ⟨Joins.ownsRow_le h.1 hb, fun x hx => Joins.ownsRow_le (h.2 x hx) hb⟩

/-- The item with a name, and the error. -/
def findV (l : List It) (nm : List UInt8) : It × Nat := match l.find? (fun x => x.1 == nm) with
  | some x => (x, 0)
  | none => (([], []), 9)
theorem findV_some {l : List It} {nm : List UInt8} {k : Nat} {x : It} (hx : l[k]? = some x) (he : (x.1 == nm) = true) (h : ∀ (j : Nat) (y : It), j < k → l[j]? = some y → (y.1 == nm) = false) : findV l nm = (x, 0) := by
  obtain ⟨hk, hkx⟩ := List.getElem?_eq_some_iff.1 hx
  have : l.find? (fun x => x.1 == nm) = some x := by
    rw [List.find?_eq_some_iff_getElem]
    exact ⟨he, k, hk, hkx, fun j hj => by have := h j l[j] hj (List.getElem?_eq_getElem (by omega)); simp [this]⟩
  unfold findV; rw [this]
theorem findV_none {l : List It} {nm : List UInt8} (h : ∀ (j : Nat) (y : It), j < l.length → l[j]? = some y → (y.1 == nm) = false) : findV l nm = (([], []), 9) := by
  have : l.find? (fun x => x.1 == nm) = none := by
    rw [List.find?_eq_none]
    intro x hx
    obtain ⟨j, hj⟩ := List.mem_iff_getElem?.1 hx
    simp [h j x (List.getElem?_eq_some_iff.1 hj).1 hj]
  unfold findV; rw [this]

set_option maxHeartbeats 4000000 in
theorem itFind (A : Option Addr) (xs : List ItV) (cap : Nat) (nm : List UInt8) (w : World) (hx : ItemsAt w A xs) (hm : xs.length ≤ 1000000) (hl : ∀ x ∈ xs, x.nm.length ≤ 1000000 ∧ x.ms.length ≤ 1000000) :
    Calls Tryz.prog 37 #[.slice A xs.length cap, .string ⟨nm.toArray⟩] w fun e w' => (∃ (y : ItV) (n : Nat), e = .returned (.tuple #[mkIt y, .int .i64 (n : Int)]) ∧ findV (its xs) nm = (y.it, n) ∧ ItOK w' y) ∧ Below w.heap.size w w' := by
  have HX := Lib.hid hx
  have HL := Lib.hid hl
  have hB0 := Lib.hid (show Blk2I (w.alloc (.cells #[.string ⟨#[]⟩, .slice none 0 0] 50)) w.heap.size (.string ⟨#[]⟩) (.slice none 0 0) from heap_alloc_new w _)
  have hb0 := Lib.hid ((Below.refl w.heap.size w).alloc (Nat.le_refl _) (.cells #[.string ⟨#[]⟩, .slice none 0 0] 50))
  clear hx hl
  go_enter Tryz.func37, Tryz.ntmps37
  go_wp2_with fail
  generalize w.alloc _ = w1 at hB0 hb0 ⊢
  go_loopw [7, 10] (fun _ i wr => ∃ k : Nat, k ≤ xs.length ∧ i = .int .i64 k ∧ Hid (∀ (j : Nat) (y : It), j < k → (its xs)[j]? = some y → (y.1 == nm) = false) ∧ Hid (Blk2I wr w.heap.size (.string ⟨#[]⟩) (.slice none 0 0)) ∧ Hid (Below w.heap.size w wr)) (fun _ i _ => xs.length - (intOf i).toNat)
  case atStart => exact ⟨0, by omega, rfl, fun j y h => by omega, hB0, hb0⟩
  case round =>
    clear hB0 hb0
    obtain ⟨k, hk, rfl, hs, hB, hb⟩ := hrel
    have hlw := hB.out.lt
    have z0 := hB.out.cell0
    have z1 := hB.out.cell1
    have f0 := hB.out.frozen 0
    have f1 := hB.out.frozen 1
    by_cases hlt : k < xs.length
    · have i0 : (k : Int) < (xs.length : Int) := by omega
      obtain ⟨g, off, x, rfl, hbl, hx1, _, hc0, hc1, hok⟩ := (HX.out.below hb.out).cells (j := k) hlt
      have hba : Below wr.heap.size wr (wr.alloc (.cells #[.string ⟨x.nm.toArray⟩, .slice x.A x.ms.length x.c] 50)) := (Below.refl _ wr).alloc (Nat.le_refl _) _
      cases hq : (x.nm == nm) with
      | true =>
        have hlx := HL.out x (List.mem_of_getElem? hx1)
        have HC := Lib.hid (itClone x _ (hok.below hba) hlx.1 hlx.2)
        have HF := Lib.hid (findV_some (its_at hx1) hq hs.out)
        have HBA := Lib.hid hba
        clear hx1 hok hba hlx
        go_wp2_with fail
        refine HC.out.mono ?_
        rintro e w2 ⟨y, rfl, hyx, hry, hb2⟩
        have hb3 := below_trans HBA.out hb2
        have hB2 := hB.out.below hb3
        have hlw2 := hB2.lt
        have e0 := hB2.cell0
        have e1 := hB2.cell1
        have k0 := hB2.frozen 0
        have k1 := hB2.frozen 1
        have hset := hB2.set (.string ⟨y.nm.toArray⟩) (slV y)
        have s6 := hset.cell0
        have s7 := hset.cell1
        have HE := Lib.hid (show (∃ (y' : ItV) (n : Nat), Ending.returned (.tuple #[mkIt y, .int .i64 0]) = .returned (.tuple #[mkIt y', .int .i64 (n : Int)]) ∧ findV (its xs) nm = (y'.it, n) ∧ ItOK ((w2.setCell ⟨w.heap.size, 0, none⟩ (.string ⟨y.nm.toArray⟩)).setCell ⟨w.heap.size, 1, none⟩ (slV y)) y') ∧ Below w.heap.size w ((w2.setCell ⟨w.heap.size, 0, none⟩ (.string ⟨y.nm.toArray⟩)).setCell ⟨w.heap.size, 1, none⟩ (slV y)) from
          ⟨⟨y, 0, rfl, by rw [HF.out, hyx], RowM.ok (B := wr.heap.size) (row_set2I (Joins.ownsRow_le hry (by simp)) (fun e => by have := (hry.lt _ e).1; simp at this; omega) _ _)⟩, below_set2I (below_trans hb.out hb3) (Nat.le_refl _) _ _⟩)
        clear hyx hry hb2 hb3 hB2 hset hB z0 z1 f0 f1 hc0 hc1
        go_wp2_with fail
        exact bodyPost_ret (v := .tuple #[mkIt y, .int .i64 0]) (by simp [results, Tryz.results37, go_sem, s6, s7]) rfl HE.out
      | false =>
        have HF := Lib.hid (step_none (p := fun y => y.1 == nm) hs.out (its_at hx1) hq)
        have HB' := Lib.hid (hB.out.below hba)
        have Hb' := Lib.hid (below_trans hb.out hba)
        clear hx1 hok hba
        go_wp2_with fail
        go_roundw
        case rel => exact ⟨k + 1, by omega, by go_num, HF, HB', Hb'⟩
        case measure => simp [intOf]; omega
    · obtain rfl : k = xs.length := by omega
      have i0 : ¬ (xs.length : Int) < (xs.length : Int) := by omega
      have hset := hB.out.set (.string ⟨#[]⟩) (.slice none 0 0)
      have s6 := hset.cell0
      have s7 := hset.cell1
      have HE := Lib.hid (show (∃ (y' : ItV) (n : Nat), Ending.returned (.tuple #[.agg #[.string ⟨#[]⟩, .slice none 0 0], .int .i64 9]) = .returned (.tuple #[mkIt y', .int .i64 (n : Int)]) ∧ findV (its xs) nm = (y'.it, n) ∧ ItOK ((wr.setCell ⟨w.heap.size, 0, none⟩ (.string ⟨#[]⟩)).setCell ⟨w.heap.size, 1, none⟩ (.slice none 0 0)) y') ∧ Below w.heap.size w ((wr.setCell ⟨w.heap.size, 0, none⟩ (.string ⟨#[]⟩)).setCell ⟨w.heap.size, 1, none⟩ (.slice none 0 0)) from
        ⟨⟨ItV.zero, 9, rfl, findV_none (by rw [its_len]; exact hs.out), ⟨SlAt.nil, by simp [ItV.zero], by simp [ItV.zero, maxLen]⟩⟩, below_set2I hb.out (Nat.le_refl _) _ _⟩)
      clear hlt hk hset
      go_wp2_with fail
      exact bodyPost_ret (v := .tuple #[.agg #[.string ⟨#[]⟩, .slice none 0 0], .int .i64 9]) (by simp [results, Tryz.results37, go_sem, s6, s7]) rfl HE.out

end

end Go.Proofs.YtiaehpdgpjhecaaGreat
