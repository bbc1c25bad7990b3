/- Several texts in one: NamP1, ItmL, DotQ, ItmM, ItmN, ItmP. -/
import Derived.Test.YtpnemekkpifbaaaGreatMAU
import Derived.Test.YtpnemekkpifbaaaGreatMAC
import Derived.Test.YtpnemekkpifbaaaGreatShelfT
import Derived.Lib.SlBytesRow
import Derived.Test.YtpnemekkpifbaaaGreatMAJ
import Derived.Test.YtpnemekkpifbaaaGreatMAG
import Derived.Test.YtpnemekkpifbaaaGreatShelf
namespace Go.Proofs.YtpnemekkpifbaaaGreat

section
open Go.RowKit

theorem below_drewN' {B : Nat} {a w : World} (h : Below B a w) (n : Nat) : Below B a (w.drewN n) := ⟨h.os, h.tape, h.output, h.size, h.block⟩

theorem printable (c : UInt8) (w : World) : Calls Tryz.prog 104 #[.int .u8 (c.toNat : Int)] w (One (.bool (printC c)) w) := by
  have h8 := toNat8 c
  have HN := Lib.hid (show printC c = (decide (32 ≤ c.toNat) && decide (c.toNat ≤ 126)) from rfl)
  generalize printC c = b at *
  by_cases h1 : 32 ≤ c.toNat
  · have k1 : (32 : Int) ≤ (c.toNat : Int) := by omega
    by_cases h2 : c.toNat ≤ 126
    · have k2 : (c.toNat : Int) ≤ 126 := by omega
      have HE := Lib.hid (show true = b from by rw [HN.out]; simp [h1, h2])
      clear h1 h2
      go_enter Tryz.func104, Tryz.ntmps104
      go_wp2_with fail
      go_ret
      exact One.bool _ HE.out
    · have k2 : ¬ (c.toNat : Int) ≤ 126 := by omega
      have HE := Lib.hid (show false = b from by rw [HN.out]; simp [h2])
      clear h1 h2
      go_enter Tryz.func104, Tryz.ntmps104
      go_wp2_with fail
      go_ret
      exact One.bool _ HE.out
  · have k1 : ¬ (32 : Int) ≤ (c.toNat : Int) := by omega
    have HE := Lib.hid (show false = b from by rw [HN.out]; simp [h1])
    clear h1
    go_enter Tryz.func104, Tryz.ntmps104
    go_wp2_with fail
    go_ret
    exact One.bool _ HE.out
theorem parts (r : Nat) (w : World) : Calls Tryz.prog 121 #[.int .i32 (r : Int)] w (One (.bool (sepR r)) w) := by
  by_cases c1 : r = 9 ∨ r = 10 ∨ r = 13 ∨ r = 32
  · have HN := Lib.hid (show true = sepR r from by rcases c1 with rfl | rfl | rfl | rfl <;> rfl)
    rcases c1 with hc | hc | hc | hc
    all_goals
      (first | have k5 : ((r : Int) == 9) = true := eqT (by omega)
             | have k5 : ((r : Int) == 9) = false := eqF (by omega))
      (first | have k6 : ((r : Int) == 10) = true := eqT (by omega)
             | have k6 : ((r : Int) == 10) = false := eqF (by omega))
      (first | have k7 : ((r : Int) == 13) = true := eqT (by omega)
             | have k7 : ((r : Int) == 13) = false := eqF (by omega))
      (first | have k8 : ((r : Int) == 32) = true := eqT (by omega)
             | have k8 : ((r : Int) == 32) = false := eqF (by omega))
      clear hc
      go_enter Tryz.func121, Tryz.ntmps121
      go_wp2_with fail
      go_ret
      exact One.bool _ HN.out
  · have HN := Lib.hid (show false = sepR r from by
      cases e : sepR r with
      | false => rfl
      | true => exact absurd (by simpa [sepR, or_assoc] using e) c1)
    have k5 : ((r : Int) == 9) = false := eqF (by omega)
    have k6 : ((r : Int) == 10) = false := eqF (by omega)
    have k7 : ((r : Int) == 13) = false := eqF (by omega)
    have k8 : ((r : Int) == 32) = false := eqF (by omega)
    clear c1
    go_enter Tryz.func121, Tryz.ntmps121
    go_wp2_with fail
    go_ret
    exact One.bool _ HN.out

theorem canonN_len0 (l : List UInt8) : (canonN l).length ≤ 2 * l.length := canonS_len l
/-- What is canonical, by the library's FieldsFunc and Join. -/
theorem libFields (l : List UInt8) (w : World) (hl : l.length ≤ 1000000) :
    Calls Tryz.prog 120 #[.string ⟨l.toArray⟩, .func (.func 121) #[] #[]] w fun e w' => ∃ A, e = .returned (.slice (some ⟨A, 0, none⟩) (Lib.goFieldsP sepR ⟨l.toArray⟩).length (Lib.goFieldsP sepR ⟨l.toArray⟩).length) ∧
      w'.ownsRow w.heap.size 9 1 (.slice (some ⟨A, 0, none⟩) (Lib.goFieldsP sepR ⟨l.toArray⟩).length (Lib.goFieldsP sepR ⟨l.toArray⟩).length) (Lib.goFieldsP sepR ⟨l.toArray⟩).length ((Lib.goFieldsP sepR ⟨l.toArray⟩).map Value.string) ∧ Below w.heap.size w w' := by
  have hsz := size_mk l
  have eg : ∀ args w, (callFunc 121 args).run Tryz.prog w = .ok (.enter 121 args) w := enters_of Tryz.func121 (by kernel_rfl) rfl
  have hp : PredAtRunes Tryz.prog 121 #[] sepR w := fun W x _ _ => (parts x W).mono fun e w' ⟨he, hw⟩ => ⟨he, 0, hw.symm⟩
  exact (Any.strings_FieldsFunc_runes Tryz.laysFields 121 #[] eg sepR ⟨l.toArray⟩ w (by omega) hp (by kernel_rfl) (by kernel_rfl)).mono fun e w' ⟨A, h1, _, h3, h4⟩ => ⟨A, h1, h3, h4⟩
theorem spaced (l : List UInt8) (w : World) (hl : l.length ≤ 1000000) : Calls Tryz.prog 105 #[.string ⟨l.toArray⟩] w (OneB (.string ⟨(canonN l).toArray⟩) w) := by
  have H := Lib.hid (libFields l w hl)
  have HJ := Lib.hid (words_canon l)
  have HL := Lib.hid (words_len l)
  have HC := Lib.hid (canonN_len0 l)
  have HLL := Lib.hid hl
  generalize Lib.goFieldsP sepR ⟨l.toArray⟩ = xs at *
  clear hl
  go_enter Tryz.func105, Tryz.ntmps105
  go_wp2_with fail
  refine H.out.mono ?_
  rintro e w1 ⟨A, rfl, ho, hb⟩
  have HB := Lib.hid hb
  have hlt := (ho.lt A rfl).2
  have hcl : ∀ (j : Nat) (x : ByteArray), xs[j]? = some x → w1.cell? ⟨A, 0 + j, none⟩ = some (.string x) := fun j x hx => by
    have h := ho.cells (g := A) rfl j (.string x) (by rw [List.getElem?_map, hx]; rfl)
    rwa [Addr_add] at h
  have hJ0 := Any.strings_Join Tryz.laysJoin Tryz.joinExtra A 0 xs.length xs ⟨#[32]⟩ w1 hcl hlt (by have := HL.out; have := HLL.out; omega) (by omega) (by
    show (Lib.join (xs.map (·.data.toList)) [32]).length ≤ _
    rw [HJ.out]; have := HC.out; have := HLL.out; omega)
  have hJ1 : Calls Tryz.prog 119 #[.slice (some ⟨A, 0, none⟩) xs.length xs.length, .string ⟨#[32]⟩] w1 (OneB (.string ⟨(canonN l).toArray⟩) w1) := by
    have e : Lib.join (xs.map (·.data.toList)) (ByteArray.mk #[32]).data.toList = canonN l := HJ.out
    rw [e] at hJ0
    exact hJ0
  have HJ1 := Lib.hid hJ1
  clear hJ0 hJ1 hcl hlt ho hb H HJ
  generalize canonN l = y at *
  go_wp2_with fail
  refine HJ1.out.mono ?_
  rintro e w2 ⟨rfl, hb⟩
  have HB2 := Lib.hid (below_trans HB.out hb)
  clear hb
  go_wp2_with fail
  go_ret
  exact ⟨rfl, HB2.out⟩

theorem kindItem (c : UInt8) (g : Nat) (w : World) (hc : w.cell? ⟨g, 0, none⟩ = some (.func (.func 104) #[] #[])) :
    Calls Tryz.prog 118 #[.int .u8 (c.toNat : Int), .pointer (some ⟨g, 0, none⟩)] w (One (.bool (!printC c)) w) := by
  have H := Lib.hid (printable c w)
  generalize printC c = b at *
  go_enter Tryz.func118, Tryz.ntmps118
  go_wp2_with fail
  refine H.out.mono ?_
  rintro e w1 ⟨rfl, rfl⟩
  go_wp2_with fail
  go_ret
  exact ⟨rfl, rfl⟩
theorem containsItem (l : List UInt8) (A : Option Addr) (cap g : Nat) (w : World) (hl : 0 < l.length) (hm : l.length ≤ 1000000) (hat : BytesAt w A l) (hc : w.cell? ⟨g, 0, none⟩ = some (.func (.func 104) #[] #[])) :
    Calls Tryz.prog 117 #[.slice A l.length cap, .func (.func 118) #[] #[.pointer (some ⟨g, 0, none⟩)]] w (OneB (.bool (!(l.all printC))) w) := by
  obtain ⟨b, off, rfl, hb, hcl⟩ := hat hl
  have eg : ∀ args w, (callFunc 118 args).run Tryz.prog w = .ok (.enter 118 args) w := enters_of Tryz.func118 (by kernel_rfl) rfl
  have hg := World.block_lt_of_cell? w _ hc
  have hp : PredAt Tryz.prog 118 #[.pointer (some ⟨g, 0, none⟩)] (fun c : UInt8 => Value.int .u8 (c.toNat : Int)) (fun c : UInt8 => !printC c) w := fun W x hW =>
    (kindItem x g W ((hW.cell (p := ⟨g, 0, none⟩) hg).trans hc)).mono fun e w' ⟨he, hw⟩ => ⟨he, 0, hw.symm⟩
  have h := AnyE.slices_ContainsFunc (α := UInt8) Tryz.laysContains (fun c : UInt8 => Value.int .u8 (c.toNat : Int)) (fun c : UInt8 => !printC c) 118 #[.pointer (some ⟨g, 0, none⟩)] eg b off l.length cap l w hp (Nat.le_refl _) (by omega)
    (fun j hj => by
      have := hcl j l[j] (List.getElem?_eq_getElem hj) 0 _ rfl
      rw [getElem!_pos l j hj]
      simpa using this)
  rw [List.take_length] at h
  have e : (l.any fun c : UInt8 => !printC c) = !(l.all printC) := by rw [Bool.eq_iff_iff]; simp
  rw [e] at h
  exact h.mono fun e w' ⟨he, q, hw⟩ => ⟨he, hw ▸ below_drewN' (Below.refl _ _) q⟩
theorem consistsItem (l : List UInt8) (w : World) (hl : l.length ≤ 1000000) :
    Calls Tryz.prog 103 #[.string ⟨l.toArray⟩, .int .i64 64, .func (.func 104) #[] #[]] w (OneB (.bool ((decide (1 ≤ l.length) && decide (l.length ≤ 64)) && l.all printC)) w) := by
  have hsz := size_mk l
  have hb0 := Lib.hid ((Below.refl w.heap.size w).alloc (Nat.le_refl _) (.cells #[.func (.func 104) #[] #[]] 152))
  by_cases h1 : 1 ≤ l.length
  · have k1 : (1 : Int) ≤ (l.length : Int) := by omega
    by_cases h2 : l.length ≤ 64
    · have k2 : (l.length : Int) ≤ 64 := by omega
      have q1 := fun (w : World) => Lib.run_convert_string_bytes (P := Tryz.prog) w 9 22 5 ⟨l.toArray⟩ Tryz.underlying9 Tryz.underlying22 Tryz.underlying5
      have hs1 : (w.alloc (.cells #[.func (.func 104) #[] #[]] 152)).heap.size = w.heap.size + 1 := by simp
      have hbw := bytesWorld_below (w.alloc (.cells #[.func (.func 104) #[] #[]] 152)) ⟨l.toArray⟩
      have hat := bytesWorld_at (w.alloc (.cells #[.func (.func 104) #[] #[]] 152)) ⟨l.toArray⟩
      rw [hs1] at hat
      have hcb : (w.alloc (.cells #[.func (.func 104) #[] #[]] 152)).cell? ⟨w.heap.size, 0, none⟩ = some (.func (.func 104) #[] #[]) := by rw [cell_of_row _ w.heap.size _ _ _ (0, 0) (heap_alloc_new w _)]; rfl
      have HC := Lib.hid (fun (cap : Nat) => containsItem l (some ⟨w.heap.size + 1, 0, none⟩) cap w.heap.size _ (by omega) hl hat ((hbw.cell (World.block_lt_of_cell? _ _ hcb)).trans hcb))
      have HBW := Lib.hid (below_trans hb0.out hbw)
      clear hs1 hbw hat hcb
      have HE := Lib.hid (show l.all (printC) = ((decide (1 ≤ l.length) && decide (l.length ≤ 64)) && l.all printC) from by simp [h1, h2])
      generalize hX : ((decide (1 ≤ l.length) && decide (l.length ≤ 64)) && l.all printC) = X at *
      generalize l.all (printC) = Y at *
      clear hX h1 h2
      go_enter Tryz.func103, Tryz.ntmps103
      go_wp2_with fail
      refine (HC.out _).mono ?_
      rintro e w1 ⟨rfl, hb⟩
      have HB := Lib.hid (below_trans HBW.out hb)
      clear hb
      go_wp2_with fail
      go_ret
      exact OneB.bool (by rw [← HE.out]) HB.out
    · have k2 : ¬ (l.length : Int) ≤ 64 := by omega
      have HE := Lib.hid (show false = ((decide (1 ≤ l.length) && decide (l.length ≤ 64)) && l.all printC) from by simp [h2])
      clear h1 h2
      go_enter Tryz.func103, Tryz.ntmps103
      go_wp2_with fail
      go_ret
      exact OneB.bool HE.out hb0.out
  · have k1 : ¬ (1 : Int) ≤ (l.length : Int) := by omega
    have HE := Lib.hid (show false = ((decide (1 ≤ l.length) && decide (l.length ≤ 64)) && l.all printC) from by simp [h1])
    clear h1
    go_enter Tryz.func103, Tryz.ntmps103
    go_wp2_with fail
    go_ret
    exact OneB.bool HE.out hb0.out

theorem nmItem (l : List UInt8) (w : World) (hl : l.length ≤ 500000) : Calls Tryz.prog 82 #[.string ⟨l.toArray⟩] w (OneB (.bool (itemN l)) w) := by
  have H := Lib.hid (consistsItem l w (by omega))
  have HS := Lib.hid (fun W => spaced l W (by omega))
  have HI := Lib.hid (itemN_canon l)
  generalize ((decide (1 ≤ l.length) && decide (l.length ≤ 64)) && l.all printC) = b at *
  generalize itemN l = d at *
  go_enter Tryz.func82, Tryz.ntmps82
  go_wp2_with fail
  refine H.out.mono ?_
  rintro e w1 ⟨rfl, hb⟩
  have HB := Lib.hid hb
  clear hb
  cases b with
  | false =>
    go_wp2_with fail
    go_ret
    exact OneB.bool (by rw [HI.out]; rfl) HB.out
  | true =>
    generalize canonN l = y at *
    go_wp2_with fail
    refine (HS.out _).mono ?_
    rintro e w2 ⟨rfl, hb⟩
    have HB2 := Lib.hid (below_trans HB.out hb)
    clear hb
    go_wp2_with fail
    go_ret
    exact OneB.bool (by rw [HI.out]; simp) HB2.out

end

section
open Go.RowKit

set_option maxHeartbeats 2000000 in
theorem itValid (x : ItV) (b : Bool) (w : World) (hx : ItOK w x) (hn : x.nm.length ≤ 200000) (hm : x.ms.length ≤ 100000) (hb : okI x.it = b) :
    Calls Tryz.prog 53 #[mkIt x] w (OneB (.bool b) w) := by
  have hml := hx.len
  have HI := Lib.hid fun W => nmItem x.nm W (by omega)
  have HM := Lib.hid fun W (h : MarksAt W x.A x.ms) => containsMarksV x.A x.ms x.c W h hml
  have HL := Lib.hid fun W b (h : MarksAt W x.A x.ms) (hb : isSetB (dotsM x.ms) = b) => qtyIsList x.A x.ms x.c b W h hm hb
  have HX := Lib.hid hx.1
  have hb' : (itemN x.nm && (decide (0 < x.ms.length) && (x.ms.all validM && isSetB (dotsM x.ms)))) = b := hb
  have B0 := Lib.hid (BlkI.new w x)
  have HB := Lib.hid ((Below.refl w.heap.size w).alloc (Nat.le_refl _) (.cells #[.string ⟨x.nm.toArray⟩, .slice x.A x.ms.length x.c] 57))
  obtain ⟨p1, h1⟩ : ∃ p, itemN x.nm = p := ⟨_, rfl⟩
  obtain ⟨p2, h2⟩ : ∃ p, x.ms.all validM = p := ⟨_, rfl⟩
  obtain ⟨p3, h3⟩ : ∃ p, isSetB (dotsM x.ms) = p := ⟨_, rfl⟩
  rw [h1] at HI hb'
  rw [h2] at HM hb'
  rw [h3] at hb'
  have H3 := Lib.hid h3
  have hlw := B0.out.lt
  have c0 := B0.out.cell0
  have c1 := B0.out.cell1
  clear hb hx h1 h2 h3 hml
  cases p1 with
  | false =>
    obtain rfl : b = false := by simpa using hb'.symm
    clear hb'
    go_enter Tryz.func53, Tryz.ntmps53
    go_wp2_with fail
    refine (HI.out _).mono ?_
    rintro e w1 ⟨rfl, hb1⟩
    have HB1 := Lib.hid (below_trans HB.out hb1)
    clear hb1 c0 c1 hlw
    go_wp2_with fail
    go_ret
    exact ⟨rfl, HB1.out⟩
  | true =>
    by_cases h0 : 0 < x.ms.length
    · have i0 : ((x.ms.length : Int) == 0) = false := eqF (by omega)
      have hd : decide (0 < x.ms.length) = true := decide_eq_true h0
      rw [hd] at hb'
      clear h0 hd
      cases p3 with
      | false =>
        obtain rfl : b = false := by simpa using hb'.symm
        clear hb'
        go_enter Tryz.func53, Tryz.ntmps53
        go_wp2_with fail
        refine (HI.out _).mono ?_
        rintro e w1 ⟨rfl, hb1⟩
        have HB1 := Lib.hid (below_trans HB.out hb1)
        have B1 := Lib.hid (B0.out.below hb1)
        clear hb1 c0 c1 hlw
        have c0 := B1.out.cell0
        have c1 := B1.out.cell1
        go_wp2_with fail
        refine (HL.out _ _ (HX.out.below HB1.out) H3.out).mono ?_
        rintro e w2 ⟨rfl, hb2⟩
        have HB2 := Lib.hid (below_trans HB1.out hb2)
        clear hb2 c0 c1
        go_wp2_with fail
        go_ret
        exact ⟨rfl, HB2.out⟩
      | true =>
        obtain rfl : b = p2 := by simpa using hb'.symm
        clear hb'
        go_enter Tryz.func53, Tryz.ntmps53
        go_wp2_with fail
        refine (HI.out _).mono ?_
        rintro e w1 ⟨rfl, hb1⟩
        have HB1 := Lib.hid (below_trans HB.out hb1)
        have B1 := Lib.hid (B0.out.below hb1)
        clear hb1 c0 c1 hlw
        have c0 := B1.out.cell0
        have c1 := B1.out.cell1
        go_wp2_with fail
        refine (HL.out _ _ (HX.out.below HB1.out) H3.out).mono ?_
        rintro e w2 ⟨rfl, hb2⟩
        have HB2 := Lib.hid (below_trans HB1.out hb2)
        have B2 := Lib.hid (B1.out.below hb2)
        clear hb2 c0 c1
        have c0 := B2.out.cell0
        have c1 := B2.out.cell1
        go_wp2_with fail
        refine (HM.out _ (HX.out.below HB2.out)).mono ?_
        rintro e w3 ⟨rfl, hb3⟩
        have HB3 := Lib.hid (below_trans HB2.out hb3)
        clear hb3 c0 c1
        go_wp2_with fail
        go_ret
        exact OneB.bool (by simp) HB3.out
    · have i0 : ((x.ms.length : Int) == 0) = true := eqT (by omega)
      have hd : decide (0 < x.ms.length) = false := decide_eq_false (by omega)
      rw [hd] at hb'
      obtain rfl : b = false := by simpa using hb'.symm
      clear h0 hd hb'
      go_enter Tryz.func53, Tryz.ntmps53
      go_wp2_with fail
      refine (HI.out _).mono ?_
      rintro e w1 ⟨rfl, hb1⟩
      have HB1 := Lib.hid (below_trans HB.out hb1)
      have B1 := Lib.hid (B0.out.below hb1)
      clear hb1 c0 c1 hlw
      have c1 := B1.out.cell1
      go_wp2_with fail
      go_ret
      exact ⟨rfl, HB1.out⟩

/-- Marks in a row of the call's own; and all that was there as it was. -/
abbrev RowM (W : World) (B : Nat) (v : Value) (ms : List Mk) : Prop := W.ownsRow B 54 4 v ms.length (cellsOf encM ms)
theorem RowM.at {W : World} {B : Nat} {v : Value} {ms : List Mk} (h : RowM W B v ms) : ∃ A c, v = .slice A ms.length c ∧ ms.length ≤ c ∧ c ≤ maxLen ∧ MarksAt W A ms := SlAt.of_own encM_len h
theorem RowM.below {W W' : World} {B : Nat} {v : Value} {ms : List Mk} (h : RowM W B v ms) (hb : Below W.heap.size W W') : RowM W' B v ms := by
  refine World.ownsRow.kept h (grown_of_below hb none) ?_
  obtain ⟨A, c, rfl, _⟩ := RowM.at h
  cases A <;> simp [Value.ownBlock]

/-- A block of two cells that holds an item. -/
def Blk2I (W : World) (g : Nat) (u v : Value) : Prop := W.heap[g]? = some (.cells #[u, v] 57 (0, 0))
section
variable {W W' : World} {g : Nat} {u v : Value}
theorem Blk2I.lt (h : Blk2I W g u v) : g < W.heap.size := (Array.getElem?_eq_some_iff.1 h).1
theorem Blk2I.cell0 (h : Blk2I W g u v) : W.cell? ⟨g, 0, none⟩ = some u := by simp [World.cell?, show W.heap[g]? = _ from h]
theorem Blk2I.cell1 (h : Blk2I W g u v) : W.cell? ⟨g, 1, none⟩ = some v := by simp [World.cell?, show W.heap[g]? = _ from h]
theorem Blk2I.frozen (h : Blk2I W g u v) (k : Nat) : W.frozen? ⟨g, k, none⟩ = false := by simp [World.frozen?, show W.heap[g]? = _ from h]
theorem Blk2I.below (h : Blk2I W g u v) (hb : Below W.heap.size W W') : Blk2I W' g u v := (hb.block g h.lt).trans h
theorem Blk2I.set (h : Blk2I W g u v) (u' v' : Value) : Blk2I ((W.setCell ⟨g, 0, none⟩ u').setCell ⟨g, 1, none⟩ v') g u' v' := by
  have h2 := block_set1 (k := 1) (x := v') (block_set1 (k := 0) (x := u') h)
  have e : ((#[u, v] : Array Value).setIfInBounds 0 u').setIfInBounds 1 v' = #[u', v'] := by simp
  rw [e] at h2
  exact h2
theorem Blk2I.other (h : Blk2I W g u v) {g' : Nat} (hne : g ≠ g') (o : Nat) (z : Value) : Blk2I (W.setCell ⟨g', o, none⟩ z) g u v := (Below.heap_setCell W ⟨g', o, none⟩ z g hne).trans h
theorem below_set2I {w : World} {B : Nat} (h : Below B w W) (hg : B ≤ g) (u v : Value) : Below B w ((W.setCell ⟨g, 0, none⟩ u).setCell ⟨g, 1, none⟩ v) :=
  (h.setCell (p := ⟨g, 0, none⟩) hg _).setCell (p := ⟨g, 1, none⟩) hg _
end

/-- The item in its block, the result's block behind it. -/
structure KC (w : World) (x : ItV) (W : World) : Prop where
  blk : BlkI W w.heap.size x
  res : ∃ s A n c, Blk2I W (w.heap.size + 1) (.string s) (.slice A n c)
  bel : Below w.heap.size w W
  ok0 : ItOK w x
section
variable {w W W' : World} {x : ItV}
theorem KC.ok (h : KC w x W) : ItOK W x := h.ok0.below h.bel
theorem KC.next (h : KC w x W) (hb : Below W.heap.size W W') : KC w x W' := by
  obtain ⟨s, A, n, c, hr⟩ := h.res
  exact ⟨h.blk.below hb, ⟨s, A, n, c, hr.below hb⟩, below_trans h.bel hb, h.ok0⟩
theorem KC.drew (h : KC w x W) : KC w x W.drew := h.next (Below.refl _ _).drew
theorem KC.store (h : KC w x W) (s : ByteArray) (A : Option Addr) (n c : Nat) : KC w x ((W.setCell ⟨w.heap.size + 1, 0, none⟩ (.string s)).setCell ⟨w.heap.size + 1, 1, none⟩ (.slice A n c)) := by
  obtain ⟨s', A', n', c', hr⟩ := h.res
  refine ⟨?_, ⟨s, A, n, c, hr.set _ _⟩, below_set2I h.bel (by omega) _ _, h.ok0⟩
  exact (Blk2I.other (Blk2I.other (show Blk2I W w.heap.size (.string ⟨x.nm.toArray⟩) (.slice x.A x.ms.length x.c) from h.blk) (by omega) 0 _) (by omega) 1 _)
theorem KC.second (h : KC w x W) : ∃ s A n c, W.cell? ⟨w.heap.size + 1, 0, none⟩ = some (.string s) ∧ W.cell? ⟨w.heap.size + 1, 1, none⟩ = some (.slice A n c) ∧ W.frozen? ⟨w.heap.size + 1, 0, none⟩ = false ∧ W.frozen? ⟨w.heap.size + 1, 1, none⟩ = false ∧ w.heap.size + 1 < W.heap.size ∧ Blk2I W (w.heap.size + 1) (.string s) (.slice A n c) := by
  obtain ⟨s, A, n, c, hr⟩ := h.res
  exact ⟨s, A, n, c, hr.cell0, hr.cell1, hr.frozen _, hr.frozen _, hr.lt, hr⟩
theorem KC.sp (h : KC w x W) : W.cell? ⟨w.heap.size, 0, none⟩ = some (.string ⟨x.nm.toArray⟩) ∧ W.cell? ⟨w.heap.size, 1, none⟩ = some (.slice x.A x.ms.length x.c) ∧ w.heap.size < W.heap.size ∧ KC w x W := ⟨h.blk.cell0, h.blk.cell1, h.blk.lt, h⟩
theorem KC.new (ho : ItOK w x) : KC w x ((w.alloc (.cells #[.string ⟨x.nm.toArray⟩, .slice x.A x.ms.length x.c] 57)).alloc (.cells #[.string ⟨#[]⟩, .slice none 0 0] 57)) := by
  refine ⟨(BlkI.new w x).below ((Below.refl _ _).alloc (Nat.le_refl _) _), ⟨⟨#[]⟩, none, 0, 0, ?_⟩, ((Below.refl _ w).alloc (Nat.le_refl _) _).alloc (by simp) _, ho⟩
  have h := heap_alloc_new (w.alloc (.cells #[.string ⟨x.nm.toArray⟩, .slice x.A x.ms.length x.c] 57)) (.cells #[.string ⟨#[]⟩, .slice none 0 0] 57)
  rwa [World.size_alloc] at h
end

/-- An item's marks as a value. -/
abbrev slV (x : ItV) : Value := .slice x.A x.ms.length x.c
end

section
open Go.RowKit

end

section
open Go.RowKit

def ItV.zero : ItV := ⟨[], none, 0, []⟩
/-- Items that a call owns: their row, and the rows of their marks. -/
def OwnI (W : World) (B : Nat) (v : Value) (xs : List ItV) : Prop := RowT W B v xs ∧ ∀ x ∈ xs, RowM W B (slV x) x.ms
theorem RowM.ok {W : World} {B : Nat} {x : ItV} (h : RowM W B (slV x) x.ms) : ItOK W x := by
  obtain ⟨A, c, e, h1, h2, h3⟩ := RowM.at h
  injection e with e1 e2 e3
  refine ⟨?_, ?_, ?_⟩
  · rw [e1]; exact h3
  · rw [e3]; exact h1
  · rw [e3]; exact h2
theorem OwnI.holds {W : World} {B : Nat} {v : Value} {xs : List ItV} (h : OwnI W B v xs) : HoldsX W v xs := HoldsX.of_own h.1 fun x hx => RowM.ok (h.2 x hx)
theorem RowT.below {W W' : World} {B : Nat} {v : Value} {xs : List ItV} (h : RowT W B v xs) (hb : Below W.heap.size W W') : RowT W' B v xs := by
  refine World.ownsRow.kept h (grown_of_below hb none) ?_
  obtain ⟨A, c, rfl, _⟩ := SlAt.of_own encIt_len h
  cases A <;> simp [Value.ownBlock]
theorem OwnI.below {W W' : World} {B : Nat} {v : Value} {xs : List ItV} (h : OwnI W B v xs) (hb : Below W.heap.size W W') : OwnI W' B v xs := ⟨RowT.below h.1 hb, fun x hx => RowM.below (h.2 x hx) hb⟩
theorem OwnI.nil (W : World) (B : Nat) : OwnI W B (.slice none 0 0) [] := ⟨World.ownsRow_nil _ _ _ _, fun _ h => by cases h⟩
theorem OwnI.le {W : World} {B B' : Nat} {v : Value} {xs : List ItV} (h : OwnI W B v xs) (hb : B' ≤ B) : OwnI W B' v xs := ⟨Joins.ownsRow_le h.1 hb, fun x hx => Joins.ownsRow_le (h.2 x hx) hb⟩

end

section
open Go.RowKit

/-- A dot and an item in their blocks. -/
structure KO (W0 : World) (gd g : Nat) (r c : Int) (x : ItV) (W : World) : Prop where
  dot : W.heap[gd]? = some (.cells #[.int .i64 r, .int .i64 c] 52 (0, 0))
  blk : BlkI W g x
  bel : Below W0.heap.size W0 W
  ok : ItOK W x
section
variable {W0 W W' : World} {gd g : Nat} {r c : Int} {x : ItV}
theorem KO.lt (h : KO W0 gd g r c x W) : gd < W.heap.size := (Array.getElem?_eq_some_iff.1 h.dot).1
theorem KO.next (h : KO W0 gd g r c x W) (hb : Below W.heap.size W W') : KO W0 gd g r c x W' := ⟨(hb.block _ h.lt).trans h.dot, h.blk.below hb, below_trans h.bel hb, h.ok.below hb⟩
theorem KO.drew (h : KO W0 gd g r c x W) : KO W0 gd g r c x W.drew := h.next (Below.refl _ _).drew
theorem KO.sp (h : KO W0 gd g r c x W) : W.cell? ⟨gd, 0, none⟩ = some (.int .i64 r) ∧ W.cell? ⟨gd, 1, none⟩ = some (.int .i64 c) ∧ W.cell? ⟨g, 1, none⟩ = some (.slice x.A x.ms.length x.c) ∧ gd < W.heap.size ∧ g < W.heap.size ∧ KO W0 gd g r c x W :=
  ⟨by simp [World.cell?, h.dot], by simp [World.cell?, h.dot], h.blk.cell1, h.lt, h.blk.lt, h⟩
end
theorem Holds.drew {w : World} {v : Value} {xs : List (Int × Int)} (h : Holds w v xs) : Holds w.drew v xs := h.below (Below.refl _ _).drew

theorem allD_snoc (l : List It) (x : It) : allD (l ++ [x]) = allD l ++ dotsM x.2 := by simp [allD]
theorem cnt_take (l : List It) (k : Nat) : cntM (l.take k) ≤ cntM l := by
  have h := congrArg cntM (List.take_append_drop k l)
  unfold cntM at *
  rw [List.map_append, List.sum_append] at h
  omega
theorem dotsI_le_cnt (l : List It) : (dotsI l).length ≤ cntM l := by
  rw [dotsI_all, ← allD_len]
  exact setL_len _
set_option maxRecDepth 100000 in
set_option maxHeartbeats 4000000 in
theorem itDotsO (A : Option Addr) (xs : List ItV) (cap : Nat) (w : World) (hx : ItemsAt w A xs) (hf : Fits xs) :
    Calls Tryz.prog 34 #[.slice A xs.length cap] w fun e w' => (∃ v, e = .returned v ∧ w'.ownsRow w.heap.size 52 2 v (dotsI (its xs)).length (cellsOf encD (dotsI (its xs)))) ∧ Below w.heap.size w w' := by
  obtain ⟨ti0, hi0, hz0, hz1, hz2⟩ := info_parts infoD
  have hm := hf.1
  have HX := Lib.hid hx
  have HF := Lib.hid hf.2.1
  have HCN := Lib.hid (show cntM (its xs) ≤ 90000 from hf.2.2)
  clear hx hf
  go_enter Tryz.func34, Tryz.ntmps34
  go_wp2_with fail
  go_loopw [3, 5, 8] (fun s3 _ i wr => ∃ (k : Nat) (D : Option Addr) (d : Nat) (ds : List (Int × Int)), k ≤ xs.length ∧ s3 = .slice D ds.length d ∧ i = .int .i64 k ∧ Hid (allD ((its xs).take k) = ds) ∧ Hid (ds.length ≤ 90000) ∧ Hid (wr.ownsRow w.heap.size 52 2 (.slice D ds.length d) ds.length (cellsOf encD ds)) ∧ Hid (Below w.heap.size w wr)) (fun _ _ i _ => xs.length - (intOf i).toNat)
  case atStart => exact ⟨0, none, 0, [], by omega, rfl, rfl, rfl, Nat.zero_le _, World.ownsRow_nil _ _ _ _, Below.refl _ _⟩
  case round =>
    obtain ⟨k, D, d, ds, hk, rfl, rfl, hds, hdl, HO, HB⟩ := hrel
    by_cases hlt : k < xs.length
    · have i0 : (k : Int) < (xs.length : Int) := by omega
      obtain ⟨g, off, x, rfl, hbl, hx1, _, hc0, hc1, hok⟩ := (HX.out.below HB.out).cells (j := k) hlt
      have hxm := (HF.out x (List.mem_of_getElem? hx1)).2
      have hba : Below wr.heap.size wr (wr.alloc (.cells #[.string ⟨x.nm.toArray⟩, .slice x.A x.ms.length x.c] 57)) := (Below.refl _ wr).alloc (Nat.le_refl _) _
      have HBA := Lib.hid hba
      have HD := Lib.hid (qtyDots x.A x.ms x.c _ (hok.below hba).1 (by omega))
      have HE := Lib.hid (show allD ((its xs).take (k + 1)) = ds ++ dotsM x.ms from by rw [take_step (its_at hx1), allD_snoc, hds.out]; rfl)
      have HML := Lib.hid (dotsM_len x.ms)
      clear hx1 hok hba
      go_wp2_with fail
      refine HD.out.mono ?_
      rintro e w1 ⟨⟨v1, rfl, A1, c1, rfl, ha1, hl1, hl2⟩, hb1⟩
      have hb3 := below_trans HBA.out hb1
      have HA1 := Lib.hid ha1
      have HO1 := Lib.hid (show w1.ownsRow w.heap.size 52 2 (.slice D ds.length d) ds.length (cellsOf encD ds) from HO.out.kept (grown_of_below hb3 none) (by cases D <;> simp [Value.ownBlock]))
      have HB1 := Lib.hid (below_trans HB.out hb3)
      have hdl2 := hdl.out
      clear ha1 hb1 hb3 hc0 hc1
      generalize dotsM x.ms = ms1 at *
      go_wp2_with (at_builtin; go_loud (refine wpList_append_sl _ encD 2 rfl (.tmp 12) (.tmp 15) 25 rfl encD_len (by omega) encD_one w.heap.size 52 ti0 _ 16 Tryz.underlying25 hi0 hz0 hz1 hz2 rfl (.slice D ds.length d) ds rfl HO1.out A1 _ c1 ms1 rfl rfl HA1.out (by have := HML.out; unfold maxLen; omega) (by have := HML.out; omega) HB1.out.size ?_; intro v2 w2 hown hg hat; have HB2 := Lib.hid (HB1.out.grown hg HB1.out.size (fun k hk => (HO1.out.lt k hk).1)); obtain ⟨D2, d2, rfl, _⟩ := SlAt.of_own encD_len hown; have HO2 := Lib.hid hown; clear hown hg hat))
      go_roundw
      case rel => exact ⟨k + 1, D2, d2, ds ++ ms1, by omega, by rw [List.length_append], by go_num, HE, (show (ds ++ ms1).length ≤ 90000 from by rw [← HE.out, allD_len]; exact Nat.le_trans (cnt_take _ _) HCN.out), HO2, HB2⟩
      case measure => simp [intOf]; omega
    · obtain rfl : k = xs.length := by omega
      have i0 : ¬ (xs.length : Int) < (xs.length : Int) := by omega
      obtain ⟨A1, c1, e1, _, _, ha1⟩ := SlAt.of_own encD_len HO.out
      injection e1 with e2 e3 e4
      subst e2 e4
      have hdl2 := hdl.out
      have HS := Lib.hid (dotSet D ds d wr ha1 (by omega))
      have HE := Lib.hid (show ordL ds = dotsI (its xs) from by rw [ordL_eq, dotsI_all, ← hds.out, ← its_len xs, List.take_length])
      have HSZ := Lib.hid HB.out.size
      clear ha1 hlt hk
      go_wp2_with fail
      refine HS.out.mono ?_
      rintro e w1 ⟨v1, rfl, hm1⟩
      have HM := Lib.hid hm1
      clear hm1
      go_wp2_with fail
      go_ret
      exact ⟨⟨_, rfl, by rw [← HE.out]; exact Go.Joins.ownsRow_le HM.out.1 HSZ.out⟩, below_trans HB.out HM.out.2⟩
theorem itDots (A : Option Addr) (xs : List ItV) (cap : Nat) (w : World) (hx : ItemsAt w A xs) (hf : Fits xs) :
    Calls Tryz.prog 34 #[.slice A xs.length cap] w fun e w' => (∃ v, e = .returned v ∧ Holds w' v (dotsI (its xs))) ∧ Below w.heap.size w w' :=
  (itDotsO A xs cap w hx hf).mono fun _ _ ⟨⟨v, h1, h2⟩, h3⟩ => ⟨⟨v, h1, own_holds h2⟩, h3⟩

end

section
open Go.RowKit

theorem good_of_steps {l : List It} (h : ∀ (j : Nat) (x : It), j < l.length → l[j]? = some x → okI x = true ∧ behindAt l x j = true) : (∀ x ∈ l, okI x = true) ∧ IncN l := by
  refine ⟨fun x hx => ?_, IncN.of_next fun j x y hx hy => ?_⟩
  · obtain ⟨j, hj⟩ := List.mem_iff_getElem?.1 hx
    exact (h j x (List.getElem?_eq_some_iff.1 hj).1 hj).1
  · have := (h (j + 1) y (List.getElem?_eq_some_iff.1 hy).1 hy).2
    rwa [behindAt_succ rfl hx] at this
theorem validL_no {l : List It} {j : Nat} {x : It} (hx : l[j]? = some x) (h : okI x = false ∨ behindAt l x j = false) : validL l = false := by
  refine range_no (List.getElem?_eq_some_iff.1 hx).1 ?_
  unfold okAt
  rw [hx]
  rcases h with h | h <;> simp [h]
theorem step_ok {l : List It} {k : Nat} {x : It} {p : It → Nat → Prop} (h : ∀ (j : Nat) (y : It), j < k → l[j]? = some y → p y j) (hx : l[k]? = some x) (he : p x k) : ∀ (j : Nat) (y : It), j < k + 1 → l[j]? = some y → p y j := fun j y hj hy => by
  rcases Nat.lt_or_ge j k with h1 | h1
  · exact h j y h1 hy
  · obtain rfl : j = k := by omega
    rw [hx] at hy; cases hy; exact he

set_option maxRecDepth 100000 in
set_option maxHeartbeats 4000000 in
theorem itemsValid (A : Option Addr) (xs : List ItV) (cap : Nat) (b : Bool) (w : World) (hx : ItemsAt w A xs) (hf : Fits xs) (hb : validL (its xs) = b) :
    Calls Tryz.prog 32 #[.slice A xs.length cap] w (OneB (.bool b) w) := by
  have hm := hf.1
  have HX := Lib.hid hx
  have HF := Lib.hid hf.2.1
  have HCN := Lib.hid (show cntM (its xs) ≤ 90000 from hf.2.2)
  have HV := Lib.hid hb
  have HDD := Lib.hid fun W (h : ItemsAt W A xs) => itDots A xs cap W h hf
  clear hx hf hb
  go_enter Tryz.func32, Tryz.ntmps32
  go_wp2_with fail
  go_loopw [3, 4, 5, 8] (fun s3 _ _ i wr => ∃ (k m : Nat), k ≤ xs.length ∧ s3 = .int .i64 (m : Int) ∧ i = .int .i64 k ∧ m ≤ 90000 ∧ Hid (m ≤ 90000) ∧ Hid (cntM ((its xs).take k) = m) ∧ Hid (Below w.heap.size w wr) ∧ Hid (∀ (j : Nat) (x : It), j < k → (its xs)[j]? = some x → okI x = true ∧ behindAt (its xs) x j = true)) (fun _ _ _ i _ => xs.length - (intOf i).toNat)
  case atStart => exact ⟨0, 0, by omega, rfl, rfl, by omega, Nat.zero_le _, rfl, Below.refl _ _, fun j x h => by omega⟩
  case round =>
    obtain ⟨k, m, hk, rfl, rfl, hm1, hmk, hcnt, hb, hs⟩ := hrel
    by_cases hlt : k < xs.length
    · have i0 : (k : Int) < (xs.length : Int) := by omega
      obtain ⟨bb, off, x, rfl, hbl, hx1, hx2, hc0, hc1, hok⟩ := (HX.out.below hb.out).cells (j := k) hlt
      have hxm := HF.out x (List.mem_of_getElem? hx1)
      have hba : Below wr.heap.size wr (wr.alloc (.cells #[.string ⟨x.nm.toArray⟩, .slice x.A x.ms.length x.c] 57)) := (Below.refl _ wr).alloc (Nat.le_refl _) _
      have hblk := BlkI.new wr x
      have HBA := Lib.hid (below_trans hb.out hba)
      obtain ⟨q1, hq1⟩ : ∃ b, okI x.it = b := ⟨_, rfl⟩
      have HO := Lib.hid fun p => itValid x q1 (far (wr.alloc (.cells #[.string ⟨x.nm.toArray⟩, .slice x.A x.ms.length x.c] 57)) p) ((hok.below hba).below (below_far _ p)) hxm.1 (by omega) hq1
      have HI := Lib.hid (its_at hx1)
      have HQ1 := Lib.hid hq1
      have HX1 := Lib.hid hx1
      have HK := Lib.hid hblk
      have HXW := Lib.hid ((HX.out.below hb.out).below hba)
      have HML := Lib.hid hxm.2
      have HNL := Lib.hid hxm.1
      clear hx1 hx2 hok hba hblk hq1 hxm
      go_wp2_with fail
      clear hc0 hc1
      generalize World.alloc wr _ = w3 at HBA HO HK HXW ⊢
      have hlw := HK.out.lt
      have n0 := fun p => cell_far (p := p) hlw HK.out.cell0
      have n1 := fun p => cell_far (p := p) hlw HK.out.cell1
      cases q1 with
      | false =>
        have HN := Lib.hid (show false = b from by rw [← HV.out]; exact (validL_no HI.out (.inl HQ1.out)).symm)
        refine wp_region_far (by kernel_rfl) (by kernel_rfl) ?_
        repeat (go_big_quiet_step ((go_at_call 53; exact OneB.far (HO.out _))))
        refine wpQuiet_nil ?_
        rintro _ ⟨p, rfl⟩
        go_wp2_with fail
        go_ret
        exact OneB.bool HN.out (below_trans HBA.out (below_far w3 p))
      | true =>
        have HC1 := Lib.hid (show cntM ((its xs).take (k + 1)) = m + x.ms.length from by rw [take_step HI.out, cntM_snoc, hcnt.out]; rfl)
        by_cases hk0 : k = 0
        · have h0n : ¬ 0 < k := by omega
          have h0d : decide ((0 : Int) < (k : Int)) = false := decide_eq_false (by omega)
          have HS := Lib.hid (step_ok (p := fun x j => okI x = true ∧ behindAt (its xs) x j = true) hs.out HI.out ⟨HQ1.out, by rw [hk0]; rfl⟩)
          clear hk0
          refine wp_region_far (by kernel_rfl) (by kernel_rfl) ?_
          repeat (go_big_quiet_step ((go_at_call 53; exact OneB.far (HO.out _))))
          refine wpQuiet_nil ?_
          rintro _ ⟨p, rfl⟩
          have hml := HML.out
          have hmk' := hmk.out
          go_wp2_with fail
          go_roundw
          case rel => exact ⟨k + 1, m + x.ms.length, by omega, by go_num, by go_num, (by rw [← HC1.out]; exact Nat.le_trans (cnt_take _ _) HCN.out), (show m + x.ms.length ≤ 90000 from by rw [← HC1.out]; exact Nat.le_trans (cnt_take _ _) HCN.out), HC1, below_trans HBA.out (below_far w3 p), HS⟩
          case measure => simp [intOf]; omega
        · obtain ⟨n, hkn⟩ : ∃ n, k = n + 1 := ⟨k - 1, by omega⟩
          have h0n : 0 < k := by omega
          have h0d : (0 : Int) < (k : Int) := by omega
          have i1 : (k : Int) - 1 = (n : Int) := by omega
          have i2 : (n : Int) < (xs.length : Int) := by omega
          obtain ⟨b', off', y, ho, hbl', hy1, hyj, hd0, hd1, hok'⟩ := HXW.out.cells (j := n) (by omega)
          cases ho
          clear hyj
          have m0 := fun p => cell_far (p := p) hbl' hd0
          obtain ⟨q, hq⟩ : ∃ q, beforeN y.nm x.nm = q := ⟨_, rfl⟩
          have hls : Op.bytesLess y.nm x.nm = q := (bytesLess_eq y.nm x.nm).trans hq
          have HBH := Lib.hid (show behindAt (its xs) x.it k = q from by rw [behindAt_succ hkn (its_at hy1)]; exact hq)
          clear hd0 hd1 hok' hy1 hkn hk0
          cases q with
          | true =>
            have HS := Lib.hid (step_ok (p := fun x j => okI x = true ∧ behindAt (its xs) x j = true) hs.out HI.out ⟨HQ1.out, HBH.out⟩)
            clear hq
            refine wp_region_far (by kernel_rfl) (by kernel_rfl) ?_
            repeat (go_big_quiet_step ((go_at_call 53; exact OneB.far (HO.out _))))
            refine wpQuiet_nil ?_
            rintro _ ⟨p, rfl⟩
            have hml := HML.out
            have hmk' := hmk.out
            go_wp2_with fail
            go_roundw
            case rel => exact ⟨k + 1, m + x.ms.length, by omega, by go_num, by go_num, (by rw [← HC1.out]; exact Nat.le_trans (cnt_take _ _) HCN.out), (show m + x.ms.length ≤ 90000 from by rw [← HC1.out]; exact Nat.le_trans (cnt_take _ _) HCN.out), HC1, below_trans HBA.out (below_far w3 p), HS⟩
            case measure => simp [intOf]; omega
          | false =>
            have HN := Lib.hid (show false = b from by rw [← HV.out]; exact (validL_no HI.out (.inr HBH.out)).symm)
            clear hq
            refine wp_region_far (by kernel_rfl) (by kernel_rfl) ?_
            repeat (go_big_quiet_step ((go_at_call 53; exact OneB.far (HO.out _))))
            refine wpQuiet_nil ?_
            rintro _ ⟨p, rfl⟩
            go_wp2_with fail
            go_ret
            exact OneB.bool HN.out (below_trans HBA.out (below_far w3 p))
    · obtain rfl : k = xs.length := by omega
      have i0 : ¬ (xs.length : Int) < (xs.length : Int) := by omega
      have HD := Lib.hid (HDD.out _ (HX.out.below hb.out))
      have hst := good_of_steps (l := its xs) (by rw [its_len]; exact hs.out)
      have hcn : cntM (its xs) = m := by have := hcnt.out; rwa [← its_len xs, List.take_length] at this
      have HG := Lib.hid (show (((dotsI (its xs)).length : Int) == (m : Int)) = b from by
        have h := good_count hst.1 hst.2
        rw [← validL_good, hcn] at h
        rw [← HV.out, Bool.eq_iff_iff, ← h, beq_iff_eq]
        omega)
      clear hlt hk hst hcn
      generalize dotsI (its xs) = ds at *
      go_wp2_with fail
      refine HD.out.mono ?_
      rintro e w1 ⟨⟨v1, rfl, A1, c1, rfl, ha1, hl1, hl2⟩, hb1⟩
      have HB1 := Lib.hid (below_trans hb.out hb1)
      clear ha1 hb1
      go_wp2_with fail
      go_ret
      exact OneB.bool HG.out HB1.out

end

end Go.Proofs.YtpnemekkpifbaaaGreat
