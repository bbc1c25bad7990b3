/- Package vector: Text. -/
import Derived.Test.YteeigngomleijaaDoorVecF
import Derived.Test.YteeigngomleijaaDoorVecL
import Derived.Lib.Join
import Derived.OwnWalk
namespace Go.Proofs.YteeigngomleijaaDoor
open Go.RowKit

/-- A dot's text as a string. -/
abbrev txtB (d : Int × Int) : ByteArray := ⟨(textL d.1.toNat d.2.toNat).toArray⟩
theorem digits_short2 : ∀ (k n : Nat), 1 ≤ k → n < 10 ^ k → (Lib.decDigits n).length ≤ k
  | 0, _, h, _ => by omega
  | k + 1, n, _, h => by
    by_cases h1 : n < 10
    · rw [Lib.decDigits_one h1]; simp
    · rw [Lib.decDigits, dif_neg h1, List.length_append, List.length_singleton]
      have hk : 1 ≤ k := by
        rcases Nat.eq_zero_or_pos k with e | e
        · subst e; simp at h; omega
        · exact e
      have := digits_short2 k (n / 10) hk (by rw [Nat.pow_succ] at h; omega)
      omega
theorem text_short {d : Int × Int} (h : validD d.1 d.2 = true) : (textL d.1.toNat d.2.toNat).length ≤ 21 := by
  simp [validD] at h
  have h1 := digits_short2 10 d.1.toNat (by omega) (by omega)
  have h2 := digits_short2 10 d.2.toNat (by omega) (by omega)
  simp only [textL, List.length_append, List.length_cons]
  omega
theorem joinT_short : ∀ {v : List (Int × Int)}, (∀ p ∈ v, validD p.1 p.2 = true) → (joinT v).length ≤ 22 * v.length
  | [], _ => by simp [joinT]
  | [d], h => by have := text_short (h d (by simp)); simp [joinT]; omega
  | d :: e :: v, h => by
    have h1 := text_short (h d (by simp))
    have h2 := joinT_short (v := e :: v) fun p hp => h p (by simp at hp ⊢; exact .inr hp)
    simp only [joinT, List.length_append, List.length_cons] at h2 ⊢
    omega
theorem joinT_eq : ∀ {v : List (Int × Int)}, v ≠ [] → Lib.join ((v.map txtB).map (·.data.toList)) [32] = joinT v
  | [], h => absurd rfl h
  | [d], _ => by simp [joinT, Lib.join_one]
  | d :: e :: v, _ => by
    have ih := joinT_eq (v := e :: v) (by simp)
    rw [List.map_cons, List.map_cons, Lib.join_cons] at ih ⊢
    rw [joinT, ← ih, List.map_cons, List.map_cons]
    simp [Lib.joinTail]

/-- What Text returns. -/
def textVV (xs : List (Int × Int)) : Value :=
  if validV xs then .tuple #[.string ⟨(textVL xs).toArray⟩, .int .i64 0] else .tuple #[.string ⟨#[]⟩, .int .i64 2]

theorem infoS : (Tryd.prog.info? 9).map (fun i => (i.zero, i.size, i.bytes)) = some (some (.string ⟨#[]⟩), 1, 16) := by kernel_rfl

/-- The texts laid so far. -/
abbrev txtCells (xs : List (Int × Int)) (m : Nat) : List Value := (xs.take m).map (fun d => Value.string (txtB d)) ++ List.replicate (xs.length - m) (.string ⟨#[]⟩)
theorem txtCells_at {xs : List (Int × Int)} {m : Nat} (h : m < xs.length) : (txtCells xs m)[m]? = some (.string ⟨#[]⟩) := by
  have hl : ((xs.take m).map (fun d => Value.string (txtB d))).length = m := by simp; omega
  rw [txtCells, List.getElem?_append_right (by omega), hl, Nat.sub_self, List.getElem?_replicate]
  simp; omega
theorem txtCells_set {xs : List (Int × Int)} {m : Nat} {d : Int × Int} (h : xs[m]? = some d) : (txtCells xs m).set m (.string (txtB d)) = txtCells xs (m + 1) := by
  have hm := (List.getElem?_eq_some_iff.1 h).1
  have hl : ((xs.take m).map (fun d => Value.string (txtB d))).length = m := by simp; omega
  rw [txtCells, txtCells, List.set_append_right _ _ (by omega), hl, Nat.sub_self, take_snoc h]
  obtain ⟨k, hk⟩ : ∃ k, xs.length - m = k + 1 := ⟨xs.length - m - 1, by omega⟩
  rw [hk, show xs.length - (m + 1) = k by omega, List.replicate_succ]
  simp

set_option maxRecDepth 100000 in
set_option maxHeartbeats 2000000 in
theorem vecText (A : Option Addr) (xs : List (Int × Int)) (c : Nat) (w : World) (hx : Holds w (.slice A xs.length c) xs) (hm : xs.length ≤ 100000) (ht : TabOK w) :
    Calls Tryd.prog 47 #[.slice A xs.length c] w fun e w' => e = .returned (textVV xs) ∧ Below w.heap.size w w' := by
  obtain ⟨i0, hi0, hz0, hz1, hz2⟩ := info_parts infoS
  have HX := Lib.hid hx
  obtain ⟨_, _, e0, hxA, _, _⟩ := hx
  cases e0
  have HXA := Lib.hid hxA
  have HT := Lib.hid ht
  clear hxA ht
  cases hva : validV xs
  · have hV : textVV xs = .tuple #[.string ⟨#[]⟩, .int .i64 2] := by simp [textVV, hva]
    rw [hV]
    have HVA := Lib.hid hva; clear hva hV
    go_enter Tryd.func47, Tryd.ntmps47
    go_wp2_with fail
    refine (vecValid_h _ xs false _ HX.out HVA.out).mono ?_
    rintro e w1 ⟨rfl, hb1⟩
    have HB1 := Lib.hid hb1; clear hb1
    go_wp2_with fail
    go_ret2
    exact ⟨rfl, HB1.out⟩
  · by_cases h0 : xs.length = 0
    · have hnil : xs = [] := List.eq_nil_of_length_eq_zero h0
      have hV : textVV xs = .tuple #[.string ⟨#[45]⟩, .int .i64 0] := by rw [textVV, hva, hnil]; rfl
      rw [hV]
      have HVA := Lib.hid hva
      have hl : ((xs.length : Int) == 0) = true := by rw [h0]; rfl
      clear hva hV hnil
      have H0 := Lib.hid h0
      clear h0
      go_enter Tryd.func47, Tryd.ntmps47
      go_wp2_with fail
      refine (vecValid_h _ xs true _ HX.out HVA.out).mono ?_
      rintro e w1 ⟨rfl, hb1⟩
      have HB1 := Lib.hid hb1; clear hb1
      go_wp2_with fail
      go_ret2
      exact ⟨rfl, HB1.out⟩
    · have hall := ((validV_iff xs).1 hva).1
      have hne : xs ≠ [] := fun e => h0 (by rw [e]; rfl)
      have hV : textVV xs = .tuple #[.string ⟨(joinT xs).toArray⟩, .int .i64 0] := by simp [textVV, hva, textVL, hne]
      rw [hV]
      have hl : ((xs.length : Int) == 0) = false := by simp; exact hne
      have HVA := Lib.hid hva
      have HALL := Lib.hid hall
      have HNE := Lib.hid hne
      clear hva hV hall hne h0
      go_enter Tryd.func47, Tryd.ntmps47
      go_wp2_with fail
      refine (vecValid_h _ xs true _ HX.out HVA.out).mono ?_
      rintro e w1 ⟨rfl, hb1⟩
      have HB1 := Lib.hid hb1; clear hb1
      go_wp2_with (first
        | (at_make; refine wpList_make_full _ rfl (.tmp 14) (.tmp 14) 86 rfl w1.heap.size 9 i0 _ 1 Tryd.underlying86 hi0 hz0 hz1 .i64 .i64 _ _ xs.length rfl rfl rfl rfl (by rw [hz2]; omega) (by unfold maxLen; omega) (Nat.le_refl _) ?_; intro w2 hown2 hg2)
        | go_in)
      have hown3 : w2.ownsRow w1.heap.size 9 1 (.slice (some ⟨w1.heap.size, 0, none⟩) xs.length xs.length) xs.length (txtCells xs 0) := by
        have e : (madeCells (Value.string ⟨#[]⟩).cells (xs.length * 1)).toList = txtCells xs 0 := by
          rw [show (Value.string ⟨#[]⟩).cells = #[.string ⟨#[]⟩] from rfl, toList_madeCells_one]
          simp [txtCells]
        rw [← e]; exact hown2
      have hB2 : Below w.heap.size w w2 := HB1.out.grown hg2 HB1.out.size (fun k hk => by cases hk)
      have hgs := hg2.size
      have HOW := Lib.hid hown3
      have HB2 := Lib.hid hB2
      clear hown2 hown3 hg2 hB2
      go_loopw [5, 6, 18] (fun _ _ i wr => ∃ m : Nat, m ≤ xs.length ∧ i = .int .i64 m ∧ Hid (wr.ownsRow w1.heap.size 9 1 (.slice (some ⟨w1.heap.size, 0, none⟩) xs.length xs.length) xs.length (txtCells xs m)) ∧ Hid (Below w.heap.size w wr)) (fun _ _ i _ => xs.length - (intOf i).toNat)
      case atStart => exact ⟨0, by omega, rfl, HOW, HB2⟩
      case round =>
        obtain ⟨m, hk2, rfl, ho, hB⟩ := hrel
        by_cases hlt : m < xs.length
        · obtain ⟨b, off, r, q, rfl, hbl, hx1, hc0, hc1⟩ := (HXA.out.below hB.out).dot hlt
          have hvd : validD r q = true := HALL.out _ (List.mem_of_getElem? hx1)
          have hTT : textV r q = .tuple #[.string (txtB (r, q)), .int .i64 0] := by simp [textV, hvd]
          have hst := txtCells_set hx1
          have hat := txtCells_at hlt
          have hal : Below wr.heap.size wr (wr.alloc (.cells #[.int .i64 r, .int .i64 q] 23)) := (Below.refl _ wr).alloc (Nat.le_refl _) _
          have htx := dotText r q _ ((HT.out.below hB.out).below hal)
          rw [hTT] at htx
          generalize txtB (r, q) = tb at htx hst
          have HTX := Lib.hid htx
          have HST := Lib.hid hst
          have HAT := Lib.hid hat
          have HAL := Lib.hid hal
          clear hx1 hvd hTT hst hat hal htx
          go_wp2_with fail
          refine HTX.out.mono ?_
          rintro e w3 ⟨rfl, hb3⟩
          have hb4 := below_trans HAL.out hb3
          have ho3 := ho.out.kept (grown_of_below2 hb4 none) (by simp [Value.ownBlock])
          have hc := ho3.cells (g := w1.heap.size) rfl m _ HAT.out
          rw [Addr_add, Nat.zero_add] at hc
          have hf : w3.frozen? ⟨w1.heap.size, m, none⟩ = false := ho3.frozenAt _
          obtain ⟨hs1, hs2⟩ := ho3.stored m (.string tb)
          rw [HST.out] at hs1
          have hB4 := hB.out.trans (hb4.mono hB.out.size)
          have hB5 := hB4.grown hs2 hB4.size (fun k hk => by cases hk; exact HB1.out.size)
          have HS1 := Lib.hid hs1
          have HB5 := Lib.hid hB5
          clear hb3 hb4 ho3 hs1 hs2 hB4 hB5
          go_wp2_with fail
          exact ⟨⟨m + 1, by omega, by go_num, HS1, HB5⟩, by simp [intOf]; omega⟩
        · have hmx : txtCells xs m = (xs.map txtB).map Value.string := by
            rw [txtCells, List.take_of_length_le (by omega), show xs.length - m = 0 by omega]
            simp
          have ho2 := ho.out
          rw [hmx] at ho2
          have hj := joinT_eq HNE.out
          have hjl := joinT_short HALL.out
          have hbl : w1.heap.size < wr.heap.size := (ho2.lt w1.heap.size rfl).2
          have hcl := fun (j : Nat) (x : ByteArray) (hx : (xs.map txtB)[j]? = some x) => (show wr.cell? ⟨w1.heap.size, 0 + j, none⟩ = some (.string x) by
            have h := ho2.cells (g := w1.heap.size) rfl j (.string x) (by rw [List.getElem?_map, hx]; rfl)
            rwa [Addr_add] at h)
          have hJ := Any.strings_Join Tryd.laysJoin Tryd.joinExtra w1.heap.size 0 xs.length (xs.map txtB) ⟨#[32]⟩ wr hcl hbl (by simp; omega) (by simp) (by rw [hj]; omega)
          rw [hj, List.length_map] at hJ
          have hJ' : Calls Tryd.prog 66 #[.slice (some ⟨w1.heap.size, 0, none⟩) xs.length xs.length, .string ⟨#[32]⟩] wr fun e w' => e = .returned (.string ⟨(joinT xs).toArray⟩) ∧ Below wr.heap.size wr w' := hJ
          obtain ⟨tj, htj⟩ : ∃ tj : ByteArray, tj = ⟨(joinT xs).toArray⟩ := ⟨_, rfl⟩
          rw [← htj] at hJ'
          have HTJ := Lib.hid htj
          have HJ := Lib.hid hJ'
          clear hmx ho2 hj hjl hbl hcl hJ hJ' htj
          go_wp2_with fail
          refine HJ.out.mono ?_
          rintro e w3 ⟨rfl, hb3⟩
          have HB3 := Lib.hid (hB.out.trans (hb3.mono hB.out.size)); clear hb3
          go_wp2_with fail
          go_ret2
          exact ⟨by rw [← HTJ.out]; rfl, HB3.out⟩

end Go.Proofs.YteeigngomleijaaDoor
