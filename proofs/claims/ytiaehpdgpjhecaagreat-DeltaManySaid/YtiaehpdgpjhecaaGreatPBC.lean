/- Several texts in one: DelU, DelV, DelX, DelY. -/
import Derived.Test.YtiaehpdgpjhecaaGreatPAX
import Derived.Test.YtiaehpdgpjhecaaGreatPBA
import Derived.Test.YtiaehpdgpjhecaaGreatPBB
import Derived.Test.YtiaehpdgpjhecaaGreatPAW
import Derived.Test.YtiaehpdgpjhecaaGreatPAZ
import Derived.Test.YtiaehpdgpjhecaaGreatPAF
import Derived.Test.YtiaehpdgpjhecaaGreatPAV
namespace Go.Proofs.YtiaehpdgpjhecaaGreat

section
open Go.RowKit
open Go.ChangeShapes Go.WideShapes Go.ChangeAt

theorem delOK : DelOK where
  add := fun c r s nm q W hc hf hl => delAdd c r s nm q W hc hf hl
  set := fun c r s nm q W hc hf hl => delSet c r s nm q W hc hf hl
  rem := fun c nm W hc hf hl => delRemove c nm W hc hf.k hl
  cle := fun c W hc hf => delClear c W hc hf.k
  emp := fun c b W hc hm hb => delEmpty c b W hc hm hb
  fre := fun c r s b W hc hf hb => delFresh c r s b W hc hf.k hb
theorem known12T : KnownD := known12 delOK

section
variable {H : Type} {enc : TypeId × Value → H} {P : Program} {w : World} {base : Nat} {spare : Nat → Bool} {held : Bool}
end

end

section
open Go.RowKit

section
variable {a b : Nat}
theorem putB_no {c : Ca} {d : Int × Int} {nm : List UInt8} {q : Int} {set : Bool} {k : Nat} (h : putE c d nm q set = k) (hk : k ≠ 0) : putB c d nm q set kZ (k : Int) = true := by
  unfold putB
  rw [putD_f (by rw [h]; exact hk), h, sameC_iff.2 (show zeroK = kZ from rfl)]
  simp
end

theorem KSr.add {w W : World} {B : List (Nat × CaV)} {D : List (Nat × (Int × Int))} {L : List (Value × Sr)} {g : Nat} {z : CaV} (h : KSr w B D L W) (hb : BlkC W g z) (ho : CaOK W z) : KSr w (B ++ [(g, z)]) D [] W :=
  ⟨⟨fun p hp => by
    rcases List.mem_append.1 hp with k | k
    · exact h.kk.box p k
    · obtain rfl : p = (g, z) := by simpa using k
      exact ⟨hb, ho⟩, h.kk.bel⟩, h.dd, fun _ h => (by cases h)⟩

end

section
open Go.RowKit

def nmM (i : Nat) : List UInt8 := [UInt8.ofNat (97 + i / 16), UInt8.ofNat (97 + i % 16)]
def itM (i : Nat) : It := (nmM i, [⟨1, (i : Int) + 1, 5, 7⟩])
def itsM (n : Nat) : List It := (List.range n).map itM
def kM (n : Nat) : Ca := (([(1, (n : Int))], []), itsM n)
theorem itsM_succ (n : Nat) : itsM (n + 1) = itsM n ++ [itM n] := by unfold itsM; rw [List.range_succ, List.map_append]; rfl
theorem itsM_len (n : Nat) : (itsM n).length = n := by unfold itsM; simp
theorem mem_itsM {n : Nat} {x : It} : x ∈ itsM n ↔ ∃ i, i < n ∧ itM i = x := by unfold itsM; simp
theorem before_iff {a b c d : UInt8} : beforeN [a, b] [c, d] = true ↔ a.toNat < c.toNat ∨ (a.toNat = c.toNat ∧ b.toNat < d.toNat) := by
  unfold beforeN
  unfold beforeN
  unfold beforeN
  by_cases h1 : a = c
  · subst h1
    rw [if_pos rfl]
    by_cases h2 : b = d
    · subst h2; simp
    · rw [if_neg h2]; simp
  · rw [if_neg h1]
    have : a.toNat ≠ c.toNat := fun e => h1 (UInt8.toNat_inj.1 e)
    simp [this]
set_option maxRecDepth 100000 in
theorem okM_all : ((List.range 300).all fun i => okI (itM i)) = true := by decide +kernel
theorem okM {i : Nat} (h : i < 300) : okI (itM i) = true := List.all_eq_true.1 okM_all i (List.mem_range.2 h)
theorem beforeM {i j : Nat} (h : i < j) (hj : j < 300) : beforeN (nmM i) (nmM j) = true := by
  unfold nmM
  rw [before_iff]
  simp only [UInt8.toNat_ofNat']
  omega
theorem meetM {i j : Nat} (h : i ≠ j) : meetN (itM i).2 (itM j).2 = false := by
  unfold itM
  rw [meet_no]
  intro a ha b hb
  have ha : a = (1, (i : Int) + 1) := by simpa [dotsM, dotM] using ha
  have hb : b = (1, (j : Int) + 1) := by simpa [dotsM, dotM] using hb
  rw [ha, hb]
  intro e
  have := congrArg Prod.snd e
  dsimp only at this
  omega
theorem goodM {n : Nat} (h : n ≤ 300) : Good (itsM n) := by
  refine ⟨fun x hx => ?_, ?_, ?_⟩
  · obtain ⟨i, hi, rfl⟩ := mem_itsM.1 hx
    exact okM (by omega)
  · unfold IncN itsM
    rw [List.pairwise_map]
    refine List.pairwise_lt_range.imp_of_mem fun {i j} hi hj hlt => beforeM hlt ?_
    have := List.mem_range.1 hj; omega
  · unfold itsM
    rw [List.pairwise_map]
    exact List.pairwise_lt_range.imp fun hlt => meetM (by omega)
theorem dotsM_in {n : Nat} {d : Int × Int} (h : d ∈ dotsI (itsM n)) : ∃ i, i < n ∧ d = (1, (i : Int) + 1) := by
  obtain ⟨x, hx, m, hm, he⟩ := mem_dotsI.1 h
  obtain ⟨i, hi, rfl⟩ := mem_itsM.1 hx
  have : m = ⟨1, (i : Int) + 1, 5, 7⟩ := by simpa [itM] using hm
  subst this
  exact ⟨i, hi, he.symm⟩
section
variable {n : Nat}
theorem hasM (h0 : 0 < n) (h : n ≤ 300) (r c : Int) : hasC [(1, (n : Int))] [] r c = decide (r = 1 ∧ 1 ≤ c ∧ c ≤ n) := by
  rw [Bool.eq_iff_iff, hasC_iff]
  simp [hasV_iff, validD, getV]
  by_cases e : 1 = r
  · subst e; simp; omega
  · have : ¬ r = 1 := fun k => e k.symm
    simp [e, this]; omega
theorem kM_valid (h0 : 0 < n) (h : n ≤ 300) : validK (kM n) = true := by
  refine validK_iff.2 ⟨?_, goodM h, fun d hd => ?_⟩
  · refine compC_iff.2 ⟨fun d hd => (by cases hd), validC_iff.2 ⟨(validV_iff _).2 ⟨fun p hp => ?_, List.pairwise_singleton _ _⟩, List.Pairwise.nil, fun p hp => (by cases hp)⟩⟩
    obtain rfl : p = (1, (n : Int)) := by simpa [kM] using hp
    simp [validD]; omega
  · obtain ⟨i, hi, rfl⟩ := dotsM_in hd
    show hasC [(1, (n : Int))] [] 1 ((i : Int) + 1) = true
    rw [hasM h0 h]
    simp; omega
theorem timeM (h0 : 0 < n) (h : n ≤ 300) : timeC (kM n) = (8, 0) := by
  have hv := kM_valid h0 h
  unfold timeC
  rw [if_pos hv]
  have hall : ∀ m ∈ (itsM n).flatMap (·.2), validM m = true ∧ m.t = 7 := fun m hm => by
    obtain ⟨x, hx, hm⟩ := List.mem_flatMap.1 hm
    obtain ⟨i, hi, rfl⟩ := mem_itsM.1 hx
    have h1 := (okI_parts (okM (i := i) (by omega))).2.2.1
    have e : m = ⟨1, (i : Int) + 1, 5, 7⟩ := by simpa [itM] using hm
    refine ⟨List.all_eq_true.1 h1 m hm, ?_⟩
    rw [e]
  have h1 : ((itsM n).flatMap (·.2)).all validM = true := List.all_eq_true.2 fun m hm => (hall m hm).1
  show nextV validM ((itsM n).flatMap (·.2)) = _
  unfold nextV
  rw [if_pos h1]
  cases hn : newestN ((itsM n).flatMap (·.2)) with
  | none =>
    exfalso
    obtain ⟨k, rfl⟩ := Nat.exists_eq_succ_of_ne_zero (Nat.pos_iff_ne_zero.1 h0)
    rw [itsM, List.range_succ_eq_map, List.map_cons, List.flatMap_cons] at hn
    cases hn
  | some m =>
    have := (hall m (newestN_max hn).1).2
    dsimp only
    rw [this]; rfl
theorem kM_fresh (h0 : 0 < n) (h : n ≤ 300) : freshK (kM n) (1, (n : Int) + 1) = true := by
  refine fresh_iff.2 ⟨kM_valid h0 h, by simp [validD]; omega, ?_⟩
  show hasC [(1, (n : Int))] [] 1 ((n : Int) + 1) = false
  rw [hasM h0 h]
  simp; omega
theorem thereM_no : thereN (kM n) [126] = false := by
  unfold thereN
  rw [List.any_eq_false]
  intro x hx
  obtain ⟨i, _, rfl⟩ := mem_itsM.1 (show x ∈ itsM n from hx)
  simp [itM, nmM]
theorem thereM_aa (h0 : 0 < n) : thereN (kM n) [97, 97] = true := List.any_eq_true.2 ⟨itM 0, mem_itsM.2 ⟨0, h0, rfl⟩, by decide⟩
theorem dotsM_no (h0 : 0 < n) (h : n ≤ 300) : dotsC (kM n) [126] = [] := by
  rw [dotsC_t (kM_valid h0 h)]
  unfold dotsK
  rw [if_neg (by decide)]
  have : (kM n).2.find? (fun x => x.1 == [126]) = none := by
    rw [List.find?_eq_none]
    intro x hx
    obtain ⟨i, _, rfl⟩ := mem_itsM.1 (show x ∈ itsM n from hx)
    simp [itM, nmM]
  rw [this]
theorem dotsM_aa (h0 : 0 < n) (h : n ≤ 300) : dotsC (kM n) [97, 97] = [(1, 1)] := by
  rw [dotsC_t (kM_valid h0 h)]
  unfold dotsK
  rw [if_neg (by decide)]
  have : (kM n).2.find? (fun x => x.1 == [97, 97]) = some (itM 0) := by
    obtain ⟨k, rfl⟩ := Nat.exists_eq_succ_of_ne_zero (Nat.pos_iff_ne_zero.1 h0)
    show (itsM (k + 1)).find? _ = _
    rw [itsM, List.range_succ_eq_map, List.map_cons, List.find?_cons_of_pos (by decide)]
  rw [this]; rfl
theorem addM (h0 : 254 ≤ n) (h : n ≤ 258) : addC [] [] [(1, (n : Int) + 1)] = ([], [(1, (n : Int) + 1)]) ∧ addC [] [] [(1, (n : Int) + 1), (1, 1)] = ([(1, 1)], [(1, (n : Int) + 1)]) := by
  obtain rfl | rfl | rfl | rfl | rfl : n = 254 ∨ n = 255 ∨ n = 256 ∨ n = 257 ∨ n = 258 := by omega
  all_goals decide +kernel
/-- What Add and Set return. -/
theorem km1 (h0 : 256 ≤ n) (h : n ≤ 258) : putB (kM n) (1, (n : Int) + 1) [126] 3 false kZ 13 = true :=
  putB_no (k := 13) ((putE_add (kM_fresh (by omega) (by omega)) (by decide) (by decide) (b := false) (by rw [thereM_no, show (kM n).2 = itsM n from rfl, itsM_len]; simp; omega)).trans (if_neg (by decide))) (by decide)
theorem putB_yes {c : Ca} {d : Int × Int} {nm : List UInt8} {q : Int} {set : Bool} {x : Ca} (h : putE c d nm q set = 0) (hx : putD c d nm q set = x) : putB c d nm q set x 0 = true := by
  unfold putB
  rw [h, sameC_iff.2 hx]
  simp
theorem km2 (h0 : 254 ≤ n) (h : n < 256) : putB (kM n) (1, (n : Int) + 1) [126] 3 false (([], [(1, (n : Int) + 1)]), [([126], [⟨1, (n : Int) + 1, 3, 8⟩])]) 0 = true := by
  have h1 : putE (kM n) (1, (n : Int) + 1) [126] 3 false = 0 := (putE_add (kM_fresh (by omega) (by omega)) (by decide) (by decide) (b := true) (by rw [show (kM n).2 = itsM n from rfl, itsM_len, decide_eq_true h]; rfl)).trans (by rw [if_pos rfl, timeM (by omega) (by omega)])
  refine putB_yes h1 ?_
  rw [putD_t h1, timeM (by omega) (by omega), dotsM_no (by omega) (by omega)]
  unfold deltaD
  rw [(addM h0 (by omega)).1]
theorem km3 (h0 : 254 ≤ n) (h : n ≤ 258) (set : Bool) : putB (kM n) (1, (n : Int) + 1) [97, 97] 3 set (([(1, 1)], [(1, (n : Int) + 1)]), [([97, 97], [⟨1, (n : Int) + 1, 3, 8⟩])]) 0 = true := by
  have h1 : putE (kM n) (1, (n : Int) + 1) [97, 97] 3 set = 0 := by
    cases set with
    | false => exact (putE_add (kM_fresh (by omega) (by omega)) (by decide) (by decide) (b := true) (by rw [thereM_aa (by omega)]; simp)).trans (by rw [if_pos rfl, timeM (by omega) (by omega)])
    | true => exact (putE_set (kM_fresh (by omega) (by omega)) (by decide) (by decide) (b := true) (thereM_aa (by omega))).trans (by rw [if_pos rfl, timeM (by omega) (by omega)])
  refine putB_yes h1 ?_
  rw [putD_t h1, timeM (by omega) (by omega), dotsM_aa (by omega) (by omega)]
  unfold deltaD
  rw [(addM h0 h).2]
theorem km4 (h0 : 254 ≤ n) (h : n ≤ 258) : putB (kM n) (1, (n : Int) + 1) [126] 3 true kZ 9 = true :=
  putB_no (k := 9) ((putE_set (kM_fresh (by omega) (by omega)) (by decide) (by decide) (b := false) thereM_no).trans (if_neg (by decide))) (by decide)
theorem fitsD_kM {c : CaV} (e : c.ca = kM n) (h : n ≤ 258) : FitsD c := by
  have e1 : c.vs = [(1, (n : Int))] := congrArg (fun a : Ca => a.1.1) e
  have e2 : c.ls = [] := congrArg (fun a : Ca => a.1.2) e
  have e3 : its c.xs = itsM n := congrArg (fun a : Ca => a.2) e
  have hx : c.xs.length = n := by rw [← its_len, e3, itsM_len]
  have hm : ∀ x ∈ c.xs, ∃ i, x.it = itM i := fun x hx => by
    have : x.it ∈ itsM n := by rw [← e3]; exact List.mem_map.2 ⟨x, hx, rfl⟩
    obtain ⟨i, _, hi⟩ := mem_itsM.1 this
    exact ⟨i, hi.symm⟩
  have hd : (dotsI (its c.xs)).length ≤ n := by
    have h1 := dotsI_cnt (its c.xs)
    rw [e3] at h1 ⊢
    have h2 : cntM (itsM n) = n := by
      clear e e1 e2 e3 hx hm h1 h
      induction n with
      | zero => rfl
      | succ k ih =>
        rw [itsM_succ]
        have : cntM (itsM k ++ [itM k]) = cntM (itsM k) + 1 := by simp [cntM, itM]
        rw [this, ih]
    omega
  refine ⟨⟨⟨by omega, fun x hx => ?_⟩, ?_⟩, by omega, fun m hm' => ?_⟩
  · obtain ⟨i, hi⟩ := hm x hx
    have h1 : x.nm = nmM i := congrArg Prod.fst hi
    have h2 : x.ms = [⟨1, (i : Int) + 1, 5, 7⟩] := congrArg Prod.snd hi
    rw [h1, h2]
    exact ⟨by unfold nmM; simp, by simp⟩
  · rw [e1, e2]; simp; omega
  · obtain ⟨x, hx, hm2⟩ := List.mem_flatMap.1 hm'
    obtain ⟨i, hi⟩ := hm x hx
    have h2 : x.ms = [⟨1, (i : Int) + 1, 5, 7⟩] := congrArg Prod.snd hi
    rw [h2] at hm2
    obtain rfl : m = ⟨1, (i : Int) + 1, 5, 7⟩ := by simpa using hm2
    show 7 < 18446744073709551616
    decide
end

end

section
open Go.RowKit

abbrev mkM (k : Nat) : Mk := ⟨1, (k : Int) + 1, 5, 7⟩
abbrev yM (k q : Nat) : ItV := ⟨nmM k, some ⟨q, 0, none⟩, 1, [mkM k]⟩
/-- The cart in its box at g, its context at gd. -/
structure KMy (w : World) (g gd n : Nat) (iv : Value) (ys : List ItV) (W : World) : Prop where
  bel : Below w.heap.size w W
  gb : w.heap.size ≤ g
  box : W.heap[g]? = some (.cells #[.slice (some ⟨gd, 0, none⟩) 1 1, .slice (some ⟨gd, 0, none⟩) 0 0, iv] 28 (0, 0))
  row : W.heap[gd]? = some (.cells #[.int .i64 1, .int .i64 (n : Int)] 30 (0, 0))
  own : OwnI W w.heap.size iv ys
/-- Behind the append: the box still has the old row. -/
structure KMo (w : World) (g gd n : Nat) (iv v' : Value) (zs : List ItV) (W : World) : Prop where
  bel : Below w.heap.size w W
  gb : w.heap.size ≤ g
  box : W.heap[g]? = some (.cells #[.slice (some ⟨gd, 0, none⟩) 1 1, .slice (some ⟨gd, 0, none⟩) 0 0, iv] 28 (0, 0))
  row : W.heap[gd]? = some (.cells #[.int .i64 1, .int .i64 (n : Int)] 30 (0, 0))
  own : OwnI W w.heap.size v' zs
section
variable {w W W' : World} {g gd n k : Nat} {iv v' : Value} {ys zs : List ItV} {y : ItV}
theorem KMy.next (h : KMy w g gd n iv ys W) (hb : BelW W W') : KMy w g gd n iv ys W' :=
  ⟨below_trans h.bel hb, h.gb, (hb.block _ (Array.getElem?_eq_some_iff.1 h.box).1).trans h.box, (hb.block _ (Array.getElem?_eq_some_iff.1 h.row).1).trans h.row, h.own.below hb⟩
theorem KMo.next (h : KMo w g gd n iv v' zs W) (hb : BelW W W') : KMo w g gd n iv v' zs W' :=
  ⟨below_trans h.bel hb, h.gb, (hb.block _ (Array.getElem?_eq_some_iff.1 h.box).1).trans h.box, (hb.block _ (Array.getElem?_eq_some_iff.1 h.row).1).trans h.row, h.own.below hb⟩
theorem KMy.grow (h : KMy w g gd n iv ys W) (hy : RowM W w.heap.size (slV y) y.ms) (hr : W'.ownsRow w.heap.size 50 2 v' (ys ++ [y]).length (cellsOf encIt (ys ++ [y]))) (hg : W.grownBy W' iv.ownBlock) : KMo w g gd n iv v' (ys ++ [y]) W' :=
  ⟨h.bel.grown hg h.bel.size (fun j hj => (h.own.1.lt j hj).1), h.gb, blk_typed h.box h.own.1 (by decide) hg, blk_typed h.row h.own.1 (by decide) hg, OwnI.grow h.own hy hr hg⟩
theorem KMo.stored (h : KMo w g gd n iv v' zs W) : KMy w g gd n v' zs (W.setCell ⟨g, 2, none⟩ v') := by
  have hne : gd ≠ g := by
    rintro rfl
    have := h.box.symm.trans h.row
    injection this with this
    injection this with _ h2 _
    revert h2; decide
  refine ⟨h.bel.setCell (p := ⟨g, 2, none⟩) h.gb _, h.gb, ?_, (Below.heap_setCell W ⟨g, 2, none⟩ v' gd hne).trans h.row, ⟨row_set1 h.own.1 h.box (by decide), fun z hz => row_set1 (h.own.2 z hz) h.box (by decide)⟩⟩
  show (W.heap.modify g _)[g]? = _
  rw [Array.getElem?_modify, if_pos rfl, h.box]
  rfl
theorem KMo.cells (h : KMo w g gd n iv v' zs W) : W.cell? ⟨g, 2, none⟩ = some iv ∧ W.frozen? ⟨g, 2, none⟩ = false ∧ g < W.heap.size := ⟨by simp [World.cell?, h.box], by simp [World.frozen?, h.box], (Array.getElem?_eq_some_iff.1 h.box).1⟩
theorem KMy.cells (h : KMy w g gd n iv ys W) : W.cell? ⟨g, 0, none⟩ = some (.slice (some ⟨gd, 0, none⟩) 1 1) ∧ W.cell? ⟨g, 1, none⟩ = some (.slice (some ⟨gd, 0, none⟩) 0 0) ∧ W.cell? ⟨g, 2, none⟩ = some iv ∧ g < W.heap.size := ⟨by simp [World.cell?, h.box], by simp [World.cell?, h.box], by simp [World.cell?, h.box], (Array.getElem?_eq_some_iff.1 h.box).1⟩
/-- The cart that is in the box. -/
theorem KMy.cart (h : KMy w g gd n iv ys W) : ∃ z : CaV, BlkC W g z ∧ z.ca = (([(1, (n : Int))], []), its ys) ∧ CaOK W z := by
  obtain ⟨I, c, e, h1, h2, h3⟩ := h.own.holds
  have hd : Holds W (.slice (some ⟨gd, 0, none⟩) 1 1) [(1, (n : Int))] := ⟨_, 1, rfl, SlAt.one (enc := encD) h.row, by simp, by simp [maxLen]⟩
  refine ⟨⟨some ⟨gd, 0, none⟩, 1, [(1, (n : Int))], some ⟨gd, 0, none⟩, 0, [], I, c, ys⟩, ?_, rfl, hd, holds_none W _ 0 (by simp [maxLen]), ?_⟩
  · show W.heap[g]? = _
    rw [h.box, e]; rfl
  · exact ⟨I, c, rfl, h1, h2, h3⟩
end
/-- What some of the region's values say until the append. -/
def manF (B k : Nat) : Nat → Value → World → Prop
  | 10, v, W => HoldsB W v (nmM k)
  | 15, v, W => ∃ q, v = .slice (some ⟨q, 0, none⟩) 1 1 ∧ RowM W B (.slice (some ⟨q, 0, none⟩) 1 1) [mkM k]
  | 16, v, W => ∃ q, v = mkIt (yM k q) ∧ RowM W B (.slice (some ⟨q, 0, none⟩) 1 1) [mkM k]
  | 17, v, W => ∃ p q, v = .slice (some ⟨p, 0, none⟩) 1 1 ∧ SlAt encIt 2 W (some ⟨p, 0, none⟩) [yM k q] ∧ RowM W B (.slice (some ⟨q, 0, none⟩) 1 1) [mkM k]
  | _, _, _ => True
def manT : Nat → Nat
  | 10 => 37
  | 15 => 42
  | 16 => 43
  | _ => 44
theorem manF_below {B k j : Nat} {v : Value} {W W' : World} (h : manF B k j v W) (hb : BelW W W') : manF B k j v W' := by
  unfold manF at h ⊢
  split at h
  · exact h.below hb
  · obtain ⟨q, e, h⟩ := h; exact ⟨q, e, RowM.below h hb⟩
  · obtain ⟨q, e, h⟩ := h; exact ⟨q, e, RowM.below h hb⟩
  · obtain ⟨p, q, e, h1, h2⟩ := h; exact ⟨p, q, e, SlAt.below h1 hb, RowM.below h2 hb⟩
  · exact trivial
abbrev inM (j : Nat) : Prop := j = 10 ∨ j = 15 ∨ j = 16 ∨ j = 17
def manG (w : World) (g gd n k : Nat) (iv : Value) (ys : List ItV) (L : Nat → Bool) (a : Act) (W : World) : Prop :=
  Below w.heap.size w W ∧ a.tmps.size = 110 ∧ (L 18 = false → KMy w g gd n iv ys W) ∧
  (∀ j, inM j → L j = true → L 18 = false → manF w.heap.size k j (a.eval (.tmp (manT j))) W) ∧
  (L 18 = true → L 20 = false → ∃ q, KMo w g gd n iv (a.eval (.tmp 45)) (ys ++ [yM k q]) W) ∧
  (L 20 = true → ∃ v q, KMy w g gd n v (ys ++ [yM k q]) W)
theorem more_false {L : Nat → Bool} {k j : Nat} (h : moreL L k j = false) : L j = false := by
  unfold moreL at h; simp at h; exact h.2
theorem more_true {L : Nat → Bool} {k j : Nat} (h : moreL L k j = true) (hj : j ≠ k) : L j = true := by
  unfold moreL at h; simpa [hj] using h
section
variable {w W W' : World} {g gd n k : Nat} {iv v : Value} {ys : List ItV} {L : Nat → Bool} {a : Act}
theorem eval_putD {a : Act} {d : Option Tmp} {v : Value} {t : Nat} (h : d ≠ some t) : (a.put d v).eval (.tmp t) = a.eval (.tmp t) := by
  cases d with
  | none => rfl
  | some d => exact eval_put_ne fun e => h (by rw [e])
theorem manG_step (hG : manG w g gd n k iv ys L a W) (hb : BelW W W') (i : Nat) (d : Option Tmp) (hi : i ≠ 18 ∧ i ≠ 20) (hd : d ≠ some 45)
    (hF : ∀ j, inM j → (j = i → L 18 = false → manF w.heap.size k j v W' ∧ d = some (manT j)) ∧ (j ≠ i → d ≠ some (manT j))) : manG w g gd n k iv ys (moreL L i) (a.put d v) W' := by
  obtain ⟨g0, gn, g1, g2, g3, g4⟩ := hG
  refine ⟨below_trans g0 hb, (put_sz _ _ _).trans gn, fun h => (g1 (more_false h)).next hb, fun j hj h h18 => ?_, fun h h' => ?_, fun h => ?_⟩
  · by_cases e : j = i
    · obtain ⟨h1, h2⟩ := (hF j hj).1 e (more_false h18)
      rw [h2, eval_put_eq (by rw [gn]; unfold manT; split <;> decide)]
      exact h1
    · rw [eval_putD ((hF j hj).2 e)]
      exact manF_below (g2 j hj (more_true h e) (more_false h18)) hb
  · rw [eval_putD hd]
    obtain ⟨q, h1⟩ := g3 (more_true h (Ne.symm hi.1)) (more_false h')
    exact ⟨q, h1.next hb⟩
  · obtain ⟨v, q, h1⟩ := g4 (more_true h (Ne.symm hi.2))
    exact ⟨v, q, h1.next hb⟩
theorem manG_keep (hG : manG w g gd n k iv ys L a W) (hb : BelW W W') (i : Nat) (d : Option Tmp) (v : Value) (hi : i ≠ 18 ∧ i ≠ 20 ∧ ¬ inM i) (hd : d ≠ some 45 ∧ d ≠ some 37 ∧ d ≠ some 42 ∧ d ≠ some 43 ∧ d ≠ some 44) : manG w g gd n k iv ys (moreL L i) (a.put d v) W' :=
  manG_step hG hb i d ⟨hi.1, hi.2.1⟩ hd.1 fun j hj => ⟨fun e => absurd (e ▸ hj) hi.2.2, fun _ => by
    rcases hj with rfl | rfl | rfl | rfl
    · exact hd.2.1
    · exact hd.2.2.1
    · exact hd.2.2.2.1
    · exact hd.2.2.2.2⟩
theorem manG_app (hG : manG w g gd n k iv ys L a W) (hb : Below w.heap.size w W') (h20 : L 20 = false) (q : Nat) (h : KMo w g gd n iv v (ys ++ [yM k q]) W') : manG w g gd n k iv ys (moreL L 18) (a.put (some 45) v) W' := by
  obtain ⟨_, gn, _, _, _, _⟩ := hG
  refine ⟨hb, (put_sz _ _ _).trans gn, fun h => ?_, fun j hj _ h => ?_, fun _ _ => ⟨q, ?_⟩, fun h => ?_⟩
  · rw [moreL_eq] at h; cases h
  · rw [moreL_eq] at h; cases h
  · rw [eval_put_eq (by rw [gn]; decide)]; exact h
  · rw [more_true h (by decide)] at h20; cases h20
theorem manG_store (hG : manG w g gd n k iv ys L a W) (h18 : L 18 = true) (h20 : L 20 = false) : manG w g gd n k iv ys (moreL L 20) (a.put none undef) (W.setCell ⟨g, 2, none⟩ (a.eval (.tmp 45))) := by
  obtain ⟨_, gn, _, _, g3, _⟩ := hG
  obtain ⟨q, h⟩ := g3 h18 h20
  have hs := h.stored
  refine ⟨hs.bel, gn, fun h => ?_, fun j hj _ h => ?_, fun _ h => ?_, fun _ => ⟨_, q, hs⟩⟩
  · rw [moreL_ne (by decide), h18] at h; cases h
  · rw [moreL_ne (by decide), h18] at h; cases h
  · rw [moreL_eq] at h; cases h
end
/-- One of the values is made. -/
theorem inM_one {B k : Nat} {v : Value} {W' : World} {L : Nat → Bool} (i : Nat) (h : inM i → manF B k i v W') {d : Option Tmp} (hd : d = some (manT i) := by rfl) (hi : inM i := by decide) :
    ∀ j, inM j → (j = i → L 18 = false → manF B k j v W' ∧ d = some (manT j)) ∧ (j ≠ i → d ≠ some (manT j)) := by
  intro j hj
  refine ⟨fun e _ => by subst e; exact ⟨h hj, hd⟩, fun e => ?_⟩
  rw [hd]
  rcases hj with rfl | rfl | rfl | rfl <;> rcases hi with rfl | rfl | rfl | rfl <;> first | exact absurd rfl e | decide

/-- What the region's other values say. -/
def manP (g k u r : Nat) (iv : Value) : Nat → Value → World → Prop
  | 0, v, _ => v = .pointer (some ⟨g, 2, none⟩)
  | 1, v, _ => v = iv
  | 2, v, _ => v = .int .i64 (k : Int)
  | 3, v, _ => v = .int .i64 (u : Int)
  | 4, v, _ => v = .int .i64 (97 + (u : Int))
  | 5, v, _ => v = .int .u8 (97 + (u : Int))
  | 6, v, _ => v = .int .i64 (k : Int)
  | 7, v, _ => v = .int .i64 (r : Int)
  | 8, v, _ => v = .int .i64 (97 + (r : Int))
  | 9, v, _ => v = .int .u8 (97 + (r : Int))
  | 11, v, _ => v = .string ⟨(nmM k).toArray⟩
  | 12, v, _ => v = .int .i64 (k : Int)
  | 13, v, _ => v = .int .i64 ((k : Int) + 1)
  | 14, v, _ => v = mkV (mkM k)
  | 19, v, _ => v = .pointer (some ⟨g, 2, none⟩)
  | _, _, _ => True
theorem manP_turn {g k u r j : Nat} {iv v : Value} {W W' : World} (h : manP g k u r iv j v W) : manP g k u r iv j v W' := by
  unfold manP at h ⊢
  split at h <;> first | exact h | exact trivial
/-- A row of marks, of items, of bytes that is written out. -/
theorem own_mark (W : World) (B : Nat) (hB : B ≤ W.heap.size) (k : Nat) : RowM (W.alloc (.cells #[.int .i64 1, .int .i64 ((k : Int) + 1), .int .i64 5, .int .u64 7] 55)) B (.slice (some ⟨W.heap.size, 0, none⟩) 1 1) [mkM k] :=
  ⟨rfl, .inr ⟨W.heap.size, 1, #[.int .i64 1, .int .i64 ((k : Int) + 1), .int .i64 5, .int .u64 7], rfl, hB, heap_alloc_new W _, Nat.le_refl _, by simp [maxLen], rfl, rfl⟩⟩
theorem lit_bytes (W : World) (k u r : Nat) (hu : k / 16 = u) (hr : k % 16 = r) (hk : k < 300) : HoldsB (W.alloc (.cells #[.int .u8 (97 + (u : Int)), .int .u8 (97 + (r : Int))] 5)) (.slice (some ⟨W.heap.size, 0, none⟩) 2 2) (nmM k) := by
  have h := HoldsB.lit W (nmM k) (by unfold nmM; simp [maxLen])
  have e : cellsOf encB (nmM k) = [.int .u8 (97 + (u : Int)), .int .u8 (97 + (r : Int))] := by
    show [Value.int .u8 ((UInt8.ofNat (97 + k / 16)).toNat : Int), Value.int .u8 ((UInt8.ofNat (97 + k % 16)).toNat : Int)] = _
    rw [ofNat_toNat (by omega), ofNat_toNat (by omega), hu, hr]
    simp
  rw [e] at h
  exact h

end

end Go.Proofs.YtiaehpdgpjhecaaGreat
