/- Several texts in one: CarD, CarE, CarK, CarL, CarQ. -/
import Derived.Test.YtfmhhmceoikgpaaGreatNA
namespace Go.Proofs.YtfmhhmceoikgpaaGreat

section
open Go.RowKit

set_option maxHeartbeats 1000000 in
theorem refTime10 (c : CaV) (t n : Nat) (w : World) (hc : CaOK w c) (hf : Fits c.xs) (ht : ∀ m ∈ marksX c.xs, m.t < 18446744073709551616) (hv : nextR (marksX c.xs) = (t, n)) :
    Calls Tryz.prog 26 #[mkC c] w (OneB (.tuple #[.int .u64 (t : Int), .int .i64 (n : Int)]) w) := by
  have K0 := Lib.hid (KB1.new w c hc)
  have HF := Lib.hid hf
  have HV := Lib.hid hv
  have HT := Lib.hid ht
  clear hc hf hv ht
  have hl : (marksX c.xs).length ≤ maxLen := by
    have h1 := marksX_len (xs := c.xs) fun y hy => (HF.out.2 y hy).2
    have := HF.out.1
    unfold maxLen; omega
  have HL := Lib.hid hl
  clear hl
  go_enter Tryz.func26, Tryz.ntmps26
  go_wp2_with fail
  generalize World.alloc w _ = w2 at K0 ⊢
  obtain ⟨x0, x1, x2, xl, _⟩ := K0.out.sp
  go_wp2_with fail
  refine (refMarks10 c w2 K0.out.ok HF.out).mono ?_
  rintro e w3 ⟨⟨A, k, rfl, hat⟩, hb⟩
  have HAT := Lib.hid hat
  have KB := Lib.hid (K0.out.next hb).bel
  clear hb hat K0 x0 x1 x2 xl
  go_wp2_with fail
  refine (refNext A (marksX c.xs) k t n w3 HAT.out HL.out HT.out HV.out).mono ?_
  rintro e w4 ⟨rfl, hb⟩
  have KC := Lib.hid (below_trans KB.out hb)
  clear hb KB
  go_wp2_with fail
  go_ret2
  exact ⟨rfl, KC.out⟩

/-- An item with a name, by where it stands. -/
theorem findZ_cases (xs : List ItV) (nm : List UInt8) : (∃ (k : Nat) (x : ItV), xs[k]? = some x ∧ findZ (its xs) nm = (k : Int) ∧ (its xs).find? (fun y => y.1 == nm) = some x.it) ∨ (findZ (its xs) nm = -1 ∧ (its xs).find? (fun y => y.1 == nm) = none) := by
  cases h : (its xs).findIdx? (fun y => y.1 == nm) with
  | none =>
    have h' := h
    rw [List.findIdx?_eq_none_iff] at h'
    refine .inr ⟨by unfold findZ; rw [h], ?_⟩
    rw [List.find?_eq_none]
    intro y hy
    simp [h' y hy]
  | some k =>
    obtain ⟨hk, h1, h2⟩ := List.findIdx?_eq_some_iff_getElem.1 h
    have hk' : k < xs.length := by rwa [its_len] at hk
    have e : (its xs)[k] = xs[k].it := by simp
    refine .inl ⟨k, xs[k], List.getElem?_eq_getElem hk', by unfold findZ; rw [h], ?_⟩
    rw [← e, List.find?_eq_some_iff_getElem]
    exact ⟨h1, k, hk, rfl, fun j hj => by simpa using h2 j hj⟩
/-- The quantity of an item, or the error. -/
def qtyK (l : List It) (nm : List UInt8) : Int × Nat := match l.find? (fun y => y.1 == nm) with
  | some x => ((newR x.2).1.q, 0)
  | none => (0, 9)

set_option maxHeartbeats 1000000 in
theorem refQty10 (c : CaV) (nm : List UInt8) (q : Int) (n : Nat) (w : World) (hc : CaOK w c) (hm : c.xs.length ≤ 100000) (hv : qtyK (its c.xs) nm = (q, n)) :
    Calls Tryz.prog 25 #[mkC c, .string ⟨nm.toArray⟩] w (OneB (.tuple #[.int .i64 q, .int .i64 (n : Int)]) w) := by
  have K0 := Lib.hid (KB1.new w c hc)
  have HV := Lib.hid hv
  clear hc hv
  rcases findZ_cases c.xs nm with ⟨k, x, h1, h2, h3⟩ | ⟨h2, h3⟩
  · have hkl := (List.getElem?_eq_some_iff.1 h1).1
    have i0 : (k : Int) < (c.xs.length : Int) := by omega
    have i1 : ¬ (k : Int) < 0 := by omega
    have i2 : (0 : Int) ≤ (k : Int) := by omega
    obtain ⟨m, j, hmj⟩ : ∃ m j, newR x.ms = (m, j) := ⟨_, _, rfl⟩
    have hq := HV.out
    unfold qtyK at hq
    rw [h3] at hq
    have e1 : (newR x.ms).1.q = q := congrArg Prod.fst hq
    have e2 : 0 = n := congrArg Prod.snd hq
    rw [hmj] at e1
    have e1' : m.q = q := e1
    subst e2
    have H2 := Lib.hid h2
    have HMJ := Lib.hid hmj
    have HQ := Lib.hid e1'
    have H1 := Lib.hid h1
    clear h1 h2 h3 hq e1 e1' hmj HV
    go_enter Tryz.func25, Tryz.ntmps25
    go_upto_region 1 with fail
    generalize World.alloc w _ = w2 at K0 ⊢
    obtain ⟨x0, x1, x2, xl, _⟩ := K0.out.sp
    obtain ⟨b, off, y, hI, hbl, hy1, hyk, hc0, hc1, hok⟩ := K0.out.items.cells (j := k) hkl
    obtain rfl : y = x := by rw [H1.out] at hy1; exact (Option.some.inj hy1).symm
    have HOK := Lib.hid hok
    have HFD := Lib.hid (refFind9 c.I c.xs c.ni nm (k : Int) w2 K0.out.items hm H2.out)
    change w2.cell? _ = some (.slice c.I c.xs.length c.ni) at x2
    rw [hI] at x2 HFD
    clear hyk hy1 hok hI hkl H1
    go_wp2_with fail
    refine HFD.out.mono ?_
    rintro e wq ⟨rfl, rfl⟩
    go_wp2_with fail
    refine (refQty9 y m j w2 HOK.out HMJ.out).mono ?_
    rintro e w3 ⟨rfl, hb⟩
    have KB := Lib.hid (K0.out.next hb).bel
    clear hb K0 x0 x1 x2 xl hc0 hc1 hbl
    go_wp2_with fail
    go_ret2
    exact ⟨by rw [← HQ.out]; rfl, KB.out⟩
  · have hq := HV.out
    unfold qtyK at hq
    rw [h3] at hq
    have e1 : 0 = q := congrArg Prod.fst hq
    have e2 : 9 = n := congrArg Prod.snd hq
    subst e1 e2
    have H2 := Lib.hid h2
    clear h2 h3 hq HV
    go_enter Tryz.func25, Tryz.ntmps25
    go_upto_region 1 with fail
    generalize World.alloc w _ = w2 at K0 ⊢
    obtain ⟨x0, x1, x2, xl, _⟩ := K0.out.sp
    go_wp2_with fail
    refine (refFind9 c.I c.xs c.ni nm (-1) w2 K0.out.items hm H2.out).mono ?_
    rintro e wq ⟨rfl, rfl⟩
    have KB := Lib.hid K0.out.bel
    clear K0 x0 x1 x2 xl
    go_wp2_with fail
    go_ret2
    exact ⟨rfl, KB.out⟩

/-- The dots of an item, or of all. -/
def dotsK (l : List It) (nm : List UInt8) : List (Int × Int) := if nm = [] then dotsI l else match l.find? (fun y => y.1 == nm) with
  | some x => dotsM x.2
  | none => []

set_option maxHeartbeats 1000000 in
theorem refDots10 (c : CaV) (nm : List UInt8) (w : World) (hc : CaOK w c) (hf : Fits c.xs) :
    Calls Tryz.prog 31 #[mkC c, .string ⟨nm.toArray⟩] w fun e w' => (∃ v, e = .returned v ∧ Holds w' v (dotsK (its c.xs) nm)) ∧ Below w.heap.size w w' := by
  have K0 := Lib.hid (KB1.new w c hc)
  have HF := Lib.hid hf
  have hm : c.xs.length ≤ 100000 := Nat.le_trans hf.1 (by decide)
  clear hc hf
  cases nm with
  | nil =>
    have HE := Lib.hid (show dotsK (its c.xs) [] = dotsI (its c.xs) from by unfold dotsK; rw [if_pos rfl])
    go_enter Tryz.func31, Tryz.ntmps31
    go_upto_region 1 with fail
    generalize World.alloc w _ = w2 at K0 ⊢
    obtain ⟨x0, x1, x2, xl, _⟩ := K0.out.sp
    go_wp2_with fail
    refine (refDots_x _ c.xs w2 K0.out.ok.2.2 HF.out).mono ?_
    rintro e w3 ⟨⟨v, rfl, hv⟩, hb⟩
    have HH := Lib.hid hv
    have KB := Lib.hid (K0.out.next hb).bel
    clear hb hv K0 x0 x1 x2 xl
    go_wp2_with fail
    go_ret
    exact ⟨⟨_, rfl, by rw [HE.out]; exact HH.out⟩, KB.out⟩
  | cons a r =>
    have hs : ((a :: r) == ([] : List UInt8)) = false := rfl
    generalize hnm : a :: r = nm at hs ⊢
    have hne : nm ≠ [] := by rw [← hnm]; simp
    clear hnm
    rcases findZ_cases c.xs nm with ⟨k, x, h1, h2, h3⟩ | ⟨h2, h3⟩
    · have hkl := (List.getElem?_eq_some_iff.1 h1).1
      have i0 : (k : Int) < (c.xs.length : Int) := by omega
      have i1 : ¬ (k : Int) < 0 := by omega
      have i2 : (0 : Int) ≤ (k : Int) := by omega
      have HE := Lib.hid (show dotsK (its c.xs) nm = dotsM x.ms from by unfold dotsK; rw [if_neg hne, h3]; rfl)
      have H2 := Lib.hid h2
      have H1 := Lib.hid h1
      have hx100 := (HF.out.2 x (List.mem_of_getElem? h1)).2
      clear h1 h2 h3 hne
      go_enter Tryz.func31, Tryz.ntmps31
      go_upto_region 1 with fail
      generalize World.alloc w _ = w2 at K0 ⊢
      obtain ⟨x0, x1, x2, xl, _⟩ := K0.out.sp
      obtain ⟨b, off, y, hI, hbl, hy1, hyk, hc0, hc1, hok⟩ := K0.out.items.cells (j := k) hkl
      obtain rfl : y = x := by rw [H1.out] at hy1; exact (Option.some.inj hy1).symm
      have HOK := Lib.hid hok
      have HFD := Lib.hid (refFind9 c.I c.xs c.ni nm (k : Int) w2 K0.out.items hm H2.out)
      change w2.cell? _ = some (.slice c.I c.xs.length c.ni) at x2
      rw [hI] at x2 HFD
      clear hyk hy1 hok hI hkl H1
      go_wp2_with fail
      refine HFD.out.mono ?_
      rintro e wq ⟨rfl, rfl⟩
      go_wp2_with fail
      refine (refDots y.A y.ms y.c w2 HOK.out.1 (by omega)).mono ?_
      rintro e w3 ⟨⟨v, rfl, hv⟩, hb⟩
      have HH := Lib.hid hv
      have KB := Lib.hid (K0.out.next hb).bel
      clear hb hv K0 x0 x1 x2 xl hc0 hc1 hbl
      go_wp2_with fail
      go_ret
      exact ⟨⟨_, rfl, by rw [HE.out]; exact HH.out⟩, KB.out⟩
    · have HE := Lib.hid (show dotsK (its c.xs) nm = [] from by unfold dotsK; rw [if_neg hne, h3])
      have H2 := Lib.hid h2
      clear h2 h3 hne
      go_enter Tryz.func31, Tryz.ntmps31
      go_upto_region 1 with fail
      generalize World.alloc w _ = w2 at K0 ⊢
      obtain ⟨x0, x1, x2, xl, _⟩ := K0.out.sp
      go_wp2_with fail
      refine (refFind9 c.I c.xs c.ni nm (-1) w2 K0.out.items hm H2.out).mono ?_
      rintro e wq ⟨rfl, rfl⟩
      have KB := Lib.hid K0.out.bel
      clear K0 x0 x1 x2 xl
      go_wp2_with fail
      go_ret
      exact ⟨⟨_, rfl, by rw [HE.out]; exact Holds.nil _⟩, KB.out⟩

end

section
open Go.RowKit

/-- How much of a cart the laws look at. -/
def lightI (x : ItV) : Bool := decide (x.nm.length ≤ 100) && decide (x.ms.length ≤ 10)
def lightK (c : CaV) : Bool := decide (c.vs.length ≤ 40) && (decide (c.ls.length ≤ 40) && (decide (c.xs.length ≤ 20) && c.xs.all lightI))
theorem lightK_fits {c : CaV} (h : lightK c = true) : FitsC c ∧ c.vs.length ≤ 40 ∧ c.ls.length ≤ 40 ∧ c.xs.length ≤ 20 ∧ ∀ x ∈ c.xs, x.nm.length ≤ 100 ∧ x.ms.length ≤ 10 := by
  simp only [lightK, lightI, Bool.and_eq_true, decide_eq_true_eq, List.all_eq_true] at h
  obtain ⟨h1, h2, h3, h4⟩ := h
  exact ⟨⟨by omega, by omega, by omega, fun x hx => by have := h4 x hx; omega⟩, h1, h2, h3, h4⟩

set_option maxRecDepth 100000 in
set_option maxHeartbeats 2000000 in
theorem lawLight10 (c : CaV) (b : Bool) (w : World) (hc : CaOK w c) (hb : lightK c = b) : Calls Tryz.prog 8 #[mkC c] w (OneB (.bool b) w) := by
  have K0 := Lib.hid (KB1.new w c hc)
  have HV := Lib.hid hb
  clear hc hb
  obtain ⟨V, nv, vs, L, nl, ls, I, ni, xs⟩ := c
  have HS := Lib.hid (show ∀ W, KB1 w ⟨V, nv, vs, L, nl, ls, I, ni, xs⟩ W → W.cell? ⟨w.heap.size, 0, none⟩ = some (.slice V vs.length nv) ∧ W.cell? ⟨w.heap.size, 1, none⟩ = some (.slice L ls.length nl) ∧ W.cell? ⟨w.heap.size, 2, none⟩ = some (.slice I xs.length ni) ∧ w.heap.size < W.heap.size ∧ ItemsAt W I xs from fun W h => ⟨h.sp.1, h.sp.2.1, h.sp.2.2.1, h.sp.2.2.2.1, h.items⟩)
  by_cases h1 : vs.length ≤ 40
  · have i1 : ¬ (40 : Int) < (vs.length : Int) := by omega
    by_cases h2 : ls.length ≤ 40
    · have i2 : ¬ (40 : Int) < (ls.length : Int) := by omega
      by_cases h3 : xs.length ≤ 20
      · have i3 : ¬ (20 : Int) < (xs.length : Int) := by omega
        have HE := Lib.hid (show xs.all lightI = b from by rw [← HV.out]; unfold lightK; simp only [decide_eq_true h1, decide_eq_true h2, decide_eq_true h3, Bool.true_and])
        clear HV h1 h2
        go_enter Tryz.func8, Tryz.ntmps8
        go_upto_region 1 with fail
        generalize World.alloc w _ = w2 at K0 ⊢
        obtain ⟨x0, x1, x2, xl, hit⟩ := HS.out w2 K0.out
        have HI := Lib.hid hit
        have K1 := Lib.hid K0.out.bel
        clear K0 HS hit
        go_wp2_with fail
        clear x0 x1 x2 xl
        go_loopw [4, 26] (fun _ i wr => ∃ k : Nat, k ≤ xs.length ∧ i = .int .i64 k ∧ Hid (Below w2.heap.size w2 wr) ∧ Hid (∀ (j : Nat) (y : ItV), j < k → xs[j]? = some y → lightI y = true)) (fun _ i _ => xs.length - (intOf i).toNat)
        case atStart => exact ⟨0, by omega, rfl, Lib.hid (Below.refl _ _), Lib.hid fun j y h => by omega⟩
        case round =>
          obtain ⟨k, hk, rfl, hB, hs⟩ := hrel
          by_cases hlt : k < xs.length
          · have i0 : (k : Int) < (xs.length : Int) := by omega
            obtain ⟨bb, off, x, rfl, hbl, hx1, _, hc0, hc1, hok⟩ := (HI.out.below hB.out).cells (j := k) hlt
            have HX1 := Lib.hid hx1
            have hsz := size_mk x.nm
            have HB2 := Lib.hid (below_trans hB.out ((Below.refl wr.heap.size wr).alloc (Nat.le_refl _) (.cells #[.string ⟨x.nm.toArray⟩, .slice x.A x.ms.length x.c] 56)))
            clear hx1 hok
            by_cases h1 : x.nm.length ≤ 100
            · have j1 : ¬ (100 : Int) < (x.nm.length : Int) := by omega
              by_cases h2 : x.ms.length ≤ 10
              · have j2 : ¬ (10 : Int) < (x.ms.length : Int) := by omega
                have HN := Lib.hid (step_true (p := lightI) hs.out HX1.out (by simp [lightI, h1, h2]))
                go_wp2_with fail
                go_roundw
                case rel => exact ⟨k + 1, by omega, by go_num, HB2, HN⟩
                case measure => simp [intOf]; omega
              · have j2 : (10 : Int) < (x.ms.length : Int) := by omega
                have HN := Lib.hid (show false = b from by rw [← HE.out]; exact (List.all_eq_false.2 ⟨x, List.mem_of_getElem? HX1.out, by simp [lightI, h2]⟩).symm)
                go_wp2_with fail
                go_ret
                exact OneB.bool HN.out (below_trans K1.out HB2.out)
            · have j1 : (100 : Int) < (x.nm.length : Int) := by omega
              have HN := Lib.hid (show false = b from by rw [← HE.out]; exact (List.all_eq_false.2 ⟨x, List.mem_of_getElem? HX1.out, by simp [lightI, h1]⟩).symm)
              go_wp2_with fail
              go_ret
              exact OneB.bool HN.out (below_trans K1.out HB2.out)
          · have i0 : ¬ (k : Int) < (xs.length : Int) := by omega
            obtain rfl : k = xs.length := by omega
            have HN := Lib.hid (show true = b from by
              rw [← HE.out]
              refine (List.all_eq_true.2 fun y hy => ?_).symm
              obtain ⟨j, hj⟩ := List.mem_iff_getElem?.1 hy
              exact hs.out j y (List.getElem?_eq_some_iff.1 hj).1 hj)
            clear hlt hs
            go_wp2_with fail
            go_ret
            exact OneB.bool HN.out (below_trans K1.out hB.out)
      · have i3 : (20 : Int) < (xs.length : Int) := by omega
        have HN := Lib.hid (show false = b from by rw [← HV.out]; unfold lightK; simp [h3])
        clear HV h1 h2 h3
        go_enter Tryz.func8, Tryz.ntmps8
        go_upto_region 1 with fail
        generalize World.alloc w _ = w2 at K0 ⊢
        obtain ⟨x0, x1, x2, xl, _⟩ := HS.out w2 K0.out
        have K1 := Lib.hid K0.out.bel
        clear K0 HS
        go_wp2_with fail
        go_ret
        exact OneB.bool HN.out K1.out
    · have i2 : (40 : Int) < (ls.length : Int) := by omega
      have HN := Lib.hid (show false = b from by rw [← HV.out]; unfold lightK; simp [h2])
      clear HV h1 h2
      go_enter Tryz.func8, Tryz.ntmps8
      go_upto_region 1 with fail
      generalize World.alloc w _ = w2 at K0 ⊢
      obtain ⟨x0, x1, x2, xl, _⟩ := HS.out w2 K0.out
      have K1 := Lib.hid K0.out.bel
      clear K0 HS
      go_wp2_with fail
      go_ret
      exact OneB.bool HN.out K1.out
  · have i1 : (40 : Int) < (vs.length : Int) := by omega
    have HN := Lib.hid (show false = b from by rw [← HV.out]; unfold lightK; simp [h1])
    clear HV h1
    go_enter Tryz.func8, Tryz.ntmps8
    go_upto_region 1 with fail
    generalize World.alloc w _ = w2 at K0 ⊢
    obtain ⟨x0, x1, x2, xl, _⟩ := HS.out w2 K0.out
    have K1 := Lib.hid K0.out.bel
    clear K0 HS
    go_wp2_with fail
    go_ret
    exact OneB.bool HN.out K1.out

end

section
open Go.RowKit

/-- Two lists in a strict order with the same elements are the same. -/
theorem strict_ext {α : Type} {r : α → α → Prop} (irr : ∀ x, ¬ r x x) (tr : ∀ x y z, r x y → r y z → r x z) : ∀ {s t : List α}, s.Pairwise r → t.Pairwise r → (∀ d, d ∈ s ↔ d ∈ t) → s = t
  | [], [], _, _, _ => rfl
  | [], y :: t, _, _, h => by have := (h y).2 (by simp); simp at this
  | x :: s, [], _, _, h => by have := (h x).1 (by simp); simp at this
  | x :: s, y :: t, hs, ht, h => by
    have hs' := List.pairwise_cons.1 hs
    have ht' := List.pairwise_cons.1 ht
    have hxy : x = y := by
      have h1 := (h x).1 (by simp)
      have h2 := (h y).2 (by simp)
      rcases List.mem_cons.1 h1 with e | h1
      · exact e
      · rcases List.mem_cons.1 h2 with e | h2
        · exact e.symm
        · exact absurd (tr _ _ _ (ht'.1 x h1) (hs'.1 y h2)) (irr y)
    subst hxy
    have : s = t := strict_ext irr tr hs'.2 ht'.2 fun d => by
      have hd := h d
      simp only [List.mem_cons] at hd
      constructor
      · intro hm
        rcases hd.1 (.inr hm) with e | h'
        · subst e; exact absurd (hs'.1 d hm) (irr d)
        · exact h'
      · intro hm
        rcases hd.2 (.inr hm) with e | h'
        · subst e; exact absurd (ht'.1 d hm) (irr d)
        · exact h'
    rw [this]

/-- A mark's dot; a mark behind those whose dots are not greater; marks in order. -/
abbrev dotM (m : Mk) : Int × Int := (m.r, m.c)
def insM (l : List Mk) (m : Mk) : List Mk := l.takeWhile (fun y => !ltD (dotM m) (dotM y)) ++ m :: l.dropWhile (fun y => !ltD (dotM m) (dotM y))
def sortM (l : List Mk) : List Mk := l.foldl insM []
theorem insM_perm (l : List Mk) (m : Mk) : (insM l m).Perm (m :: l) := by
  have h := List.takeWhile_append_dropWhile (p := fun y => !ltD (dotM m) (dotM y)) (l := l)
  conv => rhs; rw [← h]
  exact List.perm_middle
theorem fold_insM_perm : ∀ (l s : List Mk), (l.foldl insM s).Perm (s ++ l)
  | [], s => by simp
  | m :: r, s => by
    rw [List.foldl_cons]
    refine (fold_insM_perm r (insM s m)).trans ?_
    refine ((insM_perm s m).append_right r).trans ?_
    exact List.perm_middle.symm
theorem sortM_perm (l : List Mk) : (sortM l).Perm l := by
  have := fold_insM_perm l []
  rwa [List.nil_append] at this
/-- Marks in the order of their dots, equal ones behind each other. -/
def SortW (l : List Mk) : Prop := l.Pairwise fun a b => ltD (dotM b) (dotM a) = false
theorem ltD_asymm {x y : Int × Int} (h : ltD x y = true) : ltD y x = false := by
  cases k : ltD y x with
  | false => rfl
  | true => have := ltD_trans h k; rw [ltD_irrefl] at this; cases this
theorem ltD_ntrans {x y z : Int × Int} (h1 : ltD y x = false) (h2 : ltD z y = false) : ltD z x = false := by
  cases k : ltD z x with
  | false => rfl
  | true =>
    rcases ltD_tri y x with e | e | e
    · rw [e] at h1; cases h1
    · subst e; rw [k] at h2; cases h2
    · have := ltD_trans k e; rw [this] at h2; cases h2
theorem SortW.tail {l : List Mk} {m : Mk} (h : SortW l) {z : Mk} (hz : z ∈ l.dropWhile (fun y => !ltD (dotM m) (dotM y))) : ltD (dotM m) (dotM z) = true := by
  induction l with
  | nil => simp at hz
  | cons a r ih =>
    rw [List.dropWhile_cons] at hz
    have h' := List.pairwise_cons.1 h
    by_cases ha : (!ltD (dotM m) (dotM a)) = true
    · rw [if_pos ha] at hz
      exact ih h'.2 hz
    · rw [if_neg ha] at hz
      have ha' : ltD (dotM m) (dotM a) = true := by simpa using ha
      rcases List.mem_cons.1 hz with e | hz
      · subst e; exact ha'
      · cases k : ltD (dotM m) (dotM z) with
        | true => rfl
        | false =>
          have := ltD_ntrans (h'.1 z hz) k
          rw [ha'] at this; cases this
theorem SortW.ins {l : List Mk} (h : SortW l) (m : Mk) : SortW (insM l m) := by
  unfold insM
  have ht : ∀ z ∈ l.takeWhile (fun y => !ltD (dotM m) (dotM y)), ltD (dotM m) (dotM z) = false := fun z hz => by
    have := tw_all (p := fun y => !ltD (dotM m) (dotM y)) hz
    simpa using this
  refine List.pairwise_append.2 ⟨h.sublist (List.takeWhile_sublist _), List.pairwise_cons.2 ⟨fun z hz => ltD_asymm (h.tail hz), h.sublist (List.dropWhile_sublist _)⟩, fun a ha b hb => ?_⟩
  rcases List.mem_cons.1 hb with e | hb
  · subst e; exact ht a ha
  · have h1 := h.tail hb
    cases k : ltD (dotM b) (dotM a) with
    | false => rfl
    | true => have := ltD_trans h1 k; rw [ht a ha] at this; cases this
theorem sortW_fold : ∀ (l s : List Mk), SortW s → SortW (l.foldl insM s)
  | [], _, h => h
  | m :: r, s, h => sortW_fold r (insM s m) (h.ins m)
theorem sortW_sortM (l : List Mk) : SortW (sortM l) := sortW_fold l [] List.Pairwise.nil
theorem incM_iff {l : List Mk} : Inc (dotsM (sortM l)) ↔ (dotsM l).Nodup := by
  have hp : (dotsM (sortM l)).Perm (dotsM l) := (sortM_perm l).map _
  constructor
  · intro h; exact (inc_nodup h).perm hp
  · intro h
    have hn : (dotsM (sortM l)).Nodup := h.perm hp.symm
    have hw := sortW_sortM l
    unfold Inc dotsM
    unfold List.Nodup dotsM at hn
    rw [List.pairwise_map] at hn ⊢
    refine (hw.and hn).imp fun {a b} hab => ?_
    rcases ltD_tri (dotM a) (dotM b) with e | e | e
    · exact e
    · exact absurd e hab.2
    · have := hab.1
      rw [e] at this; cases this
theorem incM_ext {s t : List Mk} (hs : Inc (dotsM s)) (ht : Inc (dotsM t)) (h : ∀ d, d ∈ s ↔ d ∈ t) : s = t := by
  unfold Inc dotsM at hs ht
  rw [List.pairwise_map] at hs ht
  exact strict_ext (r := fun a b : Mk => ltD (a.r, a.c) (b.r, b.c) = true) (fun x hx => by rw [ltD_irrefl] at hx; cases hx) (fun x y z h1 h2 => ltD_trans h1 h2) hs ht h
theorem sortM_self {l : List Mk} (h : Inc (dotsM l)) : sortM l = l :=
  incM_ext (incM_iff.2 (inc_nodup h)) h fun _ => (sortM_perm l).mem_iff
theorem meetN_mem {a b a' b' : List Mk} (ha : ∀ m, m ∈ a ↔ m ∈ a') (hb : ∀ m, m ∈ b ↔ m ∈ b') : meetN a b = meetN a' b' := by
  rw [Bool.eq_iff_iff]
  simp only [meetN, hasD, List.any_eq_true, ha, hb]
theorem meetN_sort (a b : List Mk) : meetN (sortM a) (sortM b) = meetN a b := meetN_mem (fun _ => (sortM_perm a).mem_iff) (fun _ => (sortM_perm b).mem_iff)

/-- An item whose marks are put in order; one more item, or none; items put in order. -/
abbrev ordI (x : It) : It := (x.1, sortM x.2)
def stepI (o : Option (List It)) (x : It) : Option (List It) := o.bind fun l => if okI (ordI x) = true ∧ (l.any fun z => z.1 == x.1) = false ∧ (l.any fun z => meetN z.2 (sortM x.2)) = false then some (insN l (ordI x)) else none
def canonI (xs : List It) : Option (List It) := xs.foldl stepI (some [])
/-- Items that are loose. -/
def LooseI (xs : List It) : Prop := (∀ x ∈ xs, okI (ordI x) = true) ∧ xs.Pairwise fun x y => x.1 ≠ y.1 ∧ meetN x.2 y.2 = false
/-- What was put in order so far. -/
structure OrdInv (pre : List It) (l : List It) : Prop where
  loose : LooseI pre
  good : Good l
  mem : ∀ z, z ∈ l ↔ ∃ x ∈ pre, z = ordI x
theorem stepI_none : ∀ xs : List It, xs.foldl stepI none = none
  | [] => rfl
  | _ :: r => stepI_none r
theorem loose_snoc {pre : List It} {x : It} : LooseI (pre ++ [x]) ↔ LooseI pre ∧ okI (ordI x) = true ∧ ∀ y ∈ pre, y.1 ≠ x.1 ∧ meetN y.2 x.2 = false := by
  unfold LooseI
  rw [List.pairwise_append]
  constructor
  · rintro ⟨h1, h2, _, h3⟩
    exact ⟨⟨fun y hy => h1 y (by simp [hy]), h2⟩, h1 x (by simp), fun y hy => h3 y hy x (by simp)⟩
  · rintro ⟨⟨h1, h2⟩, h3, h4⟩
    refine ⟨fun y hy => ?_, h2, List.pairwise_singleton _ _, fun a ha b hb => ?_⟩
    · rcases List.mem_append.1 hy with k | k
      · exact h1 y k
      · obtain rfl : y = x := by simpa using k
        exact h3
    · obtain rfl : b = x := by simpa using hb
      exact h4 a ha
theorem OrdInv.step {pre l : List It} {x : It} (h : OrdInv pre l) : (stepI (some l) x = none ∧ ¬ LooseI (pre ++ [x])) ∨ (stepI (some l) x = some (insN l (ordI x)) ∧ OrdInv (pre ++ [x]) (insN l (ordI x))) := by
  by_cases hc : okI (ordI x) = true ∧ (l.any fun z => z.1 == x.1) = false ∧ (l.any fun z => meetN z.2 (sortM x.2)) = false
  · refine .inr ⟨by unfold stepI; rw [Option.bind_some, if_pos hc], ?_⟩
    obtain ⟨h1, h2, h3⟩ := hc
    rw [List.any_eq_false] at h2
    have hn : ∀ y ∈ l, y.1 ≠ (ordI x).1 := fun y hy e => h2 y hy (by simp [e])
    refine ⟨loose_snoc.2 ⟨h.loose, h1, fun y hy => ?_⟩, h.good.ins h1 hn h3, fun z => ?_⟩
    · have hz := (h.mem (ordI y)).2 ⟨y, hy, rfl⟩
      rw [List.any_eq_false] at h3
      refine ⟨hn (ordI y) hz, ?_⟩
      have := h3 (ordI y) hz
      rw [Bool.not_eq_true, meetN_sort] at this
      exact this
    · rw [mem_insN, h.mem]
      constructor
      · rintro (⟨y, hy, e⟩ | e)
        · exact ⟨y, by simp [hy], e⟩
        · exact ⟨x, by simp, e⟩
      · rintro ⟨y, hy, e⟩
        rcases List.mem_append.1 hy with k | k
        · exact .inl ⟨y, k, e⟩
        · obtain rfl : y = x := by simpa using k
          exact .inr e
  · refine .inl ⟨by unfold stepI; rw [Option.bind_some, if_neg hc], fun hl => hc ?_⟩
    obtain ⟨_, h1, h2⟩ := loose_snoc.1 hl
    refine ⟨h1, ?_, ?_⟩
    · rw [List.any_eq_false]
      intro z hz e
      obtain ⟨y, hy, rfl⟩ := (h.mem z).1 hz
      exact (h2 y hy).1 (by simpa using e)
    · rw [List.any_eq_false]
      intro z hz
      obtain ⟨y, hy, rfl⟩ := (h.mem z).1 hz
      rw [Bool.not_eq_true, meetN_sort]
      exact (h2 y hy).2
theorem loose_left {pre xs : List It} (h : LooseI (pre ++ xs)) : LooseI pre := ⟨fun x hx => h.1 x (by simp [hx]), (List.pairwise_append.1 h.2).1⟩
theorem fold_ord : ∀ (xs : List It) {pre l : List It}, OrdInv pre l → (∃ k, xs.foldl stepI (some l) = some k ∧ OrdInv (pre ++ xs) k) ∨ (xs.foldl stepI (some l) = none ∧ ¬ LooseI (pre ++ xs))
  | [], pre, l, h => .inl ⟨l, rfl, by simpa using h⟩
  | x :: r, pre, l, h => by
    rw [List.foldl_cons]
    rcases h.step (x := x) with ⟨h1, h2⟩ | ⟨h1, h2⟩
    · rw [h1, stepI_none]
      exact .inr ⟨rfl, fun hl => h2 (loose_left (xs := r) (by simpa using hl))⟩
    · rw [h1]
      rcases fold_ord r h2 with ⟨k, e, hk⟩ | ⟨e, hk⟩
      · exact .inl ⟨k, e, by simpa using hk⟩
      · exact .inr ⟨e, fun hl => hk (by simpa using hl)⟩
theorem canonI_cases (xs : List It) : (∃ k, canonI xs = some k ∧ OrdInv xs k) ∨ (canonI xs = none ∧ ¬ LooseI xs) := by
  have h0 : OrdInv [] [] := ⟨⟨fun x hx => (by cases hx), List.Pairwise.nil⟩, good_nil, fun z => ⟨fun hz => (by cases hz), fun ⟨x, hx, _⟩ => (by cases hx)⟩⟩
  simpa [canonI] using fold_ord xs h0
theorem canonI_some {xs k : List It} (h : canonI xs = some k) : OrdInv xs k := by
  rcases canonI_cases xs with ⟨k', e, hk⟩ | ⟨e, _⟩
  · rw [h] at e; cases e; exact hk
  · rw [h] at e; cases e
theorem OrdInv.canon {xs k : List It} (h : OrdInv xs k) : canonI xs = some k := by
  rcases canonI_cases xs with ⟨k', e, hk⟩ | ⟨_, hn⟩
  · rw [e]
    congr 1
    exact IncN.ext hk.good.2.1 h.good.2.1 fun d => by rw [hk.mem, h.mem]
  · exact absurd h.loose hn
theorem good_ord {x : It} (h : okI x = true) : ordI x = x := by
  have := (okI_parts h).2.2.2
  show (x.1, sortM x.2) = x
  rw [sortM_self this]
theorem OrdInv.self {xs : List It} (h : Good xs) : OrdInv xs xs := by
  refine ⟨⟨fun x hx => by rw [good_ord (h.1 x hx)]; exact h.1 x hx, ?_⟩, h, fun z => ?_⟩
  · refine (h.2.1.and h.2.2).imp fun {a b} hab => ⟨fun e => ?_, hab.2⟩
    have := hab.1
    rw [e, beforeN_irrefl] at this; cases this
  · constructor
    · intro hz; exact ⟨z, hz, (good_ord (h.1 z hz)).symm⟩
    · rintro ⟨x, hx, rfl⟩; rw [good_ord (h.1 x hx)]; exact hx
theorem canonI_self {xs : List It} (h : Good xs) : canonI xs = some xs := (OrdInv.self h).canon
/-- The same items in another order, their marks in another order. -/
theorem OrdInv.other {xs ys k : List It} (h : OrdInv xs k) (hl : LooseI ys) (hm : ∀ z, (∃ y ∈ ys, z = ordI y) ↔ ∃ x ∈ xs, z = ordI x) : canonI ys = some k :=
  OrdInv.canon ⟨hl, h.good, fun z => by rw [h.mem, hm]⟩

/-- What Canon makes of a cart, if it is loose. -/
def canonK (c : Ca) : Option Ca := if validC c.1.1 c.1.2 = true then (canonI c.2).map fun k => (addC c.1.1 c.1.2 (dotsI k), k) else none
theorem dots_valid {k : List It} (h : Good k) : ∀ p ∈ dotsI k, validD p.1 p.2 = true := fun p hp => by
  rw [dotsI_all, mem_setL] at hp
  obtain ⟨x, hx, hpx⟩ := List.mem_flatMap.1 hp
  obtain ⟨m, hm, rfl⟩ := List.mem_map.1 hpx
  have hv := (okI_parts (h.1 x hx)).2.2.1
  rw [List.all_eq_true] at hv
  have := hv m hm
  unfold validM at this
  simp only [Bool.and_eq_true] at this
  exact this.1
theorem missC_nil {v l m : List (Int × Int)} : (missC v l m).isEmpty = true ↔ ∀ d ∈ m, hasC v l d.1 d.2 = true := by
  rw [List.isEmpty_iff]
  constructor
  · intro h d hd
    cases e : hasC v l d.1 d.2 with
    | true => rfl
    | false =>
      have hm : d ∈ missC v l m := by
        unfold missC
        rw [mem_setL, List.mem_filter]
        exact ⟨hd, by simp [e]⟩
      rw [h] at hm; cases hm
  · intro h
    rw [List.eq_nil_iff_forall_not_mem]
    intro d hd
    unfold missC at hd
    rw [mem_setL, List.mem_filter] at hd
    rw [h d hd.1] at hd
    simp at hd
theorem validK_iff {c : Ca} : validK c = true ↔ compC c.1.1 c.1.2 = true ∧ Good c.2 ∧ ∀ d ∈ dotsI c.2, hasC c.1.1 c.1.2 d.1 d.2 = true := by
  unfold validK
  rw [Bool.and_eq_true, Bool.and_eq_true, missC_nil, validL_good]
theorem canonK_valid {c d : Ca} (h : canonK c = some d) : validK d = true := by
  unfold canonK at h
  split at h
  · rename_i hv
    cases hk : canonI c.2 with
    | none => rw [hk] at h; cases h
    | some k =>
      rw [hk] at h
      have e : (addC c.1.1 c.1.2 (dotsI k), k) = d := Option.some.inj h
      subst e
      have hg := (canonI_some hk).good
      rw [validK_iff]
      refine ⟨addC_comp hv (dots_valid hg), hg, fun p hp => ?_⟩
      show hasC (addC c.1.1 c.1.2 (dotsI k)).1 (addC c.1.1 c.1.2 (dotsI k)).2 p.1 p.2 = true
      rw [addC_has hv (dots_valid hg)]
      simp [hp]
  · cases h
theorem canonK_self {c : Ca} (h : validK c = true) : canonK c = some c := by
  obtain ⟨h1, h2, h3⟩ := validK_iff.1 h
  have hv := (compC_iff.1 h1).2
  have hd := dots_valid h2
  unfold canonK
  rw [if_pos hv, canonI_self h2]
  have e := comp_unique (addC_comp hv hd) h1 fun r c' => by
    rw [addC_has hv hd]
    by_cases hm : (r, c') ∈ dotsI c.2
    · have := h3 _ hm
      simp only at this
      rw [this]; rfl
    · simp [hm]
  show some (addC c.1.1 c.1.2 (dotsI c.2), c.2) = some c
  have e2 : addC c.1.1 c.1.2 (dotsI c.2) = c.1 := Prod.ext e.1 e.2
  rw [e2]

end

section
open Go.RowKit

theorem meetN_iff {a b : List Mk} : meetN a b = true ↔ ∃ p, p ∈ dotsM a ∧ p ∈ dotsM b := by
  unfold meetN
  rw [List.any_eq_true]
  constructor
  · rintro ⟨m, hm, h⟩
    rw [← hasD_mem, decide_eq_true_eq] at h
    exact ⟨(m.r, m.c), List.mem_map.2 ⟨m, hm, rfl⟩, h⟩
  · rintro ⟨p, hp, h⟩
    obtain ⟨m, hm, rfl⟩ := List.mem_map.1 hp
    exact ⟨m, hm, by rw [← hasD_mem, decide_eq_true_eq]; exact h⟩
theorem meetN_symm (a b : List Mk) : meetN a b = meetN b a := by
  rw [Bool.eq_iff_iff, meetN_iff, meetN_iff]
  exact ⟨fun ⟨p, h, k⟩ => ⟨p, k, h⟩, fun ⟨p, h, k⟩ => ⟨p, k, h⟩⟩
theorem LooseI.perm {xs ys : List It} (h : LooseI xs) (p : xs.Perm ys) : LooseI ys :=
  ⟨fun y hy => h.1 y (p.mem_iff.2 hy), (p.pairwise_iff fun {a b} hab => ⟨fun e => hab.1 e.symm, by rw [meetN_symm]; exact hab.2⟩).1 h.2⟩
/-- Items in order: each is found by its name, has a quantity and dots. -/
theorem Good.find {l : List It} (h : Good l) {k : Nat} {x : It} (hx : l[k]? = some x) : l.find? (fun y => y.1 == x.1) = some x := by
  have hp := h.2.1
  have hm := List.mem_of_getElem? hx
  clear h hx
  induction l with
  | nil => cases hm
  | cons y r ih =>
    have hp' := List.pairwise_cons.1 hp
    rcases List.mem_cons.1 hm with rfl | hr
    · simp
    · have hne : (y.1 == x.1) = false := by
        rw [beq_eq_false_iff_ne]
        intro e
        have := hp'.1 x hr
        rw [e, beforeN_irrefl] at this; cases this
      rw [List.find?_cons, hne]
      exact ih hp'.2 hr
theorem newest_pos {x : It} (h : okI x = true) : 1 ≤ (newR x.2).1.q := by
  obtain ⟨_, hl, hv, _⟩ := okI_parts h
  cases hn : newestN x.2 with
  | none =>
    rw [newestN_none] at hn
    rw [hn] at hl; cases hl
  | some m =>
    have hm : m ∈ x.2 := (newestN_max hn).1
    rw [List.all_eq_true] at hv
    have := hv m hm
    simp only [validM, qtyN, Bool.and_eq_true, decide_eq_true_eq] at this
    unfold newR
    rw [hn]
    show 1 ≤ m.q
    omega
theorem Good.qty {l : List It} (h : Good l) {k : Nat} {x : It} (hx : l[k]? = some x) : qtyK l x.1 = ((newR x.2).1.q, 0) := by unfold qtyK; rw [h.find hx]
theorem Good.dots {l : List It} (h : Good l) {k : Nat} {x : It} (hx : l[k]? = some x) : dotsK l x.1 = dotsM x.2 ∧ 0 < (dotsM x.2).length := by
  have hk := h.1 x (List.mem_of_getElem? hx)
  have hn : x.1 ≠ [] := fun e => by
    have := (okI_parts hk).1
    rw [e] at this
    revert this; decide
  unfold dotsK
  rw [if_neg hn, h.find hx]
  exact ⟨rfl, by rw [dotsM_len]; exact (okI_parts hk).2.1⟩
/-- No dot of a valid cart is missing in its context. -/
theorem validK_miss {c : Ca} (h : validK c = true) : missC c.1.1 c.1.2 (dotsI c.2) = [] := by
  have := missC_nil.2 (validK_iff.1 h).2.2
  rwa [List.isEmpty_iff] at this

end

section
open Go.RowKit

theorem inc_of_sortW {l : List Mk} (hw : SortW l) (hn : (dotsM l).Nodup) : Inc (dotsM l) := by
  unfold Inc dotsM
  unfold List.Nodup dotsM at hn
  rw [List.pairwise_map] at hn ⊢
  refine (hw.and hn).imp fun {a b} hab => ?_
  rcases ltD_tri (dotM a) (dotM b) with e | e | e
  · exact e
  · exact absurd e hab.2
  · have := hab.1
    rw [e] at this; cases this
theorem sorted_inc {l m : List Mk} (hs : SortW l) (hp : l.Perm m) (hd : (dotsM m).Nodup) : l = sortM m :=
  incM_ext (inc_of_sortW hs (hd.perm (hp.symm.map _))) (incM_iff.2 hd) fun d => by rw [hp.mem_iff, (sortM_perm m).mem_iff]
theorem okI_sorted {n : List UInt8} {l m : List Mk} (hs : SortW l) (hp : l.Perm m) : okI (n, l) = okI (n, sortM m) := by
  by_cases hd : (dotsM m).Nodup
  · rw [sorted_inc hs hp hd]
  · have h1 : okI (n, l) = false := by
      cases k : okI (n, l) with
      | false => rfl
      | true => exact absurd ((inc_nodup (okI_parts k).2.2.2).perm (hp.map _)) hd
    have h2 : okI (n, sortM m) = false := by
      cases k : okI (n, sortM m) with
      | false => rfl
      | true => exact absurd ((inc_nodup (okI_parts k).2.2.2).perm ((sortM_perm m).map _)) hd
    rw [h1, h2]
theorem ord_sorted {x : It} {l : List Mk} (hs : SortW l) (hp : l.Perm x.2) (h : okI (x.1, l) = true) : (x.1, l) = ordI x := by
  show (x.1, l) = (x.1, sortM x.2)
  rw [sorted_inc hs hp ((inc_nodup (okI_parts h).2.2.2).perm (hp.map _))]
/-- All dots, in the order in which they are met. -/
def metD (xs : List It) : List (Int × Int) := xs.flatMap fun x => dotsM (sortM x.2)
theorem mem_dotsS (l : List Mk) (p : Int × Int) : p ∈ dotsM (sortM l) ↔ p ∈ dotsM l := ((sortM_perm l).map _).mem_iff
theorem loose_iff {xs : List It} (hok : ∀ x ∈ xs, okI (ordI x) = true) : LooseI xs ↔ (xs.map (·.1)).Nodup ∧ (metD xs).Nodup := by
  unfold LooseI metD
  constructor
  · rintro ⟨_, h⟩
    refine ⟨?_, ?_⟩
    · unfold List.Nodup; rw [List.pairwise_map]; exact h.imp fun h => h.1
    · unfold List.Nodup; rw [List.pairwise_flatMap]
      refine ⟨fun x hx => inc_nodup (okI_parts (hok x hx)).2.2.2, h.imp fun {a b} hab p hp q hq e => ?_⟩
      subst e
      have ht : meetN a.2 b.2 = true := meetN_iff.2 ⟨p, (mem_dotsS _ _).1 hp, (mem_dotsS _ _).1 hq⟩
      rw [hab.2] at ht; cases ht
  · rintro ⟨h1, h2⟩
    unfold List.Nodup at h1 h2
    rw [List.pairwise_map] at h1
    rw [List.pairwise_flatMap] at h2
    refine ⟨hok, (h1.and h2.2).imp fun {a b} hab => ⟨hab.1, ?_⟩⟩
    cases k : meetN a.2 b.2 with
    | false => rfl
    | true =>
      obtain ⟨p, hp, hq⟩ := meetN_iff.1 k
      exact absurd rfl (hab.2 p ((mem_dotsS _ _).2 hp) p ((mem_dotsS _ _).2 hq))
theorem canon_sorted {xs ws : List It} (hL : LooseI xs) (hp : ws.Perm (xs.map ordI)) (hs : ws.Pairwise fun a b => beforeN b.1 a.1 = false) : OrdInv xs ws := by
  have hm : ∀ z, z ∈ ws ↔ ∃ x ∈ xs, z = ordI x := fun z => by
    rw [hp.mem_iff, List.mem_map]
    exact ⟨fun ⟨x, h1, h2⟩ => ⟨x, h1, h2.symm⟩, fun ⟨x, h1, h2⟩ => ⟨x, h1, h2.symm⟩⟩
  have hw : ws.Pairwise fun a b => a.1 ≠ b.1 ∧ meetN a.2 b.2 = false := by
    refine (hp.pairwise_iff fun {a b} hab => ⟨fun e => hab.1 e.symm, by rw [meetN_symm]; exact hab.2⟩).2 ?_
    rw [List.pairwise_map]
    exact hL.2.imp fun {a b} hab => ⟨hab.1, by rw [meetN_sort]; exact hab.2⟩
  refine ⟨hL, ⟨fun z hz => ?_, ?_, hw.imp fun h => h.2⟩, hm⟩
  · obtain ⟨x, hx, rfl⟩ := (hm z).1 hz
    exact hL.1 x hx
  · refine (hs.and hw).imp fun {a b} hab => ?_
    cases k : beforeN a.1 b.1 with
    | true => rfl
    | false => exact absurd (beforeN_total k hab.1) hab.2.1
theorem metD_dotsI {xs ws : List It} (hp : ws.Perm (xs.map ordI)) (d : Int × Int) : d ∈ metD xs ↔ d ∈ dotsI ws := by
  rw [dotsI_all, mem_setL]
  unfold metD allD
  rw [List.mem_flatMap, List.mem_flatMap]
  constructor
  · rintro ⟨x, hx, h⟩
    exact ⟨ordI x, hp.mem_iff.2 (List.mem_map.2 ⟨x, hx, rfl⟩), h⟩
  · rintro ⟨z, hz, h⟩
    obtain ⟨x, hx, rfl⟩ := List.mem_map.1 (hp.mem_iff.1 hz)
    exact ⟨x, hx, h⟩
theorem metD_valid {xs : List It} (hok : ∀ x ∈ xs, okI (ordI x) = true) : ∀ p ∈ metD xs, validD p.1 p.2 = true := fun p hp => by
  obtain ⟨x, hx, hpx⟩ := List.mem_flatMap.1 hp
  obtain ⟨m, hm, rfl⟩ := List.mem_map.1 hpx
  have hv := (okI_parts (hok x hx)).2.2.1
  rw [List.all_eq_true] at hv
  have := hv m hm
  unfold validM at this
  simp only [Bool.and_eq_true] at this
  exact this.1
theorem metD_len (xs : List It) : (metD xs).length = (xs.flatMap (·.2)).length := by
  unfold metD
  rw [List.length_flatMap, List.length_flatMap]
  congr 1
  exact List.map_congr_left fun x _ => by rw [dotsM_len, (sortM_perm x.2).length_eq]
theorem metD_snoc (xs : List It) (x : It) : metD (xs ++ [x]) = metD xs ++ dotsM (sortM x.2) := by simp [metD]
/-- What canonK is, said of what the program has found. -/
theorem canonK_prog {c : Ca} {ws : List It} (hv : validC c.1.1 c.1.2 = true) (hok : ∀ x ∈ c.2, okI (ordI x) = true) (hn : (c.2.map (·.1)).Nodup) (hd : (metD c.2).Nodup) (hp : ws.Perm (c.2.map ordI)) (hs : ws.Pairwise fun a b => beforeN b.1 a.1 = false) :
    canonK c = some (addC c.1.1 c.1.2 (metD c.2), ws) := by
  have ho := canon_sorted ((loose_iff hok).2 ⟨hn, hd⟩) hp hs
  unfold canonK
  rw [if_pos hv, ho.canon, Option.map_some, addC_congr (m := metD c.2) (m' := dotsI ws) (metD_dotsI hp)]
theorem canonI_not {xs : List It} (h : ¬ LooseI xs) : canonI xs = none := by
  rcases canonI_cases xs with ⟨k, _, hk⟩ | ⟨e, _⟩
  · exact absurd hk.loose h
  · exact e
theorem canonK_loose {c : Ca} (h : ¬ LooseI c.2) : canonK c = none := by
  unfold canonK
  rw [canonI_not h]
  split <;> rfl
theorem canonK_ctx {c : Ca} (h : validC c.1.1 c.1.2 = false) : canonK c = none := by
  unfold canonK
  rw [if_neg (by simp [h])]

end

end Go.Proofs.YtfmhhmceoikgpaaGreat
