/- Several texts in one: CanE, CanF, CanG. -/
import Derived.Test.YtgdnibahiomneaaGreatMAO
namespace Go.Proofs.YtgdnibahiomneaaGreat

section
open Go.RowKit

/-- An item with few marks and a short name. -/
def fewI (x : It) : Bool := decide (x.2.length ≤ 20) && decide (x.1.length ≤ 100)
/-- Which carts are small. -/
def small14 (c : Ca) : Bool := ((decide (c.1.1.length ≤ 40) && decide (c.1.2.length ≤ 40)) && decide (c.2.length ≤ 20)) && c.2.all fewI
theorem small_iff {c : Ca} : small14 c = true ↔ c.1.1.length ≤ 40 ∧ c.1.2.length ≤ 40 ∧ c.2.length ≤ 20 ∧ ∀ x ∈ c.2, x.2.length ≤ 20 ∧ x.1.length ≤ 100 := by
  unfold small14 fewI
  simp only [Bool.and_eq_true, decide_eq_true_eq, List.all_eq_true]
  constructor
  · rintro ⟨⟨⟨h1, h2⟩, h3⟩, h4⟩; exact ⟨h1, h2, h3, h4⟩
  · rintro ⟨h1, h2, h3, h4⟩; exact ⟨⟨⟨h1, h2⟩, h3⟩, h4⟩

set_option maxRecDepth 100000 in
set_option maxHeartbeats 2000000 in
theorem refSmall14 (c : CaV) (z : Bool) (w : World) (hc : CaOK w c) (hz : small14 c.ca = z) :
    Calls Tryz.prog 8 #[mkC c] w (OneB (.bool z) w) := by
  obtain ⟨V, nv, vs, Lc, nl, ls, I, ni, xs⟩ := c
  obtain ⟨_, _, hX⟩ := hc
  obtain ⟨I', ni', eI, hX, _, _⟩ := hX
  cases eI
  have hz' : small14 ((vs, ls), its xs) = z := hz
  have hlx : (its xs).length = xs.length := by simp [its]
  have hb0 : Below w.heap.size w (w.alloc (.cells #[.slice V vs.length nv, .slice Lc ls.length nl, .slice I xs.length ni] 28)) := (Below.refl _ w).alloc (Nat.le_refl _) _
  have HB0 := Lib.hid hb0
  have HX := Lib.hid (hX.below hb0)
  have hbx : (w.alloc (.cells #[.slice V vs.length nv, .slice Lc ls.length nl, .slice I xs.length ni] 28)).heap[w.heap.size]? = some (.cells #[.slice V vs.length nv, .slice Lc ls.length nl, .slice I xs.length ni] 28 (0, 0)) := heap_alloc_new w _
  have HBOX := Lib.hid fun (W : World) (hW : Below (w.alloc (.cells #[.slice V vs.length nv, .slice Lc ls.length nl, .slice I xs.length ni] 28)).heap.size (w.alloc (.cells #[.slice V vs.length nv, .slice Lc ls.length nl, .slice I xs.length ni] 28)) W) => (show W.cell? ⟨w.heap.size, 0, none⟩ = some (.slice V vs.length nv) ∧ W.cell? ⟨w.heap.size, 1, none⟩ = some (.slice Lc ls.length nl) ∧ W.cell? ⟨w.heap.size, 2, none⟩ = some (.slice I xs.length ni) from by
    have h : W.heap[w.heap.size]? = some (.cells #[.slice V vs.length nv, .slice Lc ls.length nl, .slice I xs.length ni] 28 (0, 0)) := (hW.block _ (by simp)).trans hbx
    exact ⟨by simp [World.cell?, h], by simp [World.cell?, h], by simp [World.cell?, h]⟩)
  have HBAD := Lib.hid (show ∀ x ∈ xs, fewI x.it = false → z = false from fun x hx hf => by
    cases z with
    | false => rfl
    | true =>
      have := (small_iff.1 hz').2.2.2 x.it (List.mem_map_of_mem hx)
      unfold fewI at hf
      simp [this] at hf)
  have HEND := Lib.hid (show (xs.length ≤ 20 → ∀ x ∈ xs, fewI x.it = true) → z = ((decide (vs.length ≤ 40) && decide (ls.length ≤ 40)) && decide (xs.length ≤ 20)) from fun h => by
    rw [← hz']
    unfold small14
    simp only [hlx]
    by_cases h20 : xs.length ≤ 20
    · have : (its xs).all fewI = true := by
        rw [List.all_eq_true]
        intro y hy
        obtain ⟨x, hx, rfl⟩ := List.mem_map.1 hy
        exact h h20 x hx
      rw [this]; simp
    · simp [h20])
  clear hX hb0 hbx hz hz' hlx
  show Calls _ _ #[.agg #[.slice V vs.length nv, .slice Lc ls.length nl, .slice I xs.length ni]] _ _
  go_enter Tryz.func8, Tryz.ntmps8
  go_wp2_with fail
  generalize w.alloc (.cells #[.slice V vs.length nv, .slice Lc ls.length nl, .slice I xs.length ni] 28) = w1 at HB0 HX HBOX ⊢
  go_loopw [3] (fun i wr => ∃ m : Nat, m ≤ 21 ∧ m ≤ xs.length ∧ i = .int .i64 m ∧ Hid (Below w1.heap.size w1 wr) ∧ Hid (∀ j x, j < m → xs[j]? = some x → fewI x.it = true)) (fun i _ => 21 - (intOf i).toNat)
  case atStart => exact ⟨0, by omega, by omega, rfl, Lib.hid (Below.refl _ _), Lib.hid (fun j x h => by omega)⟩
  case round =>
    obtain ⟨m, hm1, hm2, rfl, HB, HS⟩ := hrel
    obtain ⟨c0, c1, c2⟩ := HBOX.out wr HB.out
    have HBE := Lib.hid (below_trans HB0.out HB.out)
    by_cases hlt : m < xs.length ∧ m < 21
    · obtain ⟨k1, k2⟩ := hlt
      have i0 : (m : Int) < (xs.length : Int) := by omega
      have i1 : (m : Int) < 21 := by omega
      obtain ⟨b, off, x, rfl, hbl, hx1, hxe, hc0, hc1, _⟩ := (HX.out.below HB.out).cells (j := m) k1
      clear hxe
      obtain ⟨nm, A, cA, ms⟩ := x
      have hsz : (ByteArray.mk nm.toArray).size = nm.length := by show nm.toArray.size = _; simp
      have hbad := HBAD.out _ (List.mem_of_getElem? hx1)
      have hfe : fewI (ItV.it ⟨nm, A, cA, ms⟩) = (decide (ms.length ≤ 20) && decide (nm.length ≤ 100)) := rfl
      by_cases h20 : ms.length ≤ 20
      · have i2 : ¬ (20 : Int) < (ms.length : Int) := by omega
        by_cases h100 : nm.length ≤ 100
        · have i3 : ¬ (100 : Int) < (nm.length : Int) := by omega
          have HS2 := Lib.hid (show ∀ j x, j < m + 1 → xs[j]? = some x → fewI x.it = true from fun j x hj hx => by
            by_cases e : j = m
            · subst e
              rw [hx1] at hx
              cases hx
              rw [hfe]; simp [h20, h100]
            · exact HS.out j x (by omega) hx)
          clear hbad hfe hx1 HS h20 h100 k1 k2
          go_wp2_with fail
          go_roundw
          case rel => exact ⟨m + 1, by omega, by omega, by go_num, HB, HS2⟩
          case measure => simp [intOf]; omega
        · have i3 : (100 : Int) < (nm.length : Int) := by omega
          obtain rfl := hbad (by rw [hfe]; simp [h100])
          clear hfe hx1 HS h20 h100 k1 k2
          go_wp2_with fail
          go_ret
          exact ⟨rfl, HBE.out⟩
      · have i2 : (20 : Int) < (ms.length : Int) := by omega
        obtain rfl := hbad (by rw [hfe]; simp [h20])
        clear hfe hx1 HS h20 k1 k2
        go_wp2_with fail
        go_ret
        exact ⟨rfl, HBE.out⟩
    · have hall : xs.length ≤ 20 → ∀ x ∈ xs, fewI x.it = true := fun h20 x hx => by
        obtain ⟨j, hj⟩ := List.getElem?_of_mem hx
        have hjl := (List.getElem?_eq_some_iff.1 hj).1
        exact HS.out j x (by omega) hj
      have hz := HEND.out hall
      have hx0 : ((m : Int) < (xs.length : Int) ∧ ¬ (m : Int) < 21) ∨ ¬ (m : Int) < (xs.length : Int) := by omega
      clear hall HS hlt
      rcases hx0 with ⟨i0, i1⟩ | i0
      all_goals
        by_cases a1 : vs.length ≤ 40 <;> by_cases a2 : ls.length ≤ 40 <;> by_cases a3 : xs.length ≤ 20 <;> (
          first
            | have j1 : (vs.length : Int) ≤ 40 := by omega
            | have j1 : ¬ (vs.length : Int) ≤ 40 := by omega
          first
            | have j2 : (ls.length : Int) ≤ 40 := by omega
            | have j2 : ¬ (ls.length : Int) ≤ 40 := by omega
          first
            | have j3 : (xs.length : Int) ≤ 20 := by omega
            | have j3 : ¬ (xs.length : Int) ≤ 20 := by omega
          simp only [a1, a2, a3, decide_true, decide_false, Bool.and_true, Bool.and_false] at hz
          subst hz
          clear a1 a2 a3
          first
            | (exfalso; omega)
            | (go_wp2_with fail
               go_ret
               exact ⟨rfl, HBE.out⟩))

end

section
open Go.RowKit

/-- Not too much, and times of 64 bits. -/
def Fit14 (c : Ca) : Prop := c.1.1.length ≤ 400 ∧ c.1.2.length ≤ 400 ∧ c.2.length ≤ 300 ∧ (dotsI c.2).length ≤ 1000 ∧ ∀ x ∈ c.2, x.1.length ≤ 100 ∧ x.2.length ≤ 40 ∧ ∀ m ∈ x.2, m.t < 18446744073709551616
theorem Fit14.len {c : Ca} (h : Fit14 c) : LenB c := by
  obtain ⟨h1, h2, h3, _, h4⟩ := h
  exact ⟨by omega, by omega, by omega, fun x hx => ⟨by have := (h4 x hx).1; omega, by have := (h4 x hx).2.1; omega, (h4 x hx).2.2⟩⟩
/-- Bytes in a row of the call's own, and a number. -/
def BytR (zs : List UInt8) (n : Int) (w : World) (e : Ending) (w' : World) : Prop := (∃ A c, e = .returned (.tuple #[.slice A zs.length c, .int .i64 n]) ∧ RowB w' w.heap.size (.slice A zs.length c) zs) ∧ Below w.heap.size w w'
/-- What Encode, Context, Append, Size, Compare return. -/
def encV (c : Ca) : List UInt8 := if validK c = true then byC c else []
def errV (b : Bool) : Int := if b = true then 0 else 2
def conV (vs ls : List (Int × Int)) : List UInt8 := if compC vs ls = true then byX (vs, ls) else []
def appV (xs : List UInt8) (c : Ca) : List UInt8 := if validK c = true then xs ++ byC c else []
def cmpV14 (a b : Ca) : Int := if (validK a && validK b) = true then ordB (byC a) (byC b) else 0
structure CanOK (w0 : World) : Prop where
  enc : ∀ (c : CaV) (W : World), Below w0.heap.size w0 W → CaOK W c → Fit14 c.ca → Calls Tryz.prog 22 #[mkC c] W (BytR (encV c.ca) (errV (validK c.ca)) W)
  con : ∀ (V L : Option Addr) (vs ls : List (Int × Int)) (n k : Nat) (W : World), Below w0.heap.size w0 W → Holds W (.slice V vs.length n) vs → Holds W (.slice L ls.length k) ls → vs.length ≤ 400 → ls.length ≤ 400 → Calls Tryz.prog 11 #[.agg #[.slice V vs.length n, .slice L ls.length k]] W (BytR (conV vs ls) (errV (compC vs ls)) W)
  app : ∀ (A : Option Addr) (xs : List UInt8) (n : Nat) (c : CaV) (W : World), Below w0.heap.size w0 W → HoldsB W (.slice A xs.length n) xs → xs.length ≤ 1000 → CaOK W c → Fit14 c.ca → Calls Tryz.prog 18 #[.slice A xs.length n, mkC c] W (BytR (appV xs c.ca) (errV (validK c.ca)) W)
  siz : ∀ (c : CaV) (W : World), Below w0.heap.size w0 W → CaOK W c → Fit14 c.ca → Calls Tryz.prog 19 #[mkC c] W (OneB (.tuple #[.int .i64 ((encV c.ca).length : Int), .int .i64 (errV (validK c.ca))]) W)
  cmp : ∀ (a b : CaV) (W : World), Below w0.heap.size w0 W → CaOK W a → CaOK W b → Fit14 a.ca → Fit14 b.ca → Calls Tryz.prog 23 #[mkC a, mkC b] W (OneB (.tuple #[.int .i64 (cmpV14 a.ca b.ca), .int .i64 (errV (validK a.ca && validK b.ca))]) W)
  val : ∀ (c : CaV) (W : World), Below w0.heap.size w0 W → CaOK W c → Fit14 c.ca → Calls Tryz.prog 14 #[mkC c] W (OneB (.bool (validK c.ca)) W)
  com : ∀ (V L : Option Addr) (vs ls : List (Int × Int)) (n k : Nat) (W : World), Below w0.heap.size w0 W → Holds W (.slice V vs.length n) vs → Holds W (.slice L ls.length k) ls → vs.length ≤ 400 → ls.length ≤ 400 → Calls Tryz.prog 12 #[.agg #[.slice V vs.length n, .slice L ls.length k]] W (OneB (.bool (compC vs ls)) W)
def Known14 (w0 : World) : Prop := ∀ W : World, Below w0.heap.size w0 W → Calls Tryz.prog 9 #[] W (OneB (.bool true) W)

/-- The cart of the examples. -/
def exC : Ca := (([(2, 3)], [(5, 9)]), [([116, 101, 97], [⟨2, 3, 200, 1⟩])])
def MadeC (x : Ca) (w : World) (e : Ending) (w' : World) : Prop := (∃ z : CaV, e = .returned (mkC z) ∧ z.ca = x ∧ CaOK w' z) ∧ Below w.heap.size w w'
/-- The empty cart. -/
def nilC : CaV := ⟨none, 0, [], none, 0, [], none, 0, []⟩
theorem nilC_ok (W : World) : CaOK W nilC := ⟨⟨none, 0, rfl, SlAt.nil, by simp [nilC], by simp [maxLen]⟩, ⟨none, 0, rfl, SlAt.nil, by simp [nilC], by simp [maxLen]⟩, HoldsX.nil _⟩

set_option maxHeartbeats 1000000 in
theorem lawEncodes14 (c : CaV) (zs xs : List UInt8) (A : Option Addr) (n : Nat) (r e : Int) (b : Bool) (w W : World) (H : ∀ W : World, Below w.heap.size w W → CaOK W c → Calls Tryz.prog 22 #[mkC c] W (BytR zs r W)) (hB : Below w.heap.size w W) (hc : CaOK W c) (hx : HoldsB W (.slice A xs.length n) xs) (hb : (decide (zs = xs) && decide (r = e)) = b) :
    Calls Tryz.prog 15 #[mkC c, .slice A xs.length n, .int .i64 e] W (OneB (.bool b) W) := by
  have h1 : Below W.heap.size W (W.alloc (.cells #[c.v, c.l, c.i] 28)) := (Below.refl _ W).alloc (Nat.le_refl _) _
  have HC := Lib.hid (H _ (below_trans hB h1) (hc.below h1))
  have HBX := Lib.hid (BlkC.new W c)
  have HB1 := Lib.hid h1
  have HX := Lib.hid hx
  have q0 := HBX.out.cell0
  have q1 := HBX.out.cell1
  have q2 := HBX.out.cell2
  clear H hB hc h1 hx
  go_enter Tryz.func15, Tryz.ntmps15
  go_wp2_with fail
  refine HC.out.mono ?_
  rintro e1 w2 ⟨⟨A2, n2, rfl, hrow⟩, hb2⟩
  have HB2 := Lib.hid (below_trans HB1.out hb2)
  have d1 := convB w2 A2 n2 zs (HoldsB.of_own hrow)
  have d2 := convB w2 A n xs (HX.out.below HB2.out)
  clear hrow hb2 q0 q1 q2
  by_cases e2 : zs = xs
  · subst e2
    have j1 : (zs == zs) = true := by simp
    by_cases e3 : r = e
    · subst e3
      obtain rfl : b = true := by rw [← hb]; simp
      clear hb
      go_wp2_with fail
      go_ret
      exact ⟨rfl, HB2.out⟩
    · obtain rfl : b = false := by rw [← hb]; simp [e3]
      have j2 : (r == e) = false := by simpa using e3
      clear hb e3
      go_wp2_with fail
      go_ret
      exact ⟨rfl, HB2.out⟩
  · obtain rfl : b = false := by rw [← hb]; simp [e2]
    have j1 : (zs == xs) = false := by simpa using e2
    clear hb e2
    go_wp2_with fail
    go_ret
    exact ⟨rfl, HB2.out⟩

set_option maxHeartbeats 1000000 in
theorem lawCompares14 (c d : CaV) (n m r e : Int) (b : Bool) (w W : World) (H : ∀ W : World, Below w.heap.size w W → CaOK W c → CaOK W d → Calls Tryz.prog 23 #[mkC c, mkC d] W (OneB (.tuple #[.int .i64 n, .int .i64 r]) W)) (hB : Below w.heap.size w W) (hc : CaOK W c) (hd : CaOK W d) (hb : (decide (n = m) && decide (r = e)) = b) :
    Calls Tryz.prog 20 #[mkC c, mkC d, .int .i64 m, .int .i64 e] W (OneB (.bool b) W) := by
  have h1 : Below W.heap.size W (W.alloc (.cells #[c.v, c.l, c.i] 28)) := (Below.refl _ W).alloc (Nat.le_refl _) _
  have K0 := Lib.hid (KK.push (L := [(W.heap.size, c)]) (KK.new W c hc) d (hd.below h1) (W.heap.size + 1) (by simp))
  have HC := Lib.hid (H _ (below_trans hB K0.out.bel) (K0.out.ok (g := W.heap.size) (by simp)) (K0.out.ok (g := W.heap.size + 1) (by simp)))
  clear H hB hc h1 hd
  go_enter Tryz.func20, Tryz.ntmps20
  go_wp2_with fail
  generalize World.alloc (World.alloc W _) _ = w2 at K0 HC ⊢
  obtain ⟨x0, x1, x2, y0, y1, y2, xl, yl, _⟩ := K0.out.sp2
  go_wp2_with fail
  refine HC.out.mono ?_
  rintro e1 w3 ⟨rfl, hb2⟩
  have HB2 := Lib.hid (below_trans K0.out.bel hb2)
  clear hb2 x0 x1 x2 y0 y1 y2 xl yl
  by_cases e2 : n = m
  · subst e2
    by_cases e3 : r = e
    · subst e3
      obtain rfl : b = true := by rw [← hb]; simp
      clear hb
      go_wp2_with fail
      go_ret
      exact ⟨rfl, HB2.out⟩
    · obtain rfl : b = false := by rw [← hb]; simp [e3]
      have j2 : (r == e) = false := by simpa using e3
      clear hb e3
      go_wp2_with fail
      go_ret
      exact ⟨rfl, HB2.out⟩
  · obtain rfl : b = false := by rw [← hb]; simp [e2]
    have j1 : (n == m) = false := by simpa using e2
    clear hb e2
    go_wp2_with fail
    go_ret
    exact ⟨rfl, HB2.out⟩

end

section
open Go.RowKit

theorem heap_old {w : World} {o : Obj} {k : Nat} (h : k < w.heap.size) : (w.alloc o).heap[k]? = w.heap[k]? := ((Below.refl _ w).alloc (Nat.le_refl _) o).block k h
theorem heap_new {w : World} {v : Array Value} {t : TypeId} {k : Nat} (h : k = w.heap.size) : (w.alloc (.cells v t)).heap[k]? = some (.cells v t (0, 0)) := by subst h; exact heap_alloc_new w _
theorem lawExample14 (w : World) : Calls Tryz.prog 24 #[] w (MadeC exC w) := by
  have h0 : (((((w.alloc (.cells #[.slice (some ⟨w.heap.size + 1, 0, none⟩) 1 1, .slice (some ⟨w.heap.size + 1 + 1, 0, none⟩) 1 1, .slice (some ⟨w.heap.size + 1 + 1 + 1 + 1, 0, none⟩) 1 1] 28)).alloc (.cells #[.int .i64 2, .int .i64 3] 51)).alloc (.cells #[.int .i64 5, .int .i64 9] 51)).alloc (.cells #[.int .i64 2, .int .i64 3, .int .i64 200, .int .u64 1] 53)).alloc (.cells #[.string ⟨#[116, 101, 97]⟩, .slice (some ⟨w.heap.size + 1 + 1 + 1, 0, none⟩) 1 1] 56)).heap[w.heap.size]? = some (.cells #[.slice (some ⟨w.heap.size + 1, 0, none⟩) 1 1, .slice (some ⟨w.heap.size + 1 + 1, 0, none⟩) 1 1, .slice (some ⟨w.heap.size + 1 + 1 + 1 + 1, 0, none⟩) 1 1] 28 (0, 0)) := by
    rw [heap_old (by simp <;> omega), heap_old (by simp <;> omega), heap_old (by simp <;> omega), heap_old (by simp <;> omega)]
    exact heap_new (by simp)
  have h1 : (((((w.alloc (.cells #[.slice (some ⟨w.heap.size + 1, 0, none⟩) 1 1, .slice (some ⟨w.heap.size + 1 + 1, 0, none⟩) 1 1, .slice (some ⟨w.heap.size + 1 + 1 + 1 + 1, 0, none⟩) 1 1] 28)).alloc (.cells #[.int .i64 2, .int .i64 3] 51)).alloc (.cells #[.int .i64 5, .int .i64 9] 51)).alloc (.cells #[.int .i64 2, .int .i64 3, .int .i64 200, .int .u64 1] 53)).alloc (.cells #[.string ⟨#[116, 101, 97]⟩, .slice (some ⟨w.heap.size + 1 + 1 + 1, 0, none⟩) 1 1] 56)).heap[w.heap.size + 1]? = some (.cells #[.int .i64 2, .int .i64 3] 51 (0, 0)) := by
    rw [heap_old (by simp <;> omega), heap_old (by simp <;> omega), heap_old (by simp <;> omega)]
    exact heap_new (by simp)
  have h2 : (((((w.alloc (.cells #[.slice (some ⟨w.heap.size + 1, 0, none⟩) 1 1, .slice (some ⟨w.heap.size + 1 + 1, 0, none⟩) 1 1, .slice (some ⟨w.heap.size + 1 + 1 + 1 + 1, 0, none⟩) 1 1] 28)).alloc (.cells #[.int .i64 2, .int .i64 3] 51)).alloc (.cells #[.int .i64 5, .int .i64 9] 51)).alloc (.cells #[.int .i64 2, .int .i64 3, .int .i64 200, .int .u64 1] 53)).alloc (.cells #[.string ⟨#[116, 101, 97]⟩, .slice (some ⟨w.heap.size + 1 + 1 + 1, 0, none⟩) 1 1] 56)).heap[w.heap.size + 1 + 1]? = some (.cells #[.int .i64 5, .int .i64 9] 51 (0, 0)) := by
    rw [heap_old (by simp <;> omega), heap_old (by simp <;> omega)]
    exact heap_new (by simp)
  have h3 : (((((w.alloc (.cells #[.slice (some ⟨w.heap.size + 1, 0, none⟩) 1 1, .slice (some ⟨w.heap.size + 1 + 1, 0, none⟩) 1 1, .slice (some ⟨w.heap.size + 1 + 1 + 1 + 1, 0, none⟩) 1 1] 28)).alloc (.cells #[.int .i64 2, .int .i64 3] 51)).alloc (.cells #[.int .i64 5, .int .i64 9] 51)).alloc (.cells #[.int .i64 2, .int .i64 3, .int .i64 200, .int .u64 1] 53)).alloc (.cells #[.string ⟨#[116, 101, 97]⟩, .slice (some ⟨w.heap.size + 1 + 1 + 1, 0, none⟩) 1 1] 56)).heap[w.heap.size + 1 + 1 + 1]? = some (.cells #[.int .i64 2, .int .i64 3, .int .i64 200, .int .u64 1] 53 (0, 0)) := by
    rw [heap_old (by simp <;> omega)]
    exact heap_new (by simp)
  have h4 : (((((w.alloc (.cells #[.slice (some ⟨w.heap.size + 1, 0, none⟩) 1 1, .slice (some ⟨w.heap.size + 1 + 1, 0, none⟩) 1 1, .slice (some ⟨w.heap.size + 1 + 1 + 1 + 1, 0, none⟩) 1 1] 28)).alloc (.cells #[.int .i64 2, .int .i64 3] 51)).alloc (.cells #[.int .i64 5, .int .i64 9] 51)).alloc (.cells #[.int .i64 2, .int .i64 3, .int .i64 200, .int .u64 1] 53)).alloc (.cells #[.string ⟨#[116, 101, 97]⟩, .slice (some ⟨w.heap.size + 1 + 1 + 1, 0, none⟩) 1 1] 56)).heap[w.heap.size + 1 + 1 + 1 + 1]? = some (.cells #[.string ⟨#[116, 101, 97]⟩, .slice (some ⟨w.heap.size + 1 + 1 + 1, 0, none⟩) 1 1] 56 (0, 0)) := by
    exact heap_new (by simp)
  have hb : Below w.heap.size w (((((w.alloc (.cells #[.slice (some ⟨w.heap.size + 1, 0, none⟩) 1 1, .slice (some ⟨w.heap.size + 1 + 1, 0, none⟩) 1 1, .slice (some ⟨w.heap.size + 1 + 1 + 1 + 1, 0, none⟩) 1 1] 28)).alloc (.cells #[.int .i64 2, .int .i64 3] 51)).alloc (.cells #[.int .i64 5, .int .i64 9] 51)).alloc (.cells #[.int .i64 2, .int .i64 3, .int .i64 200, .int .u64 1] 53)).alloc (.cells #[.string ⟨#[116, 101, 97]⟩, .slice (some ⟨w.heap.size + 1 + 1 + 1, 0, none⟩) 1 1] 56)) := ((((((Below.refl w.heap.size w).alloc (Nat.le_refl _) _).alloc (by simp) _).alloc (by simp; omega) _).alloc (by simp; omega) _).alloc (by simp; omega) _)
  have HH := Lib.hid (And.intro h0 (And.intro h1 (And.intro h2 (And.intro h3 (And.intro h4 hb)))))
  clear h0 h1 h2 h3 h4 hb
  go_enter Tryz.func24, Tryz.ntmps24
  go_wp2_with fail
  generalize (((((w.alloc (.cells #[.slice (some ⟨w.heap.size + 1, 0, none⟩) 1 1, .slice (some ⟨w.heap.size + 1 + 1, 0, none⟩) 1 1, .slice (some ⟨w.heap.size + 1 + 1 + 1 + 1, 0, none⟩) 1 1] 28)).alloc (.cells #[.int .i64 2, .int .i64 3] 51)).alloc (.cells #[.int .i64 5, .int .i64 9] 51)).alloc (.cells #[.int .i64 2, .int .i64 3, .int .i64 200, .int .u64 1] 53)).alloc (.cells #[.string ⟨#[116, 101, 97]⟩, .slice (some ⟨w.heap.size + 1 + 1 + 1, 0, none⟩) 1 1] 56)) = w5 at HH ⊢
  obtain ⟨h0, h1, h2, h3, h4, hb⟩ := HH.out
  have s0 : w5.cell? ⟨w.heap.size, 0, none⟩ = some (.slice (some ⟨w.heap.size + 1, 0, none⟩) 1 1) := by simp [World.cell?, h0]
  have s1 : w5.cell? ⟨w.heap.size, 1, none⟩ = some (.slice (some ⟨w.heap.size + 1 + 1, 0, none⟩) 1 1) := by simp [World.cell?, h0]
  have s2 : w5.cell? ⟨w.heap.size, 2, none⟩ = some (.slice (some ⟨w.heap.size + 1 + 1 + 1 + 1, 0, none⟩) 1 1) := by simp [World.cell?, h0]
  have hv : Holds w5 (.slice (some ⟨w.heap.size + 1, 0, none⟩) 1 1) [(2, 3)] := ⟨_, 1, rfl, SlAt.one h1, by simp, by simp [maxLen]⟩
  have hl : Holds w5 (.slice (some ⟨w.heap.size + 1 + 1, 0, none⟩) 1 1) [(5, 9)] := ⟨_, 1, rfl, SlAt.one h2, by simp, by simp [maxLen]⟩
  have hm : MarksAt w5 (some ⟨w.heap.size + 1 + 1 + 1, 0, none⟩) [(⟨2, 3, 200, 1⟩ : Mk)] := SlAt.one h3
  have hi : HoldsX w5 (.slice (some ⟨w.heap.size + 1 + 1 + 1 + 1, 0, none⟩) 1 1) [(⟨[116, 101, 97], some ⟨w.heap.size + 1 + 1 + 1, 0, none⟩, 1, [⟨2, 3, 200, 1⟩]⟩ : ItV)] :=
    ⟨_, 1, rfl, ⟨SlAt.one h4, fun x hx => by
      obtain rfl : x = _ := List.mem_singleton.1 hx
      exact ⟨hm, by simp, by simp [maxLen]⟩⟩, by simp, by simp [maxLen]⟩
  exact bodyPost_ret (v := .agg #[.slice (some ⟨w.heap.size + 1, 0, none⟩) 1 1, .slice (some ⟨w.heap.size + 1 + 1, 0, none⟩) 1 1, .slice (some ⟨w.heap.size + 1 + 1 + 1 + 1, 0, none⟩) 1 1]) (by simp [results, Tryz.results24, go_sem, s0, s1, s2]) rfl ⟨⟨⟨some ⟨w.heap.size + 1, 0, none⟩, 1, [(2, 3)], some ⟨w.heap.size + 1 + 1, 0, none⟩, 1, [(5, 9)], some ⟨w.heap.size + 1 + 1 + 1 + 1, 0, none⟩, 1, [⟨[116, 101, 97], some ⟨w.heap.size + 1 + 1 + 1, 0, none⟩, 1, [⟨2, 3, 200, 1⟩]⟩]⟩, rfl, rfl, hv, hl, hi⟩, hb⟩

end

end Go.Proofs.YtgdnibahiomneaaGreat
