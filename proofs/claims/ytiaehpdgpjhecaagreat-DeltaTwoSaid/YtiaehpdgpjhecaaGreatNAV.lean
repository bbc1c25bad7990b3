/- Several texts in one: JoiA, CarS, JoiB. -/
import Derived.Test.YtiaehpdgpjhecaaGreatNAU
import Derived.Test.YtiaehpdgpjhecaaGreatNAR
import Derived.Test.YtiaehpdgpjhecaaGreatNAH
import Derived.Shelf.SlSortCmp.QuietGrown
import Derived.Test.YtiaehpdgpjhecaaGreatNAN
import Derived.Test.YtiaehpdgpjhecaaGreatNAQ
import Derived.Test.YtiaehpdgpjhecaaGreatNAB
import Derived.Test.YtiaehpdgpjhecaaGreatNAC
namespace Go.Proofs.YtiaehpdgpjhecaaGreat

section
open Go.RowKit Go.Sort

/-- A mark with a name as a value: one flat row of five cells. -/
abbrev mkH (x : Hd) : Value := .agg #[.string ⟨x.1.toArray⟩, .int .i64 x.2.r, .int .i64 x.2.c, .int .i64 x.2.q, .int .u64 (x.2.t : Int)]
abbrev encH (x : Hd) : List Value := [.string ⟨x.1.toArray⟩, .int .i64 x.2.r, .int .i64 x.2.c, .int .i64 x.2.q, .int .u64 (x.2.t : Int)]
theorem encH_len (x : Hd) : (encH x).length = 5 := rfl
theorem encH_one (x : Hd) : ∀ u ∈ encH x, u.oneCell' = true := by
  intro u hu
  simp [encH] at hu
  rcases hu with rfl | rfl | rfl | rfl | rfl <;> rfl
theorem infoH : (Tryz.prog.info? 100).map (fun i => (i.zero, i.size, i.bytes)) = some (some (.agg #[.string ⟨#[]⟩, .int .i64 0, .int .i64 0, .int .i64 0, .int .u64 0]), 5, 48) := by kernel_rfl
abbrev HeldAt (w : World) (A : Option Addr) (xs : List Hd) : Prop := SlAt encH 5 w A xs
/-- Such marks in a row of the call's own. -/
abbrev RowH (W : World) (B : Nat) (v : Value) (xs : List Hd) : Prop := W.ownsRow B 100 5 v xs.length (cellsOf encH xs)
def HoldsH (w : World) (v : Value) (xs : List Hd) : Prop := ∃ A c, v = .slice A xs.length c ∧ HeldAt w A xs ∧ xs.length ≤ c ∧ c ≤ maxLen
theorem HoldsH.below {w w' : World} {v : Value} {xs : List Hd} (h : HoldsH w v xs) (hb : Below w.heap.size w w') : HoldsH w' v xs := by
  obtain ⟨A, c, rfl, h1, h2, h3⟩ := h
  exact ⟨A, c, rfl, h1.below hb, h2, h3⟩
theorem RowH.holds {w : World} {B : Nat} {v : Value} {xs : List Hd} (h : RowH w B v xs) : HoldsH w v xs := by
  obtain ⟨A, c, rfl, h1, h2, h3⟩ := SlAt.of_own encH_len h
  exact ⟨A, c, rfl, h3, h1, h2⟩
theorem SlAt.held {w : World} {A : Option Addr} {xs : List Hd} (h : HeldAt w A xs) {j : Nat} (hj : j < xs.length) :
    ∃ b off, ∃ x : Hd, A = some ⟨b, off, none⟩ ∧ b < w.heap.size ∧ xs[j]? = some x ∧ w.cell? ⟨b, off + j * 5, none⟩ = some (.string ⟨x.1.toArray⟩) ∧ w.cell? ⟨b, off + j * 5 + 1, none⟩ = some (.int .i64 x.2.r) ∧ w.cell? ⟨b, off + j * 5 + 2, none⟩ = some (.int .i64 x.2.c) ∧ w.cell? ⟨b, off + j * 5 + 3, none⟩ = some (.int .i64 x.2.q) ∧ w.cell? ⟨b, off + j * 5 + 4, none⟩ = some (.int .u64 (x.2.t : Int)) := by
  obtain ⟨b, off, rfl, hb, hc⟩ := h (by omega)
  have hx := List.getElem?_eq_getElem hj
  exact ⟨b, off, xs[j], rfl, hb, hx, by simpa using hc j _ hx 0 _ rfl, hc j _ hx 1 _ rfl, hc j _ hx 2 _ rfl, hc j _ hx 3 _ rfl, hc j _ hx 4 _ rfl⟩
/-- A block that holds one. -/
def BlkH (W : World) (g : Nat) (x : Hd) : Prop := W.heap[g]? = some (.cells #[.string ⟨x.1.toArray⟩, .int .i64 x.2.r, .int .i64 x.2.c, .int .i64 x.2.q, .int .u64 (x.2.t : Int)] 100 (0, 0))
section
variable {W W' : World} {g : Nat} {x : Hd}
theorem BlkH.lt (h : BlkH W g x) : g < W.heap.size := (Array.getElem?_eq_some_iff.1 h).1
theorem BlkH.cell0 (h : BlkH W g x) : W.cell? ⟨g, 0, none⟩ = some (.string ⟨x.1.toArray⟩) := by simp [World.cell?, show W.heap[g]? = _ from h]
theorem BlkH.cell1 (h : BlkH W g x) : W.cell? ⟨g, 1, none⟩ = some (.int .i64 x.2.r) := by simp [World.cell?, show W.heap[g]? = _ from h]
theorem BlkH.cell2 (h : BlkH W g x) : W.cell? ⟨g, 2, none⟩ = some (.int .i64 x.2.c) := by simp [World.cell?, show W.heap[g]? = _ from h]
theorem BlkH.cell3 (h : BlkH W g x) : W.cell? ⟨g, 3, none⟩ = some (.int .i64 x.2.q) := by simp [World.cell?, show W.heap[g]? = _ from h]
theorem BlkH.cell4 (h : BlkH W g x) : W.cell? ⟨g, 4, none⟩ = some (.int .u64 (x.2.t : Int)) := by simp [World.cell?, show W.heap[g]? = _ from h]
theorem BlkH.frozen (h : BlkH W g x) (k : Nat) : W.frozen? ⟨g, k, none⟩ = false := by simp [World.frozen?, show W.heap[g]? = _ from h]
theorem BlkH.below (h : BlkH W g x) (hb : Below W.heap.size W W') : BlkH W' g x := (hb.block g h.lt).trans h
theorem BlkH.new (W : World) (x : Hd) : BlkH (W.alloc (.cells #[.string ⟨x.1.toArray⟩, .int .i64 x.2.r, .int .i64 x.2.c, .int .i64 x.2.q, .int .u64 (x.2.t : Int)] 100)) W.heap.size x := heap_alloc_new W _
end

/-- A known result, and no more than some draws and some blocks behind. -/
def OneG (v : Value) (w : World) (e : Ending) (w' : World) : Prop := e = .returned v ∧ ∃ q os', w' = Sort.grow (w.drewN q) os'

theorem drewN_growJ (w : World) (os : Array Obj) (n : Nat) : (grow w os).drewN n = grow (w.drewN n) os := rfl
set_option maxHeartbeats 400000 in
theorem qtyNewerG (a b : Mk) (w : World) : Calls Tryz.prog 187 #[mkV a, mkV b] w (OneG (.bool (newerN a b)) w) := by
  obtain ⟨r, c, q, t⟩ := a
  obtain ⟨r', c', q', t'⟩ := b
  go_enter Tryz.func187, Tryz.ntmps187
  go_wp2
  all_goals
    go_ret
    refine ⟨?_, 0, _, by rw [Sort.alloc_eq_grow, Sort.alloc_eq_grow, Sort.grow_grow]; rfl⟩
    refine congrArg (fun b => Ending.returned (.bool b)) ?_
    rw [Bool.eq_iff_iff, newerN_iff]
    simp at *
    try omega

set_option maxHeartbeats 1000000 in
theorem qtyCompareG (a b : Mk) (w : World) : Calls Tryz.prog 128 #[mkV a, mkV b] w (OneG (.int .i64 (cmpN a b)) w) := by
  have heq := eqlMark a b
  have hc : cmpN a b = if decide (a = b) = true then 0 else if newerN a b then 1 else -1 := by
    by_cases h : a = b
    · rw [if_pos (decide_eq_true h), (cmpN_zero a b).2 h]
    · rw [if_neg (by simpa using h)]
      cases h2 : newerN a b with
      | true => rw [(cmpN_one a b).2 h2]; rfl
      | false =>
        rcases cmpN_cases a b with k | k | k
        · rw [(cmpN_one a b).1 k] at h2; cases h2
        · rw [k]; rfl
        · exact absurd ((cmpN_zero a b).1 k) h
  have hn := fun W => qtyNewerG a b W
  generalize decide (a = b) = x at heq hc
  generalize newerN a b = y at hn hc
  generalize cmpN a b = z at hc ⊢
  have HC := Lib.hid hc
  have HN := Lib.hid hn
  clear hc hn
  obtain ⟨r, c, q, t⟩ := a
  obtain ⟨r', c', q', t'⟩ := b
  cases x with
  | true =>
    go_enter Tryz.func128, Tryz.ntmps128
    go_wp2_with fail
    go_ret
    exact ⟨by rw [HC.out]; rfl, 0, _, by rw [Sort.alloc_eq_grow, Sort.alloc_eq_grow, Sort.grow_grow]; rfl⟩
  | false =>
    cases y with
    | true =>
      go_enter Tryz.func128, Tryz.ntmps128
      go_wp2_with fail
      refine (HN.out _).mono ?_
      rintro e w1 ⟨rfl, q0, os0, rfl⟩
      go_wp2_with fail
      go_ret
      exact ⟨by rw [HC.out]; rfl, q0, _, by rw [Sort.alloc_eq_grow, Sort.alloc_eq_grow, Sort.grow_grow, drewN_growJ, Sort.grow_grow]⟩
    | false =>
      go_enter Tryz.func128, Tryz.ntmps128
      go_wp2_with fail
      refine (HN.out _).mono ?_
      rintro e w1 ⟨rfl, q0, os0, rfl⟩
      go_wp2_with fail
      go_ret
      exact ⟨by rw [HC.out]; rfl, q0, _, by rw [Sort.alloc_eq_grow, Sort.alloc_eq_grow, Sort.grow_grow, drewN_growJ, Sort.grow_grow]⟩

/-- The first one of three numbers that is not 0. -/
def or3 (x y z : Int) : Int := if x ≠ 0 then x else if y ≠ 0 then y else z
set_option maxHeartbeats 1000000 in
theorem cmpOr3 (b : Nat) (cap : Nat) (x y z : Int) (w : World) (h0 : w.cell? ⟨b, 0, none⟩ = some (.int .i64 x)) (h1 : w.cell? ⟨b, 1, none⟩ = some (.int .i64 y)) (h2 : w.cell? ⟨b, 2, none⟩ = some (.int .i64 z)) :
    Calls Tryz.prog 127 #[.slice (some ⟨b, 0, none⟩) 3 cap] w (One (.int .i64 (or3 x y z)) w) := by
  obtain ⟨v, hv⟩ : ∃ v, or3 x y z = v := ⟨_, rfl⟩
  rw [hv]
  unfold or3 at hv
  by_cases hx : x = 0
  · have hx' : (x != 0) = false := by simp [hx]
    rw [if_neg (by simpa using hx)] at hv
    by_cases hy : y = 0
    · have hy' : (y != 0) = false := by simp [hy]
      rw [if_neg (by simpa using hy)] at hv
      by_cases hz : z = 0
      · have hz' : (z != 0) = false := by simp [hz]
        rw [hz] at hv
        clear hx hy hz
        subst hv
        go_enter Tryz.func127, Tryz.ntmps127
        go_wp2
        refine wp_loop_rounds 4 ?_
        rw [rounds_succ]
        go_wp2
        rw [rounds_succ]
        go_wp2
        rw [rounds_succ]
        go_wp2
        rw [rounds_succ]
        go_wp2
        go_ret
        exact ⟨rfl, rfl⟩
      · have hz' : (z != 0) = true := by simp [hz]
        clear hx hy hz
        subst hv
        go_enter Tryz.func127, Tryz.ntmps127
        go_wp2
        refine wp_loop_rounds 3 ?_
        rw [rounds_succ]
        go_wp2
        rw [rounds_succ]
        go_wp2
        rw [rounds_succ]
        go_wp2
        go_ret
        exact ⟨rfl, rfl⟩
    · have hy' : (y != 0) = true := by simp [hy]
      rw [if_pos (by simpa using hy)] at hv
      clear hx hy
      subst hv
      go_enter Tryz.func127, Tryz.ntmps127
      go_wp2
      refine wp_loop_rounds 2 ?_
      rw [rounds_succ]
      go_wp2
      rw [rounds_succ]
      go_wp2
      go_ret
      exact ⟨rfl, rfl⟩
  · have hx' : (x != 0) = true := by simp [hx]
    rw [if_pos (by simpa using hx)] at hv
    clear hx
    subst hv
    go_enter Tryz.func127, Tryz.ntmps127
    go_wp2
    refine wp_loop_rounds 1 ?_
    rw [rounds_succ]
    go_wp2
    go_ret
    exact ⟨rfl, rfl⟩

/-- Two boxes of marks with names, some draws and some blocks behind. -/
def KHo (W0 : World) (x y : Hd) (W : World) : Prop := (∃ p : GrownBy, W = grow ((((W0.alloc (.cells #[.string ⟨x.1.toArray⟩, .int .i64 x.2.r, .int .i64 x.2.c, .int .i64 x.2.q, .int .u64 (x.2.t : Int)] 100)).alloc (.cells #[.string ⟨y.1.toArray⟩, .int .i64 y.2.r, .int .i64 y.2.c, .int .i64 y.2.q, .int .u64 (y.2.t : Int)] 100)).drewN p.n)) p.os)
section
variable {W0 W : World} {x y : Hd}
theorem KHo.blk (h : KHo W0 x y W) : BlkH W W0.heap.size x ∧ BlkH W (W0.heap.size + 1) y := by
  obtain ⟨p, rfl⟩ := h
  have h1 := BlkH.new W0 x
  have h2 := BlkH.new (W0.alloc (.cells #[.string ⟨x.1.toArray⟩, .int .i64 x.2.r, .int .i64 x.2.c, .int .i64 x.2.q, .int .u64 (x.2.t : Int)] 100)) y
  rw [World.size_alloc] at h2
  have hb := below_grow ((W0.alloc (.cells #[.string ⟨x.1.toArray⟩, .int .i64 x.2.r, .int .i64 x.2.c, .int .i64 x.2.q, .int .u64 (x.2.t : Int)] 100)).alloc (.cells #[.string ⟨y.1.toArray⟩, .int .i64 y.2.r, .int .i64 y.2.c, .int .i64 y.2.q, .int .u64 (y.2.t : Int)] 100)) p.n p.os
  exact ⟨(h1.below ((Below.refl _ _).alloc (Nat.le_refl _) _)).below hb, h2.below hb⟩
theorem KHo.sp (h : KHo W0 x y W) : W.cell? ⟨W0.heap.size, 0, none⟩ = some (.string ⟨x.1.toArray⟩) ∧ W.cell? ⟨W0.heap.size, 1, none⟩ = some (.int .i64 x.2.r) ∧ W.cell? ⟨W0.heap.size, 2, none⟩ = some (.int .i64 x.2.c) ∧ W.cell? ⟨W0.heap.size, 3, none⟩ = some (.int .i64 x.2.q) ∧ W.cell? ⟨W0.heap.size, 4, none⟩ = some (.int .u64 (x.2.t : Int)) ∧
    W.cell? ⟨W0.heap.size + 1, 0, none⟩ = some (.string ⟨y.1.toArray⟩) ∧ W.cell? ⟨W0.heap.size + 1, 1, none⟩ = some (.int .i64 y.2.r) ∧ W.cell? ⟨W0.heap.size + 1, 2, none⟩ = some (.int .i64 y.2.c) ∧ W.cell? ⟨W0.heap.size + 1, 3, none⟩ = some (.int .i64 y.2.q) ∧ W.cell? ⟨W0.heap.size + 1, 4, none⟩ = some (.int .u64 (y.2.t : Int)) ∧ KHo W0 x y W :=
  ⟨h.blk.1.cell0, h.blk.1.cell1, h.blk.1.cell2, h.blk.1.cell3, h.blk.1.cell4, h.blk.2.cell0, h.blk.2.cell1, h.blk.2.cell2, h.blk.2.cell3, h.blk.2.cell4, h⟩
theorem KHo.drew (h : KHo W0 x y W) : KHo W0 x y W.drew := by
  obtain ⟨p, rfl⟩ := h
  exact ⟨⟨p.n + 1, p.os⟩, by rw [← World.drewN_drewN]; rfl⟩
theorem KHo.next (h : KHo W0 x y W) {q : Nat} {os : Array Obj} : KHo W0 x y (grow (W.drewN q) os) := by
  obtain ⟨p, rfl⟩ := h
  exact ⟨⟨p.n + q, p.os ++ os⟩, by rw [drewN_growJ, grow_grow, World.drewN_drewN]⟩
theorem KHo.alloc (h : KHo W0 x y W) (o : Obj) : KHo W0 x y (W.alloc o) := by
  have := h.next (q := 0) (os := #[o])
  rw [Sort.alloc_eq_grow]; exact this
theorem KHo.fin (h : KHo W0 x y W) : ∃ q os', W = grow (W0.drewN q) os' := by
  obtain ⟨p, rfl⟩ := h
  exact ⟨p.n, _, by rw [Sort.alloc_eq_grow, Sort.alloc_eq_grow, grow_grow, drewN_growJ, grow_grow]⟩
theorem KHo.new (W0 : World) (x y : Hd) : KHo W0 x y ((W0.alloc (.cells #[.string ⟨x.1.toArray⟩, .int .i64 x.2.r, .int .i64 x.2.c, .int .i64 x.2.q, .int .u64 (x.2.t : Int)] 100)).alloc (.cells #[.string ⟨y.1.toArray⟩, .int .i64 y.2.r, .int .i64 y.2.c, .int .i64 y.2.q, .int .u64 (y.2.t : Int)] 100)) :=
  ⟨⟨0, #[]⟩, by rw [grow_empty]; rfl⟩
end

end

section
open Go.RowKit Go.Sort

instance : Inhabited Mk := ⟨Mk.zero⟩
instance : Inhabited ItV := ⟨ItV.zero⟩
/-- From the library's words to lists. -/
theorem perm_sorted {α : Type} [Inhabited α] {lt : α → α → Bool} {xs : List α} {d : Array α} (hp : PermIn 0 xs.toArray.size xs.toArray d) (hs : SortedIn lt 0 xs.toArray.size d) : d.size = xs.length ∧ d.toList.Perm xs ∧ d.toList.Pairwise fun a b => lt b a = false := by
  obtain ⟨hsz, _, hperm⟩ := hp
  have e1 : d.extract 0 xs.toArray.size = d := by rw [← hsz]; exact Array.extract_size
  rw [e1, Array.extract_size] at hperm
  refine ⟨by simpa using hsz, by simpa using hperm, ?_⟩
  rw [List.pairwise_iff_getElem]
  intro i j hi hj hij
  have := hs i j (Nat.zero_le _) hij (by rw [← hsz]; simpa using hj)
  simp only [Array.length_toList] at hi hj
  rw [getElem!_pos d i hi, getElem!_pos d j hj] at this
  simpa using this

end

section
open Go.RowKit Go.Sort

instance : Inhabited Hd := ⟨([], Mk.zero)⟩
theorem ordH_or3 (x y : Hd) : or3 (Lib.compareBytes x.1 y.1) (cmpD x.2.r x.2.c y.2.r y.2.c) (cmpN y.2 x.2) = ordH x y := rfl

set_option maxRecDepth 100000 in
set_option maxHeartbeats 4000000 in
theorem joOrder (x y : Hd) (w : World) : Calls Tryz.prog 70 #[mkH x, mkH y] w (OneG (.int .i64 (ordH x y)) w) := by
  obtain ⟨v, hv⟩ : ∃ v, ordH x y = v := ⟨_, rfl⟩
  have h0 := ordH_or3 x y
  rw [hv] at h0 ⊢
  have H1 := Lib.hid fun W => strCompare x.1 y.1 W
  have H2 := Lib.hid fun W => dotCompareG x.2.r x.2.c y.2.r y.2.c W
  have H3 := Lib.hid fun W => qtyCompareG y.2 x.2 W
  generalize Lib.compareBytes x.1 y.1 = p1 at H1 h0
  generalize cmpD x.2.r x.2.c y.2.r y.2.c = p2 at H2 h0
  generalize cmpN y.2 x.2 = p3 at H3 h0
  have HV := Lib.hid h0
  have K := KHo.new w x y
  clear hv h0
  go_enter Tryz.func70, Tryz.ntmps70
  go_wp2_with fail
  generalize hz : w.heap.size = g at K ⊢
  generalize World.alloc (World.alloc w _) _ = w2 at K ⊢
  subst hz
  have hS := K
  have hS' := hS.sp
  clear K
  go_wp2_with fail
  go_region_held3 (fun W => W.cell? ⟨w.heap.size, 0, none⟩ = some (.string ⟨x.1.toArray⟩) ∧ W.cell? ⟨w.heap.size, 1, none⟩ = some (.int .i64 x.2.r) ∧ W.cell? ⟨w.heap.size, 2, none⟩ = some (.int .i64 x.2.c) ∧ W.cell? ⟨w.heap.size, 3, none⟩ = some (.int .i64 x.2.q) ∧ W.cell? ⟨w.heap.size, 4, none⟩ = some (.int .u64 (x.2.t : Int)) ∧
    W.cell? ⟨w.heap.size + 1, 0, none⟩ = some (.string ⟨y.1.toArray⟩) ∧ W.cell? ⟨w.heap.size + 1, 1, none⟩ = some (.int .i64 y.2.r) ∧ W.cell? ⟨w.heap.size + 1, 2, none⟩ = some (.int .i64 y.2.c) ∧ W.cell? ⟨w.heap.size + 1, 3, none⟩ = some (.int .i64 y.2.q) ∧ W.cell? ⟨w.heap.size + 1, 4, none⟩ = some (.int .u64 (y.2.t : Int)) ∧ KHo w x y W)
    (first
      | assumption
      | (exact KHo.sp (by assumption))
      | (exact KHo.sp (KHo.drew (by assumption)))
      | (exact KHo.sp (KHo.alloc (by assumption) _)))
    (first
      | (go_at_call 85; refine (H1.out _).mono ?_
         rintro e wa ⟨rfl, rfl⟩)
      | (go_at_call 115; refine (H2.out _).mono ?_
         rintro e wb ⟨rfl, q2, os2, hw2⟩
         have hS2 : KHo w x y wb := by rw [hw2]; exact KHo.next (by first | assumption | exact KHo.drew (by assumption))
         have hS2' := hS2.sp
         clear hw2)
      | (go_at_call 128; refine (H3.out _).mono ?_
         rintro e wc ⟨rfl, q3, os3, hw3⟩
         have hS3 : KHo w x y wc := by rw [hw3]; exact KHo.next (by first | assumption | exact KHo.drew (by assumption))
         have hS3' := hS3.sp
         clear hw3)
      | (go_at_call 127; refine (cmpOr3 _ _ p1 p2 p3 _ (by go_simp) (by go_simp) (by go_simp)).mono ?_
         rintro e wd ⟨rfl, rfl⟩
         have hSd := KHo.alloc (W := _) (by assumption) (.cells #[.int .i64 p1, .int .i64 p2, .int .i64 p3] 3)))
  all_goals
    have KF := Lib.hid (KHo.fin hSd)
    go_wp2_with fail
    go_ret
    exact ⟨by first | (rw [HV.out]; rfl) | rfl, KF.out⟩

theorem cmpBytes_self : ∀ a : List UInt8, Lib.compareBytes a a = 0
  | [] => rfl
  | a :: r => by
    rw [Lib.compareBytes, if_neg (by simp), if_neg (by simp)]
    exact cmpBytes_self r
theorem cmpBytes_swap : ∀ a b : List UInt8, Lib.compareBytes b a = - Lib.compareBytes a b
  | [], [] => rfl
  | [], _ :: _ => rfl
  | _ :: _, [] => rfl
  | a :: r, b :: s => by
    rw [Lib.compareBytes, Lib.compareBytes]
    by_cases h1 : a < b
    · have h2 : ¬ b < a := fun h => absurd (UInt8.lt_trans h1 h) (by simp)
      rw [if_neg h2, if_pos h1, if_pos h1]; rfl
    · by_cases h2 : b < a
      · rw [if_pos h2, if_neg h1, if_pos h2]
      · rw [if_neg h2, if_neg h1, if_neg h1, if_neg h2]
        exact cmpBytes_swap r s
theorem ltOf_ordH : (ltOf fun a b : Hd => ordH a b) = ltH := by
  funext x y
  simp only [ltOf]
  rw [Bool.eq_iff_iff, decide_eq_true_eq]
  unfold ordH ltH
  have e0 : Lib.compareBytes x.1 y.1 = 0 ↔ x.1 = y.1 := by
    constructor
    · intro h
      have h1 : beforeN x.1 y.1 = false := by
        cases k : beforeN x.1 y.1 with
        | false => rfl
        | true => have := (cmpBytes_neg x.1 y.1).2 k; omega
      have h2 : beforeN y.1 x.1 = false := by
        cases k : beforeN y.1 x.1 with
        | false => rfl
        | true =>
          have := (cmpBytes_neg y.1 x.1).2 k
          have hs := cmpBytes_swap x.1 y.1
          omega
      exact beforeN_total h1 h2
    · intro h; rw [h]; exact cmpBytes_self _
  by_cases h1 : x.1 = y.1
  · have k1 : Lib.compareBytes x.1 y.1 = 0 := e0.2 h1
    have k2 : beforeN x.1 y.1 = false := by rw [h1]; exact beforeN_irrefl _
    rw [if_neg (by simpa using k1), k2]
    simp only [h1, decide_true, Bool.true_and, Bool.false_or]
    by_cases h2 : dotH x = dotH y
    · have k3 : cmpD x.2.r x.2.c y.2.r y.2.c = 0 := (cmpD_zero (p := dotH x) (q := dotH y)).2 h2
      have k4 : ltD (dotH x) (dotH y) = false := by rw [h2]; exact ltD_irrefl _
      rw [if_neg (by simpa using k3), k4]
      simp only [h2, decide_true, Bool.true_and, Bool.false_or]
      exact cmpN_neg _ _
    · have k3 : ¬ cmpD x.2.r x.2.c y.2.r y.2.c = 0 := fun h => h2 ((cmpD_zero (p := dotH x) (q := dotH y)).1 h)
      rw [if_pos k3]
      simp only [h2, decide_false, Bool.false_and, Bool.or_false]
      exact cmpD_neg (p := dotH x) (q := dotH y)
  · have k1 : ¬ Lib.compareBytes x.1 y.1 = 0 := fun h => h1 (e0.1 h)
    rw [if_pos k1]
    simp only [h1, decide_false, Bool.false_and, Bool.or_false]
    exact cmpBytes_neg _ _
theorem ltH_iff {x y : Hd} : ltH x y = true ↔ beforeN x.1 y.1 = true ∨ (x.1 = y.1 ∧ (ltD (dotH x) (dotH y) = true ∨ (dotH x = dotH y ∧ newerN x.2 y.2 = true))) := by
  unfold ltH
  simp
theorem ltH_trans {x y z : Hd} (h1 : ltH x y = true) (h2 : ltH y z = true) : ltH x z = true := by
  rw [ltH_iff] at *
  rcases h1 with h1 | ⟨e1, h1⟩
  · rcases h2 with h2 | ⟨e2, _⟩
    · exact .inl (beforeN_trans h1 h2)
    · exact .inl (by rw [← e2]; exact h1)
  · rcases h2 with h2 | ⟨e2, h2⟩
    · exact .inl (by rw [e1]; exact h2)
    · refine .inr ⟨e1.trans e2, ?_⟩
      rcases h1 with h1 | ⟨d1, h1⟩
      · rcases h2 with h2 | ⟨d2, _⟩
        · exact .inl (ltD_trans h1 h2)
        · exact .inl (by rw [← d2]; exact h1)
      · rcases h2 with h2 | ⟨d2, h2⟩
        · exact .inl (by rw [d1]; exact h2)
        · exact .inr ⟨d1.trans d2, newerN_trans h1 h2⟩
theorem ltH_total {x y : Hd} (h1 : ltH x y = false) (h2 : ltH y x = false) : x = y := by
  obtain ⟨a1, a2⟩ := ltH_no.1 h1
  obtain ⟨b1, b2⟩ := ltH_no.1 h2
  have e := beforeN_total a1 b1
  obtain ⟨c1, c2⟩ := a2 e
  obtain ⟨d1, d2⟩ := b2 e.symm
  have ed := ltD_total _ _ c1 d1
  exact Prod.ext e (newerN_total (c2 ed) (d2 ed.symm))
theorem swoH : SWO ltH where
  irrefl x := ltH_self x
  trans x y z := ltH_trans
  ntrans x y z h1 h2 := by
    cases k : ltH x z with
    | false => rfl
    | true =>
      cases e : ltH y x with
      | true => rw [ltH_trans e k] at h2; cases h2
      | false =>
        have := ltH_total h1 e
        subst this
        rw [k] at h2; cases h2
theorem heldLays (blk off size : Nat) (w : World) : CmpLays Tryz.prog 70 #[] encH 5 (fun a b : Hd => ordH a b) blk off size w :=
  fun _ _ _ _ x y => joOrder x y _

theorem sortHeldF (v : Value) (base : Nat) (xs : List Hd) (w : World) (h : RowH w base v xs) (hm : xs.length ≤ 1000000) :
    Calls Tryz.prog 69 #[v, .func (.func 70) #[] #[]] w fun e w' => e = .returned (.tuple #[]) ∧ ∃ ys : List Hd, ys.Perm xs ∧ ys.Pairwise (fun a b => ltH b a = false) ∧ RowH w' base v ys ∧ w.grownBy w' v.ownBlock := by
  rcases Nat.eq_zero_or_pos xs.length with h0 | h0
  · have hn : xs = [] := List.eq_nil_of_length_eq_zero h0
    subst hn
    obtain ⟨A, c, rfl, _⟩ := SlAt.of_own encH_len h
    have hc := AnyF.slices_SortFunc_none (P := Tryz.prog) (ρ := Tryz.sortHeld_ren) { Tryz.sortHeld with } A c (.func (.func 70) #[] #[]) w
    refine Calls.mono (show Calls Tryz.prog 69 _ _ _ from hc) ?_
    rintro e w' ⟨he, rfl⟩
    exact ⟨he, [], List.Perm.refl _, List.Pairwise.nil, h, World.grownBy.refl _ _⟩
  · obtain ⟨g, cap, rfl, hb, hg⟩ := h.form h0
    have eg : ∀ args w, (callFunc 70 args).run Tryz.prog w = .ok (.enter 70 args) w := enters_of Tryz.func70 (by kernel_rfl) rfl
    have hc := AnyQ.slices_SortFunc Tryz.sortHeld 5 Tryz.isAgg100 Tryz.sizeOf100 encH encH_len encH_one (fun a b : Hd => ordH a b) (by rw [ltOf_ordH]; exact swoH) 70 #[] g 0 cap xs.toArray w eg (heldLays g 0 _ w) (holdsK_of_own encH_len (by omega) h) hg (by simp; omega)
    have hc' : Calls Tryz.prog 69 #[.slice (some ⟨g, 0, none⟩) xs.length cap, .func (.func 70) #[] #[]] w _ := hc
    refine hc'.mono ?_
    rintro e w' ⟨he, d, n, os, hp, hs, rfl⟩
    obtain ⟨k1, k2, k3⟩ := perm_sorted hp hs
    obtain ⟨h1, h2⟩ := own_of_sort (m := n) (os := os) (d := d) encH_len (by omega) h k1
    refine ⟨he, d.toList, k2, ?_, ?_, h2⟩
    · rw [ltOf_ordH] at k3
      exact k3
    · have e1 : d.toList.length = xs.length := by simpa using k1
      show World.ownsRow _ _ _ _ _ d.toList.length _
      exact h1

set_option maxHeartbeats 1000000 in
theorem joSame (x y : Hd) (b : Bool) (w : World) (hb : decide (dotH x = dotH y) = b) : Calls Tryz.prog 72 #[mkH x, mkH y] w (OneB (.bool b) w) := by
  have heq : ∀ w, (binOp .eql 30 (.agg #[.int .i64 x.2.r, .int .i64 x.2.c]) (.agg #[.int .i64 y.2.r, .int .i64 y.2.c])).run Tryz.prog w = .ok (.bool b) w := by
    intro w
    rw [eqlDot, ← hb]
    congr 2
    rw [Bool.eq_iff_iff]
    simp
  clear hb
  go_enter Tryz.func72, Tryz.ntmps72
  go_wp2_with fail
  go_ret
  exact ⟨rfl, ((Below.refl _ _).alloc (Nat.le_refl _) _).alloc (by simp) _⟩

/-- slices.Grow of nil by n: a row of the call's own with nothing in it. -/
theorem growHeld (n : Nat) (w : World) (hn : n ≤ 1000000) :
    Calls Tryz.prog 120 #[.slice none 0 0, .int .i64 n] w fun e w' => ∃ v, e = .returned v ∧ RowH w' w.heap.size v [] ∧ Below w.heap.size w w' := by
  obtain ⟨i0, hi0, hz0, hz1, hz2⟩ := info_parts infoH
  rcases Nat.eq_zero_or_pos n with h0 | h0
  · subst h0
    have hc : Calls Tryz.prog 120 #[.slice none 0 0, .int .i64 ((0 : Nat) : Int)] w _ := Any8.slices_Grow_room Tryz.growHeld none 0 0 0 w (by omega) (by omega) (by omega) (by omega)
    refine hc.mono ?_
    rintro e w' ⟨rfl, rfl⟩
    exact ⟨_, rfl, World.ownsRow_nil _ _ _ _, Below.refl _ _⟩
  · have hc : Calls Tryz.prog 120 #[.slice none 0 0, .int .i64 (n : Int)] w _ := Any8.slices_Grow_grow Tryz.growHeld i0 (.agg #[.string ⟨#[]⟩, .int .i64 0, .int .i64 0, .int .i64 0, .int .u64 0]) hi0 hz0 (by omega) none 0 0 n [] w (by omega) (by omega) (by rw [hz2]; omega) (by omega) (by simp) (fun _ => rfl) (fun a h => by cases h)
    refine hc.mono ?_
    rintro e w' ⟨rfl, rfl⟩
    have hge := grownCap_ge w (0 + n) 0 100
    have hcm := grownCap_le_maxLen w (0 + n) 0 100 (by simp [maxLen]; omega)
    have hct : Tryz.growHeld_ren.t 25 = 100 := rfl
    refine ⟨_, rfl, World.ownsRow_made w.drew _ _ (Nat.le_refl _) hcm ?_, (Below.refl _ w).drew.alloc (Nat.le_refl _) _⟩
    rw [hct]
    simp only [Array.size_append, size_zeroCells, Value.cells]
    generalize grownCap w (0 + n) 0 100 = C at *
    show 0 + (0 + n - 0) * 5 + (C - (0 + n)) * 5 = C * 5
    omega

set_option maxRecDepth 100000 in
set_option maxHeartbeats 1000000 in
theorem concatHeld (A B : Option Addr) (xs ys : List Hd) (b cap c c' : Nat) (w : World) (hx : HeldAt w A xs) (hy : HeldAt w B ys) (hm : xs.length + ys.length ≤ 1000000)
    (h0 : w.cell? ⟨b, 0, none⟩ = some (.slice A xs.length c)) (h1 : w.cell? ⟨b, 1, none⟩ = some (.slice B ys.length c')) :
    Calls Tryz.prog 67 #[.slice (some ⟨b, 0, none⟩) 2 cap] w fun e w' => ∃ v, e = .returned v ∧ RowH w' w.heap.size v (xs ++ ys) ∧ Below w.heap.size w w' := by
  obtain ⟨i0, hi0, hz0, hz1, hz2⟩ := info_parts infoH
  have hbl := World.block_lt_of_cell? w _ h0
  have hg : ∀ W, Calls Tryz.prog 120 #[.slice none 0 0, .int .i64 ((xs.length : Int) + (ys.length : Int))] W fun e w' => ∃ v, e = .returned v ∧ RowH w' W.heap.size v [] ∧ Below W.heap.size W w' := fun W => by
    have := growHeld (xs.length + ys.length) W (by omega)
    rwa [Int.natCast_add] at this
  have HG := Lib.hid hg; clear hg
  go_enter Tryz.func67, Tryz.ntmps67
  go_wp2
  refine wp_loop_rounds 3 ?_
  rw [rounds_succ]
  go_wp2
  rw [rounds_succ]
  go_wp2
  rw [rounds_succ]
  go_wp2_with fail
  refine (HG.out _).mono ?_
  rintro e w1 ⟨v, rfl, hm1⟩
  have k0 := (hm1.2.cell (p := ⟨b, 0, none⟩) hbl).trans h0
  have k1 := (hm1.2.cell (p := ⟨b, 1, none⟩) hbl).trans h1
  have HM := Lib.hid hm1
  have H1 := Lib.hid h1
  clear hm1 h0 h1
  go_wp2
  refine wp_loop_rounds 3 ?_
  rw [rounds_succ]
  go_wp2_with (at_builtin; refine wpList_append_sl (o := ⟨some 33, _, _, _, _, _⟩) _ encH 5 rfl (.tmp 31) (.tmp 32) 97 rfl encH_len (by omega) encH_one w.heap.size 100 i0 _ 48 Tryz.underlying97 hi0 hz0 hz1 hz2 rfl v [] rfl HM.out.1 A _ c xs rfl rfl (hx.below HM.out.2) (by simp [maxLen]; omega) (by simp; omega) HM.out.2.size ?_; intro v2 w2 hown2 hg2 hat2)
  have hm2 : RowH w2 w.heap.size v2 xs ∧ Below w.heap.size w w2 := ⟨by simpa using hown2, HM.out.2.grown hg2 HM.out.2.size (fun k hk => (HM.out.1.lt k hk).1)⟩
  have j1 := (hm2.2.cell (p := ⟨b, 1, none⟩) hbl).trans H1.out
  have HM2 := Lib.hid hm2
  clear hm2 hown2 hg2 hat2 k0 k1 HM
  rw [rounds_succ]
  go_wp2_with (at_builtin; refine wpList_append_sl (o := ⟨some 33, _, _, _, _, _⟩) _ encH 5 rfl (.tmp 31) (.tmp 32) 97 rfl encH_len (by omega) encH_one w.heap.size 100 i0 _ 48 Tryz.underlying97 hi0 hz0 hz1 hz2 rfl v2 xs rfl HM2.out.1 B _ c' ys rfl rfl (hy.below HM2.out.2) (by simp only [maxLen]; omega) (by omega) HM2.out.2.size ?_; intro v3 w3 hown3 hg3 hat3)
  have hm3 : RowH w3 w.heap.size v3 (xs ++ ys) ∧ Below w.heap.size w w3 := ⟨hown3, HM2.out.2.grown hg3 HM2.out.2.size (fun k hk => (HM2.out.1.lt k hk).1)⟩
  have HM3 := Lib.hid hm3
  clear hm3 hown3 hg3 hat3 j1 HM2
  rw [rounds_succ]
  go_wp2
  go_ret
  exact ⟨_, rfl, HM3.out⟩

end

end Go.Proofs.YtiaehpdgpjhecaaGreat
