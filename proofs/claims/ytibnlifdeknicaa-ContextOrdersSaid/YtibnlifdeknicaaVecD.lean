/- Package vector: the sort by replicas; ordered makes the vector of a list of dots out of their greatest counters. -/
import Derived.Test.YtibnlifdeknicaaVecC
import Derived.Test.YtibnlifdeknicaaShelf
import Derived.Deep.AppendLies
namespace Go.Proofs.Ytibnlifdeknicaa
open Go.RowKit Go.Maps Go.Sort

theorem cmpI_neg {a b : Int} : cmpI a b < 0 ↔ a < b := by
  unfold cmpI
  by_cases h : a < b
  · simp [h]
  · by_cases h2 : b < a <;> simp [h, h2]

set_option maxHeartbeats 400000 in
theorem vecLess (r c r' c' : Int) (w : World) :
    Calls Try.prog 87 #[.agg #[.int .i64 r, .int .i64 c], .agg #[.int .i64 r', .int .i64 c']] w fun e w' => e = .returned (.int .i64 (cmpI r r')) ∧ ∃ q os', w' = Sort.grow (w.drewN q) os' := by
  go_enter Try.func87, Try.ntmps87
  go_wp2_with (go_at_call 83; refine (cmpCompare _ _ _).mono ?_; rintro e w' ⟨rfl, rfl⟩)
  go_ret
  exact ⟨rfl, 0, _, by rw [Sort.alloc_eq_grow, Sort.alloc_eq_grow, Sort.grow_grow]; rfl⟩

theorem ltOf_vec : (ltOf fun p q : Int × Int => cmpI p.1 q.1) = fun p q => decide (p.1 < q.1) := by
  funext p q
  simp only [ltOf]
  rw [Bool.eq_iff_iff]
  simp [cmpI_neg]
theorem swoV : SWO (fun p q : Int × Int => decide (p.1 < q.1)) where
  irrefl x := by simp
  trans x y z h1 h2 := by simp at *; omega
  ntrans x y z h1 h2 := by simp at *; omega

theorem vecLays (blk off size : Nat) (w : World) : CmpLays Try.prog 87 #[] encD 2 (fun p q : Int × Int => cmpI p.1 q.1) blk off size w :=
  fun _ _ _ _ x y => vecLess x.1 x.2 y.1 y.2 _

set_option maxRecDepth 100000 in
set_option maxHeartbeats 2000000 in
theorem sortVecEq (blk cap : Nat) (d : Array (Int × Int)) (w : World) (hH : HoldsK encD 2 w blk 0 d) (hblk : blk < w.heap.size) (hsz : d.size < 4611686018427387904) :
    Calls Try.prog 86 #[.slice (some ⟨blk, 0, none⟩) d.size cap, .func (.func 87) #[] #[]] w fun e w' =>
      e = .returned (.tuple #[]) ∧ ∃ n os, w' = sortWorldK encD 2 w blk 0 n (pdq (ltOf fun p q : Int × Int => cmpI p.1 q.1) d 0 d.size (Lib.bitLen d.size) true true) os := by
  have eg : ∀ args w, (callFunc 87 args).run Try.prog w = .ok (.enter 87 args) w := enters_of Try.func87 (by kernel_rfl) rfl
  have hO : SWO (ltOf fun p q : Int × Int => cmpI p.1 q.1) := by rw [ltOf_vec]; exact swoV
  have hlim : Lib.bitLen d.size < 4611686018427387904 := Nat.lt_of_le_of_lt (Lib.bitLen_le d.size 62 (by omega) (by omega)) (by omega)
  have hp := AnyQ.pdqsortCmpFunc_all (P := Try.prog) (ρ := Try.sortDots_ren) { Try.sortDots with } 2 Try.isAgg38 Try.sizeOf38 encD (fun p q : Int × Int => cmpI p.1 q.1) 87 #[] hO blk 0 cap d w eg (vecLays blk 0 d.size w) ⟨encD_len, encD_one, hH, hblk⟩ (d.size + 1) 0 d.size (Lib.bitLen d.size) d w (by omega) rfl (SWK.start hH) (Nat.zero_le _) (Nat.le_refl _) hsz hlim (Or.inl rfl)
  have hl : Calls Try.prog 94 #[.int .u64 (d.size : Int)] w fun e w' => e = .returned (.int .i64 (Lib.bitLen d.size : Nat)) ∧ w' = w := by
    have h := Any.bits_Len (SlLaysF0.n15.bits (P := Try.prog) (ρ := Try.sortDots_ren) { Try.sortDots with }) (d.size : Int) w (by omega) (by omega)
    rw [Int.toNat_natCast] at h
    exact h
  have wr : IntKind.u64.wrap (d.size : Int) = d.size := by simp [IntKind.wrap, IntKind.bits, IntKind.signed]; omega
  have hp' : Calls Try.prog 93 #[.slice (some ⟨blk, 0, none⟩) d.size cap, .int .i64 0, .int .i64 d.size, .int .i64 (Lib.bitLen d.size), .func (.func 87) #[] #[]] w _ := hp
  clear hp hH
  go_enter Try.func86, Try.ntmps86
  go_wp2_with (first | (go_at_call 94; refine hl.mono ?_; rintro e w' ⟨rfl, rfl⟩) | (go_at_call 93; refine hp'.mono ?_; rintro e w' ⟨rfl, n, os, rfl⟩))
  go_end0
  exact ⟨rfl, n, os, rfl⟩

theorem sortVec (g cap base : Nat) (xs : List (Int × Int)) (w : World) (h : w.ownsRow base 38 2 (.slice (some ⟨g, 0, none⟩) xs.length cap) xs.length (cellsOf encD xs)) (hm : xs.length ≤ 1000000) :
    Calls Try.prog 86 #[.slice (some ⟨g, 0, none⟩) xs.length cap, .func (.func 87) #[] #[]] w fun e w' => e = .returned (.tuple #[]) ∧
      ∃ ys : List (Int × Int), ys.Perm xs ∧ ys.Pairwise (fun p q => ¬ q.1 < p.1) ∧ w'.ownsRow base 38 2 (.slice (some ⟨g, 0, none⟩) xs.length cap) ys.length (cellsOf encD ys) ∧ w.grownBy w' (some g) := by
  have hg : g < w.heap.size := by
    rcases h.2 with ⟨h0, _⟩ | ⟨g', cap', cur, hv, hb, hg, _⟩
    · cases h0
    · cases hv; exact (Array.getElem?_eq_some_iff.1 hg).1
  have hc := sortVecEq g cap xs.toArray w (holdsK_of_own encD_len (by omega) h) hg (by simp; omega)
  have hO : SWO (ltOf fun p q : Int × Int => cmpI p.1 q.1) := by rw [ltOf_vec]; exact swoV
  obtain ⟨hp, hs⟩ := pdq_sorts (ltOf fun p q : Int × Int => cmpI p.1 q.1) hO xs.toArray 0 xs.toArray.size (Lib.bitLen xs.toArray.size) true true (Nat.zero_le _) (Nat.le_refl _) (Or.inl rfl)
  generalize pdq (ltOf fun p q : Int × Int => cmpI p.1 q.1) xs.toArray 0 xs.toArray.size (Lib.bitLen xs.toArray.size) true true = d at hp hs hc
  obtain ⟨hsz, _, hperm⟩ := hp
  have e1 : d.extract 0 xs.toArray.size = d := by rw [← hsz]; exact Array.extract_size
  rw [e1, Array.extract_size] at hperm
  refine Calls.mono (show Calls Try.prog 86 #[.slice (some ⟨g, 0, none⟩) xs.length cap, .func (.func 87) #[] #[]] w _ from hc) ?_
  rintro e w' ⟨he, n, os, rfl⟩
  obtain ⟨h1, h2⟩ := own_of_sort (m := n) (os := os) (d := d) encD_len (by omega) h (by simpa using hsz)
  refine ⟨he, d.toList, by simpa using hperm, ?_, h1, h2⟩
  rw [List.pairwise_iff_getElem]
  intro i j hi hj hij
  have := hs i j (Nat.zero_le _) hij (by rw [← hsz]; simpa using hj)
  rw [ltOf_vec] at this
  simp only [Array.length_toList] at hi hj
  rw [getElem!_pos d i hi, getElem!_pos d j hj] at this
  simpa using this

/-- What was met so far of a map: no key twice, each with its element. -/
def Coll (l : List (Int × Int)) (left : Lit → Bool) (ys : List (Int × Int)) : Prop :=
  ys.Pairwise (fun p q => p.1 ≠ q.1) ∧ (∀ p ∈ ys, p.2 = maxC l p.1 0 ∧ (∃ q ∈ l, q.1 = p.1) ∧ left (.int .i64 p.1) = false) ∧ ∀ q ∈ l, left (.int .i64 q.1) = false → ∃ p ∈ ys, p.1 = q.1
theorem Coll.start {D : DataW Unit} {l : List (Int × Int)} (h : MapIs D l) : Coll l (Maps.has D) [] :=
by
  refine ⟨List.Pairwise.nil, fun p hp => (by cases hp), fun q hq hl => ?_⟩
  rw [h.2] at hl
  have : (l.any fun p => p.1 == q.1) = true := List.any_eq_true.2 ⟨q, hq, by simp⟩
  rw [this] at hl; cases hl
theorem sameKey_self (x : Int) : (Lit.int .i64 x).sameKey (.int .i64 x) = true := by simp [Lit.sameKey]
theorem Coll.step {D : DataW Unit} {l : List (Int × Int)} {left : Lit → Bool} {ys : List (Int × Int)} (hD : MapIs D l) (h : Coll l left ys) {x c : Int} (hl : left (.int .i64 x) = true) (hh : ∃ q ∈ l, q.1 = x) (hat : ∀ zd, D.atKey (.int .i64 x) zd = .lit (.int .i64 c)) :
    Coll l (fun z => left z && !z.sameKey (.int .i64 x)) (ys ++ [(x, c)]) := by
  obtain ⟨h1, h2, h3⟩ := h
  have hc := hD.val (hat _)
  refine ⟨List.pairwise_append.2 ⟨h1, by simp, fun p hp q hq => ?_⟩, fun p hp => ?_, fun q hq hl' => ?_⟩
  · simp at hq; subst hq
    intro e
    have := (h2 p hp).2.2
    rw [e] at this
    simp only at this
    rw [hl] at this; cases this
  · rcases List.mem_append.1 hp with hp | hp
    · obtain ⟨a, b, c'⟩ := h2 p hp
      exact ⟨a, b, by simp [c']⟩
    · simp at hp; subst hp
      exact ⟨hc, hh, by simp [sameKey_self]⟩
  · by_cases e : q.1 = x
    · exact ⟨(x, c), by simp, e.symm⟩
    · have hne : (Lit.int .i64 q.1).sameKey (.int .i64 x) = false := sameKey_ne (lit_ne e)
      simp only [hne, Bool.not_false, Bool.and_true] at hl'
      obtain ⟨p, hp, e2⟩ := h3 q hq hl'
      exact ⟨p, by simp [hp], e2⟩
theorem coll_sorted {l ys zs : List (Int × Int)} {left : Lit → Bool} (hv : ∀ p ∈ l, validD p.1 p.2 = true) (h : Coll l left ys) (hl : ∀ k, left k = false) (hp : zs.Perm ys) (hs : zs.Pairwise fun p q => ¬ q.1 < p.1) : zs = ofV l := by
  obtain ⟨h1, h2, h3⟩ := h
  have hn : zs.Pairwise fun p q => p.1 ≠ q.1 := hp.symm.pairwise h1 (fun h => Ne.symm h)
  refine ofV_unique hv ?_ (fun p hp' => ?_) (fun q hq => ?_)
  · refine (hs.and hn).imp ?_
    rintro a b ⟨h, h'⟩
    omega
  · obtain ⟨a, b, _⟩ := h2 p (hp.mem_iff.1 hp')
    exact ⟨a, b⟩
  · obtain ⟨p, hp', e⟩ := h3 q hq (hl _)
    exact ⟨p, hp.mem_iff.2 hp', e⟩

end Go.Proofs.Ytibnlifdeknicaa
