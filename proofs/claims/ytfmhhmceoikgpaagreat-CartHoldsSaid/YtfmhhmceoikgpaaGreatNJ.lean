/- Several texts in one: CarY, CarY1, CarY2. -/
import Derived.Test.YtfmhhmceoikgpaaGreatNH
import Derived.Test.YtfmhhmceoikgpaaGreatNI
namespace Go.Proofs.YtfmhhmceoikgpaaGreat

section
open Go.RowKit

theorem pass_sum : ∀ (l v rest : List (Int × Int)), (passC v rest l).1.length + (passC v rest l).2.length ≤ v.length + rest.length + l.length
  | [], v, rest => by simp [passC]
  | d :: l, v, rest => by
    unfold passC
    by_cases h : hasV v d.1 d.2 = true
    · rw [if_pos h]; have := pass_sum l v rest; simp only [List.length_cons]; omega
    · rw [if_neg h]
      by_cases h2 : d.2 = getV v d.1 + 1
      · rw [if_pos h2]; have := pass_sum l (raiseV v d) rest; have := raiseV_len v d; simp only [List.length_cons]; omega
      · rw [if_neg h2]; have := pass_sum l v (rest ++ [d]); simp only [List.length_cons, List.length_append, List.length_nil] at *; omega
theorem compN_sum : ∀ (n : Nat) (v l : List (Int × Int)), (compN n v l).1.length + (compN n v l).2.length ≤ v.length + l.length
  | 0, v, l => by simp [compN]
  | n + 1, v, l => by
    unfold compN
    split
    · exact Nat.le_refl _
    · have h1 := compN_sum n (passC v [] l).1 (passC v [] l).2
      have h2 := pass_sum l v []
      simp only [List.length_nil] at h2
      omega
theorem addC_sum (v l m : List (Int × Int)) : (addC v l m).1.length + (addC v l m).2.length ≤ v.length + l.length + m.length := by
  have h1 := compN_sum (setL (l ++ m)).length v (setL (l ++ m))
  have h2 := setL_len (l ++ m)
  rw [List.length_append] at h2
  unfold addC compactC
  omega

/-- A cart that is not too much. -/
def smallK (d : Ca) : Prop := d.2.length ≤ 20 ∧ (∀ x ∈ d.2, x.1.length ≤ 100 ∧ x.2.length ≤ 10) ∧ d.1.1.length + d.1.2.length ≤ 300
theorem flatMarks_len : ∀ l : List It, (∀ x ∈ l, x.2.length ≤ 10) → (l.flatMap (·.2)).length ≤ 10 * l.length
  | [], _ => by simp
  | x :: r, h => by
    have h1 := flatMarks_len r fun y hy => h y (List.mem_cons_of_mem _ hy)
    have h2 := h x (by simp)
    rw [List.flatMap_cons, List.length_append, List.length_cons]; omega
theorem dotsI_le (l : List It) : (dotsI l).length ≤ (l.flatMap (·.2)).length := by
  rw [dotsI_all]
  refine Nat.le_trans (setL_len _) ?_
  unfold allD
  rw [List.length_flatMap, List.length_flatMap]
  exact Nat.le_of_eq (congrArg List.sum (List.map_congr_left fun x _ => dotsM_len x.2))
section
variable {c : CaV}
theorem smallK.items (h : smallK c.ca) : c.xs.length ≤ 20 ∧ ∀ x ∈ c.xs, x.nm.length ≤ 100 ∧ x.ms.length ≤ 10 :=
  ⟨by have := h.1; rwa [show c.ca.2.length = c.xs.length from its_len c.xs] at this, fun x hx => h.2.1 x.it (List.mem_map.2 ⟨x, hx, rfl⟩)⟩
theorem smallK.ctx (h : smallK c.ca) : c.vs.length + c.ls.length ≤ 300 := h.2.2
theorem smallK.fits (h : smallK c.ca) : Fits c.xs := ⟨by have := h.items.1; omega, fun x hx => by have := h.items.2 x hx; omega⟩
theorem smallK.marks (h : smallK c.ca) : (marksX c.xs).length ≤ 200 := by
  have h1 := flatMarks_len c.ca.2 fun x hx => (h.2.1 x hx).2
  rw [show c.ca.2.flatMap (·.2) = marksX c.xs from marksX_its c.xs] at h1
  have := h.1
  omega
theorem smallK.dotsK (h : smallK c.ca) : (dotsI (its c.xs)).length ≤ 200 := by
  have h1 := dotsI_le (its c.xs)
  rw [marksX_its] at h1
  have := h.marks
  omega
theorem smallK.k (h : smallK c.ca) : FitsK c := ⟨h.fits, by have := h.ctx; have := h.dotsK; omega⟩
theorem smallK.n (h : smallK c.ca) : FitsN c := ⟨h.fits, by have := h.ctx; have := h.marks; omega⟩
theorem smallK.cc (h : smallK c.ca) : FitsC c := ⟨by have := h.ctx; omega, by have := h.ctx; omega, h.fits⟩
theorem lightK_small (h : lightK c = true) : smallK c.ca := by
  obtain ⟨_, h1, h2, h3, h4⟩ := lightK_fits h
  refine ⟨by rw [show c.ca.2.length = c.xs.length from its_len c.xs]; exact h3, fun x hx => ?_, by show c.vs.length + c.ls.length ≤ 300; omega⟩
  obtain ⟨z, hz, rfl⟩ := List.mem_map.1 hx
  exact h4 z hz
end
theorem canonK_parts {c d : Ca} (h : canonK c = some d) : OrdInv c.2 d.2 ∧ d.1 = addC c.1.1 c.1.2 (dotsI d.2) := by
  unfold canonK at h
  split at h
  · cases hk : canonI c.2 with
    | none => rw [hk] at h; cases h
    | some k =>
      rw [hk] at h
      have e : (addC c.1.1 c.1.2 (dotsI k), k) = d := Option.some.inj h
      subst e
      exact ⟨canonI_some hk, rfl⟩
  · cases h
theorem names_nodup {l : List It} (h : l.Pairwise fun x y => x.1 ≠ y.1) : l.Nodup := h.imp fun {a b} hab e => hab (by rw [e])
theorem OrdInv.perm {xs k : List It} (h : OrdInv xs k) : k.Perm (xs.map ordI) := by
  refine (List.perm_ext_iff_of_nodup ?_ ?_).2 fun z => ?_
  · exact names_nodup (h.good.2.1.imp fun {a b} hab e => by rw [e, beforeN_irrefl] at hab; cases hab)
  · refine names_nodup ?_
    rw [List.pairwise_map]
    exact h.loose.2.imp fun {a b} hab => hab.1
  · rw [h.mem, List.mem_map]
    exact ⟨fun ⟨x, h1, h2⟩ => ⟨x, h1, h2.symm⟩, fun ⟨x, h1, h2⟩ => ⟨x, h1, h2.symm⟩⟩
/-- What Canon makes of a light cart is not too much. -/
theorem canonK_small {c d : Ca} (h : canonK c = some d) (hl : c.2.length ≤ 20) (hx : ∀ x ∈ c.2, x.1.length ≤ 100 ∧ x.2.length ≤ 10) (hc : c.1.1.length + c.1.2.length ≤ 80) : smallK d := by
  obtain ⟨ho, he⟩ := canonK_parts h
  have hp := ho.perm
  have h2 : ∀ x ∈ d.2, x.1.length ≤ 100 ∧ x.2.length ≤ 10 := fun z hz => by
    obtain ⟨x, hx', rfl⟩ := List.mem_map.1 (hp.mem_iff.1 hz)
    exact ⟨(hx x hx').1, by show (sortM x.2).length ≤ 10; rw [(sortM_perm x.2).length_eq]; exact (hx x hx').2⟩
  have h1 : d.2.length ≤ 20 := by rw [hp.length_eq, List.length_map]; exact hl
  refine ⟨h1, h2, ?_⟩
  have h3 := addC_sum c.1.1 c.1.2 (dotsI d.2)
  have h4 := dotsI_le d.2
  have h5 := flatMarks_len d.2 fun x hx => (h2 x hx).2
  rw [he]
  omega
theorem canonI_dots {c : CaV} (h : smallK c.ca) {k : List It} (hk : canonI (its c.xs) = some k) : (dotsI k).length ≤ 600 := by
  have hp := (canonI_some hk).perm
  have h2 : ∀ x ∈ k, x.2.length ≤ 10 := fun z hz => by
    obtain ⟨x, hx', rfl⟩ := List.mem_map.1 (hp.mem_iff.1 hz)
    show (sortM x.2).length ≤ 10
    rw [(sortM_perm x.2).length_eq]; exact (h.2.1 x hx').2
  have h1 := dotsI_le k
  have h5 := flatMarks_len k h2
  have h6 := hp.length_eq
  rw [List.length_map] at h6
  have h7 : (its c.xs).length ≤ 20 := h.1
  omega

/-- No cart at all. -/
abbrev CaV.zero : CaV := ⟨none, 0, [], none, 0, [], none, 0, []⟩
theorem CaV.zero_ok (W : World) : CaOK W CaV.zero := ⟨Holds.nil W, Holds.nil W, none, 0, rfl, ⟨SlAt.nil, fun x hx => (by cases hx)⟩, by simp [maxLen]⟩

set_option maxHeartbeats 4000000 in
theorem lawCanon10 (c d : CaV) (no : Int) (w : World) (hc : CaOK w c) (hd : CaOK w d) (hs : smallK c.ca) (hm : d.xs.length ≤ 100000) (hr : (canonK c.ca = some d.ca ∧ no = 0) ∨ (canonK c.ca = none ∧ d.ca = CaV.zero.ca ∧ no = 2)) :
    Calls Tryz.prog 17 #[mkC c, mkC d, .int .i64 no] w (TrueB w) := by
  have h1 := (Below.refl w.heap.size w).alloc (Nat.le_refl _) (.cells #[c.v, c.l, c.i] 28)
  have K0 := Lib.hid (KK.push (L := [(w.heap.size, c)]) (KK.new w c hc) d (hd.below h1) (w.heap.size + 1) (by simp))
  have HN := Lib.hid hs.n
  clear h1 hc hd
  rcases hr with ⟨hr, rfl⟩ | ⟨hr, hdz, rfl⟩
  · have HR := Lib.hid hr
    have hsd : (c.ca.2).length ≤ 20 := hs.1
    have HM := Lib.hid (show ∀ k : CaV, k.ca = d.ca → k.xs.length ≤ 100000 from fun k hk => by
      have h := congrArg (fun a : Ca => a.2.length) hk
      simp only [CaV.ca, its_len] at h
      omega)
    clear hr hs hsd
    go_enter Tryz.func17, Tryz.ntmps17
    go_upto_region 1 with fail
    generalize World.alloc (World.alloc w _) _ = w2 at K0 ⊢
    obtain ⟨x0, x1, x2, y0, y1, y2, xl, yl, _⟩ := K0.out.sp2
    go_wp2_with fail
    refine (caCanon c (some d.ca) w2 (K0.out.ok (g := w.heap.size) (by simp)) HN.out HR.out).mono ?_
    rintro e w3 ⟨⟨k, rfl, hk, rv, rl, ri⟩, hb⟩
    have hok : CaOK w3 k := ⟨holds_row rv, holds_row rl, ri.holds⟩
    have K1 := Lib.hid (KK.push (L := [(w.heap.size, c), (w.heap.size + 1, d)]) (K0.out.next hb) k hok w3.heap.size rfl)
    have HK := Lib.hid hk
    have KN := Lib.hid (K0.out.next hb)
    clear hb rv rl ri hok hk K0 x0 x1 x2 y0 y1 y2 xl yl
    obtain ⟨x0, x1, x2, y0, y1, y2, xl, yl, _⟩ := KN.out.sp2
    clear KN
    go_wp2_with fail
    refine (refEqual10 k d true _ (K1.out.ok (g := w3.heap.size) (by simp)) (K1.out.ok (g := w.heap.size + 1) (by simp)) (HM.out k HK.out) hm (by rw [HK.out]; exact sameC_iff.2 rfl)).mono ?_
    rintro e w5 ⟨rfl, hb⟩
    have KB := Lib.hid (K1.out.next hb).bel
    clear hb K1 x0 x1 x2 y0 y1 y2 xl yl
    go_wp2_with fail
    go_ret
    exact OneB.bool rfl KB.out
  · have HR := Lib.hid hr
    have HZ := Lib.hid hdz
    clear hr hs hdz
    go_enter Tryz.func17, Tryz.ntmps17
    go_upto_region 1 with fail
    generalize World.alloc (World.alloc w _) _ = w2 at K0 ⊢
    obtain ⟨x0, x1, x2, y0, y1, y2, xl, yl, _⟩ := K0.out.sp2
    go_wp2_with fail
    refine (caCanon c none w2 (K0.out.ok (g := w.heap.size) (by simp)) HN.out HR.out).mono ?_
    rintro e w3 ⟨rfl, hb⟩
    have K1 := Lib.hid (KK.push (L := [(w.heap.size, c), (w.heap.size + 1, d)]) (K0.out.next hb) CaV.zero (CaV.zero_ok _) w3.heap.size rfl)
    have KN := Lib.hid (K0.out.next hb)
    clear hb K0 x0 x1 x2 y0 y1 y2 xl yl
    obtain ⟨x0, x1, x2, y0, y1, y2, xl, yl, _⟩ := KN.out.sp2
    clear KN
    go_wp2_with fail
    refine (refEqual10 CaV.zero d true _ (K1.out.ok (g := w3.heap.size) (by simp)) (K1.out.ok (g := w.heap.size + 1) (by simp)) (by simp) hm (by rw [HZ.out]; exact sameC_iff.2 rfl)).mono ?_
    rintro e w5 ⟨rfl, hb⟩
    have KB := Lib.hid (K1.out.next hb).bel
    clear hb K1 x0 x1 x2 y0 y1 y2 xl yl
    go_wp2_with fail
    go_ret
    exact OneB.bool rfl KB.out

set_option maxHeartbeats 1000000 in
theorem lawHas10 (c : CaV) (nm : List UInt8) (q : Int) (n : Nat) (w : World) (hc : CaOK w c) (hs : smallK c.ca) (hv : qtyC c.ca nm = (q, n)) :
    Calls Tryz.prog 20 #[mkC c, .string ⟨nm.toArray⟩, .int .i64 q, .int .i64 (n : Int)] w (TrueB w) := by
  have K0 := Lib.hid (KB1.new w c hc)
  have HC := Lib.hid fun W (h : CaOK W c) => caQty c nm q n W h hs.k hv
  clear hc hs hv
  go_enter Tryz.func20, Tryz.ntmps20
  go_upto_region 1 with fail
  generalize World.alloc w _ = w2 at K0 ⊢
  obtain ⟨x0, x1, x2, xl, _⟩ := K0.out.sp
  go_wp2_with fail
  refine (HC.out _ K0.out.ok).mono ?_
  rintro e w3 ⟨rfl, hb⟩
  have KB := Lib.hid (K0.out.next hb).bel
  clear hb K0 x0 x1 x2 xl
  go_wp2_with fail
  go_ret
  exact OneB.bool (by simp) KB.out
set_option maxHeartbeats 1000000 in
theorem lawTime10 (c : CaV) (t n : Nat) (w : World) (hc : CaOK w c) (hs : smallK c.ca) (ht : ∀ m ∈ marksX c.xs, m.t < 18446744073709551616) (hv : timeC c.ca = (t, n)) :
    Calls Tryz.prog 24 #[mkC c, .int .u64 (t : Int), .int .i64 (n : Int)] w (TrueB w) := by
  have K0 := Lib.hid (KB1.new w c hc)
  have HC := Lib.hid fun W (h : CaOK W c) => caTime c t n W h hs.k ht hv
  clear hc hs hv ht
  go_enter Tryz.func24, Tryz.ntmps24
  go_upto_region 1 with fail
  generalize World.alloc w _ = w2 at K0 ⊢
  obtain ⟨x0, x1, x2, xl, _⟩ := K0.out.sp
  go_wp2_with fail
  refine (HC.out _ K0.out.ok).mono ?_
  rintro e w3 ⟨rfl, hb⟩
  have KB := Lib.hid (K0.out.next hb).bel
  clear hb K0 x0 x1 x2 xl
  go_wp2_with fail
  go_ret
  exact OneB.bool (by simp) KB.out

end

section
open Go.RowKit

/-- The chapter's examples hold. -/
abbrev KnownOK : Prop := ∀ W, Calls Tryz.prog 9 #[] W (TrueB W)
theorem sameC_self (a : Ca) : sameC a a = true := sameC_iff.2 rfl
theorem KK.cells {w W : World} {L : List (Nat × CaV)} (h : KK w L W) {g : Nat} {c : CaV} (hm : (g, c) ∈ L) : W.cell? ⟨g, 0, none⟩ = some c.v ∧ W.cell? ⟨g, 1, none⟩ = some c.l ∧ W.cell? ⟨g, 2, none⟩ = some c.i ∧ g < W.heap.size := ⟨(h.blk hm).cell0, (h.blk hm).cell1, (h.blk hm).cell2, (h.blk hm).lt⟩
theorem KK.size {w W : World} {L : List (Nat × CaV)} (h : KK w L W) : w.heap.size ≤ W.heap.size := h.bel.size
/-- A copy, a box, what was spoilt: nothing of what was there ahead of the copy has changed. -/
theorem below_trans' {W W1 W2 W3 : World} (h1 : Below W.heap.size W W1) (h2 : Below W1.heap.size W1 W2) (h3 : Below W.heap.size W2 W3) : Below W.heap.size W W3 := Below.trans (Below.trans h1 (h2.mono h1.size)) h3
theorem of_ca {c k : CaV} (h : k.ca = c.ca) : k.vs = c.vs ∧ k.ls = c.ls ∧ its k.xs = its c.xs := by
  have h1 := congrArg (fun a : Ca => a.1.1) h
  have h2 := congrArg (fun a : Ca => a.1.2) h
  have h3 := congrArg (fun a : Ca => a.2) h
  exact ⟨h1, h2, h3⟩

set_option maxRecDepth 100000 in
set_option maxHeartbeats 8000000 in
theorem lawValid10 (KN : KnownOK) (a b : CaV) (w : World) (ha : CaOK w a) (hb : CaOK w b) :
    Calls Tryz.prog 3 #[mkC a, mkC b] w (TrueB w) := by
  have h1 := (Below.refl w.heap.size w).alloc (Nat.le_refl _) (.cells #[a.v, a.l, a.i] 28)
  have K0 := Lib.hid (KK.push (L := [(w.heap.size, a)]) (KK.new w a ha) b (hb.below h1) (w.heap.size + 1) (by simp))
  have HKN := Lib.hid KN
  obtain ⟨la, hla⟩ : ∃ la, lightK a = la := ⟨_, rfl⟩
  obtain ⟨lb, hlb⟩ : ∃ lb, lightK b = lb := ⟨_, rfl⟩
  have HLA := Lib.hid hla
  have HLB := Lib.hid hlb
  clear h1 ha hb hla hlb KN
  cases la with
  | false =>
    go_enter Tryz.func3, Tryz.ntmps3
    go_upto_region 1 with fail
    generalize World.alloc (World.alloc w _) _ = w2 at K0 ⊢
    obtain ⟨x0, x1, x2, y0, y1, y2, xl, yl, _⟩ := K0.out.sp2
    go_wp2_with fail
    refine (lawLight10 a false w2 (K0.out.ok (g := w.heap.size) (by simp)) HLA.out).mono ?_
    rintro e w3 ⟨rfl, hb⟩
    have KB := Lib.hid (K0.out.next hb).bel
    clear hb K0 x0 x1 x2 y0 y1 y2 xl yl
    go_wp2_with fail
    refine (HKN.out w3).mono ?_
    rintro e w4 ⟨rfl, hb⟩
    have KC := Lib.hid (below_trans KB.out hb)
    clear hb KB
    go_wp2_with fail
    go_ret
    exact OneB.bool rfl KC.out
  | true =>
    cases lb with
    | false =>
      go_enter Tryz.func3, Tryz.ntmps3
      go_upto_region 1 with fail
      generalize World.alloc (World.alloc w _) _ = w2 at K0 ⊢
      obtain ⟨x0, x1, x2, y0, y1, y2, xl, yl, _⟩ := K0.out.sp2
      go_wp2_with fail
      refine (lawLight10 a true w2 (K0.out.ok (g := w.heap.size) (by simp)) HLA.out).mono ?_
      rintro e w3 ⟨rfl, hb⟩
      have K1 := Lib.hid (K0.out.next hb)
      clear hb K0 x0 x1 x2 y0 y1 y2 xl yl
      obtain ⟨x0, x1, x2, y0, y1, y2, xl, yl, _⟩ := K1.out.sp2
      go_wp2_with fail
      refine (lawLight10 b false w3 (K1.out.ok (g := w.heap.size + 1) (by simp)) HLB.out).mono ?_
      rintro e w4 ⟨rfl, hb⟩
      have KB := Lib.hid (K1.out.next hb).bel
      clear hb K1 x0 x1 x2 y0 y1 y2 xl yl
      go_wp2_with fail
      refine (HKN.out w4).mono ?_
      rintro e w5 ⟨rfl, hb⟩
      have KC := Lib.hid (below_trans KB.out hb)
      clear hb KB
      go_wp2_with fail
      go_ret
      exact OneB.bool rfl KC.out
    | true =>
      have HSA := Lib.hid (lightK_small HLA.out)
      have HSB := Lib.hid (lightK_small HLB.out)
      obtain ⟨v, hv⟩ : ∃ v, validK a.ca = v := ⟨_, rfl⟩
      obtain ⟨q, hq⟩ : ∃ q, sameC a.ca b.ca = q := ⟨_, rfl⟩
      have HV := Lib.hid hv
      have HQ := Lib.hid hq
      clear hv hq
      go_enter Tryz.func3, Tryz.ntmps3
      go_upto_region 1 with fail
      generalize World.alloc (World.alloc w _) _ = w2 at K0 ⊢
      obtain ⟨x0, x1, x2, y0, y1, y2, xl, yl, _⟩ := K0.out.sp2
      go_wp2_with fail
      refine (lawLight10 a true w2 (K0.out.ok (g := w.heap.size) (by simp)) HLA.out).mono ?_
      rintro e w3 ⟨rfl, hb⟩
      have K1 := Lib.hid (K0.out.next hb)
      clear hb K0 x0 x1 x2 y0 y1 y2 xl yl
      obtain ⟨x0, x1, x2, y0, y1, y2, xl, yl, _⟩ := K1.out.sp2
      go_wp2_with fail
      refine (lawLight10 b true w3 (K1.out.ok (g := w.heap.size + 1) (by simp)) HLB.out).mono ?_
      rintro e w4 ⟨rfl, hb⟩
      have K2 := Lib.hid (K1.out.next hb)
      clear hb K1 x0 x1 x2 y0 y1 y2 xl yl HLA HLB
      obtain ⟨x0, x1, x2, y0, y1, y2, xl, yl, _⟩ := K2.out.sp2
      have l0 := fun p => cell_far (p := p) xl x0
      have l1 := fun p => cell_far (p := p) xl x1
      have l2 := fun p => cell_far (p := p) xl x2
      have m0 := fun p => cell_far (p := p) yl y0
      have m1 := fun p => cell_far (p := p) yl y1
      have m2 := fun p => cell_far (p := p) yl y2
      have C1 := Lib.hid fun p => caValid a v (far w4 p) ((K2.out.far p).ok (g := w.heap.size) (by simp)) HSA.out.k HV.out
      have C2 := Lib.hid fun p => refValid10 a v (far w4 p) ((K2.out.far p).ok (g := w.heap.size) (by simp)) HSA.out.fits HV.out
      have C3 := Lib.hid fun p => caEqual a b q (far w4 p) ((K2.out.far p).ok (g := w.heap.size) (by simp)) ((K2.out.far p).ok (g := w.heap.size + 1) (by simp)) (by have := HSA.out.items.1; omega) (by have := HSB.out.items.1; omega) HQ.out
      have C4 := Lib.hid fun p => refEqual10 a b q (far w4 p) ((K2.out.far p).ok (g := w.heap.size) (by simp)) ((K2.out.far p).ok (g := w.heap.size + 1) (by simp)) (by have := HSA.out.items.1; omega) (by have := HSB.out.items.1; omega) HQ.out
      have C5 := Lib.hid fun p => caEqual a a true (far w4 p) ((K2.out.far p).ok (g := w.heap.size) (by simp)) ((K2.out.far p).ok (g := w.heap.size) (by simp)) (by have := HSA.out.items.1; omega) (by have := HSA.out.items.1; omega) (sameC_self _)
      clear HV HQ
      cases v <;> cases q
      all_goals
        go_wp2_with fail
        refine wp_region_far (by kernel_rfl) (by kernel_rfl) ?_
        repeat (go_big_quiet_step ((first | (go_at_call 10; exact OneB.far (C1.out _)) | (go_at_call 11; exact OneB.far (C2.out _)) | (go_at_call 12; with_reducible first | exact OneB.far (C3.out _) | exact OneB.far (C5.out _)) | (go_at_call 13; exact OneB.far (C4.out _)))))
        refine wpQuiet_nil ?_
        rintro _ ⟨p, rfl⟩
        have K3 := Lib.hid (K2.out.far p)
        clear K2 x0 x1 x2 y0 y1 y2 xl yl l0 l1 l2 m0 m1 m2 C1 C2 C3 C4 C5
        generalize far w4 p = w5 at K3 ⊢
        obtain ⟨x0, x1, x2, y0, y1, y2, xl, yl, _⟩ := K3.out.sp2
        go_wp2_with fail
        refine (caCopy a w5 (K3.out.ok (g := w.heap.size) (by simp)) HSA.out.cc).mono ?_
        rintro e w6 ⟨k, rfl, hk, rv, rl, ri, hb⟩
        have hok : CaOK w6 k := ⟨by have := holds_row rv; rwa [← (of_ca hk).1] at this, by have := holds_row rl; rwa [← (of_ca hk).2.1] at this, ri.holds⟩
        have K4 := Lib.hid (KK.push (L := [(w.heap.size, a), (w.heap.size + 1, b)]) (K3.out.next hb) k hok w6.heap.size rfl)
        have KN4 := Lib.hid (K3.out.next hb)
        have HK := Lib.hid hk
        have HSK := Lib.hid (show smallK k.ca from by rw [hk]; exact HSA.out)
        clear hb rv rl ri hok hk K3 x0 x1 x2 y0 y1 y2 xl yl
        obtain ⟨x0, x1, x2, y0, y1, y2, xl, yl, _⟩ := KN4.out.sp2
        clear KN4
        go_wp2_with fail
        refine (refEqual10 k a true _ (K4.out.ok (g := w6.heap.size) (by simp)) (K4.out.ok (g := w.heap.size) (by simp)) (by have := HSK.out.items.1; omega) (by have := HSA.out.items.1; omega) (by rw [HK.out]; exact sameC_self _)).mono ?_
        rintro e w7 ⟨rfl, hb⟩
        have K5 := Lib.hid (K4.out.next hb)
        clear hb K4 x0 x1 x2 y0 y1 y2 xl yl
        obtain ⟨x0, x1, x2, xl⟩ := K5.out.cells (g := w.heap.size) (c := a) (by simp)
        obtain ⟨z0, z1, z2, zl⟩ := K5.out.cells (g := w6.heap.size) (c := k) (by simp)
        go_wp2_with fail
        refine (caCopy k w7 (K5.out.ok (g := w6.heap.size) (by simp)) HSK.out.cc).mono ?_
        rintro e w8 ⟨j, rfl, hj, rv, rl, ri, hb⟩
        have HB8 := Lib.hid hb
        have HBA := Lib.hid ((Below.refl w8.heap.size w8).alloc (Nat.le_refl _) (.cells #[j.v, j.l, j.i] 28))
        have hjk := of_ca (hj.trans HK.out)
        have HSJ := Lib.hid (show smallK j.ca from by rw [hj]; exact HSK.out)
        have HJ0 := heap_alloc_new w8 (.cells #[j.v, j.l, j.i] 28)
        have K6 := Lib.hid (K5.out.next hb)
        obtain ⟨a0, a1, a2, al⟩ := K6.out.cells (g := w.heap.size) (c := a) (by simp)
        obtain ⟨b0, b1, b2, bl⟩ := K6.out.cells (g := w6.heap.size) (c := k) (by simp)
        have HRV := Lib.hid (RowC.below rv HBA.out)
        have HRL := Lib.hid (RowC.below rl HBA.out)
        have HRI := Lib.hid (OwnI.below ri HBA.out)
        have HJK := Lib.hid (of_ca hj)
        clear hb rv rl ri hj hjk HJ0 K6 x0 x1 x2 xl z0 z1 z2 zl
        go_wp2_with fail
        refine (lawSpoil10 j w7.heap.size _ (DtsO.of_own HRV.out (by rw [HJK.out.1])) (DtsO.of_own HRL.out (by rw [HJK.out.2.1])) HRI.out (by have := HB8.out.size; simp; omega) (by have := HSJ.out.ctx; omega) (by have := HSJ.out.ctx; omega) (by have := HSJ.out.items.1; omega) (fun x hx => by have := (HSJ.out.items.2 x hx).1; omega)).mono ?_
        rintro e w9 ⟨rfl, hb⟩
        have K7 := Lib.hid (K5.out.next (below_trans' HB8.out HBA.out hb))
        clear hb K5 a0 a1 a2 al b0 b1 b2 bl HRV HRL HRI HBA HB8
        obtain ⟨x0, x1, x2, xl⟩ := K7.out.cells (g := w.heap.size) (c := a) (by simp)
        obtain ⟨z0, z1, z2, zl⟩ := K7.out.cells (g := w6.heap.size) (c := k) (by simp)
        go_wp2_with fail
        refine (refEqual10 k a true w9 (K7.out.ok (g := w6.heap.size) (by simp)) (K7.out.ok (g := w.heap.size) (by simp)) (by have := HSK.out.items.1; omega) (by have := HSA.out.items.1; omega) (by rw [HK.out]; exact sameC_self _)).mono ?_
        rintro e w10 ⟨rfl, hb⟩
        have KB := Lib.hid (K7.out.next hb).bel
        clear hb K7 x0 x1 x2 xl z0 z1 z2 zl
        go_wp2_with fail
        refine (HKN.out w10).mono ?_
        rintro e w11 ⟨rfl, hb⟩
        have KC := Lib.hid (below_trans KB.out hb)
        clear hb KB
        go_wp2_with fail
        go_ret
        exact OneB.bool rfl KC.out

end

section
open Go.RowKit

theorem smallK.canon {c : CaV} (h : smallK c.ca) {k : CaV} (hk : k.ca = c.ca) : smallK k.ca := by rw [hk]; exact h
theorem CaOK.of_rows {W : World} {B : Nat} {k : CaV} (rv : RowC W B k.v k.vs) (rl : RowC W B k.l k.ls) (ri : OwnI W B k.i k.xs) : CaOK W k := ⟨holds_row rv, holds_row rl, ri.holds⟩
theorem row_of {W : World} {B : Nat} {v : Value} {a b : List (Int × Int)} (h : RowC W B v b) (e : a = b) : RowC W B v a := by subst e; exact h

set_option maxRecDepth 100000 in
set_option maxHeartbeats 8000000 in
theorem lawCanons10 (KN : KnownOK) (c : CaV) (w : World) (hc : CaOK w c) :
    Calls Tryz.prog 4 #[mkC c] w (TrueB w) := by
  have K0 := Lib.hid (KK.new w c hc)
  have HKN := Lib.hid KN
  obtain ⟨lc, hlc⟩ : ∃ lc, lightK c = lc := ⟨_, rfl⟩
  have HLC := Lib.hid hlc
  clear hc hlc KN
  cases lc with
  | false =>
    go_enter Tryz.func4, Tryz.ntmps4
    go_upto_region 1 with fail
    generalize World.alloc w _ = w2 at K0 ⊢
    obtain ⟨x0, x1, x2, xl, _⟩ := K0.out.sp
    go_wp2_with fail
    refine (lawLight10 c false w2 (K0.out.ok (g := w.heap.size) (by simp)) HLC.out).mono ?_
    rintro e w3 ⟨rfl, hb⟩
    have KB := Lib.hid (K0.out.next hb).bel
    clear hb K0 x0 x1 x2 xl
    go_wp2_with fail
    refine (HKN.out w3).mono ?_
    rintro e w4 ⟨rfl, hb⟩
    have KC := Lib.hid (below_trans KB.out hb)
    clear hb KB
    go_wp2_with fail
    go_ret
    exact OneB.bool rfl KC.out
  | true =>
    have HS := Lib.hid (lightK_small HLC.out)
    have hl := lightK_fits HLC.out
    have HLL := Lib.hid (show c.vs.length + c.ls.length ≤ 80 from by omega)
    obtain ⟨r, hr⟩ : ∃ r, canonK c.ca = r := ⟨_, rfl⟩
    have HR := Lib.hid hr
    have HSD := Lib.hid (show ∀ d, r = some d → smallK d from fun d hd => by
      subst hd
      exact canonK_small hr HS.out.1 HS.out.2.1 HLL.out)
    clear hr hl
    go_enter Tryz.func4, Tryz.ntmps4
    go_upto_region 1 with fail
    generalize World.alloc w _ = w2 at K0 ⊢
    obtain ⟨x0, x1, x2, xl, _⟩ := K0.out.sp
    go_wp2_with fail
    refine (lawLight10 c true w2 (K0.out.ok (g := w.heap.size) (by simp)) HLC.out).mono ?_
    rintro e w3 ⟨rfl, hb⟩
    have K1 := Lib.hid (K0.out.next hb)
    clear hb K0 x0 x1 x2 xl
    obtain ⟨x0, x1, x2, xl, _⟩ := K1.out.sp
    go_wp2_with fail
    refine (refCanon10 c r w3 (K1.out.ok (g := w.heap.size) (by simp)) HS.out.cc (by have := HLL.out; omega) (fun k hk => canonI_dots HS.out hk) HR.out).mono ?_
    rintro e w4 ⟨hcr, hb⟩
    cases r with
    | none =>
      obtain rfl := hcr
      have KN4 := Lib.hid (K1.out.next hb)
      have K2 := Lib.hid ((K1.out.next hb).alloc (.cells #[.slice none 0 0, .slice none 0 0, .slice none 0 0] 28))
      clear hb K1 x0 x1 x2 xl
      obtain ⟨x0, x1, x2, xl, _⟩ := KN4.out.sp
      clear KN4
      go_wp2_with fail
      refine (lawCanon10 c CaV.zero 2 _ (K2.out.ok (g := w.heap.size) (by simp)) (CaV.zero_ok _) HS.out (by simp) (.inr ⟨HR.out, rfl, rfl⟩)).mono ?_
      rintro e w5 ⟨rfl, hb⟩
      have KB := Lib.hid (K2.out.next hb).bel
      clear hb K2 x0 x1 x2 xl
      go_wp2_with fail
      refine (HKN.out w5).mono ?_
      rintro e w6 ⟨rfl, hb⟩
      have KC := Lib.hid (below_trans KB.out hb)
      clear hb KB
      go_wp2_with fail
      go_ret
      exact OneB.bool rfl KC.out
    | some d =>
      obtain ⟨k, rfl, hk, hok⟩ := hcr
      have KN4 := Lib.hid (K1.out.next hb)
      have K2 := Lib.hid (KK.push (L := [(w.heap.size, c)]) (K1.out.next hb) k hok w4.heap.size rfl)
      have HKD := Lib.hid hk
      have HSK := Lib.hid (show smallK k.ca from by rw [hk]; exact HSD.out d rfl)
      clear hb hok hk K1 x0 x1 x2 xl
      obtain ⟨x0, x1, x2, xl, _⟩ := KN4.out.sp
      clear KN4
      go_wp2_with fail
      refine (refCopy10 c _ (K2.out.ok (g := w.heap.size) (by simp)) HS.out.cc).mono ?_
      rintro e w5 ⟨o, rfl, ho, rv, rl, ri, hb⟩
      have hok : CaOK w5 o := CaOK.of_rows (row_of rv (of_ca ho).1) (row_of rl (of_ca ho).2.1) ri
      have KN5 := Lib.hid (K2.out.next hb)
      have K3 := Lib.hid (KK.push (L := [(w.heap.size, c), (w4.heap.size, k)]) (K2.out.next hb) o hok w5.heap.size rfl)
      have HO := Lib.hid ho
      have HSO := Lib.hid (show smallK o.ca from HS.out.canon ho)
      clear hb hok rv rl ri ho K2 x0 x1 x2 xl
      obtain ⟨x0, x1, x2, xl⟩ := KN5.out.cells (g := w.heap.size) (c := c) (by simp)
      obtain ⟨y0, y1, y2, yl⟩ := KN5.out.cells (g := w4.heap.size) (c := k) (by simp)
      clear KN5
      go_wp2_with fail
      generalize hw6 : World.alloc w5 _ = w6 at K3 ⊢
      have hz6 : w5.heap.size < w6.heap.size := (K3.out.cells (g := w5.heap.size) (c := o) (by simp)).2.2.2
      clear hw6 x0 x1 x2 xl y0 y1 y2 yl
      refine (caCanon o (some d) w6 (K3.out.ok (g := w5.heap.size) (by simp)) HSO.out.n (by rw [HO.out]; exact HR.out)).mono ?_
      rintro e w7 ⟨⟨j, rfl, hj, rv, rl, ri⟩, hb⟩
      have KN7 := Lib.hid (K3.out.next hb)
      have HB7 := Lib.hid hb
      have HBA := Lib.hid ((Below.refl w7.heap.size w7).alloc (Nat.le_refl _) (.cells #[j.v, j.l, j.i] 28))
      have HSJ := Lib.hid (show smallK j.ca from by rw [hj]; exact HSD.out d rfl)
      have HRV := Lib.hid (RowC.below rv HBA.out)
      have HRL := Lib.hid (RowC.below rl HBA.out)
      have HRI := Lib.hid (OwnI.below ri HBA.out)
      have HJ := Lib.hid hj
      have HOK := Lib.hid (CaOK.of_rows HRV.out HRL.out HRI.out)
      have K4 := Lib.hid ((K3.out.next hb).next HBA.out)
      clear hb rv rl ri hj hz6
      obtain ⟨x0, x1, x2, xl⟩ := KN7.out.cells (g := w.heap.size) (c := c) (by simp)
      obtain ⟨y0, y1, y2, yl⟩ := KN7.out.cells (g := w4.heap.size) (c := k) (by simp)
      obtain ⟨z0, z1, z2, zl⟩ := KN7.out.cells (g := w5.heap.size) (c := o) (by simp)
      clear KN7
      go_wp2_with fail
      refine (refEqual10 j k true _ HOK.out (K4.out.ok (g := w4.heap.size) (by simp)) (by have := HSJ.out.items.1; omega) (by have := HSK.out.items.1; omega) (by rw [HJ.out, HKD.out]; exact sameC_self _)).mono ?_
      rintro e w8 ⟨rfl, hb⟩
      have HB8 := Lib.hid hb
      have KN8 := Lib.hid (K4.out.next hb)
      have HRV8 := Lib.hid (RowC.below HRV.out hb)
      have HRL8 := Lib.hid (RowC.below HRL.out hb)
      have HRI8 := Lib.hid (OwnI.below HRI.out hb)
      have BJ := Lib.hid ((hb.block w7.heap.size (by simp)).trans (heap_alloc_new w7 (.cells #[j.v, j.l, j.i] 28)))
      clear hb HRV HRL HRI HOK K4 x0 x1 x2 xl y0 y1 y2 yl z0 z1 z2 zl
      obtain ⟨_, j0, j1, j2, _, _, _, jl⟩ := boxC_kept (Below.refl _ w8) BJ.out
      clear BJ
      go_wp2_with fail
      refine (lawSpoil10 j w6.heap.size w8 (DtsO.of_own HRV8.out rfl) (DtsO.of_own HRL8.out rfl) HRI8.out (by have h1 := HB7.out.size; have h2 := HBA.out.size; have h3 := HB8.out.size; omega) (by have := HSJ.out.ctx; omega) (by have := HSJ.out.ctx; omega) (by have := HSJ.out.items.1; omega) (fun x hx => by have := (HSJ.out.items.2 x hx).1; omega)).mono ?_
      rintro e w9 ⟨rfl, hb⟩
      have K5 := Lib.hid (K3.out.next (below_trans' (Below.trans HB7.out (HBA.out.mono HB7.out.size)) (HB8.out) hb))
      clear hb K3 KN8 HRV8 HRL8 HRI8 HB7 HB8 HBA j0 j1 j2 jl
      obtain ⟨x0, x1, x2, xl⟩ := K5.out.cells (g := w.heap.size) (c := c) (by simp)
      obtain ⟨z0, z1, z2, zl⟩ := K5.out.cells (g := w5.heap.size) (c := o) (by simp)
      go_wp2_with fail
      refine (refEqual10 o c true w9 (K5.out.ok (g := w5.heap.size) (by simp)) (K5.out.ok (g := w.heap.size) (by simp)) (by have := HSO.out.items.1; omega) (by have := HS.out.items.1; omega) (by rw [HO.out]; exact sameC_self _)).mono ?_
      rintro e w10 ⟨rfl, hb⟩
      have KB := Lib.hid (K5.out.next hb).bel
      clear hb K5 x0 x1 x2 xl z0 z1 z2 zl
      go_wp2_with fail
      refine (HKN.out w10).mono ?_
      rintro e w11 ⟨rfl, hb⟩
      have KC := Lib.hid (below_trans KB.out hb)
      clear hb KB
      go_wp2_with fail
      go_ret
      exact OneB.bool rfl KC.out

end

end Go.Proofs.YtfmhhmceoikgpaaGreat
