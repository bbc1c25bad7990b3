/- Several texts in one: DecI, DecL, DecM. -/
import Derived.Test.YtpnemekkpifbaaaGreatMAT
import Derived.Test.YtpnemekkpifbaaaGreatMAW
import Derived.Test.YtpnemekkpifbaaaGreatMAX
import Derived.Test.YtpnemekkpifbaaaGreatMAY
namespace Go.Proofs.YtpnemekkpifbaaaGreat

section
open Go.RowKit

/-- The empty cart; the number of an error. -/
def nilCa : Ca := (([], []), [])
def errD (b : Bool) : Int := if b = true then 0 else 12
/-- A cart in rows of the call's own. -/
def OwnC (W : World) (B : Nat) (z : CaV) : Prop := RowX W B z.V z.L z.nv z.nl z.vs z.ls ∧ OwnI W B z.i z.xs
def CarR (p : List UInt8) (w : World) (e : Ending) (w' : World) : Prop := (∃ z : CaV, e = .returned (.tuple #[mkC z, .int .i64 (errD (decC p).isSome)]) ∧ z.ca = (decC p).getD nilCa ∧ OwnC w' w.heap.size z) ∧ Below w.heap.size w w'
def PreR (p : List UInt8) (w : World) (e : Ending) (w' : World) : Prop := (∃ z : CaV, e = .returned (.tuple #[mkC z, .int .i64 (((preC p).map Prod.snd).getD 0 : Nat), .int .i64 (errD (preC p).isSome)]) ∧ z.ca = ((preC p).map Prod.fst).getD nilCa ∧ CaOK w' z) ∧ Below w.heap.size w w'
def ConR (p : List UInt8) (w : World) (e : Ending) (w' : World) : Prop := (∃ (V L : Option Addr) (n k : Nat) (vs ls : List (Int × Int)), e = .returned (.tuple #[.agg #[.slice V vs.length n, .slice L ls.length k], .int .i64 (errD (conX p).isSome)]) ∧ (vs, ls) = (conX p).getD ([], []) ∧ Holds w' (.slice V vs.length n) vs ∧ Holds w' (.slice L ls.length k) ls) ∧ Below w.heap.size w w'
structure DecOK (w0 : World) : Prop where
  car : ∀ (A : Option Addr) (p : List UInt8) (n : Nat) (W : World), Below w0.heap.size w0 W → HoldsB W (.slice A p.length n) p → p.length ≤ 170000 → Calls Tryz.prog 16 #[.slice A p.length n] W (CarR p W)
  pre : ∀ (A : Option Addr) (p : List UInt8) (n : Nat) (W : World), Below w0.heap.size w0 W → HoldsB W (.slice A p.length n) p → p.length ≤ 170000 → Calls Tryz.prog 36 #[.slice A p.length n] W (PreR p W)
  con : ∀ (A : Option Addr) (p : List UInt8) (n : Nat) (W : World), Below w0.heap.size w0 W → HoldsB W (.slice A p.length n) p → p.length ≤ 170000 → Calls Tryz.prog 37 #[.slice A p.length n] W (ConR p W)
  cnt : ∀ (A : Option Addr) (p : List UInt8) (n : Nat) (W : World), Below w0.heap.size w0 W → HoldsB W (.slice A p.length n) p → p.length ≤ 170000 → Calls Tryz.prog 27 #[.slice A p.length n] W (OneB (.tuple #[.int .i64 ((cntC p).getD 0 : Nat), .int .i64 (errD (cntC p).isSome)]) W)
  val : ∀ (c : CaV) (W : World), Below w0.heap.size w0 W → CaOK W c → FitsK c → Calls Tryz.prog 17 #[mkC c] W (OneB (.bool (validK c.ca)) W)
  com : ∀ (v : Value) (vs ls : List (Int × Int)) (W : World), Below w0.heap.size w0 W → HoldsC W v vs ls → vs.length + ls.length ≤ 90000 → Calls Tryz.prog 23 #[v] W (OneB (.bool (compC vs ls)) W)
def Known15 (w0 : World) : Prop := ∀ W : World, Below w0.heap.size w0 W → Calls Tryz.prog 8 #[] W (OneB (.bool true) W)

/-- How great what is read can be. -/
theorem sum_ge {α : Type} {f : α → List UInt8} {g : α → Nat} : ∀ {l : List α}, (∀ a ∈ l, g a ≤ (f a).length) → (l.map g).sum ≤ (l.flatMap f).length
  | [], _ => by simp
  | a :: l, h => by
    have h1 := h a (by simp)
    have h2 := sum_ge (l := l) fun b hb => h b (by simp [hb])
    rw [List.flatMap_cons, List.length_append, List.map_cons, List.sum_cons]
    omega
theorem sum_const {α : Type} (k : Nat) : ∀ l : List α, (l.map fun _ => k).sum = k * l.length
  | [] => rfl
  | a :: l => by rw [List.map_cons, List.sum_cons, sum_const k l, List.length_cons, Nat.mul_add]; omega
theorem byL_ge {α : Type} {f : α → List UInt8} {g : α → Nat} {l : List α} (h : ∀ a ∈ l, g a ≤ (f a).length) : 1 + (l.map g).sum ≤ (byL f l).length := by
  unfold byL
  rw [List.length_append]
  have := enc_pos l.length
  have := sum_ge h
  omega
theorem byD_ge (d : Int × Int) : 2 ≤ (byD d).length := by
  unfold byD
  rw [List.length_append]
  have := byZ_one d.1
  have := byZ_one d.2
  omega
theorem byM_ge (m : Mk) : 4 ≤ (byM m).length := by
  unfold byM
  rw [List.length_append, List.length_append, List.length_append]
  have := byZ_one m.r
  have := byZ_one m.c
  have := byZ_one m.q
  have := enc_pos m.t
  omega
theorem byI_ge (x : It) : 2 + x.1.length + 4 * x.2.length ≤ (byI x).length := by
  unfold byI byS
  rw [List.length_append, List.length_append]
  have h1 := byL_ge (f := byM) (g := fun _ => 4) (l := x.2) fun m _ => byM_ge m
  rw [sum_const] at h1
  have := enc_pos x.1.length
  omega
theorem sum_add3 : ∀ l : List It, (l.map fun x => 2 + x.1.length + 4 * x.2.length).sum = 2 * l.length + (l.map fun x => x.1.length).sum + 4 * cntM l
  | [] => rfl
  | x :: l => by
    have h := sum_add3 l
    unfold cntM at *
    simp only [List.map_cons, List.sum_cons, List.length_cons]
    omega
theorem mem_sum {α : Type} {g : α → Nat} : ∀ {l : List α} {a : α}, a ∈ l → g a ≤ (l.map g).sum
  | b :: l, a, h => by
    rw [List.map_cons, List.sum_cons]
    rcases List.mem_cons.1 h with rfl | h
    · omega
    · have := mem_sum (g := g) h; omega
theorem bnd15 (c : Ca) : 2 * c.1.1.length + 2 * c.1.2.length + 2 * c.2.length + 4 * cntM c.2 ≤ (byC c).length ∧ ∀ x ∈ c.2, x.1.length ≤ (byC c).length ∧ 4 * x.2.length ≤ (byC c).length := by
  have h1 := byL_ge (f := byD) (g := fun _ => 2) (l := c.1.1) fun d _ => byD_ge d
  have h2 := byL_ge (f := byD) (g := fun _ => 2) (l := c.1.2) fun d _ => byD_ge d
  have h3 := byL_ge (f := byI) (l := c.2) fun x _ => byI_ge x
  rw [sum_const] at h1 h2
  rw [sum_add3] at h3
  have hl : (byC c).length = (byL byD c.1.1).length + (byL byD c.1.2).length + (byL byI c.2).length := by unfold byC byX; rw [List.length_append, List.length_append]
  refine ⟨by omega, fun x hx => ?_⟩
  have h4 := mem_sum (g := fun x : It => x.1.length) hx
  have h5 := mem_sum (g := fun x : It => x.2.length) hx
  have h6 : (c.2.map fun x => x.2.length).sum = cntM c.2 := rfl
  omega
theorem fits15 {z : CaV} (h : (byC z.ca).length ≤ 170000) : FitsK z ∧ z.xs.length ≤ 90000 ∧ ∀ x ∈ z.xs, x.nm.length ≤ 170000 ∧ x.ms.length ≤ 90000 := by
  obtain ⟨h1, h2⟩ := bnd15 z.ca
  have e1 : z.ca.1.1 = z.vs := rfl
  have e2 : z.ca.1.2 = z.ls := rfl
  have e3 : z.ca.2 = its z.xs := rfl
  rw [e1, e2, e3] at h1
  rw [e3] at h2
  have e4 : (its z.xs).length = z.xs.length := its_len _
  have h3 := dotsI_le_cnt (its z.xs)
  have h5 : ∀ x ∈ z.xs, x.nm.length ≤ 170000 ∧ x.ms.length ≤ 90000 := fun x hx => by
    have h6 := h2 x.it (List.mem_map.2 ⟨x, hx, rfl⟩)
    have h7 : x.it.1.length = x.nm.length := rfl
    have h8 : x.it.2.length = x.ms.length := rfl
    omega
  have h9 : ((its z.xs).map fun x => x.2.length).sum = cntM (its z.xs) := rfl
  refine ⟨⟨⟨by omega, fun x hx => ?_, by omega⟩, by omega⟩, by omega, h5⟩
  have := h5 x hx
  omega
/-- A small cart has not too many bytes. -/
theorem OwnC.ok {W : World} {B : Nat} {z : CaV} (h : OwnC W B z) : CaOK W z := rows_ok h.1 h.2.1 h.2.2
theorem decC_len {p : List UInt8} {c : Ca} (h : decC p = some c) : (byC c).length = p.length := by rw [(decC_some h).2.1]
theorem preC_some {p : List UInt8} {c : Ca} {n : Nat} (h : preC p = some (c, n)) : pC p = some (c, n) ∧ validK c = true := by
  unfold preC at h
  split at h
  · rename_i c' z e
    split at h
    · rename_i h0
      obtain ⟨rfl, rfl⟩ := Prod.mk.inj (Option.some.inj h)
      exact ⟨e, h0⟩
    · cases h
  · cases h
theorem pC_len {p : List UInt8} {c : Ca} {n : Nat} (h : pC p = some (c, n)) : (byC c).length = n ∧ n ≤ p.length := ⟨(reads_pC.len h).symm, reads_pC.le h⟩

end

section
open Go.RowKit

theorem same_of {z c : CaV} (h : z.ca = c.ca) : sameC z.ca c.ca = true := sameC_iff.2 h
/-- Carts that can be compared. -/
theorem same_true {z c : CaV} {W : World} (hz : CaOK W z) (hc : CaOK W c) (e : z.ca = c.ca) (hl : (byC c.ca).length ≤ 170000) : Calls Tryz.prog 35 #[mkC z, mkC c] W (OneB (.bool true) W) := by
  have h1 := fits15 (z := z) (by rw [e]; exact hl)
  have h2 := fits15 (z := c) hl
  exact refSame14 z c true W hz hc (by omega) (by omega) (fun x hx => by have := h1.2.2 x hx; omega) (same_of e)

set_option maxHeartbeats 2000000 in
theorem lawIs_t {w : World} (H : DecOK w) (A : Option Addr) (p : List UInt8) (n : Nat) (c : CaV) (W : World) (hB : Below w.heap.size w W) (hp : HoldsB W (.slice A p.length n) p) (hl : p.length ≤ 170000) (hc : CaOK W c) (h : decC p = some c.ca) :
    Calls Tryz.prog 18 #[.slice A p.length n, mkC c, .bool true] W (OneB (.bool true) W) := by
  have K0 := Lib.hid (KK.new W c hc)
  have hcar := H.car A p n _ (below_trans hB K0.out.bel) (hp.below K0.out.bel) hl
  unfold CarR at hcar
  rw [h] at hcar
  have HC := Lib.hid hcar
  have HL := Lib.hid (show (byC c.ca).length ≤ 170000 from by rw [decC_len h]; exact hl)
  clear hB hp hl hc h hcar H
  go_enter Tryz.func18, Tryz.ntmps18
  go_wp2_with fail
  generalize World.alloc W _ = w1 at K0 HC ⊢
  refine HC.out.mono ?_
  rintro e w2 ⟨⟨z, rfl, hz, ho⟩, hb2⟩
  have K2 := Lib.hid (K0.out.next hb2)
  have K3 := Lib.hid (KK.push K2.out z ho.ok w2.heap.size rfl)
  have HZ := Lib.hid (show z.ca = c.ca from hz)
  clear hz ho hb2 K0 HC
  have e0 : errD (some c.ca).isSome = 0 := rfl
  rw [e0]
  go_upto_region 2 with fail
  generalize hg : w2.heap.size = g at K3 ⊢
  generalize World.alloc w2 _ = w3 at K3 ⊢
  obtain ⟨x0, x1, x2, y0, y1, y2, xl, yl, _⟩ := K3.out.sp2
  have HS := Lib.hid (same_true (W := w3) (K3.out.ok (g := g) (by simp)) (K3.out.ok (g := W.heap.size) (by simp)) HZ.out HL.out)
  clear K2 hg
  go_wp2_with fail
  refine HS.out.mono ?_
  rintro e w4 ⟨rfl, hb4⟩
  have HB4 := Lib.hid (below_trans K3.out.bel hb4)
  clear hb4 x0 x1 x2 y0 y1 y2 xl yl
  go_wp2_with fail
  go_ret
  exact ⟨rfl, HB4.out⟩

set_option maxHeartbeats 2000000 in
theorem lawIs_f {w : World} (H : DecOK w) (A : Option Addr) (p : List UInt8) (n : Nat) (c : CaV) (W : World) (hB : Below w.heap.size w W) (hp : HoldsB W (.slice A p.length n) p) (hl : p.length ≤ 170000) (hc : CaOK W c) (h : decC p = none) :
    Calls Tryz.prog 18 #[.slice A p.length n, mkC c, .bool false] W (OneB (.bool true) W) := by
  have K0 := Lib.hid (KK.new W c hc)
  have hcar := H.car A p n _ (below_trans hB K0.out.bel) (hp.below K0.out.bel) hl
  unfold CarR at hcar
  rw [h] at hcar
  have HC := Lib.hid hcar
  clear hB hp hl hc h hcar H
  go_enter Tryz.func18, Tryz.ntmps18
  go_wp2_with fail
  generalize World.alloc W _ = w1 at K0 HC ⊢
  refine HC.out.mono ?_
  rintro e w2 ⟨⟨z, rfl, hz, ho⟩, hb2⟩
  have K2 := Lib.hid (K0.out.next hb2)
  have K3 := Lib.hid (KK.push K2.out z ho.ok w2.heap.size rfl)
  have HZ := Lib.hid (show z.ca = nilC.ca from hz)
  clear hz ho hb2 K0 HC
  have e0 : errD (none : Option Ca).isSome = 12 := rfl
  rw [e0]
  go_wp2_with fail
  generalize hg : w2.heap.size = g at K3 ⊢
  generalize World.alloc w2 _ = w3 at K3 ⊢
  obtain ⟨x0, x1, x2, y0, y1, y2, xl, yl, _⟩ := K3.out.sp2
  have HS := Lib.hid (show Calls Tryz.prog 35 #[mkC z, .agg #[.slice none 0 0, .slice none 0 0, .slice none 0 0]] w3 (OneB (.bool true) w3) from same_true (c := nilC) (W := w3) (K3.out.ok (g := g) (by simp)) (nilC_ok _) HZ.out (by rw [nil_enc]; decide))
  clear K2 hg
  go_wp2_with fail
  refine HS.out.mono ?_
  rintro e w4 ⟨rfl, hb4⟩
  have HB4 := Lib.hid (below_trans K3.out.bel hb4)
  clear hb4 x0 x1 x2 y0 y1 y2 xl yl
  go_wp2_with fail
  go_ret
  exact ⟨rfl, HB4.out⟩

set_option maxHeartbeats 2000000 in
theorem lawBegins {w : World} (H : DecOK w) (A : Option Addr) (p : List UInt8) (n : Nat) (c : CaV) (k : Nat) (er : Int) (W : World) (hB : Below w.heap.size w W) (hp : HoldsB W (.slice A p.length n) p) (hl : p.length ≤ 170000) (hc : CaOK W c) (hlc : (byC c.ca).length ≤ 170000)
    (h1 : ((preC p).map Prod.fst).getD nilCa = c.ca) (h2 : ((preC p).map Prod.snd).getD 0 = k) (h3 : errD (preC p).isSome = er) :
    Calls Tryz.prog 19 #[.slice A p.length n, mkC c, .int .i64 (k : Nat), .int .i64 er] W (OneB (.bool true) W) := by
  have K0 := Lib.hid (KK.new W c hc)
  have hcar := H.pre A p n _ (below_trans hB K0.out.bel) (hp.below K0.out.bel) hl
  unfold PreR at hcar
  rw [h1, h2, h3] at hcar
  have HC := Lib.hid hcar
  have HL := Lib.hid hlc
  clear hB hp hl hc hcar H hlc h1 h2 h3
  go_enter Tryz.func19, Tryz.ntmps19
  go_wp2_with fail
  generalize World.alloc W _ = w1 at K0 HC ⊢
  refine HC.out.mono ?_
  rintro e w2 ⟨⟨z, rfl, hz, ho⟩, hb2⟩
  have K2 := Lib.hid (K0.out.next hb2)
  have K3 := Lib.hid (KK.push K2.out z ho w2.heap.size rfl)
  have HZ := Lib.hid (show z.ca = c.ca from hz)
  clear hz ho hb2 K0 HC
  go_upto_region 2 with fail
  generalize hg : w2.heap.size = g at K3 ⊢
  generalize World.alloc w2 _ = w3 at K3 ⊢
  obtain ⟨x0, x1, x2, y0, y1, y2, xl, yl, _⟩ := K3.out.sp2
  have HS := Lib.hid (same_true (W := w3) (K3.out.ok (g := g) (by simp)) (K3.out.ok (g := W.heap.size) (by simp)) HZ.out HL.out)
  have j1 : ((k : Int) == (k : Int)) = true := by simp
  have j2 : (er == er) = true := by simp
  clear K2 hg
  go_wp2_with fail
  refine HS.out.mono ?_
  rintro e w4 ⟨rfl, hb4⟩
  have HB4 := Lib.hid (below_trans K3.out.bel hb4)
  clear hb4 x0 x1 x2 y0 y1 y2 xl yl
  go_wp2_with fail
  go_ret
  exact ⟨rfl, HB4.out⟩

theorem lawCounts {w : World} (H : DecOK w) (A : Option Addr) (p : List UInt8) (n : Nat) (k : Nat) (er : Int) (W : World) (hB : Below w.heap.size w W) (hp : HoldsB W (.slice A p.length n) p) (hl : p.length ≤ 170000)
    (h2 : (cntC p).getD 0 = k) (h3 : errD (cntC p).isSome = er) :
    Calls Tryz.prog 14 #[.slice A p.length n, .int .i64 (k : Nat), .int .i64 er] W (OneB (.bool true) W) := by
  have hcar := H.cnt A p n W hB hp hl
  rw [h2, h3] at hcar
  have HC := Lib.hid hcar
  clear hB hp hl hcar H h2 h3
  go_enter Tryz.func14, Tryz.ntmps14
  go_wp2_with fail
  refine HC.out.mono ?_
  rintro e w2 ⟨rfl, hb2⟩
  have HB := Lib.hid hb2
  have j1 : ((k : Int) == (k : Int)) = true := by simp
  have j2 : (er == er) = true := by simp
  clear hb2
  go_wp2_with fail
  go_ret
  exact ⟨rfl, HB.out⟩

end

section
open Go.RowKit

theorem conX_of (p : List UInt8) : conX p = (ctxR p).bind fun x => if compC x.1 x.2 = true then some x else none := by
  unfold conX ctxR
  cases pX p with
  | none => rfl
  | some v =>
    show (if v.2 = p.length ∧ compC v.1.1 v.1.2 = true then some v.1 else none) = (if v.2 = p.length then some v.1 else none).bind _
    by_cases h1 : v.2 = p.length
    · rw [if_pos h1]
      show _ = if compC v.1.1 v.1.2 = true then some v.1 else none
      by_cases h2 : compC v.1.1 v.1.2 = true
      · rw [if_pos ⟨h1, h2⟩, if_pos h2]
      · rw [if_neg (fun h => h2 h.2), if_neg h2]
    · rw [if_neg (fun h => h1 h.1), if_neg h1]; rfl
theorem conX_len {p : List UInt8} {x : List (Int × Int) × List (Int × Int)} (h : ctxR p = some x) : 2 * (x.1.length + x.2.length) ≤ p.length := by
  unfold ctxR at h
  split at h
  · rename_i x' z e
    split at h
    · rename_i h0
      obtain rfl := Option.some.inj h
      have h1 := reads_pX.len e
      have h2 := byL_ge (f := byD) (g := fun _ => 2) (l := x'.1) fun d _ => byD_ge d
      have h3 := byL_ge (f := byD) (g := fun _ => 2) (l := x'.2) fun d _ => byD_ge d
      rw [sum_const] at h2 h3
      have h4 : (byX x').length = (byL byD x'.1).length + (byL byD x'.2).length := by unfold byX; rw [List.length_append]
      omega
    · cases h
  · cases h

set_option maxHeartbeats 2000000 in
theorem lawSeen {w : World} (H : DecOK w) (A : Option Addr) (p : List UInt8) (n : Nat) (V L : Option Addr) (vs ls : List (Int × Int)) (nv nl : Nat) (er : Int) (W : World) (hB : Below w.heap.size w W) (hp : HoldsB W (.slice A p.length n) p) (hl : p.length ≤ 170000) (hv : Holds W (.slice V vs.length nv) vs) (hL : Holds W (.slice L ls.length nl) ls)
    (h1 : (conX p).getD ([], []) = (vs, ls)) (h3 : errD (conX p).isSome = er) :
    Calls Tryz.prog 20 #[.slice A p.length n, .agg #[.slice V vs.length nv, .slice L ls.length nl], .int .i64 er] W (OneB (.bool true) W) := by
  have hal : Below W.heap.size W (W.alloc (.cells #[.slice V vs.length nv, .slice L ls.length nl] 28)) := (Below.refl _ _).alloc (Nat.le_refl _) _
  have hnew : (W.alloc (.cells #[.slice V vs.length nv, .slice L ls.length nl] 28)).heap[W.heap.size]? = some (.cells #[.slice V vs.length nv, .slice L ls.length nl] 28 (0, 0)) := heap_alloc_new W _
  have hcar := H.con A p n _ (below_trans hB hal) (hp.below hal) hl
  unfold ConR at hcar
  rw [h1, h3] at hcar
  have HC := Lib.hid hcar
  have HV := Lib.hid (hv.below hal)
  have HLL := Lib.hid (hL.below hal)
  have HAL := Lib.hid hal
  have HNEW := Lib.hid hnew
  clear hB hp hl hcar H h1 h3 hv hL hal hnew
  go_enter Tryz.func20, Tryz.ntmps20
  go_wp2_with fail
  generalize World.alloc W _ = w1 at *
  refine HC.out.mono ?_
  rintro e w2 ⟨⟨V', L', n', k', vs', ls', rfl, he, hv', hl'⟩, hb2⟩
  obtain ⟨rfl, rfl⟩ := Prod.mk.inj he
  have hal : Below w2.heap.size w2 (w2.alloc (.cells #[.slice V' vs'.length n', .slice L' ls'.length k'] 28)) := (Below.refl _ _).alloc (Nat.le_refl _) _
  have hnew : (w2.alloc (.cells #[.slice V' vs'.length n', .slice L' ls'.length k'] 28)).heap[w2.heap.size]? = some (.cells #[.slice V' vs'.length n', .slice L' ls'.length k'] 28 (0, 0)) := heap_alloc_new w2 _
  have hold : (w2.alloc (.cells #[.slice V' vs'.length n', .slice L' ls'.length k'] 28)).heap[W.heap.size]? = some (.cells #[.slice V vs'.length nv, .slice L ls'.length nl] 28 (0, 0)) := by
    have hlt := (Array.getElem?_eq_some_iff.1 HNEW.out).1
    exact (hal.block _ (Nat.lt_of_lt_of_le hlt hb2.size)).trans ((hb2.block _ hlt).trans HNEW.out)
  have c0 := cellW (i := 0) hnew
  have c1 := cellW (i := 1) hnew
  have d0 := cellW (i := 0) hold
  have d1 := cellW (i := 1) hold
  have hb3 := below_trans hb2 hal
  have HB3 := Lib.hid (below_trans HAL.out hb3)
  have HS := Lib.hid (refSame14 ⟨V', n', vs', L', k', ls', none, 0, []⟩ ⟨V, nv, vs', L, nl, ls', none, 0, []⟩ true _ ⟨hv'.below hal, hl'.below hal, HoldsX.nil _⟩ ⟨HV.out.below hb3, HLL.out.below hb3, HoldsX.nil _⟩ (by simp) (by simp) (fun x hx => by cases hx) (same_of rfl))
  have j2 : (er == er) = true := by simp
  clear hb2 hv' hl' hal hnew hold hb3 HC he HAL HNEW HV HLL
  go_wp2_with fail
  refine HS.out.mono ?_
  rintro e w4 ⟨rfl, hb4⟩
  have HB4 := Lib.hid (below_trans HB3.out hb4)
  clear hb4 c0 c1 d0 d1
  go_wp2_with fail
  go_ret
  exact ⟨rfl, HB4.out⟩

end

end Go.Proofs.YtpnemekkpifbaaaGreat
