/- Several texts in one: DelC, CarQ, CarT, CarU, CarZ, DelD, DelH. -/
import Derived.Test.YtiaehpdgpjhecaaGreatNBD
import Derived.Test.YtiaehpdgpjhecaaGreatNAT
import Derived.Test.YtiaehpdgpjhecaaGreatNAO
import Derived.Test.YtiaehpdgpjhecaaGreatNAR
import Derived.Test.YtiaehpdgpjhecaaGreatNAV
import Derived.Test.YtiaehpdgpjhecaaGreatNAW
import Derived.Test.YtiaehpdgpjhecaaGreatNAS
namespace Go.Proofs.YtiaehpdgpjhecaaGreat

section
open Go.RowKit

/-- The contracts of package delta. -/
structure FitsD (c : CaV) : Prop where
  k : FitsK c
  dots : (dotsI (its c.xs)).length ≤ 2900
  time : ∀ m ∈ marksX c.xs, m.t < 18446744073709551616
abbrev AddOK : Prop := ∀ (c : CaV) (r s : Int) (nm : List UInt8) (q : Int) (W : World), CaOK W c → FitsD c → nm.length ≤ 1000 → Calls Tryz.prog 28 #[mkC c, .agg #[.int .i64 r, .int .i64 s], .string ⟨nm.toArray⟩, .int .i64 q] W (MadeD (putD c.ca (r, s) nm q false) (putE c.ca (r, s) nm q false) W)
abbrev SetOK : Prop := ∀ (c : CaV) (r s : Int) (nm : List UInt8) (q : Int) (W : World), CaOK W c → FitsD c → nm.length ≤ 1000 → Calls Tryz.prog 29 #[mkC c, .agg #[.int .i64 r, .int .i64 s], .string ⟨nm.toArray⟩, .int .i64 q] W (MadeD (putD c.ca (r, s) nm q true) (putE c.ca (r, s) nm q true) W)
abbrev RemOK : Prop := ∀ (c : CaV) (nm : List UInt8) (W : World), CaOK W c → FitsD c → nm.length ≤ 1000 → Calls Tryz.prog 31 #[mkC c, .string ⟨nm.toArray⟩] W (MadeD (remD c.ca nm) (remE c.ca nm) W)
abbrev CleOK : Prop := ∀ (c : CaV) (W : World), CaOK W c → FitsD c → Calls Tryz.prog 32 #[mkC c] W (MadeD (cleD c.ca) (cleE c.ca) W)
abbrev EmpOK : Prop := ∀ (c : CaV) (b : Bool) (W : World), CaOK W c → c.xs.length ≤ 100000 → emptyK c.ca = b → Calls Tryz.prog 20 #[mkC c] W (OneB (.bool b) W)
abbrev FreOK : Prop := ∀ (c : CaV) (r s : Int) (b : Bool) (W : World), CaOK W c → FitsD c → freshK c.ca (r, s) = b → Calls Tryz.prog 22 #[mkC c, .agg #[.int .i64 r, .int .i64 s]] W (OneB (.bool b) W)
structure DelOK : Prop where
  add : AddOK
  set : SetOK
  rem : RemOK
  cle : CleOK
  emp : EmpOK
  fre : FreOK

/-- A cart and a dot in boxes, another cart in its box. -/
structure KAd (w : World) (c t : CaV) (r s : Int) (W : World) : Prop where
  k : KFr w c r s W
  tb : BlkC W (w.heap.size + 2) t
  tok : CaOK W t
section
variable {w W W' : World} {c t : CaV} {r s : Int}
theorem KAd.next (h : KAd w c t r s W) (hb : Below W.heap.size W W') : KAd w c t r s W' := ⟨h.k.next hb, h.tb.below hb, h.tok.below hb⟩
theorem KAd.new (w : World) (c t : CaV) (r s : Int) (hc : CaOK w c) (ht : CaOK w t) : KAd w c t r s (((w.alloc (.cells #[c.v, c.l, c.i] 28)).alloc (.cells #[.int .i64 r, .int .i64 s] 30)).alloc (.cells #[t.v, t.l, t.i] 28)) := by
  have h0 := KFr.new w c r s hc
  have h := BlkC.new ((w.alloc (.cells #[c.v, c.l, c.i] 28)).alloc (.cells #[.int .i64 r, .int .i64 s] 30)) t
  rw [World.size_alloc, World.size_alloc] at h
  have hal := (Below.refl _ ((w.alloc (.cells #[c.v, c.l, c.i] 28)).alloc (.cells #[.int .i64 r, .int .i64 s] 30))).alloc (Nat.le_refl _) (.cells #[t.v, t.l, t.i] 28)
  exact ⟨h0.next hal, h, (ht.below h0.bel).below hal⟩
theorem KAd.sp (h : KAd w c t r s W) : W.cell? ⟨w.heap.size + 2, 0, none⟩ = some t.v ∧ W.cell? ⟨w.heap.size + 2, 1, none⟩ = some t.l ∧ W.cell? ⟨w.heap.size + 2, 2, none⟩ = some t.i ∧ w.heap.size + 2 < W.heap.size := ⟨h.tb.cell0, h.tb.cell1, h.tb.cell2, h.tb.lt⟩
end

set_option maxRecDepth 100000 in
set_option maxHeartbeats 4000000 in
theorem lawAdds12 (HO : AddOK) (c t : CaV) (r s : Int) (nm : List UInt8) (q k : Int) (b : Bool) (w : World) (hc : CaOK w c) (ht : CaOK w t) (htl : t.xs.length ≤ 100000) (hf : FitsD c) (hl : nm.length ≤ 1000) (hb : (sameC (putD c.ca (r, s) nm q false) t.ca && ((putE c.ca (r, s) nm q false : Int) == k)) = b) :
    Calls Tryz.prog 13 #[mkC c, .agg #[.int .i64 r, .int .i64 s], .string ⟨nm.toArray⟩, .int .i64 q, mkC t, .int .i64 k] w (OneB (.bool b) w) := by
  have K0 := Lib.hid (KAd.new w c t r s hc ht)
  have HJ := Lib.hid fun W (h : CaOK W c) => HO c r s nm q W h hf hl
  have HZL := Lib.hid (show ∀ z : CaV, z.ca = putD c.ca (r, s) nm q false → z.xs.length ≤ 100000 from fun z hz => by
    have h1 : (its z.xs).length ≤ 1 := by
      have h2 := congrArg (fun a : Ca => a.2.length) hz
      have h3 : (putD c.ca (r, s) nm q false).2.length ≤ 1 := putD_len _ _ _ _ _
      exact Nat.le_trans (Nat.le_of_eq h2) h3
    rw [its_len] at h1; omega)
  generalize putD c.ca (r, s) nm q false = v at *
  generalize putE c.ca (r, s) nm q false = e0 at *
  obtain ⟨p, hp⟩ : ∃ p, sameC v t.ca = p := ⟨_, rfl⟩
  rw [hp] at hb
  have HQ := Lib.hid fun (z : CaV) W (hz : z.ca = v) (h : CaOK W z) (h' : CaOK W t) => refEqual10 z t p W h h' (HZL.out z hz) htl (by rw [hz]; exact hp)
  clear hc ht htl hf hl hp HZL HO
  go_enter Tryz.func13, Tryz.ntmps13
  go_wp2_with fail
  generalize World.alloc (World.alloc (World.alloc w _) _) _ = w2 at K0 ⊢
  obtain ⟨x0, x1, x2, x3, x4, xl, xm⟩ := K0.out.k.sp
  go_wp2_with fail
  refine (HJ.out w2 K0.out.k.ok).mono ?_
  rintro e w3 ⟨⟨z, rfl, hz, ho⟩, hb3⟩
  have K1 := Lib.hid (K0.out.next hb3)
  have HZ := Lib.hid hz
  have HO1 := Lib.hid ho
  clear hz ho hb3 K0 HJ x0 x1 x2 x3 x4 xl xm
  obtain ⟨x6, x7, x8, xl⟩ := K1.out.sp
  have hal := (Below.refl w3.heap.size w3).alloc (Nat.le_refl _) (.cells #[z.v, z.l, z.i] 28)
  have K2 := Lib.hid (K1.out.next hal)
  have HO2 := Lib.hid (HO1.out.below hal)
  clear hal HO1
  go_wp2_with fail
  refine (HQ.out z _ HZ.out HO2.out K2.out.tok).mono ?_
  rintro e w4 ⟨rfl, hb4⟩
  have HB := Lib.hid (below_trans K2.out.k.bel hb4)
  clear hb4 K1 K2 x6 x7 x8 xl HO2
  cases p with
  | false =>
    obtain rfl : false = b := by simpa using hb
    go_wp2_with fail
    go_ret
    exact ⟨rfl, HB.out⟩
  | true =>
    have HE := Lib.hid (show ((e0 : Int) == k) = b from by simpa using hb)
    clear hb
    go_wp2_with fail
    go_ret
    exact OneB.bool HE.out HB.out

set_option maxRecDepth 100000 in
set_option maxHeartbeats 4000000 in
theorem lawSets12 (HO : SetOK) (c t : CaV) (r s : Int) (nm : List UInt8) (q k : Int) (b : Bool) (w : World) (hc : CaOK w c) (ht : CaOK w t) (htl : t.xs.length ≤ 100000) (hf : FitsD c) (hl : nm.length ≤ 1000) (hb : (sameC (putD c.ca (r, s) nm q true) t.ca && ((putE c.ca (r, s) nm q true : Int) == k)) = b) :
    Calls Tryz.prog 14 #[mkC c, .agg #[.int .i64 r, .int .i64 s], .string ⟨nm.toArray⟩, .int .i64 q, mkC t, .int .i64 k] w (OneB (.bool b) w) := by
  have K0 := Lib.hid (KAd.new w c t r s hc ht)
  have HJ := Lib.hid fun W (h : CaOK W c) => HO c r s nm q W h hf hl
  have HZL := Lib.hid (show ∀ z : CaV, z.ca = putD c.ca (r, s) nm q true → z.xs.length ≤ 100000 from fun z hz => by
    have h1 : (its z.xs).length ≤ 1 := by
      have h2 := congrArg (fun a : Ca => a.2.length) hz
      have h3 : (putD c.ca (r, s) nm q true).2.length ≤ 1 := putD_len _ _ _ _ _
      exact Nat.le_trans (Nat.le_of_eq h2) h3
    rw [its_len] at h1; omega)
  generalize putD c.ca (r, s) nm q true = v at *
  generalize putE c.ca (r, s) nm q true = e0 at *
  obtain ⟨p, hp⟩ : ∃ p, sameC v t.ca = p := ⟨_, rfl⟩
  rw [hp] at hb
  have HQ := Lib.hid fun (z : CaV) W (hz : z.ca = v) (h : CaOK W z) (h' : CaOK W t) => refEqual10 z t p W h h' (HZL.out z hz) htl (by rw [hz]; exact hp)
  clear hc ht htl hf hl hp HZL HO
  go_enter Tryz.func14, Tryz.ntmps14
  go_wp2_with fail
  generalize World.alloc (World.alloc (World.alloc w _) _) _ = w2 at K0 ⊢
  obtain ⟨x0, x1, x2, x3, x4, xl, xm⟩ := K0.out.k.sp
  go_wp2_with fail
  refine (HJ.out w2 K0.out.k.ok).mono ?_
  rintro e w3 ⟨⟨z, rfl, hz, ho⟩, hb3⟩
  have K1 := Lib.hid (K0.out.next hb3)
  have HZ := Lib.hid hz
  have HO1 := Lib.hid ho
  clear hz ho hb3 K0 HJ x0 x1 x2 x3 x4 xl xm
  obtain ⟨x6, x7, x8, xl⟩ := K1.out.sp
  have hal := (Below.refl w3.heap.size w3).alloc (Nat.le_refl _) (.cells #[z.v, z.l, z.i] 28)
  have K2 := Lib.hid (K1.out.next hal)
  have HO2 := Lib.hid (HO1.out.below hal)
  clear hal HO1
  go_wp2_with fail
  refine (HQ.out z _ HZ.out HO2.out K2.out.tok).mono ?_
  rintro e w4 ⟨rfl, hb4⟩
  have HB := Lib.hid (below_trans K2.out.k.bel hb4)
  clear hb4 K1 K2 x6 x7 x8 xl HO2
  cases p with
  | false =>
    obtain rfl : false = b := by simpa using hb
    go_wp2_with fail
    go_ret
    exact ⟨rfl, HB.out⟩
  | true =>
    have HE := Lib.hid (show ((e0 : Int) == k) = b from by simpa using hb)
    clear hb
    go_wp2_with fail
    go_ret
    exact OneB.bool HE.out HB.out

set_option maxRecDepth 100000 in
set_option maxHeartbeats 4000000 in
theorem lawRemoves12 (HO : RemOK) (c t : CaV) (nm : List UInt8) (k : Int) (b : Bool) (w : World) (hc : CaOK w c) (ht : CaOK w t) (htl : t.xs.length ≤ 100000) (hf : FitsD c) (hl : nm.length ≤ 1000) (hb : (sameC (remD c.ca nm) t.ca && ((remE c.ca nm : Int) == k)) = b) :
    Calls Tryz.prog 18 #[mkC c, .string ⟨nm.toArray⟩, mkC t, .int .i64 k] w (OneB (.bool b) w) := by
  have hb1 := (Below.refl w.heap.size w).alloc (Nat.le_refl _) (.cells #[c.v, c.l, c.i] 28)
  have K0 := Lib.hid (show KK w [(w.heap.size, c), (w.heap.size + 1, t)] _ from KK.push (L := [(w.heap.size, c)]) (KK.new w c hc) t (ht.below hb1) (w.heap.size + 1) (by simp))
  have HJ := Lib.hid fun W (h : CaOK W c) => HO c nm W h hf hl
  have HZL := Lib.hid (show ∀ z : CaV, z.ca = remD c.ca nm → z.xs.length ≤ 100000 from fun z hz => by
    have h2 : (its z.xs).length = (remD c.ca nm).2.length := congrArg (fun a : Ca => a.2.length) hz
    rw [its_len, show (remD c.ca nm).2 = [] from by unfold remD; split <;> rfl] at h2
    have h3 : z.xs.length = 0 := h2
    omega)
  generalize remD c.ca nm = v at *
  generalize remE c.ca nm = e0 at *
  obtain ⟨p, hp⟩ : ∃ p, sameC v t.ca = p := ⟨_, rfl⟩
  rw [hp] at hb
  have HQ := Lib.hid fun (z : CaV) W (hz : z.ca = v) (h : CaOK W z) (h' : CaOK W t) => refEqual10 z t p W h h' (HZL.out z hz) htl (by rw [hz]; exact hp)
  clear hc ht htl hf hp HZL HO hb1
  go_enter Tryz.func18, Tryz.ntmps18
  go_wp2_with fail
  generalize World.alloc (World.alloc w _) _ = w2 at K0 ⊢
  obtain ⟨x0, x1, x2, _, _, _, xl, _, _⟩ := K0.out.sp2
  go_wp2_with fail
  refine (HJ.out w2 (K0.out.ok (g := w.heap.size) (by simp))).mono ?_
  rintro e w3 ⟨⟨z, rfl, hz, ho⟩, hb3⟩
  have K1 := Lib.hid (K0.out.next hb3)
  have K2 := Lib.hid (KK.push (K0.out.next hb3) z ho _ rfl)
  have HZ := Lib.hid hz
  clear hz ho hb3 K0 HJ x0 x1 x2 xl
  obtain ⟨_, _, _, x6, x7, x8, _, xl, _⟩ := K1.out.sp2
  go_wp2_with fail
  refine (HQ.out z _ HZ.out (K2.out.ok (g := w3.heap.size) (by simp)) (K2.out.ok (g := w.heap.size + 1) (by simp))).mono ?_
  rintro e w4 ⟨rfl, hb4⟩
  have HB := Lib.hid (below_trans K2.out.bel hb4)
  clear hb4 K1 K2 x6 x7 x8 xl
  cases p with
  | false =>
    obtain rfl : false = b := by simpa using hb
    go_wp2_with fail
    go_ret
    exact ⟨rfl, HB.out⟩
  | true =>
    have HE := Lib.hid (show ((e0 : Int) == k) = b from by simpa using hb)
    clear hb
    go_wp2_with fail
    go_ret
    exact OneB.bool HE.out HB.out

set_option maxRecDepth 100000 in
set_option maxHeartbeats 4000000 in
theorem lawClears12 (HO : CleOK) (c t : CaV) (k : Int) (b : Bool) (w : World) (hc : CaOK w c) (ht : CaOK w t) (htl : t.xs.length ≤ 100000) (hf : FitsD c) (hb : (sameC (cleD c.ca) t.ca && ((cleE c.ca : Int) == k)) = b) :
    Calls Tryz.prog 19 #[mkC c, mkC t, .int .i64 k] w (OneB (.bool b) w) := by
  have hb1 := (Below.refl w.heap.size w).alloc (Nat.le_refl _) (.cells #[c.v, c.l, c.i] 28)
  have K0 := Lib.hid (show KK w [(w.heap.size, c), (w.heap.size + 1, t)] _ from KK.push (L := [(w.heap.size, c)]) (KK.new w c hc) t (ht.below hb1) (w.heap.size + 1) (by simp))
  have HJ := Lib.hid fun W (h : CaOK W c) => HO c W h hf
  have HZL := Lib.hid (show ∀ z : CaV, z.ca = cleD c.ca → z.xs.length ≤ 100000 from fun z hz => by
    have h2 : (its z.xs).length = (cleD c.ca).2.length := congrArg (fun a : Ca => a.2.length) hz
    rw [its_len, show (cleD c.ca).2 = [] from by unfold cleD; split <;> rfl] at h2
    have h3 : z.xs.length = 0 := h2
    omega)
  generalize cleD c.ca = v at *
  generalize cleE c.ca = e0 at *
  obtain ⟨p, hp⟩ : ∃ p, sameC v t.ca = p := ⟨_, rfl⟩
  rw [hp] at hb
  have HQ := Lib.hid fun (z : CaV) W (hz : z.ca = v) (h : CaOK W z) (h' : CaOK W t) => refEqual10 z t p W h h' (HZL.out z hz) htl (by rw [hz]; exact hp)
  clear hc ht htl hf hp HZL HO hb1
  go_enter Tryz.func19, Tryz.ntmps19
  go_wp2_with fail
  generalize World.alloc (World.alloc w _) _ = w2 at K0 ⊢
  obtain ⟨x0, x1, x2, _, _, _, xl, _, _⟩ := K0.out.sp2
  go_wp2_with fail
  refine (HJ.out w2 (K0.out.ok (g := w.heap.size) (by simp))).mono ?_
  rintro e w3 ⟨⟨z, rfl, hz, ho⟩, hb3⟩
  have K1 := Lib.hid (K0.out.next hb3)
  have K2 := Lib.hid (KK.push (K0.out.next hb3) z ho _ rfl)
  have HZ := Lib.hid hz
  clear hz ho hb3 K0 HJ x0 x1 x2 xl
  obtain ⟨_, _, _, x6, x7, x8, _, xl, _⟩ := K1.out.sp2
  go_wp2_with fail
  refine (HQ.out z _ HZ.out (K2.out.ok (g := w3.heap.size) (by simp)) (K2.out.ok (g := w.heap.size + 1) (by simp))).mono ?_
  rintro e w4 ⟨rfl, hb4⟩
  have HB := Lib.hid (below_trans K2.out.bel hb4)
  clear hb4 K1 K2 x6 x7 x8 xl
  cases p with
  | false =>
    obtain rfl : false = b := by simpa using hb
    go_wp2_with fail
    go_ret
    exact ⟨rfl, HB.out⟩
  | true =>
    have HE := Lib.hid (show ((e0 : Int) == k) = b from by simpa using hb)
    clear hb
    go_wp2_with fail
    go_ret
    exact OneB.bool HE.out HB.out

theorem lawAt12 (r c : Int) (w : World) : Calls Tryz.prog 25 #[.int .i64 r, .int .i64 c] w (OneB (.agg #[.int .i64 r, .int .i64 c]) w) := by
  have hn := heap_alloc_new w (.cells #[.int .i64 r, .int .i64 c] 30)
  have c0 : (w.alloc (.cells #[.int .i64 r, .int .i64 c] 30)).cell? ⟨w.heap.size, 0, none⟩ = some (.int .i64 r) := by simp only [World.cell?, hn]; rfl
  have c1 : (w.alloc (.cells #[.int .i64 r, .int .i64 c] 30)).cell? ⟨w.heap.size, 1, none⟩ = some (.int .i64 c) := by simp only [World.cell?, hn]; rfl
  have HB := Lib.hid ((Below.refl w.heap.size w).alloc (Nat.le_refl _) (.cells #[.int .i64 r, .int .i64 c] 30))
  clear hn
  go_enter Tryz.func25, Tryz.ntmps25
  go_wp2_with fail
  exact bodyPost_ret (v := .agg #[.int .i64 r, .int .i64 c]) (by simp [results, Tryz.results25, go_sem, c0, c1]) rfl ⟨rfl, HB.out⟩

end

section
open Go.RowKit

end

section
open Go.RowKit

/-- No two items share a row of marks. -/
def ApartI (ys : List ItV) : Prop := ys.Pairwise fun a b => ∀ g, (slV a).ownBlock = some g → (slV b).ownBlock ≠ some g
theorem ApartI.snoc {ys : List ItV} {y : ItV} {W W' : World} {B B' : Nat} (h : ApartI ys) (hr : ∀ z ∈ ys, RowM W B (slV z) z.ms ∧ (slV z).ownBlock ≠ some B) (hy : RowM W' B' (slV y) y.ms) (hs : W.heap.size ≤ B') : ApartI (ys ++ [y]) := by
  unfold ApartI
  rw [List.pairwise_append]
  refine ⟨h, List.pairwise_singleton _ _, fun a ha b hb g e1 e2 => ?_⟩
  obtain rfl : b = y := by simpa using hb
  have h1 := ((hr a ha).1.lt g e1).2
  have h2 := (hy.lt g e2).1
  omega

/-- A box of two cells that was there ahead of a step; written. -/
theorem box2_kept {W Wb : World} {n : Nat} {a b : Value} {t : TypeId} (hb : Below W.heap.size W Wb) (hn : W.heap[n]? = some (.cells #[a, b] t (0, 0))) :
    Wb.heap[n]? = some (.cells #[a, b] t (0, 0)) ∧ Wb.cell? ⟨n, 0, none⟩ = some a ∧ Wb.cell? ⟨n, 1, none⟩ = some b ∧ Wb.frozen? ⟨n, 0, none⟩ = false ∧ Wb.frozen? ⟨n, 1, none⟩ = false ∧ n < Wb.heap.size := by
  have h := (hb.block n (Array.getElem?_eq_some_iff.1 hn).1).trans hn
  exact ⟨h, by simp [World.cell?, h], by simp [World.cell?, h], by simp [World.frozen?, h], by simp [World.frozen?, h], (Array.getElem?_eq_some_iff.1 h).1⟩
theorem box2_filled {W : World} {n : Nat} {a b : Value} {t : TypeId} (h : W.heap[n]? = some (.cells #[a, b] t (0, 0))) (u v : Value) : ((W.setCell ⟨n, 0, none⟩ u).setCell ⟨n, 1, none⟩ v).heap[n]? = some (.cells #[u, v] t (0, 0)) := by
  have e1 : (W.setCell ⟨n, 0, none⟩ u).heap[n]? = some (.cells #[u, b] t (0, 0)) := by
    show (W.heap.modify n _)[n]? = _
    rw [Array.getElem?_modify, if_pos rfl, h]
    rfl
  show ((W.setCell ⟨n, 0, none⟩ u).heap.modify n _)[n]? = _
  rw [Array.getElem?_modify, if_pos rfl, e1]
  rfl
theorem row_set2c {W : World} {B k m n : Nat} {e t : TypeId} {x u v : Value} {xs : List Value} {cur : Array Value} {z : Nat × Nat} (h : W.ownsRow B e k x m xs) (hg : W.heap[n]? = some (.cells cur t z)) (ht : t ≠ e) : ((W.setCell ⟨n, 0, none⟩ u).setCell ⟨n, 1, none⟩ v).ownsRow B e k x m xs :=
  have hn := row_ne h hg ht
  ownsRow_setCell_other (a := ⟨n, 1, none⟩) (ownsRow_setCell_other (a := ⟨n, 0, none⟩) h hn u) hn v
/-- The context that is being made: its box, its rows. -/
structure KSc (w : World) (c : CaV) (g : Nat) (v l : Value) (W : World) : Prop where
  kr : KR w c W
  out : W.heap[g]? = some (.cells #[v, l] 25 (0, 0))
  gb : w.heap.size + 1 < g
  rv : RowC W w.heap.size v c.vs
  rl : RowC W w.heap.size l c.ls
theorem KSc.new {w W : World} {c : CaV} {v l : Value} (h : KR w c W) (hv : RowC W w.heap.size v c.vs) (hl : RowC W w.heap.size l c.ls) : KSc w c W.heap.size v l (W.alloc (.cells #[v, l] 25)) :=
  have hb := (Below.refl W.heap.size W).alloc (Nat.le_refl _) (.cells #[v, l] 25)
  ⟨h.alloc _, heap_alloc_new W _, h.lt, hv.below hb, hl.below hb⟩
theorem KSc.set {w W : World} {c : CaV} {v l a b : Value} {g : Nat} (h : KR w c W) (hg : W.heap[g]? = some (.cells #[a, b] 25 (0, 0))) (hgg : w.heap.size + 1 < g) (hv : RowC W w.heap.size v c.vs) (hl : RowC W w.heap.size l c.ls) : KSc w c g v l ((W.setCell ⟨g, 0, none⟩ v).setCell ⟨g, 1, none⟩ l) :=
  ⟨h.set2 hgg _ _, box2_filled hg _ _, hgg, row_set2c hv hg (by decide), row_set2c hl hg (by decide)⟩
theorem KSc.next {w W W' : World} {c : CaV} {g : Nat} {v l : Value} (h : KSc w c g v l W) (hb : Below W.heap.size W W') : KSc w c g v l W' := ⟨h.kr.next hb, (hb.block g (Array.getElem?_eq_some_iff.1 h.out).1).trans h.out, h.gb, h.rv.below hb, h.rl.below hb⟩
theorem KSc.sp {w W : World} {c : CaV} {g : Nat} {v l : Value} (h : KSc w c g v l W) : W.cell? ⟨w.heap.size, 2, none⟩ = some c.i ∧ W.cell? ⟨g, 0, none⟩ = some v ∧ W.cell? ⟨g, 1, none⟩ = some l ∧ w.heap.size < W.heap.size ∧ g < W.heap.size := by
  obtain ⟨_, s0, s1, f0, f1, hgl⟩ := box2_kept (Below.refl _ W) h.out
  exact ⟨h.kr.sp.2.2.1, s0, s1, h.kr.sp.2.2.2.1, hgl⟩
theorem KR.items {w W : World} {c : CaV} (h : KR w c W) : HoldsX W c.i c.xs := h.kb.ok.2.2
end

section
open Go.RowKit

theorem ownBlock_or (v : Value) : v.ownBlock = none ∨ v.ownBlock ≠ none := by cases v.ownBlock <;> simp
theorem row_below {W W' : World} {B k n : Nat} {e : TypeId} {v : Value} {xs : List Value} (h : W.ownsRow B e k v n xs) (hb : Below W.heap.size W W') : W'.ownsRow B e k v n xs :=
  h.kept (grown_of_below hb none) (ownBlock_or v)
theorem keep_typed {W W' : World} {B B' k k' n n' : Nat} {e e' : TypeId} {v v' : Value} {xs xs' : List Value} (h : W.ownsRow B e k v n xs) (h' : W.ownsRow B' e' k' v' n' xs') (ht : e ≠ e') (hg : W.grownBy W' v'.ownBlock) : W'.ownsRow B e k v n xs := by
  refine h.kept hg ?_
  rcases h'.2 with ⟨e1, _⟩ | ⟨g, cap, cur, e1, _, hgg, _⟩
  · subst e1; exact ownBlock_or v
  · right; subst e1; exact row_ne h hgg (Ne.symm ht)
theorem blk_typed {W W' : World} {B' k' n' N : Nat} {e' t : TypeId} {v' : Value} {xs' : List Value} {cur : Array Value} {z : Nat × Nat} (h : W.heap[N]? = some (.cells cur t z)) (h' : W.ownsRow B' e' k' v' n' xs') (ht : t ≠ e') (hg : W.grownBy W' v'.ownBlock) : W'.heap[N]? = some (.cells cur t z) :=
  (hg.block N (Array.getElem?_eq_some_iff.1 h).1 (fun e => row_ne h' h ht e.symm)).trans h
theorem KR.far {w W W' : World} {c : CaV} {row : Option Nat} (h : KR w c W) (hg : W.grownBy W' row) (hr : ∀ k, row = some k → w.heap.size + 1 < k) : KR w c W' :=
  ⟨h.kb.grown hg (fun k hk => by have := hr k hk; omega), (hg.block _ h.lt (fun e => by have := hr _ e.symm; omega)).trans h.res⟩

/-- The state of Canon's loop: the list and its rows of marks, the names and the dots so far. -/
structure KL (w : World) (c : CaV) (B : Nat) (A : Option Addr) (d : Nat) (ys : List ItV) (u v : Value) (ns : List (List UInt8)) (ds : List (Int × Int)) (W : World) : Prop where
  kr : KR w c W
  own : OwnI W B (.slice A ys.length d) ys
  ap : ApartI ys
  rs : RowS W B u ns
  rd : RowC W B v ds
  hB : w.heap.size + 1 < B
  bB : B ≤ W.heap.size
section
variable {w W W' : World} {c : CaV} {B d : Nat} {A : Option Addr} {ys : List ItV} {u v : Value} {ns : List (List UInt8)} {ds : List (Int × Int)}
theorem KL.next (h : KL w c B A d ys u v ns ds W) (hb : Below W.heap.size W W') : KL w c B A d ys u v ns ds W' :=
  ⟨h.kr.next hb, h.own.below hb, h.ap, row_below h.rs hb, row_below h.rd hb, h.hB, Nat.le_trans h.bB hb.size⟩
theorem KL.alloc (h : KL w c B A d ys u v ns ds W) (o : Obj) : KL w c B A d ys u v ns ds (W.alloc o) := h.next ((Below.refl _ _).alloc (Nat.le_refl _) _)
theorem ApartI.ne (h : ApartI ys) {j k : Nat} {y z : ItV} (hj : ys[j]? = some z) (hk : ys[k]? = some y) (hne : j ≠ k) : (slV z).ownBlock = none ∨ (slV z).ownBlock ≠ (slV y).ownBlock := by
  obtain ⟨hj', ej⟩ := List.getElem?_eq_some_iff.1 hj
  obtain ⟨hk', ek⟩ := List.getElem?_eq_some_iff.1 hk
  unfold ApartI at h
  rw [List.pairwise_iff_getElem] at h
  cases e : (slV z).ownBlock with
  | none => exact .inl rfl
  | some g =>
    right
    rcases Nat.lt_or_ge j k with hlt | hge
    · have := h j k hj' hk' hlt g (by rw [ej]; exact e)
      rw [ek] at this
      exact fun e2 => this e2.symm
    · have hlt : k < j := by omega
      intro e2
      have := h k j hk' hj' hlt g (by rw [ek]; exact e2.symm)
      rw [ej] at this
      exact this e
theorem ApartI.map (h : ApartI ys) {zs : List ItV} (he : zs.map (fun y => (slV y).ownBlock) = ys.map (fun y => (slV y).ownBlock)) : ApartI zs := by
  unfold ApartI at h ⊢
  have h1 : (ys.map fun y => (slV y).ownBlock).Pairwise fun a b => ∀ g, a = some g → b ≠ some g := by rw [List.pairwise_map]; exact h
  rw [← he, List.pairwise_map] at h1
  exact h1
theorem KL.names (h : KL w c B A d ys u v ns ds W) {u' : Value} {ns' : List (List UInt8)} (hg : W.grownBy W' u.ownBlock) (hr : RowS W' B u' ns') : KL w c B A d ys u' v ns' ds W' :=
  ⟨h.kr.far hg fun j hj => by have := (h.rs.lt j hj).1; have := h.hB; omega, ⟨keep_typed h.own.1 h.rs (by decide) hg, fun z hz => keep_typed (h.own.2 z hz) h.rs (by decide) hg⟩, h.ap, hr, keep_typed h.rd h.rs (by decide) hg, h.hB, Nat.le_trans h.bB hg.size⟩
theorem KL.dots (h : KL w c B A d ys u v ns ds W) {v' : Value} {ds' : List (Int × Int)} (hg : W.grownBy W' v.ownBlock) (hr : RowC W' B v' ds') : KL w c B A d ys u v' ns ds' W' :=
  ⟨h.kr.far hg fun j hj => by have := (h.rd.lt j hj).1; have := h.hB; omega, ⟨keep_typed h.own.1 h.rd (by decide) hg, fun z hz => keep_typed (h.own.2 z hz) h.rd (by decide) hg⟩, h.ap, keep_typed h.rs h.rd (by decide) hg, hr, h.hB, Nat.le_trans h.bB hg.size⟩
theorem KL.items (h : KL w c B A d ys u v ns ds W) : ItemsAt W A ys := by
  obtain ⟨A', m, e, h1, _⟩ := h.own.holds
  injection e with e1 e2 e3
  rw [e1]; exact h1
end

end

section
open Go.RowKit

theorem KY.next {w W W' : World} {c : CaV} {g : Nat} {v l iv : Value} {ys : List ItV} (h : KY w c g v l iv ys W) (hb : Below W.heap.size W W') : KY w c g v l iv ys W' :=
  ⟨h.kr.next hb, (hb.block g (Array.getElem?_eq_some_iff.1 h.out).1).trans h.out, h.gb, h.rv.below hb, h.rl.below hb, h.ri.below hb⟩
/-- Behind the append: the box still has the old row. -/
structure KYo (w : World) (c : CaV) (g : Nat) (v l iv v' : Value) (zs : List ItV) (W : World) : Prop where
  kr : KR w c W
  out : W.heap[g]? = some (.cells #[v, l, iv] 28 (0, 0))
  gb : w.heap.size + 1 < g
  rv : RowC W w.heap.size v c.vs
  rl : RowC W w.heap.size l c.ls
  ri : OwnI W w.heap.size v' zs
theorem KY.grow {w W W' : World} {c : CaV} {g : Nat} {v l iv v' : Value} {ys : List ItV} {y : ItV} (h : KY w c g v l iv ys W) (hy : RowM W w.heap.size (slV y) y.ms) (hr : W'.ownsRow w.heap.size 50 2 v' (ys ++ [y]).length (cellsOf encIt (ys ++ [y]))) (hg : W.grownBy W' iv.ownBlock) : KYo w c g v l iv v' (ys ++ [y]) W' := by
  have hi := h.ri.1
  refine ⟨⟨⟨blk_typed h.kr.kb.blk hi (by decide) hg, ?_, h.kr.kb.ok0⟩, blk_typed h.kr.res hi (by decide) hg⟩, blk_typed h.out hi (by decide) hg, h.gb, keep_typed h.rv hi (by decide) hg, keep_typed h.rl hi (by decide) hg, OwnI.grow h.ri hy hr hg⟩
  exact h.kr.kb.bel.grown hg h.kr.size (fun j hj => (hi.lt j hj).1)
theorem KYo.cells {w W : World} {c : CaV} {g : Nat} {v l iv v' : Value} {zs : List ItV} (h : KYo w c g v l iv v' zs W) : W.cell? ⟨g, 0, none⟩ = some v ∧ W.cell? ⟨g, 1, none⟩ = some l ∧ W.cell? ⟨g, 2, none⟩ = some iv ∧ W.frozen? ⟨g, 0, none⟩ = false ∧ W.frozen? ⟨g, 1, none⟩ = false ∧ W.frozen? ⟨g, 2, none⟩ = false ∧ g < W.heap.size := by
  obtain ⟨_, s⟩ := boxC_kept (Below.refl _ _) h.out
  exact s
theorem KYo.stored {w W : World} {c : CaV} {g : Nat} {v l iv v' : Value} {zs : List ItV} (h : KYo w c g v l iv v' zs W) : KY w c g v l v' zs (W.setCell ⟨g, 2, none⟩ v') := by
  have hgb := h.gb
  have ho : ∀ k, k ≠ g → (W.setCell ⟨g, 2, none⟩ v').heap[k]? = W.heap[k]? := fun k hk => Below.heap_setCell W ⟨g, 2, none⟩ v' k hk
  refine ⟨⟨⟨(ho _ (by omega)).trans h.kr.kb.blk, h.kr.kb.bel.setCell (p := ⟨g, 2, none⟩) (by simp; omega) _, h.kr.kb.ok0⟩, (ho _ (by omega)).trans h.kr.res⟩, ?_, h.gb, row_set1 h.rv h.out (by decide), row_set1 h.rl h.out (by decide), ⟨row_set1 h.ri.1 h.out (by decide), fun z hz => row_set1 (h.ri.2 z hz) h.out (by decide)⟩⟩
  show (W.heap.modify g _)[g]? = _
  rw [Array.getElem?_modify, if_pos rfl, h.out]
  rfl

end

section
open Go.RowKit

abbrev KnownD : Prop := ∀ W, Calls Tryz.prog 10 #[] W (TrueB W)
theorem sameJ_self (a : Ca) : sameC a a = true := sameC_iff.2 rfl
theorem KK.cells4 {w W : World} {L : List (Nat × CaV)} (h : KK w L W) {g : Nat} {c : CaV} (hm : (g, c) ∈ L) : W.cell? ⟨g, 0, none⟩ = some c.v ∧ W.cell? ⟨g, 1, none⟩ = some c.l ∧ W.cell? ⟨g, 2, none⟩ = some c.i ∧ g < W.heap.size := ⟨(h.blk hm).cell0, (h.blk hm).cell1, (h.blk hm).cell2, (h.blk hm).lt⟩
theorem of_caJ {c k : CaV} (h : k.ca = c.ca) : k.vs = c.vs ∧ k.ls = c.ls ∧ its k.xs = its c.xs := by
  have h1 := congrArg (fun a : Ca => a.1.1) h
  have h2 := congrArg (fun a : Ca => a.1.2) h
  have h3 := congrArg (fun a : Ca => a.2) h
  exact ⟨h1, h2, h3⟩
/-- Carts in boxes, a dot in its box. -/
structure KKD (w : World) (L : List (Nat × CaV)) (g : Nat) (r s : Int) (W : World) : Prop where
  kk : KK w L W
  dot : W.heap[g]? = some (.cells #[.int .i64 r, .int .i64 s] 30 (0, 0))
section
variable {w W W' : World} {L : List (Nat × CaV)} {g : Nat} {r s : Int}
theorem KKD.next (h : KKD w L g r s W) (hb : Below W.heap.size W W') : KKD w L g r s W' := ⟨h.kk.next hb, (hb.block _ (Array.getElem?_eq_some_iff.1 h.dot).1).trans h.dot⟩
theorem KKD.far (h : KKD w L g r s W) (p : FarBy) : KKD w L g r s (Go.Proofs.YtiaehpdgpjhecaaGreat.far W p) := h.next (below_far W p)
theorem KKD.dots (h : KKD w L g r s W) : W.cell? ⟨g, 0, none⟩ = some (.int .i64 r) ∧ W.cell? ⟨g, 1, none⟩ = some (.int .i64 s) ∧ g < W.heap.size := ⟨by simp [World.cell?, h.dot], by simp [World.cell?, h.dot], (Array.getElem?_eq_some_iff.1 h.dot).1⟩
theorem KKD.push (h : KKD w L g r s W) (z : CaV) (hz : CaOK W z) : KKD w (L ++ [(W.heap.size, z)]) g r s (W.alloc (.cells #[z.v, z.l, z.i] 28)) := ⟨h.kk.push z hz _ rfl, (h.next ((Below.refl _ W).alloc (Nat.le_refl _) _)).dot⟩
end
/-- A light cart is of size one. -/
theorem lightK_size {c : CaV} (h : lightK c = true) : SizeK 1 c.ca := by
  obtain ⟨_, h1, h2, h3, h4⟩ := lightK_fits h
  have hone : ∀ x ∈ c.ca.2, x.1.length ≤ 100 ∧ x.2.length ≤ 10 := fun x hx => by
    obtain ⟨y, hy, rfl⟩ := List.mem_map.1 hx
    exact h4 y hy
  have hn : c.ca.2.length ≤ 20 := by rw [ca_x, its_len]; exact h3
  refine ⟨by show c.vs.length + c.ls.length ≤ 80 * 1; omega, by omega, ?_, fun x hx => by have := hone x hx; omega⟩
  have : ∀ l : List It, (∀ x ∈ l, x.2.length ≤ 10) → cntM l ≤ 10 * l.length := fun l => by
    induction l with
    | nil => intro _; simp [cntM]
    | cons x r ih =>
      intro hx
      have h1 := ih fun y hy => hx y (List.mem_cons_of_mem _ hy)
      have h2 := hx x (by simp)
      have e : cntM (x :: r) = x.2.length + cntM r := by simp [cntM]
      rw [e, List.length_cons]; omega
  have := this c.ca.2 fun x hx => (hone x hx).2
  omega
/-- The times of a cart's marks are times. -/
abbrev Timed (c : CaV) : Prop := ∀ m ∈ marksX c.xs, m.t < 18446744073709551616
theorem FitsD.of {c : CaV} (h : SizeK 1 c.ca) (ht : Timed c) : FitsD c := by
  refine ⟨(FitsP.of h h (by omega) (by omega)).kc, ?_, ht⟩
  have h1 := dotsI_cnt (its c.xs)
  have h2 := h.cnt
  rw [ca_x] at h2
  omega
theorem Timed.of {c k : CaV} (h : Timed c) (e : k.ca = c.ca) : Timed k := fun m hm => h m (by
  rw [← marksX_its] at hm ⊢
  rwa [show its k.xs = its c.xs from (of_caJ e).2.2] at hm)
theorem SizeK.cc {c : CaV} (h : SizeK 1 c.ca) : FitsC c := ⟨by have := h.dots; rw [ca_v, ca_l] at this; omega, by have := h.dots; rw [ca_v, ca_l] at this; omega, (FitsP.of h h (by omega) (by omega)).kc.1⟩
theorem SizeK.small {c : CaV} {n : Nat} (h : SizeK n c.ca) (hn : n ≤ 7) : c.xs.length ≤ 100000 := by have := CaV.num h; omega
end

section
open Go.RowKit

theorem marks_off {W W' : World} {g : Nat} {d : CaV} {A : Option Addr} {ms : List Mk} (h : MarksAt W A ms) (hg : BlkC W g d) (hs : W.heap.size ≤ W'.heap.size) (hk : ∀ b, b ≠ g → W'.heap[b]? = W.heap[b]?) : MarksAt W' A ms :=
  SlAt.off_only h (fun x => ⟨_, rfl, fun _ _ _ e => by cases e⟩) (show W.heap[g]? = some (.cells ([d.v, d.l, d.i] : List Value).toArray 28 (0, 0)) from hg) (slices3 d.V d.L d.I d.nv d.nl d.ni d.vs.length d.ls.length d.xs.length) hs hk
theorem items_off {W W' : World} {g : Nat} {d : CaV} {A : Option Addr} {xs : List ItV} (h : ItemsAt W A xs) (hg : BlkC W g d) (hs : W.heap.size ≤ W'.heap.size) (hk : ∀ b, b ≠ g → W'.heap[b]? = W.heap[b]?) : ItemsAt W' A xs :=
  ⟨SlAt.off_only h.1 (fun x => ⟨_, rfl, fun _ _ _ e => by cases e⟩) (show W.heap[g]? = some (.cells ([d.v, d.l, d.i] : List Value).toArray 28 (0, 0)) from hg) (slices3 d.V d.L d.I d.nv d.nl d.ni d.vs.length d.ls.length d.xs.length) hs hk, fun x hx => ⟨marks_off (h.2 x hx).1 hg hs hk, (h.2 x hx).2⟩⟩
theorem holds_off {W W' : World} {g : Nat} {d : CaV} {v : Value} {l : List (Int × Int)} (h : Holds W v l) (hg : BlkC W g d) (hs : W.heap.size ≤ W'.heap.size) (hk : ∀ b, b ≠ g → W'.heap[b]? = W.heap[b]?) : Holds W' v l := by
  obtain ⟨A, n, e, h1, h2⟩ := h
  exact ⟨A, n, e, SlAt.off_only h1 (fun x => ⟨_, rfl, fun _ _ _ e => by cases e⟩) (show W.heap[g]? = some (.cells ([d.v, d.l, d.i] : List Value).toArray 28 (0, 0)) from hg) (slices3 d.V d.L d.I d.nv d.nl d.ni d.vs.length d.ls.length d.xs.length) hs hk, h2⟩
theorem holdsX_off {W W' : World} {g : Nat} {d : CaV} {v : Value} {xs : List ItV} (h : HoldsX W v xs) (hg : BlkC W g d) (hs : W.heap.size ≤ W'.heap.size) (hk : ∀ b, b ≠ g → W'.heap[b]? = W.heap[b]?) : HoldsX W' v xs := by
  obtain ⟨A, c, e, h1, h2⟩ := h
  exact ⟨A, c, e, items_off h1 hg hs hk, h2⟩

end

end Go.Proofs.YtiaehpdgpjhecaaGreat
