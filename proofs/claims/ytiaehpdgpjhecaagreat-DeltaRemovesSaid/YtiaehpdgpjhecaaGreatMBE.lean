/- Several texts in one: DelD, DelH. -/
import Derived.Test.YtiaehpdgpjhecaaGreatMBC
import Derived.Test.YtiaehpdgpjhecaaGreatMAV
import Derived.Test.YtiaehpdgpjhecaaGreatMBD
import Derived.Test.YtiaehpdgpjhecaaGreatMAZ
namespace Go.Proofs.YtiaehpdgpjhecaaGreat

section
open Go.RowKit

abbrev KnownD : Prop := ∀ W, Calls Tryz.prog 10 #[] W (TrueB W)
theorem sameJ_self (a : Ca) : sameC a a = true := sameC_iff.2 rfl
theorem KK.cells4 {w W : World} {L : List (Nat × CaV)} (h : KK w L W) {g : Nat} {c : CaV} (hm : (g, c) ∈ L) : W.cell? ⟨g, 0, none⟩ = some c.v ∧ W.cell? ⟨g, 1, none⟩ = some c.l ∧ W.cell? ⟨g, 2, none⟩ = some c.i ∧ g < W.heap.size := ⟨(h.blk hm).cell0, (h.blk hm).cell1, (h.blk hm).cell2, (h.blk hm).lt⟩
theorem of_caJ {c k : CaV} (h : k.ca = c.ca) : k.vs = c.vs ∧ k.ls = c.ls ∧ its k.xs = its c.xs := by
  have h1 := congrArg (fun a : Ca => a.1.1) h
  have h2 := congrArg (fun a : Ca => a.1.2) h
  have h3 := congrArg (fun a : Ca => a.2) h
  exact ⟨h1, h2, h3⟩
theorem row_ofJ {W : World} {B : Nat} {v : Value} {a b : List (Int × Int)} (h : RowC W B v b) (e : a = b) : RowC W B v a := by subst e; exact h
/-- Carts in boxes, a dot in its box. -/
structure KKD (w : World) (L : List (Nat × CaV)) (g : Nat) (r s : Int) (W : World) : Prop where
  kk : KK w L W
  dot : W.heap[g]? = some (.cells #[.int .i64 r, .int .i64 s] 30 (0, 0))
section
variable {w W W' : World} {L : List (Nat × CaV)} {g : Nat} {r s : Int}
theorem KKD.next (h : KKD w L g r s W) (hb : Below W.heap.size W W') : KKD w L g r s W' := ⟨h.kk.next hb, (hb.block _ (Array.getElem?_eq_some_iff.1 h.dot).1).trans h.dot⟩
theorem KKD.far (h : KKD w L g r s W) (p : FarBy) : KKD w L g r s (Go.Proofs.YtiaehpdgpjhecaaGreat.far W p) := h.next (below_far W p)
theorem KKD.dots (h : KKD w L g r s W) : W.cell? ⟨g, 0, none⟩ = some (.int .i64 r) ∧ W.cell? ⟨g, 1, none⟩ = some (.int .i64 s) ∧ g < W.heap.size := ⟨by simp [World.cell?, h.dot], by simp [World.cell?, h.dot], (Array.getElem?_eq_some_iff.1 h.dot).1⟩
theorem KKD.push (h : KKD w L g r s W) (z : CaV) (hz : CaOK W z) : KKD w (L ++ [(W.heap.size, z)]) g r s (W.alloc (.cells #[z.v, z.l, z.i] 28)) := ⟨h.kk.push z hz _ rfl, (h.next ((Below.refl _ W).alloc (Nat.le_refl _) _)).dot⟩
end
/-- A light cart is of size one. -/
theorem lightK_size {c : CaV} (h : lightK c = true) : SizeK 1 c.ca := by
  obtain ⟨_, h1, h2, h3, h4⟩ := lightK_fits h
  have hone : ∀ x ∈ c.ca.2, x.1.length ≤ 100 ∧ x.2.length ≤ 10 := fun x hx => by
    obtain ⟨y, hy, rfl⟩ := List.mem_map.1 hx
    exact h4 y hy
  have hn : c.ca.2.length ≤ 20 := by rw [ca_x, its_len]; exact h3
  refine ⟨by show c.vs.length + c.ls.length ≤ 80 * 1; omega, by omega, ?_, fun x hx => by have := hone x hx; omega⟩
  have : ∀ l : List It, (∀ x ∈ l, x.2.length ≤ 10) → cntM l ≤ 10 * l.length := fun l => by
    induction l with
    | nil => intro _; simp [cntM]
    | cons x r ih =>
      intro hx
      have h1 := ih fun y hy => hx y (List.mem_cons_of_mem _ hy)
      have h2 := hx x (by simp)
      have e : cntM (x :: r) = x.2.length + cntM r := by simp [cntM]
      rw [e, List.length_cons]; omega
  have := this c.ca.2 fun x hx => (hone x hx).2
  omega
/-- The times of a cart's marks are times. -/
abbrev Timed (c : CaV) : Prop := ∀ m ∈ marksX c.xs, m.t < 18446744073709551616
theorem FitsD.of {c : CaV} (h : SizeK 1 c.ca) (ht : Timed c) : FitsD c := by
  refine ⟨(FitsP.of h h (by omega) (by omega)).kc, ?_, ht⟩
  have h1 := dotsI_cnt (its c.xs)
  have h2 := h.cnt
  rw [ca_x] at h2
  omega
theorem Timed.of {c k : CaV} (h : Timed c) (e : k.ca = c.ca) : Timed k := fun m hm => h m (by
  rw [← marksX_its] at hm ⊢
  rwa [show its k.xs = its c.xs from (of_caJ e).2.2] at hm)
theorem SizeK.cc {c : CaV} (h : SizeK 1 c.ca) : FitsC c := ⟨by have := h.dots; rw [ca_v, ca_l] at this; omega, by have := h.dots; rw [ca_v, ca_l] at this; omega, (FitsP.of h h (by omega) (by omega)).kc.1⟩
theorem SizeK.small {c : CaV} {n : Nat} (h : SizeK n c.ca) (hn : n ≤ 7) : c.xs.length ≤ 100000 := by have := CaV.num h; omega
theorem putD_small {c z : CaV} {d : Int × Int} {nm : List UInt8} {q : Int} {set : Bool} (h : z.ca = putD c.ca d nm q set) : z.xs.length ≤ 100000 := by
  have h1 := putD_len c.ca d nm q set
  rw [← h, ca_x, its_len] at h1
  omega
theorem remD_small {c z : CaV} {nm : List UInt8} (h : z.ca = remD c.ca nm) : z.xs.length ≤ 100000 := by
  have h1 : (remD c.ca nm).2.length = 0 := by unfold remD; split <;> rfl
  rw [← h, ca_x, its_len] at h1
  omega
theorem cleD_small {c z : CaV} (h : z.ca = cleD c.ca) : z.xs.length ≤ 100000 := by
  have h1 : (cleD c.ca).2.length = 0 := by unfold cleD; split <;> rfl
  rw [← h, ca_x, its_len] at h1
  omega

set_option maxRecDepth 100000 in
set_option maxHeartbeats 8000000 in
theorem lawDeltaPuts12 (KN : KnownD) (DO : DelOK) (c : CaV) (r s : Int) (nm : List UInt8) (q : Int) (w : World) (hc : CaOK w c) (ht : Timed c) :
    Calls Tryz.prog 3 #[mkC c, .agg #[.int .i64 r, .int .i64 s], .string ⟨nm.toArray⟩, .int .i64 q] w (TrueB w) := by
  have hk0 := KFr.new w c r s hc
  have K0 := Lib.hid (show KKD w [(w.heap.size, c)] (w.heap.size + 1) r s _ from ⟨⟨fun p hp => by
    obtain rfl : p = (w.heap.size, c) := by simpa using hp
    exact ⟨hk0.cart, hk0.ok⟩, hk0.bel⟩, hk0.dot⟩)
  have HKN := Lib.hid KN
  have HT := Lib.hid ht
  have HDO := Lib.hid DO
  obtain ⟨la, hla⟩ : ∃ l, lightK c = l := ⟨_, rfl⟩
  have HL := Lib.hid hla
  have HS := Lib.hid (show la = true → SizeK 1 c.ca from fun h => lightK_size (hla.trans h))
  have hsz := size_mk nm
  clear hk0 hc ht hla KN DO
  cases la with
  | false =>
    go_enter Tryz.func3, Tryz.ntmps3
    go_upto_region 1 with fail
    generalize World.alloc (World.alloc w _) _ = w2 at K0 ⊢
    obtain ⟨x1a, x1b, x1c, x1l⟩ := K0.out.kk.cells4 (g := w.heap.size) (c := c) (by simp)
    obtain ⟨x2a, x2b, x2l⟩ := K0.out.dots
    go_wp2_with fail
    refine (lawLight10 c false _ (K0.out.kk.ok (g := w.heap.size) (c := c) (by simp)) HL.out).mono ?_
    rintro e w3 ⟨rfl, hb⟩
    have K1 := Lib.hid (show KKD w [(w.heap.size, c)] (w.heap.size + 1) r s w3 from K0.out.next hb)
    clear hb K0 x1a x1b x1c x1l x2a x2b x2l
    obtain ⟨x3a, x3b, x3c, x3l⟩ := K1.out.kk.cells4 (g := w.heap.size) (c := c) (by simp)
    obtain ⟨x4a, x4b, x4l⟩ := K1.out.dots
    go_wp2_with fail
    refine (HKN.out _).mono ?_
    rintro e wk ⟨rfl, hb⟩
    have KC := Lib.hid (below_trans K1.out.kk.bel hb)
    clear hb K1 x3a x3b x3c x3l x4a x4b x4l
    go_wp2_with fail
    go_ret
    exact OneB.bool rfl KC.out
  | true =>
    by_cases hn : nm.length ≤ 100
    · have i0 : ¬ (100 : Int) < (nm.length : Int) := by omega
      have HC := Lib.hid (HS.out (by simp))
      have hn1 : nm.length ≤ 1000 := by omega
      go_enter Tryz.func3, Tryz.ntmps3
      go_upto_region 1 with fail
      generalize World.alloc (World.alloc w _) _ = w2 at K0 ⊢
      obtain ⟨x1a, x1b, x1c, x1l⟩ := K0.out.kk.cells4 (g := w.heap.size) (c := c) (by simp)
      obtain ⟨x2a, x2b, x2l⟩ := K0.out.dots
      go_wp2_with fail
      refine (lawLight10 c true _ (K0.out.kk.ok (g := w.heap.size) (c := c) (by simp)) HL.out).mono ?_
      rintro e w3 ⟨rfl, hb⟩
      have K1 := Lib.hid (show KKD w [(w.heap.size, c)] (w.heap.size + 1) r s w3 from K0.out.next hb)
      clear hb K0 x1a x1b x1c x1l x2a x2b x2l
      obtain ⟨x3a, x3b, x3c, x3l⟩ := K1.out.kk.cells4 (g := w.heap.size) (c := c) (by simp)
      obtain ⟨x4a, x4b, x4l⟩ := K1.out.dots
      go_wp2_with fail
      refine (refCopy10 c _ (K1.out.kk.ok (g := w.heap.size) (c := c) (by simp)) HC.out.cc).mono ?_
      rintro e w4 ⟨x, rfl, hz, rv, rl, ri, hb⟩
      have ho : CaOK w4 x := ⟨RowC.holds (row_ofJ rv (of_caJ hz).1), RowC.holds (row_ofJ rl (of_caJ hz).2.1), ri.holds⟩
      clear rv rl ri
      have KO := Lib.hid (show KKD w [(w.heap.size, c)] (w.heap.size + 1) r s w4 from K1.out.next hb)
      have K2 := Lib.hid (show KKD w [(w.heap.size, c), (w4.heap.size, x)] (w.heap.size + 1) r s (w4.alloc (.cells #[x.v, x.l, x.i] 28)) from KO.out.push x ho)
      have Hx := Lib.hid hz
      clear hb hz ho K1 x3a x3b x3c x3l x4a x4b x4l
      obtain ⟨x5a, x5b, x5c, x5l⟩ := KO.out.kk.cells4 (g := w.heap.size) (c := c) (by simp)
      obtain ⟨x6a, x6b, x6l⟩ := KO.out.dots
      clear KO
      have HX := Lib.hid (show SizeK 1 x.ca from by rw [Hx.out]; exact HC.out)
      go_wp2_with fail
      refine (refPut12 c r s nm q false _ (K2.out.kk.ok (g := w.heap.size) (c := c) (by simp)) (FitsD.of HC.out HT.out).k (FitsD.of HC.out HT.out).dots hn1 HT.out).mono ?_
      rintro e w5 ⟨⟨y, rfl, hz, ho⟩, hb⟩
      have KO := Lib.hid (show KKD w [(w.heap.size, c), (w4.heap.size, x)] (w.heap.size + 1) r s w5 from K2.out.next hb)
      have K3 := Lib.hid (show KKD w [(w.heap.size, c), (w4.heap.size, x), (w5.heap.size, y)] (w.heap.size + 1) r s (w5.alloc (.cells #[y.v, y.l, y.i] 28)) from KO.out.push y ho)
      have Hy := Lib.hid hz
      clear hb hz ho K2 x5a x5b x5c x5l x6a x6b x6l
      obtain ⟨x7a, x7b, x7c, x7l⟩ := KO.out.kk.cells4 (g := w.heap.size) (c := c) (by simp)
      obtain ⟨x8a, x8b, x8c, x8l⟩ := KO.out.kk.cells4 (g := w4.heap.size) (c := x) (by simp)
      obtain ⟨x9a, x9b, x9l⟩ := KO.out.dots
      clear KO
      go_wp2_with fail
      refine (refPut12 c r s nm q true _ (K3.out.kk.ok (g := w.heap.size) (c := c) (by simp)) (FitsD.of HC.out HT.out).k (FitsD.of HC.out HT.out).dots hn1 HT.out).mono ?_
      rintro e w6 ⟨⟨z, rfl, hz, ho⟩, hb⟩
      have KO := Lib.hid (show KKD w [(w.heap.size, c), (w4.heap.size, x), (w5.heap.size, y)] (w.heap.size + 1) r s w6 from K3.out.next hb)
      have K4 := Lib.hid (show KKD w [(w.heap.size, c), (w4.heap.size, x), (w5.heap.size, y), (w6.heap.size, z)] (w.heap.size + 1) r s (w6.alloc (.cells #[z.v, z.l, z.i] 28)) from KO.out.push z ho)
      have Hz := Lib.hid hz
      clear hb hz ho K3 x7a x7b x7c x7l x8a x8b x8c x8l x9a x9b x9l
      obtain ⟨x10a, x10b, x10c, x10l⟩ := KO.out.kk.cells4 (g := w.heap.size) (c := c) (by simp)
      obtain ⟨x11a, x11b, x11c, x11l⟩ := KO.out.kk.cells4 (g := w4.heap.size) (c := x) (by simp)
      obtain ⟨x12a, x12b, x12c, x12l⟩ := KO.out.kk.cells4 (g := w5.heap.size) (c := y) (by simp)
      obtain ⟨x13a, x13b, x13l⟩ := KO.out.dots
      clear KO
      go_wp2_with fail
      refine (lawAdds12 HDO.out.add x y r s nm q _ true _ (K4.out.kk.ok (g := w4.heap.size) (c := x) (by simp)) (K4.out.kk.ok (g := w5.heap.size) (c := y) (by simp)) (putD_small Hy.out) (FitsD.of HX.out (HT.out.of Hx.out)) hn1 (by rw [Hx.out, Hy.out, sameJ_self]; simp)).mono ?_
      rintro e w7 ⟨rfl, hb⟩
      have K5 := Lib.hid (show KKD w [(w.heap.size, c), (w4.heap.size, x), (w5.heap.size, y), (w6.heap.size, z)] (w.heap.size + 1) r s w7 from K4.out.next hb)
      clear hb K4 x10a x10b x10c x10l x11a x11b x11c x11l x12a x12b x12c x12l x13a x13b x13l
      obtain ⟨x14a, x14b, x14c, x14l⟩ := K5.out.kk.cells4 (g := w.heap.size) (c := c) (by simp)
      obtain ⟨x15a, x15b, x15c, x15l⟩ := K5.out.kk.cells4 (g := w4.heap.size) (c := x) (by simp)
      obtain ⟨x16a, x16b, x16c, x16l⟩ := K5.out.kk.cells4 (g := w5.heap.size) (c := y) (by simp)
      obtain ⟨x17a, x17b, x17c, x17l⟩ := K5.out.kk.cells4 (g := w6.heap.size) (c := z) (by simp)
      obtain ⟨x18a, x18b, x18l⟩ := K5.out.dots
      go_wp2_with fail
      refine (lawSets12 HDO.out.set x z r s nm q _ true _ (K5.out.kk.ok (g := w4.heap.size) (c := x) (by simp)) (K5.out.kk.ok (g := w6.heap.size) (c := z) (by simp)) (putD_small Hz.out) (FitsD.of HX.out (HT.out.of Hx.out)) hn1 (by rw [Hx.out, Hz.out, sameJ_self]; simp)).mono ?_
      rintro e w8 ⟨rfl, hb⟩
      have K6 := Lib.hid (show KKD w [(w.heap.size, c), (w4.heap.size, x), (w5.heap.size, y), (w6.heap.size, z)] (w.heap.size + 1) r s w8 from K5.out.next hb)
      clear hb K5 x14a x14b x14c x14l x15a x15b x15c x15l x16a x16b x16c x16l x17a x17b x17c x17l x18a x18b x18l
      obtain ⟨x19a, x19b, x19c, x19l⟩ := K6.out.kk.cells4 (g := w.heap.size) (c := c) (by simp)
      obtain ⟨x20a, x20b, x20c, x20l⟩ := K6.out.kk.cells4 (g := w4.heap.size) (c := x) (by simp)
      obtain ⟨x21a, x21b, x21c, x21l⟩ := K6.out.kk.cells4 (g := w5.heap.size) (c := y) (by simp)
      obtain ⟨x22a, x22b, x22c, x22l⟩ := K6.out.kk.cells4 (g := w6.heap.size) (c := z) (by simp)
      obtain ⟨x23a, x23b, x23l⟩ := K6.out.dots
      go_wp2_with fail
      refine (refEqual10 x c true _ (K6.out.kk.ok (g := w4.heap.size) (c := x) (by simp)) (K6.out.kk.ok (g := w.heap.size) (c := c) (by simp)) (HX.out.small (by omega)) (HC.out.small (by omega)) (by rw [Hx.out]; exact sameJ_self _)).mono ?_
      rintro e w9 ⟨rfl, hb⟩
      have K7 := Lib.hid (show KKD w [(w.heap.size, c), (w4.heap.size, x), (w5.heap.size, y), (w6.heap.size, z)] (w.heap.size + 1) r s w9 from K6.out.next hb)
      clear hb K6 x19a x19b x19c x19l x20a x20b x20c x20l x21a x21b x21c x21l x22a x22b x22c x22l x23a x23b x23l
      obtain ⟨x24a, x24b, x24c, x24l⟩ := K7.out.kk.cells4 (g := w.heap.size) (c := c) (by simp)
      obtain ⟨x25a, x25b, x25c, x25l⟩ := K7.out.kk.cells4 (g := w4.heap.size) (c := x) (by simp)
      obtain ⟨x26a, x26b, x26c, x26l⟩ := K7.out.kk.cells4 (g := w5.heap.size) (c := y) (by simp)
      obtain ⟨x27a, x27b, x27c, x27l⟩ := K7.out.kk.cells4 (g := w6.heap.size) (c := z) (by simp)
      obtain ⟨x28a, x28b, x28l⟩ := K7.out.dots
      go_wp2_with fail
      refine (HKN.out _).mono ?_
      rintro e wk ⟨rfl, hb⟩
      have KC := Lib.hid (below_trans K7.out.kk.bel hb)
      clear hb K7 x24a x24b x24c x24l x25a x25b x25c x25l x26a x26b x26c x26l x27a x27b x27c x27l x28a x28b x28l
      go_wp2_with fail
      go_ret
      exact OneB.bool rfl KC.out
    · have i0 : (100 : Int) < (nm.length : Int) := by omega
      go_enter Tryz.func3, Tryz.ntmps3
      go_upto_region 1 with fail
      generalize World.alloc (World.alloc w _) _ = w2 at K0 ⊢
      obtain ⟨x1a, x1b, x1c, x1l⟩ := K0.out.kk.cells4 (g := w.heap.size) (c := c) (by simp)
      obtain ⟨x2a, x2b, x2l⟩ := K0.out.dots
      go_wp2_with fail
      refine (lawLight10 c true _ (K0.out.kk.ok (g := w.heap.size) (c := c) (by simp)) HL.out).mono ?_
      rintro e w3 ⟨rfl, hb⟩
      have K1 := Lib.hid (show KKD w [(w.heap.size, c)] (w.heap.size + 1) r s w3 from K0.out.next hb)
      clear hb K0 x1a x1b x1c x1l x2a x2b x2l
      obtain ⟨x3a, x3b, x3c, x3l⟩ := K1.out.kk.cells4 (g := w.heap.size) (c := c) (by simp)
      obtain ⟨x4a, x4b, x4l⟩ := K1.out.dots
      go_wp2_with fail
      refine (HKN.out _).mono ?_
      rintro e wk ⟨rfl, hb⟩
      have KC := Lib.hid (below_trans K1.out.kk.bel hb)
      clear hb K1 x3a x3b x3c x3l x4a x4b x4l
      go_wp2_with fail
      go_ret
      exact OneB.bool rfl KC.out

set_option maxRecDepth 100000 in
set_option maxHeartbeats 8000000 in
theorem lawDeltaRemoves12 (KN : KnownD) (DO : DelOK) (c : CaV) (nm : List UInt8) (r s : Int) (w : World) (hc : CaOK w c) (ht : Timed c) :
    Calls Tryz.prog 4 #[mkC c, .string ⟨nm.toArray⟩, .agg #[.int .i64 r, .int .i64 s]] w (TrueB w) := by
  have hk0 := KFr.new w c r s hc
  have K0 := Lib.hid (show KKD w [(w.heap.size, c)] (w.heap.size + 1) r s _ from ⟨⟨fun p hp => by
    obtain rfl : p = (w.heap.size, c) := by simpa using hp
    exact ⟨hk0.cart, hk0.ok⟩, hk0.bel⟩, hk0.dot⟩)
  have HKN := Lib.hid KN
  have HT := Lib.hid ht
  have HDO := Lib.hid DO
  obtain ⟨la, hla⟩ : ∃ l, lightK c = l := ⟨_, rfl⟩
  have HL := Lib.hid hla
  have HS := Lib.hid (show la = true → SizeK 1 c.ca from fun h => lightK_size (hla.trans h))
  have hsz := size_mk nm
  clear hk0 hc ht hla KN DO
  cases la with
  | false =>
    go_enter Tryz.func4, Tryz.ntmps4
    go_upto_region 1 with fail
    generalize World.alloc (World.alloc w _) _ = w2 at K0 ⊢
    obtain ⟨x1a, x1b, x1c, x1l⟩ := K0.out.kk.cells4 (g := w.heap.size) (c := c) (by simp)
    obtain ⟨x2a, x2b, x2l⟩ := K0.out.dots
    go_wp2_with fail
    refine (lawLight10 c false _ (K0.out.kk.ok (g := w.heap.size) (c := c) (by simp)) HL.out).mono ?_
    rintro e w3 ⟨rfl, hb⟩
    have K1 := Lib.hid (show KKD w [(w.heap.size, c)] (w.heap.size + 1) r s w3 from K0.out.next hb)
    clear hb K0 x1a x1b x1c x1l x2a x2b x2l
    obtain ⟨x3a, x3b, x3c, x3l⟩ := K1.out.kk.cells4 (g := w.heap.size) (c := c) (by simp)
    obtain ⟨x4a, x4b, x4l⟩ := K1.out.dots
    go_wp2_with fail
    refine (HKN.out _).mono ?_
    rintro e wk ⟨rfl, hb⟩
    have KC := Lib.hid (below_trans K1.out.kk.bel hb)
    clear hb K1 x3a x3b x3c x3l x4a x4b x4l
    go_wp2_with fail
    go_ret
    exact OneB.bool rfl KC.out
  | true =>
    by_cases hn : nm.length ≤ 100
    · have i0 : ¬ (100 : Int) < (nm.length : Int) := by omega
      have HC := Lib.hid (HS.out (by simp))
      have hn1 : nm.length ≤ 1000 := by omega
      have HFD := Lib.hid (FitsD.of HC.out HT.out)
      go_enter Tryz.func4, Tryz.ntmps4
      go_upto_region 1 with fail
      generalize World.alloc (World.alloc w _) _ = w2 at K0 ⊢
      obtain ⟨x1a, x1b, x1c, x1l⟩ := K0.out.kk.cells4 (g := w.heap.size) (c := c) (by simp)
      obtain ⟨x2a, x2b, x2l⟩ := K0.out.dots
      go_wp2_with fail
      refine (lawLight10 c true _ (K0.out.kk.ok (g := w.heap.size) (c := c) (by simp)) HL.out).mono ?_
      rintro e w3 ⟨rfl, hb⟩
      have K1 := Lib.hid (show KKD w [(w.heap.size, c)] (w.heap.size + 1) r s w3 from K0.out.next hb)
      clear hb K0 x1a x1b x1c x1l x2a x2b x2l
      obtain ⟨x3a, x3b, x3c, x3l⟩ := K1.out.kk.cells4 (g := w.heap.size) (c := c) (by simp)
      obtain ⟨x4a, x4b, x4l⟩ := K1.out.dots
      go_wp2_with fail
      refine (refRemove12 c nm _ (K1.out.kk.ok (g := w.heap.size) (c := c) (by simp)) HFD.out.k hn1).mono ?_
      rintro e w4 ⟨⟨y, rfl, hz, ho⟩, hb⟩
      have KO := Lib.hid (show KKD w [(w.heap.size, c)] (w.heap.size + 1) r s w4 from K1.out.next hb)
      have K2 := Lib.hid (show KKD w [(w.heap.size, c), (w4.heap.size, y)] (w.heap.size + 1) r s (w4.alloc (.cells #[y.v, y.l, y.i] 28)) from KO.out.push y ho)
      have Hy := Lib.hid hz
      clear hb hz ho K1 x3a x3b x3c x3l x4a x4b x4l
      obtain ⟨x5a, x5b, x5c, x5l⟩ := KO.out.kk.cells4 (g := w.heap.size) (c := c) (by simp)
      obtain ⟨x6a, x6b, x6l⟩ := KO.out.dots
      clear KO
      go_wp2_with fail
      refine (refClear12 c _ (K2.out.kk.ok (g := w.heap.size) (c := c) (by simp)) HFD.out.k).mono ?_
      rintro e w5 ⟨⟨z, rfl, hz, ho⟩, hb⟩
      have KO := Lib.hid (show KKD w [(w.heap.size, c), (w4.heap.size, y)] (w.heap.size + 1) r s w5 from K2.out.next hb)
      have K3 := Lib.hid (show KKD w [(w.heap.size, c), (w4.heap.size, y), (w5.heap.size, z)] (w.heap.size + 1) r s (w5.alloc (.cells #[z.v, z.l, z.i] 28)) from KO.out.push z ho)
      have Hz := Lib.hid hz
      clear hb hz ho K2 x5a x5b x5c x5l x6a x6b x6l
      obtain ⟨x7a, x7b, x7c, x7l⟩ := KO.out.kk.cells4 (g := w.heap.size) (c := c) (by simp)
      obtain ⟨x8a, x8b, x8c, x8l⟩ := KO.out.kk.cells4 (g := w4.heap.size) (c := y) (by simp)
      obtain ⟨x9a, x9b, x9l⟩ := KO.out.dots
      clear KO
      obtain ⟨em, hem⟩ : ∃ em, emptyK c.ca = em := ⟨_, rfl⟩
      obtain ⟨fr, hfr⟩ : ∃ fr, freshK c.ca (r, s) = fr := ⟨_, rfl⟩
      go_upto_region 5 with fail
      have K9 := Lib.hid (show ∃ W, W = (w5.alloc (.cells #[z.v, z.l, z.i] 28)) ∧ KKD w [(w.heap.size, c), (w4.heap.size, y), (w5.heap.size, z)] (w.heap.size + 1) r s W from ⟨_, rfl, K3.out⟩)
      clear x7a x7b x7c x7l x8a x8b x8c x8l x9a x9b x9l
      have hK := K3.out
      clear K3 K9
      generalize World.alloc w5 _ = wv at hK ⊢
      generalize w5.heap.size = gz at hK ⊢
      have K8 := Lib.hid (show KKD w [(w.heap.size, c), (w4.heap.size, y), (gz, z)] (w.heap.size + 1) r s wv from hK)
      clear hK
      obtain ⟨x10a, x10b, x10c, x10l⟩ := K8.out.kk.cells4 (g := w.heap.size) (c := c) (by simp)
      obtain ⟨x11a, x11b, x11c, x11l⟩ := K8.out.kk.cells4 (g := w4.heap.size) (c := y) (by simp)
      obtain ⟨x12a, x12b, x12c, x12l⟩ := K8.out.kk.cells4 (g := gz) (c := z) (by simp)
      obtain ⟨x13a, x13b, x13l⟩ := K8.out.dots
      have C1 := Lib.hid fun p => lawRemoves12 HDO.out.rem c y nm ((remE c.ca nm : Nat) : Int) true (far wv p) ((K8.out.far p).kk.ok (g := w.heap.size) (c := c) (by simp)) ((K8.out.far p).kk.ok (g := w4.heap.size) (c := y) (by simp)) (remD_small Hy.out) HFD.out hn1 (by rw [Hy.out, sameJ_self]; simp)
      have C2 := Lib.hid fun p => lawClears12 HDO.out.cle c z ((cleE c.ca : Nat) : Int) true (far wv p) ((K8.out.far p).kk.ok (g := w.heap.size) (c := c) (by simp)) ((K8.out.far p).kk.ok (g := gz) (c := z) (by simp)) (cleD_small Hz.out) HFD.out (by rw [Hz.out, sameJ_self]; simp)
      have C3 := Lib.hid fun p => HDO.out.emp c em (far wv p) ((K8.out.far p).kk.ok (g := w.heap.size) (c := c) (by simp)) (SizeK.small HC.out (by omega)) hem
      have C4 := Lib.hid fun p => refEmpty12 c em (far wv p) ((K8.out.far p).kk.ok (g := w.heap.size) (c := c) (by simp)) hem
      have C5 := Lib.hid fun p => HDO.out.fre c r s fr (far wv p) ((K8.out.far p).kk.ok (g := w.heap.size) (c := c) (by simp)) HFD.out hfr
      have C6 := Lib.hid fun p => refFresh12 c r s fr (far wv p) ((K8.out.far p).kk.ok (g := w.heap.size) (c := c) (by simp)) HFD.out.k.1 hfr
      have y0_0 := fun p => cell_far (p := p) x10l x10a
      have y0_1 := fun p => cell_far (p := p) x10l x10b
      have y0_2 := fun p => cell_far (p := p) x10l x10c
      have y1_0 := fun p => cell_far (p := p) x11l x11a
      have y1_1 := fun p => cell_far (p := p) x11l x11b
      have y1_2 := fun p => cell_far (p := p) x11l x11c
      have y2_0 := fun p => cell_far (p := p) x12l x12a
      have y2_1 := fun p => cell_far (p := p) x12l x12b
      have y2_2 := fun p => cell_far (p := p) x12l x12c
      have yd0 := fun p => cell_far (p := p) x13l x13a
      have yd1 := fun p => cell_far (p := p) x13l x13b
      clear hem hfr
      cases em <;> cases fr
      all_goals
        refine wp_region_far (by kernel_rfl) (by kernel_rfl) ?_
        repeat (go_big_quiet_step ((first | (go_at_call 18; exact OneB.far (C1.out _)) | (go_at_call 19; exact OneB.far (C2.out _)) | (go_at_call 20; exact OneB.far (C3.out _)) | (go_at_call 21; exact OneB.far (C4.out _)) | (go_at_call 22; exact OneB.far (C5.out _)) | (go_at_call 23; exact OneB.far (C6.out _)) | (go_at_call 10; exact OneB.far (HKN.out _)))))
        refine wpQuiet_nil ?_
        rintro _ ⟨p, rfl⟩
        have KC := Lib.hid (K8.out.far p).kk.bel
        clear K8 C1 C2 C3 C4 C5 C6 x10a x10b x10c x10l x11a x11b x11c x11l x12a x12b x12c x12l x13a x13b x13l y0_0 y0_1 y0_2 y1_0 y1_1 y1_2 y2_0 y2_1 y2_2 yd0 yd1
        go_wp2_with fail
        go_ret
        exact OneB.bool rfl KC.out
    · have i0 : (100 : Int) < (nm.length : Int) := by omega
      go_enter Tryz.func4, Tryz.ntmps4
      go_upto_region 1 with fail
      generalize World.alloc (World.alloc w _) _ = w2 at K0 ⊢
      obtain ⟨x1a, x1b, x1c, x1l⟩ := K0.out.kk.cells4 (g := w.heap.size) (c := c) (by simp)
      obtain ⟨x2a, x2b, x2l⟩ := K0.out.dots
      go_wp2_with fail
      refine (lawLight10 c true _ (K0.out.kk.ok (g := w.heap.size) (c := c) (by simp)) HL.out).mono ?_
      rintro e w3 ⟨rfl, hb⟩
      have K1 := Lib.hid (show KKD w [(w.heap.size, c)] (w.heap.size + 1) r s w3 from K0.out.next hb)
      clear hb K0 x1a x1b x1c x1l x2a x2b x2l
      obtain ⟨x3a, x3b, x3c, x3l⟩ := K1.out.kk.cells4 (g := w.heap.size) (c := c) (by simp)
      obtain ⟨x4a, x4b, x4l⟩ := K1.out.dots
      go_wp2_with fail
      refine (HKN.out _).mono ?_
      rintro e wk ⟨rfl, hb⟩
      have KC := Lib.hid (below_trans K1.out.kk.bel hb)
      clear hb K1 x3a x3b x3c x3l x4a x4b x4l
      go_wp2_with fail
      go_ret
      exact OneB.bool rfl KC.out

end

section
open Go.RowKit

theorem marks_off {W W' : World} {g : Nat} {d : CaV} {A : Option Addr} {ms : List Mk} (h : MarksAt W A ms) (hg : BlkC W g d) (hs : W.heap.size ≤ W'.heap.size) (hk : ∀ b, b ≠ g → W'.heap[b]? = W.heap[b]?) : MarksAt W' A ms :=
  SlAt.off_only h (fun x => ⟨_, rfl, fun _ _ _ e => by cases e⟩) (show W.heap[g]? = some (.cells ([d.v, d.l, d.i] : List Value).toArray 28 (0, 0)) from hg) (slices3 d.V d.L d.I d.nv d.nl d.ni d.vs.length d.ls.length d.xs.length) hs hk
theorem items_off {W W' : World} {g : Nat} {d : CaV} {A : Option Addr} {xs : List ItV} (h : ItemsAt W A xs) (hg : BlkC W g d) (hs : W.heap.size ≤ W'.heap.size) (hk : ∀ b, b ≠ g → W'.heap[b]? = W.heap[b]?) : ItemsAt W' A xs :=
  ⟨SlAt.off_only h.1 (fun x => ⟨_, rfl, fun _ _ _ e => by cases e⟩) (show W.heap[g]? = some (.cells ([d.v, d.l, d.i] : List Value).toArray 28 (0, 0)) from hg) (slices3 d.V d.L d.I d.nv d.nl d.ni d.vs.length d.ls.length d.xs.length) hs hk, fun x hx => ⟨marks_off (h.2 x hx).1 hg hs hk, (h.2 x hx).2⟩⟩
theorem holds_off {W W' : World} {g : Nat} {d : CaV} {v : Value} {l : List (Int × Int)} (h : Holds W v l) (hg : BlkC W g d) (hs : W.heap.size ≤ W'.heap.size) (hk : ∀ b, b ≠ g → W'.heap[b]? = W.heap[b]?) : Holds W' v l := by
  obtain ⟨A, n, e, h1, h2⟩ := h
  exact ⟨A, n, e, SlAt.off_only h1 (fun x => ⟨_, rfl, fun _ _ _ e => by cases e⟩) (show W.heap[g]? = some (.cells ([d.v, d.l, d.i] : List Value).toArray 28 (0, 0)) from hg) (slices3 d.V d.L d.I d.nv d.nl d.ni d.vs.length d.ls.length d.xs.length) hs hk, h2⟩
theorem holdsX_off {W W' : World} {g : Nat} {d : CaV} {v : Value} {xs : List ItV} (h : HoldsX W v xs) (hg : BlkC W g d) (hs : W.heap.size ≤ W'.heap.size) (hk : ∀ b, b ≠ g → W'.heap[b]? = W.heap[b]?) : HoldsX W' v xs := by
  obtain ⟨A, c, e, h1, h2⟩ := h
  exact ⟨A, c, e, items_off h1 hg hs hk, h2⟩

end

end Go.Proofs.YtiaehpdgpjhecaaGreat
