/- The chapter's examples of items: known is true. -/
import Derived.Test.YtfbkhgajlklleaaGreatItmW
namespace Go.Proofs.YtfbkhgajlklleaaGreat
open Go.RowKit

/-- The contracts at literals. -/
theorem mark_l (r c q T : Int) (w : World) (h : 0 ≤ T) : Calls Tryz.prog 38 #[.int .i64 r, .int .i64 c, .int .i64 q, .int .u64 T] w (OneB (.agg #[.int .i64 r, .int .i64 c, .int .i64 q, .int .u64 T]) w) := by
  have k := lawMark9 r c q T.toNat w
  rw [Int.toNat_of_nonneg h] at k
  have e : mkV ⟨r, c, q, T.toNat⟩ = .agg #[.int .i64 r, .int .i64 c, .int .i64 q, .int .u64 T] := by simp [Int.toNat_of_nonneg h]
  rw [e] at k
  exact k
theorem lit1 (X : World) (n : Nat) (r c q T : Int) (t : Nat) (hn : X.heap.size = n) (h : T = (t : Int)) : MarksAt (X.alloc (.cells #[.int .i64 r, .int .i64 c, .int .i64 q, .int .u64 T] 62)) (some ⟨n, 0, none⟩) [⟨r, c, q, t⟩] := by
  subst h
  exact SlAt.litAt encM_len X n hn 62 [⟨r, c, q, t⟩] (by simp [maxLen])
theorem lit2 (X : World) (n : Nat) (r c q T r' c' q' T' : Int) (t t' : Nat) (hn : X.heap.size = n) (h : T = (t : Int)) (h' : T' = (t' : Int)) : MarksAt (X.alloc (.cells #[.int .i64 r, .int .i64 c, .int .i64 q, .int .u64 T, .int .i64 r', .int .i64 c', .int .i64 q', .int .u64 T'] 62)) (some ⟨n, 0, none⟩) [⟨r, c, q, t⟩, ⟨r', c', q', t'⟩] := by
  subst h h'
  exact SlAt.litAt encM_len X n hn 62 [⟨r, c, q, t⟩, ⟨r', c', q', t'⟩] (by simp [maxLen])
theorem item_l (S : ByteArray) (nm : List UInt8) (A : Option Addr) (k : Nat) (ms : List Mk) (w : World) (h : MarksAt w A ms) (hs : S = ⟨nm.toArray⟩) (hk : ms.length = k) (hm : k ≤ 100) :
    Calls Tryz.prog 37 #[.string S, .slice A k k] w fun e w' => ∃ x : ItV, e = .returned (mkIt x) ∧ x.it = (nm, ms) ∧ ItOK w' x ∧ Below w.heap.size w w' := by
  subst hs hk
  exact (lawItem nm A ms.length ms w h (Nat.le_refl _) (by simp [maxLen]; omega)).mono fun e w' ⟨x, h1, h2, h3, h4⟩ => ⟨x, h1, by rw [h2]; rfl, h3, h4⟩
theorem fits_its {xs : List ItV} {l : List It} (h : its xs = l) (hl : (decide (l.length ≤ 100) && l.all fun x => decide (x.1.length ≤ 1000) && decide (x.2.length ≤ 100)) = true) : Fits xs := by
  subst h
  simp only [Bool.and_eq_true, decide_eq_true_eq, List.all_eq_true] at hl
  refine ⟨by have := hl.1; rwa [its_len] at this, fun x hx => ?_⟩
  exact hl.2 x.it (List.mem_map.2 ⟨x, hx, rfl⟩)
theorem has_l (x : ItV) (it : It) (q e : Int) (n : Nat) (w : World) (ho : ItOK w x) (hx : x.it = it) (he : e = (n : Int)) (hl : (decide (it.1.length ≤ 1000) && decide (it.2.length ≤ 1000)) = true) (hv : qtyI it = (q, n)) :
    Calls Tryz.prog 25 #[mkIt x, .int .i64 q, .int .i64 e] w (TrueB w) := by
  subst hx he
  simp only [Bool.and_eq_true, decide_eq_true_eq] at hl
  exact lawHas x q n w ho hl.1 (Nat.le_trans hl.2 (by decide)) hv
theorem valid_l (v : Value) (xs : List ItV) (l : List It) (b : Bool) (w : World) (h : HoldsX w v xs) (hx : its xs = l) (hl : (decide (l.length ≤ 100) && l.all fun x => decide (x.1.length ≤ 1000) && decide (x.2.length ≤ 100)) = true) (hv : validL l = b) :
    Calls Tryz.prog 11 #[v] w (OneB (.bool b) w) := itValid_h v xs b w h (fits_its hx hl) (by rw [hx]; exact hv)
theorem puts_l (v u : Value) (xs ys : List ItV) (x : ItV) (l m : List It) (it : It) (e : Int) (n : Nat) (w : World) (h : HoldsX w v xs) (k : HoldsX w u ys) (ho : ItOK w x) (hx : its xs = l) (hy : its ys = m) (hi : x.it = it) (he : e = (n : Int))
    (hl : (decide (l.length ≤ 100) && l.all fun x => decide (x.1.length ≤ 1000) && decide (x.2.length ≤ 100)) = true) (hil : (decide (it.1.length ≤ 1000) && (decide (it.2.length ≤ 100) && decide (m.length ≤ 1000))) = true) (hv : putN l it = (m, n)) :
    Calls Tryz.prog 28 #[v, mkIt x, u, .int .i64 e] w (TrueB w) := by
  have hf := fits_its hx hl
  subst hx hy hi he
  simp only [Bool.and_eq_true, decide_eq_true_eq] at hil
  exact lawPuts v u xs ys x n w h k ho hf hil.1 hil.2.1 (by have := hil.2.2; rwa [its_len] at this) hv
theorem removes_l (S : ByteArray) (v u : Value) (xs ys : List ItV) (nm : List UInt8) (l m : List It) (e : Int) (n : Nat) (w : World) (h : HoldsX w v xs) (k : HoldsX w u ys) (hs : S = ⟨nm.toArray⟩) (hx : its xs = l) (hy : its ys = m) (he : e = (n : Int))
    (hl : (decide (l.length ≤ 100) && l.all fun x => decide (x.1.length ≤ 1000) && decide (x.2.length ≤ 100)) = true) (hil : m.length ≤ 1000) (hv : delN l nm = (m, n)) :
    Calls Tryz.prog 32 #[v, .string S, u, .int .i64 e] w (TrueB w) := by
  have hf := fits_its hx hl
  subst hs hx hy he
  exact lawRemoves v u xs ys nm n w h k hf (by rwa [its_len] at hil) hv
theorem finds_l (S : ByteArray) (v : Value) (xs : List ItV) (nm : List UInt8) (x : ItV) (l : List It) (it : It) (e : Int) (n : Nat) (w : World) (h : HoldsX w v xs) (ho : ItOK w x) (hs : S = ⟨nm.toArray⟩) (hx : its xs = l) (hi : x.it = it) (he : e = (n : Int))
    (hl : (decide (l.length ≤ 100) && l.all fun x => decide (x.1.length ≤ 1000) && decide (x.2.length ≤ 100)) = true) (hv : findV l nm = (it, n)) :
    Calls Tryz.prog 18 #[v, .string S, mkIt x, .int .i64 e] w (TrueB w) := by
  have hf := fits_its hx hl
  subst hs hx hi he
  exact lawFinds v xs nm x n w h ho hf hv
theorem owns_l (S : ByteArray) (v : Value) (xs : List ItV) (r c : Int) (nm : List UInt8) (l : List It) (e : Int) (n : Nat) (w : World) (h : HoldsX w v xs) (hs : S = ⟨nm.toArray⟩) (hx : its xs = l) (he : e = (n : Int))
    (hl : (decide (l.length ≤ 100) && l.all fun x => decide (x.1.length ≤ 1000) && decide (x.2.length ≤ 100)) = true) (hv : ownV l r c = (nm, n)) :
    Calls Tryz.prog 20 #[v, .agg #[.int .i64 r, .int .i64 c], .string S, .int .i64 e] w (TrueB w) := by
  have hf := fits_its hx hl
  subst hs hx he
  exact lawOwns v xs r c nm n w h hf hv
theorem dots3_l (X : World) (n : Nat) (r c r' c' r2 c2 : Int) (hn : X.heap.size = n) : Holds (X.alloc (.cells #[.int .i64 r, .int .i64 c, .int .i64 r', .int .i64 c', .int .i64 r2, .int .i64 c2] 29)) (.slice (some ⟨n, 0, none⟩) 3 3) [(r, c), (r', c'), (r2, c2)] :=
  ⟨_, 3, rfl, SlAt.litAt encD_len X n hn 29 [(r, c), (r', c'), (r2, c2)] (by simp [maxLen]), by simp, by simp [maxLen]⟩

abbrev nTea : List UInt8 := [84, 101, 97]
abbrev nNut : List UInt8 := [78, 117, 116]
abbrev nOil : List UInt8 := [79, 105, 108]
abbrev iX : It := (nTea, [⟨1, 1, 5, 3⟩])
abbrev iY : It := (nNut, [⟨2, 1, 7, 4⟩, ⟨1, 2, 2, 9⟩])
abbrev iB : It := (nTea, [])
abbrev iZ : It := (nTea, [⟨3, 1, 1, 1⟩])
abbrev iT : It := (nTea, [⟨1, 1, 9, 9⟩])
abbrev iO : It := (nOil, [⟨1, 1, 1, 1⟩])
abbrev iN : It := ([], [])
theorem fk1 : validL [iY, iX] = true := by decide
theorem fk2 : validL [iX, iY] = false := by decide
theorem fk3 : validL [iX, iX] = false := by decide
theorem fk4 : validL [iB] = false := by decide
theorem fk5 : qtyI iX = (5, 0) := by decide
theorem fk6 : qtyI iY = (2, 0) := by decide
theorem fk7 : qtyI iB = (0, 2) := by decide
theorem fk8 : putN [iX] iY = ([iY, iX], 0) := by decide
theorem fk9 : putN [iY, iX] iZ = ([iY, iZ], 0) := by decide
theorem fk10 : putN [iX] iO = ([], 11) := by decide
theorem fk11 : putN [iX] iT = ([iT], 0) := by decide
theorem fk12 : findV [iY, iX] nTea = (iX, 0) := by decide
theorem fk13 : findV [iY, iX] nOil = (iN, 9) := by decide
theorem fk14 : delN [iY, iX] nNut = ([iX], 0) := by decide
theorem fk15 : delN [iY, iX] nOil = ([], 9) := by decide
theorem fk16 : dotsI [iY, iX] = [(1, 1), (2, 1), (1, 2)] := by decide
theorem fk17 : ownV [iY, iX] 1 2 = (nNut, 0) := by decide
theorem fk18 : ownV [iY, iX] 1 3 = ([], 9) := by decide

/-- Items in boxes, a list of them, and nothing old has changed. -/
structure KN (w : World) (L : List (Nat × ItV)) (v : Value) (bs : List ItV) (W : World) : Prop where
  kz : KZ w L W
  both : HoldsX W v bs
section
variable {w W W' : World} {L : List (Nat × ItV)} {v : Value} {bs : List ItV}
theorem KN.next (h : KN w L v bs W) (hb : Below W.heap.size W W') : KN w L v bs W' := ⟨h.kz.next hb, h.both.below hb⟩
theorem KN.drew (h : KN w L v bs W) : KN w L v bs W.drew := h.next (Below.refl _ _).drew
theorem KN.alloc (h : KN w L v bs W) (o : Obj) : KN w L v bs (W.alloc o) := h.next ((Below.refl _ _).alloc (Nat.le_refl _) _)
theorem KN.cells4 {g k : Nat} {x y b z : ItV} (h : KN w [(g, x), (g + 1, y), (k, b), (k + 1, z)] v bs W) :
    W.cell? ⟨g, 0, none⟩ = some (.string ⟨x.nm.toArray⟩) ∧ W.cell? ⟨g, 1, none⟩ = some (.slice x.A x.ms.length x.c) ∧ W.cell? ⟨g + 1, 0, none⟩ = some (.string ⟨y.nm.toArray⟩) ∧ W.cell? ⟨g + 1, 1, none⟩ = some (.slice y.A y.ms.length y.c) ∧
    W.cell? ⟨k, 0, none⟩ = some (.string ⟨b.nm.toArray⟩) ∧ W.cell? ⟨k, 1, none⟩ = some (.slice b.A b.ms.length b.c) ∧ W.cell? ⟨k + 1, 0, none⟩ = some (.string ⟨z.nm.toArray⟩) ∧ W.cell? ⟨k + 1, 1, none⟩ = some (.slice z.A z.ms.length z.c) ∧
    g < W.heap.size ∧ g + 1 < W.heap.size ∧ k < W.heap.size ∧ k + 1 < W.heap.size :=
  ⟨h.kz.c0 (by simp), h.kz.c1 (by simp), h.kz.c0 (by simp), h.kz.c1 (by simp), h.kz.c0 (by simp), h.kz.c1 (by simp), h.kz.c0 (by simp), h.kz.c1 (by simp), h.kz.lt (x := x) (by simp), h.kz.lt (x := y) (by simp), h.kz.lt (x := b) (by simp), h.kz.lt (x := z) (by simp)⟩
theorem KN.cells6 {g k m : Nat} {x y b z p q : ItV} (h : KN w [(g, x), (g + 1, y), (k, b), (k + 1, z), (m, p), (m + 1, q)] v bs W) :
    W.cell? ⟨g, 0, none⟩ = some (.string ⟨x.nm.toArray⟩) ∧ W.cell? ⟨g, 1, none⟩ = some (.slice x.A x.ms.length x.c) ∧ W.cell? ⟨g + 1, 0, none⟩ = some (.string ⟨y.nm.toArray⟩) ∧ W.cell? ⟨g + 1, 1, none⟩ = some (.slice y.A y.ms.length y.c) ∧
    W.cell? ⟨m, 0, none⟩ = some (.string ⟨p.nm.toArray⟩) ∧ W.cell? ⟨m, 1, none⟩ = some (.slice p.A p.ms.length p.c) ∧ W.cell? ⟨m + 1, 0, none⟩ = some (.string ⟨q.nm.toArray⟩) ∧ W.cell? ⟨m + 1, 1, none⟩ = some (.slice q.A q.ms.length q.c) ∧
    g < W.heap.size ∧ g + 1 < W.heap.size ∧ m < W.heap.size ∧ m + 1 < W.heap.size ∧ KN w [(g, x), (g + 1, y), (k, b), (k + 1, z), (m, p), (m + 1, q)] v bs W :=
  ⟨h.kz.c0 (by simp), h.kz.c1 (by simp), h.kz.c0 (by simp), h.kz.c1 (by simp), h.kz.c0 (by simp), h.kz.c1 (by simp), h.kz.c0 (by simp), h.kz.c1 (by simp), h.kz.lt (x := x) (by simp), h.kz.lt (x := y) (by simp), h.kz.lt (x := p) (by simp), h.kz.lt (x := q) (by simp), h⟩
theorem KN.cells5 {g k m : Nat} {x y b z p q : ItV} (h : KN w [(g, x), (g + 1, y), (k, b), (k + 1, z), (m, p), (m + 1, q)] v bs W) :
    W.cell? ⟨g, 0, none⟩ = some (.string ⟨x.nm.toArray⟩) ∧ W.cell? ⟨g, 1, none⟩ = some (.slice x.A x.ms.length x.c) ∧ W.cell? ⟨k + 1, 0, none⟩ = some (.string ⟨z.nm.toArray⟩) ∧ W.cell? ⟨k + 1, 1, none⟩ = some (.slice z.A z.ms.length z.c) ∧ g < W.heap.size ∧ k + 1 < W.heap.size :=
  ⟨h.kz.c0 (by simp), h.kz.c1 (by simp), h.kz.c0 (by simp), h.kz.c1 (by simp), h.kz.lt (x := x) (by simp), h.kz.lt (x := z) (by simp)⟩
end

set_option maxRecDepth 100000 in
set_option maxHeartbeats 8000000 in
theorem known9 (w : World) : Calls Tryz.prog 10 #[] w (TrueB w) := by
  have K0 := Lib.hid (show KZ w [] w from ⟨fun p hp => (by cases hp), Below.refl _ _⟩)
  go_enter Tryz.func10, Tryz.ntmps10
  go_wp2_with fail
  refine (mark_l 1 1 5 3 w (by decide)).mono ?_
  rintro e w1 ⟨rfl, hb⟩
  have K1 := Lib.hid (K0.out.next hb)
  clear hb K0
  go_wp2_with fail
  have K2 := Lib.hid (K1.out.alloc (.cells #[.int .i64 1, .int .i64 1, .int .i64 5, .int .u64 3] 62))
  have HL := Lib.hid (lit1 w1 w1.heap.size 1 1 5 3 3 rfl rfl)
  obtain ⟨g2, hg⟩ : ∃ g, w1.heap.size = g := ⟨_, rfl⟩
  rw [hg] at HL ⊢
  clear K1 hg
  generalize World.alloc w1 _ = w2 at K2 HL ⊢
  refine (item_l ⟨#[84, 101, 97]⟩ nTea (some ⟨g2, 0, none⟩) 1 [⟨1, 1, 5, 3⟩] w2 HL.out rfl rfl (by decide)).mono ?_
  rintro e w3 ⟨X, rfl, hX, oX, hb⟩
  have K3 := Lib.hid (K2.out.next hb)
  have HX := Lib.hid hX
  clear hX K2
  have OX := Lib.hid oX
  clear oX HL hb
  go_wp2_with fail
  refine (mark_l 2 1 7 4 w3 (by decide)).mono ?_
  rintro e w4 ⟨rfl, hb⟩
  have K4 := Lib.hid (K3.out.next hb)
  have OX' := Lib.hid (OX.out.below hb)
  clear OX
  have OX := OX'
  clear OX'
  clear hb K3
  go_wp2_with fail
  refine (mark_l 1 2 2 9 w4 (by decide)).mono ?_
  rintro e w5 ⟨rfl, hb⟩
  have K5 := Lib.hid (K4.out.next hb)
  have OX' := Lib.hid (OX.out.below hb)
  clear OX
  have OX := OX'
  clear OX'
  clear hb K4
  go_wp2_with fail
  have OX1 := Lib.hid (OX.out.below ((Below.refl w5.heap.size w5).alloc (Nat.le_refl _) (.cells #[.int .i64 2, .int .i64 1, .int .i64 7, .int .u64 4, .int .i64 1, .int .i64 2, .int .i64 2, .int .u64 9] 62)))
  have K6 := Lib.hid (K5.out.alloc (.cells #[.int .i64 2, .int .i64 1, .int .i64 7, .int .u64 4, .int .i64 1, .int .i64 2, .int .i64 2, .int .u64 9] 62))
  have HL := Lib.hid (lit2 w5 w5.heap.size 2 1 7 4 1 2 2 9 4 9 rfl rfl rfl)
  obtain ⟨g6, hg⟩ : ∃ g, w5.heap.size = g := ⟨_, rfl⟩
  rw [hg] at HL ⊢
  clear K5 hg
  generalize World.alloc w5 _ = w6 at K6 HL OX1 ⊢
  refine (item_l ⟨#[78, 117, 116]⟩ nNut (some ⟨g6, 0, none⟩) 2 [⟨2, 1, 7, 4⟩, ⟨1, 2, 2, 9⟩] w6 HL.out rfl rfl (by decide)).mono ?_
  rintro e w7 ⟨Y, rfl, hY, oY, hb⟩
  have K7 := Lib.hid (K6.out.next hb)
  have HY := Lib.hid hY
  clear hY K6
  have OX2 := Lib.hid (OX1.out.below hb)
  clear OX OX1 HL hb
  have K8 := Lib.hid (show KZ w [(w7.heap.size, X), (w7.heap.size + 1, Y)] ((w7.alloc (.cells #[.string ⟨X.nm.toArray⟩, .slice X.A X.ms.length X.c] 34)).alloc (.cells #[.string ⟨Y.nm.toArray⟩, .slice Y.A Y.ms.length Y.c] 34)) from
    KZ.push (L := [(w7.heap.size, X)]) (KZ.push (L := []) K7.out X OX2.out w7.heap.size rfl) Y (oY.below ((Below.refl _ _).alloc (Nat.le_refl _) _)) (w7.heap.size + 1) (by simp))
  clear oY K7 OX2
  go_upto_region 2 with fail
  obtain ⟨g, hg⟩ : ∃ g, w7.heap.size = g := ⟨_, rfl⟩
  rw [hg] at K8 ⊢
  clear hg
  generalize World.alloc (World.alloc w7 _) _ = w8 at K8 ⊢
  obtain ⟨x0, x1, y0, y1, xl, yl, _⟩ := K8.out.sp2
  go_wp2_with fail
  have K9 := Lib.hid (K8.out.alloc (.cells #[.string ⟨Y.nm.toArray⟩, .slice Y.A Y.ms.length Y.c, .string ⟨X.nm.toArray⟩, .slice X.A X.ms.length X.c] 34))
  have HH := Lib.hid (holdsB w8 w8.heap.size Y X rfl (K8.out.ok (g := g + 1) (by simp)) (K8.out.ok (g := g) (by simp)))
  obtain ⟨gb, hgb⟩ : ∃ g, w8.heap.size = g := ⟨_, rfl⟩
  rw [hgb] at HH ⊢
  clear x0 x1 y0 y1 xl yl K8 hgb
  generalize World.alloc w8 _ = w9 at K9 HH ⊢
  refine (lawOf9 _ _).mono ?_
  rintro e wq ⟨rfl, rfl⟩
  go_wp2_with fail
  refine (item_l ⟨#[84, 101, 97]⟩ nTea none 0 [] w9 SlAt.nil rfl rfl (by decide)).mono ?_
  rintro e w10 ⟨B, rfl, hB, oB, hb⟩
  have HHB := Lib.hid hB
  have HB2 := Lib.hid (HH.out.below hb)
  have KZ1 := Lib.hid (K9.out.next hb)
  clear HH K9 hb hB
  have HBN := Lib.hid (show its [Y, X] = [iY, iX] from by simp [HX.out, HY.out])
  have K11 := Lib.hid (show KN w [(g, X), (g + 1, Y), (w10.heap.size, B), (w10.heap.size + 1, ItV.zero)] (.slice (some ⟨gb, 0, none⟩) 2 2) [Y, X] ((w10.alloc (.cells #[.string ⟨B.nm.toArray⟩, .slice B.A B.ms.length B.c] 34)).alloc (.cells #[.string ⟨#[]⟩, .slice none 0 0] 34)) from
    ⟨KZ.push (L := [(g, X), (g + 1, Y), (w10.heap.size, B)]) (KZ.push (L := [(g, X), (g + 1, Y)]) KZ1.out B oB w10.heap.size rfl) ItV.zero ⟨SlAt.nil, by simp [ItV.zero], by simp [ItV.zero, maxLen]⟩ (w10.heap.size + 1) (by simp), HB2.out.below (((Below.refl _ _).alloc (Nat.le_refl _) _).alloc (by simp) _)⟩)
  clear oB KZ1 HB2
  go_upto_region 3 with fail
  obtain ⟨k, hk⟩ : ∃ g, w10.heap.size = g := ⟨_, rfl⟩
  rw [hk] at K11 ⊢
  clear hk
  generalize World.alloc (World.alloc w10 _) _ = w11 at K11 ⊢
  obtain ⟨x0, x1, y0, y1, b0, b1, z0, z1, xl, yl, bl, zl⟩ := K11.out.cells4
  go_wp2_with fail
  refine (valid_l _ [Y, X] [iY, iX] true w11 K11.out.both HBN.out (by decide) fk1).mono ?_
  rintro e w12 ⟨rfl, hb⟩
  have K12 := Lib.hid (K11.out.next hb)
  clear x0 x1 y0 y1 b0 b1 z0 z1 xl yl bl zl
  clear hb K11
  obtain ⟨x0, x1, y0, y1, b0, b1, z0, z1, xl, yl, bl, zl⟩ := K12.out.cells4
  go_wp2_with fail
  have K13 := Lib.hid (K12.out.alloc (.cells #[.string ⟨X.nm.toArray⟩, .slice X.A X.ms.length X.c, .string ⟨Y.nm.toArray⟩, .slice Y.A Y.ms.length Y.c] 34))
  have HL := Lib.hid (holdsB w12 w12.heap.size X Y rfl (K12.out.kz.ok (g := g) (by simp)) (K12.out.kz.ok (g := g + 1) (by simp)))
  obtain ⟨g13, hg⟩ : ∃ g, w12.heap.size = g := ⟨_, rfl⟩
  rw [hg] at HL ⊢
  clear x0 x1 y0 y1 b0 b1 z0 z1 xl yl bl zl
  clear K12 hg
  generalize World.alloc w12 _ = w13 at K13 HL ⊢
  obtain ⟨x0, x1, y0, y1, b0, b1, z0, z1, xl, yl, bl, zl⟩ := K13.out.cells4
  refine (lawOf9 _ _).mono ?_
  rintro e wq ⟨rfl, rfl⟩
  go_wp2_with fail
  refine (valid_l _ [X, Y] [iX, iY] false w13 HL.out (by simp [HX.out, HY.out]) (by decide) fk2).mono ?_
  rintro e w14 ⟨rfl, hb⟩
  have K14 := Lib.hid (K13.out.next hb)
  clear x0 x1 y0 y1 b0 b1 z0 z1 xl yl bl zl
  clear hb K13
  obtain ⟨x0, x1, y0, y1, b0, b1, z0, z1, xl, yl, bl, zl⟩ := K14.out.cells4
  go_wp2_with fail
  clear HL
  have K15 := Lib.hid (K14.out.alloc (.cells #[.string ⟨X.nm.toArray⟩, .slice X.A X.ms.length X.c, .string ⟨X.nm.toArray⟩, .slice X.A X.ms.length X.c] 34))
  have HL := Lib.hid (holdsB w14 w14.heap.size X X rfl (K14.out.kz.ok (g := g) (by simp)) (K14.out.kz.ok (g := g) (by simp)))
  obtain ⟨g15, hg⟩ : ∃ g, w14.heap.size = g := ⟨_, rfl⟩
  rw [hg] at HL ⊢
  clear x0 x1 y0 y1 b0 b1 z0 z1 xl yl bl zl
  clear K14 hg
  generalize World.alloc w14 _ = w15 at K15 HL ⊢
  obtain ⟨x0, x1, y0, y1, b0, b1, z0, z1, xl, yl, bl, zl⟩ := K15.out.cells4
  refine (lawOf9 _ _).mono ?_
  rintro e wq ⟨rfl, rfl⟩
  go_wp2_with fail
  refine (valid_l _ [X, X] [iX, iX] false w15 HL.out (by simp [HX.out]) (by decide) fk3).mono ?_
  rintro e w16 ⟨rfl, hb⟩
  have K16 := Lib.hid (K15.out.next hb)
  clear x0 x1 y0 y1 b0 b1 z0 z1 xl yl bl zl
  clear hb K15
  obtain ⟨x0, x1, y0, y1, b0, b1, z0, z1, xl, yl, bl, zl⟩ := K16.out.cells4
  go_wp2_with fail
  clear HL
  have K17 := Lib.hid (K16.out.alloc (.cells #[.string ⟨B.nm.toArray⟩, .slice B.A B.ms.length B.c] 34))
  have HL := Lib.hid (holdsA w16 w16.heap.size B rfl (K16.out.kz.ok (g := k) (by simp)))
  obtain ⟨g17, hg⟩ : ∃ g, w16.heap.size = g := ⟨_, rfl⟩
  rw [hg] at HL ⊢
  clear x0 x1 y0 y1 b0 b1 z0 z1 xl yl bl zl
  clear K16 hg
  generalize World.alloc w16 _ = w17 at K17 HL ⊢
  obtain ⟨x0, x1, y0, y1, b0, b1, z0, z1, xl, yl, bl, zl⟩ := K17.out.cells4
  refine (lawOf9 _ _).mono ?_
  rintro e wq ⟨rfl, rfl⟩
  go_wp2_with fail
  refine (valid_l _ [B] [iB] false w17 HL.out (by simp [HHB.out]) (by decide) fk4).mono ?_
  rintro e w18 ⟨rfl, hb⟩
  have K18 := Lib.hid (K17.out.next hb)
  clear x0 x1 y0 y1 b0 b1 z0 z1 xl yl bl zl
  clear hb K17
  obtain ⟨x0, x1, y0, y1, b0, b1, z0, z1, xl, yl, bl, zl⟩ := K18.out.cells4
  go_wp2_with fail
  clear HL
  refine (has_l X iX 5 0 0 w18 (K18.out.kz.ok (g := g) (by simp)) HX.out rfl (by decide) fk5).mono ?_
  rintro e w19 ⟨rfl, hb⟩
  have K19 := Lib.hid (K18.out.next hb)
  clear x0 x1 y0 y1 b0 b1 z0 z1 xl yl bl zl
  clear hb K18
  obtain ⟨x0, x1, y0, y1, b0, b1, z0, z1, xl, yl, bl, zl⟩ := K19.out.cells4
  go_wp2_with fail
  refine (has_l Y iY 2 0 0 w19 (K19.out.kz.ok (g := g + 1) (by simp)) HY.out rfl (by decide) fk6).mono ?_
  rintro e w20 ⟨rfl, hb⟩
  have K20 := Lib.hid (K19.out.next hb)
  clear x0 x1 y0 y1 b0 b1 z0 z1 xl yl bl zl
  clear hb K19
  obtain ⟨x0, x1, y0, y1, b0, b1, z0, z1, xl, yl, bl, zl⟩ := K20.out.cells4
  go_wp2_with fail
  refine (has_l B iB 0 2 2 w20 (K20.out.kz.ok (g := k) (by simp)) HHB.out rfl (by decide) fk7).mono ?_
  rintro e w21 ⟨rfl, hb⟩
  have K21 := Lib.hid (K20.out.next hb)
  clear x0 x1 y0 y1 b0 b1 z0 z1 xl yl bl zl
  clear hb K20
  obtain ⟨x0, x1, y0, y1, b0, b1, z0, z1, xl, yl, bl, zl⟩ := K21.out.cells4
  go_wp2_with fail
  clear x0 x1 y0 y1 b0 b1 z0 z1 xl yl bl zl
  refine (mark_l 3 1 1 1 w21 (by decide)).mono ?_
  rintro e w22 ⟨rfl, hb⟩
  have K22 := Lib.hid (K21.out.next hb)
  clear hb K21
  go_wp2_with fail
  have K23 := Lib.hid (K22.out.alloc (.cells #[.int .i64 3, .int .i64 1, .int .i64 1, .int .u64 1] 62))
  have HL := Lib.hid (lit1 w22 w22.heap.size 3 1 1 1 1 rfl rfl)
  obtain ⟨g23, hg⟩ : ∃ g, w22.heap.size = g := ⟨_, rfl⟩
  rw [hg] at HL ⊢
  clear K22 hg
  generalize World.alloc w22 _ = w23 at K23 HL ⊢
  refine (item_l ⟨#[84, 101, 97]⟩ nTea (some ⟨g23, 0, none⟩) 1 [⟨3, 1, 1, 1⟩] w23 HL.out rfl rfl (by decide)).mono ?_
  rintro e w24 ⟨Z, rfl, hZ, oZ, hb⟩
  have K24 := Lib.hid (K23.out.next hb)
  have HZ := Lib.hid hZ
  clear hZ K23
  have OZ := Lib.hid oZ
  clear oZ HL hb
  go_wp2_with fail
  refine (mark_l 1 1 9 9 w24 (by decide)).mono ?_
  rintro e w25 ⟨rfl, hb⟩
  have K25 := Lib.hid (K24.out.next hb)
  have OZ' := Lib.hid (OZ.out.below hb)
  clear OZ
  have OZ := OZ'
  clear OZ'
  clear hb K24
  go_wp2_with fail
  have OZ1 := Lib.hid (OZ.out.below ((Below.refl w25.heap.size w25).alloc (Nat.le_refl _) (.cells #[.int .i64 1, .int .i64 1, .int .i64 9, .int .u64 9] 62)))
  have K26 := Lib.hid (K25.out.alloc (.cells #[.int .i64 1, .int .i64 1, .int .i64 9, .int .u64 9] 62))
  have HL := Lib.hid (lit1 w25 w25.heap.size 1 1 9 9 9 rfl rfl)
  obtain ⟨g26, hg⟩ : ∃ g, w25.heap.size = g := ⟨_, rfl⟩
  rw [hg] at HL ⊢
  clear K25 hg
  generalize World.alloc w25 _ = w26 at K26 HL OZ1 ⊢
  refine (item_l ⟨#[84, 101, 97]⟩ nTea (some ⟨g26, 0, none⟩) 1 [⟨1, 1, 9, 9⟩] w26 HL.out rfl rfl (by decide)).mono ?_
  rintro e w27 ⟨T, rfl, hT, oT, hb⟩
  have K27 := Lib.hid (K26.out.next hb)
  have HT := Lib.hid hT
  clear hT K26
  have OZ2 := Lib.hid (OZ1.out.below hb)
  clear OZ OZ1 HL hb
  have K28 := Lib.hid (show KN w [(g, X), (g + 1, Y), (k, B), (k + 1, ItV.zero), (w27.heap.size, Z), (w27.heap.size + 1, T)] (.slice (some ⟨gb, 0, none⟩) 2 2) [Y, X] ((w27.alloc (.cells #[.string ⟨Z.nm.toArray⟩, .slice Z.A Z.ms.length Z.c] 34)).alloc (.cells #[.string ⟨T.nm.toArray⟩, .slice T.A T.ms.length T.c] 34)) from
    ⟨KZ.push (L := [(g, X), (g + 1, Y), (k, B), (k + 1, ItV.zero), (w27.heap.size, Z)]) (KZ.push (L := [(g, X), (g + 1, Y), (k, B), (k + 1, ItV.zero)]) K27.out.kz Z OZ2.out w27.heap.size rfl) T (oT.below ((Below.refl _ _).alloc (Nat.le_refl _) _)) (w27.heap.size + 1) (by simp), K27.out.both.below (((Below.refl _ _).alloc (Nat.le_refl _) _).alloc (by simp) _)⟩)
  clear oT K27 OZ2
  go_upto_region 6 with fail
  obtain ⟨m, hm⟩ : ∃ g, w27.heap.size = g := ⟨_, rfl⟩
  rw [hm] at K28 ⊢
  clear hm
  generalize World.alloc (World.alloc w27 _) _ = w28 at K28 ⊢
  have P1 := Lib.hid fun W v u h k ho => puts_l v u [X] [Y, X] Y [iX] [iY, iX] iY 0 0 W h k ho (by simp [HX.out]) HBN.out HY.out rfl (by decide) (by decide) fk8
  have P2 := Lib.hid fun W v u h k ho => puts_l v u [Y, X] [Y, Z] Z [iY, iX] [iY, iZ] iZ 0 0 W h k ho HBN.out (by simp [HY.out, HZ.out]) HZ.out rfl (by decide) (by decide) fk9
  have P3 := Lib.hid fun W v (O : ItV) (hO : O.it = iO) h k ho => puts_l v (.slice none 0 0) [X] [] O [iX] [] iO 11 11 W h k ho (by simp [HX.out]) rfl hO rfl (by decide) (by decide) fk10
  have P4 := Lib.hid fun W v u h k ho => puts_l v u [X] [T] T [iX] [iT] iT 0 0 W h k ho (by simp [HX.out]) (by simp [HT.out]) HT.out rfl (by decide) (by decide) fk11
  go_cut [102] (fun s wx => s = .bool false ∧ Hid (KN w [(g, X), (g + 1, Y), (k, B), (k + 1, ItV.zero), (m, Z), (m + 1, T)] (.slice (some ⟨gb, 0, none⟩) 2 2) [Y, X] wx))
  case first =>
    have hS := K28.out
    have hS' := KN.cells6 hS
    clear K28
    go_wp2_with fail
    go_region_held3 (fun W => W.cell? ⟨g, 0, none⟩ = some (.string ⟨X.nm.toArray⟩) ∧ W.cell? ⟨g, 1, none⟩ = some (.slice X.A X.ms.length X.c) ∧ W.cell? ⟨g + 1, 0, none⟩ = some (.string ⟨Y.nm.toArray⟩) ∧ W.cell? ⟨g + 1, 1, none⟩ = some (.slice Y.A Y.ms.length Y.c) ∧ W.cell? ⟨m, 0, none⟩ = some (.string ⟨Z.nm.toArray⟩) ∧ W.cell? ⟨m, 1, none⟩ = some (.slice Z.A Z.ms.length Z.c) ∧ W.cell? ⟨m + 1, 0, none⟩ = some (.string ⟨T.nm.toArray⟩) ∧ W.cell? ⟨m + 1, 1, none⟩ = some (.slice T.A T.ms.length T.c) ∧ g < W.heap.size ∧ g + 1 < W.heap.size ∧ m < W.heap.size ∧ m + 1 < W.heap.size ∧ KN w [(g, X), (g + 1, Y), (k, B), (k + 1, ItV.zero), (m, Z), (m + 1, T)] (.slice (some ⟨gb, 0, none⟩) 2 2) [Y, X] W)
      (first
        | assumption
        | (exact KN.cells6 (by assumption))
        | (exact KN.cells6 (KN.drew (by assumption)))
        | (exact KN.cells6 (KN.alloc (by assumption) _))
        | (exact KN.cells6 (KN.drew (KN.alloc (by assumption) _)))
        | (exact KN.cells6 (KN.alloc (KN.alloc (by assumption) _) _))
        | (exact KN.cells6 (KN.drew (KN.alloc (KN.alloc (by assumption) _) _))))
      (first
        | (go_at_call 27; refine (lawOf9 _ _).mono ?_
           rintro e wa ⟨rfl, rfl⟩)
        | (go_at_call 38; refine (mark_l 1 1 1 1 _ (by decide)).mono ?_
           rintro e wa ⟨rfl, hb1⟩
           have hM := KN.next (by first | assumption | exact KN.drew (by assumption) | exact KN.alloc (by assumption) _ | exact KN.drew (KN.alloc (by assumption) _) | exact KN.alloc (KN.alloc (by assumption) _) _ | exact KN.drew (KN.alloc (KN.alloc (by assumption) _) _)) hb1
           have hvX := HoldsX.below (holdsA _ _ X rfl (hP2.kz.ok (g := g) (by simp))) hb1)
        | (go_at_call 37; refine (item_l ⟨#[79, 105, 108]⟩ nOil _ 1 [⟨1, 1, 1, 1⟩] _ (lit1 _ _ 1 1 1 1 1 (by simp) rfl) rfl rfl (by decide)).mono ?_
           rintro e wb ⟨O, rfl, hO, oO, hb2⟩
           have hI := KN.next (by first | assumption | exact KN.drew (by assumption) | exact KN.alloc (by assumption) _ | exact KN.drew (KN.alloc (by assumption) _) | exact KN.alloc (KN.alloc (by assumption) _) _ | exact KN.drew (KN.alloc (KN.alloc (by assumption) _) _)) hb2
           have hvX2 := HoldsX.below (hvX.below ((Below.refl _ _).alloc (Nat.le_refl _) _)) hb2
           have HOO := Lib.hid hO
           clear hO)
        | (go_at_call 28
           first
             | (with_reducible refine (P1.out _ _ _ ?_ ?_ ?_).mono ?_
                · first
                    | exact (holdsA _ _ X (by simp) (hS.kz.ok (g := g) (by simp))).drew
                    | exact holdsA _ _ X (by simp) (hS.kz.ok (g := g) (by simp))
                · exact KN.both (by first | assumption | exact KN.drew (by assumption) | exact KN.alloc (by assumption) _ | exact KN.drew (KN.alloc (by assumption) _) | exact KN.alloc (KN.alloc (by assumption) _) _ | exact KN.drew (KN.alloc (KN.alloc (by assumption) _) _))
                · exact KZ.ok (g := g + 1) (KN.kz (by first | assumption | exact KN.drew (by assumption) | exact KN.alloc (by assumption) _ | exact KN.drew (KN.alloc (by assumption) _) | exact KN.alloc (KN.alloc (by assumption) _) _ | exact KN.drew (KN.alloc (KN.alloc (by assumption) _) _))) (by simp)
                rintro e wp1 ⟨rfl, hbp⟩
                have hP1 := KN.next (by first | assumption | exact KN.drew (by assumption) | exact KN.alloc (by assumption) _ | exact KN.drew (KN.alloc (by assumption) _) | exact KN.alloc (KN.alloc (by assumption) _) _ | exact KN.drew (KN.alloc (KN.alloc (by assumption) _) _)) hbp)
             | (with_reducible refine (P2.out _ _ _ ?_ ?_ ?_).mono ?_
                · exact KN.both (by first | assumption | exact KN.drew (by assumption) | exact KN.alloc (by assumption) _ | exact KN.drew (KN.alloc (by assumption) _) | exact KN.alloc (KN.alloc (by assumption) _) _ | exact KN.drew (KN.alloc (KN.alloc (by assumption) _) _))
                · exact holdsB _ _ Y Z (by simp) (hP1.kz.ok (g := g + 1) (by simp)) (hP1.kz.ok (g := m) (by simp))
                · exact KZ.ok (g := m) (KN.kz (by first | assumption | exact KN.drew (by assumption) | exact KN.alloc (by assumption) _ | exact KN.drew (KN.alloc (by assumption) _) | exact KN.alloc (KN.alloc (by assumption) _) _ | exact KN.drew (KN.alloc (KN.alloc (by assumption) _) _))) (by simp)
                rintro e wp2 ⟨rfl, hbp⟩
                have hP2 := KN.next (by first | assumption | exact KN.drew (by assumption) | exact KN.alloc (by assumption) _ | exact KN.drew (KN.alloc (by assumption) _) | exact KN.alloc (KN.alloc (by assumption) _) _ | exact KN.drew (KN.alloc (KN.alloc (by assumption) _) _)) hbp)
             | (with_reducible refine (P3.out _ _ O HOO.out ?_ ?_ ?_).mono ?_
                · exact hvX2
                · exact HoldsX.nil _
                · exact oO
                rintro e wp3 ⟨rfl, hbp⟩
                have hP3 := KN.next (by first | assumption | exact KN.drew (by assumption) | exact KN.alloc (by assumption) _ | exact KN.drew (KN.alloc (by assumption) _) | exact KN.alloc (KN.alloc (by assumption) _) _ | exact KN.drew (KN.alloc (KN.alloc (by assumption) _) _)) hbp)
             | (with_reducible refine (P4.out _ _ _ ?_ ?_ ?_).mono ?_
                · first
                    | exact (holdsA _ _ X (by simp) (hP3.kz.ok (g := g) (by simp))).below ((Below.refl _ _).alloc (Nat.le_refl _) _)
                    | exact holdsA _ _ X (by simp) ((KN.alloc hP3 _).kz.ok (g := g) (by simp))
                · first
                    | exact holdsA _ _ T (by simp) ((KN.alloc hP3 _).kz.ok (g := m + 1) (by simp))
                    | exact (holdsA _ _ T (by simp) (hP3.kz.ok (g := m + 1) (by simp))).below ((Below.refl _ _).alloc (Nat.le_refl _) _)
                · exact KZ.ok (g := m + 1) (KN.kz (by first | assumption | exact KN.drew (by assumption) | exact KN.alloc (by assumption) _ | exact KN.drew (KN.alloc (by assumption) _) | exact KN.alloc (KN.alloc (by assumption) _) _ | exact KN.drew (KN.alloc (KN.alloc (by assumption) _) _))) (by simp)
                rintro e wp4 ⟨rfl, hbp⟩
                have hP4 := KN.next (by first | assumption | exact KN.drew (by assumption) | exact KN.alloc (by assumption) _ | exact KN.drew (KN.alloc (by assumption) _) | exact KN.alloc (KN.alloc (by assumption) _) _ | exact KN.drew (KN.alloc (KN.alloc (by assumption) _) _)) hbp)))
    all_goals
      have K29 := Lib.hid hP4
      clear hS hS' hP1 hP2 hP3 hP4 hM hI hvX hvX2 hbp hb1 hb2 oO
      go_wp2_with fail
      go_meet
      exact ⟨rfl, K29⟩
  case rest =>
    obtain ⟨rfl, K29⟩ := hcut
    clear K28 P1 P2 P3 P4
    generalize wc = w29 at K29 ⊢
    obtain ⟨x0, x1, z0, z1, xl, zl⟩ := K29.out.cells5
    go_wp2_with fail
    refine (finds_l ⟨#[84, 101, 97]⟩ _ [Y, X] nTea X [iY, iX] iX 0 0 w29 K29.out.both (K29.out.kz.ok (g := g) (by simp)) rfl HBN.out HX.out rfl (by decide) fk12).mono ?_
    rintro e w30 ⟨rfl, hb⟩
    have K30 := Lib.hid (K29.out.next hb)
    clear x0 x1 z0 z1 xl zl
    clear hb K29
    obtain ⟨x0, x1, z0, z1, xl, zl⟩ := K30.out.cells5
    go_wp2_with fail
    refine (finds_l ⟨#[79, 105, 108]⟩ _ [Y, X] nOil ItV.zero [iY, iX] iN 9 9 w30 K30.out.both (K30.out.kz.ok (g := k + 1) (by simp)) rfl HBN.out rfl rfl (by decide) fk13).mono ?_
    rintro e w31 ⟨rfl, hb⟩
    have K31 := Lib.hid (K30.out.next hb)
    clear x0 x1 z0 z1 xl zl
    clear hb K30
    obtain ⟨x0, x1, z0, z1, xl, zl⟩ := K31.out.cells5
    go_wp2_with fail
    have K32 := Lib.hid (K31.out.alloc (.cells #[.string ⟨X.nm.toArray⟩, .slice X.A X.ms.length X.c] 34))
    have HL := Lib.hid (holdsA w31 w31.heap.size X rfl (K31.out.kz.ok (g := g) (by simp)))
    obtain ⟨g32, hg⟩ : ∃ g, w31.heap.size = g := ⟨_, rfl⟩
    rw [hg] at HL ⊢
    clear x0 x1 z0 z1 xl zl
    clear K31 hg
    generalize World.alloc w31 _ = w32 at K32 HL ⊢
    obtain ⟨x0, x1, z0, z1, xl, zl⟩ := K32.out.cells5
    refine (lawOf9 _ _).mono ?_
    rintro e wq ⟨rfl, rfl⟩
    go_wp2_with fail
    refine (removes_l ⟨#[78, 117, 116]⟩ _ _ [Y, X] [X] nNut [iY, iX] [iX] 0 0 w32 K32.out.both HL.out rfl HBN.out (by simp [HX.out]) rfl (by decide) (by decide) fk14).mono ?_
    rintro e w33 ⟨rfl, hb⟩
    have K33 := Lib.hid (K32.out.next hb)
    clear x0 x1 z0 z1 xl zl
    clear hb K32
    obtain ⟨x0, x1, z0, z1, xl, zl⟩ := K33.out.cells5
    go_wp2_with fail
    clear HL
    refine (removes_l ⟨#[79, 105, 108]⟩ _ _ [Y, X] [] nOil [iY, iX] [] 9 9 w33 K33.out.both (HoldsX.nil _) rfl HBN.out rfl rfl (by decide) (by decide) fk15).mono ?_
    rintro e w34 ⟨rfl, hb⟩
    have K34 := Lib.hid (K33.out.next hb)
    clear x0 x1 z0 z1 xl zl
    clear hb K33
    obtain ⟨x0, x1, z0, z1, xl, zl⟩ := K34.out.cells5
    go_wp2_with fail
    refine (itDots_h _ [Y, X] w34 K34.out.both (fits_its HBN.out (by decide))).mono ?_
    rintro e w35 ⟨⟨vd, rfl, hvd⟩, hb⟩
    rw [HBN.out, fk16] at hvd
    have HD := Lib.hid hvd
    have K35 := Lib.hid (K34.out.next hb)
    clear x0 x1 z0 z1 xl zl
    clear hb K34 hvd
    obtain ⟨x0, x1, z0, z1, xl, zl⟩ := K35.out.cells5
    go_wp2_with fail
    have HD1 := Lib.hid (HD.out.below ((Below.refl w35.heap.size w35).alloc (Nat.le_refl _) (.cells #[.int .i64 1, .int .i64 1, .int .i64 2, .int .i64 1, .int .i64 1, .int .i64 2] 29)))
    clear HD
    have K36 := Lib.hid (K35.out.alloc (.cells #[.int .i64 1, .int .i64 1, .int .i64 2, .int .i64 1, .int .i64 1, .int .i64 2] 29))
    have HL := Lib.hid (dots3_l w35 w35.heap.size 1 1 2 1 1 2 rfl)
    obtain ⟨g36, hg⟩ : ∃ g, w35.heap.size = g := ⟨_, rfl⟩
    rw [hg] at HL ⊢
    clear x0 x1 z0 z1 xl zl
    clear K35 hg
    generalize World.alloc w35 _ = w36 at K36 HL HD1 ⊢
    obtain ⟨x0, x1, z0, z1, xl, zl⟩ := K36.out.cells5
    refine (refSame_h _ _ [(1, 1), (2, 1), (1, 2)] w36 HD1.out HL.out).mono ?_
    rintro e w37 ⟨rfl, hb⟩
    have K37 := Lib.hid (K36.out.next hb)
    clear x0 x1 z0 z1 xl zl
    clear hb K36
    obtain ⟨x0, x1, z0, z1, xl, zl⟩ := K37.out.cells5
    go_wp2_with fail
    clear HL HD1
    refine (owns_l ⟨#[78, 117, 116]⟩ _ [Y, X] 1 2 nNut [iY, iX] 0 0 w37 K37.out.both rfl HBN.out rfl (by decide) fk17).mono ?_
    rintro e w38 ⟨rfl, hb⟩
    have K38 := Lib.hid (K37.out.next hb)
    clear x0 x1 z0 z1 xl zl
    clear hb K37
    obtain ⟨x0, x1, z0, z1, xl, zl⟩ := K38.out.cells5
    go_wp2_with fail
    refine (owns_l ⟨#[]⟩ _ [Y, X] 1 3 [] [iY, iX] 9 9 w38 K38.out.both rfl HBN.out rfl (by decide) fk18).mono ?_
    rintro e w39 ⟨rfl, hb⟩
    have K39 := Lib.hid (K38.out.next hb)
    clear x0 x1 z0 z1 xl zl
    clear hb K38
    obtain ⟨x0, x1, z0, z1, xl, zl⟩ := K39.out.cells5
    go_wp2_with fail
    go_ret
    exact ⟨rfl, K39.out.kz.bel⟩

end Go.Proofs.YtfbkhgajlklleaaGreat
