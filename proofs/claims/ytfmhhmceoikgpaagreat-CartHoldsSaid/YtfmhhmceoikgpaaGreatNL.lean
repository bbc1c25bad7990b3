/- Several texts in one: CarW2. -/
import Derived.Test.YtfmhhmceoikgpaaGreatNK
namespace Go.Proofs.YtfmhhmceoikgpaaGreat

section
open Go.RowKit

/-- The contracts at literals. -/
theorem dots1_l (g : Nat) (r c : Int) (w : World) (hx : DotsAt w (some ⟨g, 0, none⟩) [(r, c)]) :
    Calls Tryz.prog 36 #[.slice (some ⟨g, 0, none⟩) 2 2] w fun e w' => (∃ A k, e = .returned (.slice A 1 k) ∧ Holds w' (.slice A 1 k) [(r, c)]) ∧ Below w.heap.size w w' :=
  (lawDots10 g 2 2 [(r, c)] w hx rfl (by simp)).mono fun e w' ⟨⟨A, k, h1, h2⟩, h3⟩ => ⟨⟨A, k, h1, holds_row h2⟩, h3⟩
theorem dots2_l (g : Nat) (r c r' c' : Int) (w : World) (hx : DotsAt w (some ⟨g, 0, none⟩) [(r, c), (r', c')]) :
    Calls Tryz.prog 36 #[.slice (some ⟨g, 0, none⟩) 4 4] w fun e w' => (∃ A k, e = .returned (.slice A 2 k) ∧ Holds w' (.slice A 2 k) [(r, c), (r', c')]) ∧ Below w.heap.size w w' :=
  (lawDots10 g 4 4 [(r, c), (r', c')] w hx rfl (by simp)).mono fun e w' ⟨⟨A, k, h1, h2⟩, h3⟩ => ⟨⟨A, k, h1, holds_row h2⟩, h3⟩
theorem ilit1 (X : World) (r c : Int) : DotsAt (X.alloc (.cells #[.int .i64 r, .int .i64 c] 3)) (some ⟨X.heap.size, 0, none⟩) [(r, c)] := SlAt.litAt encD_len X _ rfl 3 [(r, c)] (by simp [maxLen])
theorem ilit2 (X : World) (r c r' c' : Int) : DotsAt (X.alloc (.cells #[.int .i64 r, .int .i64 c, .int .i64 r', .int .i64 c'] 3)) (some ⟨X.heap.size, 0, none⟩) [(r, c), (r', c')] := SlAt.litAt encD_len X _ rfl 3 [(r, c), (r', c')] (by simp [maxLen])
theorem below_set3c {n g : Nat} {w W : World} (h : Below n w W) (hg : n ≤ g) (u v z : Value) : Below n w (((W.setCell ⟨g, 0, none⟩ u).setCell ⟨g, 1, none⟩ v).setCell ⟨g, 2, none⟩ z) :=
  Below.setCell (p := ⟨g, 2, none⟩) (Below.setCell (p := ⟨g, 1, none⟩) (Below.setCell (p := ⟨g, 0, none⟩) h hg _) hg _) hg _

/-- Items and carts in boxes, and nothing old has changed. -/
structure KWk (w : World) (L : List (Nat × ItV)) (M : List (Nat × CaV)) (W : World) : Prop where
  kz : KZ w L W
  kk : KK w M W
section
variable {w W W' : World} {L : List (Nat × ItV)} {M : List (Nat × CaV)}
theorem KWk.next (h : KWk w L M W) (hb : Below W.heap.size W W') : KWk w L M W' := ⟨h.kz.next hb, h.kk.next hb⟩
theorem KWk.add (h : KWk w L M W) {g : Nat} {c : CaV} (hb : BlkC W g c) (ho : CaOK W c) : KWk w L (M ++ [(g, c)]) W := ⟨h.kz, fun p hp => by
  rcases List.mem_append.1 hp with k | k
  · exact h.kk.box p k
  · obtain rfl : p = (g, c) := by simpa using k
    exact ⟨hb, ho⟩, h.kk.bel⟩
theorem KWk.it (h : KWk w L M W) {g : Nat} {x : ItV} (hm : (g, x) ∈ L) : W.cell? ⟨g, 0, none⟩ = some (.string ⟨x.nm.toArray⟩) ∧ W.cell? ⟨g, 1, none⟩ = some (.slice x.A x.ms.length x.c) := ⟨h.kz.c0 hm, h.kz.c1 hm⟩
theorem KWk.ca (h : KWk w L M W) {g : Nat} {c : CaV} (hm : (g, c) ∈ M) : W.cell? ⟨g, 0, none⟩ = some c.v ∧ W.cell? ⟨g, 1, none⟩ = some c.l ∧ W.cell? ⟨g, 2, none⟩ = some c.i := ⟨(h.kk.blk hm).cell0, (h.kk.blk hm).cell1, (h.kk.blk hm).cell2⟩
theorem KWk.ok (h : KWk w L M W) {g : Nat} {c : CaV} (hm : (g, c) ∈ M) : CaOK W c := h.kk.ok hm
end

theorem KWk.push {w W : World} {L : List (Nat × ItV)} {M : List (Nat × CaV)} (h : KWk w L M W) (c : CaV) (ho : CaOK W c) (n : Nat) (hn : W.heap.size = n) : KWk w L (M ++ [(n, c)]) (W.alloc (.cells #[c.v, c.l, c.i] 28)) := ⟨h.kz.alloc _, KK.push h.kk c ho n hn⟩
theorem its_of {c : CaV} {k : Ca} (h : c.ca = k) : its c.xs = k.2 := congrArg (fun a : Ca => a.2) h
theorem valid_l (c : CaV) (k : Ca) (b : Bool) (w : World) (h : CaOK w c) (hc : c.ca = k) (hs : smallK k) (hv : validK k = b) : Calls Tryz.prog 10 #[mkC c] w (OneB (.bool b) w) := by
  subst hc; exact caValid c b w h hs.k hv
theorem validX1 (A : Option Addr) (k : Nat) (X : CaV) (w : World) (h : Holds w (.slice A 1 k) [(1, 1)]) (hX : CaOK w X) (hc : X.ca = cX) : Calls Tryz.prog 10 #[.agg #[.slice A 1 k, .slice none 0 0, X.i]] w (OneB (.bool false) w) :=
  valid_l ⟨A, k, [(1, 1)], none, 0, [], X.I, X.ni, X.xs⟩ cX1 false w ⟨h, Holds.nil w, hX.2.2⟩ (by show (([(1, 1)], []), its X.xs) = cX1; rw [its_of hc]) q5 p4
theorem validX2 (A B : Option Addr) (k m : Nat) (X : CaV) (w : World) (h : Holds w (.slice A 1 k) [(1, 1)]) (h' : Holds w (.slice B 1 m) [(2, 1)]) (hX : CaOK w X) (hc : X.ca = cX) : Calls Tryz.prog 10 #[.agg #[.slice A 1 k, .slice B 1 m, X.i]] w (OneB (.bool false) w) :=
  valid_l ⟨A, k, [(1, 1)], B, m, [(2, 1)], X.I, X.ni, X.xs⟩ cX2 false w ⟨h, h', hX.2.2⟩ (by show (([(1, 1)], [(2, 1)]), its X.xs) = cX2; rw [its_of hc]) q6 p5
theorem canon_l (Y Z : CaV) (w : World) (hy : CaOK w Y) (hz : CaOK w Z) (ey : Y.ca = cY) (ez : Z.ca = cZ) : Calls Tryz.prog 17 #[mkC Y, mkC Z, .int .i64 0] w (TrueB w) :=
  lawCanon10 Y Z 0 w hy hz (by rw [ey]; exact q2) (by have h : smallK Z.ca := by rw [ez]; exact q3
                                                      have := h.items.1; omega) (.inl ⟨by rw [ey, ez]; exact p6, rfl⟩)
theorem has10_l (S : ByteArray) (nm : List UInt8) (c : CaV) (k : Ca) (q e : Int) (n : Nat) (w : World) (h : CaOK w c) (hc : c.ca = k) (hs : smallK k) (hS : S = ⟨nm.toArray⟩) (he : e = (n : Int)) (hv : qtyC k nm = (q, n)) :
    Calls Tryz.prog 20 #[mkC c, .string S, .int .i64 q, .int .i64 e] w (TrueB w) := by
  subst hc hS he; exact lawHas10 c nm q n w h hs hv
theorem names_l (c : CaV) (k : Ca) (ns : List (List UInt8)) (w : World) (h : CaOK w c) (hc : c.ca = k) (hs : smallK k) (hv : namesC k = ns) : Calls Tryz.prog 21 #[mkC c] w fun e w' => (∃ v, e = .returned v ∧ HoldsS w' v ns) ∧ Below w.heap.size w w' := by
  subst hc; exact caNames c ns w h hs.k hv
theorem units_l (c : CaV) (k : Ca) (u : Int) (w : World) (h : CaOK w c) (hc : c.ca = k) (hs : smallK k) (hv : unitsC k = u) : Calls Tryz.prog 22 #[mkC c] w (OneB (.int .i64 u) w) := by
  subst hc; exact caUnits c u w h hs.k hv
theorem cdots_l (S : ByteArray) (nm : List UInt8) (c : CaV) (k : Ca) (ds : List (Int × Int)) (w : World) (h : CaOK w c) (hc : c.ca = k) (hs : smallK k) (hS : S = ⟨nm.toArray⟩) (hv : dotsC k nm = ds) : Calls Tryz.prog 23 #[mkC c, .string S] w fun e w' => (∃ v, e = .returned v ∧ Holds w' v ds) ∧ Below w.heap.size w w' := by
  subst hc hS; exact caDots c nm ds w h hs.k hv
theorem time10_l (c : CaV) (k : Ca) (t e : Int) (t' n : Nat) (w : World) (h : CaOK w c) (hc : c.ca = k) (hs : smallK k) (ht : (k.2.flatMap (·.2)).all (fun m => decide (m.t < 18446744073709551616)) = true) (he : t = (t' : Int)) (he' : e = (n : Int)) (hv : timeC k = (t', n)) :
    Calls Tryz.prog 24 #[mkC c, .int .u64 t, .int .i64 e] w (TrueB w) := by
  subst hc he he'
  refine lawTime10 c t' n w h hs (fun m hm => ?_) hv
  rw [List.all_eq_true] at ht
  have := ht m (by rw [show c.ca.2.flatMap (·.2) = marksX c.xs from marksX_its c.xs]; exact hm)
  simpa using this
theorem slit2 (X : World) (a b : List UInt8) : HoldsS (X.alloc (.cells #[.string ⟨a.toArray⟩, .string ⟨b.toArray⟩] 9)) (.slice (some ⟨X.heap.size, 0, none⟩) 2 2) [a, b] := ⟨_, 2, rfl, SlAt.litAt encS_len X _ rfl 9 [a, b] (by simp [maxLen]), by simp, by simp [maxLen]⟩

end

end Go.Proofs.YtfmhhmceoikgpaaGreat
