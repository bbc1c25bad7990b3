/- Several texts in one: CarZ, DelD, DelH, DelM, DelN. -/
import Derived.Test.YtiaehpdgpjhecaaGreatPAV
import Derived.Test.YtiaehpdgpjhecaaGreatPAR
import Derived.Test.YtiaehpdgpjhecaaGreatPAU
namespace Go.Proofs.YtiaehpdgpjhecaaGreat

section
open Go.RowKit

theorem KY.next {w W W' : World} {c : CaV} {g : Nat} {v l iv : Value} {ys : List ItV} (h : KY w c g v l iv ys W) (hb : Below W.heap.size W W') : KY w c g v l iv ys W' :=
  ⟨h.kr.next hb, (hb.block g (Array.getElem?_eq_some_iff.1 h.out).1).trans h.out, h.gb, h.rv.below hb, h.rl.below hb, h.ri.below hb⟩
/-- Behind the append: the box still has the old row. -/
structure KYo (w : World) (c : CaV) (g : Nat) (v l iv v' : Value) (zs : List ItV) (W : World) : Prop where
  kr : KR w c W
  out : W.heap[g]? = some (.cells #[v, l, iv] 28 (0, 0))
  gb : w.heap.size + 1 < g
  rv : RowC W w.heap.size v c.vs
  rl : RowC W w.heap.size l c.ls
  ri : OwnI W w.heap.size v' zs
theorem KY.grow {w W W' : World} {c : CaV} {g : Nat} {v l iv v' : Value} {ys : List ItV} {y : ItV} (h : KY w c g v l iv ys W) (hy : RowM W w.heap.size (slV y) y.ms) (hr : W'.ownsRow w.heap.size 50 2 v' (ys ++ [y]).length (cellsOf encIt (ys ++ [y]))) (hg : W.grownBy W' iv.ownBlock) : KYo w c g v l iv v' (ys ++ [y]) W' := by
  have hi := h.ri.1
  refine ⟨⟨⟨blk_typed h.kr.kb.blk hi (by decide) hg, ?_, h.kr.kb.ok0⟩, blk_typed h.kr.res hi (by decide) hg⟩, blk_typed h.out hi (by decide) hg, h.gb, keep_typed h.rv hi (by decide) hg, keep_typed h.rl hi (by decide) hg, OwnI.grow h.ri hy hr hg⟩
  exact h.kr.kb.bel.grown hg h.kr.size (fun j hj => (hi.lt j hj).1)
theorem KYo.cells {w W : World} {c : CaV} {g : Nat} {v l iv v' : Value} {zs : List ItV} (h : KYo w c g v l iv v' zs W) : W.cell? ⟨g, 0, none⟩ = some v ∧ W.cell? ⟨g, 1, none⟩ = some l ∧ W.cell? ⟨g, 2, none⟩ = some iv ∧ W.frozen? ⟨g, 0, none⟩ = false ∧ W.frozen? ⟨g, 1, none⟩ = false ∧ W.frozen? ⟨g, 2, none⟩ = false ∧ g < W.heap.size := by
  obtain ⟨_, s⟩ := boxC_kept (Below.refl _ _) h.out
  exact s
theorem KYo.stored {w W : World} {c : CaV} {g : Nat} {v l iv v' : Value} {zs : List ItV} (h : KYo w c g v l iv v' zs W) : KY w c g v l v' zs (W.setCell ⟨g, 2, none⟩ v') := by
  have hgb := h.gb
  have ho : ∀ k, k ≠ g → (W.setCell ⟨g, 2, none⟩ v').heap[k]? = W.heap[k]? := fun k hk => Below.heap_setCell W ⟨g, 2, none⟩ v' k hk
  refine ⟨⟨⟨(ho _ (by omega)).trans h.kr.kb.blk, h.kr.kb.bel.setCell (p := ⟨g, 2, none⟩) (by simp; omega) _, h.kr.kb.ok0⟩, (ho _ (by omega)).trans h.kr.res⟩, ?_, h.gb, row_set1 h.rv h.out (by decide), row_set1 h.rl h.out (by decide), ⟨row_set1 h.ri.1 h.out (by decide), fun z hz => row_set1 (h.ri.2 z hz) h.out (by decide)⟩⟩
  show (W.heap.modify g _)[g]? = _
  rw [Array.getElem?_modify, if_pos rfl, h.out]
  rfl

end

section
open Go.RowKit

abbrev KnownD : Prop := ∀ W, Calls Tryz.prog 10 #[] W (TrueB W)
theorem KK.cells4 {w W : World} {L : List (Nat × CaV)} (h : KK w L W) {g : Nat} {c : CaV} (hm : (g, c) ∈ L) : W.cell? ⟨g, 0, none⟩ = some c.v ∧ W.cell? ⟨g, 1, none⟩ = some c.l ∧ W.cell? ⟨g, 2, none⟩ = some c.i ∧ g < W.heap.size := ⟨(h.blk hm).cell0, (h.blk hm).cell1, (h.blk hm).cell2, (h.blk hm).lt⟩
theorem of_caJ {c k : CaV} (h : k.ca = c.ca) : k.vs = c.vs ∧ k.ls = c.ls ∧ its k.xs = its c.xs := by
  have h1 := congrArg (fun a : Ca => a.1.1) h
  have h2 := congrArg (fun a : Ca => a.1.2) h
  have h3 := congrArg (fun a : Ca => a.2) h
  exact ⟨h1, h2, h3⟩
/-- Carts in boxes, a dot in its box. -/
structure KKD (w : World) (L : List (Nat × CaV)) (g : Nat) (r s : Int) (W : World) : Prop where
  kk : KK w L W
  dot : W.heap[g]? = some (.cells #[.int .i64 r, .int .i64 s] 30 (0, 0))
section
variable {w W W' : World} {L : List (Nat × CaV)} {g : Nat} {r s : Int}
theorem KKD.next (h : KKD w L g r s W) (hb : Below W.heap.size W W') : KKD w L g r s W' := ⟨h.kk.next hb, (hb.block _ (Array.getElem?_eq_some_iff.1 h.dot).1).trans h.dot⟩
theorem KKD.far (h : KKD w L g r s W) (p : FarBy) : KKD w L g r s (Go.Proofs.YtiaehpdgpjhecaaGreat.far W p) := h.next (below_far W p)
theorem KKD.dots (h : KKD w L g r s W) : W.cell? ⟨g, 0, none⟩ = some (.int .i64 r) ∧ W.cell? ⟨g, 1, none⟩ = some (.int .i64 s) ∧ g < W.heap.size := ⟨by simp [World.cell?, h.dot], by simp [World.cell?, h.dot], (Array.getElem?_eq_some_iff.1 h.dot).1⟩
theorem KKD.push (h : KKD w L g r s W) (z : CaV) (hz : CaOK W z) : KKD w (L ++ [(W.heap.size, z)]) g r s (W.alloc (.cells #[z.v, z.l, z.i] 28)) := ⟨h.kk.push z hz _ rfl, (h.next ((Below.refl _ W).alloc (Nat.le_refl _) _)).dot⟩
end
/-- The times of a cart's marks are times. -/
abbrev Timed (c : CaV) : Prop := ∀ m ∈ marksX c.xs, m.t < 18446744073709551616
theorem FitsD.of {c : CaV} (h : SizeK 1 c.ca) (ht : Timed c) : FitsD c := by
  refine ⟨(FitsP.of h h (by omega) (by omega)).kc, ?_, ht⟩
  have h1 := dotsI_cnt (its c.xs)
  have h2 := h.cnt
  rw [ca_x] at h2
  omega
theorem Timed.of {c k : CaV} (h : Timed c) (e : k.ca = c.ca) : Timed k := fun m hm => h m (by
  rw [← marksX_its] at hm ⊢
  rwa [show its k.xs = its c.xs from (of_caJ e).2.2] at hm)
theorem SizeK.small {c : CaV} {n : Nat} (h : SizeK n c.ca) (hn : n ≤ 7) : c.xs.length ≤ 100000 := by have := CaV.num h; omega
end

section
open Go.RowKit

theorem marks_off {W W' : World} {g : Nat} {d : CaV} {A : Option Addr} {ms : List Mk} (h : MarksAt W A ms) (hg : BlkC W g d) (hs : W.heap.size ≤ W'.heap.size) (hk : ∀ b, b ≠ g → W'.heap[b]? = W.heap[b]?) : MarksAt W' A ms :=
  SlAt.off_only h (fun x => ⟨_, rfl, fun _ _ _ e => by cases e⟩) (show W.heap[g]? = some (.cells ([d.v, d.l, d.i] : List Value).toArray 28 (0, 0)) from hg) (slices3 d.V d.L d.I d.nv d.nl d.ni d.vs.length d.ls.length d.xs.length) hs hk
theorem items_off {W W' : World} {g : Nat} {d : CaV} {A : Option Addr} {xs : List ItV} (h : ItemsAt W A xs) (hg : BlkC W g d) (hs : W.heap.size ≤ W'.heap.size) (hk : ∀ b, b ≠ g → W'.heap[b]? = W.heap[b]?) : ItemsAt W' A xs :=
  ⟨SlAt.off_only h.1 (fun x => ⟨_, rfl, fun _ _ _ e => by cases e⟩) (show W.heap[g]? = some (.cells ([d.v, d.l, d.i] : List Value).toArray 28 (0, 0)) from hg) (slices3 d.V d.L d.I d.nv d.nl d.ni d.vs.length d.ls.length d.xs.length) hs hk, fun x hx => ⟨marks_off (h.2 x hx).1 hg hs hk, (h.2 x hx).2⟩⟩
theorem holds_off {W W' : World} {g : Nat} {d : CaV} {v : Value} {l : List (Int × Int)} (h : Holds W v l) (hg : BlkC W g d) (hs : W.heap.size ≤ W'.heap.size) (hk : ∀ b, b ≠ g → W'.heap[b]? = W.heap[b]?) : Holds W' v l := by
  obtain ⟨A, n, e, h1, h2⟩ := h
  exact ⟨A, n, e, SlAt.off_only h1 (fun x => ⟨_, rfl, fun _ _ _ e => by cases e⟩) (show W.heap[g]? = some (.cells ([d.v, d.l, d.i] : List Value).toArray 28 (0, 0)) from hg) (slices3 d.V d.L d.I d.nv d.nl d.ni d.vs.length d.ls.length d.xs.length) hs hk, h2⟩
theorem holdsX_off {W W' : World} {g : Nat} {d : CaV} {v : Value} {xs : List ItV} (h : HoldsX W v xs) (hg : BlkC W g d) (hs : W.heap.size ≤ W'.heap.size) (hk : ∀ b, b ≠ g → W'.heap[b]? = W.heap[b]?) : HoldsX W' v xs := by
  obtain ⟨A, c, e, h1, h2⟩ := h
  exact ⟨A, c, e, items_off h1 hg hs hk, h2⟩

end

section
open Go.RowKit

/-- What one value says. -/
inductive Sr where
  | eq (u : Value)
  | dots (l : List (Int × Int))
  | ctx (us rs : List (Int × Int))
  | marks (l : List Mk)
  | item (x : It)
  | items (l : List It)
  | cart (x : Ca)
  | cartE (x : Ca) (k : Int)
  | cbox
  | any
def Sr.holds (n : Nat) : Sr → Value → World → Prop
  | .eq u, v, _ => v = u
  | .dots l, v, W => ∃ g, v = .slice (some ⟨g, 0, none⟩) l.length l.length ∧ Holds W v l
  | .ctx us rs, v, W => HoldsC W v us rs
  | .marks l, v, W => ∃ A c, v = .slice A l.length c ∧ MarksAt W A l ∧ l.length ≤ c ∧ c ≤ maxLen
  | .item x, v, W => ∃ y : ItV, v = mkIt y ∧ y.it = x ∧ ItOK W y
  | .items l, v, W => ∃ xs : List ItV, HoldsX W v xs ∧ its xs = l
  | .cart x, v, W => ∃ z : CaV, v = mkC z ∧ z.ca = x ∧ CaOK W z
  | .cartE x k, v, W => ∃ z : CaV, v = .tuple #[mkC z, .int .i64 k] ∧ z.ca = x ∧ CaOK W z
  | .cbox, v, W => ∃ b, ∃ d : CaV, v = ptr0 b ∧ n ≤ b ∧ BlkC W b d
  | .any, _, _ => True
theorem Sr.below {n : Nat} {s : Sr} {v : Value} {W W' : World} (h : s.holds n v W) (hb : Below W.heap.size W W') : s.holds n v W' := by
  match s, h with
  | .eq _, h => exact h
  | .dots _, ⟨g, h1, h2⟩ => exact ⟨g, h1, h2.below hb⟩
  | .ctx _ _, h => exact HoldsC.below h hb
  | .marks _, ⟨A, c, h1, h2, h3⟩ => exact ⟨A, c, h1, h2.below hb, h3⟩
  | .item _, ⟨y, h1, h2, h3⟩ => exact ⟨y, h1, h2, h3.below hb⟩
  | .items _, ⟨xs, h1, h2⟩ => exact ⟨xs, h1.below hb, h2⟩
  | .cart _, ⟨z, h1, h2, h3⟩ => exact ⟨z, h1, h2, h3.below hb⟩
  | .cartE _ _, ⟨z, h1, h2, h3⟩ => exact ⟨z, h1, h2, h3.below hb⟩
  | .cbox, ⟨b, d, h1, h2, h3⟩ => exact ⟨b, d, h1, h2, h3.below hb⟩
  | .any, _ => exact trivial
/-- A store into a cart's box. -/
theorem Sr.only {n b : Nat} {s : Sr} {v : Value} {W W' : World} {d d' : CaV} (h : s.holds n v W) (hg : BlkC W b d) (hg' : BlkC W' b d') (ho : OnlyB b W W') : s.holds n v W' := by
  have hs := Nat.le_of_eq ho.size.symm
  match s, h with
  | .eq _, h => exact h
  | .dots _, ⟨g, h1, h2⟩ => exact ⟨g, h1, holds_off h2 hg hs ho.block⟩
  | .ctx _ _, ⟨A, n, B, k, h1, h2, h3⟩ => exact ⟨A, n, B, k, h1, holds_off h2 hg hs ho.block, holds_off h3 hg hs ho.block⟩
  | .marks _, ⟨A, c, h1, h2, h3⟩ => exact ⟨A, c, h1, marks_off h2 hg hs ho.block, h3⟩
  | .item _, ⟨y, h1, h2, h3⟩ => exact ⟨y, h1, h2, marks_off h3.1 hg hs ho.block, h3.2⟩
  | .items _, ⟨xs, h1, h2⟩ => exact ⟨xs, holdsX_off h1 hg hs ho.block, h2⟩
  | .cart _, ⟨z, h1, h2, h3⟩ => exact ⟨z, h1, h2, h3.off_only hg hs ho.block⟩
  | .cartE _ _, ⟨z, h1, h2, h3⟩ => exact ⟨z, h1, h2, h3.off_only hg hs ho.block⟩
  | .cbox, ⟨g, z, h1, h2, h3⟩ =>
    by_cases hgb : g = b
    · subst hgb; exact ⟨_, d', h1, h2, hg'⟩
    · exact ⟨g, z, h1, h2, (ho.block g hgb).trans h3⟩
  | .any, _ => exact trivial
abbrev srS (E : World) (sr : Nat → Sr) : RegS := ⟨fun _ => none, BelW, fun _ W => Below E.heap.size E W, fun j v W => (sr j).holds E.heap.size v W, fun _ _ _ => True⟩
theorem sr_keep {E : World} {sr : Nat → Sr} {L : Nat → Bool} {W W' : World} (h : Below E.heap.size E W) (hb : BelW W W') : KeepsR (srS E sr) L W W' ∧ Below E.heap.size E W' := ⟨⟨fun _ _ _ h => Sr.below h hb, fun _ _ _ _ => trivial⟩, below_trans h hb⟩
section
variable {P : Program} {Q : Exit → Act → World → Prop} {a0 : Act} {w0 : World} {id : Nat} {l : List Oper} {sr : Nat → Sr}
theorem wp_region_sr (hm : P.follows .mixedOrders = true) (ht : topoB l.toArray = true) (hap : apartB l.toArray = true) (hsz : ∀ j d, dstOf l.toArray j = some d → d < a0.tmps.size)
    (hst : StepsR P l.toArray Q a0 (srS w0 sr) 0 l) (hf : ∀ a w L, (∀ j, j < l.toArray.size → L j = true) → InvR l.toArray a0 (srS w0 sr) L a w → Q .normal a w) : (Code.region id l.toArray true).wp P Q a0 w0 :=
  wp_region_R (S := srS w0 sr) hm ht hap hsz (fun _ _ h => by cases h) (fun _ _ _ h _ => by cases h) (Below.refl _ _).drew (fun _ _ _ _ h _ => by cases h) (fun _ _ _ _ _ _ _ _ _ h _ _ _ _ => by cases h) (fun _ _ _ _ _ _ _ _ _ h _ _ _ _ => by cases h) hst fun a w L hL hI => hf a w L hL hI
end
/-- A region that fills boxes of carts. -/
abbrev ssS (E : World) (bx : Nat → Option Nat) (sr : Nat → Sr) (sq : Nat → Sq) : RegS := ⟨bx, BelW, fun _ W => Below E.heap.size E W, fun j v W => (sr j).holds E.heap.size v W, fun j v W => (sq j).holds v W⟩
theorem ss_keep {E : World} {bx : Nat → Option Nat} {sr : Nat → Sr} {sq : Nat → Sq} {L : Nat → Bool} {W W' : World} (h : Below E.heap.size E W) (hb : BelW W W') : KeepsR (ssS E bx sr sq) L W W' ∧ Below E.heap.size E W' := ⟨⟨fun _ _ _ h => Sr.below h hb, fun _ _ _ h => Sq.below h hb⟩, below_trans h hb⟩
section
variable {P : Program} {Q : Exit → Act → World → Prop} {a0 : Act} {w0 : World} {id : Nat} {l : List Oper} {sr : Nat → Sr} {sq : Nat → Sq} {bx : Nat → Option Nat}
theorem wp_region_ss (hm : P.follows .mixedOrders = true) (ht : topoB l.toArray = true) (hap : apartB l.toArray = true) (hsz : ∀ j d, dstOf l.toArray j = some d → d < a0.tmps.size)
    (hbd : ∀ j k, bx j = some k → dstOf l.toArray j = none) (hbi : ∀ j j' k, bx j = some k → bx j' = some k → j = j')
    (hc : ∀ j k, bx j = some k → sr k = .cbox ∧ ∃ x, sq j = .cart x) (hq : ∀ j, (sq j).calm = true)
    (hst : StepsR P l.toArray Q a0 (ssS w0 bx sr sq) 0 l) (hf : ∀ a w L, (∀ j, j < l.toArray.size → L j = true) → InvR l.toArray a0 (ssS w0 bx sr sq) L a w → Q .normal a w) : (Code.region id l.toArray true).wp P Q a0 w0 := by
  have cb : ∀ {k m : Nat} {v : Value} {W : World}, bx m = some k → (sr k).holds w0.heap.size v W → ∃ b, ∃ d : CaV, v = ptr0 b ∧ w0.heap.size ≤ b ∧ BlkC W b d := fun {k m v W} h h1 => by
    rw [(hc m k h).1] at h1; exact h1
  have cq : ∀ {k m : Nat} {v : Value} {W : World}, bx m = some k → (sq m).holds v W → ∃ b, ∃ z : CaV, v = ptr0 b ∧ BlkC W b z := fun {k m v W} h h1 => by
    obtain ⟨x, hx⟩ := (hc m k h).2
    rw [hx] at h1
    obtain ⟨b, z, e1, e2, _⟩ := h1
    exact ⟨b, z, e1, e2⟩
  have inj : ∀ {b b' : Nat}, ptr0 b = ptr0 b' → b = b' := fun h => by injection h with h; injection h with h; injection h
  refine wp_region_R (S := ssS w0 bx sr sq) hm ht hap hsz hbd hbi (Below.refl _ _).drew (fun j k v w h h1 => ?_) (fun L j v w w' m k b hG hb hk ho hq' h => ?_) (fun L j v w w' m k b hG hb hk ho hne h => ?_) hst fun a w L hL hI => hf a w L hL hI
  · obtain ⟨b, d, e, _, h2⟩ := cb h h1
    exact ⟨b, e, h2.lt⟩
  · obtain ⟨b1, d, e1, _, h2⟩ := cb hb hk
    obtain ⟨b2, z, e2, h3⟩ := cq hb hq'
    cases inj e1
    cases inj e2
    exact Sr.only h h2 h3 ho
  · obtain ⟨b1, d, e1, _, h2⟩ := cb hb hk
    cases inj e1
    exact Sq.only h (hq j) hne h2 ho
end

/-- Carts and dots in boxes, values and what they say. -/
structure KSr (w : World) (B : List (Nat × CaV)) (D : List (Nat × (Int × Int))) (L : List (Value × Sr)) (W : World) : Prop where
  kk : KK w B W
  dd : ∀ p ∈ D, W.heap[p.1]? = some (.cells #[.int .i64 p.2.1, .int .i64 p.2.2] 30 (0, 0))
  ll : ∀ p ∈ L, p.2.holds 0 p.1 W
section
variable {w W W' : World} {B : List (Nat × CaV)} {D : List (Nat × (Int × Int))} {L : List (Value × Sr)}
theorem KSr.new (w : World) : KSr w [] [] [] w := ⟨⟨fun _ h => (by cases h), Below.refl _ _⟩, fun _ h => (by cases h), fun _ h => (by cases h)⟩
theorem KSr.next (h : KSr w B D L W) (hb : Below W.heap.size W W') : KSr w B D L W' :=
  ⟨h.kk.next hb, fun p hp => (hb.block _ (Array.getElem?_eq_some_iff.1 (h.dd p hp)).1).trans (h.dd p hp), fun p hp => Sr.below (h.ll p hp) hb⟩
theorem KSr.push (h : KSr w B D L W) (hb : Below W.heap.size W W') (v : Value) (s : Sr) (hs : s.holds 0 v W') : KSr w B D ((v, s) :: L) W' :=
  ⟨(h.next hb).kk, (h.next hb).dd, fun p hp => by
    rcases List.mem_cons.1 hp with rfl | hp
    · exact hs
    · exact (h.next hb).ll p hp⟩
theorem KSr.cart (h : KSr w B D L W) (z : CaV) (hz : CaOK W z) : KSr w (B ++ [(W.heap.size, z)]) D [] (W.alloc (.cells #[z.v, z.l, z.i] 28)) :=
  ⟨h.kk.push z hz _ rfl, (h.next ((Below.refl _ W).alloc (Nat.le_refl _) _)).dd, fun _ h => (by cases h)⟩
theorem KSr.dot (h : KSr w B D L W) (r s : Int) : KSr w B (D ++ [(W.heap.size, (r, s))]) [] (W.alloc (.cells #[.int .i64 r, .int .i64 s] 30)) :=
  ⟨h.kk.alloc _, fun p hp => by
    rcases List.mem_append.1 hp with k | k
    · exact (h.next ((Below.refl _ W).alloc (Nat.le_refl _) _)).dd p k
    · obtain rfl : p = (W.heap.size, (r, s)) := by simpa using k
      exact heap_alloc_new W _, fun _ h => (by cases h)⟩
theorem KSr.look (h : KSr w B D L W) {v : Value} {s : Sr} (hm : (v, s) ∈ L) : s.holds 0 v W := h.ll _ hm
theorem KSr.ca (h : KSr w B D L W) {g : Nat} {c : CaV} (hm : (g, c) ∈ B) : W.cell? ⟨g, 0, none⟩ = some c.v ∧ W.cell? ⟨g, 1, none⟩ = some c.l ∧ W.cell? ⟨g, 2, none⟩ = some c.i ∧ g < W.heap.size := h.kk.cells4 hm
theorem KSr.ok (h : KSr w B D L W) {g : Nat} {c : CaV} (hm : (g, c) ∈ B) : CaOK W c := h.kk.ok hm
theorem KSr.da (h : KSr w B D L W) {g : Nat} {r s : Int} (hm : (g, (r, s)) ∈ D) : W.cell? ⟨g, 0, none⟩ = some (.int .i64 r) ∧ W.cell? ⟨g, 1, none⟩ = some (.int .i64 s) ∧ g < W.heap.size := by
  have := h.dd _ hm
  exact ⟨by simp [World.cell?, this], by simp [World.cell?, this], (Array.getElem?_eq_some_iff.1 this).1⟩
end

/-- Rows that are written out. -/
theorem sr_dots1 {N : Nat} (W : World) (p : Int × Int) : (Sr.dots [p]).holds N (.slice (some ⟨W.heap.size, 0, none⟩) 1 1) (W.alloc (.cells #[.int .i64 p.1, .int .i64 p.2] 30)) :=
  ⟨_, rfl, _, 1, rfl, SlAt.litAt encD_len W _ rfl 30 [p] (by simp [maxLen]), by simp, by simp [maxLen]⟩
theorem sr_dots2 {N : Nat} (W : World) (p q : Int × Int) : (Sr.dots [p, q]).holds N (.slice (some ⟨W.heap.size, 0, none⟩) 2 2) (W.alloc (.cells #[.int .i64 p.1, .int .i64 p.2, .int .i64 q.1, .int .i64 q.2] 30)) :=
  ⟨_, rfl, _, 2, rfl, SlAt.litAt encD_len W _ rfl 30 [p, q] (by simp [maxLen]), by simp, by simp [maxLen]⟩
theorem sr_marks1 {N : Nat} (W : World) (m : Mk) : (Sr.marks [m]).holds N (.slice (some ⟨W.heap.size, 0, none⟩) 1 1) (W.alloc (.cells #[.int .i64 m.r, .int .i64 m.c, .int .i64 m.q, .int .u64 (m.t : Int)] 55)) :=
  ⟨_, 1, rfl, SlAt.litAt encM_len W _ rfl 55 [m] (by simp [maxLen]), by simp, by simp [maxLen]⟩
theorem sr_marks2 {N : Nat} (W : World) (m k : Mk) : (Sr.marks [m, k]).holds N (.slice (some ⟨W.heap.size, 0, none⟩) 2 2) (W.alloc (.cells #[.int .i64 m.r, .int .i64 m.c, .int .i64 m.q, .int .u64 (m.t : Int), .int .i64 k.r, .int .i64 k.c, .int .i64 k.q, .int .u64 (k.t : Int)] 55)) :=
  ⟨_, 2, rfl, SlAt.litAt encM_len W _ rfl 55 [m, k] (by simp [maxLen]), by simp, by simp [maxLen]⟩
theorem sr_items1 {N : Nat} (W : World) (x : ItV) (h : ItOK W x) : (Sr.items [x.it]).holds N (.slice (some ⟨W.heap.size, 0, none⟩) 1 1) (W.alloc (.cells #[.string ⟨x.nm.toArray⟩, .slice x.A x.ms.length x.c] 50)) :=
  ⟨[x], holdsA W _ x rfl h, rfl⟩
theorem sr_items2 {N : Nat} (W : World) (x y : ItV) (h : ItOK W x) (h' : ItOK W y) : (Sr.items [x.it, y.it]).holds N (.slice (some ⟨W.heap.size, 0, none⟩) 2 2) (W.alloc (.cells #[.string ⟨x.nm.toArray⟩, .slice x.A x.ms.length x.c, .string ⟨y.nm.toArray⟩, .slice y.A y.ms.length y.c] 50)) :=
  ⟨[x, y], holdsB W _ x y rfl h h', rfl⟩
/-- A cart out of its parts. -/
theorem sr_cart {N : Nat} {W : World} {A B I : Option Addr} {us rs : List (Int × Int)} {n k ni m : Nat} {l : List It} (hc : (Sr.ctx us rs).holds N (.agg #[.slice A us.length n, .slice B rs.length k]) W) (hi : (Sr.items l).holds N (.slice I m ni) W) : (Sr.cart ((us, rs), l)).holds N (.agg #[.slice A us.length n, .slice B rs.length k, .slice I m ni]) W := by
  obtain ⟨A', n', B', k', e, h1, h2⟩ := hc
  obtain ⟨xs, h3, rfl⟩ := hi
  have h3' := h3
  obtain ⟨I', c', e3, h4, h5, h6⟩ := h3
  cases e3
  cases e
  exact ⟨⟨A, n, us, B, k, rs, I, ni, xs⟩, rfl, rfl, h1, h2, h3'⟩
theorem sr_cart0 {N : Nat} {W : World} {A B : Option Addr} {us rs : List (Int × Int)} {n k : Nat} (hc : (Sr.ctx us rs).holds N (.agg #[.slice A us.length n, .slice B rs.length k]) W) : (Sr.cart ((us, rs), [])).holds N (.agg #[.slice A us.length n, .slice B rs.length k, .slice none 0 0]) W :=
  sr_cart (I := none) (m := 0) (ni := 0) hc ⟨[], HoldsX.nil W, rfl⟩

theorem sr_row {N : Nat} {l : List (Int × Int)} {v : Value} {W : World} (h : (Sr.dots l).holds N v W) : Holds W v l := by
  obtain ⟨_, _, h⟩ := h; exact h
theorem sr_mrow {N : Nat} {l : List Mk} {A : Option Addr} {n c : Nat} {W : World} (h : (Sr.marks l).holds N (.slice A n c) W) : MarksAt W A l := by
  obtain ⟨A', c', e, h, _⟩ := h
  injection e with e1 e2 e3
  rw [e1]; exact h
set_option maxHeartbeats 400000 in
theorem lawMark12 (r c q : Int) (t : Nat) (w : World) : Calls Tryz.prog 27 #[.int .i64 r, .int .i64 c, .int .i64 q, .int .u64 (t : Int)] w (OneB (mkV ⟨r, c, q, t⟩) w) := by
  have HB0 := Lib.hid ((Below.refl w.heap.size w).alloc (Nat.le_refl _) (.cells #[.int .i64 0, .int .i64 0, .int .i64 0, .int .u64 0] 55))
  have HR := Lib.hid (show BlkM _ _ ⟨0, 0, 0, 0⟩ from BlkM.new w ⟨0, 0, 0, 0⟩)
  go_enter Tryz.func27, Tryz.ntmps27
  go_upto_region 1 with fail
  go_wp2_with fail
  refine (lawAt12 r c _).mono ?_
  rintro e w1 ⟨rfl, hb⟩
  have HR1 := Lib.hid (HR.out.below hb)
  have HB1 := Lib.hid (below_trans HB0.out hb)
  clear hb HR HB0
  have s0 := HR1.out.cell0
  have s1 := HR1.out.cell1
  have s2 := HR1.out.cell2
  have s3 := HR1.out.cell3
  have f0 := HR1.out.frozen 0
  have f1 := HR1.out.frozen 1
  have f2 := HR1.out.frozen 2
  have f3 := HR1.out.frozen 3
  have hrl := HR1.out.lt
  go_wp2_with fail
  have hs := HR1.out.set ⟨r, c, q, t⟩
  have t0 := hs.cell0
  have t1 := hs.cell1
  have t2 := hs.cell2
  have t3 := hs.cell3
  unfold setM at t0 t1 t2 t3
  exact bodyPost_ret (v := mkV ⟨r, c, q, t⟩) (by simp [results, Tryz.results27, go_sem, t0, t1, t2, t3]) rfl ⟨rfl, Below.setCell (p := ⟨w.heap.size, 3, none⟩) (Below.setCell (p := ⟨w.heap.size, 2, none⟩) (Below.setCell (p := ⟨w.heap.size, 1, none⟩) (Below.setCell (p := ⟨w.heap.size, 0, none⟩) HB1.out (Nat.le_refl _) _) (Nat.le_refl _) _) (Nat.le_refl _) _) (Nat.le_refl _) _⟩

theorem lawItem12 (nm : List UInt8) (A : Option Addr) (c : Nat) (ms : List Mk) (w : World) (h : MarksAt w A ms) (h1 : ms.length ≤ c) (h2 : c ≤ maxLen) :
    Calls Tryz.prog 26 #[.string ⟨nm.toArray⟩, .slice A ms.length c] w fun e w' => (∃ y : ItV, e = .returned (mkIt y) ∧ y.it = (nm, ms) ∧ ItOK w' y) ∧ Below w.heap.size w w' :=
  (lawItem10 nm A c ms w h h1 h2).mono fun e w' ⟨x, e1, e2, e3, e4⟩ => ⟨⟨x, e1, by rw [e2]; rfl, e3⟩, e4⟩

/-- Parts of a row of dots. -/
theorem holds_none (W : World) (A : Option Addr) (c : Nat) (hc : c ≤ maxLen) : Holds W (.slice A 0 c) [] := ⟨A, c, rfl, fun hn => absurd hn (by simp), Nat.zero_le _, hc⟩
theorem holds_fst {W : World} {g : Nat} {p q : Int × Int} (h : Holds W (.slice (some ⟨g, 0, none⟩) 2 2) [p, q]) : Holds W (.slice (some ⟨g, 0, none⟩) 1 2) [p] := by
  obtain ⟨A, c, e, hat, h1, h2⟩ := h
  injection e with e1 _ e3
  subst e1 e3
  refine ⟨_, 2, rfl, fun _ => ?_, by simp, h2⟩
  obtain ⟨b, off, e, hb, hc⟩ := hat (by simp)
  refine ⟨b, off, e, hb, fun j x hx i u hu => hc j x ?_ i u hu⟩
  match j, hx with
  | 0, hx => simpa using hx
  | j + 1, hx => simp at hx
theorem holds_snd {W : World} {g : Nat} {p q : Int × Int} (h : Holds W (.slice (some ⟨g, 0, none⟩) 2 2) [p, q]) : Holds W (.slice (some ⟨g, 2, none⟩) 1 1) [q] := by
  obtain ⟨A, c, e, hat, h1, h2⟩ := h
  injection e with e1 _ e3
  subst e1 e3
  refine ⟨_, 1, rfl, fun _ => ?_, by simp, by simp [maxLen]⟩
  obtain ⟨b, off, e, hb, hc⟩ := hat (by simp)
  injection e with e
  injection e with e1 e2 _
  subst e1 e2
  refine ⟨g, 2, rfl, hb, fun j x hx i u hu => ?_⟩
  match j, hx with
  | 0, hx =>
    have := hc 1 x (by simpa using hx) i u hu
    simpa using this
  | j + 1, hx => simp at hx
set_option maxHeartbeats 400000 in
theorem con01 (g : Nat) (p : Int × Int) (w : World) (h : Holds w (.slice (some ⟨g, 0, none⟩) 1 1) [p]) :
    Calls Tryz.prog 24 #[.int .i64 0, .slice (some ⟨g, 0, none⟩) 1 1] w fun e w' => (∃ A n B k, e = .returned (.agg #[.slice A 0 n, .slice B 1 k]) ∧ (Sr.ctx [] [p]).holds 0 (.agg #[.slice A 0 n, .slice B 1 k]) w') ∧ Below w.heap.size w w' := by
  have hb : Below w.heap.size w ((w.alloc (.cells #[.slice (some ⟨g, 0, none⟩) 0 1, .slice (some ⟨g, 0, none⟩) 1 1] 25)).drew) := ((Below.refl _ w).alloc (Nat.le_refl _) _).drew
  have hB : Blk2 ((w.alloc (.cells #[.slice (some ⟨g, 0, none⟩) 0 1, .slice (some ⟨g, 0, none⟩) 1 1] 25)).drew) w.heap.size (.slice (some ⟨g, 0, none⟩) 0 1) (.slice (some ⟨g, 0, none⟩) 1 1) := heap_alloc_new w _
  have HU := Lib.hid (show Holds _ (.slice (some ⟨g, 0, none⟩) 0 1) [] from Holds.below (holds_none w _ 1 (by simp [maxLen])) hb)
  have HR := Lib.hid (show Holds _ (.slice (some ⟨g, 0, none⟩) 1 1) [p] from Holds.below h hb)
  have HB := Lib.hid hb
  have HC := Lib.hid hB
  clear hb hB h
  go_enter Tryz.func24, Tryz.ntmps24
  go_upto_region 1 with fail
  go_region
  go_wp2_with fail
  have s0 := HC.out.cell0
  have s1 := HC.out.cell1
  exact bodyPost_ret (v := .agg #[.slice (some ⟨g, 0, none⟩) 0 1, .slice (some ⟨g, 0, none⟩) 1 1]) (by simp [results, Tryz.results24, go_sem, s0, s1]) rfl ⟨⟨_, _, _, _, rfl, _, _, _, _, rfl, HU.out, HR.out⟩, HB.out⟩
set_option maxHeartbeats 400000 in
theorem con11 (g : Nat) (p : Int × Int) (w : World) (h : Holds w (.slice (some ⟨g, 0, none⟩) 1 1) [p]) :
    Calls Tryz.prog 24 #[.int .i64 1, .slice (some ⟨g, 0, none⟩) 1 1] w fun e w' => (∃ A n B k, e = .returned (.agg #[.slice A 1 n, .slice B 0 k]) ∧ (Sr.ctx [p] []).holds 0 (.agg #[.slice A 1 n, .slice B 0 k]) w') ∧ Below w.heap.size w w' := by
  have hb : Below w.heap.size w ((w.alloc (.cells #[.slice (some ⟨g, 0, none⟩) 1 1, .slice (some ⟨g, 0, none⟩) 0 0] 25)).drew) := ((Below.refl _ w).alloc (Nat.le_refl _) _).drew
  have hB : Blk2 ((w.alloc (.cells #[.slice (some ⟨g, 0, none⟩) 1 1, .slice (some ⟨g, 0, none⟩) 0 0] 25)).drew) w.heap.size (.slice (some ⟨g, 0, none⟩) 1 1) (.slice (some ⟨g, 0, none⟩) 0 0) := heap_alloc_new w _
  have HU := Lib.hid (show Holds _ (.slice (some ⟨g, 0, none⟩) 1 1) [p] from Holds.below h hb)
  have HR := Lib.hid (show Holds _ (.slice (some ⟨g, 0, none⟩) 0 0) [] from Holds.below (holds_none w _ 0 (by simp [maxLen])) hb)
  have HB := Lib.hid hb
  have HC := Lib.hid hB
  clear hb hB h
  go_enter Tryz.func24, Tryz.ntmps24
  go_upto_region 1 with fail
  go_region
  go_wp2_with fail
  have s0 := HC.out.cell0
  have s1 := HC.out.cell1
  exact bodyPost_ret (v := .agg #[.slice (some ⟨g, 0, none⟩) 1 1, .slice (some ⟨g, 0, none⟩) 0 0]) (by simp [results, Tryz.results24, go_sem, s0, s1]) rfl ⟨⟨_, _, _, _, rfl, _, _, _, _, rfl, HU.out, HR.out⟩, HB.out⟩
set_option maxHeartbeats 400000 in
theorem con12 (g : Nat) (p q : Int × Int) (w : World) (h : Holds w (.slice (some ⟨g, 0, none⟩) 2 2) [p, q]) :
    Calls Tryz.prog 24 #[.int .i64 1, .slice (some ⟨g, 0, none⟩) 2 2] w fun e w' => (∃ A n B k, e = .returned (.agg #[.slice A 1 n, .slice B 1 k]) ∧ (Sr.ctx [p] [q]).holds 0 (.agg #[.slice A 1 n, .slice B 1 k]) w') ∧ Below w.heap.size w w' := by
  have hb : Below w.heap.size w ((w.alloc (.cells #[.slice (some ⟨g, 0, none⟩) 1 2, .slice (some ⟨g, 2, none⟩) 1 1] 25)).drew) := ((Below.refl _ w).alloc (Nat.le_refl _) _).drew
  have hB : Blk2 ((w.alloc (.cells #[.slice (some ⟨g, 0, none⟩) 1 2, .slice (some ⟨g, 2, none⟩) 1 1] 25)).drew) w.heap.size (.slice (some ⟨g, 0, none⟩) 1 2) (.slice (some ⟨g, 2, none⟩) 1 1) := heap_alloc_new w _
  have HU := Lib.hid (show Holds _ (.slice (some ⟨g, 0, none⟩) 1 2) [p] from Holds.below (holds_fst h) hb)
  have HR := Lib.hid (show Holds _ (.slice (some ⟨g, 2, none⟩) 1 1) [q] from Holds.below (holds_snd h) hb)
  have HB := Lib.hid hb
  have HC := Lib.hid hB
  clear hb hB h
  go_enter Tryz.func24, Tryz.ntmps24
  go_upto_region 1 with fail
  go_region
  go_wp2_with fail
  have s0 := HC.out.cell0
  have s1 := HC.out.cell1
  exact bodyPost_ret (v := .agg #[.slice (some ⟨g, 0, none⟩) 1 2, .slice (some ⟨g, 2, none⟩) 1 1]) (by simp [results, Tryz.results24, go_sem, s0, s1]) rfl ⟨⟨_, _, _, _, rfl, _, _, _, _, rfl, HU.out, HR.out⟩, HB.out⟩
set_option maxHeartbeats 400000 in
theorem con22 (g : Nat) (p q : Int × Int) (w : World) (h : Holds w (.slice (some ⟨g, 0, none⟩) 2 2) [p, q]) :
    Calls Tryz.prog 24 #[.int .i64 2, .slice (some ⟨g, 0, none⟩) 2 2] w fun e w' => (∃ A n B k, e = .returned (.agg #[.slice A 2 n, .slice B 0 k]) ∧ (Sr.ctx [p, q] []).holds 0 (.agg #[.slice A 2 n, .slice B 0 k]) w') ∧ Below w.heap.size w w' := by
  have hb : Below w.heap.size w ((w.alloc (.cells #[.slice (some ⟨g, 0, none⟩) 2 2, .slice (some ⟨g, 0, none⟩) 0 0] 25)).drew) := ((Below.refl _ w).alloc (Nat.le_refl _) _).drew
  have hB : Blk2 ((w.alloc (.cells #[.slice (some ⟨g, 0, none⟩) 2 2, .slice (some ⟨g, 0, none⟩) 0 0] 25)).drew) w.heap.size (.slice (some ⟨g, 0, none⟩) 2 2) (.slice (some ⟨g, 0, none⟩) 0 0) := heap_alloc_new w _
  have HU := Lib.hid (show Holds _ (.slice (some ⟨g, 0, none⟩) 2 2) [p, q] from Holds.below h hb)
  have HR := Lib.hid (show Holds _ (.slice (some ⟨g, 0, none⟩) 0 0) [] from Holds.below (holds_none w _ 0 (by simp [maxLen])) hb)
  have HB := Lib.hid hb
  have HC := Lib.hid hB
  clear hb hB h
  go_enter Tryz.func24, Tryz.ntmps24
  go_upto_region 1 with fail
  go_region
  go_wp2_with fail
  have s0 := HC.out.cell0
  have s1 := HC.out.cell1
  exact bodyPost_ret (v := .agg #[.slice (some ⟨g, 0, none⟩) 2 2, .slice (some ⟨g, 0, none⟩) 0 0]) (by simp [results, Tryz.results24, go_sem, s0, s1]) rfl ⟨⟨_, _, _, _, rfl, _, _, _, _, rfl, HU.out, HR.out⟩, HB.out⟩

end

section
open Go.RowKit

abbrev nNut : List UInt8 := [78, 117, 116]
abbrev nTea : List UInt8 := [84, 101, 97]
abbrev nOil : List UInt8 := [79, 105, 108]
abbrev kC : Ca := (([(1, 2), (2, 1)], []), [(nNut, [⟨2, 1, 7, 4⟩]), (nTea, [⟨1, 1, 5, 3⟩, ⟨1, 2, 2, 9⟩])])
abbrev kZ : Ca := (([], []), [])
abbrev putB (c : Ca) (d : Int × Int) (nm : List UInt8) (q : Int) (set : Bool) (t : Ca) (k : Int) : Bool := sameC (putD c d nm q set) t && ((putE c d nm q set : Int) == k)
abbrev remB (c : Ca) (nm : List UInt8) (t : Ca) (k : Int) : Bool := sameC (remD c nm) t && ((remE c nm : Int) == k)
abbrev cleB (c t : Ca) (k : Int) : Bool := sameC (cleD c) t && ((cleE c : Int) == k)
theorem kd1 : putB kC (1, 3) nTea 4 false (([(1, 3)], []), [(nTea, [⟨1, 3, 4, 10⟩])]) 0 = true := by decide +kernel
theorem kd2 : putB kC (1, 4) nOil 1 false (([], [(1, 4)]), [(nOil, [⟨1, 4, 1, 10⟩])]) 0 = true := by decide +kernel
theorem kd3 : putB kC (2, 2) nNut 8 true (([(2, 2)], []), [(nNut, [⟨2, 2, 8, 10⟩])]) 0 = true := by decide +kernel
theorem kd4 : remB kC nTea (([(1, 2)], []), []) 0 = true := by decide +kernel
theorem kd5 : cleB kC (([(1, 2), (2, 1)], []), []) 0 = true := by decide +kernel
theorem kd6 : cleB kZ kZ 0 = true := by decide +kernel
theorem kd7 : putB kC (1, 2) nOil 1 false kZ 2 = true := by decide +kernel
theorem kd8 : putB kC (1, 3) [] 0 false kZ 2 = true := by decide +kernel
theorem kd9 : putB kC (1, 3) nOil 0 false kZ 14 = true := by decide +kernel
theorem kd10 : putB kC (1, 3) nOil 0 true kZ 14 = true := by decide +kernel
theorem kd11 : putB kC (1, 3) nOil 1 true kZ 9 = true := by decide +kernel
theorem kd12 : remB kC nOil kZ 9 = true := by decide +kernel
theorem kd13 : cleD kZ = kZ ∧ cleE kZ = 0 := by decide +kernel
theorem kd14 : freshK kC (1, 3) = true ∧ freshK kC (2, 1) = false ∧ freshK kC (0, 1) = false ∧ emptyK kC = false ∧ emptyK kZ = true := by decide +kernel
/-- A small cart fits. -/
theorem fitsD_of {c : CaV} {a : Ca} (e : c.ca = a) (h : (decide (a.1.1.length + a.1.2.length + (dotsI a.2).length ≤ 2900) && (decide (a.2.length ≤ 300) && (a.2.all (fun x => decide (x.1.length ≤ 1000) && decide (x.2.length ≤ 100)) && (a.2.flatMap (·.2)).all fun m => decide (m.t < 18446744073709551616)))) = true) : FitsD c := by
  subst e
  simp only [Bool.and_eq_true, decide_eq_true_eq, List.all_eq_true] at h
  obtain ⟨h1, h2, h3, h4⟩ := h
  have e2 : c.ca.2 = its c.xs := rfl
  rw [e2] at h1 h2 h3 h4
  rw [its_len] at h2
  refine ⟨⟨⟨h2, fun x hx => h3 x.it (List.mem_map.2 ⟨x, hx, rfl⟩)⟩, ?_⟩, ?_, fun m hm => h4 m (by rw [marksX_its]; exact hm)⟩
  · have h5 : c.vs.length + c.ls.length + (dotsI (its c.xs)).length ≤ 2900 := h1
    omega
  · omega
theorem small_of {c : CaV} {a : Ca} (e : c.ca = a) (h : a.2.length ≤ 300) : c.xs.length ≤ 100000 := by
  subst e
  rw [ca_x, its_len] at h
  omega
theorem fitsC_kC {c : CaV} (e : c.ca = kC) : FitsD c := fitsD_of e (by decide +kernel)
theorem fitsC_kZ {c : CaV} (e : c.ca = kZ) : FitsD c := fitsD_of e (by decide +kernel)

section
variable (DO : DelOK)
include DO
theorem adds_l {c t : CaV} {a x : Ca} (r s : Int) (nm : List UInt8) (q k : Int) (W : World) (h : putB a (r, s) nm q false x k = true) (ec : c.ca = a) (et : t.ca = x) (hf : FitsD c) (hs : x.2.length ≤ 300) (hl : nm.length ≤ 1000) (hc : CaOK W c) (ht : CaOK W t) :
    Calls Tryz.prog 13 #[mkC c, .agg #[.int .i64 r, .int .i64 s], .string ⟨nm.toArray⟩, .int .i64 q, mkC t, .int .i64 k] W (OneB (.bool true) W) :=
  lawAdds12 DO.add c t r s nm q k true W hc ht (small_of et hs) hf hl (by rw [ec, et]; exact h)
theorem sets_l {c t : CaV} {a x : Ca} (r s : Int) (nm : List UInt8) (q k : Int) (W : World) (h : putB a (r, s) nm q true x k = true) (ec : c.ca = a) (et : t.ca = x) (hf : FitsD c) (hs : x.2.length ≤ 300) (hl : nm.length ≤ 1000) (hc : CaOK W c) (ht : CaOK W t) :
    Calls Tryz.prog 14 #[mkC c, .agg #[.int .i64 r, .int .i64 s], .string ⟨nm.toArray⟩, .int .i64 q, mkC t, .int .i64 k] W (OneB (.bool true) W) :=
  lawSets12 DO.set c t r s nm q k true W hc ht (small_of et hs) hf hl (by rw [ec, et]; exact h)
theorem removes_l {c t : CaV} {a x : Ca} (nm : List UInt8) (k : Int) (W : World) (h : remB a nm x k = true) (ec : c.ca = a) (et : t.ca = x) (hf : FitsD c) (hs : x.2.length ≤ 300) (hl : nm.length ≤ 1000) (hc : CaOK W c) (ht : CaOK W t) :
    Calls Tryz.prog 18 #[mkC c, .string ⟨nm.toArray⟩, mkC t, .int .i64 k] W (OneB (.bool true) W) :=
  lawRemoves12 DO.rem c t nm k true W hc ht (small_of et hs) hf hl (by rw [ec, et]; exact h)
theorem clears_l {c t : CaV} {a x : Ca} (k : Int) (W : World) (h : cleB a x k = true) (ec : c.ca = a) (et : t.ca = x) (hf : FitsD c) (hs : x.2.length ≤ 300) (hc : CaOK W c) (ht : CaOK W t) :
    Calls Tryz.prog 19 #[mkC c, mkC t, .int .i64 k] W (OneB (.bool true) W) :=
  lawClears12 DO.cle c t k true W hc ht (small_of et hs) hf (by rw [ec, et]; exact h)
end

end

end Go.Proofs.YtiaehpdgpjhecaaGreat
