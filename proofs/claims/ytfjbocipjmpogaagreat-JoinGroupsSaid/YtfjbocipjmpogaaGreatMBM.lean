/- Several texts in one: JoiSp, CarQ, CarT, CarU. -/
import Derived.Test.YtfjbocipjmpogaaGreatMBL
import Derived.Test.YtfjbocipjmpogaaGreatMAR
import Derived.Test.YtfjbocipjmpogaaGreatMBD
import Derived.Test.YtfjbocipjmpogaaGreatMAW
import Derived.Test.YtfjbocipjmpogaaGreatMAZ
namespace Go.Proofs.YtfjbocipjmpogaaGreat

section
open Go.RowKit

/-- What one value says. -/
inductive Sp where
  | eq (u : Value)
  | cart (x : Ca)
  | nums (l : List Int)
  | marks (l : List Mk)
  | carts (l : List Ca)
  | cbox
  | mbox
  | any
def Sp.holds (n : Nat) : Sp → Value → World → Prop
  | .eq u, v, _ => v = u
  | .cart x, v, W => ∃ z : CaV, v = mkC z ∧ z.ca = x ∧ CaOK W z
  | .nums l, v, W => ∃ q, v = .slice (some ⟨q, 0, none⟩) l.length l.length ∧ NumsAt W (some ⟨q, 0, none⟩) l
  | .marks l, v, W => ∃ A c, v = .slice A l.length c ∧ MarksAt W A l ∧ l.length ≤ c ∧ c ≤ maxLen
  | .carts l, v, W => ∃ A cap, ∃ cs : List CaV, v = .slice A cs.length cap ∧ CartsAt W A cs ∧ cs.map (·.ca) = l ∧ cs.length ≤ cap ∧ cap ≤ maxLen
  | .cbox, v, W => ∃ b, ∃ d : CaV, v = ptr0 b ∧ n ≤ b ∧ BlkC W b d
  | .mbox, v, W => ∃ b, ∃ m : Mk, v = ptr0 b ∧ n ≤ b ∧ BlkM W b m
  | .any, _, _ => True
theorem Sp.below {n : Nat} {s : Sp} {v : Value} {W W' : World} (h : s.holds n v W) (hb : Below W.heap.size W W') : s.holds n v W' := by
  match s, h with
  | .eq _, h => exact h
  | .cart _, ⟨z, h1, h2, h3⟩ => exact ⟨z, h1, h2, h3.below hb⟩
  | .nums _, ⟨q, h1, h2⟩ => exact ⟨q, h1, h2.below hb⟩
  | .marks _, ⟨A, c, h1, h2, h3⟩ => exact ⟨A, c, h1, h2.below hb, h3⟩
  | .carts _, ⟨A, c, cs, h1, h2, h3⟩ => exact ⟨A, c, cs, h1, h2.below hb, h3⟩
  | .cbox, ⟨b, d, h1, h2, h3⟩ => exact ⟨b, d, h1, h2, h3.below hb⟩
  | .mbox, ⟨b, m, h1, h2, h3⟩ => exact ⟨b, m, h1, h2, h3.below hb⟩
  | .any, _ => exact trivial
/-- No carts in a row: then a store into a cart's box leaves it. -/
def Sp.calm : Sp → Bool
  | .carts _ => false
  | .mbox => false
  | _ => true
theorem Sp.only {n b : Nat} {s : Sp} {v : Value} {W W' : World} {d d' : CaV} (h : s.holds n v W) (hs : s.calm = true) (hg : BlkC W b d) (hg' : BlkC W' b d') (ho : OnlyB b W W') : s.holds n v W' := by
  have hc := KRj.slices d.V d.L d.I d.nv d.nl d.ni d.vs.length d.ls.length d.xs.length
  have hg2 : W.heap[b]? = some (.cells ([d.v, d.l, d.i] : List Value).toArray 28 (0, 0)) := hg
  match s, h with
  | .eq _, h => exact h
  | .cart _, ⟨z, h1, h2, h3⟩ => exact ⟨z, h1, h2, h3.off_only hg (Nat.le_of_eq ho.size.symm) ho.block⟩
  | .nums _, ⟨q, h1, h2⟩ => exact ⟨q, h1, SlAt.off_only h2 (fun x => ⟨_, rfl, fun _ _ _ e => by cases e⟩) hg2 hc (Nat.le_of_eq ho.size.symm) ho.block⟩
  | .marks _, ⟨A, c, h1, h2, h3⟩ => exact ⟨A, c, h1, SlAt.off_only h2 (fun x => ⟨_, rfl, fun _ _ _ e => by cases e⟩) hg2 hc (Nat.le_of_eq ho.size.symm) ho.block, h3⟩
  | .cbox, ⟨g, z, h1, h2, h3⟩ =>
    by_cases hgb : g = b
    · subst hgb; exact ⟨_, d', h1, h2, hg'⟩
    · exact ⟨g, z, h1, h2, (ho.block g hgb).trans h3⟩
  | .any, _ => exact trivial
/-- What a box that was filled says. -/
inductive Sq where
  | cart (x : Ca)
  | mark (m : Mk)
  | none
def Sq.holds : Sq → Value → World → Prop
  | .cart x, v, W => ∃ b, ∃ z : CaV, v = ptr0 b ∧ BlkC W b z ∧ z.ca = x ∧ CaOK W z
  | .mark m, v, W => ∃ b, v = ptr0 b ∧ BlkM W b m
  | .none, _, _ => True
theorem Sq.below {s : Sq} {v : Value} {W W' : World} (h : s.holds v W) (hb : Below W.heap.size W W') : s.holds v W' := by
  match s, h with
  | .cart _, ⟨b, z, h1, h2, h3, h4⟩ => exact ⟨b, z, h1, h2.below hb, h3, h4.below hb⟩
  | .mark _, ⟨b, h1, h2⟩ => exact ⟨b, h1, h2.below hb⟩
  | .none, _ => exact trivial
def Sq.calm : Sq → Bool
  | .mark _ => false
  | _ => true
theorem Sq.only {b : Nat} {s : Sq} {v : Value} {W W' : World} {d : CaV} (h : s.holds v W) (hs : s.calm = true) (hv : v ≠ ptr0 b) (hg : BlkC W b d) (ho : OnlyB b W W') : s.holds v W' := by
  match s, h with
  | .cart _, ⟨g, z, h1, h2, h3, h4⟩ => exact ⟨g, z, h1, (ho.block g (fun e => hv (by rw [h1, e]))).trans h2, h3, h4.off_only hg (Nat.le_of_eq ho.size.symm) ho.block⟩
  | .none, _ => exact trivial

/-- A region that makes no store: what its values say, as a list. -/
abbrev spS (E : World) (sp : Nat → Sp) : RegS := ⟨fun _ => none, BelW, fun _ W => Below E.heap.size E W, fun j v W => (sp j).holds E.heap.size v W, fun _ _ _ => True⟩
theorem sp_keep {E : World} {sp : Nat → Sp} {L : Nat → Bool} {W W' : World} (h : Below E.heap.size E W) (hb : BelW W W') : KeepsR (spS E sp) L W W' ∧ Below E.heap.size E W' := ⟨⟨fun _ _ _ h => Sp.below h hb, fun _ _ _ _ => trivial⟩, below_trans h hb⟩

/-- A region that fills boxes of carts. -/
abbrev sqS (E : World) (bx : Nat → Option Nat) (sp : Nat → Sp) (sq : Nat → Sq) : RegS := ⟨bx, BelW, fun _ W => Below E.heap.size E W, fun j v W => (sp j).holds E.heap.size v W, fun j v W => (sq j).holds v W⟩
theorem sq_keep {E : World} {bx : Nat → Option Nat} {sp : Nat → Sp} {sq : Nat → Sq} {L : Nat → Bool} {W W' : World} (h : Below E.heap.size E W) (hb : BelW W W') : KeepsR (sqS E bx sp sq) L W W' ∧ Below E.heap.size E W' := ⟨⟨fun _ _ _ h => Sp.below h hb, fun _ _ _ h => Sq.below h hb⟩, below_trans h hb⟩
section
variable {P : Program} {Q : Exit → Act → World → Prop} {a0 : Act} {w0 : World} {id : Nat} {l : List Oper} {sp : Nat → Sp} {sq : Nat → Sq} {bx : Nat → Option Nat}
theorem wp_region_sp (hm : P.follows .mixedOrders = true) (ht : topoB l.toArray = true) (hap : apartB l.toArray = true) (hsz : ∀ j d, dstOf l.toArray j = some d → d < a0.tmps.size)
    (hst : StepsR P l.toArray Q a0 (spS w0 sp) 0 l) (hf : ∀ a w L, (∀ j, j < l.toArray.size → L j = true) → InvR l.toArray a0 (spS w0 sp) L a w → Q .normal a w) : (Code.region id l.toArray true).wp P Q a0 w0 :=
  wp_region_R (S := spS w0 sp) hm ht hap hsz (fun _ _ h => by cases h) (fun _ _ _ h _ => by cases h) (Below.refl _ _).drew (fun _ _ _ _ h _ => by cases h) (fun _ _ _ _ _ _ _ _ _ h _ _ _ _ => by cases h) (fun _ _ _ _ _ _ _ _ _ h _ _ _ _ => by cases h) hst fun a w L hL hI => hf a w L hL hI
theorem wp_region_sq (hm : P.follows .mixedOrders = true) (ht : topoB l.toArray = true) (hap : apartB l.toArray = true) (hsz : ∀ j d, dstOf l.toArray j = some d → d < a0.tmps.size)
    (hbd : ∀ j k, bx j = some k → dstOf l.toArray j = none) (hbi : ∀ j j' k, bx j = some k → bx j' = some k → j = j')
    (hc : ∀ j k, bx j = some k → sp k = .cbox ∧ ∃ x, sq j = .cart x) (hp : ∀ j, (sp j).calm = true) (hq : ∀ j, (sq j).calm = true)
    (hst : StepsR P l.toArray Q a0 (sqS w0 bx sp sq) 0 l) (hf : ∀ a w L, (∀ j, j < l.toArray.size → L j = true) → InvR l.toArray a0 (sqS w0 bx sp sq) L a w → Q .normal a w) : (Code.region id l.toArray true).wp P Q a0 w0 := by
  have cb : ∀ {k m : Nat} {v : Value} {W : World}, bx m = some k → (sp k).holds w0.heap.size v W → ∃ b, ∃ d : CaV, v = ptr0 b ∧ w0.heap.size ≤ b ∧ BlkC W b d := fun {k m v W} h h1 => by
    rw [(hc m k h).1] at h1; exact h1
  have cq : ∀ {k m : Nat} {v : Value} {W : World}, bx m = some k → (sq m).holds v W → ∃ b, ∃ z : CaV, v = ptr0 b ∧ BlkC W b z := fun {k m v W} h h1 => by
    obtain ⟨x, hx⟩ := (hc m k h).2
    rw [hx] at h1
    obtain ⟨b, z, e1, e2, _⟩ := h1
    exact ⟨b, z, e1, e2⟩
  have inj : ∀ {b b' : Nat}, ptr0 b = ptr0 b' → b = b' := fun h => by injection h with h; injection h with h; injection h
  refine wp_region_R (S := sqS w0 bx sp sq) hm ht hap hsz hbd hbi (Below.refl _ _).drew (fun j k v w h h1 => ?_) (fun L j v w w' m k b hG hb hk ho hq' h => ?_) (fun L j v w w' m k b hG hb hk ho hne h => ?_) hst fun a w L hL hI => hf a w L hL hI
  · obtain ⟨b, d, e, _, h2⟩ := cb h h1
    exact ⟨b, e, h2.lt⟩
  · obtain ⟨b1, d, e1, _, h2⟩ := cb hb hk
    obtain ⟨b2, z, e2, h3⟩ := cq hb hq'
    cases inj e1
    cases inj e2
    exact Sp.only h (hp j) h2 h3 ho
  · obtain ⟨b1, d, e1, _, h2⟩ := cb hb hk
    cases inj e1
    exact Sq.only h (hq j) hne h2 ho
end
/-- A value that only says what it is, or a box of a mark. -/
def Sp.plain : Sp → Bool
  | .eq _ => true
  | .mbox => true
  | .any => true
  | _ => false
def Sq.plain : Sq → Bool
  | .cart _ => false
  | _ => true
section
variable {P : Program} {Q : Exit → Act → World → Prop} {a0 : Act} {w0 : World} {id : Nat} {l : List Oper} {sp : Nat → Sp} {sq : Nat → Sq} {bx : Nat → Option Nat}
theorem wp_region_sm (hm : P.follows .mixedOrders = true) (ht : topoB l.toArray = true) (hap : apartB l.toArray = true) (hsz : ∀ j d, dstOf l.toArray j = some d → d < a0.tmps.size)
    (hbd : ∀ j k, bx j = some k → dstOf l.toArray j = none) (hbi : ∀ j j' k, bx j = some k → bx j' = some k → j = j')
    (hc : ∀ j k, bx j = some k → sp k = .mbox ∧ ∃ x, sq j = .mark x) (hp : ∀ j, (sp j).plain = true) (hq : ∀ j, (sq j).plain = true)
    (hst : StepsR P l.toArray Q a0 (sqS w0 bx sp sq) 0 l) (hf : ∀ a w L, (∀ j, j < l.toArray.size → L j = true) → InvR l.toArray a0 (sqS w0 bx sp sq) L a w → Q .normal a w) : (Code.region id l.toArray true).wp P Q a0 w0 := by
  have cb : ∀ {k m : Nat} {v : Value} {W : World}, bx m = some k → (sp k).holds w0.heap.size v W → ∃ b, ∃ d : Mk, v = ptr0 b ∧ w0.heap.size ≤ b ∧ BlkM W b d := fun {k m v W} h h1 => by
    rw [(hc m k h).1] at h1; exact h1
  have cq : ∀ {k m : Nat} {v : Value} {W : World}, bx m = some k → (sq m).holds v W → ∃ b, ∃ z : Mk, v = ptr0 b ∧ BlkM W b z := fun {k m v W} h h1 => by
    obtain ⟨x, hx⟩ := (hc m k h).2
    rw [hx] at h1
    obtain ⟨b, e1, e2⟩ := h1
    exact ⟨b, x, e1, e2⟩
  have inj : ∀ {b b' : Nat}, ptr0 b = ptr0 b' → b = b' := fun h => by injection h with h; injection h with h; injection h
  refine wp_region_R (S := sqS w0 bx sp sq) hm ht hap hsz hbd hbi (Below.refl _ _).drew (fun j k v w h h1 => ?_) (fun L j v w w' m k b hG hb hk ho hq' h => ?_) (fun L j v w w' m k b hG hb hk ho hne h => ?_) hst fun a w L hL hI => hf a w L hL hI
  · obtain ⟨b, d, e, _, h2⟩ := cb h h1
    exact ⟨b, e, h2.lt⟩
  · obtain ⟨b2, z, e2, h3⟩ := cq hb hq'
    cases inj e2
    have h4 := hp j
    revert h
    show (sp j).holds _ v w → (sp j).holds _ v w'
    cases hs : sp j with
    | eq u => exact fun h => h
    | any => exact fun h => h
    | mbox =>
      rintro ⟨g, y, h5, h6, h7⟩
      by_cases hgb : g = b
      · subst hgb; exact ⟨_, z, h5, h6, h3⟩
      · exact ⟨g, y, h5, h6, (ho.block g hgb).trans h7⟩
    | cart x => rw [hs] at h4; cases h4
    | nums x => rw [hs] at h4; cases h4
    | marks x => rw [hs] at h4; cases h4
    | carts x => rw [hs] at h4; cases h4
    | cbox => rw [hs] at h4; cases h4
  · have h4 := hq j
    revert h
    show (sq j).holds v w → (sq j).holds v w'
    cases hs : sq j with
    | none => exact fun h => h
    | mark y =>
      rintro ⟨g, h5, h6⟩
      exact ⟨g, h5, (ho.block g (fun e => hne (by rw [h5, e]))).trans h6⟩
    | cart x => rw [hs] at h4; cases h4
end
theorem InvR.wants {ops : Array Oper} {a0 : Act} {S : RegS} {L : Nat → Bool} {a : Act} {w : World} (h : InvR ops a0 S L a w) {o : Oper} {j d : Nat} {b : Bool} (hg : o.guard = some (j, b)) (hL : L j = true) (hd : dstOf ops j = some d) (hv : ∀ v, S.Φ j v w → v = .bool b) : Region.wanted o (yielded ops a.tmps) = true := wanted_at hg hd (hv _ (h.val j d hL hd))
/-- A cart put into its box. -/
theorem store_cart {W : World} {b : Nat} {d z : CaV} (hB : BlkC W b d) (ho : CaOK W z) : OnlyB b W (((W.setCell ⟨b, 0, none⟩ z.v).setCell ⟨b, 1, none⟩ z.l).setCell ⟨b, 2, none⟩ z.i) ∧ BlkC (((W.setCell ⟨b, 0, none⟩ z.v).setCell ⟨b, 1, none⟩ z.l).setCell ⟨b, 2, none⟩ z.i) b z ∧ CaOK (((W.setCell ⟨b, 0, none⟩ z.v).setCell ⟨b, 1, none⟩ z.l).setCell ⟨b, 2, none⟩ z.i) z :=
  ⟨((OnlyB.setCell W b 0 _).trans (OnlyB.setCell _ b 1 _)).trans (OnlyB.setCell _ b 2 _), BlkC.fill hB _ _ _, ho.off_only hB (by simp) (fun k hk => set3_other W b k _ _ _ hk)⟩

/-- Carts and marks in boxes. -/
structure KB (w : World) (L : List (Nat × CaV)) (M : List (Nat × Mk)) (W : World) : Prop where
  kk : KK w L W
  mm : ∀ p ∈ M, BlkM W p.1 p.2
section
variable {w W W' : World} {L : List (Nat × CaV)} {M : List (Nat × Mk)}
theorem KB.next (h : KB w L M W) (hb : Below W.heap.size W W') : KB w L M W' := ⟨h.kk.next hb, fun p hp => (h.mm p hp).below hb⟩
theorem KB.ca (h : KB w L M W) {g : Nat} {c : CaV} (hm : (g, c) ∈ L) : W.cell? ⟨g, 0, none⟩ = some c.v ∧ W.cell? ⟨g, 1, none⟩ = some c.l ∧ W.cell? ⟨g, 2, none⟩ = some c.i ∧ g < W.heap.size := ⟨(h.kk.blk hm).cell0, (h.kk.blk hm).cell1, (h.kk.blk hm).cell2, (h.kk.blk hm).lt⟩
theorem KB.mkb (h : KB w L M W) {g : Nat} {m : Mk} (hm : (g, m) ∈ M) : W.cell? ⟨g, 0, none⟩ = some (.int .i64 m.r) ∧ W.cell? ⟨g, 1, none⟩ = some (.int .i64 m.c) ∧ W.cell? ⟨g, 2, none⟩ = some (.int .i64 m.q) ∧ W.cell? ⟨g, 3, none⟩ = some (.int .u64 (m.t : Int)) := ⟨(h.mm _ hm).cell0, (h.mm _ hm).cell1, (h.mm _ hm).cell2, (h.mm _ hm).cell3⟩
theorem KB.ok (h : KB w L M W) {g : Nat} {c : CaV} (hm : (g, c) ∈ L) : CaOK W c := h.kk.ok hm
end

end

section
open Go.RowKit

end

section
open Go.RowKit

/-- No two items share a row of marks. -/
def ApartI (ys : List ItV) : Prop := ys.Pairwise fun a b => ∀ g, (slV a).ownBlock = some g → (slV b).ownBlock ≠ some g
theorem ApartI.snoc {ys : List ItV} {y : ItV} {W W' : World} {B B' : Nat} (h : ApartI ys) (hr : ∀ z ∈ ys, RowM W B (slV z) z.ms ∧ (slV z).ownBlock ≠ some B) (hy : RowM W' B' (slV y) y.ms) (hs : W.heap.size ≤ B') : ApartI (ys ++ [y]) := by
  unfold ApartI
  rw [List.pairwise_append]
  refine ⟨h, List.pairwise_singleton _ _, fun a ha b hb g e1 e2 => ?_⟩
  obtain rfl : b = y := by simpa using hb
  have h1 := ((hr a ha).1.lt g e1).2
  have h2 := (hy.lt g e2).1
  omega

/-- A box of two cells that was there ahead of a step; written. -/
theorem box2_kept {W Wb : World} {n : Nat} {a b : Value} {t : TypeId} (hb : Below W.heap.size W Wb) (hn : W.heap[n]? = some (.cells #[a, b] t (0, 0))) :
    Wb.heap[n]? = some (.cells #[a, b] t (0, 0)) ∧ Wb.cell? ⟨n, 0, none⟩ = some a ∧ Wb.cell? ⟨n, 1, none⟩ = some b ∧ Wb.frozen? ⟨n, 0, none⟩ = false ∧ Wb.frozen? ⟨n, 1, none⟩ = false ∧ n < Wb.heap.size := by
  have h := (hb.block n (Array.getElem?_eq_some_iff.1 hn).1).trans hn
  exact ⟨h, by simp [World.cell?, h], by simp [World.cell?, h], by simp [World.frozen?, h], by simp [World.frozen?, h], (Array.getElem?_eq_some_iff.1 h).1⟩
theorem box2_filled {W : World} {n : Nat} {a b : Value} {t : TypeId} (h : W.heap[n]? = some (.cells #[a, b] t (0, 0))) (u v : Value) : ((W.setCell ⟨n, 0, none⟩ u).setCell ⟨n, 1, none⟩ v).heap[n]? = some (.cells #[u, v] t (0, 0)) := by
  have e1 : (W.setCell ⟨n, 0, none⟩ u).heap[n]? = some (.cells #[u, b] t (0, 0)) := by
    show (W.heap.modify n _)[n]? = _
    rw [Array.getElem?_modify, if_pos rfl, h]
    rfl
  show ((W.setCell ⟨n, 0, none⟩ u).heap.modify n _)[n]? = _
  rw [Array.getElem?_modify, if_pos rfl, e1]
  rfl
theorem row_set2c {W : World} {B k m n : Nat} {e t : TypeId} {x u v : Value} {xs : List Value} {cur : Array Value} {z : Nat × Nat} (h : W.ownsRow B e k x m xs) (hg : W.heap[n]? = some (.cells cur t z)) (ht : t ≠ e) : ((W.setCell ⟨n, 0, none⟩ u).setCell ⟨n, 1, none⟩ v).ownsRow B e k x m xs :=
  have hn := row_ne h hg ht
  ownsRow_setCell_other (a := ⟨n, 1, none⟩) (ownsRow_setCell_other (a := ⟨n, 0, none⟩) h hn u) hn v
/-- The context that is being made: its box, its rows. -/
structure KSc (w : World) (c : CaV) (g : Nat) (v l : Value) (W : World) : Prop where
  kr : KR w c W
  out : W.heap[g]? = some (.cells #[v, l] 25 (0, 0))
  gb : w.heap.size + 1 < g
  rv : RowC W w.heap.size v c.vs
  rl : RowC W w.heap.size l c.ls
theorem KSc.new {w W : World} {c : CaV} {v l : Value} (h : KR w c W) (hv : RowC W w.heap.size v c.vs) (hl : RowC W w.heap.size l c.ls) : KSc w c W.heap.size v l (W.alloc (.cells #[v, l] 25)) :=
  have hb := (Below.refl W.heap.size W).alloc (Nat.le_refl _) (.cells #[v, l] 25)
  ⟨h.alloc _, heap_alloc_new W _, h.lt, hv.below hb, hl.below hb⟩
theorem KSc.set {w W : World} {c : CaV} {v l a b : Value} {g : Nat} (h : KR w c W) (hg : W.heap[g]? = some (.cells #[a, b] 25 (0, 0))) (hgg : w.heap.size + 1 < g) (hv : RowC W w.heap.size v c.vs) (hl : RowC W w.heap.size l c.ls) : KSc w c g v l ((W.setCell ⟨g, 0, none⟩ v).setCell ⟨g, 1, none⟩ l) :=
  ⟨h.set2 hgg _ _, box2_filled hg _ _, hgg, row_set2c hv hg (by decide), row_set2c hl hg (by decide)⟩
theorem KSc.next {w W W' : World} {c : CaV} {g : Nat} {v l : Value} (h : KSc w c g v l W) (hb : Below W.heap.size W W') : KSc w c g v l W' := ⟨h.kr.next hb, (hb.block g (Array.getElem?_eq_some_iff.1 h.out).1).trans h.out, h.gb, h.rv.below hb, h.rl.below hb⟩
theorem KSc.sp {w W : World} {c : CaV} {g : Nat} {v l : Value} (h : KSc w c g v l W) : W.cell? ⟨w.heap.size, 2, none⟩ = some c.i ∧ W.cell? ⟨g, 0, none⟩ = some v ∧ W.cell? ⟨g, 1, none⟩ = some l ∧ w.heap.size < W.heap.size ∧ g < W.heap.size := by
  obtain ⟨_, s0, s1, f0, f1, hgl⟩ := box2_kept (Below.refl _ W) h.out
  exact ⟨h.kr.sp.2.2.1, s0, s1, h.kr.sp.2.2.2.1, hgl⟩
theorem cell_off3 {W : World} {b o n : Nat} {u v z x : Value} (h : W.cell? ⟨b, o, none⟩ = some x) (hb : b ≠ n) : (((W.setCell ⟨n, 0, none⟩ u).setCell ⟨n, 1, none⟩ v).setCell ⟨n, 2, none⟩ z).cell? ⟨b, o, none⟩ = some x := by
  unfold World.cell? at h ⊢
  rw [set3_other W n b u v z hb]; exact h
theorem KSc.sp3 {w W : World} {c : CaV} {g : Nat} {v l : Value} (h : KSc w c g v l W) (x y z : Value) : (((W.setCell ⟨w.heap.size + 1, 0, none⟩ x).setCell ⟨w.heap.size + 1, 1, none⟩ y).setCell ⟨w.heap.size + 1, 2, none⟩ z).cell? ⟨w.heap.size, 2, none⟩ = some c.i ∧ (((W.setCell ⟨w.heap.size + 1, 0, none⟩ x).setCell ⟨w.heap.size + 1, 1, none⟩ y).setCell ⟨w.heap.size + 1, 2, none⟩ z).cell? ⟨g, 0, none⟩ = some v ∧ (((W.setCell ⟨w.heap.size + 1, 0, none⟩ x).setCell ⟨w.heap.size + 1, 1, none⟩ y).setCell ⟨w.heap.size + 1, 2, none⟩ z).cell? ⟨g, 1, none⟩ = some l ∧ w.heap.size < (((W.setCell ⟨w.heap.size + 1, 0, none⟩ x).setCell ⟨w.heap.size + 1, 1, none⟩ y).setCell ⟨w.heap.size + 1, 2, none⟩ z).heap.size ∧ g < (((W.setCell ⟨w.heap.size + 1, 0, none⟩ x).setCell ⟨w.heap.size + 1, 1, none⟩ y).setCell ⟨w.heap.size + 1, 2, none⟩ z).heap.size := by
  have hg := h.gb
  obtain ⟨h1, h2, h3, h4, h5⟩ := h.sp
  exact ⟨cell_off3 h1 (by omega), cell_off3 h2 (by omega), cell_off3 h3 (by omega), by simpa using h4, by simpa using h5⟩
theorem KR.items {w W : World} {c : CaV} (h : KR w c W) : HoldsX W c.i c.xs := h.kb.ok.2.2
end

section
open Go.RowKit

theorem ownBlock_or (v : Value) : v.ownBlock = none ∨ v.ownBlock ≠ none := by cases v.ownBlock <;> simp
theorem row_below {W W' : World} {B k n : Nat} {e : TypeId} {v : Value} {xs : List Value} (h : W.ownsRow B e k v n xs) (hb : Below W.heap.size W W') : W'.ownsRow B e k v n xs :=
  h.kept (grown_of_below hb none) (ownBlock_or v)
theorem keep_typed {W W' : World} {B B' k k' n n' : Nat} {e e' : TypeId} {v v' : Value} {xs xs' : List Value} (h : W.ownsRow B e k v n xs) (h' : W.ownsRow B' e' k' v' n' xs') (ht : e ≠ e') (hg : W.grownBy W' v'.ownBlock) : W'.ownsRow B e k v n xs := by
  refine h.kept hg ?_
  rcases h'.2 with ⟨e1, _⟩ | ⟨g, cap, cur, e1, _, hgg, _⟩
  · subst e1; exact ownBlock_or v
  · right; subst e1; exact row_ne h hgg (Ne.symm ht)
theorem blk_typed {W W' : World} {B' k' n' N : Nat} {e' t : TypeId} {v' : Value} {xs' : List Value} {cur : Array Value} {z : Nat × Nat} (h : W.heap[N]? = some (.cells cur t z)) (h' : W.ownsRow B' e' k' v' n' xs') (ht : t ≠ e') (hg : W.grownBy W' v'.ownBlock) : W'.heap[N]? = some (.cells cur t z) :=
  (hg.block N (Array.getElem?_eq_some_iff.1 h).1 (fun e => row_ne h' h ht e.symm)).trans h
theorem KR.far {w W W' : World} {c : CaV} {row : Option Nat} (h : KR w c W) (hg : W.grownBy W' row) (hr : ∀ k, row = some k → w.heap.size + 1 < k) : KR w c W' :=
  ⟨h.kb.grown hg (fun k hk => by have := hr k hk; omega), (hg.block _ h.lt (fun e => by have := hr _ e.symm; omega)).trans h.res⟩

/-- The state of Canon's loop: the list and its rows of marks, the names and the dots so far. -/
structure KL (w : World) (c : CaV) (B : Nat) (A : Option Addr) (d : Nat) (ys : List ItV) (u v : Value) (ns : List (List UInt8)) (ds : List (Int × Int)) (W : World) : Prop where
  kr : KR w c W
  own : OwnI W B (.slice A ys.length d) ys
  ap : ApartI ys
  rs : RowS W B u ns
  rd : RowC W B v ds
  hB : w.heap.size + 1 < B
  bB : B ≤ W.heap.size
section
variable {w W W' : World} {c : CaV} {B d : Nat} {A : Option Addr} {ys : List ItV} {u v : Value} {ns : List (List UInt8)} {ds : List (Int × Int)}
theorem KL.next (h : KL w c B A d ys u v ns ds W) (hb : Below W.heap.size W W') : KL w c B A d ys u v ns ds W' :=
  ⟨h.kr.next hb, h.own.below hb, h.ap, row_below h.rs hb, row_below h.rd hb, h.hB, Nat.le_trans h.bB hb.size⟩
theorem KL.alloc (h : KL w c B A d ys u v ns ds W) (o : Obj) : KL w c B A d ys u v ns ds (W.alloc o) := h.next ((Below.refl _ _).alloc (Nat.le_refl _) _)
theorem ApartI.ne (h : ApartI ys) {j k : Nat} {y z : ItV} (hj : ys[j]? = some z) (hk : ys[k]? = some y) (hne : j ≠ k) : (slV z).ownBlock = none ∨ (slV z).ownBlock ≠ (slV y).ownBlock := by
  obtain ⟨hj', ej⟩ := List.getElem?_eq_some_iff.1 hj
  obtain ⟨hk', ek⟩ := List.getElem?_eq_some_iff.1 hk
  unfold ApartI at h
  rw [List.pairwise_iff_getElem] at h
  cases e : (slV z).ownBlock with
  | none => exact .inl rfl
  | some g =>
    right
    rcases Nat.lt_or_ge j k with hlt | hge
    · have := h j k hj' hk' hlt g (by rw [ej]; exact e)
      rw [ek] at this
      exact fun e2 => this e2.symm
    · have hlt : k < j := by omega
      intro e2
      have := h k j hk' hj' hlt g (by rw [ek]; exact e2.symm)
      rw [ej] at this
      exact this e
theorem ApartI.map (h : ApartI ys) {zs : List ItV} (he : zs.map (fun y => (slV y).ownBlock) = ys.map (fun y => (slV y).ownBlock)) : ApartI zs := by
  unfold ApartI at h ⊢
  have h1 : (ys.map fun y => (slV y).ownBlock).Pairwise fun a b => ∀ g, a = some g → b ≠ some g := by rw [List.pairwise_map]; exact h
  rw [← he, List.pairwise_map] at h1
  exact h1
theorem KL.names (h : KL w c B A d ys u v ns ds W) {u' : Value} {ns' : List (List UInt8)} (hg : W.grownBy W' u.ownBlock) (hr : RowS W' B u' ns') : KL w c B A d ys u' v ns' ds W' :=
  ⟨h.kr.far hg fun j hj => by have := (h.rs.lt j hj).1; have := h.hB; omega, ⟨keep_typed h.own.1 h.rs (by decide) hg, fun z hz => keep_typed (h.own.2 z hz) h.rs (by decide) hg⟩, h.ap, hr, keep_typed h.rd h.rs (by decide) hg, h.hB, Nat.le_trans h.bB hg.size⟩
theorem KL.dots (h : KL w c B A d ys u v ns ds W) {v' : Value} {ds' : List (Int × Int)} (hg : W.grownBy W' v.ownBlock) (hr : RowC W' B v' ds') : KL w c B A d ys u v' ns ds' W' :=
  ⟨h.kr.far hg fun j hj => by have := (h.rd.lt j hj).1; have := h.hB; omega, ⟨keep_typed h.own.1 h.rd (by decide) hg, fun z hz => keep_typed (h.own.2 z hz) h.rd (by decide) hg⟩, h.ap, keep_typed h.rs h.rd (by decide) hg, hr, h.hB, Nat.le_trans h.bB hg.size⟩
theorem KL.items (h : KL w c B A d ys u v ns ds W) : ItemsAt W A ys := by
  obtain ⟨A', m, e, h1, _⟩ := h.own.holds
  injection e with e1 e2 e3
  rw [e1]; exact h1
end

end

end Go.Proofs.YtfjbocipjmpogaaGreat
