/- Several texts in one: JoiH, CtxH, CtxM, CtxW, JoiI, JoiJ, JoiP, JoiQ, JoiR, SpG, DelA. -/
import Derived.Test.YtiaehpdgpjhecaaGreatPAT
import Derived.Deep.CutBlock
import Derived.Test.YtiaehpdgpjhecaaGreatPAL
import Derived.Test.YtiaehpdgpjhecaaGreatPAM
import Derived.Test.YtiaehpdgpjhecaaGreatPAS
import Derived.Test.YtiaehpdgpjhecaaGreatPAR
import Derived.Test.YtiaehpdgpjhecaaGreatPAF
import Derived.Test.YtiaehpdgpjhecaaGreatPAN
import Derived.Test.YtiaehpdgpjhecaaGreatPAH
import Derived.Test.YtiaehpdgpjhecaaGreatPAG
namespace Go.Proofs.YtiaehpdgpjhecaaGreat

section
open Go.RowKit

theorem RowT.ne {W : World} {B : Nat} {v u : Value} {ys : List ItV} {ms : List Mk} (h : RowT W B v ys) (hm : RowM W B u ms) : u.ownBlock = none ∨ u.ownBlock ≠ v.ownBlock := by
  rcases RowM.form hm with ⟨rfl, _⟩ | ⟨g, c, cur, rfl, _, hg⟩
  · exact .inl rfl
  · refine .inr ?_
    rcases h.2 with ⟨rfl, _⟩ | ⟨g', cap, cur', rfl, _, hg', _⟩
    · simp [Value.ownBlock]
    · intro e
      have e2 : g = g' := by simpa [Value.ownBlock] using e
      subst e2
      rw [hg] at hg'
      injection hg' with h1
      injection h1 with _ h2 _
      exact absurd h2 (by decide)
/-- One item more, without marks. -/
theorem OwnI.more {W w1 : World} {B : Nat} {v v1 : Value} {ys : List ItV} {nm : List UInt8} (h : OwnI W B v ys) (ho : RowT w1 B v1 (ys ++ [⟨nm, none, 0, []⟩])) (hg : W.grownBy w1 v.ownBlock) : OwnI w1 B v1 (ys ++ [⟨nm, none, 0, []⟩]) := by
  refine ⟨ho, fun y hy => ?_⟩
  rcases List.mem_append.1 hy with hy | hy
  · exact World.ownsRow.kept (h.2 y hy) hg (RowT.ne h.1 (h.2 y hy))
  · obtain rfl : y = ⟨nm, none, 0, []⟩ := by simpa using hy
    exact World.ownsRow_nil _ _ _ _

section
variable (w0 W0 : World) (B gi gH N cap : Nat) (zs : List ItV) (x : ItV) (h : Hd)
variable {w0 W0 B gi gH N cap zs x h}
end

theorem OwnI.parts {W : World} {B : Nat} {v : Value} {zs : List ItV} {x : ItV} (h : OwnI W B v (zs ++ [x])) : ∃ g c, v = .slice (some ⟨g, 0, none⟩) (zs.length + 1) c ∧ B ≤ g ∧ g < W.heap.size ∧ zs.length + 1 ≤ c ∧ W.cell? ⟨g, zs.length * 2, none⟩ = some (.string ⟨x.nm.toArray⟩) ∧ W.cell? ⟨g, zs.length * 2 + 1, none⟩ = some (slV x) ∧ W.frozen? ⟨g, zs.length * 2 + 1, none⟩ = false := by
  obtain ⟨g, c, cur, hv, hB, hg⟩ := RowT.form h.1 (by simp)
  have hr := h.1
  rw [hv] at hr
  have hl : (zs ++ [x]).length = zs.length + 1 := by simp
  have hr2 : W.ownsRow B 50 2 (.slice (some ⟨g, 0, none⟩) (zs ++ [x]).length c) (zs ++ [x]).length (cellsOf encIt (zs ++ [x])) := hr
  obtain ⟨a1, a2, _, a4⟩ := own_it hr2 (j := zs.length) (x := x) (by simp)
  have hcap : (zs ++ [x]).length ≤ c := by
    rcases hr2.2 with ⟨e, _⟩ | ⟨g', c', cur', e, _, _, hn, _⟩
    · cases e
    · cases e; exact hn
  rw [hl] at hv hcap
  exact ⟨g, c, hv, hB, (Array.getElem?_eq_some_iff.1 hg).1, hcap, a1, a2, a4⟩

end

section
open Go.RowKit

/-- What holds while the answer's block waits, of two contexts. -/
def KU (w0 : World) (g : Nat) (x y x' y' : Value) (L : List (Value × List (Int × Int))) (W : World) : Prop :=
  Blk2 W g x y ∧ Blk2 W (g + 1) x' y' ∧ Blk2 W (g + 1 + 1) (.slice none 0 0) (.slice none 0 0) ∧ Below w0.heap.size w0 W ∧ ∀ p ∈ L, Holds W p.1 p.2
section
variable {w0 W W' : World} {g : Nat} {x y x' y' : Value} {L : List (Value × List (Int × Int))}
theorem KU.h {v : Value} {xs : List (Int × Int)} (h : KU w0 g x y x' y' L W) (hm : (v, xs) ∈ L) : Holds W v xs := h.2.2.2.2 _ hm
theorem KU.below (h : KU w0 g x y x' y' L W) (hb : Below W.heap.size W W') : KU w0 g x y x' y' L W' := ⟨h.1.below hb, h.2.1.below hb, h.2.2.1.below hb, below_trans h.2.2.2.1 hb, fun p hp => (h.2.2.2.2 p hp).below hb⟩
theorem KU.drew (h : KU w0 g x y x' y' L W) : KU w0 g x y x' y' L W.drew := h.below (Below.refl _ W).drew
theorem KU.cells (h : KU w0 g x y x' y' L W) : W.cell? ⟨g, 0, none⟩ = some x ∧ W.cell? ⟨g, 1, none⟩ = some y ∧ W.cell? ⟨g + 1, 0, none⟩ = some x' ∧ W.cell? ⟨g + 1, 1, none⟩ = some y' ∧ W.cell? ⟨g + 1 + 1, 0, none⟩ = some (.slice none 0 0) ∧ W.cell? ⟨g + 1 + 1, 1, none⟩ = some (.slice none 0 0) ∧ W.frozen? ⟨g + 1 + 1, 0, none⟩ = false ∧ W.frozen? ⟨g + 1 + 1, 1, none⟩ = false :=
  ⟨h.1.cell0, h.1.cell1, h.2.1.cell0, h.2.1.cell1, h.2.2.1.cell0, h.2.2.1.cell1, h.2.2.1.frozen 0, h.2.2.1.frozen 1⟩
end
end

section
open Go.RowKit

/-- What holds of two contexts' boxes and of a third box, whatever this holds. -/
def KBm (w0 : World) (g : Nat) (x y x' y' : Value) (L : List (Value × List (Int × Int))) (W : World) : Prop :=
  Blk2 W g x y ∧ Blk2 W (g + 1) x' y' ∧ (∃ A n c B m d, Blk2 W (g + 1 + 1) (.slice A n c) (.slice B m d)) ∧ Below w0.heap.size w0 W ∧ ∀ p ∈ L, Holds W p.1 p.2
def KCm (w0 : World) (g : Nat) (x y x' y' : Value) (L : List (Value × List (Int × Int))) (W : World) : Prop :=
  W.cell? ⟨g, 0, none⟩ = some x ∧ W.cell? ⟨g, 1, none⟩ = some y ∧ W.cell? ⟨g + 1, 0, none⟩ = some x' ∧ W.cell? ⟨g + 1, 1, none⟩ = some y' ∧ KBm w0 g x y x' y' L W
section
variable {w0 W W' : World} {g : Nat} {x y x' y' : Value} {L : List (Value × List (Int × Int))}
theorem KCm.mk (h : KBm w0 g x y x' y' L W) : KCm w0 g x y x' y' L W := ⟨h.1.cell0, h.1.cell1, h.2.1.cell0, h.2.1.cell1, h⟩
theorem KCm.kb (h : KCm w0 g x y x' y' L W) : KBm w0 g x y x' y' L W := h.2.2.2.2
theorem KBm.below (h : KBm w0 g x y x' y' L W) (hb : Below W.heap.size W W') : KBm w0 g x y x' y' L W' := by
  obtain ⟨h1, h2, ⟨A, n, c, B, m, d, h3⟩, h4, h5⟩ := h
  exact ⟨h1.below hb, h2.below hb, ⟨A, n, c, B, m, d, h3.below hb⟩, below_trans h4 hb, fun p hp => (h5 p hp).below hb⟩
theorem KCm.h {v : Value} {xs : List (Int × Int)} (h : KCm w0 g x y x' y' L W) (hm : (v, xs) ∈ L) : Holds W v xs := h.kb.2.2.2.2 _ hm
theorem KCm.below (h : KCm w0 g x y x' y' L W) (hb : Below W.heap.size W W') : KCm w0 g x y x' y' L W' := .mk (h.kb.below hb)
theorem KCm.drew (h : KCm w0 g x y x' y' L W) : KCm w0 g x y x' y' L W.drew := h.below (Below.refl _ W).drew
theorem KCm.store (h : KCm w0 g x y x' y' L W) (hg : w0.heap.size ≤ g) (A : Option Addr) (n c : Nat) (B : Option Addr) (m d : Nat) : KCm w0 g x y x' y' L ((W.setCell ⟨g + 1 + 1, 0, none⟩ (.slice A n c)).setCell ⟨g + 1 + 1, 1, none⟩ (.slice B m d)) := by
  obtain ⟨h1, h2, ⟨A', n', c', B', m', d', h3⟩, h4, h5⟩ := h.kb
  refine .mk ⟨(h1.other (by omega) 0 _).other (by omega) 1 _, (h2.other (by omega) 0 _).other (by omega) 1 _, ⟨_, _, _, _, _, _, h3.set _ _⟩, below_set2 h4 (by omega) _ _, fun p hp => ?_⟩
  exact (h5 p hp).set2 h3 (by intro z; simp) (by intro z; simp)
theorem KCm.third (h : KCm w0 g x y x' y' L W) : ∃ A n c B m d, W.cell? ⟨g + 1 + 1, 0, none⟩ = some (.slice A n c) ∧ W.cell? ⟨g + 1 + 1, 1, none⟩ = some (.slice B m d) ∧ W.frozen? ⟨g + 1 + 1, 0, none⟩ = false ∧ W.frozen? ⟨g + 1 + 1, 1, none⟩ = false ∧ Blk2 W (g + 1 + 1) (.slice A n c) (.slice B m d) := by
  obtain ⟨A, n, c, B, m, d, h3⟩ := h.kb.2.2.1
  exact ⟨A, n, c, B, m, d, h3.cell0, h3.cell1, h3.frozen 0, h3.frozen 1, h3⟩
end

end

section
open Go.RowKit

theorem CtxR.t {us rs : List (Int × Int)} {w w' : World} {e : Ending} (h : CtxR true us rs w e w') : (∃ A n B m, e = .returned (.tuple #[.agg #[.slice A us.length n, .slice B rs.length m], .int .i64 0]) ∧ MineV w w' (.slice A us.length n) us ∧ MineV w w' (.slice B rs.length m) rs) ∧ Below w.heap.size w w' := by
  obtain ⟨⟨h1, _⟩, hb⟩ := h
  obtain ⟨x, y, he, hx, hy⟩ := h1 rfl
  have hx0 := hx
  have hy0 := hy
  obtain ⟨A, n, rfl, _⟩ := hx.holds
  obtain ⟨B, m, rfl, _⟩ := hy.holds
  exact ⟨⟨A, n, B, m, he, hx0, hy0⟩, hb⟩
theorem CtxR.f {us rs : List (Int × Int)} {w w' : World} {e : Ending} (h : CtxR false us rs w e w') : e = .returned (.tuple #[.agg #[.slice none 0 0, .slice none 0 0], .int .i64 2]) ∧ Below w.heap.size w w' := ⟨h.1.2 rfl, h.2⟩

set_option maxRecDepth 100000 in
set_option maxHeartbeats 2000000 in
theorem ctxOf (x : Value) (m : List (Int × Int)) (w : World) (hx : Holds w x m) (hm : m.length ≤ 3000) :
    Calls Tryz.prog 108 #[x] w fun e w' => CtxR (okL m) (addC [] [] m).1 (addC [] [] m).2 w e w' := by
  have hal : Below w.heap.size w (w.alloc (.cells #[.slice none 0 0, .slice none 0 0] 25)) := (Below.refl _ w).alloc (Nat.le_refl _) _
  have hbx : Blk2 (w.alloc (.cells #[.slice none 0 0, .slice none 0 0] 25)) w.heap.size (.slice none 0 0) (.slice none 0 0) := heap_alloc_new w _
  have HA := ctxAdd (.agg #[.slice none 0 0, .slice none 0 0]) x [] [] m _ (HoldsC.mk (Holds.nil _) (Holds.nil _)) (hx.below hal) (by simpa using hm)
  rw [show (validC [] [] && okL m) = okL m from rfl] at HA
  obtain ⟨us, rs, hz⟩ : ∃ us rs, addC [] [] m = (us, rs) := ⟨_, _, rfl⟩
  rw [hz] at HA ⊢
  have HAL := Lib.hid hal
  have HBX := Lib.hid hbx
  cases hok : okL m with
  | false =>
    rw [hok] at HA
    have H := Lib.hid (HA.mono fun e w' h => h.f)
    clear HA hok hx hal hbx hz
    go_enter Tryz.func108, Tryz.ntmps108
    go_wp2_with fail
    refine H.out.mono ?_
    rintro e w1 ⟨rfl, hb1⟩
    have y1 := HBX.out.below hb1
    have B1 := Lib.hid (below_trans HAL.out hb1)
    have Y1 := Lib.hid y1
    have d0 := y1.cell0
    have d1 := y1.cell1
    have f0 := y1.frozen 0
    have f1 := y1.frozen 1
    clear hb1 y1
    go_wp2_with fail
    have hs := Y1.out.set (.slice none 0 0) (.slice none 0 0)
    have s6 := hs.cell0
    have s7 := hs.cell1
    refine bodyPost_ret (v := .tuple #[.agg #[.slice none 0 0, .slice none 0 0], .int .i64 2]) (by simp [results, Tryz.results108, go_sem, s6, s7]) rfl ⟨⟨fun h => (by cases h), fun _ => rfl⟩, below_set2 B1.out (Nat.le_refl _) _ _⟩
  | true =>
    rw [hok] at HA
    have H := Lib.hid (HA.mono fun e w' h => h.t)
    clear HA hok hx hal hbx hz
    go_enter Tryz.func108, Tryz.ntmps108
    go_wp2_with fail
    refine H.out.mono ?_
    rintro e w1 ⟨⟨A5, n5, B5, m5, rfl, hv5, hv6⟩, hb1⟩
    have y1 := HBX.out.below hb1
    have B1 := Lib.hid (below_trans HAL.out hb1)
    have Y1 := Lib.hid y1
    have d0 := y1.cell0
    have d1 := y1.cell1
    have f0 := y1.frozen 0
    have f1 := y1.frozen 1
    have H5 := Lib.hid hv5
    have H6 := Lib.hid hv6
    clear hb1 y1 hv5 hv6
    go_wp2_with fail
    have hs := Y1.out.set (.slice A5 us.length n5) (.slice B5 rs.length m5)
    have s6 := hs.cell0
    have s7 := hs.cell1
    refine bodyPost_ret (v := .tuple #[.agg #[.slice A5 us.length n5, .slice B5 rs.length m5], .int .i64 0]) (by simp [results, Tryz.results108, go_sem, s6, s7]) rfl ⟨⟨fun _ => ⟨_, _, rfl, ?_, ?_⟩, fun h => (by cases h)⟩, below_set2 B1.out (Nat.le_refl _) _ _⟩
    · exact H5.out.set2 (by simp) (by simp) B1.out (Nat.le_refl _) _ _
    · exact H6.out.set2 (by simp) (by simp) B1.out (Nat.le_refl _) _ _

theorem KCm.bound {w0 W : World} {g : Nat} {x y x' y' : Value} {L : List (Value × List (Int × Int))} (h : KCm w0 g x y x' y' L W) : g + 1 + 1 < W.heap.size ∧ w0.heap.size ≤ W.heap.size := by
  obtain ⟨A, n, c, B, m, d, h3⟩ := h.kb.2.2.1
  exact ⟨h3.lt, h.kb.2.2.2.1.size⟩
theorem KCm.bel {w0 W : World} {g : Nat} {x y x' y' : Value} {L : List (Value × List (Int × Int))} (h : KCm w0 g x y x' y' L W) : Below w0.heap.size w0 W := h.kb.2.2.2.1

end

section
open Go.RowKit

/-- Not too much for Join. -/
structure FitsP (c d : CaV) : Prop where
  kc : FitsK c
  kd : FitsK d
  cd : FitsJ c d
  dc : FitsJ d c
  un : c.vs.length + c.ls.length + (d.vs.length + d.ls.length) ≤ 3000
theorem dotsI_cnt (l : List It) : (dotsI l).length ≤ cntM l := by
  rw [dotsI_all, ← allD_len]
  exact setL_len _
theorem FitsP.of {n m : Nat} {c d : CaV} (hc : SizeK n c.ca) (hd : SizeK m d.ca) (hn : n ≤ 9) (hm : m ≤ 9) : FitsP c d := by
  have f : ∀ {n : Nat} {c : CaV}, SizeK n c.ca → n ≤ 9 → Fits c.xs := fun {n c} h hn => by
    refine ⟨by have := h.num; rw [ca_x, its_len] at this; omega, fun x hx => ?_⟩
    have := h.one x.it (List.mem_map.2 ⟨x, hx, rfl⟩)
    have h1 : x.nm.length ≤ 100 := this.1
    have h2 : x.ms.length ≤ 10 * n := this.2
    omega
  have l : ∀ {n : Nat} {c : CaV}, SizeK n c.ca → n ≤ 9 → (dotsI (its c.xs)).length ≤ 1800 := fun {n c} h hn => by
    have h1 := dotsI_cnt (its c.xs)
    have h2 := h.cnt
    rw [ca_x] at h2
    omega
  have h1 := hc.dots
  have h2 := hd.dots
  rw [ca_v, ca_l] at h1 h2
  have h3 := l hc hn
  have h4 := l hd hm
  exact ⟨⟨f hc hn, by omega⟩, ⟨f hd hm, by omega⟩, ⟨f hc hn, f hd hm, by omega⟩, ⟨f hd hm, f hc hn, by omega⟩, by omega⟩

abbrev zC : CaV := ⟨none, 0, [], none, 0, [], none, 0, []⟩
theorem zC_ok (W : World) : CaOK W zC := ⟨Holds.nil W, Holds.nil W, HoldsX.nil W⟩
/-- A cart that was made. -/
structure OwnC (W : World) (B : Nat) (z : CaV) : Prop where
  v : RowC W B z.v z.vs
  l : RowC W B z.l z.ls
  i : OwnI W B z.i z.xs
theorem OwnC.below {W W' : World} {B : Nat} {z : CaV} (h : OwnC W B z) (hb : Below W.heap.size W W') : OwnC W' B z := ⟨h.v.below hb, h.l.below hb, h.i.below hb⟩
theorem RowC.holds {W : World} {B : Nat} {v : Value} {ds : List (Int × Int)} (h : RowC W B v ds) : Holds W v ds := by
  obtain ⟨A, c, rfl, h1, h2, h3⟩ := SlAt.of_own encD_len h
  exact ⟨A, c, rfl, h3, h1, h2⟩
theorem OwnC.ok {W : World} {B : Nat} {z : CaV} (h : OwnC W B z) : CaOK W z := ⟨h.v.holds, h.l.holds, h.i.holds⟩
theorem OwnC.le {W : World} {B B' : Nat} {z : CaV} (h : OwnC W B z) (hb : B' ≤ B) : OwnC W B' z := ⟨Joins.ownsRow_le h.v hb, Joins.ownsRow_le h.l hb, h.i.le hb⟩
theorem OwnC.nil (W : World) (B : Nat) : OwnC W B zC := ⟨World.ownsRow_nil _ _ _ _, World.ownsRow_nil _ _ _ _, OwnI.nil _ _⟩

/-- While Join runs: both carts in their boxes, the box of the result. -/
structure KJ (w : World) (c d : CaV) (W : World) : Prop where
  kk : KK w [(w.heap.size, c), (w.heap.size + 1, d)] W
  res : BlkC W (w.heap.size + 2) zC
section
variable {w W W' : World} {c d : CaV}
theorem KJ.next (h : KJ w c d W) (hb : Below W.heap.size W W') : KJ w c d W' := ⟨h.kk.next hb, h.res.below hb⟩
theorem KJ.drew (h : KJ w c d W) : KJ w c d W.drew := h.next (Below.refl _ _).drew
theorem KJ.alloc (h : KJ w c d W) (o : Obj) : KJ w c d (W.alloc o) := h.next ((Below.refl _ _).alloc (Nat.le_refl _) o)
theorem KJ.sp (h : KJ w c d W) : W.cell? ⟨w.heap.size, 0, none⟩ = some c.v ∧ W.cell? ⟨w.heap.size, 1, none⟩ = some c.l ∧ W.cell? ⟨w.heap.size, 2, none⟩ = some c.i ∧ W.cell? ⟨w.heap.size + 1, 0, none⟩ = some d.v ∧ W.cell? ⟨w.heap.size + 1, 1, none⟩ = some d.l ∧ W.cell? ⟨w.heap.size + 1, 2, none⟩ = some d.i ∧ KJ w c d W := by
  obtain ⟨h0, h1, h2, h3, h4, h5, _⟩ := h.kk.sp2
  exact ⟨h0, h1, h2, h3, h4, h5, h⟩
theorem KJ.new (w : World) (c d : CaV) (hc : CaOK w c) (hd : CaOK w d) : KJ w c d (((w.alloc (.cells #[c.v, c.l, c.i] 28)).alloc (.cells #[d.v, d.l, d.i] 28)).alloc (.cells #[.slice none 0 0, .slice none 0 0, .slice none 0 0] 28)) := by
  have h1 := (Below.refl w.heap.size w).alloc (Nat.le_refl _) (.cells #[c.v, c.l, c.i] 28)
  have K0 := KK.push (L := [(w.heap.size, c)]) (KK.new w c hc) d (hd.below h1) (w.heap.size + 1) (by simp)
  refine ⟨K0.alloc _, ?_⟩
  have h2 := BlkC.new ((w.alloc (.cells #[c.v, c.l, c.i] 28)).alloc (.cells #[d.v, d.l, d.i] 28)) zC
  rw [World.size_alloc, World.size_alloc] at h2
  exact h2
end
theorem results_zero {W : World} {g : Nat} (h : BlkC W g zC) : W.cell? ⟨g, 0, none⟩ = some (.slice none 0 0) ∧ W.cell? ⟨g, 1, none⟩ = some (.slice none 0 0) ∧ W.cell? ⟨g, 2, none⟩ = some (.slice none 0 0) ∧ W.frozen? ⟨g, 0, none⟩ = false ∧ W.frozen? ⟨g, 1, none⟩ = false ∧ W.frozen? ⟨g, 2, none⟩ = false :=
  ⟨h.cell0, h.cell1, h.cell2, h.frozen _, h.frozen _, h.frozen _⟩
/-- A box of a cart, filled. -/
theorem BlkC.fill {W : World} {g : Nat} {c : CaV} (h : BlkC W g c) (a b e : Value) : (((W.setCell ⟨g, 0, none⟩ a).setCell ⟨g, 1, none⟩ b).setCell ⟨g, 2, none⟩ e).heap[g]? = some (.cells #[a, b, e] 28 (0, 0)) := boxC_filled h a b e
theorem below_fill {w W : World} {B g : Nat} (h : Below B w W) (hg : B ≤ g) (a b e : Value) : Below B w (((W.setCell ⟨g, 0, none⟩ a).setCell ⟨g, 1, none⟩ b).setCell ⟨g, 2, none⟩ e) :=
  ((h.setCell (p := ⟨g, 0, none⟩) hg _).setCell (p := ⟨g, 1, none⟩) hg _).setCell (p := ⟨g, 2, none⟩) hg _

end

section
open Go.RowKit

/-- The same, with nothing that lay in a world behind changed. -/
structure KJ2 (w : World) (c d : CaV) (w6 : World) (W : World) : Prop where
  kj : KJ w c d W
  bel : Below w6.heap.size w6 W
section
variable {w w6 W W' : World} {c d : CaV}
theorem KJ2.next (h : KJ2 w c d w6 W) (hb : Below W.heap.size W W') : KJ2 w c d w6 W' := ⟨h.kj.next hb, below_trans h.bel hb⟩
theorem KJ2.drew (h : KJ2 w c d w6 W) : KJ2 w c d w6 W.drew := h.next (Below.refl _ _).drew
theorem KJ2.alloc (h : KJ2 w c d w6 W) (o : Obj) : KJ2 w c d w6 (W.alloc o) := h.next ((Below.refl _ _).alloc (Nat.le_refl _) o)
theorem KJ2.sp (h : KJ2 w c d w6 W) : W.cell? ⟨w.heap.size, 0, none⟩ = some c.v ∧ W.cell? ⟨w.heap.size, 1, none⟩ = some c.l ∧ W.cell? ⟨w.heap.size, 2, none⟩ = some c.i ∧ W.cell? ⟨w.heap.size + 1, 0, none⟩ = some d.v ∧ W.cell? ⟨w.heap.size + 1, 1, none⟩ = some d.l ∧ W.cell? ⟨w.heap.size + 1, 2, none⟩ = some d.i ∧ KJ2 w c d w6 W := by
  obtain ⟨h0, h1, h2, h3, h4, h5, _⟩ := h.kj.sp
  exact ⟨h0, h1, h2, h3, h4, h5, h⟩
end
section
variable (w : World) (c d : CaV) (zv zl lv : Value) (zvs zls : List (Int × Int)) (is : List It) (gx : Nat) (D : Option Addr) (dl : List Hd)
variable {w c d zv zl lv zvs zls is gx D dl}
end
theorem OwnI.set3 {W : World} {B n : Nat} {v u a b : Value} {ys : List ItV} {cur : Array Value} {z : Nat × Nat} (h : OwnI W B v ys) (hg : W.heap[n]? = some (.cells cur 28 z)) : OwnI (((W.setCell ⟨n, 0, none⟩ u).setCell ⟨n, 1, none⟩ a).setCell ⟨n, 2, none⟩ b) B v ys :=
  ⟨row_set3 h.1 hg (by decide), fun y hy => row_set3 (h.2 y hy) hg (by decide)⟩

end

section
open Go.RowKit

theorem CaV.num {c : CaV} {n : Nat} (h : SizeK n c.ca) : c.xs.length ≤ 20 * n := by
  have := h.num
  rwa [ca_x, its_len] at this
/-- A cart that a call has made, with an error. -/
def MadeE (x : Ca) (k : Int) (w : World) (e : Ending) (w' : World) : Prop := (∃ z : CaV, e = .returned (.tuple #[mkC z, .int .i64 k]) ∧ z.ca = x ∧ OwnC w' w.heap.size z) ∧ Below w.heap.size w w'
end

section
open Go.RowKit Go.Maps

end

section
open Go.RowKit

/-- Carts in a row. -/
abbrev encCa (c : CaV) : List Value := [c.v, c.l, c.i]
structure CartsAt (W : World) (A : Option Addr) (cs : List CaV) : Prop where
  row : SlAt encCa 3 W A cs
  ok : ∀ c ∈ cs, CaOK W c
theorem CartsAt.below {W W' : World} {A : Option Addr} {cs : List CaV} (h : CartsAt W A cs) (hb : Below W.heap.size W W') : CartsAt W' A cs := ⟨h.row.below hb, fun c hc => (h.ok c hc).below hb⟩
theorem CartsAt.at {W : World} {A : Option Addr} {cs : List CaV} (h : CartsAt W A cs) {j : Nat} (hj : j < cs.length) :
    ∃ b off, ∃ c : CaV, A = some ⟨b, off, none⟩ ∧ b < W.heap.size ∧ cs[j]? = some c ∧ W.cell? ⟨b, off + j * 3, none⟩ = some c.v ∧ W.cell? ⟨b, off + j * 3 + 1, none⟩ = some c.l ∧ W.cell? ⟨b, off + j * 3 + 2, none⟩ = some c.i ∧ CaOK W c := by
  obtain ⟨b, off, rfl, hb, hc⟩ := h.row (by omega)
  have hx := List.getElem?_eq_getElem hj
  exact ⟨b, off, cs[j], rfl, hb, hx, by simpa using hc j _ hx 0 _ rfl, hc j _ hx 1 _ rfl, hc j _ hx 2 _ rfl, h.ok _ (List.getElem_mem hj)⟩
theorem CartsAt.take {W : World} {A : Option Addr} {cs : List CaV} (h : CartsAt W A cs) (m : Nat) : CartsAt W A (cs.take m) := ⟨h.row.take m, fun c hc => h.ok c (List.mem_of_mem_take hc)⟩

theorem OwnC.fill {W : World} {B g : Nat} {z c : CaV} {u a b : Value} (h : OwnC W B z) (hg : BlkC W g c) : OwnC (((W.setCell ⟨g, 0, none⟩ u).setCell ⟨g, 1, none⟩ a).setCell ⟨g, 2, none⟩ b) B z :=
  ⟨row_set3 h.v hg (by decide), row_set3 h.l hg (by decide), h.i.set3 hg⟩
theorem fill_cells {W : World} {g : Nat} {c : CaV} (h : BlkC W g c) (u a b : Value) : (((W.setCell ⟨g, 0, none⟩ u).setCell ⟨g, 1, none⟩ a).setCell ⟨g, 2, none⟩ b).cell? ⟨g, 0, none⟩ = some u ∧ (((W.setCell ⟨g, 0, none⟩ u).setCell ⟨g, 1, none⟩ a).setCell ⟨g, 2, none⟩ b).cell? ⟨g, 1, none⟩ = some a ∧ (((W.setCell ⟨g, 0, none⟩ u).setCell ⟨g, 1, none⟩ a).setCell ⟨g, 2, none⟩ b).cell? ⟨g, 2, none⟩ = some b := by
  have h1 := BlkC.fill h u a b
  exact ⟨by simp only [World.cell?, h1]; rfl, by simp only [World.cell?, h1]; rfl, by simp only [World.cell?, h1]; rfl⟩
/-- The box of the result, filled. -/
theorem MadeE.fill {w W : World} {z : CaV} {x : Ca} {k : Int} (hz : z.ca = x) (h : OwnC W w.heap.size z) (hr : BlkC W w.heap.size zC) (hb : Below w.heap.size w W) :
    MadeE x k w (.returned (.tuple #[mkC z, .int .i64 k])) (((W.setCell ⟨w.heap.size, 0, none⟩ z.v).setCell ⟨w.heap.size, 1, none⟩ z.l).setCell ⟨w.heap.size, 2, none⟩ z.i) :=
  ⟨⟨z, rfl, hz, h.fill hr⟩, below_fill hb (Nat.le_refl _) _ _ _⟩
theorem MadeE.alloc {x : Ca} {k : Int} {w W : World} {e : Ending} (h : MadeE x k w e W) (o : Obj) : MadeE x k w e (W.alloc o) := by
  obtain ⟨⟨z, he, hz, ho⟩, hb⟩ := h
  have hba := (Below.refl W.heap.size W).alloc (Nat.le_refl _) o
  exact ⟨⟨z, he, hz, ho.below hba⟩, below_trans hb hba⟩
theorem BlkC.frozens {W : World} {g : Nat} {c : CaV} (h : BlkC W g c) : W.frozen? ⟨g, 0, none⟩ = false ∧ W.frozen? ⟨g, 1, none⟩ = false ∧ W.frozen? ⟨g, 2, none⟩ = false := ⟨h.frozen _, h.frozen _, h.frozen _⟩

end

section
open Go.RowKit

/-- A value that is no slice. -/
def NoSl (u : Value) : Prop := ∀ A n c, u ≠ .slice A n c
/-- Rows are read as before where a box of slices is written. -/
theorem slices3 (V L I : Option Addr) (nv nl ni a b e : Nat) : ∀ u ∈ [Value.slice V a nv, Value.slice L b nl, Value.slice I e ni], ∃ A n c, u = .slice A n c := by
  intro u hu
  simp at hu
  rcases hu with rfl | rfl | rfl <;> exact ⟨_, _, _, rfl⟩
/-- Rows are read as before where only a box of slices changes. -/
theorem SlAt.off_only {α : Type} {enc : α → List Value} {k g : Nat} {W W' : World} {A : Option Addr} {xs : List α} {t : TypeId} {z : Nat × Nat} {cur : List Value} (h : SlAt enc k W A xs) (h0 : ∀ x, ∃ u, (enc x)[0]? = some u ∧ NoSl u)
    (hg : W.heap[g]? = some (.cells cur.toArray t z)) (hc : ∀ u ∈ cur, ∃ A n c, u = .slice A n c) (hs : W.heap.size ≤ W'.heap.size) (hk : ∀ b, b ≠ g → W'.heap[b]? = W.heap[b]?) : SlAt enc k W' A xs := fun hn => by
  obtain ⟨b, off, rfl, hlt, hcc⟩ := h hn
  have hbg : b ≠ g := by
    rintro rfl
    obtain ⟨u, hu, hne⟩ := h0 xs[0]
    have := hcc 0 _ (List.getElem?_eq_getElem hn) 0 u hu
    simp only [World.cell?, hg] at this
    have hm : u ∈ cur := by
      have h1 : cur.toArray[off + 0 * k + 0]? = some u := this
      rw [List.getElem?_toArray] at h1
      exact List.mem_of_getElem? h1
    obtain ⟨A, n, c, e⟩ := hc u hm
    exact hne A n c e
  exact ⟨b, off, rfl, Nat.lt_of_lt_of_le hlt hs, fun j x hx i u hu => by
    have := hcc j x hx i u hu
    unfold World.cell? at this ⊢
    rw [hk b hbg]; exact this⟩
theorem CaOK.off_only {g : Nat} {W W' : World} {c d : CaV} (h : CaOK W c) (hg : BlkC W g d) (hs : W.heap.size ≤ W'.heap.size) (hk : ∀ b, b ≠ g → W'.heap[b]? = W.heap[b]?) : CaOK W' c := by
  have hc := slices3 d.V d.L d.I d.nv d.nl d.ni d.vs.length d.ls.length d.xs.length
  have hg' : W.heap[g]? = some (.cells ([d.v, d.l, d.i] : List Value).toArray 28 (0, 0)) := hg
  have hd : ∀ {v : Value} {l : List (Int × Int)}, Holds W v l → Holds W' v l := fun {v l} ⟨A, n, e, h1, h2⟩ => ⟨A, n, e, SlAt.off_only h1 (fun x => ⟨_, rfl, fun _ _ _ e => by cases e⟩) hg' hc hs hk, h2⟩
  obtain ⟨h1, h2, A, n, e, h3, h4⟩ := h
  exact ⟨hd h1, hd h2, A, n, e, ⟨SlAt.off_only h3.1 (fun x => ⟨_, rfl, fun _ _ _ e => by cases e⟩) hg' hc hs hk, fun x hx => ⟨SlAt.off_only (h3.2 x hx).1 (fun y => ⟨_, rfl, fun _ _ _ e => by cases e⟩) hg' hc hs hk, (h3.2 x hx).2⟩⟩, h4⟩

theorem CaOK.items {W : World} {c : CaV} (h : CaOK W c) : ItemsAt W c.I c.xs := by
  obtain ⟨A, c', e, h1, _⟩ := h.2.2
  injection e with e1 _ _
  rw [e1]; exact h1


/-- What one value says. -/
inductive Sp where
  | eq (u : Value)
  | cart (x : Ca)
  | nums (l : List Int)
  | marks (l : List Mk)
  | carts (l : List Ca)
  | cbox
  | mbox
  | any
def Sp.holds (n : Nat) : Sp → Value → World → Prop
  | .eq u, v, _ => v = u
  | .cart x, v, W => ∃ z : CaV, v = mkC z ∧ z.ca = x ∧ CaOK W z
  | .nums l, v, W => ∃ q, v = .slice (some ⟨q, 0, none⟩) l.length l.length ∧ NumsAt W (some ⟨q, 0, none⟩) l
  | .marks l, v, W => ∃ A c, v = .slice A l.length c ∧ MarksAt W A l ∧ l.length ≤ c ∧ c ≤ maxLen
  | .carts l, v, W => ∃ A cap, ∃ cs : List CaV, v = .slice A cs.length cap ∧ CartsAt W A cs ∧ cs.map (·.ca) = l ∧ cs.length ≤ cap ∧ cap ≤ maxLen
  | .cbox, v, W => ∃ b, ∃ d : CaV, v = ptr0 b ∧ n ≤ b ∧ BlkC W b d
  | .mbox, v, W => ∃ b, ∃ m : Mk, v = ptr0 b ∧ n ≤ b ∧ BlkM W b m
  | .any, _, _ => True
theorem Sp.below {n : Nat} {s : Sp} {v : Value} {W W' : World} (h : s.holds n v W) (hb : Below W.heap.size W W') : s.holds n v W' := by
  match s, h with
  | .eq _, h => exact h
  | .cart _, ⟨z, h1, h2, h3⟩ => exact ⟨z, h1, h2, h3.below hb⟩
  | .nums _, ⟨q, h1, h2⟩ => exact ⟨q, h1, h2.below hb⟩
  | .marks _, ⟨A, c, h1, h2, h3⟩ => exact ⟨A, c, h1, h2.below hb, h3⟩
  | .carts _, ⟨A, c, cs, h1, h2, h3⟩ => exact ⟨A, c, cs, h1, h2.below hb, h3⟩
  | .cbox, ⟨b, d, h1, h2, h3⟩ => exact ⟨b, d, h1, h2, h3.below hb⟩
  | .mbox, ⟨b, m, h1, h2, h3⟩ => exact ⟨b, m, h1, h2, h3.below hb⟩
  | .any, _ => exact trivial
/-- No carts in a row: then a store into a cart's box leaves it. -/
def Sp.calm : Sp → Bool
  | .carts _ => false
  | .mbox => false
  | _ => true
theorem Sp.only {n b : Nat} {s : Sp} {v : Value} {W W' : World} {d d' : CaV} (h : s.holds n v W) (hs : s.calm = true) (hg : BlkC W b d) (hg' : BlkC W' b d') (ho : OnlyB b W W') : s.holds n v W' := by
  have hc := slices3 d.V d.L d.I d.nv d.nl d.ni d.vs.length d.ls.length d.xs.length
  have hg2 : W.heap[b]? = some (.cells ([d.v, d.l, d.i] : List Value).toArray 28 (0, 0)) := hg
  match s, h with
  | .eq _, h => exact h
  | .cart _, ⟨z, h1, h2, h3⟩ => exact ⟨z, h1, h2, h3.off_only hg (Nat.le_of_eq ho.size.symm) ho.block⟩
  | .nums _, ⟨q, h1, h2⟩ => exact ⟨q, h1, SlAt.off_only h2 (fun x => ⟨_, rfl, fun _ _ _ e => by cases e⟩) hg2 hc (Nat.le_of_eq ho.size.symm) ho.block⟩
  | .marks _, ⟨A, c, h1, h2, h3⟩ => exact ⟨A, c, h1, SlAt.off_only h2 (fun x => ⟨_, rfl, fun _ _ _ e => by cases e⟩) hg2 hc (Nat.le_of_eq ho.size.symm) ho.block, h3⟩
  | .cbox, ⟨g, z, h1, h2, h3⟩ =>
    by_cases hgb : g = b
    · subst hgb; exact ⟨_, d', h1, h2, hg'⟩
    · exact ⟨g, z, h1, h2, (ho.block g hgb).trans h3⟩
  | .any, _ => exact trivial
/-- What a box that was filled says. -/
inductive Sq where
  | cart (x : Ca)
  | mark (m : Mk)
  | none
def Sq.holds : Sq → Value → World → Prop
  | .cart x, v, W => ∃ b, ∃ z : CaV, v = ptr0 b ∧ BlkC W b z ∧ z.ca = x ∧ CaOK W z
  | .mark m, v, W => ∃ b, v = ptr0 b ∧ BlkM W b m
  | .none, _, _ => True
theorem Sq.below {s : Sq} {v : Value} {W W' : World} (h : s.holds v W) (hb : Below W.heap.size W W') : s.holds v W' := by
  match s, h with
  | .cart _, ⟨b, z, h1, h2, h3, h4⟩ => exact ⟨b, z, h1, h2.below hb, h3, h4.below hb⟩
  | .mark _, ⟨b, h1, h2⟩ => exact ⟨b, h1, h2.below hb⟩
  | .none, _ => exact trivial
def Sq.calm : Sq → Bool
  | .mark _ => false
  | _ => true
theorem Sq.only {b : Nat} {s : Sq} {v : Value} {W W' : World} {d : CaV} (h : s.holds v W) (hs : s.calm = true) (hv : v ≠ ptr0 b) (hg : BlkC W b d) (ho : OnlyB b W W') : s.holds v W' := by
  match s, h with
  | .cart _, ⟨g, z, h1, h2, h3, h4⟩ => exact ⟨g, z, h1, (ho.block g (fun e => hv (by rw [h1, e]))).trans h2, h3, h4.off_only hg (Nat.le_of_eq ho.size.symm) ho.block⟩
  | .none, _ => exact trivial

section
variable {P : Program} {Q : Exit → Act → World → Prop} {a0 : Act} {w0 : World} {id : Nat} {l : List Oper} {sp : Nat → Sp} {sq : Nat → Sq} {bx : Nat → Option Nat}
end
section
variable {P : Program} {Q : Exit → Act → World → Prop} {a0 : Act} {w0 : World} {id : Nat} {l : List Oper} {sp : Nat → Sp} {sq : Nat → Sq} {bx : Nat → Option Nat}
end
theorem InvR.wants {ops : Array Oper} {a0 : Act} {S : RegS} {L : Nat → Bool} {a : Act} {w : World} (h : InvR ops a0 S L a w) {o : Oper} {j d : Nat} {b : Bool} (hg : o.guard = some (j, b)) (hL : L j = true) (hd : dstOf ops j = some d) (hv : ∀ v, S.Φ j v w → v = .bool b) : Region.wanted o (yielded ops a.tmps) = true := wanted_at hg hd (hv _ (h.val j d hL hd))
/-- A cart put into its box. -/
theorem store_cart {W : World} {b : Nat} {d z : CaV} (hB : BlkC W b d) (ho : CaOK W z) : OnlyB b W (((W.setCell ⟨b, 0, none⟩ z.v).setCell ⟨b, 1, none⟩ z.l).setCell ⟨b, 2, none⟩ z.i) ∧ BlkC (((W.setCell ⟨b, 0, none⟩ z.v).setCell ⟨b, 1, none⟩ z.l).setCell ⟨b, 2, none⟩ z.i) b z ∧ CaOK (((W.setCell ⟨b, 0, none⟩ z.v).setCell ⟨b, 1, none⟩ z.l).setCell ⟨b, 2, none⟩ z.i) z :=
  ⟨((OnlyB.setCell W b 0 _).trans (OnlyB.setCell _ b 1 _)).trans (OnlyB.setCell _ b 2 _), BlkC.fill hB _ _ _, ho.off_only hB (by simp) (fun k hk => set3_other W b k _ _ _ hk)⟩

/-- Carts and marks in boxes. -/
structure KB (w : World) (L : List (Nat × CaV)) (M : List (Nat × Mk)) (W : World) : Prop where
  kk : KK w L W
  mm : ∀ p ∈ M, BlkM W p.1 p.2
section
variable {w W W' : World} {L : List (Nat × CaV)} {M : List (Nat × Mk)}
theorem KB.next (h : KB w L M W) (hb : Below W.heap.size W W') : KB w L M W' := ⟨h.kk.next hb, fun p hp => (h.mm p hp).below hb⟩
theorem KB.ca (h : KB w L M W) {g : Nat} {c : CaV} (hm : (g, c) ∈ L) : W.cell? ⟨g, 0, none⟩ = some c.v ∧ W.cell? ⟨g, 1, none⟩ = some c.l ∧ W.cell? ⟨g, 2, none⟩ = some c.i ∧ g < W.heap.size := ⟨(h.kk.blk hm).cell0, (h.kk.blk hm).cell1, (h.kk.blk hm).cell2, (h.kk.blk hm).lt⟩
theorem KB.ok (h : KB w L M W) {g : Nat} {c : CaV} (hm : (g, c) ∈ L) : CaOK W c := h.kk.ok hm
end

end

section
open Go.RowKit

/-- A cart and a dot in boxes. -/
structure KFr (w : World) (c : CaV) (r s : Int) (W : World) : Prop where
  cart : BlkC W w.heap.size c
  ok : CaOK W c
  dot : W.heap[w.heap.size + 1]? = some (.cells #[.int .i64 r, .int .i64 s] 30 (0, 0))
  bel : Below w.heap.size w W
section
variable {w W W' : World} {c : CaV} {r s : Int}
theorem KFr.next (h : KFr w c r s W) (hb : Below W.heap.size W W') : KFr w c r s W' := ⟨h.cart.below hb, h.ok.below hb, (hb.block _ (Array.getElem?_eq_some_iff.1 h.dot).1).trans h.dot, below_trans h.bel hb⟩
theorem KFr.sp (h : KFr w c r s W) : W.cell? ⟨w.heap.size, 0, none⟩ = some c.v ∧ W.cell? ⟨w.heap.size, 1, none⟩ = some c.l ∧ W.cell? ⟨w.heap.size, 2, none⟩ = some c.i ∧ W.cell? ⟨w.heap.size + 1, 0, none⟩ = some (.int .i64 r) ∧ W.cell? ⟨w.heap.size + 1, 1, none⟩ = some (.int .i64 s) ∧ w.heap.size < W.heap.size ∧ w.heap.size + 1 < W.heap.size :=
  ⟨h.cart.cell0, h.cart.cell1, h.cart.cell2, by simp [World.cell?, h.dot], by simp [World.cell?, h.dot], h.cart.lt, (Array.getElem?_eq_some_iff.1 h.dot).1⟩
theorem KFr.new (w : World) (c : CaV) (r s : Int) (hc : CaOK w c) : KFr w c r s ((w.alloc (.cells #[c.v, c.l, c.i] 28)).alloc (.cells #[.int .i64 r, .int .i64 s] 30)) := by
  have h1 := (Below.refl w.heap.size w).alloc (Nat.le_refl _) (.cells #[c.v, c.l, c.i] 28)
  have h2 := (Below.refl _ (w.alloc (.cells #[c.v, c.l, c.i] 28))).alloc (Nat.le_refl _) (.cells #[.int .i64 r, .int .i64 s] 30)
  have d := heap_alloc_new (w.alloc (.cells #[c.v, c.l, c.i] 28)) (.cells #[.int .i64 r, .int .i64 s] 30)
  rw [World.size_alloc] at d
  exact ⟨(BlkC.new w c).below h2, (hc.below h1).below h2, d, below_trans h1 h2⟩
end

/-- A cart that a call has made, with an error. -/
def MadeD (x : Ca) (k : Int) (w : World) (e : Ending) (w' : World) : Prop := (∃ z : CaV, e = .returned (.tuple #[mkC z, .int .i64 k]) ∧ z.ca = x ∧ CaOK w' z) ∧ Below w.heap.size w w'
theorem dotsK_le {c : CaV} {nm : List UInt8} {n : Nat} (hf : Fits c.xs) (h2 : (dotsI (its c.xs)).length ≤ n) (hn : 100 ≤ n) : (dotsK (its c.xs) nm).length ≤ n := by
  by_cases hnm : nm = []
  · unfold dotsK
    rw [if_pos hnm]; omega
  · unfold dotsK
    rw [if_neg hnm]
    split
    · rename_i x hx
      have h3 : x ∈ its c.xs := List.mem_of_find?_eq_some hx
      obtain ⟨y, hy, rfl⟩ := List.mem_map.1 h3
      have := (hf.2 y hy).2
      show (dotsM y.ms).length ≤ n
      rw [dotsM_len]; omega
    · simp
theorem dotsK_size {c : CaV} {nm : List UInt8} (hf : FitsK c) : (dotsK (its c.xs) nm).length ≤ 3000 := dotsK_le hf.1 (by have := hf.2; omega) (by omega)
end

end Go.Proofs.YtiaehpdgpjhecaaGreat
