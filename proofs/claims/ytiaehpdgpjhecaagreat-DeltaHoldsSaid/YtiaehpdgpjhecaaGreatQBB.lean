/- Several texts in one: JoiH, CtxH, CtxM. -/
import Derived.Test.YtiaehpdgpjhecaaGreatQBA
import Derived.Deep.CutBlock
import Derived.Test.YtiaehpdgpjhecaaGreatQAL
namespace Go.Proofs.YtiaehpdgpjhecaaGreat

section
open Go.RowKit

theorem group_last (l : List Hd) : (groupH l).getLast?.map (·.1) = l.getLast?.map (·.1) := by
  rcases last_cases l with rfl | ⟨p, h, rfl⟩
  · rfl
  · rw [groupH_snoc, List.getLast?_concat]
    rcases last_cases (groupH p) with e | ⟨q, x, e⟩
    · rw [e]; rfl
    · rw [e]
      unfold stepG
      rw [List.getLast?_concat, List.dropLast_concat]
      dsimp only
      split
      · rename_i k; rw [List.getLast?_concat]; simp [k]
      · rw [List.getLast?_concat]; rfl
theorem stepG_len (out : List It) (h : Hd) : (stepG out h).length ≤ out.length + 1 := by
  rcases last_cases out with rfl | ⟨q, x, rfl⟩
  · simp [stepG]
  · unfold stepG
    rw [List.getLast?_concat, List.dropLast_concat]
    dsimp only
    split <;> simp
theorem stepG_marks {out : List It} {h : Hd} {n : Nat} (hn : ∀ x ∈ out, x.2.length ≤ n) : ∀ x ∈ stepG out h, x.2.length ≤ n + 1 := by
  rcases last_cases out with rfl | ⟨q, x, rfl⟩
  · intro y hy
    simp [stepG] at hy
    subst hy; simp
  · unfold stepG
    rw [List.getLast?_concat, List.dropLast_concat]
    dsimp only
    split
    · intro y hy
      rcases List.mem_append.1 hy with hy | hy
      · have := hn y (List.mem_append_left _ hy); omega
      · obtain rfl : y = (x.1, x.2 ++ [h.2]) := by simpa using hy
        have := hn x (by simp)
        simp; omega
    · intro y hy
      rcases List.mem_append.1 hy with hy | hy
      · have := hn y hy; omega
      · obtain rfl : y = (h.1, [h.2]) := by simpa using hy
        simp
theorem group_size (l : List Hd) : ∀ k, (groupH (l.take k)).length ≤ k ∧ ∀ x ∈ groupH (l.take k), x.2.length ≤ k
  | 0 => by simp [groupH]
  | k + 1 => by
    obtain ⟨h1, h2⟩ := group_size l k
    by_cases hk : k < l.length
    · rw [take_snoc (List.getElem?_eq_getElem hk), groupH_snoc]
      exact ⟨Nat.le_trans (stepG_len _ _) (by omega), stepG_marks h2⟩
    · rw [List.take_of_length_le (by omega)] at h1 h2 ⊢
      exact ⟨by omega, fun x hx => by have := h2 x hx; omega⟩
/-- One mark more: in a new item. -/
theorem step_new {l : List Hd} {k : Nat} {h : Hd} (hh : l[k]? = some h) (hn : k = 0 ∨ ∃ j p, k = j + 1 ∧ l[j]? = some p ∧ p.1 ≠ h.1) : groupH (l.take (k + 1)) = groupH (l.take k) ++ [(h.1, [h.2])] := by
  rw [take_snoc hh, groupH_snoc]
  rcases hn with rfl | ⟨j, p, rfl, hp, hne⟩
  · rfl
  · have hl := group_last (l.take (j + 1))
    rw [take_snoc hp, List.getLast?_concat] at hl
    rw [take_snoc hp]
    rcases last_cases (groupH (l.take j ++ [p])) with e | ⟨q, x, e⟩
    · rw [e] at hl; cases hl
    · rw [e] at hl ⊢
      rw [List.getLast?_concat] at hl
      unfold stepG
      rw [List.getLast?_concat]
      dsimp only
      have hl2 : x.1 = p.1 := Option.some.inj hl
      rw [if_neg (fun k => hne (by rw [← hl2, k]))]
/-- In the last item. -/
theorem step_same {l : List Hd} {j : Nat} {h p : Hd} (hh : l[j + 1]? = some h) (hp : l[j]? = some p) (he : p.1 = h.1) : ∃ zs x, groupH (l.take (j + 1)) = zs ++ [x] ∧ groupH (l.take (j + 1 + 1)) = zs ++ [(x.1, x.2 ++ [h.2])] := by
  rw [take_snoc hh, groupH_snoc]
  have hl := group_last (l.take (j + 1))
  rw [take_snoc hp, List.getLast?_concat] at hl
  rw [take_snoc hp]
  rcases last_cases (groupH (l.take j ++ [p])) with e | ⟨q, x, e⟩
  · rw [e] at hl; cases hl
  · rw [e] at hl ⊢
    rw [List.getLast?_concat] at hl
    refine ⟨q, x, rfl, ?_⟩
    unfold stepG
    rw [List.getLast?_concat, List.dropLast_concat]
    dsimp only
    have hl2 : x.1 = p.1 := Option.some.inj hl
    rw [if_pos (by rw [hl2, he])]

/-- The last item's marks lie apart. -/
def ApartL (zs : List ItV) (x : ItV) : Prop := ∀ z ∈ zs, ∀ g, (slV x).ownBlock = some g → (slV z).ownBlock ≠ some g
theorem cells_setS (ys : List ItV) (j : Nat) (A : Option Addr) (c : Nat) (ms : List Mk) (y : ItV) (hj : ys[j]? = some y) : (cellsOf encIt ys).set (j * 2 + 1) (.slice A ms.length c) = cellsOf encIt (ys.set j ⟨y.nm, A, c, ms⟩) := by
  induction ys generalizing j with
  | nil => simp at hj
  | cons z l ih =>
    cases j with
    | zero =>
      obtain rfl : z = y := by simpa using hj
      rfl
    | succ n =>
      have hj' : l[n]? = some y := by simpa using hj
      rw [List.set_cons_succ, show cellsOf encIt (z :: l) = encIt z ++ cellsOf encIt l from rfl, show cellsOf encIt (z :: l.set n ⟨y.nm, A, c, ms⟩) = encIt z ++ cellsOf encIt (l.set n ⟨y.nm, A, c, ms⟩) from rfl, ← ih n hj', show (n + 1) * 2 + 1 = (encIt z).length + (n * 2 + 1) by rw [encIt_len]; omega, List.set_append_right _ _ (by omega), show (encIt z).length + (n * 2 + 1) - (encIt z).length = n * 2 + 1 by omega]
theorem RowT.ne {W : World} {B : Nat} {v u : Value} {ys : List ItV} {ms : List Mk} (h : RowT W B v ys) (hm : RowM W B u ms) : u.ownBlock = none ∨ u.ownBlock ≠ v.ownBlock := by
  rcases RowM.form hm with ⟨rfl, _⟩ | ⟨g, c, cur, rfl, _, hg⟩
  · exact .inl rfl
  · refine .inr ?_
    rcases h.2 with ⟨rfl, _⟩ | ⟨g', cap, cur', rfl, _, hg', _⟩
    · simp [Value.ownBlock]
    · intro e
      have e2 : g = g' := by simpa [Value.ownBlock] using e
      subst e2
      rw [hg] at hg'
      injection hg' with h1
      injection h1 with _ h2 _
      exact absurd h2 (by decide)
/-- One item more, without marks. -/
theorem OwnI.more {W w1 : World} {B : Nat} {v v1 : Value} {ys : List ItV} {nm : List UInt8} (h : OwnI W B v ys) (ho : RowT w1 B v1 (ys ++ [⟨nm, none, 0, []⟩])) (hg : W.grownBy w1 v.ownBlock) : OwnI w1 B v1 (ys ++ [⟨nm, none, 0, []⟩]) := by
  refine ⟨ho, fun y hy => ?_⟩
  rcases List.mem_append.1 hy with hy | hy
  · exact World.ownsRow.kept (h.2 y hy) hg (RowT.ne h.1 (h.2 y hy))
  · obtain rfl : y = ⟨nm, none, 0, []⟩ := by simpa using hy
    exact World.ownsRow_nil _ _ _ _

section
variable (w0 W0 : World) (B gi gH N cap : Nat) (zs : List ItV) (x : ItV) (h : Hd)
/-- What holds while a mark is appended to the last item's. -/
def grpG (L : Nat → Bool) (W : World) : Prop :=
  (L 11 = false → RowT W B (.slice (some ⟨gi, 0, none⟩) N cap) (zs ++ [x]) ∧ (∀ z ∈ zs, RowM W B (slV z) z.ms) ∧ (L 8 = false → RowM W B (slV x) x.ms) ∧ BlkH W gH h) ∧
  (L 11 = true → ∃ x' : ItV, OwnI W B (.slice (some ⟨gi, 0, none⟩) N cap) (zs ++ [x']) ∧ x'.nm = x.nm ∧ x'.ms = x.ms ++ [h.2] ∧ ApartL zs x') ∧
  Below B w0 W ∧ B ≤ W.heap.size ∧ W0.heap.size ≤ W.heap.size
def grpP : Nat → Value → World → Prop
  | 0, v, _ => v = .pointer (some ⟨gi, zs.length * 2, none⟩)
  | 1, v, _ => v = .pointer (some ⟨gi, zs.length * 2, none⟩)
  | 2, v, _ => v = .pointer (some ⟨gi, zs.length * 2, none⟩)
  | 3, v, _ => v = .pointer (some ⟨gi, zs.length * 2 + 1, none⟩)
  | 4, v, _ => v = slV x
  | 5, v, _ => v = .pointer (some ⟨gH, 1, none⟩)
  | 6, v, _ => v = mkV h.2
  | 7, v, W => ∃ b, v = .slice (some ⟨b, 0, none⟩) 1 1 ∧ W0.heap.size ≤ b ∧ W.heap[b]? = some (.cells (encM h.2).toArray 55 (0, 0))
  | 8, v, W => ∃ A c, v = .slice A (x.ms.length + 1) c ∧ RowM W B v (x.ms ++ [h.2]) ∧ ∀ z ∈ zs, ∀ g, v.ownBlock = some g → (slV z).ownBlock ≠ some g
  | 9, v, _ => v = .pointer (some ⟨gi, zs.length * 2, none⟩)
  | 10, v, _ => v = .pointer (some ⟨gi, zs.length * 2 + 1, none⟩)
  | _, _, _ => True
abbrev grpS : RegS := ⟨fun _ => none, BelW, grpG w0 W0 B gi gH N cap zs x h, grpP W0 B gi gH zs x h, fun _ _ _ => True⟩
variable {w0 W0 B gi gH N cap zs x h}
theorem grpP_below {j : Nat} {v : Value} {w w' : World} (hp : grpP W0 B gi gH zs x h j v w) (hb : BelW w w') : grpP W0 B gi gH zs x h j v w' := by
  match j, hp with
  | 0, e => exact e
  | 1, e => exact e
  | 2, e => exact e
  | 3, e => exact e
  | 4, e => exact e
  | 5, e => exact e
  | 6, e => exact e
  | 7, ⟨b, e, h1, h2⟩ => exact ⟨b, e, h1, (hb.block b (Array.getElem?_eq_some_iff.1 h2).1).trans h2⟩
  | 8, ⟨A, c, e, h1, h2⟩ => exact ⟨A, c, e, RowM.below h1 hb, h2⟩
  | 9, e => exact e
  | 10, e => exact e
  | j + 11, _ => exact trivial
theorem grp_keep {L : Nat → Bool} {k : Nat} {w w' : World} (hk8 : k ≠ 8) (hk : k ≠ 11) (hG : grpG w0 W0 B gi gH N cap zs x h L w) (hb : BelW w w') : KeepsR (grpS w0 W0 B gi gH N cap zs x h) L w w' ∧ grpG w0 W0 B gi gH N cap zs x h (moreL L k) w' := by
  refine ⟨⟨fun j v _ hp => grpP_below hp hb, fun _ _ _ _ => trivial⟩, ?_⟩
  obtain ⟨h1, h2, h3, h5, h4⟩ := hG
  have e11 : moreL L k 11 = L 11 := by unfold moreL; simp [Ne.symm hk]
  have e8 : moreL L k 8 = L 8 := by unfold moreL; simp [Ne.symm hk8]
  unfold grpG
  rw [e11, e8]
  refine ⟨fun hl => ?_, fun hl => ?_, h3.trans (hb.mono h5), Nat.le_trans h5 hb.size, Nat.le_trans h4 hb.size⟩
  · obtain ⟨a1, a2, a3, a4⟩ := h1 hl
    exact ⟨RowT.below a1 hb, fun z hz => RowM.below (a2 z hz) hb, fun h8 => RowM.below (a3 h8) hb, a4.below hb⟩
  · obtain ⟨x', a1, a2⟩ := h2 hl
    exact ⟨x', a1.below hb, a2⟩
end

theorem OwnI.parts {W : World} {B : Nat} {v : Value} {zs : List ItV} {x : ItV} (h : OwnI W B v (zs ++ [x])) : ∃ g c, v = .slice (some ⟨g, 0, none⟩) (zs.length + 1) c ∧ B ≤ g ∧ g < W.heap.size ∧ zs.length + 1 ≤ c ∧ W.cell? ⟨g, zs.length * 2, none⟩ = some (.string ⟨x.nm.toArray⟩) ∧ W.cell? ⟨g, zs.length * 2 + 1, none⟩ = some (slV x) ∧ W.frozen? ⟨g, zs.length * 2 + 1, none⟩ = false := by
  obtain ⟨g, c, cur, hv, hB, hg⟩ := RowT.form h.1 (by simp)
  have hr := h.1
  rw [hv] at hr
  have hl : (zs ++ [x]).length = zs.length + 1 := by simp
  have hr2 : W.ownsRow B 50 2 (.slice (some ⟨g, 0, none⟩) (zs ++ [x]).length c) (zs ++ [x]).length (cellsOf encIt (zs ++ [x])) := hr
  obtain ⟨a1, a2, _, a4⟩ := own_it hr2 (j := zs.length) (x := x) (by simp)
  have hcap : (zs ++ [x]).length ≤ c := by
    rcases hr2.2 with ⟨e, _⟩ | ⟨g', c', cur', e, _, _, hn, _⟩
    · cases e
    · cases e; exact hn
  rw [hl] at hv hcap
  exact ⟨g, c, hv, hB, (Array.getElem?_eq_some_iff.1 hg).1, hcap, a1, a2, a4⟩

def GrpQ (l : List Hd) (k : Nat) (h : Hd) (q : Bool) : Prop := (q = true → k = 0 ∨ ∃ j p, k = j + 1 ∧ l[j]? = some p ∧ p.1 ≠ h.1) ∧ (q = false → ∃ j p, k = j + 1 ∧ l[j]? = some p ∧ p.1 = h.1)
def GrpR (l : List Hd) (w : World) (e : Ending) (w' : World) : Prop := (∃ v ys, e = .returned v ∧ OwnI w' w.heap.size v ys ∧ its ys = groupH l) ∧ Below w.heap.size w w'
set_option maxRecDepth 100000 in
set_option maxHeartbeats 8000000 in
theorem joGrouped (A : Option Addr) (cap : Nat) (l : List Hd) (w : World) (hx : HeldAt w A l) (hm : l.length ≤ 100000) (hn : ∀ h ∈ l, h.1.length ≤ 100000) :
    Calls Tryz.prog 73 #[.slice A l.length cap] w (GrpR l w) := by
  obtain ⟨ti0, hi0, hz0, hz1, hz2⟩ := info_parts infoIt
  obtain ⟨mi0, mi1, mz0, mz1, mz2⟩ := info_parts infoM
  have HX := Lib.hid hx
  have HN := Lib.hid hn
  clear hx hn
  go_enter Tryz.func73, Tryz.ntmps73
  go_wp2_with fail
  go_loopw [3, 4, 5, 6, 9] (fun v _ _ _ i wr => ∃ (k : Nat) (ys : List ItV), k ≤ l.length ∧ i = .int .i64 k ∧ Hid (OwnI wr w.heap.size v ys) ∧ Hid (∀ zs x, ys = zs ++ [x] → ApartL zs x) ∧ Hid (its ys = groupH (l.take k)) ∧ Hid (Below w.heap.size w wr)) (fun _ _ _ _ i _ => l.length - (intOf i).toNat)
  case atStart => exact ⟨0, [], by omega, rfl, OwnI.nil _ _, fun zs x e => by simp at e, rfl, Below.refl _ _⟩
  case round =>
    obtain ⟨k, ys, hk, rfl, hown, hap, hits, hb⟩ := hrel
    obtain ⟨D, d, rfl, _⟩ := SlAt.of_own encIt_len hown.out.1
    by_cases hlt : k < l.length
    · have i0 : (k : Int) < (l.length : Int) := by omega
      obtain ⟨b, off, h, rfl, hbl, hh1, hc0, hc1, hc2, hc3, hc4⟩ := (HX.out.below hb.out).held (j := k) hlt
      have hnm := HN.out h (List.mem_of_getElem? hh1)
      have hsz := group_size l k
      have hysl : ys.length ≤ k := by rw [← its_len, hits.out]; exact hsz.1
      have hysm : ∀ x ∈ ys, x.ms.length ≤ k := fun x hx => hsz.2 _ (by rw [← hits.out]; exact List.mem_map.2 ⟨x, hx, rfl⟩)
      have HYM := Lib.hid hysm
      have HH := Lib.hid hh1
      have B0 := Lib.hid (BlkH.new wr h)
      have HBA := Lib.hid ((Below.refl wr.heap.size wr).alloc (Nat.le_refl _) (.cells #[.string ⟨h.1.toArray⟩, .int .i64 h.2.r, .int .i64 h.2.c, .int .i64 h.2.q, .int .u64 (h.2.t : Int)] 100))
      have HO := Lib.hid (hown.out.below HBA.out)
      have HXW := Lib.hid (HX.out.below hb.out)
      have HBW := Lib.hid (below_trans hb.out HBA.out)
      clear hh1 hsz hysm hown
      go_upto_region 5 with fail
      obtain ⟨gH, hgH⟩ : ∃ g, wr.heap.size = g := ⟨_, rfl⟩
      rw [hgH] at B0 ⊢
      generalize World.alloc wr _ = W1 at *
      go_cut [26] (fun s26 wx => ∃ q : Bool, s26 = .bool q ∧ Hid (BelW W1 wx) ∧ Hid (GrpQ l k h q))
      case first =>
        have hbl1 := B0.out.lt
        have m0 := fun p => cell_far (p := p) hbl1 B0.out.cell0
        rcases Nat.eq_zero_or_pos k with hk0 | hk0
        · have i1 : ((k : Int) == 0) = true := eqT (by omega)
          have HQ := Lib.hid (show GrpQ l k h true from ⟨fun _ => .inl hk0, fun h => by cases h⟩)
          clear hk0
          refine wp_region_far (by kernel_rfl) (by kernel_rfl) ?_
          repeat (go_big_quiet_step ((fail)))
          refine wpQuiet_nil ?_
          rintro _ ⟨p, rfl⟩
          go_wp2_with fail
          go_meet
          exact ⟨true, rfl, below_far _ _, HQ⟩
        · obtain ⟨j, hj⟩ : ∃ j, k = j + 1 := ⟨k - 1, by omega⟩
          obtain ⟨b', off', pp, hA', hbl', hp1, d0, _⟩ := (HXW.out.below HBA.out).held (j := j) (by omega)
          injection hA' with hA'
          injection hA' with e1 e2
          subst e1 e2
          have l0 := fun p => cell_far (p := p) hbl' d0
          have i1 : ((k : Int) == 0) = false := eqF (by omega)
          have i2 : (k : Int) - 1 = (j : Int) := by omega
          have i3 : (j : Int) < (l.length : Int) := by omega
          have HQ := Lib.hid (show GrpQ l k h (!(pp.1 == h.1)) from by
            by_cases e : pp.1 = h.1
            · have e2 : (pp.1 == h.1) = true := by simpa using e
              rw [e2]; exact ⟨fun h => (by cases h), fun _ => ⟨j, pp, hj, hp1, e⟩⟩
            · have e2 : (pp.1 == h.1) = false := by simpa using e
              rw [e2]; exact ⟨fun _ => .inr ⟨j, pp, hj, hp1, e⟩, fun h => (by cases h)⟩)
          clear hp1 d0 hj hk0
          refine wp_region_far (by kernel_rfl) (by kernel_rfl) ?_
          repeat (go_big_quiet_step ((fail)))
          refine wpQuiet_nil ?_
          rintro _ ⟨p, rfl⟩
          go_wp2_with fail
          go_meet
          exact ⟨!(pp.1 == h.1), rfl, below_far _ _, HQ⟩
      case rest =>
        obtain ⟨q, rfl, hb2, hq⟩ := hcut
        have B1 := Lib.hid (B0.out.below hb2.out)
        have HO1 := Lib.hid (HO.out.below hb2.out)
        have HB1 := Lib.hid (below_trans HBW.out hb2.out)
        have hgl := B1.out.lt
        clear B0 HO HBW HBA hb2 hb HXW hc0 hc1 hc2 hc3 hc4 hbl
        go_upto_if 26 with fail
        go_cut [3] (fun s3 wx => ∃ zs x, Hid (OwnI wx w.heap.size s3 (zs ++ [x])) ∧ Hid (ApartL zs x) ∧ Hid (its zs ++ [(x.nm, x.ms ++ [h.2])] = groupH (l.take (k + 1))) ∧ Hid (BlkH wx gH h) ∧ Hid (Below w.heap.size w wx) ∧ zs.length ≤ k ∧ x.ms.length ≤ k)
        case first =>
          cases q with
          | true =>
            have c0 := B1.out.cell0
            have HS := Lib.hid fun W => strClone h.1 W (by omega)
            have HG := Lib.hid (show its ys ++ [(h.1, [] ++ [h.2])] = groupH (l.take (k + 1)) from by rw [hits.out]; exact (step_new HH.out (hq.out.1 rfl)).symm)
            clear hq hits
            go_wp2_with fail
            refine (HS.out _).mono ?_
            rintro e w5 ⟨rfl, hb5⟩
            have B5 := Lib.hid (B1.out.below hb5)
            have HO5 := Lib.hid (HO1.out.below hb5)
            have HB5 := Lib.hid (below_trans HB1.out hb5)
            have hba := (Below.refl w5.heap.size w5).alloc (Nat.le_refl _) (.cells #[.string ⟨h.1.toArray⟩, .slice none 0 0] 50)
            have B6 := Lib.hid (B5.out.below hba)
            have HO6 := Lib.hid (HO5.out.below hba)
            have HB6 := Lib.hid (below_trans HB5.out hba)
            have S6 := Lib.hid (SlAt.litAt (enc := encIt) encIt_len w5 w5.heap.size rfl 50 [(⟨h.1, none, 0, []⟩ : ItV)] (by simp [maxLen]))
            clear hb5 hba B1 HO1 HB1 B5 HO5 HB5 c0 hgl
            go_wp2_with (at_builtin; refine wpList_append_sl _ encIt 2 rfl (.tmp 27) (.tmp 32) 26 rfl encIt_len (by omega) encIt_one w.heap.size 50 ti0 _ 40 Tryz.underlying26 hi0 hz0 hz1 hz2 rfl _ ys rfl HO6.out.1 _ 1 _ [(⟨h.1, none, 0, []⟩ : ItV)] rfl rfl S6.out (by simp [maxLen]; omega) (by simp; omega) HB6.out.size ?_; intro v1 w1 hown1 hg hat; have HO7 := Lib.hid (HO6.out.more hown1 hg); have B7 := Lib.hid (show BlkH w1 gH h from (hg.block gH B6.out.lt (Ne.symm (row_ne HO6.out.1 B6.out (by decide)))).trans B6.out); have HB7 := Lib.hid (HB6.out.grown hg HB6.out.size (fun k hk => (World.ownsRow.lt HO6.out.1 k hk).1)); clear hown1 hg hat)
            go_meet
            exact ⟨ys, ⟨h.1, none, 0, []⟩, HO7, fun z _ g e => by simp [Value.ownBlock] at e, HG, B7, HB7, hysl, Nat.zero_le _⟩
          | false =>
            obtain ⟨j, p, hkj, hp, he⟩ := hq.out.2 rfl
            have hstep : ∃ zs x, ys = zs ++ [x] ∧ its zs ++ [(x.nm, x.ms ++ [h.2])] = groupH (l.take (k + 1)) := by
              subst hkj
              obtain ⟨zs0, x0, h1, h2⟩ := step_same HH.out hp he
              have h3 := hits.out
              rw [h1] at h3
              rcases last_cases ys with e | ⟨zs, x, e⟩
              · subst e; simp at h3
              · subst e
                rw [show its (zs ++ [x]) = its zs ++ [x.it] by simp] at h3
                obtain ⟨e1, e2⟩ := List.append_inj' h3 rfl
                refine ⟨zs, x, rfl, ?_⟩
                rw [h2, ← e1]
                have e3 : x0 = x.it := by simpa using e2.symm
                subst e3; rfl
            obtain ⟨zs, x, hys, hgr⟩ := hstep
            have HP := Lib.hid (hap.out zs x hys)
            have HG := Lib.hid hgr
            have HO2 := Lib.hid (show OwnI wc w.heap.size (.slice D ys.length d) (zs ++ [x]) from by rw [← hys]; exact HO1.out)
            have hzl : zs.length ≤ k := by rw [hys] at hysl; simp at hysl; omega
            have hxl : x.ms.length ≤ k := HYM.out x (by rw [hys]; simp)
            clear hq hp he hkj hys hgr hits
            go_wp2_with fail
            go_meet
            exact ⟨zs, x, HO2, HP, HG, B1, HB1, hzl, hxl⟩
        case rest =>
          obtain ⟨zs, x, ho3, hap3, hg3, B3, hb3, hzl, hxl⟩ := hcut
          clear hq hits hap HO1 HB1 B1 hgl HYM HH
          obtain ⟨gi, N, hv, hBg, hgi, hcap, c0, c1, hf⟩ := ho3.out.parts
          subst hv
          have hgH := B3.out.lt
          have i1 : ((zs.length + 1 : Nat) : Int) - 1 = (zs.length : Int) := by omega
          have HF := Lib.hid hf
          have HC1 := Lib.hid c1
          clear hf c1 c0
          go_wp2_with fail
          have hnb : ∀ {k : Nat}, ∀ j, (fun _ : Nat => (none : Option Nat)) j ≠ some k := fun j h => by cases h
          have hkp : ∀ {k : Nat}, k ≠ 8 → k ≠ 11 → ∀ L W W', grpG w wc w.heap.size gi gH (zs.length + 1) N zs x h L W → BelW W W' → KeepsR (grpS w wc w.heap.size gi gH (zs.length + 1) N zs x h) L W W' ∧ grpG w wc w.heap.size gi gH (zs.length + 1) N zs x h (moreL L k) W' := fun h8 h11 L W W' hG hb => grp_keep h8 h11 hG hb
          refine wp_region_R (S := grpS w wc w.heap.size gi gH (zs.length + 1) N zs x h) (by kernel_rfl) (by kernel_rfl) (by kernel_rfl) (dst_small (n := 52) (by kernel_rfl)) (fun j k h => by cases h) (fun j j' k h1 h2 => by cases h1)
            ⟨fun _ => ⟨ho3.out.1, fun z hz => ho3.out.2 z (List.mem_append_left _ hz), fun _ => ho3.out.2 x (by simp), B3.out⟩, fun h => (by cases h), hb3.out.drew, hb3.out.size, Nat.le_refl _⟩
            (fun j k v W h hp => by cases h) (fun _ j v W W' m k b _ hm => by cases hm) (fun _ j v W W' m k b _ hm => by cases hm) ?_ ?_
          · refine ⟨StepR.pure rfl rfl hnb (fun W => Below.refl _ W) (hkp (by decide) (by decide)) fun L a W hI _ hd => ⟨rfl, .pointer (some ⟨gi, zs.length * 2, none⟩), ?_, rfl⟩,
              StepR.pure rfl rfl hnb (fun W => Below.refl _ W) (hkp (by decide) (by decide)) fun L a W hI _ hd => ⟨rfl, .pointer (some ⟨gi, zs.length * 2, none⟩), ?_, rfl⟩,
              StepR.pure rfl rfl hnb (fun W => Below.refl _ W) (hkp (by decide) (by decide)) fun L a W hI _ hd => ⟨rfl, .pointer (some ⟨gi, zs.length * 2, none⟩), ?_, rfl⟩,
              StepR.pure rfl rfl hnb (fun W => Below.refl _ W) (hkp (by decide) (by decide)) fun L a W hI _ hd => ⟨rfl, .pointer (some ⟨gi, zs.length * 2 + 1, none⟩), ?_, rfl⟩,
              StepR.pure rfl rfl hnb (fun W => Below.refl _ W) (hkp (by decide) (by decide)) fun L a W hI hk hd => ⟨rfl, slV x, ?_, rfl⟩,
              StepR.pure rfl rfl hnb (fun W => Below.refl _ W) (hkp (by decide) (by decide)) fun L a W hI _ hd => ⟨rfl, .pointer (some ⟨gH, 1, none⟩), ?_, rfl⟩,
              StepR.pure rfl rfl hnb (fun W => Below.refl _ W) (hkp (by decide) (by decide)) fun L a W hI hk hd => ⟨rfl, mkV h.2, ?_, rfl⟩,
              StepR.made rfl rfl hnb (hkp (by decide) (by decide)) fun L a W hI _ hd => ⟨rfl, .slice (some ⟨W.heap.size, 0, none⟩) 1 1, W.alloc (.cells (encM h.2).toArray 55), ?_, (Below.refl _ W).alloc (Nat.le_refl _) _, W.heap.size, rfl, hI.glob.2.2.2.2, heap_alloc_new W _⟩,
              StepR.madeL rfl rfl hnb fun L a W hI hk hd => ⟨rfl, ?_⟩,
              StepR.pure rfl rfl hnb (fun W => Below.refl _ W) (hkp (by decide) (by decide)) fun L a W hI _ hd => ⟨rfl, .pointer (some ⟨gi, zs.length * 2, none⟩), ?_, rfl⟩,
              StepR.pure rfl rfl hnb (fun W => Below.refl _ W) (hkp (by decide) (by decide)) fun L a W hI _ hd => ⟨rfl, .pointer (some ⟨gi, zs.length * 2 + 1, none⟩), ?_, rfl⟩,
              StepR.skipL rfl rfl hnb rfl fun L a W hI hk hd => ⟨rfl, ?_⟩, trivial⟩
            · have e6 : a.tmps[6]?.getD undef = .pointer (some ⟨gi, zs.length * 2, none⟩) := hI.at 6 (by kernel_rfl)
              go_simp
            · have e6 : a.tmps[6]?.getD undef = .pointer (some ⟨gi, zs.length * 2, none⟩) := hI.at 6 (by kernel_rfl)
              go_simp
            · obtain ⟨_, e, rfl⟩ := hI.get 1 40 (hd 1 rfl) rfl
              go_simp
            · obtain ⟨_, e, rfl⟩ := hI.get 2 41 (hd 2 rfl) rfl
              go_simp
            · obtain ⟨_, e, rfl⟩ := hI.get 3 42 (hd 3 rfl) rfl
              have hL : L 11 = false := hI.before (o := _) rfl (k := 4) rfl hk
              obtain ⟨a1, a2, a3, a4⟩ := hI.glob.1 hL
              have c1 : W.cell? ⟨gi, zs.length * 2 + 1, none⟩ = some (slV x) := by
                have hr : W.ownsRow w.heap.size 50 2 (.slice (some ⟨gi, 0, none⟩) (zs ++ [x]).length N) (zs ++ [x]).length (cellsOf encIt (zs ++ [x])) := by
                  have : (zs ++ [x]).length = zs.length + 1 := by simp
                  rw [this]
                  have := a1
                  unfold RowT at this
                  rwa [show (zs ++ [x]).length = zs.length + 1 by simp] at this
                exact (own_it hr (j := zs.length) (x := x) (by simp)).2.1
              clear a1 a2 a3 a4
              go_simp
            · have e5 : a.tmps[5]?.getD undef = .pointer (some ⟨gH, 0, none⟩) := hI.at 5 (by kernel_rfl)
              go_simp
            · obtain ⟨_, e, rfl⟩ := hI.get 5 44 (hd 5 rfl) rfl
              have hL : L 11 = false := hI.before (o := _) rfl (k := 6) rfl hk
              obtain ⟨a1, a2, a3, a4⟩ := hI.glob.1 hL
              have c1 := a4.cell1
              have c2 := a4.cell2
              have c3 := a4.cell3
              have c4 := a4.cell4
              clear a1 a2 a3 a4
              go_simp
            · obtain ⟨_, e, rfl⟩ := hI.get 6 45 (hd 6 rfl) rfl
              go_simp
            · obtain ⟨_, e43, rfl⟩ := hI.get 4 43 (hd 4 rfl) rfl
              obtain ⟨_, e46, b7, rfl, hb7, hh7⟩ := hI.get 7 46 (hd 7 rfl) rfl
              have hL : L 11 = false := hI.before (o := _) rfl (k := 8) rfl hk
              obtain ⟨a1, a2, a3, a4⟩ := hI.glob.1 hL
              have a3 := a3 hk
              have hrx := ho3.out.2 x (by simp)
              obtain ⟨v', W', hrun, hown, hgr, hblk⟩ := run_append_sl (P := Tryz.prog) W encM 4 encM_len (by omega) encM_one w.heap.size 48 48 55 mi0 _ 32 Tryz.underlying48 mi1 mz0 mz1 mz2 rfl (slV x) x.ms a3 (some ⟨b7, 0, none⟩) 1 [h.2] (SlAt.one hh7) (by simp [maxLen]; omega) (by simp; omega) hI.glob.2.2.2.1
              refine ⟨v', W', ?_, ⟨fun j v hj hp => ?_, fun _ _ _ _ => trivial⟩, ⟨fun _ => ⟨?_, fun z hz => ?_, fun h8 => (by cases h8), ?_⟩, fun h11 => (by rw [show moreL L 8 11 = L 11 from rfl, hL] at h11; cases h11), ?_, Nat.le_trans hI.glob.2.2.2.1 hgr.size, Nat.le_trans hI.glob.2.2.2.2 hgr.size⟩, ?_⟩
              · have hrun2 : (Builtin.append_ #[48, 48] 48 #[slV x, .slice (some ⟨b7, 0, none⟩) 1 1]).run Tryz.prog W = .ok v' W' := hrun
                have hs : a.eval (.tmp 43) = slV x := by rw [eval_tmp]; exact e43
                have hs2 : a.eval (.tmp 46) = .slice (some ⟨b7, 0, none⟩) 1 1 := by rw [eval_tmp]; exact e46
                unfold execOp
                simp only [resolve, invoke, builtin, Sem.run_bind, Sem.run_pure, Result.andThen_ok, List.map_toArray, List.map_cons, List.map_nil, hs, hs2, hrun2]
              · match j, hp with
                | 0, e => exact e
                | 1, e => exact e
                | 2, e => exact e
                | 3, e => exact e
                | 4, e => exact e
                | 5, e => exact e
                | 6, e => exact e
                | 7, ⟨b, e, h1, h2⟩ =>
                  refine ⟨b, e, h1, (hgr.block b (Array.getElem?_eq_some_iff.1 h2).1 fun e2 => ?_).trans h2⟩
                  have := (hrx.lt b e2.symm).2
                  omega
                | 8, _ => rw [hk] at hj; cases hj
                | 9, e => exact e
                | 10, e => exact e
                | j + 11, _ => exact trivial
              · refine World.ownsRow.kept a1 hgr (.inr fun e => ?_)
                rcases RowT.ne a1 a3 with h | h
                · rw [h] at e; cases e
                · exact h e.symm
              · refine World.ownsRow.kept (a2 z hz) hgr ?_
                cases hx0 : (slV x).ownBlock with
                | none => cases (slV z).ownBlock <;> simp
                | some g => exact .inr (hap3.out z hz g hx0)
              · exact (hgr.block gH a4.lt (Ne.symm (row_ne a3 a4 (by decide)))).trans a4
              · exact hI.glob.2.2.1.grown hgr hI.glob.2.2.2.1 fun k hk => (a3.lt k hk).1
              · obtain ⟨A2, c2, e2, _⟩ := SlAt.of_own encM_len hown
                refine ⟨A2, c2, by rw [e2]; simp, hown, fun z hz g hg => ?_⟩
                rcases hblk with hb | hb
                · exact hap3.out z hz g (by rw [← hb]; exact hg)
                · intro e
                  rw [hb] at hg
                  injection hg with hg
                  have := ((a2 z hz).lt g e).2
                  omega
            · obtain ⟨_, e, rfl⟩ := hI.get 0 39 (hd 0 rfl) rfl
              go_simp
            · obtain ⟨_, e, rfl⟩ := hI.get 9 48 (hd 9 rfl) rfl
              go_simp
            · obtain ⟨_, e49, rfl⟩ := hI.get 10 49 (hd 10 rfl) rfl
              obtain ⟨_, e47, A2, c2, rfl, hrow, hap2⟩ := hI.get 8 47 (hd 8 rfl) rfl
              obtain ⟨a1, a2, _, a4⟩ := hI.glob.1 hk
              have hr : W.ownsRow w.heap.size 50 2 (.slice (some ⟨gi, 0, none⟩) (zs.length + 1) N) (zs.length + 1) (cellsOf encIt (zs ++ [x])) := by
                have := a1
                unfold RowT at this
                rwa [show (zs ++ [x]).length = zs.length + 1 by simp] at this
              obtain ⟨c0, c1, _, f1⟩ := own_it hr (j := zs.length) (x := x) (by simp)
              obtain ⟨gi', N', cur, hv', _, hgc⟩ := RowT.form a1 (by simp)
              have hgg : gi = gi' := by injection hv' with h1; injection h1 with h1; injection h1
              subst hgg
              have hst := (World.ownsRow.stored hr (zs.length * 2 + 1) (.slice A2 (x.ms.length + 1) c2)).1
              have hset := cells_setS (zs ++ [x]) zs.length A2 c2 (x.ms ++ [h.2]) x (by simp)
              rw [show (x.ms ++ [h.2]).length = x.ms.length + 1 by simp] at hset
              rw [hset, show (zs ++ [x]).set zs.length ⟨x.nm, A2, c2, x.ms ++ [h.2]⟩ = zs ++ [⟨x.nm, A2, c2, x.ms ++ [h.2]⟩] by rw [List.set_append_right _ _ (Nat.le_refl _), Nat.sub_self, List.set_cons_zero]] at hst
              have hkeep : ∀ {u : Value} {ms : List Mk}, RowM W w.heap.size u ms → RowM (W.setCell ⟨gi, zs.length * 2 + 1, none⟩ (.slice A2 (x.ms.length + 1) c2)) w.heap.size u ms := fun hu => ownsRow_setCell_other (a := ⟨gi, zs.length * 2 + 1, none⟩) hu (RowM.ne hu hgc) _
              refine ⟨W.setCell ⟨gi, zs.length * 2 + 1, none⟩ (.slice A2 (x.ms.length + 1) c2), ?_, ⟨fun j v hj hp => ?_, fun _ _ _ _ => trivial⟩, fun h11 => (by cases h11), fun _ => ⟨⟨x.nm, A2, c2, x.ms ++ [h.2]⟩, ⟨?_, fun y hy => ?_⟩, rfl, rfl, ?_⟩, Below.setCell (p := ⟨gi, zs.length * 2 + 1, none⟩) hI.glob.2.2.1 hBg _, by simpa using hI.glob.2.2.2.1, by simpa using hI.glob.2.2.2.2⟩
              · have hc1 : W.cell? ⟨gi, zs.length * 2 + 1, none⟩ = some (slV x) := c1
                clear hst hset hkeep hrow hap2 a1 a2 a4 hr c0 c1 hgc hv'
                go_simp
              · match j, hp with
                | 0, e => exact e
                | 1, e => exact e
                | 2, e => exact e
                | 3, e => exact e
                | 4, e => exact e
                | 5, e => exact e
                | 6, e => exact e
                | 7, ⟨b, e, h1, h2⟩ => exact ⟨b, e, h1, (Below.heap_setCell W ⟨gi, zs.length * 2 + 1, none⟩ _ b (by show b ≠ gi; omega)).trans h2⟩
                | 8, ⟨A, c, e, h1, h2⟩ => exact ⟨A, c, e, hkeep h1, h2⟩
                | 9, e => exact e
                | 10, e => exact e
                | j + 11, _ => exact trivial
              · show World.ownsRow _ _ _ _ _ (zs ++ [_]).length _
                rw [show (zs ++ [(⟨x.nm, A2, c2, x.ms ++ [h.2]⟩ : ItV)]).length = zs.length + 1 by simp]
                exact hst
              · rcases List.mem_append.1 hy with hy | hy
                · exact hkeep (a2 y hy)
                · obtain rfl : y = ⟨x.nm, A2, c2, x.ms ++ [h.2]⟩ := by simpa using hy
                  have e3 : slV ⟨x.nm, A2, c2, x.ms ++ [h.2]⟩ = Value.slice A2 (x.ms.length + 1) c2 := by simp [slV]
                  show RowM _ _ (slV ⟨x.nm, A2, c2, x.ms ++ [h.2]⟩) (x.ms ++ [h.2])
                  rw [e3]
                  exact hkeep hrow
              · intro z hz g hg
                refine hap2 z hz g ?_
                rw [← hg]
                cases A2 <;> rfl
          · intro a W L hL hI
            obtain ⟨x', h1, h2, h3, h4⟩ := hI.glob.2.1 (hL 11 (by decide))
            have HO4 := Lib.hid h1
            have HG4 := Lib.hid (show its (zs ++ [x']) = groupH (l.take (k + 1)) from by
              rw [show its (zs ++ [x']) = its zs ++ [x'.it] by simp, show x'.it = (x'.nm, x'.ms) from rfl, h2, h3]; exact hg3.out)
            have HP4 := Lib.hid h4
            have HB4 := Lib.hid hI.glob.2.2.1
            rw [hI.frame]
            simp only [List.filterMap, List.foldl]
            generalize a.eval (.tmp 39) = v39
            generalize a.eval (.tmp 40) = v40
            generalize a.eval (.tmp 41) = v41
            generalize a.eval (.tmp 42) = v42
            generalize a.eval (.tmp 43) = v43
            generalize a.eval (.tmp 44) = v44
            generalize a.eval (.tmp 45) = v45
            generalize a.eval (.tmp 46) = v46
            generalize a.eval (.tmp 47) = v47
            generalize a.eval (.tmp 48) = v48
            generalize a.eval (.tmp 49) = v49
            clear hI hL h1 h2 h3 h4 ho3 hap3 hg3 B3 hb3 hnb hkp HF HC1
            simp only [List.setIfInBounds_toArray, List.set_cons_succ, List.set_cons_zero]
            go_wp2_with fail
            go_roundw
            case rel =>
              refine ⟨k + 1, zs ++ [x'], by omega, by go_num, by simpa [Hid] using HO4.out, fun zs' y e => ?_, HG4, HB4⟩
              obtain ⟨e1, e2⟩ := List.append_inj' e rfl
              subst e1
              have e3 : x' = y := by simpa using e2
              subst e3
              exact HP4.out
            case measure => simp [intOf]; omega
    · have i0 : ¬ (k : Int) < (l.length : Int) := by omega
      obtain rfl : k = l.length := by omega
      rw [List.take_length] at hits
      clear hlt hap
      go_wp2_with fail
      go_ret
      exact ⟨⟨_, ys, rfl, hown.out, hits.out⟩, hb.out⟩

end

section
open Go.RowKit

/-- What holds while the answer's block waits, of two contexts. -/
def KU (w0 : World) (g : Nat) (x y x' y' : Value) (L : List (Value × List (Int × Int))) (W : World) : Prop :=
  Blk2 W g x y ∧ Blk2 W (g + 1) x' y' ∧ Blk2 W (g + 1 + 1) (.slice none 0 0) (.slice none 0 0) ∧ Below w0.heap.size w0 W ∧ ∀ p ∈ L, Holds W p.1 p.2
section
variable {w0 W W' : World} {g : Nat} {x y x' y' : Value} {L : List (Value × List (Int × Int))}
theorem KU.h {v : Value} {xs : List (Int × Int)} (h : KU w0 g x y x' y' L W) (hm : (v, xs) ∈ L) : Holds W v xs := h.2.2.2.2 _ hm
theorem KU.below (h : KU w0 g x y x' y' L W) (hb : Below W.heap.size W W') : KU w0 g x y x' y' L W' := ⟨h.1.below hb, h.2.1.below hb, h.2.2.1.below hb, below_trans h.2.2.2.1 hb, fun p hp => (h.2.2.2.2 p hp).below hb⟩
theorem KU.drew (h : KU w0 g x y x' y' L W) : KU w0 g x y x' y' L W.drew := h.below (Below.refl _ W).drew
theorem KU.cells (h : KU w0 g x y x' y' L W) : W.cell? ⟨g, 0, none⟩ = some x ∧ W.cell? ⟨g, 1, none⟩ = some y ∧ W.cell? ⟨g + 1, 0, none⟩ = some x' ∧ W.cell? ⟨g + 1, 1, none⟩ = some y' ∧ W.cell? ⟨g + 1 + 1, 0, none⟩ = some (.slice none 0 0) ∧ W.cell? ⟨g + 1 + 1, 1, none⟩ = some (.slice none 0 0) ∧ W.frozen? ⟨g + 1 + 1, 0, none⟩ = false ∧ W.frozen? ⟨g + 1 + 1, 1, none⟩ = false :=
  ⟨h.1.cell0, h.1.cell1, h.2.1.cell0, h.2.1.cell1, h.2.2.1.cell0, h.2.2.1.cell1, h.2.2.1.frozen 0, h.2.2.1.frozen 1⟩
end
end

section
open Go.RowKit

/-- What holds of two contexts' boxes and of a third box, whatever this holds. -/
def KBm (w0 : World) (g : Nat) (x y x' y' : Value) (L : List (Value × List (Int × Int))) (W : World) : Prop :=
  Blk2 W g x y ∧ Blk2 W (g + 1) x' y' ∧ (∃ A n c B m d, Blk2 W (g + 1 + 1) (.slice A n c) (.slice B m d)) ∧ Below w0.heap.size w0 W ∧ ∀ p ∈ L, Holds W p.1 p.2
def KCm (w0 : World) (g : Nat) (x y x' y' : Value) (L : List (Value × List (Int × Int))) (W : World) : Prop :=
  W.cell? ⟨g, 0, none⟩ = some x ∧ W.cell? ⟨g, 1, none⟩ = some y ∧ W.cell? ⟨g + 1, 0, none⟩ = some x' ∧ W.cell? ⟨g + 1, 1, none⟩ = some y' ∧ KBm w0 g x y x' y' L W
section
variable {w0 W W' : World} {g : Nat} {x y x' y' : Value} {L : List (Value × List (Int × Int))}
theorem KCm.mk (h : KBm w0 g x y x' y' L W) : KCm w0 g x y x' y' L W := ⟨h.1.cell0, h.1.cell1, h.2.1.cell0, h.2.1.cell1, h⟩
theorem KCm.kb (h : KCm w0 g x y x' y' L W) : KBm w0 g x y x' y' L W := h.2.2.2.2
theorem KBm.below (h : KBm w0 g x y x' y' L W) (hb : Below W.heap.size W W') : KBm w0 g x y x' y' L W' := by
  obtain ⟨h1, h2, ⟨A, n, c, B, m, d, h3⟩, h4, h5⟩ := h
  exact ⟨h1.below hb, h2.below hb, ⟨A, n, c, B, m, d, h3.below hb⟩, below_trans h4 hb, fun p hp => (h5 p hp).below hb⟩
theorem KCm.h {v : Value} {xs : List (Int × Int)} (h : KCm w0 g x y x' y' L W) (hm : (v, xs) ∈ L) : Holds W v xs := h.kb.2.2.2.2 _ hm
theorem KCm.below (h : KCm w0 g x y x' y' L W) (hb : Below W.heap.size W W') : KCm w0 g x y x' y' L W' := .mk (h.kb.below hb)
theorem KCm.drew (h : KCm w0 g x y x' y' L W) : KCm w0 g x y x' y' L W.drew := h.below (Below.refl _ W).drew
theorem KCm.store (h : KCm w0 g x y x' y' L W) (hg : w0.heap.size ≤ g) (A : Option Addr) (n c : Nat) (B : Option Addr) (m d : Nat) : KCm w0 g x y x' y' L ((W.setCell ⟨g + 1 + 1, 0, none⟩ (.slice A n c)).setCell ⟨g + 1 + 1, 1, none⟩ (.slice B m d)) := by
  obtain ⟨h1, h2, ⟨A', n', c', B', m', d', h3⟩, h4, h5⟩ := h.kb
  refine .mk ⟨(h1.other (by omega) 0 _).other (by omega) 1 _, (h2.other (by omega) 0 _).other (by omega) 1 _, ⟨_, _, _, _, _, _, h3.set _ _⟩, below_set2 h4 (by omega) _ _, fun p hp => ?_⟩
  exact (h5 p hp).set2 h3 (by intro z; simp) (by intro z; simp)
theorem KCm.third (h : KCm w0 g x y x' y' L W) : ∃ A n c B m d, W.cell? ⟨g + 1 + 1, 0, none⟩ = some (.slice A n c) ∧ W.cell? ⟨g + 1 + 1, 1, none⟩ = some (.slice B m d) ∧ W.frozen? ⟨g + 1 + 1, 0, none⟩ = false ∧ W.frozen? ⟨g + 1 + 1, 1, none⟩ = false ∧ Blk2 W (g + 1 + 1) (.slice A n c) (.slice B m d) := by
  obtain ⟨A, n, c, B, m, d, h3⟩ := h.kb.2.2.1
  exact ⟨A, n, c, B, m, d, h3.cell0, h3.cell1, h3.frozen 0, h3.frozen 1, h3⟩
end

end

end Go.Proofs.YtiaehpdgpjhecaaGreat
