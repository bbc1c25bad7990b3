/- The law CartOrders, from what known() is (written by gen_cary4.py). -/
import Derived.Test.YtfmhhmceoikgpaaGreatNK
namespace Go.Proofs.YtfmhhmceoikgpaaGreat
open Go.RowKit

theorem sortM_same {l l' : List Mk} (h : l.Perm l') (hi : Inc (dotsM (sortM l))) : sortM l' = sortM l := by
  have hi' : Inc (dotsM (sortM l')) := incM_iff.2 ((incM_iff.1 hi).perm (h.map _))
  exact incM_ext hi' hi fun d => by rw [(sortM_perm l').mem_iff, (sortM_perm l).mem_iff, h.mem_iff]
theorem ordI_turned {x y : It} (h : okI (ordI x) = true) (h1 : y.1 = x.1) (h2 : y.2.Perm x.2) : ordI y = ordI x := by
  show (y.1, sortM y.2) = (x.1, sortM x.2)
  rw [h1, sortM_same h2.symm (okI_parts h).2.2.2]
theorem LooseI.turned {xs : List It} {f : It → It} (h : LooseI xs) (hf : ∀ x ∈ xs, (f x).1 = x.1 ∧ (f x).2.Perm x.2) : LooseI (xs.map f) := by
  refine ⟨fun y hy => ?_, ?_⟩
  · obtain ⟨x, hx, rfl⟩ := List.mem_map.1 hy
    rw [ordI_turned (h.1 x hx) (hf x hx).1 (hf x hx).2]
    exact h.1 x hx
  · rw [List.pairwise_map]
    refine h.2.imp_of_mem fun {a b} ha hb hab => ⟨?_, ?_⟩
    · rw [(hf a ha).1, (hf b hb).1]; exact hab.1
    · rw [meetN_mem (fun m => (hf a ha).2.mem_iff) (fun m => (hf b hb).2.mem_iff)]; exact hab.2
theorem canonK_turned {c : Ca} {ys : List It} {f : It → It} (h : validK c = true) (hp : ys.Perm c.2) (hf : ∀ x ∈ c.2, (f x).1 = x.1 ∧ (f x).2.Perm x.2) : canonK (c.1, ys.map f) = some c := by
  have hg := (validK_iff.1 h).2.1
  have ho := OrdInv.self hg
  have hfy : ∀ x ∈ ys, (f x).1 = x.1 ∧ (f x).2.Perm x.2 := fun x hx => hf x (hp.mem_iff.1 hx)
  have hl : LooseI ys := ho.loose.perm hp.symm
  have hc : canonI (ys.map f) = some c.2 := ho.other (hl.turned hfy) fun z => by
    constructor
    · rintro ⟨y, hy, rfl⟩
      obtain ⟨x, hx, rfl⟩ := List.mem_map.1 hy
      exact ⟨x, hp.mem_iff.1 hx, ordI_turned (hl.1 x hx) (hfy x hx).1 (hfy x hx).2⟩
    · rintro ⟨x, hx, rfl⟩
      have hy := hp.mem_iff.2 hx
      exact ⟨f x, List.mem_map.2 ⟨x, hy, rfl⟩, (ordI_turned (hl.1 x hy) (hfy x hy).1 (hfy x hy).2).symm⟩
  have e := canonK_self h
  unfold canonK at e ⊢
  rw [canonI_self hg] at e
  rw [show canonI (c.1, ys.map f).2 = some c.2 from hc]
  exact e
theorem turned_perm {α : Type} (l : List α) (k : Nat) : (l.drop k ++ l.take k).Perm l := by
  have := (List.perm_append_comm (l₁ := l.take k) (l₂ := l.drop k)).symm
  rwa [List.take_append_drop] at this

theorem SlAt.cutK {α : Type} {enc : α → List Value} {k : Nat} {w : World} {A : Option Addr} {xs : List α} (h : SlAt enc k w A xs) (m : Nat) : SlAt enc k w (A.map fun x => x.add (m * k)) (xs.drop m) := fun hn => by
  obtain ⟨b, off, rfl, hb, hcell⟩ := h (by simp at hn; omega)
  refine ⟨b, off + m * k, by simp [Addr_add], hb, fun j x hx i u hu => ?_⟩
  rw [List.getElem?_drop] at hx
  have := hcell (m + j) x hx i u hu
  rw [Nat.add_mul] at this
  rw [show off + m * k + j * k + i = off + (m * k + j * k) + i by omega]
  exact this
theorem turn_len {α : Type} (l : List α) (k : Nat) : (l.drop k ++ l.take k).length = l.length := by
  rw [List.length_append, List.length_drop, List.length_take]; omega
/-- The cart's box, and a copy in a box of its own. -/
structure KT (w : World) (c : CaV) (g : Nat) (v l iv : Value) (vs ls : List (Int × Int)) (ys : List ItV) (W : World) : Prop where
  kb : KB1 w c W
  out : W.heap[g]? = some (.cells #[v, l, iv] 28 (0, 0))
  gb : w.heap.size < g
  rv : RowC W (w.heap.size + 1) v vs
  rl : RowC W (w.heap.size + 1) l ls
  ri : OwnI W (w.heap.size + 1) iv ys
section
variable {w W W' : World} {c : CaV} {g : Nat} {v l iv : Value} {vs ls : List (Int × Int)} {ys : List ItV}
theorem KT.next (h : KT w c g v l iv vs ls ys W) (hb : Below W.heap.size W W') : KT w c g v l iv vs ls ys W' :=
  ⟨h.kb.next hb, (hb.block g (Array.getElem?_eq_some_iff.1 h.out).1).trans h.out, h.gb, h.rv.below hb, h.rl.below hb, h.ri.below hb⟩
theorem KT.lt (h : KT w c g v l iv vs ls ys W) : g < W.heap.size := (Array.getElem?_eq_some_iff.1 h.out).1
theorem KT.cells (h : KT w c g v l iv vs ls ys W) : W.cell? ⟨g, 0, none⟩ = some v ∧ W.cell? ⟨g, 1, none⟩ = some l ∧ W.cell? ⟨g, 2, none⟩ = some iv := by
  obtain ⟨_, s0, s1, s2, _⟩ := boxC_kept (Below.refl _ _) h.out
  exact ⟨s0, s1, s2⟩
theorem KT.items (h : KT w c g v l iv vs ls ys W) : ∃ A d, iv = .slice A ys.length d ∧ ys.length ≤ d ∧ d ≤ maxLen ∧ SlAt encIt 2 W A ys := SlAt.of_own encIt_len h.ri.1
theorem KT.at {I : Option Addr} {n d : Nat} (h : KT w c g v l (.slice I n d) vs ls ys W) : SlAt encIt 2 W I ys ∧ n ≤ d ∧ d ≤ maxLen := by
  obtain ⟨A, d', e, h1, h2, h3⟩ := h.items
  injection e with e1 e2 e3
  subst e1 e2 e3
  exact ⟨h3, h1, h2⟩
/-- The items turned: a new row, stored. -/
theorem KT.store (h : KT w c g v l iv vs ls ys W) {B : Nat} {v' : Value} {zs : List ItV} (hB : w.heap.size + 1 ≤ B) (hr : W.ownsRow B 56 2 v' zs.length (cellsOf encIt zs)) (hz : ∀ z ∈ zs, z ∈ ys) : KT w c g v l v' vs ls zs (W.setCell ⟨g, 2, none⟩ v') := by
  have hgb := h.gb
  have ho : ∀ k, k ≠ g → (W.setCell ⟨g, 2, none⟩ v').heap[k]? = W.heap[k]? := fun k hk => Below.heap_setCell W ⟨g, 2, none⟩ v' k hk
  refine ⟨⟨(ho _ (by omega)).trans h.kb.blk, h.kb.bel.setCell (p := ⟨g, 2, none⟩) (by simp; omega) _, h.kb.ok0⟩, ?_, h.gb, row_set1 h.rv h.out (by decide), row_set1 h.rl h.out (by decide),
    OwnI.store ⟨Joins.ownsRow_le hr hB, fun z hz' => h.ri.2 z (hz z hz')⟩ h.out (by decide) (by decide)⟩
  show (W.heap.modify g _)[g]? = _
  rw [Array.getElem?_modify, if_pos rfl, h.out]
  rfl
end

/-- One item with its marks turned. -/
def turnI (m : Nat) (x : It) : It := (x.1, x.2.drop (m % x.2.length) ++ x.2.take (m % x.2.length))
/-- The first j items have their marks turned. -/
def TurnedTo (m : Nat) (L M : List It) (j : Nat) : Prop := ∀ i : Nat, M[i]? = (L[i]?).map fun x => if i < j then turnI m x else x
theorem TurnedTo.zero {m : Nat} (L : List It) : TurnedTo m L L 0 := fun i => by cases L[i]? <;> simp
theorem TurnedTo.here {m : Nat} {L M : List It} {j : Nat} {x : It} (h : TurnedTo m L M j) (hx : M[j]? = some x) : L[j]? = some x := by
  have h1 := h j
  rw [hx] at h1
  cases hl : L[j]? with
  | none => rw [hl] at h1; cases h1
  | some z =>
    rw [hl] at h1
    simp at h1
    rw [h1]
theorem TurnedTo.step {m : Nat} {L : List It} {ys : List ItV} {j : Nat} {y z : ItV} (h : TurnedTo m L (its ys) j) (hy : ys[j]? = some y) (hz : z.it = turnI m y.it) : TurnedTo m L (its (ys.set j z)) (j + 1) := fun i => by
  have h1 := h i
  have hj := (List.getElem?_eq_some_iff.1 hy).1
  rw [List.getElem?_map] at h1 ⊢
  by_cases e : j = i
  · subst e
    rw [List.getElem?_set_self hj, h.here (its_at hy)]
    simp [hz]
  · rw [List.getElem?_set_ne e, h1]
    congr 1
    funext x
    have : (i < j + 1) = (i < j) := by simp; omega
    simp [this]
theorem TurnedTo.all {m : Nat} {L M : List It} {j : Nat} (h : TurnedTo m L M j) (hl : L.length = j) : M = L.map (turnI m) := by
  apply List.ext_getElem?
  intro i
  rw [h i, List.getElem?_map]
  cases hi : L[i]? with
  | none => rfl
  | some x =>
    have := (List.getElem?_eq_some_iff.1 hi).1
    simp [show i < j by omega]

theorem cells_setM (ys : List ItV) (j : Nat) (x y : ItV) (hj : ys[j]? = some y) (hn : x.nm = y.nm) : (cellsOf encIt ys).set (j * 2 + 1) (.slice x.A x.ms.length x.c) = cellsOf encIt (ys.set j x) := by
  induction ys generalizing j with
  | nil => simp at hj
  | cons z l ih =>
    cases j with
    | zero =>
      obtain rfl : z = y := by simpa using hj
      show _ = encIt x ++ cellsOf encIt l
      unfold encIt
      rw [hn]
      rfl
    | succ n =>
      have hj' : l[n]? = some y := by simpa using hj
      rw [List.set_cons_succ, show cellsOf encIt (z :: l) = encIt z ++ cellsOf encIt l from rfl, show cellsOf encIt (z :: l.set n x) = encIt z ++ cellsOf encIt (l.set n x) from rfl, ← ih n hj', show (n + 1) * 2 + 1 = (encIt z).length + (n * 2 + 1) by rw [encIt_len]; omega, List.set_append_right _ _ (by omega), show (encIt z).length + (n * 2 + 1) - (encIt z).length = n * 2 + 1 by omega]
section
variable {w W : World} {c : CaV} {g n d : Nat} {v l : Value} {vs ls : List (Int × Int)} {ys : List ItV}
theorem KT.len {I : Option Addr} (h : KT w c g v l (.slice I n d) vs ls ys W) : n = ys.length := by
  obtain ⟨A, d', e, _⟩ := h.items
  injection e
theorem KT.block {I : Option Addr} (h : KT w c g v l (.slice I n d) vs ls ys W) (hn : 0 < ys.length) : ∃ b, I = some ⟨b, 0, none⟩ := by
  obtain ⟨b, c', cur, hv, _, _⟩ := h.ri.1.form hn
  injection hv with h1
  exact ⟨b, h1⟩
theorem KT.itemAt {b j : Nat} {y : ItV} (h : KT w c g v l (.slice (some ⟨b, 0, none⟩) n d) vs ls ys W) (hj : ys[j]? = some y) :
    W.cell? ⟨b, j * 2, none⟩ = some (.string ⟨y.nm.toArray⟩) ∧ W.cell? ⟨b, j * 2 + 1, none⟩ = some (.slice y.A y.ms.length y.c) ∧ W.frozen? ⟨b, j * 2 + 1, none⟩ = false ∧ b < W.heap.size := by
  obtain rfl := h.len
  obtain ⟨b', off, e, hb, hc⟩ := h.at.1 (by have := (List.getElem?_eq_some_iff.1 hj).1; omega)
  injection e with e
  injection e with e1 e2 _
  subst e1 e2
  have h0 := hc j y hj 0 _ rfl
  have h1 := hc j y hj 1 _ rfl
  rw [Nat.zero_add, Nat.add_zero] at h0
  rw [Nat.zero_add] at h1
  exact ⟨h0, h1, h.ri.1.frozenAt (j * 2 + 1), hb⟩
theorem KT.setM {b j : Nat} {x y : ItV} {u : Value} (h : KT w c g v l (.slice (some ⟨b, 0, none⟩) n d) vs ls ys W) (hj : ys[j]? = some y) (hx : RowM W (w.heap.size + 1) u x.ms) (hu : u = slV x) (hn : x.nm = y.nm := by rfl) :
    KT w c g v l (.slice (some ⟨b, 0, none⟩) n d) vs ls (ys.set j x) (W.setCell ⟨b, j * 2 + 1, none⟩ u) := by
  subst hu
  obtain rfl := h.len
  have hjl := (List.getElem?_eq_some_iff.1 hj).1
  obtain ⟨b', c', cur, hv, hB, hg⟩ := h.ri.1.form (by omega)
  have hbb : b = b' := by injection hv with h1; injection h1 with h1; injection h1
  subst hbb
  have ho : ∀ k, k ≠ b → (W.setCell ⟨b, j * 2 + 1, none⟩ (slV x)).heap[k]? = W.heap[k]? := fun k hk => Below.heap_setCell W ⟨b, j * 2 + 1, none⟩ (slV x) k hk
  have hgb : g ≠ b := by
    rintro rfl
    have := h.out.symm.trans hg
    injection this with h1
    injection h1 with _ h2 _
    exact absurd h2 (by decide)
  have hrow := (World.ownsRow.stored h.ri.1 (j * 2 + 1) (slV x)).1
  rw [cells_setM ys j x y hj hn] at hrow
  refine ⟨⟨(ho _ (by omega)).trans h.kb.blk, h.kb.bel.setCell (p := ⟨b, j * 2 + 1, none⟩) (by simp; omega) _, h.kb.ok0⟩, (ho g hgb).trans h.out, h.gb, row_set1 h.rv hg (by decide), row_set1 h.rl hg (by decide), ?_, fun z hz => ?_⟩
  · show World.ownsRow _ _ _ _ _ (ys.set j x).length _
    rw [List.length_set]
    exact hrow
  · have hk : RowM W (w.heap.size + 1) (slV z) z.ms := by
      rcases List.mem_or_eq_of_mem_set hz with h' | h'
      · exact h.ri.2 z h'
      · subst h'; exact hx
    exact row_set1 hk hg (by decide)
end

set_option maxRecDepth 100000 in
set_option maxHeartbeats 8000000 in
theorem lawOrders10 (KN : KnownOK) (c : CaV) (m : Nat) (w : World) (hc : CaOK w c) (hm : m < 256) :
    Calls Tryz.prog 6 #[mkC c, .int .u8 (m : Int)] w (TrueB w) := by
  obtain ⟨tm0, him, hzm0, hzm1, hzm2⟩ := info_parts infoM
  obtain ⟨ti0, hii, hzi0, hzi1, hzi2⟩ := info_parts infoIt
  have K0 := Lib.hid (KB1.new w c hc)
  have HKN := Lib.hid KN
  obtain ⟨lc, hlc⟩ : ∃ lc, lightK c = lc := ⟨_, rfl⟩
  have HLC := Lib.hid hlc
  clear hc hlc KN
  cases lc with
  | false =>
    go_enter Tryz.func6, Tryz.ntmps6
    go_upto_region 1 with fail
    generalize World.alloc w _ = w2 at K0 ⊢
    obtain ⟨x0, x1, x2, xl, _⟩ := K0.out.sp
    go_wp2_with fail
    refine (lawLight10 c false w2 K0.out.ok HLC.out).mono ?_
    rintro e w3 ⟨rfl, hb⟩
    have KB := Lib.hid (K0.out.next hb).bel
    clear hb K0 x0 x1 x2 xl
    go_wp2_with fail
    refine (HKN.out w3).mono ?_
    rintro e w4 ⟨rfl, hb⟩
    have KC := Lib.hid (below_trans KB.out hb)
    clear hb KB
    go_wp2_with fail
    go_ret
    exact OneB.bool rfl KC.out
  | true =>
    have HS := Lib.hid (lightK_small HLC.out)
    have HF := Lib.hid (lightK_fits HLC.out)
    obtain ⟨b, hb⟩ : ∃ b, validK c.ca = b := ⟨_, rfl⟩
    have HV := Lib.hid hb
    clear hb
    go_enter Tryz.func6, Tryz.ntmps6
    go_upto_region 1 with fail
    generalize World.alloc w _ = w2 at K0 ⊢
    obtain ⟨x0, x1, x2, xl, _⟩ := K0.out.sp
    go_wp2_with fail
    refine (lawLight10 c true w2 K0.out.ok HLC.out).mono ?_
    rintro e w3 ⟨rfl, hb⟩
    have K1 := Lib.hid (K0.out.next hb)
    clear hb K0 x0 x1 x2 xl
    obtain ⟨x0, x1, x2, xl, _⟩ := K1.out.sp
    go_wp2_with fail
    refine (refValid10 c b w3 K1.out.ok HS.out.fits HV.out).mono ?_
    rintro e w4 ⟨rfl, hb⟩
    have K2 := Lib.hid (K1.out.next hb)
    clear hb K1 x0 x1 x2 xl
    cases b with
    | false =>
      go_wp2_with fail
      refine (HKN.out w4).mono ?_
      rintro e w5 ⟨rfl, hb⟩
      have KC := Lib.hid (below_trans K2.out.bel hb)
      clear hb K2
      go_wp2_with fail
      go_ret
      exact OneB.bool rfl KC.out
    | true =>
      have HG := Lib.hid (show Good (its c.xs) from (validK_iff.1 HV.out).2.1)
      obtain ⟨x0, x1, x2, xl, _⟩ := K2.out.sp
      go_wp2_with fail
      refine (refCopy10 c w4 K2.out.ok HS.out.cc).mono ?_
      rintro e w5 ⟨k, rfl, hk, rv, rl, ri, hb⟩
      have hs4 := K2.out.size
      have h6 := (Below.refl w5.heap.size w5).alloc (Nat.le_refl _) (.cells #[k.v, k.l, k.i] 28)
      have K3 := Lib.hid (show KT w c w5.heap.size k.v k.l k.i c.vs c.ls k.xs (w5.alloc (.cells #[k.v, k.l, k.i] 28)) from
        ⟨(K2.out.next hb).next h6, heap_alloc_new w5 _, (by have := (K2.out.next hb).size; omega), RowC.below (Joins.ownsRow_le rv hs4) h6, RowC.below (Joins.ownsRow_le rl hs4) h6, OwnI.below (ri.le hs4) h6⟩)
      have HK := Lib.hid (show its k.xs = its c.xs from congrArg (fun a : Ca => a.2) hk)
      have hkl : k.xs.length = c.xs.length := by rw [← its_len k.xs, HK.out, its_len]
      have hc20 : c.xs.length ≤ 20 := HS.out.items.1
      have hkv : k.vs = c.vs := congrArg (fun a : Ca => a.1.1) hk
      have hkw : k.ls = c.ls := congrArg (fun a : Ca => a.1.2) hk
      obtain ⟨V, nv, hV⟩ : ∃ V nv, k.v = .slice V c.vs.length nv := ⟨k.V, k.nv, by rw [← hkv]⟩
      obtain ⟨L, nl, hL⟩ : ∃ L nl, k.l = .slice L c.ls.length nl := ⟨k.L, k.nl, by rw [← hkw]⟩
      have hI : k.i = .slice k.I c.xs.length k.ni := by rw [← hkl]
      rw [hV, hL, hI] at K3
      clear hk rv rl ri hb hs4 h6 K2 x0 x1 x2 xl hkv hkw
      go_upto_region 4 with fail
      try rw [hV, hL, hI]
      obtain ⟨g, hg⟩ : ∃ g, w5.heap.size = g := ⟨_, rfl⟩
      rw [hg] at K3 ⊢
      clear hg hV hL hI
      generalize World.alloc w5 _ = w6 at K3 ⊢
      obtain ⟨s0, s1, s2⟩ := K3.out.cells
      have gl := K3.out.lt
      go_upto_if 26 with fail
      clear s0 s1 s2 gl
      go_cut [6, 7] (fun _ _ wx => ∃ (I : Option Addr) (d : Nat) (ys : List ItV), ys.length = c.xs.length ∧ Hid ((its ys).Perm (its c.xs)) ∧ Hid (KT w c g (.slice V c.vs.length nv) (.slice L c.ls.length nl) (.slice I c.xs.length d) c.vs c.ls ys wx))
      case first =>
        by_cases h0 : c.xs.length = 0
        · have i2 : ¬ (0 : Int) < (c.xs.length : Int) := by omega
          clear h0
          have HP := Lib.hid (show (its k.xs).Perm (its c.xs) from by rw [HK.out])
          go_wp2_with fail
          go_meet
          exact ⟨_, _, k.xs, hkl, HP, K3⟩
        · have i2 : (0 : Int) < (c.xs.length : Int) := by omega
          obtain ⟨r, hr⟩ : ∃ r, m % c.xs.length = r := ⟨_, rfl⟩
          have hrl : r < c.xs.length := by rw [← hr]; exact Nat.mod_lt _ (by omega)
          have i3 : (m : Int).tmod (c.xs.length : Int) = (r : Int) := by rw [Int.tmod_eq_emod_of_nonneg (Int.natCast_nonneg m), ← hr]; rfl
          have i4 : ((c.xs.length : Int) == 0) = false := eqF (by omega)
          have im : (0 : Int) ≤ (m : Int) := by omega
          have im2 : (m : Int) < 256 := by omega
          clear hr h0
          go_upto_region 7 with fail
          have hk0 : (0 : Int) ≤ (r : Int) := by omega
          have hk1 : (r : Int) ≤ (c.xs.length : Int) := by omega
          have hni := K3.out.at.2.1
          have hnm := K3.out.at.2.2
          have hk2 : (r : Int) ≤ (k.ni : Int) := by omega
          have hk3 : ¬ k.ni = r := by omega
          have HP := Lib.hid (show (its (k.xs.drop r ++ k.xs.take r)).Perm (its c.xs) from by rw [← HK.out]; exact (turned_perm k.xs r).map _)
          have B0 := Lib.hid (show w.heap.size + 1 ≤ w6.drew.heap.size from by have h := K3.out.kb.size; exact Nat.le_trans h (Below.refl w6.heap.size w6).drew.size)
          have KD := Lib.hid (K3.out.next (Below.refl _ _).drew)
          refine wp_region_held_drew (S := (fun _ => True)) (by kernel_rfl) trivial (fun hHeld => ?_)
          generalize World.drew w6 = wd at KD B0 hHeld ⊢
          have BD := Lib.hid (Below.refl wd.heap.size wd)
          clear K3
          refine wpAnyH_take (i := 0) (oi := ⟨some 31, _, _, _, _, _⟩) (v := ?_) rfl (by kernel_rfl) (by kernel_rfl) (by kernel_rfl) (fun _ _ _ h => h) (Or.inl ⟨by rfl, ?_⟩) (by assumption) ?_
          rotate_left 1
          · intro w hSw
            (try dsimp only at hSw)
            go_simp
            try with_reducible rfl
          try simp only [Act.put, List.setIfInBounds_toArray, List.set_cons_zero, List.set_cons_succ]
          refine wpAnyH_take (i := 2) (oi := ⟨some 33, _, _, _, _, _⟩) (v := ?_) rfl (by kernel_rfl) (by kernel_rfl) (by kernel_rfl) (fun _ _ _ h => h) (Or.inl ⟨by rfl, ?_⟩) (by assumption) ?_
          rotate_left 1
          · intro w hSw
            (try dsimp only at hSw)
            go_simp
            try with_reducible rfl
          try simp only [Act.put, List.setIfInBounds_toArray, List.set_cons_zero, List.set_cons_succ]
          refine wpAnyH_take (i := 5) (oi := ⟨some 36, _, _, _, _, _⟩) (v := ?_) rfl (by kernel_rfl) (by kernel_rfl) (by kernel_rfl) (fun _ _ _ h => h) (Or.inl ⟨by rfl, ?_⟩) (by assumption) ?_
          rotate_left 1
          · intro w hSw
            (try dsimp only at hSw)
            go_simp
            try with_reducible rfl
          try simp only [Act.put, List.setIfInBounds_toArray, List.set_cons_zero, List.set_cons_succ]
          refine wpAnyH_take (i := 7) (oi := ⟨some 38, _, _, _, _, _⟩) (v := ?_) rfl (by kernel_rfl) (by kernel_rfl) (by kernel_rfl) (fun _ _ _ h => h) (Or.inl ⟨by rfl, ?_⟩) (by assumption) ?_
          rotate_left 1
          · intro w hSw
            (try dsimp only at hSw)
            go_simp
            try with_reducible rfl
          try simp only [Act.put, List.setIfInBounds_toArray, List.set_cons_zero, List.set_cons_succ]
          refine wpAnyH_ready (rs := [1, 6]) (by kernel_rfl) (by simp) ?_
          refine AllReadyH.cons (o := ⟨some 32, _, _, _, _, _⟩) rfl (fun K hK => ?_) (AllReadyH.cons (o := ⟨some 37, _, _, _, _, _⟩) rfl (fun K hK => ?_) AllReadyH.nil)
          · obtain ⟨_, s0, s1, s2, f0, f1, f2, hgl⟩ := boxC_kept (Below.refl _ _) KD.out.out
            go_simp
            refine hK.out _ _ ?_ (fun hHeld => ?_)
            · exact trivial
            clear hK
            try simp only [Act.put, List.setIfInBounds_toArray, List.set_cons_zero, List.set_cons_succ]
            clear s0 s1 s2 f0 f1 f2 hgl
            refine wpAnyH_take (i := 3) (oi := ⟨some 34, _, _, _, _, _⟩) (v := ?_) rfl (by kernel_rfl) (by kernel_rfl) (by kernel_rfl) (fun _ _ _ h => h) (Or.inl ⟨by rfl, ?_⟩) (by assumption) ?_
            rotate_left 1
            · intro w hSw
              (try dsimp only at hSw)
              go_simp
              try with_reducible rfl
            try simp only [Act.put, List.setIfInBounds_toArray, List.set_cons_zero, List.set_cons_succ]
            refine wpAnyH_ready (rs := [4, 6]) (by kernel_rfl) (by simp) ?_
            refine AllReadyH.cons (o := ⟨some 35, _, _, _, _, _⟩) rfl (fun K hK => ?_) (AllReadyH.cons (o := ⟨some 37, _, _, _, _, _⟩) rfl (fun K hK => ?_) AllReadyH.nil)
            · refine step_append_sl (o := ⟨some 35, _, _, _, _, _⟩) _ encIt 2 (by rfl) (.const (.slice none 0 0)) (.tmp 34) 26 (by rfl) encIt_len (by omega) encIt_one wd.heap.size 56 ti0 _ 40 Tryz.underlying26 hii hzi0 hzi1 hzi2 rfl (.slice none 0 0) [] (by rfl) (World.ownsRow_nil _ _ _ _) _ (c.xs.length - r) _ (k.xs.drop r) (by rfl) (by simp <;> omega) (SlAt.cutK KD.out.at.1 r) (by simp [maxLen]; omega) (by simp; omega) BD.out.size ?_
              intro v4 w4 hown hg hat
              rw [List.nil_append] at hown
              have B4 := Lib.hid ((Below.refl wd.heap.size wd).grown hg (Nat.le_refl _) (fun j e => by cases e))
              have K4 := Lib.hid (KD.out.next B4.out)
              have H4 := Lib.hid hown
              refine hK.out _ _ ?_ (fun hHeld => ?_)
              · exact trivial
              clear hK
              try simp only [Act.put, List.setIfInBounds_toArray, List.set_cons_zero, List.set_cons_succ]
              clear hown hg hat
              refine wpAnyH_ready (rs := [6]) (by kernel_rfl) (by simp) ?_
              refine AllReadyH.cons (o := ⟨some 37, _, _, _, _, _⟩) rfl (fun K hK => ?_) AllReadyH.nil
              obtain ⟨_, s0, s1, s2, f0, f1, f2, hgl⟩ := boxC_kept (Below.refl _ _) K4.out.out
              go_simp
              refine hK.out _ _ ?_ (fun hHeld => ?_)
              · exact trivial
              clear hK
              try simp only [Act.put, List.setIfInBounds_toArray, List.set_cons_zero, List.set_cons_succ]
              clear s0 s1 s2 f0 f1 f2 hgl
              refine wpAnyH_take (i := 8) (oi := ⟨some 39, _, _, _, _, _⟩) (v := ?_) rfl (by kernel_rfl) (by kernel_rfl) (by kernel_rfl) (fun _ _ _ h => h) (Or.inl ⟨by rfl, ?_⟩) (by assumption) ?_
              rotate_left 1
              · intro w hSw
                (try dsimp only at hSw)
                go_simp
                try with_reducible rfl
              try simp only [Act.put, List.setIfInBounds_toArray, List.set_cons_zero, List.set_cons_succ]
              refine wpAnyH_ready (rs := [9]) (by kernel_rfl) (by simp) ?_
              refine AllReadyH.cons (o := ⟨some 40, _, _, _, _, _⟩) rfl (fun K hK => ?_) AllReadyH.nil
              refine step_append_sl (o := ⟨some 40, _, _, _, _, _⟩) _ encIt 2 (by rfl) (.tmp 35) (.tmp 39) 26 (by rfl) encIt_len (by omega) encIt_one wd.heap.size 56 ti0 _ 40 Tryz.underlying26 hii hzi0 hzi1 hzi2 rfl v4 (k.xs.drop r) (by rfl) H4.out _ r _ (k.xs.take r) (by rfl) (by simp; omega) (SlAt.take K4.out.at.1 r) (by simp [maxLen]; omega) (by simp; omega) B4.out.size ?_
              intro v9 w9 hown hg hat
              have B9 := Lib.hid (B4.out.grown hg B4.out.size (fun j hj => (H4.out.lt j hj).1))
              have K9 := Lib.hid (KD.out.next B9.out)
              have H9 := Lib.hid hown
              obtain ⟨D9, e9, hv9, _, _, _⟩ := SlAt.of_own encIt_len hown
              rw [turn_len, hkl] at hv9
              subst hv9
              refine hK.out _ _ ?_ (fun hHeld => ?_)
              · exact trivial
              clear hK
              try simp only [Act.put, List.setIfInBounds_toArray, List.set_cons_zero, List.set_cons_succ]
              clear hown hg hat
              refine wpAnyH_take (i := 10) (oi := ⟨some 41, _, _, _, _, _⟩) (v := ?_) rfl (by kernel_rfl) (by kernel_rfl) (by kernel_rfl) (fun _ _ _ h => h) (Or.inl ⟨by rfl, ?_⟩) (by assumption) ?_
              rotate_left 1
              · intro w hSw
                (try dsimp only at hSw)
                go_simp
                try with_reducible rfl
              try simp only [Act.put, List.setIfInBounds_toArray, List.set_cons_zero, List.set_cons_succ]
              refine wpAnyH_ready (rs := [11]) (by kernel_rfl) (by simp) ?_
              refine AllReadyH.cons (o := ⟨none, _, _, _, _, _⟩) rfl (fun K hK => ?_) AllReadyH.nil
              obtain ⟨_, s0, s1, s2, f0, f1, f2, hgl⟩ := boxC_kept (Below.refl _ _) K9.out.out
              go_simp
              have KF := Lib.hid (show KT w c g (.slice V c.vs.length nv) (.slice L c.ls.length nl) (.slice D9 c.xs.length e9) c.vs c.ls (k.xs.drop r ++ k.xs.take r) (w9.setCell ⟨g, 2, none⟩ (.slice D9 c.xs.length e9)) from K9.out.store B0.out H9.out (fun z hz => ((turned_perm k.xs r).mem_iff).1 hz))
              refine hK.out _ _ ?_ (fun hHeld => ?_)
              · exact trivial
              clear hK
              try simp only [Act.put, List.setIfInBounds_toArray, List.set_cons_zero, List.set_cons_succ]
              clear s0 s1 s2 f0 f1 f2 hgl
              refine wpAnyH_done (by kernel_rfl) ?_ _
              clear hHeld
              go_wp2_with fail
              go_meet
              exact ⟨_, _, _, by rw [turn_len]; exact hkl, HP, KF⟩
            · obtain ⟨_, s0, s1, s2, f0, f1, f2, hgl⟩ := boxC_kept (Below.refl _ _) KD.out.out
              go_simp
              refine hK.out _ _ ?_ (fun hHeld => ?_)
              · exact trivial
              clear hK
              try simp only [Act.put, List.setIfInBounds_toArray, List.set_cons_zero, List.set_cons_succ]
              clear s0 s1 s2 f0 f1 f2 hgl
              refine wpAnyH_take (i := 8) (oi := ⟨some 39, _, _, _, _, _⟩) (v := ?_) rfl (by kernel_rfl) (by kernel_rfl) (by kernel_rfl) (fun _ _ _ h => h) (Or.inl ⟨by rfl, ?_⟩) (by assumption) ?_
              rotate_left 1
              · intro w hSw
                (try dsimp only at hSw)
                go_simp
                try with_reducible rfl
              try simp only [Act.put, List.setIfInBounds_toArray, List.set_cons_zero, List.set_cons_succ]
              refine wpAnyH_ready (rs := [4]) (by kernel_rfl) (by simp) ?_
              refine AllReadyH.cons (o := ⟨some 35, _, _, _, _, _⟩) rfl (fun K hK => ?_) AllReadyH.nil
              refine step_append_sl (o := ⟨some 35, _, _, _, _, _⟩) _ encIt 2 (by rfl) (.const (.slice none 0 0)) (.tmp 34) 26 (by rfl) encIt_len (by omega) encIt_one wd.heap.size 56 ti0 _ 40 Tryz.underlying26 hii hzi0 hzi1 hzi2 rfl (.slice none 0 0) [] (by rfl) (World.ownsRow_nil _ _ _ _) _ (c.xs.length - r) _ (k.xs.drop r) (by rfl) (by simp <;> omega) (SlAt.cutK KD.out.at.1 r) (by simp [maxLen]; omega) (by simp; omega) BD.out.size ?_
              intro v4 w4 hown hg hat
              rw [List.nil_append] at hown
              have B4 := Lib.hid ((Below.refl wd.heap.size wd).grown hg (Nat.le_refl _) (fun j e => by cases e))
              have K4 := Lib.hid (KD.out.next B4.out)
              have H4 := Lib.hid hown
              refine hK.out _ _ ?_ (fun hHeld => ?_)
              · exact trivial
              clear hK
              try simp only [Act.put, List.setIfInBounds_toArray, List.set_cons_zero, List.set_cons_succ]
              clear hown hg hat
              refine wpAnyH_ready (rs := [9]) (by kernel_rfl) (by simp) ?_
              refine AllReadyH.cons (o := ⟨some 40, _, _, _, _, _⟩) rfl (fun K hK => ?_) AllReadyH.nil
              refine step_append_sl (o := ⟨some 40, _, _, _, _, _⟩) _ encIt 2 (by rfl) (.tmp 35) (.tmp 39) 26 (by rfl) encIt_len (by omega) encIt_one wd.heap.size 56 ti0 _ 40 Tryz.underlying26 hii hzi0 hzi1 hzi2 rfl v4 (k.xs.drop r) (by rfl) H4.out _ r _ (k.xs.take r) (by rfl) (by simp; omega) (SlAt.take K4.out.at.1 r) (by simp [maxLen]; omega) (by simp; omega) B4.out.size ?_
              intro v9 w9 hown hg hat
              have B9 := Lib.hid (B4.out.grown hg B4.out.size (fun j hj => (H4.out.lt j hj).1))
              have K9 := Lib.hid (KD.out.next B9.out)
              have H9 := Lib.hid hown
              obtain ⟨D9, e9, hv9, _, _, _⟩ := SlAt.of_own encIt_len hown
              rw [turn_len, hkl] at hv9
              subst hv9
              refine hK.out _ _ ?_ (fun hHeld => ?_)
              · exact trivial
              clear hK
              try simp only [Act.put, List.setIfInBounds_toArray, List.set_cons_zero, List.set_cons_succ]
              clear hown hg hat
              refine wpAnyH_take (i := 10) (oi := ⟨some 41, _, _, _, _, _⟩) (v := ?_) rfl (by kernel_rfl) (by kernel_rfl) (by kernel_rfl) (fun _ _ _ h => h) (Or.inl ⟨by rfl, ?_⟩) (by assumption) ?_
              rotate_left 1
              · intro w hSw
                (try dsimp only at hSw)
                go_simp
                try with_reducible rfl
              try simp only [Act.put, List.setIfInBounds_toArray, List.set_cons_zero, List.set_cons_succ]
              refine wpAnyH_ready (rs := [11]) (by kernel_rfl) (by simp) ?_
              refine AllReadyH.cons (o := ⟨none, _, _, _, _, _⟩) rfl (fun K hK => ?_) AllReadyH.nil
              obtain ⟨_, s0, s1, s2, f0, f1, f2, hgl⟩ := boxC_kept (Below.refl _ _) K9.out.out
              go_simp
              have KF := Lib.hid (show KT w c g (.slice V c.vs.length nv) (.slice L c.ls.length nl) (.slice D9 c.xs.length e9) c.vs c.ls (k.xs.drop r ++ k.xs.take r) (w9.setCell ⟨g, 2, none⟩ (.slice D9 c.xs.length e9)) from K9.out.store B0.out H9.out (fun z hz => ((turned_perm k.xs r).mem_iff).1 hz))
              refine hK.out _ _ ?_ (fun hHeld => ?_)
              · exact trivial
              clear hK
              try simp only [Act.put, List.setIfInBounds_toArray, List.set_cons_zero, List.set_cons_succ]
              clear s0 s1 s2 f0 f1 f2 hgl
              refine wpAnyH_done (by kernel_rfl) ?_ _
              clear hHeld
              go_wp2_with fail
              go_meet
              exact ⟨_, _, _, by rw [turn_len]; exact hkl, HP, KF⟩
          · obtain ⟨_, s0, s1, s2, f0, f1, f2, hgl⟩ := boxC_kept (Below.refl _ _) KD.out.out
            go_simp
            refine hK.out _ _ ?_ (fun hHeld => ?_)
            · exact trivial
            clear hK
            try simp only [Act.put, List.setIfInBounds_toArray, List.set_cons_zero, List.set_cons_succ]
            clear s0 s1 s2 f0 f1 f2 hgl
            refine wpAnyH_take (i := 8) (oi := ⟨some 39, _, _, _, _, _⟩) (v := ?_) rfl (by kernel_rfl) (by kernel_rfl) (by kernel_rfl) (fun _ _ _ h => h) (Or.inl ⟨by rfl, ?_⟩) (by assumption) ?_
            rotate_left 1
            · intro w hSw
              (try dsimp only at hSw)
              go_simp
              try with_reducible rfl
            try simp only [Act.put, List.setIfInBounds_toArray, List.set_cons_zero, List.set_cons_succ]
            refine wpAnyH_ready (rs := [1]) (by kernel_rfl) (by simp) ?_
            refine AllReadyH.cons (o := ⟨some 32, _, _, _, _, _⟩) rfl (fun K hK => ?_) AllReadyH.nil
            obtain ⟨_, s0, s1, s2, f0, f1, f2, hgl⟩ := boxC_kept (Below.refl _ _) KD.out.out
            go_simp
            refine hK.out _ _ ?_ (fun hHeld => ?_)
            · exact trivial
            clear hK
            try simp only [Act.put, List.setIfInBounds_toArray, List.set_cons_zero, List.set_cons_succ]
            clear s0 s1 s2 f0 f1 f2 hgl
            refine wpAnyH_take (i := 3) (oi := ⟨some 34, _, _, _, _, _⟩) (v := ?_) rfl (by kernel_rfl) (by kernel_rfl) (by kernel_rfl) (fun _ _ _ h => h) (Or.inl ⟨by rfl, ?_⟩) (by assumption) ?_
            rotate_left 1
            · intro w hSw
              (try dsimp only at hSw)
              go_simp
              try with_reducible rfl
            try simp only [Act.put, List.setIfInBounds_toArray, List.set_cons_zero, List.set_cons_succ]
            refine wpAnyH_ready (rs := [4]) (by kernel_rfl) (by simp) ?_
            refine AllReadyH.cons (o := ⟨some 35, _, _, _, _, _⟩) rfl (fun K hK => ?_) AllReadyH.nil
            refine step_append_sl (o := ⟨some 35, _, _, _, _, _⟩) _ encIt 2 (by rfl) (.const (.slice none 0 0)) (.tmp 34) 26 (by rfl) encIt_len (by omega) encIt_one wd.heap.size 56 ti0 _ 40 Tryz.underlying26 hii hzi0 hzi1 hzi2 rfl (.slice none 0 0) [] (by rfl) (World.ownsRow_nil _ _ _ _) _ (c.xs.length - r) _ (k.xs.drop r) (by rfl) (by simp <;> omega) (SlAt.cutK KD.out.at.1 r) (by simp [maxLen]; omega) (by simp; omega) BD.out.size ?_
            intro v4 w4 hown hg hat
            rw [List.nil_append] at hown
            have B4 := Lib.hid ((Below.refl wd.heap.size wd).grown hg (Nat.le_refl _) (fun j e => by cases e))
            have K4 := Lib.hid (KD.out.next B4.out)
            have H4 := Lib.hid hown
            refine hK.out _ _ ?_ (fun hHeld => ?_)
            · exact trivial
            clear hK
            try simp only [Act.put, List.setIfInBounds_toArray, List.set_cons_zero, List.set_cons_succ]
            clear hown hg hat
            refine wpAnyH_ready (rs := [9]) (by kernel_rfl) (by simp) ?_
            refine AllReadyH.cons (o := ⟨some 40, _, _, _, _, _⟩) rfl (fun K hK => ?_) AllReadyH.nil
            refine step_append_sl (o := ⟨some 40, _, _, _, _, _⟩) _ encIt 2 (by rfl) (.tmp 35) (.tmp 39) 26 (by rfl) encIt_len (by omega) encIt_one wd.heap.size 56 ti0 _ 40 Tryz.underlying26 hii hzi0 hzi1 hzi2 rfl v4 (k.xs.drop r) (by rfl) H4.out _ r _ (k.xs.take r) (by rfl) (by simp; omega) (SlAt.take K4.out.at.1 r) (by simp [maxLen]; omega) (by simp; omega) B4.out.size ?_
            intro v9 w9 hown hg hat
            have B9 := Lib.hid (B4.out.grown hg B4.out.size (fun j hj => (H4.out.lt j hj).1))
            have K9 := Lib.hid (KD.out.next B9.out)
            have H9 := Lib.hid hown
            obtain ⟨D9, e9, hv9, _, _, _⟩ := SlAt.of_own encIt_len hown
            rw [turn_len, hkl] at hv9
            subst hv9
            refine hK.out _ _ ?_ (fun hHeld => ?_)
            · exact trivial
            clear hK
            try simp only [Act.put, List.setIfInBounds_toArray, List.set_cons_zero, List.set_cons_succ]
            clear hown hg hat
            refine wpAnyH_take (i := 10) (oi := ⟨some 41, _, _, _, _, _⟩) (v := ?_) rfl (by kernel_rfl) (by kernel_rfl) (by kernel_rfl) (fun _ _ _ h => h) (Or.inl ⟨by rfl, ?_⟩) (by assumption) ?_
            rotate_left 1
            · intro w hSw
              (try dsimp only at hSw)
              go_simp
              try with_reducible rfl
            try simp only [Act.put, List.setIfInBounds_toArray, List.set_cons_zero, List.set_cons_succ]
            refine wpAnyH_ready (rs := [11]) (by kernel_rfl) (by simp) ?_
            refine AllReadyH.cons (o := ⟨none, _, _, _, _, _⟩) rfl (fun K hK => ?_) AllReadyH.nil
            obtain ⟨_, s0, s1, s2, f0, f1, f2, hgl⟩ := boxC_kept (Below.refl _ _) K9.out.out
            go_simp
            have KF := Lib.hid (show KT w c g (.slice V c.vs.length nv) (.slice L c.ls.length nl) (.slice D9 c.xs.length e9) c.vs c.ls (k.xs.drop r ++ k.xs.take r) (w9.setCell ⟨g, 2, none⟩ (.slice D9 c.xs.length e9)) from K9.out.store B0.out H9.out (fun z hz => ((turned_perm k.xs r).mem_iff).1 hz))
            refine hK.out _ _ ?_ (fun hHeld => ?_)
            · exact trivial
            clear hK
            try simp only [Act.put, List.setIfInBounds_toArray, List.set_cons_zero, List.set_cons_succ]
            clear s0 s1 s2 f0 f1 f2 hgl
            refine wpAnyH_done (by kernel_rfl) ?_ _
            clear hHeld
            go_wp2_with fail
            go_meet
            exact ⟨_, _, _, by rw [turn_len]; exact hkl, HP, KF⟩

      case rest =>
        clear K3 HK hkl
        obtain ⟨I, d, ys0, hyl, HP, K4⟩ := hcut
        have HYL := Lib.hid hyl
        clear hyl
        obtain ⟨s0, s1, s2⟩ := K4.out.cells
        have gl := K4.out.lt
        go_wp2_with fail
        clear s0 s1 s2 gl
        go_loopw [8, 9, 10, 45] (fun _ _ _ i wr => ∃ (j : Nat) (ys : List ItV), j ≤ c.xs.length ∧ i = .int .i64 j ∧ Hid (ys.length = c.xs.length) ∧ Hid (TurnedTo m (its ys0) (its ys) j) ∧ Hid (KT w c g (.slice V c.vs.length nv) (.slice L c.ls.length nl) (.slice I c.xs.length d) c.vs c.ls ys wr)) (fun _ _ _ i _ => c.xs.length - (intOf i).toNat)
        case atStart => exact ⟨0, ys0, by omega, rfl, HYL, Lib.hid (TurnedTo.zero _), K4⟩
        case round =>
          clear K4
          obtain ⟨j, ys, hj, rfl, HL, HTJ, K⟩ := hrel
          by_cases hlt : j < c.xs.length
          · have i0 : (j : Int) < (c.xs.length : Int) := by omega
            have i1 : (0 : Int) ≤ (j : Int) := by omega
            have i5 : j < c.xs.length := hlt
            obtain ⟨b, hI⟩ := K.out.block (by have := HL.out; omega)
            subst hI
            obtain ⟨y, hy⟩ : ∃ y, ys[j]? = some y := ⟨_, List.getElem?_eq_getElem (by rw [HL.out]; exact hlt)⟩
            have HJ := Lib.hid hy
            have HY := Lib.hid (List.mem_of_getElem? hy)
            have hyi : (its ys0)[j]? = some y.it := HTJ.out.here (its_at hy)
            have hok := HG.out.1 y.it (HP.out.mem_iff.1 (List.mem_of_getElem? hyi))
            have hy0 : 0 < y.ms.length := (okI_parts hok).2.1
            have hy10 : y.ms.length ≤ 100 := by
              obtain ⟨x, hx, hxe⟩ := List.mem_map.1 (HP.out.mem_iff.1 (List.mem_of_getElem? hyi))
              have h1 := (HS.out.items.2 x hx).2
              have h2 : x.ms = y.ms := congrArg (fun a : It => a.2) hxe
              rw [← h2]; omega
            obtain ⟨r, hr⟩ : ∃ r, m % y.ms.length = r := ⟨_, rfl⟩
            have hrl : r < y.ms.length := by rw [← hr]; exact Nat.mod_lt _ (by omega)
            have i3 : (m : Int).tmod (y.ms.length : Int) = (r : Int) := by rw [Int.tmod_eq_emod_of_nonneg (Int.natCast_nonneg m), ← hr]; rfl
            have i4 : ((y.ms.length : Int) == 0) = false := eqF (by omega)
            have im : (0 : Int) ≤ (m : Int) := by omega
            have im2 : (m : Int) < 256 := by omega
            have HTU0 := Lib.hid fun D e => show TurnedTo m (its ys0) (its (ys.set j ⟨y.nm, D, e, y.ms.drop r ++ y.ms.take r⟩)) (j + 1) from HTJ.out.step hy (by show (y.nm, y.ms.drop r ++ y.ms.take r) = (y.nm, y.ms.drop (m % y.ms.length) ++ y.ms.take (m % y.ms.length)); rw [hr])
            clear hy hyi hok hr
            obtain ⟨s0, s1, s2⟩ := K.out.cells
            have gl := K.out.lt
            obtain ⟨h0, h1, f1, hbl⟩ := K.out.itemAt HJ.out
            go_upto_region 13 with fail
            clear s0 s1 s2 gl h0 h1 f1 hbl
            have hk0 : (0 : Int) ≤ (r : Int) := by omega
            have hk1 : (r : Int) ≤ (y.ms.length : Int) := by omega
            have hni := (RowM.ok (K.out.ri.2 y HY.out)).2.1
            have hnm := (RowM.ok (K.out.ri.2 y HY.out)).2.2
            have hk2 : (r : Int) ≤ (y.c : Int) := by omega
            have hk3 : ¬ y.c = r := by omega
            have B0 := Lib.hid (show w.heap.size + 1 ≤ wr.drew.heap.size from by have h := K.out.kb.size; exact Nat.le_trans h (Below.refl wr.heap.size wr).drew.size)
            have KD := Lib.hid (K.out.next (Below.refl _ _).drew)
            refine wp_region_held_drew (S := (fun _ => True)) (by kernel_rfl) trivial (fun hHeld => ?_)
            generalize World.drew wr = wd at KD B0 hHeld ⊢
            have BD := Lib.hid (Below.refl wd.heap.size wd)
            clear K
            refine wpAnyH_take (i := 0) (oi := ⟨some 59, _, _, _, _, _⟩) (v := ?_) rfl (by kernel_rfl) (by kernel_rfl) (by kernel_rfl) (fun _ _ _ h => h) (Or.inl ⟨by rfl, ?_⟩) (by assumption) ?_
            rotate_left 1
            · intro w hSw
              (try dsimp only at hSw)
              go_simp
              try with_reducible rfl
            try simp only [Act.put, List.setIfInBounds_toArray, List.set_cons_zero, List.set_cons_succ]
            refine wpAnyH_take (i := 2) (oi := ⟨some 61, _, _, _, _, _⟩) (v := ?_) rfl (by kernel_rfl) (by kernel_rfl) (by kernel_rfl) (fun _ _ _ h => h) (Or.inl ⟨by rfl, ?_⟩) (by assumption) ?_
            rotate_left 1
            · intro w hSw
              (try dsimp only at hSw)
              go_simp
              try with_reducible rfl
            try simp only [Act.put, List.setIfInBounds_toArray, List.set_cons_zero, List.set_cons_succ]
            refine wpAnyH_take (i := 3) (oi := ⟨some 62, _, _, _, _, _⟩) (v := ?_) rfl (by kernel_rfl) (by kernel_rfl) (by kernel_rfl) (fun _ _ _ h => h) (Or.inl ⟨by rfl, ?_⟩) (by assumption) ?_
            rotate_left 1
            · intro w hSw
              (try dsimp only at hSw)
              go_simp
              try with_reducible rfl
            try simp only [Act.put, List.setIfInBounds_toArray, List.set_cons_zero, List.set_cons_succ]
            refine wpAnyH_take (i := 4) (oi := ⟨some 63, _, _, _, _, _⟩) (v := ?_) rfl (by kernel_rfl) (by kernel_rfl) (by kernel_rfl) (fun _ _ _ h => h) (Or.inl ⟨by rfl, ?_⟩) (by assumption) ?_
            rotate_left 1
            · intro w hSw
              (try dsimp only at hSw)
              go_simp
              try with_reducible rfl
            try simp only [Act.put, List.setIfInBounds_toArray, List.set_cons_zero, List.set_cons_succ]
            refine wpAnyH_take (i := 5) (oi := ⟨some 64, _, _, _, _, _⟩) (v := ?_) rfl (by kernel_rfl) (by kernel_rfl) (by kernel_rfl) (fun _ _ _ h => h) (Or.inl ⟨by rfl, ?_⟩) (by assumption) ?_
            rotate_left 1
            · intro w hSw
              (try dsimp only at hSw)
              go_simp
              try with_reducible rfl
            try simp only [Act.put, List.setIfInBounds_toArray, List.set_cons_zero, List.set_cons_succ]
            refine wpAnyH_take (i := 7) (oi := ⟨some 66, _, _, _, _, _⟩) (v := ?_) rfl (by kernel_rfl) (by kernel_rfl) (by kernel_rfl) (fun _ _ _ h => h) (Or.inl ⟨by rfl, ?_⟩) (by assumption) ?_
            rotate_left 1
            · intro w hSw
              (try dsimp only at hSw)
              go_simp
              try with_reducible rfl
            try simp only [Act.put, List.setIfInBounds_toArray, List.set_cons_zero, List.set_cons_succ]
            refine wpAnyH_take (i := 8) (oi := ⟨some 67, _, _, _, _, _⟩) (v := ?_) rfl (by kernel_rfl) (by kernel_rfl) (by kernel_rfl) (fun _ _ _ h => h) (Or.inl ⟨by rfl, ?_⟩) (by assumption) ?_
            rotate_left 1
            · intro w hSw
              (try dsimp only at hSw)
              go_simp
              try with_reducible rfl
            try simp only [Act.put, List.setIfInBounds_toArray, List.set_cons_zero, List.set_cons_succ]
            refine wpAnyH_take (i := 9) (oi := ⟨some 68, _, _, _, _, _⟩) (v := ?_) rfl (by kernel_rfl) (by kernel_rfl) (by kernel_rfl) (fun _ _ _ h => h) (Or.inl ⟨by rfl, ?_⟩) (by assumption) ?_
            rotate_left 1
            · intro w hSw
              (try dsimp only at hSw)
              go_simp
              try with_reducible rfl
            try simp only [Act.put, List.setIfInBounds_toArray, List.set_cons_zero, List.set_cons_succ]
            refine wpAnyH_ready (rs := [1, 6]) (by kernel_rfl) (by simp) ?_
            refine AllReadyH.cons (o := ⟨some 60, _, _, _, _, _⟩) rfl (fun K hK => ?_) (AllReadyH.cons (o := ⟨some 65, _, _, _, _, _⟩) rfl (fun K hK => ?_) AllReadyH.nil)
            · obtain ⟨_, s0, s1, s2, f0, f1, f2, hgl⟩ := boxC_kept (Below.refl _ _) KD.out.out
              go_simp
              refine hK.out _ _ ?_ (fun hHeld => ?_)
              · exact trivial
              clear hK
              try simp only [Act.put, List.setIfInBounds_toArray, List.set_cons_zero, List.set_cons_succ]
              clear s0 s1 s2 f0 f1 f2 hgl
              refine wpAnyH_ready (rs := [6]) (by kernel_rfl) (by simp) ?_
              refine AllReadyH.cons (o := ⟨some 65, _, _, _, _, _⟩) rfl (fun K hK => ?_) AllReadyH.nil
              refine step_append_sl (o := ⟨some 65, _, _, _, _, _⟩) _ encM 4 (by rfl) (.const (.slice none 0 0)) (.tmp 64) 54 (by rfl) encM_len (by omega) encM_one wd.heap.size 65 tm0 _ 32 Tryz.underlying54 him hzm0 hzm1 hzm2 rfl (.slice none 0 0) [] (by rfl) (World.ownsRow_nil _ _ _ _) _ (y.ms.length - r) _ (y.ms.drop r) (by rfl) (by simp <;> omega) (SlAt.cutK (RowM.ok (KD.out.ri.2 y HY.out)).1 r) (by simp [maxLen]; omega) (by simp; omega) BD.out.size ?_
              intro v4 w4 hown hg hat
              rw [List.nil_append] at hown
              have B4 := Lib.hid ((Below.refl wd.heap.size wd).grown hg (Nat.le_refl _) (fun j e => by cases e))
              have K4 := Lib.hid (KD.out.next B4.out)
              have H4 := Lib.hid hown
              refine hK.out _ _ ?_ (fun hHeld => ?_)
              · exact trivial
              clear hK
              try simp only [Act.put, List.setIfInBounds_toArray, List.set_cons_zero, List.set_cons_succ]
              clear hown hg hat
              refine wpAnyH_ready (rs := [10]) (by kernel_rfl) (by simp) ?_
              refine AllReadyH.cons (o := ⟨some 69, _, _, _, _, _⟩) rfl (fun K hK => ?_) AllReadyH.nil
              refine step_append_sl (o := ⟨some 69, _, _, _, _, _⟩) _ encM 4 (by rfl) (.tmp 65) (.tmp 68) 54 (by rfl) encM_len (by omega) encM_one wd.heap.size 65 tm0 _ 32 Tryz.underlying54 him hzm0 hzm1 hzm2 rfl v4 (y.ms.drop r) (by rfl) H4.out _ r _ (y.ms.take r) (by rfl) (by simp; omega) (SlAt.take (RowM.ok (K4.out.ri.2 y HY.out)).1 r) (by simp [maxLen]; omega) (by simp; omega) B4.out.size ?_
              intro v9 w9 hown hg hat
              have B9 := Lib.hid (B4.out.grown hg B4.out.size (fun j hj => (H4.out.lt j hj).1))
              have K9 := Lib.hid (KD.out.next B9.out)
              have H9 := Lib.hid hown
              obtain ⟨D9, e9, hv9, _, _, _⟩ := SlAt.of_own encM_len hown
              rw [turn_len] at hv9
              subst hv9
              refine hK.out _ _ ?_ (fun hHeld => ?_)
              · exact trivial
              clear hK
              try simp only [Act.put, List.setIfInBounds_toArray, List.set_cons_zero, List.set_cons_succ]
              clear hown hg hat
              refine wpAnyH_take (i := 11) (oi := ⟨some 70, _, _, _, _, _⟩) (v := ?_) rfl (by kernel_rfl) (by kernel_rfl) (by kernel_rfl) (fun _ _ _ h => h) (Or.inl ⟨by rfl, ?_⟩) (by assumption) ?_
              rotate_left 1
              · intro w hSw
                (try dsimp only at hSw)
                go_simp
                try with_reducible rfl
              try simp only [Act.put, List.setIfInBounds_toArray, List.set_cons_zero, List.set_cons_succ]
              refine wpAnyH_take (i := 12) (oi := ⟨some 71, _, _, _, _, _⟩) (v := ?_) rfl (by kernel_rfl) (by kernel_rfl) (by kernel_rfl) (fun _ _ _ h => h) (Or.inl ⟨by rfl, ?_⟩) (by assumption) ?_
              rotate_left 1
              · intro w hSw
                (try dsimp only at hSw)
                go_simp
                try with_reducible rfl
              try simp only [Act.put, List.setIfInBounds_toArray, List.set_cons_zero, List.set_cons_succ]
              refine wpAnyH_ready (rs := [13]) (by kernel_rfl) (by simp) ?_
              refine AllReadyH.cons (o := ⟨none, _, _, _, _, _⟩) rfl (fun K hK => ?_) AllReadyH.nil
              obtain ⟨h0, h1, f1, hbl⟩ := K9.out.itemAt HJ.out
              go_simp
              have KF := Lib.hid (show KT w c g (.slice V c.vs.length nv) (.slice L c.ls.length nl) (.slice (some ⟨b, 0, none⟩) c.xs.length d) c.vs c.ls (ys.set j ⟨y.nm, D9, e9, y.ms.drop r ++ y.ms.take r⟩) (w9.setCell ⟨b, j * 2 + 1, none⟩ (.slice D9 y.ms.length e9)) from K9.out.setM HJ.out (x := ⟨y.nm, D9, e9, y.ms.drop r ++ y.ms.take r⟩) (Joins.ownsRow_le H9.out B0.out) (by show Value.slice _ _ _ = Value.slice _ _ _; rw [turn_len]))
              refine hK.out _ _ ?_ (fun hHeld => ?_)
              · exact trivial
              clear hK
              try simp only [Act.put, List.setIfInBounds_toArray, List.set_cons_zero, List.set_cons_succ]
              clear h0 h1 f1 hbl
              refine wpAnyH_done (by kernel_rfl) ?_ _
              clear hHeld
              have HTU := Lib.hid (HTU0.out D9 e9)
              go_wp2_with fail
              go_roundw
              case rel => exact ⟨j + 1, _, by omega, by go_num, Lib.hid (by rw [List.length_set]; exact HL.out), HTU, KF⟩
              case measure => simp [intOf]; omega
            · refine step_append_sl (o := ⟨some 65, _, _, _, _, _⟩) _ encM 4 (by rfl) (.const (.slice none 0 0)) (.tmp 64) 54 (by rfl) encM_len (by omega) encM_one wd.heap.size 65 tm0 _ 32 Tryz.underlying54 him hzm0 hzm1 hzm2 rfl (.slice none 0 0) [] (by rfl) (World.ownsRow_nil _ _ _ _) _ (y.ms.length - r) _ (y.ms.drop r) (by rfl) (by simp <;> omega) (SlAt.cutK (RowM.ok (KD.out.ri.2 y HY.out)).1 r) (by simp [maxLen]; omega) (by simp; omega) BD.out.size ?_
              intro v4 w4 hown hg hat
              rw [List.nil_append] at hown
              have B4 := Lib.hid ((Below.refl wd.heap.size wd).grown hg (Nat.le_refl _) (fun j e => by cases e))
              have K4 := Lib.hid (KD.out.next B4.out)
              have H4 := Lib.hid hown
              refine hK.out _ _ ?_ (fun hHeld => ?_)
              · exact trivial
              clear hK
              try simp only [Act.put, List.setIfInBounds_toArray, List.set_cons_zero, List.set_cons_succ]
              clear hown hg hat
              refine wpAnyH_ready (rs := [1, 10]) (by kernel_rfl) (by simp) ?_
              refine AllReadyH.cons (o := ⟨some 60, _, _, _, _, _⟩) rfl (fun K hK => ?_) (AllReadyH.cons (o := ⟨some 69, _, _, _, _, _⟩) rfl (fun K hK => ?_) AllReadyH.nil)
              · obtain ⟨_, s0, s1, s2, f0, f1, f2, hgl⟩ := boxC_kept (Below.refl _ _) K4.out.out
                go_simp
                refine hK.out _ _ ?_ (fun hHeld => ?_)
                · exact trivial
                clear hK
                try simp only [Act.put, List.setIfInBounds_toArray, List.set_cons_zero, List.set_cons_succ]
                clear s0 s1 s2 f0 f1 f2 hgl
                refine wpAnyH_ready (rs := [10]) (by kernel_rfl) (by simp) ?_
                refine AllReadyH.cons (o := ⟨some 69, _, _, _, _, _⟩) rfl (fun K hK => ?_) AllReadyH.nil
                refine step_append_sl (o := ⟨some 69, _, _, _, _, _⟩) _ encM 4 (by rfl) (.tmp 65) (.tmp 68) 54 (by rfl) encM_len (by omega) encM_one wd.heap.size 65 tm0 _ 32 Tryz.underlying54 him hzm0 hzm1 hzm2 rfl v4 (y.ms.drop r) (by rfl) H4.out _ r _ (y.ms.take r) (by rfl) (by simp; omega) (SlAt.take (RowM.ok (K4.out.ri.2 y HY.out)).1 r) (by simp [maxLen]; omega) (by simp; omega) B4.out.size ?_
                intro v9 w9 hown hg hat
                have B9 := Lib.hid (B4.out.grown hg B4.out.size (fun j hj => (H4.out.lt j hj).1))
                have K9 := Lib.hid (KD.out.next B9.out)
                have H9 := Lib.hid hown
                obtain ⟨D9, e9, hv9, _, _, _⟩ := SlAt.of_own encM_len hown
                rw [turn_len] at hv9
                subst hv9
                refine hK.out _ _ ?_ (fun hHeld => ?_)
                · exact trivial
                clear hK
                try simp only [Act.put, List.setIfInBounds_toArray, List.set_cons_zero, List.set_cons_succ]
                clear hown hg hat
                refine wpAnyH_take (i := 11) (oi := ⟨some 70, _, _, _, _, _⟩) (v := ?_) rfl (by kernel_rfl) (by kernel_rfl) (by kernel_rfl) (fun _ _ _ h => h) (Or.inl ⟨by rfl, ?_⟩) (by assumption) ?_
                rotate_left 1
                · intro w hSw
                  (try dsimp only at hSw)
                  go_simp
                  try with_reducible rfl
                try simp only [Act.put, List.setIfInBounds_toArray, List.set_cons_zero, List.set_cons_succ]
                refine wpAnyH_take (i := 12) (oi := ⟨some 71, _, _, _, _, _⟩) (v := ?_) rfl (by kernel_rfl) (by kernel_rfl) (by kernel_rfl) (fun _ _ _ h => h) (Or.inl ⟨by rfl, ?_⟩) (by assumption) ?_
                rotate_left 1
                · intro w hSw
                  (try dsimp only at hSw)
                  go_simp
                  try with_reducible rfl
                try simp only [Act.put, List.setIfInBounds_toArray, List.set_cons_zero, List.set_cons_succ]
                refine wpAnyH_ready (rs := [13]) (by kernel_rfl) (by simp) ?_
                refine AllReadyH.cons (o := ⟨none, _, _, _, _, _⟩) rfl (fun K hK => ?_) AllReadyH.nil
                obtain ⟨h0, h1, f1, hbl⟩ := K9.out.itemAt HJ.out
                go_simp
                have KF := Lib.hid (show KT w c g (.slice V c.vs.length nv) (.slice L c.ls.length nl) (.slice (some ⟨b, 0, none⟩) c.xs.length d) c.vs c.ls (ys.set j ⟨y.nm, D9, e9, y.ms.drop r ++ y.ms.take r⟩) (w9.setCell ⟨b, j * 2 + 1, none⟩ (.slice D9 y.ms.length e9)) from K9.out.setM HJ.out (x := ⟨y.nm, D9, e9, y.ms.drop r ++ y.ms.take r⟩) (Joins.ownsRow_le H9.out B0.out) (by show Value.slice _ _ _ = Value.slice _ _ _; rw [turn_len]))
                refine hK.out _ _ ?_ (fun hHeld => ?_)
                · exact trivial
                clear hK
                try simp only [Act.put, List.setIfInBounds_toArray, List.set_cons_zero, List.set_cons_succ]
                clear h0 h1 f1 hbl
                refine wpAnyH_done (by kernel_rfl) ?_ _
                clear hHeld
                have HTU := Lib.hid (HTU0.out D9 e9)
                go_wp2_with fail
                go_roundw
                case rel => exact ⟨j + 1, _, by omega, by go_num, Lib.hid (by rw [List.length_set]; exact HL.out), HTU, KF⟩
                case measure => simp [intOf]; omega
              · refine step_append_sl (o := ⟨some 69, _, _, _, _, _⟩) _ encM 4 (by rfl) (.tmp 65) (.tmp 68) 54 (by rfl) encM_len (by omega) encM_one wd.heap.size 65 tm0 _ 32 Tryz.underlying54 him hzm0 hzm1 hzm2 rfl v4 (y.ms.drop r) (by rfl) H4.out _ r _ (y.ms.take r) (by rfl) (by simp; omega) (SlAt.take (RowM.ok (K4.out.ri.2 y HY.out)).1 r) (by simp [maxLen]; omega) (by simp; omega) B4.out.size ?_
                intro v9 w9 hown hg hat
                have B9 := Lib.hid (B4.out.grown hg B4.out.size (fun j hj => (H4.out.lt j hj).1))
                have K9 := Lib.hid (KD.out.next B9.out)
                have H9 := Lib.hid hown
                obtain ⟨D9, e9, hv9, _, _, _⟩ := SlAt.of_own encM_len hown
                rw [turn_len] at hv9
                subst hv9
                refine hK.out _ _ ?_ (fun hHeld => ?_)
                · exact trivial
                clear hK
                try simp only [Act.put, List.setIfInBounds_toArray, List.set_cons_zero, List.set_cons_succ]
                clear hown hg hat
                refine wpAnyH_ready (rs := [1]) (by kernel_rfl) (by simp) ?_
                refine AllReadyH.cons (o := ⟨some 60, _, _, _, _, _⟩) rfl (fun K hK => ?_) AllReadyH.nil
                obtain ⟨_, s0, s1, s2, f0, f1, f2, hgl⟩ := boxC_kept (Below.refl _ _) K9.out.out
                go_simp
                refine hK.out _ _ ?_ (fun hHeld => ?_)
                · exact trivial
                clear hK
                try simp only [Act.put, List.setIfInBounds_toArray, List.set_cons_zero, List.set_cons_succ]
                clear s0 s1 s2 f0 f1 f2 hgl
                refine wpAnyH_take (i := 11) (oi := ⟨some 70, _, _, _, _, _⟩) (v := ?_) rfl (by kernel_rfl) (by kernel_rfl) (by kernel_rfl) (fun _ _ _ h => h) (Or.inl ⟨by rfl, ?_⟩) (by assumption) ?_
                rotate_left 1
                · intro w hSw
                  (try dsimp only at hSw)
                  go_simp
                  try with_reducible rfl
                try simp only [Act.put, List.setIfInBounds_toArray, List.set_cons_zero, List.set_cons_succ]
                refine wpAnyH_take (i := 12) (oi := ⟨some 71, _, _, _, _, _⟩) (v := ?_) rfl (by kernel_rfl) (by kernel_rfl) (by kernel_rfl) (fun _ _ _ h => h) (Or.inl ⟨by rfl, ?_⟩) (by assumption) ?_
                rotate_left 1
                · intro w hSw
                  (try dsimp only at hSw)
                  go_simp
                  try with_reducible rfl
                try simp only [Act.put, List.setIfInBounds_toArray, List.set_cons_zero, List.set_cons_succ]
                refine wpAnyH_ready (rs := [13]) (by kernel_rfl) (by simp) ?_
                refine AllReadyH.cons (o := ⟨none, _, _, _, _, _⟩) rfl (fun K hK => ?_) AllReadyH.nil
                obtain ⟨h0, h1, f1, hbl⟩ := K9.out.itemAt HJ.out
                go_simp
                have KF := Lib.hid (show KT w c g (.slice V c.vs.length nv) (.slice L c.ls.length nl) (.slice (some ⟨b, 0, none⟩) c.xs.length d) c.vs c.ls (ys.set j ⟨y.nm, D9, e9, y.ms.drop r ++ y.ms.take r⟩) (w9.setCell ⟨b, j * 2 + 1, none⟩ (.slice D9 y.ms.length e9)) from K9.out.setM HJ.out (x := ⟨y.nm, D9, e9, y.ms.drop r ++ y.ms.take r⟩) (Joins.ownsRow_le H9.out B0.out) (by show Value.slice _ _ _ = Value.slice _ _ _; rw [turn_len]))
                refine hK.out _ _ ?_ (fun hHeld => ?_)
                · exact trivial
                clear hK
                try simp only [Act.put, List.setIfInBounds_toArray, List.set_cons_zero, List.set_cons_succ]
                clear h0 h1 f1 hbl
                refine wpAnyH_done (by kernel_rfl) ?_ _
                clear hHeld
                have HTU := Lib.hid (HTU0.out D9 e9)
                go_wp2_with fail
                go_roundw
                case rel => exact ⟨j + 1, _, by omega, by go_num, Lib.hid (by rw [List.length_set]; exact HL.out), HTU, KF⟩
                case measure => simp [intOf]; omega

          · have i0 : ¬ (j : Int) < (c.xs.length : Int) := by omega
            obtain rfl : j = c.xs.length := by omega
            have HE := Lib.hid (show its ys = (its ys0).map (turnI m) from HTJ.out.all (by rw [its_len]; exact HYL.out))
            have HC := Lib.hid (canonK_turned (ys := its ys0) (f := turnI m) HV.out HP.out (fun x _ => ⟨rfl, turned_perm _ _⟩))
            have HX := Lib.hid (show canonK (CaV.ca ⟨V, nv, c.vs, L, nl, c.ls, I, d, ys⟩) = some c.ca from by
              show canonK ((c.vs, c.ls), its ys) = _
              rw [HE.out]; exact HC.out)
            have HSX := Lib.hid (show smallK (CaV.ca ⟨V, nv, c.vs, L, nl, c.ls, I, d, ys⟩) from by
              refine ⟨?_, fun x hx => ?_, HS.out.2.2⟩
              · show (its ys).length ≤ 20
                rw [its_len, HL.out]; exact hc20
              · have hx1 : x ∈ its ys := hx
                rw [HE.out] at hx1
                obtain ⟨z, hz, rfl⟩ := List.mem_map.1 hx1
                have h1 := HS.out.2.1 z (HP.out.mem_iff.1 hz)
                exact ⟨h1.1, by show (z.2.drop _ ++ z.2.take _).length ≤ 10; rw [turn_len]; exact h1.2⟩)
            have CC := Lib.hid fun W (h : KT w c g (.slice V c.vs.length nv) (.slice L c.ls.length nl) (.slice I c.xs.length d) c.vs c.ls ys W) => show Calls Tryz.prog 17 #[.agg #[.slice V c.vs.length nv, .slice L c.ls.length nl, .slice I c.xs.length d], mkC c, .int .i64 0] W (TrueB W) from by
              have hri := h.ri
              rw [← HL.out] at hri ⊢
              exact lawCanon10 ⟨V, nv, c.vs, L, nl, c.ls, I, d, ys⟩ c 0 W (CaOK.of_rows h.rv h.rl hri) h.kb.ok HSX.out (by omega) (.inl ⟨HX.out, rfl⟩)
            obtain ⟨s0, s1, s2⟩ := K.out.cells
            have gl := K.out.lt
            obtain ⟨x0, x1, x2, xl, _⟩ := K.out.kb.sp
            go_wp2_with fail
            refine (CC.out _ K.out).mono ?_
            rintro e wy ⟨rfl, hb⟩
            have K5 := Lib.hid (K.out.next hb).kb.bel
            clear hb K s0 s1 s2 gl x0 x1 x2 xl
            go_wp2_with fail
            refine (HKN.out _).mono ?_
            rintro e wz ⟨rfl, hb⟩
            have KC := Lib.hid (below_trans K5.out hb)
            clear hb K5
            go_wp2_with fail
            go_ret
            exact OneB.bool rfl KC.out

end Go.Proofs.YtfmhhmceoikgpaaGreat
