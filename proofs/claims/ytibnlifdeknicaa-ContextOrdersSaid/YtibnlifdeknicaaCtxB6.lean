/- The law ContextOrders, from known. -/
import Derived.Test.YtibnlifdeknicaaCtxB2
namespace Go.Proofs.Ytibnlifdeknicaa
open Go.RowKit

/-- A context with some dots more, or as it was if there are none. -/
def stC (vs ls : List (Int × Int)) : List (Int × Int) → List (Int × Int) × List (Int × Int)
  | [] => (vs, ls)
  | d :: xs => addC vs ls (d :: xs)
/-- The first k dots of a list that is turned. -/
def turnL (m : List (Int × Int)) (t k : Nat) : List (Int × Int) := (List.range k).map fun i => m.getD ((i + t) % m.length) (0, 0)
theorem getD_at {m : List (Int × Int)} {j : Nat} (h : j < m.length) : m.getD j (0, 0) = m[j] := by rw [List.getD, List.getElem?_eq_getElem h]; rfl
theorem turnL_len (m : List (Int × Int)) (t k : Nat) : (turnL m t k).length = k := by simp [turnL]
theorem turnL_succ (m : List (Int × Int)) (t k : Nat) : turnL m t (k + 1) = turnL m t k ++ [m.getD ((k + t) % m.length) (0, 0)] := by simp [turnL, List.range_succ]
theorem turnL_sub {m : List (Int × Int)} {t k : Nat} (h : 0 < m.length) {d : Int × Int} (hd : d ∈ turnL m t k) : d ∈ m := by
  obtain ⟨i, _, rfl⟩ := List.mem_map.1 hd
  have hl : (i + t) % m.length < m.length := Nat.mod_lt _ h
  rw [getD_at hl]
  exact List.getElem_mem hl
theorem turn_at (j t n : Nat) (hj : j < n) : ∃ i, i < n ∧ (i + t) % n = j := by
  have hr : t % n < n := Nat.mod_lt _ (by omega)
  refine ⟨(j + n - t % n) % n, Nat.mod_lt _ (by omega), ?_⟩
  have e1 : ((j + n - t % n) % n + t) % n = (j + n - t % n + t % n) % n := by
    rw [Nat.add_mod ((j + n - t % n) % n) t n, Nat.mod_mod, Nat.add_mod (j + n - t % n) (t % n) n, Nat.mod_mod]
  rw [e1, show j + n - t % n + t % n = j + n by omega, Nat.add_mod_right, Nat.mod_eq_of_lt hj]
theorem turnL_mem {m : List (Int × Int)} {t : Nat} (h : 0 < m.length) (d : Int × Int) : d ∈ turnL m t m.length ↔ d ∈ m := by
  refine ⟨turnL_sub h, fun hd => ?_⟩
  obtain ⟨j, hj, rfl⟩ := List.getElem_of_mem hd
  obtain ⟨i, hi, e⟩ := turn_at j t m.length hj
  refine List.mem_map.2 ⟨i, List.mem_range.2 hi, ?_⟩
  rw [e, getD_at hj]
theorem stC_valid {vs ls xs : List (Int × Int)} (h : validC vs ls = true) (hx : ∀ p ∈ xs, validD p.1 p.2 = true) : validC (stC vs ls xs).1 (stC vs ls xs).2 = true := by
  cases xs with
  | nil => exact h
  | cons d xs => exact addC_valid2 h hx
theorem add_len {vs ls m us rs : List (Int × Int)} (h : validC vs ls = true) (hx : ∀ p ∈ m, validD p.1 p.2 = true) (hz : addC vs ls m = (us, rs)) : us.length + rs.length ≤ vs.length + ls.length + m.length := by
  have h1 := compact_len (addC_valid h hx) (show compactC vs (setL (ls ++ m)) = (us, rs) from hz)
  have h3 := setL_len (ls ++ m)
  rw [List.length_append] at h3
  omega
theorem stC_len {vs ls xs us rs : List (Int × Int)} (h : validC vs ls = true) (hx : ∀ p ∈ xs, validD p.1 p.2 = true) (hz : stC vs ls xs = (us, rs)) : us.length + rs.length ≤ vs.length + ls.length + xs.length := by
  cases xs with
  | nil => cases hz; simp
  | cons d xs => exact add_len h hx hz
theorem stC_next {vs ls xs us rs : List (Int × Int)} {d : Int × Int} (h : validC vs ls = true) (hx : ∀ p ∈ xs, validD p.1 p.2 = true) (hd : validD d.1 d.2 = true) (hz : stC vs ls xs = (us, rs)) : stC vs ls (xs ++ [d]) = addC us rs [d] := by
  cases xs with
  | nil => cases hz; rfl
  | cons e xs =>
    have hh := addC_app h hx (m' := [d]) (by intro p hp; rw [List.mem_singleton] at hp; subst hp; exact hd)
    rw [show addC vs ls (e :: xs) = (us, rs) from hz] at hh
    exact hh.symm
theorem stC_all {vs ls m : List (Int × Int)} {t : Nat} (h0 : 0 < m.length) : stC vs ls (turnL m t m.length) = addC vs ls m := by
  rw [← addC_congr (turnL_mem (t := t) h0)]
  have hl := turnL_len m t m.length
  cases e : turnL m t m.length with
  | nil => rw [e] at hl; simp at hl; omega
  | cons d xs => rfl
theorem add_none {vs ls : List (Int × Int)} (h : validC vs ls = true) : addC vs ls [] = compactC vs ls := by
  have e := comp_unique (addC_comp h (m := []) (by simp)) (compactC_comp h) fun r c => by
    rw [addC_has h (by simp), compactC_has h]
    simp
  exact Prod.ext e.1 e.2
theorem miss_none {vs ls m us rs : List (Int × Int)} (h : validC vs ls = true) (hx : ∀ p ∈ m, validD p.1 p.2 = true) (hz : addC vs ls m = (us, rs)) : missC us rs m = [] := by
  have hh := addC_has h hx
  rw [hz] at hh
  unfold missC
  rw [List.filter_eq_nil_iff.2 (by
    intro d hd
    have := hh d.1 d.2
    simp only [] at this
    rw [this]
    simp [hd])]
  rfl
theorem KX.set2 {w W : World} {C : List (Addr × Value)} {L : List (Value × List (Int × Int))} (h : KX w C L W) {g : Nat} {x y : Value} (hB : Blk2 W g x y) (hx : ∀ z, x ≠ .int .i64 z) (hy : ∀ z, y ≠ .int .i64 z) (hg : w.heap.size ≤ g) (hC : ∀ p ∈ C, p.1.block ≠ g) (x' y' : Value) :
    KX w C L ((W.setCell ⟨g, 0, none⟩ x').setCell ⟨g, 1, none⟩ y') :=
  ⟨fun p hp => ⟨(World.cell?_of_block (set2_off W g x' y' _ (hC p hp))).trans (h.1 p hp).1, by rw [set2_size]; exact (h.1 p hp).2⟩, below_set2 h.2.1 hg _ _, fun p hp => (h.2.2 p hp).set2 hB hx hy⟩
theorem KX.add2 {w W : World} {C : List (Addr × Value)} {L : List (Value × List (Int × Int))} (h : KX w C L W) {g : Nat} {x y : Value} (hB : Blk2 W g x y) : KX w ((⟨g, 0, none⟩, x) :: (⟨g, 1, none⟩, y) :: C) L W := by
  refine ⟨fun p hp => ?_, h.2.1, h.2.2⟩
  rcases List.mem_cons.1 hp with rfl | hp
  · exact ⟨hB.cell0, hB.lt⟩
  · rcases List.mem_cons.1 hp with rfl | hp
    · exact ⟨hB.cell1, hB.lt⟩
    · exact h.1 p hp

/-- What Add leaves. -/
def CtxOut (us rs : List (Int × Int)) (W : World) (e : Ending) (w' : World) : Prop := (∃ A c B d, e = .returned (.tuple #[.agg #[.slice A us.length c, .slice B rs.length d], .int .i64 0]) ∧ MineV W w' (.slice A us.length c) us ∧ MineV W w' (.slice B rs.length d) rs) ∧ Below W.heap.size W w'
theorem ctxAdd_t (v x : Value) (vs ls m us rs : List (Int × Int)) (W : World) (h : HoldsC W v vs ls) (hx : Holds W x m) (hv : validC vs ls = true) (hok : okL m = true) (hm : vs.length + ls.length + m.length ≤ 1000) (hz : addC vs ls m = (us, rs)) :
    Calls Try.prog 37 #[v, x] W (CtxOut us rs W) := by
  have hh := ctxAdd v x vs ls m W h hx hm
  rw [hz, hv, hok] at hh
  exact hh.mono fun e w' h => h.tup (show ctxP (true && true) (us, rs) = ((us, rs), 0) from rfl)
theorem ctxCompact_o (v : Value) (vs ls us rs : List (Int × Int)) (W : World) (h : HoldsC W v vs ls) (hv : validC vs ls = true) (hm : vs.length + ls.length ≤ 1000) (hz : compactC vs ls = (us, rs)) :
    Calls Try.prog 20 #[v] W (CtxOut us rs W) := ctxCompact_t v vs ls us rs W h hv hm hz
/-- What Missing leaves if nothing is missing. -/
def MissNone (W : World) (e : Ending) (w' : World) : Prop := (∃ A' c', e = .returned (.slice A' 0 c')) ∧ Below W.heap.size W w'
theorem ctxMissing_none (x : Value) (X : Option Addr) (cx : Nat) (us rs m : List (Int × Int)) (W : World) (h : HoldsC W x us rs) (hx : Holds W (.slice X m.length cx) m) (hu : validV us = true) (hm : us.length + rs.length + m.length ≤ 1000) (hmi : missC us rs m = []) :
    Calls Try.prog 27 #[x, .slice X m.length cx] W (MissNone W) := by
  obtain ⟨zu, hzu⟩ := wf_list ((validV_iff us).1 hu).1
  have hzl : zu.length = us.length := by rw [← hzu]; simp
  have hh := ctxMissing x X cx zu rs m W (by rw [hzu]; exact h) hx (by omega)
  rw [hzu, hmi] at hh
  refine hh.mono ?_
  rintro e w' ⟨⟨v', rfl, hv'⟩, hb⟩
  obtain ⟨A', c', rfl, _⟩ := hv'.holds
  exact ⟨⟨A', c', rfl⟩, hb⟩

/-- What holds in the loop: what x is, and what lies. -/
def OrdR (w : World) (C : List (Addr × Value)) (L : List (Value × List (Int × Int))) (g : Nat) (us rs : List (Int × Int)) (W : World) : Prop :=
  ∃ A n B k, Blk2 W g (.slice A us.length n) (.slice B rs.length k) ∧ Holds W (.slice A us.length n) us ∧ Holds W (.slice B rs.length k) rs ∧ KX w C L W ∧ w.heap.size ≤ g ∧ ∀ p ∈ C, p.1.block ≠ g
theorem OrdR.store {w W : World} {C : List (Addr × Value)} {L : List (Value × List (Int × Int))} {g : Nat} {x y : Value} {us rs : List (Int × Int)} {A B : Option Addr} {n k : Nat} (hB : Blk2 W g x y) (hx : ∀ z, x ≠ .int .i64 z) (hy : ∀ z, y ≠ .int .i64 z) (h1 : Holds W (.slice A us.length n) us) (h2 : Holds W (.slice B rs.length k) rs)
    (hK : KX w C L W) (hg : w.heap.size ≤ g) (hC : ∀ p ∈ C, p.1.block ≠ g) : OrdR w C L g us rs ((W.setCell ⟨g, 0, none⟩ (.slice A us.length n)).setCell ⟨g, 1, none⟩ (.slice B rs.length k)) :=
  ⟨A, n, B, k, hB.set _ _, h1.set2 hB hx hy, h2.set2 hB hx hy, hK.set2 hB hx hy hg hC _ _, hg, hC⟩
theorem OrdR.drew {w W : World} {C : List (Addr × Value)} {L : List (Value × List (Int × Int))} {g : Nat} {us rs : List (Int × Int)} (h : OrdR w C L g us rs W) : OrdR w C L g us rs W.drew := by
  obtain ⟨A, n, B, k, h1, h2, h3, h4, h5⟩ := h
  exact ⟨A, n, B, k, h1, h2.below (Below.refl _ W).drew, h3.below (Below.refl _ W).drew, h4.drew, h5⟩

set_option maxRecDepth 100000 in
set_option maxHeartbeats 4000000 in
theorem lawOrders3_a (KN : KnownOK) (v : Value) (vs ls m : List (Int × Int)) (X : Option Addr) (cx tt : Nat) (w : World) (h : HoldsC w v vs ls) (hx : Holds w (.slice X m.length cx) m) (ht : tt ≤ 255) (hl : (decide (vs.length ≤ 40) && decide (ls.length ≤ 40)) = false) :
    Calls Try.prog 7 #[v, .slice X m.length cx, .int .u8 (tt : Int)] w fun e w' => e = .returned (.bool true) ∧ Below w.heap.size w w' := by
  obtain ⟨A, n, B, k, rfl, h1, h2⟩ := h
  have K := Lib.hid ((((KX.nil w).push hx).push h1 |>.push h2).box (.slice A vs.length n) (.slice B ls.length k) 25)
  have HKN := Lib.hid KN
  clear h1 h2 hx KN
  have hcc : ∀ W, KX w [(⟨w.heap.size, 0, none⟩, .slice A vs.length n), (⟨w.heap.size, 1, none⟩, .slice B ls.length k)] [(.slice B ls.length k, ls), (.slice A vs.length n, vs), (.slice X m.length cx, m)] W → HoldsC W (.agg #[.slice A vs.length n, .slice B ls.length k]) vs ls ∧ Holds W (.slice X m.length cx) m ∧ W.cell? ⟨w.heap.size, 0, none⟩ = some (.slice A vs.length n) ∧ W.cell? ⟨w.heap.size, 1, none⟩ = some (.slice B ls.length k) :=
    fun W K => ⟨HoldsC.mk (K.h (by simp)) (K.h (by simp)), K.h (by simp), K.cell (by simp), K.cell (by simp)⟩
  have HCC := Lib.hid hcc
  clear hcc
  have HL := Lib.hid fun W K => law3Light (.agg #[.slice A vs.length n, .slice B ls.length k]) vs ls false W (HCC.out W K).1 hl
  clear hl
  go_enter Try.func7, Try.ntmps7
  go_wp2_with fail
  refine (HL.out _ K.out).mono ?_
  rintro e w1 ⟨rfl, hb1⟩
  have K1 := Lib.hid (K.out.below hb1)
  clear hb1
  go_wp2_with fail
  refine (HKN.out _).mono ?_
  rintro e w2 ⟨rfl, hb1⟩
  have K2 := Lib.hid (K1.out.below hb1)
  clear hb1
  go_wp2
  go_ret
  exact ⟨rfl, K2.out.bel⟩
set_option maxRecDepth 100000 in
set_option maxHeartbeats 4000000 in
theorem lawOrders3_b (KN : KnownOK) (v : Value) (vs ls m : List (Int × Int)) (X : Option Addr) (cx tt : Nat) (w : World) (h : HoldsC w v vs ls) (hx : Holds w (.slice X m.length cx) m) (ht : tt ≤ 255) (hl : (decide (vs.length ≤ 40) && decide (ls.length ≤ 40)) = true) (hm : 40 < m.length) :
    Calls Try.prog 7 #[v, .slice X m.length cx, .int .u8 (tt : Int)] w fun e w' => e = .returned (.bool true) ∧ Below w.heap.size w w' := by
  obtain ⟨A, n, B, k, rfl, h1, h2⟩ := h
  have K := Lib.hid ((((KX.nil w).push hx).push h1 |>.push h2).box (.slice A vs.length n) (.slice B ls.length k) 25)
  have HKN := Lib.hid KN
  clear h1 h2 hx KN
  have hcc : ∀ W, KX w [(⟨w.heap.size, 0, none⟩, .slice A vs.length n), (⟨w.heap.size, 1, none⟩, .slice B ls.length k)] [(.slice B ls.length k, ls), (.slice A vs.length n, vs), (.slice X m.length cx, m)] W → HoldsC W (.agg #[.slice A vs.length n, .slice B ls.length k]) vs ls ∧ Holds W (.slice X m.length cx) m ∧ W.cell? ⟨w.heap.size, 0, none⟩ = some (.slice A vs.length n) ∧ W.cell? ⟨w.heap.size, 1, none⟩ = some (.slice B ls.length k) :=
    fun W K => ⟨HoldsC.mk (K.h (by simp)) (K.h (by simp)), K.h (by simp), K.cell (by simp), K.cell (by simp)⟩
  have HCC := Lib.hid hcc
  clear hcc
  have HL := Lib.hid fun W K => law3Light (.agg #[.slice A vs.length n, .slice B ls.length k]) vs ls true W (HCC.out W K).1 hl
  have i1 : (40 : Int) < (m.length : Int) := by omega
  clear hl hm
  go_enter Try.func7, Try.ntmps7
  go_wp2_with fail
  refine (HL.out _ K.out).mono ?_
  rintro e w1 ⟨rfl, hb1⟩
  have K1 := Lib.hid (K.out.below hb1)
  clear hb1
  go_wp2_with fail
  refine (HKN.out _).mono ?_
  rintro e w2 ⟨rfl, hb1⟩
  have K2 := Lib.hid (K1.out.below hb1)
  clear hb1
  go_wp2
  go_ret
  exact ⟨rfl, K2.out.bel⟩
set_option maxRecDepth 100000 in
set_option maxHeartbeats 4000000 in
theorem lawOrders3_c (KN : KnownOK) (v : Value) (vs ls m : List (Int × Int)) (X : Option Addr) (cx tt : Nat) (w : World) (h : HoldsC w v vs ls) (hx : Holds w (.slice X m.length cx) m) (ht : tt ≤ 255) (hl : (decide (vs.length ≤ 40) && decide (ls.length ≤ 40)) = true) (hm : m.length ≤ 40) (hv : validC vs ls = false) :
    Calls Try.prog 7 #[v, .slice X m.length cx, .int .u8 (tt : Int)] w fun e w' => e = .returned (.bool true) ∧ Below w.heap.size w w' := by
  obtain ⟨A, n, B, k, rfl, h1, h2⟩ := h
  have K := Lib.hid ((((KX.nil w).push hx).push h1 |>.push h2).box (.slice A vs.length n) (.slice B ls.length k) 25)
  have HKN := Lib.hid KN
  clear h1 h2 hx KN
  have hcc : ∀ W, KX w [(⟨w.heap.size, 0, none⟩, .slice A vs.length n), (⟨w.heap.size, 1, none⟩, .slice B ls.length k)] [(.slice B ls.length k, ls), (.slice A vs.length n, vs), (.slice X m.length cx, m)] W → HoldsC W (.agg #[.slice A vs.length n, .slice B ls.length k]) vs ls ∧ Holds W (.slice X m.length cx) m ∧ W.cell? ⟨w.heap.size, 0, none⟩ = some (.slice A vs.length n) ∧ W.cell? ⟨w.heap.size, 1, none⟩ = some (.slice B ls.length k) :=
    fun W K => ⟨HoldsC.mk (K.h (by simp)) (K.h (by simp)), K.h (by simp), K.cell (by simp), K.cell (by simp)⟩
  have HCC := Lib.hid hcc
  clear hcc
  have HL := Lib.hid fun W K => law3Light (.agg #[.slice A vs.length n, .slice B ls.length k]) vs ls true W (HCC.out W K).1 hl
  have i1 : (m.length : Int) ≤ 40 := by omega
  have HV := Lib.hid fun W K => ref3Valid (.agg #[.slice A vs.length n, .slice B ls.length k]) vs ls false W (HCC.out W K).1 hv
  clear hl hm hv
  go_enter Try.func7, Try.ntmps7
  go_wp2_with fail
  refine (HL.out _ K.out).mono ?_
  rintro e w1 ⟨rfl, hb1⟩
  have K1 := Lib.hid (K.out.below hb1)
  clear hb1
  obtain ⟨_, _, j0, j1⟩ := HCC.out _ K1.out
  go_wp2_with fail
  refine (HV.out _ K1.out).mono ?_
  rintro e w2 ⟨rfl, hb1⟩
  have K2 := Lib.hid (K1.out.below hb1)
  clear hb1 j0 j1
  go_wp2_with fail
  refine (HKN.out _).mono ?_
  rintro e w3 ⟨rfl, hb1⟩
  have K3 := Lib.hid (K2.out.below hb1)
  clear hb1
  go_wp2
  go_ret
  exact ⟨rfl, K3.out.bel⟩
set_option maxRecDepth 100000 in
set_option maxHeartbeats 4000000 in
theorem lawOrders3_d (KN : KnownOK) (v : Value) (vs ls m : List (Int × Int)) (X : Option Addr) (cx tt : Nat) (w : World) (h : HoldsC w v vs ls) (hx : Holds w (.slice X m.length cx) m) (ht : tt ≤ 255) (hl : (decide (vs.length ≤ 40) && decide (ls.length ≤ 40)) = true) (hm : m.length ≤ 40) (hv : validC vs ls = true) (hok : okL m = false) :
    Calls Try.prog 7 #[v, .slice X m.length cx, .int .u8 (tt : Int)] w fun e w' => e = .returned (.bool true) ∧ Below w.heap.size w w' := by
  obtain ⟨A, n, B, k, rfl, h1, h2⟩ := h
  have K := Lib.hid ((((KX.nil w).push hx).push h1 |>.push h2).box (.slice A vs.length n) (.slice B ls.length k) 25)
  have HKN := Lib.hid KN
  clear h1 h2 hx KN
  have hcc : ∀ W, KX w [(⟨w.heap.size, 0, none⟩, .slice A vs.length n), (⟨w.heap.size, 1, none⟩, .slice B ls.length k)] [(.slice B ls.length k, ls), (.slice A vs.length n, vs), (.slice X m.length cx, m)] W → HoldsC W (.agg #[.slice A vs.length n, .slice B ls.length k]) vs ls ∧ Holds W (.slice X m.length cx) m ∧ W.cell? ⟨w.heap.size, 0, none⟩ = some (.slice A vs.length n) ∧ W.cell? ⟨w.heap.size, 1, none⟩ = some (.slice B ls.length k) :=
    fun W K => ⟨HoldsC.mk (K.h (by simp)) (K.h (by simp)), K.h (by simp), K.cell (by simp), K.cell (by simp)⟩
  have HCC := Lib.hid hcc
  clear hcc
  have HL := Lib.hid fun W K => law3Light (.agg #[.slice A vs.length n, .slice B ls.length k]) vs ls true W (HCC.out W K).1 hl
  have i1 : (m.length : Int) ≤ 40 := by omega
  have HV := Lib.hid fun W K => ref3Valid (.agg #[.slice A vs.length n, .slice B ls.length k]) vs ls true W (HCC.out W K).1 hv
  have HD := Lib.hid fun W K => ref3Dots_h (.slice X m.length cx) m false W (HCC.out W K).2.1 hok
  clear hl hm hv hok
  go_enter Try.func7, Try.ntmps7
  go_wp2_with fail
  refine (HL.out _ K.out).mono ?_
  rintro e w1 ⟨rfl, hb1⟩
  have K1 := Lib.hid (K.out.below hb1)
  clear hb1
  obtain ⟨_, _, j0, j1⟩ := HCC.out _ K1.out
  go_wp2_with fail
  refine (HV.out _ K1.out).mono ?_
  rintro e w2 ⟨rfl, hb1⟩
  have K2 := Lib.hid (K1.out.below hb1)
  clear hb1 j0 j1
  obtain ⟨_, _, j0, j1⟩ := HCC.out _ K2.out
  go_wp2_with fail
  refine (HD.out _ K2.out).mono ?_
  rintro e w3 ⟨rfl, hb1⟩
  have K3 := Lib.hid (K2.out.below hb1)
  clear hb1 j0 j1
  go_wp2_with fail
  refine (HKN.out _).mono ?_
  rintro e w4 ⟨rfl, hb1⟩
  have K4 := Lib.hid (K3.out.below hb1)
  clear hb1
  go_wp2
  go_ret
  exact ⟨rfl, K4.out.bel⟩

end Go.Proofs.Ytibnlifdeknicaa
