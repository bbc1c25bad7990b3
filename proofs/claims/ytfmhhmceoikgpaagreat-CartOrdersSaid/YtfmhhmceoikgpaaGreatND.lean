/- Several texts in one: CarH, CarI, CarJ. -/
import Derived.Test.YtfmhhmceoikgpaaGreatNC
import Derived.HandedShaped
import Derived.Test.YtfmhhmceoikgpaaGreatMZ
namespace Go.Proofs.YtfmhhmceoikgpaaGreat

section
open Go.RowKit

/-- What the region in of leans on. -/
def KD0 (w : World) (g k : Nat) (r c : Int) (W : World) : Prop := W.cell? ⟨g, k, none⟩ = some (.int .i64 r) ∧ W.cell? ⟨g, k + 1, none⟩ = some (.int .i64 c) ∧ g < w.heap.size ∧ Below w.heap.size w W
section
variable {w W W' : World} {g k : Nat} {r c : Int}
theorem KD0.below (h : KD0 w g k r c W) (hb : Below w.heap.size w W → Below w.heap.size w W') (hc : ∀ o, W'.cell? ⟨g, o, none⟩ = W.cell? ⟨g, o, none⟩) : KD0 w g k r c W' := ⟨(hc _).trans h.1, (hc _).trans h.2.1, h.2.2.1, hb h.2.2.2⟩
theorem KD0.lt (h : KD0 w g k r c W) : g < W.heap.size := Nat.lt_of_lt_of_le h.2.2.1 h.2.2.2.size
theorem KD0.drew (h : KD0 w g k r c W) : KD0 w g k r c W.drew := h.below (fun h => h.drew) fun _ => rfl
theorem KD0.alloc (h : KD0 w g k r c W) (o : Obj) : KD0 w g k r c (W.alloc o) := h.below (fun hb => hb.alloc hb.size o) fun q => ((Below.refl _ W).alloc (Nat.le_refl _) o).cell (p := ⟨g, q, none⟩) h.lt
theorem KD0.size (h : KD0 w g k r c W) : w.heap.size ≤ W.heap.size := h.2.2.2.size
theorem KD0.grown (h : KD0 w g k r c W) {row : Option Nat} (hg : W.grownBy W' row) (hr : ∀ j, row = some j → w.heap.size ≤ j) : KD0 w g k r c W' :=
  h.below (fun hb => hb.grown hg hb.size hr) fun q => World.cell?_of_block (a := ⟨g, q, none⟩) (hg.block g h.lt (fun e => by have := hr g e.symm; have := h.2.2.1; omega))
end

set_option maxRecDepth 100000 in
set_option maxHeartbeats 2000000 in
theorem lawDots10 (g cap n : Nat) (xs : List (Int × Int)) (w : World) (hx : DotsAt w (some ⟨g, 0, none⟩) xs) (hn : n = 2 * xs.length) (hm : xs.length ≤ 1000) :
    Calls Tryz.prog 36 #[.slice (some ⟨g, 0, none⟩) n cap] w fun e w' => (∃ A c, e = .returned (.slice A xs.length c) ∧ w'.ownsRow w.heap.size 63 2 (.slice A xs.length c) xs.length (cellsOf encD xs)) ∧ Below w.heap.size w w' := by
  obtain ⟨i0, hi0, hz0, hz1, hz2⟩ := info_parts infoD
  have hn1 : n ≤ 2 * xs.length := by omega
  have hn2 : 2 * xs.length ≤ n := by omega
  clear hn
  go_enter Tryz.func36, Tryz.ntmps36
  go_wp2_with fail
  go_loopw [3, 4] (fun v i wr => ∃ (m k : Nat), m ≤ xs.length ∧ k ≤ 2 * m ∧ 2 * m ≤ k ∧ i = .int .i64 k ∧ Hid (wr.ownsRow w.heap.size 63 2 v (xs.take m).length (cellsOf encD (xs.take m))) ∧ Hid (Below w.heap.size w wr)) (fun _ i _ => n - (intOf i).toNat)
  case atStart => exact ⟨0, 0, by omega, by omega, by omega, rfl, World.ownsRow_nil _ _ _ _, Below.refl _ _⟩
  case round =>
    obtain ⟨m, k, hm2, hk1, hk2, rfl, hrow, hbel⟩ := hrel
    by_cases hlt : m < xs.length
    · obtain ⟨g', off, r, c, e0, hgl, hx1, hc0, hc1⟩ := hx.dot (j := m) hlt
      cases e0
      have hek : 0 + m * 2 = k := by omega
      rw [hek] at hc0 hc1
      have K : KD0 w g k r c wr := ⟨(hbel.out.cell (p := ⟨g, k, none⟩) hgl).trans hc0, (hbel.out.cell (p := ⟨g, k + 1, none⟩) hgl).trans hc1, hgl, hbel.out⟩
      have hts : xs.take (m + 1) = xs.take m ++ [(r, c)] := take_snoc hx1
      have HTS := Lib.hid hts
      have hlen : (xs.take m).length ≤ 1000 := by simp; omega
      have hb1 : (k : Int) + 1 < (n : Int) := by omega
      have b0 : (0 : Int) ≤ (k : Int) := by omega
      have b1 : (k : Int) < (n : Int) := by omega
      have b2 : (0 : Int) ≤ (k : Int) + 1 := by omega
      have b3 : IntKind.i64.wrap ((k : Int) + 1) = (k : Int) + 1 := by simp [IntKind.wrap, IntKind.bits, IntKind.signed]; omega
      have b4 : ((k : Int) + 1).toNat = k + 1 := by omega
      clear hek hc0 hc1 hts hx1
      go_wp2_with fail
      have K' : wr.cell? ⟨g, k, none⟩ = some (.int .i64 r) ∧ wr.cell? ⟨g, k + 1, none⟩ = some (.int .i64 c) ∧ g < w.heap.size ∧ Below w.heap.size w wr := K
      obtain ⟨q0, q1, _⟩ := id K
      go_region_held3 (fun W => W.cell? ⟨g, k, none⟩ = some (.int .i64 r) ∧ W.cell? ⟨g, k + 1, none⟩ = some (.int .i64 c) ∧ g < w.heap.size ∧ Below w.heap.size w W)
        (first
          | assumption
          | (exact KD0.drew (by assumption))
          | (exact KD0.alloc (by assumption) _)
          | (exact KD0.drew (KD0.alloc (by assumption) _)))
        (first
          | (refine step_append_sl (o := ⟨some 24, _, _, _, _, _⟩) _ encD 2 (by rfl) (.tmp 12) (.tmp 23) 22 (by rfl) encD_len (by omega) encD_one w.heap.size 63 i0 _ 16 Tryz.underlying22 hi0 hz0 hz1 hz2 rfl u3 (xs.take m) (by rfl) (by first | exact hrow.out | exact hrow.out.alloc _ | exact (hrow.out.drew).alloc _ | exact (hrow.out.alloc _).drew) _ 1 _ [(r, c)] (by rfl) (by rfl) (SlAt.one (heap_alloc_new _ _)) (by simp [maxLen]; omega) (by simp; omega) (KD0.size (by assumption)) ?_
             intro v1 w1 hown1 hg1 hat1
             have hS1 := KD0.grown (by assumption) hg1 (fun j hj => (hrow.out.lt j hj).1)))
      all_goals
        rw [← HTS.out] at hown1
        have HO := Lib.hid hown1
        have HB := Lib.hid hS1.2.2.2
        clear hown1 hg1 hat1 hS1
        go_wp2_with fail
        go_roundw
        case rel => exact ⟨m + 1, k + 2, by omega, by omega, by omega, by go_num, HO, HB⟩
        case measure => simp [intOf]; omega
    · have hb1 : ¬ (k : Int) + 1 < (n : Int) := by omega
      have h1 := hrow.out
      rw [List.take_of_length_le (by omega)] at h1
      have H1 := Lib.hid h1
      clear h1
      go_wp2
      go_ret
      obtain ⟨A, c, rfl, _⟩ := SlAt.of_own encD_len H1.out
      exact ⟨⟨A, c, rfl, H1.out⟩, hbel.out⟩

set_option maxHeartbeats 400000 in
theorem lawItem10 (nm : List UInt8) (A : Option Addr) (c : Nat) (ms : List Mk) (w : World) (h : MarksAt w A ms) (h1 : ms.length ≤ c) (h2 : c ≤ maxLen) :
    Calls Tryz.prog 34 #[.string ⟨nm.toArray⟩, .slice A ms.length c] w fun e w' => ∃ x : ItV, e = .returned (mkIt x) ∧ x = ⟨nm, A, c, ms⟩ ∧ ItOK w' x ∧ Below w.heap.size w w' := by
  have hB := BlkI.new w ⟨nm, A, c, ms⟩
  have s6 := hB.cell0
  have s7 := hB.cell1
  have hbe : Below w.heap.size w (w.alloc (.cells #[.string ⟨nm.toArray⟩, .slice A ms.length c] 56)) := (Below.refl _ w).alloc (Nat.le_refl _) _
  have HE := Lib.hid (show ∃ x : ItV, Ending.returned (.agg #[.string ⟨nm.toArray⟩, .slice A ms.length c]) = .returned (mkIt x) ∧ x = ⟨nm, A, c, ms⟩ ∧ ItOK (w.alloc (.cells #[.string ⟨nm.toArray⟩, .slice A ms.length c] 56)) x ∧ Below w.heap.size w (w.alloc (.cells #[.string ⟨nm.toArray⟩, .slice A ms.length c] 56)) from
    ⟨_, rfl, rfl, ⟨SlAt.below h hbe, h1, h2⟩, hbe⟩)
  clear hB hbe
  go_enter Tryz.func34, Tryz.ntmps34
  go_wp2_with fail
  exact bodyPost_ret (v := .agg #[.string ⟨nm.toArray⟩, .slice A ms.length c]) (by simp [results, Tryz.results34, go_sem, s6, s7]) rfl HE.out

set_option maxHeartbeats 400000 in
theorem lawMark10 (r c q : Int) (t : Nat) (w : World) : Calls Tryz.prog 35 #[.int .i64 r, .int .i64 c, .int .i64 q, .int .u64 (t : Int)] w (OneB (mkV ⟨r, c, q, t⟩) w) := by
  have hs := BlkM.new w ⟨r, c, q, t⟩
  have s0 := hs.cell0
  have s1 := hs.cell1
  have s2 := hs.cell2
  have s3 := hs.cell3
  have HB := Lib.hid ((Below.refl w.heap.size w).alloc (Nat.le_refl _) (.cells #[.int .i64 r, .int .i64 c, .int .i64 q, .int .u64 (t : Int)] 65))
  clear hs
  go_enter Tryz.func35, Tryz.ntmps35
  go_wp2_with fail
  exact bodyPost_ret (v := mkV ⟨r, c, q, t⟩) (by simp [results, Tryz.results35, go_sem, s0, s1, s2, s3]) rfl ⟨rfl, HB.out⟩

/-- The contracts at literals. -/
theorem mark10_l (r c q T : Int) (w : World) (h : 0 ≤ T) : Calls Tryz.prog 35 #[.int .i64 r, .int .i64 c, .int .i64 q, .int .u64 T] w (OneB (.agg #[.int .i64 r, .int .i64 c, .int .i64 q, .int .u64 T]) w) := by
  have k := lawMark10 r c q T.toNat w
  rw [Int.toNat_of_nonneg h] at k
  have e : mkV ⟨r, c, q, T.toNat⟩ = .agg #[.int .i64 r, .int .i64 c, .int .i64 q, .int .u64 T] := by simp [Int.toNat_of_nonneg h]
  rw [e] at k
  exact k
theorem mlit1 (X : World) (n : Nat) (r c q T : Int) (t : Nat) (hn : X.heap.size = n) (h : T = (t : Int)) : MarksAt (X.alloc (.cells #[.int .i64 r, .int .i64 c, .int .i64 q, .int .u64 T] 65)) (some ⟨n, 0, none⟩) [⟨r, c, q, t⟩] := by
  subst h
  exact SlAt.litAt encM_len X n hn 65 [⟨r, c, q, t⟩] (by simp [maxLen])
theorem mlit2 (X : World) (n : Nat) (r c q T r' c' q' T' : Int) (t t' : Nat) (hn : X.heap.size = n) (h : T = (t : Int)) (h' : T' = (t' : Int)) : MarksAt (X.alloc (.cells #[.int .i64 r, .int .i64 c, .int .i64 q, .int .u64 T, .int .i64 r', .int .i64 c', .int .i64 q', .int .u64 T'] 65)) (some ⟨n, 0, none⟩) [⟨r, c, q, t⟩, ⟨r', c', q', t'⟩] := by
  subst h h'
  exact SlAt.litAt encM_len X n hn 65 [⟨r, c, q, t⟩, ⟨r', c', q', t'⟩] (by simp [maxLen])
theorem item10_l (S : ByteArray) (nm : List UInt8) (A : Option Addr) (k : Nat) (ms : List Mk) (w : World) (h : MarksAt w A ms) (hs : S = ⟨nm.toArray⟩) (hk : ms.length = k) (hm : k ≤ 100) :
    Calls Tryz.prog 34 #[.string S, .slice A k k] w fun e w' => ∃ x : ItV, e = .returned (mkIt x) ∧ x.it = (nm, ms) ∧ ItOK w' x ∧ Below w.heap.size w w' := by
  subst hs hk
  exact (lawItem10 nm A ms.length ms w h (Nat.le_refl _) (by simp [maxLen]; omega)).mono fun e w' ⟨x, h1, h2, h3, h4⟩ => ⟨x, h1, by rw [h2]; rfl, h3, h4⟩

end

section
open Go.RowKit

theorem row_ne {W : World} {B g k n : Nat} {e t : TypeId} {v : Value} {xs : List Value} {cur : Array Value} {z : Nat × Nat} (h : W.ownsRow B e k v n xs) (hg : W.heap[g]? = some (.cells cur t z)) (ht : t ≠ e) : v.ownBlock ≠ some g := by
  rcases h.2 with ⟨rfl, _⟩ | ⟨g', cap, cur', rfl, _, hg', _⟩
  · simp [Value.ownBlock]
  · intro e1
    have e2 : g' = g := by simpa [Value.ownBlock] using e1
    subst e2
    rw [hg] at hg'
    injection hg' with h1
    injection h1 with _ h2 _
    exact ht h2
theorem OwnI.store {W : World} {B g o : Nat} {v x : Value} {xs : List ItV} {cur : Array Value} {t : TypeId} {z : Nat × Nat} (h : OwnI W B v xs) (hg : W.heap[g]? = some (.cells cur t z)) (h1 : t ≠ 56) (h2 : t ≠ 65) : OwnI (W.setCell ⟨g, o, none⟩ x) B v xs :=
  ⟨ownsRow_setCell_other (a := ⟨g, o, none⟩) h.1 (row_ne h.1 hg h1) x, fun y hy => ownsRow_setCell_other (a := ⟨g, o, none⟩) (h.2 y hy) (row_ne (h.2 y hy) hg h2) x⟩
theorem BlkC.store {W : World} {bx g o : Nat} {c : CaV} {x : Value} {cur : Array Value} {t : TypeId} {z : Nat × Nat} (h : BlkC W bx c) (hg : W.heap[g]? = some (.cells cur t z)) (ht : t ≠ 28) : BlkC (W.setCell ⟨g, o, none⟩ x) bx c := by
  refine (Below.heap_setCell W ⟨g, o, none⟩ x bx ?_).trans h
  rintro rfl
  have h' := h
  unfold BlkC at h'
  rw [show W.heap[(⟨bx, o, none⟩ : Addr).block]? = W.heap[bx]? from rfl] at *
  rw [hg] at h'
  injection h' with h1
  injection h1 with _ h2 _
  exact ht h2

/-- A row of dots whose counters may be written. -/
structure Dts (W : World) (B g n : Nat) : Prop where
  ge : B ≤ g
  typ : ∃ cur, W.heap[g]? = some (.cells cur 63 (0, 0))
  num : ∀ j, j < n → ∃ q, W.cell? ⟨g, j * 2 + 1, none⟩ = some (.int .i64 q)
theorem Dts.frozen {W : World} {B g n : Nat} (h : Dts W B g n) (k : Nat) : W.frozen? ⟨g, k, none⟩ = false := by
  obtain ⟨cur, hg⟩ := h.typ
  simp [World.frozen?, hg]
theorem Dts.lt {W : World} {B g n : Nat} (h : Dts W B g n) : g < W.heap.size := by
  obtain ⟨cur, hg⟩ := h.typ
  exact (Array.getElem?_eq_some_iff.1 hg).1
theorem Dts.store {W : World} {B g n : Nat} (h : Dts W B g n) (g' o : Nat) (x : Int) : Dts (W.setCell ⟨g', o, none⟩ (.int .i64 x)) B g n := by
  refine ⟨h.ge, ?_, fun j hj => someInt_setCell (h.num j hj) _ _⟩
  obtain ⟨cur, hg⟩ := h.typ
  by_cases e : g = g'
  · subst e
    show ∃ cur', (W.heap.modify g _)[g]? = _
    rw [Array.getElem?_modify, if_pos rfl, hg]
    exact ⟨_, rfl⟩
  · exact ⟨cur, (Below.heap_setCell W ⟨g', o, none⟩ _ g e).trans hg⟩
/-- A list of dots that was returned. -/
def DtsO (W : World) (B : Nat) (A : Option Addr) (n : Nat) : Prop := n = 0 ∨ ∃ g, A = some ⟨g, 0, none⟩ ∧ Dts W B g n
theorem DtsO.store {W : World} {B n : Nat} {A : Option Addr} (h : DtsO W B A n) (g' o : Nat) (x : Int) : DtsO (W.setCell ⟨g', o, none⟩ (.int .i64 x)) B A n := by
  rcases h with h | ⟨g, h1, h2⟩
  · exact .inl h
  · exact .inr ⟨g, h1, h2.store g' o x⟩
theorem Dts.below {W W' : World} {B g n : Nat} (h : Dts W B g n) (hb : Below W.heap.size W W') : Dts W' B g n := by
  obtain ⟨cur, hg⟩ := h.typ
  refine ⟨h.ge, ⟨cur, (hb.block g h.lt).trans hg⟩, fun j hj => ?_⟩
  obtain ⟨q, hq⟩ := h.num j hj
  exact ⟨q, (hb.cell (p := ⟨g, j * 2 + 1, none⟩) h.lt).trans hq⟩
theorem DtsO.below {W W' : World} {B n : Nat} {A : Option Addr} (h : DtsO W B A n) (hb : Below W.heap.size W W') : DtsO W' B A n := by
  rcases h with h | ⟨g, h1, h2⟩
  · exact .inl h
  · exact .inr ⟨g, h1, h2.below hb⟩
theorem DtsO.of_own {W : World} {B n c : Nat} {A : Option Addr} {ds : List (Int × Int)} (h : W.ownsRow B 63 2 (.slice A n c) ds.length (cellsOf encD ds)) (hn : n = ds.length) : DtsO W B A n := by
  subst hn
  by_cases h0 : ds.length = 0
  · exact .inl h0
  refine .inr ?_
  have h2 := h.2
  rcases h2 with ⟨_, h2⟩ | ⟨g, cap, cur, hv, hb, hg, _⟩
  · exact absurd h2 h0
  · injection hv with e1 e2 e3
    subst e1
    refine ⟨g, rfl, hb, ⟨cur, hg⟩, fun j hj => ⟨ds[j].2, ?_⟩⟩
    have hc := World.ownsRow.cells h (g := g) rfl (j * 2 + 1) (.int .i64 ds[j].2) (cellsOf_at encD_len ds j ds[j] 1 _ (List.getElem?_eq_getElem hj) rfl)
    rw [Addr_add, Nat.zero_add] at hc
    exact hc

/-- What was returned, its dots being spoilt. -/
structure KP (w : World) (B : Nat) (c : CaV) (W : World) : Prop where
  box : BlkC W w.heap.size c
  dv : DtsO W B c.V c.vs.length
  dl : DtsO W B c.L c.ls.length
  own : OwnI W B c.i c.xs
  bel : Below B w W
theorem KP.store {w W : World} {B g n o : Nat} {c : CaV} (h : KP w B c W) (hd : Dts W B g n) (x : Int) : KP w B c (W.setCell ⟨g, o, none⟩ (.int .i64 x)) := by
  obtain ⟨cur, hg⟩ := hd.typ
  exact ⟨h.box.store hg (by decide), h.dv.store _ _ _, h.dl.store _ _ _, h.own.store hg (by decide) (by decide), h.bel.setCell (p := ⟨g, o, none⟩) hd.ge _⟩

theorem mark_block {W : World} {B b : Nat} {x : ItV} (h : RowM W B (slV x) x.ms) (hA : x.A = some ⟨b, 0, none⟩) (h0 : 0 < x.ms.length) : ∃ cur, W.heap[b]? = some (.cells cur 65 (0, 0)) := by
  rcases RowM.form h with ⟨_, e2⟩ | ⟨g, c2, cur2, e1, _, hg⟩
  · rw [e2] at h0; cases h0
  · injection e1 with e3 _ _
    rw [hA] at e3
    injection e3 with e4
    injection e4 with e5
    subst e5
    exact ⟨cur2, hg⟩
/-- The items being spoilt, the cart in its box. -/
structure KQ (w : World) (B g n d lim : Nat) (c : CaV) (W : World) (ys : List ItV) : Prop where
  box : BlkC W w.heap.size c
  spo : Spo w B g d n lim W ys

section
variable {w W : World} {B g n d lim : Nat} {c : CaV} {ys : List ItV}
theorem KQ.name1 (h : KQ w B g n d lim c W ys) {j : Nat} {x : ItV} (hj : ys[j]? = some x) : KQ w B g n d (lim + 1) c (W.setCell ⟨g, j * 2, none⟩ (.string (⟨x.nm.toArray⟩ ++ ⟨#[120]⟩))) (ys.set j { x with nm := x.nm ++ [120] }) := by
  have hjl := (List.getElem?_eq_some_iff.1 hj).1
  obtain ⟨g', c', cur', hv, _, hg⟩ := h.spo.own.1.form (by omega)
  have hgg : g = g' := by injection hv with h1; injection h1 with h1; injection h1
  subst hgg
  exact ⟨h.box.store hg (by decide), h.spo.name1 hj⟩
theorem KQ.marks (h : KQ w B g n d lim c W ys) {j k : Nat} {x : ItV} (hj : ys[j]? = some x) (hk : k < x.ms.length) :
    ∃ b q, x.A = some ⟨b, 0, none⟩ ∧ W.cell? ⟨b, k * 4 + 2, none⟩ = some (.int .i64 q) ∧ W.frozen? ⟨b, k * 4 + 2, none⟩ = false ∧ b < W.heap.size ∧
      ∀ q', ∃ zs y, KQ w B g n d lim c (W.setCell ⟨b, k * 4 + 2, none⟩ (.int .i64 q')) zs ∧ zs[j]? = some y ∧ y.A = x.A ∧ y.c = x.c ∧ y.ms.length = x.ms.length := by
  obtain ⟨b, q, hA, e0, e1, hbl, hnx⟩ := h.spo.marks hj hk
  obtain ⟨cur, hg⟩ := mark_block (h.spo.own.2 x (List.mem_of_getElem? hj)) hA (by omega)
  refine ⟨b, q, hA, e0, e1, hbl, fun q' => ?_⟩
  obtain ⟨zs, y, k1, k2⟩ := hnx q'
  exact ⟨zs, y, ⟨h.box.store hg (by decide), k1⟩, k2⟩
end

set_option maxRecDepth 100000 in
set_option maxHeartbeats 8000000 in
theorem lawSpoil10 (c : CaV) (B : Nat) (w : World) (hv : DtsO w B c.V c.vs.length) (hd : DtsO w B c.L c.ls.length) (hi : OwnI w B c.i c.xs) (hB : B ≤ w.heap.size) (h1 : c.vs.length ≤ 100000) (h2 : c.ls.length ≤ 100000) (hm : c.xs.length ≤ 100000) (hl : ∀ x ∈ c.xs, x.nm.length ≤ 100000) :
    Calls Tryz.prog 15 #[mkC c] w fun e w' => e = .returned (.tuple #[]) ∧ Below B w w' := by
  have hba : Below w.heap.size w (w.alloc (.cells #[c.v, c.l, c.i] 28)) := (Below.refl _ w).alloc (Nat.le_refl _) _
  have K0 := Lib.hid (show KP w B c (w.alloc (.cells #[c.v, c.l, c.i] 28)) from ⟨BlkC.new w c, hv.below hba, hd.below hba, hi.below hba, hba.mono hB⟩)
  have HL := Lib.hid hl
  clear hv hd hi hl hba
  go_enter Tryz.func15, Tryz.ntmps15
  go_upto_region 1 with fail
  generalize World.alloc w _ = w2 at K0 ⊢
  have x0 := K0.out.box.cell0
  have x1 := K0.out.box.cell1
  have x2 := K0.out.box.cell2
  have xl := K0.out.box.lt
  go_wp2_with fail
  clear x0 x1 x2 xl
  go_loopw [2, 10] (fun _ i wr => ∃ k : Nat, k ≤ c.vs.length ∧ i = .int .i64 k ∧ Hid (KP w B c wr)) (fun _ i _ => c.vs.length - (intOf i).toNat)
  case atStart => exact ⟨0, by omega, rfl, K0⟩
  case round =>
    clear K0
    obtain ⟨k, hk, rfl, K⟩ := hrel
    have x0 := K.out.box.cell0
    have x1 := K.out.box.cell1
    have x2 := K.out.box.cell2
    have xl := K.out.box.lt
    by_cases hlt : k < c.vs.length
    · have i0 : (k : Int) < (c.vs.length : Int) := by omega
      obtain h0 | ⟨g, hA, hD⟩ := K.out.dv
      · omega
      · obtain ⟨q, hq⟩ := hD.num k hlt
        have hf := hD.frozen (k * 2 + 1)
        have hgl := hD.lt
        have HK := Lib.hid fun x => K.out.store (o := k * 2 + 1) hD x
        change wr.cell? _ = some (.slice c.V c.vs.length c.nv) at x0
        rw [hA] at x0
        clear hD hA K
        go_wp2_with fail
        go_roundw
        case rel => exact ⟨k + 1, by omega, by go_num, HK.out _⟩
        case measure => simp [intOf]; omega
    · have i0 : ¬ (k : Int) < (c.vs.length : Int) := by omega
      clear hlt hk
      have HK := Lib.hid K.out
      clear K
      go_wp2_with fail
      clear x0 x1 x2 xl i0
      go_loopw [3, 28] (fun _ i wr => ∃ k : Nat, k ≤ c.ls.length ∧ i = .int .i64 k ∧ Hid (KP w B c wr)) (fun _ i _ => c.ls.length - (intOf i).toNat)
      case atStart => exact ⟨0, by omega, rfl, HK⟩
      case round =>
        clear HK
        obtain ⟨k, hk, rfl, K⟩ := hrel
        have x0 := K.out.box.cell0
        have x1 := K.out.box.cell1
        have x2 := K.out.box.cell2
        have xl := K.out.box.lt
        by_cases hlt : k < c.ls.length
        · have i0 : (k : Int) < (c.ls.length : Int) := by omega
          obtain h0 | ⟨g, hA, hD⟩ := K.out.dl
          · omega
          · obtain ⟨q, hq⟩ := hD.num k hlt
            have hf := hD.frozen (k * 2 + 1)
            have hgl := hD.lt
            have HK := Lib.hid fun x => K.out.store (o := k * 2 + 1) hD x
            change wr.cell? _ = some (.slice c.L c.ls.length c.nl) at x1
            rw [hA] at x1
            clear hD hA K
            go_wp2_with fail
            go_roundw
            case rel => exact ⟨k + 1, by omega, by go_num, HK.out _⟩
            case measure => simp [intOf]; omega
        · have i0 : ¬ (k : Int) < (c.ls.length : Int) := by omega
          clear hlt hk
          by_cases hx0 : 0 < c.xs.length
          · obtain ⟨g, d, _, hI, _, _⟩ := K.out.own.1.form hx0
            have HKQ := Lib.hid (show KQ w B g c.xs.length d 100000 c wr c.xs from ⟨K.out.box, ⟨by rw [← hI]; exact K.out.own, rfl, HL.out, K.out.bel⟩⟩)
            rw [hI] at x2
            clear K
            go_wp2_with fail
            clear x0 x1 x2 xl i0 HL
            have HI := Lib.hid hI
            clear hI
            generalize hn : c.xs.length = n at *
            have HN := Lib.hid hn
            clear hn
            have HKQ' := Lib.hid (show ∃ ys, KQ w B g n d 100000 c wr ys from ⟨_, HKQ.out⟩)
            clear HKQ
            go_loopw [4, 5, 45] (fun _ _ i wr => ∃ (k : Nat) (ys : List ItV), k ≤ n ∧ i = .int .i64 k ∧ Hid (KQ w B g n d (100000 + k) c wr ys)) (fun _ _ i _ => n - (intOf i).toNat)
            case atStart =>
              obtain ⟨ys, hys⟩ := HKQ'.out
              exact ⟨0, ys, by omega, rfl, hys⟩
            case round =>
              clear HKQ'
              obtain ⟨j, ys, hk, rfl, K⟩ := hrel
              have y2 := K.out.box.cell2
              rw [HI.out] at y2
              have yl := K.out.box.lt
              by_cases hlt : j < n
              · have i0 : (j : Int) < (n : Int) := by omega
                obtain ⟨x, hx⟩ : ∃ x, ys[j]? = some x := ⟨_, List.getElem?_eq_getElem (by rw [K.out.spo.len]; exact hlt)⟩
                obtain ⟨c0, c1, f0, hgl, _⟩ := K.out.spo.cells hx
                have hxn := K.out.spo.nam x (List.mem_of_getElem? hx)
                have hsz := size_mk x.nm
                have K1 := Lib.hid (K.out.name1 hx)
                have HX1 := Lib.hid (show (ys.set j { x with nm := x.nm ++ [120] })[j]? = some { x with nm := x.nm ++ [120] } from by rw [List.getElem?_set_self (by rw [K.out.spo.len]; exact hlt)])
                obtain ⟨A, m, cx, hA, hm1, hcx⟩ : ∃ A m cx, x.A = A ∧ x.ms.length = m ∧ x.c = cx := ⟨_, _, _, rfl, rfl, rfl⟩
                have HX2 := Lib.hid (show ∃ ys y, Hid (KQ w B g n d (100000 + j + 1) c (wr.setCell ⟨g, j * 2, none⟩ (.string (⟨x.nm.toArray⟩ ++ ⟨#[120]⟩))) ys) ∧ ys[j]? = some y ∧ y.A = A ∧ y.c = cx ∧ y.ms.length = m from ⟨_, _, K1, HX1.out, hA, hcx, hm1⟩)
                have hmm : m ≤ 9223372036854775807 := by
                  obtain ⟨zs, z, K2, hz, _, _, hz3⟩ := HX2.out
                  have := (RowM.ok (K2.out.spo.own.2 z (List.mem_of_getElem? hz))).len
                  unfold maxLen at this; omega
                have z2 := K1.out.box.cell2
                rw [HI.out] at z2
                obtain ⟨_, d1, _, hgl1, _⟩ := K1.out.spo.cells HX1.out
                rw [hA, hm1, hcx] at c1
                change _ = some (Value.slice x.A x.ms.length x.c) at d1
                rw [hA, hm1, hcx] at d1
                have zl := K1.out.box.lt
                clear K K1 HX1 hx hA hm1 hcx
                go_wp2_with fail
                generalize World.setCell wr _ _ = w2 at HX2 z2 d1 hgl1 zl ⊢
                clear z2 d1 hgl1 zl c0 c1 f0 hgl y2 yl
                go_loopw [5, 64] (fun _ i wr => ∃ (k : Nat) (ys : List ItV) (y : ItV), k ≤ m ∧ i = .int .i64 k ∧ Hid (KQ w B g n d (100000 + j + 1) c wr ys) ∧ Hid (ys[j]? = some y) ∧ Hid (y.A = A) ∧ Hid (y.c = cx) ∧ Hid (y.ms.length = m)) (fun _ i _ => m - (intOf i).toNat)
                case atStart =>
                  obtain ⟨zs, z, K2, hz, hz1, hz2, hz3⟩ := HX2.out
                  exact ⟨0, zs, z, by omega, rfl, K2, Lib.hid hz, Lib.hid hz1, Lib.hid hz2, Lib.hid hz3⟩
                case round =>
                  clear HX2
                  obtain ⟨k, zs, z, hk2, rfl, K2, hz, hz1, hz2, hz3⟩ := hrel
                  by_cases hkm : k < m
                  · have i1 : (k : Int) < (m : Int) := by omega
                    have y2 := K2.out.box.cell2
                    rw [HI.out] at y2
                    have yl := K2.out.box.lt
                    obtain ⟨d0, d1, _, hgl2, _⟩ := K2.out.spo.cells hz.out
                    rw [hz1.out, hz2.out, hz3.out] at d1
                    obtain ⟨b, q, hA, e0, e1, hbl, hnx⟩ := K2.out.marks (k := k) hz.out (by rw [hz3.out]; exact hkm)
                    rw [hz1.out] at hA
                    subst hA
                    have HNX := Lib.hid (hnx (wrap64 (q + 1)))
                    clear hnx d0
                    go_wp2_with fail
                    go_roundw
                    case rel =>
                      obtain ⟨us, u, K3, hu, hu1, hu2, hu3⟩ := HNX.out
                      exact ⟨k + 1, us, u, by omega, by go_num, Lib.hid K3, Lib.hid hu, Lib.hid (hu1.trans hz1.out), Lib.hid (hu2.trans hz2.out), Lib.hid (hu3.trans hz3.out)⟩
                    case measure => simp [intOf]; omega
                  · have i1 : ¬ (k : Int) < (m : Int) := by omega
                    clear hz hz1 hz2 hz3
                    go_wp2_with fail
                    go_roundw
                    case rel => exact ⟨j + 1, zs, by omega, by go_num, by rw [show 100000 + (j + 1) = 100000 + j + 1 by omega]; exact K2⟩
                    case measure => simp [intOf]; omega
              · have i0 : ¬ (j : Int) < (n : Int) := by omega
                have HB := Lib.hid K.out.spo.bel
                clear K
                go_wp2_with fail
                exact ⟨rfl, .tuple #[], results_none (by kernel_rfl) _ _ _, rfl, HB.out⟩
          · have hz : c.xs.length = 0 := by omega
            obtain ⟨ws, hws⟩ : ∃ W, W = wr := ⟨_, rfl⟩
            have HB := Lib.hid K.out.bel
            change _ = some (Value.slice c.I c.xs.length c.ni) at x2
            rw [hz] at x2
            clear K HL
            go_wp2_with fail
            go_loopw [4, 5, 45] (fun _ _ i wx => i = .int .i64 0 ∧ Hid (Below B w wx)) (fun _ _ _ _ => 0)
            case atStart => exact ⟨rfl, HB⟩
            case round =>
              obtain ⟨rfl, hb⟩ := hrel
              go_wp2_with fail
              exact ⟨rfl, .tuple #[], results_none (by kernel_rfl) _ _ _, rfl, hb.out⟩

end

section
open Go.RowKit

abbrev RowC (W : World) (B : Nat) (v : Value) (ds : List (Int × Int)) : Prop := W.ownsRow B 63 2 v ds.length (cellsOf encD ds)
theorem RowC.below {W W' : World} {B : Nat} {v : Value} {ds : List (Int × Int)} (h : RowC W B v ds) (hb : Below W.heap.size W W') : RowC W' B v ds := by
  refine World.ownsRow.kept h (grown_of_below hb none) ?_
  obtain ⟨A, c, rfl, _⟩ := SlAt.of_own encD_len h
  cases A <;> simp [Value.ownBlock]
/-- A box of a cart that was there ahead of a step. -/
theorem boxC_kept {W Wb : World} {n : Nat} {a b e : Value} (hb : Below W.heap.size W Wb) (hn : W.heap[n]? = some (.cells #[a, b, e] 28 (0, 0))) :
    Wb.heap[n]? = some (.cells #[a, b, e] 28 (0, 0)) ∧ Wb.cell? ⟨n, 0, none⟩ = some a ∧ Wb.cell? ⟨n, 1, none⟩ = some b ∧ Wb.cell? ⟨n, 2, none⟩ = some e ∧ Wb.frozen? ⟨n, 0, none⟩ = false ∧ Wb.frozen? ⟨n, 1, none⟩ = false ∧ Wb.frozen? ⟨n, 2, none⟩ = false ∧ n < Wb.heap.size := by
  have h := (hb.block n (Array.getElem?_eq_some_iff.1 hn).1).trans hn
  exact ⟨h, by simp [World.cell?, h], by simp [World.cell?, h], by simp [World.cell?, h], by simp [World.frozen?, h], by simp [World.frozen?, h], by simp [World.frozen?, h], (Array.getElem?_eq_some_iff.1 h).1⟩
theorem KR.set3 {w W : World} {c : CaV} (h : KR w c W) {g : Nat} (hg : w.heap.size + 1 < g) (u v z : Value) : KR w c (((W.setCell ⟨g, 0, none⟩ u).setCell ⟨g, 1, none⟩ v).setCell ⟨g, 2, none⟩ z) :=
  ⟨⟨(set3_other W g w.heap.size u v z (by omega)).trans h.kb.blk, ((h.kb.bel.setCell (p := ⟨g, 0, none⟩) (by simp; omega) _).setCell (p := ⟨g, 1, none⟩) (by simp; omega) _).setCell (p := ⟨g, 2, none⟩) (by simp; omega) _, h.kb.ok0⟩, (set3_other W g (w.heap.size + 1) u v z (by omega)).trans h.res⟩
theorem KR.sp {w W : World} {c : CaV} (h : KR w c W) : W.cell? ⟨w.heap.size, 0, none⟩ = some c.v ∧ W.cell? ⟨w.heap.size, 1, none⟩ = some c.l ∧ W.cell? ⟨w.heap.size, 2, none⟩ = some c.i ∧ w.heap.size < W.heap.size ∧ KR w c W := ⟨h.kb.sp.1, h.kb.sp.2.1, h.kb.sp.2.2.1, h.kb.sp.2.2.2.1, h⟩
theorem KR.size {w W : World} {c : CaV} (h : KR w c W) : w.heap.size ≤ W.heap.size := h.kb.bel.size
theorem KR.gbel {w W W' : World} {c : CaV} (_ : KR w c W) (hg : W.grownBy W' none) : Below W.heap.size W W' := (Below.refl _ _).grown hg (Nat.le_refl _) (fun _ h => by cases h)
theorem KR.grown {w W W' : World} {c : CaV} (h : KR w c W) (hg : W.grownBy W' none) : KR w c W' := h.next (h.gbel hg)
theorem KR.holdsV {w W : World} {c : CaV} (h : KR w c W) : DotsAt W c.V c.vs := by
  obtain ⟨A, n, e, h1, _⟩ := h.kb.ok.1
  injection e with e1 e2 e3
  rw [e1]; exact h1
theorem KR.holdsL {w W : World} {c : CaV} (h : KR w c W) : DotsAt W c.L c.ls := by
  obtain ⟨A, n, e, h1, _⟩ := h.kb.ok.2.1
  injection e with e1 e2 e3
  rw [e1]; exact h1
/-- The copy that is being made: its box, its rows. -/
structure KY (w : World) (c : CaV) (g : Nat) (v l iv : Value) (ys : List ItV) (W : World) : Prop where
  kr : KR w c W
  out : W.heap[g]? = some (.cells #[v, l, iv] 28 (0, 0))
  gb : w.heap.size + 1 < g
  rv : RowC W w.heap.size v c.vs
  rl : RowC W w.heap.size l c.ls
  ri : OwnI W w.heap.size iv ys

theorem boxC_filled {W : World} {n : Nat} {a b e : Value} (h : W.heap[n]? = some (.cells #[a, b, e] 28 (0, 0))) (u v z : Value) : (((W.setCell ⟨n, 0, none⟩ u).setCell ⟨n, 1, none⟩ v).setCell ⟨n, 2, none⟩ z).heap[n]? = some (.cells #[u, v, z] 28 (0, 0)) := by
  have e1 : (W.setCell ⟨n, 0, none⟩ u).heap[n]? = some (.cells #[u, b, e] 28 (0, 0)) := by
    show (W.heap.modify n _)[n]? = _
    rw [Array.getElem?_modify, if_pos rfl, h]
    rfl
  have e2 : ((W.setCell ⟨n, 0, none⟩ u).setCell ⟨n, 1, none⟩ v).heap[n]? = some (.cells #[u, v, e] 28 (0, 0)) := by
    show ((W.setCell ⟨n, 0, none⟩ u).heap.modify n _)[n]? = _
    rw [Array.getElem?_modify, if_pos rfl, e1]
    rfl
  show (((W.setCell ⟨n, 0, none⟩ u).setCell ⟨n, 1, none⟩ v).heap.modify n _)[n]? = _
  rw [Array.getElem?_modify, if_pos rfl, e2]
  rfl
theorem row_set1 {W : World} {B k m n o : Nat} {e t : TypeId} {x y : Value} {xs : List Value} {cur : Array Value} {z : Nat × Nat} (h : W.ownsRow B e k x m xs) (hg : W.heap[n]? = some (.cells cur t z)) (ht : t ≠ e) : (W.setCell ⟨n, o, none⟩ y).ownsRow B e k x m xs :=
  ownsRow_setCell_other (a := ⟨n, o, none⟩) h (row_ne h hg ht) y
theorem row_set3 {W : World} {B k m n : Nat} {e t : TypeId} {x u v y : Value} {xs : List Value} {cur : Array Value} {z : Nat × Nat} (h : W.ownsRow B e k x m xs) (hg : W.heap[n]? = some (.cells cur t z)) (ht : t ≠ e) : (((W.setCell ⟨n, 0, none⟩ u).setCell ⟨n, 1, none⟩ v).setCell ⟨n, 2, none⟩ y).ownsRow B e k x m xs :=
  have hn := row_ne h hg ht
  ownsRow_setCell_other (a := ⟨n, 2, none⟩) (ownsRow_setCell_other (a := ⟨n, 1, none⟩) (ownsRow_setCell_other (a := ⟨n, 0, none⟩) h hn u) hn v) hn y
theorem KY.new {w W : World} {c : CaV} {v l : Value} (h : KR w c W) (hv : RowC W w.heap.size v c.vs) (hl : RowC W w.heap.size l c.ls) : KY w c W.heap.size v l (.slice none 0 0) [] (W.alloc (.cells #[v, l, .slice none 0 0] 28)) :=
  have hb := (Below.refl W.heap.size W).alloc (Nat.le_refl _) (.cells #[v, l, .slice none 0 0] 28)
  ⟨h.alloc _, heap_alloc_new W _, h.lt, hv.below hb, hl.below hb, OwnI.nil _ _⟩
theorem KY.set {w W : World} {c : CaV} {v l a b e : Value} {g : Nat} (h : KR w c W) (hg : W.heap[g]? = some (.cells #[a, b, e] 28 (0, 0))) (hgg : w.heap.size + 1 < g) (hv : RowC W w.heap.size v c.vs) (hl : RowC W w.heap.size l c.ls) : KY w c g v l (.slice none 0 0) [] (((W.setCell ⟨g, 0, none⟩ v).setCell ⟨g, 1, none⟩ l).setCell ⟨g, 2, none⟩ (.slice none 0 0)) :=
  ⟨h.set3 hgg _ _ _, boxC_filled hg _ _ _, hgg, row_set3 hv hg (by decide), row_set3 hl hg (by decide), OwnI.nil _ _⟩

end

end Go.Proofs.YtfmhhmceoikgpaaGreat
