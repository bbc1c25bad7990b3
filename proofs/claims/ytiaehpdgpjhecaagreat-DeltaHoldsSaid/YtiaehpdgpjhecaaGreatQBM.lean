/- Several texts in one: ItmR, ItmS. -/
import Derived.Test.YtiaehpdgpjhecaaGreatQBL
import Derived.Shelf.Spec.SlicesInsertGrow
namespace Go.Proofs.YtiaehpdgpjhecaaGreat

section
open Go.RowKit

theorem run_copy_k {P : Program} (w : World) (dT sT ty elem : TypeId) (k n g o dLen dCap : Nat) (a : Addr) (sLen sCap : Nat) (cur : Array Value) (t : TypeId) (cs : List Value)
    (hu : P.underlying dT = some (.slice elem)) (hs : (P.info? elem).map (·.size) = some k)
    (hg : w.heap[g]? = some (.cells cur t (0, 0))) (hm : n = Nat.min sLen dLen) (hn : cs.length = n * k)
    (hsrc : ∀ j v, cs[j]? = some v → w.cell? (a.add j) = some v) (hfit : o + cs.length ≤ cur.size) (h1 : ∀ v ∈ cs, v.oneCell' = true) :
    (Builtin.copy_ #[dT, sT] ty #[.slice (some ⟨g, o, none⟩) dLen dCap, .slice (some a) sLen sCap]).run P w =
      .ok (goInt n) (w.setRow g (cur.toList.take o ++ cs ++ cur.toList.drop (o + cs.length)).toArray) := by
  have hl := run_loadCells_list (P := P) w a cs hsrc
  have hst := run_storeCells_at P g o t cs 0 cur w hg (by simpa using hfit) h1
  cases hq : P.info? elem with
  | none => simp [hq] at hs
  | some i =>
    have hi : i.size = k := by simpa [hq] using hs
    subst hm
    rw [hn] at hl
    simp [Builtin.copy_, run_underlying hu, Builtin.lenOf, Builtin.firstCells, sizeOf, typeInfo, hq, hi, hl, hst]

theorem sizeIt : (Tryz.prog.info? 50).map (·.size) = some 2 := by kernel_rfl
theorem cellsI_one (xs : List ItV) : ∀ v ∈ cellsOf encIt xs, v.oneCell' = true := fun v hv => by
  obtain ⟨x, _, h⟩ := List.mem_flatMap.1 hv
  exact encIt_one x v h
theorem cellsI_len (xs : List ItV) : (cellsOf encIt xs).length = xs.length * 2 := cellsOf_length encIt_len xs
theorem cellsI_take (xs : List ItV) (i : Nat) (hi : i ≤ xs.length) : (cellsOf encIt xs).take (i * 2) = cellsOf encIt (xs.take i) := by
  have e : cellsOf encIt xs = cellsOf encIt (xs.take i) ++ cellsOf encIt (xs.drop i) := by rw [← List.flatMap_append, List.take_append_drop]
  have hl : (cellsOf encIt (xs.take i)).length = i * 2 := by rw [cellsI_len, List.length_take]; omega
  rw [e, ← hl, List.take_left]
theorem cellsI_drop (xs : List ItV) (i : Nat) (hi : i ≤ xs.length) : (cellsOf encIt xs).drop (i * 2) = cellsOf encIt (xs.drop i) := by
  have e : cellsOf encIt xs = cellsOf encIt (xs.take i) ++ cellsOf encIt (xs.drop i) := by rw [← List.flatMap_append, List.take_append_drop]
  have hl : (cellsOf encIt (xs.take i)).length = i * 2 := by rw [cellsI_len, List.length_take]; omega
  rw [e, ← hl, List.drop_left]
/-- The row after both copies. -/
theorem row_ins {cur : List Value} {xs : List ItV} {x : ItV} {n i c : Nat} (hn : xs.length = n) (hi : i < n) (hc : cur.length = c * 2) (hroom : n + 1 ≤ c) (hx : cur.take (n * 2) = cellsOf encIt xs) :
    let r1 := cur.take ((i + 1) * 2) ++ cellsOf encIt (xs.drop i) ++ cur.drop ((i + 1) * 2 + (cellsOf encIt (xs.drop i)).length)
    let r2 := r1.take (i * 2) ++ encIt x ++ r1.drop (i * 2 + (encIt x).length)
    r1.length = c * 2 ∧ r2.length = c * 2 ∧ r2.take ((n + 1) * 2) = cellsOf encIt (xs.take i ++ x :: xs.drop i) := by
  intro r1 r2
  have hd : (cellsOf encIt (xs.drop i)).length = (n - i) * 2 := by rw [cellsI_len, List.length_drop, hn]
  have h1 : r1.length = c * 2 := by
    show (cur.take ((i + 1) * 2) ++ cellsOf encIt (xs.drop i) ++ cur.drop ((i + 1) * 2 + (cellsOf encIt (xs.drop i)).length)).length = _
    rw [List.length_append, List.length_append, List.length_take, List.length_drop, hd, hc]; omega
  have e1 : r1.take (i * 2) = cellsOf encIt (xs.take i) := by
    show (cur.take ((i + 1) * 2) ++ cellsOf encIt (xs.drop i) ++ cur.drop ((i + 1) * 2 + (cellsOf encIt (xs.drop i)).length)).take (i * 2) = _
    rw [List.append_assoc, List.take_append_of_le_length (by rw [List.length_take, hc]; omega), List.take_take, Nat.min_eq_left (by omega), ← cellsI_take xs i (by omega), ← hx, List.take_take, Nat.min_eq_left (by omega)]
  have e2 : r1.drop (i * 2 + (encIt x).length) = cellsOf encIt (xs.drop i) ++ cur.drop ((i + 1) * 2 + (cellsOf encIt (xs.drop i)).length) := by
    show (cur.take ((i + 1) * 2) ++ cellsOf encIt (xs.drop i) ++ cur.drop ((i + 1) * 2 + (cellsOf encIt (xs.drop i)).length)).drop (i * 2 + (encIt x).length) = _
    have hl : (cur.take ((i + 1) * 2)).length = i * 2 + (encIt x).length := by rw [List.length_take, hc, encIt_len]; omega
    rw [List.append_assoc, ← hl, List.drop_left]
  have h2 : r2 = cellsOf encIt (xs.take i) ++ encIt x ++ (cellsOf encIt (xs.drop i) ++ cur.drop ((i + 1) * 2 + (cellsOf encIt (xs.drop i)).length)) := by
    show r1.take (i * 2) ++ encIt x ++ r1.drop (i * 2 + (encIt x).length) = _
    rw [e1, e2]
  have e3 : cellsOf encIt (xs.take i ++ x :: xs.drop i) = cellsOf encIt (xs.take i) ++ encIt x ++ cellsOf encIt (xs.drop i) := by simp [cellsOf]
  have hl3 : (cellsOf encIt (xs.take i ++ x :: xs.drop i)).length = (n + 1) * 2 := by rw [cellsI_len]; simp; omega
  refine ⟨h1, ?_, ?_⟩
  · rw [h2, List.length_append, List.length_append, List.length_append, List.length_drop, hd, hc, cellsI_len, List.length_take, encIt_len]; omega
  · rw [h2, ← List.append_assoc, ← e3, ← hl3, List.take_left]

set_option maxHeartbeats 4000000 in
set_option maxRecDepth 100000 in
theorem insertRoom (g n c i vb : Nat) (cur : Array Value) (x : ItV) (xs : List ItV) (w : World) (hg : w.heap[g]? = some (.cells cur 50 (0, 0))) (hcs : cur.size = c * 2) (hxs : cur.toList.take (n * 2) = cellsOf encIt xs) (hn : xs.length = n)
    (hi : i < n) (hroom : n + 1 ≤ c) (hc : c ≤ maxLen) (hvb : BlkI w vb x) (hne : vb ≠ g) :
    Calls Tryz.prog 87 #[.slice (some ⟨g, 0, none⟩) n c, .int .i64 i, .slice (some ⟨vb, 0, none⟩) 1 1] w fun e w' =>
      e = .returned (.slice (some ⟨g, 0, none⟩) (n + 1) c) ∧ (∃ cur', w'.heap[g]? = some (.cells cur' 50 (0, 0)) ∧ cur'.size = c * 2 ∧ cur'.toList.take ((n + 1) * 2) = cellsOf encIt (xs.take i ++ x :: xs.drop i)) ∧ w.grownBy w' (some g) := by
  obtain ⟨hr1, hr2, hr3⟩ := row_ins (x := x) hn hi (by rw [Array.length_toList]; exact hcs) hroom hxs
  obtain ⟨R1, hR1⟩ : ∃ R1, R1 = cur.toList.take ((i + 1) * 2) ++ cellsOf encIt (xs.drop i) ++ cur.toList.drop ((i + 1) * 2 + (cellsOf encIt (xs.drop i)).length) := ⟨_, rfl⟩
  rw [← hR1] at hr1 hr2 hr3
  obtain ⟨R2, hR2⟩ : ∃ R2, R2 = R1.take (i * 2) ++ encIt x ++ R1.drop (i * 2 + (encIt x).length) := ⟨_, rfl⟩
  rw [← hR2] at hr2 hr3
  have hdl : (cellsOf encIt (xs.drop i)).length = (n - i) * 2 := by rw [cellsI_len, List.length_drop, hn]
  have hglt := (Array.getElem?_eq_some_iff.1 hg).1
  have hcells : ∀ (W : World), W.heap[g]? = w.heap[g]? → ∀ j v, (cellsOf encIt (xs.drop i))[j]? = some v → W.cell? ((⟨g, i * 2, none⟩ : Addr).add j) = some v := fun W hW j v hj => by
    rw [Addr_add, cell_of_row W g _ cur _ (0, 0) (hW.trans hg)]
    rw [← cellsI_drop xs i (by omega), ← hxs, List.getElem?_drop, List.getElem?_take] at hj
    split at hj
    · simpa using hj
    · cases hj
  have hcp1 : ∀ (W : World), W.heap[g]? = w.heap[g]? → ∀ ty dc sc, (Builtin.copy_ #[26, 26] ty #[.slice (some ⟨g, (i + 1) * 2, none⟩) (n - i) dc, .slice (some ⟨g, i * 2, none⟩) (n + 1 - i) sc]).run Tryz.prog W = .ok (goInt ((n - i : Nat) : Int)) (W.setRow g R1.toArray) := fun W hW ty dc sc => by
    rw [hR1]
    exact run_copy_k W 26 26 ty 50 2 (n - i) g ((i + 1) * 2) (n - i) dc ⟨g, i * 2, none⟩ (n + 1 - i) sc cur _ (cellsOf encIt (xs.drop i)) Tryz.underlying26 sizeIt (hW.trans hg) (by simp only [Nat.min_def]; split <;> omega) hdl (hcells W hW) (by rw [hdl, hcs]; omega) (cellsI_one _)
  have hcp2 : ∀ (W : World), W.heap[g]? = some (.cells R1.toArray 50 (0, 0)) → BlkI W vb x → ∀ ty dc, (Builtin.copy_ #[26, 26] ty #[.slice (some ⟨g, i * 2, none⟩) (n + 1 - i) dc, .slice (some ⟨vb, 0, none⟩) 1 1]).run Tryz.prog W = .ok (goInt 1) (W.setRow g R2.toArray) := fun W hW hB ty dc => by
    have h := run_copy_k (P := Tryz.prog) W 26 26 ty 50 2 1 g (i * 2) (n + 1 - i) dc ⟨vb, 0, none⟩ 1 1 R1.toArray _ (encIt x) Tryz.underlying26 sizeIt hW (by simp only [Nat.min_def]; split <;> omega) rfl (fun j v hj => by
      rw [Addr_add, Nat.zero_add]
      match j with
      | 0 => simp [encIt] at hj; rw [← hj]; exact hB.cell0
      | 1 => simp [encIt] at hj; rw [← hj]; exact hB.cell1
      | j + 2 => simp [encIt] at hj) (by simp [encIt_len, hr1]; omega) (encIt_one x)
    rw [hR2]
    exact h
  have hsb : w.shape? g = some (50, c * 2) := by simp [World.shape?, hg, hcs]
  have hsa : w.shape? vb = some (50, 2) := by simp [World.shape?, show w.heap[vb]? = _ from hvb]
  have hov : ∀ lb cb, (callFunc 148 #[.slice (some ⟨vb, 0, none⟩) 1 1, .slice (some ⟨g, (i + 1) * 2, none⟩) lb cb]).run Tryz.prog w = .ok (.value (.bool false)) w := fun lb cb => by
    rw [run_callFunc_extern Tryz.func148 (by kernel_rfl) (by kernel_rfl) (by kernel_rfl) (e := Extern.SlicesOverlaps.overlaps #[26, 26] #[4]) (by kernel_rfl),
      Lib.run_overlaps_apart w 26 4 50 Tryz.underlying26 2 Tryz.sizeOf50 ⟨vb, 0, none⟩ ⟨g, (i + 1) * 2, none⟩ 1 1 lb cb hne _ _ _ _ hsa hsb (by omega) (hvb.frozen 0) (hvb.frozen 2)]
    rfl
  have hk1 : (w.drew.setRow g R1.toArray).heap[g]? = some (.cells R1.toArray 50 (0, 0)) := setRow_heap w.drew g cur _ _ _ hg
  have hk2 : BlkI (w.drew.setRow g R1.toArray) vb x := (setRow_other w.drew g vb _ hne).trans hvb
  have hcp2' := hcp2 _ hk1 hk2
  have hcp1' := hcp1 w.drew rfl
  have HE := Lib.hid (show (∃ cur', ((w.drew.setRow g R1.toArray).setRow g R2.toArray).heap[g]? = some (.cells cur' 50 (0, 0)) ∧ cur'.size = c * 2 ∧ cur'.toList.take ((n + 1) * 2) = cellsOf encIt (xs.take i ++ x :: xs.drop i)) ∧ w.grownBy ((w.drew.setRow g R1.toArray).setRow g R2.toArray) (some g) from
    ⟨⟨R2.toArray, setRow_heap _ g R1.toArray _ _ _ hk1, by simpa using hr2, by simpa using hr3⟩, ⟨rfl, rfl, rfl, by simp [World.setRow], fun k _ hk => by
      have hkg : k ≠ g := fun e => hk (by rw [e])
      exact (setRow_other _ g k _ hkg).trans (setRow_other _ g k _ hkg)⟩⟩)
  have hnn1 : ¬ ((i : Int) = (n : Int)) := by omega
  have hm3 : ¬ ((c : Int) < (n : Int) + 1) := by omega
  have mixed : Tryz.prog.follows .mixedOrders = true := by kernel_rfl
  have hw1 : IntKind.i64.wrap ((i : Int) + 1) = (i : Int) + 1 := by rw [IntKind.wrap_i64]; unfold maxLen at hc; omega
  have hb1 : (0 : Int) ≤ (i : Int) + 1 := by omega
  have htn : ((i : Int) + 1).toNat = i + 1 := by omega
  have hb2 : ¬ (c = i + 1) := by omega
  have hb3 : (i : Int) ≤ (n : Int) + 1 := by omega
  have hb5 : (i : Int) ≤ (n : Int) := by omega
  have hb4 : ¬ (c = i) := by omega
  unfold maxLen at hc
  clear hr1 hr2 hr3 hcells hR1 hR2 hg hxs hdl hcs hvb hsa hsb hcp1 hcp2 hk1 hk2
  go_enter Tryz.func87, Tryz.ntmps87
  go_wp2_with (simp only [hov])
  go_region_law_o (refine step_copy_runI rfl _ _ 26 26 rfl _ _ (by simp [Act.eval, Act.put]) (by simp [Act.eval, Act.put]) (hcp1' _ _ _) ?_)
  go_wp2_with (at_builtin; refine wpList_copy_runI _ rfl _ _ 26 26 rfl _ _ rfl rfl (hcp2' _ _) ?_)
  go_ret
  exact ⟨rfl, HE.out⟩

/-- The new row after both copies. -/
theorem row_new {row : List Value} {xs : List ItV} {x : ItV} {n i c : Nat} (hn : xs.length = n) (hi : i < n) (hc : row.length = c * 2) (hroom : n + 1 ≤ c) (hx : row.take (i * 2) = cellsOf encIt (xs.take i)) :
    let r1 := row.take (i * 2) ++ encIt x ++ row.drop (i * 2 + (encIt x).length)
    let r2 := r1.take ((i + 1) * 2) ++ cellsOf encIt (xs.drop i) ++ r1.drop ((i + 1) * 2 + (cellsOf encIt (xs.drop i)).length)
    r1.length = c * 2 ∧ r2.length = c * 2 ∧ r2.take ((n + 1) * 2) = cellsOf encIt (xs.take i ++ x :: xs.drop i) := by
  intro r1 r2
  have hd : (cellsOf encIt (xs.drop i)).length = (n - i) * 2 := by rw [cellsI_len, List.length_drop, hn]
  have h1 : r1.length = c * 2 := by
    show (row.take (i * 2) ++ encIt x ++ row.drop (i * 2 + (encIt x).length)).length = _
    rw [List.length_append, List.length_append, List.length_take, List.length_drop, encIt_len, hc]; omega
  have e1 : r1.take ((i + 1) * 2) = cellsOf encIt (xs.take i) ++ encIt x := by
    show (row.take (i * 2) ++ encIt x ++ row.drop (i * 2 + (encIt x).length)).take ((i + 1) * 2) = _
    have hl : (cellsOf encIt (xs.take i) ++ encIt x).length = (i + 1) * 2 := by rw [List.length_append, cellsI_len, List.length_take, encIt_len, hn]; omega
    rw [hx, ← hl, List.take_left]
  have e3 : cellsOf encIt (xs.take i ++ x :: xs.drop i) = cellsOf encIt (xs.take i) ++ encIt x ++ cellsOf encIt (xs.drop i) := by simp [cellsOf]
  have hl3 : (cellsOf encIt (xs.take i ++ x :: xs.drop i)).length = (n + 1) * 2 := by rw [cellsI_len]; simp; omega
  refine ⟨h1, ?_, ?_⟩
  · show (r1.take ((i + 1) * 2) ++ cellsOf encIt (xs.drop i) ++ r1.drop ((i + 1) * 2 + (cellsOf encIt (xs.drop i)).length)).length = _
    rw [List.length_append, List.length_append, List.length_take, List.length_drop, hd, h1]; omega
  · show (r1.take ((i + 1) * 2) ++ cellsOf encIt (xs.drop i) ++ r1.drop ((i + 1) * 2 + (cellsOf encIt (xs.drop i)).length)).take ((n + 1) * 2) = _
    rw [e1, ← e3, ← hl3, List.take_left]

theorem belowRow {B g : Nat} {w0 w : World} (hb : Below B w0 w) (hBg : B ≤ g) (cs : Array Value) : Below B w0 (w.setRow g cs) :=
  hb.trans ⟨rfl, rfl, rfl, by simp [World.setRow], fun k hk => setRow_other w g k cs (by omega)⟩

set_option maxHeartbeats 4000000 in
set_option maxRecDepth 100000 in
theorem insertGrow (g n c i vb : Nat) (cur : Array Value) (x : ItV) (xs : List ItV) (w : World) (hg : w.heap[g]? = some (.cells cur 50 (0, 0))) (_ : cur.size = c * 2) (hxs : cur.toList.take (n * 2) = cellsOf encIt xs) (hn : xs.length = n)
    (hi : i < n) (hnc : n ≤ c) (hroom : c < n + 1) (hm : n ≤ 1000000) (hvb : BlkI w vb x) :
    Calls Tryz.prog 87 #[.slice (some ⟨g, 0, none⟩) n c, .int .i64 i, .slice (some ⟨vb, 0, none⟩) 1 1] w fun e w' =>
      ∃ G, e = .returned (.slice (some ⟨w.heap.size, 0, none⟩) (n + 1) G) ∧ n + 1 ≤ G ∧ G ≤ maxLen ∧ (∃ cur', w'.heap[w.heap.size]? = some (.cells cur' 50 (0, 0)) ∧ cur'.size = G * 2 ∧ cur'.toList.take ((n + 1) * 2) = cellsOf encIt (xs.take i ++ x :: xs.drop i)) ∧ Below w.heap.size w w' := by
  obtain ⟨i0, hi0, hz0, hzs, hzb⟩ := info_parts infoIt
  have hglt := (Array.getElem?_eq_some_iff.1 hg).1
  have hdl : (cellsOf encIt (xs.drop i)).length = (n - i) * 2 := by rw [cellsI_len, List.length_drop, hn]
  have hcell : ∀ (W : World), W.heap[g]? = w.heap[g]? → ∀ j v, (cellsOf encIt xs)[j]? = some v → W.cell? ⟨g, j, none⟩ = some v := fun W hW j v hj => by
    rw [cell_of_row W g _ cur _ (0, 0) (hW.trans hg)]
    rw [← hxs, List.getElem?_take] at hj
    split at hj
    · simpa using hj
    · cases hj
  have hold : (Builtin.firstCells i0.size i (.slice (some ⟨g, 0, none⟩) i c)).run Tryz.prog w.drew = .ok (cellsOf encIt (xs.take i)).toArray w.drew := by
    rw [hzs]
    exact run_firstCells_some w.drew 2 i ⟨g, 0, none⟩ i c (cellsOf encIt (xs.take i)) (by rw [cellsI_len, List.length_take]; omega) (fun j v hj => by
      rw [Addr_add, Nat.zero_add]
      rw [← cellsI_take xs i (by omega), List.getElem?_take] at hj
      split at hj
      · exact hcell w.drew rfl j v hj
      · cases hj)
  have hkk : (n : Int) + 1 - (i : Int) = ((n + 1 - i : Nat) : Int) := by omega
  have hik : i + (n + 1 - i) = n + 1 := by omega
  obtain ⟨G, hG⟩ : ∃ G, G = grownCap w (n + 1) c 50 := ⟨_, rfl⟩
  obtain ⟨ROW, hROW⟩ : ∃ ROW : Array Value, ROW = (cellsOf encIt (xs.take i)).toArray ++ Builtin.zeroCells (Value.agg #[.string ⟨#[]⟩, .slice none 0 0]).cells (n + 1 - i) ++ Builtin.zeroCells (Value.agg #[.string ⟨#[]⟩, .slice none 0 0]).cells (G - (n + 1)) := ⟨_, rfl⟩
  have hrz : ∀ ty, (Builtin.append_ #[26, 3] ty #[.slice (some ⟨g, 0, none⟩) i c, .int .i64 ((n : Int) + 1 - (i : Int))]).run Tryz.prog w =
      .ok (.slice (some ⟨w.heap.size, 0, none⟩) (n + 1) G) (w.drew.alloc (.cells ROW 50)) := fun ty => by
    have h := Lib.run_append_grow_zeros (P := Tryz.prog) w 26 3 ty 50 i0 _ .i64 .i64 Tryz.underlying26 Tryz.underlying3 hi0 hz0 (some ⟨g, 0, none⟩) i c (cellsOf encIt (xs.take i)) hold (n + 1 - i) (by omega) (by rw [hzs]; omega) (by omega) (by omega) (by rw [hzb]; omega) (by rw [hzb, hik]; exact growslice_fits hroom (by omega))
    rw [hik, ← hG, ← hROW] at h
    rw [hkk]
    exact h
  have hGn : n + 1 ≤ G := by rw [hG]; exact grownCap_ge w _ _ _
  have hG63 : G ≤ maxLen := by rw [hG]; exact grownCap_le_maxLen w (n + 1) c 50 (by unfold maxLen; omega)
  have hRl : ROW.toList.length = G * 2 := by
    have hc1 : (cellsOf encIt (xs.take i)).length = i * 2 := by rw [cellsI_len, List.length_take]; omega
    rw [hROW, Array.length_toList]
    simp only [Array.size_append, size_zeroCells, Value.cells, List.size_toArray, hc1]
    show i * 2 + (n + 1 - i) * 2 + (G - (n + 1)) * 2 = G * 2
    omega
  have hRt : ROW.toList.take (i * 2) = cellsOf encIt (xs.take i) := by
    have hc1 : (cellsOf encIt (xs.take i)).length = i * 2 := by rw [cellsI_len, List.length_take]; omega
    rw [hROW, Array.toList_append, Array.toList_append, List.append_assoc, ← hc1]
    simp
  obtain ⟨hr1, hr2, hr3⟩ := row_new (x := x) hn hi hRl hGn hRt
  obtain ⟨R1, hR1⟩ : ∃ R1, R1 = ROW.toList.take (i * 2) ++ encIt x ++ ROW.toList.drop (i * 2 + (encIt x).length) := ⟨_, rfl⟩
  rw [← hR1] at hr1 hr2 hr3
  obtain ⟨R2, hR2⟩ : ∃ R2, R2 = R1.take ((i + 1) * 2) ++ cellsOf encIt (xs.drop i) ++ R1.drop ((i + 1) * 2 + (cellsOf encIt (xs.drop i)).length) := ⟨_, rfl⟩
  rw [← hR2] at hr2 hr3
  have hcpA : ∀ (W : World), W.heap[w.heap.size]? = some (.cells ROW 50 (0, 0)) → BlkI W vb x → ∀ ty dc, (Builtin.copy_ #[26, 26] ty #[.slice (some ⟨w.heap.size, i * 2, none⟩) (n + 1 - i) dc, .slice (some ⟨vb, 0, none⟩) 1 1]).run Tryz.prog W = .ok (goInt 1) (W.setRow w.heap.size R1.toArray) := fun W hW hB ty dc => by
    have h := run_copy_k (P := Tryz.prog) W 26 26 ty 50 2 1 w.heap.size (i * 2) (n + 1 - i) dc ⟨vb, 0, none⟩ 1 1 ROW _ (encIt x) Tryz.underlying26 sizeIt hW (by simp only [Nat.min_def]; split <;> omega) rfl (fun j v hj => by
      rw [Addr_add, Nat.zero_add]
      match j with
      | 0 => simp [encIt] at hj; rw [← hj]; exact hB.cell0
      | 1 => simp [encIt] at hj; rw [← hj]; exact hB.cell1
      | j + 2 => simp [encIt] at hj) (by rw [encIt_len, ← Array.length_toList, hRl]; omega) (encIt_one x)
    rw [hR1]
    exact h
  have hcpB : ∀ (W : World), W.heap[w.heap.size]? = some (.cells R1.toArray 50 (0, 0)) → W.heap[g]? = w.heap[g]? → ∀ ty dc sc, (Builtin.copy_ #[26, 26] ty #[.slice (some ⟨w.heap.size, (i + 1) * 2, none⟩) (n - i) dc, .slice (some ⟨g, i * 2, none⟩) (n - i) sc]).run Tryz.prog W = .ok (goInt ((n - i : Nat) : Int)) (W.setRow w.heap.size R2.toArray) := fun W hW hW2 ty dc sc => by
    rw [hR2]
    exact run_copy_k W 26 26 ty 50 2 (n - i) w.heap.size ((i + 1) * 2) (n - i) dc ⟨g, i * 2, none⟩ (n - i) sc R1.toArray _ (cellsOf encIt (xs.drop i)) Tryz.underlying26 sizeIt hW (by simp only [Nat.min_def]; split <;> omega) hdl (fun j v hj => by
      rw [Addr_add]
      refine hcell W hW2 _ _ ?_
      rwa [← cellsI_drop xs i (by omega), List.getElem?_drop] at hj) (by simp [hr1, hdl]; omega) (cellsI_one _)
  have hA1 : (w.alloc (.cells ROW 50)).heap[w.heap.size]? = some (.cells ROW 50 (0, 0)) := heap_alloc_new w _
  have hA2 : BlkI (w.alloc (.cells ROW 50)).drew vb x := hvb.below (Below.drew ((Below.refl _ w).alloc (Nat.le_refl _) _))
  have hA3 : (w.alloc (.cells ROW 50)).heap[g]? = w.heap[g]? := Below.heap_alloc w _ g hglt
  have hB1 : ((w.alloc (.cells ROW 50)).drew.setRow w.heap.size R1.toArray).heap[w.heap.size]? = some (.cells R1.toArray 50 (0, 0)) := setRow_heap _ _ ROW _ _ _ hA1
  have hB2 : ((w.alloc (.cells ROW 50)).drew.setRow w.heap.size R1.toArray).heap[g]? = w.heap[g]? := (setRow_other _ w.heap.size g _ (by omega)).trans hA3
  have hcpA' := hcpA (w.alloc (.cells ROW 50)).drew hA1 hA2
  have hcpB' := hcpB ((w.alloc (.cells ROW 50)).drew.setRow w.heap.size R1.toArray).drew hB1 hB2
  have HE := Lib.hid (show (∃ cur', ((((w.alloc (.cells ROW 50)).drew.setRow w.heap.size R1.toArray).drew).setRow w.heap.size R2.toArray).heap[w.heap.size]? = some (.cells cur' 50 (0, 0)) ∧ cur'.size = G * 2 ∧ cur'.toList.take ((n + 1) * 2) = cellsOf encIt (xs.take i ++ x :: xs.drop i)) ∧ Below w.heap.size w ((((w.alloc (.cells ROW 50)).drew.setRow w.heap.size R1.toArray).drew).setRow w.heap.size R2.toArray) from
    ⟨⟨R2.toArray, setRow_heap _ _ R1.toArray _ _ _ hB1, by simpa using hr2, by simpa using hr3⟩, belowRow (Below.drew (belowRow (Below.drew ((Below.refl _ w).alloc (Nat.le_refl _) _)) (Nat.le_refl _) _)) (Nat.le_refl _) _⟩)
  have mixed : Tryz.prog.follows .mixedOrders = true := by kernel_rfl
  have hnn1 : ¬ ((i : Int) = (n : Int)) := by omega
  have hm3 : (c : Int) < (n : Int) + 1 := by omega
  have hw1 : IntKind.i64.wrap ((i : Int) + 1) = (i : Int) + 1 := by rw [IntKind.wrap_i64]; omega
  have hb1 : (0 : Int) ≤ (i : Int) + 1 := by omega
  have htn : ((i : Int) + 1).toNat = i + 1 := by omega
  have hGi : ¬ (G = i) := by omega
  have hGim : ¬ (G = i + 1) := by omega
  have hci : ¬ (c = i) := by omega
  have hb3 : (i : Int) ≤ (n : Int) + 1 := by omega
  have hb5 : (i : Int) ≤ (n : Int) := by omega
  have hb6 : (i : Int) + 1 ≤ (n : Int) + 1 := by omega
  have hb7 : (i : Int) ≤ (c : Int) := by omega
  have HG := Lib.hid (show n + 1 ≤ G ∧ G ≤ maxLen from ⟨hGn, hG63⟩)
  unfold maxLen at hG63
  clear hr1 hr2 hr3 hcell hR1 hR2 hg hxs hdl hvb hold hkk hik hROW hG hRl hRt hcpA hcpB hA1 hA2 hA3 hB1 hB2 hi0 hz0 hzs hzb
  go_enter Tryz.func87, Tryz.ntmps87
  go_wp2_with (first
    | (at_builtin; refine Lib.wpList_append_run _ rfl _ _ _ _ rfl _ _ rfl rfl _ _ (hrz _) ?_)
    | (at_builtin; refine wpList_copy_runI _ rfl _ _ 26 26 rfl _ _ rfl rfl (hcpA' _ _) ?_))
  go_region_law_o (refine step_copy_runI rfl _ _ 26 26 rfl _ _ (by simp [Act.eval, Act.put]) (by simp [Act.eval, Act.put]) (hcpB' _ _ _) ?_)
  go_wp2
  go_ret
  exact ⟨G, rfl, HG.out.1, HG.out.2, HE.out.1, HE.out.2⟩

end

section
open Go.RowKit

set_option maxRecDepth 100000 in
set_option maxHeartbeats 4000000 in
theorem itInsert (v : Value) (base i vb : Nat) (x : ItV) (xs : List ItV) (w : World) (h : RowT w base v xs) (hi : i ≤ xs.length) (hm : xs.length ≤ 1000000) (hvb : BlkI w vb x) (hne : v.ownBlock ≠ some vb) (hb : base ≤ w.heap.size) :
    Calls Tryz.prog 87 #[v, .int .i64 i, .slice (some ⟨vb, 0, none⟩) 1 1] w fun e w' => ∃ v', e = .returned v' ∧ RowT w' base v' (xs.take i ++ x :: xs.drop i) ∧ w.grownBy w' v.ownBlock := by
  have hl : (xs.take i ++ x :: xs.drop i).length = xs.length + 1 := by simp; omega
  rcases Nat.lt_or_ge i xs.length with hlt | hge
  · obtain ⟨h1, h2⟩ := h
    rcases h2 with ⟨_, h0⟩ | ⟨g, c, cur, rfl, hbg, hg, hnc, hcm, hcs, hxs⟩
    · omega
    · have hgne : vb ≠ g := fun e => hne (by rw [e]; rfl)
      by_cases hroom : xs.length + 1 ≤ c
      · refine (insertRoom g xs.length c i vb cur x xs w hg hcs hxs rfl hlt hroom hcm hvb hgne).mono ?_
        rintro e w' ⟨rfl, ⟨cur', hg', hcs', hxs'⟩, hgr⟩
        refine ⟨_, rfl, ?_, hgr⟩
        show w'.ownsRow _ _ _ _ (xs.take i ++ x :: xs.drop i).length _
        rw [hl]
        exact ⟨by rw [cellsI_len, hl], .inr ⟨g, c, cur', rfl, hbg, hg', hroom, hcm, hcs', hxs'⟩⟩
      · refine (insertGrow g xs.length c i vb cur x xs w hg hcs hxs rfl hlt hnc (by omega) hm hvb).mono ?_
        rintro e w' ⟨G, rfl, hG1, hG2, ⟨cur', hg', hcs', hxs'⟩, hbe⟩
        refine ⟨_, rfl, ?_, grown_of_below hbe _⟩
        show w'.ownsRow _ _ _ _ (xs.take i ++ x :: xs.drop i).length _
        rw [hl]
        exact ⟨by rw [cellsI_len, hl], .inr ⟨w.heap.size, G, cur', rfl, hb, hg', hG1, hG2, hcs', hxs'⟩⟩
  · obtain rfl : i = xs.length := by omega
    rw [List.take_length, List.drop_length]
    obtain ⟨i0, hi0, hz0, hz1, hz2⟩ := info_parts infoIt
    obtain ⟨A, c, rfl, hc1, hc2, hat⟩ := SlAt.of_own encIt_len h
    have H := Lib.hid h
    have HX := Lib.hid (show SlAt encIt 2 w (some ⟨vb, 0, none⟩) [x] from fun _ => ⟨vb, 0, rfl, hvb.lt, fun j y hj k u hu => by
      match j with
      | 0 =>
        have e : x = y := by simpa using hj
        subst e
        match k with
        | 0 => simp [encIt] at hu; subst hu; simpa using hvb.cell0
        | 1 => simp [encIt] at hu; subst hu; simpa using hvb.cell1
        | k + 2 => simp [encIt] at hu
      | j + 1 => simp at hj⟩)
    have hnn : (xs.length : Int) ≤ (c : Int) := by omega
    unfold maxLen at hc2
    clear h hat
    go_enter Tryz.func87, Tryz.ntmps87
    go_wp2_with (at_builtin; refine wpList_append_sl _ encIt 2 rfl (.tmp 23) (.tmp 24) 26 rfl encIt_len (by omega) encIt_one base 50 i0 _ 40 Tryz.underlying26 hi0 hz0 hz1 hz2 rfl (.slice A xs.length c) xs rfl H.out (some ⟨vb, 0, none⟩) 1 1 [x] rfl rfl HX.out (by simp [maxLen]; omega) (by simp; omega) hb ?_; intro v1 w1 hown1 hg1 hat1; have HO := Lib.hid hown1; have HG := Lib.hid (show ∀ c', w.grownBy w1 (Value.slice A xs.length c').ownBlock from fun c' => by cases A <;> exact hg1); clear hown1 hg1 hat1)
    all_goals
      go_ret
      exact ⟨_, rfl, HO.out, HG.out _⟩

/-- What Remove returns, and the error. -/
def delN (l : List It) (nm : List UInt8) : List It × Nat := if validL l = true then (if (remN l nm).length = l.length then ([], 9) else (remN l nm, 0)) else ([], 2)
theorem fits_wideT {xs : List ItV} (hf : Fits xs) : ∀ x ∈ xs, x.nm.length ≤ 1000000 ∧ x.ms.length ≤ 1000000 := fun x hx => by
  have := hf.2 x hx; omega
theorem Fits.rem {xs : List ItV} (hf : Fits xs) (nm : List UInt8) : Fits (remX xs nm) := ⟨Nat.le_trans (remX_len xs nm) hf.1, fun y hy => hf.2 y (remX_mem hy)⟩

set_option maxHeartbeats 2000000 in
theorem itRemove (A : Option Addr) (xs : List ItV) (cap : Nat) (nm : List UInt8) (l : List It) (n : Nat) (w : World) (hx : ItemsAt w A xs) (hf : Fits xs) (hv : delN (its xs) nm = (l, n)) :
    Calls Tryz.prog 39 #[.slice A xs.length cap, .string ⟨nm.toArray⟩] w fun e w' => (∃ v zs, e = .returned (.tuple #[v, .int .i64 (n : Int)]) ∧ its zs = l ∧ OwnI w' w.heap.size v zs) ∧ Below w.heap.size w w' := by
  have hm := hf.1
  have HX := Lib.hid hx
  obtain ⟨b, hb⟩ : ∃ b, validL (its xs) = b := ⟨_, rfl⟩
  have HV := Lib.hid (itemsValid A xs cap b w hx hf hb)
  have HW := Lib.hid fun W (h : ItemsAt W A xs) => itWithout A xs cap nm W h (by omega)
  unfold delN at hv
  rw [hb] at hv
  clear hx hb
  cases b with
  | false =>
    rw [if_neg (by simp)] at hv
    have h1 := congrArg Prod.fst hv
    have h2 := congrArg Prod.snd hv
    simp only at h1 h2
    subst h1 h2
    clear hv
    go_enter Tryz.func39, Tryz.ntmps39
    go_wp2_with fail
    refine HV.out.mono ?_
    rintro e w1 ⟨rfl, hb1⟩
    have HB1 := Lib.hid hb1
    clear hb1
    go_wp2_with fail
    go_ret2
    exact ⟨⟨_, [], rfl, rfl, OwnI.nil _ _⟩, HB1.out⟩
  | true =>
    rw [if_pos rfl] at hv
    have hrl : (remX xs nm).length = (remN (its xs) nm).length := by rw [← its_len (remX xs nm), its_remX]
    have hfr := hf.rem nm
    by_cases he : (remX xs nm).length = xs.length
    · rw [if_pos (by rw [← hrl, its_len]; exact he)] at hv
      have h1 := congrArg Prod.fst hv
      have h2 := congrArg Prod.snd hv
      simp only at h1 h2
      subst h1 h2
      have ie : (((remX xs nm).length : Int) == (xs.length : Int)) = true := eqT (by omega)
      clear hv hrl he
      go_enter Tryz.func39, Tryz.ntmps39
      go_wp2_with fail
      refine HV.out.mono ?_
      rintro e w1 ⟨rfl, hb1⟩
      have HB1 := Lib.hid hb1
      clear hb1
      go_wp2_with fail
      refine (HW.out _ (HX.out.below HB1.out)).mono ?_
      rintro e w2 ⟨v2, rfl, h2⟩
      have HB2 := Lib.hid (below_trans HB1.out h2.2)
      obtain ⟨D, d, rfl, _⟩ := SlAt.of_own encIt_len h2.1
      clear h2
      go_wp2_with fail
      go_ret2
      exact ⟨⟨_, [], rfl, rfl, OwnI.nil _ _⟩, HB2.out⟩
    · rw [if_neg (by rw [← hrl, its_len]; exact he)] at hv
      have h1 := congrArg Prod.fst hv
      have h2 := congrArg Prod.snd hv
      simp only at h1 h2
      subst h2
      have HL := Lib.hid h1
      have ie : (((remX xs nm).length : Int) == (xs.length : Int)) = false := eqF (by omega)
      clear hv hrl he h1
      go_enter Tryz.func39, Tryz.ntmps39
      go_wp2_with fail
      refine HV.out.mono ?_
      rintro e w1 ⟨rfl, hb1⟩
      have HB1 := Lib.hid hb1
      clear hb1
      go_wp2_with fail
      refine (HW.out _ (HX.out.below HB1.out)).mono ?_
      rintro e w2 ⟨v2, rfl, h2⟩
      have HB2 := Lib.hid (below_trans HB1.out h2.2)
      obtain ⟨D, d, rfl, _, _, hat⟩ := SlAt.of_own encIt_len h2.1
      have HC := Lib.hid (itCopy D (remX xs nm) d w2 ⟨hat, fun y hy => (HX.out.2 y (remX_mem hy)).below HB2.out⟩ (by have := hfr.1; omega) (fits_wideT hfr))
      clear h2 hat
      go_wp2_with fail
      refine HC.out.mono ?_
      rintro e w3 ⟨v3, ys, rfl, hys, ho, hb3⟩
      have HO := Lib.hid (ho.le HB2.out.size)
      have HY := Lib.hid (show its ys = l from by rw [hys, its_remX]; exact HL.out)
      have HB3 := Lib.hid (below_trans HB2.out hb3)
      clear ho hb3 hys
      go_wp2_with fail
      go_ret2
      exact ⟨⟨_, ys, rfl, HY.out, HO.out⟩, HB3.out⟩

end

end Go.Proofs.YtiaehpdgpjhecaaGreat
