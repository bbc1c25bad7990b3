/- Several texts in one: DecC, DecD, DecE. -/
import Derived.Test.YtpnemekkpifbaaaGreatMAO
namespace Go.Proofs.YtpnemekkpifbaaaGreat

section
open Go.RowKit

/-- A part that is read, and how far one is behind it. -/
def st {α : Type} (p : Ps α) (xs : List UInt8) (s : Option Nat) : Option (α × Nat) := s.bind fun i => (p (xs.drop i)).map fun a => (a.1, i + a.2)
section
variable {α β : Type} {p : Ps α} {q : Ps β} {xs : List UInt8} {s s' : Option Nat}
theorem nx_st (p : Ps α) (xs : List UInt8) (s : Option Nat) : nx p xs s = (st p xs s).map Prod.snd := by
  cases s with
  | none => rfl
  | some i =>
    show (p (xs.drop i)).map _ = ((p (xs.drop i)).map _).map _
    rw [Option.map_map]; rfl
theorem st_and (p : Ps α) (q : Ps β) (xs : List UInt8) (s : Option Nat) : st (pAnd p q) xs s = (st p xs s).bind fun a => (st q xs (some a.2)).map fun b => ((a.1, b.1), b.2) := by
  cases s with
  | none => rfl
  | some i =>
    show (pAnd p q (xs.drop i)).map _ = ((p (xs.drop i)).map _).bind _
    unfold pAnd
    cases p (xs.drop i) with
    | none => rfl
    | some a =>
      simp only [Option.bind_some, Option.map_some]
      show _ = ((q (xs.drop (i + a.2))).map _).map _
      rw [List.drop_drop]
      cases q (xs.drop (i + a.2)) with
      | none => rfl
      | some b => simp [Nat.add_assoc]
theorem st_map (g : α → β) (p : Ps α) (xs : List UInt8) (s : Option Nat) : st (pMap g p) xs s = (st p xs s).map fun a => (g a.1, a.2) := by
  cases s with
  | none => rfl
  | some i =>
    show (pMap g p (xs.drop i)).map _ = ((p (xs.drop i)).map _).map _
    unfold pMap
    cases p (xs.drop i) <;> rfl
theorem st_rep (p : Ps α) (xs : List UInt8) (s : Option Nat) (k : Nat) : st (pRep p (k + 1)) xs s = (st (pRep p k) xs s).bind fun us => (st p xs (some us.2)).map fun a => (us.1 ++ [a.1], a.2) := by
  cases s with
  | none => rfl
  | some i =>
    show ((pRep p k (xs.drop i)).bind fun us => (p ((xs.drop i).drop us.2)).map fun a => (us.1 ++ [a.1], us.2 + a.2)).map _ = ((pRep p k (xs.drop i)).map _).bind _
    cases pRep p k (xs.drop i) with
    | none => rfl
    | some us =>
      simp only [Option.bind_some, Option.map_some]
      show _ = ((p (xs.drop (i + us.2))).map _).map _
      rw [List.drop_drop]
      cases p (xs.drop (i + us.2)) with
      | none => rfl
      | some b => simp [Nat.add_assoc]
theorem st_zero (p : Ps α) (xs : List UInt8) (i : Nat) : st (pRep p 0) xs (some i) = some ([], i) := rfl
theorem st_list (p : Ps α) (xs : List UInt8) (s : Option Nat) : st (pL p) xs s = (st pN xs s).bind fun n => st (pRep p n.1) xs (some n.2) := by
  cases s with
  | none => rfl
  | some i =>
    show (pL p (xs.drop i)).map _ = ((pN (xs.drop i)).map _).bind _
    unfold pL
    cases pN (xs.drop i) with
    | none => rfl
    | some n =>
      simp only [Option.bind_some, Option.map_some]
      show _ = (pRep p n.1 (xs.drop (i + n.2))).map _
      rw [List.drop_drop]
      cases pRep p n.1 (xs.drop (i + n.2)) with
      | none => rfl
      | some b => simp [Nat.add_assoc]
theorem st_pN (xs : List UInt8) (s : Option Nat) : st pN xs s = (nx pN xs s).map fun j => (valN xs s, j) := by
  cases s with
  | none => rfl
  | some i =>
    show (pN (xs.drop i)).map _ = ((pN (xs.drop i)).map _).map _
    unfold pN valN
    split <;> rfl
theorem valN_top (xs : List UInt8) (s : Option Nat) : valN xs s < 18446744073709551616 := by
  cases s with
  | none => exact (by decide : (0 : Nat) < 18446744073709551616)
  | some i => exact rd_top _

theorem cellW {W : World} {b i : Nat} {cs : Array Value} {t : TypeId} (h : W.heap[b]? = some (.cells cs t (0, 0))) : W.cell? ⟨b, i, none⟩ = cs[i]? := by simp [World.cell?, h]
theorem frozenW {W : World} {b i : Nat} {cs : Array Value} {t : TypeId} (h : W.heap[b]? = some (.cells cs t (0, 0))) : W.frozen? ⟨b, i, none⟩ = false := by simp [World.frozen?, h]
theorem set2a {W : World} {b : Nat} {u0 u1 x : Value} {t : TypeId} (h : W.heap[b]? = some (.cells #[u0, u1] t (0, 0))) : (W.setCell ⟨b, 0, none⟩ x).heap[b]? = some (.cells #[x, u1] t (0, 0)) := by
  show (W.heap.modify b _)[b]? = _
  rw [Array.getElem?_modify, if_pos rfl, h]
  rfl
theorem set2b {W : World} {b : Nat} {u0 u1 y : Value} {t : TypeId} (h : W.heap[b]? = some (.cells #[u0, u1] t (0, 0))) : (W.setCell ⟨b, 1, none⟩ y).heap[b]? = some (.cells #[u0, y] t (0, 0)) := by
  show (W.heap.modify b _)[b]? = _
  rw [Array.getElem?_modify, if_pos rfl, h]
  rfl
theorem set2 {W : World} {b : Nat} {u0 u1 x y : Value} {t : TypeId} (h : W.heap[b]? = some (.cells #[u0, u1] t (0, 0))) : ((W.setCell ⟨b, 0, none⟩ x).setCell ⟨b, 1, none⟩ y).heap[b]? = some (.cells #[x, y] t (0, 0)) := set2b (set2a h)
theorem chg_set (W : World) (b i : Nat) (x : Value) : Chg (fun k => k = b) W (W.setCell ⟨b, i, none⟩ x) := .of_set _ _ rfl
/-- A loop that reads k parts of some. -/
structure RepInv (p : Ps α) (xs : List UInt8) (s1 : Option Nat) (k : Nat) (us : List α) (s : Option Nat) : Prop where
  len : us.length = k
  nxt : nx (pRep p k) xs s1 = s
  val : ∀ a j, st (pRep p k) xs s1 = some (a, j) → us = a
theorem RepInv.zero (p : Ps α) (xs : List UInt8) (s1 : Option Nat) : RepInv p xs s1 0 [] s1 where
  len := rfl
  nxt := by cases s1 <;> rfl
  val a j h := by
    cases s1 with
    | none => cases h
    | some i => rw [st_zero] at h; exact (Prod.mk.inj (Option.some.inj h)).1
theorem RepInv.succ {s1 : Option Nat} {k : Nat} {us : List α} (h : RepInv p xs s1 k us s) (x : α) (hx : ∀ a j, st p xs s = some (a, j) → x = a) : RepInv p xs s1 (k + 1) (us ++ [x]) (nx p xs s) := by
  have h1 := h.nxt
  rw [nx_st] at h1
  refine ⟨by simp [h.len], ?_, fun a j e => ?_⟩
  · rw [nx_st, st_rep]
    cases e : st (pRep p k) xs s1 with
    | none => rw [e] at h1; rw [← h1]; rfl
    | some v =>
      rw [e] at h1
      rw [← h1, nx_st]
      simp only [Option.bind_some, Option.map_some]
      rw [Option.map_map]; rfl
  · rw [st_rep] at e
    cases e2 : st (pRep p k) xs s1 with
    | none => rw [e2] at e; cases e
    | some v =>
      rw [e2] at e h1
      simp only [Option.bind_some] at e
      have hs : s = some v.2 := h1.symm
      cases e3 : st p xs (some v.2) with
      | none => rw [e3] at e; cases e
      | some u =>
        rw [e3] at e
        obtain ⟨k1, _⟩ := Prod.mk.inj (Option.some.inj e)
        rw [h.val v.1 v.2 e2, hx u.1 u.2 (by rw [hs]; exact e3)]
        exact k1
theorem nx_rep_none {s1 : Option Nat} {k : Nat} (h : nx (pRep p k) xs s1 = none) (m : Nat) : nx (pRep p (k + m)) xs s1 = none := by
  induction m with
  | zero => exact h
  | succ m ih =>
    rw [nx_st] at ih ⊢
    rw [← Nat.add_assoc, st_rep]
    cases e : st (pRep p (k + m)) xs s1 with
    | none => rfl
    | some v => rw [e] at ih; cases ih
/-- When the loop ends: the whole list was read, or something was wrong. -/
theorem RepInv.fin {k : Nat} {us : List α} (h : RepInv p xs (nx pN xs s) k us s') (hk : k ≤ valN xs s) (he : k = valN xs s ∨ s' = none) : nx (pL p) xs s = s' ∧ ∀ a j, st (pL p) xs s = some (a, j) → us = a := by
  have e1 : st (pL p) xs s = st (pRep p (valN xs s)) xs (nx pN xs s) := by
    rw [st_list, st_pN]
    cases nx pN xs s with
    | none => rfl
    | some j => rfl
  rcases he with rfl | rfl
  · refine ⟨by rw [nx_st, e1, ← nx_st]; exact h.nxt, fun a j e => h.val a j (by rw [← e1]; exact e)⟩
  · have h2 := nx_rep_none h.nxt (valN xs s - k)
    rw [show k + (valN xs s - k) = valN xs s by omega] at h2
    refine ⟨by rw [nx_st, e1, ← nx_st]; exact h2, fun a j e => ?_⟩
    rw [e1] at e
    rw [nx_st, e] at h2
    cases h2
/-- Each part has a byte at least. -/
theorem RepInv.short {s1 : Option Nat} {k : Nat} {us : List α} {j : Nat} (hp : ∀ l a z, p l = some (a, z) → 1 ≤ z ∧ z ≤ l.length) (h1 : ∀ i, s1 = some i → i ≤ xs.length) (h : RepInv p xs s1 k us (some j)) : k ≤ j ∧ j ≤ xs.length := by
  have main : ∀ k j, nx (pRep p k) xs s1 = some j → k ≤ j ∧ j ≤ xs.length := by
    intro k
    induction k with
    | zero =>
      intro j hj
      cases s1 with
      | none => cases hj
      | some i => obtain rfl : i = j := Option.some.inj hj; exact ⟨Nat.zero_le _, h1 _ rfl⟩
    | succ k ih =>
      intro j hj
      rw [nx_st, st_rep] at hj
      cases e : st (pRep p k) xs s1 with
      | none => rw [e] at hj; cases hj
      | some v =>
        rw [e] at hj
        simp only [Option.bind_some] at hj
        have h2 := ih v.2 (by rw [nx_st, e]; rfl)
        cases e2 : p (xs.drop v.2) with
        | none =>
          have : st p xs (some v.2) = none := by show (p (xs.drop v.2)).map _ = none; rw [e2]; rfl
          rw [this] at hj; cases hj
        | some u =>
          have : st p xs (some v.2) = some (u.1, v.2 + u.2) := by show (p (xs.drop v.2)).map _ = _; rw [e2]; rfl
          rw [this] at hj
          have h3 : v.2 + u.2 = j := Option.some.inj hj
          have h4 := hp _ u.1 u.2 e2
          rw [List.length_drop] at h4
          omega
  exact main k j h.nxt
end
theorem reads_short {α : Type} {ok : α → Prop} {f : α → List UInt8} {p : Ps α} (h : Reads ok f p) (h1 : ∀ a, 1 ≤ (f a).length) : ∀ l a z, p l = some (a, z) → 1 ≤ z ∧ z ≤ l.length := fun l a z e => ⟨by rw [h.len e]; exact h1 a, h.le e⟩
theorem nx_le {α : Type} {p : Ps α} (hp : ∀ l a z, p l = some (a, z) → z ≤ l.length) {xs : List UInt8} {s : Option Nat} (hs : ∀ i, s = some i → i ≤ xs.length) : ∀ i, nx p xs s = some i → i ≤ xs.length := by
  intro i hi
  cases s with
  | none => cases hi
  | some k =>
    have hi : (p (xs.drop k)).map _ = some i := hi
    have hk := hs k rfl
    cases e : p (xs.drop k) with
    | none => rw [e] at hi; cases hi
    | some u =>
      rw [e] at hi
      have h3 : k + u.2 = i := Option.some.inj hi
      have h4 := hp _ u.1 u.2 e
      rw [List.length_drop] at h4
      omega
theorem In15.le {W : World} {g : Nat} {A : Option Addr} {c : Nat} {xs : List UInt8} {s : Option Nat} (h : In15 W g A c xs s) : ∀ i, s = some i → i ≤ xs.length := fun i e => by subst e; exact h.good.2
theorem nx_pD (xs : List UInt8) (s : Option Nat) : nx pD xs s = nx pN xs (nx pN xs s) := by
  rw [nx_st, pD, st_and, pZ, st_map, st_pN]
  cases e : nx pN xs s with
  | none => rfl
  | some j =>
    simp only [Option.map_some, Option.bind_some]
    rw [st_map, st_pN]
    cases nx pN xs (some j) <;> rfl
theorem st_pD {xs : List UInt8} {s : Option Nat} {d : Int × Int} {j : Nat} (h : st pD xs s = some (d, j)) : d = (toI (valN xs s), toI (valN xs (nx pN xs s))) := by
  rw [pD, st_and, pZ, st_map, st_pN] at h
  cases e : nx pN xs s with
  | none => rw [e] at h; cases h
  | some j1 =>
    rw [e] at h
    simp only [Option.map_some, Option.bind_some] at h
    rw [st_map, st_pN] at h
    cases e2 : nx pN xs (some j1) with
    | none => rw [e2] at h; cases h
    | some j2 => rw [e2] at h; exact (Prod.mk.inj (Option.some.inj h)).1.symm

set_option maxHeartbeats 1000000 in
theorem refDot15 (g : Nat) (A : Option Addr) (c : Nat) (xs : List UInt8) (s : Option Nat) (w : World) (h : In15 w g A c xs s) :
    Calls Tryz.prog 41 #[.pointer (some ⟨g, 0, none⟩)] w fun e w' => (∃ d : Int × Int, e = .returned (.agg #[.int .i64 d.1, .int .i64 d.2]) ∧ ∀ a j, st pD xs s = some (a, j) → d = a) ∧ In15 w' g A c xs (nx pD xs s) ∧ Chg (fun k => k = g) w w' := by
  have hal : Below w.heap.size w (w.alloc (.cells #[.int .i64 0, .int .i64 0] 52)) := (Below.refl _ _).alloc (Nat.le_refl _) _
  have hnew : (w.alloc (.cells #[.int .i64 0, .int .i64 0] 52)).heap[w.heap.size]? = some (.cells #[.int .i64 0, .int .i64 0] 52 (0, 0)) := heap_alloc_new w _
  have H1 := Lib.hid (refNum15 g A c xs s _ (h.below hal))
  have HN := Lib.hid fun (W : World) (h : In15 W g A c xs (nx pN xs s)) => refNum15 g A c xs (nx pN xs s) W h
  have HG := Lib.hid h.lt
  have HNEW := Lib.hid hnew
  have HAL := Lib.hid hal
  have HLT := Lib.hid (Array.getElem?_eq_some_iff.1 hnew).1
  clear h hal hnew
  go_enter Tryz.func41, Tryz.ntmps41
  go_wp2_with fail
  refine H1.out.mono ?_
  rintro e w1 ⟨rfl, h1, hc1⟩
  have H2 := Lib.hid (HN.out w1 h1)
  have HC1 := Lib.hid hc1
  clear h1 hc1
  go_wp2_with fail
  refine H2.out.mono ?_
  rintro e w2 ⟨rfl, h2, hc2⟩
  have hb2 : w2.heap[w.heap.size]? = some (.cells #[.int .i64 0, .int .i64 0] 52 (0, 0)) := (hc2.block _ (Nat.lt_of_lt_of_le HLT.out HC1.out.size) (by have := HG.out; omega)).trans ((HC1.out.block _ HLT.out (by have := HG.out; omega)).trans HNEW.out)
  have c0 : w2.cell? ⟨w.heap.size, 0, none⟩ = some (.int .i64 0) := cellW hb2
  have c1 : w2.cell? ⟨w.heap.size, 1, none⟩ = some (.int .i64 0) := cellW hb2
  have f0 : w2.frozen? ⟨w.heap.size, 0, none⟩ = false := frozenW hb2
  have f1 : w2.frozen? ⟨w.heap.size, 1, none⟩ = false := frozenW hb2
  have HI := Lib.hid h2
  have HC := Lib.hid (hc2)
  clear h2 hc2
  have hfin := set2 (x := .int .i64 (toI (valN xs s))) (y := .int .i64 (toI (valN xs (nx pN xs s)))) hb2
  have s0 := cellW (i := 0) hfin
  have s1 := cellW (i := 1) hfin
  have hch : Chg (fun k => k = w.heap.size) w2 ((w2.setCell ⟨w.heap.size, 0, none⟩ (.int .i64 (toI (valN xs s)))).setCell ⟨w.heap.size, 1, none⟩ (.int .i64 (toI (valN xs (nx pN xs s))))) := (chg_set _ _ _ _).trans (chg_set _ _ _ _) fun _ _ e => e
  have HFIN := Lib.hid (show In15 ((w2.setCell ⟨w.heap.size, 0, none⟩ (.int .i64 (toI (valN xs s)))).setCell ⟨w.heap.size, 1, none⟩ (.int .i64 (toI (valN xs (nx pN xs s))))) g A c xs (nx pD xs s) ∧ Chg (fun k => k = g) w ((w2.setCell ⟨w.heap.size, 0, none⟩ (.int .i64 (toI (valN xs s)))).setCell ⟨w.heap.size, 1, none⟩ (.int .i64 (toI (valN xs (nx pN xs s))))) from
    ⟨by rw [nx_pD]; exact HI.out.chg hch (by have := HG.out; omega) (fun k e => by have := HG.out; omega), (((Chg.of_below (S := fun k => k = g) HAL.out).trans HC1.out fun _ _ e => e).trans HC.out fun _ _ e => e).trans hch fun i hi e => by omega⟩)
  clear hb2 hfin hch
  unfold toI at s0 s1 HFIN
  go_wp2_with fail
  exact bodyPost_ret (v := .agg #[.int .i64 (wrap64 (valN xs s)), .int .i64 (wrap64 (valN xs (nx pN xs s)))]) (by simp [results, Tryz.results41, go_sem, s0, s1]) rfl ⟨⟨(wrap64 (valN xs s), wrap64 (valN xs (nx pN xs s))), rfl, fun a j e => (st_pD e).symm⟩, HFIN.out.1, HFIN.out.2⟩

end

section
open Go.RowKit

theorem own_chg {W W' : World} {B : Nat} {e : TypeId} {k : Nat} {v : Value} {n : Nat} {cs : List Value} {S : Nat → Prop} (h : W.ownsRow B e k v n cs) (hc : Chg S W W') (hn : ∀ b, B ≤ b → ¬ S b) : W'.ownsRow B e k v n cs := by
  refine ⟨h.1, ?_⟩
  rcases h.2 with hn' | ⟨r, cap, cur, rfl, h1, hg, rest⟩
  · exact .inl hn'
  · exact .inr ⟨r, cap, cur, rfl, h1, (hc.block r (Array.getElem?_eq_some_iff.1 hg).1 (hn r h1)).trans hg, rest⟩
theorem pD_short : ∀ l a z, pD l = some (a, z) → 1 ≤ z ∧ z ≤ l.length := reads_short reads_pD fun a => by
  unfold byD
  rw [List.length_append]
  have := byZ_one a.1
  omega
theorem pN_le : ∀ l a z, pN l = some (a, z) → z ≤ l.length := fun _ _ _ e => reads_pN.le e

set_option maxRecDepth 100000 in
set_option maxHeartbeats 4000000 in
theorem refDots15 (g : Nat) (A : Option Addr) (c : Nat) (xs : List UInt8) (s : Option Nat) (w : World) (h : In15 w g A c xs s) :
    Calls Tryz.prog 67 #[.pointer (some ⟨g, 0, none⟩)] w fun e w' => (∃ (ds : List (Int × Int)) (D : Option Addr) (d : Nat), e = .returned (.slice D ds.length d) ∧ w'.ownsRow w.heap.size 52 2 (.slice D ds.length d) ds.length (cellsOf encD ds) ∧ ds.length ≤ xs.length + 1 ∧ ∀ a j, st (pL pD) xs s = some (a, j) → ds = a) ∧ In15 w' g A c xs (nx (pL pD) xs s) ∧ Chg (fun k => k = g) w w' := by
  obtain ⟨ti0, hi0, hz0, hz1, hz2⟩ := info_parts infoD
  have H1 := Lib.hid (refNum15 g A c xs s w h)
  have HG := Lib.hid h.lt
  have HLE := Lib.hid (nx_le pN_le h.le)
  have hmx := h.2.2.1
  have HDOT := Lib.hid fun (s' : Option Nat) (W : World) (h : In15 W g A c xs s') => refDot15 g A c xs s' W h
  clear h
  go_enter Tryz.func67, Tryz.ntmps67
  go_wp2_with fail
  refine H1.out.mono ?_
  rintro e w1 ⟨rfl, h1, hc1⟩
  have HI1 := Lib.hid h1
  have HC1 := Lib.hid hc1
  have HT := Lib.hid (valN_top xs s)
  obtain ⟨N, hN⟩ : ∃ N, valN xs s = N := ⟨_, rfl⟩
  rw [hN]
  have HN := Lib.hid hN
  rw [hN] at HT
  clear h1 hc1 H1 hN
  go_wp2_with fail
  go_loopw [3, 4] (fun v n wr => ∃ (k m : Nat) (D : Option Addr) (d : Nat) (ds : List (Int × Int)) (s' : Option Nat), v = .slice D ds.length d ∧ n = .int .u64 (m : Nat) ∧ m + k = N ∧ Hid (RepInv pD xs (nx pN xs s) k ds s') ∧ Hid (In15 wr g A c xs s') ∧ Hid (k ≤ xs.length + 1) ∧ Hid (wr.ownsRow w.heap.size 52 2 (.slice D ds.length d) ds.length (cellsOf encD ds)) ∧ Hid (Chg (fun k => k = g) w wr)) (fun _ n _ => (intOf n).toNat)
  case atStart => exact ⟨0, N, none, 0, [], _, rfl, rfl, by omega, RepInv.zero _ _ _, HI1, Nat.zero_le _, World.ownsRow_nil _ _ _ _, HC1⟩
  case round =>
    clear HI1 HC1
    obtain ⟨k, m, D, d, ds, s', rfl, rfl, hmk, hR, hI, hk, hO, hC⟩ := hrel
    have hmt : m < 18446744073709551616 := by have := HT.out; omega
    have FIN := Lib.hid (show (k = N ∨ s' = none) → (∃ (ds' : List (Int × Int)) (D' : Option Addr) (d' : Nat), Ending.returned (Value.slice D ds.length d) = .returned (.slice D' ds'.length d') ∧ wr.ownsRow w.heap.size 52 2 (.slice D' ds'.length d') ds'.length (cellsOf encD ds') ∧ ds'.length ≤ xs.length + 1 ∧ ∀ a j, st (pL pD) xs s = some (a, j) → ds' = a) ∧ In15 wr g A c xs (nx (pL pD) xs s) ∧ Chg (fun k => k = g) w wr from fun he => by
      obtain ⟨e1, e2⟩ := hR.out.fin (s := s) (by rw [HN.out]; omega) (by rw [HN.out]; exact he)
      exact ⟨⟨ds, D, d, rfl, hO.out, by rw [hR.out.len]; exact hk.out, e2⟩, by rw [e1]; exact hI.out, hC.out⟩)
    by_cases hm0 : m = 0
    · subst hm0
      have HF := Lib.hid (FIN.out (.inl (by omega)))
      clear FIN hR hI hk hO hC hmk
      go_wp2_with fail
      go_ret
      exact HF.out
    · have i0 : (0 : Int) < (m : Int) := by omega
      cases s' with
      | none =>
        obtain ⟨i, h1, _⟩ := hI.out.bad
        have c2 : wr.cell? ⟨g, 2, none⟩ = some (.bool true) := cellW h1
        have HF := Lib.hid (FIN.out (.inr rfl))
        clear FIN hR hI hk hO hC hmk h1
        go_wp2_with fail
        go_ret
        exact HF.out
      | some j =>
        obtain ⟨h1, _⟩ := hI.out.good
        have c2 : wr.cell? ⟨g, 2, none⟩ = some (.bool false) := cellW h1
        have HD := Lib.hid (HDOT.out (some j) wr hI.out)
        have HK := Lib.hid (show k ≤ xs.length from Nat.le_trans (hR.out.short pD_short HLE.out).1 (hR.out.short pD_short HLE.out).2)
        have HLK := Lib.hid hR.out.len
        clear FIN h1
        go_wp2_with fail
        refine HD.out.mono ?_
        rintro e w2 ⟨⟨⟨r, q⟩, rfl, hval⟩, h2, hc2⟩
        have HR2 := Lib.hid (hR.out.succ (r, q) hval)
        have HI2 := Lib.hid h2
        have HO2 := Lib.hid (own_chg hO.out hc2 (fun b hb e => by have := HG.out; omega))
        have HC2 := Lib.hid (hC.out.trans hc2 fun _ _ e => e)
        clear hval h2 hc2 hR hI hO hC c2 HD
        go_wp2_with (at_builtin; refine wpList_append_sl _ encD 2 rfl (.tmp 18) (.tmp 21) 25 rfl encD_len (by omega) encD_one w.heap.size 52 ti0 _ 16 Tryz.underlying25 hi0 hz0 hz1 hz2 rfl (.slice D ds.length d) ds rfl (HO2.out.alloc _) _ 1 _ [(r, q)] rfl rfl (SlAt.one (heap_alloc_new _ _)) (by simp [maxLen]; have := HK.out; have := HLK.out; omega) (by simp; have := HK.out; have := HLK.out; omega) (by have := HC2.out.size; simp; omega) ?_; intro v3 w3 hown3 hg3 hat3; obtain ⟨D3, d3, rfl, _⟩ := SlAt.of_own encD_len hown3)
        have hgr : Chg (fun b => w.heap.size ≤ b) w2 w3 := (Chg.of_below ((Below.refl _ _).alloc (Nat.le_refl _) _)).trans (Chg.of_grown (S := fun b => w.heap.size ≤ b) hg3 fun b e => (HO2.out.lt b e).1) fun _ _ e => e
        have HI3 := Lib.hid (HI2.out.chg hgr (by have := HG.out; omega) fun b e => by have := HG.out; omega)
        have HC3 := Lib.hid (HC2.out.trans hgr fun b hb e => by omega)
        have HO3 := Lib.hid hown3
        clear hgr hown3 hg3 hat3
        go_roundw
        case rel => exact ⟨k + 1, m - 1, D3, d3, ds ++ [(r, q)], _, by simp, by go_num, by omega, HR2, HI3, (show k + 1 ≤ xs.length + 1 from by have := HK.out; omega), HO3, HC3⟩
        case measure => simp [intOf]; omega

end

section
open Go.RowKit

theorem In15.worse {W : World} {g : Nat} {A : Option Addr} {c : Nat} {xs : List UInt8} {s : Option Nat} (h : In15 W g A c xs s) : In15 (W.setCell ⟨g, 2, none⟩ (.bool true)) g A c xs none ∧ Chg (fun k => k = g) W (W.setCell ⟨g, 2, none⟩ (.bool true)) := by
  cases s with
  | some i => exact h.wrong
  | none =>
    obtain ⟨i, h1, h2⟩ := h.bad
    obtain ⟨w0, k4, k5, k6⟩ := h.2.1
    refine ⟨⟨⟨i, true, ?_, h2, rfl⟩, ⟨w0, k4, k5, below_set k6 k5 _ _⟩, h.2.2⟩, .of_set _ _ rfl⟩
    show (W.heap.modify g _)[g]? = _
    rw [Array.getElem?_modify, if_pos rfl, h1]
    rfl
theorem In15.part2 {W : World} {xs : List UInt8} {b off : Nat} (h : BytesAt W (some ⟨b, off, none⟩) xs) {i k c : Nat} (hk : i + k ≤ xs.length) (hc : xs.length ≤ c) (hm : c ≤ maxLen) : HoldsB W (.slice (if c = i then some ⟨b, off, none⟩ else some ⟨b, off + i, none⟩) ((xs.drop i).take k).length (c - i)) ((xs.drop i).take k) := by
  by_cases he : c = i
  · rw [if_pos he]
    have h0 : (xs.drop i).take k = [] := by
      rw [List.drop_of_length_le (by omega)]; simp
    rw [h0]
    exact ⟨_, _, rfl, SlAt.nil, Nat.zero_le _, by omega⟩
  · rw [if_neg he]
    exact In15.part h hk (by omega) (by omega)
theorem nx_pos {xs : List UInt8} {s : Option Nat} {j : Nat} (h : nx pN xs s = some j) : 0 < j := by
  cases s with
  | none => cases h
  | some i =>
    have h : (pN (xs.drop i)).map _ = some j := h
    cases e : pN (xs.drop i) with
    | none => rw [e] at h; cases h
    | some u =>
      rw [e] at h
      have h3 : i + u.2 = j := Option.some.inj h
      have h4 := reads_pN.len e
      have := enc_pos u.1
      omega
theorem st_pS (xs : List UInt8) (s : Option Nat) : st pS xs s = (nx pN xs s).bind fun j => if valN xs s ≤ xs.length - j then some ((xs.drop j).take (valN xs s), j + valN xs s) else none := by
  cases s with
  | none => rfl
  | some i =>
    show (pS (xs.drop i)).map _ = ((pN (xs.drop i)).map _).bind _
    unfold pS valN
    by_cases h0 : (rd (xs.drop i)).2.2 = 0
    · rw [pN_some h0]
      simp only [Option.bind_some, Option.map_some]
      rw [List.length_drop, List.drop_drop]
      have e : xs.length - i - (rd (xs.drop i)).2.1 = xs.length - (i + (rd (xs.drop i)).2.1) := by omega
      rw [e]
      split
      · simp [Nat.add_assoc]
      · rfl
    · rw [pN_none h0]; rfl

set_option maxRecDepth 100000 in
set_option maxHeartbeats 4000000 in
theorem refText15 (g : Nat) (A : Option Addr) (c : Nat) (xs : List UInt8) (s : Option Nat) (w : World) (h : In15 w g A c xs s) :
    Calls Tryz.prog 40 #[.pointer (some ⟨g, 0, none⟩)] w fun e w' => (∃ nm : List UInt8, e = .returned (.string ⟨nm.toArray⟩) ∧ nm.length ≤ xs.length ∧ ∀ a j, st pS xs s = some (a, j) → nm = a) ∧ In15 w' g A c xs (nx pS xs s) ∧ Chg (fun k => k = g) w w' := by
  have H1 := Lib.hid (refNum15 g A c xs s w h)
  have hmx := h.2.2.1
  have hmc := h.2.2.2.1
  have HCM := Lib.hid h.2.2.2.2
  have HLE := Lib.hid (nx_le pN_le h.le)
  have hpos := fun j => nx_pos (xs := xs) (s := s) (j := j)
  clear h
  go_enter Tryz.func40, Tryz.ntmps40
  go_wp2_with fail
  refine H1.out.mono ?_
  rintro e w1 ⟨rfl, h1, hc1⟩
  have HI1 := Lib.hid h1
  have HC1 := Lib.hid hc1
  have HT := Lib.hid (valN_top xs s)
  have hst := st_pS xs s
  obtain ⟨N, hN⟩ : ∃ N, valN xs s = N := ⟨_, rfl⟩
  obtain ⟨s1, hs1⟩ : ∃ s1, nx pN xs s = s1 := ⟨_, rfl⟩
  rw [hN]
  rw [hN, hs1] at hst
  rw [hs1] at HI1 HLE hpos
  have HPOS := Lib.hid hpos
  rw [hN] at HT
  have HST := Lib.hid hst
  have FBAD := Lib.hid (show st pS xs s = none → ∀ W, Below w1.heap.size w1 W → (∃ nm : List UInt8, Ending.returned (.string ⟨#[]⟩) = .returned (.string ⟨nm.toArray⟩) ∧ nm.length ≤ xs.length ∧ ∀ a j, st pS xs s = some (a, j) → nm = a) ∧ In15 (W.setCell ⟨g, 2, none⟩ (.bool true)) g A c xs (nx pS xs s) ∧ Chg (fun k => k = g) w (W.setCell ⟨g, 2, none⟩ (.bool true)) from fun e W hb => by
    have h2 := (HI1.out.below hb).worse
    exact ⟨⟨[], rfl, Nat.zero_le _, fun a j k => by rw [e] at k; cases k⟩, by rw [nx_st, e]; exact h2.1, (HC1.out.trans (T := fun _ => False) (Chg.of_below hb) fun _ _ e => e.elim).trans h2.2 fun _ _ e => e⟩)
  clear h1 hc1 H1 hst hN hs1 hpos
  go_wp2_with fail
  cases s1 with
  | none =>
    obtain ⟨i, h1, _⟩ := HI1.out.bad
    have l2 := fun p => cell_far (p := p) HI1.out.lt (cellW (i := 2) h1)
    have hf := fun p => frozenW (i := 2) ((block_far w1 p HI1.out.lt).trans h1)
    have HF := Lib.hid fun p => FBAD.out HST.out _ (below_far w1 p)
    clear h1 FBAD HST HI1 HLE HC1 HT
    refine wp_region_far (by kernel_rfl) (by kernel_rfl) ?_
    repeat (go_big_quiet_step ((fail)))
    refine wpQuiet_nil ?_
    rintro _ ⟨p, rfl⟩
    have m2 := l2 p
    have f2 := hf p
    clear l2 hf
    go_wp2_with fail
    go_ret
    exact HF.out p
  | some j =>
    obtain ⟨h1, hj⟩ := HI1.out.good
    have hpos := HPOS.out j rfl
    have hlg := HI1.out.lt
    obtain ⟨bk, off, hA, hrow1, hrow2⟩ := HI1.out.row (by omega)
    subst hA
    clear hrow1 hrow2
    have k0 := cellW (i := 0) h1
    have k1 := cellW (i := 1) h1
    have k2 := cellW (i := 2) h1
    have l0 := fun p => cell_far (p := p) hlg k0
    have l1 := fun p => cell_far (p := p) hlg k1
    have l2 := fun p => cell_far (p := p) hlg k2
    have hw : IntKind.u64.wrap ((xs.length : Int) - (j : Int)) = (xs.length : Int) - (j : Int) := by rw [IntKind.wrap_u64]; omega
    have HH1 := Lib.hid h1
    clear k0 k1 k2 h1
    by_cases hle : N ≤ xs.length - j
    · have i1 : ¬ ((xs.length : Int) - (j : Int) < (N : Int)) := by omega
      have hst := HST.out
      simp only [Option.bind_some] at hst
      rw [if_pos hle] at hst
      have HS := Lib.hid hst
      clear hst HST FBAD
      refine wp_region_far (by kernel_rfl) (by kernel_rfl) ?_
      repeat (go_big_quiet_step ((fail)))
      refine wpQuiet_nil ?_
      rintro _ ⟨p, rfl⟩
      have HBp := Lib.hid (below_far w1 p)
      clear l0 l1 l2
      generalize far w1 p = w2 at *
      have HI2 := Lib.hid (HI1.out.below HBp.out)
      obtain ⟨h1, _⟩ := HI2.out.good
      have k0 := cellW (i := 0) h1
      have k1 := cellW (i := 1) h1
      have hlg2 := HI2.out.lt
      have l0 := fun p => cell_far (p := p) hlg2 k0
      have l1 := fun p => cell_far (p := p) hlg2 k1
      by_cases hcj : c = j
      · have d1 := fun p => convB (far w2 p) (some ⟨bk, off, none⟩) (c - j) ((xs.drop j).take N) (by have h := In15.part2 (i := j) (k := N) (HI2.out.row.below (below_far w2 p)) (by omega) (by omega) HCM.out; rwa [if_pos hcj] at h)
        have hcj := hcj.symm
        subst hcj
        rw [Nat.sub_self] at d1
        have hl : ((xs.drop j).take N).length = N := by rw [List.length_take, List.length_drop]; omega
        rw [hl] at d1
        clear h1 k0 k1 hw hl
        go_wp2_with fail
        refine wp_region_far (by kernel_rfl) (by kernel_rfl) ?_
        repeat (go_big_quiet_step (fail))
        refine wpQuiet_nil ?_
        rintro _ ⟨p, rfl⟩
        have HB3 := Lib.hid (below_trans HBp.out (below_far w2 p))
        clear l0 l1 d1
        generalize far w2 p = w3 at *
        have HI3 := Lib.hid (HI1.out.below HB3.out)
        obtain ⟨h3, _⟩ := HI3.out.good
        have k1 := cellW (i := 1) h3
        have f1 := frozenW (i := 1) h3
        have hset := HI3.out.at (j := j + N) (by omega)
        have HFIN := Lib.hid (show (∃ nm : List UInt8, Ending.returned (.string ⟨((xs.drop j).take N).toArray⟩) = .returned (.string ⟨nm.toArray⟩) ∧ nm.length ≤ xs.length ∧ ∀ a j, st pS xs s = some (a, j) → nm = a) ∧ In15 (w3.setCell ⟨g, 1, none⟩ (.int .i64 ((j : Int) + (N : Int)))) g (some ⟨bk, off, none⟩) j xs (nx pS xs s) ∧ Chg (fun k => k = g) w (w3.setCell ⟨g, 1, none⟩ (.int .i64 ((j : Int) + (N : Int)))) from by
          rw [show (j : Int) + (N : Int) = ((j + N : Nat) : Int) by omega]
          refine ⟨⟨_, rfl, by rw [List.length_take, List.length_drop]; omega, fun a j' e => ?_⟩, by rw [nx_st, HS.out]; exact hset.1, (HC1.out.trans (T := fun _ => False) (Chg.of_below HB3.out) fun _ _ e => e.elim).trans hset.2 fun _ _ e => e⟩
          rw [HS.out] at e
          exact (Prod.mk.inj (Option.some.inj e)).1)
        clear h3 hset
        generalize (xs.drop j).take N = ys at *
        go_wp2_with fail
        go_ret
        exact HFIN.out
      · have d1 := fun p => convB (far w2 p) (some ⟨bk, off + j, none⟩) (c - j) ((xs.drop j).take N) (by have h := In15.part2 (i := j) (k := N) (HI2.out.row.below (below_far w2 p)) (by omega) (by omega) HCM.out; rwa [if_neg hcj] at h)
        have hl : ((xs.drop j).take N).length = N := by rw [List.length_take, List.length_drop]; omega
        rw [hl] at d1
        clear h1 k0 k1 hw hl
        go_wp2_with fail
        refine wp_region_far (by kernel_rfl) (by kernel_rfl) ?_
        repeat (go_big_quiet_step (fail))
        refine wpQuiet_nil ?_
        rintro _ ⟨p, rfl⟩
        have HB3 := Lib.hid (below_trans HBp.out (below_far w2 p))
        clear l0 l1 d1
        generalize far w2 p = w3 at *
        have HI3 := Lib.hid (HI1.out.below HB3.out)
        obtain ⟨h3, _⟩ := HI3.out.good
        have k1 := cellW (i := 1) h3
        have f1 := frozenW (i := 1) h3
        have hset := HI3.out.at (j := j + N) (by omega)
        have HFIN := Lib.hid (show (∃ nm : List UInt8, Ending.returned (.string ⟨((xs.drop j).take N).toArray⟩) = .returned (.string ⟨nm.toArray⟩) ∧ nm.length ≤ xs.length ∧ ∀ a j, st pS xs s = some (a, j) → nm = a) ∧ In15 (w3.setCell ⟨g, 1, none⟩ (.int .i64 ((j : Int) + (N : Int)))) g (some ⟨bk, off, none⟩) c xs (nx pS xs s) ∧ Chg (fun k => k = g) w (w3.setCell ⟨g, 1, none⟩ (.int .i64 ((j : Int) + (N : Int)))) from by
          rw [show (j : Int) + (N : Int) = ((j + N : Nat) : Int) by omega]
          refine ⟨⟨_, rfl, by rw [List.length_take, List.length_drop]; omega, fun a j' e => ?_⟩, by rw [nx_st, HS.out]; exact hset.1, (HC1.out.trans (T := fun _ => False) (Chg.of_below HB3.out) fun _ _ e => e.elim).trans hset.2 fun _ _ e => e⟩
          rw [HS.out] at e
          exact (Prod.mk.inj (Option.some.inj e)).1)
        clear h3 hset
        generalize (xs.drop j).take N = ys at *
        go_wp2_with fail
        go_ret
        exact HFIN.out
    · have i1 : (xs.length : Int) - (j : Int) < (N : Int) := by omega
      have hst := HST.out
      simp only [Option.bind_some] at hst
      rw [if_neg hle] at hst
      have HF := Lib.hid fun p => FBAD.out hst _ (below_far w1 p)
      have hf := fun p => frozenW (i := 2) ((block_far w1 p hlg).trans HH1.out)
      clear hst FBAD HST HI1 HLE HC1 HT
      refine wp_region_far (by kernel_rfl) (by kernel_rfl) ?_
      repeat (go_big_quiet_step ((fail)))
      refine wpQuiet_nil ?_
      rintro _ ⟨p, rfl⟩
      have m2 := l2 p
      have f2 := hf p
      clear l0 l1 l2 hf hw
      go_wp2_with fail
      go_ret
      exact HF.out p

theorem nx_and {α β : Type} (p : Ps α) (q : Ps β) (xs : List UInt8) (s : Option Nat) : nx (pAnd p q) xs s = nx q xs (nx p xs s) := by
  rw [nx_st, st_and, nx_st p]
  cases st p xs s with
  | none => rfl
  | some a =>
    simp only [Option.bind_some, Option.map_some]
    rw [nx_st q, Option.map_map]; rfl

set_option maxHeartbeats 1000000 in
theorem refContextIn15 (g : Nat) (A : Option Addr) (c : Nat) (xs : List UInt8) (s : Option Nat) (w : World) (h : In15 w g A c xs s) :
    Calls Tryz.prog 38 #[.pointer (some ⟨g, 0, none⟩)] w fun e w' => (∃ (vs ls : List (Int × Int)) (D E : Option Addr) (d k : Nat), e = .returned (.agg #[.slice D vs.length d, .slice E ls.length k]) ∧ w'.ownsRow w.heap.size 52 2 (.slice D vs.length d) vs.length (cellsOf encD vs) ∧ w'.ownsRow w.heap.size 52 2 (.slice E ls.length k) ls.length (cellsOf encD ls) ∧ vs.length ≤ xs.length + 1 ∧ ls.length ≤ xs.length + 1 ∧ ∀ a j, st pX xs s = some (a, j) → (vs, ls) = a) ∧ In15 w' g A c xs (nx pX xs s) ∧ Chg (fun k => k = g) w w' := by
  have hal : Below w.heap.size w (w.alloc (.cells #[.slice none 0 0, .slice none 0 0] 28)) := (Below.refl _ _).alloc (Nat.le_refl _) _
  have hnew : (w.alloc (.cells #[.slice none 0 0, .slice none 0 0] 28)).heap[w.heap.size]? = some (.cells #[.slice none 0 0, .slice none 0 0] 28 (0, 0)) := heap_alloc_new w _
  have H1 := Lib.hid (refDots15 g A c xs s _ (h.below hal))
  have HN := Lib.hid fun (W : World) (h : In15 W g A c xs (nx (pL pD) xs s)) => refDots15 g A c xs (nx (pL pD) xs s) W h
  have HG := Lib.hid h.lt
  have HNEW := Lib.hid hnew
  have HAL := Lib.hid hal
  have HLT := Lib.hid (Array.getElem?_eq_some_iff.1 hnew).1
  clear h hal hnew
  go_enter Tryz.func38, Tryz.ntmps38
  go_wp2_with fail
  generalize w.alloc _ = w0 at *
  refine H1.out.mono ?_
  rintro e w1 ⟨⟨vs, D, d, rfl, ho1, hv1, hs1⟩, h1, hc1⟩
  have H2 := Lib.hid (HN.out w1 h1)
  have HC1 := Lib.hid hc1
  have HO1 := Lib.hid ho1
  have HV1 := Lib.hid hv1
  have HS1 := Lib.hid hs1
  clear h1 hc1 ho1 hv1 hs1
  go_wp2_with fail
  refine H2.out.mono ?_
  rintro e w2 ⟨⟨ls, E, k, rfl, ho2, hv2, hs2⟩, h2, hc2⟩
  have hb2 : w2.heap[w.heap.size]? = some (.cells #[.slice none 0 0, .slice none 0 0] 28 (0, 0)) := (hc2.block _ (Nat.lt_of_lt_of_le HLT.out HC1.out.size) (by have := HG.out; omega)).trans ((HC1.out.block _ HLT.out (by have := HG.out; omega)).trans HNEW.out)
  have c0 : w2.cell? ⟨w.heap.size, 0, none⟩ = some (.slice none 0 0) := cellW hb2
  have c1 : w2.cell? ⟨w.heap.size, 1, none⟩ = some (.slice none 0 0) := cellW hb2
  have f0 : w2.frozen? ⟨w.heap.size, 0, none⟩ = false := frozenW hb2
  have f1 : w2.frozen? ⟨w.heap.size, 1, none⟩ = false := frozenW hb2
  have hfin := set2 (x := .slice D vs.length d) (y := .slice E ls.length k) hb2
  have s0 := cellW (i := 0) hfin
  have s1 := cellW (i := 1) hfin
  have hch : Chg (fun k => k = w.heap.size) w2 ((w2.setCell ⟨w.heap.size, 0, none⟩ (.slice D vs.length d)).setCell ⟨w.heap.size, 1, none⟩ (.slice E ls.length k)) := (chg_set _ _ _ _).trans (chg_set _ _ _ _) fun _ _ e => e
  have hw0 : w.heap.size < w0.heap.size := HLT.out
  have HFIN := Lib.hid (show (∃ (vs' ls' : List (Int × Int)) (D' E' : Option Addr) (d' k' : Nat), Ending.returned (.agg #[.slice D vs.length d, .slice E ls.length k]) = .returned (.agg #[.slice D' vs'.length d', .slice E' ls'.length k']) ∧ ((w2.setCell ⟨w.heap.size, 0, none⟩ (.slice D vs.length d)).setCell ⟨w.heap.size, 1, none⟩ (.slice E ls.length k)).ownsRow w.heap.size 52 2 (.slice D' vs'.length d') vs'.length (cellsOf encD vs') ∧ ((w2.setCell ⟨w.heap.size, 0, none⟩ (.slice D vs.length d)).setCell ⟨w.heap.size, 1, none⟩ (.slice E ls.length k)).ownsRow w.heap.size 52 2 (.slice E' ls'.length k') ls'.length (cellsOf encD ls') ∧ vs'.length ≤ xs.length + 1 ∧ ls'.length ≤ xs.length + 1 ∧ ∀ a j, st pX xs s = some (a, j) → (vs', ls') = a) ∧ In15 ((w2.setCell ⟨w.heap.size, 0, none⟩ (.slice D vs.length d)).setCell ⟨w.heap.size, 1, none⟩ (.slice E ls.length k)) g A c xs (nx pX xs s) ∧ Chg (fun k => k = g) w ((w2.setCell ⟨w.heap.size, 0, none⟩ (.slice D vs.length d)).setCell ⟨w.heap.size, 1, none⟩ (.slice E ls.length k)) from by
    have o1 := own_chg (own_chg HO1.out hc2 (fun b hb e => by have := HG.out; omega)) hch (fun b hb e => by omega)
    have o2 := own_chg ho2 hch (fun b hb e => by have := HC1.out.size; omega)
    refine ⟨⟨vs, ls, D, E, d, k, rfl, Go.Joins.ownsRow_le o1 (by omega), Go.Joins.ownsRow_le o2 (by have := HC1.out.size; omega), HV1.out, hv2, fun a j e => ?_⟩, by rw [pX, nx_and]; exact h2.chg hch (by have := HG.out; omega) (fun k e => by have := HG.out; omega), (((Chg.of_below (S := fun k => k = g) HAL.out).trans HC1.out fun _ _ e => e).trans hc2 fun _ _ e => e).trans hch fun i hi e => by omega⟩
    rw [pX, st_and] at e
    cases e1 : st (pL pD) xs s with
    | none => rw [e1] at e; cases e
    | some v =>
      rw [e1] at e
      simp only [Option.bind_some] at e
      cases e2 : st (pL pD) xs (some v.2) with
      | none => rw [e2] at e; cases e
      | some u =>
        rw [e2] at e
        obtain ⟨k1, _⟩ := Prod.mk.inj (Option.some.inj e)
        rw [← k1, HS1.out v.1 v.2 e1, hs2 u.1 u.2 (by rw [nx_st, e1]; exact e2)])
  clear hb2 hfin hch ho2 hv2 hs2 h2 hc2
  go_wp2_with fail
  exact bodyPost_ret (v := .agg #[.slice D vs.length d, .slice E ls.length k]) (by simp [results, Tryz.results38, go_sem, s0, s1]) rfl HFIN.out

end

end Go.Proofs.YtpnemekkpifbaaaGreat
