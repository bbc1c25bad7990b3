/- Several texts in one: CanE, CanF, CanG, CanH, DecG. -/
import Derived.Test.YtpnemekkpifbaaaGreatMAR
import Derived.Test.YtpnemekkpifbaaaGreatMAQ
namespace Go.Proofs.YtpnemekkpifbaaaGreat

section
open Go.RowKit

/-- An item with few marks and a short name. -/
def fewI (x : It) : Bool := decide (x.2.length ≤ 20) && decide (x.1.length ≤ 100)
/-- Which carts are small. -/
def small14 (c : Ca) : Bool := ((decide (c.1.1.length ≤ 40) && decide (c.1.2.length ≤ 40)) && decide (c.2.length ≤ 20)) && c.2.all fewI
theorem small_iff {c : Ca} : small14 c = true ↔ c.1.1.length ≤ 40 ∧ c.1.2.length ≤ 40 ∧ c.2.length ≤ 20 ∧ ∀ x ∈ c.2, x.2.length ≤ 20 ∧ x.1.length ≤ 100 := by
  unfold small14 fewI
  simp only [Bool.and_eq_true, decide_eq_true_eq, List.all_eq_true]
  constructor
  · rintro ⟨⟨⟨h1, h2⟩, h3⟩, h4⟩; exact ⟨h1, h2, h3, h4⟩
  · rintro ⟨h1, h2, h3, h4⟩; exact ⟨⟨⟨h1, h2⟩, h3⟩, h4⟩

set_option maxRecDepth 100000 in
set_option maxHeartbeats 2000000 in
theorem refSmall14 (c : CaV) (z : Bool) (w : World) (hc : CaOK w c) (hz : small14 c.ca = z) :
    Calls Tryz.prog 10 #[mkC c] w (OneB (.bool z) w) := by
  obtain ⟨V, nv, vs, Lc, nl, ls, I, ni, xs⟩ := c
  obtain ⟨_, _, hX⟩ := hc
  obtain ⟨I', ni', eI, hX, _, _⟩ := hX
  cases eI
  have hz' : small14 ((vs, ls), its xs) = z := hz
  have hlx : (its xs).length = xs.length := by simp [its]
  have hb0 : Below w.heap.size w (w.alloc (.cells #[.slice V vs.length nv, .slice Lc ls.length nl, .slice I xs.length ni] 31)) := (Below.refl _ w).alloc (Nat.le_refl _) _
  have HB0 := Lib.hid hb0
  have HX := Lib.hid (hX.below hb0)
  have hbx : (w.alloc (.cells #[.slice V vs.length nv, .slice Lc ls.length nl, .slice I xs.length ni] 31)).heap[w.heap.size]? = some (.cells #[.slice V vs.length nv, .slice Lc ls.length nl, .slice I xs.length ni] 31 (0, 0)) := heap_alloc_new w _
  have HBOX := Lib.hid fun (W : World) (hW : Below (w.alloc (.cells #[.slice V vs.length nv, .slice Lc ls.length nl, .slice I xs.length ni] 31)).heap.size (w.alloc (.cells #[.slice V vs.length nv, .slice Lc ls.length nl, .slice I xs.length ni] 31)) W) => (show W.cell? ⟨w.heap.size, 0, none⟩ = some (.slice V vs.length nv) ∧ W.cell? ⟨w.heap.size, 1, none⟩ = some (.slice Lc ls.length nl) ∧ W.cell? ⟨w.heap.size, 2, none⟩ = some (.slice I xs.length ni) from by
    have h : W.heap[w.heap.size]? = some (.cells #[.slice V vs.length nv, .slice Lc ls.length nl, .slice I xs.length ni] 31 (0, 0)) := (hW.block _ (by simp)).trans hbx
    exact ⟨by simp [World.cell?, h], by simp [World.cell?, h], by simp [World.cell?, h]⟩)
  have HBAD := Lib.hid (show ∀ x ∈ xs, fewI x.it = false → z = false from fun x hx hf => by
    cases z with
    | false => rfl
    | true =>
      have := (small_iff.1 hz').2.2.2 x.it (List.mem_map_of_mem hx)
      unfold fewI at hf
      simp [this] at hf)
  have HEND := Lib.hid (show (xs.length ≤ 20 → ∀ x ∈ xs, fewI x.it = true) → z = ((decide (vs.length ≤ 40) && decide (ls.length ≤ 40)) && decide (xs.length ≤ 20)) from fun h => by
    rw [← hz']
    unfold small14
    simp only [hlx]
    by_cases h20 : xs.length ≤ 20
    · have : (its xs).all fewI = true := by
        rw [List.all_eq_true]
        intro y hy
        obtain ⟨x, hx, rfl⟩ := List.mem_map.1 hy
        exact h h20 x hx
      rw [this]; simp
    · simp [h20])
  clear hX hb0 hbx hz hz' hlx
  show Calls _ _ #[.agg #[.slice V vs.length nv, .slice Lc ls.length nl, .slice I xs.length ni]] _ _
  go_enter Tryz.func10, Tryz.ntmps10
  go_wp2_with fail
  generalize w.alloc (.cells #[.slice V vs.length nv, .slice Lc ls.length nl, .slice I xs.length ni] 31) = w1 at HB0 HX HBOX ⊢
  go_loopw [3] (fun i wr => ∃ m : Nat, m ≤ 21 ∧ m ≤ xs.length ∧ i = .int .i64 m ∧ Hid (Below w1.heap.size w1 wr) ∧ Hid (∀ j x, j < m → xs[j]? = some x → fewI x.it = true)) (fun i _ => 21 - (intOf i).toNat)
  case atStart => exact ⟨0, by omega, by omega, rfl, Lib.hid (Below.refl _ _), Lib.hid (fun j x h => by omega)⟩
  case round =>
    obtain ⟨m, hm1, hm2, rfl, HB, HS⟩ := hrel
    obtain ⟨c0, c1, c2⟩ := HBOX.out wr HB.out
    have HBE := Lib.hid (below_trans HB0.out HB.out)
    by_cases hlt : m < xs.length ∧ m < 21
    · obtain ⟨k1, k2⟩ := hlt
      have i0 : (m : Int) < (xs.length : Int) := by omega
      have i1 : (m : Int) < 21 := by omega
      obtain ⟨b, off, x, rfl, hbl, hx1, hxe, hc0, hc1, _⟩ := (HX.out.below HB.out).cells (j := m) k1
      clear hxe
      obtain ⟨nm, A, cA, ms⟩ := x
      have hsz : (ByteArray.mk nm.toArray).size = nm.length := by show nm.toArray.size = _; simp
      have hbad := HBAD.out _ (List.mem_of_getElem? hx1)
      have hfe : fewI (ItV.it ⟨nm, A, cA, ms⟩) = (decide (ms.length ≤ 20) && decide (nm.length ≤ 100)) := rfl
      by_cases h20 : ms.length ≤ 20
      · have i2 : ¬ (20 : Int) < (ms.length : Int) := by omega
        by_cases h100 : nm.length ≤ 100
        · have i3 : ¬ (100 : Int) < (nm.length : Int) := by omega
          have HS2 := Lib.hid (show ∀ j x, j < m + 1 → xs[j]? = some x → fewI x.it = true from fun j x hj hx => by
            by_cases e : j = m
            · subst e
              rw [hx1] at hx
              cases hx
              rw [hfe]; simp [h20, h100]
            · exact HS.out j x (by omega) hx)
          clear hbad hfe hx1 HS h20 h100 k1 k2
          go_wp2_with fail
          go_roundw
          case rel => exact ⟨m + 1, by omega, by omega, by go_num, HB, HS2⟩
          case measure => simp [intOf]; omega
        · have i3 : (100 : Int) < (nm.length : Int) := by omega
          obtain rfl := hbad (by rw [hfe]; simp [h100])
          clear hfe hx1 HS h20 h100 k1 k2
          go_wp2_with fail
          go_ret
          exact ⟨rfl, HBE.out⟩
      · have i2 : (20 : Int) < (ms.length : Int) := by omega
        obtain rfl := hbad (by rw [hfe]; simp [h20])
        clear hfe hx1 HS h20 k1 k2
        go_wp2_with fail
        go_ret
        exact ⟨rfl, HBE.out⟩
    · have hall : xs.length ≤ 20 → ∀ x ∈ xs, fewI x.it = true := fun h20 x hx => by
        obtain ⟨j, hj⟩ := List.getElem?_of_mem hx
        have hjl := (List.getElem?_eq_some_iff.1 hj).1
        exact HS.out j x (by omega) hj
      have hz := HEND.out hall
      have hx0 : ((m : Int) < (xs.length : Int) ∧ ¬ (m : Int) < 21) ∨ ¬ (m : Int) < (xs.length : Int) := by omega
      clear hall HS hlt
      rcases hx0 with ⟨i0, i1⟩ | i0
      all_goals
        by_cases a1 : vs.length ≤ 40 <;> by_cases a2 : ls.length ≤ 40 <;> by_cases a3 : xs.length ≤ 20 <;> (
          first
            | have j1 : (vs.length : Int) ≤ 40 := by omega
            | have j1 : ¬ (vs.length : Int) ≤ 40 := by omega
          first
            | have j2 : (ls.length : Int) ≤ 40 := by omega
            | have j2 : ¬ (ls.length : Int) ≤ 40 := by omega
          first
            | have j3 : (xs.length : Int) ≤ 20 := by omega
            | have j3 : ¬ (xs.length : Int) ≤ 20 := by omega
          simp only [a1, a2, a3, decide_true, decide_false, Bool.and_true, Bool.and_false] at hz
          subst hz
          clear a1 a2 a3
          first
            | (exfalso; omega)
            | (go_wp2_with fail
               go_ret
               exact ⟨rfl, HBE.out⟩))

end

section
open Go.RowKit

/-- Not too much, and times of 64 bits. -/
def Fit14 (c : Ca) : Prop := c.1.1.length ≤ 400 ∧ c.1.2.length ≤ 400 ∧ c.2.length ≤ 300 ∧ (dotsI c.2).length ≤ 1000 ∧ ∀ x ∈ c.2, x.1.length ≤ 100 ∧ x.2.length ≤ 40 ∧ ∀ m ∈ x.2, m.t < 18446744073709551616
theorem Fit14.len {c : Ca} (h : Fit14 c) : LenB c := by
  obtain ⟨h1, h2, h3, _, h4⟩ := h
  exact ⟨by omega, by omega, by omega, fun x hx => ⟨by have := (h4 x hx).1; omega, by have := (h4 x hx).2.1; omega, (h4 x hx).2.2⟩⟩
/-- The cart of the examples. -/
def exC : Ca := (([(2, 3)], [(5, 9)]), [([116, 101, 97], [⟨2, 3, 200, 1⟩])])
/-- The empty cart. -/
def nilC : CaV := ⟨none, 0, [], none, 0, [], none, 0, []⟩
theorem nilC_ok (W : World) : CaOK W nilC := ⟨⟨none, 0, rfl, SlAt.nil, by simp [nilC], by simp [maxLen]⟩, ⟨none, 0, rfl, SlAt.nil, by simp [nilC], by simp [maxLen]⟩, HoldsX.nil _⟩

end

section
open Go.RowKit

theorem heap_old {w : World} {o : Obj} {k : Nat} (h : k < w.heap.size) : (w.alloc o).heap[k]? = w.heap[k]? := ((Below.refl _ w).alloc (Nat.le_refl _) o).block k h
theorem heap_new {w : World} {v : Array Value} {t : TypeId} {k : Nat} (h : k = w.heap.size) : (w.alloc (.cells v t)).heap[k]? = some (.cells v t (0, 0)) := by subst h; exact heap_alloc_new w _
end

section
open Go.RowKit

theorem nil_enc : byC nilC.ca = [0, 0, 0] := by
  show byC (([], []), []) = _
  simp [byC, byX, byL, enc_lt]
/-- Bytes that a literal makes. -/
theorem litB (W : World) (l : List UInt8) (hl : l.length ≤ 1000) : HoldsB (W.alloc (.cells (cellsOf encB l).toArray 5)) (.slice (some ⟨W.heap.size, 0, none⟩) l.length l.length) l := HoldsB.lit W l (Nat.le_trans hl (by decide))
end

section
open Go.RowKit

section
variable {α β : Type} {p : Ps α} {q : Ps β} {xs : List UInt8} {s : Option Nat}
theorem nx_of {a : α} {j : Nat} (h : st p xs s = some (a, j)) : nx p xs s = some j := by rw [nx_st, h]; rfl
theorem st_and_some {c : α × β} {j : Nat} (h : st (pAnd p q) xs s = some (c, j)) : ∃ j1, st p xs s = some (c.1, j1) ∧ st q xs (some j1) = some (c.2, j) := by
  rw [st_and] at h
  cases e1 : st p xs s with
  | none => rw [e1] at h; cases h
  | some v =>
    rw [e1] at h
    simp only [Option.bind_some] at h
    cases e2 : st q xs (some v.2) with
    | none => rw [e2] at h; cases h
    | some u =>
      rw [e2] at h
      obtain ⟨k1, k2⟩ := Prod.mk.inj (Option.some.inj h)
      subst k1; subst k2
      exact ⟨v.2, rfl, e2⟩
theorem st_map_some {g : α → β} {b : β} {j : Nat} (h : st (pMap g p) xs s = some (b, j)) : ∃ a, st p xs s = some (a, j) ∧ b = g a := by
  rw [st_map] at h
  cases e1 : st p xs s with
  | none => rw [e1] at h; cases h
  | some v =>
    rw [e1] at h
    obtain ⟨k1, k2⟩ := Prod.mk.inj (Option.some.inj h)
    subst k1; subst k2
    exact ⟨v.1, rfl, rfl⟩
theorem st_pN_val {n j : Nat} (h : st pN xs s = some (n, j)) : n = valN xs s := by
  rw [st_pN] at h
  cases e : nx pN xs s with
  | none => rw [e] at h; cases h
  | some k => rw [e] at h; exact (Prod.mk.inj (Option.some.inj h)).1.symm
theorem nx_map (g : α → β) (p : Ps α) (xs : List UInt8) (s : Option Nat) : nx (pMap g p) xs s = nx p xs s := by rw [nx_st, st_map, nx_st p, Option.map_map]; rfl
end
theorem nx_pM (xs : List UInt8) (s : Option Nat) : nx pM xs s = nx pN xs (nx pN xs (nx pD xs s)) := by rw [pM, nx_map, nx_and, nx_and, pZ, nx_map]
theorem st_pM {xs : List UInt8} {s : Option Nat} {d : Int × Int} {a : Mk} {j : Nat} (hd : ∀ a j, st pD xs s = some (a, j) → d = a) (h : st pM xs s = some (a, j)) : (⟨d.1, d.2, toI (valN xs (nx pD xs s)), valN xs (nx pN xs (nx pD xs s))⟩ : Mk) = a := by
  obtain ⟨c, h1, rfl⟩ := st_map_some h
  obtain ⟨j1, h2, h3⟩ := st_and_some h1
  obtain ⟨j2, h4, h5⟩ := st_and_some h3
  obtain ⟨m, h6, h7⟩ := st_map_some h4
  rw [hd _ _ h2, nx_of h2, nx_of h6, ← st_pN_val h6, ← st_pN_val h5, ← h7]
theorem nx_pI (xs : List UInt8) (s : Option Nat) : nx pI xs s = nx (pL pM) xs (nx pS xs s) := nx_and _ _ _ _
theorem st_pI {xs : List UInt8} {s : Option Nat} {nm : List UInt8} {ms : List Mk} {a : It} {j : Nat} (hn : ∀ a j, st pS xs s = some (a, j) → nm = a) (hm : ∀ a j, st (pL pM) xs (nx pS xs s) = some (a, j) → ms = a) (h : st pI xs s = some (a, j)) : ((nm, ms) : It) = a := by
  obtain ⟨j1, h2, h3⟩ := st_and_some h
  rw [hn _ _ h2, hm _ _ (by rw [nx_of h2]; exact h3)]
theorem pM_short : ∀ l a z, pM l = some (a, z) → 1 ≤ z ∧ z ≤ l.length := reads_short reads_pM fun a => by
  unfold byM
  rw [List.length_append]
  have := byZ_one a.r
  omega
theorem pI_short : ∀ l a z, pI l = some (a, z) → 1 ≤ z ∧ z ≤ l.length := reads_short reads_pI fun a => by
  unfold byI byS
  rw [List.length_append, List.length_append]
  have := enc_pos a.1.length
  omega
/-- Rows of marks, of items of the call's own. -/
abbrev RowM15 (W : World) (B : Nat) (v : Value) (l : List Mk) : Prop := W.ownsRow B 54 4 v l.length (cellsOf encM l)
abbrev RowI15 (W : World) (B : Nat) (v : Value) (l : List ItV) : Prop := W.ownsRow B 57 2 v l.length (cellsOf encIt l)
abbrev slV15 (y : ItV) : Value := .slice y.A y.ms.length y.c
theorem ownKeep15 {W W' : World} {B n k : Nat} {e : TypeId} {v : Value} {xs : List Value} {S : Nat → Prop} (h : W.ownsRow B e k v n xs) (hc : Chg S W W') (hn : ∀ j, v.ownBlock = some j → ¬ S j) : W'.ownsRow B e k v n xs := by
  refine ⟨h.1, ?_⟩
  rcases h.2 with hn' | ⟨r, cap, cur, rfl, hb, hg, rest⟩
  · exact .inl hn'
  · exact .inr ⟨r, cap, cur, rfl, hb, (hc.block r (Array.getElem?_eq_some_iff.1 hg).1 (hn r rfl)).trans hg, rest⟩
theorem ownNe15 {W : World} {B g k n : Nat} {e t : TypeId} {v : Value} {xs : List Value} {cur : Array Value} {z : Nat × Nat} (h : W.ownsRow B e k v n xs) (hg : W.heap[g]? = some (.cells cur t z)) (ht : t ≠ e) : v.ownBlock ≠ some g := by
  rcases h.2 with ⟨rfl, _⟩ | ⟨g', cap, cur', rfl, _, hg', _⟩
  · simp [Value.ownBlock]
  · intro e1
    have e2 : g' = g := by simpa [Value.ownBlock] using e1
    subst e2
    rw [hg] at hg'
    injection hg' with h1
    injection h1 with _ h2 _
    exact ht h2
theorem ownOwn15 {W : World} {B B' k k' n n' : Nat} {e e' : TypeId} {u v : Value} {xs ys : List Value} (h : W.ownsRow B e k u n xs) (h' : W.ownsRow B' e' k' v n' ys) (he : e ≠ e') : ∀ j, v.ownBlock = some j → u.ownBlock ≠ some j := by
  intro j hj
  rcases h'.2 with ⟨rfl, _⟩ | ⟨g', cap, cur', rfl, _, hg', _⟩
  · cases hj
  · have e2 : g' = j := by simpa [Value.ownBlock] using hj
    subst e2
    exact ownNe15 h hg' (Ne.symm he)

/-- A cart that grows while it is read: the call's own rows, its box, the box for what is returned. -/
structure PfI (w W : World) (b : Nat) (z : CaV) : Prop where
  bel : Below w.heap.size w W
  hb : w.heap.size + 1 < b
  box : W.heap[b]? = some (.cells #[z.v, z.l, z.i] 31 (0, 0))
  res : W.heap[w.heap.size]? = some (.cells #[.slice none 0 0, .slice none 0 0, .slice none 0 0] 31 (0, 0))
  rx : RowX W (w.heap.size + 2) z.V z.L z.nv z.nl z.vs z.ls
  ri : RowI15 W (w.heap.size + 2) z.i z.xs
  rm : ∀ y ∈ z.xs, RowM15 W (w.heap.size + 2) (slV15 y) y.ms
section
variable {w W W' : World} {b : Nat} {z : CaV}
theorem PfI.lt (h : PfI w W b z) : b < W.heap.size := (Array.getElem?_eq_some_iff.1 h.box).1
/-- The input goes on, and new blocks are laid. -/
theorem PfI.call (h : PfI w W b z) (hc : Chg (fun k => k = w.heap.size + 1) W W') : PfI w W' b z := by
  have hb := h.hb
  have hl := h.lt
  refine ⟨below_step h.bel (hc.below (by omega) fun k e => by omega), h.hb, (hc.block _ hl (by omega)).trans h.box, (hc.block _ (by omega) (by omega)).trans h.res, h.rx.chg hc fun b hb e => by omega, own_chg h.ri hc fun b hb e => by omega, fun y hy => own_chg (h.rm y hy) hc fun b hb e => by omega⟩
theorem PfI.cells (h : PfI w W b z) : W.cell? ⟨b, 0, none⟩ = some z.v ∧ W.cell? ⟨b, 1, none⟩ = some z.l ∧ W.cell? ⟨b, 2, none⟩ = some z.i ∧ W.frozen? ⟨b, 2, none⟩ = false := ⟨cellW h.box, cellW h.box, cellW h.box, frozenW h.box⟩
theorem rows_ok {B : Nat} (rx : RowX W B z.V z.L z.nv z.nl z.vs z.ls) (ri : RowI15 W B z.i z.xs) (rm : ∀ y ∈ z.xs, RowM15 W B (slV15 y) y.ms) : CaOK W z := by
  obtain ⟨X1, X2, X3, X4, X5, X6⟩ := SlAt.of_own encD_len rx.1
  obtain ⟨Y1, Y2, Y3, Y4, Y5, Y6⟩ := SlAt.of_own encD_len rx.2
  obtain ⟨Z1, Z2, Z3, Z4, Z5, Z6⟩ := SlAt.of_own encIt_len ri
  refine ⟨⟨X1, X2, X3, X6, X4, X5⟩, ⟨Y1, Y2, Y3, Y6, Y4, Y5⟩, ⟨Z1, Z2, Z3, ⟨Z6, fun y hy => ?_⟩, Z4, Z5⟩⟩
  obtain ⟨M1, M2, M3, M4, M5, M6⟩ := SlAt.of_own encM_len (rm y hy)
  injection M3 with e1 e2 e3
  exact ⟨e1 ▸ M6, e3 ▸ M4, e3 ▸ M5⟩
theorem set3 {W : World} {n : Nat} {a b e : Value} {t : TypeId} (h : W.heap[n]? = some (.cells #[a, b, e] t (0, 0))) (u v z : Value) : (((W.setCell ⟨n, 0, none⟩ u).setCell ⟨n, 1, none⟩ v).setCell ⟨n, 2, none⟩ z).heap[n]? = some (.cells #[u, v, z] t (0, 0)) := by
  have s1 : (W.setCell ⟨n, 0, none⟩ u).heap[n]? = some (.cells #[u, b, e] t (0, 0)) := by
    show (W.heap.modify n _)[n]? = _
    rw [Array.getElem?_modify, if_pos rfl, h]; rfl
  have s2 : ((W.setCell ⟨n, 0, none⟩ u).setCell ⟨n, 1, none⟩ v).heap[n]? = some (.cells #[u, v, e] t (0, 0)) := by
    show ((W.setCell ⟨n, 0, none⟩ u).heap.modify n _)[n]? = _
    rw [Array.getElem?_modify, if_pos rfl, s1]; rfl
  show (((W.setCell ⟨n, 0, none⟩ u).setCell ⟨n, 1, none⟩ v).heap.modify n _)[n]? = _
  rw [Array.getElem?_modify, if_pos rfl, s2]; rfl
/-- What is returned is stored in the box for it. -/
theorem PfI.fin (h : PfI w W b z) (u v x : Value) : CaOK (((W.setCell ⟨w.heap.size, 0, none⟩ u).setCell ⟨w.heap.size, 1, none⟩ v).setCell ⟨w.heap.size, 2, none⟩ x) z ∧ Below w.heap.size w (((W.setCell ⟨w.heap.size, 0, none⟩ u).setCell ⟨w.heap.size, 1, none⟩ v).setCell ⟨w.heap.size, 2, none⟩ x) := by
  have hc : Chg (fun k => k = w.heap.size) W (((W.setCell ⟨w.heap.size, 0, none⟩ u).setCell ⟨w.heap.size, 1, none⟩ v).setCell ⟨w.heap.size, 2, none⟩ x) := ((chg_set _ _ _ _).trans (chg_set _ _ _ _) fun _ _ e => e).trans (chg_set _ _ _ _) fun _ _ e => e
  exact ⟨rows_ok (h.rx.chg hc fun b hb e => by omega) (own_chg h.ri hc fun b hb e => by omega) fun y hy => own_chg (h.rm y hy) hc fun b hb e => by omega, below_set (below_set (below_set h.bel (Nat.le_refl _) _ _) (Nat.le_refl _) _ _) (Nat.le_refl _) _ _⟩
theorem set3c {W : World} {b : Nat} {x y u v : Value} {t : TypeId} (h : W.heap[b]? = some (.cells #[x, y, u] t (0, 0))) : (W.setCell ⟨b, 2, none⟩ v).heap[b]? = some (.cells #[x, y, v] t (0, 0)) := by
  show (W.heap.modify b _)[b]? = _
  rw [Array.getElem?_modify, if_pos rfl, h]
  rfl
/-- An item more. -/
theorem PfI.add (h : PfI w W b z) (y : ItV) {A : Option Addr} {n : Nat} (ho : RowI15 W' (w.heap.size + 2) (.slice A (z.xs.length + 1) n) (z.xs ++ [y])) (hg : W.grownBy W' z.i.ownBlock) (hy : RowM15 W (w.heap.size + 2) (slV15 y) y.ms) :
    PfI w (W'.setCell ⟨b, 2, none⟩ (.slice A (z.xs.length + 1) n)) b { z with I := A, ni := n, xs := z.xs ++ [y] } ∧ Chg (fun k => w.heap.size + 2 ≤ k) W (W'.setCell ⟨b, 2, none⟩ (.slice A (z.xs.length + 1) n)) := by
  have hb := h.hb
  have hl := h.lt
  have hgc := Chg.of_grown hg (S := fun j => z.i.ownBlock = some j) (fun _ e => e)
  have hlo : ∀ j, z.i.ownBlock = some j → w.heap.size + 2 ≤ j := fun j hj => (World.ownsRow.lt h.ri j hj).1
  have hbx := (hgc.block b hl (ownNe15 h.ri h.box (by decide))).trans h.box
  have hrs := (hgc.block w.heap.size (by omega) (ownNe15 h.ri h.res (by decide))).trans h.res
  have hch := chg_set W' b 2 (.slice A (z.xs.length + 1) n)
  have kp : ∀ {e : TypeId} {kk m : Nat} {v : Value} {zs : List Value}, e ≠ 57 → e ≠ 31 → W.ownsRow (w.heap.size + 2) e kk v m zs → (W'.setCell ⟨b, 2, none⟩ (.slice A (z.xs.length + 1) n)).ownsRow (w.heap.size + 2) e kk v m zs := fun he he2 k => by
    have h5 := ownKeep15 k hgc (ownOwn15 h.ri k (Ne.symm he))
    exact ownKeep15 h5 hch (fun j hj e1 => ownNe15 h5 hbx (Ne.symm he2) (e1 ▸ hj))
  have hlen : (z.xs ++ [y]).length = z.xs.length + 1 := by simp
  have ho2 : World.ownsRow W' (w.heap.size + 2) _ 2 (.slice A (z.xs.length + 1) n) (z.xs ++ [y]).length (cellsOf encIt (z.xs ++ [y])) := ho
  rw [hlen] at ho2
  have hall : Chg (fun k => w.heap.size + 2 ≤ k) W (W'.setCell ⟨b, 2, none⟩ (.slice A (z.xs.length + 1) n)) := (hgc.mono fun k _ e => hlo k e).trans hch fun k _ e => by omega
  refine ⟨⟨below_step h.bel (hall.below (by omega) fun k e => by omega), h.hb, ?_, (hch.block _ (by have := hgc.size; omega) (by omega)).trans hrs, ⟨kp (by decide) (by decide) h.rx.1, kp (by decide) (by decide) h.rx.2⟩, ?_, ?_⟩, hall⟩
  · show _ = some (Obj.cells #[z.v, z.l, .slice A (z.xs ++ [y]).length n] _ _)
    rw [hlen]
    exact set3c hbx
  · show World.ownsRow _ _ _ _ (.slice A (z.xs ++ [y]).length n) _ _
    rw [hlen]
    exact ownKeep15 ho2 hch (fun j hj e1 => ownNe15 ho2 hbx (by decide) (e1 ▸ hj))
  · intro u hu
    rcases List.mem_append.1 hu with k | k
    · exact kp (by decide) (by decide) (h.rm u k)
    · rw [List.mem_singleton] at k
      subst k
      exact kp (by decide) (by decide) hy
end

end

end Go.Proofs.YtpnemekkpifbaaaGreat
