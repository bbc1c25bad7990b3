/- Several texts in one: App, DotC. -/
import Derived.Test.YtfjbocipjmpogaaGreatMAA
import Derived.Maps.AppendAt
import Derived.Deep.RegionHeld3
import Derived.Deep.CutBlock
namespace Go.Proofs.YtfjbocipjmpogaaGreat

section
open Go.RowKit

/-- The cells of a list of elements. -/
abbrev cellsOf {α : Type} (enc : α → List Value) (xs : List α) : List Value := xs.flatMap enc

theorem cellsOf_length {α : Type} {enc : α → List Value} {k : Nat} (hk : ∀ x, (enc x).length = k) (xs : List α) : (cellsOf enc xs).length = xs.length * k := by
  induction xs with
  | nil => simp
  | cons x r ih => simp only [cellsOf, List.flatMap_cons, List.length_append, hk, List.length_cons] at ih ⊢; rw [ih, Nat.add_mul]; omega

theorem cellsOf_get {α : Type} {enc : α → List Value} {k : Nat} (hk : ∀ x, (enc x).length = k) (hk0 : 0 < k) : ∀ (xs : List α) (t : Nat) (u : Value), (cellsOf enc xs)[t]? = some u → ∃ x, xs[t / k]? = some x ∧ (enc x)[t % k]? = some u
  | [], t, u, h => by simp at h
  | x :: r, t, u, h => by
    simp only [cellsOf, List.flatMap_cons] at h
    by_cases ht : t < k
    · rw [List.getElem?_append_left (by rw [hk]; exact ht)] at h
      rw [Nat.div_eq_of_lt ht, Nat.mod_eq_of_lt ht]
      exact ⟨x, rfl, h⟩
    · rw [List.getElem?_append_right (by rw [hk]; omega), hk] at h
      obtain ⟨y, h1, h2⟩ := cellsOf_get hk hk0 r (t - k) u h
      have e1 : t / k = (t - k) / k + 1 := by rw [Nat.div_eq_sub_div hk0 (by omega)]
      have e2 : t % k = (t - k) % k := by rw [Nat.mod_eq_sub_mod (by omega)]
      rw [e1, e2]
      exact ⟨y, by simpa using h1, h2⟩
theorem cellsOf_at {α : Type} {enc : α → List Value} {k : Nat} (hk : ∀ x, (enc x).length = k) : ∀ (xs : List α) (j : Nat) (x : α) (i : Nat) (u : Value), xs[j]? = some x → (enc x)[i]? = some u → (cellsOf enc xs)[j * k + i]? = some u
  | [], j, x, i, u, h, _ => by simp at h
  | y :: r, 0, x, i, u, h, hu => by
    simp at h; subst h
    have hi : i < (enc y).length := by
      rcases Nat.lt_or_ge i (enc y).length with h | h
      · exact h
      · rw [List.getElem?_eq_none h] at hu; cases hu
    simp only [cellsOf, List.flatMap_cons, Nat.zero_mul, Nat.zero_add]
    rw [List.getElem?_append_left hi]; exact hu
  | y :: r, j + 1, x, i, u, h, hu => by
    simp only [cellsOf, List.flatMap_cons]
    rw [List.getElem?_append_right (by rw [hk, Nat.add_mul]; omega), hk]
    have := cellsOf_at hk r j x i u (by simpa using h) hu
    rw [show (j + 1) * k + i - k = j * k + i by rw [Nat.add_mul]; omega]
    exact this

theorem Addr_add (b off t : Nat) : (⟨b, off, none⟩ : Addr).add t = ⟨b, off + t, none⟩ := by
  unfold Addr.add; split
  · subst_vars; rfl
  · rfl

/-- A slice that reads as a list has its cells in a row. -/
theorem SlAt.row {α : Type} {enc : α → List Value} {k : Nat} {w : World} {xs : List α} (hk : ∀ x, (enc x).length = k) (hk0 : 0 < k) {a : Addr} (h : SlAt enc k w (some a) xs) :
    ∀ t u, (cellsOf enc xs)[t]? = some u → w.cell? (a.add t) = some u := by
  intro t u hu
  obtain ⟨x, h1, h2⟩ := cellsOf_get hk hk0 xs t u hu
  have hn : 0 < xs.length := by
    rcases Nat.eq_zero_or_pos xs.length with h | h
    · rw [List.getElem?_eq_none (by rw [h]; exact Nat.zero_le _)] at h1; cases h1
    · exact h
  obtain ⟨b, off, e, _, hc⟩ := h hn
  cases e
  rw [Addr_add]
  have := hc (t / k) x h1 (t % k) u h2
  rw [Nat.add_assoc, Nat.div_add_mod'] at this
  exact this

/-- What a call owns reads as a list. -/
theorem SlAt.of_own {α : Type} {enc : α → List Value} {k : Nat} (hk : ∀ x, (enc x).length = k) {w : World} {base : Nat} {e : TypeId} {v : Value} {xs : List α} (h : w.ownsRow base e k v xs.length (cellsOf enc xs)) :
    ∃ A c, v = .slice A xs.length c ∧ xs.length ≤ c ∧ c ≤ maxLen ∧ SlAt enc k w A xs := by
  obtain ⟨h1, h2⟩ := h
  rcases h2 with ⟨rfl, h0⟩ | ⟨g, cap, cur, rfl, hb, hg, hn, hc, hs, ht⟩
  · refine ⟨none, 0, by rw [h0], by omega, by simp [maxLen], fun h => by omega⟩
  · refine ⟨_, _, rfl, hn, hc, fun hp => ⟨g, 0, rfl, (Array.getElem?_eq_some_iff.1 hg).1, fun j x hx i u hu => ?_⟩⟩
    have hcl := cellsOf_at hk xs j x i u hx hu
    rw [← ht, List.getElem?_take] at hcl
    rw [Nat.zero_add, cell_of_row w g _ cur e (0, 0) hg]
    split at hcl
    · simpa using hcl
    · cases hcl

section
variable {P : Program} (w : World) {α : Type} (enc : α → List Value) (k : Nat)

theorem run_append_nothing (base : Nat) (t ty e : TypeId) (i : TypeInfo) (ht : P.underlying t = some (.slice e)) (hi : P.info? e = some i)
    (v : Value) (n : Nat) (cs : List Value) (hown : w.ownsRow base e k v n cs) (c : Nat) : (Builtin.append_ #[t, t] ty #[v, .slice none 0 c]).run P w = .ok v w := by
  rcases hown.2 with ⟨rfl, rfl⟩ | ⟨g, cap, cur, rfl, _, _, hnc, _⟩ <;>
    simp [Builtin.append_, run_underlying ht, sizeOf, typeInfo, hi, Builtin.lenOf, Builtin.firstCells]
  simp [hnc, storeCells]

theorem run_append_sl (hk : ∀ x, (enc x).length = k) (hk0 : 0 < k) (h1 : ∀ x, ∀ u ∈ enc x, u.oneCell' = true)
    (base : Nat) (t ty e : TypeId) (i : TypeInfo) (z : Value) (bytes : Nat) (ht : P.underlying t = some (.slice e)) (hi : P.info? e = some i) (hz : i.zero = some z)
    (hsize : i.size = k) (hby : i.bytes = bytes) (hzs : z.cells.size = k)
    (v : Value) (ys : List α) (hown : w.ownsRow base e k v ys.length (cellsOf enc ys))
    (A : Option Addr) (c : Nat) (xs : List α) (hx : SlAt enc k w A xs)
    (h63 : ys.length + xs.length ≤ maxLen) (hbytes : (ys.length + xs.length) * bytes ≤ 140737488355328) (hbase : base ≤ w.heap.size) :
    ∃ v' w', (Builtin.append_ #[t, t] ty #[v, .slice A xs.length c]).run P w = .ok v' w' ∧ w'.ownsRow base e k v' (ys ++ xs).length (cellsOf enc (ys ++ xs)) ∧ w.grownBy w' v.ownBlock ∧ (v'.ownBlock = v.ownBlock ∨ v'.ownBlock = some w.heap.size) := by
  have he : cellsOf enc (ys ++ xs) = cellsOf enc ys ++ cellsOf enc xs := by simp [cellsOf]
  rw [he, List.length_append]
  match A with
  | none =>
    have h0 : xs = [] := by
      cases xs with
      | nil => rfl
      | cons x r => obtain ⟨_, _, h, _⟩ := hx (by simp); cases h
    subst h0
    exact ⟨v, w, run_append_nothing w k base t ty e i ht hi v _ _ hown c, by simpa using hown, World.grownBy.refl w _, .inl rfl⟩
  | some a =>
    obtain ⟨v', w', hr, h2, h3, _, h5⟩ := run_append_own_at (P := P) w base t ty e i z k bytes ht hi hz hsize hby hzs hk0 v ys.length (cellsOf enc ys) hown a xs.length c (cellsOf enc xs)
      (cellsOf_length hk xs) (hx.row hk hk0) (fun u hu => by obtain ⟨x, _, h⟩ := List.mem_flatMap.1 hu; exact h1 x u h) h63 hbytes hbase
    exact ⟨v', w', hr, h2, h3, h5⟩

theorem wp_append_sl {o : Oper} {a : Act} {K : Act → World → Prop} {Q : Exit → Act → World → Prop} (s x : Operand) (t : TypeId)
    (ho : o.op = .call { callee := .builtin .append, args := #[s, x], argTypes := #[t, t] })
    (hk : ∀ x, (enc x).length = k) (hk0 : 0 < k) (h1 : ∀ x, ∀ u ∈ enc x, u.oneCell' = true)
    (base : Nat) (e : TypeId) (i : TypeInfo) (z : Value) (bytes : Nat) (ht : P.underlying t = some (.slice e)) (hi : P.info? e = some i) (hz : i.zero = some z)
    (hsize : i.size = k) (hby : i.bytes = bytes) (hzs : z.cells.size = k)
    (v : Value) (ys : List α) (hs : a.eval s = v) (hown : w.ownsRow base e k v ys.length (cellsOf enc ys))
    (A : Option Addr) (n c : Nat) (xs : List α) (hxv : a.eval x = .slice A n c) (hn : n = xs.length) (hx : SlAt enc k w A xs)
    (h63 : ys.length + xs.length ≤ maxLen) (hbytes : (ys.length + xs.length) * bytes ≤ 140737488355328) (hbase : base ≤ w.heap.size)
    (h : ∀ v' w', w'.ownsRow base e k v' (ys ++ xs).length (cellsOf enc (ys ++ xs)) → w.grownBy w' v.ownBlock → (v'.ownBlock = v.ownBlock ∨ v'.ownBlock = some w.heap.size) → K (a.put o.dst v') w') : o.wp P a w K Q := by
  subst hn
  obtain ⟨v', w', hrun, h2, h3, h4⟩ := run_append_sl (P := P) w enc k hk hk0 h1 base t o.type e i z bytes ht hi hz hsize hby hzs v ys hown A c xs hx h63 hbytes hbase
  unfold Oper.wp execOp
  simp only [ho, resolve, invoke, builtin, Sem.run_bind, Sem.run_pure, Result.andThen_ok, List.map_toArray, List.map_cons, List.map_nil, hs, hxv, hrun]
  exact h v' w' h2 h3 h4

theorem wpList_append_sl {ops : Array Oper} {rest : List Oper} {o : Oper} {a : Act} {Q : Exit → Act → World → Prop} (hgd : o.guard = none) (s x : Operand) (t : TypeId)
    (ho : o.op = .call { callee := .builtin .append, args := #[s, x], argTypes := #[t, t] })
    (hk : ∀ x, (enc x).length = k) (hk0 : 0 < k) (h1 : ∀ x, ∀ u ∈ enc x, u.oneCell' = true)
    (base : Nat) (e : TypeId) (i : TypeInfo) (z : Value) (bytes : Nat) (ht : P.underlying t = some (.slice e)) (hi : P.info? e = some i) (hz : i.zero = some z)
    (hsize : i.size = k) (hby : i.bytes = bytes) (hzs : z.cells.size = k)
    (v : Value) (ys : List α) (hs : a.eval s = v) (hown : w.ownsRow base e k v ys.length (cellsOf enc ys))
    (A : Option Addr) (n c : Nat) (xs : List α) (hxv : a.eval x = .slice A n c) (hn : n = xs.length) (hx : SlAt enc k w A xs)
    (h63 : ys.length + xs.length ≤ maxLen) (hbytes : (ys.length + xs.length) * bytes ≤ 140737488355328) (hbase : base ≤ w.heap.size)
    (h : ∀ v' w', w'.ownsRow base e k v' (ys ++ xs).length (cellsOf enc (ys ++ xs)) → w.grownBy w' v.ownBlock → (v'.ownBlock = v.ownBlock ∨ v'.ownBlock = some w.heap.size) → wpList P ops Q rest (a.put o.dst v') w') : wpList P ops Q (o :: rest) a w :=
  wpList_plain hgd fun _ hK => wp_append_sl w enc k s x t ho hk hk0 h1 base e i z bytes ht hi hz hsize hby hzs v ys hs hown A n c xs hxv hn hx h63 hbytes hbase fun v' w' h2 h3 h4 => hK _ _ (h v' w' h2 h3 h4)

theorem step_append_sl {ops : Array Oper} {o : Oper} {a : Act} {K : Act → World → Prop} {Q : Exit → Act → World → Prop} {E : Prop} (hgd : o.guard = none) (s x : Operand) (t : TypeId)
    (ho : o.op = .call { callee := .builtin .append, args := #[s, x], argTypes := #[t, t] })
    (hk : ∀ x, (enc x).length = k) (hk0 : 0 < k) (h1 : ∀ x, ∀ u ∈ enc x, u.oneCell' = true)
    (base : Nat) (e : TypeId) (i : TypeInfo) (z : Value) (bytes : Nat) (ht : P.underlying t = some (.slice e)) (hi : P.info? e = some i) (hz : i.zero = some z)
    (hsize : i.size = k) (hby : i.bytes = bytes) (hzs : z.cells.size = k)
    (v : Value) (ys : List α) (hs : a.eval s = v) (hown : w.ownsRow base e k v ys.length (cellsOf enc ys))
    (A : Option Addr) (n c : Nat) (xs : List α) (hxv : a.eval x = .slice A n c) (hn : n = xs.length) (hx : SlAt enc k w A xs)
    (h63 : ys.length + xs.length ≤ maxLen) (hbytes : (ys.length + xs.length) * bytes ≤ 140737488355328) (hbase : base ≤ w.heap.size)
    (h : ∀ v' w', w'.ownsRow base e k v' (ys ++ xs).length (cellsOf enc (ys ++ xs)) → w.grownBy w' v.ownBlock → (v'.ownBlock = v.ownBlock ∨ v'.ownBlock = some w.heap.size) → K (a.put o.dst v') w') :
    if Region.wanted o (yielded ops a.tmps) = true then Oper.wp P o a w K Q else E := by
  have hw : Region.wanted o (yielded ops a.tmps) = true := by simp [Region.wanted, hgd]
  rw [if_pos hw]
  exact wp_append_sl w enc k s x t ho hk hk0 h1 base e i z bytes ht hi hz hsize hby hzs v ys hs hown A n c xs hxv hn hx h63 hbytes hbase h
end

end

section
open Go.RowKit

abbrev ltD (p q : Int × Int) : Bool := lessD p.1 p.2 q.1 q.2

/-- A set with one more dot. -/
def insD (xs : List (Int × Int)) (d : Int × Int) : List (Int × Int) := if d ∈ xs then xs else xs.takeWhile (ltD · d) ++ d :: xs.dropWhile (ltD · d)

theorem takeWhile_at {xs : List (Int × Int)} {d : Int × Int} {m : Nat} (h : ∀ j p, j < m → xs[j]? = some p → ltD p d = true) (he : ∀ p, xs[m]? = some p → ltD p d = false) :
    xs.take m = xs.takeWhile (ltD · d) ∧ xs.drop m = xs.dropWhile (ltD · d) := by
  induction xs generalizing m with
  | nil => simp
  | cons x r ih =>
    match m with
    | 0 =>
      have := he x rfl
      simp [this]
    | m + 1 =>
      have h0 := h 0 x (by omega) rfl
      obtain ⟨h1, h2⟩ := ih (m := m) (fun j p hj hp => h (j + 1) p (by omega) (by simpa using hp)) (fun p hp => he p (by simpa using hp))
      simp [h0, h1, h2]

theorem infoD : (Tryz.prog.info? 51).map (fun i => (i.zero, i.size, i.bytes)) = some (some (.agg #[.int .i64 0, .int .i64 0]), 2, 16) := by kernel_rfl
theorem encD_len : ∀ d, (encD d).length = 2 := fun _ => rfl
theorem encD_one : ∀ d, ∀ u ∈ encD d, u.oneCell' = true := fun d u hu => by
  simp [encD] at hu; rcases hu with rfl | rfl <;> rfl

/-- What the last statement of With leans on in every order. -/
def KS (w : World) (r0 c0 : Int) (W : World) : Prop :=
  W.cell? ⟨w.heap.size, 0, none⟩ = some (.int .i64 r0) ∧ W.cell? ⟨w.heap.size, 1, none⟩ = some (.int .i64 c0) ∧ Below (w.heap.size + 1) (w.alloc (.cells #[.int .i64 r0, .int .i64 c0] 51)) W
theorem KS.of {w W : World} {r0 c0 : Int} (h : Below (w.heap.size + 1) (w.alloc (.cells #[.int .i64 r0, .int .i64 c0] 51)) W) : KS w r0 c0 W :=
  ⟨(h.cell (p := ⟨w.heap.size, 0, none⟩) (by simp)).trans (by simp [World.cell?_alloc_new]), (h.cell (p := ⟨w.heap.size, 1, none⟩) (by simp)).trans (by simp [World.cell?_alloc_new]), h⟩
theorem KS.size {w W : World} {r0 c0 : Int} (h : KS w r0 c0 W) : w.heap.size + 1 ≤ W.heap.size := by have := h.2.2.size; simpa using this
theorem KS.alloc {w W : World} {r0 c0 : Int} (h : KS w r0 c0 W) (o : Obj) : KS w r0 c0 (W.alloc o) := .of (h.2.2.alloc h.size o)
theorem KS.drew {w W : World} {r0 c0 : Int} (h : KS w r0 c0 W) : KS w r0 c0 W.drew := .of h.2.2.drew
theorem KS.grown {w W W' : World} {r0 c0 : Int} (h : KS w r0 c0 W) {row : Option Nat} (hg : W.grownBy W' row) (hr : ∀ k, row = some k → w.heap.size + 1 ≤ k) : KS w r0 c0 W' := .of (h.2.2.grown hg h.size hr)
theorem KS.below {w W : World} {r0 c0 : Int} (h : KS w r0 c0 W) : Below w.heap.size w W := ((Below.refl _ w).alloc (Nat.le_refl _) _).trans (h.2.2.mono (by omega))

theorem SlAt.take {α : Type} {enc : α → List Value} {k : Nat} {w : World} {A : Option Addr} {xs : List α} (h : SlAt enc k w A xs) (m : Nat) : SlAt enc k w A (xs.take m) := fun hn => by
  obtain ⟨b, off, rfl, hb, hc⟩ := h (by simp at hn; omega)
  refine ⟨b, off, rfl, hb, fun j x hx => hc j x ?_⟩
  rw [List.getElem?_take] at hx
  split at hx
  · exact hx
  · cases hx
theorem SlAt.cut {α : Type} {enc : α → List Value} {k : Nat} {w : World} {A : Option Addr} {xs : List α} (h : SlAt enc k w A xs) (m cap : Nat) (hc : xs.length ≤ cap) : SlAt enc k w (if cap = m then A else A.map (·.add (m * k))) (xs.drop m) := fun hn => by
  obtain ⟨b, off, rfl, hb, hcell⟩ := h (by simp at hn; omega)
  have hne : ¬ cap = m := by simp at hn; omega
  rw [if_neg hne]
  refine ⟨b, off + m * k, by simp [Addr_add], hb, fun j x hx i u hu => ?_⟩
  rw [List.getElem?_drop] at hx
  have := hcell (m + j) x hx i u hu
  rw [Nat.add_mul] at this
  rw [show off + m * k + j * k + i = off + (m * k + j * k) + i by omega]
  exact this
/-- One element in a new block. -/
theorem SlAt.one {α : Type} {enc : α → List Value} {k : Nat} {w : World} {g : Nat} {x : α} {t : TypeId} (h : w.heap[g]? = some (.cells (enc x).toArray t (0, 0))) : SlAt enc k w (some ⟨g, 0, none⟩) [x] := fun _ =>
  ⟨g, 0, rfl, (Array.getElem?_eq_some_iff.1 h).1, fun j y hy i u hu => by
    match j, hy with
    | 0, hy => simp at hy; subst hy; rw [cell_of_row w g _ _ t (0, 0) h]; simpa using hu⟩

set_option maxRecDepth 100000 in
set_option maxHeartbeats 1000000 in
theorem refWith (A : Option Addr) (xs : List (Int × Int)) (cap : Nat) (r0 c0 : Int) (w : World) (hx : DotsAt w A xs) (hm : xs.length ≤ 1000000) (hc : xs.length ≤ cap) (hcm : cap ≤ maxLen) :
    Calls Tryz.prog 64 #[.slice A xs.length cap, .agg #[.int .i64 r0, .int .i64 c0]] w fun e w' =>
      (∃ A' c', e = .returned (.slice A' (insD xs (r0, c0)).length c') ∧ DotsAt w' A' (insD xs (r0, c0)) ∧ (insD xs (r0, c0)).length ≤ c' ∧ c' ≤ maxLen) ∧ Below w.heap.size w w' := by
  obtain ⟨i0, hi0, hz0, hz1, hz2⟩ := info_parts infoD
  by_cases hin : (r0, c0) ∈ xs
  · have hv : insD xs (r0, c0) = xs := by simp [insD, hin]
    rw [hv]
    have hh := fun W hW => refHas A xs cap r0 c0 W hW (by simp only [maxLen]; omega)
    simp only [hin, decide_true] at hh
    have HH := Lib.hid hh
    clear hv hin hh
    unfold maxLen at hcm
    go_enter Tryz.func64, Tryz.ntmps64
    go_wp2_with fail
    refine (HH.out _ (hx.below ((Below.refl _ w).alloc (Nat.le_refl _) _))).mono ?_
    rintro e w1 ⟨rfl, hb1⟩
    go_wp2
    go_ret
    have hbb := below_trans ((Below.refl _ w).alloc (Nat.le_refl _) _) hb1
    exact ⟨⟨A, cap, rfl, hx.below hbb, hc, hcm⟩, hbb⟩
  · have hh := fun W hW => refHas A xs cap r0 c0 W hW (by simp only [maxLen]; omega)
    simp only [hin, decide_false] at hh
    have HH := Lib.hid hh
    have hv : ∀ m, (∀ j p, j < m → xs[j]? = some p → ltD p (r0, c0) = true) → (∀ p, xs[m]? = some p → ltD p (r0, c0) = false) → insD xs (r0, c0) = xs.take m ++ (r0, c0) :: xs.drop m := fun m h1 h2 => by
      obtain ⟨e1, e2⟩ := takeWhile_at h1 h2
      simp [insD, hin, e1, e2]
    have HV := Lib.hid hv
    clear hv hin hh
    unfold maxLen at hcm
    go_enter Tryz.func64, Tryz.ntmps64
    go_wp2_with fail
    refine (HH.out _ (hx.below ((Below.refl _ w).alloc (Nat.le_refl _) _))).mono ?_
    rintro e w1 ⟨rfl, hb1⟩
    have hb0 : Below (w.heap.size + 1) (w.alloc (.cells #[.int .i64 r0, .int .i64 c0] 51)) w1 := hb1.mono (by simp)
    clear hb1
    go_upto_block 0 with fail
    go_cut [5] (fun i wx => ∃ m : Nat, m ≤ xs.length ∧ i = .int .i64 m ∧ Below (w.heap.size + 1) (w.alloc (.cells #[.int .i64 r0, .int .i64 c0] 51)) wx ∧ Hid (insD xs (r0, c0) = xs.take m ++ (r0, c0) :: xs.drop m))
    case first =>
      go_wp2
      go_loopw [5] (fun i wr => ∃ m : Nat, m ≤ xs.length ∧ i = .int .i64 m ∧ Below (w.heap.size + 1) (w.alloc (.cells #[.int .i64 r0, .int .i64 c0] 51)) wr ∧ Hid (∀ j p, j < m → xs[j]? = some p → ltD p (r0, c0) = true)) (fun i _ => xs.length - (intOf i).toNat)
      case atStart => exact ⟨0, by omega, rfl, hb0, fun j p h => by omega⟩
      case round =>
        obtain ⟨m, hk2, rfl, hb1, hs⟩ := hrel
        have hb : Below w.heap.size w wr := ((Below.refl _ w).alloc (Nat.le_refl _) _).trans (hb1.mono (by omega))
        have hz : w.heap.size + 1 ≤ wr.heap.size := by have := hb1.size; simpa using this
        have k0 := cell_far (w := wr) (a := ⟨w.heap.size, 0, none⟩) (v := .int .i64 r0) (show w.heap.size < wr.heap.size by omega) ((hb1.cell (p := ⟨w.heap.size, 0, none⟩) (by simp)).trans (by simp [World.cell?_alloc_new]))
        have k1 := cell_far (w := wr) (a := ⟨w.heap.size, 1, none⟩) (v := .int .i64 c0) (show w.heap.size < wr.heap.size by omega) ((hb1.cell (p := ⟨w.heap.size, 1, none⟩) (by simp)).trans (by simp [World.cell?_alloc_new]))
        by_cases hlt : m < xs.length
        · obtain ⟨b, off, r, c, rfl, hbl, hx1, hc0, hc1⟩ := (hx.below hb).dot (j := m) (by omega)
          have l0 := fun p => cell_far (p := p) hbl hc0
          have l1 := fun p => cell_far (p := p) hbl hc1
          clear hc0 hc1
          have HX1 := Lib.hid hx1; clear hx1
          have hr := fun W => refLess r c r0 c0 W
          cases hq : lessD r c r0 c0
          · rw [hq] at hr
            have HR := Lib.hid hr; clear hr
            have hval := HV.out m hs.out (fun p hp => by rw [HX1.out] at hp; cases hp; exact hq)
            have HVAL := Lib.hid hval; clear hval hq
            go_wp2_with fail
            refine wp_region_far (by kernel_rfl) (by kernel_rfl) ?_
            repeat (go_big_quiet_step ((go_at_call 109; exact far_of (HR.out _))))
            refine wpQuiet_nil ?_
            rintro _ ⟨p, rfl⟩
            go_wp2_with fail
            go_meet
            exact ⟨m, by omega, rfl, hb1.trans ((below_far wr p).mono hz), HVAL⟩
          · rw [hq] at hr
            have HR := Lib.hid hr; clear hr
            have HQ := Lib.hid hq; clear hq
            go_wp2_with fail
            refine wp_region_far (by kernel_rfl) (by kernel_rfl) ?_
            repeat (go_big_quiet_step ((go_at_call 109; exact far_of (HR.out _))))
            refine wpQuiet_nil ?_
            rintro _ ⟨p, rfl⟩
            go_wp2
            go_roundw
            case rel => 
              refine ⟨m + 1, by omega, by go_num, hb1.trans ((below_far wr p).mono hz), (show Hid _ from fun j p hj hp => ?_)⟩
              by_cases e : j = m
              · subst e; rw [HX1.out] at hp; cases hp; exact HQ.out
              · exact hs.out j p (by omega) hp
            case measure => simp [intOf]; omega
        · have hval := HV.out m hs.out (fun p hp => by rw [List.getElem?_eq_none (by omega)] at hp; cases hp)
          have HVAL := Lib.hid hval; clear hval
          have hd : decide ((m : Int) < (xs.length : Int)) = false := by simp; omega
          go_wp2_with fail
          refine wp_region_far (by kernel_rfl) (by kernel_rfl) ?_
          repeat (go_big_quiet_step ((fail)))
          refine wpQuiet_nil ?_
          rintro _ ⟨p, rfl⟩
          go_wp2_with fail
          go_meet
          exact ⟨m, by omega, rfl, hb1.trans ((below_far wr p).mono hz), HVAL⟩
    case rest =>
      obtain ⟨m, hk2, rfl, hb1, hval⟩ := hcut
      have hS := KS.of hb1
      have HM := Lib.hid hm
      have hm0 : (0 : Int) ≤ (m : Int) := by omega
      have hm1 : (m : Int) ≤ (xs.length : Int) := by omega
      have hm2 : (m : Int) ≤ (cap : Int) := by omega
      have hS' : wc.cell? ⟨w.heap.size, 0, none⟩ = some (.int .i64 r0) ∧ wc.cell? ⟨w.heap.size, 1, none⟩ = some (.int .i64 c0) ∧ Below (w.heap.size + 1) (w.alloc (.cells #[.int .i64 r0, .int .i64 c0] 51)) wc := hS
      go_wp2_with fail
      go_region_held3 (fun w' => w'.cell? ⟨w.heap.size, 0, none⟩ = some (.int .i64 r0) ∧ w'.cell? ⟨w.heap.size, 1, none⟩ = some (.int .i64 c0) ∧ Below (w.heap.size + 1) (w.alloc (.cells #[.int .i64 r0, .int .i64 c0] 51)) w')
        (first
          | assumption
          | (exact KS.drew (by assumption))
          | (exact KS.alloc (by assumption) _)
          | (exact KS.drew (KS.alloc (by assumption) _)))
        (first
          | (refine step_append_sl (o := ⟨some 27, _, _, _, _, _⟩) _ encD 2 (by rfl) (.const (.slice none 0 0)) (.tmp 26) 22 (by rfl) encD_len (by omega) encD_one (w.heap.size + 1) 51 i0 _ 16 Tryz.underlying22 hi0 hz0 hz1 hz2 rfl (.slice none 0 0) [] (by rfl) (World.ownsRow_nil _ _ _ _) A m cap (xs.take m) (by rfl) (by simp; omega) ((hx.below (KS.below (by assumption))).take m) (by simp [maxLen]; have := HM.out; omega) (by simp; have := HM.out; omega) (KS.size (by assumption)) ?_
             intro v1 w1 hown1 hg1 hat1
             have hS1 := KS.grown (by assumption) hg1 (by simp [Value.ownBlock]))
          | (refine step_append_sl (o := ⟨some 30, _, _, _, _, _⟩) _ encD 2 (by rfl) (.tmp 27) (.tmp 29) 22 (by rfl) encD_len (by omega) encD_one (w.heap.size + 1) 51 i0 _ 16 Tryz.underlying22 hi0 hz0 hz1 hz2 rfl v1 ([] ++ xs.take m) (by rfl) (by first | exact hown1 | exact hown1.alloc _ | exact (hown1.alloc _).drew) _ 1 _ [(r0, c0)] (by rfl) (by rfl) (by first | exact SlAt.one (heap_alloc_new w1 _) | exact SlAt.one ((hg1.block _ (by simp) (by simp [Value.ownBlock])).trans (heap_alloc_new wc _))) (by simp [maxLen]; have := HM.out; omega) (by simp; have := HM.out; omega) (KS.size (by assumption)) ?_
             intro v2 w2 hown2 hg2 hat2
             have hS2 := KS.grown (by assumption) hg2 (fun k hk => (hown1.lt k hk).1))
          | (refine step_append_sl (o := ⟨some 34, _, _, _, _, _⟩) _ encD 2 (by rfl) (.tmp 30) (.tmp 33) 22 (by rfl) encD_len (by omega) encD_one (w.heap.size + 1) 51 i0 _ 16 Tryz.underlying22 hi0 hz0 hz1 hz2 rfl v2 ([] ++ xs.take m ++ [(r0, c0)]) (by rfl) hown2 _ (xs.length - m) _ (xs.drop m) (by rfl) (by simp) ((hx.below (KS.below (by assumption))).cut m cap hc) (by simp [maxLen]; have := HM.out; omega) (by simp; have := HM.out; omega) (KS.size (by assumption)) ?_
             intro v3 w3 hown3 hg3 hat3
             have hS3 := KS.grown (by assumption) hg3 (fun k hk => (hown2.lt k hk).1)))
      all_goals
        have e : [] ++ xs.take m ++ [(r0, c0)] ++ xs.drop m = insD xs (r0, c0) := by rw [hval.out]; simp
        rw [e] at hown3
        obtain ⟨A', c', rfl, hc', hcm', hat'⟩ := SlAt.of_own encD_len hown3
        have hbb := hS3.below
        clear hS1 hS2 hS3 hown1 hown2 hown3 hg1 hg2 hg3 hat1 hat2 hat3 e hS hS' hval
        have HAT := Lib.hid hat'; clear hat'
        go_wp2
        all_goals
          go_ret
          exact ⟨⟨A', c', rfl, HAT.out, hc', hcm'⟩, hbb⟩

/-- The set of a list. -/
def setL (xs : List (Int × Int)) : List (Int × Int) := xs.foldl insD []
theorem setL_snoc (xs : List (Int × Int)) (d : Int × Int) : setL (xs ++ [d]) = insD (setL xs) d := by simp [setL, List.foldl_append]
theorem insD_len (xs : List (Int × Int)) (d : Int × Int) : (insD xs d).length ≤ xs.length + 1 := by
  unfold insD
  split
  · omega
  · have := congrArg List.length (List.takeWhile_append_dropWhile (p := (ltD · d)) (l := xs))
    simp only [List.length_append, List.length_cons] at this ⊢
    omega
theorem foldl_ins_len : ∀ (l s : List (Int × Int)), (l.foldl insD s).length ≤ s.length + l.length
  | [], s => by simp
  | d :: l, s => by
    have h1 := foldl_ins_len l (insD s d)
    have h2 := insD_len s d
    simp only [List.foldl_cons, List.length_cons]; omega
theorem setL_len (xs : List (Int × Int)) : (setL xs).length ≤ xs.length := by
  have := foldl_ins_len xs []
  simpa [setL] using this
theorem take_snoc {α : Type} {xs : List α} {m : Nat} {x : α} (h : xs[m]? = some x) : xs.take (m + 1) = xs.take m ++ [x] := by
  rw [List.take_add_one, h]; rfl

/-- What a slot holds that reads as a list of dots. -/
def Holds (w : World) (v : Value) (xs : List (Int × Int)) : Prop := ∃ A c, v = .slice A xs.length c ∧ DotsAt w A xs ∧ xs.length ≤ c ∧ c ≤ maxLen
theorem Holds.below {w w' : World} {v : Value} {xs : List (Int × Int)} (h : Holds w v xs) (hb : Below w.heap.size w w') : Holds w' v xs := by
  obtain ⟨A, c, rfl, h1, h2, h3⟩ := h
  exact ⟨A, c, rfl, h1.below hb, h2, h3⟩
theorem Holds.nil (w : World) : Holds w (.slice none 0 0) [] := ⟨none, 0, rfl, SlAt.nil, by simp, by simp [maxLen]⟩

theorem refWith_h (v : Value) (xs : List (Int × Int)) (r0 c0 : Int) (w : World) (h : Holds w v xs) (hm : xs.length ≤ 1000000) :
    Calls Tryz.prog 64 #[v, .agg #[.int .i64 r0, .int .i64 c0]] w fun e w' => (∃ v', e = .returned v' ∧ Holds w' v' (insD xs (r0, c0))) ∧ Below w.heap.size w w' := by
  obtain ⟨A, c, rfl, h1, h2, h3⟩ := h
  exact (refWith A xs c r0 c0 w h1 hm h2 h3).mono fun e w' ⟨⟨A', c', h1, h2, h3, h4⟩, hb⟩ => ⟨⟨_, h1, A', c', rfl, h2, h3, h4⟩, hb⟩

set_option maxHeartbeats 1000000 in
theorem refUnion (A B : Option Addr) (xs ys : List (Int × Int)) (cap cap' : Nat) (w : World) (hx : DotsAt w A xs) (hy : DotsAt w B ys) (hm : xs.length + ys.length ≤ 100000) :
    Calls Tryz.prog 43 #[.slice A xs.length cap, .slice B ys.length cap'] w fun e w' => (∃ v, e = .returned v ∧ Holds w' v (setL (xs ++ ys))) ∧ Below w.heap.size w w' := by
  go_enter Tryz.func43, Tryz.ntmps43
  go_wp2
  go_loopw [5, 6] (fun v i wr => ∃ m : Nat, m ≤ xs.length ∧ i = .int .i64 m ∧ Below w.heap.size w wr ∧ Holds wr v (setL (xs.take m))) (fun _ i _ => xs.length - (intOf i).toNat)
  case atStart => exact ⟨0, by omega, rfl, Below.refl _ _, Holds.nil _⟩
  case round =>
    obtain ⟨m, hk2, rfl, hb, hs⟩ := hrel
    by_cases hlt : m < xs.length
    · obtain ⟨b, off, r, c, rfl, hbl, hx1, hc0, hc1⟩ := (hx.below hb).dot (j := m) (by omega)
      have hl := setL_len (xs.take m)
      have hl2 : (xs.take m).length ≤ m := List.length_take_le _ _
      have HX1 := Lib.hid hx1; clear hx1
      go_wp2_with (go_at_call 64; refine (refWith_h _ (setL (xs.take m)) _ _ _ hs (by omega)).mono ?_; rintro e w1 ⟨⟨v', rfl, hs'⟩, hb1⟩)
      go_roundw
      case rel => exact ⟨m + 1, by omega, by go_num, hb.trans (hb1.mono hb.size), by rw [take_snoc HX1.out, setL_snoc]; exact hs'⟩
      case measure => simp [intOf]; omega
    · have hmx : xs.take m = xs := List.take_of_length_le (by omega)
      rw [hmx] at hs
      clear hmx
      go_wp2
      go_loopw [5, 7] (fun v i wr => ∃ m : Nat, m ≤ ys.length ∧ i = .int .i64 m ∧ Below w.heap.size w wr ∧ Holds wr v (setL (xs ++ ys.take m))) (fun _ i _ => ys.length - (intOf i).toNat)
      case atStart => exact ⟨0, by omega, rfl, hb, by simpa using hs⟩
      case round =>
        obtain ⟨n, hn2, rfl, hb', hs'⟩ := hrel
        by_cases hlt' : n < ys.length
        · obtain ⟨b, off, r, c, rfl, hbl, hx1, hc0, hc1⟩ := (hy.below hb').dot (j := n) (by omega)
          have hl := setL_len (xs ++ ys.take n)
          have hl2 : (xs ++ ys.take n).length ≤ xs.length + n := by simp; omega
          have HX1 := Lib.hid hx1; clear hx1
          go_wp2_with (go_at_call 64; refine (refWith_h _ (setL (xs ++ ys.take n)) _ _ _ hs' (by omega)).mono ?_; rintro e w1 ⟨⟨v', rfl, hs2⟩, hb1⟩)
          go_roundw
          case rel => exact ⟨n + 1, by omega, by go_num, hb'.trans (hb1.mono hb'.size), by rw [take_snoc HX1.out, ← List.append_assoc, setL_snoc]; exact hs2⟩
          case measure => simp [intOf]; omega
        · have hmx : ys.take n = ys := List.take_of_length_le (by omega)
          rw [hmx] at hs'
          clear hmx
          have HS := Lib.hid hs'; clear hs'
          go_wp2
          go_ret
          exact ⟨⟨_, rfl, HS.out⟩, hb'⟩

theorem filter_snoc_yes {α : Type} {p : α → Bool} {l : List α} {x : α} (h : p x = true) : (l ++ [x]).filter p = l.filter p ++ [x] := by simp [h]
theorem filter_snoc_no {α : Type} {p : α → Bool} {l : List α} {x : α} (h : p x = false) : (l ++ [x]).filter p = l.filter p := by simp [h]

set_option maxHeartbeats 1000000 in
theorem refMinus (A B : Option Addr) (xs ys : List (Int × Int)) (cap cap' : Nat) (w : World) (hx : DotsAt w A xs) (hy : DotsAt w B ys) (hm : xs.length + ys.length ≤ 100000) :
    Calls Tryz.prog 90 #[.slice A xs.length cap, .slice B ys.length cap'] w fun e w' => (∃ v, e = .returned v ∧ Holds w' v (setL (xs.filter fun d => !decide (d ∈ ys)))) ∧ Below w.heap.size w w' := by
  go_enter Tryz.func90, Tryz.ntmps90
  go_wp2
  go_loopw [5, 6] (fun v i wr => ∃ m : Nat, m ≤ xs.length ∧ i = .int .i64 m ∧ Below w.heap.size w wr ∧ Holds wr v (setL ((xs.take m).filter fun d => !decide (d ∈ ys)))) (fun _ i _ => xs.length - (intOf i).toNat)
  case atStart => exact ⟨0, by omega, rfl, Below.refl _ _, Holds.nil _⟩
  case round =>
    obtain ⟨m, hk2, rfl, hb, hs⟩ := hrel
    by_cases hlt : m < xs.length
    · obtain ⟨b, off, r, c, rfl, hbl, hx1, hc0, hc1⟩ := (hx.below hb).dot (j := m) (by omega)
      have hl := setL_len ((xs.take m).filter fun d => !decide (d ∈ ys))
      have hl1 := List.length_filter_le (fun d => !decide (d ∈ ys)) (xs.take m)
      have hl2 : (xs.take m).length ≤ m := List.length_take_le _ _
      have hh := fun W hW => refHas B ys cap' r c W hW (by simp only [maxLen]; omega)
      have l0 := fun p => cell_far (p := p) hbl hc0
      have l1 := fun p => cell_far (p := p) hbl hc1
      by_cases hin : (r, c) ∈ ys
      · simp only [hin, decide_true] at hh
        have hstep : (xs.take (m + 1)).filter (fun d => !decide (d ∈ ys)) = (xs.take m).filter (fun d => !decide (d ∈ ys)) := by rw [take_snoc hx1]; exact filter_snoc_no (by simp [hin])
        have HH := Lib.hid hh; clear hh
        have HST := Lib.hid hstep; clear hstep hin hx1
        go_wp2_with fail
        refine (HH.out _ (hy.below hb)).mono ?_
        rintro e w1 ⟨rfl, hb1⟩
        go_wp2
        go_roundw
        case rel => exact ⟨m + 1, by omega, by go_num, hb.trans (hb1.mono hb.size), by rw [HST.out]; exact hs.below hb1⟩
        case measure => simp [intOf]; omega
      · simp only [hin, decide_false] at hh
        have hstep : (xs.take (m + 1)).filter (fun d => !decide (d ∈ ys)) = (xs.take m).filter (fun d => !decide (d ∈ ys)) ++ [(r, c)] := by rw [take_snoc hx1]; exact filter_snoc_yes (by simp [hin])
        have HH := Lib.hid hh; clear hh
        have HST := Lib.hid hstep; clear hstep hin hx1
        go_wp2_with fail
        refine (HH.out _ (hy.below hb)).mono ?_
        rintro e w1 ⟨rfl, hb1⟩
        obtain ⟨q, rfl⟩ := far_of_below hb1
        go_wp2_with fail
        refine (refWith_h _ (setL ((xs.take m).filter fun d => !decide (d ∈ ys))) _ _ _ (hs.below hb1) (by omega)).mono ?_
        rintro e w2 ⟨⟨v', rfl, hs'⟩, hb2⟩
        go_wp2
        go_roundw
        case rel => exact ⟨m + 1, by omega, by go_num, hb.trans ((below_trans hb1 hb2).mono hb.size), by rw [HST.out, setL_snoc]; exact hs'⟩
        case measure => simp [intOf]; omega
    · have hmx : xs.take m = xs := List.take_of_length_le (by omega)
      rw [hmx] at hs
      clear hmx
      have HS := Lib.hid hs; clear hs
      go_wp2
      go_ret
      exact ⟨⟨_, rfl, HS.out⟩, hb⟩

/-- What Both of the reference is. -/
def bothL (xs ys : List (Int × Int)) : List (Int × Int) := setL (xs.filter fun d => !decide (d ∈ setL (xs.filter fun d => !decide (d ∈ ys))))

set_option maxHeartbeats 400000 in
theorem refBoth (A B : Option Addr) (xs ys : List (Int × Int)) (cap cap' : Nat) (w : World) (hx : DotsAt w A xs) (hy : DotsAt w B ys) (hm : xs.length + ys.length ≤ 3000) :
    Calls Tryz.prog 49 #[.slice A xs.length cap, .slice B ys.length cap'] w fun e w' => (∃ v, e = .returned v ∧ Holds w' v (bothL xs ys)) ∧ Below w.heap.size w w' := by
  have hu := refMinus A B xs ys cap cap' w hx hy (by omega)
  have hl := setL_len (xs.filter fun d => !decide (d ∈ ys))
  have hl1 := List.length_filter_le (fun d => !decide (d ∈ ys)) xs
  have hv := fun A' c' W (hW : Below w.heap.size w W ∧ DotsAt W A' (setL (xs.filter fun d => !decide (d ∈ ys)))) => refMinus A A' xs (setL (xs.filter fun d => !decide (d ∈ ys))) cap c' W (hx.below hW.1) hW.2 (by omega)
  have HU := Lib.hid hu; clear hu
  have HV := Lib.hid hv; clear hv
  go_enter Tryz.func49, Tryz.ntmps49
  go_wp2_with fail
  refine HU.out.mono ?_
  rintro e w1 ⟨⟨v, rfl, h⟩, hb⟩
  obtain ⟨A', c', rfl, h1, h2, h3⟩ := h
  have H1 := Lib.hid h1; clear h1
  go_wp2_with fail
  refine (HV.out A' c' _ ⟨hb, H1.out⟩).mono ?_
  rintro e w2 ⟨⟨v, rfl, h⟩, hb2⟩
  have HS := Lib.hid h; clear h
  go_wp2
  go_ret
  exact ⟨⟨_, rfl, HS.out⟩, below_trans hb hb2⟩

end

end Go.Proofs.YtfjbocipjmpogaaGreat
