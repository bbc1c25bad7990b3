/- append onto a row of the call's own, of a slice that reads as a list: at an operation, in a region that draws, in a plain one. -/
import Derived.Test.YtobkhoednecljaaDoorBase
import Derived.Maps.AppendAt
namespace Go.Proofs.YtobkhoednecljaaDoor
open Go.RowKit

/-- The cells of a list of elements. -/
abbrev cellsOf {α : Type} (enc : α → List Value) (xs : List α) : List Value := xs.flatMap enc

theorem cellsOf_length {α : Type} {enc : α → List Value} {k : Nat} (hk : ∀ x, (enc x).length = k) (xs : List α) : (cellsOf enc xs).length = xs.length * k := by
  induction xs with
  | nil => simp
  | cons x r ih => simp only [cellsOf, List.flatMap_cons, List.length_append, hk, List.length_cons] at ih ⊢; rw [ih, Nat.add_mul]; omega

theorem cellsOf_get {α : Type} {enc : α → List Value} {k : Nat} (hk : ∀ x, (enc x).length = k) (hk0 : 0 < k) : ∀ (xs : List α) (t : Nat) (u : Value), (cellsOf enc xs)[t]? = some u → ∃ x, xs[t / k]? = some x ∧ (enc x)[t % k]? = some u
  | [], t, u, h => by simp at h
  | x :: r, t, u, h => by
    simp only [cellsOf, List.flatMap_cons] at h
    by_cases ht : t < k
    · rw [List.getElem?_append_left (by rw [hk]; exact ht)] at h
      rw [Nat.div_eq_of_lt ht, Nat.mod_eq_of_lt ht]
      exact ⟨x, rfl, h⟩
    · rw [List.getElem?_append_right (by rw [hk]; omega), hk] at h
      obtain ⟨y, h1, h2⟩ := cellsOf_get hk hk0 r (t - k) u h
      have e1 : t / k = (t - k) / k + 1 := by rw [Nat.div_eq_sub_div hk0 (by omega)]
      have e2 : t % k = (t - k) % k := by rw [Nat.mod_eq_sub_mod (by omega)]
      rw [e1, e2]
      exact ⟨y, by simpa using h1, h2⟩
theorem cellsOf_at {α : Type} {enc : α → List Value} {k : Nat} (hk : ∀ x, (enc x).length = k) : ∀ (xs : List α) (j : Nat) (x : α) (i : Nat) (u : Value), xs[j]? = some x → (enc x)[i]? = some u → (cellsOf enc xs)[j * k + i]? = some u
  | [], j, x, i, u, h, _ => by simp at h
  | y :: r, 0, x, i, u, h, hu => by
    simp at h; subst h
    have hi : i < (enc y).length := by
      rcases Nat.lt_or_ge i (enc y).length with h | h
      · exact h
      · rw [List.getElem?_eq_none h] at hu; cases hu
    simp only [cellsOf, List.flatMap_cons, Nat.zero_mul, Nat.zero_add]
    rw [List.getElem?_append_left hi]; exact hu
  | y :: r, j + 1, x, i, u, h, hu => by
    simp only [cellsOf, List.flatMap_cons]
    rw [List.getElem?_append_right (by rw [hk, Nat.add_mul]; omega), hk]
    have := cellsOf_at hk r j x i u (by simpa using h) hu
    rw [show (j + 1) * k + i - k = j * k + i by rw [Nat.add_mul]; omega]
    exact this

theorem Addr_add (b off t : Nat) : (⟨b, off, none⟩ : Addr).add t = ⟨b, off + t, none⟩ := by
  unfold Addr.add; split
  · subst_vars; rfl
  · rfl

/-- A slice that reads as a list has its cells in a row. -/
theorem SlAt.row {α : Type} {enc : α → List Value} {k : Nat} {w : World} {xs : List α} (hk : ∀ x, (enc x).length = k) (hk0 : 0 < k) {a : Addr} (h : SlAt enc k w (some a) xs) :
    ∀ t u, (cellsOf enc xs)[t]? = some u → w.cell? (a.add t) = some u := by
  intro t u hu
  obtain ⟨x, h1, h2⟩ := cellsOf_get hk hk0 xs t u hu
  have hn : 0 < xs.length := by
    rcases Nat.eq_zero_or_pos xs.length with h | h
    · rw [List.getElem?_eq_none (by rw [h]; exact Nat.zero_le _)] at h1; cases h1
    · exact h
  obtain ⟨b, off, e, _, hc⟩ := h hn
  cases e
  rw [Addr_add]
  have := hc (t / k) x h1 (t % k) u h2
  rw [Nat.add_assoc, Nat.div_add_mod'] at this
  exact this

/-- What a call owns reads as a list. -/
theorem SlAt.of_own {α : Type} {enc : α → List Value} {k : Nat} (hk : ∀ x, (enc x).length = k) {w : World} {base : Nat} {e : TypeId} {v : Value} {xs : List α} (h : w.ownsRow base e k v xs.length (cellsOf enc xs)) :
    ∃ A c, v = .slice A xs.length c ∧ xs.length ≤ c ∧ c ≤ maxLen ∧ SlAt enc k w A xs := by
  obtain ⟨h1, h2⟩ := h
  rcases h2 with ⟨rfl, h0⟩ | ⟨g, cap, cur, rfl, hb, hg, hn, hc, hs, ht⟩
  · refine ⟨none, 0, by rw [h0], by omega, by simp [maxLen], fun h => by omega⟩
  · refine ⟨_, _, rfl, hn, hc, fun hp => ⟨g, 0, rfl, (Array.getElem?_eq_some_iff.1 hg).1, fun j x hx i u hu => ?_⟩⟩
    have hcl := cellsOf_at hk xs j x i u hx hu
    rw [← ht, List.getElem?_take] at hcl
    rw [Nat.zero_add, cell_of_row w g _ cur e (0, 0) hg]
    split at hcl
    · simpa using hcl
    · cases hcl

section
variable {P : Program} (w : World) {α : Type} (enc : α → List Value) (k : Nat)

theorem run_append_nothing (base : Nat) (t ty e : TypeId) (i : TypeInfo) (ht : P.underlying t = some (.slice e)) (hi : P.info? e = some i)
    (v : Value) (n : Nat) (cs : List Value) (hown : w.ownsRow base e k v n cs) (c : Nat) : (Builtin.append_ #[t, t] ty #[v, .slice none 0 c]).run P w = .ok v w := by
  rcases hown.2 with ⟨rfl, rfl⟩ | ⟨g, cap, cur, rfl, _, _, hnc, _⟩ <;>
    simp [Builtin.append_, run_underlying ht, sizeOf, typeInfo, hi, Builtin.lenOf, Builtin.firstCells]
  simp [hnc, storeCells]

theorem run_append_sl (hk : ∀ x, (enc x).length = k) (hk0 : 0 < k) (h1 : ∀ x, ∀ u ∈ enc x, u.oneCell' = true)
    (base : Nat) (t ty e : TypeId) (i : TypeInfo) (z : Value) (bytes : Nat) (ht : P.underlying t = some (.slice e)) (hi : P.info? e = some i) (hz : i.zero = some z)
    (hsize : i.size = k) (hby : i.bytes = bytes) (hzs : z.cells.size = k)
    (v : Value) (ys : List α) (hown : w.ownsRow base e k v ys.length (cellsOf enc ys))
    (A : Option Addr) (c : Nat) (xs : List α) (hx : SlAt enc k w A xs)
    (h63 : ys.length + xs.length ≤ maxLen) (hbytes : (ys.length + xs.length) * bytes ≤ 140737488355328) (hbase : base ≤ w.heap.size) :
    ∃ v' w', (Builtin.append_ #[t, t] ty #[v, .slice A xs.length c]).run P w = .ok v' w' ∧ w'.ownsRow base e k v' (ys ++ xs).length (cellsOf enc (ys ++ xs)) ∧ w.grownBy w' v.ownBlock ∧ (v'.ownBlock = v.ownBlock ∨ v'.ownBlock = some w.heap.size) := by
  have he : cellsOf enc (ys ++ xs) = cellsOf enc ys ++ cellsOf enc xs := by simp [cellsOf]
  rw [he, List.length_append]
  match A with
  | none =>
    have h0 : xs = [] := by
      cases xs with
      | nil => rfl
      | cons x r => obtain ⟨_, _, h, _⟩ := hx (by simp); cases h
    subst h0
    exact ⟨v, w, run_append_nothing w k base t ty e i ht hi v _ _ hown c, by simpa using hown, World.grownBy.refl w _, .inl rfl⟩
  | some a =>
    obtain ⟨v', w', hr, h2, h3, _, h5⟩ := run_append_own_at (P := P) w base t ty e i z k bytes ht hi hz hsize hby hzs hk0 v ys.length (cellsOf enc ys) hown a xs.length c (cellsOf enc xs)
      (cellsOf_length hk xs) (hx.row hk hk0) (fun u hu => by obtain ⟨x, _, h⟩ := List.mem_flatMap.1 hu; exact h1 x u h) h63 hbytes hbase
    exact ⟨v', w', hr, h2, h3, h5⟩

theorem wp_append_sl {o : Oper} {a : Act} {K : Act → World → Prop} {Q : Exit → Act → World → Prop} (s x : Operand) (t : TypeId)
    (ho : o.op = .call { callee := .builtin .append, args := #[s, x], argTypes := #[t, t] })
    (hk : ∀ x, (enc x).length = k) (hk0 : 0 < k) (h1 : ∀ x, ∀ u ∈ enc x, u.oneCell' = true)
    (base : Nat) (e : TypeId) (i : TypeInfo) (z : Value) (bytes : Nat) (ht : P.underlying t = some (.slice e)) (hi : P.info? e = some i) (hz : i.zero = some z)
    (hsize : i.size = k) (hby : i.bytes = bytes) (hzs : z.cells.size = k)
    (v : Value) (ys : List α) (hs : a.eval s = v) (hown : w.ownsRow base e k v ys.length (cellsOf enc ys))
    (A : Option Addr) (n c : Nat) (xs : List α) (hxv : a.eval x = .slice A n c) (hn : n = xs.length) (hx : SlAt enc k w A xs)
    (h63 : ys.length + xs.length ≤ maxLen) (hbytes : (ys.length + xs.length) * bytes ≤ 140737488355328) (hbase : base ≤ w.heap.size)
    (h : ∀ v' w', w'.ownsRow base e k v' (ys ++ xs).length (cellsOf enc (ys ++ xs)) → w.grownBy w' v.ownBlock → (v'.ownBlock = v.ownBlock ∨ v'.ownBlock = some w.heap.size) → K (a.put o.dst v') w') : o.wp P a w K Q := by
  subst hn
  obtain ⟨v', w', hrun, h2, h3, h4⟩ := run_append_sl (P := P) w enc k hk hk0 h1 base t o.type e i z bytes ht hi hz hsize hby hzs v ys hown A c xs hx h63 hbytes hbase
  unfold Oper.wp execOp
  simp only [ho, resolve, invoke, builtin, Sem.run_bind, Sem.run_pure, Result.andThen_ok, List.map_toArray, List.map_cons, List.map_nil, hs, hxv, hrun]
  exact h v' w' h2 h3 h4

theorem wpList_append_sl {ops : Array Oper} {rest : List Oper} {o : Oper} {a : Act} {Q : Exit → Act → World → Prop} (hgd : o.guard = none) (s x : Operand) (t : TypeId)
    (ho : o.op = .call { callee := .builtin .append, args := #[s, x], argTypes := #[t, t] })
    (hk : ∀ x, (enc x).length = k) (hk0 : 0 < k) (h1 : ∀ x, ∀ u ∈ enc x, u.oneCell' = true)
    (base : Nat) (e : TypeId) (i : TypeInfo) (z : Value) (bytes : Nat) (ht : P.underlying t = some (.slice e)) (hi : P.info? e = some i) (hz : i.zero = some z)
    (hsize : i.size = k) (hby : i.bytes = bytes) (hzs : z.cells.size = k)
    (v : Value) (ys : List α) (hs : a.eval s = v) (hown : w.ownsRow base e k v ys.length (cellsOf enc ys))
    (A : Option Addr) (n c : Nat) (xs : List α) (hxv : a.eval x = .slice A n c) (hn : n = xs.length) (hx : SlAt enc k w A xs)
    (h63 : ys.length + xs.length ≤ maxLen) (hbytes : (ys.length + xs.length) * bytes ≤ 140737488355328) (hbase : base ≤ w.heap.size)
    (h : ∀ v' w', w'.ownsRow base e k v' (ys ++ xs).length (cellsOf enc (ys ++ xs)) → w.grownBy w' v.ownBlock → (v'.ownBlock = v.ownBlock ∨ v'.ownBlock = some w.heap.size) → wpList P ops Q rest (a.put o.dst v') w') : wpList P ops Q (o :: rest) a w :=
  wpList_plain hgd fun _ hK => wp_append_sl w enc k s x t ho hk hk0 h1 base e i z bytes ht hi hz hsize hby hzs v ys hs hown A n c xs hxv hn hx h63 hbytes hbase fun v' w' h2 h3 h4 => hK _ _ (h v' w' h2 h3 h4)

theorem step_append_sl {ops : Array Oper} {o : Oper} {a : Act} {K : Act → World → Prop} {Q : Exit → Act → World → Prop} {E : Prop} (hgd : o.guard = none) (s x : Operand) (t : TypeId)
    (ho : o.op = .call { callee := .builtin .append, args := #[s, x], argTypes := #[t, t] })
    (hk : ∀ x, (enc x).length = k) (hk0 : 0 < k) (h1 : ∀ x, ∀ u ∈ enc x, u.oneCell' = true)
    (base : Nat) (e : TypeId) (i : TypeInfo) (z : Value) (bytes : Nat) (ht : P.underlying t = some (.slice e)) (hi : P.info? e = some i) (hz : i.zero = some z)
    (hsize : i.size = k) (hby : i.bytes = bytes) (hzs : z.cells.size = k)
    (v : Value) (ys : List α) (hs : a.eval s = v) (hown : w.ownsRow base e k v ys.length (cellsOf enc ys))
    (A : Option Addr) (n c : Nat) (xs : List α) (hxv : a.eval x = .slice A n c) (hn : n = xs.length) (hx : SlAt enc k w A xs)
    (h63 : ys.length + xs.length ≤ maxLen) (hbytes : (ys.length + xs.length) * bytes ≤ 140737488355328) (hbase : base ≤ w.heap.size)
    (h : ∀ v' w', w'.ownsRow base e k v' (ys ++ xs).length (cellsOf enc (ys ++ xs)) → w.grownBy w' v.ownBlock → (v'.ownBlock = v.ownBlock ∨ v'.ownBlock = some w.heap.size) → K (a.put o.dst v') w') :
    if Region.wanted o (yielded ops a.tmps) = true then Oper.wp P o a w K Q else E := by
  have hw : Region.wanted o (yielded ops a.tmps) = true := by simp [Region.wanted, hgd]
  rw [if_pos hw]
  exact wp_append_sl w enc k s x t ho hk hk0 h1 base e i z bytes ht hi hz hsize hby hzs v ys hs hown A n c xs hxv hn hx h63 hbytes hbase h
end

end Go.Proofs.YtobkhoednecljaaDoor
