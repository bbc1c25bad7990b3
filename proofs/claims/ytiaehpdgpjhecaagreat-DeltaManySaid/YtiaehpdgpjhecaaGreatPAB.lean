/- Several texts in one: App, DotC, Sort, DotD, DotE. -/
import Derived.Test.YtiaehpdgpjhecaaGreatPAA
import Derived.Maps.AppendAt
import Derived.Deep.RegionHeld3
import Derived.Deep.CutBlock
import Derived.Test.YtiaehpdgpjhecaaGreatShelf
import Derived.Deep.AppendLies
namespace Go.Proofs.YtiaehpdgpjhecaaGreat

section
open Go.RowKit

/-- The cells of a list of elements. -/
abbrev cellsOf {α : Type} (enc : α → List Value) (xs : List α) : List Value := xs.flatMap enc

theorem cellsOf_length {α : Type} {enc : α → List Value} {k : Nat} (hk : ∀ x, (enc x).length = k) (xs : List α) : (cellsOf enc xs).length = xs.length * k := by
  induction xs with
  | nil => simp
  | cons x r ih => simp only [cellsOf, List.flatMap_cons, List.length_append, hk, List.length_cons] at ih ⊢; rw [ih, Nat.add_mul]; omega

theorem cellsOf_get {α : Type} {enc : α → List Value} {k : Nat} (hk : ∀ x, (enc x).length = k) (hk0 : 0 < k) : ∀ (xs : List α) (t : Nat) (u : Value), (cellsOf enc xs)[t]? = some u → ∃ x, xs[t / k]? = some x ∧ (enc x)[t % k]? = some u
  | [], t, u, h => by simp at h
  | x :: r, t, u, h => by
    simp only [cellsOf, List.flatMap_cons] at h
    by_cases ht : t < k
    · rw [List.getElem?_append_left (by rw [hk]; exact ht)] at h
      rw [Nat.div_eq_of_lt ht, Nat.mod_eq_of_lt ht]
      exact ⟨x, rfl, h⟩
    · rw [List.getElem?_append_right (by rw [hk]; omega), hk] at h
      obtain ⟨y, h1, h2⟩ := cellsOf_get hk hk0 r (t - k) u h
      have e1 : t / k = (t - k) / k + 1 := by rw [Nat.div_eq_sub_div hk0 (by omega)]
      have e2 : t % k = (t - k) % k := by rw [Nat.mod_eq_sub_mod (by omega)]
      rw [e1, e2]
      exact ⟨y, by simpa using h1, h2⟩
theorem cellsOf_at {α : Type} {enc : α → List Value} {k : Nat} (hk : ∀ x, (enc x).length = k) : ∀ (xs : List α) (j : Nat) (x : α) (i : Nat) (u : Value), xs[j]? = some x → (enc x)[i]? = some u → (cellsOf enc xs)[j * k + i]? = some u
  | [], j, x, i, u, h, _ => by simp at h
  | y :: r, 0, x, i, u, h, hu => by
    simp at h; subst h
    have hi : i < (enc y).length := by
      rcases Nat.lt_or_ge i (enc y).length with h | h
      · exact h
      · rw [List.getElem?_eq_none h] at hu; cases hu
    simp only [cellsOf, List.flatMap_cons, Nat.zero_mul, Nat.zero_add]
    rw [List.getElem?_append_left hi]; exact hu
  | y :: r, j + 1, x, i, u, h, hu => by
    simp only [cellsOf, List.flatMap_cons]
    rw [List.getElem?_append_right (by rw [hk, Nat.add_mul]; omega), hk]
    have := cellsOf_at hk r j x i u (by simpa using h) hu
    rw [show (j + 1) * k + i - k = j * k + i by rw [Nat.add_mul]; omega]
    exact this

theorem Addr_add (b off t : Nat) : (⟨b, off, none⟩ : Addr).add t = ⟨b, off + t, none⟩ := by
  unfold Addr.add; split
  · subst_vars; rfl
  · rfl

/-- A slice that reads as a list has its cells in a row. -/
theorem SlAt.row {α : Type} {enc : α → List Value} {k : Nat} {w : World} {xs : List α} (hk : ∀ x, (enc x).length = k) (hk0 : 0 < k) {a : Addr} (h : SlAt enc k w (some a) xs) :
    ∀ t u, (cellsOf enc xs)[t]? = some u → w.cell? (a.add t) = some u := by
  intro t u hu
  obtain ⟨x, h1, h2⟩ := cellsOf_get hk hk0 xs t u hu
  have hn : 0 < xs.length := by
    rcases Nat.eq_zero_or_pos xs.length with h | h
    · rw [List.getElem?_eq_none (by rw [h]; exact Nat.zero_le _)] at h1; cases h1
    · exact h
  obtain ⟨b, off, e, _, hc⟩ := h hn
  cases e
  rw [Addr_add]
  have := hc (t / k) x h1 (t % k) u h2
  rw [Nat.add_assoc, Nat.div_add_mod'] at this
  exact this

/-- What a call owns reads as a list. -/
theorem SlAt.of_own {α : Type} {enc : α → List Value} {k : Nat} (hk : ∀ x, (enc x).length = k) {w : World} {base : Nat} {e : TypeId} {v : Value} {xs : List α} (h : w.ownsRow base e k v xs.length (cellsOf enc xs)) :
    ∃ A c, v = .slice A xs.length c ∧ xs.length ≤ c ∧ c ≤ maxLen ∧ SlAt enc k w A xs := by
  obtain ⟨h1, h2⟩ := h
  rcases h2 with ⟨rfl, h0⟩ | ⟨g, cap, cur, rfl, hb, hg, hn, hc, hs, ht⟩
  · refine ⟨none, 0, by rw [h0], by omega, by simp [maxLen], fun h => by omega⟩
  · refine ⟨_, _, rfl, hn, hc, fun hp => ⟨g, 0, rfl, (Array.getElem?_eq_some_iff.1 hg).1, fun j x hx i u hu => ?_⟩⟩
    have hcl := cellsOf_at hk xs j x i u hx hu
    rw [← ht, List.getElem?_take] at hcl
    rw [Nat.zero_add, cell_of_row w g _ cur e (0, 0) hg]
    split at hcl
    · simpa using hcl
    · cases hcl

section
variable {P : Program} (w : World) {α : Type} (enc : α → List Value) (k : Nat)

theorem run_append_nothing (base : Nat) (t ty e : TypeId) (i : TypeInfo) (ht : P.underlying t = some (.slice e)) (hi : P.info? e = some i)
    (v : Value) (n : Nat) (cs : List Value) (hown : w.ownsRow base e k v n cs) (c : Nat) : (Builtin.append_ #[t, t] ty #[v, .slice none 0 c]).run P w = .ok v w := by
  rcases hown.2 with ⟨rfl, rfl⟩ | ⟨g, cap, cur, rfl, _, _, hnc, _⟩ <;>
    simp [Builtin.append_, run_underlying ht, sizeOf, typeInfo, hi, Builtin.lenOf, Builtin.firstCells]
  simp [hnc, storeCells]

theorem run_append_sl (hk : ∀ x, (enc x).length = k) (hk0 : 0 < k) (h1 : ∀ x, ∀ u ∈ enc x, u.oneCell' = true)
    (base : Nat) (t ty e : TypeId) (i : TypeInfo) (z : Value) (bytes : Nat) (ht : P.underlying t = some (.slice e)) (hi : P.info? e = some i) (hz : i.zero = some z)
    (hsize : i.size = k) (hby : i.bytes = bytes) (hzs : z.cells.size = k)
    (v : Value) (ys : List α) (hown : w.ownsRow base e k v ys.length (cellsOf enc ys))
    (A : Option Addr) (c : Nat) (xs : List α) (hx : SlAt enc k w A xs)
    (h63 : ys.length + xs.length ≤ maxLen) (hbytes : (ys.length + xs.length) * bytes ≤ 140737488355328) (hbase : base ≤ w.heap.size) :
    ∃ v' w', (Builtin.append_ #[t, t] ty #[v, .slice A xs.length c]).run P w = .ok v' w' ∧ w'.ownsRow base e k v' (ys ++ xs).length (cellsOf enc (ys ++ xs)) ∧ w.grownBy w' v.ownBlock ∧ (v'.ownBlock = v.ownBlock ∨ v'.ownBlock = some w.heap.size) := by
  have he : cellsOf enc (ys ++ xs) = cellsOf enc ys ++ cellsOf enc xs := by simp [cellsOf]
  rw [he, List.length_append]
  match A with
  | none =>
    have h0 : xs = [] := by
      cases xs with
      | nil => rfl
      | cons x r => obtain ⟨_, _, h, _⟩ := hx (by simp); cases h
    subst h0
    exact ⟨v, w, run_append_nothing w k base t ty e i ht hi v _ _ hown c, by simpa using hown, World.grownBy.refl w _, .inl rfl⟩
  | some a =>
    obtain ⟨v', w', hr, h2, h3, _, h5⟩ := run_append_own_at (P := P) w base t ty e i z k bytes ht hi hz hsize hby hzs hk0 v ys.length (cellsOf enc ys) hown a xs.length c (cellsOf enc xs)
      (cellsOf_length hk xs) (hx.row hk hk0) (fun u hu => by obtain ⟨x, _, h⟩ := List.mem_flatMap.1 hu; exact h1 x u h) h63 hbytes hbase
    exact ⟨v', w', hr, h2, h3, h5⟩

theorem wp_append_sl {o : Oper} {a : Act} {K : Act → World → Prop} {Q : Exit → Act → World → Prop} (s x : Operand) (t : TypeId)
    (ho : o.op = .call { callee := .builtin .append, args := #[s, x], argTypes := #[t, t] })
    (hk : ∀ x, (enc x).length = k) (hk0 : 0 < k) (h1 : ∀ x, ∀ u ∈ enc x, u.oneCell' = true)
    (base : Nat) (e : TypeId) (i : TypeInfo) (z : Value) (bytes : Nat) (ht : P.underlying t = some (.slice e)) (hi : P.info? e = some i) (hz : i.zero = some z)
    (hsize : i.size = k) (hby : i.bytes = bytes) (hzs : z.cells.size = k)
    (v : Value) (ys : List α) (hs : a.eval s = v) (hown : w.ownsRow base e k v ys.length (cellsOf enc ys))
    (A : Option Addr) (n c : Nat) (xs : List α) (hxv : a.eval x = .slice A n c) (hn : n = xs.length) (hx : SlAt enc k w A xs)
    (h63 : ys.length + xs.length ≤ maxLen) (hbytes : (ys.length + xs.length) * bytes ≤ 140737488355328) (hbase : base ≤ w.heap.size)
    (h : ∀ v' w', w'.ownsRow base e k v' (ys ++ xs).length (cellsOf enc (ys ++ xs)) → w.grownBy w' v.ownBlock → (v'.ownBlock = v.ownBlock ∨ v'.ownBlock = some w.heap.size) → K (a.put o.dst v') w') : o.wp P a w K Q := by
  subst hn
  obtain ⟨v', w', hrun, h2, h3, h4⟩ := run_append_sl (P := P) w enc k hk hk0 h1 base t o.type e i z bytes ht hi hz hsize hby hzs v ys hown A c xs hx h63 hbytes hbase
  unfold Oper.wp execOp
  simp only [ho, resolve, invoke, builtin, Sem.run_bind, Sem.run_pure, Result.andThen_ok, List.map_toArray, List.map_cons, List.map_nil, hs, hxv, hrun]
  exact h v' w' h2 h3 h4

theorem wpList_append_sl {ops : Array Oper} {rest : List Oper} {o : Oper} {a : Act} {Q : Exit → Act → World → Prop} (hgd : o.guard = none) (s x : Operand) (t : TypeId)
    (ho : o.op = .call { callee := .builtin .append, args := #[s, x], argTypes := #[t, t] })
    (hk : ∀ x, (enc x).length = k) (hk0 : 0 < k) (h1 : ∀ x, ∀ u ∈ enc x, u.oneCell' = true)
    (base : Nat) (e : TypeId) (i : TypeInfo) (z : Value) (bytes : Nat) (ht : P.underlying t = some (.slice e)) (hi : P.info? e = some i) (hz : i.zero = some z)
    (hsize : i.size = k) (hby : i.bytes = bytes) (hzs : z.cells.size = k)
    (v : Value) (ys : List α) (hs : a.eval s = v) (hown : w.ownsRow base e k v ys.length (cellsOf enc ys))
    (A : Option Addr) (n c : Nat) (xs : List α) (hxv : a.eval x = .slice A n c) (hn : n = xs.length) (hx : SlAt enc k w A xs)
    (h63 : ys.length + xs.length ≤ maxLen) (hbytes : (ys.length + xs.length) * bytes ≤ 140737488355328) (hbase : base ≤ w.heap.size)
    (h : ∀ v' w', w'.ownsRow base e k v' (ys ++ xs).length (cellsOf enc (ys ++ xs)) → w.grownBy w' v.ownBlock → (v'.ownBlock = v.ownBlock ∨ v'.ownBlock = some w.heap.size) → wpList P ops Q rest (a.put o.dst v') w') : wpList P ops Q (o :: rest) a w :=
  wpList_plain hgd fun _ hK => wp_append_sl w enc k s x t ho hk hk0 h1 base e i z bytes ht hi hz hsize hby hzs v ys hs hown A n c xs hxv hn hx h63 hbytes hbase fun v' w' h2 h3 h4 => hK _ _ (h v' w' h2 h3 h4)

end

end

section
open Go.RowKit

abbrev ltD (p q : Int × Int) : Bool := lessD p.1 p.2 q.1 q.2

/-- A set with one more dot. -/
def insD (xs : List (Int × Int)) (d : Int × Int) : List (Int × Int) := if d ∈ xs then xs else xs.takeWhile (ltD · d) ++ d :: xs.dropWhile (ltD · d)

theorem infoD : (Tryz.prog.info? 30).map (fun i => (i.zero, i.size, i.bytes)) = some (some (.agg #[.int .i64 0, .int .i64 0]), 2, 16) := by kernel_rfl
theorem encD_len : ∀ d, (encD d).length = 2 := fun _ => rfl
theorem encD_one : ∀ d, ∀ u ∈ encD d, u.oneCell' = true := fun d u hu => by
  simp [encD] at hu; rcases hu with rfl | rfl <;> rfl

/-- What the last statement of With leans on in every order. -/
def KS (w : World) (r0 c0 : Int) (W : World) : Prop :=
  W.cell? ⟨w.heap.size, 0, none⟩ = some (.int .i64 r0) ∧ W.cell? ⟨w.heap.size, 1, none⟩ = some (.int .i64 c0) ∧ Below (w.heap.size + 1) (w.alloc (.cells #[.int .i64 r0, .int .i64 c0] 30)) W
theorem KS.of {w W : World} {r0 c0 : Int} (h : Below (w.heap.size + 1) (w.alloc (.cells #[.int .i64 r0, .int .i64 c0] 30)) W) : KS w r0 c0 W :=
  ⟨(h.cell (p := ⟨w.heap.size, 0, none⟩) (by simp)).trans (by simp [World.cell?_alloc_new]), (h.cell (p := ⟨w.heap.size, 1, none⟩) (by simp)).trans (by simp [World.cell?_alloc_new]), h⟩
theorem KS.size {w W : World} {r0 c0 : Int} (h : KS w r0 c0 W) : w.heap.size + 1 ≤ W.heap.size := by have := h.2.2.size; simpa using this
theorem KS.alloc {w W : World} {r0 c0 : Int} (h : KS w r0 c0 W) (o : Obj) : KS w r0 c0 (W.alloc o) := .of (h.2.2.alloc h.size o)
theorem KS.drew {w W : World} {r0 c0 : Int} (h : KS w r0 c0 W) : KS w r0 c0 W.drew := .of h.2.2.drew
theorem KS.grown {w W W' : World} {r0 c0 : Int} (h : KS w r0 c0 W) {row : Option Nat} (hg : W.grownBy W' row) (hr : ∀ k, row = some k → w.heap.size + 1 ≤ k) : KS w r0 c0 W' := .of (h.2.2.grown hg h.size hr)
theorem KS.below {w W : World} {r0 c0 : Int} (h : KS w r0 c0 W) : Below w.heap.size w W := ((Below.refl _ w).alloc (Nat.le_refl _) _).trans (h.2.2.mono (by omega))

theorem SlAt.take {α : Type} {enc : α → List Value} {k : Nat} {w : World} {A : Option Addr} {xs : List α} (h : SlAt enc k w A xs) (m : Nat) : SlAt enc k w A (xs.take m) := fun hn => by
  obtain ⟨b, off, rfl, hb, hc⟩ := h (by simp at hn; omega)
  refine ⟨b, off, rfl, hb, fun j x hx => hc j x ?_⟩
  rw [List.getElem?_take] at hx
  split at hx
  · exact hx
  · cases hx
/-- One element in a new block. -/
theorem SlAt.one {α : Type} {enc : α → List Value} {k : Nat} {w : World} {g : Nat} {x : α} {t : TypeId} (h : w.heap[g]? = some (.cells (enc x).toArray t (0, 0))) : SlAt enc k w (some ⟨g, 0, none⟩) [x] := fun _ =>
  ⟨g, 0, rfl, (Array.getElem?_eq_some_iff.1 h).1, fun j y hy i u hu => by
    match j, hy with
    | 0, hy => simp at hy; subst hy; rw [cell_of_row w g _ _ t (0, 0) h]; simpa using hu⟩

/-- The set of a list. -/
def setL (xs : List (Int × Int)) : List (Int × Int) := xs.foldl insD []
theorem insD_len (xs : List (Int × Int)) (d : Int × Int) : (insD xs d).length ≤ xs.length + 1 := by
  unfold insD
  split
  · omega
  · have := congrArg List.length (List.takeWhile_append_dropWhile (p := (ltD · d)) (l := xs))
    simp only [List.length_append, List.length_cons] at this ⊢
    omega
theorem foldl_ins_len : ∀ (l s : List (Int × Int)), (l.foldl insD s).length ≤ s.length + l.length
  | [], s => by simp
  | d :: l, s => by
    have h1 := foldl_ins_len l (insD s d)
    have h2 := insD_len s d
    simp only [List.foldl_cons, List.length_cons]; omega
theorem setL_len (xs : List (Int × Int)) : (setL xs).length ≤ xs.length := by
  have := foldl_ins_len xs []
  simpa [setL] using this
theorem take_snoc {α : Type} {xs : List α} {m : Nat} {x : α} (h : xs[m]? = some x) : xs.take (m + 1) = xs.take m ++ [x] := by
  rw [List.take_add_one, h]; rfl

/-- What a slot holds that reads as a list of dots. -/
def Holds (w : World) (v : Value) (xs : List (Int × Int)) : Prop := ∃ A c, v = .slice A xs.length c ∧ DotsAt w A xs ∧ xs.length ≤ c ∧ c ≤ maxLen
theorem Holds.below {w w' : World} {v : Value} {xs : List (Int × Int)} (h : Holds w v xs) (hb : Below w.heap.size w w') : Holds w' v xs := by
  obtain ⟨A, c, rfl, h1, h2, h3⟩ := h
  exact ⟨A, c, rfl, h1.below hb, h2, h3⟩
theorem Holds.nil (w : World) : Holds w (.slice none 0 0) [] := ⟨none, 0, rfl, SlAt.nil, by simp, by simp [maxLen]⟩

end

section
open Go.RowKit Go.Sort

section
variable {α : Type} [Inhabited α] {enc : α → List Value} {k : Nat}

theorem flatK_cells (hk : ∀ x, (enc x).length = k) (hk0 : 0 < k) (d : Array α) : (flatK enc k d).toList = cellsOf enc d.toList := by
  apply List.ext_getElem?
  intro t
  by_cases ht : t < d.size * k
  · have h1 : (flatK enc k d)[t]! = (enc d[t / k]!)[t % k]! := get_flatK enc k d t ht
    have hs : t < (flatK enc k d).size := by rw [size_flatK]; exact ht
    have hd : t / k < d.size := (Nat.div_lt_iff_lt_mul hk0).2 ht
    have hm : t % k < k := Nat.mod_lt _ hk0
    have h2 : (cellsOf enc d.toList)[t / k * k + t % k]? = some ((enc d[t / k]!)[t % k]!) := by
      refine cellsOf_at hk d.toList (t / k) d[t / k]! (t % k) _ (by simp [hd]) ?_
      have : t % k < (enc d[t / k]!).length := by rw [hk]; exact hm
      rw [List.getElem?_eq_getElem this]; simp [this]
    rw [Nat.div_add_mod'] at h2
    rw [h2, Array.getElem?_toList, Array.getElem?_eq_getElem hs]
    rw [getElem!_pos (flatK enc k d) t hs] at h1
    rw [h1]
  · rw [List.getElem?_eq_none (by simp; omega), List.getElem?_eq_none (by rw [cellsOf_length hk]; simp; omega)]

theorem holdsK_of_own (hk : ∀ x, (enc x).length = k) (hk0 : 0 < k) {w : World} {base g n cap : Nat} {e : TypeId} {xs : List α} (h : w.ownsRow base e k (.slice (some ⟨g, 0, none⟩) n cap) xs.length (cellsOf enc xs)) :
    HoldsK enc k w g 0 xs.toArray := by
  intro t ht
  have hrow := h.cells (g := g) rfl
  have hf : w.frozen? ⟨g, 0 + t, none⟩ = false := by
    rcases h.2 with ⟨h0, _⟩ | ⟨g', cap', cur, hv, _, hg, _⟩
    · cases h0
    · cases hv; simp [World.frozen?, hg]
  refine ⟨?_, hf⟩
  have hl : (flatK enc k xs.toArray).toList = cellsOf enc xs := by rw [flatK_cells hk hk0]
  have h1 : (cellsOf enc xs)[t]? = some (flatK enc k xs.toArray)[t]! := by
    rw [← hl, Array.getElem?_toList, Array.getElem?_eq_getElem ht, getElem!_pos (flatK enc k xs.toArray) t ht]
  have := hrow t _ h1
  rw [Addr_add] at this
  simpa using this

theorem own_of_sort (hk : ∀ x, (enc x).length = k) (hk0 : 0 < k) {w : World} {base g n cap m : Nat} {e : TypeId} {xs : List α} {d : Array α} {os : Array Obj} (h : w.ownsRow base e k (.slice (some ⟨g, 0, none⟩) n cap) xs.length (cellsOf enc xs)) (hd : d.size = xs.length) :
    (sortWorldK enc k w g 0 m d os).ownsRow base e k (.slice (some ⟨g, 0, none⟩) n cap) d.toList.length (cellsOf enc d.toList) ∧ w.grownBy (sortWorldK enc k w g 0 m d os) (some g) := by
  have hlen := h.1
  rcases h.2 with ⟨h0, _⟩ | ⟨g', cap', cur, hv, hb, hg, hn, hc, hs, ht⟩
  · cases h0
  · cases hv
    have hgl : g < w.heap.size := (Array.getElem?_eq_some_iff.1 hg).1
    have hsz : d.size * k ≤ cur.size := by rw [hs, hd]; exact Nat.mul_le_mul_right k hn
    constructor
    · refine ⟨cellsOf_length hk _, .inr ⟨g, cap, putCells id 0 (flatK enc k d) cur, by simp [hd], hb, ?_, by simp [hd]; exact hn, hc, by simpa [putCells] using hs, ?_⟩⟩
      · unfold sortWorldK
        rw [heap_grow_old _ _ (by simpa [putRowK, putRow, mapBlock] using hgl)]
        simp only [putRowK, putRow, mapBlock, Array.getElem?_modify]
        rw [if_pos trivial]
        show Option.map _ w.heap[g]? = _
        rw [hg]; rfl
      · rw [← flatK_cells hk hk0]
        apply List.ext_getElem?
        intro t
        rw [List.getElem?_take]
        by_cases hlt : t < d.size * k
        · rw [if_pos (by simpa using hlt)]
          have h1 : t < cur.size := by omega
          have h2 : t < (flatK enc k d).size := by simpa using hlt
          simp only [putCells, Array.getElem?_toList, Array.getElem?_mapIdx, Array.getElem?_eq_getElem h1, Option.map_some, Array.getElem?_eq_getElem h2, size_flatK]
          rw [if_pos ⟨Nat.zero_le _, by omega⟩, Nat.sub_zero, getElem!_pos (flatK enc k d) t h2]
          rfl
        · rw [if_neg (by simpa using hlt), List.getElem?_eq_none (by simp; omega)]
    · refine ⟨rfl, rfl, rfl, by simp [sortWorldK, putRowK, putRow, mapBlock], fun j hj hne => ?_⟩
      unfold sortWorldK
      rw [heap_grow_old _ _ (by simpa [putRowK, putRow, mapBlock] using hj)]
      simp only [putRowK, putRow, mapBlock, Array.getElem?_modify]
      rw [if_neg (by rintro rfl; exact hne rfl)]
      rfl
end

end

section
open Go.RowKit Go.Sort

theorem ltOf_cmpD : (ltOf fun p q : Int × Int => cmpD p.1 p.2 q.1 q.2) = ltD := by
  funext p q
  simp only [ltOf, cmpD, ltD]
  by_cases h : lessD p.1 p.2 q.1 q.2 = true
  · simp [h]
  · have h' : lessD p.1 p.2 q.1 q.2 = false := by simpa using h
    by_cases h2 : lessD q.1 q.2 p.1 p.2 = true <;> simp [h', h2]

theorem lessD_iff (a b c d : Int) : lessD a b c d = true ↔ (b < d ∨ b = d ∧ a < c) := by simp [lessD]
theorem swoD : SWO ltD where
  irrefl x := by simp [ltD, lessD]
  trans x y z h1 h2 := by rw [ltD, lessD_iff] at *; omega
  ntrans x y z h1 h2 := by
    rw [← Bool.not_eq_true, ltD, lessD_iff] at *; omega
theorem ltD_total (x y : Int × Int) (h1 : ltD x y = false) (h2 : ltD y x = false) : x = y := by
  rw [← Bool.not_eq_true, ltD, lessD_iff] at *
  apply Prod.ext <;> omega

/-- A list in order, equal ones side by side. -/
def sortedL (xs : List (Int × Int)) : List (Int × Int) := xs.mergeSort fun x y => !ltD y x

theorem cmpLays (blk off size : Nat) (w : World) : CmpLays Tryz.prog 115 #[] encD 2 (fun p q : Int × Int => cmpD p.1 p.2 q.1 q.2) blk off size w :=
  fun _ _ _ _ x y => dotCompareG x.1 x.2 y.1 y.2 _

theorem sortFunc (v : Value) (base : Nat) (xs : List (Int × Int)) (w : World) (h : w.ownsRow base 30 2 v xs.length (cellsOf encD xs)) (hm : xs.length ≤ 1000000) :
    Calls Tryz.prog 190 #[v, .func (.func 115) #[] #[]] w fun e w' => e = .returned (.tuple #[]) ∧ w'.ownsRow base 30 2 v (sortedL xs).length (cellsOf encD (sortedL xs)) ∧ w.grownBy w' v.ownBlock := by
  rcases Nat.eq_zero_or_pos xs.length with h0 | h0
  · have hn : xs = [] := List.eq_nil_of_length_eq_zero h0
    subst hn
    obtain ⟨A, c, rfl, _⟩ := SlAt.of_own encD_len h
    have hc := AnyF.slices_SortFunc_none (P := Tryz.prog) (ρ := Tryz.sortDots_ren) { Tryz.sortDots with } A c (.func (.func 115) #[] #[]) w
    refine Calls.mono (show Calls Tryz.prog 190 _ _ _ from hc) ?_
    rintro e w' ⟨he, rfl⟩
    exact ⟨he, by simpa [sortedL] using h, World.grownBy.refl _ _⟩
  · obtain ⟨g, cap, rfl, hb, hg⟩ := h.form h0
    have eg : ∀ args w, (callFunc 115 args).run Tryz.prog w = .ok (.enter 115 args) w := enters_of Tryz.func115 (by kernel_rfl) rfl
    have hc := AnyQ.slices_SortFunc_total Tryz.sortDots 2 Tryz.isAgg30 Tryz.sizeOf30 encD encD_len encD_one (fun p q : Int × Int => cmpD p.1 p.2 q.1 q.2) (by rw [ltOf_cmpD]; exact swoD) 115 #[] g 0 cap xs.toArray w eg (cmpLays g 0 _ w) (holdsK_of_own encD_len (by omega) h) hg (by simp; omega) (by rw [ltOf_cmpD]; exact ltD_total)
    have hc' : Calls Tryz.prog 190 #[.slice (some ⟨g, 0, none⟩) xs.length cap, .func (.func 115) #[] #[]] w _ := hc
    refine hc'.mono ?_
    rintro e w' ⟨he, n, os, rfl⟩
    obtain ⟨h1, h2⟩ := own_of_sort (m := n) (os := os) (d := (xs.toArray.toList.mergeSort fun x y => !(ltOf fun p q : Int × Int => cmpD p.1 p.2 q.1 q.2) y x).toArray) encD_len (by omega) h (by simp)
    refine ⟨he, ?_, h2⟩
    rw [ltOf_cmpD] at h1 ⊢
    exact h1

end

section
open Go.RowKit

/-- Of equal ones side by side one is left. -/
def dd : List (Int × Int) → List (Int × Int)
  | [] => []
  | [x] => [x]
  | x :: y :: r => if x = y then dd (y :: r) else x :: dd (y :: r)
theorem dd_head : ∀ (x : Int × Int) (r : List (Int × Int)), ∃ t, dd (x :: r) = x :: t
  | x, [] => ⟨[], rfl⟩
  | x, y :: r => by
    rw [dd]
    split
    · rename_i h; subst h; exact dd_head x r
    · exact ⟨_, rfl⟩
theorem dd_snoc : ∀ (l : List (Int × Int)) (y x : Int × Int), dd (l ++ [y, x]) = if y = x then dd (l ++ [y]) else dd (l ++ [y]) ++ [x]
  | [], y, x => by
    simp only [List.nil_append, dd]
    split
    · rename_i h; rw [h]
    · rfl
  | [a], y, x => by
    have h := dd_snoc [] y x
    simp only [List.nil_append] at h
    simp only [List.cons_append, List.nil_append]
    rw [dd, h]
    by_cases h1 : a = y <;> by_cases h2 : y = x <;> simp [h1, h2, dd]
  | a :: b :: l, y, x => by
    have h := dd_snoc (b :: l) y x
    simp only [List.cons_append] at h ⊢
    rw [dd, h, dd]
    by_cases h1 : a = b <;> by_cases h2 : y = x <;> simp [h1, h2]
theorem dd_same : ∀ (xs : List (Int × Int)), (∀ j p q, xs[j]? = some p → xs[j + 1]? = some q → p ≠ q) → dd xs = xs
  | [], _ => rfl
  | [_], _ => rfl
  | x :: y :: r, h => by
    rw [dd, if_neg (h 0 x y rfl rfl), dd_same (y :: r) (fun j p q h1 h2 => h (j + 1) p q (by simpa using h1) (by simpa using h2))]
theorem dd_len : ∀ (xs : List (Int × Int)), (dd xs).length ≤ xs.length
  | [] => by simp [dd]
  | [_] => by simp [dd]
  | x :: y :: r => by
    have := dd_len (y :: r)
    rw [dd]
    split <;> simp at this ⊢ <;> omega

theorem dd_step {xs : List (Int × Int)} {m : Nat} {y x : Int × Int} (hy : xs[m]? = some y) (hx : xs[m + 1]? = some x) : dd (xs.take (m + 2)) = if y = x then dd (xs.take (m + 1)) else dd (xs.take (m + 1)) ++ [x] := by
  rw [take_snoc hx, take_snoc hy, List.append_assoc]
  exact dd_snoc (xs.take m) y x

/-- The cells of an element of a row of the call's own. -/
theorem own_dot {w : World} {base g n cap : Nat} {e : TypeId} {ys : List (Int × Int)} (h : w.ownsRow base e 2 (.slice (some ⟨g, 0, none⟩) n cap) n (cellsOf encD ys)) {j : Nat} {r c : Int} (hj : ys[j]? = some (r, c)) :
    w.cell? ⟨g, j * 2, none⟩ = some (.int .i64 r) ∧ w.cell? ⟨g, j * 2 + 1, none⟩ = some (.int .i64 c) ∧ w.frozen? ⟨g, j * 2, none⟩ = false ∧ w.frozen? ⟨g, j * 2 + 1, none⟩ = false := by
  have h0 := h.cells (g := g) rfl (j * 2) _ (cellsOf_at encD_len ys j (r, c) 0 _ hj rfl)
  have h1 := h.cells (g := g) rfl (j * 2 + 1) _ (cellsOf_at encD_len ys j (r, c) 1 _ hj rfl)
  rw [Addr_add] at h0 h1
  exact ⟨by simpa using h0, by simpa using h1, h.frozenAt _, h.frozenAt _⟩

theorem cells_setD (ys : List (Int × Int)) (j : Nat) (r c : Int) (hj : j < ys.length) : ((cellsOf encD ys).set (j * 2) (.int .i64 r)).set (j * 2 + 1) (.int .i64 c) = cellsOf encD (ys.set j (r, c)) := by
  induction ys generalizing j with
  | nil => simp at hj
  | cons y l ih =>
    match j with
    | 0 => simp [cellsOf, encD]
    | j + 1 =>
      have := ih j (by simpa using hj)
      simp only [cellsOf, encD, List.flatMap_cons, List.set_cons_succ, List.cons_append, List.nil_append] at this ⊢
      rw [show (j + 1) * 2 = j * 2 + 1 + 1 by omega, show j * 2 + 1 + 1 + 1 = (j * 2 + 1) + 1 + 1 by omega]
      simp only [List.set_cons_succ]
      rw [this]

/-- One element is stored. -/
theorem own_store {w : World} {base g n cap : Nat} {e : TypeId} {ys : List (Int × Int)} (h : w.ownsRow base e 2 (.slice (some ⟨g, 0, none⟩) n cap) n (cellsOf encD ys)) {j : Nat} {r c : Int} (hj : j < ys.length) :
    ((w.setCell ⟨g, j * 2, none⟩ (.int .i64 r)).setCell ⟨g, j * 2 + 1, none⟩ (.int .i64 c)).ownsRow base e 2 (.slice (some ⟨g, 0, none⟩) n cap) n (cellsOf encD (ys.set j (r, c))) ∧
    w.grownBy ((w.setCell ⟨g, j * 2, none⟩ (.int .i64 r)).setCell ⟨g, j * 2 + 1, none⟩ (.int .i64 c)) (some g) := by
  obtain ⟨h1, g1⟩ := h.stored (j * 2) (.int .i64 r)
  obtain ⟨h2, g2⟩ := h1.stored (j * 2 + 1) (.int .i64 c)
  rw [cells_setD ys j r c hj] at h2
  exact ⟨h2, ⟨g2.os.trans g1.os, g2.tape.trans g1.tape, g2.output.trans g1.output, Nat.le_trans g1.size g2.size, fun i hi hne => (g2.block i (Nat.lt_of_lt_of_le hi g1.size) hne).trans (g1.block i hi hne)⟩⟩

/-- 'clear(s[m:])', s a row of the call's own. -/
theorem run_clear_own {P : Program} {w : World} {base g n cap m k : Nat} {e t : TypeId} {cs : List Value} {z : Value} (ht : P.underlying t = some (.slice e)) (hv : ∀ w, (zeroValue e).run P w = .ok z w) (hz : z.cells.size = k) (h1 : ∀ u ∈ z.cells.toList, u.oneCell' = true)
    (h : w.ownsRow base e k (.slice (some ⟨g, 0, none⟩) n cap) n cs) (hm : m < n) (c : Nat) :
    ∃ w', (∀ ty, (Builtin.clear_ #[t] ty #[.slice (some ⟨g, m * k, none⟩) (n - m) c]).run P w = .ok (.tuple #[]) w') ∧ w'.ownsRow base e k (.slice (some ⟨g, 0, none⟩) m cap) m (cs.take (m * k)) ∧ w.grownBy w' (some g) := by
  have hlen := h.1
  rcases h.2 with ⟨h0, _⟩ | ⟨g', cap', cur, hv', hb, hg, hn, hc, hs, htk⟩
  · cases h0
  · cases hv'
    have hzl : (Builtin.zeroCells z.cells (n - m)).toList.length = (n - m) * k := by simp [Builtin.zeroCells, hz]
    have hle : m * k + (n - m) * k ≤ cur.size := by
      rw [← Nat.add_mul, hs]; exact Nat.mul_le_mul_right k (by omega)
    have hmk : m * k ≤ n * k := Nat.mul_le_mul_right k (by omega)
    have hst := run_storeCells_at P g (m * k) e (Builtin.zeroCells z.cells (n - m)).toList 0 cur w hg (by simp only [Nat.add_zero]; rw [hzl]; exact hle) (by
      intro u hu
      simp only [Builtin.zeroCells, Array.toList_map, List.mem_map] at hu
      obtain ⟨i, hi, rfl⟩ := hu
      have hi' : i < (n - m) * z.cells.size := by simpa using hi
      have hk0 : 0 < z.cells.size := by
        rcases Nat.eq_zero_or_pos z.cells.size with h | h
        · rw [h] at hi'; omega
        · exact h
      refine h1 _ ?_
      rw [getElem!_pos z.cells _ (Nat.mod_lt _ hk0)]
      exact Array.getElem_mem_toList _)
    have hcs : (cur.toList.take (m * k + 0) ++ (Builtin.zeroCells z.cells (n - m)).toList ++ cur.toList.drop (m * k + 0 + (Builtin.zeroCells z.cells (n - m)).toList.length)).length = cur.size := by
      simp only [List.length_append, List.length_take, List.length_drop, hzl, Array.length_toList]; omega
    generalize hZ : (Builtin.zeroCells z.cells (n - m)).toList = Z at *
    refine ⟨w.setRow g (cur.toList.take (m * k + 0) ++ Z ++ cur.toList.drop (m * k + 0 + Z.length)).toArray, ?_, ⟨?_, .inr ⟨g, cap, _, rfl, hb, setRow_heap w g cur _ e (0, 0) hg, by omega, hc, ?_, ?_⟩⟩, ?_⟩
    · intro ty
      obtain ⟨q, hq⟩ : ∃ q, n - m = q + 1 := ⟨n - m - 1, by omega⟩
      rw [hq] at hZ ⊢
      simp only [Builtin.clear_]
      simp [run_underlying ht, hv, hZ, hst]
    · rw [List.length_take, hlen]; omega
    · rw [← hs, List.size_toArray, hcs]
    · rw [← htk, List.take_take, Nat.min_eq_left hmk]
      show List.take (m * k) (cur.toList.take (m * k + 0) ++ Z ++ _) = _
      rw [List.append_assoc, List.take_append_of_le_length (by simp; omega), List.take_take, Nat.add_zero, Nat.min_self]
    · refine ⟨rfl, rfl, rfl, by simp [World.setRow], fun i hi hne => ?_⟩
      simp only [World.setRow, Array.getElem?_modify]
      rw [if_neg (by rintro rfl; exact hne rfl)]

end

end Go.Proofs.YtiaehpdgpjhecaaGreat
