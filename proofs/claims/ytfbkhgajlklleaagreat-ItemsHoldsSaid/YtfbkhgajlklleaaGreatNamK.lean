/- Plain facts about keys, names of items, strings in quotes and fields. -/
import Derived.KernelRfl
namespace Go.Proofs.YtfbkhgajlklleaaGreat

/-- A byte of a key. -/
def keyC (c : Nat) : Bool := (decide (97 ≤ c) && decide (c ≤ 122)) || (decide (48 ≤ c) && decide (c ≤ 57)) || c == 45 || c == 95 || c == 46 || c == 47
def keyN (s : List UInt8) : Bool := (decide (0 < s.length) && decide (s.length ≤ 64)) && s.all fun c => keyC c.toNat

/-- The names of items. -/
def itemN (s : List UInt8) : Bool :=
  decide (1 ≤ s.length) && decide (s.length ≤ 64) && s[0]? != some 32 && s[s.length - 1]? != some 32 && (s.all fun c => decide (32 ≤ c.toNat) && decide (c.toNat ≤ 126)) && (List.range s.length).all fun i => !(s[i]? == some 32 && s[i + 1]? == some 32)
structure ItemOK (s : List UInt8) : Prop where
  pos : 1 ≤ s.length
  short : s.length ≤ 64
  first : s[0]? ≠ some 32
  last : s[s.length - 1]? ≠ some 32
  bytes : ∀ c ∈ s, 32 ≤ c.toNat ∧ c.toNat ≤ 126
  single : ∀ i : Nat, s[i]? = some 32 → s[i + 1]? ≠ some 32
theorem itemN_iff (s : List UInt8) : itemN s = true ↔ ItemOK s := by
  unfold itemN
  simp only [Bool.and_eq_true, decide_eq_true_eq, bne_iff_ne, List.all_eq_true, List.mem_range, Bool.not_eq_true', Bool.and_eq_false_iff, beq_eq_false_iff_ne]
  constructor
  · rintro ⟨⟨⟨⟨⟨h1, h2⟩, h3⟩, h4⟩, h5⟩, h6⟩
    refine ⟨h1, h2, h3, h4, h5, fun i hi => ?_⟩
    have hl : i < s.length := by
      rcases Nat.lt_or_ge i s.length with h | h
      · exact h
      · rw [List.getElem?_eq_none h] at hi; cases hi
    rcases h6 i hl with h | h
    · exact absurd hi h
    · exact h
  · rintro ⟨h1, h2, h3, h4, h5, h6⟩
    refine ⟨⟨⟨⟨⟨h1, h2⟩, h3⟩, h4⟩, h5⟩, fun i _ => ?_⟩
    by_cases h : s[i]? = some 32
    · exact .inr (h6 i h)
    · exact .inl h
theorem itemN_no {s : List UInt8} (h : ¬ ItemOK s) : itemN s = false := by
  cases e : itemN s with
  | false => rfl
  | true => exact absurd ((itemN_iff s).1 e) h

/-- The bytes that separate words. -/
def sepC (c : UInt8) : Bool := c.toNat == 9 || c.toNat == 10 || c.toNat == 13 || c.toNat == 32
/-- One byte more of a string that is made canonical: what there is so far, and whether a separator came last. -/
def canonF (st : List UInt8 × Bool) (c : UInt8) : List UInt8 × Bool :=
  if sepC c then (st.1, true) else (st.1 ++ (if st.2 && st.1 != [] then [32] else []) ++ [c], false)
def canonS (s : List UInt8) : List UInt8 × Bool := s.foldl canonF ([], false)
def canonN (s : List UInt8) : List UInt8 := (canonS s).1
theorem canonS_snoc (s : List UInt8) (c : UInt8) : canonS (s ++ [c]) = canonF (canonS s) c := by simp [canonS, List.foldl_append]
theorem canonF_len (st : List UInt8 × Bool) (c : UInt8) : (canonF st c).1.length ≤ st.1.length + 2 := by
  unfold canonF
  split
  · exact Nat.le_add_right _ _
  · simp only [List.length_append, List.length_singleton]
    split <;> simp <;> omega
theorem canonS_len (s : List UInt8) : (canonS s).1.length ≤ 2 * s.length := by
  suffices h : ∀ k, k ≤ s.length → (canonS (s.take k)).1.length ≤ 2 * k by
    have := h s.length (Nat.le_refl _)
    rwa [List.take_length] at this
  intro k
  induction k with
  | zero => intro _; simp [canonS]
  | succ k ih =>
    intro hk
    rw [List.take_succ_eq_append_getElem (by omega), canonS_snoc]
    have := canonF_len (canonS (s.take k)) s[k]
    have := ih (by omega)
    omega
theorem eq32 {c : UInt8} (h : c.toNat = 32) : c = 32 := UInt8.toNat_inj.1 h
/-- What making canonical has of the beginning of a name. -/
theorem canonS_item {s : List UInt8} (h : ItemOK s) (k : Nat) (hk : k < s.length) : canonS (s.take (k + 1)) = if s[k]? = some 32 then (s.take k, true) else (s.take (k + 1), false) := by
  induction k with
  | zero =>
    have h0 : s[0]? = some s[0] := List.getElem?_eq_getElem hk
    have hne : s[0]? ≠ some 32 := h.first
    rw [if_neg hne, List.take_succ_eq_append_getElem hk]
    have hc : s[0] ≠ 32 := fun e => hne (by rw [h0, e])
    have hb := h.bytes s[0] (List.getElem_mem hk)
    have hs : sepC s[0] = false := by
      have : s[0].toNat ≠ 32 := fun e => hc (eq32 e)
      simp [sepC]; omega
    simp [canonS, canonF, hs]
  | succ k ih =>
    have hk' : k < s.length := by omega
    rw [List.take_succ_eq_append_getElem hk, canonS_snoc, ih hk']
    have hk1 : s[k + 1]? = some s[k + 1] := List.getElem?_eq_getElem hk
    have hb := h.bytes s[k + 1] (List.getElem_mem hk)
    by_cases e1 : s[k]? = some 32
    · have hne : s[k + 1]? ≠ some 32 := h.single k e1
      have hc : s[k + 1].toNat ≠ 32 := fun e => hne (by rw [hk1, eq32 e])
      have hs : sepC s[k + 1] = false := by simp [sepC]; omega
      have hk0 : k ≠ 0 := fun e => by subst e; exact h.first e1
      have hne2 : s.take k ≠ [] := fun e => by
        have := congrArg List.length e
        rw [List.length_take, List.length_nil] at this
        omega
      rw [if_pos e1, if_neg hne]
      have hg : s[k] = 32 := by rw [List.getElem?_eq_getElem hk'] at e1; exact Option.some.inj e1
      unfold canonF
      rw [hs]
      simp only [Bool.true_and, Bool.false_eq_true, if_false]
      rw [if_pos (by simpa using hne2), List.take_succ_eq_append_getElem hk', hg]
    · rw [if_neg e1]
      by_cases e2 : s[k + 1]? = some 32
      · have hg : s[k + 1] = 32 := by rw [hk1] at e2; exact Option.some.inj e2
        rw [if_pos e2, hg]
        rfl
      · have hc : s[k + 1].toNat ≠ 32 := fun e => e2 (by rw [hk1, eq32 e])
        have hs : sepC s[k + 1] = false := by simp [sepC]; omega
        rw [if_neg e2]
        unfold canonF
        rw [hs]
        simp
/-- Canon of a name is the name. -/
theorem canonN_item {s : List UInt8} (h : ItemOK s) : canonN s = s := by
  have hp := h.pos
  have := canonS_item h (s.length - 1) (by omega)
  rw [show s.length - 1 + 1 = s.length by omega, List.take_length, if_neg h.last] at this
  unfold canonN
  rw [this]

/-- A hexadecimal digit, and its value. -/
def hexC (d : Nat) : UInt8 := if d < 10 then UInt8.ofNat (48 + d) else UInt8.ofNat (87 + d)
def hexV (b : UInt8) : Option Nat := if 48 ≤ b.toNat ∧ b.toNat ≤ 57 then some (b.toNat - 48) else if 97 ≤ b.toNat ∧ b.toNat ≤ 102 then some (b.toNat - 87) else none
theorem hexV_C : ∀ d : Fin 16, hexV (hexC d.val) = some d.val := by decide +kernel
theorem hexC_V : ∀ b : Fin 256, ∀ d : Fin 16, hexV (UInt8.ofNat b.val) = some d.val → UInt8.ofNat b.val = hexC d.val := by decide +kernel
theorem hexV_lt {b : UInt8} {d : Nat} (h : hexV b = some d) : d < 16 := by
  unfold hexV at h
  split at h
  · cases h; omega
  · split at h
    · cases h; omega
    · cases h
theorem hexV_eq {b : UInt8} {d : Nat} (h : hexV b = some d) : b = hexC d := by
  have h1 := hexC_V ⟨b.toNat, b.toBitVec.isLt⟩ ⟨d, hexV_lt h⟩
  have e : UInt8.ofNat b.toNat = b := by simp
  simp only [e] at h1
  exact h1 h
/-- A byte as it stands in quotes. -/
def oneN (c : UInt8) : List UInt8 :=
  if c.toNat = 34 ∨ c.toNat = 92 then [92, c] else if c.toNat < 32 ∨ 126 < c.toNat then [92, 120, hexC (c.toNat / 16), hexC (c.toNat % 16)] else [c]
def quoteN (s : List UInt8) : List UInt8 := 34 :: (s.flatMap oneN ++ [34])
/-- The byte that a text begins with as it stands in quotes, and how long that is. -/
def deOne : List UInt8 → Option (UInt8 × Nat)
  | [] => none
  | a :: r =>
    if a.toNat = 92 then
      match r with
      | [] => none
      | b :: r2 =>
        if b.toNat = 34 ∨ b.toNat = 92 then some (b, 2)
        else if b.toNat = 120 then
          match r2 with
          | x :: y :: _ =>
            match hexV x, hexV y with
            | some m, some n => if 16 * m + n < 32 ∨ 126 < 16 * m + n then some (UInt8.ofNat (16 * m + n), 4) else none
            | _, _ => none
          | _ => none
        else none
    else if 32 ≤ a.toNat ∧ a.toNat ≤ 126 ∧ a.toNat ≠ 34 then some (a, 1) else none
theorem oneN_len (c : UInt8) : 1 ≤ (oneN c).length ∧ (oneN c).length ≤ 4 := by
  unfold oneN
  split
  · simp
  · split <;> simp
theorem deOne_one (c : UInt8) (t : List UInt8) : deOne (oneN c ++ t) = some (c, (oneN c).length) := by
  unfold oneN
  have hc : c.toNat < 256 := c.toBitVec.isLt
  split
  · rename_i h
    simp [deOne, h]
  · rename_i h
    split
    · rename_i h2
      have h1 := hexV_C ⟨c.toNat / 16, by omega⟩
      have h3 := hexV_C ⟨c.toNat % 16, by omega⟩
      simp only at h1 h3
      have e : 16 * (c.toNat / 16) + c.toNat % 16 = c.toNat := by omega
      simp [deOne, h1, h3, e, h2]
    · rename_i h2
      have h3 : c.toNat ≠ 92 := fun e => h (.inr e)
      have h4 : c.toNat ≠ 34 := fun e => h (.inl e)
      have h5 : 32 ≤ c.toNat ∧ c.toNat ≤ 126 := by omega
      simp [deOne, h3, h4, h5]
theorem toNat92 {a : UInt8} (h : a.toNat = 92) : a = 92 := UInt8.toNat_inj.1 h
theorem toNat120 {a : UInt8} (h : a.toNat = 120) : a = 120 := UInt8.toNat_inj.1 h
theorem deOne_some {s : List UInt8} {c : UInt8} {n : Nat} (h : deOne s = some (c, n)) : n = (oneN c).length ∧ s = oneN c ++ s.drop n := by
  match s with
  | [] => cases h
  | a :: r =>
    unfold deOne at h
    dsimp only at h
    by_cases ha : a.toNat = 92
    · rw [if_pos ha] at h
      match r with
      | [] => cases h
      | b :: r2 =>
        simp only at h
        by_cases hb : b.toNat = 34 ∨ b.toNat = 92
        · rw [if_pos hb] at h
          cases h
          simp [oneN, hb, toNat92 ha]
        · rw [if_neg hb] at h
          by_cases hx : b.toNat = 120
          · rw [if_pos hx] at h
            match r2 with
            | [] => cases h
            | [_] => cases h
            | x :: y :: r3 =>
              simp only at h
              cases h1 : hexV x with
              | none => rw [h1] at h; cases h
              | some m =>
                cases h2 : hexV y with
                | none => rw [h1, h2] at h; cases h
                | some k =>
                  rw [h1, h2] at h
                  simp only at h
                  have hm := hexV_lt h1
                  have hk := hexV_lt h2
                  split at h
                  · rename_i hv
                    cases h
                    have e : (UInt8.ofNat (16 * m + k)).toNat = 16 * m + k := by rw [UInt8.toNat_ofNat']; omega
                    have h34 : ¬ ((UInt8.ofNat (16 * m + k)).toNat = 34 ∨ (UInt8.ofNat (16 * m + k)).toNat = 92) := by omega
                    have hv' : (UInt8.ofNat (16 * m + k)).toNat < 32 ∨ 126 < (UInt8.ofNat (16 * m + k)).toNat := by omega
                    unfold oneN
                    rw [if_neg h34, if_pos hv', e, show (16 * m + k) / 16 = m by omega, show (16 * m + k) % 16 = k by omega, ← hexV_eq h1, ← hexV_eq h2, toNat92 ha, toNat120 hx]
                    simp
                  · cases h
          · rw [if_neg hx] at h; cases h
    · rw [if_neg ha] at h
      split at h
      · rename_i hv
        cases h
        have h1 : ¬ (c.toNat = 34 ∨ c.toNat = 92) := by omega
        have h2 : ¬ (c.toNat < 32 ∨ 126 < c.toNat) := by omega
        simp [oneN, h1, h2]
      · cases h
theorem deOne_lt {s : List UInt8} {c : UInt8} {n : Nat} (h : deOne s = some (c, n)) : 1 ≤ n ∧ n ≤ s.length := by
  obtain ⟨h1, h2⟩ := deOne_some h
  have hl := oneN_len c
  have := congrArg List.length h2
  rw [List.length_append, List.length_drop] at this
  omega
/-- What stands in quotes: the bytes, and how long it is with the quotation mark at its end. -/
def rdQ : Nat → List UInt8 → Option (List UInt8 × Nat)
  | 0, _ => none
  | _ + 1, [] => none
  | f + 1, a :: r => if a.toNat = 34 then some ([], 1) else match deOne (a :: r) with
    | some (c, n) => (rdQ f ((a :: r).drop n)).map fun x => (c :: x.1, n + x.2)
    | none => none
theorem rdQ_fuel {f g : Nat} {s : List UInt8} (hf : s.length < f) (hg : s.length < g) : rdQ f s = rdQ g s := by
  induction f generalizing g s with
  | zero => omega
  | succ f ih =>
    match g with
    | 0 => omega
    | g + 1 =>
      match s with
      | [] => rfl
      | a :: r =>
        unfold rdQ
        split
        · rfl
        · cases h : deOne (a :: r) with
          | none => rfl
          | some x =>
            obtain ⟨c, n⟩ := x
            have hl := deOne_lt h
            have hd : ((a :: r).drop n).length = (a :: r).length - n := List.length_drop
            simp only
            rw [ih (g := g) (by omega) (by omega)]
def bodyN (s : List UInt8) : Option (List UInt8 × Nat) := rdQ (s.length + 1) s
theorem bodyN_nil : bodyN [] = none := rfl
theorem bodyN_end {a : UInt8} {r : List UInt8} (h : a.toNat = 34) : bodyN (a :: r) = some ([], 1) := by simp [bodyN, rdQ, h]
theorem bodyN_next {s : List UInt8} {c : UInt8} {n : Nat} (h34 : ∀ a, s[0]? = some a → a.toNat ≠ 34) (h : deOne s = some (c, n)) : bodyN s = (bodyN (s.drop n)).map fun x => (c :: x.1, n + x.2) := by
  match s with
  | [] => cases h
  | a :: r =>
    have hl := deOne_lt h
    have hd : ((a :: r).drop n).length = (a :: r).length - n := List.length_drop
    unfold bodyN
    rw [show (a :: r).length + 1 = (a :: r).length.succ from rfl]
    conv => lhs; unfold rdQ
    rw [if_neg (h34 a rfl), h]
    simp only
    rw [rdQ_fuel (g := ((a :: r).drop n).length + 1) (by omega) (by omega)]
theorem bodyN_bad {s : List UInt8} (h34 : ∀ a, s[0]? = some a → a.toNat ≠ 34) (h : deOne s = none) : bodyN s = none := by
  match s with
  | [] => rfl
  | a :: r =>
    unfold bodyN rdQ
    rw [if_neg (h34 a rfl), h]
theorem bodyN_quote (x t : List UInt8) : bodyN (x.flatMap oneN ++ 34 :: t) = some (x, (x.flatMap oneN).length + 1) := by
  induction x with
  | nil => exact bodyN_end rfl
  | cons c r ih =>
    have e : (c :: r).flatMap oneN ++ 34 :: t = oneN c ++ (r.flatMap oneN ++ 34 :: t) := by simp
    have hl := oneN_len c
    rw [e, bodyN_next (c := c) (n := (oneN c).length) ?_ (deOne_one c _), List.drop_left, ih]
    · simp; omega
    · intro a ha
      have h0 : (oneN c ++ (r.flatMap oneN ++ 34 :: t))[0]? = (oneN c)[0]? := List.getElem?_append_left (by omega)
      rw [h0] at ha
      unfold oneN at ha
      split at ha
      · cases ha; decide
      · rename_i h1
        split at ha
        · cases ha; decide
        · cases ha; omega
theorem bodyN_len {s x : List UInt8} {n : Nat} (h : bodyN s = some (x, n)) : 1 ≤ n ∧ n ≤ s.length := by
  suffices hh : ∀ f s x n, rdQ f s = some (x, n) → 1 ≤ n ∧ n ≤ s.length from hh _ s x n h
  intro f
  induction f with
  | zero => intro s x n h; cases h
  | succ f ih =>
    intro s x n h
    match s with
    | [] => cases h
    | a :: r =>
      unfold rdQ at h
      split at h
      · cases h; simp
      · cases hd : deOne (a :: r) with
        | none => rw [hd] at h; cases h
        | some y =>
          obtain ⟨c, m⟩ := y
          rw [hd] at h
          simp only [Option.map_eq_some_iff] at h
          obtain ⟨⟨x2, n2⟩, h2, e⟩ := h
          cases e
          have hl := deOne_lt hd
          have := ih _ _ _ h2
          rw [List.length_drop] at this
          simp only
          omega
/-- The string in quotes that a text begins with, and how long it is there. -/
def firstN (s : List UInt8) : Option (List UInt8 × Nat) := match s with
  | [] => none
  | a :: r => if a.toNat = 34 then (bodyN r).map fun x => (x.1, x.2 + 1) else none
def unquoteN (s : List UInt8) : Option (List UInt8) := match firstN s with
  | some (x, n) => if n = s.length then some x else none
  | none => none
theorem firstN_quote (x t : List UInt8) : firstN (quoteN x ++ t) = some (x, (quoteN x).length) := by
  have e : quoteN x ++ t = 34 :: (x.flatMap oneN ++ 34 :: t) := by simp [quoteN]
  rw [e]
  show (if (34 : UInt8).toNat = 34 then (bodyN (x.flatMap oneN ++ 34 :: t)).map (fun x => (x.1, x.2 + 1)) else none) = _
  rw [if_pos (by decide), bodyN_quote]
  simp [quoteN]
theorem firstN_len {s x : List UInt8} {n : Nat} (h : firstN s = some (x, n)) : 2 ≤ n ∧ n ≤ s.length := by
  unfold firstN at h
  match s with
  | [] => cases h
  | a :: r =>
    simp only at h
    split at h
    · simp only [Option.map_eq_some_iff] at h
      obtain ⟨⟨x2, n2⟩, h2, e⟩ := h
      cases e
      have := bodyN_len h2
      simp only [List.length_cons]
      omega
    · cases h
/-- Unquote inverts Quote. -/
theorem unquoteN_quote (x : List UInt8) : unquoteN (quoteN x) = some x := by
  have := firstN_quote x []
  rw [List.append_nil] at this
  simp [unquoteN, this]
theorem oneN_bytes (c : UInt8) : ∀ b ∈ oneN c, 32 ≤ b.toNat ∧ b.toNat ≤ 126 := by
  have hc : c.toNat < 256 := c.toBitVec.isLt
  have hh : ∀ d : Fin 16, 32 ≤ (hexC d.val).toNat ∧ (hexC d.val).toNat ≤ 126 := by decide +kernel
  unfold oneN
  intro b hb
  split at hb
  · rename_i h
    simp only [List.mem_cons, List.not_mem_nil, or_false] at hb
    rcases hb with rfl | rfl
    · decide
    · omega
  · split at hb
    · simp only [List.mem_cons, List.not_mem_nil, or_false] at hb
      rcases hb with rfl | rfl | rfl | rfl
      · decide
      · decide
      · exact hh ⟨c.toNat / 16, by omega⟩
      · exact hh ⟨c.toNat % 16, by omega⟩
    · simp only [List.mem_cons, List.not_mem_nil, or_false] at hb
      subst hb
      omega
/-- A string in quotes has only bytes from 32 to 126. -/
theorem quoteN_bytes (x : List UInt8) : ∀ b ∈ quoteN x, 32 ≤ b.toNat ∧ b.toNat ≤ 126 := by
  intro b hb
  unfold quoteN at hb
  simp only [List.mem_cons, List.mem_append, List.mem_flatMap, List.not_mem_nil, or_false] at hb
  rcases hb with rfl | ⟨c, _, h⟩ | rfl
  · decide
  · exact oneN_bytes c b h
  · decide
theorem quoteN_len (x : List UInt8) : 2 ≤ (quoteN x).length ∧ (quoteN x).length ≤ 4 * x.length + 2 := by
  have h : (x.flatMap oneN).length ≤ 4 * x.length := by
    induction x with
    | nil => simp
    | cons c r ih =>
      have := oneN_len c
      rw [List.flatMap_cons, List.length_append, List.length_cons]
      omega
  simp only [quoteN, List.length_cons, List.length_append, List.length_nil]
  omega

/-- A field that is no string in quotes: bytes that are neither spaces nor quotation marks. -/
def plainL (s : List UInt8) : List UInt8 := s.takeWhile fun c => c.toNat != 32 && c.toNat != 34
theorem plainL_len (s : List UInt8) : (plainL s).length ≤ s.length := (List.takeWhile_prefix _).length_le
/-- The field that a text begins with: what it stands for, and how long it is. -/
def fieldN (s : List UInt8) : Option (List UInt8 × Nat) := match s with
  | [] => none
  | a :: _ => if a.toNat = 34 then firstN s else some (plainL s, (plainL s).length)
/-- What the fields of a line stand for. -/
def rdF : Nat → List UInt8 → Option (List (List UInt8))
  | 0, _ => none
  | _ + 1, [] => some []
  | f + 1, a :: r => if a.toNat = 32 then rdF f r else match fieldN (a :: r) with
    | none => none
    | some (x, n) => match (a :: r).drop n with
      | [] => some [x]
      | b :: t => if b.toNat = 32 then (rdF f (b :: t)).map (x :: ·) else none
theorem fieldN_len {a : UInt8} {r x : List UInt8} {n : Nat} (ha : a.toNat ≠ 32) (h : fieldN (a :: r) = some (x, n)) : 1 ≤ n ∧ n ≤ (a :: r).length := by
  unfold fieldN at h
  simp only at h
  split at h
  · have := firstN_len h
    omega
  · rename_i h34
    cases h
    refine ⟨?_, plainL_len _⟩
    have : (plainL (a :: r)) = a :: plainL r := by
      have hp : (a.toNat != 32 && a.toNat != 34) = true := by simp [ha, h34]
      simp [plainL, hp]
    rw [this]
    simp
theorem rdF_fuel {f g : Nat} {s : List UInt8} (hf : s.length < f) (hg : s.length < g) : rdF f s = rdF g s := by
  induction f generalizing g s with
  | zero => omega
  | succ f ih =>
    match g with
    | 0 => omega
    | g + 1 =>
      match s with
      | [] => rfl
      | a :: r =>
        have hl : (a :: r).length = r.length + 1 := rfl
        unfold rdF
        split
        · exact ih (by omega) (by omega)
        · rename_i ha
          cases h : fieldN (a :: r) with
          | none => rfl
          | some y =>
            obtain ⟨x, n⟩ := y
            have hn := fieldN_len ha h
            simp only
            cases hd : (a :: r).drop n with
            | nil => rfl
            | cons b t =>
              have hd2 : ((a :: r).drop n).length = (a :: r).length - n := List.length_drop
              rw [hd] at hd2
              simp only
              split
              · rw [ih (g := g) (by omega) (by omega)]
              · rfl
def fieldsN (s : List UInt8) : Option (List (List UInt8)) := rdF (s.length + 1) s
theorem fieldsN_nil : fieldsN [] = some [] := rfl
theorem fieldsN_space {a : UInt8} {r : List UInt8} (h : a.toNat = 32) : fieldsN (a :: r) = fieldsN r := by
  unfold fieldsN
  conv => lhs; unfold rdF
  rw [if_pos h]
  exact rdF_fuel (by simp) (by simp)
theorem fieldsN_none {a : UInt8} {r : List UInt8} (h : a.toNat ≠ 32) (hn : fieldN (a :: r) = none) : fieldsN (a :: r) = none := by
  unfold fieldsN rdF
  rw [if_neg h, hn]
theorem fieldsN_last {a : UInt8} {r x : List UInt8} {n : Nat} (h : a.toNat ≠ 32) (hn : fieldN (a :: r) = some (x, n)) (hd : (a :: r).drop n = []) : fieldsN (a :: r) = some [x] := by
  unfold fieldsN rdF
  rw [if_neg h, hn]
  simp only [hd]
theorem fieldsN_next {a b : UInt8} {r t x : List UInt8} {n : Nat} (h : a.toNat ≠ 32) (hn : fieldN (a :: r) = some (x, n)) (hd : (a :: r).drop n = b :: t) (hb : b.toNat = 32) : fieldsN (a :: r) = (fieldsN (b :: t)).map (x :: ·) := by
  have hl := fieldN_len h hn
  have hd2 : ((a :: r).drop n).length = (a :: r).length - n := List.length_drop
  rw [hd] at hd2
  unfold fieldsN
  conv => lhs; unfold rdF
  rw [if_neg h, hn]
  simp only [hd]
  rw [if_pos hb, rdF_fuel (g := (b :: t).length + 1) (by omega) (by omega)]
theorem fieldsN_bad {a b : UInt8} {r t x : List UInt8} {n : Nat} (h : a.toNat ≠ 32) (hn : fieldN (a :: r) = some (x, n)) (hd : (a :: r).drop n = b :: t) (hb : b.toNat ≠ 32) : fieldsN (a :: r) = none := by
  unfold fieldsN rdF
  rw [if_neg h, hn]
  simp only [hd]
  rw [if_neg hb]
theorem fieldsN_spaces (k : Nat) (r : List UInt8) : fieldsN (List.replicate k 32 ++ r) = fieldsN r := by
  induction k with
  | zero => rfl
  | succ k ih => rw [List.replicate_succ, List.cons_append, fieldsN_space rfl, ih]
/-- A string in quotes, and then nothing or a space. -/
theorem fieldsN_quote (x t : List UInt8) (ht : ∀ b, t[0]? = some b → b.toNat = 32) : fieldsN (quoteN x ++ t) = (fieldsN t).map (x :: ·) := by
  have e : quoteN x ++ t = 34 :: (x.flatMap oneN ++ 34 :: t) := by simp [quoteN]
  have hf : fieldN (34 :: (x.flatMap oneN ++ 34 :: t)) = some (x, (quoteN x).length) := by
    rw [← firstN_quote x t, e]; rfl
  have hd : (34 :: (x.flatMap oneN ++ 34 :: t)).drop (quoteN x).length = t := by rw [← e, List.drop_left]
  rw [e]
  match t, ht, hf, hd with
  | [], _, hf, hd => rw [fieldsN_last (by decide) hf hd]; rfl
  | b :: t, ht, hf, hd => exact fieldsN_next (by decide) hf hd (ht b rfl)
/-- Strings in quotes, joined by spaces. -/
def lineN (k : Nat) (l : List (List UInt8)) : List UInt8 := l.flatMap fun x => List.replicate k 32 ++ quoteN x
theorem lineN_fields (k j : Nat) (hk : 1 ≤ k) (l : List (List UInt8)) : fieldsN (lineN k l ++ List.replicate j 32) = some l := by
  induction l with
  | nil =>
    have := fieldsN_spaces j []
    rw [List.append_nil] at this
    exact this
  | cons x r ih =>
    have e : lineN k (x :: r) ++ List.replicate j 32 = List.replicate k 32 ++ (quoteN x ++ (lineN k r ++ List.replicate j 32)) := by simp [lineN]
    rw [e, fieldsN_spaces, fieldsN_quote, ih]
    · rfl
    · intro b hb
      match r, k, j, hk, hb with
      | [], _, 0, _, hb => cases hb
      | [], _, j + 1, _, hb => cases hb; rfl
      | y :: r, k + 1, _, _, hb => simp [lineN, List.replicate_succ] at hb; subst hb; rfl

end Go.Proofs.YtfbkhgajlklleaaGreat
