/- Several texts in one: NamL, NamP1. -/
import Derived.Test.YtgdnibahiomneaaGreatMAG
import Derived.Lib.FieldsP
import Derived.Lib.Join
import Derived.Lib.TrimUEq
import Derived.Lib.SpaceUEq
import Derived.Test.YtgdnibahiomneaaGreatMAH
import Derived.Test.YtgdnibahiomneaaGreatShelfT
import Derived.Lib.SlBytesRow
namespace Go.Proofs.YtgdnibahiomneaaGreat

section

/-! ## What is made canonical -/
theorem sep_toNat (c : UInt8) : sepC c = true ↔ c.toNat = 9 ∨ c.toNat = 10 ∨ c.toNat = 13 ∨ c.toNat = 32 := by
  simp [sepC, or_assoc]
/-- No space at the ends, none behind another one. -/
structure Nice (l : List UInt8) : Prop where
  first : l[0]? ≠ some 32
  last : l[l.length - 1]? ≠ some 32
  single : ∀ i : Nat, l[i]? = some 32 → l[i + 1]? ≠ some 32
theorem Nice.nil : Nice [] := ⟨by simp, by simp, fun i h => by simp at h⟩
theorem Nice.snoc {l : List UInt8} (h : Nice l) {c : UInt8} (hc : c ≠ 32) : Nice (l ++ [c]) := by
  refine ⟨?_, ?_, ?_⟩
  · match l, h with
    | [], _ => simpa using hc
    | a :: r, h => simpa using h.first
  · simp only [List.length_append, List.length_singleton, Nat.add_sub_cancel, List.getElem?_append_right (Nat.le_refl _), Nat.sub_self]
    simpa using hc
  · intro i hi
    rcases Nat.lt_trichotomy (i + 1) l.length with h1 | h1 | h1
    · rw [List.getElem?_append_left (by omega)] at hi ⊢
      exact h.single i hi
    · rw [List.getElem?_append_left (by omega)] at hi
      rw [List.getElem?_append_right (by omega), h1, Nat.sub_self]
      have := h.last
      rw [← h1, Nat.add_sub_cancel] at this
      exact absurd hi this
    · rw [List.getElem?_append_right (by omega)]
      have : i + 1 - l.length ≠ 0 := by omega
      rw [List.getElem?_eq_none (by simp; omega)]
      simp
theorem Nice.snoc2 {l : List UInt8} (h : Nice l) (hl : l ≠ []) {c : UInt8} (hc : c ≠ 32) : Nice (l ++ [32] ++ [c]) := by
  have h0 : 0 < l.length := List.length_pos_iff.2 hl
  rw [List.append_assoc]
  refine ⟨?_, ?_, ?_⟩
  · rw [List.getElem?_append_left h0]; exact h.first
  · simp only [List.length_append, List.length_singleton]
    rw [List.getElem?_append_right (by omega), show l.length + (1 + 1) - 1 - l.length = 1 by omega]
    simpa using hc
  · intro i hi
    rcases Nat.lt_trichotomy (i + 1) l.length with h1 | h1 | h1
    · rw [List.getElem?_append_left (by omega)] at hi ⊢
      exact h.single i hi
    · rw [List.getElem?_append_left (by omega)] at hi
      have := h.last
      rw [← h1, Nat.add_sub_cancel] at this
      exact absurd hi this
    · rw [List.getElem?_append_right (by omega)] at hi ⊢
      rcases Nat.eq_or_lt_of_le (show l.length ≤ i by omega) with e | e
      · rw [show i + 1 - l.length = 1 by omega]
        simpa using hc
      · rw [List.getElem?_eq_none (by simp; omega)]
        simp
theorem canonF_nice {st : List UInt8 × Bool} (h : Nice st.1) (c : UInt8) : Nice (canonF st c).1 := by
  unfold canonF
  split
  · exact h
  · rename_i hs
    have hc : c ≠ 32 := fun e => by subst e; exact hs (by decide)
    simp only
    split
    · rename_i h2
      exact h.snoc2 (by simp at h2; exact h2.2) hc
    · rw [List.append_nil]; exact h.snoc hc
theorem canonS_nice (s : List UInt8) : Nice (canonS s).1 := by
  suffices h : ∀ k, k ≤ s.length → Nice (canonS (s.take k)).1 by
    have := h s.length (Nat.le_refl _)
    rwa [List.take_length] at this
  intro k
  induction k with
  | zero => intro _; simp [canonS, Nice.nil]
  | succ k ih =>
    intro hk
    rw [List.take_succ_eq_append_getElem (by omega), canonS_snoc]
    exact canonF_nice (ih (by omega)) _
def printC (c : UInt8) : Bool := decide (32 ≤ c.toNat) && decide (c.toNat ≤ 126)
/-- The names are what is short, of bytes that can be printed, and canonical. -/
theorem itemN_canon (s : List UInt8) : itemN s = ((decide (1 ≤ s.length) && decide (s.length ≤ 64) && s.all printC) && canonN s == s) := by
  have h1 : itemN s = true ↔ ((decide (1 ≤ s.length) && decide (s.length ≤ 64) && s.all printC) && canonN s == s) = true := by
    rw [itemN_iff]
    simp only [Bool.and_eq_true, decide_eq_true_eq, beq_iff_eq, List.all_eq_true, printC]
    constructor
    · intro h
      exact ⟨⟨⟨h.pos, h.short⟩, h.bytes⟩, canonN_item h⟩
    · rintro ⟨⟨⟨h1, h2⟩, h3⟩, h4⟩
      have hn := canonS_nice s
      have h4' : (canonS s).1 = s := h4
      rw [h4'] at hn
      exact ⟨h1, h2, hn.first, hn.last, h3, hn.single⟩
  cases h2 : itemN s with
  | true => exact (h1.1 h2).symm
  | false =>
    cases h3 : ((decide (1 ≤ s.length) && decide (s.length ≤ 64) && s.all printC) && canonN s == s) with
    | false => rfl
    | true => rw [h1.2 h3] at h2; cases h2

/-! ## Words by runes are words by bytes -/
/-- The runes that separate words. -/
def sepR (r : Nat) : Bool := r == 9 || r == 10 || r == 13 || r == 32
theorem join_snoc (A : List (List UInt8)) (x : List UInt8) : Lib.join (A ++ [x]) [32] = if A = [] then x else Lib.join A [32] ++ [32] ++ x := by
  match A with
  | [] => simp [Lib.join_one]
  | a :: r =>
    rw [if_neg (by simp), List.cons_append, Lib.join_cons, Lib.join_cons]
    simp [Lib.joinTail]
theorem join_ne {A : List (List UInt8)} (hA : A ≠ []) (h : ∀ x ∈ A, x ≠ []) : Lib.join A [32] ≠ [] := by
  match A, hA with
  | a :: r, _ =>
    rw [Lib.join_cons]
    have := h a (by simp)
    cases a with
    | nil => exact absurd rfl this
    | cons b t => simp
theorem fold_plain (bs : List UInt8) (hb : ∀ c ∈ bs, sepC c = false) (l : List UInt8) : bs.foldl canonF (l, false) = (l ++ bs, false) := by
  induction bs generalizing l with
  | nil => simp
  | cons c r ih =>
    rw [List.foldl_cons]
    have : canonF (l, false) c = (l ++ [c], false) := by
      unfold canonF
      rw [hb c (by simp)]
      simp
    rw [this, ih (fun c hc => hb c (by simp [hc]))]
    simp
theorem fold_word (c : UInt8) (r : List UInt8) (hb : ∀ x ∈ c :: r, sepC x = false) (l : List UInt8) (f : Bool) : (c :: r).foldl canonF (l, f) = (l ++ (if f && l != [] then [32] else []) ++ (c :: r), false) := by
  rw [List.foldl_cons]
  have : canonF (l, f) c = (l ++ (if f && l != [] then [32] else []) ++ [c], false) := by
    unfold canonF
    rw [hb c (by simp)]
    simp
  rw [this, fold_plain r (fun x hx => hb x (by simp [hx]))]
  simp
def piece (l : List UInt8) (x : Nat × Nat) : List UInt8 := (l.drop x.1).take (x.2 - x.1)
theorem piece_len (l : List UInt8) (a b : Nat) (h : b ≤ l.length) : (piece l (a, b)).length = b - a := by
  unfold piece
  rw [List.length_take, List.length_drop]
  simp only
  omega
theorem piece_grow (l : List UInt8) (a b k : Nat) (h : a ≤ b) : piece l (a, b + k) = piece l (a, b) ++ (l.drop b).take k := by
  unfold piece
  simp only
  rw [show b + k - a = (b - a) + k by omega, List.take_add, List.drop_drop, show a + (b - a) = b by omega]
def wordsAt (l : List UInt8) (acc : List (Nat × Nat)) : List (List UInt8) := acc.map (piece l)
/-- What the spans so far have to do with what is canonical so far. -/
structure SpanRel (l : List UInt8) (pos : Nat) (st : Option Nat) (acc : List (Nat × Nat)) : Prop where
  ne : ∀ x ∈ wordsAt l acc, x ≠ []
  opn : ∀ a, st = some a → a < pos ∧ canonS (l.take pos) = (Lib.join (wordsAt l acc ++ [piece l (a, pos)]) [32], false)
  shut : st = none → ∃ f, canonS (l.take pos) = (Lib.join (wordsAt l acc) [32], f) ∧ (f = true ∨ acc = [])
theorem canonS_take_add (l : List UInt8) (p k : Nat) : canonS (l.take (p + k)) = ((l.drop p).take k).foldl canonF (canonS (l.take p)) := by
  rw [List.take_add, canonS, canonS, List.foldl_append]
theorem wordsAt_snoc (l : List UInt8) (acc : List (Nat × Nat)) (x : Nat × Nat) : wordsAt l (acc ++ [x]) = wordsAt l acc ++ [piece l x] := by simp [wordsAt]
def accS (pos : Nat) (acc : List (Nat × Nat)) : Option Nat → List (Nat × Nat)
  | .some a => acc ++ [(a, pos)]
  | .none => acc
def stW (pos : Nat) : Option Nat → Option Nat
  | .some a => .some a
  | .none => .some pos
theorem SpanRel.sep {l : List UInt8} {pos : Nat} {st : Option Nat} {acc : List (Nat × Nat)} (h : SpanRel l pos st acc) (hp : pos < l.length) (hs : sepC l[pos] = true) :
    SpanRel l (pos + 1) none (accS pos acc st) := by
  have h1 : (l.drop pos).take 1 = [l[pos]] := by
    rw [List.drop_eq_getElem_cons hp]; rfl
  match st, h with
  | .some a, h =>
    obtain ⟨h2, h3⟩ := h.opn a rfl
    refine ⟨?_, fun _ e => (by cases e), fun _ => ⟨true, ?_, .inl rfl⟩⟩
    · intro x hx
      rw [show accS pos acc (some a) = acc ++ [(a, pos)] from rfl, wordsAt_snoc, List.mem_append] at hx
      rcases hx with hx | hx
      · exact h.ne x hx
      · simp at hx
        subst hx
        intro e
        have := piece_len l a pos (by omega)
        rw [e] at this
        simp at this
        omega
    · rw [canonS_take_add, h1, h3, show accS pos acc (some a) = acc ++ [(a, pos)] from rfl, wordsAt_snoc]
      simp [canonF, hs]
  | .none, h =>
    obtain ⟨f, h3, h4⟩ := h.shut rfl
    refine ⟨h.ne, fun _ e => (by cases e), fun _ => ⟨true, ?_, .inl rfl⟩⟩
    rw [canonS_take_add, h1, h3]
    simp [canonF, hs, accS]
theorem SpanRel.word {l : List UInt8} {pos n : Nat} {st : Option Nat} {acc : List (Nat × Nat)} (h : SpanRel l pos st acc) (hn : 1 ≤ n) (hp : pos + n ≤ l.length) (hs : ∀ c ∈ (l.drop pos).take n, sepC c = false) :
    SpanRel l (pos + n) (stW pos st) acc := by
  match st, h with
  | .some a, h =>
    obtain ⟨h2, h3⟩ := h.opn a rfl
    refine ⟨h.ne, fun b e => ?_, fun e => (by cases e)⟩
    cases e
    refine ⟨by omega, ?_⟩
    rw [canonS_take_add, h3, fold_plain _ hs, piece_grow l a pos n (by omega), join_snoc, join_snoc]
    split <;> simp
  | .none, h =>
    obtain ⟨f, h3, h4⟩ := h.shut rfl
    refine ⟨h.ne, fun b e => ?_, fun e => (by cases e)⟩
    cases e
    refine ⟨by omega, ?_⟩
    rw [canonS_take_add, h3]
    have hl : ((l.drop pos).take n).length = n := by rw [List.length_take, List.length_drop]; omega
    have e0 : piece l (pos, pos + n) = (l.drop pos).take n := by
      unfold piece
      simp only
      rw [show pos + n - pos = n by omega]
    rw [e0]
    match hm : (l.drop pos).take n, hl, hs with
    | [], hl, _ => simp at hl; omega
    | c :: r, _, hs =>
      rw [fold_word c r hs, join_snoc]
      by_cases ha : acc = []
      · subst ha
        simp [wordsAt, Lib.join_nil]
      · have hw : wordsAt l acc ≠ [] := by simpa [wordsAt] using ha
        have hf : f = true := h4.resolve_right ha
        have hj := join_ne hw h.ne
        rw [if_neg hw, hf]
        simp [hj]
/-- A rune: a byte below 128, or bytes none of which separates words. -/
theorem rune_step (l : List UInt8) (pos : Nat) (hp : pos < l.length) (r n : Nat) (hd : Utf8.decode ⟨l.toArray⟩ pos = (r, n)) :
    1 ≤ n ∧ pos + n ≤ l.length ∧ (sepR r = true → n = 1 ∧ sepC l[pos] = true) ∧ (sepR r = false → ∀ c ∈ (l.drop pos).take n, sepC c = false) := by
  have hlist : (ByteArray.mk l.toArray).data.toList = l := rfl
  have hN := Lib.decode_N ⟨l.toArray⟩ pos
  rw [hlist, hd] at hN
  have hg : ∀ k, pos + k < l.length → (l.getD (pos + k) 0) = (l.drop pos).getD k 0 := fun k _ => by simp [List.getD, List.getElem?_drop]
  have h0 : l.getD pos 0 = l[pos] := by simp [List.getD, hp]
  have hc := Lib.decodeN_conts (l.length - pos) (l.getD pos 0).toNat (l.getD (pos + 1) 0).toNat (l.getD (pos + 2) 0).toNat (l.getD (pos + 3) 0).toNat
  rw [← hN] at hc
  obtain ⟨c2, c3, c4, c5⟩ := hc
  simp only at c2 c3 c4 c5
  have w1 : 1 ≤ n := by
    have := Lib.width_pos ⟨l.toArray⟩ pos
    rw [hd] at this
    exact this
  have w2 : pos + n ≤ l.length := by omega
  have hmem : ∀ c ∈ (l.drop pos).take n, ∃ k, k < n ∧ c = l.getD (pos + k) 0 := by
    intro c hc
    obtain ⟨k, hk, e⟩ := List.getElem_of_mem hc
    rw [List.length_take, List.length_drop] at hk
    refine ⟨k, by omega, ?_⟩
    rw [← e, List.getElem_take, List.getElem_drop]
    simp [List.getD, show pos + k < l.length by omega]
  by_cases ha : l[pos].toNat < 128
  · have e : (r, n) = (l[pos].toNat, 1) := by
      rw [hN, h0]
      unfold Lib.decodeN
      rw [if_pos ha]
    cases e
    refine ⟨w1, w2, fun hs => ⟨rfl, by simpa [sepR, sepC] using hs⟩, fun hs c hc => ?_⟩
    obtain ⟨k, hk, rfl⟩ := hmem c hc
    obtain rfl : k = 0 := by omega
    rw [Nat.add_zero, h0]
    simpa [sepR, sepC] using hs
  · have hr : 128 ≤ r := by
      have e : r = (Lib.decodeN (l.length - pos) (l.getD pos 0).toNat (l.getD (pos + 1) 0).toNat (l.getD (pos + 2) 0).toNat (l.getD (pos + 3) 0).toNat).1 := by rw [← hN]
      rw [e, h0]
      unfold Lib.decodeN
      rw [if_neg ha]
      repeat' split
      all_goals (simp only; omega)
    refine ⟨w1, w2, fun hs => ?_, fun _ c hc => ?_⟩
    · simp [sepR] at hs
      omega
    · obtain ⟨k, hk, rfl⟩ := hmem c hc
      have : 128 ≤ (l.getD (pos + k) 0).toNat := by
        match k, hk with
        | 0, _ => rw [Nat.add_zero, h0]; omega
        | 1, hk => have := (c2 (by omega)).1; omega
        | 2, hk => have := (c3 (by omega)).1; omega
        | 3, hk => have := (c4 (by omega)).1; omega
        | k + 4, hk => omega
      cases e : sepC (l.getD (pos + k) 0) with
      | false => rfl
      | true => rw [sep_toNat] at e; omega
theorem spans_rel (l : List UInt8) : ∀ (f pos : Nat) (st : Option Nat) (acc : List (Nat × Nat)), l.length ≤ pos + f → pos ≤ l.length → SpanRel l pos st acc →
    SpanRel l l.length (Lib.spansFromP sepR ⟨l.toArray⟩ f pos st acc).2 (Lib.spansFromP sepR ⟨l.toArray⟩ f pos st acc).1
  | 0, pos, st, acc, h, hp, hr => by
    obtain rfl : pos = l.length := by omega
    exact hr
  | f + 1, pos, st, acc, h, hp, hr => by
    have hsz : (ByteArray.mk l.toArray).size = l.length := by show l.toArray.size = _; simp
    by_cases hlt : pos < l.length
    · obtain ⟨r, n, hd⟩ : ∃ r n, Utf8.decode ⟨l.toArray⟩ pos = (r, n) := ⟨_, _, rfl⟩
      obtain ⟨w1, w2, w3, w4⟩ := rune_step l pos hlt r n hd
      unfold Lib.spansFromP
      rw [if_pos (by rw [hsz]; exact hlt), hd]
      simp only
      by_cases hs : sepR r = true
      · obtain ⟨rfl, h2⟩ := w3 hs
        rw [if_pos hs]
        have h3 := hr.sep hlt h2
        match st, h3 with
        | some a, h3 => exact spans_rel l f _ _ _ (by omega) (by omega) h3
        | none, h3 => exact spans_rel l f _ _ _ (by omega) (by omega) h3
      · rw [if_neg hs]
        have h3 := hr.word w1 w2 (w4 (by simpa using hs))
        match st, h3 with
        | some a, h3 => exact spans_rel l f _ _ _ (by omega) (by omega) h3
        | none, h3 => exact spans_rel l f _ _ _ (by omega) (by omega) h3
    · obtain rfl : pos = l.length := by omega
      rw [Lib.spansFromP_end _ _ _ _ _ _ (by rw [hsz]; omega)]
      exact hr
theorem extract_piece (l : List UInt8) (a b : Nat) : ((ByteArray.mk l.toArray).extract a b).data.toList = piece l (a, b) := by
  unfold piece
  simp [List.extract]
/-- The words of FieldsFunc, joined by spaces, are what is canonical. -/
theorem words_canon (l : List UInt8) : Lib.join ((Lib.goFieldsP sepR ⟨l.toArray⟩).map (·.data.toList)) [32] = canonN l := by
  have hsz : (ByteArray.mk l.toArray).size = l.length := by show l.toArray.size = _; simp
  have h := spans_rel l l.length 0 none [] (by omega) (by omega) ⟨by simp [wordsAt], fun _ e => (by cases e), fun _ => ⟨false, by simp [canonS, wordsAt, Lib.join_nil], .inr rfl⟩⟩
  have e : (Lib.goFieldsP sepR ⟨l.toArray⟩).map (·.data.toList) = wordsAt l (Lib.spansOfP sepR ⟨l.toArray⟩) := by
    unfold Lib.goFieldsP wordsAt
    rw [List.map_map]
    refine List.map_congr_left fun x _ => ?_
    exact extract_piece l x.1 x.2
  rw [e]
  unfold Lib.spansOfP Lib.closeSpans
  rw [hsz]
  generalize Lib.spansFromP sepR ⟨l.toArray⟩ l.length 0 none [] = x at h
  obtain ⟨acc, st⟩ := x
  match st, h with
  | some a, h =>
    obtain ⟨_, h2⟩ := h.opn a rfl
    rw [List.take_length] at h2
    unfold canonN
    rw [h2, wordsAt_snoc]
  | none, h =>
    obtain ⟨f, h2, _⟩ := h.shut rfl
    rw [List.take_length] at h2
    unfold canonN
    rw [h2]
theorem words_len (l : List UInt8) : (Lib.goFieldsP sepR ⟨l.toArray⟩).length ≤ 2 * l.length + 1 := by
  have h := words_canon l
  have h2 := canonS_len l
  have h3 : (Lib.join ((Lib.goFieldsP sepR ⟨l.toArray⟩).map (·.data.toList)) [32]).length ≤ 2 * l.length := by rw [h]; exact h2
  match hm : Lib.goFieldsP sepR ⟨l.toArray⟩, h3 with
  | [], _ => simp
  | x :: r, h3 =>
    rw [List.map_cons, Lib.join_length] at h3
    simp at h3
    simp only [List.length_cons]
    omega

end

section
open Go.RowKit

theorem below_drewN' {B : Nat} {a w : World} (h : Below B a w) (n : Nat) : Below B a (w.drewN n) := ⟨h.os, h.tape, h.output, h.size, h.block⟩

theorem printable (c : UInt8) (w : World) : Calls Tryz.prog 85 #[.int .u8 (c.toNat : Int)] w (One (.bool (printC c)) w) := by
  have h8 := toNat8 c
  have HN := Lib.hid (show printC c = (decide (32 ≤ c.toNat) && decide (c.toNat ≤ 126)) from rfl)
  generalize printC c = b at *
  by_cases h1 : 32 ≤ c.toNat
  · have k1 : (32 : Int) ≤ (c.toNat : Int) := by omega
    by_cases h2 : c.toNat ≤ 126
    · have k2 : (c.toNat : Int) ≤ 126 := by omega
      have HE := Lib.hid (show true = b from by rw [HN.out]; simp [h1, h2])
      clear h1 h2
      go_enter Tryz.func85, Tryz.ntmps85
      go_wp2_with fail
      go_ret
      exact One.bool _ HE.out
    · have k2 : ¬ (c.toNat : Int) ≤ 126 := by omega
      have HE := Lib.hid (show false = b from by rw [HN.out]; simp [h2])
      clear h1 h2
      go_enter Tryz.func85, Tryz.ntmps85
      go_wp2_with fail
      go_ret
      exact One.bool _ HE.out
  · have k1 : ¬ (32 : Int) ≤ (c.toNat : Int) := by omega
    have HE := Lib.hid (show false = b from by rw [HN.out]; simp [h1])
    clear h1
    go_enter Tryz.func85, Tryz.ntmps85
    go_wp2_with fail
    go_ret
    exact One.bool _ HE.out
theorem parts (r : Nat) (w : World) : Calls Tryz.prog 98 #[.int .i32 (r : Int)] w (One (.bool (sepR r)) w) := by
  by_cases c1 : r = 9 ∨ r = 10 ∨ r = 13 ∨ r = 32
  · have HN := Lib.hid (show true = sepR r from by rcases c1 with rfl | rfl | rfl | rfl <;> rfl)
    rcases c1 with hc | hc | hc | hc
    all_goals
      (first | have k5 : ((r : Int) == 9) = true := eqT (by omega)
             | have k5 : ((r : Int) == 9) = false := eqF (by omega))
      (first | have k6 : ((r : Int) == 10) = true := eqT (by omega)
             | have k6 : ((r : Int) == 10) = false := eqF (by omega))
      (first | have k7 : ((r : Int) == 13) = true := eqT (by omega)
             | have k7 : ((r : Int) == 13) = false := eqF (by omega))
      (first | have k8 : ((r : Int) == 32) = true := eqT (by omega)
             | have k8 : ((r : Int) == 32) = false := eqF (by omega))
      clear hc
      go_enter Tryz.func98, Tryz.ntmps98
      go_wp2_with fail
      go_ret
      exact One.bool _ HN.out
  · have HN := Lib.hid (show false = sepR r from by
      cases e : sepR r with
      | false => rfl
      | true => exact absurd (by simpa [sepR, or_assoc] using e) c1)
    have k5 : ((r : Int) == 9) = false := eqF (by omega)
    have k6 : ((r : Int) == 10) = false := eqF (by omega)
    have k7 : ((r : Int) == 13) = false := eqF (by omega)
    have k8 : ((r : Int) == 32) = false := eqF (by omega)
    clear c1
    go_enter Tryz.func98, Tryz.ntmps98
    go_wp2_with fail
    go_ret
    exact One.bool _ HN.out

theorem canonN_len0 (l : List UInt8) : (canonN l).length ≤ 2 * l.length := canonS_len l
/-- What is canonical, by the library's FieldsFunc and Join. -/
theorem libFields (l : List UInt8) (w : World) (hl : l.length ≤ 1000000) :
    Calls Tryz.prog 97 #[.string ⟨l.toArray⟩, .func (.func 98) #[] #[]] w fun e w' => ∃ A, e = .returned (.slice (some ⟨A, 0, none⟩) (Lib.goFieldsP sepR ⟨l.toArray⟩).length (Lib.goFieldsP sepR ⟨l.toArray⟩).length) ∧
      w'.ownsRow w.heap.size 9 1 (.slice (some ⟨A, 0, none⟩) (Lib.goFieldsP sepR ⟨l.toArray⟩).length (Lib.goFieldsP sepR ⟨l.toArray⟩).length) (Lib.goFieldsP sepR ⟨l.toArray⟩).length ((Lib.goFieldsP sepR ⟨l.toArray⟩).map Value.string) ∧ Below w.heap.size w w' := by
  have hsz := size_mk l
  have eg : ∀ args w, (callFunc 98 args).run Tryz.prog w = .ok (.enter 98 args) w := enters_of Tryz.func98 (by kernel_rfl) rfl
  have hp : PredAtRunes Tryz.prog 98 #[] sepR w := fun W x _ _ => (parts x W).mono fun e w' ⟨he, hw⟩ => ⟨he, 0, hw.symm⟩
  exact (Any.strings_FieldsFunc_runes Tryz.laysFields 98 #[] eg sepR ⟨l.toArray⟩ w (by omega) hp (by kernel_rfl) (by kernel_rfl)).mono fun e w' ⟨A, h1, _, h3, h4⟩ => ⟨A, h1, h3, h4⟩
theorem spaced (l : List UInt8) (w : World) (hl : l.length ≤ 1000000) : Calls Tryz.prog 86 #[.string ⟨l.toArray⟩] w (OneB (.string ⟨(canonN l).toArray⟩) w) := by
  have H := Lib.hid (libFields l w hl)
  have HJ := Lib.hid (words_canon l)
  have HL := Lib.hid (words_len l)
  have HC := Lib.hid (canonN_len0 l)
  have HLL := Lib.hid hl
  generalize Lib.goFieldsP sepR ⟨l.toArray⟩ = xs at *
  clear hl
  go_enter Tryz.func86, Tryz.ntmps86
  go_wp2_with fail
  refine H.out.mono ?_
  rintro e w1 ⟨A, rfl, ho, hb⟩
  have HB := Lib.hid hb
  have hlt := (ho.lt A rfl).2
  have hcl : ∀ (j : Nat) (x : ByteArray), xs[j]? = some x → w1.cell? ⟨A, 0 + j, none⟩ = some (.string x) := fun j x hx => by
    have h := ho.cells (g := A) rfl j (.string x) (by rw [List.getElem?_map, hx]; rfl)
    rwa [Addr_add] at h
  have hJ0 := Any.strings_Join Tryz.laysJoin Tryz.joinExtra A 0 xs.length xs ⟨#[32]⟩ w1 hcl hlt (by have := HL.out; have := HLL.out; omega) (by omega) (by
    show (Lib.join (xs.map (·.data.toList)) [32]).length ≤ _
    rw [HJ.out]; have := HC.out; have := HLL.out; omega)
  have hJ1 : Calls Tryz.prog 96 #[.slice (some ⟨A, 0, none⟩) xs.length xs.length, .string ⟨#[32]⟩] w1 (OneB (.string ⟨(canonN l).toArray⟩) w1) := by
    have e : Lib.join (xs.map (·.data.toList)) (ByteArray.mk #[32]).data.toList = canonN l := HJ.out
    rw [e] at hJ0
    exact hJ0
  have HJ1 := Lib.hid hJ1
  clear hJ0 hJ1 hcl hlt ho hb H HJ
  generalize canonN l = y at *
  go_wp2_with fail
  refine HJ1.out.mono ?_
  rintro e w2 ⟨rfl, hb⟩
  have HB2 := Lib.hid (below_trans HB.out hb)
  clear hb
  go_wp2_with fail
  go_ret
  exact ⟨rfl, HB2.out⟩

theorem kindItem (c : UInt8) (g : Nat) (w : World) (hc : w.cell? ⟨g, 0, none⟩ = some (.func (.func 85) #[] #[])) :
    Calls Tryz.prog 95 #[.int .u8 (c.toNat : Int), .pointer (some ⟨g, 0, none⟩)] w (One (.bool (!printC c)) w) := by
  have H := Lib.hid (printable c w)
  generalize printC c = b at *
  go_enter Tryz.func95, Tryz.ntmps95
  go_wp2_with fail
  refine H.out.mono ?_
  rintro e w1 ⟨rfl, rfl⟩
  go_wp2_with fail
  go_ret
  exact ⟨rfl, rfl⟩
theorem containsItem (l : List UInt8) (A : Option Addr) (cap g : Nat) (w : World) (hl : 0 < l.length) (hm : l.length ≤ 1000000) (hat : BytesAt w A l) (hc : w.cell? ⟨g, 0, none⟩ = some (.func (.func 85) #[] #[])) :
    Calls Tryz.prog 94 #[.slice A l.length cap, .func (.func 95) #[] #[.pointer (some ⟨g, 0, none⟩)]] w (OneB (.bool (!(l.all printC))) w) := by
  obtain ⟨b, off, rfl, hb, hcl⟩ := hat hl
  have eg : ∀ args w, (callFunc 95 args).run Tryz.prog w = .ok (.enter 95 args) w := enters_of Tryz.func95 (by kernel_rfl) rfl
  have hg := World.block_lt_of_cell? w _ hc
  have hp : PredAt Tryz.prog 95 #[.pointer (some ⟨g, 0, none⟩)] (fun c : UInt8 => Value.int .u8 (c.toNat : Int)) (fun c : UInt8 => !printC c) w := fun W x hW =>
    (kindItem x g W ((hW.cell (p := ⟨g, 0, none⟩) hg).trans hc)).mono fun e w' ⟨he, hw⟩ => ⟨he, 0, hw.symm⟩
  have h := AnyE.slices_ContainsFunc (α := UInt8) Tryz.laysContains (fun c : UInt8 => Value.int .u8 (c.toNat : Int)) (fun c : UInt8 => !printC c) 95 #[.pointer (some ⟨g, 0, none⟩)] eg b off l.length cap l w hp (Nat.le_refl _) (by omega)
    (fun j hj => by
      have := hcl j l[j] (List.getElem?_eq_getElem hj) 0 _ rfl
      rw [getElem!_pos l j hj]
      simpa using this)
  rw [List.take_length] at h
  have e : (l.any fun c : UInt8 => !printC c) = !(l.all printC) := by rw [Bool.eq_iff_iff]; simp
  rw [e] at h
  exact h.mono fun e w' ⟨he, q, hw⟩ => ⟨he, hw ▸ below_drewN' (Below.refl _ _) q⟩
theorem consistsItem (l : List UInt8) (w : World) (hl : l.length ≤ 1000000) :
    Calls Tryz.prog 84 #[.string ⟨l.toArray⟩, .int .i64 64, .func (.func 85) #[] #[]] w (OneB (.bool ((decide (1 ≤ l.length) && decide (l.length ≤ 64)) && l.all printC)) w) := by
  have hsz := size_mk l
  have hb0 := Lib.hid ((Below.refl w.heap.size w).alloc (Nat.le_refl _) (.cells #[.func (.func 85) #[] #[]] 121))
  by_cases h1 : 1 ≤ l.length
  · have k1 : (1 : Int) ≤ (l.length : Int) := by omega
    by_cases h2 : l.length ≤ 64
    · have k2 : (l.length : Int) ≤ 64 := by omega
      have q1 := fun (w : World) => Lib.run_convert_string_bytes (P := Tryz.prog) w 9 32 5 ⟨l.toArray⟩ Tryz.underlying9 Tryz.underlying32 Tryz.underlying5
      have hs1 : (w.alloc (.cells #[.func (.func 85) #[] #[]] 121)).heap.size = w.heap.size + 1 := by simp
      have hbw := bytesWorld_below (w.alloc (.cells #[.func (.func 85) #[] #[]] 121)) ⟨l.toArray⟩
      have hat := bytesWorld_at (w.alloc (.cells #[.func (.func 85) #[] #[]] 121)) ⟨l.toArray⟩
      rw [hs1] at hat
      have hcb : (w.alloc (.cells #[.func (.func 85) #[] #[]] 121)).cell? ⟨w.heap.size, 0, none⟩ = some (.func (.func 85) #[] #[]) := by rw [cell_of_row _ w.heap.size _ _ _ (0, 0) (heap_alloc_new w _)]; rfl
      have HC := Lib.hid (fun (cap : Nat) => containsItem l (some ⟨w.heap.size + 1, 0, none⟩) cap w.heap.size _ (by omega) hl hat ((hbw.cell (World.block_lt_of_cell? _ _ hcb)).trans hcb))
      have HBW := Lib.hid (below_trans hb0.out hbw)
      clear hs1 hbw hat hcb
      have HE := Lib.hid (show l.all (printC) = ((decide (1 ≤ l.length) && decide (l.length ≤ 64)) && l.all printC) from by simp [h1, h2])
      generalize hX : ((decide (1 ≤ l.length) && decide (l.length ≤ 64)) && l.all printC) = X at *
      generalize l.all (printC) = Y at *
      clear hX h1 h2
      go_enter Tryz.func84, Tryz.ntmps84
      go_wp2_with fail
      refine (HC.out _).mono ?_
      rintro e w1 ⟨rfl, hb⟩
      have HB := Lib.hid (below_trans HBW.out hb)
      clear hb
      go_wp2_with fail
      go_ret
      exact OneB.bool (by rw [← HE.out]) HB.out
    · have k2 : ¬ (l.length : Int) ≤ 64 := by omega
      have HE := Lib.hid (show false = ((decide (1 ≤ l.length) && decide (l.length ≤ 64)) && l.all printC) from by simp [h2])
      clear h1 h2
      go_enter Tryz.func84, Tryz.ntmps84
      go_wp2_with fail
      go_ret
      exact OneB.bool HE.out hb0.out
  · have k1 : ¬ (1 : Int) ≤ (l.length : Int) := by omega
    have HE := Lib.hid (show false = ((decide (1 ≤ l.length) && decide (l.length ≤ 64)) && l.all printC) from by simp [h1])
    clear h1
    go_enter Tryz.func84, Tryz.ntmps84
    go_wp2_with fail
    go_ret
    exact OneB.bool HE.out hb0.out

theorem nmItem (l : List UInt8) (w : World) (hl : l.length ≤ 500000) : Calls Tryz.prog 67 #[.string ⟨l.toArray⟩] w (OneB (.bool (itemN l)) w) := by
  have H := Lib.hid (consistsItem l w (by omega))
  have HS := Lib.hid (fun W => spaced l W (by omega))
  have HI := Lib.hid (itemN_canon l)
  generalize ((decide (1 ≤ l.length) && decide (l.length ≤ 64)) && l.all printC) = b at *
  generalize itemN l = d at *
  go_enter Tryz.func67, Tryz.ntmps67
  go_wp2_with fail
  refine H.out.mono ?_
  rintro e w1 ⟨rfl, hb⟩
  have HB := Lib.hid hb
  clear hb
  cases b with
  | false =>
    go_wp2_with fail
    go_ret
    exact OneB.bool (by rw [HI.out]; rfl) HB.out
  | true =>
    generalize canonN l = y at *
    go_wp2_with fail
    refine (HS.out _).mono ?_
    rintro e w2 ⟨rfl, hb⟩
    have HB2 := Lib.hid (below_trans HB.out hb)
    clear hb
    go_wp2_with fail
    go_ret
    exact OneB.bool (by rw [HI.out]; simp) HB2.out

end

end Go.Proofs.YtgdnibahiomneaaGreat
