/- Plain facts about the text of a vector: its fields, what is read of them. -/
import Derived.Test.YteeigngomleijaaDoorVecK
import Derived.Test.YteeigngomleijaaDoorScan
namespace Go.Proofs.YteeigngomleijaaDoor
open Go.RowKit

/-- What is read from a field that has begun on, the dots before it being read. -/
def scanF : List UInt8 → List (Int × Int) → List UInt8 → Option (List (Int × Int))
  | f, acc, [] => match parseL f with
    | some d => some (acc ++ [d])
    | none => none
  | f, acc, c :: r => if c.toNat = 32 then (match parseL f with
      | some d => scanF [] (acc ++ [d]) r
      | none => none) else scanF (f ++ [c]) acc r
/-- The vector with a text. -/
def parseVL (s : List UInt8) : Option (List (Int × Int)) :=
  if s = [45] then some [] else match scanF [] [] s with
    | some v => if validV v then some v else none
    | none => none

/-- No byte is a space. -/
def noSp (f : List UInt8) : Prop := ∀ c ∈ f, c.toNat ≠ 32
theorem scanF_run : ∀ (g f : List UInt8) (acc : List (Int × Int)) (r : List UInt8), noSp g → scanF f acc (g ++ r) = scanF (f ++ g) acc r
  | [], f, acc, r, _ => by simp
  | c :: g, f, acc, r, h => by
    rw [List.cons_append, scanF, if_neg (h c (by simp)), scanF_run g (f ++ [c]) acc r fun x hx => h x (by simp [hx])]
    simp
theorem scanF_last (g : List UInt8) (acc : List (Int × Int)) (h : noSp g) : scanF [] acc g = match parseL g with | some d => some (acc ++ [d]) | none => none := by
  have := scanF_run g [] acc [] h
  rw [List.append_nil, List.nil_append] at this
  rw [this, scanF]
theorem scanF_field (g : List UInt8) (c : UInt8) (acc : List (Int × Int)) (r : List UInt8) (h : noSp g) (hc : c.toNat = 32) : scanF [] acc (g ++ c :: r) = match parseL g with | some d => scanF [] (acc ++ [d]) r | none => none := by
  rw [scanF_run g [] acc (c :: r) h, List.nil_append, scanF, if_pos hc]

/-- The texts of dots, joined by single spaces. -/
def joinT : List (Int × Int) → List UInt8
  | [] => []
  | [d] => textL d.1.toNat d.2.toNat
  | d :: e :: v => textL d.1.toNat d.2.toNat ++ 32 :: joinT (e :: v)
/-- The text of a vector. -/
def textVL (v : List (Int × Int)) : List UInt8 := if v = [] then [45] else joinT v

theorem digits_no_sp (m : Nat) : ∀ c ∈ Lib.decDigits m, 48 ≤ c.toNat ∧ c.toNat ≤ 57 := by
  induction m using Nat.strongRecOn with
  | _ m ih =>
    by_cases h : m < 10
    · intro c hc
      rw [Lib.decDigits_one h] at hc
      rw [List.mem_singleton] at hc
      subst hc
      rw [digit_ofNat h]; omega
    · have e := decDigits_snoc (m / 10) (m % 10) (by omega) (by omega)
      rw [show 10 * (m / 10) + m % 10 = m by omega] at e
      intro c hc
      rw [e] at hc
      rcases List.mem_append.1 hc with h1 | h1
      · exact ih (m / 10) (by omega) c h1
      · rw [List.mem_singleton] at h1
        subst h1
        rw [digit_ofNat (by omega)]; omega
theorem text_no_sp (r c : Nat) : noSp (textL r c) := fun x hx => by
  simp only [textL, List.mem_append, List.mem_cons] at hx
  rcases hx with h | h | h
  · have := digits_no_sp r x h; omega
  · subst h; decide
  · have := digits_no_sp c x h; omega
theorem text_ne_dash {d : Int × Int} (h : validD d.1 d.2 = true) (l : List UInt8) : textL d.1.toNat d.2.toNat ++ l ≠ [45] := by
  intro e
  have h1 := digits_head d.1.toNat (by simp [validD] at h; omega)
  obtain ⟨c, r, h2, _⟩ := h1
  have h3 := digits_no_sp d.1.toNat c (by rw [h2]; simp)
  rw [textL, h2] at e
  have e1 : c = 45 := by
    have := congrArg List.head? e
    simpa using this
  subst e1
  exact absurd h3.1 (by decide)

theorem scan_join : ∀ (v : List (Int × Int)) (acc : List (Int × Int)), v ≠ [] → (∀ p ∈ v, validD p.1 p.2 = true) → scanF [] acc (joinT v) = some (acc ++ v)
  | [], _, h, _ => absurd rfl h
  | [d], acc, _, h => by
    have hp := (parseL_iff (textL d.1.toNat d.2.toNat) d.1 d.2).2 ⟨h d (by simp), rfl⟩
    rw [joinT, scanF_last _ _ (text_no_sp _ _), hp]
  | d :: e :: v, acc, _, h => by
    have hp := (parseL_iff (textL d.1.toNat d.2.toNat) d.1 d.2).2 ⟨h d (by simp), rfl⟩
    rw [joinT, scanF_field _ _ _ _ (text_no_sp _ _) (by decide), hp]
    show scanF [] (acc ++ [(d.1, d.2)]) (joinT (e :: v)) = _
    rw [scan_join (e :: v) _ (by simp) fun p hp => h p (by simp at hp ⊢; exact .inr hp)]
    simp
/-- Parse inverts Text. -/
theorem parse_text {v : List (Int × Int)} (hv : validV v = true) : parseVL (textVL v) = some v := by
  obtain ⟨h1, _⟩ := (validV_iff v).1 hv
  unfold parseVL textVL
  by_cases e : v = []
  · simp [e]
  · rw [if_neg e]
    have hne : joinT v ≠ [45] := by
      match v, e, h1 with
      | [d], _, h1 => intro h; exact text_ne_dash (h1 d (by simp)) [] (by simpa [joinT] using h)
      | d :: f :: v, _, h1 => intro h; exact text_ne_dash (h1 d (by simp)) _ (by simpa [joinT] using h)
    rw [if_neg hne, scan_join v [] e h1]
    simp [hv]

end Go.Proofs.YteeigngomleijaaDoor
