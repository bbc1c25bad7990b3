/- Plain lists: a number's digits are read again; only they are read. -/
import Derived.Test.YteeigngomleijaaDoorTxt
namespace Go.Proofs.YteeigngomleijaaDoor

theorem digit_ofNat {d : Nat} (h : d < 10) : (UInt8.ofNat (48 + d)).toNat = 48 + d := by
  simp [UInt8.toNat_ofNat']; omega

/-- One more digit behind. -/
theorem decDigits_snoc (n d : Nat) (hn : 0 < n) (hd : d < 10) : Lib.decDigits (10 * n + d) = Lib.decDigits n ++ [UInt8.ofNat (48 + d)] := by
  rw [Lib.decDigits, dif_neg (by omega), show (10 * n + d) / 10 = n by omega, show (10 * n + d) % 10 = d by omega]

theorem numGo_sound (most : Int) (r : List UInt8) : ∀ (n : Nat) (v : Int), 0 < n → (n : Int) ≤ most → numGo most r n = some v → ∃ m : Nat, v = m ∧ 0 < m ∧ (m : Int) ≤ most ∧ Lib.decDigits m = Lib.decDigits n ++ r := by
  induction r with
  | nil =>
    intro n v h0 h1 h
    simp only [numGo, Option.some.injEq] at h
    exact ⟨n, h.symm, h0, h1, by simp⟩
  | cons c r ih =>
    intro n v h0 h1 h
    simp only [numGo] at h
    split at h
    · cases h
    · rename_i hc
      split at h
      · cases h
      · rename_i hm
        obtain ⟨d, hd⟩ : ∃ d : Nat, c.toNat = 48 + d := ⟨c.toNat - 48, by omega⟩
        have hd9 : d < 10 := by omega
        have e : 10 * (n : Int) + ((c.toNat : Int) - 48) = ((10 * n + d : Nat) : Int) := by omega
        rw [e] at h hm
        obtain ⟨m, e1, e2, e3, e4⟩ := ih (10 * n + d) v (by omega) (by omega) h
        refine ⟨m, e1, e2, e3, ?_⟩
        rw [e4, decDigits_snoc n d h0 hd9]
        have : UInt8.ofNat (48 + d) = c := by rw [← hd]; simp
        rw [this, List.append_assoc]; rfl

theorem numL_sound {most : Int} {l : List UInt8} {v : Int} (hmo : 9 ≤ most) (h : numL most l = some v) : ∃ m : Nat, v = m ∧ 0 < m ∧ (m : Int) ≤ most ∧ l = Lib.decDigits m := by
  cases l with
  | nil => cases h
  | cons c r =>
    simp only [numL] at h
    split at h
    · cases h
    · rename_i hc
      simp only [numGo] at h
      split at h
      · cases h
      · rename_i hc2
        split at h
        · cases h
        · obtain ⟨d, hd⟩ : ∃ d : Nat, c.toNat = 48 + d := ⟨c.toNat - 48, by omega⟩
          have hcd : UInt8.ofNat (48 + d) = c := by rw [← hd]; simp
          have hd0 : 0 < d := by
            rcases Nat.eq_zero_or_pos d with e | e
            · subst e; exact absurd hcd.symm hc
            · exact e
          have e : 10 * (0 : Int) + ((c.toNat : Int) - 48) = (d : Int) := by omega
          rw [e] at h
          obtain ⟨m, e1, e2, e3, e4⟩ := numGo_sound most r d v hd0 (by omega) h
          refine ⟨m, e1, e2, e3, ?_⟩
          rw [e4, Lib.decDigits_one (by omega), hcd]; rfl

theorem numGo_digits (most : Int) (m : Nat) : ∀ r, (m : Int) ≤ most → numGo most (Lib.decDigits m ++ r) 0 = numGo most r m := by
  induction m using Nat.strongRecOn with
  | ind m ih =>
    intro r hm
    have step : ∀ (k d : Nat), d < 10 → 10 * k + d = m → numGo most (UInt8.ofNat (48 + d) :: r) (k : Int) = numGo most r m := by
      intro k d hd hk
      simp only [numGo, digit_ofNat hd]
      rw [if_neg (by omega), if_neg (by omega)]
      congr 1; omega
    by_cases h : m < 10
    · rw [Lib.decDigits_one h]
      exact step 0 m h (by omega)
    · rw [Lib.decDigits, dif_neg h, List.append_assoc, ih (m / 10) (by omega) _ (by omega)]
      exact step (m / 10) (m % 10) (by omega) (by omega)

theorem digits_head (m : Nat) (h : 0 < m) : ∃ c r, Lib.decDigits m = c :: r ∧ c ≠ 48 := by
  induction m using Nat.strongRecOn with
  | ind m ih =>
    by_cases h9 : m < 10
    · refine ⟨_, [], Lib.decDigits_one h9, fun e => ?_⟩
      have := congrArg UInt8.toNat e
      rw [digit_ofNat h9] at this
      simp at this; omega
    · obtain ⟨c, r, e, hc⟩ := ih (m / 10) (by omega) (by omega)
      exact ⟨c, r ++ [UInt8.ofNat (48 + m % 10)], by rw [Lib.decDigits, dif_neg h9, e]; rfl, hc⟩

theorem numL_digits {most : Int} {m : Nat} (h0 : 0 < m) (h1 : (m : Int) ≤ most) : numL most (Lib.decDigits m) = some (m : Int) := by
  obtain ⟨c, r, e, hc⟩ := digits_head m h0
  have h := numGo_digits most m [] h1
  rw [List.append_nil] at h
  rw [e] at h ⊢
  simp only [numL, if_neg hc]
  rw [h]; rfl

theorem digits_no_dot (m : Nat) : ∀ c ∈ Lib.decDigits m, c ≠ 46 := by
  induction m using Nat.strongRecOn with
  | ind m ih =>
    have one : ∀ d, d < 10 → UInt8.ofNat (48 + d) ≠ 46 := fun d hd e => by
      have := congrArg UInt8.toNat e
      rw [digit_ofNat hd] at this
      simp at this; omega
    by_cases h9 : m < 10
    · rw [Lib.decDigits_one h9]
      intro c hc
      rw [List.mem_singleton.1 hc]; exact one m h9
    · rw [Lib.decDigits, dif_neg h9]
      intro c hc
      rcases List.mem_append.1 hc with h | h
      · exact ih (m / 10) (by omega) c h
      · rw [List.mem_singleton.1 h]; exact one _ (by omega)

theorem cut_text (r c : Nat) : cutL (textL r c) = (Lib.decDigits r, Lib.decDigits c) := by
  have h := digits_no_dot r
  unfold cutL textL
  have h1 : ∀ (a b : List UInt8), (∀ x ∈ a, x ≠ 46) → (a ++ 46 :: b).takeWhile (fun c => !(c == 46)) = a ∧ (a ++ 46 :: b).dropWhile (fun c => !(c == 46)) = 46 :: b := by
    intro a b ha
    induction a with
    | nil => simp
    | cons x a ih =>
      have hx : x ≠ 46 := ha x (by simp)
      have := ih (fun y hy => ha y (by simp [hy]))
      simp [hx, this.1, this.2]
  rw [(h1 _ _ h).1, (h1 _ _ h).2]; rfl

/-- What is read is just the text of the valid dot. -/
theorem parseL_iff (l : List UInt8) (r c : Int) : parseL l = some (r, c) ↔ validD r c = true ∧ l = textL r.toNat c.toNat := by
  constructor
  · intro h
    unfold parseL at h
    split at h
    · rename_i a b ha hb
      obtain ⟨m, rfl, m0, m1, em⟩ := numL_sound (by omega) ha
      obtain ⟨k, rfl, k0, k1, ek⟩ := numL_sound (by omega) hb
      simp only [Option.some.injEq, Prod.mk.injEq] at h
      obtain ⟨rfl, rfl⟩ := h
      refine ⟨by simp [validD]; omega, ?_⟩
      have hl := List.takeWhile_append_dropWhile (p := fun c => !(c == (46 : UInt8))) (l := l)
      simp only [cutL] at em ek
      obtain ⟨x, y, exy, _⟩ := digits_head k k0
      cases hd : l.dropWhile (fun c => !(c == (46 : UInt8))) with
      | nil => rw [hd, exy] at ek; cases ek
      | cons z q =>
        have hz : z = 46 := by
          have := List.head?_dropWhile_not (p := fun c => !(c == (46 : UInt8))) l
          rw [hd] at this
          simpa using this
        rw [hd] at ek hl
        subst hz
        have ek' : q = Lib.decDigits k := ek
        rw [em, ek'] at hl
        exact hl.symm
    · cases h
  · rintro ⟨hv, rfl⟩
    simp [validD] at hv
    unfold parseL
    rw [cut_text]
    have e1 := numL_digits (most := 65535) (m := r.toNat) (by omega) (by omega)
    have e2 := numL_digits (most := 4294967295) (m := c.toNat) (by omega) (by omega)
    simp only [e1, e2, Option.some.injEq, Prod.mk.injEq]
    omega

end Go.Proofs.YteeigngomleijaaDoor
