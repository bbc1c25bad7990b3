/- Several texts in one: DecK. -/
import Derived.Test.YtpnemekkpifbaaaGreatMAK
namespace Go.Proofs.YtpnemekkpifbaaaGreat

section
open Go.RowKit

/-- What reads: a value and how many bytes are its own, or nothing. -/
abbrev Ps (α : Type) := List UInt8 → Option (α × Nat)
def pN : Ps Nat := fun l => if (rd l).2.2 = 0 then some ((rd l).1, (rd l).2.1) else none
def pMap {α β : Type} (g : α → β) (p : Ps α) : Ps β := fun l => (p l).map fun a => (g a.1, a.2)
def pAnd {α β : Type} (p : Ps α) (q : Ps β) : Ps (α × β) := fun l => (p l).bind fun a => (q (l.drop a.2)).map fun b => ((a.1, b.1), a.2 + b.2)
def pRep {α : Type} (p : Ps α) : Nat → Ps (List α)
  | 0 => fun _ => some ([], 0)
  | n + 1 => fun l => (pRep p n l).bind fun us => (p (l.drop us.2)).map fun a => (us.1 ++ [a.1], us.2 + a.2)
def pL {α : Type} (p : Ps α) : Ps (List α) := fun l => (pN l).bind fun n => (pRep p n.1 (l.drop n.2)).map fun us => (us.1, n.2 + us.2)
def pS : Ps (List UInt8) := fun l => (pN l).bind fun n => if n.1 ≤ l.length - n.2 then some ((l.drop n.2).take n.1, n.2 + n.1) else none
/-- A number of 64 bits us an int. -/
def toI (n : Nat) : Int := wrap64 (n : Int)
def pZ : Ps Int := pMap toI pN
def pD : Ps (Int × Int) := pAnd pZ pZ
def pM : Ps Mk := pMap (fun x : (Int × Int) × (Int × Nat) => ⟨x.1.1, x.1.2, x.2.1, x.2.2⟩) (pAnd pD (pAnd pZ pN))
def pI : Ps It := pAnd pS (pL pM)
def pX : Ps (List (Int × Int) × List (Int × Int)) := pAnd (pL pD) (pL pD)
def pC : Ps Ca := pAnd pX (pL pI)

/-- What reads, and what writes, invert each other. -/
structure Reads {α : Type} (ok : α → Prop) (f : α → List UInt8) (p : Ps α) : Prop where
  back : ∀ l a z, p l = some (a, z) → ok a ∧ z ≤ l.length ∧ l.take z = f a
  forth : ∀ a r, ok a → p (f a ++ r) = some (a, (f a).length)
theorem pN_none {l : List UInt8} (h : (rd l).2.2 ≠ 0) : pN l = none := by unfold pN; rw [if_neg h]
theorem pN_some {l : List UInt8} (h : (rd l).2.2 = 0) : pN l = some ((rd l).1, (rd l).2.1) := by unfold pN; rw [if_pos h]
theorem reads_pN : Reads (fun n => n < 18446744073709551616) enc pN where
  back l a z h := by
    unfold pN at h
    split at h
    · rename_i h0
      obtain ⟨h1, h2⟩ := Prod.mk.inj (Option.some.inj h)
      obtain ⟨k1, _, k2, k3⟩ := rd_back (l := l) (n := (rd l).1) (z := (rd l).2.1) (Prod.ext rfl (Prod.ext rfl h0))
      rw [h1] at k1 k3
      rw [h2] at k2 k3
      exact ⟨k1, k2, k3⟩
    · cases h
  forth a r h := by
    unfold pN
    rw [rd_enc h r]
    rfl
section
variable {α β : Type} {ok : α → Prop} {ok' : β → Prop} {f : α → List UInt8} {f' : β → List UInt8} {p : Ps α} {q : Ps β}
theorem Reads.le (h : Reads ok f p) {l : List UInt8} {a : α} {z : Nat} (e : p l = some (a, z)) : z ≤ l.length := (h.back l a z e).2.1
theorem Reads.len (h : Reads ok f p) {l : List UInt8} {a : α} {z : Nat} (e : p l = some (a, z)) : z = (f a).length := by
  obtain ⟨_, h1, h2⟩ := h.back l a z e
  rw [← h2, List.length_take]; omega
theorem Reads.eq (h : Reads ok f p) {l : List UInt8} {a : α} {z : Nat} (e : p l = some (a, z)) : l = f a ++ l.drop z := by
  rw [← (h.back l a z e).2.2, List.take_append_drop]
theorem Reads.one (h : Reads ok f p) {a b : α} {x y : List UInt8} (ha : ok a) (hb : ok b) (e : f a ++ x = f b ++ y) : a = b ∧ x = y := by
  have h1 := h.forth a x ha
  rw [e, h.forth b y hb] at h1
  obtain ⟨h2, _⟩ := Prod.mk.inj (Option.some.inj h1)
  subst h2
  exact ⟨rfl, List.append_cancel_left e⟩
theorem Reads.none_of (h : Reads ok f p) {l : List UInt8} (hn : ∀ a r, ok a → l ≠ f a ++ r) : p l = none := by
  cases e : p l with
  | none => rfl
  | some v => exact absurd (h.eq e) (hn _ _ (h.back _ _ _ e).1)
theorem Reads.map (h : Reads ok f p) (g : α → β) (u : β → α) (hg : ∀ a, ok a → ok' (g a) ∧ f' (g a) = f a) (hu : ∀ b, ok' b → ok (u b) ∧ g (u b) = b) : Reads ok' f' (pMap g p) where
  back l b z e := by
    unfold pMap at e
    cases e2 : p l with
    | none => rw [e2] at e; cases e
    | some v =>
      rw [e2] at e
      obtain ⟨h1, h2⟩ := Prod.mk.inj (Option.some.inj e)
      obtain ⟨k1, k2, k3⟩ := h.back l v.1 v.2 e2
      subst h1; subst h2
      exact ⟨(hg _ k1).1, k2, by rw [(hg _ k1).2]; exact k3⟩
  forth b r hb := by
    obtain ⟨h1, h2⟩ := hu b hb
    have h3 := h.forth (u b) r h1
    have h4 := (hg _ h1).2
    rw [h2] at h4
    unfold pMap
    rw [h4, h3]
    show some (g (u b), _) = _
    rw [h2]
theorem Reads.and (h : Reads ok f p) (h' : Reads ok' f' q) : Reads (fun c : α × β => ok c.1 ∧ ok' c.2) (fun c => f c.1 ++ f' c.2) (pAnd p q) where
  back l c z e := by
    unfold pAnd at e
    cases e1 : p l with
    | none => rw [e1] at e; cases e
    | some v =>
      rw [e1] at e
      simp only [Option.bind_some] at e
      cases e2 : q (l.drop v.2) with
      | none => rw [e2] at e; cases e
      | some u =>
        rw [e2] at e
        obtain ⟨h1, h2⟩ := Prod.mk.inj (Option.some.inj e)
        obtain ⟨k1, k2, k3⟩ := h.back l v.1 v.2 e1
        obtain ⟨k4, k5, k6⟩ := h'.back _ u.1 u.2 e2
        subst h1; subst h2
        rw [List.length_drop] at k5
        refine ⟨⟨k1, k4⟩, by omega, ?_⟩
        rw [List.take_add, k3, k6]
  forth c r hc := by
    unfold pAnd
    rw [List.append_assoc, h.forth c.1 _ hc.1]
    simp only [Option.bind_some, List.drop_left]
    rw [h'.forth c.2 r hc.2]
    simp
theorem Reads.rep (h : Reads ok f p) : ∀ n : Nat, Reads (fun us : List α => us.length = n ∧ ∀ a ∈ us, ok a) (fun us => us.flatMap f) (pRep p n)
  | 0 => ⟨fun l us z e => by
      obtain ⟨h1, h2⟩ := Prod.mk.inj (Option.some.inj e)
      subst h1; subst h2
      exact ⟨⟨rfl, fun _ h => by cases h⟩, Nat.zero_le _, rfl⟩, fun us r hr => by
      obtain ⟨h1, _⟩ := hr
      obtain rfl : us = [] := List.length_eq_zero_iff.1 h1
      rfl⟩
  | n + 1 => ⟨fun l us z e => by
      unfold pRep at e
      cases e1 : pRep p n l with
      | none => rw [e1] at e; cases e
      | some v =>
        rw [e1] at e
        simp only [Option.bind_some] at e
        cases e2 : p (l.drop v.2) with
        | none => rw [e2] at e; cases e
        | some u =>
          rw [e2] at e
          obtain ⟨h1, h2⟩ := Prod.mk.inj (Option.some.inj e)
          obtain ⟨⟨k0, k1⟩, k2, k3⟩ := (Reads.rep h n).back l v.1 v.2 e1
          obtain ⟨k4, k5, k6⟩ := h.back _ u.1 u.2 e2
          subst h1; subst h2
          rw [List.length_drop] at k5
          refine ⟨⟨by simp [k0], fun a ha => ?_⟩, by omega, ?_⟩
          · rcases List.mem_append.1 ha with x | x
            · exact k1 a x
            · obtain rfl := List.mem_singleton.1 x; exact k4
          · rw [List.take_add, k3, k6, List.flatMap_append]; simp, fun us r hr => by
      obtain ⟨h1, h2⟩ := hr
      obtain ⟨bs, b, rfl⟩ : ∃ bs b, us = bs ++ [b] := ⟨us.dropLast, us.getLast (by intro h; subst h; cases h1), (List.dropLast_concat_getLast _).symm⟩
      have hl : bs.length = n := by simpa using h1
      have e1 := (Reads.rep h n).forth bs (f b ++ r) ⟨hl, fun a ha => h2 a (by simp [ha])⟩
      have e2 := h.forth b r (h2 b (by simp))
      unfold pRep
      have e3 : (bs ++ [b]).flatMap f ++ r = bs.flatMap f ++ (f b ++ r) := by simp [List.flatMap_append]
      simp only [e3]
      rw [e1]
      simp only [Option.bind_some, List.drop_left]
      rw [e2]
      simp [List.flatMap_append]⟩
theorem Reads.list (h : Reads ok f p) : Reads (fun us : List α => us.length < 18446744073709551616 ∧ ∀ a ∈ us, ok a) (byL f) (pL p) where
  back l us z e := by
    unfold pL at e
    cases e1 : pN l with
    | none => rw [e1] at e; cases e
    | some v =>
      rw [e1] at e
      simp only [Option.bind_some] at e
      cases e2 : pRep p v.1 (l.drop v.2) with
      | none => rw [e2] at e; cases e
      | some u =>
        rw [e2] at e
        obtain ⟨h1, h2⟩ := Prod.mk.inj (Option.some.inj e)
        obtain ⟨k1, k2, k3⟩ := reads_pN.back l v.1 v.2 e1
        obtain ⟨⟨k0, k4⟩, k5, k6⟩ := (h.rep v.1).back _ u.1 u.2 e2
        subst h1; subst h2
        rw [List.length_drop] at k5
        refine ⟨⟨by omega, k4⟩, by omega, ?_⟩
        rw [List.take_add, k3, k6, byL, k0]
  forth us r hr := by
    unfold pL byL
    rw [List.append_assoc, reads_pN.forth us.length _ hr.1]
    simp only [Option.bind_some, List.drop_left]
    rw [(h.rep us.length).forth us r ⟨rfl, hr.2⟩]
    simp
end
theorem reads_pS : Reads (fun s : List UInt8 => s.length < 18446744073709551616) byS pS where
  back l s z e := by
    unfold pS at e
    cases e1 : pN l with
    | none => rw [e1] at e; cases e
    | some v =>
      rw [e1] at e
      simp only [Option.bind_some] at e
      obtain ⟨k1, k2, k3⟩ := reads_pN.back l v.1 v.2 e1
      split at e
      · rename_i h0
        obtain ⟨h1, h2⟩ := Prod.mk.inj (Option.some.inj e)
        subst h1; subst h2
        have hl : ((l.drop v.2).take v.1).length = v.1 := by rw [List.length_take, List.length_drop]; omega
        refine ⟨by rw [hl]; exact k1, by omega, ?_⟩
        rw [List.take_add, k3, byS, hl]
      · cases e
  forth s r h := by
    unfold pS byS
    rw [List.append_assoc, reads_pN.forth s.length _ h]
    simp only [Option.bind_some, List.drop_left]
    rw [if_pos (by simp)]
    simp
/-- An int of 64 bits. -/
def okZ64 (z : Int) : Prop := -9223372036854775808 ≤ z ∧ z < 9223372036854775808
theorem toI_ok (n : Nat) (h : n < 18446744073709551616) : okZ64 (toI n) ∧ byZ (toI n) = enc n := by
  have e : toI n = if n < 9223372036854775808 then (n : Int) else (n : Int) - 18446744073709551616 := by
    unfold toI wrap64
    split <;> omega
  unfold okZ64 byZ
  rw [e]
  split
  · refine ⟨by omega, ?_⟩
    rw [Int.emod_eq_of_lt (by omega) (by omega)]; rfl
  · refine ⟨by omega, ?_⟩
    congr 1
    omega
theorem reads_pZ : Reads okZ64 byZ pZ := reads_pN.map toI (fun z => (z % 18446744073709551616).toNat) (fun a h => toI_ok a h) fun z h => by
  refine ⟨by omega, ?_⟩
  have h1 := h.1
  have h2 := h.2
  unfold toI wrap64
  omega
def okD64 (d : Int × Int) : Prop := okZ64 d.1 ∧ okZ64 d.2
theorem reads_pD : Reads okD64 byD pD := reads_pZ.and reads_pZ
def okM64 (m : Mk) : Prop := (okZ64 m.r ∧ okZ64 m.c) ∧ (okZ64 m.q ∧ m.t < 18446744073709551616)
theorem reads_pM : Reads okM64 byM pM := (reads_pD.and (reads_pZ.and reads_pN)).map _ (fun m : Mk => ((m.r, m.c), (m.q, m.t))) (fun a h => ⟨h, by simp [byM, byD]⟩) fun b h => ⟨h, rfl⟩
def okI64 (x : It) : Prop := x.1.length < 18446744073709551616 ∧ (x.2.length < 18446744073709551616 ∧ ∀ m ∈ x.2, okM64 m)
theorem reads_pI : Reads okI64 byI pI := reads_pS.and reads_pM.list
def okX64 (x : List (Int × Int) × List (Int × Int)) : Prop := (x.1.length < 18446744073709551616 ∧ ∀ d ∈ x.1, okD64 d) ∧ (x.2.length < 18446744073709551616 ∧ ∀ d ∈ x.2, okD64 d)
theorem reads_pX : Reads okX64 byX pX := reads_pD.list.and reads_pD.list
def okC64 (c : Ca) : Prop := okX64 c.1 ∧ (c.2.length < 18446744073709551616 ∧ ∀ x ∈ c.2, okI64 x)
theorem reads_pC : Reads okC64 byC pC := reads_pX.and reads_pI.list

/-- What decode answers. -/
def decC (l : List UInt8) : Option Ca := match pC l with
  | some (c, z) => if z = l.length ∧ validK c = true then some c else none
  | none => none
def preC (l : List UInt8) : Option (Ca × Nat) := match pC l with
  | some (c, z) => if validK c = true then some (c, z) else none
  | none => none
def conX (l : List UInt8) : Option (List (Int × Int) × List (Int × Int)) := match pX l with
  | some (x, z) => if z = l.length ∧ compC x.1 x.2 = true then some x else none
  | none => none
def cntF : Nat → List UInt8 → Option Nat
  | 0, l => if l = [] then some 0 else none
  | k + 1, l => if l = [] then some 0 else (preC l).bind fun c => (cntF k (l.drop c.2)).map (· + 1)
def cntC (l : List UInt8) : Option Nat := cntF l.length l

/-- What is accepted has just the bytes that were there. -/
theorem decC_some {l : List UInt8} {c : Ca} (h : decC l = some c) : validK c = true ∧ byC c = l ∧ okC64 c := by
  unfold decC at h
  split at h
  · rename_i c' z e
    split at h
    · rename_i h0
      obtain rfl := Option.some.inj h
      obtain ⟨k1, k2, k3⟩ := reads_pC.back _ _ _ e
      exact ⟨h0.2, by rw [← k3, h0.1, List.take_length], k1⟩
    · cases h
  · cases h
theorem decC_byC {c : Ca} (hv : validK c = true) (ho : okC64 c) : decC (byC c) = some c := by
  unfold decC
  have h := reads_pC.forth c [] ho
  rw [List.append_nil] at h
  rw [h]
  exact if_pos ⟨rfl, hv⟩
theorem preC_byC {c : Ca} (hv : validK c = true) (ho : okC64 c) (r : List UInt8) : preC (byC c ++ r) = some (c, (byC c).length) := by
  unfold preC
  rw [reads_pC.forth c r ho]
  exact if_pos hv
/-- No proper beginning of the bytes of a cart is, or begins with, a cart. -/
theorem pC_take {c : Ca} (ho : okC64 c) {i : Nat} (hi : i < (byC c).length) : pC ((byC c).take i) = none := by
  refine reads_pC.none_of fun a r ha e => ?_
  have h1 : byC c ++ [] = byC a ++ (r ++ (byC c).drop i) := by
    rw [← List.append_assoc, ← e, List.take_append_drop, List.append_nil]
  obtain ⟨_, h2⟩ := reads_pC.one ho ha h1
  have h3 := congrArg List.length h2
  rw [List.length_append, List.length_drop] at h3
  simp at h3
  omega
theorem decC_take {c : Ca} (ho : okC64 c) {i : Nat} (hi : i < (byC c).length) : decC ((byC c).take i) = none := by unfold decC; rw [pC_take ho hi]
theorem preC_take {c : Ca} (ho : okC64 c) {i : Nat} (hi : i < (byC c).length) : preC ((byC c).take i) = none := by unfold preC; rw [pC_take ho hi]

end

end Go.Proofs.YtpnemekkpifbaaaGreat
