/- Several texts in one: DecX1, BytD, BytE. -/
import Derived.Test.YtpnemekkpifbaaaGreatMAL
import Derived.Test.YtpnemekkpifbaaaGreatMAU
import Derived.Test.YtpnemekkpifbaaaGreatMAN
import Derived.Laws.BitsAllLaws
import Derived.Outline
namespace Go.Proofs.YtpnemekkpifbaaaGreat

section
open Go.RowKit

/-- What reads and then asks; the program's own reading. -/
def pIf {α : Type} (f : α → Bool) (p : Ps α) : Ps α := fun l => (p l).bind fun a => if f a.1 = true then some a else none
def qN (most : Nat) : Ps Nat := pIf (fun n => decide (n ≤ most)) pN
def qZ (most : Nat) : Ps Int := pMap (fun n : Nat => (n : Int)) (qN most)
def qD : Ps (Int × Int) := pAnd (qZ 65535) (qZ 4294967295)
def qM : Ps Mk := pMap (fun x : (Int × Int) × (Int × Nat) => ⟨x.1.1, x.1.2, x.2.1, x.2.2⟩) (pAnd qD (pAnd (qZ 2147483647) pN))
def qL {α : Type} (p : Ps α) : Ps (List α) := fun l => (qN l.length l).bind fun n => (pRep p n.1 (l.drop n.2)).map fun us => (us.1, n.2 + us.2)
def qS : Ps (List UInt8) := fun l => if (rdS l 64).2.2 = 0 then some ((rdS l 64).1, (rdS l 64).2.1) else none
def qI0 : Ps It := pAnd qS (qL qM)
def qI : Ps It := pIf (fun x => decide (0 < x.2.length)) qI0
def qX0 : Ps (List (Int × Int) × List (Int × Int)) := pAnd (qL qD) (qL qD)
def qX : Ps (List (Int × Int) × List (Int × Int)) := pIf (fun x => compC x.1 x.2) qX0
def qC0 : Ps Ca := pAnd qX (qL qI)
def qC : Ps Ca := pIf validK qC0

/-- Whatever the one reads, the other reads, too; and the other way round what is good. -/
structure Asks {α : Type} (ok : α → Prop) (q p : Ps α) : Prop where
  sub : ∀ {l : List UInt8} {v : α × Nat}, q l = some v → p l = some v
  sup : ∀ {l : List UInt8} {v : α × Nat}, p l = some v → ok v.1 → q l = some v
section
variable {α β : Type} {ok : α → Prop} {ok' : β → Prop} {q p : Ps α} {q' p' : Ps β}
theorem Asks.self (p : Ps α) : Asks (fun _ => True) p p := ⟨fun h => h, fun h _ => h⟩
theorem Asks.mono (h : Asks ok q p) {ko : α → Prop} (hk : ∀ a, ko a → ok a) : Asks ko q p := ⟨h.sub, fun e ho => h.sup e (hk _ ho)⟩
theorem Asks.map (h : Asks ok q p) (g : α → β) (hk : ∀ a, ok' (g a) → ok a) : Asks ok' (pMap g q) (pMap g p) where
  sub {l v} e := by
    unfold pMap at e ⊢
    cases e1 : q l with
    | none => rw [e1] at e; cases e
    | some u => rw [e1] at e; rw [h.sub e1]; exact e
  sup {l v} e ho := by
    unfold pMap at e ⊢
    cases e1 : p l with
    | none => rw [e1] at e; cases e
    | some u =>
      rw [e1] at e
      have e2 : (g u.1, u.2) = v := Option.some.inj e
      subst e2
      rw [h.sup e1 (hk _ ho)]
      rfl
theorem Asks.and (h : Asks ok q p) (h' : Asks ok' q' p') : Asks (fun c : α × β => ok c.1 ∧ ok' c.2) (pAnd q q') (pAnd p p') where
  sub {l v} e := by
    unfold pAnd at e ⊢
    cases e1 : q l with
    | none => rw [e1] at e; cases e
    | some u =>
      rw [e1] at e
      rw [h.sub e1]
      simp only [Option.bind_some] at e ⊢
      cases e2 : q' (l.drop u.2) with
      | none => rw [e2] at e; cases e
      | some x => rw [e2] at e; rw [h'.sub e2]; exact e
  sup {l v} e ho := by
    unfold pAnd at e ⊢
    cases e1 : p l with
    | none => rw [e1] at e; cases e
    | some u =>
      rw [e1] at e
      simp only [Option.bind_some] at e
      cases e2 : p' (l.drop u.2) with
      | none => rw [e2] at e; cases e
      | some x =>
        rw [e2] at e
        have e3 : ((u.1, x.1), u.2 + x.2) = v := Option.some.inj e
        subst e3
        rw [h.sup e1 ho.1]
        simp only [Option.bind_some]
        rw [h'.sup e2 ho.2]
        rfl
theorem pIf_some {f : α → Bool} {l : List UInt8} {v : α × Nat} : pIf f q l = some v ↔ q l = some v ∧ f v.1 = true := by
  unfold pIf
  cases e1 : q l with
  | none => simp
  | some u =>
    simp only [Option.bind_some, Option.some.injEq]
    constructor
    · intro h
      split at h
      · rename_i h0
        obtain rfl := Option.some.inj h
        exact ⟨rfl, h0⟩
      · cases h
    · rintro ⟨rfl, h0⟩
      exact if_pos h0
theorem pIf_none {f : α → Bool} {l : List UInt8} : pIf f q l = none ↔ q l = none ∨ ∃ v, q l = some v ∧ f v.1 = false := by
  unfold pIf
  cases e1 : q l with
  | none => simp
  | some u =>
    simp only [Option.bind_some]
    cases e2 : f u.1 with
    | true => simp [e2]
    | false => simp [e2]
theorem Asks.ask (h : Asks ok q p) (f : α → Bool) {ko : α → Prop} (hk : ∀ a, ko a → ok a ∧ f a = true) : Asks ko (pIf f q) p :=
  ⟨fun e => h.sub (pIf_some.1 e).1, fun e ho => pIf_some.2 ⟨h.sup e (hk _ ho).1, (hk _ ho).2⟩⟩
theorem Asks.rep (h : Asks ok q p) : ∀ n : Nat, Asks (fun us : List α => ∀ a ∈ us, ok a) (pRep q n) (pRep p n)
  | 0 => ⟨fun e => e, fun e _ => e⟩
  | n + 1 => ⟨fun {l v} e => by
      unfold pRep at e ⊢
      cases e1 : pRep q n l with
      | none => rw [e1] at e; cases e
      | some u =>
        rw [e1] at e
        rw [(Asks.rep h n).sub e1]
        simp only [Option.bind_some] at e ⊢
        cases e2 : q (l.drop u.2) with
        | none => rw [e2] at e; cases e
        | some x => rw [e2] at e; rw [h.sub e2]; exact e, fun {l v} e ho => by
      unfold pRep at e ⊢
      cases e1 : pRep p n l with
      | none => rw [e1] at e; cases e
      | some u =>
        rw [e1] at e
        simp only [Option.bind_some] at e
        cases e2 : p (l.drop u.2) with
        | none => rw [e2] at e; cases e
        | some x =>
          rw [e2] at e
          have e3 : (u.1 ++ [x.1], u.2 + x.2) = v := Option.some.inj e
          subst e3
          rw [(Asks.rep h n).sup e1 fun a ha => ho a (by simp [ha])]
          simp only [Option.bind_some]
          rw [h.sup e2 (ho _ (by simp))]
          rfl⟩
/-- Each part has a byte at least. -/
theorem Reads.rep_pos {kk : α → Prop} {f : α → List UInt8} (h : Reads kk f p) (h1 : ∀ a, 1 ≤ (f a).length) {n : Nat} {l : List UInt8} {us : List α} {z : Nat} (e : pRep p n l = some (us, z)) : us.length = n ∧ n ≤ z ∧ z ≤ l.length := by
  have hz := (h.rep n).len e
  have hl := (h.rep n).le e
  obtain ⟨⟨hn, _⟩, _⟩ := (h.rep n).back l us z e
  have h2 : ∀ us : List α, us.length ≤ (us.flatMap f).length := by
    intro us
    induction us with
    | nil => simp
    | cons a us ih =>
      rw [List.flatMap_cons, List.length_append, List.length_cons]
      have := h1 a
      omega
  have h3 := h2 us
  exact ⟨hn, by rw [hz]; omega, hl⟩
theorem Asks.qN (most : Nat) : Asks (fun n => n ≤ most) (qN most) pN := (Asks.self pN).ask _ fun a ha => ⟨trivial, by simp [ha]⟩
theorem Asks.list (h : Asks ok q p) {kk : α → Prop} {f : α → List UInt8} (hr : Reads kk f p) (h1 : ∀ a, 1 ≤ (f a).length) : Asks (fun us : List α => ∀ a ∈ us, ok a) (qL q) (pL p) where
  sub {l v} e := by
    unfold qL at e
    unfold pL
    cases e1 : Go.Proofs.YtpnemekkpifbaaaGreat.qN l.length l with
    | none => rw [e1] at e; cases e
    | some n =>
      rw [e1] at e
      rw [(Asks.qN _).sub e1]
      simp only [Option.bind_some] at e ⊢
      cases e2 : pRep q n.1 (l.drop n.2) with
      | none => rw [e2] at e; cases e
      | some u => rw [e2] at e; rw [(h.rep n.1).sub e2]; exact e
  sup {l v} e ho := by
    unfold pL at e
    unfold qL
    cases e1 : pN l with
    | none => rw [e1] at e; cases e
    | some n =>
      rw [e1] at e
      simp only [Option.bind_some] at e
      cases e2 : pRep p n.1 (l.drop n.2) with
      | none => rw [e2] at e; cases e
      | some u =>
        rw [e2] at e
        have e3 : (u.1, n.2 + u.2) = v := Option.some.inj e
        subst e3
        obtain ⟨_, k1, k2⟩ := hr.rep_pos h1 e2
        rw [List.length_drop] at k2
        rw [(Asks.qN _).sup e1 (by omega)]
        simp only [Option.bind_some]
        rw [(h.rep n.1).sup e2 ho]
        rfl
end
theorem Asks.qZ {most : Nat} (hm : most < 9223372036854775808) : Asks (fun v : Int => 0 ≤ v ∧ v ≤ most) (qZ most) pZ where
  sub {l v} e := by
    unfold Go.Proofs.YtpnemekkpifbaaaGreat.qZ pMap at e
    cases e1 : Go.Proofs.YtpnemekkpifbaaaGreat.qN most l with
    | none => rw [e1] at e; cases e
    | some n =>
      rw [e1] at e
      have e3 : ((n.1 : Int), n.2) = v := Option.some.inj e
      subst e3
      have h1 := (pIf_some.1 e1).2
      simp only [decide_eq_true_eq] at h1
      unfold pZ pMap
      rw [(Asks.qN _).sub e1]
      show some (toI n.1, n.2) = _
      have : toI n.1 = n.1 := by unfold toI wrap64; omega
      rw [this]
  sup {l v} e ho := by
    unfold pZ pMap at e
    cases e1 : pN l with
    | none => rw [e1] at e; cases e
    | some n =>
      rw [e1] at e
      have e3 : (toI n.1, n.2) = v := Option.some.inj e
      subst e3
      have h1 := (reads_pN.back l n.1 n.2 e1).1
      obtain ⟨k1, k2⟩ := ho
      have h2 : toI n.1 = n.1 := by unfold toI wrap64 at *; simp only at k1 k2; omega
      simp only [h2] at k1 k2
      unfold Go.Proofs.YtpnemekkpifbaaaGreat.qZ pMap
      rw [(Asks.qN _).sup e1 (by omega)]
      show some ((n.1 : Int), n.2) = some (toI n.1, n.2)
      rw [h2]
theorem qS_val (l : List UInt8) : qS l = (pN l).bind fun n => if n.1 ≤ 64 ∧ n.1 ≤ l.length - n.2 then some ((l.drop n.2).take n.1, n.2 + n.1) else none := by
  have hr : rdS l 64 = if (rd l).2.2 ≠ 0 then ([], 0, (rd l).2.2) else if (64 : Int) < 0 ∨ (64 : Int) < ((rd l).1 : Int) then ([], 0, 5) else if l.length - (rd l).2.1 < (rd l).1 then ([], 0, 4) else ((l.drop (rd l).2.1).take (rd l).1, (rd l).2.1 + (rd l).1, 0) := rfl
  unfold qS
  by_cases h0 : (rd l).2.2 = 0
  · rw [if_neg (fun k => k h0)] at hr
    rw [pN_some h0]
    simp only [Option.bind_some]
    by_cases h1 : (64 : Int) < 0 ∨ (64 : Int) < ((rd l).1 : Int)
    · rw [if_pos h1] at hr
      rw [hr, if_neg (by decide), if_neg (by omega)]
    · rw [if_neg h1] at hr
      by_cases h2 : l.length - (rd l).2.1 < (rd l).1
      · rw [if_pos h2] at hr
        rw [hr, if_neg (by decide), if_neg (by omega)]
      · rw [if_neg h2] at hr
        rw [hr, if_pos rfl, if_pos (by omega)]
  · rw [if_pos h0] at hr
    rw [pN_none h0, hr, if_neg h0]
    rfl
theorem Asks.qS : Asks (fun s : List UInt8 => s.length ≤ 64) qS pS where
  sub {l v} e := by
    rw [qS_val] at e
    unfold pS
    cases e1 : pN l with
    | none => rw [e1] at e; cases e
    | some n =>
      rw [e1] at e
      simp only [Option.bind_some] at e ⊢
      split at e
      · rename_i h0
        rw [if_pos h0.2]; exact e
      · cases e
  sup {l v} e ho := by
    rw [qS_val]
    unfold pS at e
    cases e1 : pN l with
    | none => rw [e1] at e; cases e
    | some n =>
      rw [e1] at e
      simp only [Option.bind_some] at e ⊢
      split at e
      · rename_i h0
        have e3 : ((l.drop n.2).take n.1, n.2 + n.1) = v := Option.some.inj e
        subst e3
        have hl : ((l.drop n.2).take n.1).length = n.1 := by rw [List.length_take, List.length_drop]; omega
        simp only [hl] at ho
        rw [if_pos ⟨ho, h0⟩]
      · cases e
theorem byD_pos (d : Int × Int) : 1 ≤ (byD d).length := by
  unfold byD
  rw [List.length_append]
  have := byZ_one d.1
  omega
theorem byM_pos (m : Mk) : 1 ≤ (byM m).length := by
  unfold byM
  rw [List.length_append]
  have := byZ_one m.r
  omega
theorem byI_pos (x : It) : 1 ≤ (byI x).length := by
  unfold byI byS
  rw [List.length_append, List.length_append]
  have := enc_pos x.1.length
  omega
theorem Asks.qD : Asks (fun d : Int × Int => validD d.1 d.2 = true) qD pD := ((Asks.qZ (by decide)).and (Asks.qZ (by decide))).mono fun d h => by
  unfold validD at h
  simp only [decide_eq_true_eq] at h
  omega
theorem Asks.qM : Asks (fun m : Mk => validM m = true) qM pM := ((Asks.qD).and ((Asks.qZ (most := 2147483647) (by decide)).and (Asks.self pN))).map _ fun a h => by
  unfold validM qtyN at h
  simp only [Bool.and_eq_true, decide_eq_true_eq] at h
  exact ⟨h.1, by omega, trivial⟩
theorem Asks.qI0 : Asks (fun x : It => okI x = true) qI0 pI := (Asks.qS.and (Asks.qM.list reads_pM byM_pos)).mono fun x h => by
  obtain ⟨h1, _, h3, _⟩ := okI_parts h
  exact ⟨((itemN_iff _).1 h1).short, fun m hm => List.all_eq_true.1 h3 m hm⟩
theorem Asks.qI : Asks (fun x : It => okI x = true) qI pI := Asks.qI0.ask _ fun x h => ⟨h, by simpa using (okI_parts h).2.1⟩
theorem Asks.qX0 : Asks (fun x : List (Int × Int) × List (Int × Int) => compC x.1 x.2 = true) qX0 pX := ((Asks.qD.list reads_pD byD_pos).and (Asks.qD.list reads_pD byD_pos)).mono fun x h => by
  obtain ⟨h1, _, h3⟩ := validC_iff.1 (compC_iff.1 h).2
  unfold validV at h1
  rw [Bool.and_eq_true, List.all_eq_true] at h1
  exact ⟨fun d hd => h1.1 d hd, fun d hd => h3 d hd⟩
theorem Asks.qX : Asks (fun x : List (Int × Int) × List (Int × Int) => compC x.1 x.2 = true) qX pX := Asks.qX0.ask _ fun _ h => ⟨h, h⟩
theorem Asks.qC0 : Asks (fun c : Ca => validK c = true) qC0 pC := (Asks.qX.and (Asks.qI.list reads_pI byI_pos)).mono fun c h => by
  obtain ⟨h1, h2, _⟩ := validK_iff.1 h
  exact ⟨h1, fun x hx => h2.1 x hx⟩
theorem Asks.qC : Asks (fun c : Ca => validK c = true) qC pC := Asks.qC0.ask _ fun _ h => ⟨h, h⟩

/-- What the functions of decode answer, by the program's own reading. -/
theorem qC_pre (l : List UInt8) : qC l = preC l := by
  unfold preC
  cases e : pC l with
  | none =>
    cases e1 : qC l with
    | none => rfl
    | some v => rw [Asks.qC.sub e1] at e; cases e
  | some v =>
    show qC l = if validK v.1 = true then some (v.1, v.2) else none
    split
    · rename_i h; exact Asks.qC.sup e h
    · rename_i h
      cases e1 : qC l with
      | none => rfl
      | some u =>
        have e2 := Asks.qC.sub e1
        rw [e] at e2
        obtain rfl := Option.some.inj e2
        exact absurd (pIf_some.1 e1).2 h
theorem decC_q (l : List UInt8) : decC l = (qC l).bind fun c => if c.2 = l.length then some c.1 else none := by
  rw [qC_pre]
  unfold decC preC
  cases e : pC l with
  | none => rfl
  | some v =>
    show (if v.2 = l.length ∧ validK v.1 = true then some v.1 else none) = (if validK v.1 = true then some (v.1, v.2) else none).bind _
    by_cases h : validK v.1 = true
    · rw [if_pos h]
      simp [h]
    · rw [if_neg h, if_neg (fun k => h k.2)]
      rfl
theorem conX_q (l : List UInt8) : conX l = (qX l).bind fun c => if c.2 = l.length then some c.1 else none := by
  unfold conX
  cases e : pX l with
  | none =>
    cases e1 : qX l with
    | none => rfl
    | some v => rw [Asks.qX.sub e1] at e; cases e
  | some v =>
    show (if v.2 = l.length ∧ compC v.1.1 v.1.2 = true then some v.1 else none) = _
    by_cases h : compC v.1.1 v.1.2 = true
    · rw [Asks.qX.sup e h]
      simp [h]
    · rw [if_neg (fun k => h k.2)]
      cases e1 : qX l with
      | none => rfl
      | some u =>
        have e2 := Asks.qX.sub e1
        rw [e] at e2
        obtain rfl := Option.some.inj e2
        exact absurd (pIf_some.1 e1).2 h

end

section
open Go.RowKit

/-- A reader's block: the bytes xs, of which i were read; its row lies in another block. -/
def Rd (W : World) (g : Nat) (A : Option Addr) (c : Nat) (xs : List UInt8) (i : Nat) : Prop :=
  W.heap[g]? = some (.cells #[.bool true, .slice A xs.length c, .int .i64 i] 122 (0, 0)) ∧ BytesAt W A xs ∧ (∀ a, A = some a → a.block ≠ g) ∧ i ≤ xs.length ∧ xs.length ≤ 1000000 ∧ xs.length ≤ c ∧ c ≤ maxLen
section
variable {W W' : World} {g : Nat} {A : Option Addr} {c : Nat} {xs : List UInt8} {i : Nat}
theorem Rd.lt (h : Rd W g A c xs i) : g < W.heap.size := (Array.getElem?_eq_some_iff.1 h.1).1
theorem Rd.c0 (h : Rd W g A c xs i) : W.cell? ⟨g, 0, none⟩ = some (.bool true) := by simp [World.cell?, h.1]
theorem Rd.c1 (h : Rd W g A c xs i) : W.cell? ⟨g, 1, none⟩ = some (.slice A xs.length c) := by simp [World.cell?, h.1]
theorem Rd.c2 (h : Rd W g A c xs i) : W.cell? ⟨g, 2, none⟩ = some (.int .i64 i) := by simp [World.cell?, h.1]
theorem Rd.f2 (h : Rd W g A c xs i) : W.frozen? ⟨g, 2, none⟩ = false := by simp [World.frozen?, h.1]
theorem Rd.below (h : Rd W g A c xs i) (hb : Below W.heap.size W W') : Rd W' g A c xs i := ⟨(hb.block g h.lt).trans h.1, h.2.1.below hb, h.2.2⟩
theorem Rd.holds (h : Rd W g A c xs i) : HoldsB W (.slice A xs.length c) xs := ⟨A, c, rfl, h.2.1, h.2.2.2.2.2.1, h.2.2.2.2.2.2⟩
theorem Rd.chg {S : Nat → Prop} (h : Rd W g A c xs i) (hc : Chg S W W') (h1 : ¬ S g) (h2 : ∀ a, A = some a → ¬ S a.block) : Rd W' g A c xs i := by
  refine ⟨(hc.block g h.lt h1).trans h.1, fun hn => ?_, h.2.2⟩
  obtain ⟨b, off, rfl, hb, hcell⟩ := h.2.1 hn
  exact ⟨b, off, rfl, Nat.lt_of_lt_of_le hb hc.size, fun j x hx k u hu => hc.cell (hcell j x hx k u hu) (show ¬ S b from h2 ⟨b, off, none⟩ rfl)⟩
/-- The place is stored. -/
theorem Rd.set (h : Rd W g A c xs i) {j : Nat} (hj : j ≤ xs.length) : Rd (W.setCell ⟨g, 2, none⟩ (.int .i64 j)) g A c xs j ∧ Chg (fun k => k = g) W (W.setCell ⟨g, 2, none⟩ (.int .i64 j)) := by
  refine ⟨⟨?_, fun hn => ?_, h.2.2.1, hj, h.2.2.2.2⟩, .of_set _ _ rfl⟩
  · obtain ⟨hlt, hk⟩ := Array.getElem?_eq_some_iff.1 h.1
    show (W.heap.modify g _)[g]? = _
    rw [Array.getElem?_modify, if_pos rfl, h.1]
    rfl
  · obtain ⟨b, off, rfl, hb, hcell⟩ := h.2.1 hn
    exact ⟨b, off, rfl, by simpa using hb, fun j x hx k u hu => (World.cell?_of_block (Below.heap_setCell W ⟨g, 2, none⟩ _ b (h.2.2.1 _ rfl))).trans (hcell j x hx k u hu)⟩
end

theorem zeroNot (g : Nat) (w : World) (h : w.cell? ⟨g, 0, none⟩ = some (.bool true)) : Calls Tryz.prog 75 #[.pointer (some ⟨g, 0, none⟩)] w fun e w' => e = .returned (.bool false) ∧ w = w' := by
  go_enter Tryz.func75, Tryz.ntmps75
  go_wp2
  go_ret
  exact ⟨rfl, rfl⟩
set_option maxHeartbeats 1000000 in
theorem newAt (v : Value) (xs : List UInt8) (w : World) (h : HoldsB w v xs) (hm : xs.length ≤ 1000000) :
    Calls Tryz.prog 47 #[v] w fun e w' => (∃ g A c, e = .returned (.pointer (some ⟨g, 0, none⟩)) ∧ Rd w' g A c xs 0 ∧ w.heap.size ≤ g ∧ ∀ a, A = some a → w.heap.size ≤ a.block) ∧ Below w.heap.size w w' := by
  obtain ⟨A, c, rfl, h1, h2, h3⟩ := h
  have H := Lib.hid (cloneB A xs c w h1 hm)
  have HM := Lib.hid hm
  clear h1 h2 h3 hm
  go_enter Tryz.func47, Tryz.ntmps47
  go_wp2_with fail
  refine H.out.mono ?_
  rintro e w1 ⟨⟨v2, rfl, ho⟩, hb⟩
  have ho0 := ho
  obtain ⟨A2, c2, rfl, hc1, hc2, hat⟩ := SlAt.of_own encB_len ho
  have HO := Lib.hid ho0
  have HB := Lib.hid hb
  have HA := Lib.hid hat
  have HC1 := Lib.hid hc1
  have HC2 := Lib.hid hc2
  clear ho ho0 hb hat hc1 hc2
  go_wp2
  go_ret
  have hal : Below w1.heap.size w1 (w1.alloc (.cells #[.bool true, .slice A2 xs.length c2, .int .i64 0] 122)) := (Below.refl _ w1).alloc (Nat.le_refl _) _
  refine ⟨⟨w1.heap.size, A2, c2, rfl, ⟨heap_alloc_new w1 _, HA.out.below hal, fun a ha => ?_, Nat.zero_le _, HM.out, HC1.out, HC2.out⟩, HB.out.size, fun a ha => ?_⟩, below_trans HB.out hal⟩
  · subst ha
    have := (HO.out.lt a.block rfl).2
    omega
  · subst ha
    exact (HO.out.lt a.block rfl).1

set_option maxHeartbeats 1000000 in
theorem leftAt (g : Nat) (A : Option Addr) (c : Nat) (xs : List UInt8) (i : Nat) (w : World) (h : Rd w g A c xs i) :
    Calls Tryz.prog 73 #[.pointer (some ⟨g, 0, none⟩)] w fun e w' => e = .returned (.int .i64 ((xs.length - i : Nat) : Int)) ∧ Below w.heap.size w w' := by
  have j1 := fun z => cell_far (p := z) (w := w) (a := ⟨g, 1, none⟩) h.lt h.c1
  have j2 := fun z => cell_far (p := z) (w := w) (a := ⟨g, 2, none⟩) h.lt h.c2
  have hi := h.2.2.2.1
  have hm := h.2.2.2.2.1
  have HI := Lib.hid (show ((xs.length : Int) - (i : Int)) = ((xs.length - i : Nat) : Int) by omega)
  have e1 : IntKind.i64.wrap ((xs.length : Int) - (i : Int)) = (xs.length : Int) - (i : Int) := by simp [IntKind.wrap, IntKind.bits, IntKind.signed]; omega
  clear h
  go_enter Tryz.func73, Tryz.ntmps73
  go_wp2_with fail
  refine wp_region_far (by kernel_rfl) (by kernel_rfl) ?_
  repeat (go_big_quiet_step ((fail)))
  refine wpQuiet_nil ?_
  rintro _ ⟨p, rfl⟩
  clear e1
  go_wp2
  go_ret
  exact ⟨by rw [← HI.out]; rfl, below_far _ _⟩
theorem atAt (g : Nat) (A : Option Addr) (c : Nat) (xs : List UInt8) (i : Nat) (w : World) (h : Rd w g A c xs i) :
    Calls Tryz.prog 64 #[.pointer (some ⟨g, 0, none⟩)] w fun e w' => e = .returned (.int .i64 i) ∧ w = w' := by
  have j2 := h.c2
  clear h
  go_enter Tryz.func64, Tryz.ntmps64
  go_wp2
  go_ret
  exact ⟨rfl, rfl⟩
set_option maxHeartbeats 1000000 in
theorem endAt (g : Nat) (A : Option Addr) (c : Nat) (xs : List UInt8) (i : Nat) (n : Int) (w : World) (h : Rd w g A c xs i) (hn : (if i = xs.length then 0 else 12) = n) :
    Calls Tryz.prog 49 #[.pointer (some ⟨g, 0, none⟩)] w fun e w' => e = .returned (.int .i64 n) ∧ Below w.heap.size w w' := by
  have HZ := Lib.hid (zeroNot g w h.c0)
  have HL := Lib.hid (leftAt g A c xs i w h)
  have hi := h.2.2.2.1
  have HN := Lib.hid hn
  by_cases e : i = xs.length
  · have HE : Hid (n = 0) := by show n = 0; rw [← hn, if_pos e]
    have i0 : ((xs.length - i : Nat) : Int) = 0 := by omega
    rw [i0] at HL
    clear h hn hi e i0 HN
    go_enter Tryz.func49, Tryz.ntmps49
    go_wp2_with fail
    refine HZ.out.mono ?_
    rintro e w1 ⟨rfl, rfl⟩
    go_wp2_with fail
    refine HL.out.mono ?_
    rintro e w1 ⟨rfl, hb⟩
    have HB := Lib.hid hb
    clear hb
    go_wp2_with fail
    go_ret
    exact ⟨by rw [HE.out]; rfl, HB.out⟩
  · have HE : Hid (n = 12) := by show n = 12; rw [← hn, if_neg e]
    have i0 : (0 : Int) < ((xs.length - i : Nat) : Int) := by omega
    generalize ((xs.length - i : Nat) : Int) = q at *
    clear h hn hi e HN
    go_enter Tryz.func49, Tryz.ntmps49
    go_wp2_with fail
    refine HZ.out.mono ?_
    rintro e w1 ⟨rfl, rfl⟩
    go_wp2_with fail
    refine HL.out.mono ?_
    rintro e w1 ⟨rfl, hb⟩
    have HB := Lib.hid hb
    clear hb
    go_wp2_with fail
    go_ret
    exact ⟨by rw [HE.out]; rfl, HB.out⟩
end

section
open Go.RowKit

/-- What num returns. -/
def numP (t : Nat × Nat × Int) (most : Nat) : Nat × Int := if t.2.2 ≠ 0 then (0, t.2.2) else if most < t.1 then (0, 3) else (t.1, 0)
theorem rdN_zero (i acc : Nat) (l : List UInt8) : rdN 0 i acc l = (0, 0, 12) := by cases l <;> rfl
theorem or_add (a x k : Nat) (h : a < 128 ^ k) : a ||| (x * 128 ^ k) = a + x * 128 ^ k := by
  have e : 128 ^ k = 2 ^ (7 * k) := by rw [Nat.pow_mul]
  rw [e] at h ⊢
  rw [Nat.or_comm, ← Nat.shiftLeft_eq, ← Nat.shiftLeft_add_eq_or_of_lt h, Nat.add_comm]
theorem wrap_nat (n : Nat) : IntKind.u64.wrap (n : Int) = ((n % 18446744073709551616 : Nat) : Int) := by simp [IntKind.wrap, IntKind.bits, IntKind.signed]
/-- The number with one group more. -/
theorem or_val (acc q x : Nat) (hacc : acc < 18446744073709551616) (hx : x < 128) (hq : q ≤ 9) (h9 : acc < 128 ^ q) :
    ∃ a : Nat, bits BinOp.or IntKind.u64 (acc : Int) (IntKind.u64.wrap ((x : Int) * 2 ^ (7 * q))) = (a : Int) ∧ a < 18446744073709551616 ∧ ((q ≤ 8 ∨ x ≤ 1) → a = acc + x * 128 ^ q) ∧ (q ≤ 8 → a < 128 ^ (q + 1)) := by
  have e : (x : Int) * 2 ^ (7 * q) = ((x * 128 ^ q : Nat) : Int) := by rw [show (128 : Nat) ^ q = 2 ^ (7 * q) by rw [Nat.pow_mul]]; simp
  rw [e, wrap_nat, u64_or_nat acc _ hacc (Nat.mod_lt _ (by omega))]
  refine ⟨_, rfl, ?_, ?_, ?_⟩
  · exact Nat.or_lt_two_pow (n := 64) hacc (Nat.mod_lt _ (by omega))
  · intro h
    have hlt : x * 128 ^ q < 18446744073709551616 := by
      rcases h with h | h
      · have : 128 ^ q ≤ 128 ^ 8 := Nat.pow_le_pow_right (by omega) h
        have h2 : x * 128 ^ q ≤ 127 * 128 ^ 8 := Nat.mul_le_mul (by omega) this
        omega
      · have : 128 ^ q ≤ 128 ^ 9 := Nat.pow_le_pow_right (by omega) hq
        have h2 : x * 128 ^ q ≤ 1 * 128 ^ 9 := Nat.mul_le_mul h this
        omega
    rw [Nat.mod_eq_of_lt hlt, or_add _ _ _ h9]
  · intro h
    have hle : 128 ^ q ≤ 128 ^ 8 := Nat.pow_le_pow_right (by omega) h
    have h2 : x * 128 ^ q ≤ 127 * 128 ^ q := Nat.mul_le_mul_right _ (by omega)
    have h3 : x * 128 ^ q < 18446744073709551616 := by omega
    rw [Nat.mod_eq_of_lt h3, or_add _ _ _ h9, Nat.pow_succ]
    omega
theorem rdN_cons (k i acc : Nat) (b : UInt8) (r : List UInt8) : rdN (k + 1) i acc (b :: r) = if 128 ≤ b.toNat then rdN k (i + 1) (acc + b.toNat % 128 * 128 ^ i) r
    else if (b.toNat = 0 ∧ 0 < i) ∨ (1 < b.toNat ∧ i = 9) then (0, 0, 12) else (acc + b.toNat % 128 * 128 ^ i, i + 1, 0) := rfl

/-- What num leaves. -/
def NumR (w : World) (g : Nat) (A : Option Addr) (c : Nat) (xs : List UInt8) (i : Nat) (n : Nat) (er : Int) (e : Ending) (w' : World) : Prop :=
  e = .returned (.tuple #[.int .u64 n, .int .i64 er]) ∧ ∃ j, Rd w' g A c xs j ∧ Chg (fun k => k = g) w w' ∧ (er = 0 → j = i + (rd (xs.drop i)).2.1)
theorem NumR.mk {w w' : World} {g : Nat} {A : Option Addr} {c : Nat} {xs : List UInt8} {i n j : Nat} {er : Int} (h : Rd w' g A c xs j) (hc : Chg (fun k => k = g) w w') (hj : er = 0 → j = i + (rd (xs.drop i)).2.1) {n' er' : Int} (hn : (n : Int) = n') (he : er = er') : NumR w g A c xs i n er (.returned (.tuple #[.int .u64 n', .int .i64 er'])) w' := by
  subst hn; subst he; exact ⟨rfl, j, h, hc, hj⟩

set_option maxRecDepth 100000 in
set_option maxHeartbeats 4000000 in
theorem numIn (g : Nat) (A : Option Addr) (c : Nat) (xs : List UInt8) (i : Nat) (most : Nat) (w : World) (h : Rd w g A c xs i) (_ : most < 18446744073709551616) (n : Nat) (er : Int) (hr : numP (rd (xs.drop i)) most = (n, er)) :
    Calls Tryz.prog 115 #[.pointer (some ⟨g, 0, none⟩), .int .u64 (most : Int)] w (NumR w g A c xs i n er) := by
  have H := Lib.hid h
  have HR := Lib.hid hr
  clear h hr
  go_enter Tryz.func115, Tryz.ntmps115
  go_wp2_with fail
  go_loopw [6, 9] (fun a k wr => ∃ (q acc : Nat), q ≤ 10 ∧ k = .int .i64 q ∧ a = .int .u64 acc ∧ acc < 18446744073709551616 ∧ Hid (q ≤ 9 → acc < 128 ^ q) ∧ Hid (rd (xs.drop i) = rdN (10 - q) q acc (xs.drop (i + q))) ∧ Hid (Rd wr g A c xs (i + q)) ∧ Hid (Chg (fun k => k = g) w wr)) (fun _ k _ => 10 - (intOf k).toNat)
  case atStart => exact ⟨0, 0, by omega, rfl, rfl, by omega, fun _ => by simp, rfl, H, Chg.refl _ _⟩
  case round =>
    obtain ⟨q, acc, hq, rfl, rfl, hacc, hq9, hrd, hR, hC⟩ := hrel
    by_cases hlt : q < 10
    · have HL := Lib.hid (leftAt g A c xs (i + q) wr hR.out)
      by_cases hle : xs.length = i + q
      · have i0 : ((xs.length - (i + q) : Nat) : Int) = 0 := by omega
        rw [i0] at HL
        clear i0
        have hs : rd (xs.drop i) = (0, 0, 4) := by
          rw [hrd.out, List.drop_of_length_le (by omega), show 10 - q = (9 - q) + 1 by omega]
          rfl
        have hne : n = 0 ∧ er = 4 := by
          have := HR.out
          rw [hs] at this
          simp [numP] at this
          exact ⟨this.1.symm, this.2.symm⟩
        have HNE := Lib.hid hne
        clear hs hne hle
        go_wp2_with fail
        refine HL.out.mono ?_
        rintro e w1 ⟨rfl, hb⟩
        have HB := Lib.hid hb
        clear hb
        go_wp2_with fail
        go_ret2
        exact NumR.mk (hR.out.below HB.out) (hC.out.trans (T := fun _ => False) (Chg.of_below HB.out) (fun _ _ e => e.elim)) (fun e => by have := HNE.out.2; omega) (by rw [HNE.out.1]; rfl) HNE.out.2
      · have i0 : (0 : Int) < ((xs.length - (i + q) : Nat) : Int) := by have := hR.out.2.2.2.1; omega
        have hlt2 : i + q < xs.length := by have := hR.out.2.2.2.1; omega
        generalize ((xs.length - (i + q) : Nat) : Int) = z at *
        obtain ⟨b, hbx⟩ : ∃ b, xs[i + q]'hlt2 = b := ⟨_, rfl⟩
        have hd := List.getElem?_eq_getElem hlt2
        rw [hbx] at hd
        have HD := Lib.hid (show xs.drop (i + q) = b :: xs.drop (i + (q + 1)) by rw [List.drop_eq_getElem_cons hlt2, hbx]; rfl)
        obtain ⟨bk, off, hA, hbl, hcell⟩ := hR.out.2.1 (by omega)
        subst hA
        have hc0 := hcell (i + q) b hd 0 _ rfl
        clear hbx
        go_wp2_with fail
        refine HL.out.mono ?_
        rintro e w1 ⟨rfl, hb⟩
        have HB := Lib.hid hb
        have hR1 := hR.out.below hb
        have c1 := fun z => cell_far (p := z) (w := w1) (a := ⟨g, 1, none⟩) hR1.lt hR1.c1
        have c2 := fun z => cell_far (p := z) (w := w1) (a := ⟨g, 2, none⟩) hR1.lt hR1.c2
        have d0 : w1.cell? ⟨bk, off + (i + q), none⟩ = some (.int .u8 b.toNat) := (hb.cell (p := ⟨bk, off + (i + q), none⟩) hbl).trans (by simpa using hc0)
        have d1 := fun z => cell_far (p := z) (w := w1) (a := ⟨bk, off + (i + q), none⟩) (World.block_lt_of_cell? w1 _ d0) d0
        have b0 : (0 : Int) ≤ ((i + q : Nat) : Int) := by omega
        have b1 : ((i + q : Nat) : Int) < (xs.length : Int) := by omega
        clear hb hc0 hcell hd d0
        go_wp2_with fail
        refine wp_region_far (by kernel_rfl) (by kernel_rfl) ?_
        repeat (go_big_quiet_step ((fail)))
        refine wpQuiet_nil ?_
        rintro _ ⟨p, rfl⟩
        have hR2 := hR1.below (below_far w1 p)
        have hC2 := hC.out.trans (T := fun _ => False) (Chg.of_below (below_trans HB.out (below_far w1 p))) (fun _ _ e => e.elim)
        clear c1 c2 d1 hR1 HB b0 b1
        generalize far w1 p = w2 at *
        have c2 := hR2.c2
        have f2 := hR2.f2
        have hst := hR2.set (j := i + (q + 1)) (by omega)
        have HST := Lib.hid (show Rd (w2.setCell ⟨g, 2, none⟩ (.int .i64 (((i + q : Nat) : Int) + 1))) g (some ⟨bk, off, none⟩) c xs (i + (q + 1)) ∧ Chg (fun k => k = g) w (w2.setCell ⟨g, 2, none⟩ (.int .i64 (((i + q : Nat) : Int) + 1))) from by
          rw [show ((i + q : Nat) : Int) + 1 = ((i + (q + 1) : Nat) : Int) by omega]
          exact ⟨hst.1, hC2.trans hst.2 fun _ _ e => e⟩)
        have a0 : (0 : Int) ≤ ((i + q : Nat) : Int) := by omega
        have a1 : ((i + q : Nat) : Int) ≤ 1000000 := by have := hR2.2.2.2.2.1; omega
        have HI := Lib.hid hlt2
        clear hst hR2 hC2 hR hC hlt2
        generalize ((i + q : Nat) : Int) = at0 at *
        have hbt := toNat_lt b
        obtain ⟨a, hav, ha64, ha, ha9⟩ := or_val acc q (b.toNat % 128) hacc (Nat.mod_lt _ (by omega)) (by omega) (hq9.out (by omega))
        have em : ((b.toNat % 128 : Nat) : Int) = (b.toNat : Int) % 128 := by omega
        rw [em] at hav
        have HA := Lib.hid ha
        have HA9 := Lib.hid ha9
        have hrd2 := hrd.out
        rw [HD.out, show 10 - q = (9 - q) + 1 by omega, rdN_cons] at hrd2
        clear em ha ha9
        by_cases h128 : 128 ≤ b.toNat
        · rw [if_pos h128] at hrd2
          have HRD := Lib.hid hrd2
          have HV := Lib.hid hav
          have k0 : (128 : Int) ≤ (b.toNat : Int) := by omega
          clear hrd2 hav
          go_wp2_with fail
          go_roundw
          case rel =>
            refine ⟨q + 1, a, by omega, by go_num, by rw [HV.out], ha64, fun h9 => HA9.out (by omega), ?_, HST.out.1, HST.out.2⟩
            show rd (xs.drop i) = _
            rw [HRD.out]
            by_cases h8 : q ≤ 8
            · rw [HA.out (.inl h8), show 10 - (q + 1) = 9 - q by omega]
            · obtain rfl : q = 9 := by omega
              rw [rdN_zero, rdN_zero]
          case measure => simp [intOf]; omega
        · rw [if_neg h128] at hrd2
          have k0 : ¬ (128 : Int) ≤ (b.toNat : Int) := by omega
          by_cases hbad : (b.toNat = 0 ∧ 0 < q) ∨ (1 < b.toNat ∧ q = 9)
          · rw [if_pos hbad] at hrd2
            have HNE : Hid (n = 0 ∧ er = 12) := by
              have := HR.out
              rw [hrd2] at this
              simp [numP] at this
              exact ⟨this.1.symm, this.2.symm⟩
            clear hrd2 hav h128
            have fin : NumR w g (some ⟨bk, off, none⟩) c xs i n er (.returned (.tuple #[.int .u64 0, .int .i64 12])) (w2.setCell ⟨g, 2, none⟩ (.int .i64 (at0 + 1))) :=
              NumR.mk HST.out.1 HST.out.2 (fun e => by have := HNE.out.2; omega) (by rw [HNE.out.1]; rfl) HNE.out.2
            have FIN := Lib.hid fin
            clear fin
            rcases hbad with ⟨hb0, hq0⟩ | ⟨hb1, hq9'⟩
            · have z0 : (b.toNat : Int) = 0 := by omega
              have z1 : (0 : Int) < (q : Int) := by omega
              clear hb0 hq0 hbt
              go_wp2_with fail
              go_ret2
              exact FIN.out
            · have z0 : ((b.toNat : Int) == 0) = false := by simp; omega
              have z2 : (1 : Int) < (b.toNat : Int) := by omega
              have z3 : (q : Int) = 9 := by omega
              clear hb1 hq9'
              go_wp2_with fail
              go_ret2
              exact FIN.out
          · rw [if_neg hbad] at hrd2
            have hx1 : q ≤ 8 ∨ b.toNat % 128 ≤ 1 := by omega
            have hae := HA.out hx1
            rw [← hae] at hrd2
            have HRD := Lib.hid hrd2
            have hz : (((b.toNat : Int) == 0) && decide ((0 : Int) < (q : Int))) = false := by
              cases hh : ((b.toNat : Int) == 0)
              · rfl
              · have : b.toNat = 0 := by simpa using hh
                simp; omega
            clear hrd2 hae hx1 hz
            obtain ⟨FR, hFR⟩ : ∃ FR : Nat × Int, (if most < a then (0, 3) else (a, 0)) = FR := ⟨_, rfl⟩
            have HNE : Hid (n = FR.1 ∧ er = FR.2) := by
              have := HR.out
              rw [HRD.out] at this
              simp only [numP] at this
              rw [if_neg (by simp), hFR] at this
              rw [this]; exact ⟨rfl, rfl⟩
            have FIN := Lib.hid (show NumR w g (some ⟨bk, off, none⟩) c xs i n er (.returned (.tuple #[.int .u64 (FR.1 : Int), .int .i64 FR.2])) (w2.setCell ⟨g, 2, none⟩ (.int .i64 (at0 + 1))) from
              NumR.mk HST.out.1 HST.out.2 (fun _ => by rw [HRD.out]) (by rw [HNE.out.1]) HNE.out.2)
            clear HNE
            have hcs : (b.toNat = 0 ∧ q = 0) ∨ (b.toNat = 1) ∨ (1 < b.toNat ∧ q ≠ 9) := by omega
            by_cases hgt : most < a
            · rw [if_pos hgt] at hFR
              subst hFR
              have g1 : (most : Int) < (a : Int) := by omega
              clear hgt hbad h128
              rcases hcs with ⟨hb0, hq0⟩ | hb1 | ⟨hb2, hq2⟩
              · have z0 : ((b.toNat : Int) == 0) = true := by simp; omega
                have z1 : decide (0 < q) = false := by simp; omega
                have z2 : decide ((1 : Int) < (b.toNat : Int)) = false := by simp; omega
                clear hb0 hq0 hbt
                go_wp2_with fail
                go_ret2
                exact FIN.out
              · have z0 : ((b.toNat : Int) == 0) = false := by simp; omega
                have z2 : decide ((1 : Int) < (b.toNat : Int)) = false := by simp; omega
                clear hb1 hbt
                go_wp2_with fail
                go_ret2
                exact FIN.out
              · have z0 : ((b.toNat : Int) == 0) = false := by simp; omega
                have z2 : (1 : Int) < (b.toNat : Int) := by omega
                have z3 : ((q : Int) == 9) = false := by simp; omega
                clear hb2 hq2
                go_wp2_with fail
                go_ret2
                exact FIN.out
            · rw [if_neg hgt] at hFR
              subst hFR
              have g1 : ¬ (most : Int) < (a : Int) := by omega
              clear hgt hbad h128
              rcases hcs with ⟨hb0, hq0⟩ | hb1 | ⟨hb2, hq2⟩
              · have z0 : ((b.toNat : Int) == 0) = true := by simp; omega
                have z1 : decide (0 < q) = false := by simp; omega
                have z2 : decide ((1 : Int) < (b.toNat : Int)) = false := by simp; omega
                clear hb0 hq0 hbt
                go_wp2_with fail
                go_ret2
                exact FIN.out
              · have z0 : ((b.toNat : Int) == 0) = false := by simp; omega
                have z2 : decide ((1 : Int) < (b.toNat : Int)) = false := by simp; omega
                clear hb1 hbt
                go_wp2_with fail
                go_ret2
                exact FIN.out
              · have z0 : ((b.toNat : Int) == 0) = false := by simp; omega
                have z2 : (1 : Int) < (b.toNat : Int) := by omega
                have z3 : ((q : Int) == 9) = false := by simp; omega
                clear hb2 hq2
                go_wp2_with fail
                go_ret2
                exact FIN.out
    · obtain rfl : q = 10 := by omega
      have hrd2 := hrd.out
      rw [rdN_zero] at hrd2
      have HNE : Hid (n = 0 ∧ er = 12) := by
        have := HR.out
        rw [hrd2] at this
        simp [numP] at this
        exact ⟨this.1.symm, this.2.symm⟩
      have FIN := Lib.hid (show NumR w g A c xs i n er (.returned (.tuple #[.int .u64 0, .int .i64 12])) wr from
        NumR.mk hR.out hC.out (fun e => by have := HNE.out.2; omega) (by rw [HNE.out.1]; rfl) HNE.out.2)
      clear hrd2 HNE hrd hR hC hq9 hlt hq hacc
      go_wp2_with fail
      go_ret2
      exact FIN.out

end

end Go.Proofs.YtpnemekkpifbaaaGreat
