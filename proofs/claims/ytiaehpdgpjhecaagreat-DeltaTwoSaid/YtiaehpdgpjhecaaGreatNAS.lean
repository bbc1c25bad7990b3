/- Several texts in one: DelK, DelL, CarE, ItmV, CarF. -/
import Derived.Test.YtiaehpdgpjhecaaGreatNAO
import Derived.Test.YtiaehpdgpjhecaaGreatNAR
import Derived.Test.YtiaehpdgpjhecaaGreatNAN
namespace Go.Proofs.YtiaehpdgpjhecaaGreat

section
open Go.RowKit

/-- The delta that has seen some dots; with an item. -/
def goneD (l : List (Int × Int)) : Ca := (addC [] [] l, [])
def deltaD (d : Int × Int) (nm : List UInt8) (q : Int) (t : Nat) (l : List (Int × Int)) : Ca := (addC [] [] (d :: l), [(nm, [⟨d.1, d.2, q, t⟩])])
theorem hasC_nil (r c : Int) : hasC [] [] r c = false := by
  cases h : hasC [] [] r c with
  | false => rfl
  | true =>
    obtain ⟨h1, h2 | h2⟩ := hasC_iff.1 h
    · obtain ⟨h3, h4⟩ := hasV_iff.1 h2
      simp [getV] at h4
      simp [validD] at h1
      omega
    · cases h2
theorem goneC_has {l : List (Int × Int)} (hl : ∀ p ∈ l, validD p.1 p.2 = true) (r c : Int) : hasC (addC [] [] l).1 (addC [] [] l).2 r c = decide ((r, c) ∈ l) := by
  rw [addC_has (by decide) hl, hasC_nil, Bool.false_or]
theorem gone_valid {l : List (Int × Int)} (hl : ∀ p ∈ l, validD p.1 p.2 = true) : validK (goneD l) = true :=
  validK_iff.2 ⟨addC_comp (by decide) hl, ⟨fun x hx => (by cases hx), List.Pairwise.nil, List.Pairwise.nil⟩, fun d hd => by
    obtain ⟨x, hx, _⟩ := mem_dotsI.1 hd
    cases hx⟩
theorem gone_has {l : List (Int × Int)} (hl : ∀ p ∈ l, validD p.1 p.2 = true) (p : Int × Int) : hasK (goneD l) p = decide (p ∈ l) := goneC_has hl p.1 p.2
section
variable {d : Int × Int} {nm : List UInt8} {q : Int} {t : Nat} {l : List (Int × Int)}
theorem okI_one (hn : itemN nm = true) (hv : validM ⟨d.1, d.2, q, t⟩ = true) : okI (nm, [⟨d.1, d.2, q, t⟩]) = true := by
  unfold okI
  rw [Bool.and_eq_true, Bool.and_eq_true, Bool.and_eq_true]
  exact ⟨hn, by simp, by simp [hv], rfl⟩
theorem delta_valid (hn : itemN nm = true) (hv : validM ⟨d.1, d.2, q, t⟩ = true) (hd : validD d.1 d.2 = true) (hl : ∀ p ∈ l, validD p.1 p.2 = true) : validK (deltaD d nm q t l) = true := by
  have hl2 : ∀ p ∈ d :: l, validD p.1 p.2 = true := fun p hp => by
    rcases List.mem_cons.1 hp with rfl | hp
    · exact hd
    · exact hl p hp
  refine validK_iff.2 ⟨addC_comp (by decide) hl2, ⟨fun x hx => ?_, List.pairwise_singleton _ _, List.pairwise_singleton _ _⟩, fun p hp => ?_⟩
  · obtain rfl : x = (nm, [⟨d.1, d.2, q, t⟩]) := List.mem_singleton.1 hx
    exact okI_one hn hv
  · obtain ⟨x, hx, m, hm, he⟩ := mem_dotsI.1 hp
    obtain rfl : x = (nm, [⟨d.1, d.2, q, t⟩]) := List.mem_singleton.1 hx
    obtain rfl : m = ⟨d.1, d.2, q, t⟩ := List.mem_singleton.1 hm
    have he : d = p := he
    rw [← he]
    show hasC (addC [] [] (d :: l)).1 (addC [] [] (d :: l)).2 d.1 d.2 = true
    rw [goneC_has hl2]
    simp
theorem delta_has (hd : validD d.1 d.2 = true) (hl : ∀ p ∈ l, validD p.1 p.2 = true) (p : Int × Int) : hasK (deltaD d nm q t l) p = decide (p = d ∨ p ∈ l) := by
  have hl2 : ∀ p ∈ d :: l, validD p.1 p.2 = true := fun p hp => by
    rcases List.mem_cons.1 hp with rfl | hp
    · exact hd
    · exact hl p hp
  show hasC (addC [] [] (d :: l)).1 (addC [] [] (d :: l)).2 p.1 p.2 = _
  rw [goneC_has hl2]
  exact decide_eq_decide.2 List.mem_cons
theorem delta_mark (n : List UInt8) (p : Int × Int) : markL (deltaD d nm q t l).2 n p = if n = nm ∧ p = d then some ⟨d.1, d.2, q, t⟩ else none := by
  show markL [(nm, [⟨d.1, d.2, q, t⟩])] n p = _
  unfold markL
  by_cases h1 : nm = n
  · subst h1
    rw [List.find?_cons_of_pos (by simp)]
    show markM [⟨d.1, d.2, q, t⟩] p = _
    unfold markM
    by_cases h2 : d = p
    · subst h2
      rw [List.find?_cons_of_pos (by simp [dotM]), if_pos ⟨rfl, rfl⟩]
    · rw [List.find?_cons_of_neg (by simpa [dotM] using h2), List.find?_nil, if_neg (fun h => h2 h.2.symm)]
  · rw [List.find?_cons_of_neg (by simp [h1]), List.find?_nil, if_neg (fun h => h1 h.1.symm)]
    rfl
end
/-- The dots of an item that is there; of all of them. -/
theorem mem_dotsK {l : List It} (h : Good l) {nm : List UInt8} (hn : nm ≠ []) {p : Int × Int} : p ∈ dotsK l nm ↔ (markL l nm p).isSome = true := by
  unfold dotsK
  rw [if_neg hn]
  unfold markL
  cases hf : l.find? (fun x => x.1 == nm) with
  | none => simp
  | some x =>
    show p ∈ dotsM x.2 ↔ (markM x.2 p).isSome = true
    have hx := List.mem_of_find?_eq_some hf
    constructor
    · intro hp
      obtain ⟨m, hm, rfl⟩ := List.mem_map.1 hp
      have := markM_mem (okI_parts (h.1 x hx)).2.2.2 hm
      exact Option.isSome_iff_exists.2 ⟨m, this⟩
    · intro hs
      obtain ⟨m, hm⟩ := Option.isSome_iff_exists.1 hs
      obtain ⟨h1, h2⟩ := markM_some hm
      exact List.mem_map.2 ⟨m, h1, h2⟩
theorem markL_other {l : List It} (h : Good l) {n n' : List UInt8} {p : Int × Int} (h1 : (markL l n p).isSome = true) (h2 : (markL l n' p).isSome = true) : n = n' := by
  obtain ⟨m, hm⟩ := Option.isSome_iff_exists.1 h1
  obtain ⟨m', hm'⟩ := Option.isSome_iff_exists.1 h2
  obtain ⟨i, hi, hin, hxi, hxd⟩ := markL_some hm
  obtain ⟨j, hj, hjn, hyj, hyd⟩ := markL_some hm'
  by_cases e : i.1 = j.1
  · rw [← hin, ← hjn, e]
  · exact absurd rfl (meet_no.1 (h.apart hi hj e) p (by rw [← hxd]; exact List.mem_map.2 ⟨m, hxi, rfl⟩) p (by rw [← hyd]; exact List.mem_map.2 ⟨m', hyj, rfl⟩))
theorem markL_rem (l : List It) (nm n : List UInt8) (p : Int × Int) : markL (remN l nm) n p = if n = nm then none else markL l n p := by
  unfold markL
  have e : (remN l nm).find? (fun x => x.1 == n) = if n = nm then none else l.find? (fun x => x.1 == n) := by
    unfold remN
    rw [List.find?_filter]
    by_cases h : n = nm
    · rw [if_pos h, List.find?_eq_none]
      subst h
      intro x hx
      simp
    · rw [if_neg h]
      refine congrArg (fun f => List.find? f l) (funext fun x => ?_)
      by_cases hx : x.1 = n
      · have : ¬ x.1 = nm := fun k => h (hx.symm.trans k)
        simp [hx, h]
      · simp [hx]
  rw [e]
  split <;> rfl
theorem Good.find_ins {l : List It} {x : It} (hg : Good (insN l x)) (n : List UInt8) (p : Int × Int) (_ : ∀ y ∈ l, y.1 ≠ x.1) : markL (insN l x) n p = if n = x.1 then markM x.2 p else markL l n p := by
  by_cases h : n = x.1
  · rw [if_pos h]
    subst h
    unfold markL
    rw [hg.findN (mem_insN.2 (.inr rfl))]
    rfl
  · rw [if_neg h]
    unfold markL
    have e : (insN l x).find? (fun y => y.1 == n) = l.find? (fun y => y.1 == n) := by
      unfold insN
      have hx : (x.1 == n) = false := by simp [Ne.symm h]
      rw [List.find?_append, List.find?_cons_of_neg (by simp [hx]), ← List.find?_append, List.takeWhile_append_dropWhile]
    rw [e]
theorem sub_dotsK {l : List It} {nm : List UInt8} {p : Int × Int} (hp : p ∈ dotsK l nm) : p ∈ dotsI l := by
  unfold dotsK at hp
  split at hp
  · exact hp
  · split at hp
    · rename_i x hf
      obtain ⟨m, hm, rfl⟩ := List.mem_map.1 hp
      exact mem_dotsI.2 ⟨x, List.mem_of_find?_eq_some hf, m, hm, rfl⟩
    · cases hp
section
variable {c : Ca}
theorem dotsI_valid (h : validK c = true) {p : Int × Int} (hp : p ∈ dotsI c.2) : hasK c p = true ∧ validD p.1 p.2 = true := by
  have := (validK_iff.1 h).2.2 p hp
  exact ⟨this, (hasC_iff.1 this).1⟩
/-- Joining the delta of Add or Set: the item has the new mark alone, the context the new dot more. -/
theorem join_put (h : validK c = true) {d : Int × Int} {nm : List UInt8} {q : Int} {t : Nat} (hn : itemN nm = true) (hne : nm ≠ []) (hv : validM ⟨d.1, d.2, q, t⟩ = true) (hf : hasK c d = false) (hd : validD d.1 d.2 = true) :
    joinK c (deltaD d nm q t (dotsK c.2 nm)) = (addC c.1.1 c.1.2 [d], insN (remN c.2 nm) (nm, [⟨d.1, d.2, q, t⟩])) := by
  obtain ⟨h1, h2, h3⟩ := validK_iff.1 h
  have hl : ∀ p ∈ dotsK c.2 nm, validD p.1 p.2 = true := fun p hp => (dotsI_valid h (sub_dotsK hp)).2
  have hdl := delta_valid (l := dotsK c.2 nm) hn hv hd hl
  have hcc := (compC_iff.1 h1).2
  have hd1 : ∀ p ∈ [d], validD p.1 p.2 = true := fun p hp => by
    obtain rfl : p = d := List.mem_singleton.1 hp
    exact hd
  have hnr : ∀ y ∈ remN c.2 nm, y.1 ≠ (nm, [(⟨d.1, d.2, q, t⟩ : Mk)]).1 := rem_names c.2 nm
  have hno : ∀ x ∈ c.2, d ∉ dotsM x.2 := fun x hx hdx => by
    obtain ⟨m, hm, he⟩ := List.mem_map.1 hdx
    have := (dotsI_valid h (mem_dotsI.2 ⟨x, hx, m, hm, he⟩)).1
    rw [hf] at this; cases this
  have hgi : Good (insN (remN c.2 nm) (nm, [⟨d.1, d.2, q, t⟩])) := by
    refine Good.ins (h2.rem nm) (okI_one hn hv) hnr ?_
    rw [List.any_eq_false]
    intro y hy hm
    have hm : meetN y.2 [⟨d.1, d.2, q, t⟩] = true := hm
    refine absurd hm (by
      rw [Bool.not_eq_true]
      exact meet_no.2 fun a ha b hb => by
        have hb : b = d := by simpa [dotsM, dotM] using hb
        subst hb
        rintro rfl
        exact hno y (mem_remN.1 hy).1 ha)
  have hr : validK (addC c.1.1 c.1.2 [d], insN (remN c.2 nm) (nm, [⟨d.1, d.2, q, t⟩])) = true := validK_iff.2 ⟨addC_comp hcc hd1, hgi, fun p hp => by
    show hasC (addC c.1.1 c.1.2 [d]).1 (addC c.1.1 c.1.2 [d]).2 p.1 p.2 = true
    rw [addC_has hcc hd1]
    obtain ⟨x, hx, m, hm, he⟩ := mem_dotsI.1 hp
    rcases mem_insN.1 hx with hx | rfl
    · have := h3 p (mem_dotsI.2 ⟨x, (mem_remN.1 hx).1, m, hm, he⟩)
      rw [this]; rfl
    · obtain rfl : m = ⟨d.1, d.2, q, t⟩ := List.mem_singleton.1 hm
      have he : d = p := he
      subst he
      simp⟩
  refine validK_ext (joinK_valid h hdl) hr (fun p => ?_) fun n p => ?_
  · rw [joinK_has h hdl, delta_has hd hl]
    show (hasK c p || _) = hasC (addC c.1.1 c.1.2 [d]).1 (addC c.1.1 c.1.2 [d]).2 p.1 p.2
    rw [addC_has hcc hd1]
    show (hasK c p || _) = (hasK c p || _)
    by_cases hp : p ∈ dotsK c.2 nm
    · rw [(dotsI_valid h (sub_dotsK hp)).1]; rfl
    · congr 1
      simp [hp]
  · show markL (joinI c (deltaD d nm q t (dotsK c.2 nm))) n p = markL (insN (remN c.2 nm) (nm, [⟨d.1, d.2, q, t⟩])) n p
    rw [joinI_mark h hdl, hgi.find_ins n p hnr, markL_rem]
    unfold joinedK
    rw [delta_mark, delta_has hd hl]
    have hdm : ∀ n, markL c.2 n d = none := fun n => by
      cases hm : markL c.2 n d with
      | none => rfl
      | some m =>
        have := validK_seen h n d (by rw [hm]; rfl)
        rw [hf] at this; cases this
    by_cases e : n = nm
    · subst e
      rw [if_pos rfl]
      by_cases ep : p = d
      · subst ep
        rw [if_pos ⟨rfl, rfl⟩, hdm, hf]
        show meetO false _ none (some _) = markM [_] p
        unfold markM
        rw [List.find?_cons_of_pos (by simp [dotM])]
        rfl
      · rw [if_neg (fun k => ep k.2)]
        have ep2 : ¬ d = p := fun k => ep k.symm
        have hmm : markM [⟨d.1, d.2, q, t⟩] p = none := by
          unfold markM
          rw [List.find?_cons_of_neg (by simpa [dotM] using ep2), List.find?_nil]
        show _ = markM [⟨d.1, d.2, q, t⟩] p
        rw [hmm]
        cases hm : markL c.2 n p with
        | none => rfl
        | some m =>
          have : p ∈ dotsK c.2 n := (mem_dotsK h2 hne).2 (by rw [hm]; rfl)
          simp [meetO, this]
    · rw [if_neg (fun k => e k.1), if_neg e, if_neg e]
      cases hm : markL c.2 n p with
      | none => rfl
      | some m =>
        have hpd : ¬ p = d := fun k => by subst k; rw [hdm] at hm; cases hm
        have : ¬ p ∈ dotsK c.2 nm := fun hp => e (markL_other h2 (by rw [hm]; rfl) ((mem_dotsK h2 hne).1 hp))
        simp [meetO, hpd, this]
end
/-- Two deltas in either order. -/
theorem join_two {c x y : Ca} (hc : validK c = true) (hx : validK x = true) (hy : validK y = true) : allK [c, x, y] = allK [c, y, x] ∧ joinK c (joinK x y) = allK [c, x, y] := by
  refine ⟨allK_perm (List.Perm.cons c (List.Perm.swap y x [])) fun z hz => ?_, ?_⟩
  · simp only [List.mem_cons, List.not_mem_nil, or_false] at hz
    rcases hz with rfl | rfl | rfl <;> assumption
  · show joinK c (joinK x y) = joinK (joinK (joinK zeroK c) x) y
    rw [show joinK zeroK c = c from joinK_zero hc, joinK_assoc hc hx hy]
/-- The quantity of an item that has one mark. -/
theorem qty_one {v : Ca} (h : validK v = true) {nm : List UInt8} {m : Mk} (hm : markL v.2 nm (dotM m) = some m) (ho : ∀ p m', markL v.2 nm p = some m' → m' = m) : qtyC v nm = (m.q, 0) ∧ v.2.find? (fun x => x.1 == nm) = some (nm, [m]) := by
  obtain ⟨_, h2, _⟩ := validK_iff.1 h
  obtain ⟨x, hx, rfl, hxm, _⟩ := markL_some hm
  have hall : ∀ m' ∈ x.2, m' = m := fun m' hm' => ho _ m' (h2.mark hx hm')
  have hok := okI_parts (h2.1 x hx)
  have hx2 : x.2 = [m] := by
    have hnd := inc_nodup hok.2.2.2
    match hl : x.2, hok.2.1, hall, hnd with
    | [a], _, ha, _ => rw [ha a (by simp)]
    | a :: b :: r, _, ha, hnd =>
      exfalso
      rw [ha a (by simp), ha b (by simp)] at hnd
      simp [dotsM] at hnd
  have hf := h2.findN hx
  have hxe : x = (x.1, [m]) := Prod.ext rfl hx2
  refine ⟨?_, by rw [hf, ← hxe]⟩
  unfold qtyC
  rw [if_pos h]
  unfold findV
  rw [hf]
  simp only [if_true]
  unfold qtyI
  rw [if_pos (h2.1 x hx), hx2]
  have hav : [m].all validM = true := by rw [← hx2]; exact hok.2.2.1
  have : newV validM [m] = (m, 0) := newV_some hav rfl
  rw [this]

end

section
open Go.RowKit

/-- A dot is fresh; an item of a name is there. -/
def freshK (c : Ca) (d : Int × Int) : Bool := validK c && (validD d.1 d.2 && !hasK c d)
def thereN (c : Ca) (nm : List UInt8) : Bool := c.2.any fun x => x.1 == nm
/-- The error of Add and Set, the delta. -/
def putE (c : Ca) (d : Int × Int) (nm : List UInt8) (q : Int) (set : Bool) : Nat :=
  if (freshK c d && itemN nm) = false then 2 else if qtyN q = false then 14 else
  if set = true ∧ thereN c nm = false then 9 else if set = false ∧ thereN c nm = false ∧ 256 ≤ c.2.length then 13 else (timeC c).2
def putD (c : Ca) (d : Int × Int) (nm : List UInt8) (q : Int) (set : Bool) : Ca := if putE c d nm q set = 0 then deltaD d nm q (timeC c).1 (dotsC c nm) else zeroK
def remE (c : Ca) (nm : List UInt8) : Nat := if (validK c && itemN nm) = false then 2 else if thereN c nm = false then 9 else 0
def remD (c : Ca) (nm : List UInt8) : Ca := if remE c nm = 0 then goneD (dotsC c nm) else zeroK
def cleE (c : Ca) : Nat := if validK c = false then 2 else 0
def cleD (c : Ca) : Ca := if cleE c = 0 then goneD (dotsC c []) else zeroK
def emptyK (c : Ca) : Bool := c.1.1.isEmpty && (c.1.2.isEmpty && c.2.isEmpty)

theorem putE_cases (c : Ca) (d : Int × Int) (nm : List UInt8) (q : Int) (set : Bool) :
    ((freshK c d && itemN nm) = false ∧ putE c d nm q set = 2) ∨
    ((freshK c d && itemN nm) = true ∧ qtyN q = false ∧ putE c d nm q set = 14) ∨
    ((freshK c d && itemN nm) = true ∧ qtyN q = true ∧ set = true ∧ thereN c nm = false ∧ putE c d nm q set = 9) ∨
    ((freshK c d && itemN nm) = true ∧ qtyN q = true ∧ set = false ∧ thereN c nm = false ∧ 256 ≤ c.2.length ∧ putE c d nm q set = 13) ∨
    ((freshK c d && itemN nm) = true ∧ qtyN q = true ∧ ¬ (set = true ∧ thereN c nm = false) ∧ ¬ (set = false ∧ thereN c nm = false ∧ 256 ≤ c.2.length) ∧ putE c d nm q set = (timeC c).2) := by
  unfold putE
  cases hf : (freshK c d && itemN nm) with
  | false => exact .inl ⟨rfl, if_pos rfl⟩
  | true =>
    rw [if_neg (by simp)]
    cases hq : qtyN q with
    | false => exact .inr (.inl ⟨rfl, rfl, if_pos rfl⟩)
    | true =>
      rw [if_neg (by simp)]
      by_cases h1 : set = true ∧ thereN c nm = false
      · rw [if_pos h1]
        exact .inr (.inr (.inl ⟨rfl, rfl, h1.1, h1.2, rfl⟩))
      · rw [if_neg h1]
        by_cases h2 : set = false ∧ thereN c nm = false ∧ 256 ≤ c.2.length
        · rw [if_pos h2]
          exact .inr (.inr (.inr (.inl ⟨rfl, rfl, h2.1, h2.2.1, h2.2.2, rfl⟩)))
        · rw [if_neg h2]
          exact .inr (.inr (.inr (.inr ⟨rfl, rfl, h1, h2, rfl⟩)))
theorem fresh_iff {c : Ca} {d : Int × Int} : freshK c d = true ↔ validK c = true ∧ validD d.1 d.2 = true ∧ hasK c d = false := by
  unfold freshK; simp
/-- The time of the next mark is none, or an error is told. -/
theorem timeC_pos {c : Ca} (h : (timeC c).2 = 0) : (timeC c).1 ≠ 0 := by
  unfold timeC at h ⊢
  split at h
  · rename_i hv
    rw [if_pos hv]
    unfold nextV at h ⊢
    by_cases ha : (c.2.flatMap (·.2)).all validM = true
    · rw [if_pos ha] at h ⊢
      generalize newestN (c.2.flatMap (·.2)) = o at h ⊢
      cases o with
      | none => simp
      | some m =>
        dsimp only at h ⊢
        by_cases ht : m.t = 18446744073709551615
        · rw [if_pos ht] at h; cases h
        · rw [if_neg ht]; simp
    · rw [if_neg ha] at h; cases h
  · cases h
theorem item_ne {nm : List UInt8} (h : itemN nm = true) : nm ≠ [] := by
  rintro rfl
  revert h; decide
theorem mark_valid {d : Int × Int} {q : Int} {t : Nat} (hd : validD d.1 d.2 = true) (hq : qtyN q = true) (ht : t ≠ 0) : validM ⟨d.1, d.2, q, t⟩ = true := by
  unfold validM
  rw [hd, hq]
  simpa using ht
theorem dotsC_t {c : Ca} (h : validK c = true) (nm : List UInt8) : dotsC c nm = dotsK c.2 nm := if_pos h
theorem dotsC_valid {c : Ca} (h : validK c = true) {nm : List UInt8} : ∀ p ∈ dotsC c nm, validD p.1 p.2 = true := fun p hp => by
  rw [dotsC_t h] at hp
  exact (dotsI_valid h (sub_dotsK hp)).2
section
variable {c : Ca} {d : Int × Int} {nm : List UInt8} {q : Int} {set : Bool}
/-- What holds where Add and Set return no error. -/
theorem putE_ok (h : putE c d nm q set = 0) : validK c = true ∧ validD d.1 d.2 = true ∧ hasK c d = false ∧ itemN nm = true ∧ nm ≠ [] ∧ qtyN q = true ∧ (set = true → thereN c nm = true) ∧ (timeC c).2 = 0 ∧ validM ⟨d.1, d.2, q, (timeC c).1⟩ = true := by
  rcases putE_cases c d nm q set with ⟨_, e⟩ | ⟨_, _, e⟩ | ⟨_, _, _, _, e⟩ | ⟨_, _, _, _, _, e⟩ | ⟨h1, h2, h3, _, e⟩
  · rw [h] at e; cases e
  · rw [h] at e; cases e
  · rw [h] at e; cases e
  · rw [h] at e; cases e
  · rw [Bool.and_eq_true, fresh_iff] at h1
    obtain ⟨⟨a1, a2, a3⟩, a4⟩ := h1
    have ht : (timeC c).2 = 0 := e.symm.trans h
    exact ⟨a1, a2, a3, a4, item_ne a4, h2, fun hs => by
      cases hth : thereN c nm with
      | true => rfl
      | false => exact absurd ⟨hs, hth⟩ h3, ht, mark_valid a2 h2 (timeC_pos ht)⟩
theorem putD_t (h : putE c d nm q set = 0) : putD c d nm q set = deltaD d nm q (timeC c).1 (dotsC c nm) := if_pos h
theorem putD_f (h : putE c d nm q set ≠ 0) : putD c d nm q set = zeroK := if_neg h
theorem putD_valid : validK (putD c d nm q set) = true := by
  by_cases h : putE c d nm q set = 0
  · rw [putD_t h]
    obtain ⟨a1, a2, _, a4, _, _, _, _, a9⟩ := putE_ok h
    exact delta_valid a4 a9 a2 (dotsC_valid a1)
  · rw [putD_f h]; exact validK_zeroK
theorem remE_ok (h : remE c nm = 0) : validK c = true ∧ itemN nm = true ∧ nm ≠ [] ∧ thereN c nm = true := by
  unfold remE at h
  split at h
  · cases h
  · rename_i h1
    split at h
    · cases h
    · rename_i h2
      rw [Bool.not_eq_false, Bool.and_eq_true] at h1
      exact ⟨h1.1, h1.2, item_ne h1.2, by simpa using h2⟩
theorem remD_t (h : remE c nm = 0) : remD c nm = goneD (dotsC c nm) := if_pos h
theorem remD_f (h : remE c nm ≠ 0) : remD c nm = zeroK := if_neg h
theorem remD_valid : validK (remD c nm) = true := by
  by_cases h : remE c nm = 0
  · rw [remD_t h]; exact gone_valid (dotsC_valid (remE_ok h).1)
  · rw [remD_f h]; exact validK_zeroK
theorem cleE_ok (h : cleE c = 0) : validK c = true := by
  unfold cleE at h
  split at h
  · cases h
  · rename_i h1; simpa using h1
theorem cleD_t (h : cleE c = 0) : cleD c = goneD (dotsC c []) := if_pos h
theorem cleD_f (h : cleE c ≠ 0) : cleD c = zeroK := if_neg h
theorem cleD_valid : validK (cleD c) = true := by
  by_cases h : cleE c = 0
  · rw [cleD_t h]; exact gone_valid (dotsC_valid (cleE_ok h))
  · rw [cleD_f h]; exact validK_zeroK
/-- What joining gives. -/
theorem join_putD (h : putE c d nm q set = 0) : joinK c (putD c d nm q set) = (addC c.1.1 c.1.2 [d], insN (remN c.2 nm) (nm, [⟨d.1, d.2, q, (timeC c).1⟩])) := by
  obtain ⟨a1, a2, a3, a4, a5, _, _, _, a9⟩ := putE_ok h
  rw [putD_t h, dotsC_t a1]
  exact join_put a1 a4 a5 a9 a3 a2
end
theorem putD_len (c : Ca) (d : Int × Int) (nm : List UInt8) (q : Int) (set : Bool) : (putD c d nm q set).2.length ≤ 1 := by
  unfold putD
  split
  · exact Nat.le_refl _
  · exact Nat.zero_le _
theorem delta_congr {d : Int × Int} {nm : List UInt8} {q : Int} {t : Nat} {l k : List (Int × Int)} (h : ∀ p, p ∈ k ↔ p ∈ d :: l) : (addC [] [] k, [(nm, [(⟨d.1, d.2, q, t⟩ : Mk)])]) = deltaD d nm q t l := by
  unfold deltaD; rw [addC_congr h]

end

section
open Go.RowKit

/-- How much of a cart the laws look at. -/
def lightI (x : ItV) : Bool := decide (x.nm.length ≤ 100) && decide (x.ms.length ≤ 10)
def lightK (c : CaV) : Bool := decide (c.vs.length ≤ 40) && (decide (c.ls.length ≤ 40) && (decide (c.xs.length ≤ 20) && c.xs.all lightI))
theorem lightK_fits {c : CaV} (h : lightK c = true) : FitsC c ∧ c.vs.length ≤ 40 ∧ c.ls.length ≤ 40 ∧ c.xs.length ≤ 20 ∧ ∀ x ∈ c.xs, x.nm.length ≤ 100 ∧ x.ms.length ≤ 10 := by
  simp only [lightK, lightI, Bool.and_eq_true, decide_eq_true_eq, List.all_eq_true] at h
  obtain ⟨h1, h2, h3, h4⟩ := h
  exact ⟨⟨by omega, by omega, by omega, fun x hx => by have := h4 x hx; omega⟩, h1, h2, h3, h4⟩

set_option maxRecDepth 100000 in
set_option maxHeartbeats 2000000 in
theorem lawLight10 (c : CaV) (b : Bool) (w : World) (hc : CaOK w c) (hb : lightK c = b) : Calls Tryz.prog 9 #[mkC c] w (OneB (.bool b) w) := by
  have K0 := Lib.hid (KB1.new w c hc)
  have HV := Lib.hid hb
  clear hc hb
  obtain ⟨V, nv, vs, L, nl, ls, I, ni, xs⟩ := c
  have HS := Lib.hid (show ∀ W, KB1 w ⟨V, nv, vs, L, nl, ls, I, ni, xs⟩ W → W.cell? ⟨w.heap.size, 0, none⟩ = some (.slice V vs.length nv) ∧ W.cell? ⟨w.heap.size, 1, none⟩ = some (.slice L ls.length nl) ∧ W.cell? ⟨w.heap.size, 2, none⟩ = some (.slice I xs.length ni) ∧ w.heap.size < W.heap.size ∧ ItemsAt W I xs from fun W h => ⟨h.sp.1, h.sp.2.1, h.sp.2.2.1, h.sp.2.2.2.1, h.items⟩)
  by_cases h1 : vs.length ≤ 40
  · have i1 : ¬ (40 : Int) < (vs.length : Int) := by omega
    by_cases h2 : ls.length ≤ 40
    · have i2 : ¬ (40 : Int) < (ls.length : Int) := by omega
      by_cases h3 : xs.length ≤ 20
      · have i3 : ¬ (20 : Int) < (xs.length : Int) := by omega
        have HE := Lib.hid (show xs.all lightI = b from by rw [← HV.out]; unfold lightK; simp only [decide_eq_true h1, decide_eq_true h2, decide_eq_true h3, Bool.true_and])
        clear HV h1 h2
        go_enter Tryz.func9, Tryz.ntmps9
        go_upto_region 1 with fail
        generalize World.alloc w _ = w2 at K0 ⊢
        obtain ⟨x0, x1, x2, xl, hit⟩ := HS.out w2 K0.out
        have HI := Lib.hid hit
        have K1 := Lib.hid K0.out.bel
        clear K0 HS hit
        go_wp2_with fail
        clear x0 x1 x2 xl
        go_loopw [4, 26] (fun _ i wr => ∃ k : Nat, k ≤ xs.length ∧ i = .int .i64 k ∧ Hid (Below w2.heap.size w2 wr) ∧ Hid (∀ (j : Nat) (y : ItV), j < k → xs[j]? = some y → lightI y = true)) (fun _ i _ => xs.length - (intOf i).toNat)
        case atStart => exact ⟨0, by omega, rfl, Lib.hid (Below.refl _ _), Lib.hid fun j y h => by omega⟩
        case round =>
          obtain ⟨k, hk, rfl, hB, hs⟩ := hrel
          by_cases hlt : k < xs.length
          · have i0 : (k : Int) < (xs.length : Int) := by omega
            obtain ⟨bb, off, x, rfl, hbl, hx1, _, hc0, hc1, hok⟩ := (HI.out.below hB.out).cells (j := k) hlt
            have HX1 := Lib.hid hx1
            have hsz := size_mk x.nm
            have HB2 := Lib.hid (below_trans hB.out ((Below.refl wr.heap.size wr).alloc (Nat.le_refl _) (.cells #[.string ⟨x.nm.toArray⟩, .slice x.A x.ms.length x.c] 50)))
            clear hx1 hok
            by_cases h1 : x.nm.length ≤ 100
            · have j1 : ¬ (100 : Int) < (x.nm.length : Int) := by omega
              by_cases h2 : x.ms.length ≤ 10
              · have j2 : ¬ (10 : Int) < (x.ms.length : Int) := by omega
                have HN := Lib.hid (step_true (p := lightI) hs.out HX1.out (by simp [lightI, h1, h2]))
                go_wp2_with fail
                go_roundw
                case rel => exact ⟨k + 1, by omega, by go_num, HB2, HN⟩
                case measure => simp [intOf]; omega
              · have j2 : (10 : Int) < (x.ms.length : Int) := by omega
                have HN := Lib.hid (show false = b from by rw [← HE.out]; exact (List.all_eq_false.2 ⟨x, List.mem_of_getElem? HX1.out, by simp [lightI, h2]⟩).symm)
                go_wp2_with fail
                go_ret
                exact OneB.bool HN.out (below_trans K1.out HB2.out)
            · have j1 : (100 : Int) < (x.nm.length : Int) := by omega
              have HN := Lib.hid (show false = b from by rw [← HE.out]; exact (List.all_eq_false.2 ⟨x, List.mem_of_getElem? HX1.out, by simp [lightI, h1]⟩).symm)
              go_wp2_with fail
              go_ret
              exact OneB.bool HN.out (below_trans K1.out HB2.out)
          · have i0 : ¬ (k : Int) < (xs.length : Int) := by omega
            obtain rfl : k = xs.length := by omega
            have HN := Lib.hid (show true = b from by
              rw [← HE.out]
              refine (List.all_eq_true.2 fun y hy => ?_).symm
              obtain ⟨j, hj⟩ := List.mem_iff_getElem?.1 hy
              exact hs.out j y (List.getElem?_eq_some_iff.1 hj).1 hj)
            clear hlt hs
            go_wp2_with fail
            go_ret
            exact OneB.bool HN.out (below_trans K1.out hB.out)
      · have i3 : (20 : Int) < (xs.length : Int) := by omega
        have HN := Lib.hid (show false = b from by rw [← HV.out]; unfold lightK; simp [h3])
        clear HV h1 h2 h3
        go_enter Tryz.func9, Tryz.ntmps9
        go_upto_region 1 with fail
        generalize World.alloc w _ = w2 at K0 ⊢
        obtain ⟨x0, x1, x2, xl, _⟩ := HS.out w2 K0.out
        have K1 := Lib.hid K0.out.bel
        clear K0 HS
        go_wp2_with fail
        go_ret
        exact OneB.bool HN.out K1.out
    · have i2 : (40 : Int) < (ls.length : Int) := by omega
      have HN := Lib.hid (show false = b from by rw [← HV.out]; unfold lightK; simp [h2])
      clear HV h1 h2
      go_enter Tryz.func9, Tryz.ntmps9
      go_upto_region 1 with fail
      generalize World.alloc w _ = w2 at K0 ⊢
      obtain ⟨x0, x1, x2, xl, _⟩ := HS.out w2 K0.out
      have K1 := Lib.hid K0.out.bel
      clear K0 HS
      go_wp2_with fail
      go_ret
      exact OneB.bool HN.out K1.out
  · have i1 : (40 : Int) < (vs.length : Int) := by omega
    have HN := Lib.hid (show false = b from by rw [← HV.out]; unfold lightK; simp [h1])
    clear HV h1
    go_enter Tryz.func9, Tryz.ntmps9
    go_upto_region 1 with fail
    generalize World.alloc w _ = w2 at K0 ⊢
    obtain ⟨x0, x1, x2, xl, _⟩ := HS.out w2 K0.out
    have K1 := Lib.hid K0.out.bel
    clear K0 HS
    go_wp2_with fail
    go_ret
    exact OneB.bool HN.out K1.out

end

section
open Go.RowKit

theorem RowT.form {W : World} {B : Nat} {v : Value} {xs : List ItV} (h : RowT W B v xs) (h0 : 0 < xs.length) :
    ∃ g c cur, v = .slice (some ⟨g, 0, none⟩) xs.length c ∧ B ≤ g ∧ W.heap[g]? = some (.cells cur 50 (0, 0)) := by
  rcases h.2 with ⟨_, h2⟩ | ⟨g, cap, cur, hv, hb, hg, _⟩
  · omega
  · exact ⟨g, cap, cur, hv, hb, hg⟩
theorem RowM.form {W : World} {B : Nat} {v : Value} {ms : List Mk} (h : RowM W B v ms) :
    (v = .slice none 0 0 ∧ ms = []) ∨ ∃ g c cur, v = .slice (some ⟨g, 0, none⟩) ms.length c ∧ B ≤ g ∧ W.heap[g]? = some (.cells cur 55 (0, 0)) := by
  rcases h.2 with ⟨h1, h2⟩ | ⟨g, cap, cur, hv, hb, hg, _⟩
  · exact .inl ⟨h1, List.eq_nil_of_length_eq_zero h2⟩
  · exact .inr ⟨g, cap, cur, hv, hb, hg⟩
/-- A block of items is no block of marks. -/
theorem RowM.ne {W : World} {B g : Nat} {v : Value} {ms : List Mk} {cur : Array Value} (h : RowM W B v ms) (hg : W.heap[g]? = some (.cells cur 50 (0, 0))) : v.ownBlock ≠ some g := by
  rcases RowM.form h with ⟨rfl, _⟩ | ⟨g', c, cur', rfl, _, hg'⟩
  · simp [Value.ownBlock]
  · intro e
    have e' : g' = g := by simpa [Value.ownBlock] using e
    subst e'
    rw [hg] at hg'
    injection hg' with h1
    injection h1 with _ h2 _
    exact absurd h2 (by decide)

/-- The name of one item in its row. -/
theorem cells_setN (ys : List ItV) (j : Nat) (s : List UInt8) (y : ItV) (hj : ys[j]? = some y) : (cellsOf encIt ys).set (j * 2) (.string ⟨s.toArray⟩) = cellsOf encIt (ys.set j { y with nm := s }) := by
  induction ys generalizing j with
  | nil => simp at hj
  | cons z l ih =>
    cases j with
    | zero =>
      obtain rfl : z = y := by simpa using hj
      rfl
    | succ n =>
      have hj' : l[n]? = some y := by simpa using hj
      rw [List.set_cons_succ, show cellsOf encIt (z :: l) = encIt z ++ cellsOf encIt l from rfl, show cellsOf encIt (z :: l.set n { y with nm := s }) = encIt z ++ cellsOf encIt (l.set n { y with nm := s }) from rfl, ← ih n hj', show (n + 1) * 2 = (encIt z).length + n * 2 by rw [encIt_len]; omega, List.set_append_right _ _ (by omega), show (encIt z).length + n * 2 - (encIt z).length = n * 2 by omega]
theorem spoName {W : World} {B g c n j : Nat} {xs : List ItV} {x : ItV} (h : OwnI W B (.slice (some ⟨g, 0, none⟩) n c) xs) (hn : xs.length = n) (hj : xs[j]? = some x) (s : List UInt8) :
    OwnI (W.setCell ⟨g, j * 2, none⟩ (.string ⟨s.toArray⟩)) B (.slice (some ⟨g, 0, none⟩) n c) (xs.set j { x with nm := s }) := by
  subst hn
  have hjl := (List.getElem?_eq_some_iff.1 hj).1
  obtain ⟨g', c', cur, hv, _, hg⟩ := h.1.form (by omega)
  have hgg : g = g' := by injection hv with h1; injection h1 with h1; injection h1
  subst hgg
  refine ⟨?_, fun y hy => ?_⟩
  · have h1 := (World.ownsRow.stored h.1 (j * 2) (.string ⟨s.toArray⟩)).1
    rw [cells_setN xs j s x hj] at h1
    show World.ownsRow _ _ _ _ _ (xs.set j { x with nm := s }).length _
    rw [List.length_set]
    exact h1
  · have hk : RowM W B (slV y) y.ms := by
      rcases List.mem_or_eq_of_mem_set hy with h' | h'
      · exact h.2 y h'
      · subst h'; exact h.2 x (List.mem_of_getElem? hj)
    exact ownsRow_setCell_other hk (a := ⟨g, j * 2, none⟩) (RowM.ne hk hg) _

/-- One mark with another quantity. -/
def setQ (ms : List Mk) (k : Nat) (q : Int) : List Mk := ms.modify k fun m => { m with q := q }
theorem setQ_len (ms : List Mk) (k : Nat) (q : Int) : (setQ ms k q).length = ms.length := by simp [setQ]
theorem cells_setQ : ∀ (ms : List Mk) (k : Nat) (q : Int), (cellsOf encM ms).set (k * 4 + 2) (.int .i64 q) = cellsOf encM (setQ ms k q)
  | [], k, q => by simp [setQ, cellsOf]
  | m :: r, 0, q => by rfl
  | m :: r, k + 1, q => by
    have ih := cells_setQ r k q
    have e : setQ (m :: r) (k + 1) q = m :: setQ r k q := by simp [setQ]
    rw [e, show cellsOf encM (m :: r) = encM m ++ cellsOf encM r from rfl, show cellsOf encM (m :: setQ r k q) = encM m ++ cellsOf encM (setQ r k q) from rfl, ← ih, show (k + 1) * 4 + 2 = (encM m).length + (k * 4 + 2) by rw [encM_len]; omega, List.set_append_right _ _ (by omega), show (encM m).length + (k * 4 + 2) - (encM m).length = k * 4 + 2 by omega]
/-- The item with one quantity changed, if its marks lie there. -/
def poke (h k : Nat) (q : Int) (y : ItV) : ItV := if y.A = some ⟨h, 0, none⟩ then { y with ms := setQ y.ms k q } else y
theorem poke_same (h k : Nat) (q : Int) (y : ItV) : (poke h k q y).nm = y.nm ∧ (poke h k q y).A = y.A ∧ (poke h k q y).c = y.c ∧ (poke h k q y).ms.length = y.ms.length := by
  unfold poke
  split
  · exact ⟨rfl, rfl, rfl, setQ_len _ _ _⟩
  · exact ⟨rfl, rfl, rfl, rfl⟩
theorem encIt_poke (h k : Nat) (q : Int) (y : ItV) : encIt (poke h k q y) = encIt y := by
  obtain ⟨h1, h2, h3, h4⟩ := poke_same h k q y
  unfold encIt
  rw [h1, h2, h3, h4]
theorem cells_poke (h k : Nat) (q : Int) (xs : List ItV) : cellsOf encIt (xs.map (poke h k q)) = cellsOf encIt xs := by
  unfold cellsOf
  rw [List.flatMap_map]
  exact congrArg List.flatten (List.map_congr_left fun y _ => encIt_poke h k q y)
theorem spoMark {W : World} {B g c n h k : Nat} {xs : List ItV} (hx : OwnI W B (.slice (some ⟨g, 0, none⟩) n c) xs) (hn : xs.length = n) (h0 : 0 < n) {cur : Array Value} (hh : W.heap[h]? = some (.cells cur 55 (0, 0))) (q : Int) :
    OwnI (W.setCell ⟨h, k * 4 + 2, none⟩ (.int .i64 q)) B (.slice (some ⟨g, 0, none⟩) n c) (xs.map (poke h k q)) := by
  subst hn
  obtain ⟨g', c', cur', hv, _, hg⟩ := hx.1.form h0
  have hgg : g = g' := by injection hv with h1; injection h1 with h1; injection h1
  subst hgg
  refine ⟨?_, fun y hy => ?_⟩
  · have hne : (Value.slice (some ⟨g, 0, none⟩) xs.length c).ownBlock ≠ some h := fun e => by
      have e' : g = h := by simpa [Value.ownBlock] using e
      subst e'
      rw [hg] at hh
      injection hh with h1
      injection h1 with _ h2 _
      exact absurd h2 (by decide)
    have h1 := ownsRow_setCell_other hx.1 (a := ⟨h, k * 4 + 2, none⟩) hne (.int .i64 q)
    show World.ownsRow _ _ _ _ _ (xs.map (poke h k q)).length _
    rw [List.length_map, cells_poke]
    exact h1
  · obtain ⟨z, hz, rfl⟩ := List.mem_map.1 hy
    have hk := hx.2 z hz
    by_cases he : z.A = some ⟨h, 0, none⟩
    · have e : poke h k q z = { z with ms := setQ z.ms k q } := by unfold poke; rw [if_pos he]
      have h1 : RowM W B (.slice (some ⟨h, 0, none⟩) z.ms.length z.c) z.ms := by rw [← he]; exact hk
      have h2 := (World.ownsRow.stored h1 (k * 4 + 2) (.int .i64 q)).1
      rw [cells_setQ] at h2
      rw [e]
      show World.ownsRow _ _ _ _ (.slice z.A (setQ z.ms k q).length z.c) (setQ z.ms k q).length _
      rw [setQ_len, he]
      exact h2
    · have e : poke h k q z = z := by unfold poke; rw [if_neg he]
      rw [e]
      refine ownsRow_setCell_other hk (a := ⟨h, k * 4 + 2, none⟩) (fun ek => ?_) _
      rcases RowM.form hk with ⟨e1, _⟩ | ⟨g2, c2, cur2, e1, _⟩
      · rw [e1] at ek; simp [Value.ownBlock] at ek
      · rw [e1] at ek
        have e2 : g2 = h := by simpa [Value.ownBlock] using ek
        subst e2
        injection e1 with e3
        exact he e3

/-- What was returned, as it is spoilt: the row of the items, names not too long. -/
structure Spo (W0 : World) (B g c n lim : Nat) (W : World) (xs : List ItV) : Prop where
  own : OwnI W B (.slice (some ⟨g, 0, none⟩) n c) xs
  len : xs.length = n
  nam : ∀ x ∈ xs, x.nm.length ≤ lim
  bel : Below B W0 W
section
variable {W0 W : World} {B g c n lim : Nat} {xs : List ItV}
theorem Spo.cells (h : Spo W0 B g c n lim W xs) {j : Nat} {x : ItV} (hj : xs[j]? = some x) : W.cell? ⟨g, j * 2, none⟩ = some (.string ⟨x.nm.toArray⟩) ∧ W.cell? ⟨g, j * 2 + 1, none⟩ = some (.slice x.A x.ms.length x.c) ∧ W.frozen? ⟨g, j * 2, none⟩ = false ∧ g < W.heap.size ∧ B ≤ g := by
  have ho := h.own.1
  rw [show RowT W B (.slice (some ⟨g, 0, none⟩) n c) xs = W.ownsRow B 50 2 (.slice (some ⟨g, 0, none⟩) n c) xs.length (cellsOf encIt xs) from rfl, h.len] at ho
  obtain ⟨a1, a2, a3, _⟩ := own_it ho hj
  have := ho.lt g rfl
  exact ⟨a1, a2, a3, this.2, this.1⟩
theorem Spo.name (h : Spo W0 B g c n lim W xs) {j : Nat} {x : ItV} (hj : xs[j]? = some x) (b : UInt8) : Spo W0 B g c n (lim + 1) (W.setCell ⟨g, j * 2, none⟩ (.string ⟨(x.nm ++ [b]).toArray⟩)) (xs.set j { x with nm := x.nm ++ [b] }) :=
  ⟨spoName h.own h.len hj _, by rw [List.length_set]; exact h.len, fun y hy => by
    rcases List.mem_or_eq_of_mem_set hy with h' | h'
    · have := h.nam y h'; omega
    · subst h'
      have := h.nam x (List.mem_of_getElem? hj)
      simp; omega, h.bel.setCell (p := ⟨g, j * 2, none⟩) (h.cells hj).2.2.2.2 _⟩
theorem Spo.marks (h : Spo W0 B g c n lim W xs) {j k : Nat} {x : ItV} (hj : xs[j]? = some x) (hk : k < x.ms.length) :
    ∃ b q, x.A = some ⟨b, 0, none⟩ ∧ W.cell? ⟨b, k * 4 + 2, none⟩ = some (.int .i64 q) ∧ W.frozen? ⟨b, k * 4 + 2, none⟩ = false ∧ b < W.heap.size ∧
      ∀ q', ∃ ys y, Spo W0 B g c n lim (W.setCell ⟨b, k * 4 + 2, none⟩ (.int .i64 q')) ys ∧ ys[j]? = some y ∧ y.A = x.A ∧ y.c = x.c ∧ y.ms.length = x.ms.length := by
  have hjl := (List.getElem?_eq_some_iff.1 hj).1
  have hr := h.own.2 x (List.mem_of_getElem? hj)
  rcases RowM.form hr with ⟨_, e2⟩ | ⟨b, c2, cur2, e1, hb, hg⟩
  · rw [e2] at hk; simp at hk
  · injection e1 with e3 _ e4
    have hr' : RowM W B (.slice (some ⟨b, 0, none⟩) x.ms.length x.c) x.ms := by rw [← e3]; exact hr
    have hc := hr'.cells (g := b) rfl (k * 4 + 2) (.int .i64 x.ms[k].q) (cellsOf_at encM_len x.ms k x.ms[k] 2 _ (List.getElem?_eq_getElem hk) rfl)
    rw [Addr_add, Nat.zero_add] at hc
    refine ⟨b, x.ms[k].q, e3, hc, hr'.frozenAt _, (Array.getElem?_eq_some_iff.1 hg).1, fun q' => ?_⟩
    obtain ⟨p1, p2, p3, p4⟩ := poke_same b k q' x
    refine ⟨xs.map (poke b k q'), poke b k q' x, ⟨spoMark h.own h.len (by rw [← h.len]; omega) hg q', by rw [List.length_map]; exact h.len, fun y hy => ?_, h.bel.setCell (p := ⟨b, k * 4 + 2, none⟩) hb _⟩, by rw [List.getElem?_map, hj]; rfl, p2, p3, p4⟩
    obtain ⟨z, hz, rfl⟩ := List.mem_map.1 hy
    rw [(poke_same b k q' z).1]
    exact h.nam z hz
end

end

section
open Go.RowKit

end

end Go.Proofs.YtiaehpdgpjhecaaGreat
