/- Several texts in one: JoiO, JoiA, CarS. -/
import Derived.Test.YtiaehpdgpjhecaaGreatQAV
import Derived.Test.YtiaehpdgpjhecaaGreatQAL
import Derived.Test.YtiaehpdgpjhecaaGreatQAS
import Derived.Test.YtiaehpdgpjhecaaGreatQAH
import Derived.Shelf.SlSortCmp.QuietGrown
import Derived.Test.YtiaehpdgpjhecaaGreatQAO
import Derived.Test.YtiaehpdgpjhecaaGreatQAR
import Derived.Test.YtiaehpdgpjhecaaGreatQAB
namespace Go.Proofs.YtiaehpdgpjhecaaGreat

section
open Go.RowKit

theorem item_name {l : List It} (h : Good l) {x : It} (hx : x ∈ l) : x.1 ≠ [] := by
  have h1 := (okI_parts (h.1 x hx)).1
  intro e
  rw [e] at h1
  exact absurd h1 (by decide)
section
variable {a b : Ca} (ha : validK a = true) (hb : validK b = true)
include ha hb
/-- Which marks stay, in words of both carts. -/
theorem mem_stay {h : Hd} : h ∈ stayH a b ↔ markL a.2 h.1 (dotH h) = some h.2 ∧ (hasK b (dotH h) = false ∨ (markL b.2 h.1 (dotH h)).isSome = true) := by
  have ga := (validK_iff.1 ha).2.1
  have gb := (validK_iff.1 hb).2.1
  unfold stayH
  rw [List.mem_filter, ga.flat]
  refine and_congr_right fun hm => ?_
  unfold stayB
  rw [Bool.or_eq_true, decide_eq_true_eq, Bool.not_eq_true']
  refine or_congr_right ?_
  have hn : h.1 ≠ [] := by
    obtain ⟨x, hx, e, _, _⟩ := markL_some hm
    rw [← e]; exact item_name ga hx
  constructor
  · intro k
    cases e : lookH (flatH b.2) (dotH h) with
    | none => rw [e] at k; exact absurd k.symm hn
    | some y =>
      rw [e] at k
      obtain ⟨k1, k2⟩ := lookH_some e
      have := gb.flat.1 k1
      rw [show y.1 = h.1 from k, k2] at this
      rw [this]; rfl
  · intro k
    cases e : markL b.2 h.1 (dotH h) with
    | none => rw [e] at k; cases k
    | some m =>
      obtain ⟨x, hx, h1, h2, h3⟩ := markL_some e
      have hy : ((h.1, m) : Hd) ∈ flatH b.2 := mem_flatH.2 ⟨x, hx, h1, h2⟩
      have := gb.look hy
      rw [show dotH (h.1, m) = dotH h from h3] at this
      rw [this]; rfl
theorem mem_stays {h : Hd} (hh : h ∈ stayH a b ++ stayH b a) : ∃ m, joinedK a b h.1 (dotH h) = some m ∧ dotM m = dotH h ∧ newerN h.2 m = false := by
  have sa := validK_seen ha h.1 (dotH h)
  have sb := validK_seen hb h.1 (dotH h)
  have d : ∀ {c : Ca} {m : Mk}, markL c.2 h.1 (dotH h) = some m → dotM m = dotH h := fun k => by
    obtain ⟨_, _, _, _, e⟩ := markL_some k; exact e
  unfold joinedK
  rcases List.mem_append.1 hh with hh | hh
  · obtain ⟨h1, h2⟩ := (mem_stay ha hb).1 hh
    rw [h1]
    cases e : markL b.2 h.1 (dotH h) with
    | some y =>
      refine ⟨_, rfl, ?_, ?_⟩
      · rw [maxM_dot (by rw [d e])]
      · unfold maxM
        cases k : newerN y h.2 with
        | true => simp [newerN_asymm k]
        | false => simp [newerN_irrefl]
    | none =>
      rw [e] at h2
      rcases h2 with h2 | h2
      · rw [h2]; exact ⟨h.2, rfl, rfl, newerN_irrefl _⟩
      · cases h2
  · obtain ⟨h1, h2⟩ := (mem_stay hb ha).1 hh
    rw [h1]
    cases e : markL a.2 h.1 (dotH h) with
    | some y =>
      refine ⟨_, rfl, ?_, ?_⟩
      · rw [maxM_dot (by rw [d e]), d e]
      · unfold maxM
        cases k : newerN h.2 y with
        | true => simp [newerN_irrefl]
        | false => simp [k]
    | none =>
      rw [e] at h2
      rcases h2 with h2 | h2
      · rw [h2]; exact ⟨h.2, rfl, rfl, newerN_irrefl _⟩
      · cases h2
/-- The newest one is among them. -/
theorem joined_stays {nm : List UInt8} {d : Int × Int} {m : Mk} (h : joinedK a b nm d = some m) : ((nm, m) : Hd) ∈ stayH a b ++ stayH b a := by
  have hd : dotM m = d := joined_dot h
  have sa := validK_seen ha nm d
  have sb := validK_seen hb nm d
  unfold joinedK at h
  rw [List.mem_append, mem_stay ha hb, mem_stay hb ha, show dotH (nm, m) = d from hd]
  show (markL a.2 nm d = some m ∧ _) ∨ (markL b.2 nm d = some m ∧ _)
  cases ea : markL a.2 nm d with
  | some x =>
    cases eb : markL b.2 nm d with
    | some y =>
      rw [ea, eb] at h
      injection h with h
      rcases maxM_or x y with k | k
      · exact .inl ⟨by rw [← h, k], .inr rfl⟩
      · exact .inr ⟨by rw [← h, k], .inr rfl⟩
    | none =>
      rw [ea, eb] at h
      simp only [meetO] at h
      split at h
      · cases h
      · rename_i hq
        injection h with h
        exact .inl ⟨by rw [h], .inl (by simpa using hq)⟩
  | none =>
    cases eb : markL b.2 nm d with
    | some y =>
      rw [ea, eb] at h
      simp only [meetO] at h
      split at h
      · cases h
      · rename_i hq
        injection h with h
        exact .inr ⟨by rw [h], .inl (by simpa using hq)⟩
    | none => rw [ea, eb] at h; cases h
theorem stays_one {x y : Hd} (hx : x ∈ stayH a b ++ stayH b a) (hy : y ∈ stayH a b ++ stayH b a) (e : dotH x = dotH y) : x.1 = y.1 := by
  obtain ⟨m, h1, _⟩ := mem_stays ha hb hx
  obtain ⟨m', h2, _⟩ := mem_stays ha hb hy
  rw [← e] at h2
  exact joined_one ha hb h1 h2
/-- What package join makes of two valid carts. -/
theorem group_join {l : List Hd} (hl : l.Perm (stayH a b ++ stayH b a)) (hs : l.Pairwise fun x y => ltH y x = false) : groupH (ddH l) = joinI a b := by
  obtain ⟨f1, f2⟩ := ddH_facts hs fun x hx y hy e => stays_one ha hb (hl.mem_iff.1 hx) (hl.mem_iff.1 hy) e
  have g := grpInv f1
  have hD : ∀ {x : Hd}, x ∈ ddH l → x ∈ stayH a b ++ stayH b a := fun hx => hl.mem_iff.1 ((ddH_sub l).subset hx)
  -- what is left is what the join has
  have hj : ∀ {nm : List UInt8} {d : Int × Int} {m : Mk}, joinedK a b nm d = some m → ((nm, m) : Hd) ∈ ddH l := by
    intro nm d m h
    have hd : dotM m = d := joined_dot h
    have h0 := joined_stays ha hb h
    obtain ⟨z, hz, z1, z2⟩ := f2 _ (hl.mem_iff.2 h0)
    have zn : z.1 = nm := stays_one ha hb (hD hz) h0 z1
    obtain ⟨m', k1, _, k3⟩ := mem_stays ha hb (hD hz)
    rw [zn, z1, show dotH (nm, m) = d from hd, h] at k1
    injection k1 with k1
    subst k1
    obtain ⟨_, q2⟩ := ltH_no.1 z2
    have q3 := (q2 zn.symm).2 z1.symm
    have : m = z.2 := newerN_total q3 k3
    have e : ((nm, m) : Hd) = z := Prod.ext zn.symm this
    rw [e]; exact hz
  have inj : ∀ {x y : Hd}, x ∈ ddH l → y ∈ ddH l → dotH x = dotH y → x = y := by
    intro x y hx hy e
    obtain ⟨i, hi, ei⟩ := List.getElem_of_mem hx
    obtain ⟨j, hj, ej⟩ := List.getElem_of_mem hy
    have hp := List.pairwise_iff_getElem.1 f1
    have en := stays_one ha hb (hD hx) (hD hy) e
    rcases Nat.lt_trichotomy i j with h | h | h
    · have := hp i j hi hj h
      rw [ei, ej] at this
      exact absurd e (fun k => ltS_irrefl this en k)
    · subst h; rw [← ei, ← ej]
    · have := hp j i hj hi h
      rw [ei, ej] at this
      exact absurd e (fun k => ltS_irrefl this en.symm k.symm)
  have hk : ∀ {x : Hd}, x ∈ ddH l → joinedK a b x.1 (dotH x) = some x.2 := by
    intro x hx
    obtain ⟨m, k1, k2, _⟩ := mem_stays ha hb (hD hx)
    have := inj hx (hj k1) (by show dotH x = dotM m; exact k2.symm)
    rw [k1, this]
  have hgood : Good (groupH (ddH l)) := by
    refine Good.of (fun x hx => ?_) g.inc fun x hx y hy hn => ?_
    · obtain ⟨k1, k2⟩ := g.mem x hx
      have hin : ∀ m ∈ x.2, ((x.1, m) : Hd) ∈ ddH l := fun m hm => (GrpInv.has g (h := (x.1, m))).1 ⟨x, hx, rfl, hm⟩
      have hit : ∀ m ∈ x.2, ∃ i, okI i = true ∧ i.1 = x.1 ∧ m ∈ i.2 := fun m hm => by
        obtain ⟨i, hi, i1, i2, _⟩ := joined_item (hk (hin m hm))
        exact ⟨i, item_ok ha hb hi, i1, i2⟩
      obtain ⟨m, hm⟩ : ∃ m, m ∈ x.2 := by
        cases e : x.2 with
        | nil => exact absurd e k2
        | cons m r => exact ⟨m, by simp⟩
      obtain ⟨i, hi, hin1, _⟩ := hit m hm
      unfold okI
      simp only [Bool.and_eq_true, decide_eq_true_eq, isSetB_inc]
      refine ⟨by rw [← hin1]; exact (okI_parts hi).1, List.length_pos_of_mem hm, ?_, ?_⟩
      · rw [List.all_eq_true]
        intro z hz
        obtain ⟨j, hj, _, hzj⟩ := hit z hz
        exact List.all_eq_true.1 (okI_parts hj).2.2.1 z hzj
      · rw [k1]
        show Inc (dotsM _)
        unfold dotsM
        rw [List.map_map]
        refine List.pairwise_map.2 ?_
        have hf := List.Pairwise.sublist (List.filter_sublist (p := fun h : Hd => decide (h.1 = x.1)) (l := ddH l)) f1
        refine List.Pairwise.imp_of_mem (fun {u v} hu hv huv => ?_) hf
        have e1 := of_decide_eq_true (List.mem_filter.1 hu).2
        have e2 := of_decide_eq_true (List.mem_filter.1 hv).2
        rcases huv with k | ⟨_, k⟩
        · rw [e1, e2, beforeN_irrefl] at k; cases k
        · exact k
    · rw [meet_no]
      intro d hd e he hde
      subst hde
      obtain ⟨m, hm, rfl⟩ := List.mem_map.1 hd
      obtain ⟨m', hm', e'⟩ := List.mem_map.1 he
      have h1 := (GrpInv.has g (h := (x.1, m))).1 ⟨x, hx, rfl, hm⟩
      have h2 := (GrpInv.has g (h := (y.1, m'))).1 ⟨y, hy, rfl, hm'⟩
      exact hn (Prod.mk.inj (inj h1 h2 e'.symm)).1
  refine hgood.ext (joinI_good ha hb) fun nm d => ?_
  rw [joinI_mark ha hb]
  cases e : joinedK a b nm d with
  | some m =>
    obtain ⟨x, hx, h1, h2⟩ := g.has.2 (hj e)
    exact hgood.mark_iff.2 ⟨x, hx, h1, h2, joined_dot e⟩
  | none =>
    cases k : markL (groupH (ddH l)) nm d with
    | none => rfl
    | some m =>
      obtain ⟨x, hx, h1, h2, h3⟩ := markL_some k
      have h4 := hk ((GrpInv.has g (h := (nm, m))).1 ⟨x, hx, h1, h2⟩)
      rw [show dotH (nm, m) = d from h3] at h4
      rw [e] at h4; cases h4
end

/-- How much a cart is. -/
structure SizeK (n : Nat) (c : Ca) : Prop where
  dots : c.1.1.length + c.1.2.length ≤ 80 * n
  num : c.2.length ≤ 20 * n
  cnt : cntM c.2 ≤ 200 * n
  one : ∀ x ∈ c.2, x.1.length ≤ 100 ∧ x.2.length ≤ 10 * n
theorem SizeK.mono {n m : Nat} {c : Ca} (h : SizeK n c) (hm : n ≤ m) : SizeK m c :=
  ⟨by have := h.dots; omega, by have := h.num; omega, by have := h.cnt; omega, fun x hx => ⟨(h.one x hx).1, by have := (h.one x hx).2; omega⟩⟩
theorem SizeK.zero : SizeK 0 (([], []), []) := ⟨by simp, by simp, by simp [cntM], fun x hx => by cases hx⟩
theorem sub_len {α : Type} [DecidableEq α] {l k : List α} (hl : l.Nodup) (hs : ∀ x ∈ l, x ∈ k) : l.length ≤ k.length := by
  induction l generalizing k with
  | nil => simp
  | cons x r ih =>
    have hx : x ∈ k := hs x (by simp)
    rw [List.nodup_cons] at hl
    have := ih hl.2 (k := k.erase x) fun y hy => by
      have hne : y ≠ x := fun e => hl.1 (by rw [← e]; exact hy)
      exact (List.mem_erase_of_ne hne).2 (hs y (List.mem_cons_of_mem _ hy))
    rw [List.length_erase_of_mem hx] at this
    have h0 := List.length_pos_of_mem hx
    rw [List.length_cons]; omega
theorem IncN.nodup {l : List It} (h : IncN l) : (l.map (·.1)).Nodup := by
  refine List.pairwise_map.2 (h.imp fun {x y} hxy e => ?_)
  rw [e, beforeN_irrefl] at hxy; cases hxy
theorem Good.allD_nodup {l : List It} (h : Good l) : (allD l).Nodup := by
  rw [← setL_size, ← dotsI_all, (good_count h.1 h.2.1).2 h, allD_len]
theorem mem_allD {l : List It} {p : Int × Int} : p ∈ allD l ↔ ∃ x ∈ l, ∃ m ∈ x.2, dotM m = p := by
  rw [← mem_dotsI, dotsI_all, mem_setL]
theorem joinK_size {a b : Ca} {n m : Nat} (ha : validK a = true) (hb : validK b = true) (h : SizeK n a) (k : SizeK m b) : SizeK (n + m) (joinK a b) := by
  have hg := joinI_good ha hb
  have hit : ∀ x ∈ joinI a b, ∀ u ∈ x.2, ∃ i, (i ∈ a.2 ∨ i ∈ b.2) ∧ i.1 = x.1 ∧ u ∈ i.2 := by
    intro x hx u hu
    have h1 := hg.mark hx hu
    rw [joinI_mark ha hb] at h1
    obtain ⟨i, hi, h2, h3, _⟩ := joined_item h1
    exact ⟨i, hi, h2, h3⟩
  refine ⟨?_, ?_, ?_, fun x hx => ⟨?_, ?_⟩⟩
  · have h1 := compact_len (unionC_valid (compC_iff.1 (validK_iff.1 ha).1).2 (compC_iff.1 (validK_iff.1 hb).1).2) (us := (unionC a.1.1 a.1.2 b.1.1 b.1.2).1) (rs := (unionC a.1.1 a.1.2 b.1.1 b.1.2).2) rfl
    have h4 := mergeV_len b.1.1 a.1.1
    have h5 := setL_len (a.1.2 ++ b.1.2)
    rw [List.length_append] at h5
    have h2 := h.dots
    have h3 := k.dots
    show (unionC a.1.1 a.1.2 b.1.1 b.1.2).1.length + (unionC a.1.1 a.1.2 b.1.1 b.1.2).2.length ≤ _
    omega
  · have h1 : ((joinI a b).map (·.1)).length ≤ (namesJ a b).length := sub_len hg.2.1.nodup fun nm hn => by
      obtain ⟨x, hx, rfl⟩ := List.mem_map.1 hn
      exact (mem_joinI.1 hx).1
    have h2 := h.num
    have h3 := k.num
    unfold namesJ at h1
    simp only [List.length_map, List.length_append] at h1
    show (joinI a b).length ≤ _
    omega
  · have h1 : (allD (joinI a b)).length ≤ (allD a.2 ++ allD b.2).length := sub_len hg.allD_nodup fun p hp => by
      obtain ⟨x, hx, u, hu, e⟩ := mem_allD.1 hp
      obtain ⟨i, hi, _, hui⟩ := hit x hx u hu
      rcases hi with hi | hi
      · exact List.mem_append_left _ (mem_allD.2 ⟨i, hi, u, hui, e⟩)
      · exact List.mem_append_right _ (mem_allD.2 ⟨i, hi, u, hui, e⟩)
    rw [List.length_append, allD_len, allD_len, allD_len] at h1
    have h2 := h.cnt
    have h3 := k.cnt
    show cntM (joinI a b) ≤ _
    omega
  · obtain ⟨u, hu⟩ : ∃ u, u ∈ x.2 := by
      have := (okI_parts (hg.1 x hx)).2.1
      exact ⟨x.2[0], List.getElem_mem _⟩
    obtain ⟨i, hi, e, _⟩ := hit x hx u hu
    rw [← e]
    rcases hi with hi | hi
    · exact (h.one i hi).1
    · exact (k.one i hi).1
  · have ga := (validK_iff.1 ha).2.1
    have gb := (validK_iff.1 hb).2.1
    obtain ⟨la, hla, ha1⟩ : ∃ la : List (Int × Int), la.length ≤ 10 * n ∧ ∀ i ∈ a.2, i.1 = x.1 → ∀ u ∈ i.2, dotM u ∈ la := by
      by_cases e : ∃ i ∈ a.2, i.1 = x.1
      · obtain ⟨i, hi, hin⟩ := e
        refine ⟨dotsM i.2, by rw [dotsM_len]; exact (h.one i hi).2, fun j hj hjn u hu => ?_⟩
        obtain rfl : j = i := ga.2.1.name hj hi (hjn.trans hin.symm)
        exact List.mem_map.2 ⟨u, hu, rfl⟩
      · exact ⟨[], by simp, fun i hi hin => absurd ⟨i, hi, hin⟩ e⟩
    obtain ⟨lb, hlb, hb1⟩ : ∃ lb : List (Int × Int), lb.length ≤ 10 * m ∧ ∀ i ∈ b.2, i.1 = x.1 → ∀ u ∈ i.2, dotM u ∈ lb := by
      by_cases e : ∃ i ∈ b.2, i.1 = x.1
      · obtain ⟨i, hi, hin⟩ := e
        refine ⟨dotsM i.2, by rw [dotsM_len]; exact (k.one i hi).2, fun j hj hjn u hu => ?_⟩
        obtain rfl : j = i := gb.2.1.name hj hi (hjn.trans hin.symm)
        exact List.mem_map.2 ⟨u, hu, rfl⟩
      · exact ⟨[], by simp, fun i hi hin => absurd ⟨i, hi, hin⟩ e⟩
    have h1 : (dotsM x.2).length ≤ (la ++ lb).length := sub_len (inc_nodup (okI_parts (hg.1 x hx)).2.2.2) fun p hp => by
      obtain ⟨u, hu, rfl⟩ := List.mem_map.1 hp
      obtain ⟨i, hi, e, hui⟩ := hit x hx u hu
      rcases hi with hi | hi
      · exact List.mem_append_left _ (ha1 i hi e u hui)
      · exact List.mem_append_right _ (hb1 i hi e u hui)
    rw [dotsM_len, List.length_append] at h1
    show x.2.length ≤ _
    omega

end

section
open Go.RowKit Go.Sort

/-- A mark with a name as a value: one flat row of five cells. -/
abbrev mkH (x : Hd) : Value := .agg #[.string ⟨x.1.toArray⟩, .int .i64 x.2.r, .int .i64 x.2.c, .int .i64 x.2.q, .int .u64 (x.2.t : Int)]
abbrev encH (x : Hd) : List Value := [.string ⟨x.1.toArray⟩, .int .i64 x.2.r, .int .i64 x.2.c, .int .i64 x.2.q, .int .u64 (x.2.t : Int)]
theorem encH_len (x : Hd) : (encH x).length = 5 := rfl
theorem encH_one (x : Hd) : ∀ u ∈ encH x, u.oneCell' = true := by
  intro u hu
  simp [encH] at hu
  rcases hu with rfl | rfl | rfl | rfl | rfl <;> rfl
theorem infoH : (Tryz.prog.info? 100).map (fun i => (i.zero, i.size, i.bytes)) = some (some (.agg #[.string ⟨#[]⟩, .int .i64 0, .int .i64 0, .int .i64 0, .int .u64 0]), 5, 48) := by kernel_rfl
abbrev HeldAt (w : World) (A : Option Addr) (xs : List Hd) : Prop := SlAt encH 5 w A xs
/-- Such marks in a row of the call's own. -/
abbrev RowH (W : World) (B : Nat) (v : Value) (xs : List Hd) : Prop := W.ownsRow B 100 5 v xs.length (cellsOf encH xs)
def HoldsH (w : World) (v : Value) (xs : List Hd) : Prop := ∃ A c, v = .slice A xs.length c ∧ HeldAt w A xs ∧ xs.length ≤ c ∧ c ≤ maxLen
theorem HoldsH.below {w w' : World} {v : Value} {xs : List Hd} (h : HoldsH w v xs) (hb : Below w.heap.size w w') : HoldsH w' v xs := by
  obtain ⟨A, c, rfl, h1, h2, h3⟩ := h
  exact ⟨A, c, rfl, h1.below hb, h2, h3⟩
theorem RowH.holds {w : World} {B : Nat} {v : Value} {xs : List Hd} (h : RowH w B v xs) : HoldsH w v xs := by
  obtain ⟨A, c, rfl, h1, h2, h3⟩ := SlAt.of_own encH_len h
  exact ⟨A, c, rfl, h3, h1, h2⟩
theorem SlAt.held {w : World} {A : Option Addr} {xs : List Hd} (h : HeldAt w A xs) {j : Nat} (hj : j < xs.length) :
    ∃ b off, ∃ x : Hd, A = some ⟨b, off, none⟩ ∧ b < w.heap.size ∧ xs[j]? = some x ∧ w.cell? ⟨b, off + j * 5, none⟩ = some (.string ⟨x.1.toArray⟩) ∧ w.cell? ⟨b, off + j * 5 + 1, none⟩ = some (.int .i64 x.2.r) ∧ w.cell? ⟨b, off + j * 5 + 2, none⟩ = some (.int .i64 x.2.c) ∧ w.cell? ⟨b, off + j * 5 + 3, none⟩ = some (.int .i64 x.2.q) ∧ w.cell? ⟨b, off + j * 5 + 4, none⟩ = some (.int .u64 (x.2.t : Int)) := by
  obtain ⟨b, off, rfl, hb, hc⟩ := h (by omega)
  have hx := List.getElem?_eq_getElem hj
  exact ⟨b, off, xs[j], rfl, hb, hx, by simpa using hc j _ hx 0 _ rfl, hc j _ hx 1 _ rfl, hc j _ hx 2 _ rfl, hc j _ hx 3 _ rfl, hc j _ hx 4 _ rfl⟩
/-- A block that holds one. -/
def BlkH (W : World) (g : Nat) (x : Hd) : Prop := W.heap[g]? = some (.cells #[.string ⟨x.1.toArray⟩, .int .i64 x.2.r, .int .i64 x.2.c, .int .i64 x.2.q, .int .u64 (x.2.t : Int)] 100 (0, 0))
section
variable {W W' : World} {g : Nat} {x : Hd}
theorem BlkH.lt (h : BlkH W g x) : g < W.heap.size := (Array.getElem?_eq_some_iff.1 h).1
theorem BlkH.cell0 (h : BlkH W g x) : W.cell? ⟨g, 0, none⟩ = some (.string ⟨x.1.toArray⟩) := by simp [World.cell?, show W.heap[g]? = _ from h]
theorem BlkH.cell1 (h : BlkH W g x) : W.cell? ⟨g, 1, none⟩ = some (.int .i64 x.2.r) := by simp [World.cell?, show W.heap[g]? = _ from h]
theorem BlkH.cell2 (h : BlkH W g x) : W.cell? ⟨g, 2, none⟩ = some (.int .i64 x.2.c) := by simp [World.cell?, show W.heap[g]? = _ from h]
theorem BlkH.cell3 (h : BlkH W g x) : W.cell? ⟨g, 3, none⟩ = some (.int .i64 x.2.q) := by simp [World.cell?, show W.heap[g]? = _ from h]
theorem BlkH.cell4 (h : BlkH W g x) : W.cell? ⟨g, 4, none⟩ = some (.int .u64 (x.2.t : Int)) := by simp [World.cell?, show W.heap[g]? = _ from h]
theorem BlkH.frozen (h : BlkH W g x) (k : Nat) : W.frozen? ⟨g, k, none⟩ = false := by simp [World.frozen?, show W.heap[g]? = _ from h]
theorem BlkH.below (h : BlkH W g x) (hb : Below W.heap.size W W') : BlkH W' g x := (hb.block g h.lt).trans h
theorem BlkH.new (W : World) (x : Hd) : BlkH (W.alloc (.cells #[.string ⟨x.1.toArray⟩, .int .i64 x.2.r, .int .i64 x.2.c, .int .i64 x.2.q, .int .u64 (x.2.t : Int)] 100)) W.heap.size x := heap_alloc_new W _
end

/-- A known result, and no more than some draws and some blocks behind. -/
def OneG (v : Value) (w : World) (e : Ending) (w' : World) : Prop := e = .returned v ∧ ∃ q os', w' = Sort.grow (w.drewN q) os'

theorem drewN_growJ (w : World) (os : Array Obj) (n : Nat) : (grow w os).drewN n = grow (w.drewN n) os := rfl
set_option maxHeartbeats 400000 in
theorem qtyNewerG (a b : Mk) (w : World) : Calls Tryz.prog 187 #[mkV a, mkV b] w (OneG (.bool (newerN a b)) w) := by
  obtain ⟨r, c, q, t⟩ := a
  obtain ⟨r', c', q', t'⟩ := b
  go_enter Tryz.func187, Tryz.ntmps187
  go_wp2
  all_goals
    go_ret
    refine ⟨?_, 0, _, by rw [Sort.alloc_eq_grow, Sort.alloc_eq_grow, Sort.grow_grow]; rfl⟩
    refine congrArg (fun b => Ending.returned (.bool b)) ?_
    rw [Bool.eq_iff_iff, newerN_iff]
    simp at *
    try omega

set_option maxHeartbeats 1000000 in
theorem qtyCompareG (a b : Mk) (w : World) : Calls Tryz.prog 128 #[mkV a, mkV b] w (OneG (.int .i64 (cmpN a b)) w) := by
  have heq := eqlMark a b
  have hc : cmpN a b = if decide (a = b) = true then 0 else if newerN a b then 1 else -1 := by
    by_cases h : a = b
    · rw [if_pos (decide_eq_true h), (cmpN_zero a b).2 h]
    · rw [if_neg (by simpa using h)]
      cases h2 : newerN a b with
      | true => rw [(cmpN_one a b).2 h2]; rfl
      | false =>
        rcases cmpN_cases a b with k | k | k
        · rw [(cmpN_one a b).1 k] at h2; cases h2
        · rw [k]; rfl
        · exact absurd ((cmpN_zero a b).1 k) h
  have hn := fun W => qtyNewerG a b W
  generalize decide (a = b) = x at heq hc
  generalize newerN a b = y at hn hc
  generalize cmpN a b = z at hc ⊢
  have HC := Lib.hid hc
  have HN := Lib.hid hn
  clear hc hn
  obtain ⟨r, c, q, t⟩ := a
  obtain ⟨r', c', q', t'⟩ := b
  cases x with
  | true =>
    go_enter Tryz.func128, Tryz.ntmps128
    go_wp2_with fail
    go_ret
    exact ⟨by rw [HC.out]; rfl, 0, _, by rw [Sort.alloc_eq_grow, Sort.alloc_eq_grow, Sort.grow_grow]; rfl⟩
  | false =>
    cases y with
    | true =>
      go_enter Tryz.func128, Tryz.ntmps128
      go_wp2_with fail
      refine (HN.out _).mono ?_
      rintro e w1 ⟨rfl, q0, os0, rfl⟩
      go_wp2_with fail
      go_ret
      exact ⟨by rw [HC.out]; rfl, q0, _, by rw [Sort.alloc_eq_grow, Sort.alloc_eq_grow, Sort.grow_grow, drewN_growJ, Sort.grow_grow]⟩
    | false =>
      go_enter Tryz.func128, Tryz.ntmps128
      go_wp2_with fail
      refine (HN.out _).mono ?_
      rintro e w1 ⟨rfl, q0, os0, rfl⟩
      go_wp2_with fail
      go_ret
      exact ⟨by rw [HC.out]; rfl, q0, _, by rw [Sort.alloc_eq_grow, Sort.alloc_eq_grow, Sort.grow_grow, drewN_growJ, Sort.grow_grow]⟩

/-- The first one of three numbers that is not 0. -/
def or3 (x y z : Int) : Int := if x ≠ 0 then x else if y ≠ 0 then y else z
set_option maxHeartbeats 1000000 in
theorem cmpOr3 (b : Nat) (cap : Nat) (x y z : Int) (w : World) (h0 : w.cell? ⟨b, 0, none⟩ = some (.int .i64 x)) (h1 : w.cell? ⟨b, 1, none⟩ = some (.int .i64 y)) (h2 : w.cell? ⟨b, 2, none⟩ = some (.int .i64 z)) :
    Calls Tryz.prog 127 #[.slice (some ⟨b, 0, none⟩) 3 cap] w (One (.int .i64 (or3 x y z)) w) := by
  obtain ⟨v, hv⟩ : ∃ v, or3 x y z = v := ⟨_, rfl⟩
  rw [hv]
  unfold or3 at hv
  by_cases hx : x = 0
  · have hx' : (x != 0) = false := by simp [hx]
    rw [if_neg (by simpa using hx)] at hv
    by_cases hy : y = 0
    · have hy' : (y != 0) = false := by simp [hy]
      rw [if_neg (by simpa using hy)] at hv
      by_cases hz : z = 0
      · have hz' : (z != 0) = false := by simp [hz]
        rw [hz] at hv
        clear hx hy hz
        subst hv
        go_enter Tryz.func127, Tryz.ntmps127
        go_wp2
        refine wp_loop_rounds 4 ?_
        rw [rounds_succ]
        go_wp2
        rw [rounds_succ]
        go_wp2
        rw [rounds_succ]
        go_wp2
        rw [rounds_succ]
        go_wp2
        go_ret
        exact ⟨rfl, rfl⟩
      · have hz' : (z != 0) = true := by simp [hz]
        clear hx hy hz
        subst hv
        go_enter Tryz.func127, Tryz.ntmps127
        go_wp2
        refine wp_loop_rounds 3 ?_
        rw [rounds_succ]
        go_wp2
        rw [rounds_succ]
        go_wp2
        rw [rounds_succ]
        go_wp2
        go_ret
        exact ⟨rfl, rfl⟩
    · have hy' : (y != 0) = true := by simp [hy]
      rw [if_pos (by simpa using hy)] at hv
      clear hx hy
      subst hv
      go_enter Tryz.func127, Tryz.ntmps127
      go_wp2
      refine wp_loop_rounds 2 ?_
      rw [rounds_succ]
      go_wp2
      rw [rounds_succ]
      go_wp2
      go_ret
      exact ⟨rfl, rfl⟩
  · have hx' : (x != 0) = true := by simp [hx]
    rw [if_pos (by simpa using hx)] at hv
    clear hx
    subst hv
    go_enter Tryz.func127, Tryz.ntmps127
    go_wp2
    refine wp_loop_rounds 1 ?_
    rw [rounds_succ]
    go_wp2
    go_ret
    exact ⟨rfl, rfl⟩

/-- Two boxes of marks with names, some draws and some blocks behind. -/
def KHo (W0 : World) (x y : Hd) (W : World) : Prop := (∃ p : GrownBy, W = grow ((((W0.alloc (.cells #[.string ⟨x.1.toArray⟩, .int .i64 x.2.r, .int .i64 x.2.c, .int .i64 x.2.q, .int .u64 (x.2.t : Int)] 100)).alloc (.cells #[.string ⟨y.1.toArray⟩, .int .i64 y.2.r, .int .i64 y.2.c, .int .i64 y.2.q, .int .u64 (y.2.t : Int)] 100)).drewN p.n)) p.os)
section
variable {W0 W : World} {x y : Hd}
theorem KHo.blk (h : KHo W0 x y W) : BlkH W W0.heap.size x ∧ BlkH W (W0.heap.size + 1) y := by
  obtain ⟨p, rfl⟩ := h
  have h1 := BlkH.new W0 x
  have h2 := BlkH.new (W0.alloc (.cells #[.string ⟨x.1.toArray⟩, .int .i64 x.2.r, .int .i64 x.2.c, .int .i64 x.2.q, .int .u64 (x.2.t : Int)] 100)) y
  rw [World.size_alloc] at h2
  have hb := below_grow ((W0.alloc (.cells #[.string ⟨x.1.toArray⟩, .int .i64 x.2.r, .int .i64 x.2.c, .int .i64 x.2.q, .int .u64 (x.2.t : Int)] 100)).alloc (.cells #[.string ⟨y.1.toArray⟩, .int .i64 y.2.r, .int .i64 y.2.c, .int .i64 y.2.q, .int .u64 (y.2.t : Int)] 100)) p.n p.os
  exact ⟨(h1.below ((Below.refl _ _).alloc (Nat.le_refl _) _)).below hb, h2.below hb⟩
theorem KHo.sp (h : KHo W0 x y W) : W.cell? ⟨W0.heap.size, 0, none⟩ = some (.string ⟨x.1.toArray⟩) ∧ W.cell? ⟨W0.heap.size, 1, none⟩ = some (.int .i64 x.2.r) ∧ W.cell? ⟨W0.heap.size, 2, none⟩ = some (.int .i64 x.2.c) ∧ W.cell? ⟨W0.heap.size, 3, none⟩ = some (.int .i64 x.2.q) ∧ W.cell? ⟨W0.heap.size, 4, none⟩ = some (.int .u64 (x.2.t : Int)) ∧
    W.cell? ⟨W0.heap.size + 1, 0, none⟩ = some (.string ⟨y.1.toArray⟩) ∧ W.cell? ⟨W0.heap.size + 1, 1, none⟩ = some (.int .i64 y.2.r) ∧ W.cell? ⟨W0.heap.size + 1, 2, none⟩ = some (.int .i64 y.2.c) ∧ W.cell? ⟨W0.heap.size + 1, 3, none⟩ = some (.int .i64 y.2.q) ∧ W.cell? ⟨W0.heap.size + 1, 4, none⟩ = some (.int .u64 (y.2.t : Int)) ∧ KHo W0 x y W :=
  ⟨h.blk.1.cell0, h.blk.1.cell1, h.blk.1.cell2, h.blk.1.cell3, h.blk.1.cell4, h.blk.2.cell0, h.blk.2.cell1, h.blk.2.cell2, h.blk.2.cell3, h.blk.2.cell4, h⟩
theorem KHo.drew (h : KHo W0 x y W) : KHo W0 x y W.drew := by
  obtain ⟨p, rfl⟩ := h
  exact ⟨⟨p.n + 1, p.os⟩, by rw [← World.drewN_drewN]; rfl⟩
theorem KHo.next (h : KHo W0 x y W) {q : Nat} {os : Array Obj} : KHo W0 x y (grow (W.drewN q) os) := by
  obtain ⟨p, rfl⟩ := h
  exact ⟨⟨p.n + q, p.os ++ os⟩, by rw [drewN_growJ, grow_grow, World.drewN_drewN]⟩
theorem KHo.alloc (h : KHo W0 x y W) (o : Obj) : KHo W0 x y (W.alloc o) := by
  have := h.next (q := 0) (os := #[o])
  rw [Sort.alloc_eq_grow]; exact this
theorem KHo.fin (h : KHo W0 x y W) : ∃ q os', W = grow (W0.drewN q) os' := by
  obtain ⟨p, rfl⟩ := h
  exact ⟨p.n, _, by rw [Sort.alloc_eq_grow, Sort.alloc_eq_grow, grow_grow, drewN_growJ, grow_grow]⟩
theorem KHo.new (W0 : World) (x y : Hd) : KHo W0 x y ((W0.alloc (.cells #[.string ⟨x.1.toArray⟩, .int .i64 x.2.r, .int .i64 x.2.c, .int .i64 x.2.q, .int .u64 (x.2.t : Int)] 100)).alloc (.cells #[.string ⟨y.1.toArray⟩, .int .i64 y.2.r, .int .i64 y.2.c, .int .i64 y.2.q, .int .u64 (y.2.t : Int)] 100)) :=
  ⟨⟨0, #[]⟩, by rw [grow_empty]; rfl⟩
end

end

section
open Go.RowKit Go.Sort

instance : Inhabited Mk := ⟨Mk.zero⟩
instance : Inhabited ItV := ⟨ItV.zero⟩
/-- From the library's words to lists. -/
theorem perm_sorted {α : Type} [Inhabited α] {lt : α → α → Bool} {xs : List α} {d : Array α} (hp : PermIn 0 xs.toArray.size xs.toArray d) (hs : SortedIn lt 0 xs.toArray.size d) : d.size = xs.length ∧ d.toList.Perm xs ∧ d.toList.Pairwise fun a b => lt b a = false := by
  obtain ⟨hsz, _, hperm⟩ := hp
  have e1 : d.extract 0 xs.toArray.size = d := by rw [← hsz]; exact Array.extract_size
  rw [e1, Array.extract_size] at hperm
  refine ⟨by simpa using hsz, by simpa using hperm, ?_⟩
  rw [List.pairwise_iff_getElem]
  intro i j hi hj hij
  have := hs i j (Nat.zero_le _) hij (by rw [← hsz]; simpa using hj)
  simp only [Array.length_toList] at hi hj
  rw [getElem!_pos d i hi, getElem!_pos d j hj] at this
  simpa using this

end

end Go.Proofs.YtiaehpdgpjhecaaGreat
