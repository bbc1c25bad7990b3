/- How many dots a context has: compaction leaves it as it is. -/
import Derived.Test.YtibnlifdeknicaaCtxK
import Derived.Test.YtibnlifdeknicaaVecB
namespace Go.Proofs.Ytibnlifdeknicaa
open Go.RowKit

/-- The sum of the counters. -/
def sumV : List (Int × Int) → Int
  | [] => 0
  | p :: v => p.2 + sumV v
/-- How many dots of a cloud are not in the vector. -/
def cntV (v l : List (Int × Int)) : Nat := (l.filter fun d => !hasV v d.1 d.2).length
/-- How many dots there are. -/
def sizeC (v l : List (Int × Int)) : Int := sumV v + cntV v l

theorem sum_raise_t {d : Int × Int} : ∀ {v : List (Int × Int)}, (∀ p ∈ v, p.1 ≠ d.1) → raiseL d true v = v
  | [], _ => by simp [raiseL]
  | x :: v, h => by rw [raise_t_ne (h x (by simp)), sum_raise_t fun p hp => h p (by simp [hp])]; rfl
theorem sum_raiseL {d : Int × Int} : ∀ {v : List (Int × Int)}, IncR v → d.2 = getV v d.1 + 1 → sumV (raiseL d false v) = sumV v + 1
  | [], _, h => by simp only [getV] at h; simp [raiseL, sumV]; omega
  | x :: v, hi, h => by
    obtain ⟨h1, h2⟩ := List.pairwise_cons.1 hi
    by_cases e : x.1 = d.1
    · have hn : raiseL d true v = v := sum_raise_t fun p hp => by have := h1 p hp; omega
      rw [raise_f_eq e, hn]
      rw [getV, if_pos e] at h
      simp only [List.cons_append, List.nil_append, sumV]; omega
    · rw [getV, if_neg e] at h
      by_cases h0 : d.1 ≤ x.1
      · have hn : raiseL d true v = v := sum_raise_t fun p hp => by have := h1 p hp; omega
        have hg : getV v d.1 = 0 := getV_none fun p hp => by have := h1 p hp; omega
        rw [raise_f_ne h0 e, hn]
        simp only [List.cons_append, List.nil_append, sumV]; omega
      · rw [raise_f_lt h0]
        have := sum_raiseL h2 h
        simp only [List.cons_append, List.nil_append, sumV]; omega
theorem sum_raise {v : List (Int × Int)} {d : Int × Int} (hv : validV v = true) (h : d.2 = getV v d.1 + 1) : sumV (raiseV v d) = sumV v + 1 := by
  have hn : hasV v d.1 d.2 = false := by
    cases e : hasV v d.1 d.2
    · rfl
    · have := (hasV_iff.1 e).2; omega
  unfold raiseV
  rw [hn]
  exact sum_raiseL ((validV_iff v).1 hv).2 h
theorem cnt_app (v l m : List (Int × Int)) : cntV v (l ++ m) = cntV v l + cntV v m := by simp [cntV, List.filter_append]
theorem cnt_raise : ∀ {l v : List (Int × Int)} {d : Int × Int}, validV v = true → validD d.1 d.2 = true → d.2 = getV v d.1 + 1 → (∀ p ∈ l, p ≠ d) → cntV (raiseV v d) l = cntV v l
  | [], _, _, _, _, _, _ => rfl
  | x :: l, v, d, hv, hd, hn, hl => by
    have e : hasV (raiseV v d) x.1 x.2 = hasV v x.1 x.2 := by
      rw [Bool.eq_iff_iff, raise_next hv hd hn]
      constructor
      · rintro (h | h)
        · exact h
        · exact absurd h (hl x (by simp))
      · exact .inl
    have ih := cnt_raise (l := l) hv hd hn fun p hp => hl p (by simp [hp])
    unfold cntV at ih ⊢
    rw [List.filter_cons, List.filter_cons, e]
    split
    · simp only [List.length_cons]; omega
    · exact ih
theorem pass_size : ∀ {l v rest : List (Int × Int)}, validV v = true → (∀ p ∈ l, validD p.1 p.2 = true) → (rest ++ l).Nodup → sizeC (passC v rest l).1 (passC v rest l).2 = sizeC v (rest ++ l)
  | [], v, rest, _, _, _ => by simp [passC]
  | d :: l, v, rest, h, hl, hn => by
    have hl' : ∀ p ∈ l, validD p.1 p.2 = true := fun p hp => hl p (by simp [hp])
    have hd := hl d (by simp)
    have hn2 : (rest ++ l).Nodup := hn.sublist ((List.sublist_cons_self d l).append_left rest)
    rw [passC]
    split
    · rename_i hh
      rw [pass_size h hl' hn2]
      unfold sizeC
      rw [cnt_app, cnt_app]
      have : cntV v (d :: l) = cntV v l := by unfold cntV; rw [List.filter_cons, hh]; rfl
      rw [this]
    · split
      · rename_i hh hnx
        have hne : ∀ p ∈ rest ++ l, p ≠ d := fun p hp e => by
          subst e
          rw [List.nodup_append] at hn
          obtain ⟨_, h2, h3⟩ := hn
          rcases List.mem_append.1 hp with h4 | h4
          · exact h3 p h4 p (by simp) rfl
          · exact (List.nodup_cons.1 h2).1 h4
        rw [pass_size (valid_raiseV h hd) hl' hn2]
        unfold sizeC
        rw [sum_raise h hnx, cnt_raise h hd hnx hne, cnt_app, cnt_app]
        have : cntV v (d :: l) = cntV v l + 1 := by
          unfold cntV; rw [List.filter_cons, if_pos (by simpa using hh)]; rfl
        rw [this]
        omega
      · have e : rest ++ [d] ++ l = rest ++ d :: l := by simp
        rw [pass_size h hl' (by rw [e]; exact hn), e]
theorem inc_nodup {l : List (Int × Int)} (h : Inc l) : l.Nodup := List.Pairwise.imp (fun {a b} hab e => by subst e; rw [ltD_irrefl] at hab; cases hab) h
theorem compN_size : ∀ (n : Nat) {v l : List (Int × Int)}, validC v l = true → sizeC (compN n v l).1 (compN n v l).2 = sizeC v l
  | 0, _, _, _ => rfl
  | n + 1, v, l, h => by
    rw [compN]
    split
    · rfl
    · obtain ⟨h1, h2, h3⟩ := validC_iff.1 h
      rw [compN_size n (pass_validC h), pass_size h1 h3 (by simpa using inc_nodup h2)]
      rfl
theorem compactC_size {v l : List (Int × Int)} (h : validC v l = true) : sizeC (compactC v l).1 (compactC v l).2 = sizeC v l := compN_size _ h

end Go.Proofs.Ytibnlifdeknicaa
