/- Plain facts: of a cloud in order one pass makes the context compact; the counters after each dot. -/
import Derived.Test.YtibnlifdeknicaaCtxK
namespace Go.Proofs.Ytibnlifdeknicaa
open Go.RowKit

theorem inc_later {d e : Int × Int} {l : List (Int × Int)} (h : Inc (d :: l)) (he : e ∈ l) (hr : d.1 = e.1) : d.2 < e.2 := by
  have := (List.pairwise_cons.1 h).1 e he
  simp only [ltD, lessD, decide_eq_true_eq] at this
  omega
theorem goes_iff {v : List (Int × Int)} {d : Int × Int} (hd : validD d.1 d.2 = true) : goesC v d = false ↔ getV v d.1 + 1 < d.2 := by
  simp only [goesC, hasV, hd, Bool.true_and, Bool.or_eq_false_iff, decide_eq_false_iff_not, beq_eq_false_iff_ne]
  omega
theorem pass_comp : ∀ {l v rest : List (Int × Int)}, validV v = true → (∀ p ∈ l, validD p.1 p.2 = true) → (∀ p ∈ rest, validD p.1 p.2 = true) → Inc l → (∀ d ∈ rest, goesC v d = false) → (∀ d ∈ rest, ∀ e ∈ l, d.1 = e.1 → d.2 < e.2) →
    ∀ d ∈ (passC v rest l).2, goesC (passC v rest l).1 d = false
  | [], _, _, _, _, _, _, h, _ => h
  | x :: l, v, rest, hv, hl, hr, hi, hg, ho => by
    have hl' : ∀ p ∈ l, validD p.1 p.2 = true := fun p hp => hl p (by simp [hp])
    have hx := hl x (by simp)
    have hi' : Inc l := (List.pairwise_cons.1 hi).2
    have ho' : ∀ d ∈ rest, ∀ e ∈ l, d.1 = e.1 → d.2 < e.2 := fun d hd e he => ho d hd e (by simp [he])
    rw [passC]
    split
    · exact pass_comp hv hl' hr hi' hg ho'
    · rename_i h1
      split
      · rename_i h2
        refine pass_comp (valid_raiseV hv hx) hl' hr hi' (fun d hd => ?_) ho'
        rw [goes_iff (hr d hd), get_raiseV hv hx]
        have h3 := (goes_iff (hr d hd)).1 (hg d hd)
        have h4 := ho d hd x (by simp)
        split
        · rename_i e
          rw [e] at h3
          have := h4 e
          omega
        · exact h3
      · rename_i h2
        refine pass_comp hv hl' (fun p hp => ?_) hi' (fun d hd => ?_) (fun d hd e he hde => ?_)
        · rcases List.mem_append.1 hp with hp | hp
          · exact hr p hp
          · rw [List.mem_singleton.1 hp]; exact hx
        · rcases List.mem_append.1 hd with hd | hd
          · exact hg d hd
          · rw [List.mem_singleton.1 hd, goes_iff hx]
            have h3 : ¬ (x.2 ≤ getV v x.1) := fun h => h1 (hasV_iff.2 ⟨hx, h⟩)
            omega
        · rcases List.mem_append.1 hd with hd | hd
          · exact ho' d hd e he hde
          · rw [List.mem_singleton.1 hd] at hde ⊢
            exact inc_later hi he hde
/-- Of a valid context one pass makes the compact one. -/
theorem pass_compact {v l : List (Int × Int)} (h : validC v l = true) : passC v [] l = compactC v l := by
  obtain ⟨h1, h2, h3⟩ := validC_iff.1 h
  have hc := compC_iff.2 ⟨pass_comp h1 h3 (fun p hp => by cases hp) h2 (fun d hd => by cases hd) (fun d hd => by cases hd), pass_validC h⟩
  rw [compactC_eq h hc (fun r c => pass_hasC h r c)]
theorem ofV_self {v : List (Int × Int)} (h : validV v = true) : ofV v = v := by
  unfold ofV
  rw [merge_comm valid_nil h]
  rfl
theorem ofV_snoc (l : List (Int × Int)) (d : Int × Int) : ofV (l ++ [d]) = raiseV (ofV l) d := mergeV_snoc [] l d

/-- Where a walk through the cloud is, at its place k: the vector u, what was reached, the cloud so far. -/
def AtC (vs ls : List (Int × Int)) (k : Nat) (u re rs : List (Int × Int)) : Prop :=
  passC vs [] ls = passC u rs (ls.drop k) ∧ ofV re = u ∧ validV u = true ∧ (∀ p ∈ re, validD p.1 p.2 = true) ∧ re.length + rs.length ≤ vs.length + k
theorem AtC.start {vs ls : List (Int × Int)} (h : validV vs = true) : AtC vs ls 0 vs vs [] :=
  ⟨by rw [List.drop_zero], ofV_self h, h, ((validV_iff vs).1 h).1, by simp⟩
section
variable {vs ls u re rs : List (Int × Int)} {k : Nat} {d : Int × Int}
theorem AtC.goes (h : AtC vs ls k u re rs) (hd : ls[k]? = some d) : passC vs [] ls = (if hasV u d.1 d.2 then passC u rs (ls.drop (k + 1)) else if d.2 = getV u d.1 + 1 then passC (raiseV u d) rs (ls.drop (k + 1)) else passC u (rs ++ [d]) (ls.drop (k + 1))) := by
  obtain ⟨hl, e⟩ := List.getElem?_eq_some_iff.1 hd
  rw [h.1, ← e, List.drop_eq_getElem_cons hl, passC]
theorem AtC.next (h : AtC vs ls k u re rs) (hd : ls[k]? = some d) (hv : validD d.1 d.2 = true) (hn : d.2 = getV u d.1 + 1) : AtC vs ls (k + 1) (raiseV u d) (re ++ [d]) rs := by
  have hh : hasV u d.1 d.2 = false := by
    cases e : hasV u d.1 d.2
    · rfl
    · have := (hasV_iff.1 e).2; omega
  refine ⟨by rw [h.goes hd, hh, if_neg (by simp), if_pos hn], by rw [ofV_snoc, h.2.1], valid_raiseV h.2.2.1 hv, fun p hp => ?_, by have := h.2.2.2.2; simp; omega⟩
  rcases List.mem_append.1 hp with hp | hp
  · exact h.2.2.2.1 p hp
  · rw [List.mem_singleton.1 hp]; exact hv
theorem AtC.keep (h : AtC vs ls k u re rs) (hd : ls[k]? = some d) (hn : getV u d.1 + 1 < d.2) : AtC vs ls (k + 1) u re (rs ++ [d]) := by
  have hh : hasV u d.1 d.2 = false := by
    cases e : hasV u d.1 d.2
    · rfl
    · have := (hasV_iff.1 e).2; omega
  exact ⟨by rw [h.goes hd, hh, if_neg (by simp), if_neg (by omega)], h.2.1, h.2.2.1, h.2.2.2.1, by have := h.2.2.2.2; simp; omega⟩
theorem AtC.skip (h : AtC vs ls k u re rs) (hd : ls[k]? = some d) (hv : validD d.1 d.2 = true) (hn : d.2 ≤ getV u d.1) : AtC vs ls (k + 1) u re rs := by
  have hh : hasV u d.1 d.2 = true := hasV_iff.2 ⟨hv, hn⟩
  exact ⟨by rw [h.goes hd, if_pos hh], h.2.1, h.2.2.1, h.2.2.2.1, by have := h.2.2.2.2; omega⟩
theorem AtC.done (h : AtC vs ls ls.length u re rs) (hv : validC vs ls = true) : compactC vs ls = (u, rs) ∧ ofV re = u := by
  have h1 := h.1
  rw [List.drop_length, passC] at h1
  exact ⟨by rw [← pass_compact hv, h1], h.2.1⟩
/-- The counter of the replica after a dot went into the vector. -/
theorem get_next (hu : validV u = true) (hv : validD d.1 d.2 = true) (hn : d.2 = getV u d.1 + 1) (r : Int) : getV (raiseV u d) r = if r = d.1 then d.2 else getV u r := by
  rw [get_raiseV hu hv]
  split
  · rename_i e
    rw [e]; omega
  · rfl
end

end Go.Proofs.Ytibnlifdeknicaa
