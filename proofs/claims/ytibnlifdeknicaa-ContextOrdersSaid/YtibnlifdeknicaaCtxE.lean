/- The reference of layer 3: Compact, the walk. -/
import Derived.Test.YtibnlifdeknicaaCtxD
namespace Go.Proofs.Ytibnlifdeknicaa
open Go.RowKit

theorem ref2Get_h3 (v : Value) (xs : List (Int × Int)) (r n : Int) (w : World) (h : Holds w v xs) (hn : getV xs r = n) :
    Calls Try.prog 50 #[v, .int .i64 r] w fun e w' => e = .returned (.int .i64 n) ∧ Below w.heap.size w w' := by
  obtain ⟨A, c, rfl, h1, h2, h3⟩ := h
  subst hn
  exact ref2Get A xs c r w h1 (Nat.le_trans h2 h3)
theorem ref2RaiseO_h (v : Value) (xs : List (Int × Int)) (r0 c0 : Int) (w : World) (h : Holds w v xs) (hm : xs.length ≤ 1000000) (hin : hasV xs r0 c0 = false) :
    Calls Try.prog 56 #[v, .agg #[.int .i64 r0, .int .i64 c0]] w fun e w' => (∃ v', e = .returned v' ∧ w'.ownsRow (w.heap.size + 1) 38 2 v' (raiseV xs (r0, c0)).length (cellsOf encD (raiseV xs (r0, c0)))) ∧ Below w.heap.size w w' := by
  obtain ⟨A, c, rfl, h1, h2, h3⟩ := h
  exact ref2RaiseO A xs c r0 c0 w h1 hm h2 h3 hin
theorem ref3IsCompact_h (v v' : Value) (vs ls : List (Int × Int)) (b : Bool) (w : World) (h : Holds w v vs) (h' : Holds w v' ls) (hb : compC vs ls = b) :
    Calls Try.prog 14 #[.agg #[v, v']] w fun e w' => e = .returned (.bool b) ∧ Below w.heap.size w w' := ref3IsCompact _ vs ls b w (HoldsC.mk h h') hb

/-- What holds inside a pass. -/
def InP (w1 : World) (vs ls : List (Int × Int)) (k : Nat) (rest vv : Value) (rs us : List (Int × Int)) (W : World) : Prop :=
  passC vs [] ls = passC us rs (ls.drop k) ∧ W.ownsRow w1.heap.size 38 2 rest rs.length (cellsOf encD rs) ∧ Holds W vv us ∧ Apart us vv rest ∧ Below w1.heap.size w1 W ∧ us.length + rs.length ≤ vs.length + k ∧ validV us = true
section
variable {w1 : World} {vs ls : List (Int × Int)} {k : Nat} {rest vv : Value} {rs us : List (Int × Int)} {W W' : World}
theorem InP.below (h : InP w1 vs ls k rest vv rs us W) (hb : Below W.heap.size W W') : InP w1 vs ls k rest vv rs us W' :=
  ⟨h.1, h.2.1.kept (grown_of_below2 hb none) (by cases rest.ownBlock <;> simp), h.2.2.1.below hb, h.2.2.2.1, below_trans h.2.2.2.2.1 hb, h.2.2.2.2.2⟩
theorem InP.bel (h : InP w1 vs ls k rest vv rs us W) : Below w1.heap.size w1 W := h.2.2.2.2.1
theorem InP.vec (h : InP w1 vs ls k rest vv rs us W) : Holds W vv us := h.2.2.1
theorem InP.own (h : InP w1 vs ls k rest vv rs us W) : W.ownsRow w1.heap.size 38 2 rest rs.length (cellsOf encD rs) := h.2.1
theorem InP.len (h : InP w1 vs ls k rest vv rs us W) : us.length + rs.length ≤ vs.length + k := h.2.2.2.2.2.1
theorem InP.valid (h : InP w1 vs ls k rest vv rs us W) : validV us = true := h.2.2.2.2.2.2
theorem InP.goes {d : Int × Int} (h : InP w1 vs ls k rest vv rs us W) (hd : ls[k]? = some d) : passC vs [] ls = (if hasV us d.1 d.2 then passC us rs (ls.drop (k + 1)) else if d.2 = getV us d.1 + 1 then passC (raiseV us d) rs (ls.drop (k + 1)) else passC us (rs ++ [d]) (ls.drop (k + 1))) := by
  obtain ⟨hl, e⟩ := List.getElem?_eq_some_iff.1 hd
  rw [h.1, ← e, List.drop_eq_getElem_cons hl, passC]
/-- The dot is in the vector. -/
theorem InP.skip {d : Int × Int} (h : InP w1 vs ls k rest vv rs us W) (hd : ls[k]? = some d) (hh : hasV us d.1 d.2 = true) : InP w1 vs ls (k + 1) rest vv rs us W :=
  ⟨by rw [h.goes hd, if_pos hh], h.2.1, h.2.2.1, h.2.2.2.1, h.2.2.2.2.1, by have := h.len; omega, h.valid⟩
/-- The dot goes into the vector. -/
theorem InP.rise {d : Int × Int} {v' : Value} (h : InP w1 vs ls k rest vv rs us W) (hd : ls[k]? = some d) (hv : validD d.1 d.2 = true) (hh : hasV us d.1 d.2 = false) (hn : d.2 = getV us d.1 + 1) (hb : Below W.heap.size W W')
    (ho : W'.ownsRow (W.heap.size + 1) 38 2 v' (raiseV us d).length (cellsOf encD (raiseV us d))) : InP w1 vs ls (k + 1) rest v' rs (raiseV us d) W' := by
  have h2 := h.below hb
  refine ⟨by rw [h.goes hd, hh, if_neg (by simp), if_pos hn], h2.own, ?_, ?_, h2.bel, ?_, valid_raiseV h.valid hv⟩
  · obtain ⟨A, c, e0, h1, h2, h3⟩ := SlAt.of_own encD_len ho
    exact ⟨A, c, e0, h3, h1, h2⟩
  · intro _ b off n c e
    subst e
    intro e2
    have h3 := (h.own.lt b e2).2
    have h4 := (ho.lt b rfl).1
    omega
  · have := raiseV_len us d
    have := h.len
    omega
/-- The dot stays in the cloud. -/
theorem InP.stay {d : Int × Int} {r2 : Value} {w2 : World} {o : Obj} (h : InP w1 vs ls k rest vv rs us W) (hd : ls[k]? = some d) (hh : hasV us d.1 d.2 = false) (hn : d.2 ≠ getV us d.1 + 1)
    (ho : w2.ownsRow w1.heap.size 38 2 r2 (rs ++ [d]).length (cellsOf encD (rs ++ [d]))) (hg : (W.alloc o).grownBy w2 rest.ownBlock) (hat : r2.ownBlock = rest.ownBlock ∨ r2.ownBlock = some (W.alloc o).heap.size) : InP w1 vs ls (k + 1) r2 vv (rs ++ [d]) us w2 := by
  have hal : Below W.heap.size W (W.alloc o) := (Below.refl _ W).alloc (Nat.le_refl _) _
  refine ⟨by rw [h.goes hd, hh, if_neg (by simp), if_neg hn], ho, (h.vec.below hal).apart hg h.2.2.2.1, ?_, (h.bel.alloc h.bel.size o).grown hg (by have := h.bel.size; simp; omega) (fun j hj => (h.own.lt j hj).1), ?_, h.valid⟩
  · intro hn0 b off n c e e2
    rcases hat with h1 | h1
    · exact h.2.2.2.1 hn0 b off n c e (by rw [← h1]; exact e2)
    · rw [h1] at e2
      have e3 : (W.alloc o).heap.size = b := by simpa using e2
      obtain ⟨A, c', ev, hat2, _⟩ := h.vec
      obtain ⟨b', off', rfl, hb', _⟩ := hat2 hn0
      rw [e] at ev
      cases ev
      simp at e3
      omega
  · rw [List.length_append]
    have := h.len
    simp only [List.length_cons, List.length_nil]; omega
end

end Go.Proofs.Ytibnlifdeknicaa
