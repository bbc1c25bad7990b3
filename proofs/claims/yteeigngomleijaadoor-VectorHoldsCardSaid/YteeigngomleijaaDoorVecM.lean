/- The law's helpers of layer 2: of, gives, made, raised, merged, orders, texts, parses. -/
import Derived.Test.YteeigngomleijaaDoorVecP
import Derived.Test.YteeigngomleijaaDoorVecG
import Derived.Test.YteeigngomleijaaDoorVecH
import Derived.Test.YteeigngomleijaaDoorDotO
namespace Go.Proofs.YteeigngomleijaaDoor
open Go.RowKit

set_option maxHeartbeats 400000 in
theorem lawOf2 (r c : Int) (w : World) :
    Calls Tryd.prog 58 #[.int .i64 r, .int .i64 c] w fun e w' => e = .returned (.agg #[.int .i64 r, .int .i64 c]) ∧ Below w.heap.size w w' := by
  go_enter Tryd.func58, Tryd.ntmps58
  go_wp2
  exact bodyPost_ret (v := .agg #[.int .i64 r, .int .i64 c]) (by simp [results, Tryd.results58, go_sem]) rfl ⟨rfl, ((Below.refl _ w).alloc (Nat.le_refl _) _)⟩

set_option maxHeartbeats 1000000 in
theorem lawGives (v v' : Value) (xs ys : List (Int × Int)) (n no : Int) (b : Bool) (w : World) (h : Holds w v xs) (h' : Holds w v' ys) (hb : (decide (xs = ys) && (n == no)) = b) :
    Calls Tryd.prog 39 #[v, .int .i64 n, v', .int .i64 no] w fun e w' => e = .returned (.bool b) ∧ Below w.heap.size w w' := by
  cases hxy : decide (xs = ys)
  · have HS := Lib.hid (same_h v v' xs ys false w h h' hxy)
    have HB := Lib.hid (show false = b by rw [← hb, hxy]; rfl)
    clear hb hxy h h'
    go_enter Tryd.func39, Tryd.ntmps39
    go_wp2_with fail
    refine HS.out.mono ?_
    rintro e w1 ⟨rfl, hb1⟩
    go_wp2
    go_ret
    exact ⟨ret_bool HB.out, hb1⟩
  · have HS := Lib.hid (same_h v v' xs ys true w h h' hxy)
    cases hn : (n == no)
    all_goals
      have HB := Lib.hid (show _ = b by rw [← hb, hxy, hn])
      clear hb hxy h h'
      go_enter Tryd.func39, Tryd.ntmps39
      go_wp2_with fail
      refine HS.out.mono ?_
      rintro e w1 ⟨rfl, hb1⟩
      go_wp2
      go_ret
      exact ⟨ret_bool HB.out, hb1⟩

/-- A list and a number are returned. -/
def TupR (p : List (Int × Int) × Int) (w : World) (e : Ending) (w' : World) : Prop := (∃ v, e = .returned (.tuple #[v, .int .i64 p.2]) ∧ Holds w' v p.1) ∧ Below w.heap.size w w'
def merP (ok : Bool) (zs : List (Int × Int)) : List (Int × Int) × Int := if ok then (zs, 0) else ([], 2)
def parP (o : Option (List (Int × Int))) : List (Int × Int) × Int := match o with
  | some v => (v, 0)
  | none => ([], 6)
theorem MerR.tup {ok : Bool} {zs : List (Int × Int)} {w : World} {e : Ending} {w' : World} (h : MerR ok zs w e w') : TupR (merP ok zs) w e w' := by
  cases ok
  · obtain ⟨rfl, hb⟩ := h.2 rfl
    exact ⟨⟨_, rfl, Holds.nil _⟩, hb⟩
  · obtain ⟨v, rfl, hm⟩ := h.1 rfl
    exact ⟨⟨v, rfl, hm.holds⟩, hm.2⟩
theorem PR.tup {o : Option (List (Int × Int))} {w : World} {e : Ending} {w' : World} (h : PR o e w') (hb : Below w.heap.size w w') : TupR (parP o) w e w' := by
  cases o
  · obtain rfl := h.2 rfl
    exact ⟨⟨_, rfl, Holds.nil _⟩, hb⟩
  · obtain ⟨v, rfl, hm⟩ := h.1 _ rfl
    exact ⟨⟨v, rfl, hm⟩, hb⟩

/-- What all of made, raised, merged and parses return. -/
def isB (p : List (Int × Int) × Int) (ys : List (Int × Int)) (no : Int) : Bool := decide (p.1 = ys) && (p.2 == no)

set_option maxHeartbeats 1000000 in
theorem lawMade (v v' : Value) (xs ys : List (Int × Int)) (no : Int) (b : Bool) (w : World) (h : Holds w v xs) (h' : Holds w v' ys) (hm : xs.length ≤ 10000) (hb : isB (merP (ofOk xs) (ofV xs)) ys no = b) :
    Calls Tryd.prog 33 #[v, v', .int .i64 no] w fun e w' => e = .returned (.bool b) ∧ Below w.heap.size w w' := by
  have hv : Calls Tryd.prog 59 #[v] w fun e w' => TupR (merP (ofOk xs) (ofV xs)) w e w' := by
    obtain ⟨A, c, rfl, h1, h2, h3⟩ := h
    exact (vecOf A xs c w ⟨A, c, rfl, h1, h2, h3⟩ (by omega)).mono fun e w' h => h.tup
  unfold isB at hb
  have HV := Lib.hid hv
  have HB := Lib.hid hb
  have H2 := Lib.hid h'
  clear hv hb h h'
  go_enter Tryd.func33, Tryd.ntmps33
  go_wp2_with fail
  refine HV.out.mono ?_
  rintro e w1 ⟨⟨v1, rfl, hh⟩, hb1⟩
  go_wp2_with fail
  refine (lawGives v1 v' _ ys _ no b w1 hh (H2.out.below hb1) HB.out).mono ?_
  rintro e w2 ⟨rfl, hb2⟩
  go_wp2
  go_ret
  exact ⟨rfl, below_trans hb1 hb2⟩

set_option maxHeartbeats 1000000 in
theorem lawMerged (v v' v'' : Value) (xs ys zs : List (Int × Int)) (no : Int) (b : Bool) (w : World) (h : Holds w v xs) (h' : Holds w v' ys) (h'' : Holds w v'' zs) (hm : xs.length + ys.length ≤ 10000) (hb : isB (merP (validV xs && validV ys) (mergeV xs ys)) zs no = b) :
    Calls Tryd.prog 36 #[v, v', v'', .int .i64 no] w fun e w' => e = .returned (.bool b) ∧ Below w.heap.size w w' := by
  have hv : Calls Tryd.prog 38 #[v, v'] w fun e w' => TupR (merP (validV xs && validV ys) (mergeV xs ys)) w e w' := by
    obtain ⟨A, c, rfl, h1, h2, h3⟩ := h
    obtain ⟨A', c', rfl, h1', h2', h3'⟩ := h'
    exact (vecMerge A A' xs ys c c' w ⟨A, c, rfl, h1, h2, h3⟩ ⟨A', c', rfl, h1', h2', h3'⟩ (by omega)).mono fun e w' h => h.tup
  unfold isB at hb
  have HV := Lib.hid hv
  have HB := Lib.hid hb
  have H2 := Lib.hid h''
  clear hv hb h h' h''
  go_enter Tryd.func36, Tryd.ntmps36
  go_wp2_with fail
  refine HV.out.mono ?_
  rintro e w1 ⟨⟨v1, rfl, hh⟩, hb1⟩
  go_wp2_with fail
  refine (lawGives v1 v'' _ zs _ no b w1 hh (H2.out.below hb1) HB.out).mono ?_
  rintro e w2 ⟨rfl, hb2⟩
  go_wp2
  go_ret
  exact ⟨rfl, below_trans hb1 hb2⟩

set_option maxHeartbeats 1000000 in
theorem lawRaised (v v'' : Value) (xs zs : List (Int × Int)) (r q : Int) (no : Int) (b : Bool) (w : World) (h : Holds w v xs) (h'' : Holds w v'' zs) (hm : xs.length ≤ 10000) (hb : isB (merP (validV xs && validD r q) (raiseV xs (r, q))) zs no = b) :
    Calls Tryd.prog 34 #[v, .agg #[.int .i64 r, .int .i64 q], v'', .int .i64 no] w fun e w' => e = .returned (.bool b) ∧ Below w.heap.size w w' := by
  have hv : ∀ W, Holds W v xs → Calls Tryd.prog 60 #[v, .agg #[.int .i64 r, .int .i64 q]] W fun e w' => TupR (merP (validV xs && validD r q) (raiseV xs (r, q))) W e w' := by
    intro W h
    obtain ⟨A, c, rfl, h1, h2, h3⟩ := h
    exact (vecRaise A xs c r q W ⟨A, c, rfl, h1, h2, h3⟩ (by omega)).mono fun e w' h => h.tup
  have hal : Below w.heap.size w (w.alloc (.cells #[.int .i64 r, .int .i64 q] 23)) := (Below.refl _ w).alloc (Nat.le_refl _) _
  unfold isB at hb
  have HV := Lib.hid (hv _ (h.below hal))
  have HB := Lib.hid hb
  have H2 := Lib.hid (h''.below hal)
  have HAL := Lib.hid hal
  clear hv hb h h'' hal
  go_enter Tryd.func34, Tryd.ntmps34
  go_wp2_with fail
  refine HV.out.mono ?_
  rintro e w1 ⟨⟨v1, rfl, hh⟩, hb1⟩
  go_wp2_with fail
  refine (lawGives v1 v'' _ zs _ no b w1 hh (H2.out.below hb1) HB.out).mono ?_
  rintro e w2 ⟨rfl, hb2⟩
  go_wp2
  go_ret
  exact ⟨rfl, below_trans HAL.out (below_trans hb1 hb2)⟩

set_option maxHeartbeats 1000000 in
theorem lawParses2 (s : ByteArray) (v' : Value) (ys : List (Int × Int)) (no : Int) (b : Bool) (w : World) (h' : Holds w v' ys) (hm : s.size ≤ 1000) (hb : isB (parP (parseVL s.data.toList)) ys no = b) :
    Calls Tryd.prog 45 #[.string s, v', .int .i64 no] w fun e w' => e = .returned (.bool b) ∧ Below w.heap.size w w' := by
  have hv : Calls Tryd.prog 64 #[.string s] w fun e w' => TupR (parP (parseVL s.data.toList)) w e w' :=
    (vecParse s w hm).mono fun e w' h => h.1.tup h.2
  unfold isB at hb
  have HV := Lib.hid hv
  have HB := Lib.hid hb
  have H2 := Lib.hid h'
  clear hv hb h'
  go_enter Tryd.func45, Tryd.ntmps45
  go_wp2_with fail
  refine HV.out.mono ?_
  rintro e w1 ⟨⟨v1, rfl, hh⟩, hb1⟩
  go_wp2_with fail
  refine (lawGives v1 v' _ ys _ no b w1 hh (H2.out.below hb1) HB.out).mono ?_
  rintro e w2 ⟨rfl, hb2⟩
  go_wp2
  go_ret
  exact ⟨rfl, below_trans hb1 hb2⟩

/-- What orders returns. -/
def ordP (ok : Bool) (n : Int) : Int × Int := if ok then (n, 0) else (0, 2)
theorem OrdR.tup {ok : Bool} {n : Int} {e : Ending} (h : OrdR ok n e) : e = .returned (.tuple #[.int .i64 (ordP ok n).1, .int .i64 (ordP ok n).2]) := by
  cases ok
  · exact h.2 rfl
  · exact h.1 rfl
set_option maxHeartbeats 1000000 in
theorem lawOrders (v v' : Value) (xs ys : List (Int × Int)) (m no : Int) (b : Bool) (w : World) (h : Holds w v xs) (h' : Holds w v' ys) (hm : xs.length + ys.length ≤ 10000)
    (hb : (((ordP (validV xs && validV ys) (orderV xs ys)).1 == m) && ((ordP (validV xs && validV ys) (orderV xs ys)).2 == no)) = b) :
    Calls Tryd.prog 37 #[v, v', .int .i64 m, .int .i64 no] w fun e w' => e = .returned (.bool b) ∧ Below w.heap.size w w' := by
  have hv : Calls Tryd.prog 46 #[v, v'] w fun e w' => e = .returned (.tuple #[.int .i64 (ordP (validV xs && validV ys) (orderV xs ys)).1, .int .i64 (ordP (validV xs && validV ys) (orderV xs ys)).2]) ∧ Below w.heap.size w w' := by
    obtain ⟨A, c, rfl, h1, h2, h3⟩ := h
    obtain ⟨A', c', rfl, h1', h2', h3'⟩ := h'
    exact (vecOrder A A' xs ys c c' w ⟨A, c, rfl, h1, h2, h3⟩ ⟨A', c', rfl, h1', h2', h3'⟩ (by omega)).mono fun e w' h => ⟨h.1.tup, h.2⟩
  obtain ⟨p, hp⟩ : ∃ p, p = ordP (validV xs && validV ys) (orderV xs ys) := ⟨_, rfl⟩
  rw [← hp] at hv hb
  obtain ⟨p1, p2⟩ := p
  have HV := Lib.hid hv
  clear hv h h' hp
  simp only at hb HV
  cases h1 : (p1 == m) <;> cases h2 : (p2 == no)
  all_goals
    rw [h1, h2] at hb
    have HB := Lib.hid hb
    clear hb
    go_enter Tryd.func37, Tryd.ntmps37
    go_wp2_with fail
    refine HV.out.mono ?_
    rintro e w1 ⟨rfl, hb1⟩
    go_wp2
    go_ret
    exact ⟨ret_bool HB.out, hb1⟩

/-- What Text returns. -/
def txtP (xs : List (Int × Int)) : ByteArray × Int := if validV xs then (⟨(textVL xs).toArray⟩, 0) else (⟨#[]⟩, 2)
theorem textVV_eq (xs : List (Int × Int)) : textVV xs = .tuple #[.string (txtP xs).1, .int .i64 (txtP xs).2] := by
  unfold textVV txtP; cases validV xs <;> rfl
set_option maxHeartbeats 1000000 in
theorem lawTexts2 (v : Value) (xs : List (Int × Int)) (s : ByteArray) (no : Int) (b : Bool) (w : World) (h : Holds w v xs) (ht : TabOK w) (hm : xs.length ≤ 10000) (hb : (((txtP xs).1.toList == s.toList) && ((txtP xs).2 == no)) = b) :
    Calls Tryd.prog 42 #[v, .string s, .int .i64 no] w fun e w' => e = .returned (.bool b) ∧ Below w.heap.size w w' := by
  have hv : Calls Tryd.prog 47 #[v] w fun e w' => e = .returned (.tuple #[.string (txtP xs).1, .int .i64 (txtP xs).2]) ∧ Below w.heap.size w w' := by
    obtain ⟨A, c, rfl, h1, h2, h3⟩ := h
    rw [← textVV_eq]
    exact vecText A xs c w ⟨A, c, rfl, h1, h2, h3⟩ (by omega) ht
  obtain ⟨p, hp⟩ : ∃ p, p = txtP xs := ⟨_, rfl⟩
  rw [← hp] at hv hb
  obtain ⟨p1, p2⟩ := p
  have HV := Lib.hid hv
  clear hv h ht hp
  simp only at hb HV
  cases h1 : (p1.toList == s.toList) <;> cases h2 : (p2 == no)
  all_goals
    rw [h1, h2] at hb
    have HB := Lib.hid hb
    clear hb
    go_enter Tryd.func42, Tryd.ntmps42
    go_wp2_with fail
    refine HV.out.mono ?_
    rintro e w1 ⟨rfl, hb1⟩
    go_wp2
    go_ret
    exact ⟨ret_bool HB.out, hb1⟩

theorem vecGet_h (v : Value) (xs : List (Int × Int)) (r n : Int) (w : World) (h : Holds w v xs) (hn : getV xs r = n) :
    Calls Tryd.prog 28 #[v, .int .i64 r] w fun e w' => e = .returned (.int .i64 n) ∧ Below w.heap.size w w' := by
  obtain ⟨A, c, rfl, h1, h2, h3⟩ := h
  subst hn
  exact vecGet A xs c r w h1 (Nat.le_trans h2 h3)
theorem vecHas_h (v : Value) (xs : List (Int × Int)) (r q : Int) (b : Bool) (w : World) (h : Holds w v xs) (hb : hasV xs r q = b) :
    Calls Tryd.prog 30 #[v, .agg #[.int .i64 r, .int .i64 q]] w fun e w' => e = .returned (.bool b) ∧ Below w.heap.size w w' := by
  obtain ⟨A, c, rfl, h1, h2, h3⟩ := h
  subst hb
  exact vecHas A xs c r q w h1 (Nat.le_trans h2 h3)

end Go.Proofs.YteeigngomleijaaDoor
