/- The helpers of layer 3's laws: compacts, made, added, united, within. -/
import Derived.Test.YtibnlifdeknicaaCtxA1
namespace Go.Proofs.Ytibnlifdeknicaa
open Go.RowKit

set_option maxRecDepth 100000 in
set_option maxHeartbeats 2000000 in
theorem law3Compacts (v u : Value) (vs ls : List (Int × Int)) (wv wl : List (Int × Int)) (no : Int) (b : Bool) (w : World) (h : HoldsC w v vs ls) (hw : HoldsC w u wv wl) (hm : vs.length + ls.length ≤ 1000) (hb : isC (ctxP (validC vs ls) (compactC vs ls)) wv wl no = b) :
    Calls Try.prog 17 #[v, u, .int .i64 no] w fun e w' => e = .returned (.bool b) ∧ Below w.heap.size w w' := by
  obtain ⟨A, n, B, k, rfl, h1, h2⟩ := h
  obtain ⟨Aw, nw, Bw, kw, rfl, h1w, h2w⟩ := hw
  have K := (((((((KX.nil w).push h1).push h2).push h1w).push h2w).box (.slice A vs.length n) (.slice B ls.length k) 25).box (.slice Aw wv.length nw) (.slice Bw wl.length kw) 25)
  simp only [World.size_alloc] at K
  have K := Lib.hid K
  clear h1 h2 h1w h2w
  obtain ⟨us, rs, hp⟩ : ∃ us rs, (compactC vs ls) = (us, rs) := ⟨_, _, rfl⟩
  obtain ⟨us2, rs2, er, hq⟩ : ∃ us2 rs2 er, ctxP (validC vs ls) (us, rs) = ((us2, rs2), er) := ⟨_, _, _, rfl⟩
  have HC := ctxCompact (.agg #[.slice A vs.length n, .slice B ls.length k]) vs ls _ (HoldsC.mk (K.out.h (v := .slice A vs.length n) (xs := vs) (by simp)) (K.out.h (v := .slice B ls.length k) (xs := ls) (by simp))) hm
  rw [hp] at HC hb
  rw [hq] at hb
  have HC := Lib.hid (HC.mono fun e w' h => h.tup hq)
  have HB := Lib.hid hb
  clear hp hq hb
  go_enter Try.func17, Try.ntmps17
  go_wp2_with fail
  refine HC.out.mono ?_
  rintro e w1 ⟨⟨A5, n5, B5, m5, rfl, hx5, hy5⟩, hb1⟩
  have K1 := Lib.hid ((((K.out.below hb1).push hx5.holds).push hy5.holds).alloc (.cells #[.slice A5 us2.length n5, .slice B5 rs2.length m5] 25))
  have k0 := K1.out.cell (a := ⟨w.heap.size + 1, 0, none⟩) (v := .slice Aw wv.length nw) (by simp)
  have k1 := K1.out.cell (a := ⟨w.heap.size + 1, 1, none⟩) (v := .slice Bw wl.length kw) (by simp)
  clear hb1 hx5 hy5
  go_wp2_with fail
  refine (law3Gives _ _ us2 rs2 wv wl er no b _ (HoldsC.mk (K1.out.h (v := .slice A5 us2.length n5) (xs := us2) (by simp)) (K1.out.h (v := .slice B5 rs2.length m5) (xs := rs2) (by simp))) (HoldsC.mk (K1.out.h (v := .slice Aw wv.length nw) (xs := wv) (by simp)) (K1.out.h (v := .slice Bw wl.length kw) (xs := wl) (by simp))) HB.out).mono ?_
  rintro e w2 ⟨rfl, hb1⟩
  have K2 := Lib.hid (K1.out.below hb1)
  clear hb1 k0 k1
  go_wp2
  go_ret
  exact ⟨rfl, K2.out.bel⟩

set_option maxRecDepth 100000 in
set_option maxHeartbeats 2000000 in
theorem law3Made (x u : Value) (m : List (Int × Int)) (wv wl : List (Int × Int)) (no : Int) (b : Bool) (w : World) (hx : Holds w x m) (hw : HoldsC w u wv wl) (hm : m.length ≤ 1000) (hb : isC (ctxP (okL m) (addC [] [] m)) wv wl no = b) :
    Calls Try.prog 30 #[x, u, .int .i64 no] w fun e w' => e = .returned (.bool b) ∧ Below w.heap.size w w' := by
  obtain ⟨Aw, nw, Bw, kw, rfl, h1w, h2w⟩ := hw
  have K := (((((KX.nil w).push hx).push h1w).push h2w).box (.slice Aw wv.length nw) (.slice Bw wl.length kw) 25)
  have K := Lib.hid K
  clear h1w h2w hx
  obtain ⟨us, rs, hp⟩ : ∃ us rs, (addC [] [] m) = (us, rs) := ⟨_, _, rfl⟩
  obtain ⟨us2, rs2, er, hq⟩ : ∃ us2 rs2 er, ctxP (okL m) (us, rs) = ((us2, rs2), er) := ⟨_, _, _, rfl⟩
  have HC := ctxOf  x  m _ (K.out.h (v := x) (xs := m) (by simp)) hm
  rw [hp] at HC hb
  rw [hq] at hb
  have HC := Lib.hid (HC.mono fun e w' h => h.tup hq)
  have HB := Lib.hid hb
  clear hp hq hb
  go_enter Try.func30, Try.ntmps30
  go_wp2_with fail
  refine HC.out.mono ?_
  rintro e w1 ⟨⟨A5, n5, B5, m5, rfl, hx5, hy5⟩, hb1⟩
  have K1 := Lib.hid ((((K.out.below hb1).push hx5.holds).push hy5.holds).alloc (.cells #[.slice A5 us2.length n5, .slice B5 rs2.length m5] 25))
  have k0 := K1.out.cell (a := ⟨w.heap.size, 0, none⟩) (v := .slice Aw wv.length nw) (by simp)
  have k1 := K1.out.cell (a := ⟨w.heap.size, 1, none⟩) (v := .slice Bw wl.length kw) (by simp)
  clear hb1 hx5 hy5
  go_wp2_with fail
  refine (law3Gives _ _ us2 rs2 wv wl er no b _ (HoldsC.mk (K1.out.h (v := .slice A5 us2.length n5) (xs := us2) (by simp)) (K1.out.h (v := .slice B5 rs2.length m5) (xs := rs2) (by simp))) (HoldsC.mk (K1.out.h (v := .slice Aw wv.length nw) (xs := wv) (by simp)) (K1.out.h (v := .slice Bw wl.length kw) (xs := wl) (by simp))) HB.out).mono ?_
  rintro e w2 ⟨rfl, hb1⟩
  have K2 := Lib.hid (K1.out.below hb1)
  clear hb1 k0 k1
  go_wp2
  go_ret
  exact ⟨rfl, K2.out.bel⟩

set_option maxRecDepth 100000 in
set_option maxHeartbeats 2000000 in
theorem law3Added (v x u : Value) (vs ls m : List (Int × Int)) (wv wl : List (Int × Int)) (no : Int) (b : Bool) (w : World) (h : HoldsC w v vs ls) (hx : Holds w x m) (hw : HoldsC w u wv wl) (hm : vs.length + ls.length + m.length ≤ 1000) (hb : isC (ctxP (validC vs ls && okL m) (addC vs ls m)) wv wl no = b) :
    Calls Try.prog 31 #[v, x, u, .int .i64 no] w fun e w' => e = .returned (.bool b) ∧ Below w.heap.size w w' := by
  obtain ⟨A, n, B, k, rfl, h1, h2⟩ := h
  obtain ⟨Aw, nw, Bw, kw, rfl, h1w, h2w⟩ := hw
  have K := ((((((((KX.nil w).push hx).push h1).push h2).push h1w).push h2w).box (.slice A vs.length n) (.slice B ls.length k) 25).box (.slice Aw wv.length nw) (.slice Bw wl.length kw) 25)
  simp only [World.size_alloc] at K
  have K := Lib.hid K
  clear h1 h2 h1w h2w hx
  obtain ⟨us, rs, hp⟩ : ∃ us rs, (addC vs ls m) = (us, rs) := ⟨_, _, rfl⟩
  obtain ⟨us2, rs2, er, hq⟩ : ∃ us2 rs2 er, ctxP (validC vs ls && okL m) (us, rs) = ((us2, rs2), er) := ⟨_, _, _, rfl⟩
  have HC := ctxAdd (.agg #[.slice A vs.length n, .slice B ls.length k]) x vs ls m _ (HoldsC.mk (K.out.h (v := .slice A vs.length n) (xs := vs) (by simp)) (K.out.h (v := .slice B ls.length k) (xs := ls) (by simp))) (K.out.h (v := x) (xs := m) (by simp)) hm
  rw [hp] at HC hb
  rw [hq] at hb
  have HC := Lib.hid (HC.mono fun e w' h => h.tup hq)
  have HB := Lib.hid hb
  clear hp hq hb
  go_enter Try.func31, Try.ntmps31
  go_wp2_with fail
  refine HC.out.mono ?_
  rintro e w1 ⟨⟨A5, n5, B5, m5, rfl, hx5, hy5⟩, hb1⟩
  have K1 := Lib.hid ((((K.out.below hb1).push hx5.holds).push hy5.holds).alloc (.cells #[.slice A5 us2.length n5, .slice B5 rs2.length m5] 25))
  have k0 := K1.out.cell (a := ⟨w.heap.size + 1, 0, none⟩) (v := .slice Aw wv.length nw) (by simp)
  have k1 := K1.out.cell (a := ⟨w.heap.size + 1, 1, none⟩) (v := .slice Bw wl.length kw) (by simp)
  clear hb1 hx5 hy5
  go_wp2_with fail
  refine (law3Gives _ _ us2 rs2 wv wl er no b _ (HoldsC.mk (K1.out.h (v := .slice A5 us2.length n5) (xs := us2) (by simp)) (K1.out.h (v := .slice B5 rs2.length m5) (xs := rs2) (by simp))) (HoldsC.mk (K1.out.h (v := .slice Aw wv.length nw) (xs := wv) (by simp)) (K1.out.h (v := .slice Bw wl.length kw) (xs := wl) (by simp))) HB.out).mono ?_
  rintro e w2 ⟨rfl, hb1⟩
  have K2 := Lib.hid (K1.out.below hb1)
  clear hb1 k0 k1
  go_wp2
  go_ret
  exact ⟨rfl, K2.out.bel⟩

set_option maxRecDepth 100000 in
set_option maxHeartbeats 2000000 in
theorem law3United (v vz u : Value) (vs ls vsz lsz : List (Int × Int)) (wv wl : List (Int × Int)) (no : Int) (b : Bool) (w : World) (h : HoldsC w v vs ls) (hz : HoldsC w vz vsz lsz) (hw : HoldsC w u wv wl) (hm : vs.length + ls.length + (vsz.length + lsz.length) ≤ 1000) (hb : isC (ctxP (validC vs ls && validC vsz lsz) (unionC vs ls vsz lsz)) wv wl no = b) :
    Calls Try.prog 33 #[v, vz, u, .int .i64 no] w fun e w' => e = .returned (.bool b) ∧ Below w.heap.size w w' := by
  obtain ⟨A, n, B, k, rfl, h1, h2⟩ := h
  obtain ⟨Az, nz, Bz, kz, rfl, h1z, h2z⟩ := hz
  obtain ⟨Aw, nw, Bw, kw, rfl, h1w, h2w⟩ := hw
  have K := ((((((((((KX.nil w).push h1).push h2).push h1z).push h2z).push h1w).push h2w).box (.slice A vs.length n) (.slice B ls.length k) 25).box (.slice Az vsz.length nz) (.slice Bz lsz.length kz) 25).box (.slice Aw wv.length nw) (.slice Bw wl.length kw) 25)
  simp only [World.size_alloc] at K
  have K := Lib.hid K
  clear h1 h2 h1z h2z h1w h2w
  obtain ⟨us, rs, hp⟩ : ∃ us rs, (unionC vs ls vsz lsz) = (us, rs) := ⟨_, _, rfl⟩
  obtain ⟨us2, rs2, er, hq⟩ : ∃ us2 rs2 er, ctxP (validC vs ls && validC vsz lsz) (us, rs) = ((us2, rs2), er) := ⟨_, _, _, rfl⟩
  have HC := ctxUnion (.agg #[.slice A vs.length n, .slice B ls.length k]) (.agg #[.slice Az vsz.length nz, .slice Bz lsz.length kz]) vs ls vsz lsz _ (HoldsC.mk (K.out.h (v := .slice A vs.length n) (xs := vs) (by simp)) (K.out.h (v := .slice B ls.length k) (xs := ls) (by simp))) (HoldsC.mk (K.out.h (v := .slice Az vsz.length nz) (xs := vsz) (by simp)) (K.out.h (v := .slice Bz lsz.length kz) (xs := lsz) (by simp))) hm
  rw [hp] at HC hb
  rw [hq] at hb
  have HC := Lib.hid (HC.mono fun e w' h => h.tup hq)
  have HB := Lib.hid hb
  clear hp hq hb
  go_enter Try.func33, Try.ntmps33
  go_wp2_with fail
  refine HC.out.mono ?_
  rintro e w1 ⟨⟨A5, n5, B5, m5, rfl, hx5, hy5⟩, hb1⟩
  have K1 := Lib.hid ((((K.out.below hb1).push hx5.holds).push hy5.holds).alloc (.cells #[.slice A5 us2.length n5, .slice B5 rs2.length m5] 25))
  have k0 := K1.out.cell (a := ⟨w.heap.size + 1 + 1, 0, none⟩) (v := .slice Aw wv.length nw) (by simp)
  have k1 := K1.out.cell (a := ⟨w.heap.size + 1 + 1, 1, none⟩) (v := .slice Bw wl.length kw) (by simp)
  clear hb1 hx5 hy5
  go_wp2_with fail
  refine (law3Gives _ _ us2 rs2 wv wl er no b _ (HoldsC.mk (K1.out.h (v := .slice A5 us2.length n5) (xs := us2) (by simp)) (K1.out.h (v := .slice B5 rs2.length m5) (xs := rs2) (by simp))) (HoldsC.mk (K1.out.h (v := .slice Aw wv.length nw) (xs := wv) (by simp)) (K1.out.h (v := .slice Bw wl.length kw) (xs := wl) (by simp))) HB.out).mono ?_
  rintro e w2 ⟨rfl, hb1⟩
  have K2 := Lib.hid (K1.out.below hb1)
  clear hb1 k0 k1
  go_wp2
  go_ret
  exact ⟨rfl, K2.out.bel⟩


/-- What Within returns, as a result and an error. -/
def withP (ok b : Bool) : Bool × Int := if ok then (b, 0) else (false, 2)
theorem WithR.tup {ok b : Bool} {e : Ending} (h : WithR ok b e) {b' : Bool} {n : Int} (hp : withP ok b = (b', n)) : e = .returned (.tuple #[.bool b', .int .i64 n]) := by
  cases ok with
  | true => cases (show (b, (0 : Int)) = (b', n) from hp); exact h.1 rfl
  | false => cases (show (false, (2 : Int)) = (b', n) from hp); exact h.2 rfl

set_option maxRecDepth 100000 in
set_option maxHeartbeats 2000000 in
theorem law3Within (v v1 : Value) (vs ls vsz lsz : List (Int × Int)) (want : Bool) (no : Int) (b : Bool) (w : World) (h : HoldsC w v vs ls) (hz : HoldsC w v1 vsz lsz) (hm : vs.length + ls.length + (vsz.length + lsz.length) ≤ 1000)
    (hb : (((withP (validC vs ls && validC vsz lsz) (withinC vs ls vsz lsz)).1 == want) && ((withP (validC vs ls && validC vsz lsz) (withinC vs ls vsz lsz)).2 == no)) = b) :
    Calls Try.prog 34 #[v, v1, .bool want, .int .i64 no] w fun e w' => e = .returned (.bool b) ∧ Below w.heap.size w w' := by
  obtain ⟨A, n, B, k, rfl, h1, h2⟩ := h
  obtain ⟨A1, n1, B1, k1, rfl, h11, h21⟩ := hz
  have K := ((((((KX.nil w).push h1).push h2).push h11).push h21).box (.slice A vs.length n) (.slice B ls.length k) 25).box (.slice A1 vsz.length n1) (.slice B1 lsz.length k1) 25
  simp only [World.size_alloc] at K
  have K := Lib.hid K
  clear h1 h2 h11 h21
  have HC := ctxWithin (.agg #[.slice A vs.length n, .slice B ls.length k]) (.agg #[.slice A1 vsz.length n1, .slice B1 lsz.length k1]) vs ls vsz lsz _ _ (HoldsC.mk (K.out.h (v := .slice A vs.length n) (xs := vs) (by simp)) (K.out.h (v := .slice B ls.length k) (xs := ls) (by simp)))
    (HoldsC.mk (K.out.h (v := .slice A1 vsz.length n1) (xs := vsz) (by simp)) (K.out.h (v := .slice B1 lsz.length k1) (xs := lsz) (by simp))) hm rfl
  obtain ⟨b', er, hq⟩ : ∃ b' er, withP (validC vs ls && validC vsz lsz) (withinC vs ls vsz lsz) = (b', er) := ⟨_, _, rfl⟩
  rw [hq] at hb
  have HC := Lib.hid (HC.mono fun e w' h => (⟨h.1.tup hq, h.2⟩ : e = .returned (.tuple #[.bool b', .int .i64 er]) ∧ _))
  have HB := Lib.hid hb
  clear hq hb
  cases e1 : (b' == want) with
  | false =>
    have HB2 := Lib.hid (show false = b by rw [← HB.out]; simp only [e1, Bool.false_and])
    have hne : (b' == want) = false := e1
    clear e1
    go_enter Try.func34, Try.ntmps34
    go_wp2_with fail
    refine HC.out.mono ?_
    rintro e w1 ⟨rfl, hb1⟩
    have K1 := Lib.hid (K.out.below hb1)
    clear hb1
    cases b' <;> cases want <;> first | (simp at hne; done) | skip
    all_goals
      go_wp2
      go_ret
      exact ⟨ret_bool HB2.out, K1.out.bel⟩
  | true =>
    have HB1 : (er == no) = b := by rw [← HB.out]; simp only [e1, Bool.true_and]
    obtain rfl : b' = want := by simpa using e1
    cases e2 : (er == no)
    all_goals
      rw [e2] at HB1
      have HB2 := Lib.hid HB1
      clear e1 HB1
      go_enter Try.func34, Try.ntmps34
      go_wp2_with fail
      refine HC.out.mono ?_
      rintro e w1 ⟨rfl, hb1⟩
      have K1 := Lib.hid (K.out.below hb1)
      clear hb1
      cases b'
      all_goals
        go_wp2
        go_ret
        exact ⟨ret_bool HB2.out, K1.out.bel⟩

end Go.Proofs.Ytibnlifdeknicaa
