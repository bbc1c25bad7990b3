/- Several texts in one: DecF, CanB. -/
import Derived.Test.YtpnemekkpifbaaaGreatMAP
import Derived.Test.YtpnemekkpifbaaaGreatMAO
namespace Go.Proofs.YtpnemekkpifbaaaGreat

section
open Go.RowKit

/-- The context, valid or not, that all bytes are written like. -/
def ctxR (xs : List UInt8) : Option (List (Int × Int) × List (Int × Int)) := match pX xs with
  | some (x, z) => if z = xs.length then some x else none
  | none => none
theorem st_at0 {α : Type} (p : Ps α) (xs : List UInt8) : st p xs (some 0) = p xs := by
  show (p (xs.drop 0)).map _ = _
  rw [List.drop_zero]
  cases p xs with
  | none => rfl
  | some a => simp
/-- Dots of a context in rows of the call's own. -/
def RowX (W : World) (B : Nat) (D E : Option Addr) (d k : Nat) (vs ls : List (Int × Int)) : Prop :=
  W.ownsRow B 52 2 (.slice D vs.length d) vs.length (cellsOf encD vs) ∧ W.ownsRow B 52 2 (.slice E ls.length k) ls.length (cellsOf encD ls)
theorem RowX.chg {W W' : World} {B : Nat} {D E : Option Addr} {d k : Nat} {vs ls : List (Int × Int)} {S : Nat → Prop} (h : RowX W B D E d k vs ls) (hc : Chg S W W') (hn : ∀ b, B ≤ b → ¬ S b) : RowX W' B D E d k vs ls := ⟨own_chg h.1 hc hn, own_chg h.2 hc hn⟩
theorem RowX.le {W : World} {B B' : Nat} {D E : Option Addr} {d k : Nat} {vs ls : List (Int × Int)} (h : RowX W B D E d k vs ls) (hB : B' ≤ B) : RowX W B' D E d k vs ls := ⟨Go.Joins.ownsRow_le h.1 hB, Go.Joins.ownsRow_le h.2 hB⟩
theorem RowX.nil (W : World) (B : Nat) : RowX W B none none 0 0 [] [] := ⟨World.ownsRow_nil _ _ _ _, World.ownsRow_nil _ _ _ _⟩
def CtxQ (xs : List UInt8) (w : World) (e : Ending) (w' : World) : Prop :=
  (∃ (vs ls : List (Int × Int)) (D E : Option Addr) (d k : Nat) (b : Bool), e = .returned (.tuple #[.agg #[.slice D vs.length d, .slice E ls.length k], .bool b]) ∧ RowX w' w.heap.size D E d k vs ls ∧ vs.length ≤ xs.length + 1 ∧ ls.length ≤ xs.length + 1 ∧ (ctxR xs = if b then some (vs, ls) else none) ∧ (b = false → vs = [] ∧ ls = [])) ∧ Below w.heap.size w w'

theorem below_step {B : Nat} {w w2 w3 : World} (h : Below B w w2) (k : Below B w2 w3) : Below B w w3 := ⟨k.os.trans h.os, k.tape.trans h.tape, k.output.trans h.output, Nat.le_trans h.size k.size, fun i hi => (k.block i hi).trans (h.block i hi)⟩
theorem bytesAt_of15 {w : World} {A : Option Addr} {n k : Nat} {xs : List UInt8} (h : HoldsB w (.slice A n k) xs) : BytesAt w A xs := by
  obtain ⟨A', c', e, h1, _⟩ := h
  cases e; exact h1
theorem caps_of15 {w : World} {A : Option Addr} {n k : Nat} {xs : List UInt8} (h : HoldsB w (.slice A n k) xs) : xs.length ≤ k ∧ k ≤ maxLen := by
  obtain ⟨A', c', e, _, h1, h2⟩ := h
  cases e; exact ⟨h1, h2⟩
set_option maxRecDepth 100000 in
set_option maxHeartbeats 4000000 in
theorem refContext15 (A : Option Addr) (xs : List UInt8) (n : Nat) (w : World) (hx : HoldsB w (.slice A xs.length n) xs) (hm : xs.length ≤ 1000000) :
    Calls Tryz.prog 22 #[.slice A xs.length n] w (CtxQ xs w) := by
  have hrow := bytesAt_of15 hx
  have hcap := caps_of15 hx
  have h1 : Below w.heap.size w (w.alloc (.cells #[.slice none 0 0, .slice none 0 0] 28)) := (Below.refl _ _).alloc (Nat.le_refl _) _
  have h2 : Below w.heap.size w ((w.alloc (.cells #[.slice none 0 0, .slice none 0 0] 28)).alloc (.cells #[.slice A xs.length n, .int .i64 0, .bool false] 83)) := h1.alloc h1.size _
  have hn0 : ((w.alloc (.cells #[.slice none 0 0, .slice none 0 0] 28)).alloc (.cells #[.slice A xs.length n, .int .i64 0, .bool false] 83)).heap[w.heap.size]? = some (.cells #[.slice none 0 0, .slice none 0 0] 28 (0, 0)) := by
    refine (((Below.refl _ (w.alloc (.cells #[.slice none 0 0, .slice none 0 0] 28))).alloc (Nat.le_refl _) _).block _ ?_).trans (heap_alloc_new w _)
    simp
  have hn1 : ((w.alloc (.cells #[.slice none 0 0, .slice none 0 0] 28)).alloc (.cells #[.slice A xs.length n, .int .i64 0, .bool false] 83)).heap[w.heap.size + 1]? = some (.cells #[.slice A xs.length n, .int .i64 0, .bool false] 83 (0, 0)) := by
    have := heap_alloc_new (w.alloc (.cells #[.slice none 0 0, .slice none 0 0] 28)) (.cells #[.slice A xs.length n, .int .i64 0, .bool false] 83)
    simpa using this
  have HI := Lib.hid (show In15 ((w.alloc (.cells #[.slice none 0 0, .slice none 0 0] 28)).alloc (.cells #[.slice A xs.length n, .int .i64 0, .bool false] 83)) (w.heap.size + 1) A n xs (some 0) from
    ⟨⟨0, false, hn1, Nat.zero_le _, rfl⟩, ⟨w, hrow, by omega, h2⟩, hm, hcap.1, hcap.2⟩)
  have HC := Lib.hid (refContextIn15 (w.heap.size + 1) A n xs (some 0) _ HI.out)
  have HB2 := Lib.hid h2
  have HN0 := Lib.hid hn0
  clear hx hrow h1 h2 hn0 hn1
  go_enter Tryz.func22, Tryz.ntmps22
  go_wp2_with fail
  have HSZ := Lib.hid (show ((w.alloc (.cells #[.slice none 0 0, .slice none 0 0] 28)).alloc (.cells #[.slice A xs.length n, .int .i64 0, .bool false] 83)).heap.size = w.heap.size + 2 from by simp)
  generalize World.alloc (World.alloc w _) _ = w2 at *
  refine HC.out.mono ?_
  rintro e w3 ⟨⟨vs, ls, D, E, d, k, rfl, ho1, ho2, hv, hl, hs⟩, h3, hc3⟩
  have HX3 := Lib.hid (show RowX w3 w2.heap.size D E d k vs ls from ⟨ho1, ho2⟩)
  have HSZ3 := Lib.hid (show w.heap.size + 2 ≤ w3.heap.size from by have := hc3.size; have := HSZ.out; omega)
  have HN3 := Lib.hid (show w3.heap[w.heap.size]? = some (.cells #[.slice none 0 0, .slice none 0 0] 28 (0, 0)) from (hc3.block _ (by have := HSZ.out; omega) (by omega)).trans HN0.out)
  have HI3 := Lib.hid h3
  have HB3 := Lib.hid (show Below w.heap.size w w3 from below_step HB2.out (hc3.below (B := w.heap.size) (by have := HSZ.out; omega) fun j e => by omega))
  have HV := Lib.hid hv
  have HL := Lib.hid hl
  have HS := Lib.hid hs
  have hal : Below w3.heap.size w3 (w3.alloc (.cells #[.slice D vs.length d, .slice E ls.length k] 28)) := (Below.refl _ _).alloc (Nat.le_refl _) _
  have hnew : (w3.alloc (.cells #[.slice D vs.length d, .slice E ls.length k] 28)).heap[w3.heap.size]? = some (.cells #[.slice D vs.length d, .slice E ls.length k] 28 (0, 0)) := heap_alloc_new w3 _
  have HAL := Lib.hid hal
  have HNEW := Lib.hid hnew
  clear ho1 ho2 hv hl hs h3 hc3 HC HI hal hnew
  have HB4 := Lib.hid (show Below w.heap.size w (w3.alloc (.cells #[.slice D vs.length d, .slice E ls.length k] 28)) from HB3.out.alloc (by have := HSZ3.out; omega) _)
  have HN4 := Lib.hid (show (w3.alloc (.cells #[.slice D vs.length d, .slice E ls.length k] 28)).heap[w.heap.size]? = some (.cells #[.slice none 0 0, .slice none 0 0] 28 (0, 0)) from (HAL.out.block _ (by have := HSZ3.out; omega)).trans HN3.out)
  have HI4 := Lib.hid (HI3.out.below HAL.out)
  have HX4 := Lib.hid (HX3.out.chg (.of_below (S := fun _ => False) HAL.out) fun _ _ e => e)
  have HSZ4 := Lib.hid (show w3.heap.size < (w3.alloc (.cells #[.slice D vs.length d, .slice E ls.length k] 28)).heap.size from by simp)
  have e0 := HI4.out
  generalize hw4 : World.alloc w3 _ = w4 at HB4 HN4 HI4 HX4 HNEW HSZ4
  clear e0 HI3 HX3 HN3 HAL HB2 HN0
  have c0 := cellW (i := 0) HN4.out
  have c1 := cellW (i := 1) HN4.out
  have f0 := frozenW (i := 0) HN4.out
  have f1 := frozenW (i := 1) HN4.out
  have m0 := cellW (i := 0) HNEW.out
  have m1 := cellW (i := 1) HNEW.out
  have FBAD := Lib.hid (show ctxR xs = none → CtxQ xs w (.returned (.tuple #[.agg #[.slice none 0 0, .slice none 0 0], .bool false])) ((w4.setCell ⟨w.heap.size, 0, none⟩ (.slice none 0 0)).setCell ⟨w.heap.size, 1, none⟩ (.slice none 0 0)) from fun e =>
    ⟨⟨[], [], none, none, 0, 0, false, rfl, RowX.nil _ _, by simp, by simp, e, fun _ => ⟨rfl, rfl⟩⟩, below_set (below_set HB4.out (Nat.le_refl _) _ _) (Nat.le_refl _) _ _⟩)
  have FOK := Lib.hid (show ctxR xs = some (vs, ls) → CtxQ xs w (.returned (.tuple #[.agg #[.slice D vs.length d, .slice E ls.length k], .bool true])) ((w4.setCell ⟨w.heap.size, 0, none⟩ (.slice D vs.length d)).setCell ⟨w.heap.size, 1, none⟩ (.slice E ls.length k)) from fun e =>
    ⟨⟨vs, ls, D, E, d, k, true, rfl, ((HX4.out.chg (chg_set _ _ _ _) fun b hb e => by have := HSZ.out; omega).chg (chg_set _ _ _ _) fun b hb e => by have := HSZ.out; omega).le (by have := HSZ.out; omega), HV.out, HL.out, e, fun h => by cases h⟩, below_set (below_set HB4.out (Nat.le_refl _) _ _) (Nat.le_refl _) _ _⟩)
  have sb0 := cellW (i := 0) (set2 (x := .slice none 0 0) (y := .slice none 0 0) HN4.out)
  have sb1 := cellW (i := 1) (set2 (x := .slice none 0 0) (y := .slice none 0 0) HN4.out)
  have so0 := cellW (i := 0) (set2 (x := .slice D vs.length d) (y := .slice E ls.length k) HN4.out)
  have so1 := cellW (i := 1) (set2 (x := .slice D vs.length d) (y := .slice E ls.length k) HN4.out)
  have hnx : nx pX xs (some 0) = (pX xs).map Prod.snd := by rw [nx_st, st_at0]
  have HS0 := Lib.hid (show ∀ a j, pX xs = some (a, j) → (vs, ls) = a from fun a j e => HS.out a j (by rw [st_at0]; exact e))
  rw [hnx] at HI4
  clear hnx HS HX4 HB4 HNEW HSZ4 HSZ HSZ3
  cases hp : pX xs with
  | none =>
    have hr : ctxR xs = none := by unfold ctxR; rw [hp]
    rw [hp] at HI4
    obtain ⟨i, h1, _⟩ := HI4.out.bad
    have g2 := cellW (i := 2) h1
    have HF := Lib.hid (FBAD.out hr)
    clear h1 FBAD FOK hr HI4 HS0 hp so0 so1
    go_wp2_with fail
    exact bodyPost_ret (v := .tuple #[.agg #[.slice none 0 0, .slice none 0 0], .bool false]) (by simp [results, Tryz.results22, go_sem, sb0, sb1]) rfl HF.out
  | some v =>
    rw [hp] at HI4
    obtain ⟨h1, hle⟩ := (show In15 w4 (w.heap.size + 1) A n xs (some v.2) from HI4.out).good
    have g1 := cellW (i := 1) h1
    have g2 := cellW (i := 2) h1
    by_cases hz : v.2 = xs.length
    · have hr : ctxR xs = some (vs, ls) := by unfold ctxR; rw [hp]; show (if v.2 = xs.length then some v.1 else none) = _; rw [if_pos hz, HS0.out v.1 v.2 hp]
      have HF := Lib.hid (FOK.out hr)
      have i0 : ((v.2 : Int) != (xs.length : Int)) = false := by simp; omega
      clear h1 FBAD FOK hr HI4 HS0 hp sb0 sb1 hz
      generalize v.2 = z at *
      go_wp2_with fail
      exact bodyPost_ret (v := .tuple #[.agg #[.slice D vs.length d, .slice E ls.length k], .bool true]) (by simp [results, Tryz.results22, go_sem, so0, so1]) rfl HF.out
    · have hr : ctxR xs = none := by unfold ctxR; rw [hp]; show (if v.2 = xs.length then some v.1 else none) = _; rw [if_neg hz]
      have HF := Lib.hid (FBAD.out hr)
      have i0 : ((v.2 : Int) != (xs.length : Int)) = true := by simp; omega
      clear h1 FBAD FOK hr HI4 HS0 hp so0 so1 hz
      generalize v.2 = z at *
      go_wp2_with fail
      exact bodyPost_ret (v := .tuple #[.agg #[.slice none 0 0, .slice none 0 0], .bool false]) (by simp [results, Tryz.results22, go_sem, sb0, sb1]) rfl HF.out

end

section
open Go.RowKit

theorem row_neB {W : World} {B g : Nat} {t : TypeId} {v : Value} {xs : List UInt8} {cur : Array Value} {z : Nat × Nat} (h : RowB W B v xs) (hg : W.heap[g]? = some (.cells cur t z)) (ht : t ≠ 5) : v.ownBlock ≠ some g := by
  rcases h.2 with ⟨rfl, _⟩ | ⟨g', cap, cur', rfl, _, hg', _⟩
  · simp [Value.ownBlock]
  · intro e1
    have e2 : g' = g := by simpa [Value.ownBlock] using e1
    subst e2
    rw [hg] at hg'
    injection hg' with h1
    injection h1 with _ h2 _
    exact ht h2
/-- A box that is no row's stays. -/
theorem Chg.box {S : Nat → Prop} {W W' : World} {g : Nat} {o : Obj} (h : Chg S W W') (hg : W.heap[g]? = some o) (hn : ¬ S g) : W'.heap[g]? = some o := (h.block g (Array.getElem?_eq_some_iff.1 hg).1 hn).trans hg
/-- Short enough. -/
def LenB (c : Ca) : Prop := c.1.1.length ≤ 1000 ∧ c.1.2.length ≤ 1000 ∧ c.2.length ≤ 1000 ∧ ∀ x ∈ c.2, x.1.length ≤ 1000 ∧ x.2.length ≤ 1000 ∧ ∀ m ∈ x.2, m.t < 18446744073709551616
theorem byL_1000 {l : List (Int × Int)} (h : l.length ≤ 1000) : (byL byD l).length ≤ 20010 := by
  have := byL_le (f := byD) (k := 20) (n := 1000) (fun d _ => byD_le d) h (by decide)
  omega
theorem byX_len {c : List (Int × Int) × List (Int × Int)} (h1 : c.1.length ≤ 1000) (h2 : c.2.length ≤ 1000) : (byX c).length ≤ 40020 := by
  unfold byX
  rw [List.length_append]
  have := byL_1000 h1
  have := byL_1000 h2
  omega
theorem byI_len {x : It} (h1 : x.1.length ≤ 1000) (h2 : x.2.length ≤ 1000) (h3 : ∀ m ∈ x.2, m.t < 18446744073709551616) : (byI x).length ≤ 41020 := by
  unfold byI
  rw [List.length_append]
  have a1 := byS_le h1 (by decide)
  have a2 := byL_le (f := byM) (k := 40) (n := 1000) (fun m hm => byM_le (h3 m hm)) h2 (by decide)
  omega

/-- The region in which a context is written. -/
def ctxX (E W0 : World) (xs ys : List UInt8) (g : Nat) (A B : Option Addr) (vn n ln k : Nat) : Rb where
  E := E
  W0 := W0
  n := 10
  D := .slice none 0 0
  acc := []
  m := none
  s := 0
  rows := [⟨2, 5, xs, some 6⟩, ⟨5, 8, ys, none⟩, ⟨6, 9, xs ++ ys, some 7⟩, ⟨7, 2, xs ++ ys, none⟩]
  known := fun
    | 0 => some (.pointer (some ⟨g, 0, none⟩))
    | 1 => some (.slice A vn n)
    | 3 => some (.pointer (some ⟨g, 1, none⟩))
    | 4 => some (.slice B ln k)
    | _ => none

set_option maxRecDepth 100000 in
set_option maxHeartbeats 1000000 in
theorem refContext14 (A B : Option Addr) (vs ls : List (Int × Int)) (n k : Nat) (w : World) (h1 : DotsAt w A vs) (h2 : DotsAt w B ls) (m1 : vs.length ≤ 1000) (m2 : ls.length ≤ 1000) :
    Calls Tryz.prog 12 #[.agg #[.slice A vs.length n, .slice B ls.length k]] w (MadeB (byX (vs, ls)) w) := by
  have hb0 : Below w.heap.size w (w.alloc (.cells #[.slice A vs.length n, .slice B ls.length k] 28)) := (Below.refl _ w).alloc (Nat.le_refl _) _
  have HB0 := Lib.hid hb0
  have H1 := Lib.hid (h1.below hb0)
  have H2 := Lib.hid (h2.below hb0)
  have HM := Lib.hid (And.intro m1 m2)
  have hbx : (w.alloc (.cells #[.slice A vs.length n, .slice B ls.length k] 28)).heap[w.heap.size]? = some (.cells #[.slice A vs.length n, .slice B ls.length k] 28 (0, 0)) := heap_alloc_new w _
  have HBOX := Lib.hid fun (W : World) (hW : Below (w.alloc (.cells #[.slice A vs.length n, .slice B ls.length k] 28)).heap.size (w.alloc (.cells #[.slice A vs.length n, .slice B ls.length k] 28)) W) => (show W.cell? ⟨w.heap.size, 0, none⟩ = some (.slice A vs.length n) ∧ W.cell? ⟨w.heap.size, 1, none⟩ = some (.slice B ls.length k) from by
    have h : W.heap[w.heap.size]? = some (.cells #[.slice A vs.length n, .slice B ls.length k] 28 (0, 0)) := (hW.block _ (by simp)).trans hbx
    exact ⟨by simp [World.cell?, h], by simp [World.cell?, h]⟩)
  obtain ⟨xs, hxs⟩ : ∃ xs, byL byD vs = xs := ⟨_, rfl⟩
  obtain ⟨ys, hys⟩ : ∃ ys, byL byD ls = ys := ⟨_, rfl⟩
  have HE := Lib.hid (show byX (vs, ls) = xs ++ ys from by rw [← hxs, ← hys]; rfl)
  have HL1 := Lib.hid (byL_1000 m1)
  have HL2 := Lib.hid (byL_1000 m2)
  have HD1 := Lib.hid fun (W : World) (hW : Below (w.alloc (.cells #[.slice A vs.length n, .slice B ls.length k] 28)).heap.size (w.alloc (.cells #[.slice A vs.length n, .slice B ls.length k] 28)) W) => refDots14 A vs n W (H1.out.below hW) m1
  have HD2 := Lib.hid fun (W : World) (hW : Below (w.alloc (.cells #[.slice A vs.length n, .slice B ls.length k] 28)).heap.size (w.alloc (.cells #[.slice A vs.length n, .slice B ls.length k] 28)) W) => refDots14 B ls k W (H2.out.below hW) m2
  rw [hxs] at HD1 HL1
  rw [hys] at HD2 HL2
  clear h1 h2 hb0 hbx m1 m2 hxs hys H1 H2 HM
  go_enter Tryz.func12, Tryz.ntmps12
  go_upto_region 1 with fail
  generalize w.alloc (.cells #[.slice A vs.length n, .slice B ls.length k] 28) = w1 at HB0 HD1 HD2 HBOX ⊢
  have HINJ := Lib.hid (show ∀ q ∈ (ctxX w1 w1 xs ys w.heap.size A B vs.length n ls.length k).rows, ∀ q' ∈ (ctxX w1 w1 xs ys w.heap.size A B vs.length n ls.length k).rows, q.j = q'.j → q = q' from inj_of (show ([2, 5, 6, 7] : List Nat).Nodup from by decide))
  refine wp_region_T (S := Rb.S (ctxX w1 w1 xs ys w.heap.size A B vs.length n ls.length k)) (by kernel_rfl) (by kernel_rfl) (by kernel_rfl) (dst_small (n := 10) (by kernel_rfl)) (Rb.G.start (Below.refl _ _) rfl (by rfl) (fun _ h => by cases h)) ?_ ?_
  · refine ⟨?_, ?_, ?_, ?_, ?_, ?_, ?_, ?_, trivial⟩
    · refine stepPure rfl rfl (by kernel_rfl) (by kernel_rfl) (by kernel_rfl) (by kernel_rfl) fun L a W hI hk hd => ?_
      have e1 : a.tmps[1]?.getD undef = .pointer (some ⟨w.heap.size, 0, none⟩) := hI.at 1 (by kernel_rfl)
      exact ⟨rfl, .pointer (some ⟨w.heap.size, 0, none⟩), by go_simp, fun u hu => Option.some.inj hu⟩
    · refine stepPure rfl rfl (by kernel_rfl) (by kernel_rfl) (by kernel_rfl) (by kernel_rfl) fun L a W hI hk hd => ?_
      have e3 := Rb.at hI 0 3 (hd 0 rfl) rfl rfl
      obtain ⟨c0, c1⟩ := HBOX.out W hI.glob.bel
      exact ⟨rfl, .slice A vs.length n, by go_simp, fun u hu => Option.some.inj hu⟩
    · refine stepCall (r0 := ⟨2, 5, xs, some 6⟩) HINJ.out (by simp [ctxX]) rfl rfl rfl rfl (by kernel_rfl) (show 5 < 10 from by decide) (by kernel_rfl) rfl fun L a W hI hk hd => ?_
      have e4 := Rb.at hI 1 4 (hd 1 rfl) rfl rfl
      exact ⟨rfl, 26, #[.slice A vs.length n], by go_simp, HD1.out W hI.glob.bel⟩
    · refine stepPure rfl rfl (by kernel_rfl) (by kernel_rfl) (by kernel_rfl) (by kernel_rfl) fun L a W hI hk hd => ?_
      have e1 : a.tmps[1]?.getD undef = .pointer (some ⟨w.heap.size, 0, none⟩) := hI.at 1 (by kernel_rfl)
      exact ⟨rfl, .pointer (some ⟨w.heap.size, 1, none⟩), by go_simp, fun u hu => Option.some.inj hu⟩
    · refine stepPure rfl rfl (by kernel_rfl) (by kernel_rfl) (by kernel_rfl) (by kernel_rfl) fun L a W hI hk hd => ?_
      have e6 := Rb.at hI 3 6 (hd 3 rfl) rfl rfl
      obtain ⟨c0, c1⟩ := HBOX.out W hI.glob.bel
      exact ⟨rfl, .slice B ls.length k, by go_simp, fun u hu => Option.some.inj hu⟩
    · refine stepCall (r0 := ⟨5, 8, ys, none⟩) HINJ.out (by simp [ctxX]) rfl rfl rfl rfl (by kernel_rfl) (show 8 < 10 from by decide) (by kernel_rfl) rfl fun L a W hI hk hd => ?_
      have e7 := Rb.at hI 4 7 (hd 4 rfl) rfl rfl
      exact ⟨rfl, 26, #[.slice B ls.length k], by go_simp, HD2.out W hI.glob.bel⟩
    · refine stepApp (r0 := ⟨6, 9, xs ++ ys, some 7⟩) (r1 := ⟨2, 5, xs, some 6⟩) (r2 := ⟨5, 8, ys, none⟩) HINJ.out (by simp [ctxX]) rfl rfl (by simp [ctxX]) rfl (show (2 : Nat) ≠ 6 from by decide) (by simp [ctxX]) rfl (show (5 : Nat) ≠ 6 from by decide) (show (2 : Nat) ≠ 5 from by decide) rfl (by have := HL1.out; have := HL2.out; dsimp only; omega) rfl rfl (by kernel_rfl) (show 9 < 10 from by decide) (by kernel_rfl) rfl rfl rfl rfl fun a W u v w9 W9 h1 h2 h3 => ?_
      have h1 : a.eval (.tmp 5) = u := h1
      have h2 : a.eval (.tmp 8) = v := h2
      unfold execOp
      simp only [resolve, invoke, builtin, Sem.run_bind, Sem.run_pure, Result.andThen_ok, List.map_toArray, List.map_cons, List.map_nil, h1, h2, h3]
    · exact stepPass (r0 := ⟨7, 2, xs ++ ys, none⟩) (r1 := ⟨6, 9, xs ++ ys, some 7⟩) HINJ.out (by simp [ctxX]) rfl rfl (by simp [ctxX]) rfl (show (6 : Nat) ≠ 7 from by decide) rfl rfl rfl (by kernel_rfl) (show 2 < 10 from by decide) (fun m h => by cases h) rfl rfl rfl rfl
  · intro a W L hL hI
    have g := hI.glob
    have hr := g.row ⟨7, 2, xs ++ ys, none⟩ (by simp [ctxX]) ⟨hL 7 (by decide), fun _ h => (by cases h)⟩
    have hbe : Below w1.heap.size w1 W := g.bel
    have HR2 := Lib.hid (show RowB W w.heap.size (a.eval (.tmp 2)) (xs ++ ys) from Go.Joins.ownsRow_le hr HB0.out.size)
    have HBW := Lib.hid (below_trans HB0.out hbe)
    rw [hI.frame]
    simp only [List.filterMap, List.foldl]
    clear hr hbe g hI hL
    generalize a.eval (.tmp 2) = v2 at HR2 ⊢
    generalize a.eval (.tmp 3) = v3
    generalize a.eval (.tmp 4) = v4
    generalize a.eval (.tmp 5) = v5
    generalize a.eval (.tmp 6) = v6
    generalize a.eval (.tmp 7) = v7
    generalize a.eval (.tmp 8) = v8
    generalize a.eval (.tmp 9) = v9
    obtain ⟨zs, hzs⟩ : ∃ zs, byX (vs, ls) = zs := ⟨_, rfl⟩
    have HZ := Lib.hid hzs
    rw [← HE.out, hzs] at HR2
    obtain ⟨D2, d2, rfl, _, _, _⟩ := SlAt.of_own encB_len HR2.out
    clear hzs
    go_wp2_with fail
    go_ret
    rw [HZ.out]
    have HG : ∀ v, v = Value.slice D2 zs.length d2 → MadeB zs w (.returned v) W := fun v hv => by subst hv; exact MadeB.of HR2.out HBW.out
    exact HG _ (by simp)

end

end Go.Proofs.YtpnemekkpifbaaaGreat
