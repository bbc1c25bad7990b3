/- Several texts in one: DecXB, DecXC, DecZ, DecU. -/
import Derived.Test.YtpnemekkpifbaaaGreatMBH
import Derived.Test.YtpnemekkpifbaaaGreatMBC
import Derived.Test.YtpnemekkpifbaaaGreatMAN
namespace Go.Proofs.YtpnemekkpifbaaaGreat

section
open Go.RowKit

def CntR (p : List UInt8) (w : World) (e : Ending) (w' : World) : Prop := OneB (.tuple #[.int .i64 ((cntC p).getD 0 : Nat), .int .i64 (errD (cntC p).isSome)]) w e w'
theorem nilZ (W : World) (B : Nat) : OwnC W B nilC := ⟨RowX.nil _ _, World.ownsRow_nil _ _ _ _, fun y hy => by cases hy⟩
theorem set1c {W : World} {b : Nat} {u x : Value} {t : TypeId} (h : W.heap[b]? = some (.cells #[u] t (0, 0))) : (W.setCell ⟨b, 0, none⟩ x).heap[b]? = some (.cells #[x] t (0, 0)) := by
  show (W.heap.modify b _)[b]? = _
  rw [Array.getElem?_modify, if_pos rfl, h]
  rfl
theorem OwnC.offE {W W' : World} {B b : Nat} {z : CaV} {cs : Array Value} (h : OwnC W B z) (hb : W.heap[b]? = some (.cells cs 40 (0, 0))) (hc : Chg (fun j => j = b) W W') : OwnC W' B z :=
  ⟨⟨own_off h.1.1 hb (by decide) hc, own_off h.1.2 hb (by decide) hc⟩, own_off h.2.1 hb (by decide) hc, fun y hy => own_off (h.2.2 y hy) hb (by decide) hc⟩
theorem rowX_two {W : World} {B d k : Nat} {D E : Option Addr} {vs ls : List (Int × Int)} (h : RowX W B D E d k vs ls) : Holds W (.slice D vs.length d) vs ∧ Holds W (.slice E ls.length k) ls := by
  obtain ⟨X1, X2, X3, X4, X5, X6⟩ := SlAt.of_own encD_len h.1
  obtain ⟨Y1, Y2, Y3, Y4, Y5, Y6⟩ := SlAt.of_own encD_len h.2
  exact ⟨⟨X1, X2, X3, X6, X4, X5⟩, ⟨Y1, Y2, Y3, Y6, Y4, Y5⟩⟩
theorem off_set {W : World} {b k i : Nat} {x : Value} {o : Obj} (h : W.heap[k]? = some o) (hk : k ≠ b) : (W.setCell ⟨b, i, none⟩ x).heap[k]? = some o := (Below.heap_setCell W ⟨b, i, none⟩ x k hk).trans h
theorem stays_at {w w' : World} (hb : Below w.heap.size w w') {b : Nat} {o : Obj} (h : w.heap[b]? = some o) : w'.heap[b]? = some o := (hb.block b (Array.getElem?_eq_some_iff.1 h).1).trans h

set_option maxRecDepth 100000 in
set_option maxHeartbeats 4000000 in
theorem dcCart (A : Option Addr) (xs : List UInt8) (n : Nat) (w : World) (hx : HoldsB w (.slice A xs.length n) xs) (h17 : xs.length ≤ 170000) :
    Calls Tryz.prog 16 #[.slice A xs.length n] w (CarR xs w) := by
  have hmf : ∀ (fn : Fn) (first cap : Array Value) (w : World), (Instr.makeFunc fn first cap).run Tryz.prog w = .ok (.func fn first cap) w := fun _ _ _ _ => rfl
  have h1 : Below w.heap.size w (w.alloc (.cells #[.slice none 0 0, .slice none 0 0, .slice none 0 0] 31)) := (Below.refl _ _).alloc (Nat.le_refl _) _
  have h2 : Below w.heap.size w ((w.alloc (.cells #[.slice none 0 0, .slice none 0 0, .slice none 0 0] 31)).alloc (.cells #[.int .i64 0] 40)) := h1.alloc h1.size _
  have HR0 := Lib.hid (show ((w.alloc (.cells #[.slice none 0 0, .slice none 0 0, .slice none 0 0] 31)).alloc (.cells #[.int .i64 0] 40)).heap[w.heap.size]? = some (.cells #[.slice none 0 0, .slice none 0 0, .slice none 0 0] 31 (0, 0)) from
    stays_at ((Below.refl _ (w.alloc (.cells #[.slice none 0 0, .slice none 0 0, .slice none 0 0] 31))).alloc (Nat.le_refl _) _) (heap_alloc_new w _))
  have HE0 := Lib.hid (show ((w.alloc (.cells #[.slice none 0 0, .slice none 0 0, .slice none 0 0] 31)).alloc (.cells #[.int .i64 0] 40)).heap[w.heap.size + 1]? = some (.cells #[.int .i64 0] 40 (0, 0)) from by
    have := heap_alloc_new (w.alloc (.cells #[.slice none 0 0, .slice none 0 0, .slice none 0 0] 31)) (.cells #[.int .i64 0] 40)
    simpa using this)
  have H1 := Lib.hid (allCart A xs n _ (hx.below h2) h17)
  have HAL := Lib.hid h2
  clear h1 h2 hx h17
  go_enter_defers Tryz.func16, Tryz.ntmps16
  go_wp2_with fail
  generalize World.alloc (World.alloc w _) _ = w0 at *
  refine H1.out.mono ?_
  rintro e w1 ⟨k1, k2, k3⟩
  have HB1 := Lib.hid (show Below w.heap.size w w1 from below_trans HAL.out (k3.mono (by omega)))
  have HR1 := Lib.hid (stays_at k3 HR0.out)
  have HE1 := Lib.hid (stays_at k3 HE0.out)
  have e0 := cellW (i := 0) HE1.out
  have f0 := frozenW (i := 0) HE1.out
  cases ho : decC xs with
  | none =>
    obtain rfl := k2 ho
    have hE2 := set1c (x := .int .i64 12) HE1.out
    have hR2 := off_set (b := w.heap.size + 1) (i := 0) (x := .int .i64 12) HR1.out (by omega)
    have r0 := cellW (i := 0) hR2
    have r1 := cellW (i := 1) hR2
    have r2 := cellW (i := 2) hR2
    have q0 := cellW (i := 0) hE2
    have HF := Lib.hid (show CarR xs w (.returned (.tuple #[.agg #[.slice none 0 0, .slice none 0 0, .slice none 0 0], .int .i64 12])) (w1.setCell ⟨w.heap.size + 1, 0, none⟩ (.int .i64 12)) from ⟨⟨nilC, by rw [ho]; rfl, by rw [ho]; rfl, nilZ _ _⟩, below_set HB1.out (by omega) _ _⟩)
    refine leaves_cons (f := 28) (args := #[.pointer (some ⟨w.heap.size + 1, 0, none⟩)]) (by simp) (by simp [go_sem]) ?_
    refine (catchCa ⟨w.heap.size + 1, 0, none⟩ 0 w1 e0 f0).mono ?_
    rintro e u' w'' ⟨rfl, rfl, rfl⟩
    exact ⟨.tuple #[.agg #[.slice none 0 0, .slice none 0 0, .slice none 0 0], .int .i64 12], by simp [results, Tryz.results16, go_sem, q0, r0, r1, r2], HF.out⟩
  | some v =>
    obtain ⟨u, rfl, ⟨y, hv, hca, hoc⟩⟩ := k1 _ ho
    obtain ⟨V, nv, vs, L, nl, ls, I, ni, ys⟩ := y
    have hv' : u = .agg #[.slice V vs.length nv, .slice L ls.length nl, .slice I ys.length ni] := hv
    clear hv
    subst hv'
    have HO1 := Lib.hid (show OwnC w1 w.heap.size ⟨V, nv, vs, L, nl, ls, I, ni, ys⟩ from ⟨hoc.1.le HAL.out.size, Go.Joins.ownsRow_le hoc.2.1 HAL.out.size, fun u hu => Go.Joins.ownsRow_le (hoc.2.2 u hu) HAL.out.size⟩)
    have HCA := Lib.hid hca
    clear hca hoc
    have hE2 := set1c (x := .int .i64 0) HE1.out
    have hrs := set3 HR1.out (.slice V vs.length nv) (.slice L ls.length nl) (.slice I ys.length ni)
    have hch : Chg (fun k => k = w.heap.size) w1 (((w1.setCell ⟨w.heap.size, 0, none⟩ (.slice V vs.length nv)).setCell ⟨w.heap.size, 1, none⟩ (.slice L ls.length nl)).setCell ⟨w.heap.size, 2, none⟩ (.slice I ys.length ni)) := ((chg_set _ _ _ _).trans (chg_set _ _ _ _) fun _ _ e => e).trans (chg_set _ _ _ _) fun _ _ e => e
    have hE3 := (hch.block _ (Array.getElem?_eq_some_iff.1 HE1.out).1 (by omega)).trans HE1.out
    have hE4 := set1c (x := .int .i64 0) hE3
    have hE5 := set1c (x := .int .i64 0) hE4
    have hR4 := off_set (b := w.heap.size + 1) (i := 0) (x := .int .i64 0) hrs (by omega)
    have hR5 := off_set (b := w.heap.size + 1) (i := 0) (x := .int .i64 0) hR4 (by omega)
    have HE3 := Lib.hid hE3
    have HE4 := Lib.hid hE4
    have hch2 : Chg (fun k => k = w.heap.size + 1) (((w1.setCell ⟨w.heap.size, 0, none⟩ (.slice V vs.length nv)).setCell ⟨w.heap.size, 1, none⟩ (.slice L ls.length nl)).setCell ⟨w.heap.size, 2, none⟩ (.slice I ys.length ni)) (((((w1.setCell ⟨w.heap.size, 0, none⟩ (.slice V vs.length nv)).setCell ⟨w.heap.size, 1, none⟩ (.slice L ls.length nl)).setCell ⟨w.heap.size, 2, none⟩ (.slice I ys.length ni)).setCell ⟨w.heap.size + 1, 0, none⟩ (.int .i64 0)).setCell ⟨w.heap.size + 1, 0, none⟩ (.int .i64 0)) := (chg_set _ _ _ _).trans (chg_set _ _ _ _) fun _ _ e => e
    have c0 := cellW (i := 0) HR1.out
    have g0 := frozenW (i := 0) HR1.out
    have c1 := cellW (i := 1) HR1.out
    have g1 := frozenW (i := 1) HR1.out
    have c2 := cellW (i := 2) HR1.out
    have g2 := frozenW (i := 2) HR1.out
    have q0 := cellW (i := 0) hE5
    have r0 := cellW (i := 0) hR5
    have r1 := cellW (i := 1) hR5
    have r2 := cellW (i := 2) hR5
    have HF := Lib.hid (show CarR xs w (.returned (.tuple #[.agg #[.slice V vs.length nv, .slice L ls.length nl, .slice I ys.length ni], .int .i64 0])) (((((w1.setCell ⟨w.heap.size, 0, none⟩ (.slice V vs.length nv)).setCell ⟨w.heap.size, 1, none⟩ (.slice L ls.length nl)).setCell ⟨w.heap.size, 2, none⟩ (.slice I ys.length ni)).setCell ⟨w.heap.size + 1, 0, none⟩ (.int .i64 0)).setCell ⟨w.heap.size + 1, 0, none⟩ (.int .i64 0)) from ⟨⟨⟨V, nv, vs, L, nl, ls, I, ni, ys⟩, by rw [ho]; rfl, by rw [ho]; exact HCA.out, ((HO1.out.off HR1.out hch).offE hE3 hch2)⟩, below_set (below_set (below_set (below_set (below_set HB1.out (Nat.le_refl _) _ _) (Nat.le_refl _) _ _) (Nat.le_refl _) _ _) (by omega) _ _) (by omega) _ _⟩)
    clear hE2 hrs hch hch2 hE3 hE4 hE5 hR4 hR5 k1 k2 k3
    go_wp2_with fail
    refine leaves_cons (f := 28) (args := #[.pointer (some ⟨w.heap.size + 1, 0, none⟩)]) (by simp) (by simp [go_sem]) ?_
    refine (idleCa ⟨w.heap.size + 1, 0, none⟩ 0 _ (cellW (i := 0) HE4.out) (frozenW (i := 0) HE4.out)).mono ?_
    rintro e u' w'' ⟨rfl, rfl, rfl⟩
    exact ⟨.tuple #[.agg #[.slice V vs.length nv, .slice L ls.length nl, .slice I ys.length ni], .int .i64 0], by simp [results, Tryz.results16, go_sem, q0, r0, r1, r2], HF.out⟩

set_option maxRecDepth 100000 in
set_option maxHeartbeats 4000000 in
theorem dcContext (A : Option Addr) (xs : List UInt8) (n : Nat) (w : World) (hx : HoldsB w (.slice A xs.length n) xs) (h17 : xs.length ≤ 170000) :
    Calls Tryz.prog 37 #[.slice A xs.length n] w (ConR xs w) := by
  have hmf : ∀ (fn : Fn) (first cap : Array Value) (w : World), (Instr.makeFunc fn first cap).run Tryz.prog w = .ok (.func fn first cap) w := fun _ _ _ _ => rfl
  have h1 : Below w.heap.size w (w.alloc (.cells #[.slice none 0 0, .slice none 0 0] 28)) := (Below.refl _ _).alloc (Nat.le_refl _) _
  have h2 : Below w.heap.size w ((w.alloc (.cells #[.slice none 0 0, .slice none 0 0] 28)).alloc (.cells #[.int .i64 0] 40)) := h1.alloc h1.size _
  have HR0 := Lib.hid (show ((w.alloc (.cells #[.slice none 0 0, .slice none 0 0] 28)).alloc (.cells #[.int .i64 0] 40)).heap[w.heap.size]? = some (.cells #[.slice none 0 0, .slice none 0 0] 28 (0, 0)) from
    stays_at ((Below.refl _ (w.alloc (.cells #[.slice none 0 0, .slice none 0 0] 28))).alloc (Nat.le_refl _) _) (heap_alloc_new w _))
  have HE0 := Lib.hid (show ((w.alloc (.cells #[.slice none 0 0, .slice none 0 0] 28)).alloc (.cells #[.int .i64 0] 40)).heap[w.heap.size + 1]? = some (.cells #[.int .i64 0] 40 (0, 0)) from by
    have := heap_alloc_new (w.alloc (.cells #[.slice none 0 0, .slice none 0 0] 28)) (.cells #[.int .i64 0] 40)
    simpa using this)
  have H1 := Lib.hid (allContext A xs n _ (hx.below h2) h17)
  have HAL := Lib.hid h2
  clear h1 h2 hx h17
  go_enter_defers Tryz.func37, Tryz.ntmps37
  go_wp2_with fail
  generalize World.alloc (World.alloc w _) _ = w0 at *
  refine H1.out.mono ?_
  rintro e w1 ⟨k1, k2, k3⟩
  have HB1 := Lib.hid (show Below w.heap.size w w1 from below_trans HAL.out (k3.mono (by omega)))
  have HR1 := Lib.hid (stays_at k3 HR0.out)
  have HE1 := Lib.hid (stays_at k3 HE0.out)
  have e0 := cellW (i := 0) HE1.out
  have f0 := frozenW (i := 0) HE1.out
  cases ho : conX xs with
  | none =>
    obtain rfl := k2 ho
    have hE2 := set1c (x := .int .i64 12) HE1.out
    have hR2 := off_set (b := w.heap.size + 1) (i := 0) (x := .int .i64 12) HR1.out (by omega)
    have r0 := cellW (i := 0) hR2
    have r1 := cellW (i := 1) hR2
    have q0 := cellW (i := 0) hE2
    have HF := Lib.hid (show ConR xs w (.returned (.tuple #[.agg #[.slice none 0 0, .slice none 0 0], .int .i64 12])) (w1.setCell ⟨w.heap.size + 1, 0, none⟩ (.int .i64 12)) from ⟨⟨none, none, 0, 0, [], [], by rw [ho]; rfl, by rw [ho]; rfl, ⟨_, _, rfl, SlAt.nil, Nat.le_refl _, by decide⟩, ⟨_, _, rfl, SlAt.nil, Nat.le_refl _, by decide⟩⟩, below_set HB1.out (by omega) _ _⟩)
    refine leaves_cons (f := 65) (args := #[.pointer (some ⟨w.heap.size + 1, 0, none⟩)]) (by simp) (by simp [go_sem]) ?_
    refine (catchCo ⟨w.heap.size + 1, 0, none⟩ 0 w1 e0 f0).mono ?_
    rintro e u' w'' ⟨rfl, rfl, rfl⟩
    exact ⟨.tuple #[.agg #[.slice none 0 0, .slice none 0 0], .int .i64 12], by simp [results, Tryz.results37, go_sem, q0, r0, r1], HF.out⟩
  | some v =>
    obtain ⟨vs, ls⟩ := v
    obtain ⟨u, rfl, ⟨V, L, nv, nl, rfl, hoc⟩⟩ := k1 _ ho
    have HO1 := Lib.hid (hoc.le HAL.out.size)
    clear hoc
    have hE2 := set1c (x := .int .i64 0) HE1.out
    have hrs := set2 (x := .slice V vs.length nv) (y := .slice L ls.length nl) HR1.out
    have hch : Chg (fun k => k = w.heap.size) w1 ((w1.setCell ⟨w.heap.size, 0, none⟩ (.slice V vs.length nv)).setCell ⟨w.heap.size, 1, none⟩ (.slice L ls.length nl)) := (chg_set _ _ _ _).trans (chg_set _ _ _ _) fun _ _ e => e
    have hE3 := (hch.block _ (Array.getElem?_eq_some_iff.1 HE1.out).1 (by omega)).trans HE1.out
    have hE4 := set1c (x := .int .i64 0) hE3
    have hE5 := set1c (x := .int .i64 0) hE4
    have hR4 := off_set (b := w.heap.size + 1) (i := 0) (x := .int .i64 0) hrs (by omega)
    have hR5 := off_set (b := w.heap.size + 1) (i := 0) (x := .int .i64 0) hR4 (by omega)
    have HE3 := Lib.hid hE3
    have HE4 := Lib.hid hE4
    have hch2 : Chg (fun k => k = w.heap.size + 1) ((w1.setCell ⟨w.heap.size, 0, none⟩ (.slice V vs.length nv)).setCell ⟨w.heap.size, 1, none⟩ (.slice L ls.length nl)) ((((w1.setCell ⟨w.heap.size, 0, none⟩ (.slice V vs.length nv)).setCell ⟨w.heap.size, 1, none⟩ (.slice L ls.length nl)).setCell ⟨w.heap.size + 1, 0, none⟩ (.int .i64 0)).setCell ⟨w.heap.size + 1, 0, none⟩ (.int .i64 0)) := (chg_set _ _ _ _).trans (chg_set _ _ _ _) fun _ _ e => e
    have c0 := cellW (i := 0) HR1.out
    have g0 := frozenW (i := 0) HR1.out
    have c1 := cellW (i := 1) HR1.out
    have g1 := frozenW (i := 1) HR1.out
    have q0 := cellW (i := 0) hE5
    have r0 := cellW (i := 0) hR5
    have r1 := cellW (i := 1) hR5
    have HF := Lib.hid (show ConR xs w (.returned (.tuple #[.agg #[.slice V vs.length nv, .slice L ls.length nl], .int .i64 0])) ((((w1.setCell ⟨w.heap.size, 0, none⟩ (.slice V vs.length nv)).setCell ⟨w.heap.size, 1, none⟩ (.slice L ls.length nl)).setCell ⟨w.heap.size + 1, 0, none⟩ (.int .i64 0)).setCell ⟨w.heap.size + 1, 0, none⟩ (.int .i64 0)) from ⟨⟨V, L, nv, nl, vs, ls, by rw [ho]; rfl, by rw [ho]; rfl, (rowX_two ⟨own_off (own_off HO1.out.1 HR1.out (by decide) hch) hE3 (by decide) hch2, own_off (own_off HO1.out.2 HR1.out (by decide) hch) hE3 (by decide) hch2⟩).1, (rowX_two ⟨own_off (own_off HO1.out.1 HR1.out (by decide) hch) hE3 (by decide) hch2, own_off (own_off HO1.out.2 HR1.out (by decide) hch) hE3 (by decide) hch2⟩).2⟩, below_set (below_set (below_set (below_set HB1.out (Nat.le_refl _) _ _) (Nat.le_refl _) _ _) (by omega) _ _) (by omega) _ _⟩)
    clear hE2 hrs hch hch2 hE3 hE4 hE5 hR4 hR5 k1 k2 k3
    go_wp2_with fail
    refine leaves_cons (f := 65) (args := #[.pointer (some ⟨w.heap.size + 1, 0, none⟩)]) (by simp) (by simp [go_sem]) ?_
    refine (idleCo ⟨w.heap.size + 1, 0, none⟩ 0 _ (cellW (i := 0) HE4.out) (frozenW (i := 0) HE4.out)).mono ?_
    rintro e u' w'' ⟨rfl, rfl, rfl⟩
    exact ⟨.tuple #[.agg #[.slice V vs.length nv, .slice L ls.length nl], .int .i64 0], by simp [results, Tryz.results37, go_sem, q0, r0, r1], HF.out⟩

set_option maxRecDepth 100000 in
set_option maxHeartbeats 4000000 in
theorem dcCount (A : Option Addr) (xs : List UInt8) (n : Nat) (w : World) (hx : HoldsB w (.slice A xs.length n) xs) (h17 : xs.length ≤ 170000) :
    Calls Tryz.prog 27 #[.slice A xs.length n] w (CntR xs w) := by
  have hmf : ∀ (fn : Fn) (first cap : Array Value) (w : World), (Instr.makeFunc fn first cap).run Tryz.prog w = .ok (.func fn first cap) w := fun _ _ _ _ => rfl
  have h2 : Below w.heap.size w (w.alloc (.cells #[.int .i64 0] 40)) := (Below.refl _ _).alloc (Nat.le_refl _) _
  have h1 := h2
  have HE0 := Lib.hid (heap_alloc_new w (.cells #[.int .i64 0] 40))
  have H1 := Lib.hid (allCount A xs n _ (hx.below h2) h17)
  have HAL := Lib.hid h2
  clear h1 h2 hx h17
  go_enter_defers Tryz.func27, Tryz.ntmps27
  go_wp2_with fail
  generalize World.alloc w _ = w0 at *
  refine H1.out.mono ?_
  rintro e w1 ⟨k1, k2, k3⟩
  have HB1 := Lib.hid (show Below w.heap.size w w1 from below_trans HAL.out (k3.mono (by omega)))
  have HE1 := Lib.hid (stays_at k3 HE0.out)
  have e0 := cellW (i := 0) HE1.out
  have f0 := frozenW (i := 0) HE1.out
  cases ho : cntC xs with
  | none =>
    obtain rfl := k2 ho
    have hE2 := set1c (x := .int .i64 12) HE1.out
    have q0 := cellW (i := 0) hE2
    have HF := Lib.hid (show CntR xs w (.returned (.tuple #[.int .i64 0, .int .i64 12])) (w1.setCell ⟨w.heap.size, 0, none⟩ (.int .i64 12)) from ⟨by rw [ho]; rfl, below_set HB1.out (Nat.le_refl _) _ _⟩)
    refine leaves_cons (f := 44) (args := #[.pointer (some ⟨w.heap.size, 0, none⟩)]) (by simp) (by simp [go_sem]) ?_
    refine (catchCn ⟨w.heap.size, 0, none⟩ 0 w1 e0 f0).mono ?_
    rintro e u' w'' ⟨rfl, rfl, rfl⟩
    exact ⟨.tuple #[.int .i64 0, .int .i64 12], by simp [results, Tryz.results27, go_sem, q0], HF.out⟩
  | some v =>
    obtain ⟨u, rfl, rfl⟩ := k1 _ ho
    have hE4 := set1c (x := .int .i64 0) HE1.out
    have hE5 := set1c (x := .int .i64 0) hE4
    have HE4 := Lib.hid hE4
    have q0 := cellW (i := 0) hE5
    have HF := Lib.hid (show CntR xs w (.returned (.tuple #[.int .i64 (v : Nat), .int .i64 0])) ((w1.setCell ⟨w.heap.size, 0, none⟩ (.int .i64 0)).setCell ⟨w.heap.size, 0, none⟩ (.int .i64 0)) from ⟨by rw [ho]; rfl, below_set (below_set HB1.out (Nat.le_refl _) _ _) (Nat.le_refl _) _ _⟩)
    clear hE4 hE5 k1 k2 k3
    go_wp2_with fail
    refine leaves_cons (f := 44) (args := #[.pointer (some ⟨w.heap.size, 0, none⟩)]) (by simp) (by simp [go_sem]) ?_
    refine (idleCn ⟨w.heap.size, 0, none⟩ 0 _ (cellW (i := 0) HE4.out) (frozenW (i := 0) HE4.out)).mono ?_
    rintro e u' w'' ⟨rfl, rfl, rfl⟩
    exact ⟨.tuple #[.int .i64 (v : Nat), .int .i64 0], by simp [results, Tryz.results27, go_sem, q0], HF.out⟩

end

section
open Go.RowKit

set_option maxRecDepth 100000 in
set_option maxHeartbeats 4000000 in
theorem dcPrefix (A : Option Addr) (xs : List UInt8) (n : Nat) (w : World) (hx : HoldsB w (.slice A xs.length n) xs) (h17 : xs.length ≤ 170000) :
    Calls Tryz.prog 36 #[.slice A xs.length n] w (PreR xs w) := by
  have hmf : ∀ (fn : Fn) (first cap : Array Value) (w : World), (Instr.makeFunc fn first cap).run Tryz.prog w = .ok (.func fn first cap) w := fun _ _ _ _ => rfl
  have h1 : Below w.heap.size w (w.alloc (.cells #[.slice none 0 0, .slice none 0 0, .slice none 0 0] 31)) := (Below.refl _ _).alloc (Nat.le_refl _) _
  have h2 : Below w.heap.size w ((w.alloc (.cells #[.slice none 0 0, .slice none 0 0, .slice none 0 0] 31)).alloc (.cells #[.int .i64 0] 40)) := h1.alloc h1.size _
  have HR0 := Lib.hid (show ((w.alloc (.cells #[.slice none 0 0, .slice none 0 0, .slice none 0 0] 31)).alloc (.cells #[.int .i64 0] 40)).heap[w.heap.size]? = some (.cells #[.slice none 0 0, .slice none 0 0, .slice none 0 0] 31 (0, 0)) from
    stays_at ((Below.refl _ (w.alloc (.cells #[.slice none 0 0, .slice none 0 0, .slice none 0 0] 31))).alloc (Nat.le_refl _) _) (heap_alloc_new w _))
  have HE0 := Lib.hid (show ((w.alloc (.cells #[.slice none 0 0, .slice none 0 0, .slice none 0 0] 31)).alloc (.cells #[.int .i64 0] 40)).heap[w.heap.size + 1]? = some (.cells #[.int .i64 0] 40 (0, 0)) from by
    have := heap_alloc_new (w.alloc (.cells #[.slice none 0 0, .slice none 0 0, .slice none 0 0] 31)) (.cells #[.int .i64 0] 40)
    simpa using this)
  have HSZ := Lib.hid (show ((w.alloc (.cells #[.slice none 0 0, .slice none 0 0, .slice none 0 0] 31)).alloc (.cells #[.int .i64 0] 40)).heap.size = w.heap.size + 2 from by simp)
  have H1 := Lib.hid (newAt _ xs _ (hx.below h2) (by omega))
  have HAL := Lib.hid h2
  have H17 := Lib.hid h17
  clear h1 h2 hx h17
  go_enter_defers Tryz.func36, Tryz.ntmps36
  go_wp2_with fail
  generalize World.alloc (World.alloc w _) _ = w0 at *
  refine H1.out.mono ?_
  rintro e w1 ⟨⟨g, A', c', rfl, hR, hg, _⟩, hb⟩
  have HG := Lib.hid (show w.heap.size + 2 ≤ g from by have := HSZ.out; omega)
  have HB1 := Lib.hid (show Below w.heap.size w w1 from below_trans HAL.out (hb.mono (by have := HSZ.out; omega)))
  have HR1 := Lib.hid (stays_at hb HR0.out)
  have HE1 := Lib.hid (stays_at hb HE0.out)
  have H2 := Lib.hid (readCart g A' c' xs 0 w1 hR H17.out)
  clear hR hg hb H1 HR0 HE0 HAL HSZ
  go_wp2_with fail
  refine H2.out.mono ?_
  rintro e w2 ⟨k1, k2, k3⟩
  have HB2 := Lib.hid (show Below w.heap.size w w2 from below_step HB1.out (k3.below (B := w.heap.size) (by have := HB1.out.size; omega) fun j e => by have := HG.out; omega))
  have HR2 := Lib.hid (k3.mine HR1.out (by have := HG.out; omega))
  have HE2 := Lib.hid (k3.mine HE1.out (by have := HG.out; omega))
  have e0 := cellW (i := 0) HE2.out
  have f0 := frozenW (i := 0) HE2.out
  cases hq : qC (xs.drop 0) with
  | none =>
    obtain rfl := k2 hq
    have ho : preC xs = none := by rw [List.drop_zero] at hq; rw [← qC_pre]; exact hq
    have hE2 := set1c (x := .int .i64 12) HE2.out
    have hR3 := off_set (b := w.heap.size + 1) (i := 0) (x := .int .i64 12) HR2.out (by omega)
    have r0 := cellW (i := 0) hR3
    have r1 := cellW (i := 1) hR3
    have r2 := cellW (i := 2) hR3
    have q0 := cellW (i := 0) hE2
    have HF := Lib.hid (show PreR xs w (.returned (.tuple #[.agg #[.slice none 0 0, .slice none 0 0, .slice none 0 0], .int .i64 0, .int .i64 12])) (w2.setCell ⟨w.heap.size + 1, 0, none⟩ (.int .i64 12)) from
      ⟨⟨nilC, by rw [ho]; rfl, by rw [ho]; rfl, nilC_ok _⟩, below_set HB2.out (by omega) _ _⟩)
    refine leaves_cons (f := 63) (args := #[.pointer (some ⟨w.heap.size + 1, 0, none⟩)]) (by simp) (by simp [go_sem]) ?_
    refine (catchPr ⟨w.heap.size + 1, 0, none⟩ 0 w2 e0 f0).mono ?_
    rintro e u' w'' ⟨rfl, rfl, rfl⟩
    exact ⟨.tuple #[.agg #[.slice none 0 0, .slice none 0 0, .slice none 0 0], .int .i64 0, .int .i64 12], by simp [results, Tryz.results36, go_sem, q0, r0, r1, r2], HF.out⟩
  | some v =>
    obtain ⟨ca, z⟩ := v
    obtain ⟨u, rfl, ⟨y, hv, hca, hoc⟩, hR⟩ := k1 _ _ hq
    have ho : preC xs = some (ca, z) := by rw [List.drop_zero] at hq; rw [← qC_pre]; exact hq
    obtain ⟨V, nv, vs, L, nl, ls, I, ni, ys⟩ := y
    have hv' : u = .agg #[.slice V vs.length nv, .slice L ls.length nl, .slice I ys.length ni] := hv
    clear hv
    subst hv'
    have HO2 := Lib.hid (show OwnC w2 w.heap.size ⟨V, nv, vs, L, nl, ls, I, ni, ys⟩ from ⟨hoc.1.le HB1.out.size, Go.Joins.ownsRow_le hoc.2.1 HB1.out.size, fun u hu => Go.Joins.ownsRow_le (hoc.2.2 u hu) HB1.out.size⟩)
    have hat := atAt g A' c' xs (0 + z) w2 hR
    rw [Nat.zero_add] at hat
    have HAT := Lib.hid hat
    have hrs := set3 HR2.out (.slice V vs.length nv) (.slice L ls.length nl) (.slice I ys.length ni)
    have hch : Chg (fun k => k = w.heap.size) w2 (((w2.setCell ⟨w.heap.size, 0, none⟩ (.slice V vs.length nv)).setCell ⟨w.heap.size, 1, none⟩ (.slice L ls.length nl)).setCell ⟨w.heap.size, 2, none⟩ (.slice I ys.length ni)) := ((chg_set _ _ _ _).trans (chg_set _ _ _ _) fun _ _ e => e).trans (chg_set _ _ _ _) fun _ _ e => e
    have hE3 := (hch.block _ (Array.getElem?_eq_some_iff.1 HE2.out).1 (by omega)).trans HE2.out
    have hE4 := set1c (x := .int .i64 0) hE3
    have hE5 := set1c (x := .int .i64 0) hE4
    have hR4 := off_set (b := w.heap.size + 1) (i := 0) (x := .int .i64 0) hrs (by omega)
    have hR5 := off_set (b := w.heap.size + 1) (i := 0) (x := .int .i64 0) hR4 (by omega)
    have HE4 := Lib.hid hE4
    have hch2 : Chg (fun k => k = w.heap.size + 1) (((w2.setCell ⟨w.heap.size, 0, none⟩ (.slice V vs.length nv)).setCell ⟨w.heap.size, 1, none⟩ (.slice L ls.length nl)).setCell ⟨w.heap.size, 2, none⟩ (.slice I ys.length ni)) (((((w2.setCell ⟨w.heap.size, 0, none⟩ (.slice V vs.length nv)).setCell ⟨w.heap.size, 1, none⟩ (.slice L ls.length nl)).setCell ⟨w.heap.size, 2, none⟩ (.slice I ys.length ni)).setCell ⟨w.heap.size + 1, 0, none⟩ (.int .i64 0)).setCell ⟨w.heap.size + 1, 0, none⟩ (.int .i64 0)) := (chg_set _ _ _ _).trans (chg_set _ _ _ _) fun _ _ e => e
    have c0 := cellW (i := 0) HR2.out
    have g0 := frozenW (i := 0) HR2.out
    have c1 := cellW (i := 1) HR2.out
    have g1 := frozenW (i := 1) HR2.out
    have c2 := cellW (i := 2) HR2.out
    have g2 := frozenW (i := 2) HR2.out
    have q0 := cellW (i := 0) hE5
    have r0 := cellW (i := 0) hR5
    have r1 := cellW (i := 1) hR5
    have r2 := cellW (i := 2) hR5
    have HF := Lib.hid (show PreR xs w (.returned (.tuple #[.agg #[.slice V vs.length nv, .slice L ls.length nl, .slice I ys.length ni], .int .i64 (z : Nat), .int .i64 0])) (((((w2.setCell ⟨w.heap.size, 0, none⟩ (.slice V vs.length nv)).setCell ⟨w.heap.size, 1, none⟩ (.slice L ls.length nl)).setCell ⟨w.heap.size, 2, none⟩ (.slice I ys.length ni)).setCell ⟨w.heap.size + 1, 0, none⟩ (.int .i64 0)).setCell ⟨w.heap.size + 1, 0, none⟩ (.int .i64 0)) from
      ⟨⟨⟨V, nv, vs, L, nl, ls, I, ni, ys⟩, by rw [ho]; rfl, by rw [ho]; exact hca, ((HO2.out.off HR2.out hch).offE hE3 hch2).ok⟩, below_set (below_set (below_set (below_set (below_set HB2.out (Nat.le_refl _) _ _) (Nat.le_refl _) _ _) (Nat.le_refl _) _ _) (by omega) _ _) (by omega) _ _⟩)
    clear hrs hch hch2 hE3 hE4 hE5 hR4 hR5 k1 k2 k3 hR hat hoc hca hq ho
    go_wp2_with (go_at_call 64; refine HAT.out.mono ?_; rintro e w5 ⟨rfl, rfl⟩)
    refine leaves_cons (f := 63) (args := #[.pointer (some ⟨w.heap.size + 1, 0, none⟩)]) (by simp) (by simp [go_sem]) ?_
    refine (idlePr ⟨w.heap.size + 1, 0, none⟩ 0 _ (cellW (i := 0) HE4.out) (frozenW (i := 0) HE4.out)).mono ?_
    rintro e u' w'' ⟨rfl, rfl, rfl⟩
    exact ⟨.tuple #[.agg #[.slice V vs.length nv, .slice L ls.length nl, .slice I ys.length ni], .int .i64 (z : Nat), .int .i64 0], by simp [results, Tryz.results36, go_sem, q0, r0, r1, r2], HF.out⟩

end

section
open Go.RowKit

theorem decOK15 (w : World) : DecOK w where
  car A p n W _ h hl := dcCart A p n W h hl
  pre A p n W _ h hl := dcPrefix A p n W h hl
  con A p n W _ h hl := dcContext A p n W h hl
  cnt A p n W _ h hl := dcCount A p n W h hl
  val c W _ hc hf := caValid c _ W hc hf rfl
  com v vs ls W _ h hm := ctxIsCompact_o v vs ls _ W h hm rfl

end

section
open Go.RowKit

section
variable {P : Program} {ops : Array Oper} {Q : Exit → Act → World → Prop} {a0 : Act} {x : Rb} {k d : Nat} {o : Oper}
theorem Rb.G.outer {L : Nat → Bool} {a : Act} {W : World} (g : x.G L a W) (h : x.D.ownBlock = none) : Below x.W0.heap.size x.W0 W := g.chg.below (Nat.le_refl _) (fun _ e => by rw [h] at e; cases e)
/-- A slice that was there before is appended to a row. -/
theorem stepOut {r0 r1 : Rw} {j2 d2 m2 c2 : Nat} {A2 : Option Addr} {ys : List UInt8} (hinj : ∀ r ∈ x.rows, ∀ r' ∈ x.rows, r.j = r'.j → r = r') (h0 : r0 ∈ x.rows) (hj0 : r0.j = k) (hd0 : r0.d = d) (h1 : r1 ∈ x.rows) (hk1 : r1.k = some k) (hx0 : r0.xs = r1.xs ++ ys) (hlen : r1.xs.length + ys.length ≤ 1000000000) (ho : ops[k]? = some o) (hd : o.dst = some d) (hf : x.free k d (some r1.j) = true) (hdn : d < x.n) (hm : x.m = none) (hkn : x.known k = none)
    (hgw : ∀ L a W, InvT ops a0 x.S L a W → (∀ j, waitsB o j = true → L j = true) → Region.wanted o (yielded ops a.tmps) = true) (hw1 : waitsB o r1.j = true) (hw2 : waitsB o j2 = true) (hd2 : dstOf ops j2 = some d2) (hk2 : x.known j2 = some (.slice A2 m2 c2)) (hm2 : m2 = ys.length) (hD : x.D.ownBlock = none) (hy : BytesAt x.W0 A2 ys)
    (hop : ∀ (a : Act) (W : World) (u v w' : Value) (W' : World), a.eval (.tmp r1.d) = u → a.eval (.tmp d2) = v → (Builtin.append_ #[22, 22] 22 #[u, v]).run Tryz.prog W = .ok w' W' → (execOp a.eval o).run P W = .ok (.value w') W') : StepT P ops Q a0 x.S k o := by
  obtain ⟨i0, hi0, hz0, hz1, hz2⟩ := info_parts infoB
  subst hm2
  refine StepT.val ho fun L a W hI hk hw => ?_
  have g := hI.glob
  have hon1 : r1.on L := ⟨hw _ hw1, fun i hi => (Option.some.inj (hk1.symm.trans hi)) ▸ hk⟩
  have g1 := g.row r1 h1 hon1
  have e2 : a.eval (.tmp d2) = .slice A2 ys.length c2 := by rw [eval_tmp]; exact Rb.at hI j2 d2 (hw _ hw2) hd2 hk2
  obtain ⟨v', W', hrun, hown, hgr, hblk⟩ := run_append_sl (P := Tryz.prog) W encB 1 encB_len (by omega) encB_one x.E.heap.size 22 22 5 i0 _ 1 Tryz.underlying22 hi0 hz0 hz1 hz2 rfl (a.eval (.tmp r1.d)) r1.xs g1 A2 c2 ys (hy.below (g.outer hD)) (Nat.le_trans hlen (by decide)) (by omega) g.bel.size
  have hb1 : ∀ b, (a.eval (.tmp r1.d)).ownBlock = some b → x.E.heap.size ≤ b ∧ b < W.heap.size := fun b hb => g1.lt hb
  rw [hd]
  refine ⟨hgw L a W hI hw, v', W', hop a W _ _ v' W' rfl e2 hrun, fun _ _ _ h => h, g.step hinj h0 hj0 hd0 hf hdn (fun m h => by rw [hm] at h; cases h) (g.bel.grown hgr g.bel.size (fun b hb => (hb1 b hb).1)) ?_ (fun m h => by rw [hm] at h; cases h) (fun r hr h hrk _ => ?_) (by rw [hx0]; exact hown) (fun b hb => ?_) (fun r hr h hrk _ => ?_) (fun m h => by rw [hm] at h; cases h), fun u hu => by rw [hkn] at hu; cases hu⟩
  · refine g.chg.trans (T := fun b => (a.eval (.tmp r1.d)).ownBlock = some b) (Chg.of_grown hgr fun _ e => e) fun b hb e => ?_
    rcases g.blk r1 h1 hon1 b e with h | h
    · exact h
    · omega
  · exact (g.row r hr h).kept hgr (g.apa r1 h1 r hr (fun e => hrk (by rw [← hinj r1 h1 r hr e]; exact hk1)) hon1 h)
  · rcases hblk with e | e
    · rw [e] at hb; exact g.blk r1 h1 hon1 b hb
    · rw [e] at hb; exact .inr ((Option.some.inj hb) ▸ g.chg.size)
  · intro b hb hb'
    rcases hblk with e | e
    · rw [e] at hb
      exact g.apa r1 h1 r hr (fun e => hrk (by rw [← hinj r1 h1 r hr e]; exact hk1)) hon1 h b hb hb'
    · rw [e] at hb
      have hb := Option.some.inj hb
      have := ((g.row r hr h).lt hb').2
      omega
/-- A slice that was there before is appended to nothing. -/
theorem stepNil {r0 : Rw} {j2 d2 m2 c2 : Nat} {A2 : Option Addr} {ys : List UInt8} (hinj : ∀ r ∈ x.rows, ∀ r' ∈ x.rows, r.j = r'.j → r = r') (h0 : r0 ∈ x.rows) (hj0 : r0.j = k) (hd0 : r0.d = d) (hx0 : r0.xs = ys) (hlen : ys.length ≤ 1000000000) (ho : ops[k]? = some o) (hd : o.dst = some d) (hf : x.free k d none = true) (hdn : d < x.n) (hm : x.m = none) (hkn : x.known k = none)
    (hgw : ∀ L a W, InvT ops a0 x.S L a W → (∀ j, waitsB o j = true → L j = true) → Region.wanted o (yielded ops a.tmps) = true) (hw2 : waitsB o j2 = true) (hd2 : dstOf ops j2 = some d2) (hk2 : x.known j2 = some (.slice A2 m2 c2)) (hm2 : m2 = ys.length) (hD : x.D.ownBlock = none) (hy : BytesAt x.W0 A2 ys)
    (hop : ∀ (a : Act) (W : World) (v w' : Value) (W' : World), a.eval (.tmp d2) = v → (Builtin.append_ #[22, 22] 22 #[.slice none 0 0, v]).run Tryz.prog W = .ok w' W' → (execOp a.eval o).run P W = .ok (.value w') W') : StepT P ops Q a0 x.S k o := by
  obtain ⟨i0, hi0, hz0, hz1, hz2⟩ := info_parts infoB
  subst hm2
  refine StepT.val ho fun L a W hI hk hw => ?_
  have g := hI.glob
  have e2 : a.eval (.tmp d2) = .slice A2 ys.length c2 := by rw [eval_tmp]; exact Rb.at hI j2 d2 (hw _ hw2) hd2 hk2
  obtain ⟨v', W', hrun, hown, hgr, hblk⟩ := run_append_sl (P := Tryz.prog) W encB 1 encB_len (by omega) encB_one x.E.heap.size 22 22 5 i0 _ 1 Tryz.underlying22 hi0 hz0 hz1 hz2 rfl (.slice none 0 0) [] (World.ownsRow_nil _ _ _ _) A2 c2 ys (hy.below (g.outer hD)) (by simpa using Nat.le_trans hlen (by decide)) (by simp; omega) g.bel.size
  have hn : ∀ b, (Value.slice none 0 0).ownBlock = some b → False := fun b h => by simp [Value.ownBlock] at h
  have hnew : ∀ b, v'.ownBlock = some b → b = W.heap.size := fun b hb => by
    rcases hblk with e | e
    · rw [e] at hb; exact (hn b hb).elim
    · rw [e] at hb; exact (Option.some.inj hb).symm
  rw [hd]
  refine ⟨hgw L a W hI hw, v', W', hop a W _ v' W' e2 hrun, fun _ _ _ h => h, g.step hinj h0 hj0 hd0 hf hdn (fun m h => by rw [hm] at h; cases h) (g.bel.grown hgr g.bel.size (fun b hb => (hn b hb).elim)) ?_ (fun m h => by rw [hm] at h; cases h) (fun r hr h hrk _ => ?_) (by rw [hx0]; exact hown) (fun b hb => ?_) (fun r hr h hrk _ => ?_) (fun m h => by rw [hm] at h; cases h), fun u hu => by rw [hkn] at hu; cases hu⟩
  · exact g.chg.trans (T := fun _ => False) (Chg.of_grown hgr fun b e => (hn b e).elim) fun b _ e => e.elim
  · exact (g.row r hr h).kept hgr (fun b e => (hn b e).elim)
  · exact .inr (by rw [hnew b hb]; exact g.chg.size)
  · intro b hb hb'
    have h1 := hnew b hb
    have := ((g.row r hr h).lt hb').2
    omega
end

end

end Go.Proofs.YtpnemekkpifbaaaGreat
