/- Several texts in one: CanB. -/
import Derived.Test.YtgdnibahiomneaaGreatMAM
namespace Go.Proofs.YtgdnibahiomneaaGreat

section
open Go.RowKit

theorem row_neB {W : World} {B g : Nat} {t : TypeId} {v : Value} {xs : List UInt8} {cur : Array Value} {z : Nat × Nat} (h : RowB W B v xs) (hg : W.heap[g]? = some (.cells cur t z)) (ht : t ≠ 5) : v.ownBlock ≠ some g := by
  rcases h.2 with ⟨rfl, _⟩ | ⟨g', cap, cur', rfl, _, hg', _⟩
  · simp [Value.ownBlock]
  · intro e1
    have e2 : g' = g := by simpa [Value.ownBlock] using e1
    subst e2
    rw [hg] at hg'
    injection hg' with h1
    injection h1 with _ h2 _
    exact ht h2
/-- A box that is no row's stays. -/
theorem Chg.box {S : Nat → Prop} {W W' : World} {g : Nat} {o : Obj} (h : Chg S W W') (hg : W.heap[g]? = some o) (hn : ¬ S g) : W'.heap[g]? = some o := (h.block g (Array.getElem?_eq_some_iff.1 hg).1 hn).trans hg
/-- Short enough. -/
def LenB (c : Ca) : Prop := c.1.1.length ≤ 1000 ∧ c.1.2.length ≤ 1000 ∧ c.2.length ≤ 1000 ∧ ∀ x ∈ c.2, x.1.length ≤ 1000 ∧ x.2.length ≤ 1000 ∧ ∀ m ∈ x.2, m.t < 18446744073709551616
theorem byL_1000 {l : List (Int × Int)} (h : l.length ≤ 1000) : (byL byD l).length ≤ 20010 := by
  have := byL_le (f := byD) (k := 20) (n := 1000) (fun d _ => byD_le d) h (by decide)
  omega
theorem byX_len {c : List (Int × Int) × List (Int × Int)} (h1 : c.1.length ≤ 1000) (h2 : c.2.length ≤ 1000) : (byX c).length ≤ 40020 := by
  unfold byX
  rw [List.length_append]
  have := byL_1000 h1
  have := byL_1000 h2
  omega
theorem byI_len {x : It} (h1 : x.1.length ≤ 1000) (h2 : x.2.length ≤ 1000) (h3 : ∀ m ∈ x.2, m.t < 18446744073709551616) : (byI x).length ≤ 41020 := by
  unfold byI
  rw [List.length_append]
  have a1 := byS_le h1 (by decide)
  have a2 := byL_le (f := byM) (k := 40) (n := 1000) (fun m hm => byM_le (h3 m hm)) h2 (by decide)
  omega

/-- The region in which a context is written. -/
def ctxX (E W0 : World) (xs ys : List UInt8) (g : Nat) (A B : Option Addr) (vn n ln k : Nat) : Rb where
  E := E
  W0 := W0
  n := 10
  D := .slice none 0 0
  acc := []
  m := none
  s := 0
  rows := [⟨2, 5, xs, some 6⟩, ⟨5, 8, ys, none⟩, ⟨6, 9, xs ++ ys, some 7⟩, ⟨7, 2, xs ++ ys, none⟩]
  known := fun
    | 0 => some (.pointer (some ⟨g, 0, none⟩))
    | 1 => some (.slice A vn n)
    | 3 => some (.pointer (some ⟨g, 1, none⟩))
    | 4 => some (.slice B ln k)
    | _ => none

set_option maxRecDepth 100000 in
set_option maxHeartbeats 1000000 in
theorem refContext14 (A B : Option Addr) (vs ls : List (Int × Int)) (n k : Nat) (w : World) (h1 : DotsAt w A vs) (h2 : DotsAt w B ls) (m1 : vs.length ≤ 1000) (m2 : ls.length ≤ 1000) :
    Calls Tryz.prog 13 #[.agg #[.slice A vs.length n, .slice B ls.length k]] w (MadeB (byX (vs, ls)) w) := by
  have hb0 : Below w.heap.size w (w.alloc (.cells #[.slice A vs.length n, .slice B ls.length k] 25)) := (Below.refl _ w).alloc (Nat.le_refl _) _
  have HB0 := Lib.hid hb0
  have H1 := Lib.hid (h1.below hb0)
  have H2 := Lib.hid (h2.below hb0)
  have HM := Lib.hid (And.intro m1 m2)
  have hbx : (w.alloc (.cells #[.slice A vs.length n, .slice B ls.length k] 25)).heap[w.heap.size]? = some (.cells #[.slice A vs.length n, .slice B ls.length k] 25 (0, 0)) := heap_alloc_new w _
  have HBOX := Lib.hid fun (W : World) (hW : Below (w.alloc (.cells #[.slice A vs.length n, .slice B ls.length k] 25)).heap.size (w.alloc (.cells #[.slice A vs.length n, .slice B ls.length k] 25)) W) => (show W.cell? ⟨w.heap.size, 0, none⟩ = some (.slice A vs.length n) ∧ W.cell? ⟨w.heap.size, 1, none⟩ = some (.slice B ls.length k) from by
    have h : W.heap[w.heap.size]? = some (.cells #[.slice A vs.length n, .slice B ls.length k] 25 (0, 0)) := (hW.block _ (by simp)).trans hbx
    exact ⟨by simp [World.cell?, h], by simp [World.cell?, h]⟩)
  obtain ⟨xs, hxs⟩ : ∃ xs, byL byD vs = xs := ⟨_, rfl⟩
  obtain ⟨ys, hys⟩ : ∃ ys, byL byD ls = ys := ⟨_, rfl⟩
  have HE := Lib.hid (show byX (vs, ls) = xs ++ ys from by rw [← hxs, ← hys]; rfl)
  have HL1 := Lib.hid (byL_1000 m1)
  have HL2 := Lib.hid (byL_1000 m2)
  have HD1 := Lib.hid fun (W : World) (hW : Below (w.alloc (.cells #[.slice A vs.length n, .slice B ls.length k] 25)).heap.size (w.alloc (.cells #[.slice A vs.length n, .slice B ls.length k] 25)) W) => refDots14 A vs n W (H1.out.below hW) m1
  have HD2 := Lib.hid fun (W : World) (hW : Below (w.alloc (.cells #[.slice A vs.length n, .slice B ls.length k] 25)).heap.size (w.alloc (.cells #[.slice A vs.length n, .slice B ls.length k] 25)) W) => refDots14 B ls k W (H2.out.below hW) m2
  rw [hxs] at HD1 HL1
  rw [hys] at HD2 HL2
  clear h1 h2 hb0 hbx m1 m2 hxs hys H1 H2 HM
  go_enter Tryz.func13, Tryz.ntmps13
  go_upto_region 1 with fail
  generalize w.alloc (.cells #[.slice A vs.length n, .slice B ls.length k] 25) = w1 at HB0 HD1 HD2 HBOX ⊢
  have HINJ := Lib.hid (show ∀ q ∈ (ctxX w1 w1 xs ys w.heap.size A B vs.length n ls.length k).rows, ∀ q' ∈ (ctxX w1 w1 xs ys w.heap.size A B vs.length n ls.length k).rows, q.j = q'.j → q = q' from inj_of (show ([2, 5, 6, 7] : List Nat).Nodup from by decide))
  refine wp_region_T (S := Rb.S (ctxX w1 w1 xs ys w.heap.size A B vs.length n ls.length k)) (by kernel_rfl) (by kernel_rfl) (by kernel_rfl) (dst_small (n := 10) (by kernel_rfl)) (Rb.G.start (Below.refl _ _) rfl (by rfl) (fun _ h => by cases h)) ?_ ?_
  · refine ⟨?_, ?_, ?_, ?_, ?_, ?_, ?_, ?_, trivial⟩
    · refine stepPure rfl rfl (by kernel_rfl) (by kernel_rfl) (by kernel_rfl) (by kernel_rfl) fun L a W hI hk hd => ?_
      have e1 : a.tmps[1]?.getD undef = .pointer (some ⟨w.heap.size, 0, none⟩) := hI.at 1 (by kernel_rfl)
      exact ⟨rfl, .pointer (some ⟨w.heap.size, 0, none⟩), by go_simp, fun u hu => Option.some.inj hu⟩
    · refine stepPure rfl rfl (by kernel_rfl) (by kernel_rfl) (by kernel_rfl) (by kernel_rfl) fun L a W hI hk hd => ?_
      have e3 := Rb.at hI 0 3 (hd 0 rfl) rfl rfl
      obtain ⟨c0, c1⟩ := HBOX.out W hI.glob.bel
      exact ⟨rfl, .slice A vs.length n, by go_simp, fun u hu => Option.some.inj hu⟩
    · refine stepCall (r0 := ⟨2, 5, xs, some 6⟩) HINJ.out (by simp [ctxX]) rfl rfl rfl rfl (by kernel_rfl) (show 5 < 10 from by decide) (by kernel_rfl) rfl fun L a W hI hk hd => ?_
      have e4 := Rb.at hI 1 4 (hd 1 rfl) rfl rfl
      exact ⟨rfl, 29, #[.slice A vs.length n], by go_simp, HD1.out W hI.glob.bel⟩
    · refine stepPure rfl rfl (by kernel_rfl) (by kernel_rfl) (by kernel_rfl) (by kernel_rfl) fun L a W hI hk hd => ?_
      have e1 : a.tmps[1]?.getD undef = .pointer (some ⟨w.heap.size, 0, none⟩) := hI.at 1 (by kernel_rfl)
      exact ⟨rfl, .pointer (some ⟨w.heap.size, 1, none⟩), by go_simp, fun u hu => Option.some.inj hu⟩
    · refine stepPure rfl rfl (by kernel_rfl) (by kernel_rfl) (by kernel_rfl) (by kernel_rfl) fun L a W hI hk hd => ?_
      have e6 := Rb.at hI 3 6 (hd 3 rfl) rfl rfl
      obtain ⟨c0, c1⟩ := HBOX.out W hI.glob.bel
      exact ⟨rfl, .slice B ls.length k, by go_simp, fun u hu => Option.some.inj hu⟩
    · refine stepCall (r0 := ⟨5, 8, ys, none⟩) HINJ.out (by simp [ctxX]) rfl rfl rfl rfl (by kernel_rfl) (show 8 < 10 from by decide) (by kernel_rfl) rfl fun L a W hI hk hd => ?_
      have e7 := Rb.at hI 4 7 (hd 4 rfl) rfl rfl
      exact ⟨rfl, 29, #[.slice B ls.length k], by go_simp, HD2.out W hI.glob.bel⟩
    · refine stepApp (r0 := ⟨6, 9, xs ++ ys, some 7⟩) (r1 := ⟨2, 5, xs, some 6⟩) (r2 := ⟨5, 8, ys, none⟩) HINJ.out (by simp [ctxX]) rfl rfl (by simp [ctxX]) rfl (show (2 : Nat) ≠ 6 from by decide) (by simp [ctxX]) rfl (show (5 : Nat) ≠ 6 from by decide) (show (2 : Nat) ≠ 5 from by decide) rfl (by have := HL1.out; have := HL2.out; dsimp only; omega) rfl rfl (by kernel_rfl) (show 9 < 10 from by decide) (by kernel_rfl) rfl rfl rfl rfl fun a W u v w9 W9 h1 h2 h3 => ?_
      have h1 : a.eval (.tmp 5) = u := h1
      have h2 : a.eval (.tmp 8) = v := h2
      unfold execOp
      simp only [resolve, invoke, builtin, Sem.run_bind, Sem.run_pure, Result.andThen_ok, List.map_toArray, List.map_cons, List.map_nil, h1, h2, h3]
    · exact stepPass (r0 := ⟨7, 2, xs ++ ys, none⟩) (r1 := ⟨6, 9, xs ++ ys, some 7⟩) HINJ.out (by simp [ctxX]) rfl rfl (by simp [ctxX]) rfl (show (6 : Nat) ≠ 7 from by decide) rfl rfl rfl (by kernel_rfl) (show 2 < 10 from by decide) (fun m h => by cases h) rfl rfl rfl rfl
  · intro a W L hL hI
    have g := hI.glob
    have hr := g.row ⟨7, 2, xs ++ ys, none⟩ (by simp [ctxX]) ⟨hL 7 (by decide), fun _ h => (by cases h)⟩
    have hbe : Below w1.heap.size w1 W := g.bel
    have HR2 := Lib.hid (show RowB W w.heap.size (a.eval (.tmp 2)) (xs ++ ys) from Go.Joins.ownsRow_le hr HB0.out.size)
    have HBW := Lib.hid (below_trans HB0.out hbe)
    rw [hI.frame]
    simp only [List.filterMap, List.foldl]
    clear hr hbe g hI hL
    generalize a.eval (.tmp 2) = v2 at HR2 ⊢
    generalize a.eval (.tmp 3) = v3
    generalize a.eval (.tmp 4) = v4
    generalize a.eval (.tmp 5) = v5
    generalize a.eval (.tmp 6) = v6
    generalize a.eval (.tmp 7) = v7
    generalize a.eval (.tmp 8) = v8
    generalize a.eval (.tmp 9) = v9
    obtain ⟨zs, hzs⟩ : ∃ zs, byX (vs, ls) = zs := ⟨_, rfl⟩
    have HZ := Lib.hid hzs
    rw [← HE.out, hzs] at HR2
    obtain ⟨D2, d2, rfl, _, _, _⟩ := SlAt.of_own encB_len HR2.out
    clear hzs
    go_wp2_with fail
    go_ret
    rw [HZ.out]
    have HG : ∀ v, v = Value.slice D2 zs.length d2 → MadeB zs w (.returned v) W := fun v hv => by subst hv; exact MadeB.of HR2.out HBW.out
    exact HG _ (by simp)

end

end Go.Proofs.YtgdnibahiomneaaGreat
