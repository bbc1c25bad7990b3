/- The reference of layer 3: Add. -/
import Derived.Test.YtibnlifdeknicaaCtxF
import Derived.Deep.CutBlock
namespace Go.Proofs.Ytibnlifdeknicaa
open Go.RowKit

/-- What holds while the answer's block waits. -/
def KG (w0 : World) (g : Nat) (x y : Value) (L : List (Value × List (Int × Int))) (W : World) : Prop :=
  W.cell? ⟨g, 0, none⟩ = some x ∧ W.cell? ⟨g, 1, none⟩ = some y ∧ W.cell? ⟨g + 1, 0, none⟩ = some (.slice none 0 0) ∧ W.cell? ⟨g + 1, 1, none⟩ = some (.slice none 0 0) ∧ W.frozen? ⟨g + 1, 0, none⟩ = false ∧ W.frozen? ⟨g + 1, 1, none⟩ = false ∧
  Blk2 W g x y ∧ Blk2 W (g + 1) (.slice none 0 0) (.slice none 0 0) ∧ Below w0.heap.size w0 W ∧ ∀ p ∈ L, Holds W p.1 p.2
section
variable {w0 W W' : World} {g : Nat} {x y : Value} {L : List (Value × List (Int × Int))}
theorem KG.mk (h1 : Blk2 W g x y) (h2 : Blk2 W (g + 1) (.slice none 0 0) (.slice none 0 0)) (h3 : Below w0.heap.size w0 W) (h4 : ∀ p ∈ L, Holds W p.1 p.2) : KG w0 g x y L W :=
  ⟨h1.cell0, h1.cell1, h2.cell0, h2.cell1, h2.frozen 0, h2.frozen 1, h1, h2, h3, h4⟩
theorem KG.b1 (h : KG w0 g x y L W) : Blk2 W g x y := h.2.2.2.2.2.2.1
theorem KG.b2 (h : KG w0 g x y L W) : Blk2 W (g + 1) (.slice none 0 0) (.slice none 0 0) := h.2.2.2.2.2.2.2.1
theorem KG.bel (h : KG w0 g x y L W) : Below w0.heap.size w0 W := h.2.2.2.2.2.2.2.2.1
theorem KG.hs (h : KG w0 g x y L W) : ∀ p ∈ L, Holds W p.1 p.2 := h.2.2.2.2.2.2.2.2.2
theorem KG.h {v : Value} {xs : List (Int × Int)} (h : KG w0 g x y L W) (hm : (v, xs) ∈ L) : Holds W v xs := h.hs _ hm
theorem KG.below (h : KG w0 g x y L W) (hb : Below W.heap.size W W') : KG w0 g x y L W' := .mk (h.b1.below hb) (h.b2.below hb) (below_trans h.bel hb) fun p hp => (h.hs p hp).below hb
theorem KG.alloc (h : KG w0 g x y L W) (o : Obj) : KG w0 g x y L (W.alloc o) := h.below ((Below.refl _ W).alloc (Nat.le_refl _) o)
theorem KG.drew (h : KG w0 g x y L W) : KG w0 g x y L W.drew := h.below (Below.refl _ W).drew
end
theorem refUnion_h3 (v v' : Value) (xs ys zs : List (Int × Int)) (w : World) (h : Holds w v xs) (h' : Holds w v' ys) (hm : xs.length + ys.length ≤ 100000) (hz : setL (xs ++ ys) = zs) :
    Calls Try.prog 68 #[v, v'] w fun e w' => (∃ D d, e = .returned (.slice D zs.length d) ∧ Holds w' (.slice D zs.length d) zs) ∧ Below w.heap.size w w' := by
  obtain ⟨A, c, rfl, h1, h2, h3⟩ := h
  obtain ⟨A', c', rfl, h1', h2', h3'⟩ := h'
  subst hz
  refine (refUnion A A' xs ys c c' w h1 h1' hm).mono ?_
  rintro e w' ⟨⟨v, he, hv⟩, hb⟩
  have hv0 := hv
  obtain ⟨D, d, rfl, _⟩ := hv
  exact ⟨⟨D, d, he, hv0⟩, hb⟩
theorem ref3Compact_h (x y : Value) (vs ls us rs : List (Int × Int)) (w : World) (h : Holds w x vs) (h' : Holds w y ls) (hv : validC vs ls = true) (hm : vs.length + ls.length ≤ 1000) (hz : compactC vs ls = (us, rs)) :
    Calls Try.prog 22 #[.agg #[x, y]] w fun e w' => (∃ A n B m, e = .returned (.agg #[.slice A us.length n, .slice B rs.length m]) ∧ Holds w' (.slice A us.length n) us ∧ Holds w' (.slice B rs.length m) rs) ∧ Below w.heap.size w w' := by
  refine (ref3Compact _ vs ls w (HoldsC.mk h h') hv hm).mono ?_
  rintro e w' ⟨⟨v', he, hc⟩, hb⟩
  rw [hz] at hc
  obtain ⟨A, n, B, m, rfl, h1, h2⟩ := hc
  exact ⟨⟨A, n, B, m, he, h1, h2⟩, hb⟩

set_option maxRecDepth 100000 in
set_option maxHeartbeats 4000000 in
theorem ref3Add (v x : Value) (vs ls m us rs : List (Int × Int)) (w : World) (h : HoldsC w v vs ls) (hx : Holds w x m) (hv : validC vs ls = true) (hok : ∀ p ∈ m, validD p.1 p.2 = true) (hm : vs.length + ls.length + m.length ≤ 1000) (hz : addC vs ls m = (us, rs)) :
    Calls Try.prog 32 #[v, x] w fun e w' => (∃ v', e = .returned v' ∧ HoldsC w' v' us rs) ∧ Below w.heap.size w w' := by
  obtain ⟨A, n, B, k, rfl, h1, h2⟩ := h
  have hal : Below w.heap.size w ((w.alloc (.cells #[.slice A vs.length n, .slice B ls.length k] 25)).alloc (.cells #[.slice none 0 0, .slice none 0 0] 25)) :=
    ((Below.refl _ w).alloc (Nat.le_refl _) _).alloc (by simp) _
  have K : KG w w.heap.size (.slice A vs.length n) (.slice B ls.length k) [(.slice A vs.length n, vs), (.slice B ls.length k, ls), (x, m)] ((w.alloc (.cells #[.slice A vs.length n, .slice B ls.length k] 25)).alloc (.cells #[.slice none 0 0, .slice none 0 0] 25)) := by
    refine .mk ?_ ?_ hal ?_
    · exact (heap_alloc_old _ _ (by simp)).trans (heap_alloc_new w _)
    · have h := heap_alloc_new (w.alloc (.cells #[.slice A vs.length n, .slice B ls.length k] 25)) (.cells #[.slice none 0 0, .slice none 0 0] 25)
      rwa [World.size_alloc] at h
    · intro p hp
      rcases List.mem_cons.1 hp with rfl | hp
      · exact h1.below hal
      · rcases List.mem_cons.1 hp with rfl | hp
        · exact h2.below hal
        · rcases List.mem_cons.1 hp with rfl | hp
          · exact hx.below hal
          · cases hp
  have hl := setL_len (ls ++ m)
  rw [List.length_append] at hl
  obtain ⟨zs, hzs⟩ : ∃ zs, setL (ls ++ m) = zs := ⟨_, rfl⟩
  have hvz := addC_valid hv hok
  unfold addC at hz
  rw [hzs] at hl hvz hz
  have HZ := Lib.hid hz
  have HVZ := Lib.hid hvz
  have HZS := Lib.hid hzs
  have HM := Lib.hid hm
  have HL := Lib.hid hl
  clear h1 h2 hx hz hvz hzs hm hl hal hv hok
  go_enter Try.func32, Try.ntmps32
  go_wp2_with fail
  generalize (w.alloc (.cells #[.slice A vs.length n, .slice B ls.length k] 25)).alloc (.cells #[.slice none 0 0, .slice none 0 0] 25) = W0 at K ⊢
  have KD := K.drew
  obtain ⟨q0, q1, q2, q3, q4, q5, _⟩ := id KD
  clear K
  go_region_with (first
      | (go_at_call 68; refine (refUnion_h3 _ _ ls m zs _ (KG.h (by assumption) (by simp)) (KG.h (by assumption) (by simp)) (by have := HM.out; omega) HZS.out).mono ?_
         rintro e wa ⟨⟨D3, d3, rfl, hv3⟩, hb1⟩
         have hS1 := KG.below (by assumption) hb1
         clear hb1
         obtain ⟨r0, r1, r2, r3, r4, r5, _⟩ := id hS1)
      | (go_at_call 22; refine (ref3Compact_h _ _ vs zs us rs _ (KG.h (by assumption) (by simp)) (by first | exact hv3 | exact hv3.drew) HVZ.out (by have := HM.out; have := HL.out; omega) HZ.out).mono ?_
         rintro e wb ⟨⟨A4, n4, B4, m4, rfl, hv4, hv5⟩, hb1⟩
         have hS2 := KG.below (by assumption) hb1
         clear hb1
         obtain ⟨s0, s1, s2, s3, s4, s5, _⟩ := id hS2))
  all_goals
    go_wp2_with fail
    have hs := hS2.b2.set (.slice A4 us.length n4) (.slice B4 rs.length m4)
    have s6 := hs.cell0
    have s7 := hs.cell1
    refine bodyPost_ret (v := .agg #[.slice A4 us.length n4, .slice B4 rs.length m4]) (by simp [results, Try.results32, go_sem, s6, s7]) rfl ⟨⟨_, rfl, ?_⟩, below_set2 hS2.bel (by omega) _ _⟩
    exact HoldsC.mk (hv4.set2 hS2.b2 (by intro z; simp) (by intro z; simp)) (hv5.set2 hS2.b2 (by intro z; simp) (by intro z; simp))

end Go.Proofs.Ytibnlifdeknicaa
