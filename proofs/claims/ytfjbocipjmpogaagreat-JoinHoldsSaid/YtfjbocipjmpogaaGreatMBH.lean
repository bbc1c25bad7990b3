/- Several texts in one: JoiU. -/
import Derived.Test.YtfjbocipjmpogaaGreatMBG
import Derived.Test.YtfjbocipjmpogaaGreatMAL
namespace Go.Proofs.YtfjbocipjmpogaaGreat

section
open Go.RowKit

/-- While joined runs: both carts, the dot and the box of the result. -/
structure KJd (w : World) (c d : CaV) (r s : Int) (W : World) : Prop where
  a : BlkC W w.heap.size c
  b : BlkC W (w.heap.size + 1) d
  oka : CaOK W c
  okb : CaOK W d
  dot : W.heap[w.heap.size + 2]? = some (.cells #[.int .i64 r, .int .i64 s] 51 (0, 0))
  res : BlkM W (w.heap.size + 3) Mk.zero
  bel : Below w.heap.size w W
section
variable {w W W' : World} {c d : CaV} {r s : Int}
theorem KJd.next (h : KJd w c d r s W) (hb : Below W.heap.size W W') : KJd w c d r s W' := ⟨h.a.below hb, h.b.below hb, h.oka.below hb, h.okb.below hb, (hb.block _ (Array.getElem?_eq_some_iff.1 h.dot).1).trans h.dot, h.res.below hb, below_trans h.bel hb⟩
theorem KJd.sp (h : KJd w c d r s W) : W.cell? ⟨w.heap.size, 0, none⟩ = some c.v ∧ W.cell? ⟨w.heap.size, 1, none⟩ = some c.l ∧ W.cell? ⟨w.heap.size, 2, none⟩ = some c.i ∧ W.cell? ⟨w.heap.size + 1, 0, none⟩ = some d.v ∧ W.cell? ⟨w.heap.size + 1, 1, none⟩ = some d.l ∧ W.cell? ⟨w.heap.size + 1, 2, none⟩ = some d.i ∧
    W.cell? ⟨w.heap.size + 2, 0, none⟩ = some (.int .i64 r) ∧ W.cell? ⟨w.heap.size + 2, 1, none⟩ = some (.int .i64 s) ∧ w.heap.size < W.heap.size ∧ w.heap.size + 1 < W.heap.size ∧ w.heap.size + 2 < W.heap.size ∧ w.heap.size + 3 < W.heap.size :=
  ⟨h.a.cell0, h.a.cell1, h.a.cell2, h.b.cell0, h.b.cell1, h.b.cell2, by simp [World.cell?, h.dot], by simp [World.cell?, h.dot], by have := h.res.lt; omega, by have := h.res.lt; omega, by have := h.res.lt; omega, h.res.lt⟩
theorem KJd.new (w : World) (c d : CaV) (r s : Int) (hc : CaOK w c) (hd : CaOK w d) : KJd w c d r s ((((w.alloc (.cells #[c.v, c.l, c.i] 28)).alloc (.cells #[d.v, d.l, d.i] 28)).alloc (.cells #[.int .i64 r, .int .i64 s] 51)).alloc (.cells #[.int .i64 0, .int .i64 0, .int .i64 0, .int .u64 0] 54)) := by
  have al : ∀ (W : World) (o : Obj), Below W.heap.size W (W.alloc o) := fun W o => (Below.refl _ W).alloc (Nat.le_refl _) o
  have e1 := BlkC.new (w.alloc (.cells #[c.v, c.l, c.i] 28)) d
  have e2 := heap_alloc_new ((w.alloc (.cells #[c.v, c.l, c.i] 28)).alloc (.cells #[d.v, d.l, d.i] 28)) (.cells #[.int .i64 r, .int .i64 s] 51)
  have e3 := BlkM.new (((w.alloc (.cells #[c.v, c.l, c.i] 28)).alloc (.cells #[d.v, d.l, d.i] 28)).alloc (.cells #[.int .i64 r, .int .i64 s] 51)) Mk.zero
  rw [World.size_alloc] at e1
  rw [World.size_alloc, World.size_alloc] at e2
  rw [World.size_alloc, World.size_alloc, World.size_alloc] at e3
  have h1 := al w (.cells #[c.v, c.l, c.i] 28)
  have h2 := al (w.alloc (.cells #[c.v, c.l, c.i] 28)) (.cells #[d.v, d.l, d.i] 28)
  have h3 := al ((w.alloc (.cells #[c.v, c.l, c.i] 28)).alloc (.cells #[d.v, d.l, d.i] 28)) (.cells #[.int .i64 r, .int .i64 s] 51)
  have h4 := al (((w.alloc (.cells #[c.v, c.l, c.i] 28)).alloc (.cells #[d.v, d.l, d.i] 28)).alloc (.cells #[.int .i64 r, .int .i64 s] 51)) (.cells #[.int .i64 0, .int .i64 0, .int .i64 0, .int .u64 0] 54)
  have h12 := below_trans h1 h2
  have h34 := below_trans h3 h4
  exact ⟨((BlkC.new w c).below h2).below h34, e1.below h34, ((hc.below h12).below h34), ((hd.below h12).below h34), (h4.block _ (Array.getElem?_eq_some_iff.1 e2).1).trans e2, e3, below_trans h12 h34⟩
end
theorem BlkM.setZeroA {W : World} {g : Nat} {m : Mk} (h : BlkM W g m) (o : Obj) : (((((W.setCell ⟨g, 0, none⟩ (.int .i64 0)).setCell ⟨g, 1, none⟩ (.int .i64 0)).setCell ⟨g, 2, none⟩ (.int .i64 0)).setCell ⟨g, 3, none⟩ (.int .u64 0)).alloc o).cell? ⟨g, 0, none⟩ = some (.int .i64 0) ∧ (((((W.setCell ⟨g, 0, none⟩ (.int .i64 0)).setCell ⟨g, 1, none⟩ (.int .i64 0)).setCell ⟨g, 2, none⟩ (.int .i64 0)).setCell ⟨g, 3, none⟩ (.int .u64 0)).alloc o).cell? ⟨g, 1, none⟩ = some (.int .i64 0) ∧ (((((W.setCell ⟨g, 0, none⟩ (.int .i64 0)).setCell ⟨g, 1, none⟩ (.int .i64 0)).setCell ⟨g, 2, none⟩ (.int .i64 0)).setCell ⟨g, 3, none⟩ (.int .u64 0)).alloc o).cell? ⟨g, 2, none⟩ = some (.int .i64 0) ∧ (((((W.setCell ⟨g, 0, none⟩ (.int .i64 0)).setCell ⟨g, 1, none⟩ (.int .i64 0)).setCell ⟨g, 2, none⟩ (.int .i64 0)).setCell ⟨g, 3, none⟩ (.int .u64 0)).alloc o).cell? ⟨g, 3, none⟩ = some (.int .u64 0) :=
  have h1 := ((h.set Mk.zero).below ((Below.refl _ (setM W g Mk.zero)).alloc (Nat.le_refl _) o)).zeros
  ⟨h1.1, h1.2.1, h1.2.2.1, h1.2.2.2.1⟩
theorem refMark_s (c : CaV) (nm : List UInt8) (r s : Int) (m : Mk) (b : Bool) (w : World) (hc : CaOK w c) (hm : c.xs.length ≤ 100000) (ho : markL (its c.xs) nm (r, s) = if b then some m else none) (hz : b = false → m = Mk.zero) :
    Calls Tryz.prog 51 #[mkC c, .string ⟨nm.toArray⟩, .agg #[.int .i64 r, .int .i64 s]] w (OneB (.tuple #[.agg #[.int .i64 m.r, .int .i64 m.c, .int .i64 m.q, .int .u64 (m.t : Int)], .bool b]) w) := by
  have h := refMark11 c nm r s _ w hc hm ho
  cases b with
  | true => exact h
  | false => rw [hz rfl]; exact h
theorem opt_form (o : Option Mk) : ∃ (m : Mk) (b : Bool), (o = if b then some m else none) ∧ (b = false → m = Mk.zero) := by
  cases o with
  | none => exact ⟨Mk.zero, false, rfl, fun _ => rfl⟩
  | some m => exact ⟨m, true, rfl, fun h => by cases h⟩
theorem joined_of (c d : CaV) (nm : List UInt8) (r s : Int) : joinedK c.ca d.ca nm (r, s) = meetO (hasC c.vs c.ls r s) (hasC d.vs d.ls r s) (markL (its c.xs) nm (r, s)) (markL (its d.xs) nm (r, s)) := rfl

set_option maxRecDepth 100000 in
set_option maxHeartbeats 8000000 in
theorem refJoined11 (c d : CaV) (nm : List UInt8) (r s : Int) (o : Option Mk) (w : World) (hc : CaOK w c) (hd : CaOK w d) (hm : c.xs.length ≤ 100000) (hm' : d.xs.length ≤ 100000) (ho : joinedK c.ca d.ca nm (r, s) = o) :
    Calls Tryz.prog 45 #[mkC c, mkC d, .string ⟨nm.toArray⟩, .agg #[.int .i64 r, .int .i64 s]] w (OneB (markV o) w) := by
  have K0 := Lib.hid (KJd.new w c d r s hc hd)
  rw [joined_of] at ho
  obtain ⟨x, bx, hx, hxz⟩ := opt_form (markL (its c.xs) nm (r, s))
  obtain ⟨y, by', hy, hyz⟩ := opt_form (markL (its d.xs) nm (r, s))
  have HM1 := Lib.hid fun W (h : CaOK W c) => refMark_s c nm r s x bx W h hm hx hxz
  have HM2 := Lib.hid fun W (h : CaOK W d) => refMark_s d nm r s y by' W h hm' hy hyz
  have HN := Lib.hid fun W => refNewer y x W
  obtain ⟨n, hn⟩ : ∃ n, newerN y x = n := ⟨_, rfl⟩
  obtain ⟨p, hp⟩ : ∃ p, hasC c.vs c.ls r s = p := ⟨_, rfl⟩
  obtain ⟨q, hq⟩ : ∃ q, hasC d.vs d.ls r s = q := ⟨_, rfl⟩
  have HP := Lib.hid fun W (h : CaOK W c) => ref3Has _ c.vs c.ls r s p W h.ctx hp
  have HQ := Lib.hid fun W (h : CaOK W d) => ref3Has _ d.vs d.ls r s q W h.ctx hq
  rw [hx, hy, hp, hq] at ho
  have hmax : maxM x y = if n = true then y else x := by unfold maxM; rw [hn]
  rw [hn] at HN
  have HO := Lib.hid ho
  have HMX := Lib.hid hmax
  clear hc hd hm hm' ho hx hy hxz hyz hn hp hq hmax
  have split : (bx = true ∧ by' = true ∧ n = true) ∨ (bx = true ∧ by' = true ∧ n = false) ∨ (bx = true ∧ by' = false ∧ q = false) ∨ (bx = true ∧ by' = false ∧ q = true) ∨ (bx = false ∧ by' = true ∧ p = false) ∨ (bx = false ∧ by' = true ∧ p = true) ∨ (bx = false ∧ by' = false) := by
    cases bx <;> cases by' <;> cases n <;> cases p <;> cases q <;> simp
  rcases split with ⟨rfl, rfl, rfl⟩ | ⟨rfl, rfl, rfl⟩ | ⟨rfl, rfl, rfl⟩ | ⟨rfl, rfl, rfl⟩ | ⟨rfl, rfl, rfl⟩ | ⟨rfl, rfl, rfl⟩ | ⟨rfl, rfl⟩
  · have HF := Lib.hid (show some y = o from by have h1 := HO.out; have h2 := HMX.out; simp only [meetO, if_true] at h1; rw [h2] at h1; simpa using h1)
    clear HO HMX
    go_enter Tryz.func45, Tryz.ntmps45
    go_wp2_with fail
    generalize World.alloc (World.alloc (World.alloc (World.alloc w _) _) _) _ = w2 at K0 ⊢
    obtain ⟨a0, a1, a2, b0, b1, b2, d0, d1, l0, l1, l2, lt⟩ := K0.out.sp
    go_wp2_with fail
    refine (HM1.out w2 K0.out.oka).mono ?_
    rintro e w3 ⟨rfl, hb⟩
    have K1 := Lib.hid (K0.out.next hb)
    clear K0 hb a0 a1 a2 b0 b1 b2 d0 d1 l0 l1 l2 lt HM1
    obtain ⟨a0, a1, a2, b0, b1, b2, d0, d1, l0, l1, l2, lt⟩ := K1.out.sp
    go_wp2_with fail
    have hal := (Below.refl w3.heap.size w3).alloc (Nat.le_refl _) (.cells #[.int .i64 x.r, .int .i64 x.c, .int .i64 x.q, .int .u64 (x.t : Int)] 54)
    have KA := Lib.hid (K1.out.next hal)
    have BX := Lib.hid (BlkM.new w3 x)
    obtain ⟨g1, hg1⟩ : ∃ g, w3.heap.size = g := ⟨_, rfl⟩
    rw [hg1] at BX ⊢
    clear hal hg1
    generalize World.alloc w3 _ = w3a at KA BX ⊢
    clear K1 a0 a1 a2 b0 b1 b2 d0 d1 l0 l1 l2 lt
    refine (HM2.out w3a KA.out.okb).mono ?_
    rintro e w4 ⟨rfl, hb⟩
    have K2 := Lib.hid (KA.out.next hb)
    have BX2 := Lib.hid (BX.out.below hb)
    clear KA hb BX HM2
    have hal := (Below.refl w4.heap.size w4).alloc (Nat.le_refl _) (.cells #[.int .i64 y.r, .int .i64 y.c, .int .i64 y.q, .int .u64 (y.t : Int)] 54)
    have K3 := Lib.hid (K2.out.next hal)
    have BX3 := Lib.hid (BX2.out.below hal)
    have BY3 := Lib.hid (BlkM.new w4 y)
    clear hal
    obtain ⟨a0, a1, a2, b0, b1, b2, d0, d1, l0, l1, l2, lt⟩ := K2.out.sp
    have x0 := BX2.out.cell0
    have x1 := BX2.out.cell1
    have x2 := BX2.out.cell2
    have x3 := BX2.out.cell3
    have xl := BX2.out.lt
    have hB := K2.out.res
    obtain ⟨z0, z1, z2, z3, f0, f1, f2, f3⟩ := hB.zeros
    go_wp2_with fail
    refine (HN.out _).mono ?_
    rintro e w5 ⟨rfl, hb⟩
    have K5 := Lib.hid (K3.out.next hb)
    have BX5 := Lib.hid (BX3.out.below hb)
    have BY5 := Lib.hid (BY3.out.below hb)
    clear K2 K3 BX2 BX3 BY3 hb a0 a1 a2 b0 b1 b2 d0 d1 l0 l1 l2 lt x0 x1 x2 x3 xl z0 z1 z2 z3 f0 f1 f2 f3 hB
    obtain ⟨a0, a1, a2, b0, b1, b2, d0, d1, l0, l1, l2, lt⟩ := K5.out.sp
    have x0 := BX5.out.cell0
    have x1 := BX5.out.cell1
    have x2 := BX5.out.cell2
    have x3 := BX5.out.cell3
    have y0 := BY5.out.cell0
    have y1 := BY5.out.cell1
    have y2 := BY5.out.cell2
    have y3 := BY5.out.cell3
    have hB := K5.out.res
    have hbe := K5.out.bel
    obtain ⟨z0, z1, z2, z3, f0, f1, f2, f3⟩ := hB.zeros
    go_wp2_with fail
    have hS := hB.set y
    have s0 := hS.cell0
    have s1 := hS.cell1
    have s2 := hS.cell2
    have s3 := hS.cell3
    refine bodyPost_ret (v := .tuple #[mkV y, .bool true]) (by simp [results, Tryz.results45, go_sem, s0, s1, s2, s3]) rfl ⟨by rw [← HF.out]; rfl, below_setM hbe (Nat.le_add_right _ 3) y⟩
  · have HF := Lib.hid (show some x = o from by have h1 := HO.out; have h2 := HMX.out; simp only [meetO, if_true] at h1; rw [h2] at h1; simpa using h1)
    clear HO HMX
    go_enter Tryz.func45, Tryz.ntmps45
    go_wp2_with fail
    generalize World.alloc (World.alloc (World.alloc (World.alloc w _) _) _) _ = w2 at K0 ⊢
    obtain ⟨a0, a1, a2, b0, b1, b2, d0, d1, l0, l1, l2, lt⟩ := K0.out.sp
    go_wp2_with fail
    refine (HM1.out w2 K0.out.oka).mono ?_
    rintro e w3 ⟨rfl, hb⟩
    have K1 := Lib.hid (K0.out.next hb)
    clear K0 hb a0 a1 a2 b0 b1 b2 d0 d1 l0 l1 l2 lt HM1
    obtain ⟨a0, a1, a2, b0, b1, b2, d0, d1, l0, l1, l2, lt⟩ := K1.out.sp
    go_wp2_with fail
    have hal := (Below.refl w3.heap.size w3).alloc (Nat.le_refl _) (.cells #[.int .i64 x.r, .int .i64 x.c, .int .i64 x.q, .int .u64 (x.t : Int)] 54)
    have KA := Lib.hid (K1.out.next hal)
    have BX := Lib.hid (BlkM.new w3 x)
    obtain ⟨g1, hg1⟩ : ∃ g, w3.heap.size = g := ⟨_, rfl⟩
    rw [hg1] at BX ⊢
    clear hal hg1
    generalize World.alloc w3 _ = w3a at KA BX ⊢
    clear K1 a0 a1 a2 b0 b1 b2 d0 d1 l0 l1 l2 lt
    refine (HM2.out w3a KA.out.okb).mono ?_
    rintro e w4 ⟨rfl, hb⟩
    have K2 := Lib.hid (KA.out.next hb)
    have BX2 := Lib.hid (BX.out.below hb)
    clear KA hb BX HM2
    have hal := (Below.refl w4.heap.size w4).alloc (Nat.le_refl _) (.cells #[.int .i64 y.r, .int .i64 y.c, .int .i64 y.q, .int .u64 (y.t : Int)] 54)
    have K3 := Lib.hid (K2.out.next hal)
    have BX3 := Lib.hid (BX2.out.below hal)
    have BY3 := Lib.hid (BlkM.new w4 y)
    clear hal
    obtain ⟨a0, a1, a2, b0, b1, b2, d0, d1, l0, l1, l2, lt⟩ := K2.out.sp
    have x0 := BX2.out.cell0
    have x1 := BX2.out.cell1
    have x2 := BX2.out.cell2
    have x3 := BX2.out.cell3
    have xl := BX2.out.lt
    have hB := K2.out.res
    obtain ⟨z0, z1, z2, z3, f0, f1, f2, f3⟩ := hB.zeros
    go_wp2_with fail
    refine (HN.out _).mono ?_
    rintro e w5 ⟨rfl, hb⟩
    have K5 := Lib.hid (K3.out.next hb)
    have BX5 := Lib.hid (BX3.out.below hb)
    have BY5 := Lib.hid (BY3.out.below hb)
    clear K2 K3 BX2 BX3 BY3 hb a0 a1 a2 b0 b1 b2 d0 d1 l0 l1 l2 lt x0 x1 x2 x3 xl z0 z1 z2 z3 f0 f1 f2 f3 hB
    obtain ⟨a0, a1, a2, b0, b1, b2, d0, d1, l0, l1, l2, lt⟩ := K5.out.sp
    have x0 := BX5.out.cell0
    have x1 := BX5.out.cell1
    have x2 := BX5.out.cell2
    have x3 := BX5.out.cell3
    have y0 := BY5.out.cell0
    have y1 := BY5.out.cell1
    have y2 := BY5.out.cell2
    have y3 := BY5.out.cell3
    have hB := K5.out.res
    have hbe := K5.out.bel
    obtain ⟨z0, z1, z2, z3, f0, f1, f2, f3⟩ := hB.zeros
    go_wp2_with fail
    have hS := hB.set x
    have s0 := hS.cell0
    have s1 := hS.cell1
    have s2 := hS.cell2
    have s3 := hS.cell3
    refine bodyPost_ret (v := .tuple #[mkV x, .bool true]) (by simp [results, Tryz.results45, go_sem, s0, s1, s2, s3]) rfl ⟨by rw [← HF.out]; rfl, below_setM hbe (Nat.le_add_right _ 3) x⟩
  · have HF := Lib.hid (show some x = o from HO.out)
    clear HO HMX
    go_enter Tryz.func45, Tryz.ntmps45
    go_wp2_with fail
    generalize World.alloc (World.alloc (World.alloc (World.alloc w _) _) _) _ = w2 at K0 ⊢
    obtain ⟨a0, a1, a2, b0, b1, b2, d0, d1, l0, l1, l2, lt⟩ := K0.out.sp
    go_wp2_with fail
    refine (HM1.out w2 K0.out.oka).mono ?_
    rintro e w3 ⟨rfl, hb⟩
    have K1 := Lib.hid (K0.out.next hb)
    clear K0 hb a0 a1 a2 b0 b1 b2 d0 d1 l0 l1 l2 lt HM1
    obtain ⟨a0, a1, a2, b0, b1, b2, d0, d1, l0, l1, l2, lt⟩ := K1.out.sp
    go_wp2_with fail
    have hal := (Below.refl w3.heap.size w3).alloc (Nat.le_refl _) (.cells #[.int .i64 x.r, .int .i64 x.c, .int .i64 x.q, .int .u64 (x.t : Int)] 54)
    have KA := Lib.hid (K1.out.next hal)
    have BX := Lib.hid (BlkM.new w3 x)
    obtain ⟨g1, hg1⟩ : ∃ g, w3.heap.size = g := ⟨_, rfl⟩
    rw [hg1] at BX ⊢
    clear hal hg1
    generalize World.alloc w3 _ = w3a at KA BX ⊢
    clear K1 a0 a1 a2 b0 b1 b2 d0 d1 l0 l1 l2 lt
    refine (HM2.out w3a KA.out.okb).mono ?_
    rintro e w4 ⟨rfl, hb⟩
    have K2 := Lib.hid (KA.out.next hb)
    have BX2 := Lib.hid (BX.out.below hb)
    clear KA hb BX HM2
    have hal := (Below.refl w4.heap.size w4).alloc (Nat.le_refl _) (.cells #[.int .i64 y.r, .int .i64 y.c, .int .i64 y.q, .int .u64 (y.t : Int)] 54)
    have K3 := Lib.hid (K2.out.next hal)
    have BX3 := Lib.hid (BX2.out.below hal)
    have BY3 := Lib.hid (BlkM.new w4 y)
    clear hal
    obtain ⟨a0, a1, a2, b0, b1, b2, d0, d1, l0, l1, l2, lt⟩ := K2.out.sp
    have x0 := BX2.out.cell0
    have x1 := BX2.out.cell1
    have x2 := BX2.out.cell2
    have x3 := BX2.out.cell3
    have xl := BX2.out.lt
    have hB := K2.out.res
    obtain ⟨z0, z1, z2, z3, f0, f1, f2, f3⟩ := hB.zeros
    go_wp2_with fail
    refine (HQ.out _ K3.out.okb).mono ?_
    rintro e w5 ⟨rfl, hb⟩
    have K5 := Lib.hid (K3.out.next hb)
    have BX5 := Lib.hid (BX3.out.below hb)
    have BY5 := Lib.hid (BY3.out.below hb)
    clear K2 K3 BX2 BX3 BY3 hb a0 a1 a2 b0 b1 b2 d0 d1 l0 l1 l2 lt x0 x1 x2 x3 xl z0 z1 z2 z3 f0 f1 f2 f3 hB
    obtain ⟨a0, a1, a2, b0, b1, b2, d0, d1, l0, l1, l2, lt⟩ := K5.out.sp
    have x0 := BX5.out.cell0
    have x1 := BX5.out.cell1
    have x2 := BX5.out.cell2
    have x3 := BX5.out.cell3
    have y0 := BY5.out.cell0
    have y1 := BY5.out.cell1
    have y2 := BY5.out.cell2
    have y3 := BY5.out.cell3
    have hB := K5.out.res
    have hbe := K5.out.bel
    obtain ⟨z0, z1, z2, z3, f0, f1, f2, f3⟩ := hB.zeros
    go_wp2_with fail
    have hS := hB.set x
    have s0 := hS.cell0
    have s1 := hS.cell1
    have s2 := hS.cell2
    have s3 := hS.cell3
    refine bodyPost_ret (v := .tuple #[mkV x, .bool true]) (by simp [results, Tryz.results45, go_sem, s0, s1, s2, s3]) rfl ⟨by rw [← HF.out]; rfl, below_setM hbe (Nat.le_add_right _ 3) x⟩
  · have HF := Lib.hid (show (none : Option Mk) = o from HO.out)
    clear HO HMX
    go_enter Tryz.func45, Tryz.ntmps45
    go_wp2_with fail
    generalize World.alloc (World.alloc (World.alloc (World.alloc w _) _) _) _ = w2 at K0 ⊢
    obtain ⟨a0, a1, a2, b0, b1, b2, d0, d1, l0, l1, l2, lt⟩ := K0.out.sp
    go_wp2_with fail
    refine (HM1.out w2 K0.out.oka).mono ?_
    rintro e w3 ⟨rfl, hb⟩
    have K1 := Lib.hid (K0.out.next hb)
    clear K0 hb a0 a1 a2 b0 b1 b2 d0 d1 l0 l1 l2 lt HM1
    obtain ⟨a0, a1, a2, b0, b1, b2, d0, d1, l0, l1, l2, lt⟩ := K1.out.sp
    go_wp2_with fail
    have hal := (Below.refl w3.heap.size w3).alloc (Nat.le_refl _) (.cells #[.int .i64 x.r, .int .i64 x.c, .int .i64 x.q, .int .u64 (x.t : Int)] 54)
    have KA := Lib.hid (K1.out.next hal)
    have BX := Lib.hid (BlkM.new w3 x)
    obtain ⟨g1, hg1⟩ : ∃ g, w3.heap.size = g := ⟨_, rfl⟩
    rw [hg1] at BX ⊢
    clear hal hg1
    generalize World.alloc w3 _ = w3a at KA BX ⊢
    clear K1 a0 a1 a2 b0 b1 b2 d0 d1 l0 l1 l2 lt
    refine (HM2.out w3a KA.out.okb).mono ?_
    rintro e w4 ⟨rfl, hb⟩
    have K2 := Lib.hid (KA.out.next hb)
    have BX2 := Lib.hid (BX.out.below hb)
    clear KA hb BX HM2
    have hal := (Below.refl w4.heap.size w4).alloc (Nat.le_refl _) (.cells #[.int .i64 y.r, .int .i64 y.c, .int .i64 y.q, .int .u64 (y.t : Int)] 54)
    have K3 := Lib.hid (K2.out.next hal)
    have BX3 := Lib.hid (BX2.out.below hal)
    have BY3 := Lib.hid (BlkM.new w4 y)
    clear hal
    obtain ⟨a0, a1, a2, b0, b1, b2, d0, d1, l0, l1, l2, lt⟩ := K2.out.sp
    have x0 := BX2.out.cell0
    have x1 := BX2.out.cell1
    have x2 := BX2.out.cell2
    have x3 := BX2.out.cell3
    have xl := BX2.out.lt
    have hB := K2.out.res
    obtain ⟨z0, z1, z2, z3, f0, f1, f2, f3⟩ := hB.zeros
    go_wp2_with fail
    refine (HQ.out _ K3.out.okb).mono ?_
    rintro e w5 ⟨rfl, hb⟩
    have K5 := Lib.hid (K3.out.next hb)
    have BX5 := Lib.hid (BX3.out.below hb)
    have BY5 := Lib.hid (BY3.out.below hb)
    clear K2 K3 BX2 BX3 BY3 hb a0 a1 a2 b0 b1 b2 d0 d1 l0 l1 l2 lt x0 x1 x2 x3 xl z0 z1 z2 z3 f0 f1 f2 f3 hB
    obtain ⟨a0, a1, a2, b0, b1, b2, d0, d1, l0, l1, l2, lt⟩ := K5.out.sp
    have x0 := BX5.out.cell0
    have x1 := BX5.out.cell1
    have x2 := BX5.out.cell2
    have x3 := BX5.out.cell3
    have y0 := BY5.out.cell0
    have y1 := BY5.out.cell1
    have y2 := BY5.out.cell2
    have y3 := BY5.out.cell3
    have hB := K5.out.res
    have hbe := K5.out.bel
    obtain ⟨z0, z1, z2, z3, f0, f1, f2, f3⟩ := hB.zeros
    go_wp2_with fail
    obtain ⟨s0, s1, s2, s3⟩ := hB.setZero
    refine bodyPost_ret (v := .tuple #[mkV Mk.zero, .bool false]) (by simp [results, Mk.zero, Tryz.results45, go_sem, s0, s1, s2, s3]) rfl ⟨by rw [← HF.out]; rfl, below_setM hbe (Nat.le_add_right _ 3) Mk.zero⟩
  · have HF := Lib.hid (show some y = o from HO.out)
    clear HO HMX
    go_enter Tryz.func45, Tryz.ntmps45
    go_wp2_with fail
    generalize World.alloc (World.alloc (World.alloc (World.alloc w _) _) _) _ = w2 at K0 ⊢
    obtain ⟨a0, a1, a2, b0, b1, b2, d0, d1, l0, l1, l2, lt⟩ := K0.out.sp
    go_wp2_with fail
    refine (HM1.out w2 K0.out.oka).mono ?_
    rintro e w3 ⟨rfl, hb⟩
    have K1 := Lib.hid (K0.out.next hb)
    clear K0 hb a0 a1 a2 b0 b1 b2 d0 d1 l0 l1 l2 lt HM1
    obtain ⟨a0, a1, a2, b0, b1, b2, d0, d1, l0, l1, l2, lt⟩ := K1.out.sp
    go_wp2_with fail
    have hal := (Below.refl w3.heap.size w3).alloc (Nat.le_refl _) (.cells #[.int .i64 x.r, .int .i64 x.c, .int .i64 x.q, .int .u64 (x.t : Int)] 54)
    have KA := Lib.hid (K1.out.next hal)
    have BX := Lib.hid (BlkM.new w3 x)
    obtain ⟨g1, hg1⟩ : ∃ g, w3.heap.size = g := ⟨_, rfl⟩
    rw [hg1] at BX ⊢
    clear hal hg1
    generalize World.alloc w3 _ = w3a at KA BX ⊢
    clear K1 a0 a1 a2 b0 b1 b2 d0 d1 l0 l1 l2 lt
    refine (HM2.out w3a KA.out.okb).mono ?_
    rintro e w4 ⟨rfl, hb⟩
    have K2 := Lib.hid (KA.out.next hb)
    have BX2 := Lib.hid (BX.out.below hb)
    clear KA hb BX HM2
    have hal := (Below.refl w4.heap.size w4).alloc (Nat.le_refl _) (.cells #[.int .i64 y.r, .int .i64 y.c, .int .i64 y.q, .int .u64 (y.t : Int)] 54)
    have K3 := Lib.hid (K2.out.next hal)
    have BX3 := Lib.hid (BX2.out.below hal)
    have BY3 := Lib.hid (BlkM.new w4 y)
    clear hal
    obtain ⟨a0, a1, a2, b0, b1, b2, d0, d1, l0, l1, l2, lt⟩ := K2.out.sp
    have x0 := BX2.out.cell0
    have x1 := BX2.out.cell1
    have x2 := BX2.out.cell2
    have x3 := BX2.out.cell3
    have xl := BX2.out.lt
    have hB := K2.out.res
    obtain ⟨z0, z1, z2, z3, f0, f1, f2, f3⟩ := hB.zeros
    go_wp2_with fail
    refine (HP.out _ K3.out.oka).mono ?_
    rintro e w5 ⟨rfl, hb⟩
    have K5 := Lib.hid (K3.out.next hb)
    have BX5 := Lib.hid (BX3.out.below hb)
    have BY5 := Lib.hid (BY3.out.below hb)
    clear K2 K3 BX2 BX3 BY3 hb a0 a1 a2 b0 b1 b2 d0 d1 l0 l1 l2 lt x0 x1 x2 x3 xl z0 z1 z2 z3 f0 f1 f2 f3 hB
    obtain ⟨a0, a1, a2, b0, b1, b2, d0, d1, l0, l1, l2, lt⟩ := K5.out.sp
    have x0 := BX5.out.cell0
    have x1 := BX5.out.cell1
    have x2 := BX5.out.cell2
    have x3 := BX5.out.cell3
    have y0 := BY5.out.cell0
    have y1 := BY5.out.cell1
    have y2 := BY5.out.cell2
    have y3 := BY5.out.cell3
    have hB := K5.out.res
    have hbe := K5.out.bel
    obtain ⟨z0, z1, z2, z3, f0, f1, f2, f3⟩ := hB.zeros
    go_wp2_with fail
    have hS := hB.set y
    have s0 := hS.cell0
    have s1 := hS.cell1
    have s2 := hS.cell2
    have s3 := hS.cell3
    refine bodyPost_ret (v := .tuple #[mkV y, .bool true]) (by simp [results, Tryz.results45, go_sem, s0, s1, s2, s3]) rfl ⟨by rw [← HF.out]; rfl, below_setM hbe (Nat.le_add_right _ 3) y⟩
  · have HF := Lib.hid (show (none : Option Mk) = o from HO.out)
    clear HO HMX
    go_enter Tryz.func45, Tryz.ntmps45
    go_wp2_with fail
    generalize World.alloc (World.alloc (World.alloc (World.alloc w _) _) _) _ = w2 at K0 ⊢
    obtain ⟨a0, a1, a2, b0, b1, b2, d0, d1, l0, l1, l2, lt⟩ := K0.out.sp
    go_wp2_with fail
    refine (HM1.out w2 K0.out.oka).mono ?_
    rintro e w3 ⟨rfl, hb⟩
    have K1 := Lib.hid (K0.out.next hb)
    clear K0 hb a0 a1 a2 b0 b1 b2 d0 d1 l0 l1 l2 lt HM1
    obtain ⟨a0, a1, a2, b0, b1, b2, d0, d1, l0, l1, l2, lt⟩ := K1.out.sp
    go_wp2_with fail
    have hal := (Below.refl w3.heap.size w3).alloc (Nat.le_refl _) (.cells #[.int .i64 x.r, .int .i64 x.c, .int .i64 x.q, .int .u64 (x.t : Int)] 54)
    have KA := Lib.hid (K1.out.next hal)
    have BX := Lib.hid (BlkM.new w3 x)
    obtain ⟨g1, hg1⟩ : ∃ g, w3.heap.size = g := ⟨_, rfl⟩
    rw [hg1] at BX ⊢
    clear hal hg1
    generalize World.alloc w3 _ = w3a at KA BX ⊢
    clear K1 a0 a1 a2 b0 b1 b2 d0 d1 l0 l1 l2 lt
    refine (HM2.out w3a KA.out.okb).mono ?_
    rintro e w4 ⟨rfl, hb⟩
    have K2 := Lib.hid (KA.out.next hb)
    have BX2 := Lib.hid (BX.out.below hb)
    clear KA hb BX HM2
    have hal := (Below.refl w4.heap.size w4).alloc (Nat.le_refl _) (.cells #[.int .i64 y.r, .int .i64 y.c, .int .i64 y.q, .int .u64 (y.t : Int)] 54)
    have K3 := Lib.hid (K2.out.next hal)
    have BX3 := Lib.hid (BX2.out.below hal)
    have BY3 := Lib.hid (BlkM.new w4 y)
    clear hal
    obtain ⟨a0, a1, a2, b0, b1, b2, d0, d1, l0, l1, l2, lt⟩ := K2.out.sp
    have x0 := BX2.out.cell0
    have x1 := BX2.out.cell1
    have x2 := BX2.out.cell2
    have x3 := BX2.out.cell3
    have xl := BX2.out.lt
    have hB := K2.out.res
    obtain ⟨z0, z1, z2, z3, f0, f1, f2, f3⟩ := hB.zeros
    go_wp2_with fail
    refine (HP.out _ K3.out.oka).mono ?_
    rintro e w5 ⟨rfl, hb⟩
    have K5 := Lib.hid (K3.out.next hb)
    have BX5 := Lib.hid (BX3.out.below hb)
    have BY5 := Lib.hid (BY3.out.below hb)
    clear K2 K3 BX2 BX3 BY3 hb a0 a1 a2 b0 b1 b2 d0 d1 l0 l1 l2 lt x0 x1 x2 x3 xl z0 z1 z2 z3 f0 f1 f2 f3 hB
    obtain ⟨a0, a1, a2, b0, b1, b2, d0, d1, l0, l1, l2, lt⟩ := K5.out.sp
    have x0 := BX5.out.cell0
    have x1 := BX5.out.cell1
    have x2 := BX5.out.cell2
    have x3 := BX5.out.cell3
    have y0 := BY5.out.cell0
    have y1 := BY5.out.cell1
    have y2 := BY5.out.cell2
    have y3 := BY5.out.cell3
    have hB := K5.out.res
    have hbe := K5.out.bel
    obtain ⟨z0, z1, z2, z3, f0, f1, f2, f3⟩ := hB.zeros
    go_wp2_with fail
    obtain ⟨s0, s1, s2, s3⟩ := hB.setZero
    refine bodyPost_ret (v := .tuple #[mkV Mk.zero, .bool false]) (by simp [results, Mk.zero, Tryz.results45, go_sem, s0, s1, s2, s3]) rfl ⟨by rw [← HF.out]; rfl, below_setM hbe (Nat.le_add_right _ 3) Mk.zero⟩
  · have HF := Lib.hid (show (none : Option Mk) = o from HO.out)
    clear HO HMX
    go_enter Tryz.func45, Tryz.ntmps45
    go_wp2_with fail
    generalize World.alloc (World.alloc (World.alloc (World.alloc w _) _) _) _ = w2 at K0 ⊢
    obtain ⟨a0, a1, a2, b0, b1, b2, d0, d1, l0, l1, l2, lt⟩ := K0.out.sp
    go_wp2_with fail
    refine (HM1.out w2 K0.out.oka).mono ?_
    rintro e w3 ⟨rfl, hb⟩
    have K1 := Lib.hid (K0.out.next hb)
    clear K0 hb a0 a1 a2 b0 b1 b2 d0 d1 l0 l1 l2 lt HM1
    obtain ⟨a0, a1, a2, b0, b1, b2, d0, d1, l0, l1, l2, lt⟩ := K1.out.sp
    go_wp2_with fail
    have hal := (Below.refl w3.heap.size w3).alloc (Nat.le_refl _) (.cells #[.int .i64 x.r, .int .i64 x.c, .int .i64 x.q, .int .u64 (x.t : Int)] 54)
    have KA := Lib.hid (K1.out.next hal)
    have BX := Lib.hid (BlkM.new w3 x)
    obtain ⟨g1, hg1⟩ : ∃ g, w3.heap.size = g := ⟨_, rfl⟩
    rw [hg1] at BX ⊢
    clear hal hg1
    generalize World.alloc w3 _ = w3a at KA BX ⊢
    clear K1 a0 a1 a2 b0 b1 b2 d0 d1 l0 l1 l2 lt
    refine (HM2.out w3a KA.out.okb).mono ?_
    rintro e w4 ⟨rfl, hb⟩
    have K2 := Lib.hid (KA.out.next hb)
    have BX2 := Lib.hid (BX.out.below hb)
    clear KA hb BX HM2
    have hal := (Below.refl w4.heap.size w4).alloc (Nat.le_refl _) (.cells #[.int .i64 y.r, .int .i64 y.c, .int .i64 y.q, .int .u64 (y.t : Int)] 54)
    have K3 := Lib.hid (K2.out.next hal)
    have BX3 := Lib.hid (BX2.out.below hal)
    have BY3 := Lib.hid (BlkM.new w4 y)
    clear hal
    obtain ⟨a0, a1, a2, b0, b1, b2, d0, d1, l0, l1, l2, lt⟩ := K2.out.sp
    have x0 := BX2.out.cell0
    have x1 := BX2.out.cell1
    have x2 := BX2.out.cell2
    have x3 := BX2.out.cell3
    have xl := BX2.out.lt
    have hB := K2.out.res
    obtain ⟨z0, z1, z2, z3, f0, f1, f2, f3⟩ := hB.zeros
    go_wp2_with fail
    obtain ⟨s0, s1, s2, s3⟩ := hB.setZeroA (.cells #[.int .i64 y.r, .int .i64 y.c, .int .i64 y.q, .int .u64 (y.t : Int)] 54)
    refine bodyPost_ret (v := .tuple #[mkV Mk.zero, .bool false]) (by simp [results, Mk.zero, Tryz.results45, go_sem, s0, s1, s2, s3]) rfl ⟨by rw [← HF.out]; rfl, below_trans (below_setM K2.out.bel (Nat.le_add_right _ 3) Mk.zero) ((Below.refl _ _).alloc (Nat.le_refl _) _)⟩

end

end Go.Proofs.YtfjbocipjmpogaaGreat
