/- Several texts in one: DecP. -/
import Derived.Test.YtpnemekkpifbaaaGreatMBA
namespace Go.Proofs.YtpnemekkpifbaaaGreat

section
open Go.RowKit

theorem ex1 : decC [0, 0, 0] = some nilCa := by decide +kernel
theorem ex2 : decC [1, 2, 3, 1, 5, 9, 1, 3, 116, 101, 97, 1, 2, 3, 200, 1, 1] = some exC := by decide +kernel
theorem ex3 : decC [0, 0] = none := by decide +kernel
theorem ex4 : decC [0, 0, 0, 0] = none := by decide +kernel
theorem ex5 : decC [0, 0, 128, 0] = none := by decide +kernel
theorem ex6 : decC [] = none := by decide +kernel
theorem ex7 : decC [0, 1, 5, 1, 0] = none := by decide +kernel
theorem opt_pair {α β : Type} {o : Option (α × β)} {a : α} {b : β} (h1 : o.map Prod.fst = some a) (h2 : o.map Prod.snd = some b) : o = some (a, b) := by
  cases o with
  | none => cases h1
  | some v => rw [← Option.some.inj h1, ← Option.some.inj h2]
theorem ex8 : preC [0, 0, 0, 7, 7] = some (nilCa, 3) := opt_pair (by decide +kernel) (by decide +kernel)
theorem ex9 : preC [7, 7] = none := by
  have h : (preC [7, 7]).map Prod.snd = none := by decide +kernel
  cases e : preC [7, 7] with
  | none => rfl
  | some v => rw [e] at h; cases h
theorem ex10 : cntC [0, 0, 0, 1, 2, 3, 0, 0] = some 2 := by decide +kernel
theorem ex11 : cntC [] = some 0 := by decide +kernel
theorem ex12 : cntC [0, 0, 0, 0] = none := by decide +kernel
theorem ex13 : conX [1, 2, 3, 1, 5, 9] = some ([(2, 3)], [(5, 9)]) := by decide +kernel
theorem ex14 : conX [1, 2, 3] = none := by decide +kernel

set_option maxRecDepth 100000 in
set_option maxHeartbeats 8000000 in
theorem known15_w {w : World} (h : DecOK w) : Known15 w := by
  intro W hB
  have H := Lib.hid h
  have HB0 := Lib.hid hB
  clear h hB
  have h0 : (((((W.alloc (.cells #[.int .i64 2, .int .i64 3] 52)).alloc (.cells #[.int .i64 5, .int .i64 9] 52)).alloc (.cells #[.int .i64 2, .int .i64 3, .int .i64 200, .int .u64 1] 54)).alloc (.cells #[.string ⟨#[116, 101, 97]⟩, .slice (some ⟨W.heap.size + 1 + 1, 0, none⟩) 1 1] 57)).alloc (.cells #[.slice (some ⟨W.heap.size, 0, none⟩) 1 1, .slice (some ⟨W.heap.size + 1, 0, none⟩) 1 1, .slice (some ⟨W.heap.size + 1 + 1 + 1, 0, none⟩) 1 1] 31)).heap[W.heap.size]? = some (.cells #[.int .i64 2, .int .i64 3] 52 (0, 0)) := by
    rw [heap_old (by simp <;> omega), heap_old (by simp <;> omega), heap_old (by simp <;> omega), heap_old (by simp <;> omega)]
    exact heap_new (by simp)
  have h1 : (((((W.alloc (.cells #[.int .i64 2, .int .i64 3] 52)).alloc (.cells #[.int .i64 5, .int .i64 9] 52)).alloc (.cells #[.int .i64 2, .int .i64 3, .int .i64 200, .int .u64 1] 54)).alloc (.cells #[.string ⟨#[116, 101, 97]⟩, .slice (some ⟨W.heap.size + 1 + 1, 0, none⟩) 1 1] 57)).alloc (.cells #[.slice (some ⟨W.heap.size, 0, none⟩) 1 1, .slice (some ⟨W.heap.size + 1, 0, none⟩) 1 1, .slice (some ⟨W.heap.size + 1 + 1 + 1, 0, none⟩) 1 1] 31)).heap[W.heap.size + 1]? = some (.cells #[.int .i64 5, .int .i64 9] 52 (0, 0)) := by
    rw [heap_old (by simp <;> omega), heap_old (by simp <;> omega), heap_old (by simp <;> omega)]
    exact heap_new (by simp)
  have h2 : (((((W.alloc (.cells #[.int .i64 2, .int .i64 3] 52)).alloc (.cells #[.int .i64 5, .int .i64 9] 52)).alloc (.cells #[.int .i64 2, .int .i64 3, .int .i64 200, .int .u64 1] 54)).alloc (.cells #[.string ⟨#[116, 101, 97]⟩, .slice (some ⟨W.heap.size + 1 + 1, 0, none⟩) 1 1] 57)).alloc (.cells #[.slice (some ⟨W.heap.size, 0, none⟩) 1 1, .slice (some ⟨W.heap.size + 1, 0, none⟩) 1 1, .slice (some ⟨W.heap.size + 1 + 1 + 1, 0, none⟩) 1 1] 31)).heap[W.heap.size + 1 + 1]? = some (.cells #[.int .i64 2, .int .i64 3, .int .i64 200, .int .u64 1] 54 (0, 0)) := by
    rw [heap_old (by simp <;> omega), heap_old (by simp <;> omega)]
    exact heap_new (by simp)
  have h3 : (((((W.alloc (.cells #[.int .i64 2, .int .i64 3] 52)).alloc (.cells #[.int .i64 5, .int .i64 9] 52)).alloc (.cells #[.int .i64 2, .int .i64 3, .int .i64 200, .int .u64 1] 54)).alloc (.cells #[.string ⟨#[116, 101, 97]⟩, .slice (some ⟨W.heap.size + 1 + 1, 0, none⟩) 1 1] 57)).alloc (.cells #[.slice (some ⟨W.heap.size, 0, none⟩) 1 1, .slice (some ⟨W.heap.size + 1, 0, none⟩) 1 1, .slice (some ⟨W.heap.size + 1 + 1 + 1, 0, none⟩) 1 1] 31)).heap[W.heap.size + 1 + 1 + 1]? = some (.cells #[.string ⟨#[116, 101, 97]⟩, .slice (some ⟨W.heap.size + 1 + 1, 0, none⟩) 1 1] 57 (0, 0)) := by
    rw [heap_old (by simp <;> omega)]
    exact heap_new (by simp)
  have h4 : (((((W.alloc (.cells #[.int .i64 2, .int .i64 3] 52)).alloc (.cells #[.int .i64 5, .int .i64 9] 52)).alloc (.cells #[.int .i64 2, .int .i64 3, .int .i64 200, .int .u64 1] 54)).alloc (.cells #[.string ⟨#[116, 101, 97]⟩, .slice (some ⟨W.heap.size + 1 + 1, 0, none⟩) 1 1] 57)).alloc (.cells #[.slice (some ⟨W.heap.size, 0, none⟩) 1 1, .slice (some ⟨W.heap.size + 1, 0, none⟩) 1 1, .slice (some ⟨W.heap.size + 1 + 1 + 1, 0, none⟩) 1 1] 31)).heap[W.heap.size + 1 + 1 + 1 + 1]? = some (.cells #[.slice (some ⟨W.heap.size, 0, none⟩) 1 1, .slice (some ⟨W.heap.size + 1, 0, none⟩) 1 1, .slice (some ⟨W.heap.size + 1 + 1 + 1, 0, none⟩) 1 1] 31 (0, 0)) := by
    exact heap_new (by simp)
  have hb : Below W.heap.size W (((((W.alloc (.cells #[.int .i64 2, .int .i64 3] 52)).alloc (.cells #[.int .i64 5, .int .i64 9] 52)).alloc (.cells #[.int .i64 2, .int .i64 3, .int .i64 200, .int .u64 1] 54)).alloc (.cells #[.string ⟨#[116, 101, 97]⟩, .slice (some ⟨W.heap.size + 1 + 1, 0, none⟩) 1 1] 57)).alloc (.cells #[.slice (some ⟨W.heap.size, 0, none⟩) 1 1, .slice (some ⟨W.heap.size + 1, 0, none⟩) 1 1, .slice (some ⟨W.heap.size + 1 + 1 + 1, 0, none⟩) 1 1] 31)) := ((((((Below.refl W.heap.size W).alloc (Nat.le_refl _) _).alloc (by simp) _).alloc (by simp; omega) _).alloc (by simp; omega) _).alloc (by simp; omega) _)
  have HH := Lib.hid (And.intro h0 (And.intro h1 (And.intro h2 (And.intro h3 (And.intro h4 hb)))))
  clear h0 h1 h2 h3 h4 hb
  go_enter Tryz.func8, Tryz.ntmps8
  go_upto_region 2 with fail
  generalize (((((W.alloc (.cells #[.int .i64 2, .int .i64 3] 52)).alloc (.cells #[.int .i64 5, .int .i64 9] 52)).alloc (.cells #[.int .i64 2, .int .i64 3, .int .i64 200, .int .u64 1] 54)).alloc (.cells #[.string ⟨#[116, 101, 97]⟩, .slice (some ⟨W.heap.size + 1 + 1, 0, none⟩) 1 1] 57)).alloc (.cells #[.slice (some ⟨W.heap.size, 0, none⟩) 1 1, .slice (some ⟨W.heap.size + 1, 0, none⟩) 1 1, .slice (some ⟨W.heap.size + 1 + 1 + 1, 0, none⟩) 1 1] 31)) = w5 at HH ⊢
  obtain ⟨h0, h1, h2, h3, h4, hb⟩ := HH.out
  have hv : Holds w5 (.slice (some ⟨W.heap.size, 0, none⟩) 1 1) [(2, 3)] := ⟨_, 1, rfl, SlAt.one h0, by simp, by simp [maxLen]⟩
  have hl : Holds w5 (.slice (some ⟨W.heap.size + 1, 0, none⟩) 1 1) [(5, 9)] := ⟨_, 1, rfl, SlAt.one h1, by simp, by simp [maxLen]⟩
  have hm : MarksAt w5 (some ⟨W.heap.size + 1 + 1, 0, none⟩) [(⟨2, 3, 200, 1⟩ : Mk)] := SlAt.one h2
  have hi : HoldsX w5 (.slice (some ⟨W.heap.size + 1 + 1 + 1, 0, none⟩) 1 1) [(⟨[116, 101, 97], some ⟨W.heap.size + 1 + 1, 0, none⟩, 1, [⟨2, 3, 200, 1⟩]⟩ : ItV)] :=
    ⟨_, 1, rfl, ⟨SlAt.one h3, fun x hx => by
      obtain rfl : x = _ := List.mem_singleton.1 hx
      exact ⟨hm, by simp, by simp [maxLen]⟩⟩, by simp, by simp [maxLen]⟩
  generalize hg : W.heap.size + 1 + 1 + 1 + 1 = g at h4 ⊢
  have KZ := Lib.hid (show KK W [(g, (⟨some ⟨W.heap.size, 0, none⟩, 1, [(2, 3)], some ⟨W.heap.size + 1, 0, none⟩, 1, [(5, 9)], some ⟨W.heap.size + 1 + 1 + 1, 0, none⟩, 1, [⟨[116, 101, 97], some ⟨W.heap.size + 1 + 1, 0, none⟩, 1, [⟨2, 3, 200, 1⟩]⟩]⟩ : CaV))] w5 from ⟨fun q hq => by
    obtain rfl : q = _ := List.mem_singleton.1 hq
    exact ⟨h4, hv, hl, hi⟩, hb⟩)
  have HB := Lib.hid hb
  obtain ⟨c, hc⟩ : ∃ c, (⟨some ⟨W.heap.size, 0, none⟩, 1, [(2, 3)], some ⟨W.heap.size + 1, 0, none⟩, 1, [(5, 9)], some ⟨W.heap.size + 1 + 1 + 1, 0, none⟩, 1, [⟨[116, 101, 97], some ⟨W.heap.size + 1 + 1, 0, none⟩, 1, [⟨2, 3, 200, 1⟩]⟩]⟩ : CaV) = c := ⟨_, rfl⟩
  rw [hc] at KZ
  have HCA := Lib.hid (show c.ca = exC from by rw [← hc]; rfl)
  have HCC := Lib.hid hc
  clear h0 h1 h2 h3 h4 hb hv hl hm hi HH hc
  clear hg
  have hli : HoldsB (w5.alloc (.cells #[.int .u8 0, .int .u8 0, .int .u8 0] 5)) (.slice (some ⟨w5.heap.size, 0, none⟩) ([0, 0, 0] : List UInt8).length 3) [0, 0, 0] := litB w5 [0, 0, 0] (by decide)
  have hup : Below w5.heap.size w5 (w5.alloc (.cells #[.int .u8 0, .int .u8 0, .int .u8 0] 5)) := (Below.refl _ _).alloc (Nat.le_refl _) _
  have HCL := Lib.hid (lawIs_t H.out _ [0, 0, 0] 3 nilC (w5.alloc (.cells #[.int .u8 0, .int .u8 0, .int .u8 0] 5)) (below_trans HB0.out (below_trans HB.out hup)) hli (by decide) (nilC_ok _) ex1)
  have HUP := Lib.hid hup
  obtain ⟨x0, x1, x2, xl, _⟩ := KZ.out.sp
  clear hli hup
  go_wp2_with fail
  refine HCL.out.mono ?_
  rintro e w6 ⟨rfl, hb⟩
  have HB := Lib.hid (below_trans HB.out (below_trans HUP.out hb))
  have KZ := Lib.hid (KZ.out.next (below_trans HUP.out hb))
  clear hb HCL HUP x0 x1 x2 xl
  have hli : HoldsB (w6.alloc (.cells #[.int .u8 1, .int .u8 2, .int .u8 3, .int .u8 1, .int .u8 5, .int .u8 9, .int .u8 1, .int .u8 3, .int .u8 116, .int .u8 101, .int .u8 97, .int .u8 1, .int .u8 2, .int .u8 3, .int .u8 200, .int .u8 1, .int .u8 1] 5)) (.slice (some ⟨w6.heap.size, 0, none⟩) ([1, 2, 3, 1, 5, 9, 1, 3, 116, 101, 97, 1, 2, 3, 200, 1, 1] : List UInt8).length 17) [1, 2, 3, 1, 5, 9, 1, 3, 116, 101, 97, 1, 2, 3, 200, 1, 1] := litB w6 [1, 2, 3, 1, 5, 9, 1, 3, 116, 101, 97, 1, 2, 3, 200, 1, 1] (by decide)
  have hup : Below w6.heap.size w6 (w6.alloc (.cells #[.int .u8 1, .int .u8 2, .int .u8 3, .int .u8 1, .int .u8 5, .int .u8 9, .int .u8 1, .int .u8 3, .int .u8 116, .int .u8 101, .int .u8 97, .int .u8 1, .int .u8 2, .int .u8 3, .int .u8 200, .int .u8 1, .int .u8 1] 5)) := (Below.refl _ _).alloc (Nat.le_refl _) _
  have HCL := Lib.hid (lawIs_t H.out _ [1, 2, 3, 1, 5, 9, 1, 3, 116, 101, 97, 1, 2, 3, 200, 1, 1] 17 c (w6.alloc (.cells #[.int .u8 1, .int .u8 2, .int .u8 3, .int .u8 1, .int .u8 5, .int .u8 9, .int .u8 1, .int .u8 3, .int .u8 116, .int .u8 101, .int .u8 97, .int .u8 1, .int .u8 2, .int .u8 3, .int .u8 200, .int .u8 1, .int .u8 1] 5)) (below_trans HB0.out (below_trans HB.out hup)) hli (by decide) ((KZ.out.next hup).ok (g := g) (by simp)) (by rw [HCA.out]; exact ex2))
  have HUP := Lib.hid hup
  obtain ⟨x0, x1, x2, xl, _⟩ := KZ.out.sp
  clear hli hup
  go_wp2_with fail
  refine HCL.out.mono ?_
  rintro e w7 ⟨rfl, hb⟩
  have HB := Lib.hid (below_trans HB.out (below_trans HUP.out hb))
  have KZ := Lib.hid (KZ.out.next (below_trans HUP.out hb))
  clear hb HCL HUP x0 x1 x2 xl
  have l0 : HoldsB (((((w7.alloc (.cells #[.int .u8 0, .int .u8 0] 5)).alloc (.cells #[.int .u8 0, .int .u8 0, .int .u8 0, .int .u8 0] 5)).alloc (.cells #[.int .u8 0, .int .u8 0, .int .u8 128, .int .u8 0] 5)).alloc (.cells #[.int .u8 0, .int .u8 1, .int .u8 5, .int .u8 1, .int .u8 0] 5)).alloc (.cells #[.slice (some ⟨w7.heap.size, 0, none⟩) 2 2, .slice (some ⟨w7.heap.size + 1, 0, none⟩) 4 4, .slice (some ⟨w7.heap.size + 1 + 1, 0, none⟩) 4 4, .slice none 0 0, .slice (some ⟨w7.heap.size + 1 + 1 + 1, 0, none⟩) 5 5] 22)) (.slice (some ⟨w7.heap.size, 0, none⟩) ([0, 0] : List UInt8).length 2) [0, 0] := by
    have h : HoldsB (w7.alloc (.cells #[.int .u8 0, .int .u8 0] 5)) (.slice (some ⟨w7.heap.size, 0, none⟩) ([0, 0] : List UInt8).length 2) [0, 0] := litB w7 [0, 0] (by decide)
    have hz : Below (w7.alloc (.cells #[.int .u8 0, .int .u8 0] 5)).heap.size (w7.alloc (.cells #[.int .u8 0, .int .u8 0] 5)) (((((w7.alloc (.cells #[.int .u8 0, .int .u8 0] 5)).alloc (.cells #[.int .u8 0, .int .u8 0, .int .u8 0, .int .u8 0] 5)).alloc (.cells #[.int .u8 0, .int .u8 0, .int .u8 128, .int .u8 0] 5)).alloc (.cells #[.int .u8 0, .int .u8 1, .int .u8 5, .int .u8 1, .int .u8 0] 5)).alloc (.cells #[.slice (some ⟨w7.heap.size, 0, none⟩) 2 2, .slice (some ⟨w7.heap.size + 1, 0, none⟩) 4 4, .slice (some ⟨w7.heap.size + 1 + 1, 0, none⟩) 4 4, .slice none 0 0, .slice (some ⟨w7.heap.size + 1 + 1 + 1, 0, none⟩) 5 5] 22)) := (((((Below.refl _ (w7.alloc (.cells #[.int .u8 0, .int .u8 0] 5))).alloc (by simp <;> omega) _).alloc (by simp <;> omega) _).alloc (by simp <;> omega) _).alloc (by simp <;> omega) _)
    have h2 := h.below hz
    exact h2
  have l1 : HoldsB (((((w7.alloc (.cells #[.int .u8 0, .int .u8 0] 5)).alloc (.cells #[.int .u8 0, .int .u8 0, .int .u8 0, .int .u8 0] 5)).alloc (.cells #[.int .u8 0, .int .u8 0, .int .u8 128, .int .u8 0] 5)).alloc (.cells #[.int .u8 0, .int .u8 1, .int .u8 5, .int .u8 1, .int .u8 0] 5)).alloc (.cells #[.slice (some ⟨w7.heap.size, 0, none⟩) 2 2, .slice (some ⟨w7.heap.size + 1, 0, none⟩) 4 4, .slice (some ⟨w7.heap.size + 1 + 1, 0, none⟩) 4 4, .slice none 0 0, .slice (some ⟨w7.heap.size + 1 + 1 + 1, 0, none⟩) 5 5] 22)) (.slice (some ⟨w7.heap.size + 1, 0, none⟩) ([0, 0, 0, 0] : List UInt8).length 4) [0, 0, 0, 0] := by
    have h : HoldsB ((w7.alloc (.cells #[.int .u8 0, .int .u8 0] 5)).alloc (.cells #[.int .u8 0, .int .u8 0, .int .u8 0, .int .u8 0] 5)) (.slice (some ⟨(w7.alloc (.cells #[.int .u8 0, .int .u8 0] 5)).heap.size, 0, none⟩) ([0, 0, 0, 0] : List UInt8).length 4) [0, 0, 0, 0] := litB (w7.alloc (.cells #[.int .u8 0, .int .u8 0] 5)) [0, 0, 0, 0] (by decide)
    have hz : Below ((w7.alloc (.cells #[.int .u8 0, .int .u8 0] 5)).alloc (.cells #[.int .u8 0, .int .u8 0, .int .u8 0, .int .u8 0] 5)).heap.size ((w7.alloc (.cells #[.int .u8 0, .int .u8 0] 5)).alloc (.cells #[.int .u8 0, .int .u8 0, .int .u8 0, .int .u8 0] 5)) (((((w7.alloc (.cells #[.int .u8 0, .int .u8 0] 5)).alloc (.cells #[.int .u8 0, .int .u8 0, .int .u8 0, .int .u8 0] 5)).alloc (.cells #[.int .u8 0, .int .u8 0, .int .u8 128, .int .u8 0] 5)).alloc (.cells #[.int .u8 0, .int .u8 1, .int .u8 5, .int .u8 1, .int .u8 0] 5)).alloc (.cells #[.slice (some ⟨w7.heap.size, 0, none⟩) 2 2, .slice (some ⟨w7.heap.size + 1, 0, none⟩) 4 4, .slice (some ⟨w7.heap.size + 1 + 1, 0, none⟩) 4 4, .slice none 0 0, .slice (some ⟨w7.heap.size + 1 + 1 + 1, 0, none⟩) 5 5] 22)) := ((((Below.refl _ ((w7.alloc (.cells #[.int .u8 0, .int .u8 0] 5)).alloc (.cells #[.int .u8 0, .int .u8 0, .int .u8 0, .int .u8 0] 5))).alloc (by simp <;> omega) _).alloc (by simp <;> omega) _).alloc (by simp <;> omega) _)
    have h2 := h.below hz
    simp only [World.size_alloc] at h2
    exact h2
  have l2 : HoldsB (((((w7.alloc (.cells #[.int .u8 0, .int .u8 0] 5)).alloc (.cells #[.int .u8 0, .int .u8 0, .int .u8 0, .int .u8 0] 5)).alloc (.cells #[.int .u8 0, .int .u8 0, .int .u8 128, .int .u8 0] 5)).alloc (.cells #[.int .u8 0, .int .u8 1, .int .u8 5, .int .u8 1, .int .u8 0] 5)).alloc (.cells #[.slice (some ⟨w7.heap.size, 0, none⟩) 2 2, .slice (some ⟨w7.heap.size + 1, 0, none⟩) 4 4, .slice (some ⟨w7.heap.size + 1 + 1, 0, none⟩) 4 4, .slice none 0 0, .slice (some ⟨w7.heap.size + 1 + 1 + 1, 0, none⟩) 5 5] 22)) (.slice (some ⟨w7.heap.size + 1 + 1, 0, none⟩) ([0, 0, 128, 0] : List UInt8).length 4) [0, 0, 128, 0] := by
    have h : HoldsB (((w7.alloc (.cells #[.int .u8 0, .int .u8 0] 5)).alloc (.cells #[.int .u8 0, .int .u8 0, .int .u8 0, .int .u8 0] 5)).alloc (.cells #[.int .u8 0, .int .u8 0, .int .u8 128, .int .u8 0] 5)) (.slice (some ⟨((w7.alloc (.cells #[.int .u8 0, .int .u8 0] 5)).alloc (.cells #[.int .u8 0, .int .u8 0, .int .u8 0, .int .u8 0] 5)).heap.size, 0, none⟩) ([0, 0, 128, 0] : List UInt8).length 4) [0, 0, 128, 0] := litB ((w7.alloc (.cells #[.int .u8 0, .int .u8 0] 5)).alloc (.cells #[.int .u8 0, .int .u8 0, .int .u8 0, .int .u8 0] 5)) [0, 0, 128, 0] (by decide)
    have hz : Below (((w7.alloc (.cells #[.int .u8 0, .int .u8 0] 5)).alloc (.cells #[.int .u8 0, .int .u8 0, .int .u8 0, .int .u8 0] 5)).alloc (.cells #[.int .u8 0, .int .u8 0, .int .u8 128, .int .u8 0] 5)).heap.size (((w7.alloc (.cells #[.int .u8 0, .int .u8 0] 5)).alloc (.cells #[.int .u8 0, .int .u8 0, .int .u8 0, .int .u8 0] 5)).alloc (.cells #[.int .u8 0, .int .u8 0, .int .u8 128, .int .u8 0] 5)) (((((w7.alloc (.cells #[.int .u8 0, .int .u8 0] 5)).alloc (.cells #[.int .u8 0, .int .u8 0, .int .u8 0, .int .u8 0] 5)).alloc (.cells #[.int .u8 0, .int .u8 0, .int .u8 128, .int .u8 0] 5)).alloc (.cells #[.int .u8 0, .int .u8 1, .int .u8 5, .int .u8 1, .int .u8 0] 5)).alloc (.cells #[.slice (some ⟨w7.heap.size, 0, none⟩) 2 2, .slice (some ⟨w7.heap.size + 1, 0, none⟩) 4 4, .slice (some ⟨w7.heap.size + 1 + 1, 0, none⟩) 4 4, .slice none 0 0, .slice (some ⟨w7.heap.size + 1 + 1 + 1, 0, none⟩) 5 5] 22)) := (((Below.refl _ (((w7.alloc (.cells #[.int .u8 0, .int .u8 0] 5)).alloc (.cells #[.int .u8 0, .int .u8 0, .int .u8 0, .int .u8 0] 5)).alloc (.cells #[.int .u8 0, .int .u8 0, .int .u8 128, .int .u8 0] 5))).alloc (by simp <;> omega) _).alloc (by simp <;> omega) _)
    have h2 := h.below hz
    simp only [World.size_alloc] at h2
    exact h2
  have l3 : HoldsB (((((w7.alloc (.cells #[.int .u8 0, .int .u8 0] 5)).alloc (.cells #[.int .u8 0, .int .u8 0, .int .u8 0, .int .u8 0] 5)).alloc (.cells #[.int .u8 0, .int .u8 0, .int .u8 128, .int .u8 0] 5)).alloc (.cells #[.int .u8 0, .int .u8 1, .int .u8 5, .int .u8 1, .int .u8 0] 5)).alloc (.cells #[.slice (some ⟨w7.heap.size, 0, none⟩) 2 2, .slice (some ⟨w7.heap.size + 1, 0, none⟩) 4 4, .slice (some ⟨w7.heap.size + 1 + 1, 0, none⟩) 4 4, .slice none 0 0, .slice (some ⟨w7.heap.size + 1 + 1 + 1, 0, none⟩) 5 5] 22)) (.slice (some ⟨w7.heap.size + 1 + 1 + 1, 0, none⟩) ([0, 1, 5, 1, 0] : List UInt8).length 5) [0, 1, 5, 1, 0] := by
    have h : HoldsB ((((w7.alloc (.cells #[.int .u8 0, .int .u8 0] 5)).alloc (.cells #[.int .u8 0, .int .u8 0, .int .u8 0, .int .u8 0] 5)).alloc (.cells #[.int .u8 0, .int .u8 0, .int .u8 128, .int .u8 0] 5)).alloc (.cells #[.int .u8 0, .int .u8 1, .int .u8 5, .int .u8 1, .int .u8 0] 5)) (.slice (some ⟨(((w7.alloc (.cells #[.int .u8 0, .int .u8 0] 5)).alloc (.cells #[.int .u8 0, .int .u8 0, .int .u8 0, .int .u8 0] 5)).alloc (.cells #[.int .u8 0, .int .u8 0, .int .u8 128, .int .u8 0] 5)).heap.size, 0, none⟩) ([0, 1, 5, 1, 0] : List UInt8).length 5) [0, 1, 5, 1, 0] := litB (((w7.alloc (.cells #[.int .u8 0, .int .u8 0] 5)).alloc (.cells #[.int .u8 0, .int .u8 0, .int .u8 0, .int .u8 0] 5)).alloc (.cells #[.int .u8 0, .int .u8 0, .int .u8 128, .int .u8 0] 5)) [0, 1, 5, 1, 0] (by decide)
    have hz : Below ((((w7.alloc (.cells #[.int .u8 0, .int .u8 0] 5)).alloc (.cells #[.int .u8 0, .int .u8 0, .int .u8 0, .int .u8 0] 5)).alloc (.cells #[.int .u8 0, .int .u8 0, .int .u8 128, .int .u8 0] 5)).alloc (.cells #[.int .u8 0, .int .u8 1, .int .u8 5, .int .u8 1, .int .u8 0] 5)).heap.size ((((w7.alloc (.cells #[.int .u8 0, .int .u8 0] 5)).alloc (.cells #[.int .u8 0, .int .u8 0, .int .u8 0, .int .u8 0] 5)).alloc (.cells #[.int .u8 0, .int .u8 0, .int .u8 128, .int .u8 0] 5)).alloc (.cells #[.int .u8 0, .int .u8 1, .int .u8 5, .int .u8 1, .int .u8 0] 5)) (((((w7.alloc (.cells #[.int .u8 0, .int .u8 0] 5)).alloc (.cells #[.int .u8 0, .int .u8 0, .int .u8 0, .int .u8 0] 5)).alloc (.cells #[.int .u8 0, .int .u8 0, .int .u8 128, .int .u8 0] 5)).alloc (.cells #[.int .u8 0, .int .u8 1, .int .u8 5, .int .u8 1, .int .u8 0] 5)).alloc (.cells #[.slice (some ⟨w7.heap.size, 0, none⟩) 2 2, .slice (some ⟨w7.heap.size + 1, 0, none⟩) 4 4, .slice (some ⟨w7.heap.size + 1 + 1, 0, none⟩) 4 4, .slice none 0 0, .slice (some ⟨w7.heap.size + 1 + 1 + 1, 0, none⟩) 5 5] 22)) := ((Below.refl _ ((((w7.alloc (.cells #[.int .u8 0, .int .u8 0] 5)).alloc (.cells #[.int .u8 0, .int .u8 0, .int .u8 0, .int .u8 0] 5)).alloc (.cells #[.int .u8 0, .int .u8 0, .int .u8 128, .int .u8 0] 5)).alloc (.cells #[.int .u8 0, .int .u8 1, .int .u8 5, .int .u8 1, .int .u8 0] 5))).alloc (by simp <;> omega) _)
    have h2 := h.below hz
    simp only [World.size_alloc] at h2
    exact h2
  have hbk : (((((w7.alloc (.cells #[.int .u8 0, .int .u8 0] 5)).alloc (.cells #[.int .u8 0, .int .u8 0, .int .u8 0, .int .u8 0] 5)).alloc (.cells #[.int .u8 0, .int .u8 0, .int .u8 128, .int .u8 0] 5)).alloc (.cells #[.int .u8 0, .int .u8 1, .int .u8 5, .int .u8 1, .int .u8 0] 5)).alloc (.cells #[.slice (some ⟨w7.heap.size, 0, none⟩) 2 2, .slice (some ⟨w7.heap.size + 1, 0, none⟩) 4 4, .slice (some ⟨w7.heap.size + 1 + 1, 0, none⟩) 4 4, .slice none 0 0, .slice (some ⟨w7.heap.size + 1 + 1 + 1, 0, none⟩) 5 5] 22)).heap[w7.heap.size + 1 + 1 + 1 + 1]? = some (.cells #[.slice (some ⟨w7.heap.size, 0, none⟩) 2 2, .slice (some ⟨w7.heap.size + 1, 0, none⟩) 4 4, .slice (some ⟨w7.heap.size + 1 + 1, 0, none⟩) 4 4, .slice none 0 0, .slice (some ⟨w7.heap.size + 1 + 1 + 1, 0, none⟩) 5 5] 22 (0, 0)) := heap_new (by simp)
  have hb8 : Below w7.heap.size w7 (((((w7.alloc (.cells #[.int .u8 0, .int .u8 0] 5)).alloc (.cells #[.int .u8 0, .int .u8 0, .int .u8 0, .int .u8 0] 5)).alloc (.cells #[.int .u8 0, .int .u8 0, .int .u8 128, .int .u8 0] 5)).alloc (.cells #[.int .u8 0, .int .u8 1, .int .u8 5, .int .u8 1, .int .u8 0] 5)).alloc (.cells #[.slice (some ⟨w7.heap.size, 0, none⟩) 2 2, .slice (some ⟨w7.heap.size + 1, 0, none⟩) 4 4, .slice (some ⟨w7.heap.size + 1 + 1, 0, none⟩) 4 4, .slice none 0 0, .slice (some ⟨w7.heap.size + 1 + 1 + 1, 0, none⟩) 5 5] 22)) := (((((Below.refl _ w7).alloc (by simp) _).alloc (by simp) _).alloc (by simp <;> omega) _).alloc (by simp <;> omega) _).alloc (by simp <;> omega) _
  have HB8 := Lib.hid hb8
  have HL := Lib.hid (And.intro l0 (And.intro l1 (And.intro l2 (And.intro l3 hbk))))
  clear l0 l1 l2 l3 hbk hb8
  go_upto_block 0 with fail
  generalize (((((w7.alloc (.cells #[.int .u8 0, .int .u8 0] 5)).alloc (.cells #[.int .u8 0, .int .u8 0, .int .u8 0, .int .u8 0] 5)).alloc (.cells #[.int .u8 0, .int .u8 0, .int .u8 128, .int .u8 0] 5)).alloc (.cells #[.int .u8 0, .int .u8 1, .int .u8 5, .int .u8 1, .int .u8 0] 5)).alloc (.cells #[.slice (some ⟨w7.heap.size, 0, none⟩) 2 2, .slice (some ⟨w7.heap.size + 1, 0, none⟩) 4 4, .slice (some ⟨w7.heap.size + 1 + 1, 0, none⟩) 4 4, .slice none 0 0, .slice (some ⟨w7.heap.size + 1 + 1 + 1, 0, none⟩) 5 5] 22)) = w8 at HL HB8 ⊢
  generalize hgl : w7.heap.size + 1 + 1 + 1 + 1 = gl at HL ⊢
  have HK := Lib.hid (show ∀ k, k < 5 → ∃ (A : Option Addr) (p : List UInt8) (n : Nat), w8.cell? ⟨gl, k, none⟩ = some (.slice A p.length n) ∧ HoldsB w8 (.slice A p.length n) p ∧ decC p = none ∧ p.length ≤ 5 from fun k hk => by
    obtain ⟨l0, l1, l2, l3, hbk⟩ := HL.out
    rcases (show k = 0 ∨ k = 1 ∨ k = 2 ∨ k = 3 ∨ k = 4 by omega) with rfl | rfl | rfl | rfl | rfl
    · exact ⟨_, [0, 0], _, cellW (i := 0) hbk, l0, ex3, by decide⟩
    · exact ⟨_, [0, 0, 0, 0], _, cellW (i := 1) hbk, l1, ex4, by decide⟩
    · exact ⟨_, [0, 0, 128, 0], _, cellW (i := 2) hbk, l2, ex5, by decide⟩
    · exact ⟨none, [], 0, cellW (i := 3) hbk, HoldsB.nil _, ex6, by decide⟩
    · exact ⟨_, [0, 1, 5, 1, 0], _, cellW (i := 4) hbk, l3, ex7, by decide⟩)
  have HLT := Lib.hid (show gl < w8.heap.size from (Array.getElem?_eq_some_iff.1 HL.out.2.2.2.2).1)
  have HB := Lib.hid (below_trans HB.out HB8.out)
  have KZ := Lib.hid (KZ.out.next HB8.out)
  clear hgl HL HB8
  have HB1 := Lib.hid (Below.refl w8.heap.size w8)
  go_wp2_with fail
  go_loopw [31] (fun i wr => ∃ k : Nat, k ≤ 5 ∧ i = .int .i64 k ∧ Hid (Below w8.heap.size w8 wr)) (fun i _ => 5 - (intOf i).toNat)
  case atStart => exact ⟨0, by omega, rfl, HB1⟩
  case round =>
    clear HB1
    obtain ⟨k, hk, rfl, hbr⟩ := hrel
    by_cases hlt : k < 5
    · have i0 : (k : Int) < 5 := by omega
      obtain ⟨A, p, n, hc, hp, hd, hpl⟩ := HK.out k hlt
      have HI := Lib.hid (lawIs_f H.out A p n nilC wr (below_trans HB0.out (below_trans HB.out hbr.out)) (hp.below hbr.out) (by omega) (nilC_ok _) hd)
      have c0 := (hbr.out.cell (p := ⟨gl, k, none⟩) HLT.out).trans hc
      have hgw : gl < wr.heap.size := Nat.lt_of_lt_of_le HLT.out hbr.out.size
      clear hc hp hd
      go_wp2_with fail
      refine HI.out.mono ?_
      rintro e wn ⟨rfl, hb⟩
      have HBN := Lib.hid (below_trans hbr.out hb)
      clear hb HI c0 hgw
      go_wp2_with fail
      go_roundw
      case rel => exact ⟨k + 1, by omega, by go_num, HBN⟩
      case measure => simp [intOf]; omega
    · have i0 : ¬ (k : Int) < 5 := by omega
      have KZ := Lib.hid (KZ.out.next hbr.out)
      have HB := Lib.hid (below_trans HB.out hbr.out)
      clear hbr HK HLT hlt hk
      have hli : HoldsB (wr.alloc (.cells #[.int .u8 0, .int .u8 0, .int .u8 0, .int .u8 7, .int .u8 7] 5)) (.slice (some ⟨wr.heap.size, 0, none⟩) ([0, 0, 0, 7, 7] : List UInt8).length 5) [0, 0, 0, 7, 7] := litB wr [0, 0, 0, 7, 7] (by decide)
      have hup : Below wr.heap.size wr (wr.alloc (.cells #[.int .u8 0, .int .u8 0, .int .u8 0, .int .u8 7, .int .u8 7] 5)) := (Below.refl _ _).alloc (Nat.le_refl _) _
      have HCL := Lib.hid (show Calls Tryz.prog 19 #[.slice (some ⟨wr.heap.size, 0, none⟩) 5 5, .agg #[.slice none 0 0, .slice none 0 0, .slice none 0 0], .int .i64 3, .int .i64 0] (wr.alloc (.cells #[.int .u8 0, .int .u8 0, .int .u8 0, .int .u8 7, .int .u8 7] 5)) (OneB (.bool true) (wr.alloc (.cells #[.int .u8 0, .int .u8 0, .int .u8 0, .int .u8 7, .int .u8 7] 5))) from lawBegins H.out _ [0, 0, 0, 7, 7] 5 nilC 3 0 (wr.alloc (.cells #[.int .u8 0, .int .u8 0, .int .u8 0, .int .u8 7, .int .u8 7] 5)) (below_trans HB0.out (below_trans HB.out hup)) hli (by decide) (nilC_ok _) (by rw [nil_enc]; decide) (by rw [ex8]; rfl) (by rw [ex8]; rfl) (by rw [ex8]; rfl))
      have HUP := Lib.hid hup
      obtain ⟨x0, x1, x2, xl, _⟩ := KZ.out.sp
      clear hli hup
      go_wp2_with fail
      refine HCL.out.mono ?_
      rintro e wa ⟨rfl, hb⟩
      have HB := Lib.hid (below_trans HB.out (below_trans HUP.out hb))
      have KZ := Lib.hid (KZ.out.next (below_trans HUP.out hb))
      clear hb HCL HUP x0 x1 x2 xl
      have hli : HoldsB (wa.alloc (.cells #[.int .u8 7, .int .u8 7] 5)) (.slice (some ⟨wa.heap.size, 0, none⟩) ([7, 7] : List UInt8).length 2) [7, 7] := litB wa [7, 7] (by decide)
      have hup : Below wa.heap.size wa (wa.alloc (.cells #[.int .u8 7, .int .u8 7] 5)) := (Below.refl _ _).alloc (Nat.le_refl _) _
      have HCL := Lib.hid (show Calls Tryz.prog 19 #[.slice (some ⟨wa.heap.size, 0, none⟩) 2 2, .agg #[.slice none 0 0, .slice none 0 0, .slice none 0 0], .int .i64 0, .int .i64 12] (wa.alloc (.cells #[.int .u8 7, .int .u8 7] 5)) (OneB (.bool true) (wa.alloc (.cells #[.int .u8 7, .int .u8 7] 5))) from lawBegins H.out _ [7, 7] 2 nilC 0 12 (wa.alloc (.cells #[.int .u8 7, .int .u8 7] 5)) (below_trans HB0.out (below_trans HB.out hup)) hli (by decide) (nilC_ok _) (by rw [nil_enc]; decide) (by rw [ex9]; rfl) (by rw [ex9]; rfl) (by rw [ex9]; rfl))
      have HUP := Lib.hid hup
      obtain ⟨x0, x1, x2, xl, _⟩ := KZ.out.sp
      clear hli hup
      go_wp2_with fail
      refine HCL.out.mono ?_
      rintro e wb ⟨rfl, hb⟩
      have HB := Lib.hid (below_trans HB.out (below_trans HUP.out hb))
      have KZ := Lib.hid (KZ.out.next (below_trans HUP.out hb))
      clear hb HCL HUP x0 x1 x2 xl
      have hli : HoldsB (wb.alloc (.cells #[.int .u8 0, .int .u8 0, .int .u8 0, .int .u8 1, .int .u8 2, .int .u8 3, .int .u8 0, .int .u8 0] 5)) (.slice (some ⟨wb.heap.size, 0, none⟩) ([0, 0, 0, 1, 2, 3, 0, 0] : List UInt8).length 8) [0, 0, 0, 1, 2, 3, 0, 0] := litB wb [0, 0, 0, 1, 2, 3, 0, 0] (by decide)
      have hup : Below wb.heap.size wb (wb.alloc (.cells #[.int .u8 0, .int .u8 0, .int .u8 0, .int .u8 1, .int .u8 2, .int .u8 3, .int .u8 0, .int .u8 0] 5)) := (Below.refl _ _).alloc (Nat.le_refl _) _
      have HCL := Lib.hid (show Calls Tryz.prog 14 #[.slice (some ⟨wb.heap.size, 0, none⟩) 8 8, .int .i64 2, .int .i64 0] (wb.alloc (.cells #[.int .u8 0, .int .u8 0, .int .u8 0, .int .u8 1, .int .u8 2, .int .u8 3, .int .u8 0, .int .u8 0] 5)) (OneB (.bool true) (wb.alloc (.cells #[.int .u8 0, .int .u8 0, .int .u8 0, .int .u8 1, .int .u8 2, .int .u8 3, .int .u8 0, .int .u8 0] 5))) from lawCounts H.out _ [0, 0, 0, 1, 2, 3, 0, 0] 8 2 0 (wb.alloc (.cells #[.int .u8 0, .int .u8 0, .int .u8 0, .int .u8 1, .int .u8 2, .int .u8 3, .int .u8 0, .int .u8 0] 5)) (below_trans HB0.out (below_trans HB.out hup)) hli (by decide) (by rw [ex10]; rfl) (by rw [ex10]; rfl))
      have HUP := Lib.hid hup
      obtain ⟨x0, x1, x2, xl, _⟩ := KZ.out.sp
      clear hli hup
      go_wp2_with fail
      refine HCL.out.mono ?_
      rintro e wc ⟨rfl, hb⟩
      have HB := Lib.hid (below_trans HB.out (below_trans HUP.out hb))
      have KZ := Lib.hid (KZ.out.next (below_trans HUP.out hb))
      clear hb HCL HUP x0 x1 x2 xl
      have hli : HoldsB wc (.slice none ([] : List UInt8).length 0) [] := HoldsB.nil _
      have hup : Below wc.heap.size wc wc := Below.refl _ _
      have HCL := Lib.hid (show Calls Tryz.prog 14 #[.slice none 0 0, .int .i64 0, .int .i64 0] wc (OneB (.bool true) wc) from lawCounts H.out _ ([] : List UInt8) 0 0 0 wc (below_trans HB0.out (below_trans HB.out hup)) hli (by decide) (by rw [ex11]; rfl) (by rw [ex11]; rfl))
      have HUP := Lib.hid hup
      obtain ⟨x0, x1, x2, xl, _⟩ := KZ.out.sp
      clear hli hup
      go_wp2_with fail
      refine HCL.out.mono ?_
      rintro e wd ⟨rfl, hb⟩
      have HB := Lib.hid (below_trans HB.out (below_trans HUP.out hb))
      have KZ := Lib.hid (KZ.out.next (below_trans HUP.out hb))
      clear hb HCL HUP x0 x1 x2 xl
      have hli : HoldsB (wd.alloc (.cells #[.int .u8 0, .int .u8 0, .int .u8 0, .int .u8 0] 5)) (.slice (some ⟨wd.heap.size, 0, none⟩) ([0, 0, 0, 0] : List UInt8).length 4) [0, 0, 0, 0] := litB wd [0, 0, 0, 0] (by decide)
      have hup : Below wd.heap.size wd (wd.alloc (.cells #[.int .u8 0, .int .u8 0, .int .u8 0, .int .u8 0] 5)) := (Below.refl _ _).alloc (Nat.le_refl _) _
      have HCL := Lib.hid (show Calls Tryz.prog 14 #[.slice (some ⟨wd.heap.size, 0, none⟩) 4 4, .int .i64 0, .int .i64 12] (wd.alloc (.cells #[.int .u8 0, .int .u8 0, .int .u8 0, .int .u8 0] 5)) (OneB (.bool true) (wd.alloc (.cells #[.int .u8 0, .int .u8 0, .int .u8 0, .int .u8 0] 5))) from lawCounts H.out _ [0, 0, 0, 0] 4 0 12 (wd.alloc (.cells #[.int .u8 0, .int .u8 0, .int .u8 0, .int .u8 0] 5)) (below_trans HB0.out (below_trans HB.out hup)) hli (by decide) (by rw [ex12]; rfl) (by rw [ex12]; rfl))
      have HUP := Lib.hid hup
      obtain ⟨x0, x1, x2, xl, _⟩ := KZ.out.sp
      clear hli hup
      go_wp2_with fail
      refine HCL.out.mono ?_
      rintro e we ⟨rfl, hb⟩
      have HB := Lib.hid (below_trans HB.out (below_trans HUP.out hb))
      have KZ := Lib.hid (KZ.out.next (below_trans HUP.out hb))
      clear hb HCL HUP x0 x1 x2 xl
      have HXY := Lib.hid (show (c.vs, c.ls) = ([(2, 3)], [(5, 9)]) from congrArg Prod.fst HCA.out)
      have hli : HoldsB (we.alloc (.cells #[.int .u8 1, .int .u8 2, .int .u8 3, .int .u8 1, .int .u8 5, .int .u8 9] 5)) (.slice (some ⟨we.heap.size, 0, none⟩) ([1, 2, 3, 1, 5, 9] : List UInt8).length 6) [1, 2, 3, 1, 5, 9] := litB we [1, 2, 3, 1, 5, 9] (by decide)
      have hup : Below we.heap.size we (we.alloc (.cells #[.int .u8 1, .int .u8 2, .int .u8 3, .int .u8 1, .int .u8 5, .int .u8 9] 5)) := (Below.refl _ _).alloc (Nat.le_refl _) _
      have HCL := Lib.hid (lawSeen H.out _ [1, 2, 3, 1, 5, 9] 6 c.V c.L c.vs c.ls c.nv c.nl 0 (we.alloc (.cells #[.int .u8 1, .int .u8 2, .int .u8 3, .int .u8 1, .int .u8 5, .int .u8 9] 5)) (below_trans HB0.out (below_trans HB.out hup)) hli (by decide) ((KZ.out.next hup).ok (g := g) (by simp)).1 ((KZ.out.next hup).ok (g := g) (by simp)).2.1 (by rw [ex13, HXY.out]; rfl) (by rw [ex13]; rfl))
      have HUP := Lib.hid hup
      obtain ⟨x0, x1, x2, xl, _⟩ := KZ.out.sp
      clear hli hup
      go_wp2_with fail
      refine HCL.out.mono ?_
      rintro e wf ⟨rfl, hb⟩
      have HB := Lib.hid (below_trans HB.out (below_trans HUP.out hb))
      have KZ := Lib.hid (KZ.out.next (below_trans HUP.out hb))
      clear hb HCL HUP x0 x1 x2 xl
      have hli : HoldsB (wf.alloc (.cells #[.int .u8 1, .int .u8 2, .int .u8 3] 5)) (.slice (some ⟨wf.heap.size, 0, none⟩) ([1, 2, 3] : List UInt8).length 3) [1, 2, 3] := litB wf [1, 2, 3] (by decide)
      have hup : Below wf.heap.size wf (wf.alloc (.cells #[.int .u8 1, .int .u8 2, .int .u8 3] 5)) := (Below.refl _ _).alloc (Nat.le_refl _) _
      have HCL := Lib.hid (show Calls Tryz.prog 20 #[.slice (some ⟨wf.heap.size, 0, none⟩) 3 3, .agg #[.slice none 0 0, .slice none 0 0], .int .i64 12] (wf.alloc (.cells #[.int .u8 1, .int .u8 2, .int .u8 3] 5)) (OneB (.bool true) (wf.alloc (.cells #[.int .u8 1, .int .u8 2, .int .u8 3] 5))) from lawSeen H.out _ [1, 2, 3] 3 none none [] [] 0 0 12 (wf.alloc (.cells #[.int .u8 1, .int .u8 2, .int .u8 3] 5)) (below_trans HB0.out (below_trans HB.out hup)) hli (by decide) (Holds.nil _) (Holds.nil _) (by rw [ex14]; rfl) (by rw [ex14]; rfl))
      have HUP := Lib.hid hup
      obtain ⟨x0, x1, x2, xl, _⟩ := KZ.out.sp
      clear hli hup
      go_wp2_with fail
      refine HCL.out.mono ?_
      rintro e wg ⟨rfl, hb⟩
      have HB := Lib.hid (below_trans HB.out (below_trans HUP.out hb))
      have KZ := Lib.hid (KZ.out.next (below_trans HUP.out hb))
      clear hb HCL HUP x0 x1 x2 xl
      go_wp2_with fail
      go_ret
      exact ⟨rfl, HB.out⟩

end

end Go.Proofs.YtpnemekkpifbaaaGreat
