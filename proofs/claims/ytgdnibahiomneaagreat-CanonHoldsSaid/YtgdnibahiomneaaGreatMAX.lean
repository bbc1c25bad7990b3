/- Several texts in one: CanR. -/
import Derived.Test.YtgdnibahiomneaaGreatMAW
namespace Go.Proofs.YtgdnibahiomneaaGreat

section
open Go.RowKit

/-- The region in which the bytes of the cart are asked for. -/
def lonX17 (E W0 : World) (ys : List UInt8) (c : CaV) : Rb where
  E := E
  W0 := W0
  n := 125
  D := .slice none 0 0
  acc := []
  m := none
  s := 200
  rows := [⟨2, 109, ys, none⟩, ⟨7, 114, ys, none⟩]
  known := fun
    | 0 => some (mkC c)
    | 1 => some (mkC c)
    | 3 => some (.bool true)
    | 4 => some (.bool true)
    | 5 => some (.int .i64 (ys.length : Int))
    | 6 => some (mkC c)
    | 8 => some (.int .i64 (ys.length : Int))
    | 9 => some (.bool true)
    | 10 => some (.bool true)
    | 11 => some (.bool true)
    | 12 => some (.int .i64 0)
    | 13 => some (.bool true)
    | 14 => some (.bool true)
    | 15 => some (.bool true)
    | 16 => some (.bool true)
    | 17 => some (.bool true)
    | 18 => some (.bool true)
    | _ => none
theorem oneD14 (W : World) (d : Int × Int) : SlAt encD 2 (W.alloc (.cells #[.int .i64 d.1, .int .i64 d.2] 51)) (some ⟨W.heap.size, 0, none⟩) [d] :=
  SlAt.one (x := d) (enc := encD) (t := 51) (heap_alloc_new W _)
theorem name14 (k : Nat) (hk : k ≤ 300) : ∃ nm : List UInt8, nm.length = 3 ∧ ∀ W : World, (convert 32 9 (.slice (some ⟨W.heap.size, 0, none⟩) 3 3)).run Tryz.prog (W.alloc (.cells #[.int .u8 (97 + (k : Int) / 100), .int .u8 (48 + (k : Int) / 10 % 10), .int .u8 (48 + (k : Int) % 10)] 5)) = .ok (.string ⟨nm.toArray⟩) (W.alloc (.cells #[.int .u8 (97 + (k : Int) / 100), .int .u8 (48 + (k : Int) / 10 % 10), .int .u8 (48 + (k : Int) % 10)] 5)) := by
  refine ⟨[UInt8.ofNat (97 + k / 100), UInt8.ofNat (48 + k / 10 % 10), UInt8.ofNat (48 + k % 10)], rfl, fun W => ?_⟩
  have e : (#[.int .u8 (97 + (k : Int) / 100), .int .u8 (48 + (k : Int) / 10 % 10), .int .u8 (48 + (k : Int) % 10)] : Array Value) = (cellsOf encB [UInt8.ofNat (97 + k / 100), UInt8.ofNat (48 + k / 10 % 10), UInt8.ofNat (48 + k % 10)]).toArray := by
    show _ = #[Value.int .u8 ((UInt8.ofNat (97 + k / 100)).toNat : Int), Value.int .u8 ((UInt8.ofNat (48 + k / 10 % 10)).toNat : Int), Value.int .u8 ((UInt8.ofNat (48 + k % 10)).toNat : Int)]
    rw [ofNat_toNatK (by omega), ofNat_toNatK (by omega), ofNat_toNatK (by omega)]
    rw [show (97 + (k : Int) / 100) = ((97 + k / 100 : Nat) : Int) from by omega, show (48 + (k : Int) / 10 % 10) = ((48 + k / 10 % 10 : Nat) : Int) from by omega, show (48 + (k : Int) % 10) = ((48 + k % 10 : Nat) : Int) from by omega]
  rw [e]
  refine convB _ (some ⟨W.heap.size, 0, none⟩) 3 [UInt8.ofNat (97 + k / 100), UInt8.ofNat (48 + k / 10 % 10), UInt8.ofNat (48 + k % 10)] ?_
  refine ⟨some ⟨W.heap.size, 0, none⟩, 3, rfl, fun _ => ⟨W.heap.size, 0, rfl, by simp, fun j x hj i u hi => ?_⟩, Nat.le_refl _, by simp [maxLen]⟩
  have h := heap_alloc_new W (.cells (cellsOf encB [UInt8.ofNat (97 + k / 100), UInt8.ofNat (48 + k / 10 % 10), UInt8.ofNat (48 + k % 10)]).toArray 5)
  rw [Nat.zero_add, cell_of_row _ _ _ _ 5 (0, 0) h]
  simpa using cellsOf_at encB_len _ j x i u hj hi
theorem litM14 (W : World) (B : Nat) (m : Mk) (hb : B ≤ W.heap.size) : RowM14 (W.alloc (.cells (encM m).toArray 53)) B (.slice (some ⟨W.heap.size, 0, none⟩) 1 1) [m] := by
  refine ⟨rfl, .inr ⟨W.heap.size, 1, _, rfl, hb, heap_alloc_new W _, Nat.le_refl _, by simp [maxLen], rfl, rfl⟩⟩
theorem LgI.start (w : World) (cl : Bool) : LgI w (w.alloc (.cells #[.slice none 0 0, .slice none 0 0, .slice none 0 0] 28)) w.heap.size cl 0 0 nilC :=
  ⟨(Below.refl _ w).alloc (Nat.le_refl _) _, Nat.le_refl _, heap_new rfl, World.ownsRow_nil _ _ _ _, World.ownsRow_nil _ _ _ _, fun _ => rfl, fun _ => rfl, World.ownsRow_nil _ _ _ _, fun y hy => (by cases hy), Nat.le_refl _, Nat.le_refl _, Nat.le_refl _, fun y hy => (by cases hy)⟩

set_option maxRecDepth 100000 in
set_option maxHeartbeats 2000000 in
theorem lawLongs_14 (many first time : Nat) (qty : Int) (cl : Bool) (w : World) (hf : CanOK w) (hk : Known14 w) (hm : many < 65536) (hfi : first < 4294967296) (hq1 : -2147483648 ≤ qty) (hq2 : qty ≤ 2147483647) (ht : time < 18446744073709551616) :
    Calls Tryz.prog 6 #[.int .u16 (many : Int), .int .u32 (first : Int), .int .i32 qty, .int .u64 (time : Int), .bool cl] w (OneB (.bool true) w) := by
  obtain ⟨td0, hid0, hzd0, hzd1, hzd2⟩ := info_parts infoD
  obtain ⟨ti0, hii, hzi0, hzi1, hzi2⟩ := info_parts infoIt
  have HF := Lib.hid hf
  have HKN := Lib.hid hk
  have HT := Lib.hid ht
  clear hf hk ht
  go_enter Tryz.func6, Tryz.ntmps6
  go_upto_region 1 with fail
  by_cases h1 : many ≤ 300
  · have i1 : ¬ (300 : Int) < (many : Int) := by omega
    have d1 : decide ((300 : Int) < (many : Int)) = false := by simpa using i1
    by_cases h2 : first ≤ 4294966296
    · have i2 : ¬ (4294966296 : Int) < (first : Int) := by omega
      have d2 : decide ((4294966296 : Int) < (first : Int)) = false := by simpa using i2
      by_cases h3 : 2 ≤ first
      · have i3 : ¬ (first : Int) < 2 := by omega
        have d3 : decide ((first : Int) < 2) = false := by simpa using i3
        by_cases h4 : 1 ≤ qty
        · have i4 : ¬ qty < 1 := by omega
          have d4 : decide (qty < 1) = false := by simpa using i4
          go_upto_region 4 with fail
          clear i1 d1 i2 d2 i3 d3 i4 d4
          have HL0 := Lib.hid (LgI.start w cl)
          generalize World.alloc w _ = E at HL0 ⊢
          go_wp2_with fail
          go_loopw [12] (fun i wr => ∃ (k : Nat) (c : CaV), k ≤ many ∧ i = .int .i64 k ∧ Hid (LgI w wr w.heap.size cl k k c)) (fun i _ => many - (intOf i).toNat)
          case atStart => exact ⟨0, nilC, by omega, rfl, HL0⟩
          case round =>
            clear HL0
            obtain ⟨k, c, hk, rfl, HG⟩ := hrel
            have hkm : (k : Int) ≤ 300 := by omega
            by_cases hlt : k < many
            · have i0 : (k : Int) < (many : Int) := by omega
              cases cl with
              | true =>
                go_upto_region 10 with fail
                obtain ⟨d, hd⟩ : ∃ d : Int × Int, d = (7, (first : Int) + 2 * (k : Int)) := ⟨_, rfl⟩
                rw [show (Value.int .i64 7) = .int .i64 d.1 from by rw [hd], show (Value.int .i64 ((first : Int) + 2 * (k : Int))) = .int .i64 d.2 from by rw [hd]]
                clear hd
                have hn5 : w.heap.size ≤ wr.heap.size := HG.out.bel.size
                have hrl : ∀ j, c.l.ownBlock = some j → j < wr.heap.size := fun j hj => (World.ownsRow.lt HG.out.rl j hj).2
                have hb1 : BelW wr (wr.alloc (.cells #[.int .i64 d.1, .int .i64 d.2] 51)) := (Below.refl _ wr).alloc (Nat.le_refl _) _
                have HG1 := Lib.hid (HG.out.next hb1)
                have hd1 : (wr.alloc (.cells #[.int .i64 d.1, .int .i64 d.2] 51)).heap[wr.heap.size]? = some (.cells #[.int .i64 d.1, .int .i64 d.2] 51 (0, 0)) := heap_new rfl
                have HD1 := Lib.hid hd1
                have HRL := Lib.hid hrl
                have HNL := Lib.hid (show w.heap.size < wr.heap.size from by
                  have := (Array.getElem?_eq_some_iff.1 HG.out.box).1
                  omega)
                clear hb1 hd1 hrl hn5
                generalize World.alloc wr _ = w1 at HG1 HD1 ⊢
                generalize wr.heap.size = n5 at HD1 HRL HNL ⊢
                have HQ := Lib.hid (show ∀ W : World, W.heap[n5]? = some (.cells #[.int .i64 d.1, .int .i64 d.2] 51 (0, 0)) → W.cell? ⟨n5, 0, none⟩ = some (.int .i64 d.1) ∧ W.cell? ⟨n5, 1, none⟩ = some (.int .i64 d.2) from fun W h => ⟨by simp [World.cell?, h], by simp [World.cell?, h]⟩)
                obtain ⟨q0, q1⟩ := HQ.out _ HD1.out
                obtain ⟨x0, x1, x2, y0, y1, y2⟩ := HG1.out.cells
                have hb2 : BelW w1 (w1.alloc (.cells #[.int .i64 d.1, .int .i64 d.2] 51)) := (Below.refl _ w1).alloc (Nat.le_refl _) _
                have HG2 := Lib.hid (HG1.out.next hb2)
                have HD2 := Lib.hid (heapKeep HD1.out hb2)
                have HL2 := Lib.hid (show SlAt encD 2 (w1.alloc (.cells #[.int .i64 d.1, .int .i64 d.2] 51)) (some ⟨w1.heap.size, 0, none⟩) [d] from oneD14 w1 d)
                have HLL := Lib.hid (show c.ls.length ≤ 300 from by have := HG1.out.ll; omega)
                clear hb2
                go_upto_region 12 with (at_builtin; refine wpList_append_sl _ encD 2 rfl (.tmp 52) (.tmp 54) 22 rfl encD_len (by omega) encD_one w.heap.size 51 td0 _ 16 Tryz.underlying22 hid0 hzd0 hzd1 hzd2 rfl _ c.ls rfl HG2.out.rl _ 1 _ [d] rfl rfl HL2.out (by have := HLL.out; simp [maxLen]; omega) (by have := HLL.out; simp; omega) HG2.out.bel.size ?_; intro v5 w5 hown5 hg5 hat5; have hgc5 := Chg.of_grown hg5 (S := fun j => c.l.ownBlock = some j) (fun _ e => e); have hbox5 := hgc5.box HG2.out.box (own_ne HG2.out.rl HG2.out.box (by decide)); have hd5 := hgc5.box HD2.out (fun h => by have := HRL.out _ h; omega); have u0 : w5.cell? ⟨w.heap.size, 0, none⟩ = some c.v := (by simp [World.cell?, hbox5]); have u1 : w5.cell? ⟨w.heap.size, 1, none⟩ = some c.l := (by simp [World.cell?, hbox5]); have u2 : w5.cell? ⟨w.heap.size, 2, none⟩ = some c.i := (by simp [World.cell?, hbox5]); have z0 : w5.frozen? ⟨w.heap.size, 1, none⟩ = false := (by simp [World.frozen?, hbox5]); obtain ⟨A5, c5, rfl, m1, m2, m3⟩ := SlAt.of_own encD_len hown5; have HO5 := Lib.hid hown5; have HG5 := Lib.hid hg5; have HD5 := Lib.hid hd5; clear m1 m2 m3 hown5 hg5 hat5 hbox5 hd5 hgc5)
                have ho5 : World.ownsRow w5 w.heap.size 51 2 (.slice A5 (c.ls ++ [d]).length c5) (c.ls ++ [d]).length (cellsOf encD (c.ls ++ [d])) := HO5.out
                have hle : (c.ls ++ [d]).length = c.ls.length + 1 := by simp
                have HG6 := Lib.hid (HG2.out.addL d (A := A5) (n := c5) (show RowD14 w5 w.heap.size (.slice A5 (c.ls.length + 1) c5) (c.ls ++ [d]) from hle ▸ ho5) HG5.out)
                have HD6 := Lib.hid (show (w5.setCell ⟨w.heap.size, 1, none⟩ (.slice A5 (c.ls.length + 1) c5)).heap[n5]? = some (.cells #[.int .i64 d.1, .int .i64 d.2] 51 (0, 0)) from (Chg.of_set (S := fun j => j = w.heap.size) ⟨w.heap.size, 1, none⟩ _ rfl).box HD5.out (by have := HNL.out; omega))
                clear ho5 hle HG1 HD1 HG2 HD2 HL2 HLL HO5 HG5 HD5 HRL HG
                clear x0 x1 x2 y0 y1 y2 q0 q1
                obtain ⟨c2, HG7⟩ : ∃ c2, Hid (LgI w (w5.setCell ⟨w.heap.size, 1, none⟩ (.slice A5 (c.ls.length + 1) c5)) w.heap.size true (k + 1) k c2) := ⟨_, HG6⟩
                clear HG6
                generalize World.setCell w5 _ _ = w6 at HG7 HD6 ⊢
                obtain ⟨nm, hnl, hnc⟩ := name14 k (by omega)
                have d1 := hnc w6
                have HNM := Lib.hid hnl
                clear hnl hnc
                have hb7 : BelW w6 (w6.alloc (.cells #[.int .u8 (97 + (k : Int) / 100), .int .u8 (48 + (k : Int) / 10 % 10), .int .u8 (48 + (k : Int) % 10)] 5)) := (Below.refl _ w6).alloc (Nat.le_refl _) _
                have HG8 := Lib.hid (HG7.out.next hb7)
                have HD8 := Lib.hid (heapKeep HD6.out hb7)
                clear hb7 HG7 HD6
                go_upto_region 13 with fail
                clear d1
                generalize World.alloc w6 _ = w7 at HG8 HD8 ⊢
                obtain ⟨q0, q1⟩ := HQ.out _ HD8.out
                obtain ⟨x0, x1, x2, y0, y1, y2⟩ := HG8.out.cells
                have HW7 := Lib.hid (show w.heap.size ≤ w7.heap.size from HG8.out.bel.size)
                have HM8 := Lib.hid (litM14 w7 w.heap.size ⟨d.1, d.2, qty, time⟩ HW7.out)
                have hb8 : BelW w7 (w7.alloc (.cells #[.int .i64 d.1, .int .i64 d.2, .int .i64 qty, .int .u64 (time : Int)] 53)) := (Below.refl _ w7).alloc (Nat.le_refl _) _
                have hb9 : BelW (w7.alloc (.cells #[.int .i64 d.1, .int .i64 d.2, .int .i64 qty, .int .u64 (time : Int)] 53)) ((w7.alloc (.cells #[.int .i64 d.1, .int .i64 d.2, .int .i64 qty, .int .u64 (time : Int)] 53)).alloc (.cells #[.string ⟨nm.toArray⟩, .slice (some ⟨w7.heap.size, 0, none⟩) 1 1] 56)) := (Below.refl _ _).alloc (Nat.le_refl _) _
                have HG9 := Lib.hid (HG8.out.next (below_trans hb8 hb9))
                have HM9 := Lib.hid (ownBelow HM8.out hb9)
                have HI9 := Lib.hid (show SlAt encIt 2 ((w7.alloc (.cells #[.int .i64 d.1, .int .i64 d.2, .int .i64 qty, .int .u64 (time : Int)] 53)).alloc (.cells #[.string ⟨nm.toArray⟩, .slice (some ⟨w7.heap.size, 0, none⟩) 1 1] 56)) (some ⟨w7.heap.size + 1, 0, none⟩) [(⟨nm, some ⟨w7.heap.size, 0, none⟩, 1, [⟨d.1, d.2, qty, time⟩]⟩ : ItV)] from SlAt.one (t := 56) (heap_new (by simp)))
                have HIL := Lib.hid (show c2.xs.length ≤ 300 from by have := HG8.out.li; omega)
                clear hb8 hb9 HM8
                go_wp2_with (at_builtin; refine wpList_append_sl _ encIt 2 rfl (.tmp 82) (.tmp 91) 26 rfl encIt_len (by omega) encIt_one w.heap.size 56 ti0 _ 40 Tryz.underlying26 hii hzi0 hzi1 hzi2 rfl _ c2.xs rfl HG9.out.ri _ 1 _ [(⟨nm, some ⟨w7.heap.size, 0, none⟩, 1, [⟨d.1, d.2, qty, time⟩]⟩ : ItV)] rfl rfl HI9.out (by have := HIL.out; simp [maxLen]; omega) (by have := HIL.out; simp; omega) HG9.out.bel.size ?_; intro v9 w9 hown9 hg9 hat9; have hbox9 := (Chg.of_grown hg9 (S := fun j => c2.i.ownBlock = some j) (fun _ e => e)).box HG9.out.box (own_ne HG9.out.ri HG9.out.box (by decide)); have u0 : w9.cell? ⟨w.heap.size, 0, none⟩ = some c2.v := (by simp [World.cell?, hbox9]); have u1 : w9.cell? ⟨w.heap.size, 1, none⟩ = some c2.l := (by simp [World.cell?, hbox9]); have u2 : w9.cell? ⟨w.heap.size, 2, none⟩ = some c2.i := (by simp [World.cell?, hbox9]); have z0 : w9.frozen? ⟨w.heap.size, 2, none⟩ = false := (by simp [World.frozen?, hbox9]); obtain ⟨A9, c9, rfl, m1, m2, m3⟩ := SlAt.of_own encIt_len hown9; have HO9 := Lib.hid hown9; have HGR := Lib.hid hg9; clear m1 m2 m3 hown9 hg9 hat9 hbox9)
                have ho9 : World.ownsRow w9 w.heap.size 56 2 (.slice A9 (c2.xs ++ [(⟨nm, some ⟨w7.heap.size, 0, none⟩, 1, [⟨d.1, d.2, qty, time⟩]⟩ : ItV)]).length c9) (c2.xs ++ [(⟨nm, some ⟨w7.heap.size, 0, none⟩, 1, [⟨d.1, d.2, qty, time⟩]⟩ : ItV)]).length (cellsOf encIt (c2.xs ++ [(⟨nm, some ⟨w7.heap.size, 0, none⟩, 1, [⟨d.1, d.2, qty, time⟩]⟩ : ItV)])) := HO9.out
                have hle9 : (c2.xs ++ [(⟨nm, some ⟨w7.heap.size, 0, none⟩, 1, [⟨d.1, d.2, qty, time⟩]⟩ : ItV)]).length = c2.xs.length + 1 := by simp
                have HGE := Lib.hid (HG9.out.addI (⟨nm, some ⟨w7.heap.size, 0, none⟩, 1, [⟨d.1, d.2, qty, time⟩]⟩ : ItV) (A := A9) (n := c9) (show RowI14 w9 w.heap.size (.slice A9 (c2.xs.length + 1) c9) (c2.xs ++ [(⟨nm, some ⟨w7.heap.size, 0, none⟩, 1, [⟨d.1, d.2, qty, time⟩]⟩ : ItV)]) from hle9 ▸ ho9) HGR.out HM9.out ⟨by show nm.length ≤ 100; rw [HNM.out]; omega, Nat.le_refl _, fun m hm => by rw [List.mem_singleton] at hm; subst hm; exact HT.out⟩)
                clear ho9 hle9
                go_roundw
                case rel => exact ⟨k + 1, _, by omega, by simp, HGE⟩
                case measure => simp [intOf]; omega
              | false =>
                go_upto_region 11 with fail
                obtain ⟨d, hd⟩ : ∃ d : Int × Int, d = ((k : Int) + 1, (first : Int)) := ⟨_, rfl⟩
                rw [show (Obj.cells #[.int .i64 ((k : Int) + 1), .int .i64 (first : Int)] 51 : Obj) = .cells #[.int .i64 d.1, .int .i64 d.2] 51 from by rw [hd]]
                clear hd
                have hn5 : w.heap.size ≤ wr.heap.size := HG.out.bel.size
                have hrl : ∀ j, c.v.ownBlock = some j → j < wr.heap.size := fun j hj => (World.ownsRow.lt HG.out.rv j hj).2
                have hb1 : BelW wr (wr.alloc (.cells #[.int .i64 d.1, .int .i64 d.2] 51)) := (Below.refl _ wr).alloc (Nat.le_refl _) _
                have HG1 := Lib.hid (HG.out.next hb1)
                have hd1 : (wr.alloc (.cells #[.int .i64 d.1, .int .i64 d.2] 51)).heap[wr.heap.size]? = some (.cells #[.int .i64 d.1, .int .i64 d.2] 51 (0, 0)) := heap_new rfl
                have HD1 := Lib.hid hd1
                have HRL := Lib.hid hrl
                have HNL := Lib.hid (show w.heap.size < wr.heap.size from by
                  have := (Array.getElem?_eq_some_iff.1 HG.out.box).1
                  omega)
                clear hb1 hd1 hrl hn5
                generalize World.alloc wr _ = w1 at HG1 HD1 ⊢
                generalize wr.heap.size = n5 at HD1 HRL HNL ⊢
                have HQ := Lib.hid (show ∀ W : World, W.heap[n5]? = some (.cells #[.int .i64 d.1, .int .i64 d.2] 51 (0, 0)) → W.cell? ⟨n5, 0, none⟩ = some (.int .i64 d.1) ∧ W.cell? ⟨n5, 1, none⟩ = some (.int .i64 d.2) from fun W h => ⟨by simp [World.cell?, h], by simp [World.cell?, h]⟩)
                obtain ⟨q0, q1⟩ := HQ.out _ HD1.out
                obtain ⟨x0, x1, x2, y0, y1, y2⟩ := HG1.out.cells
                have hb2 : BelW w1 (w1.alloc (.cells #[.int .i64 d.1, .int .i64 d.2] 51)) := (Below.refl _ w1).alloc (Nat.le_refl _) _
                have HG2 := Lib.hid (HG1.out.next hb2)
                have HD2 := Lib.hid (heapKeep HD1.out hb2)
                have HL2 := Lib.hid (show SlAt encD 2 (w1.alloc (.cells #[.int .i64 d.1, .int .i64 d.2] 51)) (some ⟨w1.heap.size, 0, none⟩) [d] from oneD14 w1 d)
                have HLL := Lib.hid (show c.vs.length ≤ 300 from by have := HG1.out.lv; omega)
                clear hb2
                go_upto_region 12 with (at_builtin; refine wpList_append_sl _ encD 2 rfl (.tmp 60) (.tmp 62) 23 rfl encD_len (by omega) encD_one w.heap.size 51 td0 _ 16 Tryz.underlying23 hid0 hzd0 hzd1 hzd2 rfl _ c.vs rfl HG2.out.rv _ 1 _ [d] rfl rfl HL2.out (by have := HLL.out; simp [maxLen]; omega) (by have := HLL.out; simp; omega) HG2.out.bel.size ?_; intro v5 w5 hown5 hg5 hat5; have hgc5 := Chg.of_grown hg5 (S := fun j => c.v.ownBlock = some j) (fun _ e => e); have hbox5 := hgc5.box HG2.out.box (own_ne HG2.out.rv HG2.out.box (by decide)); have hd5 := hgc5.box HD2.out (fun h => by have := HRL.out _ h; omega); have u0 : w5.cell? ⟨w.heap.size, 0, none⟩ = some c.v := (by simp [World.cell?, hbox5]); have u1 : w5.cell? ⟨w.heap.size, 1, none⟩ = some c.l := (by simp [World.cell?, hbox5]); have u2 : w5.cell? ⟨w.heap.size, 2, none⟩ = some c.i := (by simp [World.cell?, hbox5]); have z0 : w5.frozen? ⟨w.heap.size, 0, none⟩ = false := (by simp [World.frozen?, hbox5]); obtain ⟨A5, c5, rfl, m1, m2, m3⟩ := SlAt.of_own encD_len hown5; have HO5 := Lib.hid hown5; have HG5 := Lib.hid hg5; have HD5 := Lib.hid hd5; clear m1 m2 m3 hown5 hg5 hat5 hbox5 hd5 hgc5)
                have ho5 : World.ownsRow w5 w.heap.size 51 2 (.slice A5 (c.vs ++ [d]).length c5) (c.vs ++ [d]).length (cellsOf encD (c.vs ++ [d])) := HO5.out
                have hle : (c.vs ++ [d]).length = c.vs.length + 1 := by simp
                have HG6 := Lib.hid (HG2.out.addV d (A := A5) (n := c5) (show RowD14 w5 w.heap.size (.slice A5 (c.vs.length + 1) c5) (c.vs ++ [d]) from hle ▸ ho5) HG5.out)
                have HD6 := Lib.hid (show (w5.setCell ⟨w.heap.size, 0, none⟩ (.slice A5 (c.vs.length + 1) c5)).heap[n5]? = some (.cells #[.int .i64 d.1, .int .i64 d.2] 51 (0, 0)) from (Chg.of_set (S := fun j => j = w.heap.size) ⟨w.heap.size, 0, none⟩ _ rfl).box HD5.out (by have := HNL.out; omega))
                clear ho5 hle HG1 HD1 HG2 HD2 HL2 HLL HO5 HG5 HD5 HRL HG
                clear x0 x1 x2 y0 y1 y2 q0 q1
                obtain ⟨c2, HG7⟩ : ∃ c2, Hid (LgI w (w5.setCell ⟨w.heap.size, 0, none⟩ (.slice A5 (c.vs.length + 1) c5)) w.heap.size false (k + 1) k c2) := ⟨_, HG6⟩
                clear HG6
                generalize World.setCell w5 _ _ = w6 at HG7 HD6 ⊢
                obtain ⟨nm, hnl, hnc⟩ := name14 k (by omega)
                have d1 := hnc w6
                have HNM := Lib.hid hnl
                clear hnl hnc
                have hb7 : BelW w6 (w6.alloc (.cells #[.int .u8 (97 + (k : Int) / 100), .int .u8 (48 + (k : Int) / 10 % 10), .int .u8 (48 + (k : Int) % 10)] 5)) := (Below.refl _ w6).alloc (Nat.le_refl _) _
                have HG8 := Lib.hid (HG7.out.next hb7)
                have HD8 := Lib.hid (heapKeep HD6.out hb7)
                clear hb7 HG7 HD6
                go_upto_region 13 with fail
                clear d1
                generalize World.alloc w6 _ = w7 at HG8 HD8 ⊢
                obtain ⟨q0, q1⟩ := HQ.out _ HD8.out
                obtain ⟨x0, x1, x2, y0, y1, y2⟩ := HG8.out.cells
                have HW7 := Lib.hid (show w.heap.size ≤ w7.heap.size from HG8.out.bel.size)
                have HM8 := Lib.hid (litM14 w7 w.heap.size ⟨d.1, d.2, qty, time⟩ HW7.out)
                have hb8 : BelW w7 (w7.alloc (.cells #[.int .i64 d.1, .int .i64 d.2, .int .i64 qty, .int .u64 (time : Int)] 53)) := (Below.refl _ w7).alloc (Nat.le_refl _) _
                have hb9 : BelW (w7.alloc (.cells #[.int .i64 d.1, .int .i64 d.2, .int .i64 qty, .int .u64 (time : Int)] 53)) ((w7.alloc (.cells #[.int .i64 d.1, .int .i64 d.2, .int .i64 qty, .int .u64 (time : Int)] 53)).alloc (.cells #[.string ⟨nm.toArray⟩, .slice (some ⟨w7.heap.size, 0, none⟩) 1 1] 56)) := (Below.refl _ _).alloc (Nat.le_refl _) _
                have HG9 := Lib.hid (HG8.out.next (below_trans hb8 hb9))
                have HM9 := Lib.hid (ownBelow HM8.out hb9)
                have HI9 := Lib.hid (show SlAt encIt 2 ((w7.alloc (.cells #[.int .i64 d.1, .int .i64 d.2, .int .i64 qty, .int .u64 (time : Int)] 53)).alloc (.cells #[.string ⟨nm.toArray⟩, .slice (some ⟨w7.heap.size, 0, none⟩) 1 1] 56)) (some ⟨w7.heap.size + 1, 0, none⟩) [(⟨nm, some ⟨w7.heap.size, 0, none⟩, 1, [⟨d.1, d.2, qty, time⟩]⟩ : ItV)] from SlAt.one (t := 56) (heap_new (by simp)))
                have HIL := Lib.hid (show c2.xs.length ≤ 300 from by have := HG8.out.li; omega)
                clear hb8 hb9 HM8
                go_wp2_with (at_builtin; refine wpList_append_sl _ encIt 2 rfl (.tmp 82) (.tmp 91) 26 rfl encIt_len (by omega) encIt_one w.heap.size 56 ti0 _ 40 Tryz.underlying26 hii hzi0 hzi1 hzi2 rfl _ c2.xs rfl HG9.out.ri _ 1 _ [(⟨nm, some ⟨w7.heap.size, 0, none⟩, 1, [⟨d.1, d.2, qty, time⟩]⟩ : ItV)] rfl rfl HI9.out (by have := HIL.out; simp [maxLen]; omega) (by have := HIL.out; simp; omega) HG9.out.bel.size ?_; intro v9 w9 hown9 hg9 hat9; have hbox9 := (Chg.of_grown hg9 (S := fun j => c2.i.ownBlock = some j) (fun _ e => e)).box HG9.out.box (own_ne HG9.out.ri HG9.out.box (by decide)); have u0 : w9.cell? ⟨w.heap.size, 0, none⟩ = some c2.v := (by simp [World.cell?, hbox9]); have u1 : w9.cell? ⟨w.heap.size, 1, none⟩ = some c2.l := (by simp [World.cell?, hbox9]); have u2 : w9.cell? ⟨w.heap.size, 2, none⟩ = some c2.i := (by simp [World.cell?, hbox9]); have z0 : w9.frozen? ⟨w.heap.size, 2, none⟩ = false := (by simp [World.frozen?, hbox9]); obtain ⟨A9, c9, rfl, m1, m2, m3⟩ := SlAt.of_own encIt_len hown9; have HO9 := Lib.hid hown9; have HGR := Lib.hid hg9; clear m1 m2 m3 hown9 hg9 hat9 hbox9)
                have ho9 : World.ownsRow w9 w.heap.size 56 2 (.slice A9 (c2.xs ++ [(⟨nm, some ⟨w7.heap.size, 0, none⟩, 1, [⟨d.1, d.2, qty, time⟩]⟩ : ItV)]).length c9) (c2.xs ++ [(⟨nm, some ⟨w7.heap.size, 0, none⟩, 1, [⟨d.1, d.2, qty, time⟩]⟩ : ItV)]).length (cellsOf encIt (c2.xs ++ [(⟨nm, some ⟨w7.heap.size, 0, none⟩, 1, [⟨d.1, d.2, qty, time⟩]⟩ : ItV)])) := HO9.out
                have hle9 : (c2.xs ++ [(⟨nm, some ⟨w7.heap.size, 0, none⟩, 1, [⟨d.1, d.2, qty, time⟩]⟩ : ItV)]).length = c2.xs.length + 1 := by simp
                have HGE := Lib.hid (HG9.out.addI (⟨nm, some ⟨w7.heap.size, 0, none⟩, 1, [⟨d.1, d.2, qty, time⟩]⟩ : ItV) (A := A9) (n := c9) (show RowI14 w9 w.heap.size (.slice A9 (c2.xs.length + 1) c9) (c2.xs ++ [(⟨nm, some ⟨w7.heap.size, 0, none⟩, 1, [⟨d.1, d.2, qty, time⟩]⟩ : ItV)]) from hle9 ▸ ho9) HGR.out HM9.out ⟨by show nm.length ≤ 100; rw [HNM.out]; omega, Nat.le_refl _, fun m hm => by rw [List.mem_singleton] at hm; subst hm; exact HT.out⟩)
                clear ho9 hle9
                go_roundw
                case rel => exact ⟨k + 1, _, by omega, by simp, HGE⟩
                case measure => simp [intOf]; omega
            · have i0 : ¬ (k : Int) < (many : Int) := by omega
              have HFI := Lib.hid (HG.out.fit (by omega) (by omega))
              have HEN := Lib.hid fun (W : World) (hB : Below w.heap.size w W) (h : CaOK W c) => HF.out.enc c W hB h HFI.out
              have HVA := Lib.hid fun (W : World) (hB : Below w.heap.size w W) (h : CaOK W c) => HF.out.val c W hB h HFI.out
              have HSI := Lib.hid fun (W : World) (hB : Below w.heap.size w W) (h : CaOK W c) => HF.out.siz c W hB h HFI.out
              have HRB := Lib.hid fun (W : World) (h : CaOK W c) => refBytes14 c W h HFI.out.len
              have HBL := Lib.hid (byC_len HFI.out)
              obtain ⟨v, hv⟩ : ∃ v, validK c.ca = v := ⟨_, rfl⟩
              unfold encV at HEN HSI
              rw [hv] at HEN HVA HSI
              clear hv HF HFI
              generalize byC c.ca = ys at HEN HRB HBL HSI
              obtain ⟨x0, x1, x2, y0, y1, y2⟩ := HG.out.cells
              go_wp2_with fail
              refine (HVA.out _ HG.out.bel HG.out.ok).mono ?_
              rintro e9 wv ⟨rfl, hb⟩
              clear x0 x1 x2 y0 y1 y2 HVA i0
              replace HG := Lib.hid (HG.out.next hb)
              clear hb
              cases v with
              | false =>
                have HEN2 := Lib.hid fun (W : World) (hB : Below w.heap.size w W) (h : CaOK W c) => (show Calls Tryz.prog 15 #[mkC c, .slice none 0 0, .int .i64 2] W (OneB (.bool true) W) from lawEncodes14 c [] [] none 0 2 2 true w W HEN.out hB h (HoldsB.nil _) (by simp))
                obtain ⟨x0, x1, x2, y0, y1, y2⟩ := HG.out.cells
                go_wp2_with fail
                refine (HEN2.out _ HG.out.bel HG.out.ok).mono ?_
                rintro e9 wg ⟨rfl, hb⟩
                clear x0 x1 x2 y0 y1 y2
                replace HG := Lib.hid (HG.out.next hb)
                clear hb
                go_wp2_with fail
                refine (HKN.out _ HG.out.bel).mono ?_
                rintro e9 w9 ⟨rfl, hb⟩
                replace HG := Lib.hid (HG.out.next hb)
                clear hb
                go_wp2_with fail
                go_ret
                exact ⟨rfl, HG.out.bel⟩
              | true =>
                replace HSI := Lib.hid (show ∀ W : World, Below w.heap.size w W → CaOK W c → Calls Tryz.prog 19 #[mkC c] W (OneB (.tuple #[.int .i64 (ys.length : Int), .int .i64 0]) W) from HSI.out)
                obtain ⟨x0, x1, x2, y0, y1, y2⟩ := HG.out.cells
                go_wp2_with fail
                refine (HSI.out _ HG.out.bel HG.out.ok).mono ?_
                rintro e9 ws ⟨rfl, hb⟩
                clear x0 x1 x2 y0 y1 y2 HSI
                replace HG := Lib.hid (HG.out.next hb)
                clear hb
                go_upto_region 17 with fail
                have HKK := Lib.hid fun (W : World) (hW : Chg (fun k => (Value.slice none 0 0).ownBlock = some k) ws W) => HG.out.next (hW.below (Nat.le_refl _) (fun _ e => by cases e))
                have HINJ := Lib.hid (show ∀ q ∈ (lonX17 w ws ys c).rows, ∀ q' ∈ (lonX17 w ws ys c).rows, q.j = q'.j → q = q' from inj_of (show ([2, 7] : List Nat).Nodup from by decide))
                refine wp_region_T (S := Rb.S (lonX17 w ws ys c)) (by kernel_rfl) (by kernel_rfl) (by kernel_rfl) (dst_small (n := 125) (by kernel_rfl)) (Rb.G.start HG.out.bel rfl (by rfl) (fun _ h => by cases h)) ?_ ?_
                · refine ⟨?_, ?_, ?_, ?_, ?_, ?_, ?_, ?_, ?_, ?_, ?_, ?_, ?_, ?_, ?_, ?_, ?_, ?_, ?_, trivial⟩
                  · refine stepPure rfl rfl (by kernel_rfl) (by kernel_rfl) (by kernel_rfl) (by kernel_rfl) fun L a9 W hI hk9 hd => ?_
                    have e11 : a9.tmps[11]?.getD undef = .pointer (some ⟨w.heap.size, 0, none⟩) := hI.at 11 (by kernel_rfl)
                    obtain ⟨x0, x1, x2, y0, y1, y2⟩ := (HKK.out W hI.glob.chg).cells
                    exact ⟨rfl, .agg #[c.v, c.l, c.i], by go_simp, fun u hu => Option.some.inj hu⟩
                  · refine stepPure rfl rfl (by kernel_rfl) (by kernel_rfl) (by kernel_rfl) (by kernel_rfl) fun L a9 W hI hk9 hd => ?_
                    have e11 : a9.tmps[11]?.getD undef = .pointer (some ⟨w.heap.size, 0, none⟩) := hI.at 11 (by kernel_rfl)
                    obtain ⟨x0, x1, x2, y0, y1, y2⟩ := (HKK.out W hI.glob.chg).cells
                    exact ⟨rfl, .agg #[c.v, c.l, c.i], by go_simp, fun u hu => Option.some.inj hu⟩
                  · refine stepCall (r0 := ⟨2, 109, ys, none⟩) HINJ.out (by simp [lonX17]) rfl rfl rfl rfl (by kernel_rfl) (show 109 < 125 from by decide) (by kernel_rfl) rfl fun L a9 W hI hk9 hd => ?_
                    have e108 := Rb.at hI 1 108 (hd 1 rfl) rfl rfl
                    exact ⟨rfl, 17, #[mkC c], by go_simp, HRB.out W (HKK.out W hI.glob.chg).ok⟩
                  · refine stepVal rfl rfl (by kernel_rfl) (by kernel_rfl) (by kernel_rfl) (by kernel_rfl) fun L a9 W hI hk9 hd => ?_
                    have e107 := Rb.at hI 0 107 (hd 0 rfl) rfl rfl
                    obtain ⟨A1, c1, e109, _, h109⟩ := Rb.slice hI (r := ⟨2, 109, ys, none⟩) (by simp [lonX17]) ⟨hd 2 rfl, fun _ h => by cases h⟩
                    have e109 : a9.tmps[109]?.getD undef = .slice A1 ys.length c1 := e109
                    refine ⟨rfl, 15, #[mkC c, .slice A1 ys.length c1, .int .i64 0], by go_simp, (lawEncodes14 c ys ys A1 c1 0 0 true w W HEN.out (HKK.out W hI.glob.chg).bel (HKK.out W hI.glob.chg).ok h109 (by simp)).mono ?_⟩
                    rintro e W9 ⟨rfl, hb⟩
                    exact ⟨_, rfl, hb, fun u hu => Option.some.inj hu⟩
                  · refine stepPure rfl rfl (by kernel_rfl) (by kernel_rfl) (by kernel_rfl) (by kernel_rfl) fun L a9 W hI hk9 hd => ?_
                    have e110 := Rb.at hI 3 110 (hd 3 rfl) rfl rfl
                    exact ⟨rfl, .bool true, by go_simp, fun u hu => Option.some.inj hu⟩
                  · refine stepPure rfl rfl (by kernel_rfl) (by kernel_rfl) (by kernel_rfl) (by kernel_rfl) fun L a9 W hI hk9 hd => ?_
                    have e15 : a9.tmps[15]?.getD undef = .int .i64 (ys.length : Int) := hI.at 15 (by kernel_rfl)
                    exact ⟨(Rb.wants hI (j := 4) (d := 111) rfl (hd 4 rfl) rfl rfl), .int .i64 (ys.length : Int), by go_simp, fun u hu => Option.some.inj hu⟩
                  · refine stepPure rfl rfl (by kernel_rfl) (by kernel_rfl) (by kernel_rfl) (by kernel_rfl) fun L a9 W hI hk9 hd => ?_
                    have e11 : a9.tmps[11]?.getD undef = .pointer (some ⟨w.heap.size, 0, none⟩) := hI.at 11 (by kernel_rfl)
                    obtain ⟨x0, x1, x2, y0, y1, y2⟩ := (HKK.out W hI.glob.chg).cells
                    exact ⟨(Rb.wants hI (j := 4) (d := 111) rfl (hd 4 rfl) rfl rfl), .agg #[c.v, c.l, c.i], by go_simp, fun u hu => Option.some.inj hu⟩
                  · refine stepCall (r0 := ⟨7, 114, ys, none⟩) HINJ.out (by simp [lonX17]) rfl rfl rfl rfl (by kernel_rfl) (show 114 < 125 from by decide) (by kernel_rfl) rfl fun L a9 W hI hk9 hd => ?_
                    have e113 := Rb.at hI 6 113 (hd 6 rfl) rfl rfl
                    exact ⟨(Rb.wants hI (j := 4) (d := 111) rfl (hd 4 rfl) rfl rfl), 17, #[mkC c], by go_simp, HRB.out W (HKK.out W hI.glob.chg).ok⟩
                  · refine stepPure rfl rfl (by kernel_rfl) (by kernel_rfl) (by kernel_rfl) (by kernel_rfl) fun L a9 W hI hk9 hd => ?_
                    obtain ⟨A1, c1, e114, _, h114⟩ := Rb.slice hI (r := ⟨7, 114, ys, none⟩) (by simp [lonX17]) ⟨hd 7 rfl, fun _ h => by cases h⟩
                    have e114 : a9.tmps[114]?.getD undef = .slice A1 ys.length c1 := e114
                    exact ⟨(Rb.wants hI (j := 4) (d := 111) rfl (hd 4 rfl) rfl rfl), .int .i64 (ys.length : Int), by go_simp, fun u hu => Option.some.inj hu⟩
                  · refine stepPure rfl rfl (by kernel_rfl) (by kernel_rfl) (by kernel_rfl) (by kernel_rfl) fun L a9 W hI hk9 hd => ?_
                    have e112 := Rb.at hI 5 112 (hd 5 rfl) rfl rfl
                    have e115 := Rb.at hI 8 115 (hd 8 rfl) rfl rfl
                    exact ⟨(Rb.wants hI (j := 4) (d := 111) rfl (hd 4 rfl) rfl rfl), .bool true, by go_simp, fun u hu => Option.some.inj hu⟩
                  · refine stepPure rfl rfl (by kernel_rfl) (by kernel_rfl) (by kernel_rfl) (by kernel_rfl) fun L a9 W hI hk9 hd => ?_
                    have e111 := Rb.at hI 4 111 (hd 4 rfl) rfl rfl
                    have e116 := Rb.at hI 9 116 (hd 9 rfl) rfl rfl
                    exact ⟨rfl, .bool true, by go_simp, fun u hu => Option.some.inj hu⟩
                  · refine stepPure rfl rfl (by kernel_rfl) (by kernel_rfl) (by kernel_rfl) (by kernel_rfl) fun L a9 W hI hk9 hd => ?_
                    have e117 := Rb.at hI 10 117 (hd 10 rfl) rfl rfl
                    exact ⟨rfl, .bool true, by go_simp, fun u hu => Option.some.inj hu⟩
                  · refine stepPure rfl rfl (by kernel_rfl) (by kernel_rfl) (by kernel_rfl) (by kernel_rfl) fun L a9 W hI hk9 hd => ?_
                    have e16 : a9.tmps[16]?.getD undef = .int .i64 0 := hI.at 16 (by kernel_rfl)
                    exact ⟨(Rb.wants hI (j := 11) (d := 118) rfl (hd 11 rfl) rfl rfl), .int .i64 0, by go_simp, fun u hu => Option.some.inj hu⟩
                  · refine stepPure rfl rfl (by kernel_rfl) (by kernel_rfl) (by kernel_rfl) (by kernel_rfl) fun L a9 W hI hk9 hd => ?_
                    have e119 := Rb.at hI 12 119 (hd 12 rfl) rfl rfl
                    exact ⟨(Rb.wants hI (j := 11) (d := 118) rfl (hd 11 rfl) rfl rfl), .bool true, by go_simp, fun u hu => Option.some.inj hu⟩
                  · refine stepPure rfl rfl (by kernel_rfl) (by kernel_rfl) (by kernel_rfl) (by kernel_rfl) fun L a9 W hI hk9 hd => ?_
                    have e118 := Rb.at hI 11 118 (hd 11 rfl) rfl rfl
                    have e120 := Rb.at hI 13 120 (hd 13 rfl) rfl rfl
                    exact ⟨rfl, .bool true, by go_simp, fun u hu => Option.some.inj hu⟩
                  · refine stepPure rfl rfl (by kernel_rfl) (by kernel_rfl) (by kernel_rfl) (by kernel_rfl) fun L a9 W hI hk9 hd => ?_
                    have e121 := Rb.at hI 14 121 (hd 14 rfl) rfl rfl
                    exact ⟨rfl, .bool true, by go_simp, fun u hu => Option.some.inj hu⟩
                  · refine stepVal rfl rfl (by kernel_rfl) (by kernel_rfl) (by kernel_rfl) (by kernel_rfl) fun L a9 W hI hk9 hd => ?_
                    refine ⟨(Rb.wants hI (j := 15) (d := 122) rfl (hd 15 rfl) rfl rfl), 9, #[], by go_simp, (HKN.out W (HKK.out W hI.glob.chg).bel).mono ?_⟩
                    rintro e W9 ⟨rfl, hb⟩
                    exact ⟨_, rfl, hb, fun u hu => Option.some.inj hu⟩
                  · refine stepPure rfl rfl (by kernel_rfl) (by kernel_rfl) (by kernel_rfl) (by kernel_rfl) fun L a9 W hI hk9 hd => ?_
                    have e122 := Rb.at hI 15 122 (hd 15 rfl) rfl rfl
                    have e123 := Rb.at hI 16 123 (hd 16 rfl) rfl rfl
                    exact ⟨rfl, .bool true, by go_simp, fun u hu => Option.some.inj hu⟩
                  · refine stepPure rfl rfl (by kernel_rfl) (by kernel_rfl) (by kernel_rfl) (by kernel_rfl) fun L a9 W hI hk9 hd => ?_
                    have e124 := Rb.at hI 17 124 (hd 17 rfl) rfl rfl
                    exact ⟨rfl, .bool true, by go_simp, fun u hu => Option.some.inj hu⟩
                · intro a9 W L hL hI
                  have e10 := Rb.at hI 18 10 (hL 18 (by decide)) rfl rfl
                  have e10' : a9.eval (.tmp 10) = .bool true := by rw [eval_tmp]; exact e10
                  replace HG := Lib.hid (HKK.out W hI.glob.chg)
                  rw [hI.frame]
                  simp only [List.filterMap, List.foldl]
                  rw [e10']
                  clear hI hL HINJ HKK e10 e10' 
                  generalize a9.eval (.tmp 107) = v107
                  generalize a9.eval (.tmp 108) = v108
                  generalize a9.eval (.tmp 109) = v109
                  generalize a9.eval (.tmp 110) = v110
                  generalize a9.eval (.tmp 111) = v111
                  generalize a9.eval (.tmp 112) = v112
                  generalize a9.eval (.tmp 113) = v113
                  generalize a9.eval (.tmp 114) = v114
                  generalize a9.eval (.tmp 115) = v115
                  generalize a9.eval (.tmp 116) = v116
                  generalize a9.eval (.tmp 117) = v117
                  generalize a9.eval (.tmp 118) = v118
                  generalize a9.eval (.tmp 119) = v119
                  generalize a9.eval (.tmp 120) = v120
                  generalize a9.eval (.tmp 121) = v121
                  generalize a9.eval (.tmp 122) = v122
                  generalize a9.eval (.tmp 123) = v123
                  generalize a9.eval (.tmp 124) = v124
                  simp only [List.setIfInBounds_toArray, List.set_cons_succ, List.set_cons_zero]
                  go_wp2_with fail
                  go_ret
                  exact ⟨rfl, HG.out.bel⟩
        · have i4 : qty < 1 := by omega
          have d4 : decide (qty < 1) = true := by simpa using i4
          go_wp2_with fail
          refine (HKN.out _ (Below.refl _ _)).mono ?_
          rintro e9 w9 ⟨rfl, hb⟩
          go_wp2_with fail
          go_ret
          exact ⟨rfl, hb⟩
      · have i3 : (first : Int) < 2 := by omega
        have d3 : decide ((first : Int) < 2) = true := by simpa using i3
        go_wp2_with fail
        refine (HKN.out _ (Below.refl _ _)).mono ?_
        rintro e9 w9 ⟨rfl, hb⟩
        go_wp2_with fail
        go_ret
        exact ⟨rfl, hb⟩
    · have i2 : (4294966296 : Int) < (first : Int) := by omega
      have d2 : decide ((4294966296 : Int) < (first : Int)) = true := by simpa using i2
      go_wp2_with fail
      refine (HKN.out _ (Below.refl _ _)).mono ?_
      rintro e9 w9 ⟨rfl, hb⟩
      go_wp2_with fail
      go_ret
      exact ⟨rfl, hb⟩
  · have i1 : (300 : Int) < (many : Int) := by omega
    have d1 : decide ((300 : Int) < (many : Int)) = true := by simpa using i1
    go_wp2_with fail
    refine (HKN.out _ (Below.refl _ _)).mono ?_
    rintro e9 w9 ⟨rfl, hb⟩
    go_wp2_with fail
    go_ret
    exact ⟨rfl, hb⟩

end

end Go.Proofs.YtgdnibahiomneaaGreat
