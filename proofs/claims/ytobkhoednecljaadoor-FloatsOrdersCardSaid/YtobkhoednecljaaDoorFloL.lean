/- The law Orders, from package floats' contracts. -/
import Derived.Test.YtobkhoednecljaaDoorFloJ
namespace Go.Proofs.YtobkhoednecljaaDoor
open Go.RowKit

theorem back_step {ys : List Nat} {p y : Nat} (h : ys[p]? = some y) : (ys.drop p).reverse = (ys.drop (p + 1)).reverse ++ [y] := by
  obtain ⟨h1, h2⟩ := List.getElem?_eq_some_iff.1 h
  rw [List.drop_eq_getElem_cons h1, List.reverse_cons, h2]
theorem SlAt.cutM {α : Type} {enc : α → List Value} {w : World} {A : Option Addr} {xs : List α} (h : SlAt enc 1 w A xs) (m cap : Nat) (hc : xs.length ≤ cap) (hne : ¬ cap = m) : SlAt enc 1 w (A.map (·.add m)) (xs.drop m) := by
  have := h.cutO m cap hc
  rwa [if_neg hne] at this
/-- What stands in a value's place. -/
def putF (o x : Nat) : Nat := if sameF x o = true then o else x
theorem putF_yes {o x : Nat} (h : sameF x o = true) : putF o x = o := if_pos h
theorem putF_no {o x : Nat} (h : sameF x o = false) : putF o x = x := if_neg (by rw [h]; decide)

set_option maxRecDepth 100000 in
set_option maxHeartbeats 4000000 in
theorem lawOrders13 (A : Option Addr) (xs : List Nat) (cap turn other : Nat) (w : World) (hf : FloOK w) (hk : KnownF w) (ht : turn < 256) (hother : other < 18446744073709551616) (hx : NumsU w A xs) (hc1 : xs.length ≤ cap) (hc2 : cap ≤ maxLen) (hv : ∀ x ∈ xs, x < 18446744073709551616) :
    Calls Tryd.prog 7 #[.slice A xs.length cap, .int .u8 (turn : Int), .int .u64 (other : Int)] w (OneB (.bool true) w) := by
  obtain ⟨ti0, hi0, hz0, hz1, hz2⟩ := info_parts infoU
  have HF := Lib.hid hf
  have HK := Lib.hid hk
  have HX := Lib.hid hx
  have HV := Lib.hid hv
  have HO := Lib.hid hother
  have HB := Lib.hid (Below.refl w.heap.size w)
  clear hf hk hx hv hother
  by_cases h1 : 1 ≤ xs.length
  · have j1 : ¬ (xs.length : Int) < 1 := by omega
    by_cases h40 : xs.length ≤ 40
    · have i0 : ¬ (40 : Int) < (xs.length : Int) := by omega
      obtain ⟨k, hk⟩ : ∃ k, turn % xs.length = k := ⟨_, rfl⟩
      have hkl : k < xs.length := by rw [← hk]; exact Nat.mod_lt _ (by omega)
      have ek : ((turn : Int)).tmod (xs.length : Int) = (k : Int) := by rw [← hk, Int.tmod_eq_emod_of_nonneg (by omega)]; simp
      have ez : ((xs.length : Int) == 0) = false := by rw [beq_eq_false_iff_ne]; omega
      have ew : IntKind.i64.wrap (turn : Int) = (turn : Int) := by simp [IntKind.wrap, IntKind.bits, IntKind.signed]; omega
      have ew2 : IntKind.i64.wrap (k : Int) = (k : Int) := by simp [IntKind.wrap, IntKind.bits, IntKind.signed]; omega
      have ez2 : ¬ (xs.length : Int) = 0 := by omega
      have HC := Lib.hid (show k < xs.length ∧ xs.length ≤ cap ∧ cap ≤ maxLen from ⟨hkl, hc1, hc2⟩)
      clear hk hkl hc1 hc2
      obtain ⟨ys, hys⟩ : ∃ ys, xs.map (putF other) = ys := ⟨_, rfl⟩
      have hyl : ys.length = xs.length := by rw [← hys, List.length_map]
      have HYS := Lib.hid hys
      have HYL := Lib.hid hyl
      have HYG := Lib.hid (show ∀ (p : Nat) (h : p < xs.length), ys[p]? = some (putF other xs[p]) from fun p h => by subst hys; rw [List.getElem?_map, List.getElem?_eq_getElem h]; rfl)
      clear hys hyl
      go_enter Tryd.func7, Tryd.ntmps7
      go_wp2_with fail
      go_loopw [8, 9] (fun v i wr => ∃ (m : Nat) (z : Int), m ≤ xs.length ∧ z + 1 = (m : Int) ∧ i = .int .i64 z ∧ Hid (MadeU w wr v (ys.drop m).reverse)) (fun _ i _ => (intOf i + 1).toNat)
      case atStart => exact ⟨xs.length, (xs.length : Int) - 1, by omega, by omega, by go_num, Lib.hid ⟨by rw [List.drop_of_length_le (by have := HYL.out; omega)]; exact World.ownsRow_nil _ _ _ _, Below.refl _ _⟩⟩
      case round =>
        clear HB
        obtain ⟨m, z, hm, hz, rfl, hr⟩ := hrel
        by_cases hm1 : 1 ≤ m
        · obtain ⟨p, rfl⟩ : ∃ p, m = p + 1 := ⟨m - 1, by omega⟩
          obtain rfl : z = (p : Int) := by omega
          have q0 : (0 : Int) ≤ (p : Int) := by omega
          have q1 : (p : Int) < (xs.length : Int) := by omega
          have hpx : p < xs.length := by omega
          obtain ⟨b, off, rfl, hbl, hc0⟩ := (SlAt.cell1 (f := fun n : Nat => Value.int .u64 n) (HX.out.below hr.out.2) (j := p) hpx)
          have hstep := back_step (HYG.out p hpx)
          have HS := Lib.hid hstep
          have hl : ((ys.drop (p + 1)).reverse).length ≤ 40 := by rw [List.length_reverse, List.length_drop]; have := HYL.out; omega
          have hxv := HV.out _ (List.getElem_mem hpx)
          obtain ⟨D, d, rfl, _, _, _⟩ := SlAt.of_own encU_len hr.out.1
          generalize xs[p] = x at hc0 HS hxv
          generalize (ys.drop (p + 1)).reverse = ns at hr hl HS ⊢
          have HSM := Lib.hid (HF.out.sam x other wr hr.out.2 hxv HO.out)
          clear hstep hxv hz
          go_wp2_with fail
          refine (lawOf13 x _).mono ?_
          rintro e y1 ⟨rfl, rfl⟩
          go_wp2_with fail
          refine (lawOf13 other _).mono ?_
          rintro e y2 ⟨rfl, rfl⟩
          go_wp2_with fail
          refine HSM.out.mono ?_
          rintro e w1 ⟨rfl, hb⟩
          have HR := Lib.hid (show MadeU w w1 (.slice D ns.length d) ns from ⟨own_below hr.out.1 hb, below_trans hr.out.2 hb⟩)
          clear hb hr HSM
          cases hs : sameF x other with
          | true =>
            rw [putF_yes hs] at HS
            clear hs
            go_wp2_with (at_builtin; refine wpList_append_sl _ encU 1 rfl (.tmp 43) (.tmp 45) 34 rfl encU_len (by omega) encU_one w.heap.size 22 ti0 _ 8 Tryd.underlying34 hi0 hz0 hz1 hz2 rfl _ ns rfl (HR.out.1.alloc _) _ 1 _ [other] rfl rfl (SlAt.one (t := 22) (heap_alloc_new w1 _)) (by simp [maxLen]; omega) (by simp; omega) (by have := HR.out.2.size; simp; omega) ?_; intro v1 w2 hown hg hat; have HNX := Lib.hid (show MadeU w w2 v1 (ns ++ [other]) from ⟨hown, (HR.out.2.alloc HR.out.2.size _).grown hg (by have := HR.out.2.size; simp; omega) (fun k hk => (HR.out.1.lt k hk).1)⟩); clear hown hg hat)
            go_roundw
            case rel => exact ⟨p, (p : Int) - 1, by omega, by omega, by go_num, by rw [HS.out]; exact HNX⟩
            case measure => simp [intOf]
          | false =>
            rw [putF_no hs] at HS
            clear hs
            go_wp2_with (at_builtin; refine wpList_append_sl _ encU 1 rfl (.tmp 43) (.tmp 45) 34 rfl encU_len (by omega) encU_one w.heap.size 22 ti0 _ 8 Tryd.underlying34 hi0 hz0 hz1 hz2 rfl _ ns rfl (HR.out.1.alloc _) _ 1 _ [x] rfl rfl (SlAt.one (t := 22) (heap_alloc_new w1 _)) (by simp [maxLen]; omega) (by simp; omega) (by have := HR.out.2.size; simp; omega) ?_; intro v1 w2 hown hg hat; have HNX := Lib.hid (show MadeU w w2 v1 (ns ++ [x]) from ⟨hown, (HR.out.2.alloc HR.out.2.size _).grown hg (by have := HR.out.2.size; simp; omega) (fun k hk => (HR.out.1.lt k hk).1)⟩); clear hown hg hat)
            go_roundw
            case rel => exact ⟨p, (p : Int) - 1, by omega, by omega, by go_num, by rw [HS.out]; exact HNX⟩
            case measure => simp [intOf]
        · obtain rfl : m = 0 := by omega
          obtain rfl : z = -1 := by omega
          rw [List.drop_zero] at hr
          have hbs : sumF ys.reverse = sumF xs := by rw [← HYS.out]; exact sumF_back HV.out other
          have hts := sumF_turn HV.out k
          have hbv : ∀ x ∈ ys.reverse, x < 18446744073709551616 := fun x hx => by
            rw [List.mem_reverse, ← HYS.out] at hx
            obtain ⟨y, hy, rfl⟩ := List.mem_map.1 hx
            unfold putF
            split
            · exact HO.out
            · exact HV.out y hy
          have htv : ∀ x ∈ xs.drop k ++ xs.take k, x < 18446744073709551616 := fun x hx => by
            rcases List.mem_append.1 hx with h | h
            · exact HV.out x (List.mem_of_mem_drop h)
            · exact HV.out x (List.mem_of_mem_take h)
          have hbl : ys.reverse.length ≤ 40 := by rw [List.length_reverse]; have := HYL.out; omega
          have htl : (xs.drop k ++ xs.take k).length ≤ 40 := by rw [List.length_append, List.length_drop, List.length_take]; omega
          obtain ⟨t, ht2⟩ : ∃ t, sumF xs = t := ⟨_, rfl⟩
          rw [ht2] at hbs hts
          have HT := Lib.hid ht2
          obtain ⟨tl, htl2⟩ : ∃ tl, xs.drop k ++ xs.take k = tl := ⟨_, rfl⟩
          have HTL := Lib.hid (show [] ++ xs.drop k ++ xs.take k = tl from by rw [List.nil_append]; exact htl2)
          rw [htl2] at hts htv htl
          generalize ys.reverse = bl at hr hbs hbv hbl
          have HBV := Lib.hid hbv
          have HTV := Lib.hid htv
          have HBS := Lib.hid hbs
          have HTS := Lib.hid hts
          obtain ⟨D8, d8, rfl, _, _, hn8⟩ := SlAt.of_own encU_len hr.out.1
          have HN8 := Lib.hid hn8
          have HB := Lib.hid hr.out.2
          have hd := run_toBits t
          clear hbv htv hbs hts hr hn8 ht2 htl2 hm1 hz hm
          go_wp2_with fail
          refine (refValues13 A xs cap _ (HX.out.below HB.out) (by omega)).mono ?_
          rintro e w1 ⟨v1, rfl, h1'⟩
          obtain ⟨D1, d1, rfl, _, _, hn1⟩ := SlAt.of_own encG_len h1'.1
          have HN1 := Lib.hid hn1
          replace HN8 := Lib.hid (HN8.out.below h1'.2)
          replace HB := Lib.hid (below_trans HB.out h1'.2)
          clear h1' hn1
          go_wp2_with fail
          have hq := HF.out.sum D1 xs d1 _ HB.out HN1.out (by omega) HV.out
          rw [HT.out] at hq
          refine hq.mono ?_
          clear hq
          rintro e wc ⟨rfl, hb⟩
          replace HN8 := Lib.hid (HN8.out.below hb)
          replace HB := Lib.hid (below_trans HB.out hb)
          clear hb HN1
          go_upto_region 13 with fail
          have HXc := Lib.hid (HX.out.below HB.out)
          have j0 : (0 : Int) ≤ (k : Int) := by omega
          have j2 : (k : Int) ≤ (xs.length : Int) := by have := HC.out.1; omega
          have j3 : (k : Int) ≤ (cap : Int) := by have := HC.out; omega
          have j4 : (xs.length : Int) ≤ (cap : Int) := by have := HC.out; omega
          have HSA := Lib.hid (show ∀ A c W, Below w.heap.size w W → NumsG W A tl → Calls Tryd.prog 26 #[.slice A tl.length c] W (OneB (.float .f64 t) W) from fun A c W hW hn => by have h := HF.out.sum A tl c W hW hn (by omega) HTV.out; rwa [HTS.out] at h)
          have HSB := Lib.hid (show ∀ A c W, Below w.heap.size w W → NumsG W A bl → Calls Tryd.prog 26 #[.slice A bl.length c] W (OneB (.float .f64 t) W) from fun A c W hW hn => by have h := HF.out.sum A bl c W hW hn (by omega) HBV.out; rwa [HBS.out] at h)
          have hck : ¬ cap = k := by have := HC.out; omega
          have hS : Below wc.heap.size wc wc := Below.refl _ _
          have hlt40 := hbl
          have hk40 : k ≤ 40 := by have := HC.out; omega
          go_region_held3 (fun W => Below wc.heap.size wc W)
            (first
              | assumption
              | exact (by first | assumption | exact Below.drew (by assumption) | exact bal (by assumption) _ | exact bal (Below.drew (by assumption)) _ | exact Below.drew (bal (by assumption) _)))
            (first
              | (refine step_append_sl (o := ⟨some 54, _, _, _, _, _⟩) _ encU 1 (by rfl) (.const (.slice none 0 0)) (.tmp 53) 34 (by rfl) encU_len (by omega) encU_one wc.heap.size 22 ti0 _ 8 Tryd.underlying34 hi0 hz0 hz1 hz2 rfl (.slice none 0 0) [] (by rfl) (World.ownsRow_nil _ _ _ _) _ (xs.length - k) _ (xs.drop k) (by rfl) (by simp) ((SlAt.below HXc.out (by first | assumption | exact Below.drew (by assumption) | exact bal (by assumption) _ | exact bal (Below.drew (by assumption)) _ | exact Below.drew (bal (by assumption) _))).cutM k cap HC.out.2.1 hck) (by simp [maxLen]; omega) (by simp; omega) (Below.size (by first | assumption | exact Below.drew (by assumption) | exact bal (by assumption) _ | exact bal (Below.drew (by assumption)) _ | exact Below.drew (bal (by assumption) _))) ?_
                 intro v1 w1' hown1 hg1 hat1
                 have hS1 : Below wc.heap.size wc w1' := Below.grown (by first | assumption | exact Below.drew (by assumption) | exact bal (by assumption) _ | exact bal (Below.drew (by assumption)) _ | exact Below.drew (bal (by assumption) _)) hg1 (Below.size (by first | assumption | exact Below.drew (by assumption) | exact bal (by assumption) _ | exact bal (Below.drew (by assumption)) _ | exact Below.drew (bal (by assumption) _))) (fun k hk => by simp [Value.ownBlock] at hk))
              | (refine step_append_sl (o := ⟨some 58, _, _, _, _, _⟩) _ encU 1 (by rfl) (.tmp 54) (.tmp 57) 34 (by rfl) encU_len (by omega) encU_one wc.heap.size 22 ti0 _ 8 Tryd.underlying34 hi0 hz0 hz1 hz2 rfl v1 ([] ++ xs.drop k) (by rfl) (by first | exact hown1 | exact hown1.drew) A k cap (xs.take k) (by rfl) (by rw [List.length_take]; have := HC.out.1; omega) ((SlAt.below HXc.out (by first | assumption | exact Below.drew (by assumption) | exact bal (by assumption) _ | exact bal (Below.drew (by assumption)) _ | exact Below.drew (bal (by assumption) _))).take k) (by simp [maxLen]; omega) (by simp; omega) (Below.size (by first | assumption | exact Below.drew (by assumption) | exact bal (by assumption) _ | exact bal (Below.drew (by assumption)) _ | exact Below.drew (bal (by assumption) _))) ?_
                 intro v2 w2' hown2 hg2 hat2
                 have hS2 : Below wc.heap.size wc w2' := Below.grown (by first | assumption | exact Below.drew (by assumption) | exact bal (by assumption) _ | exact bal (Below.drew (by assumption)) _ | exact Below.drew (bal (by assumption) _)) hg2 (Below.size (by first | assumption | exact Below.drew (by assumption) | exact bal (by assumption) _ | exact bal (Below.drew (by assumption)) _ | exact Below.drew (bal (by assumption) _))) (fun k hk => (hown1.lt k hk).1)
                 rw [HTL.out] at hown2
                 obtain ⟨E2, e2, rfl, _, _, hn2⟩ := SlAt.of_own encU_len hown2)
              | (go_at_call 21
                 first
                   | (with_reducible refine (refValues13 E2 tl e2 _ hn2 (by omega)).mono ?_
                      rintro e w3' ⟨v3, rfl, h3⟩
                      have hS3 : Below wc.heap.size wc w3' := below_trans (by first | assumption | exact Below.drew (by assumption) | exact bal (by assumption) _ | exact bal (Below.drew (by assumption)) _ | exact Below.drew (bal (by assumption) _)) h3.2
                      obtain ⟨E3, e3, rfl, _, _, hn3⟩ := SlAt.of_own encG_len h3.1)
                   | (with_reducible refine (refValues13 D8 bl d8 _ (HN8.out.below (by first | assumption | exact Below.drew (by assumption) | exact bal (by assumption) _ | exact bal (Below.drew (by assumption)) _ | exact Below.drew (bal (by assumption) _))) (by omega)).mono ?_
                      rintro e w6' ⟨v6, rfl, h6⟩
                      have hS6 : Below wc.heap.size wc w6' := below_trans (by first | assumption | exact Below.drew (by assumption) | exact bal (by assumption) _ | exact bal (Below.drew (by assumption)) _ | exact Below.drew (bal (by assumption) _)) h6.2
                      obtain ⟨E6, e6, rfl, _, _, hn6⟩ := SlAt.of_own encG_len h6.1))
              | (go_at_call 26
                 first
                   | (with_reducible refine (HSA.out E3 e3 _ (below_trans HB.out hS3) hn3).mono ?_
                      rintro e w4' ⟨rfl, hb4⟩
                      have hS4 : Below wc.heap.size wc w4' := below_trans (by first | assumption | exact Below.drew (by assumption) | exact bal (by assumption) _ | exact bal (Below.drew (by assumption)) _ | exact Below.drew (bal (by assumption) _)) hb4)
                   | (with_reducible refine (HSB.out E6 e6 _ (below_trans HB.out hS6) hn6).mono ?_
                      rintro e w7' ⟨rfl, hb7⟩
                      have hS7 : Below wc.heap.size wc w7' := below_trans (by first | assumption | exact Below.drew (by assumption) | exact bal (by assumption) _ | exact bal (Below.drew (by assumption)) _ | exact Below.drew (bal (by assumption) _)) hb7))
              | (go_at_call 12; refine (lawIs13_v t t true _ (by simp)).mono ?_; rintro e w5' ⟨rfl, rfl⟩)
              | (go_at_call 17; refine (HK.out _ (below_trans HB.out (by first | assumption | exact Below.drew (by assumption) | exact bal (by assumption) _ | exact bal (Below.drew (by assumption)) _ | exact Below.drew (bal (by assumption) _)))).mono ?_
                 rintro e w8' ⟨rfl, hb8⟩
                 have hS8 : Below wc.heap.size wc w8' := below_trans (by first | assumption | exact Below.drew (by assumption) | exact bal (by assumption) _ | exact bal (Below.drew (by assumption)) _ | exact Below.drew (bal (by assumption) _)) hb8))
          all_goals
            go_wp2_with fail
            go_ret
            exact ⟨rfl, below_trans HB.out (by first | assumption | exact Below.drew (by assumption) | exact bal (by assumption) _ | exact bal (Below.drew (by assumption)) _ | exact Below.drew (bal (by assumption) _))⟩
    · have i0 : (40 : Int) < (xs.length : Int) := by omega
      clear h40
      go_enter Tryd.func7, Tryd.ntmps7
      go_wp2_with fail
      refine (HK.out _ HB.out).mono ?_
      rintro e wb ⟨rfl, hb⟩
      replace HB := Lib.hid (below_trans HB.out hb)
      clear hb
      go_wp2_with fail
      go_ret
      exact ⟨rfl, HB.out⟩
  · have j1 : (xs.length : Int) < 1 := by omega
    clear h1
    go_enter Tryd.func7, Tryd.ntmps7
    go_wp2_with fail
    refine (HK.out _ HB.out).mono ?_
    rintro e wb ⟨rfl, hb⟩
    replace HB := Lib.hid (below_trans HB.out hb)
    clear hb
    go_wp2_with fail
    go_ret
    exact ⟨rfl, HB.out⟩

end Go.Proofs.YtobkhoednecljaaDoor
