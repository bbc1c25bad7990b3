/- The reference of package items: Equal (and Same of marks, whatever they are), Find, Owner, Qty; the laws' light, of, item, mark. -/
import Derived.Test.YtfbkhgajlklleaaGreatItmC
namespace Go.Proofs.YtfbkhgajlklleaaGreat
open Go.RowKit

theorem ne_at {α : Type} {xs ys : List α} {k : Nat} {x y : α} (hx : xs[k]? = some x) (hy : ys[k]? = some y) (h : x ≠ y) : xs ≠ ys := fun e => by
  subst e; rw [hx] at hy; exact h (Option.some.inj hy)
theorem same_to {α : Type} {xs ys : List α} {k : Nat} {x : α} (h : ∀ j, j < k → xs[j]? = ys[j]?) (hx : xs[k]? = some x) (hy : ys[k]? = some x) : ∀ j, j < k + 1 → xs[j]? = ys[j]? := fun j hj => by
  rcases Nat.lt_or_ge j k with h1 | h1
  · exact h j h1
  · obtain rfl : j = k := by omega
    rw [hx, hy]
theorem same_all {α : Type} {xs ys : List α} (hl : xs.length = ys.length) (h : ∀ j, j < xs.length → xs[j]? = ys[j]?) : xs = ys := List.ext_getElem? fun j => by
  rcases Nat.lt_or_ge j xs.length with h1 | h1
  · exact h j h1
  · rw [List.getElem?_eq_none h1, List.getElem?_eq_none (by omega)]

set_option maxHeartbeats 2000000 in
theorem refSameG (A B : Option Addr) (xs ys : List Mk) (cap cap' : Nat) (w : World) (hx : MarksAt w A xs) (hy : MarksAt w B ys) (hm : xs.length ≤ maxLen) (_ : ys.length ≤ maxLen) :
    Calls Tryz.prog 45 #[.slice A xs.length cap, .slice B ys.length cap'] w (OneB (.bool (decide (xs = ys))) w) := by
  unfold maxLen at hm
  by_cases hl : xs.length = ys.length
  · have hl' : ((xs.length : Int) != (ys.length : Int)) = false := neF (by omega)
    have HL := Lib.hid hl
    clear hl
    go_enter Tryz.func45, Tryz.ntmps45
    go_wp2_with fail
    go_loopw [5] (fun i wr => ∃ m : Nat, m ≤ xs.length ∧ i = .int .i64 m ∧ Below w.heap.size w wr ∧ Hid (∀ j, j < m → xs[j]? = ys[j]?)) (fun i _ => xs.length - (intOf i).toNat)
    case atStart => exact ⟨0, by omega, rfl, Below.refl _ _, fun j h => by omega⟩
    case round =>
      obtain ⟨m, hk2, rfl, hb, hs⟩ := hrel
      by_cases hlt : m < xs.length
      · have i0 : (m : Int) < (xs.length : Int) := by omega
        have i1 : (m : Int) < (ys.length : Int) := by have := HL.out; omega
        obtain ⟨g, off, x, rfl, hbl, hx1, _, hc0, hc1, hc2, hc3⟩ := (SlAt.below hx hb).mark (j := m) hlt
        obtain ⟨g', off', x', rfl, hbl', hx2, _, hd0, hd1, hd2, hd3⟩ := (SlAt.below hy hb).mark (j := m) (by have := HL.out; omega)
        have l0 := fun p => cell_far (p := p) hbl hc0
        have l1 := fun p => cell_far (p := p) hbl hc1
        have l2 := fun p => cell_far (p := p) hbl hc2
        have l3 := fun p => cell_far (p := p) hbl hc3
        have m0 := fun p => cell_far (p := p) hbl' hd0
        have m1 := fun p => cell_far (p := p) hbl' hd1
        have m2 := fun p => cell_far (p := p) hbl' hd2
        have m3 := fun p => cell_far (p := p) hbl' hd3
        clear hc0 hc1 hc2 hc3 hd0 hd1 hd2 hd3
        by_cases he : x = x'
        · subst he
          have HE := Lib.hid (same_to hs.out hx1 hx2)
          clear hx1 hx2
          go_wp2_with fail
          refine wp_region_far (by kernel_rfl) (by kernel_rfl) ?_
          repeat (go_big_quiet_step ((fail)))
          refine wpQuiet_nil ?_
          rintro _ ⟨p, rfl⟩
          go_wp2_with fail
          go_roundw
          case rel => exact ⟨m + 1, by omega, by go_num, hb.trans ((below_far wr p).mono hb.size), HE⟩
          case measure => simp [intOf]; omega
        · have HN := Lib.hid (show false = decide (xs = ys) from (decide_eq_false (ne_at hx1 hx2 he)).symm)
          clear hx1 hx2
          obtain ⟨r, c, q, t⟩ := x
          obtain ⟨r', c', q', t'⟩ := x'
          by_cases h1 : r = r'
          · subst h1
            by_cases h2 : c = c'
            · subst h2
              by_cases h3 : q = q'
              · subst h3
                have h4 : ¬ (t : Int) = (t' : Int) := fun h => he (by rw [Int.natCast_inj] at h; rw [h])
                clear he
                go_wp2_with fail
                refine wp_region_far (by kernel_rfl) (by kernel_rfl) ?_
                repeat (go_big_quiet_step ((fail)))
                refine wpQuiet_nil ?_
                rintro _ ⟨p, rfl⟩
                go_wp2_with fail
                go_ret
                exact OneB.bool HN.out (hb.trans ((below_far wr p).mono hb.size))
              · clear he
                go_wp2_with fail
                refine wp_region_far (by kernel_rfl) (by kernel_rfl) ?_
                repeat (go_big_quiet_step ((fail)))
                refine wpQuiet_nil ?_
                rintro _ ⟨p, rfl⟩
                go_wp2_with fail
                go_ret
                exact OneB.bool HN.out (hb.trans ((below_far wr p).mono hb.size))
            · clear he
              go_wp2_with fail
              refine wp_region_far (by kernel_rfl) (by kernel_rfl) ?_
              repeat (go_big_quiet_step ((fail)))
              refine wpQuiet_nil ?_
              rintro _ ⟨p, rfl⟩
              go_wp2_with fail
              go_ret
              exact OneB.bool HN.out (hb.trans ((below_far wr p).mono hb.size))
          · clear he
            go_wp2_with fail
            refine wp_region_far (by kernel_rfl) (by kernel_rfl) ?_
            repeat (go_big_quiet_step ((fail)))
            refine wpQuiet_nil ?_
            rintro _ ⟨p, rfl⟩
            go_wp2_with fail
            go_ret
            exact OneB.bool HN.out (hb.trans ((below_far wr p).mono hb.size))
      · obtain rfl : m = xs.length := by omega
        have i0 : ¬ (xs.length : Int) < (xs.length : Int) := by omega
        have HN := Lib.hid (show true = decide (xs = ys) from (decide_eq_true (same_all HL.out hs.out)).symm)
        clear hlt hk2
        go_wp2_with fail
        go_ret
        exact OneB.bool HN.out hb
  · have hl' : ((xs.length : Int) != (ys.length : Int)) = true := neT (by omega)
    have HN := Lib.hid (show false = decide (xs = ys) from (decide_eq_false (fun e => hl (by rw [e]))).symm)
    clear hl
    go_enter Tryz.func45, Tryz.ntmps45
    go_wp2_with fail
    go_ret
    exact OneB.bool HN.out (Below.refl _ _)

set_option maxRecDepth 100000 in
set_option maxHeartbeats 2000000 in
theorem refEqual9 (A B : Option Addr) (xs ys : List ItV) (cap cap' : Nat) (w : World) (hx : ItemsAt w A xs) (hy : ItemsAt w B ys) (hm : xs.length ≤ 100000) (_ : ys.length ≤ 100000) :
    Calls Tryz.prog 14 #[.slice A xs.length cap, .slice B ys.length cap'] w (OneB (.bool (decide (its xs = its ys))) w) := by
  by_cases hl : xs.length = ys.length
  · have hl' : ((xs.length : Int) != (ys.length : Int)) = false := neF (by omega)
    have HL := Lib.hid hl
    clear hl
    go_enter Tryz.func14, Tryz.ntmps14
    go_wp2_with fail
    go_loopw [5] (fun i wr => ∃ m : Nat, m ≤ xs.length ∧ i = .int .i64 m ∧ Below w.heap.size w wr ∧ Hid (∀ j, j < m → (its xs)[j]? = (its ys)[j]?)) (fun i _ => xs.length - (intOf i).toNat)
    case atStart => exact ⟨0, by omega, rfl, Below.refl _ _, fun j h => by omega⟩
    case round =>
      obtain ⟨m, hk2, rfl, hb, hs⟩ := hrel
      by_cases hlt : m < xs.length
      · have i0 : (m : Int) < (xs.length : Int) := by omega
        have i1 : (m : Int) < (ys.length : Int) := by have := HL.out; omega
        obtain ⟨g, off, x, rfl, hbl, hx1, _, hc0, hc1, hok⟩ := (hx.below hb).cells (j := m) hlt
        obtain ⟨g', off', y, rfl, hbl', hx2, _, hd0, hd1, hok'⟩ := (hy.below hb).cells (j := m) (by have := HL.out; omega)
        have l0 := fun p => cell_far (p := p) hbl hc0
        have l1 := fun p => cell_far (p := p) hbl hc1
        have m0 := fun p => cell_far (p := p) hbl' hd0
        have m1 := fun p => cell_far (p := p) hbl' hd1
        clear hc0 hc1 hd0 hd1
        by_cases hn : x.nm = y.nm
        · obtain ⟨q, hq⟩ : ∃ q, decide (x.ms = y.ms) = q := ⟨_, rfl⟩
          have HS := Lib.hid fun p => refSameG x.A y.A x.ms y.ms x.c y.c (far wr p) (SlAt.far hok.1 p) (SlAt.far hok'.1 p) hok.len hok'.len
          simp only [hq] at HS
          have hnb : (x.nm == y.nm) = true := by simp [hn]
          cases q with
          | true =>
            have he : x.it = y.it := by unfold ItV.it; rw [hn, of_decide_eq_true hq]
            have HE := Lib.hid (same_to (x := x.it) hs.out (its_at hx1) (by rw [its_at hx2, he]))
            clear hx1 hx2 hn hq he hok hok'
            go_wp2_with fail
            refine wp_region_far (by kernel_rfl) (by kernel_rfl) ?_
            repeat (go_big_quiet_step ((go_at_call 45; exact OneB.far (HS.out _))))
            refine wpQuiet_nil ?_
            rintro _ ⟨p, rfl⟩
            go_wp2_with fail
            go_roundw
            case rel => exact ⟨m + 1, by omega, by go_num, hb.trans ((below_far wr p).mono hb.size), HE⟩
            case measure => simp [intOf]; omega
          | false =>
            have HN := Lib.hid (show false = decide (its xs = its ys) from (decide_eq_false (ne_at (its_at hx1) (its_at hx2) fun e => of_decide_eq_false hq (congrArg Prod.snd e))).symm)
            clear hx1 hx2 hn hq hok hok'
            go_wp2_with fail
            refine wp_region_far (by kernel_rfl) (by kernel_rfl) ?_
            repeat (go_big_quiet_step ((go_at_call 45; exact OneB.far (HS.out _))))
            refine wpQuiet_nil ?_
            rintro _ ⟨p, rfl⟩
            go_wp2_with fail
            go_ret
            exact OneB.bool HN.out (hb.trans ((below_far wr p).mono hb.size))
        · have HN := Lib.hid (show false = decide (its xs = its ys) from (decide_eq_false (ne_at (its_at hx1) (its_at hx2) fun e => hn (congrArg Prod.fst e))).symm)
          have hnb : (x.nm == y.nm) = false := by simp [hn]
          clear hx1 hx2 hn hok hok'
          go_wp2_with fail
          refine wp_region_far (by kernel_rfl) (by kernel_rfl) ?_
          repeat (go_big_quiet_step ((fail)))
          refine wpQuiet_nil ?_
          rintro _ ⟨p, rfl⟩
          go_wp2_with fail
          go_ret
          exact OneB.bool HN.out (hb.trans ((below_far wr p).mono hb.size))
      · obtain rfl : m = xs.length := by omega
        have i0 : ¬ (xs.length : Int) < (xs.length : Int) := by omega
        have HN := Lib.hid (show true = decide (its xs = its ys) from (decide_eq_true (same_all (by rw [its_len, its_len]; exact HL.out) (by rw [its_len]; exact hs.out))).symm)
        clear hlt hk2
        go_wp2_with fail
        go_ret
        exact OneB.bool HN.out hb
  · have hl' : ((xs.length : Int) != (ys.length : Int)) = true := neT (by omega)
    have HN := Lib.hid (show false = decide (its xs = its ys) from (decide_eq_false (fun e => hl (by rw [← its_len xs, e, its_len]))).symm)
    clear hl
    go_enter Tryz.func14, Tryz.ntmps14
    go_wp2_with fail
    go_ret
    exact OneB.bool HN.out (Below.refl _ _)

/-- Where the item with a name stands, or -1. -/
def findZ (l : List It) (nm : List UInt8) : Int := match l.findIdx? (fun x => x.1 == nm) with
  | some i => (i : Int)
  | none => -1
theorem findZ_some {l : List It} {nm : List UInt8} {k : Nat} {x : It} (hx : l[k]? = some x) (he : (x.1 == nm) = true) (h : ∀ (j : Nat) (y : It), j < k → l[j]? = some y → (y.1 == nm) = false) : findZ l nm = (k : Int) := by
  obtain ⟨hk, hkx⟩ := List.getElem?_eq_some_iff.1 hx
  have : l.findIdx? (fun x => x.1 == nm) = some k := by
    rw [List.findIdx?_eq_some_iff_getElem]
    exact ⟨hk, by rw [hkx]; exact he, fun j hj => by have := h j l[j] hj (List.getElem?_eq_getElem (by omega)); simp [this]⟩
  unfold findZ; rw [this]
theorem findZ_none {l : List It} {nm : List UInt8} (h : ∀ (j : Nat) (y : It), j < l.length → l[j]? = some y → (y.1 == nm) = false) : findZ l nm = -1 := by
  have : l.findIdx? (fun x => x.1 == nm) = none := by
    rw [List.findIdx?_eq_none_iff]
    intro x hx
    obtain ⟨j, hj⟩ := List.mem_iff_getElem?.1 hx
    exact h j x (List.getElem?_eq_some_iff.1 hj).1 hj
  unfold findZ; rw [this]
theorem step_none {l : List It} {p : It → Bool} {k : Nat} {x : It} (h : ∀ (j : Nat) (y : It), j < k → l[j]? = some y → p y = false) (hx : l[k]? = some x) (he : p x = false) : ∀ (j : Nat) (y : It), j < k + 1 → l[j]? = some y → p y = false := fun j y hj hy => by
  rcases Nat.lt_or_ge j k with h1 | h1
  · exact h j y h1 hy
  · obtain rfl : j = k := by omega
    rw [hx] at hy; cases hy; exact he

set_option maxHeartbeats 2000000 in
theorem refFind9 (A : Option Addr) (xs : List ItV) (cap : Nat) (nm : List UInt8) (z : Int) (w : World) (hx : ItemsAt w A xs) (hm : xs.length ≤ 100000) (hz : findZ (its xs) nm = z) :
    Calls Tryz.prog 17 #[.slice A xs.length cap, .string ⟨nm.toArray⟩] w (One (.int .i64 z) w) := by
  have HZ := Lib.hid hz
  clear hz
  go_enter Tryz.func17, Tryz.ntmps17
  go_wp2_with fail
  go_loopw [5] (fun i wr => ∃ k : Nat, k ≤ xs.length ∧ i = .int .i64 k ∧ wr = w ∧ Hid (∀ (j : Nat) (y : It), j < k → (its xs)[j]? = some y → (y.1 == nm) = false)) (fun i _ => xs.length - (intOf i).toNat)
  case atStart => exact ⟨0, by omega, rfl, rfl, fun j y h => by omega⟩
  case round =>
    obtain ⟨k, hk, rfl, rfl, hs⟩ := hrel
    by_cases hlt : k < xs.length
    · have i0 : (k : Int) < (xs.length : Int) := by omega
      obtain ⟨g, off, x, rfl, hbl, hx1, _, hc0, hc1, hok⟩ := hx.cells (j := k) hlt
      cases hq : (x.nm == nm) with
      | true =>
        have HF := Lib.hid (findZ_some (its_at hx1) hq hs.out)
        clear hx1 hok
        go_wp2_with fail
        go_ret
        exact One.int _ (by rw [← HF.out]; exact HZ.out)
      | false =>
        have HF := Lib.hid (step_none (p := fun y => y.1 == nm) hs.out (its_at hx1) hq)
        clear hx1 hok
        go_wp2_with fail
        go_roundw
        case rel => exact ⟨k + 1, by omega, by go_num, by trivial, HF⟩
        case measure => simp [intOf]; omega
    · obtain rfl : k = xs.length := by omega
      have i0 : ¬ (xs.length : Int) < (xs.length : Int) := by omega
      have HF := Lib.hid (findZ_none (l := its xs) (nm := nm) (by rw [its_len]; exact hs.out))
      clear hlt hk
      go_wp2_with fail
      go_ret
      exact One.int _ (by rw [← HF.out]; exact HZ.out)

/-- The name of the item that has a dot. -/
def ownerL (l : List It) (r c : Int) : Option (List UInt8) := (l.find? fun x => hasD x.2 r c).map (·.1)
theorem ownerL_some {l : List It} {r c : Int} {k : Nat} {x : It} (hx : l[k]? = some x) (he : hasD x.2 r c = true) (h : ∀ (j : Nat) (y : It), j < k → l[j]? = some y → hasD y.2 r c = false) : ownerL l r c = some x.1 := by
  obtain ⟨hk, hkx⟩ := List.getElem?_eq_some_iff.1 hx
  have : l.find? (fun x => hasD x.2 r c) = some x := by
    rw [List.find?_eq_some_iff_getElem]
    exact ⟨he, k, hk, hkx, fun j hj => by have := h j l[j] hj (List.getElem?_eq_getElem (by omega)); simp [this]⟩
  unfold ownerL; rw [this]; rfl
theorem ownerL_none {l : List It} {r c : Int} (h : ∀ (j : Nat) (y : It), j < l.length → l[j]? = some y → hasD y.2 r c = false) : ownerL l r c = none := by
  have : l.find? (fun x => hasD x.2 r c) = none := by
    rw [List.find?_eq_none]
    intro x hx
    obtain ⟨j, hj⟩ := List.mem_iff_getElem?.1 hx
    simp [h j x (List.getElem?_eq_some_iff.1 hj).1 hj]
  unfold ownerL; rw [this]; rfl
/-- What Owner of the reference returns. -/
def ownerV : Option (List UInt8) → Value
  | some nm => .tuple #[.string ⟨nm.toArray⟩, .bool true]
  | none => .tuple #[.string ⟨#[]⟩, .bool false]

set_option maxHeartbeats 2000000 in
theorem refOwner9 (A : Option Addr) (xs : List ItV) (cap : Nat) (r c : Int) (v : Value) (w : World) (hx : ItemsAt w A xs) (hm : xs.length ≤ 100000) (hv : ownerV (ownerL (its xs) r c) = v) :
    Calls Tryz.prog 19 #[.slice A xs.length cap, .agg #[.int .i64 r, .int .i64 c]] w (OneB v w) := by
  have HV := Lib.hid hv
  clear hv
  have D0 := Lib.hid (heap_alloc_new w (.cells #[.int .i64 r, .int .i64 c] 29))
  have HB := Lib.hid ((Below.refl w.heap.size w).alloc (Nat.le_refl _) (.cells #[.int .i64 r, .int .i64 c] 29))
  go_enter Tryz.func19, Tryz.ntmps19
  go_wp2_with fail
  generalize World.alloc w _ = w2 at D0 HB ⊢
  go_loopw [6] (fun i wr => ∃ k : Nat, k ≤ xs.length ∧ i = .int .i64 k ∧ Hid (Below w2.heap.size w2 wr) ∧ Hid (∀ (j : Nat) (y : It), j < k → (its xs)[j]? = some y → hasD y.2 r c = false)) (fun i _ => xs.length - (intOf i).toNat)
  case atStart => exact ⟨0, by omega, rfl, Below.refl _ _, fun j y h => by omega⟩
  case round =>
    obtain ⟨k, hk, rfl, hb, hs⟩ := hrel
    by_cases hlt : k < xs.length
    · have i0 : (k : Int) < (xs.length : Int) := by omega
      obtain ⟨g, off, x, rfl, hbl, hx1, _, hc0, hc1, hok⟩ := ((hx.below HB.out).below hb.out).cells (j := k) hlt
      have hd := (hb.out.block _ (Array.getElem?_eq_some_iff.1 D0.out).1).trans D0.out
      have hld : w.heap.size < wr.heap.size := (Array.getElem?_eq_some_iff.1 hd).1
      have d0 : wr.cell? ⟨w.heap.size, 0, none⟩ = some (.int .i64 r) := by simp [World.cell?, hd]
      have d1 : wr.cell? ⟨w.heap.size, 1, none⟩ = some (.int .i64 c) := by simp [World.cell?, hd]
      have n0 := fun p => cell_far (p := p) hld d0
      have n1 := fun p => cell_far (p := p) hld d1
      have l0 := fun p => cell_far (p := p) hbl hc0
      have l1 := fun p => cell_far (p := p) hbl hc1
      have HR := Lib.hid fun p => refHas9 x r c (far wr p) (hok.below (below_far wr p))
      clear hd d0 d1
      cases hq : hasD x.ms r c with
      | true =>
        have HF := Lib.hid (ownerL_some (its_at hx1) hq hs.out)
        simp only [hq] at HR
        clear hx1 hok hq hc0 hc1
        go_wp2_with fail
        refine wp_region_far (by kernel_rfl) (by kernel_rfl) ?_
        repeat (go_big_quiet_step ((go_at_call 47; exact OneB.far (HR.out _))))
        refine wpQuiet_nil ?_
        rintro _ ⟨p, rfl⟩
        go_wp2_with fail
        go_ret2
        have hv := HV.out
        rw [HF.out] at hv
        exact ⟨by rw [← hv]; rfl, below_trans HB.out (hb.out.trans ((below_far wr p).mono hb.out.size))⟩
      | false =>
        have HF := Lib.hid (step_none (p := fun y => hasD y.2 r c) hs.out (its_at hx1) hq)
        simp only [hq] at HR
        clear hx1 hok hq hc0 hc1
        go_wp2_with fail
        refine wp_region_far (by kernel_rfl) (by kernel_rfl) ?_
        repeat (go_big_quiet_step ((go_at_call 47; exact OneB.far (HR.out _))))
        refine wpQuiet_nil ?_
        rintro _ ⟨p, rfl⟩
        go_wp2_with fail
        go_roundw
        case rel => exact ⟨k + 1, by omega, by go_num, hb.out.trans ((below_far wr p).mono hb.out.size), HF⟩
        case measure => simp [intOf]; omega
    · obtain rfl : k = xs.length := by omega
      have i0 : ¬ (xs.length : Int) < (xs.length : Int) := by omega
      have HF := Lib.hid (ownerL_none (l := its xs) (r := r) (c := c) (by rw [its_len]; exact hs.out))
      clear hlt hk
      go_wp2_with fail
      go_ret2
      have hv := HV.out
      rw [HF.out] at hv
      exact ⟨by rw [← hv]; rfl, below_trans HB.out hb.out⟩

set_option maxHeartbeats 1000000 in
theorem refQty9 (x : ItV) (m : Mk) (n : Nat) (w : World) (hx : ItOK w x) (hv : newR x.ms = (m, n)) :
    Calls Tryz.prog 26 #[mkIt x] w (OneB (.int .i64 m.q) w) := by
  have HN := Lib.hid fun W (h : MarksAt W x.A x.ms) => refNewest x.A x.ms x.c m n W h hx.len hv
  have HX := Lib.hid hx.1
  have HB := Lib.hid ((Below.refl w.heap.size w).alloc (Nat.le_refl _) (.cells #[.string ⟨x.nm.toArray⟩, .slice x.A x.ms.length x.c] 34))
  clear hx hv
  go_enter Tryz.func26, Tryz.ntmps26
  go_wp2_with fail
  refine (HN.out _ (SlAt.below HX.out HB.out)).mono ?_
  rintro e w1 ⟨rfl, hb⟩
  have HB2 := Lib.hid (below_trans HB.out hb)
  clear hb
  go_wp2_with fail
  go_ret
  exact ⟨rfl, HB2.out.alloc HB2.out.size _⟩

theorem lawOf9 (v : Value) (w : World) : Calls Tryz.prog 27 #[v] w (One v w) := by
  go_enter Tryz.func27, Tryz.ntmps27
  go_wp2_with fail
  go_ret
  exact ⟨rfl, rfl⟩

end Go.Proofs.YtfbkhgajlklleaaGreat
