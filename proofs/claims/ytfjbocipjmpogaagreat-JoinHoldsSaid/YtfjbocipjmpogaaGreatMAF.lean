/- Several texts in one: ItmD, ItmE, ItmO. -/
import Derived.Test.YtfjbocipjmpogaaGreatMAE
import Derived.ChangeMaps
import Derived.ChangeSlices
import Derived.Deep.SlicePairs
import Derived.Lib.SmallJoins
import Derived.ProofKit
import Derived.OpenShut
import Derived.ChangeOld
import Derived.Below
import Derived.Carry
namespace Go.Proofs.YtfjbocipjmpogaaGreat

section
open Go.RowKit

theorem ne_at {α : Type} {xs ys : List α} {k : Nat} {x y : α} (hx : xs[k]? = some x) (hy : ys[k]? = some y) (h : x ≠ y) : xs ≠ ys := fun e => by
  subst e; rw [hx] at hy; exact h (Option.some.inj hy)
theorem same_to {α : Type} {xs ys : List α} {k : Nat} {x : α} (h : ∀ j, j < k → xs[j]? = ys[j]?) (hx : xs[k]? = some x) (hy : ys[k]? = some x) : ∀ j, j < k + 1 → xs[j]? = ys[j]? := fun j hj => by
  rcases Nat.lt_or_ge j k with h1 | h1
  · exact h j h1
  · obtain rfl : j = k := by omega
    rw [hx, hy]
theorem same_all {α : Type} {xs ys : List α} (hl : xs.length = ys.length) (h : ∀ j, j < xs.length → xs[j]? = ys[j]?) : xs = ys := List.ext_getElem? fun j => by
  rcases Nat.lt_or_ge j xs.length with h1 | h1
  · exact h j h1
  · rw [List.getElem?_eq_none h1, List.getElem?_eq_none (by omega)]

set_option maxHeartbeats 2000000 in
theorem refSameG (A B : Option Addr) (xs ys : List Mk) (cap cap' : Nat) (w : World) (hx : MarksAt w A xs) (hy : MarksAt w B ys) (hm : xs.length ≤ maxLen) (_ : ys.length ≤ maxLen) :
    Calls Tryz.prog 84 #[.slice A xs.length cap, .slice B ys.length cap'] w (OneB (.bool (decide (xs = ys))) w) := by
  unfold maxLen at hm
  by_cases hl : xs.length = ys.length
  · have hl' : ((xs.length : Int) != (ys.length : Int)) = false := neF (by omega)
    have HL := Lib.hid hl
    clear hl
    go_enter Tryz.func84, Tryz.ntmps84
    go_wp2_with fail
    go_loopw [5] (fun i wr => ∃ m : Nat, m ≤ xs.length ∧ i = .int .i64 m ∧ Below w.heap.size w wr ∧ Hid (∀ j, j < m → xs[j]? = ys[j]?)) (fun i _ => xs.length - (intOf i).toNat)
    case atStart => exact ⟨0, by omega, rfl, Below.refl _ _, fun j h => by omega⟩
    case round =>
      obtain ⟨m, hk2, rfl, hb, hs⟩ := hrel
      by_cases hlt : m < xs.length
      · have i0 : (m : Int) < (xs.length : Int) := by omega
        have i1 : (m : Int) < (ys.length : Int) := by have := HL.out; omega
        obtain ⟨g, off, x, rfl, hbl, hx1, _, hc0, hc1, hc2, hc3⟩ := (SlAt.below hx hb).mark (j := m) hlt
        obtain ⟨g', off', x', rfl, hbl', hx2, _, hd0, hd1, hd2, hd3⟩ := (SlAt.below hy hb).mark (j := m) (by have := HL.out; omega)
        have l0 := fun p => cell_far (p := p) hbl hc0
        have l1 := fun p => cell_far (p := p) hbl hc1
        have l2 := fun p => cell_far (p := p) hbl hc2
        have l3 := fun p => cell_far (p := p) hbl hc3
        have m0 := fun p => cell_far (p := p) hbl' hd0
        have m1 := fun p => cell_far (p := p) hbl' hd1
        have m2 := fun p => cell_far (p := p) hbl' hd2
        have m3 := fun p => cell_far (p := p) hbl' hd3
        clear hc0 hc1 hc2 hc3 hd0 hd1 hd2 hd3
        by_cases he : x = x'
        · subst he
          have HE := Lib.hid (same_to hs.out hx1 hx2)
          clear hx1 hx2
          go_wp2_with fail
          refine wp_region_far (by kernel_rfl) (by kernel_rfl) ?_
          repeat (go_big_quiet_step ((fail)))
          refine wpQuiet_nil ?_
          rintro _ ⟨p, rfl⟩
          go_wp2_with fail
          go_roundw
          case rel => exact ⟨m + 1, by omega, by go_num, hb.trans ((below_far wr p).mono hb.size), HE⟩
          case measure => simp [intOf]; omega
        · have HN := Lib.hid (show false = decide (xs = ys) from (decide_eq_false (ne_at hx1 hx2 he)).symm)
          clear hx1 hx2
          obtain ⟨r, c, q, t⟩ := x
          obtain ⟨r', c', q', t'⟩ := x'
          by_cases h1 : r = r'
          · subst h1
            by_cases h2 : c = c'
            · subst h2
              by_cases h3 : q = q'
              · subst h3
                have h4 : ¬ (t : Int) = (t' : Int) := fun h => he (by rw [Int.natCast_inj] at h; rw [h])
                clear he
                go_wp2_with fail
                refine wp_region_far (by kernel_rfl) (by kernel_rfl) ?_
                repeat (go_big_quiet_step ((fail)))
                refine wpQuiet_nil ?_
                rintro _ ⟨p, rfl⟩
                go_wp2_with fail
                go_ret
                exact OneB.bool HN.out (hb.trans ((below_far wr p).mono hb.size))
              · clear he
                go_wp2_with fail
                refine wp_region_far (by kernel_rfl) (by kernel_rfl) ?_
                repeat (go_big_quiet_step ((fail)))
                refine wpQuiet_nil ?_
                rintro _ ⟨p, rfl⟩
                go_wp2_with fail
                go_ret
                exact OneB.bool HN.out (hb.trans ((below_far wr p).mono hb.size))
            · clear he
              go_wp2_with fail
              refine wp_region_far (by kernel_rfl) (by kernel_rfl) ?_
              repeat (go_big_quiet_step ((fail)))
              refine wpQuiet_nil ?_
              rintro _ ⟨p, rfl⟩
              go_wp2_with fail
              go_ret
              exact OneB.bool HN.out (hb.trans ((below_far wr p).mono hb.size))
          · clear he
            go_wp2_with fail
            refine wp_region_far (by kernel_rfl) (by kernel_rfl) ?_
            repeat (go_big_quiet_step ((fail)))
            refine wpQuiet_nil ?_
            rintro _ ⟨p, rfl⟩
            go_wp2_with fail
            go_ret
            exact OneB.bool HN.out (hb.trans ((below_far wr p).mono hb.size))
      · obtain rfl : m = xs.length := by omega
        have i0 : ¬ (xs.length : Int) < (xs.length : Int) := by omega
        have HN := Lib.hid (show true = decide (xs = ys) from (decide_eq_true (same_all HL.out hs.out)).symm)
        clear hlt hk2
        go_wp2_with fail
        go_ret
        exact OneB.bool HN.out hb
  · have hl' : ((xs.length : Int) != (ys.length : Int)) = true := neT (by omega)
    have HN := Lib.hid (show false = decide (xs = ys) from (decide_eq_false (fun e => hl (by rw [e]))).symm)
    clear hl
    go_enter Tryz.func84, Tryz.ntmps84
    go_wp2_with fail
    go_ret
    exact OneB.bool HN.out (Below.refl _ _)

set_option maxRecDepth 100000 in
set_option maxHeartbeats 2000000 in
theorem refEqual9 (A B : Option Addr) (xs ys : List ItV) (cap cap' : Nat) (w : World) (hx : ItemsAt w A xs) (hy : ItemsAt w B ys) (hm : xs.length ≤ 100000) (_ : ys.length ≤ 100000) :
    Calls Tryz.prog 40 #[.slice A xs.length cap, .slice B ys.length cap'] w (OneB (.bool (decide (its xs = its ys))) w) := by
  by_cases hl : xs.length = ys.length
  · have hl' : ((xs.length : Int) != (ys.length : Int)) = false := neF (by omega)
    have HL := Lib.hid hl
    clear hl
    go_enter Tryz.func40, Tryz.ntmps40
    go_wp2_with fail
    go_loopw [5] (fun i wr => ∃ m : Nat, m ≤ xs.length ∧ i = .int .i64 m ∧ Below w.heap.size w wr ∧ Hid (∀ j, j < m → (its xs)[j]? = (its ys)[j]?)) (fun i _ => xs.length - (intOf i).toNat)
    case atStart => exact ⟨0, by omega, rfl, Below.refl _ _, fun j h => by omega⟩
    case round =>
      obtain ⟨m, hk2, rfl, hb, hs⟩ := hrel
      by_cases hlt : m < xs.length
      · have i0 : (m : Int) < (xs.length : Int) := by omega
        have i1 : (m : Int) < (ys.length : Int) := by have := HL.out; omega
        obtain ⟨g, off, x, rfl, hbl, hx1, _, hc0, hc1, hok⟩ := (hx.below hb).cells (j := m) hlt
        obtain ⟨g', off', y, rfl, hbl', hx2, _, hd0, hd1, hok'⟩ := (hy.below hb).cells (j := m) (by have := HL.out; omega)
        have l0 := fun p => cell_far (p := p) hbl hc0
        have l1 := fun p => cell_far (p := p) hbl hc1
        have m0 := fun p => cell_far (p := p) hbl' hd0
        have m1 := fun p => cell_far (p := p) hbl' hd1
        clear hc0 hc1 hd0 hd1
        by_cases hn : x.nm = y.nm
        · obtain ⟨q, hq⟩ : ∃ q, decide (x.ms = y.ms) = q := ⟨_, rfl⟩
          have HS := Lib.hid fun p => refSameG x.A y.A x.ms y.ms x.c y.c (far wr p) (SlAt.far hok.1 p) (SlAt.far hok'.1 p) hok.len hok'.len
          simp only [hq] at HS
          have hnb : (x.nm == y.nm) = true := by simp [hn]
          cases q with
          | true =>
            have he : x.it = y.it := by unfold ItV.it; rw [hn, of_decide_eq_true hq]
            have HE := Lib.hid (same_to (x := x.it) hs.out (its_at hx1) (by rw [its_at hx2, he]))
            clear hx1 hx2 hn hq he hok hok'
            go_wp2_with fail
            refine wp_region_far (by kernel_rfl) (by kernel_rfl) ?_
            repeat (go_big_quiet_step ((go_at_call 84; exact OneB.far (HS.out _))))
            refine wpQuiet_nil ?_
            rintro _ ⟨p, rfl⟩
            go_wp2_with fail
            go_roundw
            case rel => exact ⟨m + 1, by omega, by go_num, hb.trans ((below_far wr p).mono hb.size), HE⟩
            case measure => simp [intOf]; omega
          | false =>
            have HN := Lib.hid (show false = decide (its xs = its ys) from (decide_eq_false (ne_at (its_at hx1) (its_at hx2) fun e => of_decide_eq_false hq (congrArg Prod.snd e))).symm)
            clear hx1 hx2 hn hq hok hok'
            go_wp2_with fail
            refine wp_region_far (by kernel_rfl) (by kernel_rfl) ?_
            repeat (go_big_quiet_step ((go_at_call 84; exact OneB.far (HS.out _))))
            refine wpQuiet_nil ?_
            rintro _ ⟨p, rfl⟩
            go_wp2_with fail
            go_ret
            exact OneB.bool HN.out (hb.trans ((below_far wr p).mono hb.size))
        · have HN := Lib.hid (show false = decide (its xs = its ys) from (decide_eq_false (ne_at (its_at hx1) (its_at hx2) fun e => hn (congrArg Prod.fst e))).symm)
          have hnb : (x.nm == y.nm) = false := by simp [hn]
          clear hx1 hx2 hn hok hok'
          go_wp2_with fail
          refine wp_region_far (by kernel_rfl) (by kernel_rfl) ?_
          repeat (go_big_quiet_step ((fail)))
          refine wpQuiet_nil ?_
          rintro _ ⟨p, rfl⟩
          go_wp2_with fail
          go_ret
          exact OneB.bool HN.out (hb.trans ((below_far wr p).mono hb.size))
      · obtain rfl : m = xs.length := by omega
        have i0 : ¬ (xs.length : Int) < (xs.length : Int) := by omega
        have HN := Lib.hid (show true = decide (its xs = its ys) from (decide_eq_true (same_all (by rw [its_len, its_len]; exact HL.out) (by rw [its_len]; exact hs.out))).symm)
        clear hlt hk2
        go_wp2_with fail
        go_ret
        exact OneB.bool HN.out hb
  · have hl' : ((xs.length : Int) != (ys.length : Int)) = true := neT (by omega)
    have HN := Lib.hid (show false = decide (its xs = its ys) from (decide_eq_false (fun e => hl (by rw [← its_len xs, e, its_len]))).symm)
    clear hl
    go_enter Tryz.func40, Tryz.ntmps40
    go_wp2_with fail
    go_ret
    exact OneB.bool HN.out (Below.refl _ _)

/-- Where the item with a name stands, or -1. -/
def findZ (l : List It) (nm : List UInt8) : Int := match l.findIdx? (fun x => x.1 == nm) with
  | some i => (i : Int)
  | none => -1
theorem findZ_some {l : List It} {nm : List UInt8} {k : Nat} {x : It} (hx : l[k]? = some x) (he : (x.1 == nm) = true) (h : ∀ (j : Nat) (y : It), j < k → l[j]? = some y → (y.1 == nm) = false) : findZ l nm = (k : Int) := by
  obtain ⟨hk, hkx⟩ := List.getElem?_eq_some_iff.1 hx
  have : l.findIdx? (fun x => x.1 == nm) = some k := by
    rw [List.findIdx?_eq_some_iff_getElem]
    exact ⟨hk, by rw [hkx]; exact he, fun j hj => by have := h j l[j] hj (List.getElem?_eq_getElem (by omega)); simp [this]⟩
  unfold findZ; rw [this]
theorem findZ_none {l : List It} {nm : List UInt8} (h : ∀ (j : Nat) (y : It), j < l.length → l[j]? = some y → (y.1 == nm) = false) : findZ l nm = -1 := by
  have : l.findIdx? (fun x => x.1 == nm) = none := by
    rw [List.findIdx?_eq_none_iff]
    intro x hx
    obtain ⟨j, hj⟩ := List.mem_iff_getElem?.1 hx
    exact h j x (List.getElem?_eq_some_iff.1 hj).1 hj
  unfold findZ; rw [this]
theorem step_none {l : List It} {p : It → Bool} {k : Nat} {x : It} (h : ∀ (j : Nat) (y : It), j < k → l[j]? = some y → p y = false) (hx : l[k]? = some x) (he : p x = false) : ∀ (j : Nat) (y : It), j < k + 1 → l[j]? = some y → p y = false := fun j y hj hy => by
  rcases Nat.lt_or_ge j k with h1 | h1
  · exact h j y h1 hy
  · obtain rfl : j = k := by omega
    rw [hx] at hy; cases hy; exact he

set_option maxHeartbeats 2000000 in
theorem refFind9 (A : Option Addr) (xs : List ItV) (cap : Nat) (nm : List UInt8) (z : Int) (w : World) (hx : ItemsAt w A xs) (hm : xs.length ≤ 100000) (hz : findZ (its xs) nm = z) :
    Calls Tryz.prog 44 #[.slice A xs.length cap, .string ⟨nm.toArray⟩] w (One (.int .i64 z) w) := by
  have HZ := Lib.hid hz
  clear hz
  go_enter Tryz.func44, Tryz.ntmps44
  go_wp2_with fail
  go_loopw [5] (fun i wr => ∃ k : Nat, k ≤ xs.length ∧ i = .int .i64 k ∧ wr = w ∧ Hid (∀ (j : Nat) (y : It), j < k → (its xs)[j]? = some y → (y.1 == nm) = false)) (fun i _ => xs.length - (intOf i).toNat)
  case atStart => exact ⟨0, by omega, rfl, rfl, fun j y h => by omega⟩
  case round =>
    obtain ⟨k, hk, rfl, rfl, hs⟩ := hrel
    by_cases hlt : k < xs.length
    · have i0 : (k : Int) < (xs.length : Int) := by omega
      obtain ⟨g, off, x, rfl, hbl, hx1, _, hc0, hc1, hok⟩ := hx.cells (j := k) hlt
      cases hq : (x.nm == nm) with
      | true =>
        have HF := Lib.hid (findZ_some (its_at hx1) hq hs.out)
        clear hx1 hok
        go_wp2_with fail
        go_ret
        exact One.int _ (by rw [← HF.out]; exact HZ.out)
      | false =>
        have HF := Lib.hid (step_none (p := fun y => y.1 == nm) hs.out (its_at hx1) hq)
        clear hx1 hok
        go_wp2_with fail
        go_roundw
        case rel => exact ⟨k + 1, by omega, by go_num, by trivial, HF⟩
        case measure => simp [intOf]; omega
    · obtain rfl : k = xs.length := by omega
      have i0 : ¬ (xs.length : Int) < (xs.length : Int) := by omega
      have HF := Lib.hid (findZ_none (l := its xs) (nm := nm) (by rw [its_len]; exact hs.out))
      clear hlt hk
      go_wp2_with fail
      go_ret
      exact One.int _ (by rw [← HF.out]; exact HZ.out)

/-- The name of the item that has a dot. -/
def ownerL (l : List It) (r c : Int) : Option (List UInt8) := (l.find? fun x => hasD x.2 r c).map (·.1)
theorem ownerL_some {l : List It} {r c : Int} {k : Nat} {x : It} (hx : l[k]? = some x) (he : hasD x.2 r c = true) (h : ∀ (j : Nat) (y : It), j < k → l[j]? = some y → hasD y.2 r c = false) : ownerL l r c = some x.1 := by
  obtain ⟨hk, hkx⟩ := List.getElem?_eq_some_iff.1 hx
  have : l.find? (fun x => hasD x.2 r c) = some x := by
    rw [List.find?_eq_some_iff_getElem]
    exact ⟨he, k, hk, hkx, fun j hj => by have := h j l[j] hj (List.getElem?_eq_getElem (by omega)); simp [this]⟩
  unfold ownerL; rw [this]; rfl
theorem ownerL_none {l : List It} {r c : Int} (h : ∀ (j : Nat) (y : It), j < l.length → l[j]? = some y → hasD y.2 r c = false) : ownerL l r c = none := by
  have : l.find? (fun x => hasD x.2 r c) = none := by
    rw [List.find?_eq_none]
    intro x hx
    obtain ⟨j, hj⟩ := List.mem_iff_getElem?.1 hx
    simp [h j x (List.getElem?_eq_some_iff.1 hj).1 hj]
  unfold ownerL; rw [this]; rfl
/-- What Owner of the reference returns. -/
def ownerV : Option (List UInt8) → Value
  | some nm => .tuple #[.string ⟨nm.toArray⟩, .bool true]
  | none => .tuple #[.string ⟨#[]⟩, .bool false]

set_option maxHeartbeats 2000000 in
theorem refOwner9 (A : Option Addr) (xs : List ItV) (cap : Nat) (r c : Int) (v : Value) (w : World) (hx : ItemsAt w A xs) (hm : xs.length ≤ 100000) (hv : ownerV (ownerL (its xs) r c) = v) :
    Calls Tryz.prog 50 #[.slice A xs.length cap, .agg #[.int .i64 r, .int .i64 c]] w (OneB v w) := by
  have HV := Lib.hid hv
  clear hv
  have D0 := Lib.hid (heap_alloc_new w (.cells #[.int .i64 r, .int .i64 c] 51))
  have HB := Lib.hid ((Below.refl w.heap.size w).alloc (Nat.le_refl _) (.cells #[.int .i64 r, .int .i64 c] 51))
  go_enter Tryz.func50, Tryz.ntmps50
  go_wp2_with fail
  generalize World.alloc w _ = w2 at D0 HB ⊢
  go_loopw [6] (fun i wr => ∃ k : Nat, k ≤ xs.length ∧ i = .int .i64 k ∧ Hid (Below w2.heap.size w2 wr) ∧ Hid (∀ (j : Nat) (y : It), j < k → (its xs)[j]? = some y → hasD y.2 r c = false)) (fun i _ => xs.length - (intOf i).toNat)
  case atStart => exact ⟨0, by omega, rfl, Below.refl _ _, fun j y h => by omega⟩
  case round =>
    obtain ⟨k, hk, rfl, hb, hs⟩ := hrel
    by_cases hlt : k < xs.length
    · have i0 : (k : Int) < (xs.length : Int) := by omega
      obtain ⟨g, off, x, rfl, hbl, hx1, _, hc0, hc1, hok⟩ := ((hx.below HB.out).below hb.out).cells (j := k) hlt
      have hd := (hb.out.block _ (Array.getElem?_eq_some_iff.1 D0.out).1).trans D0.out
      have hld : w.heap.size < wr.heap.size := (Array.getElem?_eq_some_iff.1 hd).1
      have d0 : wr.cell? ⟨w.heap.size, 0, none⟩ = some (.int .i64 r) := by simp [World.cell?, hd]
      have d1 : wr.cell? ⟨w.heap.size, 1, none⟩ = some (.int .i64 c) := by simp [World.cell?, hd]
      have n0 := fun p => cell_far (p := p) hld d0
      have n1 := fun p => cell_far (p := p) hld d1
      have l0 := fun p => cell_far (p := p) hbl hc0
      have l1 := fun p => cell_far (p := p) hbl hc1
      have HR := Lib.hid fun p => refHas9 x r c (far wr p) (hok.below (below_far wr p))
      clear hd d0 d1
      cases hq : hasD x.ms r c with
      | true =>
        have HF := Lib.hid (ownerL_some (its_at hx1) hq hs.out)
        simp only [hq] at HR
        clear hx1 hok hq hc0 hc1
        go_wp2_with fail
        refine wp_region_far (by kernel_rfl) (by kernel_rfl) ?_
        repeat (go_big_quiet_step ((go_at_call 91; exact OneB.far (HR.out _))))
        refine wpQuiet_nil ?_
        rintro _ ⟨p, rfl⟩
        go_wp2_with fail
        go_ret2
        have hv := HV.out
        rw [HF.out] at hv
        exact ⟨by rw [← hv]; rfl, below_trans HB.out (hb.out.trans ((below_far wr p).mono hb.out.size))⟩
      | false =>
        have HF := Lib.hid (step_none (p := fun y => hasD y.2 r c) hs.out (its_at hx1) hq)
        simp only [hq] at HR
        clear hx1 hok hq hc0 hc1
        go_wp2_with fail
        refine wp_region_far (by kernel_rfl) (by kernel_rfl) ?_
        repeat (go_big_quiet_step ((go_at_call 91; exact OneB.far (HR.out _))))
        refine wpQuiet_nil ?_
        rintro _ ⟨p, rfl⟩
        go_wp2_with fail
        go_roundw
        case rel => exact ⟨k + 1, by omega, by go_num, hb.out.trans ((below_far wr p).mono hb.out.size), HF⟩
        case measure => simp [intOf]; omega
    · obtain rfl : k = xs.length := by omega
      have i0 : ¬ (xs.length : Int) < (xs.length : Int) := by omega
      have HF := Lib.hid (ownerL_none (l := its xs) (r := r) (c := c) (by rw [its_len]; exact hs.out))
      clear hlt hk
      go_wp2_with fail
      go_ret2
      have hv := HV.out
      rw [HF.out] at hv
      exact ⟨by rw [← hv]; rfl, below_trans HB.out hb.out⟩

end

section
open Go.RowKit

/-- The dots of all items. -/
def dotsI (l : List It) : List (Int × Int) := l.foldl (fun s x => setL (s ++ dotsM x.2)) []
theorem dotsI_snoc (l : List It) (x : It) : dotsI (l ++ [x]) = setL (dotsI l ++ dotsM x.2) := by simp [dotsI, List.foldl_append]
theorem dotsI_fold : ∀ (l : List It) (s : List (Int × Int)), (∀ x ∈ l, x.2.length ≤ 100) → (l.foldl (fun s x => setL (s ++ dotsM x.2)) s).length ≤ s.length + 100 * l.length
  | [], s, _ => by simp
  | x :: r, s, h => by
    have h1 := setL_len (s ++ dotsM x.2)
    have h2 := dotsI_fold r (setL (s ++ dotsM x.2)) fun y hy => h y (List.mem_cons_of_mem _ hy)
    have h3 := h x (by simp)
    rw [List.length_append, dotsM_len] at h1
    rw [List.foldl_cons, List.length_cons]
    omega
theorem dotsI_len (l : List It) (h : ∀ x ∈ l, x.2.length ≤ 100) : (dotsI l).length ≤ 100 * l.length := by
  have := dotsI_fold l [] h
  rw [List.length_nil, Nat.zero_add] at this
  exact this
/-- A value that reads as items. -/
def HoldsX (w : World) (v : Value) (xs : List ItV) : Prop := ∃ A c, v = .slice A xs.length c ∧ ItemsAt w A xs ∧ xs.length ≤ c ∧ c ≤ maxLen
theorem HoldsX.below {w w' : World} {v : Value} {xs : List ItV} (h : HoldsX w v xs) (hb : Below w.heap.size w w') : HoldsX w' v xs := by
  obtain ⟨A, c, rfl, h1, h2, h3⟩ := h
  exact ⟨A, c, rfl, h1.below hb, h2, h3⟩
theorem HoldsX.nil (w : World) : HoldsX w (.slice none 0 0) [] := ⟨none, 0, rfl, ItemsAt.nil _ _, by simp, by simp [maxLen]⟩
/-- Items in a row of the call's own. -/
abbrev RowT (W : World) (B : Nat) (v : Value) (xs : List ItV) : Prop := W.ownsRow B 49 2 v xs.length (cellsOf encIt xs)
theorem HoldsX.of_own {w : World} {B : Nat} {v : Value} {xs : List ItV} (h : RowT w B v xs) (hk : ∀ x ∈ xs, ItOK w x) : HoldsX w v xs := by
  obtain ⟨A, c, rfl, h1, h2, h3⟩ := SlAt.of_own encIt_len h
  exact ⟨A, c, rfl, ⟨h3, hk⟩, h1, h2⟩

set_option maxHeartbeats 400000 in
theorem refDots9 (A : Option Addr) (xs : List ItV) (cap : Nat) (w : World) (hx : ItemsAt w A xs) (hf : Fits xs) :
    Calls Tryz.prog 30 #[.slice A xs.length cap] w fun e w' => (∃ v, e = .returned v ∧ Holds w' v (dotsI (its xs))) ∧ Below w.heap.size w w' := by
  have hm := hf.1
  have HF := Lib.hid hf.2
  have HX := Lib.hid hx
  clear hx hf
  go_enter Tryz.func30, Tryz.ntmps30
  go_wp2_with fail
  go_loopw [3, 4] (fun s3 i wr => ∃ (k : Nat) (v : Value), k ≤ xs.length ∧ v = s3 ∧ i = .int .i64 k ∧ Hid (Below w.heap.size w wr) ∧ Hid (Holds wr v (dotsI ((its xs).take k)))) (fun _ i _ => xs.length - (intOf i).toNat)
  case atStart => exact ⟨0, _, by omega, rfl, rfl, Below.refl _ _, Holds.nil _⟩
  case round =>
    obtain ⟨k, v, hk, rfl, rfl, hb, hs⟩ := hrel
    by_cases hlt : k < xs.length
    · have i0 : (k : Int) < (xs.length : Int) := by omega
      obtain ⟨g, off, x, rfl, hbl, hx1, _, hc0, hc1, hok⟩ := (HX.out.below hb.out).cells (j := k) hlt
      have hxm := HF.out x (List.mem_of_getElem? hx1)
      have hdl : (dotsI ((its xs).take k)).length ≤ 20000 := by
        have h := dotsI_len ((its xs).take k) fun y hy => by
          obtain ⟨z, hz, rfl⟩ := List.mem_map.1 (List.mem_of_mem_take hy)
          exact (HF.out z hz).2
        have h2 : ((its xs).take k).length ≤ k := List.length_take_le _ _
        omega
      have HE := Lib.hid (show dotsI ((its xs).take (k + 1)) = setL (dotsI ((its xs).take k) ++ dotsM x.ms) from by rw [take_step (its_at hx1), dotsI_snoc]; rfl)
      have HD := Lib.hid (refDots x.A x.ms x.c wr hok.1 (by omega))
      have hx100 := hxm.2
      clear hx1 hok hxm
      go_wp2_with fail
      refine HD.out.mono ?_
      rintro e w1 ⟨⟨v1, rfl, hv1⟩, hb1⟩
      have HV1 := Lib.hid hv1
      have HS := Lib.hid (hs.out.below hb1)
      have HB := Lib.hid (below_trans hb.out hb1)
      clear hv1 hb1 hc0 hc1
      have HU := Lib.hid (show Calls Tryz.prog 43 #[v, v1] w1 (fun e w' => (∃ v, e = .returned v ∧ Holds w' v (setL (dotsI ((its xs).take k) ++ dotsM x.ms))) ∧ Below w1.heap.size w1 w') from by
        obtain ⟨A1, c1, rfl, a1, a2, a3⟩ := HS.out
        obtain ⟨A2, c2, rfl, b1, b2, b3⟩ := HV1.out
        exact refUnion A1 A2 _ _ c1 c2 w1 a1 b1 (by rw [dotsM_len]; omega))
      go_wp2_with fail
      refine HU.out.mono ?_
      rintro e w2 ⟨⟨v2, rfl, hv2⟩, hb2⟩
      have HV2 := Lib.hid (show Holds w2 v2 (dotsI ((its xs).take (k + 1))) from by rw [HE.out]; exact hv2)
      have HB2 := Lib.hid (below_trans HB.out hb2)
      clear hv2 hb2
      go_wp2_with fail
      go_roundw
      case rel => exact ⟨k + 1, v2, by omega, rfl, by go_num, HB2, HV2⟩
      case measure => simp [intOf]; omega
    · obtain rfl : k = xs.length := by omega
      have i0 : ¬ (xs.length : Int) < (xs.length : Int) := by omega
      have HS := Lib.hid (show Holds wr v (dotsI (its xs)) from by have := hs.out; rwa [← its_len xs, List.take_length] at this)
      clear hlt hk
      go_wp2_with fail
      go_ret
      exact ⟨⟨_, rfl, HS.out⟩, hb.out⟩

end

section
open Go.RowKit
open Go.ChangeShapes Go.WideShapes Go.ChangeAt

set_option maxRecDepth 1000000

theorem ownP : ownKnob Tryz.prog.godebug = none := by kernel_rfl
theorem laidP : laidOutB Tryz.prog = true := by kernel_rfl

theorem wfU {n : Int} (h : (Lit.int .u64 n).wf = true) : ∃ m : Nat, n = (m : Int) ∧ m < 18446744073709551616 := by
  have h1 : 0 ≤ n ∧ n ≤ IntKind.u64.max := by simpa [Lit.wf, IntKind.min, IntKind.bits, IntKind.signed] using h
  have h2 : IntKind.u64.max = 18446744073709551615 := by decide
  exact ⟨n.toNat, by omega, by omega⟩
theorem wfB {n : Int} (h : (Lit.int .u8 n).wf = true) : ∃ m : Nat, n = (m : Int) ∧ m < 256 := by
  have h1 : 0 ≤ n ∧ n ≤ IntKind.u8.max := by simpa [Lit.wf, IntKind.min, IntKind.bits, IntKind.signed] using h
  have h2 : IntKind.u8.max = 255 := by decide
  exact ⟨n.toNat, by omega, by omega⟩
theorem block_of_cell {w : World} {a : Addr} {v : Value} (h : w.cell? a = some v) : a.block < w.heap.size := by
  rcases Nat.lt_or_ge a.block w.heap.size with hlt | hge
  · exact hlt
  · simp [World.cell?, Array.getElem?_eq_none hge] at h

section
variable {H : Type} {enc : TypeId × Value → H} {W : World} {base b0 : Nat} {spare : Nat → Bool} {held : Bool} {v : Value} {d : DataW H} {p : List MemPlace} {t : TypeId}
/-- The four cells of a mark. -/
theorem open_markC {fuel : Nat} {x : DataW H × List MemPlace} {v0 v1 v2 v3 : Value} (h : DataW.trod enc Tryz.prog W base spare held fuel 54 [v0, v1, v2, v3] = some x) :
    ∃ m : Mk, v0 = .int .i64 m.r ∧ v1 = .int .i64 m.c ∧ v2 = .int .i64 m.q ∧ v3 = .int .u64 (m.t : Int) ∧ m.t < 18446744073709551616 := by
  obtain ⟨xs, k, hk, _, _, hxl, hfd⟩ := DataW.trod_struct Tryz.underlying54 h
  match xs, hxl with
  | [y0, y1, y2], _ =>
    have g0 := hfd 0 _ rfl
    have g1 := hfd 1 _ rfl
    have g2 := hfd 2 _ rfl
    have c0 : Tryz.prog.cellsOf 51 = 2 := by kernel_rfl
    have c1 : Tryz.prog.cellsOf 3 = 1 := by kernel_rfl
    have c2 : Tryz.prog.cellsOf 52 = 1 := by kernel_rfl
    simp [c0, c1, c2] at g0 g1 g2
    obtain ⟨zs, k2, hk2, _, _, hzl, hgd⟩ := DataW.trod_struct Tryz.underlying51 g0
    match zs, hzl with
    | [z0, z1], _ =>
      have q0 := hgd 0 _ rfl
      have q1 := hgd 1 _ rfl
      simp [c1] at q0 q1
      obtain ⟨r, hr, _, _⟩ := DataW.trod_int Tryz.underlying3 q0
      obtain ⟨c, hc, _, _⟩ := DataW.trod_int Tryz.underlying3 q1
      obtain ⟨q, hq, _, _⟩ := DataW.trod_int Tryz.underlying3 g1
      obtain ⟨t, ht, _, wt⟩ := DataW.trod_int Tryz.underlying52 g2
      injection hr with hr
      injection hc with hc
      injection hq with hq
      injection ht with ht
      obtain ⟨n, rfl, hn⟩ := wfU wt
      exact ⟨⟨r, c, q, n⟩, hr, hc, hq, ht, hn⟩
theorem open_marksF {fuel : Nat} {x : DataW H × List MemPlace} (ht : Tryz.prog.underlying t = some (.slice 54)) (hf : DataW.trod enc Tryz.prog W base spare held fuel t [v] = some x) :
    ∃ X cx, ∃ ms : List Mk, v = .slice X ms.length cx ∧ MarksAt W X ms ∧ ms.length ≤ cx ∧ cx ≤ maxLen ∧ ∀ m ∈ ms, m.t < 18446744073709551616 := by
  rcases Go.Deep.open_slice ht hf with ⟨hcs, _⟩ | ⟨a, len, cap, m, n, D, Pl, hcs, hb, hl, hm, hmm, _, hx⟩
  · obtain rfl : v = .slice none 0 0 := by simpa using hcs
    exact ⟨none, 0, [], rfl, SlAt.nil, by simp, by simp [maxLen], fun p hp => by cases hp⟩
  · obtain rfl : v = .slice (some a) len cap := by simpa using hcs
    have hlm : len ≤ m := by rw [hmm]; split <;> omega
    have each : ∀ i, ∃ p : Mk, i < len → W.cell? (a.add (i * 4)) = some (.int .i64 p.r) ∧ W.cell? (a.add (i * 4 + 1)) = some (.int .i64 p.c) ∧ W.cell? (a.add (i * 4 + 2)) = some (.int .i64 p.q) ∧ W.cell? (a.add (i * 4 + 3)) = some (.int .u64 (p.t : Int)) ∧ p.t < 18446744073709551616 := by
      intro i
      by_cases hi : i < len
      · obtain ⟨cs', h1, h2⟩ := hx i (by omega)
        rw [show Tryz.prog.cellsOf 54 = 4 from by kernel_rfl] at h1
        obtain ⟨_, hlen, hcell⟩ := World.cells?_some h1
        match cs', hlen with
        | [v0, v1, v2, v3], _ =>
          have e0 := hcell 0 (by omega)
          have e1 := hcell 1 (by omega)
          have e2 := hcell 2 (by omega)
          have e3 := hcell 3 (by omega)
          rw [Go.Deep.add_add] at e0 e1 e2 e3
          obtain ⟨q, q0, q1, q2, q3, hq⟩ := open_markC h2
          subst q0 q1 q2 q3
          exact ⟨q, fun _ => ⟨by simpa using e0, by simpa using e1, by simpa using e2, by simpa using e3, hq⟩⟩
      · exact ⟨Mk.zero, fun h => absurd h hi⟩
    obtain ⟨q, hq⟩ := Classical.axiomOfChoice each
    have hlen : ((List.range len).map q).length = len := by simp
    refine ⟨some a, cap, (List.range len).map q, by rw [hlen], ?_, by rw [hlen]; exact hl, hm, ?_⟩
    · intro hpos
      rw [hlen] at hpos
      obtain ⟨b, off, spot⟩ := a
      have hspot : spot = none := by simpa [Addr.add] using World.cell?_spot (hq 0 hpos).1
      subst hspot
      refine ⟨b, off, rfl, block_of_cell (hq 0 hpos).1, ?_⟩
      intro j x hjx i u hiu
      have hj : j < len := by
        rcases Nat.lt_or_ge j len with h | h
        · exact h
        · rw [List.getElem?_eq_none (by rw [hlen]; exact h)] at hjx; cases hjx
      have hxq : x = q j := by
        rw [List.getElem?_map, List.getElem?_range hj] at hjx
        exact (Option.some.inj hjx).symm
      subst hxq
      obtain ⟨g0, g1, g2, g3, _⟩ := hq j hj
      rw [add_plain] at g0 g1 g2 g3
      match i, hiu with
      | 0, hiu =>
        have e : Value.int .i64 (q j).r = u := Option.some.inj hiu
        rw [← e, ← g0]; rfl
      | 1, hiu =>
        have e : Value.int .i64 (q j).c = u := Option.some.inj hiu
        rw [← e, ← g1]; rfl
      | 2, hiu =>
        have e : Value.int .i64 (q j).q = u := Option.some.inj hiu
        rw [← e, ← g2]; rfl
      | 3, hiu =>
        have e : Value.int .u64 ((q j).t : Int) = u := Option.some.inj hiu
        rw [← e, ← g3]; rfl
      | i + 4, hiu => exact absurd hiu (by simp [encM])
    · intro p hp
      obtain ⟨j, hj, rfl⟩ := List.mem_map.1 hp
      obtain ⟨_, _, _, _, g4⟩ := hq j (List.mem_range.1 hj)
      exact g4
/-- The two cells of an item. -/
theorem open_itemC {fuel : Nat} {x : DataW H × List MemPlace} {v0 v1 : Value} (h : DataW.trod enc Tryz.prog W base spare held fuel 49 [v0, v1] = some x) :
    ∃ y : ItV, v0 = .string ⟨y.nm.toArray⟩ ∧ v1 = .slice y.A y.ms.length y.c ∧ ItOK W y ∧ ∀ m ∈ y.ms, m.t < 18446744073709551616 := by
  obtain ⟨xs, k, hk, _, _, hxl, hfd⟩ := DataW.trod_struct Tryz.underlying49 h
  match xs, hxl with
  | [y0, y1], _ =>
    have g0 := hfd 0 _ rfl
    have g1 := hfd 1 _ rfl
    have c0 : Tryz.prog.cellsOf 9 = 1 := by kernel_rfl
    have c1 : Tryz.prog.cellsOf 47 = 1 := by kernel_rfl
    simp [c0, c1] at g0 g1
    obtain ⟨s, hs, _, _⟩ := DataW.trod_string Tryz.underlying9 g0
    obtain ⟨A, c, ms, hv, hat, h1, h2, h3⟩ := open_marksF Tryz.underlying47 g1
    injection hs with hs
    refine ⟨⟨s.data.toList, A, c, ms⟩, ?_, hv, ⟨hat, h1, h2⟩, h3⟩
    rw [hs]
theorem open_itemsF {fuel : Nat} {x : DataW H × List MemPlace} (ht : Tryz.prog.underlying t = some (.slice 49)) (hf : DataW.trod enc Tryz.prog W base spare held fuel t [v] = some x) :
    ∃ xs : List ItV, HoldsX W v xs ∧ ∀ y ∈ xs, ∀ m ∈ y.ms, m.t < 18446744073709551616 := by
  rcases Go.Deep.open_slice ht hf with ⟨hcs, _⟩ | ⟨a, len, cap, m, n, D, Pl, hcs, hb, hl, hm, hmm, _, hx⟩
  · obtain rfl : v = .slice none 0 0 := by simpa using hcs
    exact ⟨[], HoldsX.nil _, fun p hp => by cases hp⟩
  · obtain rfl : v = .slice (some a) len cap := by simpa using hcs
    have hlm : len ≤ m := by rw [hmm]; split <;> omega
    have each : ∀ i, ∃ y : ItV, i < len → W.cell? (a.add (i * 2)) = some (.string ⟨y.nm.toArray⟩) ∧ W.cell? (a.add (i * 2 + 1)) = some (.slice y.A y.ms.length y.c) ∧ ItOK W y ∧ ∀ m ∈ y.ms, m.t < 18446744073709551616 := by
      intro i
      by_cases hi : i < len
      · obtain ⟨cs', h1, h2⟩ := hx i (by omega)
        rw [show Tryz.prog.cellsOf 49 = 2 from by kernel_rfl] at h1
        obtain ⟨_, hlen, hcell⟩ := World.cells?_some h1
        match cs', hlen with
        | [v0, v1], _ =>
          have e0 := hcell 0 (by omega)
          have e1 := hcell 1 (by omega)
          rw [Go.Deep.add_add] at e0 e1
          obtain ⟨y, q0, q1, hok, hq⟩ := open_itemC h2
          subst q0 q1
          exact ⟨y, fun _ => ⟨by simpa using e0, by simpa using e1, hok, hq⟩⟩
      · exact ⟨⟨[], none, 0, []⟩, fun h => absurd h hi⟩
    obtain ⟨q, hq⟩ := Classical.axiomOfChoice each
    have hlen : ((List.range len).map q).length = len := by simp
    refine ⟨(List.range len).map q, ⟨some a, cap, by rw [hlen], ⟨?_, ?_⟩, by rw [hlen]; exact hl, hm⟩, ?_⟩
    · intro hpos
      rw [hlen] at hpos
      obtain ⟨b, off, spot⟩ := a
      have hspot : spot = none := by simpa [Addr.add] using World.cell?_spot (hq 0 hpos).1
      subst hspot
      refine ⟨b, off, rfl, block_of_cell (hq 0 hpos).1, ?_⟩
      intro j x hjx i u hiu
      have hj : j < len := by
        rcases Nat.lt_or_ge j len with h | h
        · exact h
        · rw [List.getElem?_eq_none (by rw [hlen]; exact h)] at hjx; cases hjx
      have hxq : x = q j := by
        rw [List.getElem?_map, List.getElem?_range hj] at hjx
        exact (Option.some.inj hjx).symm
      subst hxq
      obtain ⟨g0, g1, _⟩ := hq j hj
      rw [add_plain] at g0 g1
      match i, hiu with
      | 0, hiu =>
        have e : Value.string ⟨(q j).nm.toArray⟩ = u := Option.some.inj hiu
        rw [← e, ← g0]; rfl
      | 1, hiu =>
        have e : Value.slice (q j).A (q j).ms.length (q j).c = u := Option.some.inj hiu
        rw [← e, ← g1]; rfl
      | i + 2, hiu => exact absurd hiu (by simp [encIt])
    · intro y hy
      obtain ⟨j, hj, rfl⟩ := List.mem_map.1 hy
      exact (hq j (List.mem_range.1 hj)).2.2.1
    · intro y hy
      obtain ⟨j, hj, rfl⟩ := List.mem_map.1 hy
      exact (hq j (List.mem_range.1 hj)).2.2.2
end
end

end Go.Proofs.YtfjbocipjmpogaaGreat
