/- Package bytes: a reader's Num. -/
import Derived.Test.YtkloheabbbpboaaBytE
namespace Go.Proofs.Ytkloheabbbpboaa
open Go.RowKit

/-- What Num leaves. -/
def NumT (w : World) (g : Nat) (A : Option Addr) (c : Nat) (xs : List UInt8) (i : Nat) (n : Nat) (er : Int) (e : Ending) (w' : World) : Prop :=
  e = .returned (.tuple #[.int .u64 n, .int .i64 er]) ∧ Rd w' g A c xs (i + if er = 0 then (rd (xs.drop i)).2.1 else 0) ∧ Chg (fun k => k = g) w w'
theorem Rd.back {W : World} {g : Nat} {A : Option Addr} {c : Nat} {xs : List UInt8} {i j : Nat} (h : Rd W g A c xs j) (hi : i ≤ xs.length) : Rd (W.setCell ⟨g, 2, none⟩ (.int .i64 i)) g A c xs i ∧ Chg (fun k => k = g) W (W.setCell ⟨g, 2, none⟩ (.int .i64 i)) := h.set hi

set_option maxHeartbeats 1000000 in
theorem numTry (g : Nat) (A : Option Addr) (c : Nat) (xs : List UInt8) (i : Nat) (most : Nat) (w : World) (h : Rd w g A c xs i) (hmost : most < 18446744073709551616) (n : Nat) (er : Int) (hr : numP (rd (xs.drop i)) most = (n, er)) :
    Calls Try.prog 25 #[.pointer (some ⟨g, 0, none⟩), .int .u64 (most : Int)] w (NumT w g A c xs i n er) := by
  have HZ := Lib.hid (zeroNot g w h.c0)
  have HN := Lib.hid (numIn g A c xs i most w h hmost n er hr)
  have c2 := h.c2
  have HI := Lib.hid h.2.2.2.1
  clear h hr
  by_cases her : er = 0
  · subst her
    go_enter Try.func25, Try.ntmps25
    go_wp2_with (first
      | (go_at_call 38; refine HZ.out.mono ?_; rintro e w1 ⟨rfl, rfl⟩)
      | (go_at_call 40; refine HN.out.mono ?_; rintro e w1 ⟨rfl, j, hR, hC, hj⟩; have HR := Lib.hid hR; have HC := Lib.hid hC; have HJ := Lib.hid hj; clear hR hC hj)
      | go_in)
    go_ret2
    have hj' : j = i + (rd (xs.drop i)).2.1 := by first | exact HJ.out trivial | exact HJ.out rfl
    exact ⟨rfl, by rw [if_pos rfl, ← hj']; exact HR.out, HC.out⟩
  · have z0 : (er == 0) = false := by simp [her]
    have z1 : (er != 0) = true := by simp [her]
    have HER := Lib.hid her
    clear her
    go_enter Try.func25, Try.ntmps25
    go_wp2_with (first
      | (go_at_call 38; refine HZ.out.mono ?_; rintro e w1 ⟨rfl, rfl⟩)
      | (go_at_call 40; refine HN.out.mono ?_; rintro e w1 ⟨rfl, j, hR, hC, hj⟩; have d2 := hR.c2; have f2 := hR.f2; have HR := Lib.hid hR; have HC := Lib.hid hC; clear hR hC hj)
      | go_in)
    go_ret2
    exact ⟨rfl, by rw [if_neg HER.out]; exact (HR.out.back HI.out).1, HC.out.trans (HR.out.back HI.out).2 fun _ _ e => e⟩

end Go.Proofs.Ytkloheabbbpboaa
