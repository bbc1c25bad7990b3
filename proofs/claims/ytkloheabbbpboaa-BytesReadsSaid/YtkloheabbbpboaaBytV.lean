/- The reference's Num and Str; asks: what BytesReads is given. -/
import Derived.Test.YtkloheabbbpboaaBytT
import Derived.Test.YtkloheabbbpboaaBytS
namespace Go.Proofs.Ytkloheabbbpboaa
open Go.RowKit

/-- Three results. -/
def Three (a b c : Value) (w : World) (e : Ending) (w' : World) : Prop := e = .returned (.tuple #[a, b, c]) ∧ w = w'

theorem three_cast {s : Value} {x y er : Int} (w : World) (h : x = y) : Three s (.int .i64 x) (.int .i64 er) w (.returned (.tuple #[s, .int .i64 y, .int .i64 er])) w := by
  subst h
  exact ⟨rfl, rfl⟩
/-- A part of a slice of bytes, as the walk spells it in its three cases. -/
theorem holdsCut (W : World) (A : Option Addr) (c : Nat) (l : List UInt8) (i k : Nat) (h : HoldsB W (.slice A l.length c) l) (hk : i + k ≤ l.length) :
    (A = none → HoldsB W (.slice none k (c - i)) ((l.drop i).take k)) ∧ (∀ a, A = some a → c = i → HoldsB W (.slice (some a) k 0) ((l.drop i).take k)) ∧ (∀ a, A = some a → ¬ c = i → HoldsB W (.slice (some (a.add i)) k (c - i)) ((l.drop i).take k)) := by
  obtain ⟨A0, c0, eV, hat, hlc, hcm⟩ := h
  cases eV
  have hyl : ((l.drop i).take k).length = k := by rw [List.length_take, List.length_drop]; omega
  have hc := (hat.cut i c hlc).take k
  refine ⟨?_, ?_, ?_⟩
  · rintro rfl
    exact ⟨none, c - i, by rw [hyl], by simpa using hc, by rw [hyl]; omega, by omega⟩
  · rintro a rfl hci
    rw [if_pos hci] at hc
    exact ⟨some a, 0, by rw [hyl], hc, by rw [hyl]; omega, by omega⟩
  · rintro a rfl hci
    rw [if_neg hci] at hc
    simp only [Option.map_some, Nat.mul_one] at hc
    exact ⟨some (a.add i), c - i, by rw [hyl], hc, by rw [hyl]; omega, by omega⟩
theorem convH (W : World) (A : Option Addr) (n c : Nat) (ys : List UInt8) (h : HoldsB W (.slice A n c) ys) : (convert 25 9 (.slice A n c)).run Try.prog W = .ok (.string ⟨ys.toArray⟩) W := by
  have h0 := h
  obtain ⟨A0, c0, eV, _⟩ := h
  cases eV
  exact convB W A c ys h0
theorem convCut (W : World) (A : Option Addr) (c : Nat) (l : List UInt8) (i k : Nat) (h : HoldsB W (.slice A l.length c) l) (hk : i + k ≤ l.length) :
    (A = none → (convert 25 9 (.slice none k (c - i))).run Try.prog W = .ok (.string ⟨((l.drop i).take k).toArray⟩) W) ∧ (∀ a, A = some a → c = i → (convert 25 9 (.slice (some a) k 0)).run Try.prog W = .ok (.string ⟨((l.drop i).take k).toArray⟩) W) ∧ (∀ a, A = some a → ¬ c = i → (convert 25 9 (.slice (some (a.add i)) k (c - i))).run Try.prog W = .ok (.string ⟨((l.drop i).take k).toArray⟩) W) := by
  obtain ⟨h1, h2, h3⟩ := holdsCut W A c l i k h hk
  exact ⟨fun e => convH W _ _ _ _ (h1 e), fun a e e2 => convH W _ _ _ _ (h2 a e e2), fun a e e2 => convH W _ _ _ _ (h3 a e e2)⟩

set_option maxHeartbeats 1000000 in
theorem refNum (A : Option Addr) (c : Nat) (l : List UInt8) (most n z : Nat) (er : Int) (w : World) (h : BytesAt w A l) (hm : l.length ≤ 1000000) (hr : rdM l most = (n, z, er)) :
    Calls Try.prog 19 #[.slice A l.length c, .int .u64 (most : Int)] w (Three (.int .u64 (n : Int)) (.int .i64 (z : Int)) (.int .i64 er) w) := by
  have HR := Lib.hid (refRead A c l w h hm)
  obtain ⟨n0, z0, e0, hrd⟩ : ∃ n z er, rd l = (n, z, er) := ⟨_, _, _, rfl⟩
  unfold ReadR at HR
  unfold rdM at hr
  rw [hrd] at hr HR
  simp only [] at hr HR
  clear h hrd
  by_cases he : e0 = 0
  · subst he
    by_cases hlt : most < n0
    · rw [if_pos ⟨rfl, hlt⟩] at hr
      cases hr
      have i0 : (most : Int) < (n0 : Int) := by omega
      clear hlt
      go_enter Try.func19, Try.ntmps19
      go_wp2_with fail
      refine HR.out.mono ?_
      rintro e w1 ⟨rfl, rfl⟩
      go_wp2_with fail
      exact bodyPost_ret (v := .tuple #[.int .u64 0, .int .i64 0, .int .i64 3]) (by simp [results, Try.results19, go_sem]) rfl ⟨rfl, rfl⟩
    · rw [if_neg (by simp only []; omega)] at hr
      cases hr
      have i0 : ¬ (most : Int) < (n : Int) := by omega
      clear hlt
      go_enter Try.func19, Try.ntmps19
      go_wp2_with fail
      refine HR.out.mono ?_
      rintro e w1 ⟨rfl, rfl⟩
      go_wp2_with fail
      exact bodyPost_ret (v := .tuple #[.int .u64 (n : Int), .int .i64 (z : Int), .int .i64 0]) (by simp [results, Try.results19, go_sem]) rfl ⟨rfl, rfl⟩
  · rw [if_neg (fun h => he h.1)] at hr
    cases hr
    have z0 : (er == 0) = false := by simp [he]
    clear he
    go_enter Try.func19, Try.ntmps19
    go_wp2_with fail
    refine HR.out.mono ?_
    rintro e w1 ⟨rfl, rfl⟩
    go_wp2_with fail
    exact bodyPost_ret (v := .tuple #[.int .u64 (n : Int), .int .i64 (z : Int), .int .i64 er]) (by simp [results, Try.results19, go_sem]) rfl ⟨rfl, rfl⟩

set_option maxHeartbeats 1000000 in
theorem refStr (A : Option Addr) (c : Nat) (l : List UInt8) (most : Int) (ys : List UInt8) (z : Nat) (er : Int) (w : World) (h : HoldsB w (.slice A l.length c) l) (hm : l.length ≤ 1000000) (hn0 : -9223372036854775808 ≤ most) (hn1 : most ≤ 9223372036854775807) (hr : rdS l most = (ys, z, er)) :
    Calls Try.prog 21 #[.slice A l.length c, .int .i64 most] w (Three (.string ⟨ys.toArray⟩) (.int .i64 (z : Int)) (.int .i64 er) w) := by
  have HH := Lib.hid h
  obtain ⟨A0, c0, eV, hat, hlc, hcm⟩ := h
  cases eV
  have HR := Lib.hid (refRead A c l w hat hm)
  obtain ⟨n0, z0, e0, hrd⟩ : ∃ n z er, rd l = (n, z, er) := ⟨_, _, _, rfl⟩
  have htop := rd_top l
  have hle := rd_le (l := l)
  unfold ReadR at HR
  unfold rdS at hr
  rw [hrd] at hr HR htop hle
  simp only [] at hr HR htop hle
  clear hrd hat
  by_cases he : e0 = 0
  · subst he
    rw [if_neg (by simp)] at hr
    by_cases hlong : most < 0 ∨ most < (n0 : Int)
    · rw [if_pos hlong] at hr
      cases hr
      by_cases hneg : most < 0
      · clear hlong htop hle
        go_enter Try.func21, Try.ntmps21
        go_wp2_with fail
        refine HR.out.mono ?_
        rintro e w1 ⟨rfl, rfl⟩
        go_wp2_with fail
        exact bodyPost_ret (v := .tuple #[.string ⟨#[]⟩, .int .i64 0, .int .i64 5]) (by simp [results, Try.results21, go_sem]) rfl ⟨rfl, rfl⟩
      · have i0 : (0 : Int) ≤ most := by omega
        have i1 : most < (n0 : Int) := by omega
        have eW : IntKind.u64.wrap most = most := by simp [IntKind.wrap, IntKind.bits, IntKind.signed]; omega
        clear hlong hneg htop hle
        go_enter Try.func21, Try.ntmps21
        go_wp2_with fail
        refine HR.out.mono ?_
        rintro e w1 ⟨rfl, rfl⟩
        go_wp2_with fail
        exact bodyPost_ret (v := .tuple #[.string ⟨#[]⟩, .int .i64 0, .int .i64 5]) (by simp [results, Try.results21, go_sem]) rfl ⟨rfl, rfl⟩
    · rw [if_neg hlong] at hr
      have i0 : (0 : Int) ≤ most := by omega
      have i1 : ¬ most < (n0 : Int) := by omega
      have eW : IntKind.u64.wrap most = most := by simp [IntKind.wrap, IntKind.bits, IntKind.signed]; omega
      have eS : IntKind.i64.wrap ((l.length : Int) - (z0 : Int)) = ((l.length - z0 : Nat) : Int) := by simp [IntKind.wrap, IntKind.bits, IntKind.signed]; omega
      have eU : IntKind.u64.wrap ((l.length - z0 : Nat) : Int) = ((l.length - z0 : Nat) : Int) := by simp [IntKind.wrap, IntKind.bits, IntKind.signed]; omega
      by_cases hs : l.length - z0 < n0
      · rw [if_pos hs] at hr
        cases hr
        have i2 : ((l.length - z0 : Nat) : Int) < (n0 : Int) := by omega
        clear hlong htop hle hs
        generalize ((l.length - z0 : Nat) : Int) = q at *
        go_enter Try.func21, Try.ntmps21
        go_wp2_with fail
        refine HR.out.mono ?_
        rintro e w1 ⟨rfl, rfl⟩
        go_wp2_with fail
        exact bodyPost_ret (v := .tuple #[.string ⟨#[]⟩, .int .i64 0, .int .i64 4]) (by simp [results, Try.results21, go_sem]) rfl ⟨rfl, rfl⟩
      · rw [if_neg hs] at hr
        cases hr
        have i2 : ¬ ((l.length - z0 : Nat) : Int) < (n0 : Int) := by omega
        have hz : z0 + n0 ≤ l.length := by omega
        have hcv := convCut w A c l z0 n0 HH.out hz
        have hyl : ((l.drop z0).take n0).length = n0 := by rw [List.length_take, List.length_drop]; omega
        have j0 : (0 : Int) ≤ (z0 : Int) := by omega
        have j1 : (z0 : Int) ≤ (z0 : Int) + (n0 : Int) := by omega
        have j2 : (z0 : Int) + (n0 : Int) ≤ (c : Int) := by omega
        have j3 : (n0 : Int) ≤ 9223372036854775807 := by omega
        have eN : IntKind.i64.wrap (n0 : Int) = (n0 : Int) := by simp [IntKind.wrap, IntKind.bits, IntKind.signed]; omega
        have eT : IntKind.i64.wrap ((z0 : Int) + (n0 : Int)) = (z0 : Int) + (n0 : Int) := by simp [IntKind.wrap, IntKind.bits, IntKind.signed]; omega
        have eQ : ((z0 : Int) + (n0 : Int)).toNat = z0 + n0 := by omega
        have eR : z0 + n0 - z0 = n0 := by omega
        have HCV := Lib.hid hcv
        clear hcv hlong hle hs hyl
        generalize ((l.length - z0 : Nat) : Int) = q at *
        rcases A with _ | a
        · have hcv := HCV.out.1 rfl
          clear HCV
          go_enter Try.func21, Try.ntmps21
          go_wp2_with fail
          refine HR.out.mono ?_
          rintro e w1 ⟨rfl, rfl⟩
          go_wp2_with fail
          exact bodyPost_ret (v := .tuple #[.string ⟨((l.drop z0).take n0).toArray⟩, .int .i64 ((z0 : Int) + (n0 : Int)), .int .i64 0]) (by simp [results, Try.results21, go_sem]) rfl (three_cast w (Int.natCast_add z0 n0))
        · by_cases hcz : c = z0
          · have hcv := HCV.out.2.1 a rfl hcz
            subst hcz
            clear HCV
            go_enter Try.func21, Try.ntmps21
            go_wp2_with fail
            refine HR.out.mono ?_
            rintro e w1 ⟨rfl, rfl⟩
            go_wp2_with fail
            exact bodyPost_ret (v := .tuple #[.string ⟨((l.drop c).take n0).toArray⟩, .int .i64 ((c : Int) + (n0 : Int)), .int .i64 0]) (by simp [results, Try.results21, go_sem]) rfl (three_cast w (Int.natCast_add c n0))
          · have hcv := HCV.out.2.2 a rfl hcz
            clear HCV
            go_enter Try.func21, Try.ntmps21
            go_wp2_with fail
            refine HR.out.mono ?_
            rintro e w1 ⟨rfl, rfl⟩
            go_wp2_with fail
            exact bodyPost_ret (v := .tuple #[.string ⟨((l.drop z0).take n0).toArray⟩, .int .i64 ((z0 : Int) + (n0 : Int)), .int .i64 0]) (by simp [results, Try.results21, go_sem]) rfl (three_cast w (Int.natCast_add z0 n0))
  · rw [if_pos he] at hr
    cases hr
    have z1 : (er != 0) = true := by simp [he]
    clear he htop hle
    go_enter Try.func21, Try.ntmps21
    go_wp2_with fail
    refine HR.out.mono ?_
    rintro e w1 ⟨rfl, rfl⟩
    go_wp2_with fail
    exact bodyPost_ret (v := .tuple #[.string ⟨#[]⟩, .int .i64 0, .int .i64 er]) (by simp [results, Try.results21, go_sem]) rfl ⟨rfl, rfl⟩

end Go.Proofs.Ytkloheabbbpboaa
