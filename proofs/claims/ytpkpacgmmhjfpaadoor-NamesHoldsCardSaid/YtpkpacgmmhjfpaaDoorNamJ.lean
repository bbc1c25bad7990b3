/- The library's UnquoteChar. -/
import Derived.Test.YtpkpacgmmhjfpaaDoorNamI
namespace Go.Proofs.YtpkpacgmmhjfpaaDoor
open Go.RowKit

theorem results_tmp4 {fn : Func} {t u v x : Tmp} (h : fn.results = #[.tmp t, .tmp u, .tmp v, .tmp x]) (tmps : Array Value) (P : Program) (w : World) :
    (results fn tmps).run P w = .ok (.tuple #[tmps.getD t undef, tmps.getD u undef, tmps.getD v undef, tmps.getD x undef]) w := by
  simp [results, h]
/-- What UnquoteChar returns of n bytes: an error, or a rune, and fewer bytes. -/
def UqP (n : Nat) (w : World) (e : Ending) (w' : World) : Prop :=
  ((∃ (v : Int) (mb : Bool) (t : ByteArray) (ty : TypeId) (p : Value), e = .returned (.tuple #[.int .i32 v, .bool mb, .string t, .iface ty p])) ∨
   (∃ (v : Int) (mb : Bool) (t : List UInt8), e = .returned (.tuple #[.int .i32 v, .bool mb, .string ⟨t.toArray⟩, .nilIface]) ∧ t.length < n ∧ (mb = true → 0 ≤ v ∧ v ≤ 1114111))) ∧ Below w.heap.size w w'
theorem UqP.err {n : Nat} {w w' : World} {v : Int} {mb : Bool} {t : ByteArray} {ty : TypeId} {p : Value} (hb : Below w.heap.size w w') : UqP n w (.returned (.tuple #[.int .i32 v, .bool mb, .string t, .iface ty p])) w' := ⟨.inl ⟨_, _, _, _, _, rfl⟩, hb⟩
theorem UqP.ok {n : Nat} {w w' : World} {v : Int} {mb : Bool} {t : List UInt8} (hb : Below w.heap.size w w') (ht : t.length < n) (hm : mb = true → 0 ≤ v ∧ v ≤ 1114111) : UqP n w (.returned (.tuple #[.int .i32 v, .bool mb, .string ⟨t.toArray⟩, .nilIface])) w' := ⟨.inr ⟨_, _, _, rfl, ht, hm⟩, hb⟩
theorem size_drop (l : List UInt8) (k : Nat) (h : k ≤ l.length) : (ByteArray.mk (l.drop k).toArray).size = l.length - k := by rw [size_mk, List.length_drop]


set_option maxRecDepth 100000 in
theorem uqPlain (l : List UInt8) (b q : UInt8) (w : World) (hl : l.length ≤ 1000000) (h0 : 0 < l.length) (hb0 : l[0] = b) (hq : b ≠ q) (h92 : b.toNat ≠ 92) (hL : LaidOK w) :
    Calls Tryd.prog 57 #[.string ⟨l.toArray⟩, .int .u8 (q.toNat : Int)] w (UqP l.length w) := by
  have hsz := size_mk l
  have i0 : (0 : Int) < (l.length : Int) := by omega
  have j0 : ((l.length : Int) == 0) = false := eqF (by omega)
  have hx := str_at h0
  rw [hb0] at hx
  have kq : ((b.toNat : Int) == (q.toNat : Int)) = false := eqF (fun e => hq (UInt8.toNat_inj.1 (by omega)))
  have h8 := toNat8 b
  by_cases h128 : 128 ≤ b.toNat
  · have k1 : (128 : Int) ≤ (b.toNat : Int) := by omega
    have HD := Lib.hid (decodeRune l w h0 hL)
    clear hq h92 h128 hb0 hL
    go_enter Tryd.func57, Tryd.ntmps57
    go_wp2_with fail
    refine HD.out.mono ?_
    rintro e w1 ⟨⟨r, n, rfl, hR⟩, hb⟩
    obtain ⟨k, rfl⟩ : ∃ k : Nat, n = (k : Int) := ⟨n.toNat, by have := hR.nlo; omega⟩
    have hk1 := hR.nlo
    have hk2 : (k : Int) ≤ (l.length : Int) := hR.nhi
    have ex := extract_drop l k
    have hsd := size_drop l k (by omega)
    have HB := Lib.hid hb
    have HR := Lib.hid hR
    clear hb hR
    go_wp2_with fail
    go_region
    all_goals
      go_wp2_with fail
      try simp only [Exit.inBlock, Exit.then]
      refine bodyPost_ret (results_tmp4 rfl _ _ _) rfl ?_
      exact UqP.ok HB.out.drew (by rw [List.length_drop]; omega) (fun _ => ⟨HR.out.rlo, HR.out.rhi⟩)
  · have k1 : ¬ (128 : Int) ≤ (b.toNat : Int) := by omega
    have k2 : ((b.toNat : Int) != 92) = true := neT (by omega)
    have ew := wrap32 (x := (b.toNat : Int)) (by omega) (by omega)
    obtain ⟨T, hT⟩ : ∃ T, l.drop 1 = T := ⟨_, rfl⟩
    have ex := extract_drop l 1
    rw [hT] at ex
    have HTl := Lib.hid (show T.length = l.length - 1 from by rw [← hT, List.length_drop])
    have i1 : (1 : Int) ≤ (l.length : Int) := by omega
    clear hq h92 h128 hb0 hL hT
    go_enter Tryd.func57, Tryd.ntmps57
    go_wp2_with fail
    go_region
    all_goals
      go_wp2_with fail
      try simp only [Exit.inBlock, Exit.then]
      refine bodyPost_ret (results_tmp4 rfl _ _ _) rfl ?_
      exact UqP.ok (Below.refl _ _).drew (by rw [HTl.out]; omega) (fun e => by cases e)

set_option maxRecDepth 100000 in
theorem uqAlone (l : List UInt8) (b q : UInt8) (w : World) (h1 : l.length = 1) (hb0 : ∀ h : 0 < l.length, l[0] = b) (hq : b ≠ q) (h92 : b.toNat = 92) (hL : LaidOK w) :
    Calls Tryd.prog 57 #[.string ⟨l.toArray⟩, .int .u8 (q.toNat : Int)] w (UqP l.length w) := by
  obtain ⟨_, ty, p, hE⟩ := hL
  have hsz := size_mk l
  have i0 : (0 : Int) < (l.length : Int) := by omega
  have j0 : ((l.length : Int) == 0) = false := eqF (by omega)
  have hx := str_at (show 0 < l.length by omega)
  rw [hb0 (by omega)] at hx
  have kq : ((b.toNat : Int) == (q.toNat : Int)) = false := eqF (fun e => hq (UInt8.toNat_inj.1 (by omega)))
  have k1 : ¬ (128 : Int) ≤ (b.toNat : Int) := by omega
  have k2 : ((b.toNat : Int) != 92) = false := neF (by omega)
  have k3 : (l.length : Int) ≤ 1 := by omega
  clear hq h92 hb0
  go_enter Tryd.func57, Tryd.ntmps57
  go_wp2_with fail
  try simp only [Exit.inBlock, Exit.then]
  refine bodyPost_ret (results_tmp4 rfl _ _ _) rfl ?_
  exact UqP.err (Below.refl _ _)

set_option maxRecDepth 100000 in
set_option maxHeartbeats 8000000 in
theorem uqOne (l T : List UInt8) (b c q : UInt8) (w : World) (hl : l.length ≤ 1000000) (h1 : 1 < l.length) (hb0 : l[0] = b) (hc1 : l[1] = c) (hT : l.drop 2 = T) (hq : b ≠ q) (h92 : b.toNat = 92) (hc : c.toNat = 97 ∨ c.toNat = 98 ∨ c.toNat = 102 ∨ c.toNat = 110 ∨ c.toNat = 114 ∨ c.toNat = 116 ∨ c.toNat = 118 ∨ c.toNat = 92) (hL : LaidOK w) :
    Calls Tryd.prog 57 #[.string ⟨l.toArray⟩, .int .u8 (q.toNat : Int)] w (UqP l.length w) := by
  have hsz := size_mk l
  have i0 : (0 : Int) < (l.length : Int) := by omega
  have j0 : ((l.length : Int) == 0) = false := eqF (by omega)
  have hx := str_at (show 0 < l.length by omega)
  rw [hb0] at hx
  have hx1 := str_at h1
  rw [hc1] at hx1
  have kq : ((b.toNat : Int) == (q.toNat : Int)) = false := eqF (fun e => hq (UInt8.toNat_inj.1 (by omega)))
  have k1 : ¬ (128 : Int) ≤ (b.toNat : Int) := by omega
  have k2 : ((b.toNat : Int) != 92) = false := neF (by omega)
  have k3 : ¬ (l.length : Int) ≤ 1 := by omega
  have k4 : (1 : Int) < (l.length : Int) := by omega
  have k5 : (2 : Int) ≤ (l.length : Int) := by omega
  have ex := extract_drop l 2
  rw [hT] at ex
  have HTL := Lib.hid (show T.length = l.length - 2 from by rw [← hT, List.length_drop])
  have hszT := size_mk T
  have h8 := toNat8 c
  rcases hc with hc | hc | hc | hc | hc | hc | hc | hc
  · -- 97
    have m0 : ((c.toNat : Int) == 97) = true := eqT (by omega)
    have m1 : ((c.toNat : Int) == 98) = false := eqF (by omega)
    have m2 : ((c.toNat : Int) == 102) = false := eqF (by omega)
    have m3 : ((c.toNat : Int) == 110) = false := eqF (by omega)
    have m4 : ((c.toNat : Int) == 114) = false := eqF (by omega)
    have m5 : ((c.toNat : Int) == 116) = false := eqF (by omega)
    have m6 : ((c.toNat : Int) == 118) = false := eqF (by omega)
    have m7 : ((c.toNat : Int) == 120) = false := eqF (by omega)
    have m8 : ((c.toNat : Int) == 117) = false := eqF (by omega)
    have m9 : ((c.toNat : Int) == 85) = false := eqF (by omega)
    have m10 : ((c.toNat : Int) == 48) = false := eqF (by omega)
    have m11 : ((c.toNat : Int) == 49) = false := eqF (by omega)
    have m12 : ((c.toNat : Int) == 50) = false := eqF (by omega)
    have m13 : ((c.toNat : Int) == 51) = false := eqF (by omega)
    have m14 : ((c.toNat : Int) == 52) = false := eqF (by omega)
    have m15 : ((c.toNat : Int) == 53) = false := eqF (by omega)
    have m16 : ((c.toNat : Int) == 54) = false := eqF (by omega)
    have m17 : ((c.toNat : Int) == 55) = false := eqF (by omega)
    have m18 : ((c.toNat : Int) == 92) = false := eqF (by omega)
    have m19 : ((c.toNat : Int) == 39) = false := eqF (by omega)
    have m20 : ((c.toNat : Int) == 34) = false := eqF (by omega)
    clear hq h92 hb0 hc1 hc hT
    go_enter Tryd.func57, Tryd.ntmps57
    go_wp2_with fail
    try simp only [Exit.inBlock, Exit.then]
    refine bodyPost_ret (results_tmp4 rfl _ _ _) rfl ?_
    exact UqP.ok (Below.refl _ _) (by rw [HTL.out]; omega) (fun e => by cases e)
  · -- 98
    have m0 : ((c.toNat : Int) == 97) = false := eqF (by omega)
    have m1 : ((c.toNat : Int) == 98) = true := eqT (by omega)
    have m2 : ((c.toNat : Int) == 102) = false := eqF (by omega)
    have m3 : ((c.toNat : Int) == 110) = false := eqF (by omega)
    have m4 : ((c.toNat : Int) == 114) = false := eqF (by omega)
    have m5 : ((c.toNat : Int) == 116) = false := eqF (by omega)
    have m6 : ((c.toNat : Int) == 118) = false := eqF (by omega)
    have m7 : ((c.toNat : Int) == 120) = false := eqF (by omega)
    have m8 : ((c.toNat : Int) == 117) = false := eqF (by omega)
    have m9 : ((c.toNat : Int) == 85) = false := eqF (by omega)
    have m10 : ((c.toNat : Int) == 48) = false := eqF (by omega)
    have m11 : ((c.toNat : Int) == 49) = false := eqF (by omega)
    have m12 : ((c.toNat : Int) == 50) = false := eqF (by omega)
    have m13 : ((c.toNat : Int) == 51) = false := eqF (by omega)
    have m14 : ((c.toNat : Int) == 52) = false := eqF (by omega)
    have m15 : ((c.toNat : Int) == 53) = false := eqF (by omega)
    have m16 : ((c.toNat : Int) == 54) = false := eqF (by omega)
    have m17 : ((c.toNat : Int) == 55) = false := eqF (by omega)
    have m18 : ((c.toNat : Int) == 92) = false := eqF (by omega)
    have m19 : ((c.toNat : Int) == 39) = false := eqF (by omega)
    have m20 : ((c.toNat : Int) == 34) = false := eqF (by omega)
    clear hq h92 hb0 hc1 hc hT
    go_enter Tryd.func57, Tryd.ntmps57
    go_wp2_with fail
    try simp only [Exit.inBlock, Exit.then]
    refine bodyPost_ret (results_tmp4 rfl _ _ _) rfl ?_
    exact UqP.ok (Below.refl _ _) (by rw [HTL.out]; omega) (fun e => by cases e)
  · -- 102
    have m0 : ((c.toNat : Int) == 97) = false := eqF (by omega)
    have m1 : ((c.toNat : Int) == 98) = false := eqF (by omega)
    have m2 : ((c.toNat : Int) == 102) = true := eqT (by omega)
    have m3 : ((c.toNat : Int) == 110) = false := eqF (by omega)
    have m4 : ((c.toNat : Int) == 114) = false := eqF (by omega)
    have m5 : ((c.toNat : Int) == 116) = false := eqF (by omega)
    have m6 : ((c.toNat : Int) == 118) = false := eqF (by omega)
    have m7 : ((c.toNat : Int) == 120) = false := eqF (by omega)
    have m8 : ((c.toNat : Int) == 117) = false := eqF (by omega)
    have m9 : ((c.toNat : Int) == 85) = false := eqF (by omega)
    have m10 : ((c.toNat : Int) == 48) = false := eqF (by omega)
    have m11 : ((c.toNat : Int) == 49) = false := eqF (by omega)
    have m12 : ((c.toNat : Int) == 50) = false := eqF (by omega)
    have m13 : ((c.toNat : Int) == 51) = false := eqF (by omega)
    have m14 : ((c.toNat : Int) == 52) = false := eqF (by omega)
    have m15 : ((c.toNat : Int) == 53) = false := eqF (by omega)
    have m16 : ((c.toNat : Int) == 54) = false := eqF (by omega)
    have m17 : ((c.toNat : Int) == 55) = false := eqF (by omega)
    have m18 : ((c.toNat : Int) == 92) = false := eqF (by omega)
    have m19 : ((c.toNat : Int) == 39) = false := eqF (by omega)
    have m20 : ((c.toNat : Int) == 34) = false := eqF (by omega)
    clear hq h92 hb0 hc1 hc hT
    go_enter Tryd.func57, Tryd.ntmps57
    go_wp2_with fail
    try simp only [Exit.inBlock, Exit.then]
    refine bodyPost_ret (results_tmp4 rfl _ _ _) rfl ?_
    exact UqP.ok (Below.refl _ _) (by rw [HTL.out]; omega) (fun e => by cases e)
  · -- 110
    have m0 : ((c.toNat : Int) == 97) = false := eqF (by omega)
    have m1 : ((c.toNat : Int) == 98) = false := eqF (by omega)
    have m2 : ((c.toNat : Int) == 102) = false := eqF (by omega)
    have m3 : ((c.toNat : Int) == 110) = true := eqT (by omega)
    have m4 : ((c.toNat : Int) == 114) = false := eqF (by omega)
    have m5 : ((c.toNat : Int) == 116) = false := eqF (by omega)
    have m6 : ((c.toNat : Int) == 118) = false := eqF (by omega)
    have m7 : ((c.toNat : Int) == 120) = false := eqF (by omega)
    have m8 : ((c.toNat : Int) == 117) = false := eqF (by omega)
    have m9 : ((c.toNat : Int) == 85) = false := eqF (by omega)
    have m10 : ((c.toNat : Int) == 48) = false := eqF (by omega)
    have m11 : ((c.toNat : Int) == 49) = false := eqF (by omega)
    have m12 : ((c.toNat : Int) == 50) = false := eqF (by omega)
    have m13 : ((c.toNat : Int) == 51) = false := eqF (by omega)
    have m14 : ((c.toNat : Int) == 52) = false := eqF (by omega)
    have m15 : ((c.toNat : Int) == 53) = false := eqF (by omega)
    have m16 : ((c.toNat : Int) == 54) = false := eqF (by omega)
    have m17 : ((c.toNat : Int) == 55) = false := eqF (by omega)
    have m18 : ((c.toNat : Int) == 92) = false := eqF (by omega)
    have m19 : ((c.toNat : Int) == 39) = false := eqF (by omega)
    have m20 : ((c.toNat : Int) == 34) = false := eqF (by omega)
    clear hq h92 hb0 hc1 hc hT
    go_enter Tryd.func57, Tryd.ntmps57
    go_wp2_with fail
    try simp only [Exit.inBlock, Exit.then]
    refine bodyPost_ret (results_tmp4 rfl _ _ _) rfl ?_
    exact UqP.ok (Below.refl _ _) (by rw [HTL.out]; omega) (fun e => by cases e)
  · -- 114
    have m0 : ((c.toNat : Int) == 97) = false := eqF (by omega)
    have m1 : ((c.toNat : Int) == 98) = false := eqF (by omega)
    have m2 : ((c.toNat : Int) == 102) = false := eqF (by omega)
    have m3 : ((c.toNat : Int) == 110) = false := eqF (by omega)
    have m4 : ((c.toNat : Int) == 114) = true := eqT (by omega)
    have m5 : ((c.toNat : Int) == 116) = false := eqF (by omega)
    have m6 : ((c.toNat : Int) == 118) = false := eqF (by omega)
    have m7 : ((c.toNat : Int) == 120) = false := eqF (by omega)
    have m8 : ((c.toNat : Int) == 117) = false := eqF (by omega)
    have m9 : ((c.toNat : Int) == 85) = false := eqF (by omega)
    have m10 : ((c.toNat : Int) == 48) = false := eqF (by omega)
    have m11 : ((c.toNat : Int) == 49) = false := eqF (by omega)
    have m12 : ((c.toNat : Int) == 50) = false := eqF (by omega)
    have m13 : ((c.toNat : Int) == 51) = false := eqF (by omega)
    have m14 : ((c.toNat : Int) == 52) = false := eqF (by omega)
    have m15 : ((c.toNat : Int) == 53) = false := eqF (by omega)
    have m16 : ((c.toNat : Int) == 54) = false := eqF (by omega)
    have m17 : ((c.toNat : Int) == 55) = false := eqF (by omega)
    have m18 : ((c.toNat : Int) == 92) = false := eqF (by omega)
    have m19 : ((c.toNat : Int) == 39) = false := eqF (by omega)
    have m20 : ((c.toNat : Int) == 34) = false := eqF (by omega)
    clear hq h92 hb0 hc1 hc hT
    go_enter Tryd.func57, Tryd.ntmps57
    go_wp2_with fail
    try simp only [Exit.inBlock, Exit.then]
    refine bodyPost_ret (results_tmp4 rfl _ _ _) rfl ?_
    exact UqP.ok (Below.refl _ _) (by rw [HTL.out]; omega) (fun e => by cases e)
  · -- 116
    have m0 : ((c.toNat : Int) == 97) = false := eqF (by omega)
    have m1 : ((c.toNat : Int) == 98) = false := eqF (by omega)
    have m2 : ((c.toNat : Int) == 102) = false := eqF (by omega)
    have m3 : ((c.toNat : Int) == 110) = false := eqF (by omega)
    have m4 : ((c.toNat : Int) == 114) = false := eqF (by omega)
    have m5 : ((c.toNat : Int) == 116) = true := eqT (by omega)
    have m6 : ((c.toNat : Int) == 118) = false := eqF (by omega)
    have m7 : ((c.toNat : Int) == 120) = false := eqF (by omega)
    have m8 : ((c.toNat : Int) == 117) = false := eqF (by omega)
    have m9 : ((c.toNat : Int) == 85) = false := eqF (by omega)
    have m10 : ((c.toNat : Int) == 48) = false := eqF (by omega)
    have m11 : ((c.toNat : Int) == 49) = false := eqF (by omega)
    have m12 : ((c.toNat : Int) == 50) = false := eqF (by omega)
    have m13 : ((c.toNat : Int) == 51) = false := eqF (by omega)
    have m14 : ((c.toNat : Int) == 52) = false := eqF (by omega)
    have m15 : ((c.toNat : Int) == 53) = false := eqF (by omega)
    have m16 : ((c.toNat : Int) == 54) = false := eqF (by omega)
    have m17 : ((c.toNat : Int) == 55) = false := eqF (by omega)
    have m18 : ((c.toNat : Int) == 92) = false := eqF (by omega)
    have m19 : ((c.toNat : Int) == 39) = false := eqF (by omega)
    have m20 : ((c.toNat : Int) == 34) = false := eqF (by omega)
    clear hq h92 hb0 hc1 hc hT
    go_enter Tryd.func57, Tryd.ntmps57
    go_wp2_with fail
    try simp only [Exit.inBlock, Exit.then]
    refine bodyPost_ret (results_tmp4 rfl _ _ _) rfl ?_
    exact UqP.ok (Below.refl _ _) (by rw [HTL.out]; omega) (fun e => by cases e)
  · -- 118
    have m0 : ((c.toNat : Int) == 97) = false := eqF (by omega)
    have m1 : ((c.toNat : Int) == 98) = false := eqF (by omega)
    have m2 : ((c.toNat : Int) == 102) = false := eqF (by omega)
    have m3 : ((c.toNat : Int) == 110) = false := eqF (by omega)
    have m4 : ((c.toNat : Int) == 114) = false := eqF (by omega)
    have m5 : ((c.toNat : Int) == 116) = false := eqF (by omega)
    have m6 : ((c.toNat : Int) == 118) = true := eqT (by omega)
    have m7 : ((c.toNat : Int) == 120) = false := eqF (by omega)
    have m8 : ((c.toNat : Int) == 117) = false := eqF (by omega)
    have m9 : ((c.toNat : Int) == 85) = false := eqF (by omega)
    have m10 : ((c.toNat : Int) == 48) = false := eqF (by omega)
    have m11 : ((c.toNat : Int) == 49) = false := eqF (by omega)
    have m12 : ((c.toNat : Int) == 50) = false := eqF (by omega)
    have m13 : ((c.toNat : Int) == 51) = false := eqF (by omega)
    have m14 : ((c.toNat : Int) == 52) = false := eqF (by omega)
    have m15 : ((c.toNat : Int) == 53) = false := eqF (by omega)
    have m16 : ((c.toNat : Int) == 54) = false := eqF (by omega)
    have m17 : ((c.toNat : Int) == 55) = false := eqF (by omega)
    have m18 : ((c.toNat : Int) == 92) = false := eqF (by omega)
    have m19 : ((c.toNat : Int) == 39) = false := eqF (by omega)
    have m20 : ((c.toNat : Int) == 34) = false := eqF (by omega)
    clear hq h92 hb0 hc1 hc hT
    go_enter Tryd.func57, Tryd.ntmps57
    go_wp2_with fail
    try simp only [Exit.inBlock, Exit.then]
    refine bodyPost_ret (results_tmp4 rfl _ _ _) rfl ?_
    exact UqP.ok (Below.refl _ _) (by rw [HTL.out]; omega) (fun e => by cases e)
  · -- 92
    have m0 : ((c.toNat : Int) == 97) = false := eqF (by omega)
    have m1 : ((c.toNat : Int) == 98) = false := eqF (by omega)
    have m2 : ((c.toNat : Int) == 102) = false := eqF (by omega)
    have m3 : ((c.toNat : Int) == 110) = false := eqF (by omega)
    have m4 : ((c.toNat : Int) == 114) = false := eqF (by omega)
    have m5 : ((c.toNat : Int) == 116) = false := eqF (by omega)
    have m6 : ((c.toNat : Int) == 118) = false := eqF (by omega)
    have m7 : ((c.toNat : Int) == 120) = false := eqF (by omega)
    have m8 : ((c.toNat : Int) == 117) = false := eqF (by omega)
    have m9 : ((c.toNat : Int) == 85) = false := eqF (by omega)
    have m10 : ((c.toNat : Int) == 48) = false := eqF (by omega)
    have m11 : ((c.toNat : Int) == 49) = false := eqF (by omega)
    have m12 : ((c.toNat : Int) == 50) = false := eqF (by omega)
    have m13 : ((c.toNat : Int) == 51) = false := eqF (by omega)
    have m14 : ((c.toNat : Int) == 52) = false := eqF (by omega)
    have m15 : ((c.toNat : Int) == 53) = false := eqF (by omega)
    have m16 : ((c.toNat : Int) == 54) = false := eqF (by omega)
    have m17 : ((c.toNat : Int) == 55) = false := eqF (by omega)
    have m18 : ((c.toNat : Int) == 92) = true := eqT (by omega)
    have m19 : ((c.toNat : Int) == 39) = false := eqF (by omega)
    have m20 : ((c.toNat : Int) == 34) = false := eqF (by omega)
    clear hq h92 hb0 hc1 hc hT
    go_enter Tryd.func57, Tryd.ntmps57
    go_wp2_with fail
    try simp only [Exit.inBlock, Exit.then]
    refine bodyPost_ret (results_tmp4 rfl _ _ _) rfl ?_
    exact UqP.ok (Below.refl _ _) (by rw [HTL.out]; omega) (fun e => by cases e)

set_option maxRecDepth 100000 in
set_option maxHeartbeats 8000000 in
theorem uqQuo39 (l T : List UInt8) (b c q : UInt8) (w : World) (hl : l.length ≤ 1000000) (h1 : 1 < l.length) (hb0 : l[0] = b) (hc1 : l[1] = c) (hT : l.drop 2 = T) (hq : b ≠ q) (h92 : b.toNat = 92) (hc : c.toNat = 39) (hL : LaidOK w) :
    Calls Tryd.prog 57 #[.string ⟨l.toArray⟩, .int .u8 (q.toNat : Int)] w (UqP l.length w) := by
  have hsz := size_mk l
  have i0 : (0 : Int) < (l.length : Int) := by omega
  have j0 : ((l.length : Int) == 0) = false := eqF (by omega)
  have hx := str_at (show 0 < l.length by omega)
  rw [hb0] at hx
  have hx1 := str_at h1
  rw [hc1] at hx1
  have kq : ((b.toNat : Int) == (q.toNat : Int)) = false := eqF (fun e => hq (UInt8.toNat_inj.1 (by omega)))
  have k1 : ¬ (128 : Int) ≤ (b.toNat : Int) := by omega
  have k2 : ((b.toNat : Int) != 92) = false := neF (by omega)
  have k3 : ¬ (l.length : Int) ≤ 1 := by omega
  have k4 : (1 : Int) < (l.length : Int) := by omega
  have k5 : (2 : Int) ≤ (l.length : Int) := by omega
  have ex := extract_drop l 2
  rw [hT] at ex
  have HTL := Lib.hid (show T.length = l.length - 2 from by rw [← hT, List.length_drop])
  have hszT := size_mk T
  have h8 := toNat8 c
  obtain ⟨_, ty, p, hE⟩ := hL
  have m0 : ((c.toNat : Int) == 97) = false := eqF (by omega)
  have m1 : ((c.toNat : Int) == 98) = false := eqF (by omega)
  have m2 : ((c.toNat : Int) == 102) = false := eqF (by omega)
  have m3 : ((c.toNat : Int) == 110) = false := eqF (by omega)
  have m4 : ((c.toNat : Int) == 114) = false := eqF (by omega)
  have m5 : ((c.toNat : Int) == 116) = false := eqF (by omega)
  have m6 : ((c.toNat : Int) == 118) = false := eqF (by omega)
  have m7 : ((c.toNat : Int) == 120) = false := eqF (by omega)
  have m8 : ((c.toNat : Int) == 117) = false := eqF (by omega)
  have m9 : ((c.toNat : Int) == 85) = false := eqF (by omega)
  have m10 : ((c.toNat : Int) == 48) = false := eqF (by omega)
  have m11 : ((c.toNat : Int) == 49) = false := eqF (by omega)
  have m12 : ((c.toNat : Int) == 50) = false := eqF (by omega)
  have m13 : ((c.toNat : Int) == 51) = false := eqF (by omega)
  have m14 : ((c.toNat : Int) == 52) = false := eqF (by omega)
  have m15 : ((c.toNat : Int) == 53) = false := eqF (by omega)
  have m16 : ((c.toNat : Int) == 54) = false := eqF (by omega)
  have m17 : ((c.toNat : Int) == 55) = false := eqF (by omega)
  have m18 : ((c.toNat : Int) == 92) = false := eqF (by omega)
  have m19 : ((c.toNat : Int) == 39) = true := eqT (by omega)
  have m20 : ((c.toNat : Int) == 34) = false := eqF (by omega)
  have ew := wrap32 (x := (c.toNat : Int)) (by omega) (by omega)
  by_cases hcq : c = q
  · have kc : ((c.toNat : Int) != (q.toNat : Int)) = false := neF (by rw [hcq])
    clear hq h92 hb0 hc1 hc hT hcq
    go_enter Tryd.func57, Tryd.ntmps57
    go_wp2_with fail
    try simp only [Exit.inBlock, Exit.then]
    refine bodyPost_ret (results_tmp4 rfl _ _ _) rfl ?_
    exact UqP.ok (Below.refl _ _) (by rw [HTL.out]; omega) (fun e => by cases e)
  · have kc : ((c.toNat : Int) != (q.toNat : Int)) = true := neT (fun e => hcq (UInt8.toNat_inj.1 (by omega)))
    clear hq h92 hb0 hc1 hc hT hcq
    go_enter Tryd.func57, Tryd.ntmps57
    go_wp2_with fail
    try simp only [Exit.inBlock, Exit.then]
    refine bodyPost_ret (results_tmp4 rfl _ _ _) rfl ?_
    exact UqP.err (Below.refl _ _)

set_option maxRecDepth 100000 in
set_option maxHeartbeats 8000000 in
theorem uqQuo34 (l T : List UInt8) (b c q : UInt8) (w : World) (hl : l.length ≤ 1000000) (h1 : 1 < l.length) (hb0 : l[0] = b) (hc1 : l[1] = c) (hT : l.drop 2 = T) (hq : b ≠ q) (h92 : b.toNat = 92) (hc : c.toNat = 34) (hL : LaidOK w) :
    Calls Tryd.prog 57 #[.string ⟨l.toArray⟩, .int .u8 (q.toNat : Int)] w (UqP l.length w) := by
  have hsz := size_mk l
  have i0 : (0 : Int) < (l.length : Int) := by omega
  have j0 : ((l.length : Int) == 0) = false := eqF (by omega)
  have hx := str_at (show 0 < l.length by omega)
  rw [hb0] at hx
  have hx1 := str_at h1
  rw [hc1] at hx1
  have kq : ((b.toNat : Int) == (q.toNat : Int)) = false := eqF (fun e => hq (UInt8.toNat_inj.1 (by omega)))
  have k1 : ¬ (128 : Int) ≤ (b.toNat : Int) := by omega
  have k2 : ((b.toNat : Int) != 92) = false := neF (by omega)
  have k3 : ¬ (l.length : Int) ≤ 1 := by omega
  have k4 : (1 : Int) < (l.length : Int) := by omega
  have k5 : (2 : Int) ≤ (l.length : Int) := by omega
  have ex := extract_drop l 2
  rw [hT] at ex
  have HTL := Lib.hid (show T.length = l.length - 2 from by rw [← hT, List.length_drop])
  have hszT := size_mk T
  have h8 := toNat8 c
  obtain ⟨_, ty, p, hE⟩ := hL
  have m0 : ((c.toNat : Int) == 97) = false := eqF (by omega)
  have m1 : ((c.toNat : Int) == 98) = false := eqF (by omega)
  have m2 : ((c.toNat : Int) == 102) = false := eqF (by omega)
  have m3 : ((c.toNat : Int) == 110) = false := eqF (by omega)
  have m4 : ((c.toNat : Int) == 114) = false := eqF (by omega)
  have m5 : ((c.toNat : Int) == 116) = false := eqF (by omega)
  have m6 : ((c.toNat : Int) == 118) = false := eqF (by omega)
  have m7 : ((c.toNat : Int) == 120) = false := eqF (by omega)
  have m8 : ((c.toNat : Int) == 117) = false := eqF (by omega)
  have m9 : ((c.toNat : Int) == 85) = false := eqF (by omega)
  have m10 : ((c.toNat : Int) == 48) = false := eqF (by omega)
  have m11 : ((c.toNat : Int) == 49) = false := eqF (by omega)
  have m12 : ((c.toNat : Int) == 50) = false := eqF (by omega)
  have m13 : ((c.toNat : Int) == 51) = false := eqF (by omega)
  have m14 : ((c.toNat : Int) == 52) = false := eqF (by omega)
  have m15 : ((c.toNat : Int) == 53) = false := eqF (by omega)
  have m16 : ((c.toNat : Int) == 54) = false := eqF (by omega)
  have m17 : ((c.toNat : Int) == 55) = false := eqF (by omega)
  have m18 : ((c.toNat : Int) == 92) = false := eqF (by omega)
  have m19 : ((c.toNat : Int) == 39) = false := eqF (by omega)
  have m20 : ((c.toNat : Int) == 34) = true := eqT (by omega)
  have ew := wrap32 (x := (c.toNat : Int)) (by omega) (by omega)
  by_cases hcq : c = q
  · have kc : ((c.toNat : Int) != (q.toNat : Int)) = false := neF (by rw [hcq])
    clear hq h92 hb0 hc1 hc hT hcq
    go_enter Tryd.func57, Tryd.ntmps57
    go_wp2_with fail
    try simp only [Exit.inBlock, Exit.then]
    refine bodyPost_ret (results_tmp4 rfl _ _ _) rfl ?_
    exact UqP.ok (Below.refl _ _) (by rw [HTL.out]; omega) (fun e => by cases e)
  · have kc : ((c.toNat : Int) != (q.toNat : Int)) = true := neT (fun e => hcq (UInt8.toNat_inj.1 (by omega)))
    clear hq h92 hb0 hc1 hc hT hcq
    go_enter Tryd.func57, Tryd.ntmps57
    go_wp2_with fail
    try simp only [Exit.inBlock, Exit.then]
    refine bodyPost_ret (results_tmp4 rfl _ _ _) rfl ?_
    exact UqP.err (Below.refl _ _)

set_option maxRecDepth 100000 in
set_option maxHeartbeats 8000000 in
theorem uqOther (l T : List UInt8) (b c q : UInt8) (w : World) (hl : l.length ≤ 1000000) (h1 : 1 < l.length) (hb0 : l[0] = b) (hc1 : l[1] = c) (hT : l.drop 2 = T) (hq : b ≠ q) (h92 : b.toNat = 92) (hc : c.toNat ≠ 97 ∧ c.toNat ≠ 98 ∧ c.toNat ≠ 102 ∧ c.toNat ≠ 110 ∧ c.toNat ≠ 114 ∧ c.toNat ≠ 116 ∧ c.toNat ≠ 118 ∧ c.toNat ≠ 120 ∧ c.toNat ≠ 117 ∧ c.toNat ≠ 85 ∧ c.toNat ≠ 48 ∧ c.toNat ≠ 49 ∧ c.toNat ≠ 50 ∧ c.toNat ≠ 51 ∧ c.toNat ≠ 52 ∧ c.toNat ≠ 53 ∧ c.toNat ≠ 54 ∧ c.toNat ≠ 55 ∧ c.toNat ≠ 92 ∧ c.toNat ≠ 39 ∧ c.toNat ≠ 34) (hL : LaidOK w) :
    Calls Tryd.prog 57 #[.string ⟨l.toArray⟩, .int .u8 (q.toNat : Int)] w (UqP l.length w) := by
  have hsz := size_mk l
  have i0 : (0 : Int) < (l.length : Int) := by omega
  have j0 : ((l.length : Int) == 0) = false := eqF (by omega)
  have hx := str_at (show 0 < l.length by omega)
  rw [hb0] at hx
  have hx1 := str_at h1
  rw [hc1] at hx1
  have kq : ((b.toNat : Int) == (q.toNat : Int)) = false := eqF (fun e => hq (UInt8.toNat_inj.1 (by omega)))
  have k1 : ¬ (128 : Int) ≤ (b.toNat : Int) := by omega
  have k2 : ((b.toNat : Int) != 92) = false := neF (by omega)
  have k3 : ¬ (l.length : Int) ≤ 1 := by omega
  have k4 : (1 : Int) < (l.length : Int) := by omega
  have k5 : (2 : Int) ≤ (l.length : Int) := by omega
  have ex := extract_drop l 2
  rw [hT] at ex
  have HTL := Lib.hid (show T.length = l.length - 2 from by rw [← hT, List.length_drop])
  have hszT := size_mk T
  have h8 := toNat8 c
  obtain ⟨_, ty, p, hE⟩ := hL
  have m0 : ((c.toNat : Int) == 97) = false := eqF (by omega)
  have m1 : ((c.toNat : Int) == 98) = false := eqF (by omega)
  have m2 : ((c.toNat : Int) == 102) = false := eqF (by omega)
  have m3 : ((c.toNat : Int) == 110) = false := eqF (by omega)
  have m4 : ((c.toNat : Int) == 114) = false := eqF (by omega)
  have m5 : ((c.toNat : Int) == 116) = false := eqF (by omega)
  have m6 : ((c.toNat : Int) == 118) = false := eqF (by omega)
  have m7 : ((c.toNat : Int) == 120) = false := eqF (by omega)
  have m8 : ((c.toNat : Int) == 117) = false := eqF (by omega)
  have m9 : ((c.toNat : Int) == 85) = false := eqF (by omega)
  have m10 : ((c.toNat : Int) == 48) = false := eqF (by omega)
  have m11 : ((c.toNat : Int) == 49) = false := eqF (by omega)
  have m12 : ((c.toNat : Int) == 50) = false := eqF (by omega)
  have m13 : ((c.toNat : Int) == 51) = false := eqF (by omega)
  have m14 : ((c.toNat : Int) == 52) = false := eqF (by omega)
  have m15 : ((c.toNat : Int) == 53) = false := eqF (by omega)
  have m16 : ((c.toNat : Int) == 54) = false := eqF (by omega)
  have m17 : ((c.toNat : Int) == 55) = false := eqF (by omega)
  have m18 : ((c.toNat : Int) == 92) = false := eqF (by omega)
  have m19 : ((c.toNat : Int) == 39) = false := eqF (by omega)
  have m20 : ((c.toNat : Int) == 34) = false := eqF (by omega)
  clear hq h92 hb0 hc1 hc hT
  go_enter Tryd.func57, Tryd.ntmps57
  go_wp2_with fail
  try simp only [Exit.inBlock, Exit.then]
  refine bodyPost_ret (results_tmp4 rfl _ _ _) rfl ?_
  exact UqP.err (Below.refl _ _)

theorem quad {v : Int} {n : Int} {T : List UInt8} {w w' : World} (h : n = v) (hb : Below w.heap.size w w') : OneB (.tuple #[.int .i32 v, .bool false, .string ⟨T.toArray⟩, .nilIface]) w (.returned (.tuple #[.int .i32 n, .bool false, .string ⟨T.toArray⟩, .nilIface])) w' := by subst h; exact ⟨rfl, hb⟩

set_option maxRecDepth 100000 in
set_option maxHeartbeats 8000000 in
theorem uqBack (l T : List UInt8) (b c q : UInt8) (w : World) (hl : l.length ≤ 1000000) (h1 : 1 < l.length) (hb0 : l[0] = b) (hc1 : l[1] = c) (hT : l.drop 2 = T) (hq : b ≠ q) (h92 : b.toNat = 92) (hc : c.toNat = 92) (hL : LaidOK w) :
    Calls Tryd.prog 57 #[.string ⟨l.toArray⟩, .int .u8 (q.toNat : Int)] w (OneB (.tuple #[.int .i32 (c.toNat : Int), .bool false, .string ⟨T.toArray⟩, .nilIface]) w) := by
  have hsz := size_mk l
  have i0 : (0 : Int) < (l.length : Int) := by omega
  have j0 : ((l.length : Int) == 0) = false := eqF (by omega)
  have hx := str_at (show 0 < l.length by omega)
  rw [hb0] at hx
  have hx1 := str_at h1
  rw [hc1] at hx1
  have kq : ((b.toNat : Int) == (q.toNat : Int)) = false := eqF (fun e => hq (UInt8.toNat_inj.1 (by omega)))
  have k1 : ¬ (128 : Int) ≤ (b.toNat : Int) := by omega
  have k2 : ((b.toNat : Int) != 92) = false := neF (by omega)
  have k3 : ¬ (l.length : Int) ≤ 1 := by omega
  have k4 : (1 : Int) < (l.length : Int) := by omega
  have k5 : (2 : Int) ≤ (l.length : Int) := by omega
  have ex := extract_drop l 2
  rw [hT] at ex
  have HTL := Lib.hid (show T.length = l.length - 2 from by rw [← hT, List.length_drop])
  have hszT := size_mk T
  have h8 := toNat8 c
  have HC := Lib.hid hc
  have m0 : ((c.toNat : Int) == 97) = false := eqF (by omega)
  have m1 : ((c.toNat : Int) == 98) = false := eqF (by omega)
  have m2 : ((c.toNat : Int) == 102) = false := eqF (by omega)
  have m3 : ((c.toNat : Int) == 110) = false := eqF (by omega)
  have m4 : ((c.toNat : Int) == 114) = false := eqF (by omega)
  have m5 : ((c.toNat : Int) == 116) = false := eqF (by omega)
  have m6 : ((c.toNat : Int) == 118) = false := eqF (by omega)
  have m7 : ((c.toNat : Int) == 120) = false := eqF (by omega)
  have m8 : ((c.toNat : Int) == 117) = false := eqF (by omega)
  have m9 : ((c.toNat : Int) == 85) = false := eqF (by omega)
  have m10 : ((c.toNat : Int) == 48) = false := eqF (by omega)
  have m11 : ((c.toNat : Int) == 49) = false := eqF (by omega)
  have m12 : ((c.toNat : Int) == 50) = false := eqF (by omega)
  have m13 : ((c.toNat : Int) == 51) = false := eqF (by omega)
  have m14 : ((c.toNat : Int) == 52) = false := eqF (by omega)
  have m15 : ((c.toNat : Int) == 53) = false := eqF (by omega)
  have m16 : ((c.toNat : Int) == 54) = false := eqF (by omega)
  have m17 : ((c.toNat : Int) == 55) = false := eqF (by omega)
  have m18 : ((c.toNat : Int) == 92) = true := eqT (by omega)
  have m19 : ((c.toNat : Int) == 39) = false := eqF (by omega)
  have m20 : ((c.toNat : Int) == 34) = false := eqF (by omega)
  clear hq h92 hb0 hc1 hc hT
  go_enter Tryd.func57, Tryd.ntmps57
  go_wp2_with fail
  try simp only [Exit.inBlock, Exit.then]
  refine bodyPost_ret (results_tmp4 rfl _ _ _) rfl ?_
  exact quad (by rw [HC.out]; rfl) (Below.refl _ _)

set_option maxRecDepth 100000 in
set_option maxHeartbeats 8000000 in
theorem uqMark (l T : List UInt8) (b c q : UInt8) (w : World) (hl : l.length ≤ 1000000) (h1 : 1 < l.length) (hb0 : l[0] = b) (hc1 : l[1] = c) (hT : l.drop 2 = T) (hq : b ≠ q) (h92 : b.toNat = 92) (hc : c.toNat = 34) (hL : LaidOK w) (hcq : c = q) :
    Calls Tryd.prog 57 #[.string ⟨l.toArray⟩, .int .u8 (q.toNat : Int)] w (OneB (.tuple #[.int .i32 (c.toNat : Int), .bool false, .string ⟨T.toArray⟩, .nilIface]) w) := by
  have hsz := size_mk l
  have i0 : (0 : Int) < (l.length : Int) := by omega
  have j0 : ((l.length : Int) == 0) = false := eqF (by omega)
  have hx := str_at (show 0 < l.length by omega)
  rw [hb0] at hx
  have hx1 := str_at h1
  rw [hc1] at hx1
  have kq : ((b.toNat : Int) == (q.toNat : Int)) = false := eqF (fun e => hq (UInt8.toNat_inj.1 (by omega)))
  have k1 : ¬ (128 : Int) ≤ (b.toNat : Int) := by omega
  have k2 : ((b.toNat : Int) != 92) = false := neF (by omega)
  have k3 : ¬ (l.length : Int) ≤ 1 := by omega
  have k4 : (1 : Int) < (l.length : Int) := by omega
  have k5 : (2 : Int) ≤ (l.length : Int) := by omega
  have ex := extract_drop l 2
  rw [hT] at ex
  have HTL := Lib.hid (show T.length = l.length - 2 from by rw [← hT, List.length_drop])
  have hszT := size_mk T
  have h8 := toNat8 c
  have HC := Lib.hid hc
  have m0 : ((c.toNat : Int) == 97) = false := eqF (by omega)
  have m1 : ((c.toNat : Int) == 98) = false := eqF (by omega)
  have m2 : ((c.toNat : Int) == 102) = false := eqF (by omega)
  have m3 : ((c.toNat : Int) == 110) = false := eqF (by omega)
  have m4 : ((c.toNat : Int) == 114) = false := eqF (by omega)
  have m5 : ((c.toNat : Int) == 116) = false := eqF (by omega)
  have m6 : ((c.toNat : Int) == 118) = false := eqF (by omega)
  have m7 : ((c.toNat : Int) == 120) = false := eqF (by omega)
  have m8 : ((c.toNat : Int) == 117) = false := eqF (by omega)
  have m9 : ((c.toNat : Int) == 85) = false := eqF (by omega)
  have m10 : ((c.toNat : Int) == 48) = false := eqF (by omega)
  have m11 : ((c.toNat : Int) == 49) = false := eqF (by omega)
  have m12 : ((c.toNat : Int) == 50) = false := eqF (by omega)
  have m13 : ((c.toNat : Int) == 51) = false := eqF (by omega)
  have m14 : ((c.toNat : Int) == 52) = false := eqF (by omega)
  have m15 : ((c.toNat : Int) == 53) = false := eqF (by omega)
  have m16 : ((c.toNat : Int) == 54) = false := eqF (by omega)
  have m17 : ((c.toNat : Int) == 55) = false := eqF (by omega)
  have m18 : ((c.toNat : Int) == 92) = false := eqF (by omega)
  have m19 : ((c.toNat : Int) == 39) = false := eqF (by omega)
  have m20 : ((c.toNat : Int) == 34) = true := eqT (by omega)
  have ew := wrap32 (x := (c.toNat : Int)) (by omega) (by omega)
  have kc : ((c.toNat : Int) != (q.toNat : Int)) = false := neF (by rw [hcq])
  clear hq h92 hb0 hc1 hc hT hcq
  go_enter Tryd.func57, Tryd.ntmps57
  go_wp2_with fail
  try simp only [Exit.inBlock, Exit.then]
  refine bodyPost_ret (results_tmp4 rfl _ _ _) rfl ?_
  exact quad rfl (Below.refl _ _)

set_option maxRecDepth 100000 in
theorem uqAscii (l T : List UInt8) (b q : UInt8) (w : World) (hl : l.length ≤ 1000000) (h0 : 0 < l.length) (hb0 : l[0] = b) (hT : l.drop 1 = T) (hq : b ≠ q) (h92 : b.toNat ≠ 92) (h128 : b.toNat < 128) :
    Calls Tryd.prog 57 #[.string ⟨l.toArray⟩, .int .u8 (q.toNat : Int)] w (OneB (.tuple #[.int .i32 (b.toNat : Int), .bool false, .string ⟨T.toArray⟩, .nilIface]) w) := by
  have hsz := size_mk l
  have i0 : (0 : Int) < (l.length : Int) := by omega
  have j0 : ((l.length : Int) == 0) = false := eqF (by omega)
  have hx := str_at h0
  rw [hb0] at hx
  have kq : ((b.toNat : Int) == (q.toNat : Int)) = false := eqF (fun e => hq (UInt8.toNat_inj.1 (by omega)))
  have h8 := toNat8 b
  have k1 : ¬ (128 : Int) ≤ (b.toNat : Int) := by omega
  have k2 : ((b.toNat : Int) != 92) = true := neT (by omega)
  have ew := wrap32 (x := (b.toNat : Int)) (by omega) (by omega)
  have ex := extract_drop l 1
  rw [hT] at ex
  have i1 : (1 : Int) ≤ (l.length : Int) := by omega
  clear hq h92 h128 hb0 hT
  go_enter Tryd.func57, Tryd.ntmps57
  go_wp2_with fail
  go_region
  all_goals
    go_wp2_with fail
    try simp only [Exit.inBlock, Exit.then]
    refine bodyPost_ret (results_tmp4 rfl _ _ _) rfl ?_
    exact quad rfl (Below.refl _ _).drew

set_option maxRecDepth 100000 in
set_option maxHeartbeats 8000000 in
theorem uqHex120 (l T : List UInt8) (b c q : UInt8) (w : World) (hl : l.length ≤ 1000000) (h1 : 1 < l.length) (hb0 : l[0] = b) (hc1 : l[1] = c) (hT : l.drop 2 = T) (hq : b ≠ q) (h92 : b.toNat = 92) (hc : c.toNat = 120) (hL : LaidOK w) :
    Calls Tryd.prog 57 #[.string ⟨l.toArray⟩, .int .u8 (q.toNat : Int)] w (UqP l.length w) := by
  have hsz := size_mk l
  have i0 : (0 : Int) < (l.length : Int) := by omega
  have j0 : ((l.length : Int) == 0) = false := eqF (by omega)
  have hx := str_at (show 0 < l.length by omega)
  rw [hb0] at hx
  have hx1 := str_at h1
  rw [hc1] at hx1
  have kq : ((b.toNat : Int) == (q.toNat : Int)) = false := eqF (fun e => hq (UInt8.toNat_inj.1 (by omega)))
  have k1 : ¬ (128 : Int) ≤ (b.toNat : Int) := by omega
  have k2 : ((b.toNat : Int) != 92) = false := neF (by omega)
  have k3 : ¬ (l.length : Int) ≤ 1 := by omega
  have k4 : (1 : Int) < (l.length : Int) := by omega
  have k5 : (2 : Int) ≤ (l.length : Int) := by omega
  have ex := extract_drop l 2
  rw [hT] at ex
  have HTL := Lib.hid (show T.length = l.length - 2 from by rw [← hT, List.length_drop])
  have hszT := size_mk T
  have h8 := toNat8 c
  obtain ⟨_, ty, p, hE⟩ := hL
  have m0 : ((c.toNat : Int) == 97) = false := eqF (by omega)
  have m1 : ((c.toNat : Int) == 98) = false := eqF (by omega)
  have m2 : ((c.toNat : Int) == 102) = false := eqF (by omega)
  have m3 : ((c.toNat : Int) == 110) = false := eqF (by omega)
  have m4 : ((c.toNat : Int) == 114) = false := eqF (by omega)
  have m5 : ((c.toNat : Int) == 116) = false := eqF (by omega)
  have m6 : ((c.toNat : Int) == 118) = false := eqF (by omega)
  have m7 : ((c.toNat : Int) == 120) = true := eqT (by omega)
  have m8 : ((c.toNat : Int) == 117) = false := eqF (by omega)
  have m9 : ((c.toNat : Int) == 85) = false := eqF (by omega)
  have m10 : ((c.toNat : Int) == 48) = false := eqF (by omega)
  have m11 : ((c.toNat : Int) == 49) = false := eqF (by omega)
  have m12 : ((c.toNat : Int) == 50) = false := eqF (by omega)
  have m13 : ((c.toNat : Int) == 51) = false := eqF (by omega)
  have m14 : ((c.toNat : Int) == 52) = false := eqF (by omega)
  have m15 : ((c.toNat : Int) == 53) = false := eqF (by omega)
  have m16 : ((c.toNat : Int) == 54) = false := eqF (by omega)
  have m17 : ((c.toNat : Int) == 55) = false := eqF (by omega)
  have m18 : ((c.toNat : Int) == 92) = false := eqF (by omega)
  have m19 : ((c.toNat : Int) == 39) = false := eqF (by omega)
  have m20 : ((c.toNat : Int) == 34) = false := eqF (by omega)
  clear hq h92 hb0 hc1 hc hT
  have hTl := HTL.out
  by_cases hn : T.length < 2
  · have in0 : (T.length : Int) < 2 := by omega
    clear hTl
    go_enter Tryd.func57, Tryd.ntmps57
    go_wp2_with fail
    try simp only [Exit.inBlock, Exit.then]
    refine bodyPost_ret (results_tmp4 rfl _ _ _) rfl ?_
    exact UqP.err (Below.refl _ _)
  · have in0 : ¬ (T.length : Int) < 2 := by omega
    have in1 : (2 : Int) ≤ (T.length : Int) := by omega
    have exT := extract_drop T 2
    clear hTl
    go_enter Tryd.func57, Tryd.ntmps57
    go_wp2_with fail
    go_loopw [7, 13, 14] (fun s7 s13 s14 wr => ∃ (j : Nat) (v : Int), j ≤ 2 ∧ s7 = .nilIface ∧ s13 = .int .i32 v ∧ s14 = .int .i64 j ∧ w = wr) (fun _ _ s14 _ => 2 - (intOf s14).toNat)
    case atStart => exact ⟨0, 0, by omega, rfl, rfl, rfl, by trivial⟩
    case round =>
      obtain ⟨j, v, hj, rfl, rfl, rfl, hw⟩ := hrel
      subst hw
      by_cases hlt : j < 2
      · have jt : j < T.length := by omega
        have ij : (j : Int) < 2 := by omega
        have ij2 : (j : Int) < (T.length : Int) := by omega
        have hxj := str_at jt
        obtain ⟨x, hxx⟩ : ∃ x, T[j] = x := ⟨_, rfl⟩
        rw [hxx] at hxj
        have HU := Lib.hid (unhex x w)
        go_wp2_with fail
        refine HU.out.mono ?_
        rintro e w2 ⟨rfl, rfl⟩
        clear HU
        cases hexU x with
        | none =>
          unfold unhV
          go_wp2_with fail
          try simp only [Exit.inBlock, Exit.then]
          refine bodyPost_ret (results_tmp4 rfl _ _ _) rfl ?_
          exact UqP.err (Below.refl _ _)
        | some d =>
          unfold unhV
          go_wp2_with fail
          go_roundw
          case rel => exact ⟨j + 1, _, by omega, rfl, rfl, by go_num, by trivial⟩
          case measure => simp [intOf]; omega
      · obtain rfl : j = 2 := by omega
        have ij : ¬ ((2 : Nat) : Int) < 2 := by omega
        go_wp2_with fail
        try simp only [Exit.inBlock, Exit.then]
        refine bodyPost_ret (results_tmp4 rfl _ _ _) rfl ?_
        exact UqP.ok (Below.refl _ _) (by rw [List.length_drop, HTL.out]; omega) (fun e => by cases e)

set_option maxRecDepth 100000 in
set_option maxHeartbeats 8000000 in
theorem uqHex117 (l T : List UInt8) (b c q : UInt8) (w : World) (hl : l.length ≤ 1000000) (h1 : 1 < l.length) (hb0 : l[0] = b) (hc1 : l[1] = c) (hT : l.drop 2 = T) (hq : b ≠ q) (h92 : b.toNat = 92) (hc : c.toNat = 117) (hL : LaidOK w) :
    Calls Tryd.prog 57 #[.string ⟨l.toArray⟩, .int .u8 (q.toNat : Int)] w (UqP l.length w) := by
  have hsz := size_mk l
  have i0 : (0 : Int) < (l.length : Int) := by omega
  have j0 : ((l.length : Int) == 0) = false := eqF (by omega)
  have hx := str_at (show 0 < l.length by omega)
  rw [hb0] at hx
  have hx1 := str_at h1
  rw [hc1] at hx1
  have kq : ((b.toNat : Int) == (q.toNat : Int)) = false := eqF (fun e => hq (UInt8.toNat_inj.1 (by omega)))
  have k1 : ¬ (128 : Int) ≤ (b.toNat : Int) := by omega
  have k2 : ((b.toNat : Int) != 92) = false := neF (by omega)
  have k3 : ¬ (l.length : Int) ≤ 1 := by omega
  have k4 : (1 : Int) < (l.length : Int) := by omega
  have k5 : (2 : Int) ≤ (l.length : Int) := by omega
  have ex := extract_drop l 2
  rw [hT] at ex
  have HTL := Lib.hid (show T.length = l.length - 2 from by rw [← hT, List.length_drop])
  have hszT := size_mk T
  have h8 := toNat8 c
  obtain ⟨_, ty, p, hE⟩ := hL
  have m0 : ((c.toNat : Int) == 97) = false := eqF (by omega)
  have m1 : ((c.toNat : Int) == 98) = false := eqF (by omega)
  have m2 : ((c.toNat : Int) == 102) = false := eqF (by omega)
  have m3 : ((c.toNat : Int) == 110) = false := eqF (by omega)
  have m4 : ((c.toNat : Int) == 114) = false := eqF (by omega)
  have m5 : ((c.toNat : Int) == 116) = false := eqF (by omega)
  have m6 : ((c.toNat : Int) == 118) = false := eqF (by omega)
  have m7 : ((c.toNat : Int) == 120) = false := eqF (by omega)
  have m8 : ((c.toNat : Int) == 117) = true := eqT (by omega)
  have m9 : ((c.toNat : Int) == 85) = false := eqF (by omega)
  have m10 : ((c.toNat : Int) == 48) = false := eqF (by omega)
  have m11 : ((c.toNat : Int) == 49) = false := eqF (by omega)
  have m12 : ((c.toNat : Int) == 50) = false := eqF (by omega)
  have m13 : ((c.toNat : Int) == 51) = false := eqF (by omega)
  have m14 : ((c.toNat : Int) == 52) = false := eqF (by omega)
  have m15 : ((c.toNat : Int) == 53) = false := eqF (by omega)
  have m16 : ((c.toNat : Int) == 54) = false := eqF (by omega)
  have m17 : ((c.toNat : Int) == 55) = false := eqF (by omega)
  have m18 : ((c.toNat : Int) == 92) = false := eqF (by omega)
  have m19 : ((c.toNat : Int) == 39) = false := eqF (by omega)
  have m20 : ((c.toNat : Int) == 34) = false := eqF (by omega)
  clear hq h92 hb0 hc1 hc hT
  have hTl := HTL.out
  by_cases hn : T.length < 4
  · have in0 : (T.length : Int) < 4 := by omega
    clear hTl
    go_enter Tryd.func57, Tryd.ntmps57
    go_wp2_with fail
    try simp only [Exit.inBlock, Exit.then]
    refine bodyPost_ret (results_tmp4 rfl _ _ _) rfl ?_
    exact UqP.err (Below.refl _ _)
  · have in0 : ¬ (T.length : Int) < 4 := by omega
    have in1 : (4 : Int) ≤ (T.length : Int) := by omega
    have exT := extract_drop T 4
    clear hTl
    go_enter Tryd.func57, Tryd.ntmps57
    go_wp2_with fail
    go_loopw [7, 13, 14] (fun s7 s13 s14 wr => ∃ (j : Nat) (v : Int), j ≤ 4 ∧ s7 = .nilIface ∧ s13 = .int .i32 v ∧ s14 = .int .i64 j ∧ w = wr) (fun _ _ s14 _ => 4 - (intOf s14).toNat)
    case atStart => exact ⟨0, 0, by omega, rfl, rfl, rfl, by trivial⟩
    case round =>
      obtain ⟨j, v, hj, rfl, rfl, rfl, hw⟩ := hrel
      subst hw
      by_cases hlt : j < 4
      · have jt : j < T.length := by omega
        have ij : (j : Int) < 4 := by omega
        have ij2 : (j : Int) < (T.length : Int) := by omega
        have hxj := str_at jt
        obtain ⟨x, hxx⟩ : ∃ x, T[j] = x := ⟨_, rfl⟩
        rw [hxx] at hxj
        have HU := Lib.hid (unhex x w)
        go_wp2_with fail
        refine HU.out.mono ?_
        rintro e w2 ⟨rfl, rfl⟩
        clear HU
        cases hexU x with
        | none =>
          unfold unhV
          go_wp2_with fail
          try simp only [Exit.inBlock, Exit.then]
          refine bodyPost_ret (results_tmp4 rfl _ _ _) rfl ?_
          exact UqP.err (Below.refl _ _)
        | some d =>
          unfold unhV
          go_wp2_with fail
          go_roundw
          case rel => exact ⟨j + 1, _, by omega, rfl, rfl, by go_num, by trivial⟩
          case measure => simp [intOf]; omega
      · obtain rfl : j = 4 := by omega
        have ij : ¬ ((4 : Nat) : Int) < 4 := by omega
        have HV := Lib.hid (fun r => validRune r w)
        go_wp2_with fail
        refine (HV.out _).mono ?_
        rintro e w2 ⟨⟨vb, rfl, hv⟩, rfl⟩
        have HVB := Lib.hid hv
        clear hv HV
        cases vb with
        | false =>
          go_wp2_with fail
          try simp only [Exit.inBlock, Exit.then]
          refine bodyPost_ret (results_tmp4 rfl _ _ _) rfl ?_
          exact UqP.err (Below.refl _ _)
        | true =>
          go_wp2_with fail
          try simp only [Exit.inBlock, Exit.then]
          refine bodyPost_ret (results_tmp4 rfl _ _ _) rfl ?_
          exact UqP.ok (Below.refl _ _) (by rw [List.length_drop, HTL.out]; omega) (fun _ => HVB.out (by trivial))

set_option maxRecDepth 100000 in
set_option maxHeartbeats 8000000 in
theorem uqHex85 (l T : List UInt8) (b c q : UInt8) (w : World) (hl : l.length ≤ 1000000) (h1 : 1 < l.length) (hb0 : l[0] = b) (hc1 : l[1] = c) (hT : l.drop 2 = T) (hq : b ≠ q) (h92 : b.toNat = 92) (hc : c.toNat = 85) (hL : LaidOK w) :
    Calls Tryd.prog 57 #[.string ⟨l.toArray⟩, .int .u8 (q.toNat : Int)] w (UqP l.length w) := by
  have hsz := size_mk l
  have i0 : (0 : Int) < (l.length : Int) := by omega
  have j0 : ((l.length : Int) == 0) = false := eqF (by omega)
  have hx := str_at (show 0 < l.length by omega)
  rw [hb0] at hx
  have hx1 := str_at h1
  rw [hc1] at hx1
  have kq : ((b.toNat : Int) == (q.toNat : Int)) = false := eqF (fun e => hq (UInt8.toNat_inj.1 (by omega)))
  have k1 : ¬ (128 : Int) ≤ (b.toNat : Int) := by omega
  have k2 : ((b.toNat : Int) != 92) = false := neF (by omega)
  have k3 : ¬ (l.length : Int) ≤ 1 := by omega
  have k4 : (1 : Int) < (l.length : Int) := by omega
  have k5 : (2 : Int) ≤ (l.length : Int) := by omega
  have ex := extract_drop l 2
  rw [hT] at ex
  have HTL := Lib.hid (show T.length = l.length - 2 from by rw [← hT, List.length_drop])
  have hszT := size_mk T
  have h8 := toNat8 c
  obtain ⟨_, ty, p, hE⟩ := hL
  have m0 : ((c.toNat : Int) == 97) = false := eqF (by omega)
  have m1 : ((c.toNat : Int) == 98) = false := eqF (by omega)
  have m2 : ((c.toNat : Int) == 102) = false := eqF (by omega)
  have m3 : ((c.toNat : Int) == 110) = false := eqF (by omega)
  have m4 : ((c.toNat : Int) == 114) = false := eqF (by omega)
  have m5 : ((c.toNat : Int) == 116) = false := eqF (by omega)
  have m6 : ((c.toNat : Int) == 118) = false := eqF (by omega)
  have m7 : ((c.toNat : Int) == 120) = false := eqF (by omega)
  have m8 : ((c.toNat : Int) == 117) = false := eqF (by omega)
  have m9 : ((c.toNat : Int) == 85) = true := eqT (by omega)
  have m10 : ((c.toNat : Int) == 48) = false := eqF (by omega)
  have m11 : ((c.toNat : Int) == 49) = false := eqF (by omega)
  have m12 : ((c.toNat : Int) == 50) = false := eqF (by omega)
  have m13 : ((c.toNat : Int) == 51) = false := eqF (by omega)
  have m14 : ((c.toNat : Int) == 52) = false := eqF (by omega)
  have m15 : ((c.toNat : Int) == 53) = false := eqF (by omega)
  have m16 : ((c.toNat : Int) == 54) = false := eqF (by omega)
  have m17 : ((c.toNat : Int) == 55) = false := eqF (by omega)
  have m18 : ((c.toNat : Int) == 92) = false := eqF (by omega)
  have m19 : ((c.toNat : Int) == 39) = false := eqF (by omega)
  have m20 : ((c.toNat : Int) == 34) = false := eqF (by omega)
  clear hq h92 hb0 hc1 hc hT
  have hTl := HTL.out
  by_cases hn : T.length < 8
  · have in0 : (T.length : Int) < 8 := by omega
    clear hTl
    go_enter Tryd.func57, Tryd.ntmps57
    go_wp2_with fail
    try simp only [Exit.inBlock, Exit.then]
    refine bodyPost_ret (results_tmp4 rfl _ _ _) rfl ?_
    exact UqP.err (Below.refl _ _)
  · have in0 : ¬ (T.length : Int) < 8 := by omega
    have in1 : (8 : Int) ≤ (T.length : Int) := by omega
    have exT := extract_drop T 8
    clear hTl
    go_enter Tryd.func57, Tryd.ntmps57
    go_wp2_with fail
    go_loopw [7, 13, 14] (fun s7 s13 s14 wr => ∃ (j : Nat) (v : Int), j ≤ 8 ∧ s7 = .nilIface ∧ s13 = .int .i32 v ∧ s14 = .int .i64 j ∧ w = wr) (fun _ _ s14 _ => 8 - (intOf s14).toNat)
    case atStart => exact ⟨0, 0, by omega, rfl, rfl, rfl, by trivial⟩
    case round =>
      obtain ⟨j, v, hj, rfl, rfl, rfl, hw⟩ := hrel
      subst hw
      by_cases hlt : j < 8
      · have jt : j < T.length := by omega
        have ij : (j : Int) < 8 := by omega
        have ij2 : (j : Int) < (T.length : Int) := by omega
        have hxj := str_at jt
        obtain ⟨x, hxx⟩ : ∃ x, T[j] = x := ⟨_, rfl⟩
        rw [hxx] at hxj
        have HU := Lib.hid (unhex x w)
        go_wp2_with fail
        refine HU.out.mono ?_
        rintro e w2 ⟨rfl, rfl⟩
        clear HU
        cases hexU x with
        | none =>
          unfold unhV
          go_wp2_with fail
          try simp only [Exit.inBlock, Exit.then]
          refine bodyPost_ret (results_tmp4 rfl _ _ _) rfl ?_
          exact UqP.err (Below.refl _ _)
        | some d =>
          unfold unhV
          go_wp2_with fail
          go_roundw
          case rel => exact ⟨j + 1, _, by omega, rfl, rfl, by go_num, by trivial⟩
          case measure => simp [intOf]; omega
      · obtain rfl : j = 8 := by omega
        have ij : ¬ ((8 : Nat) : Int) < 8 := by omega
        have HV := Lib.hid (fun r => validRune r w)
        go_wp2_with fail
        refine (HV.out _).mono ?_
        rintro e w2 ⟨⟨vb, rfl, hv⟩, rfl⟩
        have HVB := Lib.hid hv
        clear hv HV
        cases vb with
        | false =>
          go_wp2_with fail
          try simp only [Exit.inBlock, Exit.then]
          refine bodyPost_ret (results_tmp4 rfl _ _ _) rfl ?_
          exact UqP.err (Below.refl _ _)
        | true =>
          go_wp2_with fail
          try simp only [Exit.inBlock, Exit.then]
          refine bodyPost_ret (results_tmp4 rfl _ _ _) rfl ?_
          exact UqP.ok (Below.refl _ _) (by rw [List.length_drop, HTL.out]; omega) (fun _ => HVB.out (by trivial))

set_option maxRecDepth 100000 in
set_option maxHeartbeats 8000000 in
theorem uqOct (l T : List UInt8) (b c q : UInt8) (w : World) (hl : l.length ≤ 1000000) (h1 : 1 < l.length) (hb0 : l[0] = b) (hc1 : l[1] = c) (hT : l.drop 2 = T) (hq : b ≠ q) (h92 : b.toNat = 92) (hc : 48 ≤ c.toNat ∧ c.toNat ≤ 55) (hL : LaidOK w) :
    Calls Tryd.prog 57 #[.string ⟨l.toArray⟩, .int .u8 (q.toNat : Int)] w (UqP l.length w) := by
  have hsz := size_mk l
  have i0 : (0 : Int) < (l.length : Int) := by omega
  have j0 : ((l.length : Int) == 0) = false := eqF (by omega)
  have hx := str_at (show 0 < l.length by omega)
  rw [hb0] at hx
  have hx1 := str_at h1
  rw [hc1] at hx1
  have kq : ((b.toNat : Int) == (q.toNat : Int)) = false := eqF (fun e => hq (UInt8.toNat_inj.1 (by omega)))
  have k1 : ¬ (128 : Int) ≤ (b.toNat : Int) := by omega
  have k2 : ((b.toNat : Int) != 92) = false := neF (by omega)
  have k3 : ¬ (l.length : Int) ≤ 1 := by omega
  have k4 : (1 : Int) < (l.length : Int) := by omega
  have k5 : (2 : Int) ≤ (l.length : Int) := by omega
  have ex := extract_drop l 2
  rw [hT] at ex
  have HTL := Lib.hid (show T.length = l.length - 2 from by rw [← hT, List.length_drop])
  have hszT := size_mk T
  have h8 := toNat8 c
  obtain ⟨_, ty, p, hE⟩ := hL
  have ew := wrap32 (x := (c.toNat : Int)) (by omega) (by omega)
  have ew2 := wrap32 (x := (c.toNat : Int) - 48) (by omega) (by omega)
  have z48 : ((c.toNat : Int) == 48) = true ∨ ((c.toNat : Int) == 48) = false := by cases ((c.toNat : Int) == 48) <;> simp
  have z49 : ((c.toNat : Int) == 49) = true ∨ ((c.toNat : Int) == 49) = false := by cases ((c.toNat : Int) == 49) <;> simp
  have z50 : ((c.toNat : Int) == 50) = true ∨ ((c.toNat : Int) == 50) = false := by cases ((c.toNat : Int) == 50) <;> simp
  have z51 : ((c.toNat : Int) == 51) = true ∨ ((c.toNat : Int) == 51) = false := by cases ((c.toNat : Int) == 51) <;> simp
  have z52 : ((c.toNat : Int) == 52) = true ∨ ((c.toNat : Int) == 52) = false := by cases ((c.toNat : Int) == 52) <;> simp
  have z53 : ((c.toNat : Int) == 53) = true ∨ ((c.toNat : Int) == 53) = false := by cases ((c.toNat : Int) == 53) <;> simp
  have z54 : ((c.toNat : Int) == 54) = true ∨ ((c.toNat : Int) == 54) = false := by cases ((c.toNat : Int) == 54) <;> simp
  have z55 : ((c.toNat : Int) == 55) = true ∨ ((c.toNat : Int) == 55) = false := by cases ((c.toNat : Int) == 55) <;> simp
  obtain hc | hc | hc | hc | hc | hc | hc | hc : c.toNat = 48 ∨ c.toNat = 49 ∨ c.toNat = 50 ∨ c.toNat = 51 ∨ c.toNat = 52 ∨ c.toNat = 53 ∨ c.toNat = 54 ∨ c.toNat = 55 := by omega
  · clear z48 z49 z50 z51 z52 z53 z54 z55
    have m0 : ((c.toNat : Int) == 97) = false := eqF (by omega)
    have m1 : ((c.toNat : Int) == 98) = false := eqF (by omega)
    have m2 : ((c.toNat : Int) == 102) = false := eqF (by omega)
    have m3 : ((c.toNat : Int) == 110) = false := eqF (by omega)
    have m4 : ((c.toNat : Int) == 114) = false := eqF (by omega)
    have m5 : ((c.toNat : Int) == 116) = false := eqF (by omega)
    have m6 : ((c.toNat : Int) == 118) = false := eqF (by omega)
    have m7 : ((c.toNat : Int) == 120) = false := eqF (by omega)
    have m8 : ((c.toNat : Int) == 117) = false := eqF (by omega)
    have m9 : ((c.toNat : Int) == 85) = false := eqF (by omega)
    have m10 : ((c.toNat : Int) == 48) = true := eqT (by omega)
    have m11 : ((c.toNat : Int) == 49) = false := eqF (by omega)
    have m12 : ((c.toNat : Int) == 50) = false := eqF (by omega)
    have m13 : ((c.toNat : Int) == 51) = false := eqF (by omega)
    have m14 : ((c.toNat : Int) == 52) = false := eqF (by omega)
    have m15 : ((c.toNat : Int) == 53) = false := eqF (by omega)
    have m16 : ((c.toNat : Int) == 54) = false := eqF (by omega)
    have m17 : ((c.toNat : Int) == 55) = false := eqF (by omega)
    have m18 : ((c.toNat : Int) == 92) = false := eqF (by omega)
    have m19 : ((c.toNat : Int) == 39) = false := eqF (by omega)
    have m20 : ((c.toNat : Int) == 34) = false := eqF (by omega)
    clear hq h92 hb0 hc1 hc hT
    by_cases hn : T.length < 2
    · have in0 : (T.length : Int) < 2 := by omega
      go_enter Tryd.func57, Tryd.ntmps57
      go_wp2_with fail
      try simp only [Exit.inBlock, Exit.then]
      refine bodyPost_ret (results_tmp4 rfl _ _ _) rfl ?_
      exact UqP.err (Below.refl _ _)
    · have in0 : ¬ (T.length : Int) < 2 := by omega
      have in1 : (2 : Int) ≤ (T.length : Int) := by omega
      have exT := extract_drop T 2
      go_enter Tryd.func57, Tryd.ntmps57
      go_wp2_with fail
      go_loopw [7, 17, 18] (fun s7 s17 s18 wr => ∃ (j : Nat) (v : Int), j ≤ 2 ∧ s7 = .nilIface ∧ s17 = .int .i32 v ∧ s18 = .int .i64 j ∧ w = wr) (fun _ _ s18 _ => 2 - (intOf s18).toNat)
      case atStart => exact ⟨0, _, by omega, rfl, rfl, rfl, by trivial⟩
      case round =>
        obtain ⟨j, v, hj, rfl, rfl, rfl, hw⟩ := hrel
        subst hw
        by_cases hlt : j < 2
        · have jt : j < T.length := by omega
          have ij : (j : Int) < 2 := by omega
          have ij2 : (j : Int) < (T.length : Int) := by omega
          have hxj := str_at jt
          obtain ⟨x, hxx⟩ : ∃ x, T[j] = x := ⟨_, rfl⟩
          rw [hxx] at hxj
          have hx8 := toNat8 x
          have ewx := wrap32 (x := (x.toNat : Int)) (by omega) (by omega)
          have ewx2 := wrap32 (x := (x.toNat : Int) - 48) (by omega) (by omega)
          by_cases ha : (x.toNat : Int) - 48 < 0
          · go_wp2_with fail
            try simp only [Exit.inBlock, Exit.then]
            refine bodyPost_ret (results_tmp4 rfl _ _ _) rfl ?_
            exact UqP.err (Below.refl _ _)
          by_cases hz : 7 < (x.toNat : Int) - 48
          · go_wp2_with fail
            try simp only [Exit.inBlock, Exit.then]
            refine bodyPost_ret (results_tmp4 rfl _ _ _) rfl ?_
            exact UqP.err (Below.refl _ _)
          · go_wp2_with fail
            go_roundw
            case rel => exact ⟨j + 1, _, by omega, rfl, rfl, by go_num, by trivial⟩
            case measure => simp [intOf]; omega
        · obtain rfl : j = 2 := by omega
          have ij : ¬ ((2 : Nat) : Int) < 2 := by omega
          by_cases hv : 255 < v
          · go_wp2_with fail
            try simp only [Exit.inBlock, Exit.then]
            refine bodyPost_ret (results_tmp4 rfl _ _ _) rfl ?_
            exact UqP.err (Below.refl _ _)
          · go_wp2_with fail
            try simp only [Exit.inBlock, Exit.then]
            refine bodyPost_ret (results_tmp4 rfl _ _ _) rfl ?_
            exact UqP.ok (Below.refl _ _) (by rw [List.length_drop, HTL.out]; omega) (fun e => by cases e)
  · clear z48 z49 z50 z51 z52 z53 z54 z55
    have m0 : ((c.toNat : Int) == 97) = false := eqF (by omega)
    have m1 : ((c.toNat : Int) == 98) = false := eqF (by omega)
    have m2 : ((c.toNat : Int) == 102) = false := eqF (by omega)
    have m3 : ((c.toNat : Int) == 110) = false := eqF (by omega)
    have m4 : ((c.toNat : Int) == 114) = false := eqF (by omega)
    have m5 : ((c.toNat : Int) == 116) = false := eqF (by omega)
    have m6 : ((c.toNat : Int) == 118) = false := eqF (by omega)
    have m7 : ((c.toNat : Int) == 120) = false := eqF (by omega)
    have m8 : ((c.toNat : Int) == 117) = false := eqF (by omega)
    have m9 : ((c.toNat : Int) == 85) = false := eqF (by omega)
    have m10 : ((c.toNat : Int) == 48) = false := eqF (by omega)
    have m11 : ((c.toNat : Int) == 49) = true := eqT (by omega)
    have m12 : ((c.toNat : Int) == 50) = false := eqF (by omega)
    have m13 : ((c.toNat : Int) == 51) = false := eqF (by omega)
    have m14 : ((c.toNat : Int) == 52) = false := eqF (by omega)
    have m15 : ((c.toNat : Int) == 53) = false := eqF (by omega)
    have m16 : ((c.toNat : Int) == 54) = false := eqF (by omega)
    have m17 : ((c.toNat : Int) == 55) = false := eqF (by omega)
    have m18 : ((c.toNat : Int) == 92) = false := eqF (by omega)
    have m19 : ((c.toNat : Int) == 39) = false := eqF (by omega)
    have m20 : ((c.toNat : Int) == 34) = false := eqF (by omega)
    clear hq h92 hb0 hc1 hc hT
    by_cases hn : T.length < 2
    · have in0 : (T.length : Int) < 2 := by omega
      go_enter Tryd.func57, Tryd.ntmps57
      go_wp2_with fail
      try simp only [Exit.inBlock, Exit.then]
      refine bodyPost_ret (results_tmp4 rfl _ _ _) rfl ?_
      exact UqP.err (Below.refl _ _)
    · have in0 : ¬ (T.length : Int) < 2 := by omega
      have in1 : (2 : Int) ≤ (T.length : Int) := by omega
      have exT := extract_drop T 2
      go_enter Tryd.func57, Tryd.ntmps57
      go_wp2_with fail
      go_loopw [7, 17, 18] (fun s7 s17 s18 wr => ∃ (j : Nat) (v : Int), j ≤ 2 ∧ s7 = .nilIface ∧ s17 = .int .i32 v ∧ s18 = .int .i64 j ∧ w = wr) (fun _ _ s18 _ => 2 - (intOf s18).toNat)
      case atStart => exact ⟨0, _, by omega, rfl, rfl, rfl, by trivial⟩
      case round =>
        obtain ⟨j, v, hj, rfl, rfl, rfl, hw⟩ := hrel
        subst hw
        by_cases hlt : j < 2
        · have jt : j < T.length := by omega
          have ij : (j : Int) < 2 := by omega
          have ij2 : (j : Int) < (T.length : Int) := by omega
          have hxj := str_at jt
          obtain ⟨x, hxx⟩ : ∃ x, T[j] = x := ⟨_, rfl⟩
          rw [hxx] at hxj
          have hx8 := toNat8 x
          have ewx := wrap32 (x := (x.toNat : Int)) (by omega) (by omega)
          have ewx2 := wrap32 (x := (x.toNat : Int) - 48) (by omega) (by omega)
          by_cases ha : (x.toNat : Int) - 48 < 0
          · go_wp2_with fail
            try simp only [Exit.inBlock, Exit.then]
            refine bodyPost_ret (results_tmp4 rfl _ _ _) rfl ?_
            exact UqP.err (Below.refl _ _)
          by_cases hz : 7 < (x.toNat : Int) - 48
          · go_wp2_with fail
            try simp only [Exit.inBlock, Exit.then]
            refine bodyPost_ret (results_tmp4 rfl _ _ _) rfl ?_
            exact UqP.err (Below.refl _ _)
          · go_wp2_with fail
            go_roundw
            case rel => exact ⟨j + 1, _, by omega, rfl, rfl, by go_num, by trivial⟩
            case measure => simp [intOf]; omega
        · obtain rfl : j = 2 := by omega
          have ij : ¬ ((2 : Nat) : Int) < 2 := by omega
          by_cases hv : 255 < v
          · go_wp2_with fail
            try simp only [Exit.inBlock, Exit.then]
            refine bodyPost_ret (results_tmp4 rfl _ _ _) rfl ?_
            exact UqP.err (Below.refl _ _)
          · go_wp2_with fail
            try simp only [Exit.inBlock, Exit.then]
            refine bodyPost_ret (results_tmp4 rfl _ _ _) rfl ?_
            exact UqP.ok (Below.refl _ _) (by rw [List.length_drop, HTL.out]; omega) (fun e => by cases e)
  · clear z48 z49 z50 z51 z52 z53 z54 z55
    have m0 : ((c.toNat : Int) == 97) = false := eqF (by omega)
    have m1 : ((c.toNat : Int) == 98) = false := eqF (by omega)
    have m2 : ((c.toNat : Int) == 102) = false := eqF (by omega)
    have m3 : ((c.toNat : Int) == 110) = false := eqF (by omega)
    have m4 : ((c.toNat : Int) == 114) = false := eqF (by omega)
    have m5 : ((c.toNat : Int) == 116) = false := eqF (by omega)
    have m6 : ((c.toNat : Int) == 118) = false := eqF (by omega)
    have m7 : ((c.toNat : Int) == 120) = false := eqF (by omega)
    have m8 : ((c.toNat : Int) == 117) = false := eqF (by omega)
    have m9 : ((c.toNat : Int) == 85) = false := eqF (by omega)
    have m10 : ((c.toNat : Int) == 48) = false := eqF (by omega)
    have m11 : ((c.toNat : Int) == 49) = false := eqF (by omega)
    have m12 : ((c.toNat : Int) == 50) = true := eqT (by omega)
    have m13 : ((c.toNat : Int) == 51) = false := eqF (by omega)
    have m14 : ((c.toNat : Int) == 52) = false := eqF (by omega)
    have m15 : ((c.toNat : Int) == 53) = false := eqF (by omega)
    have m16 : ((c.toNat : Int) == 54) = false := eqF (by omega)
    have m17 : ((c.toNat : Int) == 55) = false := eqF (by omega)
    have m18 : ((c.toNat : Int) == 92) = false := eqF (by omega)
    have m19 : ((c.toNat : Int) == 39) = false := eqF (by omega)
    have m20 : ((c.toNat : Int) == 34) = false := eqF (by omega)
    clear hq h92 hb0 hc1 hc hT
    by_cases hn : T.length < 2
    · have in0 : (T.length : Int) < 2 := by omega
      go_enter Tryd.func57, Tryd.ntmps57
      go_wp2_with fail
      try simp only [Exit.inBlock, Exit.then]
      refine bodyPost_ret (results_tmp4 rfl _ _ _) rfl ?_
      exact UqP.err (Below.refl _ _)
    · have in0 : ¬ (T.length : Int) < 2 := by omega
      have in1 : (2 : Int) ≤ (T.length : Int) := by omega
      have exT := extract_drop T 2
      go_enter Tryd.func57, Tryd.ntmps57
      go_wp2_with fail
      go_loopw [7, 17, 18] (fun s7 s17 s18 wr => ∃ (j : Nat) (v : Int), j ≤ 2 ∧ s7 = .nilIface ∧ s17 = .int .i32 v ∧ s18 = .int .i64 j ∧ w = wr) (fun _ _ s18 _ => 2 - (intOf s18).toNat)
      case atStart => exact ⟨0, _, by omega, rfl, rfl, rfl, by trivial⟩
      case round =>
        obtain ⟨j, v, hj, rfl, rfl, rfl, hw⟩ := hrel
        subst hw
        by_cases hlt : j < 2
        · have jt : j < T.length := by omega
          have ij : (j : Int) < 2 := by omega
          have ij2 : (j : Int) < (T.length : Int) := by omega
          have hxj := str_at jt
          obtain ⟨x, hxx⟩ : ∃ x, T[j] = x := ⟨_, rfl⟩
          rw [hxx] at hxj
          have hx8 := toNat8 x
          have ewx := wrap32 (x := (x.toNat : Int)) (by omega) (by omega)
          have ewx2 := wrap32 (x := (x.toNat : Int) - 48) (by omega) (by omega)
          by_cases ha : (x.toNat : Int) - 48 < 0
          · go_wp2_with fail
            try simp only [Exit.inBlock, Exit.then]
            refine bodyPost_ret (results_tmp4 rfl _ _ _) rfl ?_
            exact UqP.err (Below.refl _ _)
          by_cases hz : 7 < (x.toNat : Int) - 48
          · go_wp2_with fail
            try simp only [Exit.inBlock, Exit.then]
            refine bodyPost_ret (results_tmp4 rfl _ _ _) rfl ?_
            exact UqP.err (Below.refl _ _)
          · go_wp2_with fail
            go_roundw
            case rel => exact ⟨j + 1, _, by omega, rfl, rfl, by go_num, by trivial⟩
            case measure => simp [intOf]; omega
        · obtain rfl : j = 2 := by omega
          have ij : ¬ ((2 : Nat) : Int) < 2 := by omega
          by_cases hv : 255 < v
          · go_wp2_with fail
            try simp only [Exit.inBlock, Exit.then]
            refine bodyPost_ret (results_tmp4 rfl _ _ _) rfl ?_
            exact UqP.err (Below.refl _ _)
          · go_wp2_with fail
            try simp only [Exit.inBlock, Exit.then]
            refine bodyPost_ret (results_tmp4 rfl _ _ _) rfl ?_
            exact UqP.ok (Below.refl _ _) (by rw [List.length_drop, HTL.out]; omega) (fun e => by cases e)
  · clear z48 z49 z50 z51 z52 z53 z54 z55
    have m0 : ((c.toNat : Int) == 97) = false := eqF (by omega)
    have m1 : ((c.toNat : Int) == 98) = false := eqF (by omega)
    have m2 : ((c.toNat : Int) == 102) = false := eqF (by omega)
    have m3 : ((c.toNat : Int) == 110) = false := eqF (by omega)
    have m4 : ((c.toNat : Int) == 114) = false := eqF (by omega)
    have m5 : ((c.toNat : Int) == 116) = false := eqF (by omega)
    have m6 : ((c.toNat : Int) == 118) = false := eqF (by omega)
    have m7 : ((c.toNat : Int) == 120) = false := eqF (by omega)
    have m8 : ((c.toNat : Int) == 117) = false := eqF (by omega)
    have m9 : ((c.toNat : Int) == 85) = false := eqF (by omega)
    have m10 : ((c.toNat : Int) == 48) = false := eqF (by omega)
    have m11 : ((c.toNat : Int) == 49) = false := eqF (by omega)
    have m12 : ((c.toNat : Int) == 50) = false := eqF (by omega)
    have m13 : ((c.toNat : Int) == 51) = true := eqT (by omega)
    have m14 : ((c.toNat : Int) == 52) = false := eqF (by omega)
    have m15 : ((c.toNat : Int) == 53) = false := eqF (by omega)
    have m16 : ((c.toNat : Int) == 54) = false := eqF (by omega)
    have m17 : ((c.toNat : Int) == 55) = false := eqF (by omega)
    have m18 : ((c.toNat : Int) == 92) = false := eqF (by omega)
    have m19 : ((c.toNat : Int) == 39) = false := eqF (by omega)
    have m20 : ((c.toNat : Int) == 34) = false := eqF (by omega)
    clear hq h92 hb0 hc1 hc hT
    by_cases hn : T.length < 2
    · have in0 : (T.length : Int) < 2 := by omega
      go_enter Tryd.func57, Tryd.ntmps57
      go_wp2_with fail
      try simp only [Exit.inBlock, Exit.then]
      refine bodyPost_ret (results_tmp4 rfl _ _ _) rfl ?_
      exact UqP.err (Below.refl _ _)
    · have in0 : ¬ (T.length : Int) < 2 := by omega
      have in1 : (2 : Int) ≤ (T.length : Int) := by omega
      have exT := extract_drop T 2
      go_enter Tryd.func57, Tryd.ntmps57
      go_wp2_with fail
      go_loopw [7, 17, 18] (fun s7 s17 s18 wr => ∃ (j : Nat) (v : Int), j ≤ 2 ∧ s7 = .nilIface ∧ s17 = .int .i32 v ∧ s18 = .int .i64 j ∧ w = wr) (fun _ _ s18 _ => 2 - (intOf s18).toNat)
      case atStart => exact ⟨0, _, by omega, rfl, rfl, rfl, by trivial⟩
      case round =>
        obtain ⟨j, v, hj, rfl, rfl, rfl, hw⟩ := hrel
        subst hw
        by_cases hlt : j < 2
        · have jt : j < T.length := by omega
          have ij : (j : Int) < 2 := by omega
          have ij2 : (j : Int) < (T.length : Int) := by omega
          have hxj := str_at jt
          obtain ⟨x, hxx⟩ : ∃ x, T[j] = x := ⟨_, rfl⟩
          rw [hxx] at hxj
          have hx8 := toNat8 x
          have ewx := wrap32 (x := (x.toNat : Int)) (by omega) (by omega)
          have ewx2 := wrap32 (x := (x.toNat : Int) - 48) (by omega) (by omega)
          by_cases ha : (x.toNat : Int) - 48 < 0
          · go_wp2_with fail
            try simp only [Exit.inBlock, Exit.then]
            refine bodyPost_ret (results_tmp4 rfl _ _ _) rfl ?_
            exact UqP.err (Below.refl _ _)
          by_cases hz : 7 < (x.toNat : Int) - 48
          · go_wp2_with fail
            try simp only [Exit.inBlock, Exit.then]
            refine bodyPost_ret (results_tmp4 rfl _ _ _) rfl ?_
            exact UqP.err (Below.refl _ _)
          · go_wp2_with fail
            go_roundw
            case rel => exact ⟨j + 1, _, by omega, rfl, rfl, by go_num, by trivial⟩
            case measure => simp [intOf]; omega
        · obtain rfl : j = 2 := by omega
          have ij : ¬ ((2 : Nat) : Int) < 2 := by omega
          by_cases hv : 255 < v
          · go_wp2_with fail
            try simp only [Exit.inBlock, Exit.then]
            refine bodyPost_ret (results_tmp4 rfl _ _ _) rfl ?_
            exact UqP.err (Below.refl _ _)
          · go_wp2_with fail
            try simp only [Exit.inBlock, Exit.then]
            refine bodyPost_ret (results_tmp4 rfl _ _ _) rfl ?_
            exact UqP.ok (Below.refl _ _) (by rw [List.length_drop, HTL.out]; omega) (fun e => by cases e)
  · clear z48 z49 z50 z51 z52 z53 z54 z55
    have m0 : ((c.toNat : Int) == 97) = false := eqF (by omega)
    have m1 : ((c.toNat : Int) == 98) = false := eqF (by omega)
    have m2 : ((c.toNat : Int) == 102) = false := eqF (by omega)
    have m3 : ((c.toNat : Int) == 110) = false := eqF (by omega)
    have m4 : ((c.toNat : Int) == 114) = false := eqF (by omega)
    have m5 : ((c.toNat : Int) == 116) = false := eqF (by omega)
    have m6 : ((c.toNat : Int) == 118) = false := eqF (by omega)
    have m7 : ((c.toNat : Int) == 120) = false := eqF (by omega)
    have m8 : ((c.toNat : Int) == 117) = false := eqF (by omega)
    have m9 : ((c.toNat : Int) == 85) = false := eqF (by omega)
    have m10 : ((c.toNat : Int) == 48) = false := eqF (by omega)
    have m11 : ((c.toNat : Int) == 49) = false := eqF (by omega)
    have m12 : ((c.toNat : Int) == 50) = false := eqF (by omega)
    have m13 : ((c.toNat : Int) == 51) = false := eqF (by omega)
    have m14 : ((c.toNat : Int) == 52) = true := eqT (by omega)
    have m15 : ((c.toNat : Int) == 53) = false := eqF (by omega)
    have m16 : ((c.toNat : Int) == 54) = false := eqF (by omega)
    have m17 : ((c.toNat : Int) == 55) = false := eqF (by omega)
    have m18 : ((c.toNat : Int) == 92) = false := eqF (by omega)
    have m19 : ((c.toNat : Int) == 39) = false := eqF (by omega)
    have m20 : ((c.toNat : Int) == 34) = false := eqF (by omega)
    clear hq h92 hb0 hc1 hc hT
    by_cases hn : T.length < 2
    · have in0 : (T.length : Int) < 2 := by omega
      go_enter Tryd.func57, Tryd.ntmps57
      go_wp2_with fail
      try simp only [Exit.inBlock, Exit.then]
      refine bodyPost_ret (results_tmp4 rfl _ _ _) rfl ?_
      exact UqP.err (Below.refl _ _)
    · have in0 : ¬ (T.length : Int) < 2 := by omega
      have in1 : (2 : Int) ≤ (T.length : Int) := by omega
      have exT := extract_drop T 2
      go_enter Tryd.func57, Tryd.ntmps57
      go_wp2_with fail
      go_loopw [7, 17, 18] (fun s7 s17 s18 wr => ∃ (j : Nat) (v : Int), j ≤ 2 ∧ s7 = .nilIface ∧ s17 = .int .i32 v ∧ s18 = .int .i64 j ∧ w = wr) (fun _ _ s18 _ => 2 - (intOf s18).toNat)
      case atStart => exact ⟨0, _, by omega, rfl, rfl, rfl, by trivial⟩
      case round =>
        obtain ⟨j, v, hj, rfl, rfl, rfl, hw⟩ := hrel
        subst hw
        by_cases hlt : j < 2
        · have jt : j < T.length := by omega
          have ij : (j : Int) < 2 := by omega
          have ij2 : (j : Int) < (T.length : Int) := by omega
          have hxj := str_at jt
          obtain ⟨x, hxx⟩ : ∃ x, T[j] = x := ⟨_, rfl⟩
          rw [hxx] at hxj
          have hx8 := toNat8 x
          have ewx := wrap32 (x := (x.toNat : Int)) (by omega) (by omega)
          have ewx2 := wrap32 (x := (x.toNat : Int) - 48) (by omega) (by omega)
          by_cases ha : (x.toNat : Int) - 48 < 0
          · go_wp2_with fail
            try simp only [Exit.inBlock, Exit.then]
            refine bodyPost_ret (results_tmp4 rfl _ _ _) rfl ?_
            exact UqP.err (Below.refl _ _)
          by_cases hz : 7 < (x.toNat : Int) - 48
          · go_wp2_with fail
            try simp only [Exit.inBlock, Exit.then]
            refine bodyPost_ret (results_tmp4 rfl _ _ _) rfl ?_
            exact UqP.err (Below.refl _ _)
          · go_wp2_with fail
            go_roundw
            case rel => exact ⟨j + 1, _, by omega, rfl, rfl, by go_num, by trivial⟩
            case measure => simp [intOf]; omega
        · obtain rfl : j = 2 := by omega
          have ij : ¬ ((2 : Nat) : Int) < 2 := by omega
          by_cases hv : 255 < v
          · go_wp2_with fail
            try simp only [Exit.inBlock, Exit.then]
            refine bodyPost_ret (results_tmp4 rfl _ _ _) rfl ?_
            exact UqP.err (Below.refl _ _)
          · go_wp2_with fail
            try simp only [Exit.inBlock, Exit.then]
            refine bodyPost_ret (results_tmp4 rfl _ _ _) rfl ?_
            exact UqP.ok (Below.refl _ _) (by rw [List.length_drop, HTL.out]; omega) (fun e => by cases e)
  · clear z48 z49 z50 z51 z52 z53 z54 z55
    have m0 : ((c.toNat : Int) == 97) = false := eqF (by omega)
    have m1 : ((c.toNat : Int) == 98) = false := eqF (by omega)
    have m2 : ((c.toNat : Int) == 102) = false := eqF (by omega)
    have m3 : ((c.toNat : Int) == 110) = false := eqF (by omega)
    have m4 : ((c.toNat : Int) == 114) = false := eqF (by omega)
    have m5 : ((c.toNat : Int) == 116) = false := eqF (by omega)
    have m6 : ((c.toNat : Int) == 118) = false := eqF (by omega)
    have m7 : ((c.toNat : Int) == 120) = false := eqF (by omega)
    have m8 : ((c.toNat : Int) == 117) = false := eqF (by omega)
    have m9 : ((c.toNat : Int) == 85) = false := eqF (by omega)
    have m10 : ((c.toNat : Int) == 48) = false := eqF (by omega)
    have m11 : ((c.toNat : Int) == 49) = false := eqF (by omega)
    have m12 : ((c.toNat : Int) == 50) = false := eqF (by omega)
    have m13 : ((c.toNat : Int) == 51) = false := eqF (by omega)
    have m14 : ((c.toNat : Int) == 52) = false := eqF (by omega)
    have m15 : ((c.toNat : Int) == 53) = true := eqT (by omega)
    have m16 : ((c.toNat : Int) == 54) = false := eqF (by omega)
    have m17 : ((c.toNat : Int) == 55) = false := eqF (by omega)
    have m18 : ((c.toNat : Int) == 92) = false := eqF (by omega)
    have m19 : ((c.toNat : Int) == 39) = false := eqF (by omega)
    have m20 : ((c.toNat : Int) == 34) = false := eqF (by omega)
    clear hq h92 hb0 hc1 hc hT
    by_cases hn : T.length < 2
    · have in0 : (T.length : Int) < 2 := by omega
      go_enter Tryd.func57, Tryd.ntmps57
      go_wp2_with fail
      try simp only [Exit.inBlock, Exit.then]
      refine bodyPost_ret (results_tmp4 rfl _ _ _) rfl ?_
      exact UqP.err (Below.refl _ _)
    · have in0 : ¬ (T.length : Int) < 2 := by omega
      have in1 : (2 : Int) ≤ (T.length : Int) := by omega
      have exT := extract_drop T 2
      go_enter Tryd.func57, Tryd.ntmps57
      go_wp2_with fail
      go_loopw [7, 17, 18] (fun s7 s17 s18 wr => ∃ (j : Nat) (v : Int), j ≤ 2 ∧ s7 = .nilIface ∧ s17 = .int .i32 v ∧ s18 = .int .i64 j ∧ w = wr) (fun _ _ s18 _ => 2 - (intOf s18).toNat)
      case atStart => exact ⟨0, _, by omega, rfl, rfl, rfl, by trivial⟩
      case round =>
        obtain ⟨j, v, hj, rfl, rfl, rfl, hw⟩ := hrel
        subst hw
        by_cases hlt : j < 2
        · have jt : j < T.length := by omega
          have ij : (j : Int) < 2 := by omega
          have ij2 : (j : Int) < (T.length : Int) := by omega
          have hxj := str_at jt
          obtain ⟨x, hxx⟩ : ∃ x, T[j] = x := ⟨_, rfl⟩
          rw [hxx] at hxj
          have hx8 := toNat8 x
          have ewx := wrap32 (x := (x.toNat : Int)) (by omega) (by omega)
          have ewx2 := wrap32 (x := (x.toNat : Int) - 48) (by omega) (by omega)
          by_cases ha : (x.toNat : Int) - 48 < 0
          · go_wp2_with fail
            try simp only [Exit.inBlock, Exit.then]
            refine bodyPost_ret (results_tmp4 rfl _ _ _) rfl ?_
            exact UqP.err (Below.refl _ _)
          by_cases hz : 7 < (x.toNat : Int) - 48
          · go_wp2_with fail
            try simp only [Exit.inBlock, Exit.then]
            refine bodyPost_ret (results_tmp4 rfl _ _ _) rfl ?_
            exact UqP.err (Below.refl _ _)
          · go_wp2_with fail
            go_roundw
            case rel => exact ⟨j + 1, _, by omega, rfl, rfl, by go_num, by trivial⟩
            case measure => simp [intOf]; omega
        · obtain rfl : j = 2 := by omega
          have ij : ¬ ((2 : Nat) : Int) < 2 := by omega
          by_cases hv : 255 < v
          · go_wp2_with fail
            try simp only [Exit.inBlock, Exit.then]
            refine bodyPost_ret (results_tmp4 rfl _ _ _) rfl ?_
            exact UqP.err (Below.refl _ _)
          · go_wp2_with fail
            try simp only [Exit.inBlock, Exit.then]
            refine bodyPost_ret (results_tmp4 rfl _ _ _) rfl ?_
            exact UqP.ok (Below.refl _ _) (by rw [List.length_drop, HTL.out]; omega) (fun e => by cases e)
  · clear z48 z49 z50 z51 z52 z53 z54 z55
    have m0 : ((c.toNat : Int) == 97) = false := eqF (by omega)
    have m1 : ((c.toNat : Int) == 98) = false := eqF (by omega)
    have m2 : ((c.toNat : Int) == 102) = false := eqF (by omega)
    have m3 : ((c.toNat : Int) == 110) = false := eqF (by omega)
    have m4 : ((c.toNat : Int) == 114) = false := eqF (by omega)
    have m5 : ((c.toNat : Int) == 116) = false := eqF (by omega)
    have m6 : ((c.toNat : Int) == 118) = false := eqF (by omega)
    have m7 : ((c.toNat : Int) == 120) = false := eqF (by omega)
    have m8 : ((c.toNat : Int) == 117) = false := eqF (by omega)
    have m9 : ((c.toNat : Int) == 85) = false := eqF (by omega)
    have m10 : ((c.toNat : Int) == 48) = false := eqF (by omega)
    have m11 : ((c.toNat : Int) == 49) = false := eqF (by omega)
    have m12 : ((c.toNat : Int) == 50) = false := eqF (by omega)
    have m13 : ((c.toNat : Int) == 51) = false := eqF (by omega)
    have m14 : ((c.toNat : Int) == 52) = false := eqF (by omega)
    have m15 : ((c.toNat : Int) == 53) = false := eqF (by omega)
    have m16 : ((c.toNat : Int) == 54) = true := eqT (by omega)
    have m17 : ((c.toNat : Int) == 55) = false := eqF (by omega)
    have m18 : ((c.toNat : Int) == 92) = false := eqF (by omega)
    have m19 : ((c.toNat : Int) == 39) = false := eqF (by omega)
    have m20 : ((c.toNat : Int) == 34) = false := eqF (by omega)
    clear hq h92 hb0 hc1 hc hT
    by_cases hn : T.length < 2
    · have in0 : (T.length : Int) < 2 := by omega
      go_enter Tryd.func57, Tryd.ntmps57
      go_wp2_with fail
      try simp only [Exit.inBlock, Exit.then]
      refine bodyPost_ret (results_tmp4 rfl _ _ _) rfl ?_
      exact UqP.err (Below.refl _ _)
    · have in0 : ¬ (T.length : Int) < 2 := by omega
      have in1 : (2 : Int) ≤ (T.length : Int) := by omega
      have exT := extract_drop T 2
      go_enter Tryd.func57, Tryd.ntmps57
      go_wp2_with fail
      go_loopw [7, 17, 18] (fun s7 s17 s18 wr => ∃ (j : Nat) (v : Int), j ≤ 2 ∧ s7 = .nilIface ∧ s17 = .int .i32 v ∧ s18 = .int .i64 j ∧ w = wr) (fun _ _ s18 _ => 2 - (intOf s18).toNat)
      case atStart => exact ⟨0, _, by omega, rfl, rfl, rfl, by trivial⟩
      case round =>
        obtain ⟨j, v, hj, rfl, rfl, rfl, hw⟩ := hrel
        subst hw
        by_cases hlt : j < 2
        · have jt : j < T.length := by omega
          have ij : (j : Int) < 2 := by omega
          have ij2 : (j : Int) < (T.length : Int) := by omega
          have hxj := str_at jt
          obtain ⟨x, hxx⟩ : ∃ x, T[j] = x := ⟨_, rfl⟩
          rw [hxx] at hxj
          have hx8 := toNat8 x
          have ewx := wrap32 (x := (x.toNat : Int)) (by omega) (by omega)
          have ewx2 := wrap32 (x := (x.toNat : Int) - 48) (by omega) (by omega)
          by_cases ha : (x.toNat : Int) - 48 < 0
          · go_wp2_with fail
            try simp only [Exit.inBlock, Exit.then]
            refine bodyPost_ret (results_tmp4 rfl _ _ _) rfl ?_
            exact UqP.err (Below.refl _ _)
          by_cases hz : 7 < (x.toNat : Int) - 48
          · go_wp2_with fail
            try simp only [Exit.inBlock, Exit.then]
            refine bodyPost_ret (results_tmp4 rfl _ _ _) rfl ?_
            exact UqP.err (Below.refl _ _)
          · go_wp2_with fail
            go_roundw
            case rel => exact ⟨j + 1, _, by omega, rfl, rfl, by go_num, by trivial⟩
            case measure => simp [intOf]; omega
        · obtain rfl : j = 2 := by omega
          have ij : ¬ ((2 : Nat) : Int) < 2 := by omega
          by_cases hv : 255 < v
          · go_wp2_with fail
            try simp only [Exit.inBlock, Exit.then]
            refine bodyPost_ret (results_tmp4 rfl _ _ _) rfl ?_
            exact UqP.err (Below.refl _ _)
          · go_wp2_with fail
            try simp only [Exit.inBlock, Exit.then]
            refine bodyPost_ret (results_tmp4 rfl _ _ _) rfl ?_
            exact UqP.ok (Below.refl _ _) (by rw [List.length_drop, HTL.out]; omega) (fun e => by cases e)
  · clear z48 z49 z50 z51 z52 z53 z54 z55
    have m0 : ((c.toNat : Int) == 97) = false := eqF (by omega)
    have m1 : ((c.toNat : Int) == 98) = false := eqF (by omega)
    have m2 : ((c.toNat : Int) == 102) = false := eqF (by omega)
    have m3 : ((c.toNat : Int) == 110) = false := eqF (by omega)
    have m4 : ((c.toNat : Int) == 114) = false := eqF (by omega)
    have m5 : ((c.toNat : Int) == 116) = false := eqF (by omega)
    have m6 : ((c.toNat : Int) == 118) = false := eqF (by omega)
    have m7 : ((c.toNat : Int) == 120) = false := eqF (by omega)
    have m8 : ((c.toNat : Int) == 117) = false := eqF (by omega)
    have m9 : ((c.toNat : Int) == 85) = false := eqF (by omega)
    have m10 : ((c.toNat : Int) == 48) = false := eqF (by omega)
    have m11 : ((c.toNat : Int) == 49) = false := eqF (by omega)
    have m12 : ((c.toNat : Int) == 50) = false := eqF (by omega)
    have m13 : ((c.toNat : Int) == 51) = false := eqF (by omega)
    have m14 : ((c.toNat : Int) == 52) = false := eqF (by omega)
    have m15 : ((c.toNat : Int) == 53) = false := eqF (by omega)
    have m16 : ((c.toNat : Int) == 54) = false := eqF (by omega)
    have m17 : ((c.toNat : Int) == 55) = true := eqT (by omega)
    have m18 : ((c.toNat : Int) == 92) = false := eqF (by omega)
    have m19 : ((c.toNat : Int) == 39) = false := eqF (by omega)
    have m20 : ((c.toNat : Int) == 34) = false := eqF (by omega)
    clear hq h92 hb0 hc1 hc hT
    by_cases hn : T.length < 2
    · have in0 : (T.length : Int) < 2 := by omega
      go_enter Tryd.func57, Tryd.ntmps57
      go_wp2_with fail
      try simp only [Exit.inBlock, Exit.then]
      refine bodyPost_ret (results_tmp4 rfl _ _ _) rfl ?_
      exact UqP.err (Below.refl _ _)
    · have in0 : ¬ (T.length : Int) < 2 := by omega
      have in1 : (2 : Int) ≤ (T.length : Int) := by omega
      have exT := extract_drop T 2
      go_enter Tryd.func57, Tryd.ntmps57
      go_wp2_with fail
      go_loopw [7, 17, 18] (fun s7 s17 s18 wr => ∃ (j : Nat) (v : Int), j ≤ 2 ∧ s7 = .nilIface ∧ s17 = .int .i32 v ∧ s18 = .int .i64 j ∧ w = wr) (fun _ _ s18 _ => 2 - (intOf s18).toNat)
      case atStart => exact ⟨0, _, by omega, rfl, rfl, rfl, by trivial⟩
      case round =>
        obtain ⟨j, v, hj, rfl, rfl, rfl, hw⟩ := hrel
        subst hw
        by_cases hlt : j < 2
        · have jt : j < T.length := by omega
          have ij : (j : Int) < 2 := by omega
          have ij2 : (j : Int) < (T.length : Int) := by omega
          have hxj := str_at jt
          obtain ⟨x, hxx⟩ : ∃ x, T[j] = x := ⟨_, rfl⟩
          rw [hxx] at hxj
          have hx8 := toNat8 x
          have ewx := wrap32 (x := (x.toNat : Int)) (by omega) (by omega)
          have ewx2 := wrap32 (x := (x.toNat : Int) - 48) (by omega) (by omega)
          by_cases ha : (x.toNat : Int) - 48 < 0
          · go_wp2_with fail
            try simp only [Exit.inBlock, Exit.then]
            refine bodyPost_ret (results_tmp4 rfl _ _ _) rfl ?_
            exact UqP.err (Below.refl _ _)
          by_cases hz : 7 < (x.toNat : Int) - 48
          · go_wp2_with fail
            try simp only [Exit.inBlock, Exit.then]
            refine bodyPost_ret (results_tmp4 rfl _ _ _) rfl ?_
            exact UqP.err (Below.refl _ _)
          · go_wp2_with fail
            go_roundw
            case rel => exact ⟨j + 1, _, by omega, rfl, rfl, by go_num, by trivial⟩
            case measure => simp [intOf]; omega
        · obtain rfl : j = 2 := by omega
          have ij : ¬ ((2 : Nat) : Int) < 2 := by omega
          by_cases hv : 255 < v
          · go_wp2_with fail
            try simp only [Exit.inBlock, Exit.then]
            refine bodyPost_ret (results_tmp4 rfl _ _ _) rfl ?_
            exact UqP.err (Below.refl _ _)
          · go_wp2_with fail
            try simp only [Exit.inBlock, Exit.then]
            refine bodyPost_ret (results_tmp4 rfl _ _ _) rfl ?_
            exact UqP.ok (Below.refl _ _) (by rw [List.length_drop, HTL.out]; omega) (fun e => by cases e)

def hexTo (m k : Nat) : Nat → Nat
  | 0 => 0
  | 1 => m
  | _ => 16 * m + k
theorem hexStep : ∀ m k : Fin 16, bits .or .i32 (Go.RowKit.wrap32 ((m.val : Int) * 16)) (k.val : Int) = ((16 * m.val + k.val : Nat) : Int) ∧ bits .or .i32 (Go.RowKit.wrap32 (((0 : Nat) : Int) * 16)) (m.val : Int) = ((m.val : Nat) : Int) := by decide +kernel

set_option maxRecDepth 100000 in
set_option maxHeartbeats 8000000 in
theorem uqHexX (l T : List UInt8) (b c q : UInt8) (w : World) (hl : l.length ≤ 1000000) (h1 : 1 < l.length) (hb0 : l[0] = b) (hc1 : l[1] = c) (hT : l.drop 2 = T) (hq : b ≠ q) (h92 : b.toNat = 92) (hc : c.toNat = 120) (hL : LaidOK w) (m k : Nat) (R : List UInt8) (hm : m < 16) (hk : k < 16) (hTm : T = hexC m :: hexC k :: R) :
    Calls Tryd.prog 57 #[.string ⟨l.toArray⟩, .int .u8 (q.toNat : Int)] w (OneB (.tuple #[.int .i32 ((16 * m + k : Nat) : Int), .bool false, .string ⟨R.toArray⟩, .nilIface]) w) := by
  have hsz := size_mk l
  have i0 : (0 : Int) < (l.length : Int) := by omega
  have j0 : ((l.length : Int) == 0) = false := eqF (by omega)
  have hx := str_at (show 0 < l.length by omega)
  rw [hb0] at hx
  have hx1 := str_at h1
  rw [hc1] at hx1
  have kq : ((b.toNat : Int) == (q.toNat : Int)) = false := eqF (fun e => hq (UInt8.toNat_inj.1 (by omega)))
  have k1 : ¬ (128 : Int) ≤ (b.toNat : Int) := by omega
  have k2 : ((b.toNat : Int) != 92) = false := neF (by omega)
  have k3 : ¬ (l.length : Int) ≤ 1 := by omega
  have k4 : (1 : Int) < (l.length : Int) := by omega
  have k5 : (2 : Int) ≤ (l.length : Int) := by omega
  have ex := extract_drop l 2
  rw [hT] at ex
  have HTL := Lib.hid (show T.length = l.length - 2 from by rw [← hT, List.length_drop])
  have hszT := size_mk T
  have h8 := toNat8 c
  have m0 : ((c.toNat : Int) == 97) = false := eqF (by omega)
  have m1 : ((c.toNat : Int) == 98) = false := eqF (by omega)
  have m2 : ((c.toNat : Int) == 102) = false := eqF (by omega)
  have m3 : ((c.toNat : Int) == 110) = false := eqF (by omega)
  have m4 : ((c.toNat : Int) == 114) = false := eqF (by omega)
  have m5 : ((c.toNat : Int) == 116) = false := eqF (by omega)
  have m6 : ((c.toNat : Int) == 118) = false := eqF (by omega)
  have m7 : ((c.toNat : Int) == 120) = true := eqT (by omega)
  have m8 : ((c.toNat : Int) == 117) = false := eqF (by omega)
  have m9 : ((c.toNat : Int) == 85) = false := eqF (by omega)
  have m10 : ((c.toNat : Int) == 48) = false := eqF (by omega)
  have m11 : ((c.toNat : Int) == 49) = false := eqF (by omega)
  have m12 : ((c.toNat : Int) == 50) = false := eqF (by omega)
  have m13 : ((c.toNat : Int) == 51) = false := eqF (by omega)
  have m14 : ((c.toNat : Int) == 52) = false := eqF (by omega)
  have m15 : ((c.toNat : Int) == 53) = false := eqF (by omega)
  have m16 : ((c.toNat : Int) == 54) = false := eqF (by omega)
  have m17 : ((c.toNat : Int) == 55) = false := eqF (by omega)
  have m18 : ((c.toNat : Int) == 92) = false := eqF (by omega)
  have m19 : ((c.toNat : Int) == 39) = false := eqF (by omega)
  have m20 : ((c.toNat : Int) == 34) = false := eqF (by omega)
  have HU0 := Lib.hid (show hexU (hexC m) = some m from hexU_C ⟨m, hm⟩)
  have HU1 := Lib.hid (show hexU (hexC k) = some k from hexU_C ⟨k, hk⟩)
  have hT2 : 2 ≤ T.length := by rw [hTm]; simp
  have exT := extract_drop T 2
  rw [show T.drop 2 = R from by rw [hTm]; rfl] at exT
  have G0 := Lib.hid (show ∀ h : 0 < T.length, T[0] = hexC m from by subst hTm; intro _; rfl)
  have G1 := Lib.hid (show ∀ h : 1 < T.length, T[1] = hexC k from by subst hTm; intro _; rfl)
  have in0 : ¬ (T.length : Int) < 2 := by omega
  have in1 : (2 : Int) ≤ (T.length : Int) := by omega
  clear hq h92 hb0 hc1 hc hT hTm
  go_enter Tryd.func57, Tryd.ntmps57
  go_wp2_with fail
  go_loopw [7, 13, 14] (fun s7 s13 s14 wr => ∃ (j : Nat), j ≤ 2 ∧ s7 = .nilIface ∧ s13 = .int .i32 (hexTo m k j : Nat) ∧ s14 = .int .i64 j ∧ w = wr) (fun _ _ s14 _ => 2 - (intOf s14).toNat)
  case atStart => exact ⟨0, by omega, rfl, rfl, rfl, by trivial⟩
  case round =>
    obtain ⟨j, hj, rfl, rfl, rfl, hw⟩ := hrel
    subst hw
    by_cases hlt : j < 2
    · have jt : j < T.length := by omega
      have ij : (j : Int) < 2 := by omega
      have ij2 : (j : Int) < (T.length : Int) := by omega
      have hxj := str_at jt
      obtain ⟨x, hxx⟩ : ∃ x, T[j] = x := ⟨_, rfl⟩
      rw [hxx] at hxj
      obtain ⟨d, hd16, HD, HS⟩ : ∃ d, d < 16 ∧ Hid (hexU x = some d) ∧ Hid (∀ n, n = bits .or .i32 (Go.RowKit.wrap32 (((hexTo m k j : Nat) : Int) * 16)) (d : Int) → Value.int .i32 n = .int .i32 (hexTo m k (j + 1) : Nat)) := by
        rcases (show j = 0 ∨ j = 1 by omega) with rfl | rfl
        · refine ⟨m, hm, by rw [← hxx, G0.out]; exact HU0.out, fun n hn => ?_⟩
          rw [hn]; exact congrArg (Value.int .i32) (hexStep ⟨m, hm⟩ ⟨k, hk⟩).2
        · refine ⟨k, hk, by rw [← hxx, G1.out]; exact HU1.out, fun n hn => ?_⟩
          rw [hn]; exact congrArg (Value.int .i32) (hexStep ⟨m, hm⟩ ⟨k, hk⟩).1
      have HU := unhex x w
      rw [HD.out] at HU
      have HUH := Lib.hid HU
      clear HU hxx
      generalize hexTo m k j = V at HS ⊢
      go_wp2_with fail
      refine HUH.out.mono ?_
      rintro e w2 ⟨rfl, rfl⟩
      clear HUH
      unfold unhV
      go_wp2_with fail
      go_roundw
      case rel => exact ⟨j + 1, by omega, rfl, HS.out _ rfl, by go_num, by trivial⟩
      case measure => simp [intOf]; omega
    · obtain rfl : j = 2 := by omega
      have ij : ¬ ((2 : Nat) : Int) < 2 := by omega
      have HV := Lib.hid (show ((hexTo m k 2 : Nat) : Int) = ((16 * m + k : Nat) : Int) from rfl)
      generalize hexTo m k 2 = V at HV ⊢
      go_wp2_with fail
      try simp only [Exit.inBlock, Exit.then]
      refine bodyPost_ret (results_tmp4 rfl _ _ _) rfl ?_
      exact quad HV.out (Below.refl _ _)

/-- UnquoteChar ends, at whatever it is given. -/
theorem uqChar (l : List UInt8) (q : UInt8) (w : World) (hl : l.length ≤ 1000000) (h0 : 0 < l.length) (hq : l[0] ≠ q) (hL : LaidOK w) :
    Calls Tryd.prog 57 #[.string ⟨l.toArray⟩, .int .u8 (q.toNat : Int)] w (UqP l.length w) := by
  by_cases h92 : l[0].toNat = 92
  · by_cases h1 : l.length = 1
    · exact uqAlone l l[0] q w h1 (fun _ => rfl) hq h92 hL
    · have h1' : 1 < l.length := by omega
      have h8 := toNat8 l[1]
      by_cases c1 : l[1].toNat = 97 ∨ l[1].toNat = 98 ∨ l[1].toNat = 102 ∨ l[1].toNat = 110 ∨ l[1].toNat = 114 ∨ l[1].toNat = 116 ∨ l[1].toNat = 118 ∨ l[1].toNat = 92
      · exact uqOne l _ _ _ q w hl h1' rfl rfl rfl hq h92 c1 hL
      by_cases c2 : l[1].toNat = 39
      · exact uqQuo39 l _ _ _ q w hl h1' rfl rfl rfl hq h92 c2 hL
      by_cases c3 : l[1].toNat = 34
      · exact uqQuo34 l _ _ _ q w hl h1' rfl rfl rfl hq h92 c3 hL
      by_cases c4 : l[1].toNat = 120
      · exact uqHex120 l _ _ _ q w hl h1' rfl rfl rfl hq h92 c4 hL
      by_cases c5 : l[1].toNat = 117
      · exact uqHex117 l _ _ _ q w hl h1' rfl rfl rfl hq h92 c5 hL
      by_cases c6 : l[1].toNat = 85
      · exact uqHex85 l _ _ _ q w hl h1' rfl rfl rfl hq h92 c6 hL
      by_cases c7 : 48 ≤ l[1].toNat ∧ l[1].toNat ≤ 55
      · exact uqOct l _ _ _ q w hl h1' rfl rfl rfl hq h92 c7 hL
      · exact uqOther l _ _ _ q w hl h1' rfl rfl rfl hq h92 (by omega) hL
  · exact uqPlain l l[0] q w hl h0 rfl hq h92 hL
/-- A byte as it stands in quotes is read. -/
theorem uqExact (c : UInt8) (R : List UInt8) (w : World) (hl : (oneN c ++ R).length ≤ 1000000) (hL : LaidOK w) :
    Calls Tryd.prog 57 #[.string ⟨(oneN c ++ R).toArray⟩, .int .u8 34] w (OneB (.tuple #[.int .i32 (c.toNat : Int), .bool false, .string ⟨R.toArray⟩, .nilIface]) w) := by
  have h8 := toNat8 c
  have e34 : (Value.int .u8 34) = .int .u8 (((34 : UInt8).toNat : Nat) : Int) := rfl
  rw [e34]
  by_cases h1 : c.toNat = 34 ∨ c.toNat = 92
  · have e : oneN c = [92, c] := by unfold oneN; rw [if_pos h1]
    rw [e] at hl ⊢
    rcases h1 with h1 | h1
    · exact uqMark _ R 92 c 34 w hl (by simp) rfl rfl rfl (by decide) (by decide) h1 hL (UInt8.toNat_inj.1 h1)
    · exact uqBack _ R 92 c 34 w hl (by simp) rfl rfl rfl (by decide) (by decide) h1 hL
  · by_cases h2 : c.toNat < 32 ∨ 126 < c.toNat
    · have e : oneN c = [92, 120, hexC (c.toNat / 16), hexC (c.toNat % 16)] := by unfold oneN; rw [if_neg h1, if_pos h2]
      rw [e] at hl ⊢
      have h := uqHexX _ _ 92 120 34 w hl (by simp) rfl rfl rfl (by decide) (by decide) (by decide) hL (c.toNat / 16) (c.toNat % 16) R (by omega) (by omega) rfl
      rw [show 16 * (c.toNat / 16) + c.toNat % 16 = c.toNat by omega] at h
      exact h
    · have e : oneN c = [c] := by unfold oneN; rw [if_neg h1, if_neg h2]
      rw [e] at hl ⊢
      exact uqAscii _ R c 34 w hl (by simp) rfl rfl (fun e => h1 (.inl (by rw [e]; decide))) (fun e => h1 (.inr e)) (by omega)

end Go.Proofs.YtpkpacgmmhjfpaaDoor
