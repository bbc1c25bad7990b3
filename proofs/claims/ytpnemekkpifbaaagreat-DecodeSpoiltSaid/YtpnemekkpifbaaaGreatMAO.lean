/- Several texts in one: CanA, DecA, DecB. -/
import Derived.Test.YtpnemekkpifbaaaGreatMAN
import Derived.Test.YtpnemekkpifbaaaGreatMAK
import Derived.Lib.AppendStr
import Derived.Laws.OwnMore
import Derived.Test.YtpnemekkpifbaaaGreatMAL
import Derived.BigQuiet
namespace Go.Proofs.YtpnemekkpifbaaaGreat

section
open Go.RowKit

theorem u64_id {n : Nat} (h : n < 18446744073709551616) : IntKind.u64.wrap (n : Int) = (n : Int) := by simp [IntKind.wrap, IntKind.bits, IntKind.signed]; omega
theorem u64_byZ (z : Int) : ∃ m : Nat, IntKind.u64.wrap z = (m : Int) ∧ byZ z = enc m ∧ m < 18446744073709551616 := by
  refine ⟨(z % 18446744073709551616).toNat, ?_, rfl, by omega⟩
  rw [IntKind.wrap_u64]
  omega

set_option maxHeartbeats 1000000 in
theorem refString14 (xs : List UInt8) (w : World) (hx : xs.length ≤ 1000) :
    Calls Tryz.prog 25 #[.string ⟨xs.toArray⟩] w (MadeB (byS xs) w) := by
  obtain ⟨i0, hi0, hz0, hz1, hz2⟩ := info_parts infoB
  have hs : (ByteArray.mk xs.toArray).size = xs.length := by show xs.toArray.size = _; simp
  have HR := Lib.hid (refNumber xs.length xs.length w (Nat.le_refl _) (by omega))
  have HSI := Lib.hid (u64_id (n := xs.length) (by omega))
  have ht := enc_ten (n := xs.length) (by omega)
  have HX := Lib.hid hx
  clear hx
  go_enter Tryz.func25, Tryz.ntmps25
  go_wp2_with fail
  rw [HSI.out]
  refine HR.out.mono ?_
  rintro e w1 ⟨⟨A, c, rfl, ho⟩, hb⟩
  have HO := Lib.hid ho
  have HB := Lib.hid hb
  clear ho hb HR
  go_wp2_with (at_builtin; refine Lib.wpList_append_own_string (w := w1) rfl (.tmp 6) (.tmp 7) 22 9 rfl w.heap.size 5 i0 Tryz.underlying22 Tryz.underlying9 hi0 hz0 hz1 hz2 _ _ _ rfl HO.out ⟨xs.toArray⟩ rfl (by rw [hs]; simp [maxLen]; have := HX.out; omega) (by rw [hs]; have := HX.out; omega) HB.out.size ?_; intro v1 w2 hown1 hg1 hat1)
  go_ret
  rw [strCells_bytes, hs] at hown1
  unfold byS
  refine MadeB.of (by rw [List.length_append]; simpa [cellsOf] using hown1) (HB.out.grown hg1 HB.out.size (fun k hk => ?_))
  exact ((HO.out.lt k hk).1)

/-- The region in which a dot is written. -/
def dotsX (E W0 : World) (D : Value) (acc : List UInt8) (b off len cap i : Nat) (r c : Int) (mr mc : Nat) : Rb where
  E := E
  W0 := W0
  n := 33
  D := D
  acc := acc
  m := some 0
  s := 3
  rows := [⟨0, 15, acc, some 8⟩, ⟨7, 22, enc mr, none⟩, ⟨8, 23, acc ++ enc mr, some 16⟩, ⟨15, 30, enc mc, none⟩, ⟨16, 31, (acc ++ enc mr) ++ enc mc, some 17⟩, ⟨17, 3, (acc ++ enc mr) ++ enc mc, none⟩]
  known := fun
    | 1 => some (.slice (some ⟨b, off, none⟩) len cap)
    | 2 => some (.int .i64 (i : Int))
    | 3 => some (.pointer (some ⟨b, off + i * 2, none⟩))
    | 4 => some (.pointer (some ⟨b, off + i * 2, none⟩))
    | 5 => some (.int .i64 r)
    | 6 => some (.int .u64 (mr : Int))
    | 9 => some (.slice (some ⟨b, off, none⟩) len cap)
    | 10 => some (.int .i64 (i : Int))
    | 11 => some (.pointer (some ⟨b, off + i * 2, none⟩))
    | 12 => some (.pointer (some ⟨b, off + i * 2 + 1, none⟩))
    | 13 => some (.int .i64 c)
    | 14 => some (.int .u64 (mc : Int))
    | _ => none

set_option maxRecDepth 100000 in
set_option maxHeartbeats 4000000 in
theorem refDots14 (A : Option Addr) (l : List (Int × Int)) (cap : Nat) (w : World) (hx : DotsAt w A l) (hm : l.length ≤ 1000) :
    Calls Tryz.prog 26 #[.slice A l.length cap] w (MadeB (byL byD l) w) := by
  have HX := Lib.hid hx
  have HR := Lib.hid (refNumber l.length l.length w (Nat.le_refl _) (by omega))
  have HN := Lib.hid fun (n : Nat) (W : World) (h : n < 18446744073709551616) => refNumber n n W (Nat.le_refl _) h
  clear hx
  go_enter Tryz.func26, Tryz.ntmps26
  go_wp2_with fail
  refine HR.out.mono ?_
  rintro e w1 ⟨⟨A1, c1, rfl, ho⟩, hb⟩
  have HO1 := Lib.hid (show RowB w1 w.heap.size (.slice A1 (enc l.length).length c1) (enc l.length ++ (l.take 0).flatMap byD) from by simpa using ho)
  have HB1 := Lib.hid hb
  clear ho hb HR
  go_wp2_with fail
  go_loopw [3, 4] (fun v i wr => ∃ k : Nat, k ≤ l.length ∧ i = .int .i64 k ∧ Hid (RowB wr w.heap.size v (enc l.length ++ (l.take k).flatMap byD)) ∧ Hid (Below w.heap.size w wr)) (fun _ i _ => l.length - (intOf i).toNat)
  case atStart => exact ⟨0, by omega, rfl, HO1, HB1⟩
  case round =>
    clear HO1 HB1
    obtain ⟨k, hk, rfl, HO, HB⟩ := hrel
    by_cases hlt : k < l.length
    · have i0 : (k : Int) < (l.length : Int) := by omega
      obtain ⟨b, off, r, c, rfl, hbl, hx1, hc0, hc1⟩ := HX.out.dot (j := k) hlt
      have HCELL := Lib.hid fun (W : World) (hW : Below w.heap.size w W) => (show W.cell? ⟨b, off + k * 2, none⟩ = some (.int .i64 r) ∧ W.cell? ⟨b, off + k * 2 + 1, none⟩ = some (.int .i64 c) from ⟨(hW.cell (p := ⟨b, off + k * 2, none⟩) hbl).trans hc0, (hW.cell (p := ⟨b, off + k * 2 + 1, none⟩) hbl).trans hc1⟩)
      obtain ⟨mr, hwr, hbr, hmr⟩ := u64_byZ r
      obtain ⟨mc, hwc, hbc, hmc⟩ := u64_byZ c
      have HMR := Lib.hid hwr
      have HMC := Lib.hid hwc
      have HSTEP := Lib.hid (show enc l.length ++ (l.take (k + 1)).flatMap byD = ((enc l.length ++ (l.take k).flatMap byD) ++ enc mr) ++ enc mc from by rw [take_snoc hx1, List.flatMap_append]; simp [byD, hbr, hbc])
      have hal : (enc l.length ++ (l.take k).flatMap byD).length ≤ 100000 := by
        have h1 := enc_ten (n := l.length) (by omega)
        have h2 := flat_le (f := byD) (k := 20) (l := l.take k) fun d _ => byD_le d
        rw [List.length_take] at h2
        rw [List.length_append]
        omega
      have h10 := enc_ten hmr
      have h11 := enc_ten hmc
      clear hwr hwc hbr hbc hc0 hc1 hx1
      generalize enc l.length ++ (l.take k).flatMap byD = acc at HO HSTEP hal
      obtain ⟨D, d, rfl, _, _, _⟩ := SlAt.of_own encB_len HO.out
      go_upto_region 5 with fail
      have HINJ := Lib.hid (show ∀ q ∈ (dotsX w wr (.slice D acc.length d) acc b off l.length cap k r c mr mc).rows, ∀ q' ∈ (dotsX w wr (.slice D acc.length d) acc b off l.length cap k r c mr mc).rows, q.j = q'.j → q = q' from inj_of (show ([0, 7, 8, 15, 16, 17] : List Nat).Nodup from by decide))
      refine wp_region_T (S := Rb.S (dotsX w wr (.slice D acc.length d) acc b off l.length cap k r c mr mc)) (by kernel_rfl) (by kernel_rfl) (by kernel_rfl) (dst_small (n := 33) (by kernel_rfl)) (Rb.G.start HB.out rfl (by rfl) (fun _ _ => ⟨by rfl, HO.out⟩)) ?_ ?_
      · refine ⟨?_, ?_, ?_, ?_, ?_, ?_, ?_, ?_, ?_, ?_, ?_, ?_, ?_, ?_, ?_, ?_, ?_, ?_, trivial⟩
        · exact stepMove (r0 := ⟨0, 15, acc, some 8⟩) HINJ.out (by simp [dotsX]) rfl rfl rfl rfl rfl (by kernel_rfl) (show 15 < 33 from by decide) rfl rfl rfl rfl
        · refine stepPure rfl rfl (by kernel_rfl) (by kernel_rfl) (by kernel_rfl) (by kernel_rfl) fun L a W hI hk hd => ?_
          have e0 : a.tmps[0]?.getD undef = .slice (some ⟨b, off, none⟩) l.length cap := hI.at 0 (by kernel_rfl)
          exact ⟨rfl, .slice (some ⟨b, off, none⟩) l.length cap, by go_simp, fun u hu => Option.some.inj hu⟩
        · refine stepPure rfl rfl (by kernel_rfl) (by kernel_rfl) (by kernel_rfl) (by kernel_rfl) fun L a W hI hk hd => ?_
          have e4 : a.tmps[4]?.getD undef = .int .i64 (k : Int) := hI.at 4 (by kernel_rfl)
          exact ⟨rfl, .int .i64 (k : Int), by go_simp, fun u hu => Option.some.inj hu⟩
        · refine stepPure rfl rfl (by kernel_rfl) (by kernel_rfl) (by kernel_rfl) (by kernel_rfl) fun L a W hI hk hd => ?_
          have e16 := Rb.at hI 1 16 (hd 1 rfl) rfl rfl
          have e17 := Rb.at hI 2 17 (hd 2 rfl) rfl rfl
          exact ⟨rfl, .pointer (some ⟨b, off + k * 2, none⟩), by go_simp, fun u hu => Option.some.inj hu⟩
        · refine stepPure rfl rfl (by kernel_rfl) (by kernel_rfl) (by kernel_rfl) (by kernel_rfl) fun L a W hI hk hd => ?_
          have e18 := Rb.at hI 3 18 (hd 3 rfl) rfl rfl
          exact ⟨rfl, .pointer (some ⟨b, off + k * 2, none⟩), by go_simp, fun u hu => Option.some.inj hu⟩
        · refine stepPure rfl rfl (by kernel_rfl) (by kernel_rfl) (by kernel_rfl) (by kernel_rfl) fun L a W hI hk hd => ?_
          have e19 := Rb.at hI 4 19 (hd 4 rfl) rfl rfl
          obtain ⟨c0, c1⟩ := HCELL.out W hI.glob.bel
          exact ⟨rfl, .int .i64 r, by go_simp, fun u hu => Option.some.inj hu⟩
        · refine stepPure rfl rfl (by kernel_rfl) (by kernel_rfl) (by kernel_rfl) (by kernel_rfl) fun L a W hI hk hd => ?_
          have e20 := Rb.at hI 5 20 (hd 5 rfl) rfl rfl
          have hwr := HMR.out
          exact ⟨rfl, .int .u64 (mr : Int), by go_simp, fun u hu => Option.some.inj hu⟩
        · refine stepCall (r0 := ⟨7, 22, enc mr, none⟩) HINJ.out (by simp [dotsX]) rfl rfl rfl rfl (by kernel_rfl) (show 22 < 33 from by decide) (by kernel_rfl) rfl fun L a W hI hk hd => ?_
          have e21 := Rb.at hI 6 21 (hd 6 rfl) rfl rfl
          exact ⟨rfl, 15, #[.int .u64 (mr : Int)], by go_simp, HN.out mr W hmr⟩
        · refine stepApp (r0 := ⟨8, 23, acc ++ enc mr, some 16⟩) (r1 := ⟨0, 15, acc, some 8⟩) (r2 := ⟨7, 22, enc mr, none⟩) HINJ.out (by simp [dotsX]) rfl rfl (by simp [dotsX]) rfl (show (0 : Nat) ≠ 8 from by decide) (by simp [dotsX]) rfl (show (7 : Nat) ≠ 8 from by decide) (show (0 : Nat) ≠ 7 from by decide) rfl (by dsimp only; omega) rfl rfl (by kernel_rfl) (show 23 < 33 from by decide) (by kernel_rfl) rfl rfl rfl rfl fun a W u v w9 W9 h1 h2 h3 => ?_
          have h1 : a.eval (.tmp 15) = u := h1
          have h2 : a.eval (.tmp 22) = v := h2
          unfold execOp
          simp only [resolve, invoke, builtin, Sem.run_bind, Sem.run_pure, Result.andThen_ok, List.map_toArray, List.map_cons, List.map_nil, h1, h2, h3]
        · refine stepPure rfl rfl (by kernel_rfl) (by kernel_rfl) (by kernel_rfl) (by kernel_rfl) fun L a W hI hk hd => ?_
          have e0 : a.tmps[0]?.getD undef = .slice (some ⟨b, off, none⟩) l.length cap := hI.at 0 (by kernel_rfl)
          exact ⟨rfl, .slice (some ⟨b, off, none⟩) l.length cap, by go_simp, fun u hu => Option.some.inj hu⟩
        · refine stepPure rfl rfl (by kernel_rfl) (by kernel_rfl) (by kernel_rfl) (by kernel_rfl) fun L a W hI hk hd => ?_
          have e4 : a.tmps[4]?.getD undef = .int .i64 (k : Int) := hI.at 4 (by kernel_rfl)
          exact ⟨rfl, .int .i64 (k : Int), by go_simp, fun u hu => Option.some.inj hu⟩
        · refine stepPure rfl rfl (by kernel_rfl) (by kernel_rfl) (by kernel_rfl) (by kernel_rfl) fun L a W hI hk hd => ?_
          have e24 := Rb.at hI 9 24 (hd 9 rfl) rfl rfl
          have e25 := Rb.at hI 10 25 (hd 10 rfl) rfl rfl
          exact ⟨rfl, .pointer (some ⟨b, off + k * 2, none⟩), by go_simp, fun u hu => Option.some.inj hu⟩
        · refine stepPure rfl rfl (by kernel_rfl) (by kernel_rfl) (by kernel_rfl) (by kernel_rfl) fun L a W hI hk hd => ?_
          have e26 := Rb.at hI 11 26 (hd 11 rfl) rfl rfl
          exact ⟨rfl, .pointer (some ⟨b, off + k * 2 + 1, none⟩), by go_simp, fun u hu => Option.some.inj hu⟩
        · refine stepPure rfl rfl (by kernel_rfl) (by kernel_rfl) (by kernel_rfl) (by kernel_rfl) fun L a W hI hk hd => ?_
          have e27 := Rb.at hI 12 27 (hd 12 rfl) rfl rfl
          obtain ⟨c0, c1⟩ := HCELL.out W hI.glob.bel
          exact ⟨rfl, .int .i64 c, by go_simp, fun u hu => Option.some.inj hu⟩
        · refine stepPure rfl rfl (by kernel_rfl) (by kernel_rfl) (by kernel_rfl) (by kernel_rfl) fun L a W hI hk hd => ?_
          have e28 := Rb.at hI 13 28 (hd 13 rfl) rfl rfl
          have hwc := HMC.out
          exact ⟨rfl, .int .u64 (mc : Int), by go_simp, fun u hu => Option.some.inj hu⟩
        · refine stepCall (r0 := ⟨15, 30, enc mc, none⟩) HINJ.out (by simp [dotsX]) rfl rfl rfl rfl (by kernel_rfl) (show 30 < 33 from by decide) (by kernel_rfl) rfl fun L a W hI hk hd => ?_
          have e29 := Rb.at hI 14 29 (hd 14 rfl) rfl rfl
          exact ⟨rfl, 15, #[.int .u64 (mc : Int)], by go_simp, HN.out mc W hmc⟩
        · refine stepApp (r0 := ⟨16, 31, (acc ++ enc mr) ++ enc mc, some 17⟩) (r1 := ⟨8, 23, acc ++ enc mr, some 16⟩) (r2 := ⟨15, 30, enc mc, none⟩) HINJ.out (by simp [dotsX]) rfl rfl (by simp [dotsX]) rfl (show (8 : Nat) ≠ 16 from by decide) (by simp [dotsX]) rfl (show (15 : Nat) ≠ 16 from by decide) (show (8 : Nat) ≠ 15 from by decide) rfl (by dsimp only; rw [List.length_append]; omega) rfl rfl (by kernel_rfl) (show 31 < 33 from by decide) (by kernel_rfl) rfl rfl rfl rfl fun a W u v w9 W9 h1 h2 h3 => ?_
          have h1 : a.eval (.tmp 23) = u := h1
          have h2 : a.eval (.tmp 30) = v := h2
          unfold execOp
          simp only [resolve, invoke, builtin, Sem.run_bind, Sem.run_pure, Result.andThen_ok, List.map_toArray, List.map_cons, List.map_nil, h1, h2, h3]
        · exact stepPass (r0 := ⟨17, 3, (acc ++ enc mr) ++ enc mc, none⟩) (r1 := ⟨16, 31, (acc ++ enc mr) ++ enc mc, some 17⟩) HINJ.out (by simp [dotsX]) rfl rfl (by simp [dotsX]) rfl (show (16 : Nat) ≠ 17 from by decide) rfl rfl rfl (by kernel_rfl) (show 3 < 33 from by decide) (fun m h => Option.some.inj h ▸ rfl) rfl rfl rfl rfl
      · intro a W L hL hI
        have g := hI.glob
        have hr := g.row ⟨17, 3, (acc ++ enc mr) ++ enc mc, none⟩ (by simp [dotsX]) ⟨hL 17 (by decide), fun _ h => (by cases h)⟩
        have HR3 := Lib.hid (show RowB W w.heap.size (a.eval (.tmp 3)) (enc l.length ++ (l.take (k + 1)).flatMap byD) from by rw [HSTEP.out]; exact hr)
        have HBW := Lib.hid (show Below w.heap.size w W from g.bel)
        rw [hI.frame]
        simp only [List.filterMap, List.foldl]
        clear hr g hI hL
        generalize a.eval (.tmp 3) = v3 at HR3 ⊢
        generalize a.eval (.tmp 15) = v15
        generalize a.eval (.tmp 16) = v16
        generalize a.eval (.tmp 17) = v17
        generalize a.eval (.tmp 18) = v18
        generalize a.eval (.tmp 19) = v19
        generalize a.eval (.tmp 20) = v20
        generalize a.eval (.tmp 21) = v21
        generalize a.eval (.tmp 22) = v22
        generalize a.eval (.tmp 23) = v23
        generalize a.eval (.tmp 24) = v24
        generalize a.eval (.tmp 25) = v25
        generalize a.eval (.tmp 26) = v26
        generalize a.eval (.tmp 27) = v27
        generalize a.eval (.tmp 28) = v28
        generalize a.eval (.tmp 29) = v29
        generalize a.eval (.tmp 30) = v30
        generalize a.eval (.tmp 31) = v31
        go_wp2_with fail
        go_roundw
        case rel => exact ⟨k + 1, by omega, by go_num, HR3, HBW⟩
        case measure => simp [intOf]; omega
    · have i0 : ¬ (k : Int) < (l.length : Int) := by omega
      obtain rfl : k = l.length := by omega
      have ho := HO.out
      rw [List.take_length] at ho
      replace ho : RowB wr w.heap.size _ (byL byD l) := ho
      obtain ⟨D, d, rfl, _, _, _⟩ := SlAt.of_own encB_len ho
      have HE := Lib.hid ho
      clear ho HO
      obtain ⟨zs, hzs⟩ : ∃ zs, byL byD l = zs := ⟨_, rfl⟩
      have HZ := Lib.hid hzs
      rw [hzs] at HE
      clear hzs
      go_wp2_with fail
      go_ret
      exact MadeB.of (by rw [HZ.out]; exact HE.out) HB.out

end

section
open Go.RowKit

theorem below_set {w W : World} (h : Below w.heap.size w W) {g : Nat} (hg : w.heap.size ≤ g) (j : Nat) (v : Value) : Below w.heap.size w (W.setCell ⟨g, j, none⟩ v) :=
  ⟨h.os, h.tape, h.output, by simpa using h.size, fun k hk => (Below.heap_setCell W ⟨g, j, none⟩ v k (fun e => by have e : k = g := e; omega)).trans (h.block k hk)⟩
/-- An input's block: all bytes, how many were read, or that something was wrong. -/
def In15 (W : World) (g : Nat) (A : Option Addr) (c : Nat) (xs : List UInt8) (s : Option Nat) : Prop :=
  (∃ i b, W.heap[g]? = some (.cells #[.slice A xs.length c, .int .i64 (i : Nat), .bool b] 83 (0, 0)) ∧ i ≤ xs.length ∧ s = if b then none else some i) ∧ (∃ w0 : World, BytesAt w0 A xs ∧ w0.heap.size ≤ g ∧ Below w0.heap.size w0 W) ∧ xs.length ≤ 1000000 ∧ xs.length ≤ c ∧ c ≤ maxLen
section
variable {W W' : World} {g : Nat} {A : Option Addr} {c : Nat} {xs : List UInt8} {s : Option Nat}
theorem In15.good {i : Nat} (h : In15 W g A c xs (some i)) : W.heap[g]? = some (.cells #[.slice A xs.length c, .int .i64 (i : Nat), .bool false] 83 (0, 0)) ∧ i ≤ xs.length := by
  obtain ⟨⟨j, b, h1, h2, h3⟩, _⟩ := h
  cases b with
  | true => cases h3
  | false => obtain rfl : i = j := Option.some.inj h3; exact ⟨h1, h2⟩
theorem In15.bad (h : In15 W g A c xs none) : ∃ i : Nat, W.heap[g]? = some (.cells #[.slice A xs.length c, .int .i64 (i : Nat), .bool true] 83 (0, 0)) ∧ i ≤ xs.length := by
  obtain ⟨⟨j, b, h1, h2, h3⟩, _⟩ := h
  cases b with
  | true => exact ⟨j, h1, h2⟩
  | false => cases h3
theorem In15.lt (h : In15 W g A c xs s) : g < W.heap.size := by
  obtain ⟨⟨j, b, h1, _⟩, _⟩ := h
  exact (Array.getElem?_eq_some_iff.1 h1).1
theorem In15.row (h : In15 W g A c xs s) : BytesAt W A xs := by
  obtain ⟨_, ⟨w0, h1, _, h2⟩, _⟩ := h
  exact h1.below h2
theorem In15.chg {S : Nat → Prop} (h : In15 W g A c xs s) (hc : Chg S W W') (h1 : ¬ S g) (h2 : ∀ k, S k → g ≤ k) : In15 W' g A c xs s := by
  have hl := h.lt
  obtain ⟨⟨j, b, k1, k2, k3⟩, ⟨w0, k4, k5, k6⟩, k7⟩ := h
  exact ⟨⟨j, b, (hc.block g hl h1).trans k1, k2, k3⟩, ⟨w0, k4, k5, ⟨hc.os.trans k6.os, hc.tape.trans k6.tape, hc.output.trans k6.output, Nat.le_trans k6.size hc.size, fun k hk => (hc.block k (Nat.lt_of_lt_of_le hk k6.size) fun e => by have := h2 k e; omega).trans (k6.block k hk)⟩⟩, k7⟩
theorem In15.below (h : In15 W g A c xs s) (hb : Below W.heap.size W W') : In15 W' g A c xs s := h.chg (S := fun _ => False) (.of_below hb) id fun _ e => e.elim
/-- How far is stored. -/
theorem In15.at {i j : Nat} (h : In15 W g A c xs (some i)) (hj : j ≤ xs.length) : In15 (W.setCell ⟨g, 1, none⟩ (.int .i64 (j : Nat))) g A c xs (some j) ∧ Chg (fun k => k = g) W (W.setCell ⟨g, 1, none⟩ (.int .i64 (j : Nat))) := by
  obtain ⟨h1, _⟩ := h.good
  obtain ⟨w0, k4, k5, k6⟩ := h.2.1
  refine ⟨⟨⟨j, false, ?_, hj, rfl⟩, ⟨w0, k4, k5, below_set k6 k5 _ _⟩, h.2.2⟩, .of_set _ _ rfl⟩
  show (W.heap.modify g _)[g]? = _
  rw [Array.getElem?_modify, if_pos rfl, h1]
  rfl
/-- That something is wrong is stored. -/
theorem In15.wrong {i : Nat} (h : In15 W g A c xs (some i)) : In15 (W.setCell ⟨g, 2, none⟩ (.bool true)) g A c xs none ∧ Chg (fun k => k = g) W (W.setCell ⟨g, 2, none⟩ (.bool true)) := by
  obtain ⟨h1, h2⟩ := h.good
  obtain ⟨w0, k4, k5, k6⟩ := h.2.1
  refine ⟨⟨⟨i, true, ?_, h2, rfl⟩, ⟨w0, k4, k5, below_set k6 k5 _ _⟩, h.2.2⟩, .of_set _ _ rfl⟩
  show (W.heap.modify g _)[g]? = _
  rw [Array.getElem?_modify, if_pos rfl, h1]
  rfl
/-- A part of the bytes. -/
theorem In15.part {b off : Nat} (h : BytesAt W (some ⟨b, off, none⟩) xs) {i k cap : Nat} (hk : i + k ≤ xs.length) (hc : k ≤ cap) (hm : cap ≤ maxLen) : HoldsB W (.slice (some ⟨b, off + i, none⟩) ((xs.drop i).take k).length cap) ((xs.drop i).take k) := by
  refine ⟨some ⟨b, off + i, none⟩, cap, rfl, fun hn => ?_, by rw [List.length_take]; omega, hm⟩
  have hl : 0 < xs.length := by rw [List.length_take, List.length_drop] at hn; omega
  obtain ⟨b', off', e, hb, hcell⟩ := h hl
  cases e
  refine ⟨b, off + i, rfl, hb, fun j x hx m u hu => ?_⟩
  have hx2 : xs[i + j]? = some x := by
    rw [List.getElem?_take] at hx
    split at hx
    · rwa [List.getElem?_drop] at hx
    · cases hx
  have := hcell (i + j) x hx2 m u hu
  rw [← this]
  congr 2
  simp [Nat.add_assoc]
end

/-- How far one is behind a part. -/
def nx {α : Type} (p : Ps α) (xs : List UInt8) (s : Option Nat) : Option Nat := s.bind fun i => (p (xs.drop i)).map fun a => i + a.2
/-- The number that is read. -/
def valN (xs : List UInt8) (s : Option Nat) : Nat := match s with
  | none => 0
  | some i => (rd (xs.drop i)).1
theorem rdN_zero (i acc : Nat) (l : List UInt8) : rdN 0 i acc l = (0, 0, 12) := by cases l <;> rfl
theorem wrap_nat15 (n : Nat) : IntKind.u64.wrap (n : Int) = ((n % 18446744073709551616 : Nat) : Int) := by simp [IntKind.wrap, IntKind.bits, IntKind.signed]
/-- The number with one group more. -/
theorem add_val (acc q x : Nat) (hacc : acc < 18446744073709551616) (hx : x < 128) (hq : q ≤ 9) (h9 : acc < 128 ^ q) :
    ∃ a : Nat, IntKind.u64.wrap ((acc : Int) + IntKind.u64.wrap ((x : Int) * 2 ^ (7 * q))) = (a : Int) ∧ a < 18446744073709551616 ∧ ((q ≤ 8 ∨ x ≤ 1) → a = acc + x * 128 ^ q) ∧ (q ≤ 8 → a < 128 ^ (q + 1)) := by
  have e : (x : Int) * 2 ^ (7 * q) = ((x * 128 ^ q : Nat) : Int) := by rw [show (128 : Nat) ^ q = 2 ^ (7 * q) by rw [Nat.pow_mul]]; simp
  have e2 : (acc : Int) + ((x * 128 ^ q % 18446744073709551616 : Nat) : Int) = ((acc + x * 128 ^ q % 18446744073709551616 : Nat) : Int) := by omega
  rw [e, wrap_nat15, e2, wrap_nat15]
  refine ⟨_, rfl, Nat.mod_lt _ (by omega), ?_, ?_⟩
  · intro h
    have hlt : acc + x * 128 ^ q < 18446744073709551616 := by
      rcases h with h | h
      · have h1 : 128 ^ q ≤ 128 ^ 8 := Nat.pow_le_pow_right (by omega) h
        have h2 : x * 128 ^ q ≤ 127 * 128 ^ 8 := Nat.mul_le_mul (by omega) h1
        omega
      · have h1 : 128 ^ q ≤ 128 ^ 9 := Nat.pow_le_pow_right (by omega) hq
        have h2 : x * 128 ^ q ≤ 1 * 128 ^ 9 := Nat.mul_le_mul h h1
        omega
    rw [Nat.mod_eq_of_lt (a := x * 128 ^ q) (by omega), Nat.mod_eq_of_lt hlt]
  · intro h
    have hle : 128 ^ q ≤ 128 ^ 8 := Nat.pow_le_pow_right (by omega) h
    have h2 : x * 128 ^ q ≤ 127 * 128 ^ q := Nat.mul_le_mul_right _ (by omega)
    rw [Nat.mod_eq_of_lt (a := x * 128 ^ q) (by omega), Nat.mod_eq_of_lt (by omega), Nat.pow_succ]
    omega
/-- A number is read just if it would be written in this way. -/
theorem num_end {l : List UInt8} {q a : Nat} (ha : a < 18446744073709551616) (hlen : q + 1 ≤ l.length)
    (_ : rd l = (0, 0, 12) ∨ rd l = (a, q + 1, 0)) : (enc a = l.take (q + 1) ↔ rd l = (a, q + 1, 0)) := by
  constructor
  · intro e
    have h1 : rd l = (a, (enc a).length, 0) := by
      have h2 := rd_enc ha (l.drop (q + 1))
      rwa [e, List.take_append_drop, ← e] at h2
    rw [h1, e, List.length_take, Nat.min_eq_left hlen]
  · intro e
    exact ((rd_back e).2.2.2).symm

def NumQ (w : World) (g : Nat) (A : Option Addr) (c : Nat) (xs : List UInt8) (s : Option Nat) (e : Ending) (w' : World) : Prop :=
  e = .returned (.int .u64 (valN xs s : Nat)) ∧ In15 w' g A c xs (nx pN xs s) ∧ Chg (fun k => k = g) w w'

end

section
open Go.RowKit

set_option maxHeartbeats 1000000 in
theorem refNum15_bad (g : Nat) (A : Option Addr) (c : Nat) (xs : List UInt8) (w : World) (h : In15 w g A c xs none) :
    Calls Tryz.prog 39 #[.pointer (some ⟨g, 0, none⟩)] w (NumQ w g A c xs none) := by
  obtain ⟨i, h1, _⟩ := h.bad
  have c2 : w.cell? ⟨g, 2, none⟩ = some (.bool true) := by simp [World.cell?, h1]
  have H := Lib.hid h
  clear h h1
  go_enter Tryz.func39, Tryz.ntmps39
  go_wp2_with fail
  go_ret
  exact ⟨rfl, H.out, Chg.refl _ _⟩

set_option maxRecDepth 100000 in
set_option maxHeartbeats 4000000 in
theorem refNum15_good (g : Nat) (A : Option Addr) (c : Nat) (xs : List UInt8) (i : Nat) (w : World) (h : In15 w g A c xs (some i)) :
    Calls Tryz.prog 39 #[.pointer (some ⟨g, 0, none⟩)] w (NumQ w g A c xs (some i)) := by
  obtain ⟨h1, hi⟩ := h.good
  have c2 : w.cell? ⟨g, 2, none⟩ = some (.bool false) := by simp [World.cell?, h1]
  have H := Lib.hid h
  have hmx := h.2.2.1
  have hmc := h.2.2.2.1
  have HCM := Lib.hid h.2.2.2.2
  have HN := Lib.hid fun (n : Nat) (W : World) (hn : n < 18446744073709551616) => refNumber n n W (Nat.le_refl _) hn
  clear h h1
  go_enter Tryz.func39, Tryz.ntmps39
  go_wp2_with fail
  go_loopw [3, 4] (fun a k wr => ∃ (q acc : Nat), q ≤ 10 ∧ i + q ≤ xs.length ∧ k = .int .i64 (q : Nat) ∧ a = .int .u64 (acc : Nat) ∧ acc < 18446744073709551616 ∧ Hid (q ≤ 9 → acc < 128 ^ q) ∧ Hid (rd (xs.drop i) = rdN (10 - q) q acc (xs.drop (i + q))) ∧ Hid (Below w.heap.size w wr)) (fun _ k _ => 10 - (intOf k).toNat)
  case atStart => exact ⟨0, 0, by omega, by omega, rfl, rfl, by omega, fun _ => by simp, rfl, Below.refl _ _⟩
  case round =>
    obtain ⟨q, acc, hq, hiq, rfl, rfl, hacc, hq9, hrd, hB⟩ := hrel
    have HI := Lib.hid (H.out.below hB.out)
    obtain ⟨h1, _⟩ := HI.out.good
    have hlg := HI.out.lt
    have k0 : wr.cell? ⟨g, 0, none⟩ = some (.slice A xs.length c) := by simp [World.cell?, h1]
    have k1 : wr.cell? ⟨g, 1, none⟩ = some (.int .i64 (i : Nat)) := by simp [World.cell?, h1]
    have k2 : wr.cell? ⟨g, 2, none⟩ = some (.bool false) := by simp [World.cell?, h1]
    have l0 := fun p => cell_far (p := p) hlg k0
    have l1 := fun p => cell_far (p := p) hlg k1
    clear h1
    have FBAD := Lib.hid (show (rd (xs.drop i)).2.2 ≠ 0 → ∀ W, Below w.heap.size w W → NumQ w g A c xs (some i) (.returned (.int .u64 0)) (W.setCell ⟨g, 2, none⟩ (.bool true)) from fun hne W hb => by
      have h2 := (H.out.below hb).wrong
      refine ⟨by rw [valN, rd_err hne]; rfl, ?_, (Chg.of_below hb).trans h2.2 fun _ _ e => e⟩
      have : nx pN xs (some i) = none := by show ((pN (xs.drop i)).map _) = none; rw [pN_none hne]; rfl
      rw [this]; exact h2.1)
    by_cases hlt : q < 10
    · have i0 : (q : Int) < 10 := by omega
      by_cases hle : i + q < xs.length
      · have i1 : (i : Int) + (q : Int) < (xs.length : Int) := by omega
        obtain ⟨b, hbx⟩ : ∃ b, xs[i + q]'hle = b := ⟨_, rfl⟩
        have hd := List.getElem?_eq_getElem hle
        rw [hbx] at hd
        have HD := Lib.hid (show xs.drop (i + q) = b :: xs.drop (i + (q + 1)) by rw [List.drop_eq_getElem_cons hle, hbx]; rfl)
        have HX := Lib.hid hd
        clear hbx hd k0 k1 k2
        go_wp2_with fail
        refine wp_region_far (by kernel_rfl) (by kernel_rfl) ?_
        repeat (go_big_quiet_step ((fail)))
        refine wpQuiet_nil ?_
        rintro _ ⟨p, rfl⟩
        go_wp2_with fail
        have HB2 := Lib.hid (below_trans hB.out (below_far wr p))
        clear l0 l1 hlg HI
        generalize far wr p = w2 at *
        have HI2 := Lib.hid (H.out.below HB2.out)
        obtain ⟨h1, _⟩ := HI2.out.good
        have hlg := HI2.out.lt
        have k0 : w2.cell? ⟨g, 0, none⟩ = some (.slice A xs.length c) := by simp [World.cell?, h1]
        have k1 : w2.cell? ⟨g, 1, none⟩ = some (.int .i64 (i : Nat)) := by simp [World.cell?, h1]
        have l0 := fun p => cell_far (p := p) hlg k0
        have l1 := fun p => cell_far (p := p) hlg k1
        obtain ⟨bk, off, hA, hbl, hcell⟩ := HI2.out.row (by omega)
        subst hA
        have d0 : w2.cell? ⟨bk, off + (i + q), none⟩ = some (.int .u8 b.toNat) := by simpa using hcell (i + q) b HX.out 0 _ rfl
        have l2 := fun p => cell_far (p := p) (a := ⟨bk, off + (i + q), none⟩) hbl d0
        clear h1 hcell k0 k1 d0
        refine wp_region_far (by kernel_rfl) (by kernel_rfl) ?_
        repeat (go_big_quiet_step ((fail)))
        refine wpQuiet_nil ?_
        rintro _ ⟨p, rfl⟩
        have HB3 := Lib.hid (below_trans HB2.out (below_far w2 p))
        clear l0 l1 l2 hlg HI2
        generalize far w2 p = w3 at *
        have hbt := toNat_lt b
        obtain ⟨a, hav, ha64, ha, ha9⟩ := add_val acc q (b.toNat % 128) hacc (Nat.mod_lt _ (by omega)) (by omega) (hq9.out (by omega))
        have em : ((b.toNat % 128 : Nat) : Int) = (b.toNat : Int) % 128 := by omega
        rw [em] at hav
        have HA := Lib.hid ha
        have HA9 := Lib.hid ha9
        have hrd2 := hrd.out
        rw [HD.out, show 10 - q = (9 - q) + 1 by omega, rdN_succ_cons] at hrd2
        clear em ha ha9
        by_cases h128 : 128 ≤ b.toNat
        · rw [if_pos h128] at hrd2
          have HRD := Lib.hid hrd2
          have HV := Lib.hid hav
          have j0 : (128 : Int) ≤ (b.toNat : Int) := by omega
          clear hrd2 hav
          go_wp2_with fail
          go_roundw
          case rel =>
            refine ⟨q + 1, a, by omega, by omega, by go_num, by rw [HV.out], ha64, fun h9 => HA9.out (by omega), ?_, HB3⟩
            show rd (xs.drop i) = _
            rw [HRD.out]
            by_cases h8 : q ≤ 8
            · rw [HA.out (.inl h8), show 10 - (q + 1) = 9 - q by omega]
            · obtain rfl : q = 9 := by omega
              rw [rdN_zero, rdN_zero]
          case measure => simp [intOf]; omega
        · rw [if_neg h128] at hrd2
          have j0 : ¬ (128 : Int) ≤ (b.toNat : Int) := by omega
          have hsame : rd (xs.drop i) = (0, 0, 12) ∨ rd (xs.drop i) = (a, q + 1, 0) := by
            by_cases hbad : (b.toNat = 0 ∧ 0 < q) ∨ (1 < b.toNat ∧ q = 9)
            · rw [if_pos hbad] at hrd2; exact .inl hrd2
            · rw [if_neg hbad, ← HA.out (by omega)] at hrd2; exact .inr hrd2
          have HEND := Lib.hid (num_end (l := xs.drop i) ha64 (by rw [List.length_drop]; omega) hsame)
          have HSM := Lib.hid hsame
          have HNA := Lib.hid (HN.out a w3 ha64)
          clear hrd2 hsame h128 hbt HA HA9 hrd
          have HV := Lib.hid hav
          clear hav
          go_wp2_with fail
          rw [HV.out]
          refine HNA.out.mono ?_
          rintro e w4 ⟨⟨A4, c4, rfl, ho4⟩, hb4⟩
          have HB4 := Lib.hid (below_trans HB3.out hb4)
          have d0 := fun p => convB (far w4 p) A4 c4 (enc a) ((HoldsB.of_own ho4).below (below_far w4 p))
          have HI4 := Lib.hid (H.out.below HB4.out)
          obtain ⟨h1, _⟩ := HI4.out.good
          have hlg := HI4.out.lt
          have k0 : w4.cell? ⟨g, 0, none⟩ = some (.slice (some ⟨bk, off, none⟩) xs.length c) := by simp [World.cell?, h1]
          have k1 : w4.cell? ⟨g, 1, none⟩ = some (.int .i64 (i : Nat)) := by simp [World.cell?, h1]
          have l0 := fun p => cell_far (p := p) hlg k0
          have l1 := fun p => cell_far (p := p) hlg k1
          have hl : ((xs.drop i).take (q + 1)).length = i + q + 1 - i := by rw [List.length_take, List.length_drop]; omega
          have d1 := fun p => convB (far w4 p) (some ⟨bk, off + i, none⟩) (c - i) ((xs.drop i).take (q + 1)) (In15.part (HI4.out.row.below (below_far w4 p)) (by omega) (by omega) (by have := HCM.out; omega))
          rw [hl] at d1
          clear h1 ho4 hb4 hl
          go_wp2_with fail
          by_cases he : enc a = (xs.drop i).take (q + 1)
          · have hrd3 := HEND.out.1 he
            rw [← he] at d1
            have j1 : (enc a == enc a) = true := by simp
            have HFIN := Lib.hid (show ∀ W, Below w.heap.size w W → NumQ w g (some ⟨bk, off, none⟩) c xs (some i) (.returned (.int .u64 (a : Nat))) (W.setCell ⟨g, 1, none⟩ (.int .i64 ((i : Int) + (q : Int) + 1))) from fun W hb => by
              have h2 := (H.out.below hb).at (j := i + (q + 1)) (by omega)
              rw [show (i : Int) + (q : Int) + 1 = ((i + (q + 1) : Nat) : Int) by omega]
              refine ⟨by rw [valN, hrd3], ?_, (Chg.of_below hb).trans h2.2 fun _ _ e => e⟩
              have : nx pN xs (some i) = some (i + (q + 1)) := by show ((pN (xs.drop i)).map _) = _; rw [pN_some (by rw [hrd3]), hrd3]; rfl
              rw [this]; exact h2.1)
            clear he hrd3 k0 k1
            refine wp_region_far (by kernel_rfl) (by kernel_rfl) ?_
            repeat (go_big_quiet_step ((fail)))
            refine wpQuiet_nil ?_
            rintro _ ⟨p, rfl⟩
            have HB5 := Lib.hid (below_trans HB4.out (below_far w4 p))
            have HF := Lib.hid (HFIN.out _ HB5.out)
            have HI5 := Lib.hid (H.out.below HB5.out)
            obtain ⟨h1, _⟩ := HI5.out.good
            have m1 : (far w4 p).cell? ⟨g, 1, none⟩ = some (.int .i64 (i : Nat)) := by simp [World.cell?, h1]
            have f1 : (far w4 p).frozen? ⟨g, 1, none⟩ = false := by simp [World.frozen?, h1]
            clear h1 l0 l1 d0 d1
            go_wp2_with fail
            go_ret
            exact HF.out
          · have hne : (rd (xs.drop i)).2.2 ≠ 0 := by
              rcases HSM.out with h | h
              · rw [h]; decide
              · exact absurd (HEND.out.2 h) he
            have j1 : (enc a == (xs.drop i).take (q + 1)) = false := by simpa using he
            have HNE := Lib.hid hne
            clear he hne k0 k1
            generalize (xs.drop i).take (q + 1) = ys at *
            refine wp_region_far (by kernel_rfl) (by kernel_rfl) ?_
            repeat (go_big_quiet_step ((fail)))
            refine wpQuiet_nil ?_
            rintro _ ⟨p, rfl⟩
            have HB5 := Lib.hid (below_trans HB4.out (below_far w4 p))
            have HF := Lib.hid (FBAD.out HNE.out _ HB5.out)
            have HI5 := Lib.hid (H.out.below HB5.out)
            obtain ⟨h1, _⟩ := HI5.out.good
            have m2 : (far w4 p).cell? ⟨g, 2, none⟩ = some (.bool false) := by simp [World.cell?, h1]
            have f2 : (far w4 p).frozen? ⟨g, 2, none⟩ = false := by simp [World.frozen?, h1]
            clear h1 l0 l1 d0 d1
            go_wp2_with fail
            go_ret
            exact HF.out
      · have i1 : ¬ ((i : Int) + (q : Int) < (xs.length : Int)) := by omega
        have hs : rd (xs.drop i) = (0, 0, 4) := by
          rw [hrd.out, List.drop_of_length_le (by omega), show 10 - q = (9 - q) + 1 by omega]
          rfl
        have HS := Lib.hid hs
        clear hs k0 k1 k2
        go_wp2_with fail
        refine wp_region_far (by kernel_rfl) (by kernel_rfl) ?_
        repeat (go_big_quiet_step ((fail)))
        refine wpQuiet_nil ?_
        rintro _ ⟨p, rfl⟩
        have HB2 := Lib.hid (below_trans hB.out (below_far wr p))
        have HFIN := Lib.hid (FBAD.out (by rw [HS.out]; decide) _ HB2.out)
        have HI2 := Lib.hid (H.out.below HB2.out)
        obtain ⟨h1, _⟩ := HI2.out.good
        have m2 : (far wr p).cell? ⟨g, 2, none⟩ = some (.bool false) := by simp [World.cell?, h1]
        have f2 : (far wr p).frozen? ⟨g, 2, none⟩ = false := by simp [World.frozen?, h1]
        clear h1 l0 l1
        go_wp2_with fail
        go_ret
        exact HFIN.out
    · obtain rfl : q = 10 := by omega
      have hs : rd (xs.drop i) = (0, 0, 12) := by rw [hrd.out, rdN_zero]
      have HS := Lib.hid hs
      clear hs k0 k1 k2
      go_wp2_with fail
      refine wp_region_far (by kernel_rfl) (by kernel_rfl) ?_
      repeat (go_big_quiet_step ((fail)))
      refine wpQuiet_nil ?_
      rintro _ ⟨p, rfl⟩
      have HB2 := Lib.hid (below_trans hB.out (below_far wr p))
      have HFIN := Lib.hid (FBAD.out (by rw [HS.out]; decide) _ HB2.out)
      have HI2 := Lib.hid (H.out.below HB2.out)
      obtain ⟨h1, _⟩ := HI2.out.good
      have m2 : (far wr p).cell? ⟨g, 2, none⟩ = some (.bool false) := by simp [World.cell?, h1]
      have f2 : (far wr p).frozen? ⟨g, 2, none⟩ = false := by simp [World.frozen?, h1]
      clear h1 l0 l1
      go_wp2_with fail
      go_ret
      exact HFIN.out

theorem refNum15 (g : Nat) (A : Option Addr) (c : Nat) (xs : List UInt8) (s : Option Nat) (w : World) (h : In15 w g A c xs s) :
    Calls Tryz.prog 39 #[.pointer (some ⟨g, 0, none⟩)] w (NumQ w g A c xs s) := by
  cases s with
  | none => exact refNum15_bad g A c xs w h
  | some i => exact refNum15_good g A c xs i w h

end

end Go.Proofs.YtpnemekkpifbaaaGreat
