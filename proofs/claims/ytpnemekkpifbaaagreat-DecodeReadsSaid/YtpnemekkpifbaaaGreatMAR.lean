/- Several texts in one: CanC, CanD. -/
import Derived.Test.YtpnemekkpifbaaaGreatMAQ
namespace Go.Proofs.YtpnemekkpifbaaaGreat

section
open Go.RowKit

theorem takeI_snoc {xs : List ItV} {k : Nat} {x : ItV} (h : xs[k]? = some x) : (its (xs.take (k + 1))).flatMap byI = (its (xs.take k)).flatMap byI ++ byI x.it := by
  rw [take_snoc h]
  simp [its]
/-- Four numbers of a mark. -/
def nsM (mr mc mq mt : Nat) : List Nat := [mr, mc, mq, mt]
theorem box4 {W : World} {b mr mc mq mt : Nat} (h : W.heap[b]? = some (.cells #[.int .u64 (mr : Int), .int .u64 (mc : Int), .int .u64 (mq : Int), .int .u64 (mt : Int)] 42 (0, 0))) {j : Nat} (hj : j < 4) :
    ∃ n : Nat, (nsM mr mc mq mt)[j]? = some n ∧ W.cell? ⟨b, j, none⟩ = some (.int .u64 (n : Int)) := by
  match j, hj with
  | 0, _ => exact ⟨mr, rfl, by simp [World.cell?, h]⟩
  | 1, _ => exact ⟨mc, rfl, by simp [World.cell?, h]⟩
  | 2, _ => exact ⟨mq, rfl, by simp [World.cell?, h]⟩
  | 3, _ => exact ⟨mt, rfl, by simp [World.cell?, h]⟩

/-- The region in which a context and a number are written. -/
def bytX (E W0 : World) (xs ys : List UInt8) (g : Nat) (V Lc I : Option Addr) (vn nv ln nl inn ni : Nat) : Rb where
  E := E
  W0 := W0
  n := 79
  D := .slice none 0 0
  acc := []
  m := none
  s := 0
  rows := [⟨2, 12, xs, some 8⟩, ⟨7, 17, ys, none⟩, ⟨8, 18, xs ++ ys, some 9⟩, ⟨9, 3, xs ++ ys, none⟩]
  known := fun
    | 0 => some (.pointer (some ⟨g, 0, none⟩))
    | 1 => some (.agg #[.slice V vn nv, .slice Lc ln nl])
    | 3 => some (.pointer (some ⟨g, 2, none⟩))
    | 4 => some (.slice I inn ni)
    | 5 => some (.int .i64 (inn : Int))
    | 6 => some (.int .u64 (inn : Int))
    | _ => none

/-- The region in which a name and a number are written. -/
def itmX (E W0 : World) (D : Value) (acc xs ys : List UInt8) (g : Nat) (nm : List UInt8) (A : Option Addr) (mn c : Nat) : Rb where
  E := E
  W0 := W0
  n := 79
  D := D
  acc := acc
  m := some 0
  s := 3
  rows := [⟨0, 31, acc, some 4⟩, ⟨3, 34, xs, none⟩, ⟨4, 35, acc ++ xs, some 10⟩, ⟨9, 40, ys, none⟩, ⟨10, 41, (acc ++ xs) ++ ys, some 11⟩, ⟨11, 3, (acc ++ xs) ++ ys, none⟩]
  known := fun
    | 1 => some (.pointer (some ⟨g, 0, none⟩))
    | 2 => some (.string ⟨nm.toArray⟩)
    | 5 => some (.pointer (some ⟨g, 1, none⟩))
    | 6 => some (.slice A mn c)
    | 7 => some (.int .i64 (mn : Int))
    | 8 => some (.int .u64 (mn : Int))
    | _ => none

set_option maxRecDepth 100000 in
set_option maxHeartbeats 2000000 in
theorem refBytes14 (c : CaV) (w : World) (hc : CaOK w c) (hl : LenB c.ca) :
    Calls Tryz.prog 11 #[mkC c] w (MadeB (byC c.ca) w) := by
  obtain ⟨ti0, hi0, hz0, hz1, hz2⟩ := info_parts infoB
  obtain ⟨V, nv, vs, Lc, nl, ls, I, ni, xs⟩ := c
  obtain ⟨hV, hL, hX⟩ := hc
  obtain ⟨V', nv', eV, hV, _, _⟩ := hV
  obtain ⟨L', nl', eL, hL, _, _⟩ := hL
  obtain ⟨I', ni', eI, hX, _, _⟩ := hX
  cases eV
  cases eL
  cases eI
  obtain ⟨l1, l2, l3, l4⟩ := hl
  replace l1 : vs.length ≤ 1000 := l1
  replace l2 : ls.length ≤ 1000 := l2
  replace l3 : xs.length ≤ 1000 := by simpa [CaV.ca, its] using l3
  have hb0 : Below w.heap.size w (w.alloc (.cells #[.slice V vs.length nv, .slice Lc ls.length nl, .slice I xs.length ni] 31)) := (Below.refl _ w).alloc (Nat.le_refl _) _
  have HB0 := Lib.hid hb0
  have HX := Lib.hid (hX.below hb0)
  have hbx : (w.alloc (.cells #[.slice V vs.length nv, .slice Lc ls.length nl, .slice I xs.length ni] 31)).heap[w.heap.size]? = some (.cells #[.slice V vs.length nv, .slice Lc ls.length nl, .slice I xs.length ni] 31 (0, 0)) := heap_alloc_new w _
  have HBOX := Lib.hid fun (W : World) (hW : Below (w.alloc (.cells #[.slice V vs.length nv, .slice Lc ls.length nl, .slice I xs.length ni] 31)).heap.size (w.alloc (.cells #[.slice V vs.length nv, .slice Lc ls.length nl, .slice I xs.length ni] 31)) W) => (show W.cell? ⟨w.heap.size, 0, none⟩ = some (.slice V vs.length nv) ∧ W.cell? ⟨w.heap.size, 1, none⟩ = some (.slice Lc ls.length nl) ∧ W.cell? ⟨w.heap.size, 2, none⟩ = some (.slice I xs.length ni) from by
    have h : W.heap[w.heap.size]? = some (.cells #[.slice V vs.length nv, .slice Lc ls.length nl, .slice I xs.length ni] 31 (0, 0)) := (hW.block _ (by simp)).trans hbx
    exact ⟨by simp [World.cell?, h], by simp [World.cell?, h], by simp [World.cell?, h]⟩)
  have HIT := Lib.hid (show ∀ x ∈ xs, x.nm.length ≤ 1000 ∧ x.ms.length ≤ 1000 ∧ ∀ m ∈ x.ms, m.t < 18446744073709551616 from fun x hx => l4 x.it (by simp only [CaV.ca, its]; exact List.mem_map_of_mem hx))
  obtain ⟨bx, hbx1⟩ : ∃ bx, byX (vs, ls) = bx := ⟨_, rfl⟩
  obtain ⟨bn, hbn⟩ : ∃ bn, enc xs.length = bn := ⟨_, rfl⟩
  have HE := Lib.hid (show byC ((vs, ls), its xs) = (bx ++ bn) ++ (its xs).flatMap byI from by rw [← hbx1, ← hbn]; simp [byC, byL, its])
  have HL1 := Lib.hid (show bx.length ≤ 40020 ∧ bn.length ≤ 10 from by rw [← hbx1, ← hbn]; exact ⟨byX_len l1 l2, enc_ten (by omega)⟩)
  have HL12 := Lib.hid (show bx.length + bn.length ≤ 1000000000 from by have := HL1.out.1; have := HL1.out.2; omega)
  have HD1 := Lib.hid fun (W : World) (hW : Below (w.alloc (.cells #[.slice V vs.length nv, .slice Lc ls.length nl, .slice I xs.length ni] 31)).heap.size (w.alloc (.cells #[.slice V vs.length nv, .slice Lc ls.length nl, .slice I xs.length ni] 31)) W) => refContext14 V Lc vs ls nv nl W ((hV.below hb0).below hW) ((hL.below hb0).below hW) l1 l2
  have HD2 := Lib.hid fun (W : World) => refNumber xs.length xs.length W (Nat.le_refl _) (by omega)
  have HU := Lib.hid (u64_id (n := xs.length) (by omega))
  have HN := Lib.hid fun (n : Nat) (W : World) (h : n < 18446744073709551616) => refNumber n n W (Nat.le_refl _) h
  rw [hbx1] at HD1
  rw [hbn] at HD2
  have HXL := Lib.hid l3
  clear hV hL hX hb0 hbx l1 l2 l4 hbx1 hbn l3
  show Calls _ _ #[.agg #[.slice V vs.length nv, .slice Lc ls.length nl, .slice I xs.length ni]] _ _
  go_enter Tryz.func11, Tryz.ntmps11
  go_upto_region 1 with fail
  generalize w.alloc (.cells #[.slice V vs.length nv, .slice Lc ls.length nl, .slice I xs.length ni] 31) = w1 at HB0 HX HD1 HBOX ⊢
  have HINJ := Lib.hid (show ∀ q ∈ (bytX w1 w1 bx bn w.heap.size V Lc I vs.length nv ls.length nl xs.length ni).rows, ∀ q' ∈ (bytX w1 w1 bx bn w.heap.size V Lc I vs.length nv ls.length nl xs.length ni).rows, q.j = q'.j → q = q' from inj_of (show ([2, 7, 8, 9] : List Nat).Nodup from by decide))
  refine wp_region_T (S := Rb.S (bytX w1 w1 bx bn w.heap.size V Lc I vs.length nv ls.length nl xs.length ni)) (by kernel_rfl) (by kernel_rfl) (by kernel_rfl) (dst_small (n := 79) (by kernel_rfl)) (Rb.G.start (Below.refl _ _) rfl (by rfl) (fun _ h => by cases h)) ?_ ?_
  · refine ⟨?_, ?_, ?_, ?_, ?_, ?_, ?_, ?_, ?_, ?_, trivial⟩
    · refine stepPure rfl rfl (by kernel_rfl) (by kernel_rfl) (by kernel_rfl) (by kernel_rfl) fun L a W hI hk hd => ?_
      have e1 : a.tmps[1]?.getD undef = .pointer (some ⟨w.heap.size, 0, none⟩) := hI.at 1 (by kernel_rfl)
      exact ⟨rfl, .pointer (some ⟨w.heap.size, 0, none⟩), by go_simp, fun u hu => Option.some.inj hu⟩
    · refine stepPure rfl rfl (by kernel_rfl) (by kernel_rfl) (by kernel_rfl) (by kernel_rfl) fun L a W hI hk hd => ?_
      have e10 := Rb.at hI 0 10 (hd 0 rfl) rfl rfl
      obtain ⟨c0, c1, c2⟩ := HBOX.out W hI.glob.bel
      exact ⟨rfl, .agg #[.slice V vs.length nv, .slice Lc ls.length nl], by go_simp, fun u hu => Option.some.inj hu⟩
    · refine stepCall (r0 := ⟨2, 12, bx, some 8⟩) HINJ.out (by simp [bytX]) rfl rfl rfl rfl (by kernel_rfl) (show 12 < 79 from by decide) (by kernel_rfl) rfl fun L a W hI hk hd => ?_
      have e11 := Rb.at hI 1 11 (hd 1 rfl) rfl rfl
      exact ⟨rfl, 12, #[.agg #[.slice V vs.length nv, .slice Lc ls.length nl]], by go_simp, HD1.out W hI.glob.bel⟩
    · refine stepPure rfl rfl (by kernel_rfl) (by kernel_rfl) (by kernel_rfl) (by kernel_rfl) fun L a W hI hk hd => ?_
      have e1 : a.tmps[1]?.getD undef = .pointer (some ⟨w.heap.size, 0, none⟩) := hI.at 1 (by kernel_rfl)
      exact ⟨rfl, .pointer (some ⟨w.heap.size, 2, none⟩), by go_simp, fun u hu => Option.some.inj hu⟩
    · refine stepPure rfl rfl (by kernel_rfl) (by kernel_rfl) (by kernel_rfl) (by kernel_rfl) fun L a W hI hk hd => ?_
      have e13 := Rb.at hI 3 13 (hd 3 rfl) rfl rfl
      obtain ⟨c0, c1, c2⟩ := HBOX.out W hI.glob.bel
      exact ⟨rfl, .slice I xs.length ni, by go_simp, fun u hu => Option.some.inj hu⟩
    · refine stepPure rfl rfl (by kernel_rfl) (by kernel_rfl) (by kernel_rfl) (by kernel_rfl) fun L a W hI hk hd => ?_
      have e14 := Rb.at hI 4 14 (hd 4 rfl) rfl rfl
      exact ⟨rfl, .int .i64 (xs.length : Int), by go_simp, fun u hu => Option.some.inj hu⟩
    · refine stepPure rfl rfl (by kernel_rfl) (by kernel_rfl) (by kernel_rfl) (by kernel_rfl) fun L a W hI hk hd => ?_
      have e15 := Rb.at hI 5 15 (hd 5 rfl) rfl rfl
      have hu := HU.out
      exact ⟨rfl, .int .u64 (xs.length : Int), by go_simp, fun u hu => Option.some.inj hu⟩
    · refine stepCall (r0 := ⟨7, 17, bn, none⟩) HINJ.out (by simp [bytX]) rfl rfl rfl rfl (by kernel_rfl) (show 17 < 79 from by decide) (by kernel_rfl) rfl fun L a W hI hk hd => ?_
      have e16 := Rb.at hI 6 16 (hd 6 rfl) rfl rfl
      exact ⟨rfl, 15, #[.int .u64 (xs.length : Int)], by go_simp, HD2.out W⟩
    · refine stepApp (r0 := ⟨8, 18, bx ++ bn, some 9⟩) (r1 := ⟨2, 12, bx, some 8⟩) (r2 := ⟨7, 17, bn, none⟩) HINJ.out (by simp [bytX]) rfl rfl (by simp [bytX]) rfl (show (2 : Nat) ≠ 8 from by decide) (by simp [bytX]) rfl (show (7 : Nat) ≠ 8 from by decide) (show (2 : Nat) ≠ 7 from by decide) rfl HL12.out rfl rfl (by kernel_rfl) (show 18 < 79 from by decide) (by kernel_rfl) rfl rfl rfl rfl fun a W u v w9 W9 h1 h2 h3 => ?_
      have h1 : a.eval (.tmp 12) = u := h1
      have h2 : a.eval (.tmp 17) = v := h2
      unfold execOp
      simp only [resolve, invoke, builtin, Sem.run_bind, Sem.run_pure, Result.andThen_ok, List.map_toArray, List.map_cons, List.map_nil, h1, h2, h3]
    · exact stepPass (r0 := ⟨9, 3, bx ++ bn, none⟩) (r1 := ⟨8, 18, bx ++ bn, some 9⟩) HINJ.out (by simp [bytX]) rfl rfl (by simp [bytX]) rfl (show (8 : Nat) ≠ 9 from by decide) rfl rfl rfl (by kernel_rfl) (show 3 < 79 from by decide) (fun m h => by cases h) rfl rfl rfl rfl
  · intro a W L hL hI
    have g := hI.glob
    have hr := g.row ⟨9, 3, bx ++ bn, none⟩ (by simp [bytX]) ⟨hL 9 (by decide), fun _ h => (by cases h)⟩
    have HR3 := Lib.hid (show RowB W w1.heap.size (a.eval (.tmp 3)) ((bx ++ bn) ++ (its (xs.take 0)).flatMap byI) from by
      have hr2 : RowB W w1.heap.size (a.eval (.tmp 3)) (bx ++ bn) := hr
      simpa [its] using hr2)
    have HBW := Lib.hid (show Below w1.heap.size w1 W from g.bel)
    rw [hI.frame]
    simp only [List.filterMap, List.foldl]
    clear hr g hI hL HINJ HD1 HD2
    generalize a.eval (.tmp 3) = v3 at HR3 ⊢
    generalize a.eval (.tmp 10) = v10
    generalize a.eval (.tmp 11) = v11
    generalize a.eval (.tmp 12) = v12
    generalize a.eval (.tmp 13) = v13
    generalize a.eval (.tmp 14) = v14
    generalize a.eval (.tmp 15) = v15
    generalize a.eval (.tmp 16) = v16
    generalize a.eval (.tmp 17) = v17
    generalize a.eval (.tmp 18) = v18
    go_wp2_with fail
    go_loopw [3, 4] (fun v i wr => ∃ k : Nat, k ≤ xs.length ∧ i = .int .i64 k ∧ Hid (RowB wr w1.heap.size v ((bx ++ bn) ++ (its (xs.take k)).flatMap byI)) ∧ Hid (Below w1.heap.size w1 wr)) (fun _ i _ => xs.length - (intOf i).toNat)
    case atStart => exact ⟨0, by omega, rfl, HR3, HBW⟩
    case round =>
      clear HR3 HBW
      obtain ⟨k, hk, rfl, HO, HB⟩ := hrel
      obtain ⟨c0, c1, c2⟩ := HBOX.out wr HB.out
      have hkb := HXL.out
      by_cases hlt : k < xs.length
      · have i0 : (k : Int) < (xs.length : Int) := by omega
        obtain ⟨b, off, x, rfl, hbl, hx1, _, hc0', hc1', hok⟩ := HX.out.cells (j := k) hlt
        obtain ⟨nm, A, cA, ms⟩ := x
        have hc0 := (HB.out.cell (p := ⟨b, off + k * 2, none⟩) hbl).trans hc0'
        have hc1 := (HB.out.cell (p := ⟨b, off + k * 2 + 1, none⟩) hbl).trans hc1'
        have hmx : nm.length ≤ 1000 ∧ ms.length ≤ 1000 ∧ ∀ m ∈ ms, m.t < 18446744073709551616 := HIT.out _ (List.mem_of_getElem? hx1)
        have hokm : MarksAt w1 A ms := hok.1
        have HSTEP := Lib.hid (show (bx ++ bn) ++ (its (xs.take (k + 1))).flatMap byI = ((((bx ++ bn) ++ (its (xs.take k)).flatMap byI) ++ byS nm) ++ enc ms.length) ++ ms.flatMap byM from by rw [takeI_snoc hx1]; simp [byI, byL, ItV.it])
        have hal : ((bx ++ bn) ++ (its (xs.take k)).flatMap byI).length ≤ 100000000 := by
          have h2 := flat_le (f := byI) (k := 41020) (l := its (xs.take k)) fun y hy => by
            obtain ⟨z, hz, rfl⟩ := List.mem_map.1 hy
            have := HIT.out z (List.mem_of_mem_take hz)
            exact byI_len this.1 this.2.1 this.2.2
          have h3 : (its (xs.take k)).length ≤ 1000 := by have := HXL.out; simp [its]; omega
          have h4 := Nat.mul_le_mul_right 41020 h3
          have := HL1.out.1
          have := HL1.out.2
          rw [List.length_append, List.length_append]
          omega
        have HDS := Lib.hid fun (W : World) => refString14 nm W hmx.1
        have HDN := Lib.hid fun (W : World) => refNumber ms.length ms.length W (Nat.le_refl _) (by have := hmx.2.1; omega)
        have HUM := Lib.hid (u64_id (n := ms.length) (by have := hmx.2.1; omega))
        have hls := byS_le hmx.1 (by decide)
        have hln := enc_ten (n := ms.length) (by have := hmx.2.1; omega)
        obtain ⟨bs, hbs⟩ : ∃ bs, byS nm = bs := ⟨_, rfl⟩
        obtain ⟨bm, hbm⟩ : ∃ bm, enc ms.length = bm := ⟨_, rfl⟩
        rw [hbs] at HSTEP HDS hls
        rw [hbm] at HSTEP HDN hln
        generalize (bx ++ bn) ++ (its (xs.take k)).flatMap byI = acc at HO HSTEP hal
        have HLS := Lib.hid (show acc.length + bs.length ≤ 1000000000 ∧ (acc ++ bs).length + bm.length ≤ 1000000000 from by rw [List.length_append]; omega)
        have HAL := Lib.hid (show ((acc ++ bs) ++ bm).length ≤ 200000000 from by rw [List.length_append, List.length_append]; omega)
        obtain ⟨D, d, rfl, _, _, _⟩ := SlAt.of_own encB_len HO.out
        have hba : Below wr.heap.size wr (wr.alloc (.cells #[.string ⟨nm.toArray⟩, .slice A ms.length cA] 57)) := (Below.refl _ wr).alloc (Nat.le_refl _) _
        have HB5 := Lib.hid (BlkI.new wr ⟨nm, A, cA, ms⟩)
        have HO5 := Lib.hid (HO.out.below hba)
        have HBE := Lib.hid (below_trans HB.out hba)
        have HMX := Lib.hid hmx
        have HMA := Lib.hid hokm
        clear hbs hbm hls hln hal hba hok hmx hokm HO HB hc0' hc1'
        go_upto_region 6 with fail
        clear hc0 hc1 hx1 hbl c0 c1 c2
        generalize wr.alloc (.cells #[.string ⟨nm.toArray⟩, .slice A ms.length cA] 57) = w5 at HB5 HO5 HBE ⊢
        generalize wr.heap.size = g5 at HB5 ⊢
        have HB5C := Lib.hid fun (W : World) (hW : Chg (fun k => (Value.slice D acc.length d).ownBlock = some k) w5 W) => (show BlkI W g5 ⟨nm, A, cA, ms⟩ from hW.box HB5.out (row_neB HO5.out HB5.out (by decide)))
        have HINJ := Lib.hid (show ∀ q ∈ (itmX w1 w5 (.slice D acc.length d) acc bs bm g5 nm A ms.length cA).rows, ∀ q' ∈ (itmX w1 w5 (.slice D acc.length d) acc bs bm g5 nm A ms.length cA).rows, q.j = q'.j → q = q' from inj_of (show ([0, 3, 4, 9, 10, 11] : List Nat).Nodup from by decide))
        refine wp_region_T (S := Rb.S (itmX w1 w5 (.slice D acc.length d) acc bs bm g5 nm A ms.length cA)) (by kernel_rfl) (by kernel_rfl) (by kernel_rfl) (dst_small (n := 79) (by kernel_rfl)) (Rb.G.start HBE.out rfl (by rfl) (fun _ _ => ⟨by rfl, HO5.out⟩)) ?_ ?_
        · refine ⟨?_, ?_, ?_, ?_, ?_, ?_, ?_, ?_, ?_, ?_, ?_, ?_, trivial⟩
          · exact stepMove (r0 := ⟨0, 31, acc, some 4⟩) HINJ.out (by simp [itmX]) rfl rfl rfl rfl rfl (by kernel_rfl) (show 31 < 79 from by decide) rfl rfl rfl rfl
          · refine stepPure rfl rfl (by kernel_rfl) (by kernel_rfl) (by kernel_rfl) (by kernel_rfl) fun L a W hI hk hd => ?_
            have e5 : a.tmps[5]?.getD undef = .pointer (some ⟨g5, 0, none⟩) := hI.at 5 (by kernel_rfl)
            exact ⟨rfl, .pointer (some ⟨g5, 0, none⟩), by go_simp, fun u hu => Option.some.inj hu⟩
          · refine stepPure rfl rfl (by kernel_rfl) (by kernel_rfl) (by kernel_rfl) (by kernel_rfl) fun L a W hI hk hd => ?_
            have e32 := Rb.at hI 1 32 (hd 1 rfl) rfl rfl
            have q0 := (HB5C.out W hI.glob.chg).cell0
            have q1 := (HB5C.out W hI.glob.chg).cell1
            exact ⟨rfl, .string ⟨nm.toArray⟩, by go_simp, fun u hu => Option.some.inj hu⟩
          · refine stepCall (r0 := ⟨3, 34, bs, none⟩) HINJ.out (by simp [itmX]) rfl rfl rfl rfl (by kernel_rfl) (show 34 < 79 from by decide) (by kernel_rfl) rfl fun L a W hI hk hd => ?_
            have e33 := Rb.at hI 2 33 (hd 2 rfl) rfl rfl
            exact ⟨rfl, 25, #[.string ⟨nm.toArray⟩], by go_simp, HDS.out W⟩
          · refine stepApp (r0 := ⟨4, 35, acc ++ bs, some 10⟩) (r1 := ⟨0, 31, acc, some 4⟩) (r2 := ⟨3, 34, bs, none⟩) HINJ.out (by simp [itmX]) rfl rfl (by simp [itmX]) rfl (show (0 : Nat) ≠ 4 from by decide) (by simp [itmX]) rfl (show (3 : Nat) ≠ 4 from by decide) (show (0 : Nat) ≠ 3 from by decide) rfl HLS.out.1 rfl rfl (by kernel_rfl) (show 35 < 79 from by decide) (by kernel_rfl) rfl rfl rfl rfl fun a W u v w9 W9 h1 h2 h3 => ?_
            have h1 : a.eval (.tmp 31) = u := h1
            have h2 : a.eval (.tmp 34) = v := h2
            unfold execOp
            simp only [resolve, invoke, builtin, Sem.run_bind, Sem.run_pure, Result.andThen_ok, List.map_toArray, List.map_cons, List.map_nil, h1, h2, h3]
          · refine stepPure rfl rfl (by kernel_rfl) (by kernel_rfl) (by kernel_rfl) (by kernel_rfl) fun L a W hI hk hd => ?_
            have e5 : a.tmps[5]?.getD undef = .pointer (some ⟨g5, 0, none⟩) := hI.at 5 (by kernel_rfl)
            exact ⟨rfl, .pointer (some ⟨g5, 1, none⟩), by go_simp, fun u hu => Option.some.inj hu⟩
          · refine stepPure rfl rfl (by kernel_rfl) (by kernel_rfl) (by kernel_rfl) (by kernel_rfl) fun L a W hI hk hd => ?_
            have e36 := Rb.at hI 5 36 (hd 5 rfl) rfl rfl
            have q0 := (HB5C.out W hI.glob.chg).cell0
            have q1 := (HB5C.out W hI.glob.chg).cell1
            exact ⟨rfl, .slice A ms.length cA, by go_simp, fun u hu => Option.some.inj hu⟩
          · refine stepPure rfl rfl (by kernel_rfl) (by kernel_rfl) (by kernel_rfl) (by kernel_rfl) fun L a W hI hk hd => ?_
            have e37 := Rb.at hI 6 37 (hd 6 rfl) rfl rfl
            exact ⟨rfl, .int .i64 (ms.length : Int), by go_simp, fun u hu => Option.some.inj hu⟩
          · refine stepPure rfl rfl (by kernel_rfl) (by kernel_rfl) (by kernel_rfl) (by kernel_rfl) fun L a W hI hk hd => ?_
            have e38 := Rb.at hI 7 38 (hd 7 rfl) rfl rfl
            have hu := HUM.out
            exact ⟨rfl, .int .u64 (ms.length : Int), by go_simp, fun u hu => Option.some.inj hu⟩
          · refine stepCall (r0 := ⟨9, 40, bm, none⟩) HINJ.out (by simp [itmX]) rfl rfl rfl rfl (by kernel_rfl) (show 40 < 79 from by decide) (by kernel_rfl) rfl fun L a W hI hk hd => ?_
            have e39 := Rb.at hI 8 39 (hd 8 rfl) rfl rfl
            exact ⟨rfl, 15, #[.int .u64 (ms.length : Int)], by go_simp, HDN.out W⟩
          · refine stepApp (r0 := ⟨10, 41, (acc ++ bs) ++ bm, some 11⟩) (r1 := ⟨4, 35, acc ++ bs, some 10⟩) (r2 := ⟨9, 40, bm, none⟩) HINJ.out (by simp [itmX]) rfl rfl (by simp [itmX]) rfl (show (4 : Nat) ≠ 10 from by decide) (by simp [itmX]) rfl (show (9 : Nat) ≠ 10 from by decide) (show (4 : Nat) ≠ 9 from by decide) rfl HLS.out.2 rfl rfl (by kernel_rfl) (show 41 < 79 from by decide) (by kernel_rfl) rfl rfl rfl rfl fun a W u v w9 W9 h1 h2 h3 => ?_
            have h1 : a.eval (.tmp 35) = u := h1
            have h2 : a.eval (.tmp 40) = v := h2
            unfold execOp
            simp only [resolve, invoke, builtin, Sem.run_bind, Sem.run_pure, Result.andThen_ok, List.map_toArray, List.map_cons, List.map_nil, h1, h2, h3]
          · exact stepPass (r0 := ⟨11, 3, (acc ++ bs) ++ bm, none⟩) (r1 := ⟨10, 41, (acc ++ bs) ++ bm, some 11⟩) HINJ.out (by simp [itmX]) rfl rfl (by simp [itmX]) rfl (show (10 : Nat) ≠ 11 from by decide) rfl rfl rfl (by kernel_rfl) (show 3 < 79 from by decide) (fun m h => Option.some.inj h ▸ rfl) rfl rfl rfl rfl
        · intro a6 W6 L6 hL6 hI6
          have g6 := hI6.glob
          have hr := g6.row ⟨11, 3, (acc ++ bs) ++ bm, none⟩ (by simp [itmX]) ⟨hL6 11 (by decide), fun _ h => (by cases h)⟩
          have HR3 := Lib.hid (show RowB W6 w1.heap.size (a6.eval (.tmp 3)) (((acc ++ bs) ++ bm) ++ (ms.take 0).flatMap byM) from by
            have hr2 : RowB W6 w1.heap.size (a6.eval (.tmp 3)) ((acc ++ bs) ++ bm) := hr
            simpa using hr2)
          have HBW := Lib.hid (show Below w1.heap.size w1 W6 from g6.bel)
          have HB6 := Lib.hid (HB5C.out W6 g6.chg)
          rw [hI6.frame]
          simp only [List.filterMap, List.foldl]
          clear hr g6 hI6 hL6 HINJ HDS HDN HB5C HB5 HO5 HBE HLS HUM
          generalize a6.eval (.tmp 3) = v3 at HR3 ⊢
          generalize a6.eval (.tmp 31) = v31
          generalize a6.eval (.tmp 32) = v32
          generalize a6.eval (.tmp 33) = v33
          generalize a6.eval (.tmp 34) = v34
          generalize a6.eval (.tmp 35) = v35
          generalize a6.eval (.tmp 36) = v36
          generalize a6.eval (.tmp 37) = v37
          generalize a6.eval (.tmp 38) = v38
          generalize a6.eval (.tmp 39) = v39
          generalize a6.eval (.tmp 40) = v40
          generalize a6.eval (.tmp 41) = v41
          generalize (acc ++ bs) ++ bm = ac6 at HR3 HAL HSTEP
          go_wp2_with fail
          go_loopw [3, 6] (fun v i wq => ∃ j : Nat, j ≤ ms.length ∧ i = .int .i64 j ∧ Hid (RowB wq w1.heap.size v (ac6 ++ (ms.take j).flatMap byM)) ∧ Hid (Below w1.heap.size w1 wq) ∧ Hid (BlkI wq g5 ⟨nm, A, cA, ms⟩)) (fun _ i _ => ms.length - (intOf i).toNat)
          case atStart => exact ⟨0, by omega, rfl, HR3, HBW, HB6⟩
          case round =>
            clear HR3 HBW HB6
            obtain ⟨j, hj, rfl, HO, HB, HQ⟩ := hrel
            have p0 := HQ.out.cell0
            have p1 := HQ.out.cell1
            have hgl := HQ.out.lt
            have hmb : ms.length ≤ 1000 := HMX.out.2.1
            by_cases hlt2 : j < ms.length
            · have j0 : (j : Int) < (ms.length : Int) := by omega
              obtain ⟨b2, off2, m, rfl, hbl2, hm1, _, d0', d1', d2', d3'⟩ := SlAt.mark HMA.out (j := j) hlt2
              obtain ⟨r, c, q, t⟩ := m
              have d0 := (HB.out.cell (p := ⟨b2, off2 + j * 4, none⟩) hbl2).trans d0'
              have d1 := (HB.out.cell (p := ⟨b2, off2 + j * 4 + 1, none⟩) hbl2).trans d1'
              have d2 := (HB.out.cell (p := ⟨b2, off2 + j * 4 + 2, none⟩) hbl2).trans d2'
              have d3 := (HB.out.cell (p := ⟨b2, off2 + j * 4 + 3, none⟩) hbl2).trans d3'
              have ht64 : t < 18446744073709551616 := HMX.out.2.2 _ (List.mem_of_getElem? hm1)
              obtain ⟨mr, hwr, hbr, hmr⟩ := u64_byZ r
              obtain ⟨mc, hwc, hbc, hmc⟩ := u64_byZ c
              obtain ⟨mq, hwq, hbq, hmq⟩ := u64_byZ q
              have HNS := Lib.hid (show ∀ n ∈ nsM mr mc mq t, n < 18446744073709551616 from fun n hn => by simp [nsM] at hn; rcases hn with rfl | rfl | rfl | rfl <;> assumption)
              have HST := Lib.hid (show ac6 ++ (ms.take (j + 1)).flatMap byM = (ac6 ++ (ms.take j).flatMap byM) ++ ((nsM mr mc mq t).take 4).flatMap enc from by rw [take_snoc hm1, List.flatMap_append]; simp [byM, nsM, hbr, hbc, hbq])
              have hal : (ac6 ++ (ms.take j).flatMap byM).length ≤ 300000000 := by
                have h2 := flat_le (f := byM) (k := 40) (l := ms.take j) fun y hy => byM_le (HMX.out.2.2 _ (List.mem_of_mem_take hy))
                have h3 : (ms.take j).length ≤ 1000 := by rw [List.length_take]; have := HMX.out.2.1; omega
                have := HAL.out
                rw [List.length_append]
                omega
              have HA7 := Lib.hid hal
              have hba : BelW wr ((wr.alloc (.cells #[.int .i64 r, .int .i64 c, .int .i64 q, .int .u64 (t : Int)] 54)).alloc (.cells #[.int .u64 (mr : Int), .int .u64 (mc : Int), .int .u64 (mq : Int), .int .u64 (t : Int)] 42)) := ((Below.refl _ wr).alloc (Nat.le_refl _) _).alloc (by simp) _
              have HB7 := Lib.hid (below_trans HB.out hba)
              have HQ7 := Lib.hid (HQ.out.below hba)
              have h7 : ((wr.alloc (.cells #[.int .i64 r, .int .i64 c, .int .i64 q, .int .u64 (t : Int)] 54)).alloc (.cells #[.int .u64 (mr : Int), .int .u64 (mc : Int), .int .u64 (mq : Int), .int .u64 (t : Int)] 42)).heap[wr.heap.size + 1]? = some (.cells #[.int .u64 (mr : Int), .int .u64 (mc : Int), .int .u64 (mq : Int), .int .u64 (t : Int)] 42 (0, 0)) := by
                have := heap_alloc_new (wr.alloc (.cells #[.int .i64 r, .int .i64 c, .int .i64 q, .int .u64 (t : Int)] 54)) (.cells #[.int .u64 (mr : Int), .int .u64 (mc : Int), .int .u64 (mq : Int), .int .u64 (t : Int)] 42)
                simpa using this
              have H7 := Lib.hid h7
              have HO7 := Lib.hid (show RowB _ w1.heap.size _ ((ac6 ++ (ms.take j).flatMap byM) ++ ((nsM mr mc mq t).take 0).flatMap enc) from by
                have := HO.out.below hba
                simpa using this)
              obtain ⟨D7, e7, rfl, _, _, _⟩ := SlAt.of_own encB_len HO.out
              clear hal hba h7 HO HB HQ hbr hbc hbq d0' d1' d2' d3' hm1 hmr hmc hmq ht64
              generalize (ac6 ++ (ms.take j).flatMap byM) = ac7 at HO7 HST HA7 ⊢
              go_wp2_with fail
              go_loopw [3, 69] (fun v i wy => ∃ p : Nat, p ≤ 4 ∧ i = .int .i64 p ∧ Hid (RowB wy w1.heap.size v (ac7 ++ ((nsM mr mc mq t).take p).flatMap enc)) ∧ Hid (Below w1.heap.size w1 wy) ∧ Hid (BlkI wy g5 ⟨nm, some ⟨b2, off2, none⟩, cA, ms⟩) ∧ Hid (wy.heap[wr.heap.size + 1]? = some (.cells #[.int .u64 (mr : Int), .int .u64 (mc : Int), .int .u64 (mq : Int), .int .u64 (t : Int)] 42 (0, 0)))) (fun _ i _ => 4 - (intOf i).toNat)
              case atStart => exact ⟨0, by omega, rfl, HO7, HB7, HQ7, H7⟩
              case round =>
                clear HO7 HB7 HQ7 H7
                obtain ⟨p, hp, rfl, HO, HB, HQ, H7⟩ := hrel
                by_cases hlt3 : p < 4
                · have j3 : (p : Int) < 4 := by omega
                  obtain ⟨n, hn, l0⟩ := box4 H7.out hlt3
                  have hn64 := HNS.out n (List.mem_of_getElem? hn)
                  have HST3 := Lib.hid (show ac7 ++ ((nsM mr mc mq t).take (p + 1)).flatMap enc = (ac7 ++ ((nsM mr mc mq t).take p).flatMap enc) ++ enc n from by rw [take_snoc hn, List.flatMap_append]; simp)
                  have ha8 : (ac7 ++ ((nsM mr mc mq t).take p).flatMap enc).length ≤ 300000040 := by
                    have h2 := flat_le (f := enc) (k := 10) (l := (nsM mr mc mq t).take p) fun y hy => enc_ten (HNS.out y (List.mem_of_mem_take hy))
                    have h3 : ((nsM mr mc mq t).take p).length ≤ 4 := by rw [List.length_take]; omega
                    have := HA7.out
                    rw [List.length_append]
                    omega
                  have hn10 := enc_ten hn64
                  have HNN := Lib.hid fun (W : World) => HN.out n W hn64
                  obtain ⟨D8, e8, rfl, _, _, _⟩ := SlAt.of_own encB_len HO.out
                  clear hn hn64
                  generalize ac7 ++ ((nsM mr mc mq t).take p).flatMap enc = ac8 at HO HST3 ha8 ⊢
                  have HA8 := Lib.hid (And.intro ha8 hn10)
                  clear ha8 hn10
                  go_wp2_with fail
                  refine (HNN.out _).mono ?_
                  rintro e wx ⟨⟨A9, c9, rfl, ho9⟩, hb9⟩
                  have HO8 := Lib.hid (HO.out.below hb9)
                  have HB8 := Lib.hid (below_trans HB.out hb9)
                  have HQ8 := Lib.hid (HQ.out.below hb9)
                  have H78 := Lib.hid ((hb9.block _ (Array.getElem?_eq_some_iff.1 H7.out).1).trans H7.out)
                  have HAT := Lib.hid (show BytesAt wx A9 (enc n) from by
                    obtain ⟨A', c', e9, _, _, hat9⟩ := SlAt.of_own encB_len ho9
                    cases e9
                    exact hat9)
                  clear ho9 hb9 l0 HO HB HQ H7
                  go_wp2_with (at_builtin; refine wpList_append_sl _ encB 1 rfl (.tmp 73) (.tmp 75) 22 rfl encB_len (by omega) encB_one w1.heap.size 5 ti0 _ 1 Tryz.underlying22 hi0 hz0 hz1 hz2 rfl _ ac8 rfl HO8.out _ _ c9 (enc n) rfl rfl HAT.out (Nat.le_trans (show ac8.length + (enc n).length ≤ 400000000 from by have := HA8.out.1; have := HA8.out.2; omega) (by decide)) (by have := HA8.out.1; have := HA8.out.2; omega) HB8.out.size ?_; intro v1 w2 hown1 hg1 hat1; have HOn := Lib.hid (show RowB w2 w1.heap.size v1 (ac8 ++ enc n) from hown1); have HBn := Lib.hid (HB8.out.grown hg1 HB8.out.size (fun _ hk => (HO8.out.lt hk).1)); have HQn := Lib.hid (show BlkI w2 g5 ⟨nm, some ⟨b2, off2, none⟩, cA, ms⟩ from (Chg.of_grown hg1 (fun _ e => e)).box HQ8.out (row_neB HO8.out HQ8.out (by decide))); have H7n := Lib.hid ((Chg.of_grown hg1 (fun _ e => e)).box H78.out (row_neB HO8.out H78.out (by decide))); clear hown1 hg1 hat1)
                  go_roundw
                  case rel => exact ⟨p + 1, by omega, by go_num, by rw [HST3.out]; exact HOn, HBn, HQn, H7n⟩
                  case measure => simp [intOf]; omega
                · have j3 : ¬ (p : Int) < 4 := by omega
                  obtain rfl : p = 4 := by omega
                  have ho := HO.out
                  rw [← HST.out] at ho
                  have HOe := Lib.hid ho
                  clear ho HO HST
                  go_wp2_with fail
                  go_roundw
                  case rel => exact ⟨j + 1, by omega, by go_num, HOe, HB, HQ⟩
                  case measure => simp [intOf]; omega
            · have j0 : ¬ (j : Int) < (ms.length : Int) := by omega
              obtain rfl : j = ms.length := by omega
              have ho := HO.out
              rw [List.take_length, ← HSTEP.out] at ho
              have HOe := Lib.hid ho
              clear ho HO HSTEP
              go_wp2_with fail
              go_roundw
              case rel => exact ⟨k + 1, by omega, by go_num, HOe, HB⟩
              case measure => simp [intOf]; omega
      · have i0 : ¬ (k : Int) < (xs.length : Int) := by omega
        obtain rfl : k = xs.length := by omega
        have ho := HO.out
        rw [List.take_length, ← HE.out] at ho
        obtain ⟨zs, hzs⟩ : ∃ zs, byC ((vs, ls), its xs) = zs := ⟨_, rfl⟩
        have HZ := Lib.hid (show byC (CaV.ca ⟨V, nv, vs, Lc, nl, ls, I, ni, xs⟩) = zs from hzs)
        rw [hzs] at ho
        obtain ⟨D, d, rfl, _, _, _⟩ := SlAt.of_own encB_len ho
        have HEE := Lib.hid (show RowB wr w.heap.size _ zs from Go.Joins.ownsRow_le ho HB0.out.size)
        have HBE := Lib.hid (below_trans HB0.out HB.out)
        clear ho HO HB hzs c0 c1
        go_wp2_with fail
        go_ret
        exact MadeB.of (by rw [HZ.out]; exact HEE.out) HBE.out

end

section
open Go.RowKit

end

end Go.Proofs.YtpnemekkpifbaaaGreat
