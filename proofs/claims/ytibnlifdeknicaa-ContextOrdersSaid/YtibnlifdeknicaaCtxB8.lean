/- The law ContextOrders, from known. -/
import Derived.Test.YtibnlifdeknicaaCtxB6
namespace Go.Proofs.Ytibnlifdeknicaa
open Go.RowKit

set_option maxRecDepth 100000 in
set_option maxHeartbeats 4000000 in
theorem lawOrders3_e (KN : KnownOK) (v : Value) (vs ls m : List (Int × Int)) (X : Option Addr) (cx tt : Nat) (w : World) (h : HoldsC w v vs ls) (hx : Holds w (.slice X m.length cx) m) (ht : tt ≤ 255) (hl : (decide (vs.length ≤ 40) && decide (ls.length ≤ 40)) = true) (hm : m.length ≤ 40) (hv : validC vs ls = true) (hok : okL m = true) (h0 : 0 < m.length) :
    Calls Try.prog 7 #[v, .slice X m.length cx, .int .u8 (tt : Int)] w fun e w' => e = .returned (.bool true) ∧ Below w.heap.size w w' := by
  obtain ⟨A, n, B, k, rfl, h1, h2⟩ := h
  have K := Lib.hid ((((KX.nil w).push hx).push h1 |>.push h2).box (.slice A vs.length n) (.slice B ls.length k) 25)
  have HKN := Lib.hid KN
  clear h1 h2 hx KN
  have hcc : ∀ W, KX w [(⟨w.heap.size, 0, none⟩, .slice A vs.length n), (⟨w.heap.size, 1, none⟩, .slice B ls.length k)] [(.slice B ls.length k, ls), (.slice A vs.length n, vs), (.slice X m.length cx, m)] W → HoldsC W (.agg #[.slice A vs.length n, .slice B ls.length k]) vs ls ∧ Holds W (.slice X m.length cx) m ∧ W.cell? ⟨w.heap.size, 0, none⟩ = some (.slice A vs.length n) ∧ W.cell? ⟨w.heap.size, 1, none⟩ = some (.slice B ls.length k) :=
    fun W K => ⟨HoldsC.mk (K.h (by simp)) (K.h (by simp)), K.h (by simp), K.cell (by simp), K.cell (by simp)⟩
  have HCC := Lib.hid hcc
  clear hcc
  obtain ⟨b, off, hX⟩ : ∃ b off, X = some ⟨b, off, none⟩ := by
    obtain ⟨A', c', e, hd, _⟩ := (HCC.out _ K.out).2.1
    cases e
    obtain ⟨b, off, r, c, e, _⟩ := hd.dot (j := 0) h0
    exact ⟨b, off, e⟩
  subst hX
  have hl2 : vs.length ≤ 40 ∧ ls.length ≤ 40 := by simpa using hl
  have HL := Lib.hid fun W K => law3Light (.agg #[.slice A vs.length n, .slice B ls.length k]) vs ls true W (HCC.out W K).1 hl
  have i1 : (m.length : Int) ≤ 40 := by omega
  have HV := Lib.hid fun W K => ref3Valid (.agg #[.slice A vs.length n, .slice B ls.length k]) vs ls true W (HCC.out W K).1 hv
  have HD := Lib.hid fun W K => ref3Dots_h (.slice (some ⟨b, off, none⟩) m.length cx) m true W (HCC.out W K).2.1 hok
  have hall := (okL_iff m).1 hok
  obtain ⟨us, rs, hz⟩ : ∃ us rs, addC vs ls m = (us, rs) := ⟨_, _, rfl⟩
  have hul := add_len hv hall hz
  have hco : compC us rs = true := by have := addC_comp hv hall; rw [hz] at this; exact this
  have HA := Lib.hid fun W (h : HoldsC W (.agg #[.slice A vs.length n, .slice B ls.length k]) vs ls) (h' : Holds W (.slice (some ⟨b, off, none⟩) m.length cx) m) => ctxAdd_t (.agg #[.slice A vs.length n, .slice B ls.length k]) (.slice (some ⟨b, off, none⟩) m.length cx) vs ls m us rs W h h' hv hok (by omega) hz
  have HE := Lib.hid fun W x y (h : HoldsC W x us rs) (h' : HoldsC W y us rs) => ref3Equal x y us rs us rs true W h h' (by simp)
  have HIC := Lib.hid fun W x (h : HoldsC W x us rs) => ctxIsCompact x us rs true W h (by omega) hco
  have HMI := Lib.hid fun W x (h : HoldsC W x us rs) (h' : Holds W (.slice (some ⟨b, off, none⟩) m.length cx) m) => ctxMissing_none x (some ⟨b, off, none⟩) cx us rs m W h h' (validC_iff.1 (compC_iff.1 hco).2).1 (by omega) (miss_none hv hall hz)
  have i2 : (0 : Int) < (m.length : Int) := by omega
  have HL2 := Lib.hid hl2
  have HMM := Lib.hid hm
  have HVV := Lib.hid hv
  have HZ := Lib.hid hz
  have HALL := Lib.hid hall
  have H0 := Lib.hid h0
  have HT := Lib.hid ht
  clear hl hl2 hm hv hok hall hz hul hco h0 ht
  go_enter Try.func7, Try.ntmps7
  go_wp2_with fail
  refine (HL.out _ K.out).mono ?_
  rintro e w1 ⟨rfl, hb1⟩
  have K1 := Lib.hid (K.out.below hb1)
  clear hb1
  obtain ⟨_, _, j0, j1⟩ := HCC.out _ K1.out
  go_wp2_with fail
  refine (HV.out _ K1.out).mono ?_
  rintro e w2 ⟨rfl, hb1⟩
  have K2 := Lib.hid (K1.out.below hb1)
  clear hb1 j0 j1
  obtain ⟨_, _, j0, j1⟩ := HCC.out _ K2.out
  go_wp2_with fail
  refine (HD.out _ K2.out).mono ?_
  rintro e w3 ⟨rfl, hb1⟩
  have K3 := Lib.hid (K2.out.below hb1)
  clear hb1 j0 j1
  obtain ⟨a1, a2, j0, j1⟩ := HCC.out _ K3.out
  go_wp2_with fail
  refine (HA.out _ a1 a2).mono ?_
  rintro e w4 ⟨⟨A4, n4, B4, k4, rfl, hv4, hw4⟩, hb1⟩
  have K4 := ((K3.out.below hb1).push hv4.holds).push hw4.holds
  have K5 := ((K4.box (.slice A4 us.length n4) (.slice B4 rs.length k4) 25).box (.slice A vs.length n) (.slice B ls.length k) 25)
  have B9 : Blk2 ((w4.alloc (.cells #[.slice A4 us.length n4, .slice B4 rs.length k4] 25)).alloc (.cells #[.slice A vs.length n, .slice B ls.length k] 25)) (w4.heap.size + 1) (.slice A vs.length n) (.slice B ls.length k) := by
    have h := heap_alloc_new (w4.alloc (.cells #[.slice A4 us.length n4, .slice B4 rs.length k4] 25)) (.cells #[.slice A vs.length n, .slice B ls.length k] 25)
    rwa [World.size_alloc] at h
  rw [World.size_alloc] at K5
  have j0 := (K3.out.below hb1).cell (a := ⟨w.heap.size, 0, none⟩) (v := .slice A vs.length n) (by simp)
  have j1 := (K3.out.below hb1).cell (a := ⟨w.heap.size, 1, none⟩) (v := .slice B ls.length k) (by simp)
  have K6 := Lib.hid (KX.drop2 K5)
  have hsz : w.heap.size + 1 ≤ w4.heap.size := K4.lt (a := ⟨w.heap.size, 0, none⟩) (v := .slice A vs.length n) (by simp)
  have HO : Hid (OrdR w [(⟨w4.heap.size, 0, none⟩, .slice A4 us.length n4), (⟨w4.heap.size, 1, none⟩, .slice B4 rs.length k4), (⟨w.heap.size, 0, none⟩, .slice A vs.length n), (⟨w.heap.size, 1, none⟩, .slice B ls.length k)] [(.slice B4 rs.length k4, rs), (.slice A4 us.length n4, us), (.slice B ls.length k, ls), (.slice A vs.length n, vs), (.slice (some ⟨b, off, none⟩) m.length cx, m)] (w4.heap.size + 1) vs ls ((w4.alloc (.cells #[.slice A4 us.length n4, .slice B4 rs.length k4] 25)).alloc (.cells #[.slice A vs.length n, .slice B ls.length k] 25))) := ⟨A, n, B, k, B9, K5.h (by simp), K5.h (by simp), K6.out, by omega, by intro p hp; simp at hp; rcases hp with rfl | rfl | rfl | rfl <;> (dsimp only; omega)⟩
  have hne : ¬ w.heap.size = w4.heap.size := by omega
  have hlt9 : w.heap.size < w4.heap.size := hsz
  clear hb1 hv4 hw4 K4 K5 B9 K K1 K2 K3 K6 a1 a2 hsz
  go_wp2_with fail
  clear j0 j1 hne hlt9
  generalize ((w4.alloc (.cells #[.slice A4 us.length n4, .slice B4 rs.length k4] 25)).alloc (.cells #[.slice A vs.length n, .slice B ls.length k] 25)) = W6 at HO ⊢
  go_loopw [8, 41] (fun e i wr => ∃ (j : Nat) (vk lk : List (Int × Int)), e = .int .i64 0 ∧ j ≤ m.length ∧ i = .int .i64 j ∧ Hid (stC vs ls (turnL m tt j) = (vk, lk)) ∧ Hid (OrdR w [(⟨w4.heap.size, 0, none⟩, .slice A4 us.length n4), (⟨w4.heap.size, 1, none⟩, .slice B4 rs.length k4), (⟨w.heap.size, 0, none⟩, .slice A vs.length n), (⟨w.heap.size, 1, none⟩, .slice B ls.length k)] [(.slice B4 rs.length k4, rs), (.slice A4 us.length n4, us), (.slice B ls.length k, ls), (.slice A vs.length n, vs), (.slice (some ⟨b, off, none⟩) m.length cx, m)] (w4.heap.size + 1) vk lk wr)) (fun _ i _ => m.length - (intOf i).toNat)
  case atStart => exact ⟨0, vs, ls, rfl, by omega, rfl, rfl, HO⟩
  case round =>
    obtain ⟨j, vk, lk, rfl, hj, rfl, hst, hord⟩ := hrel
    by_cases hlt : j < m.length
    · obtain ⟨A7, n7, B7, k7, hB7, hv7, hw7, hK7, hg7, hC7⟩ := hord.out
      obtain ⟨p, hp⟩ : ∃ p, (j + tt) % m.length = p := ⟨_, rfl⟩
      have hpl : p < m.length := by rw [← hp]; exact Nat.mod_lt _ (by omega)
      have hmp := List.getElem?_eq_getElem hpl
      obtain ⟨r, q, hrq⟩ : ∃ r q, m[p] = (r, q) := ⟨_, _, rfl⟩
      rw [hrq] at hmp
      have hgd : m.getD p (0, 0) = (r, q) := by rw [getD_at hpl, hrq]
      have hvd : validD r q = true := HALL.out (r, q) (by rw [← hrq]; exact List.getElem_mem hpl)
      have htv : ∀ d ∈ turnL m tt j, validD d.1 d.2 = true := fun d hd => HALL.out d (turnL_sub H0.out hd)
      have hle := stC_len HVV.out htv hst.out
      rw [turnL_len] at hle
      have hok1 : okL [(r, q)] = true := by simp [okL, hvd]
      have hvk : validC vk lk = true := by have := stC_valid HVV.out htv; rw [hst.out] at this; exact this
      obtain ⟨v8, l8, h8⟩ : ∃ v8 l8, addC vk lk [(r, q)] = (v8, l8) := ⟨_, _, rfl⟩
      have HNX : Hid (stC vs ls (turnL m tt (j + 1)) = (v8, l8)) := by
        show stC vs ls (turnL m tt (j + 1)) = (v8, l8)
        rw [turnL_succ, hp, hgd, stC_next HVV.out htv hvd hst.out, h8]
      obtain ⟨A9, c9, e9, hm9, hcap⟩ : ∃ A' c', Value.slice (some ⟨b, off, none⟩) m.length cx = .slice A' m.length c' ∧ DotsAt wr A' m ∧ m.length ≤ c' ∧ c' ≤ maxLen := hK7.h (v := .slice (some ⟨b, off, none⟩) m.length cx) (xs := m) (by simp)
      cases e9
      have hcut := (hm9.cut p cx hcap.1).take 1
      rw [if_neg (by have := hcap.1; omega)] at hcut
      simp only [Option.map_some, Addr_add] at hcut
      have hdr : (m.drop p).take 1 = [(r, q)] := by rw [List.drop_eq_getElem_cons hpl, List.take_succ_cons, List.take_zero, hrq]
      rw [hdr] at hcut
      have h1x : Holds wr (.slice (some ⟨b, off + p * 2, none⟩) 1 (cx - p)) [(r, q)] := ⟨_, _, rfl, hcut, by have := hcap.1; simp; omega, by have := hcap.2; omega⟩
      have HB := Lib.hid fun W (hb : Below wr.heap.size wr W) => ctxAdd_t (.agg #[.slice A7 vk.length n7, .slice B7 lk.length k7]) (.slice (some ⟨b, off + p * 2, none⟩) 1 (cx - p)) vk lk [(r, q)] v8 l8 W (HoldsC.mk (hv7.below hb) (hw7.below hb)) (h1x.below hb) hvk hok1 (by have := HL2.out; have := HMM.out; simp; omega) h8
      have hx7 := hB7.cell0
      have hy7 := hB7.cell1
      have K7 := Lib.hid hK7
      have HB7 := Lib.hid hB7
      have HC7 := Lib.hid hC7
      have e0 : IntKind.i64.wrap (tt : Int) = (tt : Int) := by have := HT.out; simp [IntKind.wrap, IntKind.bits, IntKind.signed]; omega
      have e1 : IntKind.i64.wrap ((j : Int) + (tt : Int)) = (j : Int) + (tt : Int) := by have := HT.out; simp [IntKind.wrap, IntKind.bits, IntKind.signed]; omega
      have e2 : ((j : Int) + (tt : Int)).tmod (m.length : Int) = (p : Int) := by rw [← hp]; rfl
      have e3 : IntKind.i64.wrap ((p : Int) + 1) = (p : Int) + 1 := by simp [IntKind.wrap, IntKind.bits, IntKind.signed]; omega
      have e4 : ((p : Int) + 1).toNat = p + 1 := by omega
      have b0 : (0 : Int) ≤ (p : Int) := by omega
      have b1 : (p : Int) ≤ (p : Int) + 1 := by omega
      have b2 : (p : Int) + 1 ≤ (cx : Int) := by have := hcap.1; omega
      have b3 : (0 : Int) ≤ (p : Int) + 1 := by omega
      have b4 : ¬ cx = p := by have := hcap.1; omega
      have b5 : p + 1 - p = 1 := by omega
      have z1 : ¬ ((m.length : Int) = 0) := by omega
      have z2 : ¬ (m.length = 0) := by omega
      have b6 : (j : Int) < (m.length : Int) := by omega
      clear hp hmp hrq hgd hvd htv hle hok1 hvk h8 hm9 hcap hcut hdr h1x hv7 hw7 hK7 hB7 hC7 hst hord
      go_wp2_with fail
      go_region_with (first
        | (go_at_call 37; refine (HB.out _ (Below.refl _ _).drew).mono ?_
           rintro e wa ⟨⟨A8, n8, B8, k8, rfl, hv8, hw8⟩, hb0⟩
           have hb8 := below_trans (Below.refl _ wr).drew hb0
           have hB8 := HB7.out.below hb8
           have c0 := hB8.cell0
           have c1 := hB8.cell1
           have f0 := hB8.frozen 0
           have f1 := hB8.frozen 1))
      all_goals
        have HO8 := Lib.hid (OrdR.store hB8 (by intro z; simp) (by intro z; simp) hv8.holds hw8.holds (K7.out.below hb8) hg7 HC7.out)
        go_wp2_with fail
        go_roundw
        case rel => exact ⟨j + 1, v8, l8, rfl, by omega, by go_num, HNX, HO8⟩
        case measure => simp [intOf]; omega
    · obtain rfl : j = m.length := by omega
      have hall := hst.out
      rw [stC_all H0.out, HZ.out] at hall
      cases hall
      obtain ⟨A8, n8, B8, k8, hB8, hv8, hw8, hK8, hg8, hC8⟩ := hord.out
      have K9 := Lib.hid (((hK8.push hv8).push hw8).add2 hB8)
      clear hB8 hv8 hw8 hK8 hg8 hC8 hst hord hj hlt
      have hqq : ∀ W, KX w [(⟨w4.heap.size + 1, 0, none⟩, .slice A8 us.length n8), (⟨w4.heap.size + 1, 1, none⟩, .slice B8 rs.length k8), (⟨w4.heap.size, 0, none⟩, .slice A4 us.length n4), (⟨w4.heap.size, 1, none⟩, .slice B4 rs.length k4), (⟨w.heap.size, 0, none⟩, .slice A vs.length n), (⟨w.heap.size, 1, none⟩, .slice B ls.length k)] [(.slice B8 rs.length k8, rs), (.slice A8 us.length n8, us), (.slice B4 rs.length k4, rs), (.slice A4 us.length n4, us), (.slice B ls.length k, ls), (.slice A vs.length n, vs), (.slice (some ⟨b, off, none⟩) m.length cx, m)] W → HoldsC W (.agg #[.slice A8 us.length n8, .slice B8 rs.length k8]) us rs ∧ HoldsC W (.agg #[.slice A4 us.length n4, .slice B4 rs.length k4]) us rs ∧ Holds W (.slice (some ⟨b, off, none⟩) m.length cx) m ∧ W.cell? ⟨w4.heap.size + 1, 0, none⟩ = some (.slice A8 us.length n8) ∧ W.cell? ⟨w4.heap.size + 1, 1, none⟩ = some (.slice B8 rs.length k8) ∧ W.cell? ⟨w4.heap.size, 0, none⟩ = some (.slice A4 us.length n4) ∧ W.cell? ⟨w4.heap.size, 1, none⟩ = some (.slice B4 rs.length k4) :=
        fun W K => ⟨HoldsC.mk (K.h (by simp)) (K.h (by simp)), HoldsC.mk (K.h (by simp)) (K.h (by simp)), K.h (by simp), K.cell (by simp), K.cell (by simp), K.cell (by simp), K.cell (by simp)⟩
      have HQ := Lib.hid hqq
      clear hqq
      obtain ⟨x1, x2, x3, j0, j1, j2, j3⟩ := HQ.out _ K9.out
      go_wp2_with fail
      refine (HE.out _ _ _ x1 x2).mono ?_
      rintro e w10 ⟨rfl, hb1⟩
      have K10 := Lib.hid (K9.out.below hb1)
      clear hb1 x1 x2 x3 j0 j1 j2 j3 K9
      obtain ⟨x1, x2, x3, j0, j1, j2, j3⟩ := HQ.out _ K10.out
      go_wp2_with fail
      refine (HIC.out _ _ x2).mono ?_
      rintro e w11 ⟨rfl, hb1⟩
      have K11 := Lib.hid (K10.out.below hb1)
      clear hb1 x1 x2 x3 j0 j1 j2 j3 K10
      obtain ⟨x1, x2, x3, j0, j1, j2, j3⟩ := HQ.out _ K11.out
      go_wp2_with fail
      refine (HMI.out _ _ x2 x3).mono ?_
      rintro e w12 ⟨⟨Am, cm, rfl⟩, hb1⟩
      have K12 := Lib.hid (K11.out.below hb1)
      clear hb1 x1 x2 x3 j0 j1 j2 j3 K11
      go_wp2_with fail
      refine (HKN.out _).mono ?_
      rintro e w13 ⟨rfl, hb1⟩
      have K13 := Lib.hid (K12.out.below hb1)
      clear hb1
      go_wp2
      go_ret
      exact ⟨rfl, K13.out.bel⟩

set_option maxRecDepth 100000 in
set_option maxHeartbeats 4000000 in
theorem lawOrders3_f (KN : KnownOK) (v : Value) (vs ls m : List (Int × Int)) (X : Option Addr) (cx tt : Nat) (w : World) (h : HoldsC w v vs ls) (hx : Holds w (.slice X m.length cx) m) (ht : tt ≤ 255) (hl : (decide (vs.length ≤ 40) && decide (ls.length ≤ 40)) = true) (hm : m.length ≤ 40) (hv : validC vs ls = true) (hok : okL m = true) (h0 : m = []) :
    Calls Try.prog 7 #[v, .slice X m.length cx, .int .u8 (tt : Int)] w fun e w' => e = .returned (.bool true) ∧ Below w.heap.size w w' := by
  obtain ⟨A, n, B, k, rfl, h1, h2⟩ := h
  have K := Lib.hid ((((KX.nil w).push hx).push h1 |>.push h2).box (.slice A vs.length n) (.slice B ls.length k) 25)
  have HKN := Lib.hid KN
  clear h1 h2 hx KN
  have hcc : ∀ W, KX w [(⟨w.heap.size, 0, none⟩, .slice A vs.length n), (⟨w.heap.size, 1, none⟩, .slice B ls.length k)] [(.slice B ls.length k, ls), (.slice A vs.length n, vs), (.slice X m.length cx, m)] W → HoldsC W (.agg #[.slice A vs.length n, .slice B ls.length k]) vs ls ∧ Holds W (.slice X m.length cx) m ∧ W.cell? ⟨w.heap.size, 0, none⟩ = some (.slice A vs.length n) ∧ W.cell? ⟨w.heap.size, 1, none⟩ = some (.slice B ls.length k) :=
    fun W K => ⟨HoldsC.mk (K.h (by simp)) (K.h (by simp)), K.h (by simp), K.cell (by simp), K.cell (by simp)⟩
  have HCC := Lib.hid hcc
  clear hcc
  have hl2 : vs.length ≤ 40 ∧ ls.length ≤ 40 := by simpa using hl
  have HL := Lib.hid fun W K => law3Light (.agg #[.slice A vs.length n, .slice B ls.length k]) vs ls true W (HCC.out W K).1 hl
  have i1 : (m.length : Int) ≤ 40 := by omega
  have HV := Lib.hid fun W K => ref3Valid (.agg #[.slice A vs.length n, .slice B ls.length k]) vs ls true W (HCC.out W K).1 hv
  have HD := Lib.hid fun W K => ref3Dots_h (.slice X m.length cx) m true W (HCC.out W K).2.1 hok
  have i2 : (m.length : Int) = 0 := by rw [h0]; rfl
  have hall := (okL_iff m).1 hok
  obtain ⟨us, rs, hz⟩ : ∃ us rs, addC vs ls m = (us, rs) := ⟨_, _, rfl⟩
  have hul := add_len hv hall hz
  have hco : compC us rs = true := by have := addC_comp hv hall; rw [hz] at this; exact this
  have HA := Lib.hid fun W (h : HoldsC W (.agg #[.slice A vs.length n, .slice B ls.length k]) vs ls) (h' : Holds W (.slice X m.length cx) m) => ctxAdd_t (.agg #[.slice A vs.length n, .slice B ls.length k]) (.slice X m.length cx) vs ls m us rs W h h' hv hok (by omega) hz
  have HE := Lib.hid fun W x y (h : HoldsC W x us rs) (h' : HoldsC W y us rs) => ref3Equal x y us rs us rs true W h h' (by simp)
  have HIC := Lib.hid fun W x (h : HoldsC W x us rs) => ctxIsCompact x us rs true W h (by omega) hco
  have HMI := Lib.hid fun W x (h : HoldsC W x us rs) (h' : Holds W (.slice X m.length cx) m) => ctxMissing_none x X cx us rs m W h h' (validC_iff.1 (compC_iff.1 hco).2).1 (by omega) (miss_none hv hall hz)
  have HCO := Lib.hid fun W (h : HoldsC W (.agg #[.slice A vs.length n, .slice B ls.length k]) vs ls) => ctxCompact_o (.agg #[.slice A vs.length n, .slice B ls.length k]) vs ls us rs W h hv (by omega) (by rw [← add_none hv, ← h0]; exact hz)
  clear hl hl2 hm hv hok hall hz hul hco h0 ht
  go_enter Try.func7, Try.ntmps7
  go_wp2_with fail
  refine (HL.out _ K.out).mono ?_
  rintro e w1 ⟨rfl, hb1⟩
  have K1 := Lib.hid (K.out.below hb1)
  clear hb1
  obtain ⟨_, _, j0, j1⟩ := HCC.out _ K1.out
  go_wp2_with fail
  refine (HV.out _ K1.out).mono ?_
  rintro e w2 ⟨rfl, hb1⟩
  have K2 := Lib.hid (K1.out.below hb1)
  clear hb1 j0 j1
  obtain ⟨_, _, j0, j1⟩ := HCC.out _ K2.out
  go_wp2_with fail
  refine (HD.out _ K2.out).mono ?_
  rintro e w3 ⟨rfl, hb1⟩
  have K3 := Lib.hid (K2.out.below hb1)
  clear hb1 j0 j1
  obtain ⟨a1, a2, j0, j1⟩ := HCC.out _ K3.out
  go_wp2_with fail
  refine (HA.out _ a1 a2).mono ?_
  rintro e w4 ⟨⟨A4, n4, B4, k4, rfl, hv4, hw4⟩, hb1⟩
  have K4 := ((K3.out.below hb1).push hv4.holds).push hw4.holds
  have K5 := ((K4.box (.slice A4 us.length n4) (.slice B4 rs.length k4) 25).box (.slice A vs.length n) (.slice B ls.length k) 25)
  have B9 : Blk2 ((w4.alloc (.cells #[.slice A4 us.length n4, .slice B4 rs.length k4] 25)).alloc (.cells #[.slice A vs.length n, .slice B ls.length k] 25)) (w4.heap.size + 1) (.slice A vs.length n) (.slice B ls.length k) := by
    have h := heap_alloc_new (w4.alloc (.cells #[.slice A4 us.length n4, .slice B4 rs.length k4] 25)) (.cells #[.slice A vs.length n, .slice B ls.length k] 25)
    rwa [World.size_alloc] at h
  rw [World.size_alloc] at K5
  have j0 := (K3.out.below hb1).cell (a := ⟨w.heap.size, 0, none⟩) (v := .slice A vs.length n) (by simp)
  have j1 := (K3.out.below hb1).cell (a := ⟨w.heap.size, 1, none⟩) (v := .slice B ls.length k) (by simp)
  have K6 := Lib.hid (KX.drop2 K5)
  have hsz : w.heap.size + 1 ≤ w4.heap.size := K4.lt (a := ⟨w.heap.size, 0, none⟩) (v := .slice A vs.length n) (by simp)
  have HO : Hid (OrdR w [(⟨w4.heap.size, 0, none⟩, .slice A4 us.length n4), (⟨w4.heap.size, 1, none⟩, .slice B4 rs.length k4), (⟨w.heap.size, 0, none⟩, .slice A vs.length n), (⟨w.heap.size, 1, none⟩, .slice B ls.length k)] [(.slice B4 rs.length k4, rs), (.slice A4 us.length n4, us), (.slice B ls.length k, ls), (.slice A vs.length n, vs), (.slice X m.length cx, m)] (w4.heap.size + 1) vs ls ((w4.alloc (.cells #[.slice A4 us.length n4, .slice B4 rs.length k4] 25)).alloc (.cells #[.slice A vs.length n, .slice B ls.length k] 25))) := ⟨A, n, B, k, B9, K5.h (by simp), K5.h (by simp), K6.out, by omega, by intro p hp; simp at hp; rcases hp with rfl | rfl | rfl | rfl <;> (dsimp only; omega)⟩
  have hne : ¬ w.heap.size = w4.heap.size := by omega
  have hlt9 : w.heap.size < w4.heap.size := hsz
  clear hb1 hv4 hw4 K4 K5 B9 K K1 K2 K3 K6 a1 a2 hsz
  go_wp2_with fail
  clear j0 j1 hne hlt9
  generalize ((w4.alloc (.cells #[.slice A4 us.length n4, .slice B4 rs.length k4] 25)).alloc (.cells #[.slice A vs.length n, .slice B ls.length k] 25)) = W6 at HO ⊢
  refine wp_loop_rounds 1 ?_
  rw [rounds_succ]
  obtain ⟨A7, n7, B7, k7, hB7, hv7, hw7, hK7, hg7, hC7⟩ := HO.out
  have j0 := hK7.cell (a := ⟨w.heap.size, 0, none⟩) (v := .slice A vs.length n) (by simp)
  have j1 := hK7.cell (a := ⟨w.heap.size, 1, none⟩) (v := .slice B ls.length k) (by simp)
  have HX := Lib.hid (HoldsC.mk (hK7.h (v := .slice A vs.length n) (xs := vs) (by simp)) (hK7.h (v := .slice B ls.length k) (xs := ls) (by simp)))
  have HB7 := Lib.hid hB7
  have K7 := Lib.hid hK7
  have HC7 := Lib.hid hC7
  clear hB7 hv7 hw7 hK7 hC7 HO
  go_wp2_with fail
  refine (HCO.out _ HX.out).mono ?_
  rintro e w5 ⟨⟨A8, n8, B8, k8, rfl, hv8, hw8⟩, hb8⟩
  have hB8 := HB7.out.below hb8
  have c0 := hB8.cell0
  have c1 := hB8.cell1
  have f0 := hB8.frozen 0
  have f1 := hB8.frozen 1
  have HO8 := Lib.hid (OrdR.store hB8 (by intro z; simp) (by intro z; simp) hv8.holds hw8.holds (K7.out.below hb8) hg7 HC7.out)
  have HS8 := Lib.hid (hB8.set (.slice A8 us.length n8) (.slice B8 rs.length k8))
  have HH1 := Lib.hid (hv8.holds.set2 hB8 (by intro z; simp) (by intro z; simp) (x' := .slice A8 us.length n8) (y' := .slice B8 rs.length k8))
  have HH2 := Lib.hid (hw8.holds.set2 hB8 (by intro z; simp) (by intro z; simp) (x' := .slice A8 us.length n8) (y' := .slice B8 rs.length k8))
  have HK8 := Lib.hid ((K7.out.below hb8).set2 hB8 (by intro z; simp) (by intro z; simp) hg7 HC7.out (.slice A8 us.length n8) (.slice B8 rs.length k8))
  have K9 := Lib.hid (((HK8.out.push HH1.out).push HH2.out).add2 HS8.out)
  clear hB8 hv8 hw8 hb8 HO8 HS8 HH1 HH2 HK8 j0 j1
  have hqq : ∀ W, KX w [(⟨w4.heap.size + 1, 0, none⟩, .slice A8 us.length n8), (⟨w4.heap.size + 1, 1, none⟩, .slice B8 rs.length k8), (⟨w4.heap.size, 0, none⟩, .slice A4 us.length n4), (⟨w4.heap.size, 1, none⟩, .slice B4 rs.length k4), (⟨w.heap.size, 0, none⟩, .slice A vs.length n), (⟨w.heap.size, 1, none⟩, .slice B ls.length k)] [(.slice B8 rs.length k8, rs), (.slice A8 us.length n8, us), (.slice B4 rs.length k4, rs), (.slice A4 us.length n4, us), (.slice B ls.length k, ls), (.slice A vs.length n, vs), (.slice X m.length cx, m)] W → HoldsC W (.agg #[.slice A8 us.length n8, .slice B8 rs.length k8]) us rs ∧ HoldsC W (.agg #[.slice A4 us.length n4, .slice B4 rs.length k4]) us rs ∧ Holds W (.slice X m.length cx) m ∧ W.cell? ⟨w4.heap.size + 1, 0, none⟩ = some (.slice A8 us.length n8) ∧ W.cell? ⟨w4.heap.size + 1, 1, none⟩ = some (.slice B8 rs.length k8) ∧ W.cell? ⟨w4.heap.size, 0, none⟩ = some (.slice A4 us.length n4) ∧ W.cell? ⟨w4.heap.size, 1, none⟩ = some (.slice B4 rs.length k4) :=
    fun W K => ⟨HoldsC.mk (K.h (by simp)) (K.h (by simp)), HoldsC.mk (K.h (by simp)) (K.h (by simp)), K.h (by simp), K.cell (by simp), K.cell (by simp), K.cell (by simp), K.cell (by simp)⟩
  have HQ := Lib.hid hqq
  clear hqq
  obtain ⟨x1, x2, x3, j0, j1, j2, j3⟩ := HQ.out _ K9.out
  go_wp2_with fail
  refine (HE.out _ _ _ x1 x2).mono ?_
  rintro e w10 ⟨rfl, hb1⟩
  have K10 := Lib.hid (K9.out.below hb1)
  clear hb1 x1 x2 x3 j0 j1 j2 j3 K9
  obtain ⟨x1, x2, x3, j0, j1, j2, j3⟩ := HQ.out _ K10.out
  go_wp2_with fail
  refine (HIC.out _ _ x2).mono ?_
  rintro e w11 ⟨rfl, hb1⟩
  have K11 := Lib.hid (K10.out.below hb1)
  clear hb1 x1 x2 x3 j0 j1 j2 j3 K10
  obtain ⟨x1, x2, x3, j0, j1, j2, j3⟩ := HQ.out _ K11.out
  go_wp2_with fail
  refine (HMI.out _ _ x2 x3).mono ?_
  rintro e w12 ⟨⟨Am, cm, rfl⟩, hb1⟩
  have K12 := Lib.hid (K11.out.below hb1)
  clear hb1 x1 x2 x3 j0 j1 j2 j3 K11
  go_wp2_with fail
  refine (HKN.out _).mono ?_
  rintro e w13 ⟨rfl, hb1⟩
  have K13 := Lib.hid (K12.out.below hb1)
  clear hb1
  go_wp2
  go_ret
  exact ⟨rfl, K13.out.bel⟩

theorem lawOrders3 (KN : KnownOK) (v : Value) (vs ls m : List (Int × Int)) (X : Option Addr) (cx tt : Nat) (w : World) (h : HoldsC w v vs ls) (hx : Holds w (.slice X m.length cx) m) (ht : tt ≤ 255) :
    Calls Try.prog 7 #[v, .slice X m.length cx, .int .u8 (tt : Int)] w fun e w' => e = .returned (.bool true) ∧ Below w.heap.size w w' := by
  cases hl : (decide (vs.length ≤ 40) && decide (ls.length ≤ 40)) with
  | false => exact lawOrders3_a KN v vs ls m X cx tt w h hx ht hl
  | true =>
    by_cases hm : m.length ≤ 40
    · cases hv : validC vs ls with
      | false => exact lawOrders3_c KN v vs ls m X cx tt w h hx ht hl hm hv
      | true =>
        cases hok : okL m with
        | false => exact lawOrders3_d KN v vs ls m X cx tt w h hx ht hl hm hv hok
        | true =>
          by_cases h0 : 0 < m.length
          · exact lawOrders3_e KN v vs ls m X cx tt w h hx ht hl hm hv hok h0
          · exact lawOrders3_f KN v vs ls m X cx tt w h hx ht hl hm hv hok (List.eq_nil_of_length_eq_zero (by omega))
    · exact lawOrders3_b KN v vs ls m X cx tt w h hx ht hl (by omega)

end Go.Proofs.Ytibnlifdeknicaa
