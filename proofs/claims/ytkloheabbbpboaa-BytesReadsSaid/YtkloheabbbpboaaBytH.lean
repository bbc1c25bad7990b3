/- Package bytes: a reader's Take, String, Copy. -/
import Derived.Test.YtkloheabbbpboaaBytG
namespace Go.Proofs.Ytkloheabbbpboaa
open Go.RowKit

theorem HoldsB.zero {w w' : World} {B : Option Addr} {d : Nat} (h : HoldsB w (.slice B 0 d) []) : HoldsB w' (.slice B 0 d) [] := by
  obtain ⟨A, c, e, _, h2, h3⟩ := h
  cases e
  exact ⟨B, d, rfl, SlAt.nil, h2, h3⟩

set_option maxHeartbeats 1000000 in
theorem takeTry (g : Nat) (A : Option Addr) (c : Nat) (xs : List UInt8) (i : Nat) (n : Int) (w : World) (h : Rd w g A c xs i) (hn0 : -9223372036854775808 ≤ n) (hn1 : n ≤ 9223372036854775807) (ys : List UInt8) (er : Int) (hr : takeP (xs.drop i) n = (ys, er)) :
    Calls Try.prog 26 #[.pointer (some ⟨g, 0, none⟩), .int .i64 n] w (TakeR w g A c xs i ys er) := by
  have HZ := Lib.hid (zeroNot g w h.c0)
  have HN := Lib.hid (takeIn g A c xs i n w h hn0 hn1 ys er hr)
  have c2 := h.c2
  have HI := Lib.hid h.2.2.2.1
  have hyn : er ≠ 0 → ys = [] := by
    intro he
    unfold takeP at hr
    split at hr
    · cases hr; rfl
    · split at hr
      · cases hr; rfl
      · cases hr; exact absurd rfl he
  clear h hr
  by_cases her : er = 0
  · subst her
    clear hyn
    go_enter Try.func26, Try.ntmps26
    go_wp2_with (first
      | (go_at_call 38; refine HZ.out.mono ?_; rintro e w1 ⟨rfl, rfl⟩)
      | (go_at_call 42; refine HN.out.mono ?_; rintro e w1 ⟨⟨B, d, rfl, hv⟩, hR, hC⟩; have HV := Lib.hid hv; have HR := Lib.hid hR; have HC := Lib.hid hC; clear hR hC hv)
      | go_in)
    go_ret2
    exact ⟨⟨B, d, rfl, HV.out⟩, by have h9 := HR.out; first | exact h9 | simpa using h9, HC.out⟩
  · have z0 : (er == 0) = false := by simp [her]
    have z1 : (er != 0) = true := by simp [her]
    obtain rfl : ys = [] := hyn her
    have HER := Lib.hid her
    clear her hyn
    go_enter Try.func26, Try.ntmps26
    go_wp2_with (first
      | (go_at_call 38; refine HZ.out.mono ?_; rintro e w1 ⟨rfl, rfl⟩)
      | (go_at_call 42; refine HN.out.mono ?_; rintro e w1 ⟨⟨B, d, rfl, hv⟩, hR, hC⟩; have d2 := hR.c2; have f2 := hR.f2; have HV := Lib.hid hv; have HR := Lib.hid hR; have HC := Lib.hid hC; clear hR hC hv)
      | go_in)
    go_ret2
    exact ⟨⟨B, d, rfl, HoldsB.zero HV.out⟩, by rw [if_neg HER.out]; exact (HR.out.back HI.out).1, HC.out.trans (HR.out.back HI.out).2 fun _ _ e => e⟩

/-- A slice of bytes as a string. -/
theorem convB (w : World) (B : Option Addr) (d : Nat) (ys : List UInt8) (h : HoldsB w (.slice B ys.length d) ys) : (convert 25 9 (.slice B ys.length d)).run Try.prog w = .ok (.string ⟨ys.toArray⟩) w := by
  obtain ⟨A, c, e, hat, _, _⟩ := h
  cases e
  match B with
  | none =>
    have h0 : ys = [] := by
      cases ys with
      | nil => rfl
      | cons x r => obtain ⟨_, _, h, _⟩ := hat (by simp); cases h
    subst h0
    exact Lib.run_convert_nil_bytes w _ _ 5 d Try.underlying25 Try.underlying5 Try.underlying9
  | some a =>
    refine run_convert_bytes_back w _ _ 5 a d ys Try.underlying25 Try.underlying5 Try.underlying9 fun j hj => ?_
    obtain ⟨b, off, e, _, hc⟩ := hat (by omega)
    cases e
    have := hc j _ (List.getElem?_eq_getElem hj) 0 _ rfl
    rw [Addr_add]
    simpa using this

/-- What text leaves. -/
def TextR (w : World) (g : Nat) (A : Option Addr) (c : Nat) (xs : List UInt8) (i : Nat) (t : List UInt8 × Nat × Int) (e : Ending) (w' : World) : Prop :=
  e = .returned (.tuple #[.string ⟨t.1.toArray⟩, .int .i64 t.2.2]) ∧ ∃ j, Rd w' g A c xs j ∧ Chg (fun k => k = g) w w' ∧ (t.2.2 = 0 → j = i + t.2.1)

set_option maxHeartbeats 2000000 in
theorem textIn (g : Nat) (A : Option Addr) (c : Nat) (xs : List UInt8) (i : Nat) (most : Int) (w : World) (h : Rd w g A c xs i) (hn0 : -9223372036854775808 ≤ most) (hn1 : most ≤ 9223372036854775807) (t : List UInt8 × Nat × Int) (ht : rdS (xs.drop i) most = t) :
    Calls Try.prog 44 #[.pointer (some ⟨g, 0, none⟩), .int .i64 most] w (TextR w g A c xs i t) := by
  unfold rdS at ht
  have htop := rd_top (xs.drop i)
  have hle := rd_le (l := xs.drop i)
  obtain ⟨n, z, er, hrd⟩ : ∃ n z er, rd (xs.drop i) = (n, z, er) := ⟨_, _, _, rfl⟩
  rw [hrd] at ht htop hle
  simp only [] at ht htop hle
  by_cases her : er = 0
  · subst her
    have hnp : numP (rd (xs.drop i)) 18446744073709551615 = (n, 0) := by rw [hrd]; unfold numP; rw [if_neg (by simp), if_neg (by simp only []; omega)]
    have HN := Lib.hid (numIn g A c xs i 18446744073709551615 w h (by omega) n 0 hnp)
    have HRD := Lib.hid hrd
    rw [if_neg (by simp)] at ht
    have hi := h.2.2.2.1
    have hm := h.2.2.2.2.1
    clear h hnp hrd
    by_cases hlong : most < 0 ∨ most < (n : Int)
    · rw [if_pos hlong] at ht
      subst ht
      rcases hlong with hneg | hlt
      · clear htop hle
        go_enter Try.func44, Try.ntmps44
        go_wp2_with fail
        refine HN.out.mono ?_
        rintro e w1 ⟨rfl, j, hR, hC, _⟩
        have HR := Lib.hid hR
        have HC := Lib.hid hC
        clear hR hC
        go_wp2_with fail
        go_ret2
        exact ⟨rfl, j, HR.out, HC.out, fun e => by simp at e⟩
      · by_cases hneg : most < 0
        · clear htop hle hlt
          go_enter Try.func44, Try.ntmps44
          go_wp2_with fail
          refine HN.out.mono ?_
          rintro e w1 ⟨rfl, j, hR, hC, _⟩
          have HR := Lib.hid hR
          have HC := Lib.hid hC
          clear hR hC
          go_wp2_with fail
          go_ret2
          exact ⟨rfl, j, HR.out, HC.out, fun e => by simp at e⟩
        · have i0 : (0 : Int) ≤ most := by omega
          clear hneg htop hle
          go_enter Try.func44, Try.ntmps44
          go_wp2_with fail
          refine HN.out.mono ?_
          rintro e w1 ⟨rfl, j, hR, hC, _⟩
          have HR := Lib.hid hR
          have HC := Lib.hid hC
          clear hR hC
          go_wp2_with fail
          go_ret2
          exact ⟨rfl, j, HR.out, HC.out, fun e => by simp at e⟩
    · rw [if_neg hlong] at ht
      have i0 : (0 : Int) ≤ most := by omega
      have i1 : ¬ most < (n : Int) := by omega
      have i2 : (n : Int) ≤ 9223372036854775807 := by omega
      have HT := Lib.hid ht
      have HIL := Lib.hid (show i ≤ xs.length ∧ z ≤ (xs.drop i).length from ⟨hi, hle⟩)
      clear hlong ht htop hle hi hm
      go_enter Try.func44, Try.ntmps44
      go_wp2_with fail
      refine HN.out.mono ?_
      rintro e w1 ⟨rfl, j, hR, hC, hj⟩
      have hje : j = i + z := by
        have := hj rfl
        rw [HRD.out] at this
        exact this
      subst hje
      obtain ⟨ys, e2, hT⟩ : ∃ ys e2, takeP (xs.drop (i + z)) (n : Int) = (ys, e2) := ⟨_, _, rfl⟩
      have HK := Lib.hid (takeIn g A c xs (i + z) (n : Int) w1 hR (by omega) (by omega) ys e2 hT)
      have htt : t = (ys, (if e2 = 0 then z + n else 0), e2) ∧ (e2 = 0 → ys.length = n) := by
        have hd : (xs.drop (i + z)) = (xs.drop i).drop z := by rw [List.drop_drop]
        have h1 := HT.out
        unfold takeP at hT
        rw [if_neg (by omega), hd, List.length_drop] at hT
        have hzl := HIL.out.2
        by_cases hs : (xs.drop i).length - z < n
        · rw [if_pos hs] at h1
          rw [if_pos (by omega)] at hT
          cases hT
          exact ⟨h1.symm, fun e => by simp at e⟩
        · rw [if_neg hs] at h1
          rw [if_neg (by omega)] at hT
          cases hT
          refine ⟨by rw [← h1]; simp, fun _ => ?_⟩
          rw [List.length_take, List.length_drop]
          simp
          simp at hs
          omega
      have HTT := Lib.hid htt
      have HC := Lib.hid hC
      clear hR hC hj hT htt
      go_wp2_with fail
      refine HK.out.mono ?_
      rintro e w2 ⟨⟨B, d, rfl, hv⟩, hR2, hC2⟩
      have hcv := convB w2 B d ys hv
      have HR2 := Lib.hid hR2
      have HC2 := Lib.hid (HC.out.trans hC2 fun _ _ e => e)
      clear hv hR2 hC2
      go_wp2_with fail
      go_ret2
      have h1 := HTT.out.1
      subst h1
      refine ⟨rfl, _, HR2.out, HC2.out, fun e => ?_⟩
      have e' : e2 = 0 := e
      simp only [if_pos e']
      have := HTT.out.2 e'
      omega
  · have hnp : numP (rd (xs.drop i)) 18446744073709551615 = (0, er) := by rw [hrd]; unfold numP; rw [if_pos her]
    have HN := Lib.hid (numIn g A c xs i 18446744073709551615 w h (by omega) 0 er hnp)
    rw [if_pos her] at ht
    subst ht
    have z0 : (er == 0) = false := by simp [her]
    have z1 : (er != 0) = true := by simp [her]
    have HER := Lib.hid her
    clear h hnp hrd her htop hle
    go_enter Try.func44, Try.ntmps44
    go_wp2_with fail
    refine HN.out.mono ?_
    rintro e w1 ⟨rfl, j, hR, hC, _⟩
    have HR := Lib.hid hR
    have HC := Lib.hid hC
    clear hR hC
    go_wp2_with fail
    go_ret2
    exact ⟨rfl, j, HR.out, HC.out, fun e => absurd e HER.out⟩

/-- What String leaves. -/
def TextT (w : World) (g : Nat) (A : Option Addr) (c : Nat) (xs : List UInt8) (i : Nat) (t : List UInt8 × Nat × Int) (e : Ending) (w' : World) : Prop :=
  e = .returned (.tuple #[.string ⟨t.1.toArray⟩, .int .i64 t.2.2]) ∧ Rd w' g A c xs (i + if t.2.2 = 0 then t.2.1 else 0) ∧ Chg (fun k => k = g) w w'

set_option maxHeartbeats 1000000 in
theorem textTry (g : Nat) (A : Option Addr) (c : Nat) (xs : List UInt8) (i : Nat) (most : Int) (w : World) (h : Rd w g A c xs i) (hn0 : -9223372036854775808 ≤ most) (hn1 : most ≤ 9223372036854775807) (t : List UInt8 × Nat × Int) (ht : rdS (xs.drop i) most = t) :
    Calls Try.prog 37 #[.pointer (some ⟨g, 0, none⟩), .int .i64 most] w (TextT w g A c xs i t) := by
  have HZ := Lib.hid (zeroNot g w h.c0)
  have HN := Lib.hid (textIn g A c xs i most w h hn0 hn1 t ht)
  have c2 := h.c2
  have HI := Lib.hid h.2.2.2.1
  clear h ht
  obtain ⟨ys, z, er⟩ := t
  by_cases her : er = 0
  · subst her
    go_enter Try.func37, Try.ntmps37
    go_wp2_with (first
      | (go_at_call 38; refine HZ.out.mono ?_; rintro e w1 ⟨rfl, rfl⟩)
      | (go_at_call 44; refine HN.out.mono ?_; rintro e w1 ⟨rfl, j, hR, hC, hj⟩; have HR := Lib.hid hR; have HC := Lib.hid hC; have HJ := Lib.hid hj; clear hR hC hj)
      | go_in)
    go_ret2
    have hj' : j = i + z := by first | exact HJ.out trivial | exact HJ.out rfl
    exact ⟨rfl, by rw [if_pos rfl, ← hj']; exact HR.out, HC.out⟩
  · have z0 : (er == 0) = false := by simp [her]
    have z1 : (er != 0) = true := by simp [her]
    have HER := Lib.hid her
    clear her
    go_enter Try.func37, Try.ntmps37
    go_wp2_with (first
      | (go_at_call 38; refine HZ.out.mono ?_; rintro e w1 ⟨rfl, rfl⟩)
      | (go_at_call 44; refine HN.out.mono ?_; rintro e w1 ⟨rfl, j, hR, hC, hj⟩; have d2 := hR.c2; have f2 := hR.f2; have HR := Lib.hid hR; have HC := Lib.hid hC; clear hR hC hj)
      | go_in)
    go_ret2
    exact ⟨rfl, by rw [if_neg HER.out]; exact (HR.out.back HI.out).1, HC.out.trans (HR.out.back HI.out).2 fun _ _ e => e⟩

/-- What Copy leaves. -/
def CopyR (w : World) (xs : List UInt8) (i : Nat) (e : Ending) (w' : World) : Prop :=
  (∃ g A c, e = .returned (.pointer (some ⟨g, 0, none⟩)) ∧ Rd w' g A c xs i ∧ w.heap.size ≤ g ∧ ∀ a, A = some a → w.heap.size ≤ a.block) ∧ Below w.heap.size w w'

set_option maxHeartbeats 2000000 in
theorem copyAt (g : Nat) (A : Option Addr) (c : Nat) (xs : List UInt8) (i : Nat) (w : World) (h : Rd w g A c xs i) :
    Calls Try.prog 24 #[.pointer (some ⟨g, 0, none⟩)] w (CopyR w xs i) := by
  have HZ := Lib.hid (zeroNot g w h.c0)
  have HCL := Lib.hid fun W (h : W.cell? ⟨g, 1, none⟩ = some (.slice A xs.length c) ∧ W.cell? ⟨g, 2, none⟩ = some (.int .i64 (i : Int)) ∧ Rd W g A c xs i ∧ Below w.heap.size w W) => cloneB A xs c W h.2.2.1.2.1 h.2.2.1.2.2.2.2.1
  have HSB := Lib.hid fun W W' (h : W.cell? ⟨g, 1, none⟩ = some (.slice A xs.length c) ∧ W.cell? ⟨g, 2, none⟩ = some (.int .i64 (i : Int)) ∧ Rd W g A c xs i ∧ Below w.heap.size w W) (hb : Below W.heap.size W W') => (show W'.cell? ⟨g, 1, none⟩ = some (.slice A xs.length c) ∧ W'.cell? ⟨g, 2, none⟩ = some (.int .i64 (i : Int)) ∧ Rd W' g A c xs i ∧ Below w.heap.size w W' from ⟨(h.2.2.1.below hb).c1, (h.2.2.1.below hb).c2, h.2.2.1.below hb, below_trans h.2.2.2 hb⟩)
  have hS0 : (fun W => W.cell? ⟨g, 1, none⟩ = some (.slice A xs.length c) ∧ W.cell? ⟨g, 2, none⟩ = some (.int .i64 (i : Int)) ∧ Rd W g A c xs i ∧ Below w.heap.size w W) w := ⟨h.c1, h.c2, h, Below.refl _ _⟩
  clear h
  have HS0 := Lib.hid hS0
  clear hS0
  go_enter Try.func24, Try.ntmps24
  go_wp2_with fail
  refine HZ.out.mono ?_
  rintro e w1 ⟨rfl, rfl⟩
  go_wp2_with fail
  have hS0 := HS0.out
  go_region_held3 (fun W => W.cell? ⟨g, 1, none⟩ = some (.slice A xs.length c) ∧ W.cell? ⟨g, 2, none⟩ = some (.int .i64 (i : Int)) ∧ Rd W g A c xs i ∧ Below w.heap.size w W)
    (first
      | assumption
      | (exact HSB.out _ _ (by assumption) (Below.refl _ _).drew)
      | (exact HSB.out _ _ (by assumption) ((Below.refl _ _).alloc (Nat.le_refl _) _)))
    (first
      | (go_at_call 34; refine (HCL.out _ (by assumption)).mono ?_
         rintro e wa ⟨⟨v2, rfl, ho⟩, hb1⟩
         have hSa := HSB.out _ _ (by assumption) hb1
         have hv := HoldsB.of_own ho
         have hlt := ho.lt
         obtain ⟨A2, k2, rfl, hv2, hv3, hv4⟩ := id hv
         clear ho hb1))
  all_goals
    have HF := Lib.hid hSa
    have HV := Lib.hid hv2
    have HLT := Lib.hid hlt
    have HV3 := Lib.hid (show xs.length ≤ k2 ∧ k2 ≤ maxLen from ⟨hv3, hv4⟩)
    clear hSa hv hv2 hlt hv3 hv4
    go_wp2_with fail
    go_ret
    have hal : Below wa.heap.size wa (wa.alloc (.cells #[.bool true, .slice A2 xs.length k2, .int .i64 (i : Int)] 62)) := (Below.refl _ wa).alloc (Nat.le_refl _) _
    refine ⟨⟨wa.heap.size, A2, k2, rfl, ⟨heap_alloc_new wa _, HV.out.below hal, fun a ha => ?_, HF.out.2.2.1.2.2.2.1, HF.out.2.2.1.2.2.2.2.1, HV3.out⟩, HF.out.2.2.2.size, fun a ha => ?_⟩, below_trans HF.out.2.2.2 hal⟩
    · subst ha
      have := (HLT.out a.block rfl).2
      omega
    · subst ha
      exact (HLT.out a.block rfl).1

end Go.Proofs.Ytkloheabbbpboaa
