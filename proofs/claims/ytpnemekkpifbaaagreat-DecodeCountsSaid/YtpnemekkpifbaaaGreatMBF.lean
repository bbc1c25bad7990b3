/- Several texts in one: DecX3, DecX4, DecX5. -/
import Derived.Test.YtpnemekkpifbaaaGreatMBD
import Derived.Test.YtpnemekkpifbaaaGreatMBE
import Derived.Test.YtpnemekkpifbaaaGreatMAP
import Derived.Test.YtpnemekkpifbaaaGreatMAS
namespace Go.Proofs.YtpnemekkpifbaaaGreat

section
open Go.RowKit

/-- What a function that reads leaves: what it has read and the reader behind it, or a panic. -/
def RdQ {α : Type} (q : Ps α) (Says : α → Value → World → Prop) (g : Nat) (A : Option Addr) (c : Nat) (xs : List UInt8) (i : Nat) (w : World) (e : Ending) (w' : World) : Prop :=
  (∀ a z, q (xs.drop i) = some (a, z) → ∃ v, e = .returned v ∧ Says a v w' ∧ Rd w' g A c xs (i + z)) ∧ (q (xs.drop i) = none → e = .panicked badP) ∧ Chg (fun k => k = g) w w'
theorem RdQ.good {α : Type} {q : Ps α} {Says : α → Value → World → Prop} {g : Nat} {A : Option Addr} {c : Nat} {xs : List UInt8} {i : Nat} {w w' : World} {a : α} {z : Nat} {v : Value} (hq : q (xs.drop i) = some (a, z)) (hs : Says a v w') (hr : Rd w' g A c xs (i + z)) (hc : Chg (fun k => k = g) w w') : RdQ q Says g A c xs i w (.returned v) w' :=
  ⟨fun a' z' e => (by rw [hq] at e; obtain ⟨rfl, rfl⟩ := Prod.mk.inj (Option.some.inj e); exact ⟨v, rfl, hs, hr⟩), fun e => (by rw [hq] at e; cases e), hc⟩
theorem RdQ.bad {α : Type} {q : Ps α} {Says : α → Value → World → Prop} {g : Nat} {A : Option Addr} {c : Nat} {xs : List UInt8} {i : Nat} {w w' : World} (hq : q (xs.drop i) = none) (hc : Chg (fun k => k = g) w w') : RdQ q Says g A c xs i w (.panicked badP) w' :=
  ⟨fun a' z' e => (by rw [hq] at e; cases e), fun _ => rfl, hc⟩
theorem qZ_some {most : Nat} {l : List UInt8} (h0 : (rd l).2.2 = 0) (h1 : (rd l).1 ≤ most) : qZ most l = some (((rd l).1 : Int), (rd l).2.1) := by
  unfold qZ pMap
  rw [(Asks.qN most).sup (pN_some h0) h1]
  rfl
theorem qZ_none {most : Nat} {l : List UInt8} (h : ¬ ((rd l).2.2 = 0 ∧ (rd l).1 ≤ most)) : qZ most l = none := by
  unfold qZ pMap
  cases e : qN most l with
  | none => rfl
  | some v =>
    obtain ⟨h1, h2⟩ := pIf_some.1 e
    unfold pN at h1
    split at h1
    · rename_i h0
      obtain rfl := Option.some.inj h1
      exact absurd ⟨h0, by simpa using h2⟩ h
    · cases h1

set_option maxHeartbeats 1000000 in
theorem readNum (g : Nat) (A : Option Addr) (c : Nat) (xs : List UInt8) (i most : Nat) (w : World) (h : Rd w g A c xs i) (hm : most < 9223372036854775808) :
    Calls Tryz.prog 78 #[.pointer (some ⟨g, 0, none⟩), .int .i64 (most : Int)] w (RdQ (qZ most) (fun a v _ => v = .int .i64 a) g A c xs i w) := by
  obtain ⟨n, er, hr⟩ : ∃ n er, numP (rd (xs.drop i)) most = (n, er) := ⟨_, _, rfl⟩
  have HN := Lib.hid (numTry g A c xs i most w h (by omega) n er hr)
  have HR := Lib.hid hr
  have HM := Lib.hid hm
  have e0 : IntKind.u64.wrap (most : Int) = (most : Int) := by simp [IntKind.wrap, IntKind.bits, IntKind.signed]; omega
  clear h hr
  by_cases her : er = 0
  · subst her
    have hk : (rd (xs.drop i)).2.2 = 0 ∧ (rd (xs.drop i)).1 ≤ most ∧ n = (rd (xs.drop i)).1 := by
      have k := HR.out
      unfold numP at k
      split at k
      · rename_i k0
        obtain ⟨_, k2⟩ := Prod.mk.inj k
        exact absurd k2 k0
      · rename_i k0
        split at k
        · cases k
        · exact ⟨by omega, by omega, (Prod.mk.inj k).1.symm⟩
    have HK := Lib.hid hk
    have e1 : IntKind.i64.wrap (n : Int) = (n : Int) := by simp [IntKind.wrap, IntKind.bits, IntKind.signed]; omega
    clear hk hm
    go_enter Tryz.func78, Tryz.ntmps78
    go_wp2_with (first
      | (go_at_call 99; refine HN.out.mono ?_; rintro e w1 ⟨rfl, hR, hC⟩; have HR1 := Lib.hid hR; have HC1 := Lib.hid hC; clear hR hC)
      | (go_at_call 48; refine (check_t _).mono ?_; rintro e w2 ⟨rfl, rfl⟩))
    go_ret
    obtain ⟨k1, k2, k3⟩ := HK.out
    have k4 := HR1.out
    rw [if_pos trivial] at k4
    subst k3
    exact RdQ.good (qZ_some k1 k2) rfl k4 HC1.out
  · have hk : ¬ ((rd (xs.drop i)).2.2 = 0 ∧ (rd (xs.drop i)).1 ≤ most) := fun ⟨k1, k2⟩ => by
      have k := HR.out
      unfold numP at k
      rw [if_neg (by omega), if_neg (by omega)] at k
      exact her (Prod.mk.inj k).2.symm
    have HK := Lib.hid hk
    have z0 : (er == 0) = false := by simp [her]
    clear hk hm her
    go_enter Tryz.func78, Tryz.ntmps78
    go_wp2_with (first
      | (go_at_call 99; refine HN.out.mono ?_; rintro e w1 ⟨rfl, hR, hC⟩; have HR1 := Lib.hid hR; have HC1 := Lib.hid hC; clear hR hC)
      | (go_at_call 48; refine (check_f _).mono ?_; rintro e w2 ⟨rfl, rfl⟩))
    exact ⟨rfl, RdQ.bad (qZ_none HK.out) HC1.out⟩

end

section
open Go.RowKit

section
variable {α β : Type} {q : Ps α} {q' : Ps β} {xs : List UInt8} {i z z' : Nat} {a : α} {b : β}
theorem and_some (h1 : q (xs.drop i) = some (a, z)) (h2 : q' (xs.drop (i + z)) = some (b, z')) : pAnd q q' (xs.drop i) = some ((a, b), z + z') := by
  unfold pAnd
  rw [h1]
  simp only [Option.bind_some, List.drop_drop]
  rw [h2]
  rfl
theorem and_none1 (h1 : q (xs.drop i) = none) : pAnd q q' (xs.drop i) = none := by
  unfold pAnd
  rw [h1]
  rfl
theorem and_none2 (h1 : q (xs.drop i) = some (a, z)) (h2 : q' (xs.drop (i + z)) = none) : pAnd q q' (xs.drop i) = none := by
  unfold pAnd
  rw [h1]
  simp only [Option.bind_some, List.drop_drop]
  rw [h2]
  rfl
theorem map_some {g : α → β} (h1 : q (xs.drop i) = some (a, z)) : pMap g q (xs.drop i) = some (g a, z) := by
  unfold pMap
  rw [h1]
  rfl
theorem map_none {g : α → β} (h1 : q (xs.drop i) = none) : pMap g q (xs.drop i) = none := by
  unfold pMap
  rw [h1]
  rfl
end
theorem Chg.mine {w w' : World} {g b : Nat} {o : Obj} (hc : Chg (fun k => k = g) w w') (hb : w.heap[b]? = some o) (hg : b ≠ g) : w'.heap[b]? = some o := (hc.block b (Array.getElem?_eq_some_iff.1 hb).1 hg).trans hb
/-- The reader stays where new blocks alone are changed. -/
theorem Rd.keep {w W W' : World} {g : Nat} {A : Option Addr} {c : Nat} {xs : List UInt8} {i j : Nat} {S : Nat → Prop} (h0 : Rd w g A c xs j) (h : Rd W g A c xs i) (hc : Chg S W W') (hS : ∀ k, S k → w.heap.size ≤ k) : Rd W' g A c xs i := by
  refine ⟨(hc.block g h.lt fun e => by have := hS g e; have := h0.lt; omega).trans h.1, fun hn => ?_, h.2.2⟩
  obtain ⟨b, off, e1, hb, hcell⟩ := h.2.1 hn
  obtain ⟨b', off', e', hb', _⟩ := h0.2.1 hn
  have e2 : b = b' := by rw [e1] at e'; cases e'; rfl
  subst e2
  exact ⟨b, off, e1, Nat.lt_of_lt_of_le hb hc.size, fun j x hx k u hu => hc.cell (hcell j x hx k u hu) (show ¬ S b from fun e => by have := hS b e; omega)⟩
theorem Chg.mine_set {w W W' : World} {g : Nat} {S : Nat → Prop} (h : Chg (fun k => k = g) w W) (hc : Chg S W W') (hS : ∀ k, S k → w.heap.size ≤ k) : Chg (fun k => k = g) w W' := h.trans hc fun k hk e => by have := hS k e; omega
theorem set4_0 {W : World} {b : Nat} {u0 u1 u2 u3 x : Value} {t : TypeId} (h : W.heap[b]? = some (.cells #[u0, u1, u2, u3] t (0, 0))) : (W.setCell ⟨b, 0, none⟩ x).heap[b]? = some (.cells #[x, u1, u2, u3] t (0, 0)) := by
  show (W.heap.modify b _)[b]? = _
  rw [Array.getElem?_modify, if_pos rfl, h]
  rfl
theorem set4_1 {W : World} {b : Nat} {u0 u1 u2 u3 x : Value} {t : TypeId} (h : W.heap[b]? = some (.cells #[u0, u1, u2, u3] t (0, 0))) : (W.setCell ⟨b, 1, none⟩ x).heap[b]? = some (.cells #[u0, x, u2, u3] t (0, 0)) := by
  show (W.heap.modify b _)[b]? = _
  rw [Array.getElem?_modify, if_pos rfl, h]
  rfl
theorem set4_2 {W : World} {b : Nat} {u0 u1 u2 u3 x : Value} {t : TypeId} (h : W.heap[b]? = some (.cells #[u0, u1, u2, u3] t (0, 0))) : (W.setCell ⟨b, 2, none⟩ x).heap[b]? = some (.cells #[u0, u1, x, u3] t (0, 0)) := by
  show (W.heap.modify b _)[b]? = _
  rw [Array.getElem?_modify, if_pos rfl, h]
  rfl
theorem set4_3 {W : World} {b : Nat} {u0 u1 u2 u3 x : Value} {t : TypeId} (h : W.heap[b]? = some (.cells #[u0, u1, u2, u3] t (0, 0))) : (W.setCell ⟨b, 3, none⟩ x).heap[b]? = some (.cells #[u0, u1, u2, x] t (0, 0)) := by
  show (W.heap.modify b _)[b]? = _
  rw [Array.getElem?_modify, if_pos rfl, h]
  rfl
theorem set4 {W : World} {b : Nat} {u0 u1 u2 u3 x0 x1 x2 x3 : Value} {t : TypeId} (h : W.heap[b]? = some (.cells #[u0, u1, u2, u3] t (0, 0))) : ((((W.setCell ⟨b, 0, none⟩ x0).setCell ⟨b, 1, none⟩ x1).setCell ⟨b, 2, none⟩ x2).setCell ⟨b, 3, none⟩ x3).heap[b]? = some (.cells #[x0, x1, x2, x3] t (0, 0)) := set4_3 (set4_2 (set4_1 (set4_0 h)))

set_option maxHeartbeats 1000000 in
theorem readTime (g : Nat) (A : Option Addr) (c : Nat) (xs : List UInt8) (i : Nat) (w : World) (h : Rd w g A c xs i) :
    Calls Tryz.prog 102 #[.pointer (some ⟨g, 0, none⟩)] w (RdQ pN (fun n v _ => v = .int .u64 (n : Nat)) g A c xs i w) := by
  obtain ⟨n, er, hr⟩ : ∃ n er, numP (rd (xs.drop i)) 18446744073709551615 = (n, er) := ⟨_, _, rfl⟩
  have hn : Calls Tryz.prog 99 #[.pointer (some ⟨g, 0, none⟩), .int .u64 18446744073709551615] w (NumT w g A c xs i n er) := numTry g A c xs i 18446744073709551615 w h (by decide) n er hr
  have HN := Lib.hid hn
  have HR := Lib.hid hr
  clear h hr hn
  have htop := rd_top (xs.drop i)
  by_cases her : er = 0
  · subst her
    have hk : (rd (xs.drop i)).2.2 = 0 ∧ n = (rd (xs.drop i)).1 := by
      have k := HR.out
      unfold numP at k
      split at k
      · rename_i k0
        obtain ⟨_, k2⟩ := Prod.mk.inj k
        exact absurd k2 k0
      · rename_i k0
        split at k
        · cases k
        · exact ⟨by omega, (Prod.mk.inj k).1.symm⟩
    have HK := Lib.hid hk
    clear hk htop
    go_enter Tryz.func102, Tryz.ntmps102
    go_wp2_with (first
      | (go_at_call 99; refine HN.out.mono ?_; rintro e w1 ⟨rfl, hR, hC⟩; have HR1 := Lib.hid hR; have HC1 := Lib.hid hC; clear hR hC)
      | (go_at_call 48; refine (check_t _).mono ?_; rintro e w2 ⟨rfl, rfl⟩))
    go_ret
    obtain ⟨k1, k3⟩ := HK.out
    have k4 := HR1.out
    rw [if_pos trivial] at k4
    subst k3
    exact RdQ.good (pN_some k1) rfl k4 HC1.out
  · have hk : (rd (xs.drop i)).2.2 ≠ 0 := fun k1 => by
      have k := HR.out
      unfold numP at k
      rw [if_neg (by omega), if_neg (by omega)] at k
      exact her (Prod.mk.inj k).2.symm
    have HK := Lib.hid hk
    have z0 : (er == 0) = false := by simp [her]
    clear hk htop her
    go_enter Tryz.func102, Tryz.ntmps102
    go_wp2_with (first
      | (go_at_call 99; refine HN.out.mono ?_; rintro e w1 ⟨rfl, hR, hC⟩; have HR1 := Lib.hid hR; have HC1 := Lib.hid hC; clear hR hC)
      | (go_at_call 48; refine (check_f _).mono ?_; rintro e w2 ⟨rfl, rfl⟩))
    exact ⟨rfl, RdQ.bad (pN_none HK.out) HC1.out⟩

set_option maxHeartbeats 1000000 in
theorem readDot (g : Nat) (A : Option Addr) (c : Nat) (xs : List UInt8) (i : Nat) (w : World) (h : Rd w g A c xs i) :
    Calls Tryz.prog 77 #[.pointer (some ⟨g, 0, none⟩)] w (RdQ qD (fun d v _ => v = .agg #[.int .i64 d.1, .int .i64 d.2]) g A c xs i w) := by
  have hal : Below w.heap.size w (w.alloc (.cells #[.int .i64 0, .int .i64 0] 52)) := (Below.refl _ _).alloc (Nat.le_refl _) _
  have HAL := Lib.hid hal
  have HN0 := Lib.hid (heap_alloc_new w (.cells #[.int .i64 0, .int .i64 0] 52))
  have hg := h.lt
  have HG := Lib.hid (show w.heap.size ≠ g by omega)
  have H1 := Lib.hid (readNum g A c xs i 65535 _ (h.below hal) (by decide))
  have H0 := Lib.hid h
  clear h hal hg
  go_enter Tryz.func77, Tryz.ntmps77
  go_wp2_with fail
  generalize World.alloc w _ = w0 at *
  refine H1.out.mono ?_
  rintro e w1 ⟨k1, k2, k3⟩
  have HC1 := Lib.hid ((Chg.of_below (S := fun k => k = g) HAL.out).trans k3 fun _ _ e => e)
  cases hq1 : qZ 65535 (xs.drop i) with
  | none =>
    obtain rfl := k2 hq1
    exact ⟨rfl, RdQ.bad (and_none1 hq1) HC1.out⟩
  | some v =>
    obtain ⟨a, z⟩ := v
    obtain ⟨u, rfl, rfl, hR⟩ := k1 _ _ hq1
    have HQ1 := Lib.hid hq1
    have HN1 := Lib.hid (k3.mine HN0.out HG.out)
    have H2 := Lib.hid (readNum g A c xs (i + z) 4294967295 w1 hR (by decide))
    clear k1 k2 k3 hq1 hR H1 HN0 HAL
    go_wp2_with fail
    refine H2.out.mono ?_
    rintro e w2 ⟨k1, k2, k3⟩
    have HC2 := Lib.hid (HC1.out.trans k3 fun _ _ e => e)
    cases hq2 : qZ 4294967295 (xs.drop (i + z)) with
    | none =>
      obtain rfl := k2 hq2
      exact ⟨rfl, RdQ.bad (and_none2 HQ1.out hq2) HC2.out⟩
    | some v =>
      obtain ⟨b, z'⟩ := v
      obtain ⟨u, rfl, rfl, hR⟩ := k1 _ _ hq2
      have hn2 := k3.mine HN1.out HG.out
      have c0 := cellW (i := 0) hn2
      have c1 := cellW (i := 1) hn2
      have f0 := frozenW (i := 0) hn2
      have f1 := frozenW (i := 1) hn2
      have hs := set2 (x := .int .i64 a) (y := .int .i64 b) hn2
      have s0 := cellW (i := 0) hs
      have s1 := cellW (i := 1) hs
      have hch : Chg (fun k => k = w.heap.size) w2 ((w2.setCell ⟨w.heap.size, 0, none⟩ (.int .i64 a)).setCell ⟨w.heap.size, 1, none⟩ (.int .i64 b)) := (chg_set _ _ _ _).trans (chg_set _ _ _ _) fun _ _ e => e
      have HF := Lib.hid (show RdQ qD (fun d v _ => v = .agg #[.int .i64 d.1, .int .i64 d.2]) g A c xs i w (.returned (.agg #[.int .i64 a, .int .i64 b])) ((w2.setCell ⟨w.heap.size, 0, none⟩ (.int .i64 a)).setCell ⟨w.heap.size, 1, none⟩ (.int .i64 b)) from
        RdQ.good (and_some HQ1.out hq2) rfl (by rw [← Nat.add_assoc]; exact H0.out.keep hR hch fun k e => by omega) (HC2.out.mine_set hch fun k e => by omega))
      clear hn2 hs hch k1 k2 k3 hq2 hR
      go_wp2_with fail
      exact bodyPost_ret (v := .agg #[.int .i64 a, .int .i64 b]) (by simp [results, Tryz.results77, go_sem, s0, s1]) rfl HF.out

set_option maxHeartbeats 1000000 in
theorem readMark (g : Nat) (A : Option Addr) (c : Nat) (xs : List UInt8) (i : Nat) (w : World) (h : Rd w g A c xs i) :
    Calls Tryz.prog 81 #[.pointer (some ⟨g, 0, none⟩)] w (RdQ qM (fun m v _ => v = .agg #[.int .i64 m.r, .int .i64 m.c, .int .i64 m.q, .int .u64 (m.t : Nat)]) g A c xs i w) := by
  have hal : Below w.heap.size w (w.alloc (.cells #[.int .i64 0, .int .i64 0, .int .i64 0, .int .u64 0] 54)) := (Below.refl _ _).alloc (Nat.le_refl _) _
  have HAL := Lib.hid hal
  have HN0 := Lib.hid (heap_alloc_new w (.cells #[.int .i64 0, .int .i64 0, .int .i64 0, .int .u64 0] 54))
  have hg := h.lt
  have HG := Lib.hid (show w.heap.size ≠ g by omega)
  have H1 := Lib.hid (readDot g A c xs i _ (h.below hal))
  have H0 := Lib.hid h
  clear h hal hg
  go_enter Tryz.func81, Tryz.ntmps81
  go_wp2_with fail
  generalize World.alloc w _ = w0 at *
  refine H1.out.mono ?_
  rintro e w1 ⟨k1, k2, k3⟩
  have HC1 := Lib.hid ((Chg.of_below (S := fun k => k = g) HAL.out).trans k3 fun _ _ e => e)
  cases hq1 : qD (xs.drop i) with
  | none =>
    obtain rfl := k2 hq1
    exact ⟨rfl, RdQ.bad (map_none (and_none1 hq1)) HC1.out⟩
  | some v =>
    obtain ⟨⟨d1, d2⟩, z⟩ := v
    obtain ⟨u, rfl, rfl, hR⟩ := k1 _ _ hq1
    have HQ1 := Lib.hid hq1
    have HN1 := Lib.hid (k3.mine HN0.out HG.out)
    have H2 := Lib.hid (readNum g A c xs (i + z) 2147483647 w1 hR (by decide))
    clear k1 k2 k3 hq1 hR H1 HN0 HAL
    go_wp2_with fail
    refine H2.out.mono ?_
    rintro e w2 ⟨k1, k2, k3⟩
    have HC2 := Lib.hid (HC1.out.trans k3 fun _ _ e => e)
    cases hq2 : qZ 2147483647 (xs.drop (i + z)) with
    | none =>
      obtain rfl := k2 hq2
      exact ⟨rfl, RdQ.bad (map_none (and_none2 HQ1.out (and_none1 hq2))) HC2.out⟩
    | some v =>
      obtain ⟨b, z'⟩ := v
      obtain ⟨u, rfl, rfl, hR⟩ := k1 _ _ hq2
      have HQ2 := Lib.hid hq2
      have HN2 := Lib.hid (k3.mine HN1.out HG.out)
      have H3 := Lib.hid (readTime g A c xs (i + z + z') w2 hR)
      clear k1 k2 k3 hq2 hR H2 HN1
      go_wp2_with fail
      refine H3.out.mono ?_
      rintro e w3 ⟨k1, k2, k3⟩
      have HC3 := Lib.hid (HC2.out.trans k3 fun _ _ e => e)
      cases hq3 : pN (xs.drop (i + z + z')) with
      | none =>
        obtain rfl := k2 hq3
        exact ⟨rfl, RdQ.bad (map_none (and_none2 HQ1.out (and_none2 HQ2.out hq3))) HC3.out⟩
      | some v =>
        obtain ⟨t, z''⟩ := v
        obtain ⟨u, rfl, rfl, hR⟩ := k1 _ _ hq3
        have hn2 := k3.mine HN2.out HG.out
        have c0 := cellW (i := 0) hn2
        have c1 := cellW (i := 1) hn2
        have c2 := cellW (i := 2) hn2
        have c3 := cellW (i := 3) hn2
        have f0 := frozenW (i := 0) hn2
        have f1 := frozenW (i := 1) hn2
        have f2 := frozenW (i := 2) hn2
        have f3 := frozenW (i := 3) hn2
        have hs := set4 (x0 := .int .i64 d1) (x1 := .int .i64 d2) (x2 := .int .i64 b) (x3 := .int .u64 (t : Nat)) hn2
        have s0 := cellW (i := 0) hs
        have s1 := cellW (i := 1) hs
        have s2 := cellW (i := 2) hs
        have s3 := cellW (i := 3) hs
        have hch : Chg (fun k => k = w.heap.size) w3 ((((w3.setCell ⟨w.heap.size, 0, none⟩ (.int .i64 d1)).setCell ⟨w.heap.size, 1, none⟩ (.int .i64 d2)).setCell ⟨w.heap.size, 2, none⟩ (.int .i64 b)).setCell ⟨w.heap.size, 3, none⟩ (.int .u64 (t : Nat))) := (((chg_set _ _ _ _).trans (chg_set _ _ _ _) fun _ _ e => e).trans (chg_set _ _ _ _) fun _ _ e => e).trans (chg_set _ _ _ _) fun _ _ e => e
        have HF := Lib.hid (show RdQ qM (fun m v _ => v = .agg #[.int .i64 m.r, .int .i64 m.c, .int .i64 m.q, .int .u64 (m.t : Nat)]) g A c xs i w (.returned (.agg #[.int .i64 d1, .int .i64 d2, .int .i64 b, .int .u64 (t : Nat)])) ((((w3.setCell ⟨w.heap.size, 0, none⟩ (.int .i64 d1)).setCell ⟨w.heap.size, 1, none⟩ (.int .i64 d2)).setCell ⟨w.heap.size, 2, none⟩ (.int .i64 b)).setCell ⟨w.heap.size, 3, none⟩ (.int .u64 (t : Nat))) from
          RdQ.good (map_some (and_some HQ1.out (and_some HQ2.out hq3))) rfl (by rw [← Nat.add_assoc, ← Nat.add_assoc]; exact H0.out.keep hR hch fun k e => by omega) (HC3.out.mine_set hch fun k e => by omega))
        clear hn2 hs hch k1 k2 k3 hq3 hR
        go_wp2_with fail
        exact bodyPost_ret (v := .agg #[.int .i64 d1, .int .i64 d2, .int .i64 b, .int .u64 (t : Nat)]) (by simp [results, Tryz.results81, go_sem, s0, s1, s2, s3]) rfl HF.out

end

section
open Go.RowKit

section
variable {α : Type} {q : Ps α} {xs l : List UInt8} {i j k N z z' z1 : Nat} {us : List α} {a : α}
theorem rep_succ (h : pRep q k (xs.drop j) = some (us, z)) (h2 : q (xs.drop (j + z)) = some (a, z')) : pRep q (k + 1) (xs.drop j) = some (us ++ [a], z + z') := by
  show (pRep q k (xs.drop j)).bind _ = _
  rw [h]
  simp only [Option.bind_some, List.drop_drop]
  rw [h2]
  rfl
theorem rep_none (h : pRep q k (xs.drop j) = some (us, z)) (h2 : q (xs.drop (j + z)) = none) : ∀ m, pRep q (k + 1 + m) (xs.drop j) = none
  | 0 => by
    show (pRep q k (xs.drop j)).bind _ = _
    rw [h]
    simp only [Option.bind_some, List.drop_drop]
    rw [h2]
    rfl
  | m + 1 => by
    show (pRep q (k + 1 + m) (xs.drop j)).bind _ = _
    rw [rep_none h h2 m]
    rfl
theorem qZ_inv {most : Nat} {v : Int} (h : qZ most l = some (v, z)) : ∃ n : Nat, v = n ∧ qN most l = some (n, z) ∧ n ≤ most := by
  unfold qZ pMap at h
  cases e : qN most l with
  | none => rw [e] at h; cases h
  | some u =>
    rw [e] at h
    obtain ⟨h1, h2⟩ := Prod.mk.inj (Option.some.inj h)
    subst h1; subst h2
    exact ⟨u.1, rfl, rfl, by simpa using (pIf_some.1 e).2⟩
theorem qZ_no {most : Nat} (h : qZ most l = none) : qN most l = none := by
  unfold qZ pMap at h
  cases e : qN most l with
  | none => rfl
  | some u => rw [e] at h; cases h
theorem qL_some (h : qN (xs.length - i) (xs.drop i) = some (N, z1)) (h2 : pRep q N (xs.drop (i + z1)) = some (us, z)) : qL q (xs.drop i) = some (us, z1 + z) := by
  unfold qL
  rw [List.length_drop, h]
  simp only [Option.bind_some, List.drop_drop]
  rw [h2]
  rfl
theorem qL_no1 (h : qN (xs.length - i) (xs.drop i) = none) : qL q (xs.drop i) = none := by
  unfold qL
  rw [List.length_drop, h]
  rfl
theorem qL_no2 (h : qN (xs.length - i) (xs.drop i) = some (N, z1)) (h2 : pRep q N (xs.drop (i + z1)) = none) : qL q (xs.drop i) = none := by
  unfold qL
  rw [List.length_drop, h]
  simp only [Option.bind_some, List.drop_drop]
  rw [h2]
  rfl
end

set_option maxRecDepth 100000 in
set_option maxHeartbeats 4000000 in
theorem readDots (g : Nat) (A : Option Addr) (c : Nat) (xs : List UInt8) (i : Nat) (w : World) (h : Rd w g A c xs i) :
    Calls Tryz.prog 76 #[.pointer (some ⟨g, 0, none⟩), .func (.func 77) #[] #[]] w (RdQ (qL qD) (fun ds v W => ∃ (D : Option Addr) (d : Nat), v = .slice D ds.length d ∧ W.ownsRow w.heap.size 52 2 (.slice D ds.length d) ds.length (cellsOf encD ds)) g A c xs i w) := by
  obtain ⟨ti0, hi0, hz0, hz1, hz2⟩ := info_parts infoD
  have HL := Lib.hid (leftAt g A c xs i w h)
  have H0 := Lib.hid h
  have HG := Lib.hid h.lt
  have HMX := Lib.hid h.2.2.2.2.1
  have hmx := h.2.2.2.2.1
  have HNUM := Lib.hid fun (W : World) (k : Rd W g A c xs i) => readNum g A c xs i (xs.length - i) W k (by omega)
  have HDOT := Lib.hid fun (j : Nat) (W : World) (k : Rd W g A c xs j) => readDot g A c xs j W k
  clear h hmx
  go_enter Tryz.func76, Tryz.ntmps76
  go_wp2_with fail
  refine HL.out.mono ?_
  rintro e w1 ⟨rfl, hb⟩
  have HB := Lib.hid hb
  have HN1 := Lib.hid (HNUM.out w1 (H0.out.below hb))
  clear hb HL HNUM
  go_wp2_with fail
  refine HN1.out.mono ?_
  rintro e w2 ⟨k1, k2, k3⟩
  have HC2 := Lib.hid ((Chg.of_below (S := fun k => k = g) HB.out).trans k3 fun _ _ e => e)
  cases hq1 : qZ (xs.length - i) (xs.drop i) with
  | none =>
    obtain rfl := k2 hq1
    exact ⟨rfl, RdQ.bad (qL_no1 (qZ_no hq1)) HC2.out⟩
  | some v =>
    obtain ⟨a, z1⟩ := v
    obtain ⟨u, rfl, rfl, hR⟩ := k1 _ _ hq1
    obtain ⟨N, rfl, hqn, hNle⟩ := qZ_inv hq1
    have HQN := Lib.hid hqn
    have HRS := Lib.hid hR
    have hN : N ≤ 1000000 := by have := HMX.out; omega
    clear k1 k2 k3 hq1 hR hqn hNle HN1 HB
    go_wp2_with fail
    go_loopw [5, 10] (fun v n wr => ∃ (k z : Nat) (D : Option Addr) (d : Nat) (ds : List (Int × Int)), v = .slice D ds.length d ∧ n = .int .i64 (k : Nat) ∧ k ≤ N ∧ Hid (ds.length = k) ∧ Hid (pRep qD k (xs.drop (i + z1)) = some (ds, z)) ∧ Hid (Rd wr g A c xs (i + z1 + z)) ∧ Hid (wr.ownsRow w.heap.size 52 2 (.slice D ds.length d) ds.length (cellsOf encD ds)) ∧ Hid (Chg (fun k => k = g) w wr)) (fun _ n _ => N - (intOf n).toNat)
    case atStart => exact ⟨0, 0, none, 0, [], rfl, rfl, Nat.zero_le _, rfl, rfl, HRS.out, World.ownsRow_nil _ _ _ _, HC2.out⟩
    case round =>
      clear HRS HC2
      obtain ⟨k, z, D, d, ds, rfl, rfl, hkN, hlen, hrep, hI, hO, hC⟩ := hrel
      by_cases hke : k = N
      · subst hke
        have HF := Lib.hid (show RdQ (qL qD) (fun ds v W => ∃ (D : Option Addr) (d : Nat), v = .slice D ds.length d ∧ W.ownsRow w.heap.size 52 2 (.slice D ds.length d) ds.length (cellsOf encD ds)) g A c xs i w (.returned (.slice D ds.length d)) wr from
          RdQ.good (qL_some HQN.out hrep.out) ⟨D, d, rfl, hO.out⟩ (by rw [← Nat.add_assoc]; exact hI.out) hC.out)
        clear hlen hrep hI hO hC
        go_wp2_with fail
        go_ret
        exact HF.out
      · have i0 : (k : Int) < (N : Int) := by omega
        have HD := Lib.hid (HDOT.out _ wr hI.out)
        have hkM : k < 1000000 := by omega
        go_wp2_with fail
        refine HD.out.mono ?_
        rintro e w3 ⟨k1, k2, k3⟩
        have HC3 := Lib.hid (hC.out.trans k3 fun _ _ e => e)
        cases hq2 : qD (xs.drop (i + z1 + z)) with
        | none =>
          obtain rfl := k2 hq2
          have e1 : pRep qD N (xs.drop (i + z1)) = none := by
            have e2 := rep_none hrep.out hq2 (N - k - 1)
            rw [show k + 1 + (N - k - 1) = N by omega] at e2
            exact e2
          exact ⟨rfl, RdQ.bad (qL_no2 HQN.out e1) HC3.out⟩
        | some v =>
          obtain ⟨a, z2⟩ := v
          obtain ⟨u, rfl, rfl, hR⟩ := k1 _ _ hq2
          have HR3 := Lib.hid hR
          have HO3 := Lib.hid (own_chg hO.out k3 (fun b hb e => by have := HG.out; omega))
          have HREP := Lib.hid (rep_succ hrep.out hq2)
          have HLEN := Lib.hid hlen.out
          clear k1 k2 k3 hq2 hR hrep hI hO hC HD hlen
          obtain ⟨r, q⟩ := a
          go_wp2_with (at_builtin; refine wpList_append_sl _ encD 2 rfl (.tmp 12) (.tmp 16) 25 rfl encD_len (by omega) encD_one w.heap.size 52 ti0 _ 16 Tryz.underlying25 hi0 hz0 hz1 hz2 rfl (.slice D ds.length d) ds rfl (HO3.out.alloc _) _ 1 _ [(r, q)] rfl rfl (SlAt.one (heap_alloc_new _ _)) (by simp [maxLen]; have := HLEN.out; omega) (by simp; have := HLEN.out; omega) (by have := HC3.out.size; simp; omega) ?_; intro v3 w4 hown3 hg3 hat3; obtain ⟨D3, d3, rfl, _⟩ := SlAt.of_own encD_len hown3)
          have hgr : Chg (fun b => w.heap.size ≤ b) w3 w4 := (Chg.of_below ((Below.refl _ _).alloc (Nat.le_refl _) _)).trans (Chg.of_grown (S := fun b => w.heap.size ≤ b) hg3 fun b e => (HO3.out.lt b e).1) fun _ _ e => e
          have HI4 := Lib.hid (H0.out.keep HR3.out hgr fun _ e => e)
          have HC4 := Lib.hid (HC3.out.mine_set hgr fun _ e => e)
          have HO4 := Lib.hid hown3
          clear hgr hown3 hg3 hat3
          go_roundw
          case rel => exact ⟨k + 1, z + z2, D3, d3, ds ++ [(r, q)], by simp, by go_num, by omega, (show (ds ++ [(r, q)]).length = k + 1 from by rw [List.length_append, HLEN.out]; rfl), HREP.out, (show Rd w4 g A c xs (i + z1 + (z + z2)) from by rw [← Nat.add_assoc]; exact HI4.out), HO4.out, HC4.out⟩
          case measure => simp [intOf]; omega

set_option maxRecDepth 100000 in
set_option maxHeartbeats 4000000 in
theorem readMarks (g : Nat) (A : Option Addr) (c : Nat) (xs : List UInt8) (i : Nat) (w : World) (h : Rd w g A c xs i) :
    Calls Tryz.prog 80 #[.pointer (some ⟨g, 0, none⟩), .func (.func 81) #[] #[]] w (RdQ (qL qM) (fun ds v W => ∃ (D : Option Addr) (d : Nat), v = .slice D ds.length d ∧ W.ownsRow w.heap.size 54 4 (.slice D ds.length d) ds.length (cellsOf encM ds)) g A c xs i w) := by
  obtain ⟨ti0, hi0, hz0, hz1, hz2⟩ := info_parts infoM
  have HL := Lib.hid (leftAt g A c xs i w h)
  have H0 := Lib.hid h
  have HG := Lib.hid h.lt
  have HMX := Lib.hid h.2.2.2.2.1
  have hmx := h.2.2.2.2.1
  have HNUM := Lib.hid fun (W : World) (k : Rd W g A c xs i) => readNum g A c xs i (xs.length - i) W k (by omega)
  have HDOT := Lib.hid fun (j : Nat) (W : World) (k : Rd W g A c xs j) => readMark g A c xs j W k
  clear h hmx
  go_enter Tryz.func80, Tryz.ntmps80
  go_wp2_with fail
  refine HL.out.mono ?_
  rintro e w1 ⟨rfl, hb⟩
  have HB := Lib.hid hb
  have HN1 := Lib.hid (HNUM.out w1 (H0.out.below hb))
  clear hb HL HNUM
  go_wp2_with fail
  refine HN1.out.mono ?_
  rintro e w2 ⟨k1, k2, k3⟩
  have HC2 := Lib.hid ((Chg.of_below (S := fun k => k = g) HB.out).trans k3 fun _ _ e => e)
  cases hq1 : qZ (xs.length - i) (xs.drop i) with
  | none =>
    obtain rfl := k2 hq1
    exact ⟨rfl, RdQ.bad (qL_no1 (qZ_no hq1)) HC2.out⟩
  | some v =>
    obtain ⟨a, z1⟩ := v
    obtain ⟨u, rfl, rfl, hR⟩ := k1 _ _ hq1
    obtain ⟨N, rfl, hqn, hNle⟩ := qZ_inv hq1
    have HQN := Lib.hid hqn
    have HRS := Lib.hid hR
    have hN : N ≤ 1000000 := by have := HMX.out; omega
    clear k1 k2 k3 hq1 hR hqn hNle HN1 HB
    go_wp2_with fail
    go_loopw [5, 10] (fun v n wr => ∃ (k z : Nat) (D : Option Addr) (d : Nat) (ds : List Mk), v = .slice D ds.length d ∧ n = .int .i64 (k : Nat) ∧ k ≤ N ∧ Hid (ds.length = k) ∧ Hid (pRep qM k (xs.drop (i + z1)) = some (ds, z)) ∧ Hid (Rd wr g A c xs (i + z1 + z)) ∧ Hid (wr.ownsRow w.heap.size 54 4 (.slice D ds.length d) ds.length (cellsOf encM ds)) ∧ Hid (Chg (fun k => k = g) w wr)) (fun _ n _ => N - (intOf n).toNat)
    case atStart => exact ⟨0, 0, none, 0, [], rfl, rfl, Nat.zero_le _, rfl, rfl, HRS.out, World.ownsRow_nil _ _ _ _, HC2.out⟩
    case round =>
      clear HRS HC2
      obtain ⟨k, z, D, d, ds, rfl, rfl, hkN, hlen, hrep, hI, hO, hC⟩ := hrel
      by_cases hke : k = N
      · subst hke
        have HF := Lib.hid (show RdQ (qL qM) (fun ds v W => ∃ (D : Option Addr) (d : Nat), v = .slice D ds.length d ∧ W.ownsRow w.heap.size 54 4 (.slice D ds.length d) ds.length (cellsOf encM ds)) g A c xs i w (.returned (.slice D ds.length d)) wr from
          RdQ.good (qL_some HQN.out hrep.out) ⟨D, d, rfl, hO.out⟩ (by rw [← Nat.add_assoc]; exact hI.out) hC.out)
        clear hlen hrep hI hO hC
        go_wp2_with fail
        go_ret
        exact HF.out
      · have i0 : (k : Int) < (N : Int) := by omega
        have HD := Lib.hid (HDOT.out _ wr hI.out)
        have hkM : k < 1000000 := by omega
        go_wp2_with fail
        refine HD.out.mono ?_
        rintro e w3 ⟨k1, k2, k3⟩
        have HC3 := Lib.hid (hC.out.trans k3 fun _ _ e => e)
        cases hq2 : qM (xs.drop (i + z1 + z)) with
        | none =>
          obtain rfl := k2 hq2
          have e1 : pRep qM N (xs.drop (i + z1)) = none := by
            have e2 := rep_none hrep.out hq2 (N - k - 1)
            rw [show k + 1 + (N - k - 1) = N by omega] at e2
            exact e2
          exact ⟨rfl, RdQ.bad (qL_no2 HQN.out e1) HC3.out⟩
        | some v =>
          obtain ⟨a, z2⟩ := v
          obtain ⟨u, rfl, rfl, hR⟩ := k1 _ _ hq2
          have HR3 := Lib.hid hR
          have HO3 := Lib.hid (own_chg hO.out k3 (fun b hb e => by have := HG.out; omega))
          have HREP := Lib.hid (rep_succ hrep.out hq2)
          have HLEN := Lib.hid hlen.out
          clear k1 k2 k3 hq2 hR hrep hI hO hC HD hlen
          obtain ⟨r, cc, q, t⟩ := a
          go_wp2_with (at_builtin; refine wpList_append_sl _ encM 4 rfl (.tmp 12) (.tmp 16) 55 rfl encM_len (by omega) encM_one w.heap.size 54 ti0 _ 32 Tryz.underlying55 hi0 hz0 hz1 hz2 rfl (.slice D ds.length d) ds rfl (HO3.out.alloc _) _ 1 _ [(⟨r, cc, q, t⟩ : Mk)] rfl rfl (SlAt.one (heap_alloc_new _ _)) (by simp [maxLen]; have := HLEN.out; omega) (by simp; have := HLEN.out; omega) (by have := HC3.out.size; simp; omega) ?_; intro v3 w4 hown3 hg3 hat3; obtain ⟨D3, d3, rfl, _⟩ := SlAt.of_own encM_len hown3)
          have hgr : Chg (fun b => w.heap.size ≤ b) w3 w4 := (Chg.of_below ((Below.refl _ _).alloc (Nat.le_refl _) _)).trans (Chg.of_grown (S := fun b => w.heap.size ≤ b) hg3 fun b e => (HO3.out.lt b e).1) fun _ _ e => e
          have HI4 := Lib.hid (H0.out.keep HR3.out hgr fun _ e => e)
          have HC4 := Lib.hid (HC3.out.mine_set hgr fun _ e => e)
          have HO4 := Lib.hid hown3
          clear hgr hown3 hg3 hat3
          go_roundw
          case rel => exact ⟨k + 1, z + z2, D3, d3, ds ++ [(⟨r, cc, q, t⟩ : Mk)], by simp, by go_num, by omega, (show (ds ++ [(⟨r, cc, q, t⟩ : Mk)]).length = k + 1 from by rw [List.length_append, HLEN.out]; rfl), HREP.out, (show Rd w4 g A c xs (i + z1 + (z + z2)) from by rw [← Nat.add_assoc]; exact HI4.out), HO4.out, HC4.out⟩
          case measure => simp [intOf]; omega

end

end Go.Proofs.YtpnemekkpifbaaaGreat
