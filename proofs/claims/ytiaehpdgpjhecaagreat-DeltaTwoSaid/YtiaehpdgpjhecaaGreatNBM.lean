/- Several texts in one: DelE. -/
import Derived.Test.YtiaehpdgpjhecaaGreatNBE
import Derived.Test.YtiaehpdgpjhecaaGreatNBL
import Derived.Test.YtiaehpdgpjhecaaGreatNAR
namespace Go.Proofs.YtiaehpdgpjhecaaGreat

section
open Go.RowKit

/-- Carts in boxes, dots in boxes. -/
structure KKE (w : World) (L : List (Nat × CaV)) (D : List (Nat × Int × Int)) (W : World) : Prop where
  kk : KK w L W
  dot : ∀ p ∈ D, W.heap[p.1]? = some (.cells #[.int .i64 p.2.1, .int .i64 p.2.2] 30 (0, 0))
/-- And a box of a cart that is to be filled. -/
structure KYE (w : World) (L : List (Nat × CaV)) (D : List (Nat × Int × Int)) (g : Nat) (W : World) : Prop where
  k : KKE w L D W
  y : BlkC W g zC
  ge : w.heap.size ≤ g
section
variable {w W W' : World} {L : List (Nat × CaV)} {D : List (Nat × Int × Int)} {g : Nat} {r s : Int}
theorem KKE.next (h : KKE w L D W) (hb : Below W.heap.size W W') : KKE w L D W' := ⟨h.kk.next hb, fun p hp => (hb.block _ (Array.getElem?_eq_some_iff.1 (h.dot p hp)).1).trans (h.dot p hp)⟩
theorem KKE.dot2 (h : KKE w L D W) {g : Nat} {r s : Int} (hm : (g, r, s) ∈ D) : W.cell? ⟨g, 0, none⟩ = some (.int .i64 r) ∧ W.cell? ⟨g, 1, none⟩ = some (.int .i64 s) ∧ g < W.heap.size := by
  have := h.dot _ hm
  exact ⟨by simp only [World.cell?, this]; rfl, by simp only [World.cell?, this]; rfl, (Array.getElem?_eq_some_iff.1 this).1⟩
theorem KKE.push (h : KKE w L D W) (z : CaV) (hz : CaOK W z) : KKE w (L ++ [(W.heap.size, z)]) D (W.alloc (.cells #[z.v, z.l, z.i] 28)) := ⟨h.kk.push z hz _ rfl, (h.next ((Below.refl _ W).alloc (Nat.le_refl _) _)).dot⟩
theorem KYE.new (h : KKE w L D W) (hg : W.heap.size = g) : KYE w L D g (W.alloc (.cells #[.slice none 0 0, .slice none 0 0, .slice none 0 0] 28)) := by
  subst hg
  exact ⟨h.next ((Below.refl _ W).alloc (Nat.le_refl _) _), BlkC.new W zC, h.kk.bel.size⟩
theorem KYE.next (h : KYE w L D g W) (hb : Below W.heap.size W W') : KYE w L D g W' := ⟨h.k.next hb, h.y.below hb, h.ge⟩
theorem KYE.ycells (h : KYE w L D g W) : W.cell? ⟨g, 0, none⟩ = some (.slice none 0 0) ∧ W.cell? ⟨g, 1, none⟩ = some (.slice none 0 0) ∧ W.cell? ⟨g, 2, none⟩ = some (.slice none 0 0) ∧ W.frozen? ⟨g, 0, none⟩ = false ∧ W.frozen? ⟨g, 1, none⟩ = false ∧ W.frozen? ⟨g, 2, none⟩ = false ∧ g < W.heap.size := ⟨h.y.cell0, h.y.cell1, h.y.cell2, h.y.frozen _, h.y.frozen _, h.y.frozen _, h.y.lt⟩
theorem KYE.fill (h : KYE w L D g W) (z : CaV) (hz : CaOK W z) (hL : ∀ p ∈ L, p.1 ≠ g) (hD : ∀ p ∈ D, p.1 ≠ g) : KKE w (L ++ [(g, z)]) D (((W.setCell ⟨g, 0, none⟩ z.v).setCell ⟨g, 1, none⟩ z.l).setCell ⟨g, 2, none⟩ z.i) := by
  obtain ⟨_, t2, t3⟩ := store_cart h.y hz
  have hk : ∀ k, k ≠ g → (((W.setCell ⟨g, 0, none⟩ z.v).setCell ⟨g, 1, none⟩ z.l).setCell ⟨g, 2, none⟩ z.i).heap[k]? = W.heap[k]? := fun k hk => set3_other W g k _ _ _ hk
  refine ⟨⟨fun p hp => ?_, below_fill h.k.kk.bel h.ge _ _ _⟩, fun p hp => (hk _ (hD p hp)).trans (h.k.dot p hp)⟩
  rcases List.mem_append.1 hp with hp | hp
  · have := h.k.kk.box p hp
    exact ⟨(hk _ (hL p hp)).trans this.1, this.2.off_only h.y (by simp) hk⟩
  · obtain rfl : p = (g, z) := by simpa using hp
    exact ⟨t2, t3⟩
end
theorem KKE.start (w : World) (c : CaV) (r s r2 s2 : Int) (hc : CaOK w c) : KKE w [(w.heap.size, c)] [(w.heap.size + 1, r, s), (w.heap.size + 2, r2, s2)] (((w.alloc (.cells #[c.v, c.l, c.i] 28)).alloc (.cells #[.int .i64 r, .int .i64 s] 30)).alloc (.cells #[.int .i64 r2, .int .i64 s2] 30)) := by
  have h0 := KFr.new w c r s hc
  have hal := (Below.refl _ ((w.alloc (.cells #[c.v, c.l, c.i] 28)).alloc (.cells #[.int .i64 r, .int .i64 s] 30))).alloc (Nat.le_refl _) (.cells #[.int .i64 r2, .int .i64 s2] 30)
  have h1 := h0.next hal
  have hn := heap_alloc_new ((w.alloc (.cells #[c.v, c.l, c.i] 28)).alloc (.cells #[.int .i64 r, .int .i64 s] 30)) (.cells #[.int .i64 r2, .int .i64 s2] 30)
  rw [World.size_alloc, World.size_alloc] at hn
  refine ⟨⟨fun p hp => ?_, h1.bel⟩, fun p hp => ?_⟩
  · obtain rfl : p = (w.heap.size, c) := by simpa using hp
    exact ⟨h1.cart, h1.ok⟩
  · simp only [List.mem_cons, List.not_mem_nil, or_false] at hp
    rcases hp with rfl | rfl
    · exact h1.dot
    · exact hn
theorem pass_sum : ∀ (l v rest : List (Int × Int)), (passC v rest l).1.length + (passC v rest l).2.length ≤ v.length + rest.length + l.length
  | [], v, rest => by simp [passC]
  | d :: l, v, rest => by
    unfold passC
    by_cases h : hasV v d.1 d.2 = true
    · rw [if_pos h]; have := pass_sum l v rest; simp only [List.length_cons]; omega
    · rw [if_neg h]
      by_cases h2 : d.2 = getV v d.1 + 1
      · rw [if_pos h2]; have := pass_sum l (raiseV v d) rest; have := raiseV_len v d; simp only [List.length_cons]; omega
      · rw [if_neg h2]; have := pass_sum l v (rest ++ [d]); simp only [List.length_cons, List.length_append, List.length_nil] at *; omega
theorem compN_sum : ∀ (n : Nat) (v l : List (Int × Int)), (compN n v l).1.length + (compN n v l).2.length ≤ v.length + l.length
  | 0, v, l => by simp [compN]
  | n + 1, v, l => by
    unfold compN
    split
    · exact Nat.le_refl _
    · have h1 := compN_sum n (passC v [] l).1 (passC v [] l).2
      have h2 := pass_sum l v []
      simp only [List.length_nil] at h2
      omega
theorem addC_sum (v l m : List (Int × Int)) : (addC v l m).1.length + (addC v l m).2.length ≤ v.length + l.length + m.length := by
  have h1 := compN_sum (setL (l ++ m)).length v (setL (l ++ m))
  have h2 := setL_len (l ++ m)
  rw [List.length_append] at h2
  unfold addC compactC
  omega
theorem goneC_size (l : List (Int × Int)) : (addC [] [] l).1.length + (addC [] [] l).2.length ≤ l.length := by
  have := addC_sum [] [] l
  simpa using this
theorem dots_len {c : CaV} (h : SizeK 1 c.ca) (nm : List UInt8) : (dotsC c.ca nm).length ≤ 200 := by
  unfold dotsC
  split
  · have h1 := dotsI_cnt (its c.xs)
    have h2 := h.cnt
    rw [ca_x] at h2
    exact dotsK_le (FitsP.of h h (by omega) (by omega)).kc.1 (by omega) (by omega)
  · simp
theorem gone_size {l : List (Int × Int)} (h : l.length ≤ 240) : SizeK 3 (goneD l) := by
  have h1 := goneC_size l
  exact ⟨by show (addC [] [] l).1.length + (addC [] [] l).2.length ≤ 80 * 3; omega, Nat.zero_le _, Nat.zero_le _, fun x hx => by cases hx⟩
theorem putD_size {c : CaV} (h : SizeK 1 c.ca) {d : Int × Int} {nm : List UInt8} {q : Int} {set : Bool} (hn : nm.length ≤ 100) : SizeK 3 (putD c.ca d nm q set) := by
  unfold putD
  split
  · have h1 := goneC_size (d :: dotsC c.ca nm)
    have h2 := dots_len h nm
    rw [List.length_cons] at h1
    exact ⟨by show (addC [] [] (d :: dotsC c.ca nm)).1.length + (addC [] [] (d :: dotsC c.ca nm)).2.length ≤ 80 * 3; omega, by simp [deltaD], by simp [deltaD, cntM], fun x hx => by
      obtain rfl : x = (nm, [⟨d.1, d.2, q, (timeC c.ca).1⟩]) := List.mem_singleton.1 hx
      exact ⟨hn, by simp⟩⟩
  · exact SizeK.mono SizeK.zero (by omega)
theorem remD_size {c : CaV} (h : SizeK 1 c.ca) {nm : List UInt8} : SizeK 3 (remD c.ca nm) := by
  unfold remD
  split
  · exact gone_size (by have := dots_len h nm; omega)
  · exact SizeK.mono SizeK.zero (by omega)
theorem cleD_size {c : CaV} (h : SizeK 1 c.ca) : SizeK 3 (cleD c.ca) := by
  unfold cleD
  split
  · exact gone_size (by have := dots_len h []; omega)
  · exact SizeK.mono SizeK.zero (by omega)

theorem CaV.small9 {c : CaV} (h : SizeK 9 c.ca) : c.xs.length ≤ 100000 := by have := CaV.num h; omega
/-- Join of valid carts. -/
theorem join_v (c d : CaV) (n m : Nat) (w : World) (hc : CaOK w c) (hd : CaOK w d) (hn : SizeK n c.ca) (hm : SizeK m d.ca) (h1 : n ≤ 9) (h2 : m ≤ 9) (hv : validK c.ca = true) (hv' : validK d.ca = true) :
    Calls Tryz.prog 34 #[mkC c, mkC d] w (MadeE (joinK c.ca d.ca) 0 w) := by
  have ho : okJ c.ca d.ca = true := okJ_iff.2 ⟨hv, hv'⟩
  have := joJoin c d n m w hc hd hn hm h1 h2
  rwa [joinV_t ho, joinE_t ho] at this
/-- All of three valid carts. -/
theorem all_t (a b c : CaV) (A : Option Addr) (w : World) (h : CartsAt w A [a, b, c]) (s1 : SizeK 3 a.ca) (s2 : SizeK 3 b.ca) (s3 : SizeK 3 c.ca) (v1 : validK a.ca = true) (v2 : validK b.ca = true) (v3 : validK c.ca = true) :
    Calls Tryz.prog 33 #[.slice A 3 3] w (MadeE (allK [a.ca, b.ca, c.ca]) 0 w) := by
  have ho : okA [a.ca, b.ca, c.ca] = true := okA_iff.2 fun x hx => by
    simp only [List.mem_cons, List.not_mem_nil, or_false] at hx
    rcases hx with rfl | rfl | rfl <;> assumption
  have := joAllT 3 A [a, b, c] 3 w (by simp) h (by simp) (by simp [maxLen]) (by simp) (fun x hx => by
    simp only [List.mem_cons, List.not_mem_nil, or_false] at hx
    rcases hx with rfl | rfl | rfl <;> assumption)
  rw [show ([a, b, c] : List CaV).map (·.ca) = [a.ca, b.ca, c.ca] from rfl, allV_t ho, allE_t ho] at this
  exact this
theorem allK_size3 {a b c : Ca} (s1 : SizeK 3 a) (s2 : SizeK 3 b) (s3 : SizeK 3 c) (v1 : validK a = true) (v2 : validK b = true) (v3 : validK c = true) : SizeK 9 (allK [a, b, c]) := by
  have ho : okA [a, b, c] = true := okA_iff.2 fun x hx => by
    simp only [List.mem_cons, List.not_mem_nil, or_false] at hx
    rcases hx with rfl | rfl | rfl <;> assumption
  have := allV_sizeT (l := [a, b, c]) (fun x hx => by
    simp only [List.mem_cons, List.not_mem_nil, or_false] at hx
    rcases hx with rfl | rfl | rfl <;> assumption)
  rwa [allV_t ho] at this
/-- An item that is there has a quantity. -/
theorem qty_some {v : Ca} (h : validK v = true) {nm : List UInt8} {p : Int × Int} {m : Mk} (hm : markL v.2 nm p = some m) : ∃ n, qtyC v nm = (n, 0) := by
  obtain ⟨_, h2, _⟩ := validK_iff.1 h
  obtain ⟨x, hx, rfl, hxm, _⟩ := markL_some hm
  have hok := okI_parts (h2.1 x hx)
  have hf := h2.findN hx
  unfold qtyC
  rw [if_pos h]
  unfold findV
  rw [hf]
  simp only [if_true]
  unfold qtyI
  rw [if_pos (h2.1 x hx)]
  cases hn : newestN x.2 with
  | none => rw [newestN_none.1 hn] at hxm; cases hxm
  | some y =>
    have : newV validM x.2 = (y, 0) := by
      unfold newV
      rw [if_pos hok.2.2.1, hn]
    exact ⟨y.q, by rw [this]⟩
theorem two_some {c : Ca} {d f : Int × Int} {nm : List UInt8} {q k : Int} (h : putE c d nm q false = 0) (h2 : putE c f nm k true = 0) (hdf : d ≠ f) : ∃ qv, qtyC (joinK (joinK c (putD c d nm q false)) (putD c f nm k true)) nm = (qv, 0) := by
  obtain ⟨a1, a2, a3, _⟩ := putE_ok h
  obtain ⟨_, b2, b3, _⟩ := putE_ok h2
  have hx := joinK_valid a1 (putD_valid (c := c) (d := d) (nm := nm) (q := q) (set := false))
  have hy := putD_valid (c := c) (d := f) (nm := nm) (q := k) (set := true)
  have hs : hasK (joinK c (putD c d nm q false)) f = false := by
    rw [joinK_has a1 putD_valid, b3, putD_t h, delta_has a2 (dotsC_valid a1), Bool.false_or]
    refine decide_eq_false fun hp => ?_
    rcases hp with hp | hp
    · exact hdf hp.symm
    · rw [dotsC_t a1] at hp
      have := (dotsI_valid a1 (sub_dotsK hp)).1
      rw [b3] at this; cases this
  refine qty_some (p := f) (m := ⟨f.1, f.2, k, (timeC c).1⟩) (joinK_valid hx hy) ?_
  show markL (joinI (joinK c (putD c d nm q false)) (putD c f nm k true)) nm f = _
  rw [joinI_mark hx hy]
  unfold joinedK
  rw [put_mark h, if_neg (fun e => hdf e.symm), hs, putD_t h2, delta_mark, if_pos ⟨rfl, rfl⟩]
  rfl

set_option maxRecDepth 100000 in
set_option maxHeartbeats 16000000 in
theorem lawDeltaTwo12 (KN : KnownD) (DO : DelOK) (c : CaV) (r s r2 s2 : Int) (nm : List UInt8) (q : Int) (other : List UInt8) (m : Nat) (hm : m < 256) (w : World) (hc : CaOK w c) (ht : Timed c) :
    Calls Tryz.prog 7 #[mkC c, .agg #[.int .i64 r, .int .i64 s], .agg #[.int .i64 r2, .int .i64 s2], .string ⟨nm.toArray⟩, .int .i64 q, .string ⟨other.toArray⟩, .int .u8 (m : Int)] w (TrueB w) := by
  have K0 := Lib.hid (KKE.start w c r s r2 s2 hc)
  have HKN := Lib.hid KN
  have HT := Lib.hid ht
  have HDO := Lib.hid DO
  obtain ⟨la, hla⟩ : ∃ l, lightK c = l := ⟨_, rfl⟩
  obtain ⟨va, hva⟩ : ∃ v, validK c.ca = v := ⟨_, rfl⟩
  have HL := Lib.hid hla
  have HV := Lib.hid hva
  have HS := Lib.hid (show la = true → SizeK 1 c.ca from fun h => lightK_size (hla.trans h))
  have hsz := size_mk nm
  have hsz2 := size_mk other
  have im : (0 : Int) ≤ (m : Int) := by omega
  have im2 : (m : Int) < 256 := by omega
  clear hc ht hla hva KN DO
  cases la with
  | false =>
    go_enter Tryz.func7, Tryz.ntmps7
    go_upto_region 1 with fail
    generalize World.alloc (World.alloc (World.alloc w _) _) _ = w2 at K0 ⊢
    obtain ⟨x1a, x1b, x1c, x1l⟩ := K0.out.kk.cells4 (g := w.heap.size) (c := c) (by simp)
    obtain ⟨x2a, x2b, x2l⟩ := K0.out.dot2 (g := w.heap.size + 1) (r := r) (s := s) (by simp)
    obtain ⟨x3a, x3b, x3l⟩ := K0.out.dot2 (g := w.heap.size + 2) (r := r2) (s := s2) (by simp)
    go_wp2_with fail
    refine (lawLight10 c false _ (K0.out.kk.ok (g := w.heap.size) (c := c) (by simp)) HL.out).mono ?_
    rintro e w3 ⟨rfl, hb⟩
    have K1 := Lib.hid (show KKE w [(w.heap.size, c)] [(w.heap.size + 1, r, s), (w.heap.size + 2, r2, s2)] w3 from K0.out.next hb)
    clear hb K0 x1a x1b x1c x1l x2a x2b x2l x3a x3b x3l
    obtain ⟨x4a, x4b, x4c, x4l⟩ := K1.out.kk.cells4 (g := w.heap.size) (c := c) (by simp)
    obtain ⟨x5a, x5b, x5l⟩ := K1.out.dot2 (g := w.heap.size + 1) (r := r) (s := s) (by simp)
    obtain ⟨x6a, x6b, x6l⟩ := K1.out.dot2 (g := w.heap.size + 2) (r := r2) (s := s2) (by simp)
    go_wp2_with fail
    refine (HKN.out _).mono ?_
    rintro e wk ⟨rfl, hb⟩
    have KC := Lib.hid (below_trans K1.out.kk.bel hb)
    clear hb K1 x4a x4b x4c x4l x5a x5b x5l x6a x6b x6l
    go_wp2_with fail
    go_ret
    exact OneB.bool rfl KC.out
  | true =>
    have HC := Lib.hid (HS.out (by simp))
    have HFD := Lib.hid (FitsD.of HC.out HT.out)
    by_cases hn : nm.length ≤ 100
    · have i0 : ¬ (100 : Int) < (nm.length : Int) := by omega
      have hn1 : nm.length ≤ 1000 := by omega
      by_cases ho1 : other.length ≤ 100
      · have i1 : ¬ (100 : Int) < (other.length : Int) := by omega
        have hn2 : other.length ≤ 1000 := by omega
        cases va with
        | false =>
          go_enter Tryz.func7, Tryz.ntmps7
          go_upto_region 1 with fail
          generalize World.alloc (World.alloc (World.alloc w _) _) _ = w2 at K0 ⊢
          obtain ⟨x1a, x1b, x1c, x1l⟩ := K0.out.kk.cells4 (g := w.heap.size) (c := c) (by simp)
          obtain ⟨x2a, x2b, x2l⟩ := K0.out.dot2 (g := w.heap.size + 1) (r := r) (s := s) (by simp)
          obtain ⟨x3a, x3b, x3l⟩ := K0.out.dot2 (g := w.heap.size + 2) (r := r2) (s := s2) (by simp)
          go_wp2_with fail
          refine (lawLight10 c true _ (K0.out.kk.ok (g := w.heap.size) (c := c) (by simp)) HL.out).mono ?_
          rintro e w3 ⟨rfl, hb⟩
          have K1 := Lib.hid (show KKE w [(w.heap.size, c)] [(w.heap.size + 1, r, s), (w.heap.size + 2, r2, s2)] w3 from K0.out.next hb)
          clear hb K0 x1a x1b x1c x1l x2a x2b x2l x3a x3b x3l
          obtain ⟨x4a, x4b, x4c, x4l⟩ := K1.out.kk.cells4 (g := w.heap.size) (c := c) (by simp)
          obtain ⟨x5a, x5b, x5l⟩ := K1.out.dot2 (g := w.heap.size + 1) (r := r) (s := s) (by simp)
          obtain ⟨x6a, x6b, x6l⟩ := K1.out.dot2 (g := w.heap.size + 2) (r := r2) (s := s2) (by simp)
          go_wp2_with fail
          refine (caValid c false _ (K1.out.kk.ok (g := w.heap.size) (c := c) (by simp)) HFD.out.k HV.out).mono ?_
          rintro e w4 ⟨rfl, hb⟩
          have K2 := Lib.hid (show KKE w [(w.heap.size, c)] [(w.heap.size + 1, r, s), (w.heap.size + 2, r2, s2)] w4 from K1.out.next hb)
          clear hb K1 x4a x4b x4c x4l x5a x5b x5l x6a x6b x6l
          obtain ⟨x7a, x7b, x7c, x7l⟩ := K2.out.kk.cells4 (g := w.heap.size) (c := c) (by simp)
          obtain ⟨x8a, x8b, x8l⟩ := K2.out.dot2 (g := w.heap.size + 1) (r := r) (s := s) (by simp)
          obtain ⟨x9a, x9b, x9l⟩ := K2.out.dot2 (g := w.heap.size + 2) (r := r2) (s := s2) (by simp)
          go_wp2_with fail
          refine (HKN.out _).mono ?_
          rintro e wk ⟨rfl, hb⟩
          have KC := Lib.hid (below_trans K2.out.kk.bel hb)
          clear hb K2 x7a x7b x7c x7l x8a x8b x8l x9a x9b x9l
          go_wp2_with fail
          go_ret
          exact OneB.bool rfl KC.out
        | true =>
          by_cases hdf : (r, s) = (r2, s2)
          · have hdd : ∀ w, (binOp .eql 30 (.agg #[.int .i64 r, .int .i64 s]) (.agg #[.int .i64 r2, .int .i64 s2])).run Tryz.prog w = .ok (.bool true) w := fun w => by
              rw [eqlDot]; congr 2; simpa using hdf
            clear hdf
            go_enter Tryz.func7, Tryz.ntmps7
            go_upto_region 1 with fail
            generalize World.alloc (World.alloc (World.alloc w _) _) _ = w2 at K0 ⊢
            obtain ⟨x1a, x1b, x1c, x1l⟩ := K0.out.kk.cells4 (g := w.heap.size) (c := c) (by simp)
            obtain ⟨x2a, x2b, x2l⟩ := K0.out.dot2 (g := w.heap.size + 1) (r := r) (s := s) (by simp)
            obtain ⟨x3a, x3b, x3l⟩ := K0.out.dot2 (g := w.heap.size + 2) (r := r2) (s := s2) (by simp)
            go_wp2_with fail
            refine (lawLight10 c true _ (K0.out.kk.ok (g := w.heap.size) (c := c) (by simp)) HL.out).mono ?_
            rintro e w3 ⟨rfl, hb⟩
            have K1 := Lib.hid (show KKE w [(w.heap.size, c)] [(w.heap.size + 1, r, s), (w.heap.size + 2, r2, s2)] w3 from K0.out.next hb)
            clear hb K0 x1a x1b x1c x1l x2a x2b x2l x3a x3b x3l
            obtain ⟨x4a, x4b, x4c, x4l⟩ := K1.out.kk.cells4 (g := w.heap.size) (c := c) (by simp)
            obtain ⟨x5a, x5b, x5l⟩ := K1.out.dot2 (g := w.heap.size + 1) (r := r) (s := s) (by simp)
            obtain ⟨x6a, x6b, x6l⟩ := K1.out.dot2 (g := w.heap.size + 2) (r := r2) (s := s2) (by simp)
            go_wp2_with fail
            refine (caValid c true _ (K1.out.kk.ok (g := w.heap.size) (c := c) (by simp)) HFD.out.k HV.out).mono ?_
            rintro e w4 ⟨rfl, hb⟩
            have K2 := Lib.hid (show KKE w [(w.heap.size, c)] [(w.heap.size + 1, r, s), (w.heap.size + 2, r2, s2)] w4 from K1.out.next hb)
            clear hb K1 x4a x4b x4c x4l x5a x5b x5l x6a x6b x6l
            obtain ⟨x7a, x7b, x7c, x7l⟩ := K2.out.kk.cells4 (g := w.heap.size) (c := c) (by simp)
            obtain ⟨x8a, x8b, x8l⟩ := K2.out.dot2 (g := w.heap.size + 1) (r := r) (s := s) (by simp)
            obtain ⟨x9a, x9b, x9l⟩ := K2.out.dot2 (g := w.heap.size + 2) (r := r2) (s := s2) (by simp)
            go_wp2_with fail
            refine (HKN.out _).mono ?_
            rintro e wk ⟨rfl, hb⟩
            have KC := Lib.hid (below_trans K2.out.kk.bel hb)
            clear hb K2 x7a x7b x7c x7l x8a x8b x8l x9a x9b x9l
            go_wp2_with fail
            go_ret
            exact OneB.bool rfl KC.out
          · have hdd : ∀ w, (binOp .eql 30 (.agg #[.int .i64 r, .int .i64 s]) (.agg #[.int .i64 r2, .int .i64 s2])).run Tryz.prog w = .ok (.bool false) w := fun w => by
              rw [eqlDot]; congr 2; simpa using hdf
            have HDF := Lib.hid hdf
            clear hdf
            have HA := Lib.hid fun W (h : CaOK W c) => HDO.out.add c r s nm q W h HFD.out hn1
            obtain ⟨e1, he1⟩ : ∃ e, putE c.ca (r, s) nm q false = e := ⟨_, rfl⟩
            rw [he1] at HA
            have HE1 := Lib.hid he1
            clear he1
            by_cases h1 : e1 = 0
            · subst h1
              have split : m % 3 = 0 ∨ m % 3 = 1 ∨ m % 3 = 2 := by omega
              rcases split with hm3 | hm3 | hm3
              · have i3 : (m : Int).tmod 3 = 0 := by rw [Int.tmod_eq_emod_of_nonneg (Int.natCast_nonneg m)]; omega
                have HB := Lib.hid fun W (h : CaOK W c) => HDO.out.rem c other W h HFD.out hn2
                obtain ⟨e2, he2⟩ : ∃ e, remE c.ca other = e := ⟨_, rfl⟩
                rw [he2] at HB
                have HE2 := Lib.hid he2
                clear he2 hm3
                by_cases h2 : e2 = 0
                · subst h2
                  go_enter Tryz.func7, Tryz.ntmps7
                  go_upto_region 1 with fail
                  generalize World.alloc (World.alloc (World.alloc w _) _) _ = w2 at K0 ⊢
                  obtain ⟨x1a, x1b, x1c, x1l⟩ := K0.out.kk.cells4 (g := w.heap.size) (c := c) (by simp)
                  obtain ⟨x2a, x2b, x2l⟩ := K0.out.dot2 (g := w.heap.size + 1) (r := r) (s := s) (by simp)
                  obtain ⟨x3a, x3b, x3l⟩ := K0.out.dot2 (g := w.heap.size + 2) (r := r2) (s := s2) (by simp)
                  go_wp2_with fail
                  refine (lawLight10 c true _ (K0.out.kk.ok (g := w.heap.size) (c := c) (by simp)) HL.out).mono ?_
                  rintro e w3 ⟨rfl, hb⟩
                  have K1 := Lib.hid (show KKE w [(w.heap.size, c)] [(w.heap.size + 1, r, s), (w.heap.size + 2, r2, s2)] w3 from K0.out.next hb)
                  clear hb K0 x1a x1b x1c x1l x2a x2b x2l x3a x3b x3l
                  obtain ⟨x4a, x4b, x4c, x4l⟩ := K1.out.kk.cells4 (g := w.heap.size) (c := c) (by simp)
                  obtain ⟨x5a, x5b, x5l⟩ := K1.out.dot2 (g := w.heap.size + 1) (r := r) (s := s) (by simp)
                  obtain ⟨x6a, x6b, x6l⟩ := K1.out.dot2 (g := w.heap.size + 2) (r := r2) (s := s2) (by simp)
                  go_wp2_with fail
                  refine (caValid c true _ (K1.out.kk.ok (g := w.heap.size) (c := c) (by simp)) HFD.out.k HV.out).mono ?_
                  rintro e w4 ⟨rfl, hb⟩
                  have K2 := Lib.hid (show KKE w [(w.heap.size, c)] [(w.heap.size + 1, r, s), (w.heap.size + 2, r2, s2)] w4 from K1.out.next hb)
                  clear hb K1 x4a x4b x4c x4l x5a x5b x5l x6a x6b x6l
                  obtain ⟨x7a, x7b, x7c, x7l⟩ := K2.out.kk.cells4 (g := w.heap.size) (c := c) (by simp)
                  obtain ⟨x8a, x8b, x8l⟩ := K2.out.dot2 (g := w.heap.size + 1) (r := r) (s := s) (by simp)
                  obtain ⟨x9a, x9b, x9l⟩ := K2.out.dot2 (g := w.heap.size + 2) (r := r2) (s := s2) (by simp)
                  go_wp2_with fail
                  refine (HA.out _ (K2.out.kk.ok (g := w.heap.size) (c := c) (by simp))).mono ?_
                  rintro e w5 ⟨⟨x, rfl, hz, ho⟩, hb⟩
                  have KO := Lib.hid (show KKE w [(w.heap.size, c)] [(w.heap.size + 1, r, s), (w.heap.size + 2, r2, s2)] w5 from K2.out.next hb)
                  have K3 := Lib.hid (show KKE w [(w.heap.size, c), (w5.heap.size, x)] [(w.heap.size + 1, r, s), (w.heap.size + 2, r2, s2)] (w5.alloc (.cells #[x.v, x.l, x.i] 28)) from KO.out.push x ho)
                  have Hx := Lib.hid hz
                  clear hb hz ho K2 x7a x7b x7c x7l x8a x8b x8l x9a x9b x9l
                  have hs5 := (KO.out.dot2 (g := w.heap.size + 2) (r := r2) (s := s2) (by simp)).2.2
                  obtain ⟨x10a, x10b, x10c, x10l⟩ := KO.out.kk.cells4 (g := w.heap.size) (c := c) (by simp)
                  obtain ⟨x11a, x11b, x11l⟩ := KO.out.dot2 (g := w.heap.size + 1) (r := r) (s := s) (by simp)
                  obtain ⟨x12a, x12b, x12l⟩ := KO.out.dot2 (g := w.heap.size + 2) (r := r2) (s := s2) (by simp)
                  clear KO
                  have KY := Lib.hid (show KYE w [(w.heap.size, c), (w5.heap.size, x)] [(w.heap.size + 1, r, s), (w.heap.size + 2, r2, s2)] (w5.heap.size + 1) ((w5.alloc (.cells #[x.v, x.l, x.i] 28)).alloc (.cells #[.slice none 0 0, .slice none 0 0, .slice none 0 0] 28)) from KYE.new K3.out (by simp))
                  clear K3
                  go_wp2_with fail
                  refine (HB.out _ (KY.out.k.kk.ok (g := w.heap.size) (c := c) (by simp))).mono ?_
                  rintro e w6 ⟨⟨y, rfl, hz, ho⟩, hb⟩
                  have KZ := Lib.hid (KY.out.next hb)
                  have Hy := Lib.hid hz
                  have K20 := Lib.hid (show KKE w [(w.heap.size, c), (w5.heap.size, x), (w5.heap.size + 1, y)] [(w.heap.size + 1, r, s), (w.heap.size + 2, r2, s2)] (((w6.setCell ⟨w5.heap.size + 1, 0, none⟩ y.v).setCell ⟨w5.heap.size + 1, 1, none⟩ y.l).setCell ⟨w5.heap.size + 1, 2, none⟩ y.i) from KZ.out.fill y ho (fun p hp => by simp only [List.mem_cons, List.not_mem_nil, or_false] at hp; rcases hp with rfl | rfl <;> (show _ ≠ _; dsimp only; omega)) (fun p hp => by simp only [List.mem_cons, List.not_mem_nil, or_false] at hp; rcases hp with rfl | rfl <;> (show _ ≠ _; dsimp only; omega)))
                  obtain ⟨b0, b1, b2, bf0, bf1, bf2, bl⟩ := KZ.out.ycells
                  clear hb hz ho KY x10a x10b x10c x10l x11a x11b x11l x12a x12b x12l
                  have KZK := Lib.hid KZ.out.k
                  obtain ⟨x13a, x13b, x13c, x13l⟩ := KZK.out.kk.cells4 (g := w.heap.size) (c := c) (by simp)
                  obtain ⟨x14a, x14b, x14c, x14l⟩ := KZK.out.kk.cells4 (g := w5.heap.size) (c := x) (by simp)
                  obtain ⟨x15a, x15b, x15l⟩ := KZK.out.dot2 (g := w.heap.size + 1) (r := r) (s := s) (by simp)
                  obtain ⟨x16a, x16b, x16l⟩ := KZK.out.dot2 (g := w.heap.size + 2) (r := r2) (s := s2) (by simp)
                  clear KZ KZK
                  have VX := Lib.hid (show validK x.ca = true from by rw [Hx.out]; exact putD_valid)
                  have VY := Lib.hid (show validK y.ca = true from by rw [Hy.out]; first | exact remD_valid | exact cleD_valid | exact putD_valid)
                  have SC3 := Lib.hid (show SizeK 3 c.ca from SizeK.mono HC.out (by omega))
                  have SX := Lib.hid (show SizeK 3 x.ca from by rw [Hx.out]; exact putD_size HC.out hn)
                  have SY := Lib.hid (show SizeK 3 y.ca from by rw [Hy.out]; first | exact remD_size HC.out | exact cleD_size HC.out | exact putD_size HC.out ho1)
                  have HFR := Lib.hid (show hasK c.ca (r, s) = false from (putE_ok HE1.out).2.2.1)
                  go_upto_region 15 with fail
                  have hK := K20.out
                  clear K20 x13a x13b x13c x13l x14a x14b x14c x14l x15a x15b x15l x16a x16b x16l b0 b1 b2 bf0 bf1 bf2 bl
                  generalize World.setCell (World.setCell (World.setCell w6 _ _) _ _) _ _ = W7 at hK ⊢
                  have K21 := Lib.hid (show KKE w [(w.heap.size, c), (w5.heap.size, x), (w5.heap.size + 1, y)] [(w.heap.size + 1, r, s), (w.heap.size + 2, r2, s2)] W7 from hK)
                  clear hK
                  obtain ⟨x17a, x17b, x17c, x17l⟩ := K21.out.kk.cells4 (g := w.heap.size) (c := c) (by simp)
                  obtain ⟨x18a, x18b, x18c, x18l⟩ := K21.out.kk.cells4 (g := w5.heap.size) (c := x) (by simp)
                  obtain ⟨x19a, x19b, x19c, x19l⟩ := K21.out.kk.cells4 (g := w5.heap.size + 1) (c := y) (by simp)
                  obtain ⟨x20a, x20b, x20l⟩ := K21.out.dot2 (g := w.heap.size + 1) (r := r) (s := s) (by simp)
                  obtain ⟨x21a, x21b, x21l⟩ := K21.out.dot2 (g := w.heap.size + 2) (r := r2) (s := s2) (by simp)
                  have hal := (Below.refl W7.heap.size W7).alloc (Nat.le_refl _) (.cells #[c.v, c.l, c.i, x.v, x.l, x.i, y.v, y.l, y.i] 28)
                  have KA := Lib.hid (show KKE w [(w.heap.size, c), (w5.heap.size, x), (w5.heap.size + 1, y)] [(w.heap.size + 1, r, s), (w.heap.size + 2, r2, s2)] (W7.alloc (.cells #[c.v, c.l, c.i, x.v, x.l, x.i, y.v, y.l, y.i] 28)) from K21.out.next hal)
                  have HCA := Lib.hid (show CartsAt (W7.alloc (.cells #[c.v, c.l, c.i, x.v, x.l, x.i, y.v, y.l, y.i] 28)) (some ⟨W7.heap.size, 0, none⟩) [c, x, y] from ⟨SlAt.litAt encCa_len W7 _ rfl 28 [c, x, y] (by simp [maxLen]), fun z0 hz0 => by
                    simp only [List.mem_cons, List.not_mem_nil, or_false] at hz0
                    rcases hz0 with h | h | h
                    · rw [h]; exact KA.out.kk.ok (g := w.heap.size) (c := c) (by simp)
                    · rw [h]; exact KA.out.kk.ok (g := w5.heap.size) (c := x) (by simp)
                    · rw [h]; exact KA.out.kk.ok (g := w5.heap.size + 1) (c := y) (by simp)⟩)
                  clear hal
                  go_wp2_with fail
                  refine (all_t c x y _ _ HCA.out SC3.out SX.out SY.out HV.out VX.out VY.out).mono ?_
                  rintro e w21 ⟨⟨u, rfl, hz, ho⟩, hb⟩
                  have KO := Lib.hid (show KKE w [(w.heap.size, c), (w5.heap.size, x), (w5.heap.size + 1, y)] [(w.heap.size + 1, r, s), (w.heap.size + 2, r2, s2)] w21 from KA.out.next hb)
                  have K22 := Lib.hid (show KKE w [(w.heap.size, c), (w5.heap.size, x), (w5.heap.size + 1, y), (w21.heap.size, u)] [(w.heap.size + 1, r, s), (w.heap.size + 2, r2, s2)] (w21.alloc (.cells #[u.v, u.l, u.i] 28)) from KO.out.push u ho.ok)
                  have Hu := Lib.hid hz
                  clear hb hz ho KA HCA K21 x17a x17b x17c x17l x18a x18b x18c x18l x19a x19b x19c x19l x20a x20b x20l x21a x21b x21l
                  obtain ⟨x22a, x22b, x22c, x22l⟩ := KO.out.kk.cells4 (g := w.heap.size) (c := c) (by simp)
                  obtain ⟨x23a, x23b, x23c, x23l⟩ := KO.out.kk.cells4 (g := w5.heap.size) (c := x) (by simp)
                  obtain ⟨x24a, x24b, x24c, x24l⟩ := KO.out.kk.cells4 (g := w5.heap.size + 1) (c := y) (by simp)
                  obtain ⟨x25a, x25b, x25l⟩ := KO.out.dot2 (g := w.heap.size + 1) (r := r) (s := s) (by simp)
                  obtain ⟨x26a, x26b, x26l⟩ := KO.out.dot2 (g := w.heap.size + 2) (r := r2) (s := s2) (by simp)
                  clear KO
                  have hal := (Below.refl (w21.alloc (.cells #[u.v, u.l, u.i] 28)).heap.size (w21.alloc (.cells #[u.v, u.l, u.i] 28))).alloc (Nat.le_refl _) (.cells #[c.v, c.l, c.i, y.v, y.l, y.i, x.v, x.l, x.i] 28)
                  have KA := Lib.hid (show KKE w [(w.heap.size, c), (w5.heap.size, x), (w5.heap.size + 1, y), (w21.heap.size, u)] [(w.heap.size + 1, r, s), (w.heap.size + 2, r2, s2)] ((w21.alloc (.cells #[u.v, u.l, u.i] 28)).alloc (.cells #[c.v, c.l, c.i, y.v, y.l, y.i, x.v, x.l, x.i] 28)) from K22.out.next hal)
                  have HCA := Lib.hid (show CartsAt ((w21.alloc (.cells #[u.v, u.l, u.i] 28)).alloc (.cells #[c.v, c.l, c.i, y.v, y.l, y.i, x.v, x.l, x.i] 28)) (some ⟨w21.heap.size + 1, 0, none⟩) [c, y, x] from by rw [← World.size_alloc w21 (.cells #[u.v, u.l, u.i] 28)]; exact ⟨SlAt.litAt encCa_len (w21.alloc (.cells #[u.v, u.l, u.i] 28)) _ rfl 28 [c, y, x] (by simp [maxLen]), fun z0 hz0 => by
                    simp only [List.mem_cons, List.not_mem_nil, or_false] at hz0
                    rcases hz0 with h | h | h
                    · rw [h]; exact KA.out.kk.ok (g := w.heap.size) (c := c) (by simp)
                    · rw [h]; exact KA.out.kk.ok (g := w5.heap.size + 1) (c := y) (by simp)
                    · rw [h]; exact KA.out.kk.ok (g := w5.heap.size) (c := x) (by simp)⟩)
                  clear hal
                  go_wp2_with fail
                  refine (all_t c y x _ _ HCA.out SC3.out SY.out SX.out HV.out VY.out VX.out).mono ?_
                  rintro e w22 ⟨⟨v, rfl, hz, ho⟩, hb⟩
                  have KO := Lib.hid (show KKE w [(w.heap.size, c), (w5.heap.size, x), (w5.heap.size + 1, y), (w21.heap.size, u)] [(w.heap.size + 1, r, s), (w.heap.size + 2, r2, s2)] w22 from KA.out.next hb)
                  have K23 := Lib.hid (show KKE w [(w.heap.size, c), (w5.heap.size, x), (w5.heap.size + 1, y), (w21.heap.size, u), (w22.heap.size, v)] [(w.heap.size + 1, r, s), (w.heap.size + 2, r2, s2)] (w22.alloc (.cells #[v.v, v.l, v.i] 28)) from KO.out.push v ho.ok)
                  have Hv := Lib.hid hz
                  clear hb hz ho KA HCA K22 x22a x22b x22c x22l x23a x23b x23c x23l x24a x24b x24c x24l x25a x25b x25l x26a x26b x26l
                  obtain ⟨x27a, x27b, x27c, x27l⟩ := KO.out.kk.cells4 (g := w.heap.size) (c := c) (by simp)
                  obtain ⟨x28a, x28b, x28c, x28l⟩ := KO.out.kk.cells4 (g := w5.heap.size) (c := x) (by simp)
                  obtain ⟨x29a, x29b, x29c, x29l⟩ := KO.out.kk.cells4 (g := w5.heap.size + 1) (c := y) (by simp)
                  obtain ⟨x30a, x30b, x30c, x30l⟩ := KO.out.kk.cells4 (g := w21.heap.size) (c := u) (by simp)
                  obtain ⟨x31a, x31b, x31l⟩ := KO.out.dot2 (g := w.heap.size + 1) (r := r) (s := s) (by simp)
                  obtain ⟨x32a, x32b, x32l⟩ := KO.out.dot2 (g := w.heap.size + 2) (r := r2) (s := s2) (by simp)
                  clear KO
                  go_wp2_with fail
                  refine (join_v x y 3 3 _ (K23.out.kk.ok (g := w5.heap.size) (c := x) (by simp)) (K23.out.kk.ok (g := w5.heap.size + 1) (c := y) (by simp)) SX.out SY.out (by omega) (by omega) VX.out VY.out).mono ?_
                  rintro e w23 ⟨⟨t, rfl, hz, ho⟩, hb⟩
                  have KO := Lib.hid (show KKE w [(w.heap.size, c), (w5.heap.size, x), (w5.heap.size + 1, y), (w21.heap.size, u), (w22.heap.size, v)] [(w.heap.size + 1, r, s), (w.heap.size + 2, r2, s2)] w23 from K23.out.next hb)
                  have K24 := Lib.hid (show KKE w [(w.heap.size, c), (w5.heap.size, x), (w5.heap.size + 1, y), (w21.heap.size, u), (w22.heap.size, v), (w23.heap.size, t)] [(w.heap.size + 1, r, s), (w.heap.size + 2, r2, s2)] (w23.alloc (.cells #[t.v, t.l, t.i] 28)) from KO.out.push t ho.ok)
                  have Ht := Lib.hid hz
                  clear hb hz ho K23 x27a x27b x27c x27l x28a x28b x28c x28l x29a x29b x29c x29l x30a x30b x30c x30l x31a x31b x31l x32a x32b x32l
                  obtain ⟨x33a, x33b, x33c, x33l⟩ := KO.out.kk.cells4 (g := w.heap.size) (c := c) (by simp)
                  obtain ⟨x34a, x34b, x34c, x34l⟩ := KO.out.kk.cells4 (g := w5.heap.size) (c := x) (by simp)
                  obtain ⟨x35a, x35b, x35c, x35l⟩ := KO.out.kk.cells4 (g := w5.heap.size + 1) (c := y) (by simp)
                  obtain ⟨x36a, x36b, x36c, x36l⟩ := KO.out.kk.cells4 (g := w21.heap.size) (c := u) (by simp)
                  obtain ⟨x37a, x37b, x37c, x37l⟩ := KO.out.kk.cells4 (g := w22.heap.size) (c := v) (by simp)
                  obtain ⟨x38a, x38b, x38l⟩ := KO.out.dot2 (g := w.heap.size + 1) (r := r) (s := s) (by simp)
                  obtain ⟨x39a, x39b, x39l⟩ := KO.out.dot2 (g := w.heap.size + 2) (r := r2) (s := s2) (by simp)
                  clear KO
                  have HTW := Lib.hid (join_two HV.out VX.out VY.out)
                  have SU := Lib.hid (show SizeK 9 u.ca from by rw [Hu.out]; exact allK_size3 SC3.out SX.out SY.out HV.out VX.out VY.out)
                  have SV := Lib.hid (show SizeK 9 v.ca from by rw [Hv.out]; exact allK_size3 SC3.out SY.out SX.out HV.out VY.out VX.out)
                  have ST := Lib.hid (show SizeK 6 t.ca from by rw [Ht.out]; exact joinK_size VX.out VY.out SX.out SY.out)
                  have VT := Lib.hid (show validK t.ca = true from by rw [Ht.out]; exact joinK_valid VX.out VY.out)
                  have VU := Lib.hid (show validK u.ca = true from by rw [Hu.out]; exact allK_valid (by intro z0 hz0; simp only [List.mem_cons, List.not_mem_nil, or_false] at hz0; rcases hz0 with h | h | h <;> rw [h] <;> first | exact HV.out | exact VX.out | exact VY.out))
                  go_wp2_with fail
                  refine (refEqual10 u v true _ (K24.out.kk.ok (g := w21.heap.size) (c := u) (by simp)) (K24.out.kk.ok (g := w22.heap.size) (c := v) (by simp)) (CaV.small9 SU.out) (CaV.small9 SV.out) (by rw [Hu.out, Hv.out, HTW.out.1]; exact sameJ_self _)).mono ?_
                  rintro e w24 ⟨rfl, hb⟩
                  have K25 := Lib.hid (show KKE w [(w.heap.size, c), (w5.heap.size, x), (w5.heap.size + 1, y), (w21.heap.size, u), (w22.heap.size, v), (w23.heap.size, t)] [(w.heap.size + 1, r, s), (w.heap.size + 2, r2, s2)] w24 from K24.out.next hb)
                  clear hb K24 x33a x33b x33c x33l x34a x34b x34c x34l x35a x35b x35c x35l x36a x36b x36c x36l x37a x37b x37c x37l x38a x38b x38l x39a x39b x39l
                  obtain ⟨x40a, x40b, x40c, x40l⟩ := K25.out.kk.cells4 (g := w.heap.size) (c := c) (by simp)
                  obtain ⟨x41a, x41b, x41c, x41l⟩ := K25.out.kk.cells4 (g := w5.heap.size) (c := x) (by simp)
                  obtain ⟨x42a, x42b, x42c, x42l⟩ := K25.out.kk.cells4 (g := w5.heap.size + 1) (c := y) (by simp)
                  obtain ⟨x43a, x43b, x43c, x43l⟩ := K25.out.kk.cells4 (g := w21.heap.size) (c := u) (by simp)
                  obtain ⟨x44a, x44b, x44c, x44l⟩ := K25.out.kk.cells4 (g := w22.heap.size) (c := v) (by simp)
                  obtain ⟨x45a, x45b, x45c, x45l⟩ := K25.out.kk.cells4 (g := w23.heap.size) (c := t) (by simp)
                  obtain ⟨x46a, x46b, x46l⟩ := K25.out.dot2 (g := w.heap.size + 1) (r := r) (s := s) (by simp)
                  obtain ⟨x47a, x47b, x47l⟩ := K25.out.dot2 (g := w.heap.size + 2) (r := r2) (s := s2) (by simp)
                  go_wp2_with fail
                  refine (join_v c t 3 6 _ (K25.out.kk.ok (g := w.heap.size) (c := c) (by simp)) (K25.out.kk.ok (g := w23.heap.size) (c := t) (by simp)) SC3.out ST.out (by omega) (by omega) HV.out VT.out).mono ?_
                  rintro e w25 ⟨⟨p, rfl, hz, ho⟩, hb⟩
                  have KO := Lib.hid (show KKE w [(w.heap.size, c), (w5.heap.size, x), (w5.heap.size + 1, y), (w21.heap.size, u), (w22.heap.size, v), (w23.heap.size, t)] [(w.heap.size + 1, r, s), (w.heap.size + 2, r2, s2)] w25 from K25.out.next hb)
                  have K26 := Lib.hid (show KKE w [(w.heap.size, c), (w5.heap.size, x), (w5.heap.size + 1, y), (w21.heap.size, u), (w22.heap.size, v), (w23.heap.size, t), (w25.heap.size, p)] [(w.heap.size + 1, r, s), (w.heap.size + 2, r2, s2)] (w25.alloc (.cells #[p.v, p.l, p.i] 28)) from KO.out.push p ho.ok)
                  have Hp := Lib.hid hz
                  clear hb hz ho K25 x40a x40b x40c x40l x41a x41b x41c x41l x42a x42b x42c x42l x43a x43b x43c x43l x44a x44b x44c x44l x45a x45b x45c x45l x46a x46b x46l x47a x47b x47l
                  obtain ⟨x48a, x48b, x48c, x48l⟩ := KO.out.kk.cells4 (g := w.heap.size) (c := c) (by simp)
                  obtain ⟨x49a, x49b, x49c, x49l⟩ := KO.out.kk.cells4 (g := w5.heap.size) (c := x) (by simp)
                  obtain ⟨x50a, x50b, x50c, x50l⟩ := KO.out.kk.cells4 (g := w5.heap.size + 1) (c := y) (by simp)
                  obtain ⟨x51a, x51b, x51c, x51l⟩ := KO.out.kk.cells4 (g := w21.heap.size) (c := u) (by simp)
                  obtain ⟨x52a, x52b, x52c, x52l⟩ := KO.out.kk.cells4 (g := w22.heap.size) (c := v) (by simp)
                  obtain ⟨x53a, x53b, x53c, x53l⟩ := KO.out.kk.cells4 (g := w23.heap.size) (c := t) (by simp)
                  obtain ⟨x54a, x54b, x54l⟩ := KO.out.dot2 (g := w.heap.size + 1) (r := r) (s := s) (by simp)
                  obtain ⟨x55a, x55b, x55l⟩ := KO.out.dot2 (g := w.heap.size + 2) (r := r2) (s := s2) (by simp)
                  clear KO
                  have HPU := Lib.hid (show p.ca = u.ca from by rw [Hp.out, Ht.out, HTW.out.2, Hu.out])
                  have HUJ := Lib.hid (show u.ca = joinK (joinK c.ca x.ca) y.ca from by rw [Hu.out]; show joinK (joinK (joinK zeroK c.ca) x.ca) y.ca = _; rw [show joinK zeroK c.ca = c.ca from joinK_zero HV.out])
                  obtain ⟨qv, hqe⟩ : ∃ qv, qv = q := ⟨_, rfl⟩
                  have HQV := Lib.hid (show qtyC u.ca nm = (qv, 0) from by rw [HUJ.out, Hx.out, hqe]; exact two_qty HE1.out VY.out (by rw [Hy.out]; exact rem_seen HE2.out HFR.out) (by rw [Hy.out]; exact fun p0 => rem_mark p0))
                  subst hqe
                  go_wp2_with fail
                  refine (caQty u nm qv 0 _ (K26.out.kk.ok (g := w21.heap.size) (c := u) (by simp)) (FitsP.of SU.out SU.out (by omega) (by omega)).kc HQV.out).mono ?_
                  rintro e w26 ⟨rfl, hb⟩
                  have K27 := Lib.hid (show KKE w [(w.heap.size, c), (w5.heap.size, x), (w5.heap.size + 1, y), (w21.heap.size, u), (w22.heap.size, v), (w23.heap.size, t), (w25.heap.size, p)] [(w.heap.size + 1, r, s), (w.heap.size + 2, r2, s2)] w26 from K26.out.next hb)
                  clear hb K26 x48a x48b x48c x48l x49a x49b x49c x49l x50a x50b x50c x50l x51a x51b x51c x51l x52a x52b x52c x52l x53a x53b x53c x53l x54a x54b x54l x55a x55b x55l
                  obtain ⟨x56a, x56b, x56c, x56l⟩ := K27.out.kk.cells4 (g := w.heap.size) (c := c) (by simp)
                  obtain ⟨x57a, x57b, x57c, x57l⟩ := K27.out.kk.cells4 (g := w5.heap.size) (c := x) (by simp)
                  obtain ⟨x58a, x58b, x58c, x58l⟩ := K27.out.kk.cells4 (g := w5.heap.size + 1) (c := y) (by simp)
                  obtain ⟨x59a, x59b, x59c, x59l⟩ := K27.out.kk.cells4 (g := w21.heap.size) (c := u) (by simp)
                  obtain ⟨x60a, x60b, x60c, x60l⟩ := K27.out.kk.cells4 (g := w22.heap.size) (c := v) (by simp)
                  obtain ⟨x61a, x61b, x61c, x61l⟩ := K27.out.kk.cells4 (g := w23.heap.size) (c := t) (by simp)
                  obtain ⟨x62a, x62b, x62c, x62l⟩ := K27.out.kk.cells4 (g := w25.heap.size) (c := p) (by simp)
                  obtain ⟨x63a, x63b, x63l⟩ := K27.out.dot2 (g := w.heap.size + 1) (r := r) (s := s) (by simp)
                  obtain ⟨x64a, x64b, x64l⟩ := K27.out.dot2 (g := w.heap.size + 2) (r := r2) (s := s2) (by simp)
                  go_wp2_with fail
                  refine (refEqual10 p u true _ (K27.out.kk.ok (g := w25.heap.size) (c := p) (by simp)) (K27.out.kk.ok (g := w21.heap.size) (c := u) (by simp)) (CaV.small9 (HPU.out ▸ SU.out)) (CaV.small9 SU.out) (by rw [HPU.out]; exact sameJ_self _)).mono ?_
                  rintro e w27 ⟨rfl, hb⟩
                  have K28 := Lib.hid (show KKE w [(w.heap.size, c), (w5.heap.size, x), (w5.heap.size + 1, y), (w21.heap.size, u), (w22.heap.size, v), (w23.heap.size, t), (w25.heap.size, p)] [(w.heap.size + 1, r, s), (w.heap.size + 2, r2, s2)] w27 from K27.out.next hb)
                  clear hb K27 x56a x56b x56c x56l x57a x57b x57c x57l x58a x58b x58c x58l x59a x59b x59c x59l x60a x60b x60c x60l x61a x61b x61c x61l x62a x62b x62c x62l x63a x63b x63l x64a x64b x64l
                  obtain ⟨x65a, x65b, x65c, x65l⟩ := K28.out.kk.cells4 (g := w.heap.size) (c := c) (by simp)
                  obtain ⟨x66a, x66b, x66c, x66l⟩ := K28.out.kk.cells4 (g := w5.heap.size) (c := x) (by simp)
                  obtain ⟨x67a, x67b, x67c, x67l⟩ := K28.out.kk.cells4 (g := w5.heap.size + 1) (c := y) (by simp)
                  obtain ⟨x68a, x68b, x68c, x68l⟩ := K28.out.kk.cells4 (g := w21.heap.size) (c := u) (by simp)
                  obtain ⟨x69a, x69b, x69c, x69l⟩ := K28.out.kk.cells4 (g := w22.heap.size) (c := v) (by simp)
                  obtain ⟨x70a, x70b, x70c, x70l⟩ := K28.out.kk.cells4 (g := w23.heap.size) (c := t) (by simp)
                  obtain ⟨x71a, x71b, x71c, x71l⟩ := K28.out.kk.cells4 (g := w25.heap.size) (c := p) (by simp)
                  obtain ⟨x72a, x72b, x72l⟩ := K28.out.dot2 (g := w.heap.size + 1) (r := r) (s := s) (by simp)
                  obtain ⟨x73a, x73b, x73l⟩ := K28.out.dot2 (g := w.heap.size + 2) (r := r2) (s := s2) (by simp)
                  go_wp2_with fail
                  refine (HKN.out _).mono ?_
                  rintro e wk ⟨rfl, hb⟩
                  have KC := Lib.hid (below_trans K28.out.kk.bel hb)
                  clear hb K28 x65a x65b x65c x65l x66a x66b x66c x66l x67a x67b x67c x67l x68a x68b x68c x68l x69a x69b x69c x69l x70a x70b x70c x70l x71a x71b x71c x71l x72a x72b x72l x73a x73b x73l
                  go_wp2_with fail
                  go_ret
                  exact OneB.bool rfl KC.out
                · have h2n : ¬ (e2 : Int) = 0 := by omega
                  go_enter Tryz.func7, Tryz.ntmps7
                  go_upto_region 1 with fail
                  generalize World.alloc (World.alloc (World.alloc w _) _) _ = w2 at K0 ⊢
                  obtain ⟨x1a, x1b, x1c, x1l⟩ := K0.out.kk.cells4 (g := w.heap.size) (c := c) (by simp)
                  obtain ⟨x2a, x2b, x2l⟩ := K0.out.dot2 (g := w.heap.size + 1) (r := r) (s := s) (by simp)
                  obtain ⟨x3a, x3b, x3l⟩ := K0.out.dot2 (g := w.heap.size + 2) (r := r2) (s := s2) (by simp)
                  go_wp2_with fail
                  refine (lawLight10 c true _ (K0.out.kk.ok (g := w.heap.size) (c := c) (by simp)) HL.out).mono ?_
                  rintro e w3 ⟨rfl, hb⟩
                  have K1 := Lib.hid (show KKE w [(w.heap.size, c)] [(w.heap.size + 1, r, s), (w.heap.size + 2, r2, s2)] w3 from K0.out.next hb)
                  clear hb K0 x1a x1b x1c x1l x2a x2b x2l x3a x3b x3l
                  obtain ⟨x4a, x4b, x4c, x4l⟩ := K1.out.kk.cells4 (g := w.heap.size) (c := c) (by simp)
                  obtain ⟨x5a, x5b, x5l⟩ := K1.out.dot2 (g := w.heap.size + 1) (r := r) (s := s) (by simp)
                  obtain ⟨x6a, x6b, x6l⟩ := K1.out.dot2 (g := w.heap.size + 2) (r := r2) (s := s2) (by simp)
                  go_wp2_with fail
                  refine (caValid c true _ (K1.out.kk.ok (g := w.heap.size) (c := c) (by simp)) HFD.out.k HV.out).mono ?_
                  rintro e w4 ⟨rfl, hb⟩
                  have K2 := Lib.hid (show KKE w [(w.heap.size, c)] [(w.heap.size + 1, r, s), (w.heap.size + 2, r2, s2)] w4 from K1.out.next hb)
                  clear hb K1 x4a x4b x4c x4l x5a x5b x5l x6a x6b x6l
                  obtain ⟨x7a, x7b, x7c, x7l⟩ := K2.out.kk.cells4 (g := w.heap.size) (c := c) (by simp)
                  obtain ⟨x8a, x8b, x8l⟩ := K2.out.dot2 (g := w.heap.size + 1) (r := r) (s := s) (by simp)
                  obtain ⟨x9a, x9b, x9l⟩ := K2.out.dot2 (g := w.heap.size + 2) (r := r2) (s := s2) (by simp)
                  go_wp2_with fail
                  refine (HA.out _ (K2.out.kk.ok (g := w.heap.size) (c := c) (by simp))).mono ?_
                  rintro e w5 ⟨⟨x, rfl, hz, ho⟩, hb⟩
                  have KO := Lib.hid (show KKE w [(w.heap.size, c)] [(w.heap.size + 1, r, s), (w.heap.size + 2, r2, s2)] w5 from K2.out.next hb)
                  have K3 := Lib.hid (show KKE w [(w.heap.size, c), (w5.heap.size, x)] [(w.heap.size + 1, r, s), (w.heap.size + 2, r2, s2)] (w5.alloc (.cells #[x.v, x.l, x.i] 28)) from KO.out.push x ho)
                  have Hx := Lib.hid hz
                  clear hb hz ho K2 x7a x7b x7c x7l x8a x8b x8l x9a x9b x9l
                  have hs5 := (KO.out.dot2 (g := w.heap.size + 2) (r := r2) (s := s2) (by simp)).2.2
                  obtain ⟨x10a, x10b, x10c, x10l⟩ := KO.out.kk.cells4 (g := w.heap.size) (c := c) (by simp)
                  obtain ⟨x11a, x11b, x11l⟩ := KO.out.dot2 (g := w.heap.size + 1) (r := r) (s := s) (by simp)
                  obtain ⟨x12a, x12b, x12l⟩ := KO.out.dot2 (g := w.heap.size + 2) (r := r2) (s := s2) (by simp)
                  clear KO
                  have KY := Lib.hid (show KYE w [(w.heap.size, c), (w5.heap.size, x)] [(w.heap.size + 1, r, s), (w.heap.size + 2, r2, s2)] (w5.heap.size + 1) ((w5.alloc (.cells #[x.v, x.l, x.i] 28)).alloc (.cells #[.slice none 0 0, .slice none 0 0, .slice none 0 0] 28)) from KYE.new K3.out (by simp))
                  clear K3
                  go_wp2_with fail
                  refine (HB.out _ (KY.out.k.kk.ok (g := w.heap.size) (c := c) (by simp))).mono ?_
                  rintro e w6 ⟨⟨y, rfl, hz, ho⟩, hb⟩
                  have KZ := Lib.hid (KY.out.next hb)
                  have Hy := Lib.hid hz
                  have K20 := Lib.hid (show KKE w [(w.heap.size, c), (w5.heap.size, x), (w5.heap.size + 1, y)] [(w.heap.size + 1, r, s), (w.heap.size + 2, r2, s2)] (((w6.setCell ⟨w5.heap.size + 1, 0, none⟩ y.v).setCell ⟨w5.heap.size + 1, 1, none⟩ y.l).setCell ⟨w5.heap.size + 1, 2, none⟩ y.i) from KZ.out.fill y ho (fun p hp => by simp only [List.mem_cons, List.not_mem_nil, or_false] at hp; rcases hp with rfl | rfl <;> (show _ ≠ _; dsimp only; omega)) (fun p hp => by simp only [List.mem_cons, List.not_mem_nil, or_false] at hp; rcases hp with rfl | rfl <;> (show _ ≠ _; dsimp only; omega)))
                  obtain ⟨b0, b1, b2, bf0, bf1, bf2, bl⟩ := KZ.out.ycells
                  clear hb hz ho KY x10a x10b x10c x10l x11a x11b x11l x12a x12b x12l
                  have KZK := Lib.hid KZ.out.k
                  obtain ⟨x13a, x13b, x13c, x13l⟩ := KZK.out.kk.cells4 (g := w.heap.size) (c := c) (by simp)
                  obtain ⟨x14a, x14b, x14c, x14l⟩ := KZK.out.kk.cells4 (g := w5.heap.size) (c := x) (by simp)
                  obtain ⟨x15a, x15b, x15l⟩ := KZK.out.dot2 (g := w.heap.size + 1) (r := r) (s := s) (by simp)
                  obtain ⟨x16a, x16b, x16l⟩ := KZK.out.dot2 (g := w.heap.size + 2) (r := r2) (s := s2) (by simp)
                  clear KZ KZK
                  go_wp2_with fail
                  refine (HKN.out _).mono ?_
                  rintro e wk ⟨rfl, hb⟩
                  have KC := Lib.hid (below_trans K20.out.kk.bel hb)
                  clear hb K20 x13a x13b x13c x13l x14a x14b x14c x14l x15a x15b x15l x16a x16b x16l b0 b1 b2 bf0 bf1 bf2 bl
                  go_wp2_with fail
                  go_ret
                  exact OneB.bool rfl KC.out
              · have i3 : (m : Int).tmod 3 = 1 := by rw [Int.tmod_eq_emod_of_nonneg (Int.natCast_nonneg m)]; omega
                have HB := Lib.hid fun W (h : CaOK W c) => HDO.out.cle c W h HFD.out
                obtain ⟨e2, he2⟩ : ∃ e, cleE c.ca = e := ⟨_, rfl⟩
                rw [he2] at HB
                have HE2 := Lib.hid he2
                clear he2 hm3
                by_cases h2 : e2 = 0
                · subst h2
                  go_enter Tryz.func7, Tryz.ntmps7
                  go_upto_region 1 with fail
                  generalize World.alloc (World.alloc (World.alloc w _) _) _ = w2 at K0 ⊢
                  obtain ⟨x1a, x1b, x1c, x1l⟩ := K0.out.kk.cells4 (g := w.heap.size) (c := c) (by simp)
                  obtain ⟨x2a, x2b, x2l⟩ := K0.out.dot2 (g := w.heap.size + 1) (r := r) (s := s) (by simp)
                  obtain ⟨x3a, x3b, x3l⟩ := K0.out.dot2 (g := w.heap.size + 2) (r := r2) (s := s2) (by simp)
                  go_wp2_with fail
                  refine (lawLight10 c true _ (K0.out.kk.ok (g := w.heap.size) (c := c) (by simp)) HL.out).mono ?_
                  rintro e w3 ⟨rfl, hb⟩
                  have K1 := Lib.hid (show KKE w [(w.heap.size, c)] [(w.heap.size + 1, r, s), (w.heap.size + 2, r2, s2)] w3 from K0.out.next hb)
                  clear hb K0 x1a x1b x1c x1l x2a x2b x2l x3a x3b x3l
                  obtain ⟨x4a, x4b, x4c, x4l⟩ := K1.out.kk.cells4 (g := w.heap.size) (c := c) (by simp)
                  obtain ⟨x5a, x5b, x5l⟩ := K1.out.dot2 (g := w.heap.size + 1) (r := r) (s := s) (by simp)
                  obtain ⟨x6a, x6b, x6l⟩ := K1.out.dot2 (g := w.heap.size + 2) (r := r2) (s := s2) (by simp)
                  go_wp2_with fail
                  refine (caValid c true _ (K1.out.kk.ok (g := w.heap.size) (c := c) (by simp)) HFD.out.k HV.out).mono ?_
                  rintro e w4 ⟨rfl, hb⟩
                  have K2 := Lib.hid (show KKE w [(w.heap.size, c)] [(w.heap.size + 1, r, s), (w.heap.size + 2, r2, s2)] w4 from K1.out.next hb)
                  clear hb K1 x4a x4b x4c x4l x5a x5b x5l x6a x6b x6l
                  obtain ⟨x7a, x7b, x7c, x7l⟩ := K2.out.kk.cells4 (g := w.heap.size) (c := c) (by simp)
                  obtain ⟨x8a, x8b, x8l⟩ := K2.out.dot2 (g := w.heap.size + 1) (r := r) (s := s) (by simp)
                  obtain ⟨x9a, x9b, x9l⟩ := K2.out.dot2 (g := w.heap.size + 2) (r := r2) (s := s2) (by simp)
                  go_wp2_with fail
                  refine (HA.out _ (K2.out.kk.ok (g := w.heap.size) (c := c) (by simp))).mono ?_
                  rintro e w5 ⟨⟨x, rfl, hz, ho⟩, hb⟩
                  have KO := Lib.hid (show KKE w [(w.heap.size, c)] [(w.heap.size + 1, r, s), (w.heap.size + 2, r2, s2)] w5 from K2.out.next hb)
                  have K3 := Lib.hid (show KKE w [(w.heap.size, c), (w5.heap.size, x)] [(w.heap.size + 1, r, s), (w.heap.size + 2, r2, s2)] (w5.alloc (.cells #[x.v, x.l, x.i] 28)) from KO.out.push x ho)
                  have Hx := Lib.hid hz
                  clear hb hz ho K2 x7a x7b x7c x7l x8a x8b x8l x9a x9b x9l
                  have hs5 := (KO.out.dot2 (g := w.heap.size + 2) (r := r2) (s := s2) (by simp)).2.2
                  obtain ⟨x10a, x10b, x10c, x10l⟩ := KO.out.kk.cells4 (g := w.heap.size) (c := c) (by simp)
                  obtain ⟨x11a, x11b, x11l⟩ := KO.out.dot2 (g := w.heap.size + 1) (r := r) (s := s) (by simp)
                  obtain ⟨x12a, x12b, x12l⟩ := KO.out.dot2 (g := w.heap.size + 2) (r := r2) (s := s2) (by simp)
                  clear KO
                  have KY := Lib.hid (show KYE w [(w.heap.size, c), (w5.heap.size, x)] [(w.heap.size + 1, r, s), (w.heap.size + 2, r2, s2)] (w5.heap.size + 1) ((w5.alloc (.cells #[x.v, x.l, x.i] 28)).alloc (.cells #[.slice none 0 0, .slice none 0 0, .slice none 0 0] 28)) from KYE.new K3.out (by simp))
                  clear K3
                  go_wp2_with fail
                  refine (HB.out _ (KY.out.k.kk.ok (g := w.heap.size) (c := c) (by simp))).mono ?_
                  rintro e w6 ⟨⟨y, rfl, hz, ho⟩, hb⟩
                  have KZ := Lib.hid (KY.out.next hb)
                  have Hy := Lib.hid hz
                  have K20 := Lib.hid (show KKE w [(w.heap.size, c), (w5.heap.size, x), (w5.heap.size + 1, y)] [(w.heap.size + 1, r, s), (w.heap.size + 2, r2, s2)] (((w6.setCell ⟨w5.heap.size + 1, 0, none⟩ y.v).setCell ⟨w5.heap.size + 1, 1, none⟩ y.l).setCell ⟨w5.heap.size + 1, 2, none⟩ y.i) from KZ.out.fill y ho (fun p hp => by simp only [List.mem_cons, List.not_mem_nil, or_false] at hp; rcases hp with rfl | rfl <;> (show _ ≠ _; dsimp only; omega)) (fun p hp => by simp only [List.mem_cons, List.not_mem_nil, or_false] at hp; rcases hp with rfl | rfl <;> (show _ ≠ _; dsimp only; omega)))
                  obtain ⟨b0, b1, b2, bf0, bf1, bf2, bl⟩ := KZ.out.ycells
                  clear hb hz ho KY x10a x10b x10c x10l x11a x11b x11l x12a x12b x12l
                  have KZK := Lib.hid KZ.out.k
                  obtain ⟨x13a, x13b, x13c, x13l⟩ := KZK.out.kk.cells4 (g := w.heap.size) (c := c) (by simp)
                  obtain ⟨x14a, x14b, x14c, x14l⟩ := KZK.out.kk.cells4 (g := w5.heap.size) (c := x) (by simp)
                  obtain ⟨x15a, x15b, x15l⟩ := KZK.out.dot2 (g := w.heap.size + 1) (r := r) (s := s) (by simp)
                  obtain ⟨x16a, x16b, x16l⟩ := KZK.out.dot2 (g := w.heap.size + 2) (r := r2) (s := s2) (by simp)
                  clear KZ KZK
                  have VX := Lib.hid (show validK x.ca = true from by rw [Hx.out]; exact putD_valid)
                  have VY := Lib.hid (show validK y.ca = true from by rw [Hy.out]; first | exact remD_valid | exact cleD_valid | exact putD_valid)
                  have SC3 := Lib.hid (show SizeK 3 c.ca from SizeK.mono HC.out (by omega))
                  have SX := Lib.hid (show SizeK 3 x.ca from by rw [Hx.out]; exact putD_size HC.out hn)
                  have SY := Lib.hid (show SizeK 3 y.ca from by rw [Hy.out]; first | exact remD_size HC.out | exact cleD_size HC.out | exact putD_size HC.out ho1)
                  have HFR := Lib.hid (show hasK c.ca (r, s) = false from (putE_ok HE1.out).2.2.1)
                  go_upto_region 15 with fail
                  have hK := K20.out
                  clear K20 x13a x13b x13c x13l x14a x14b x14c x14l x15a x15b x15l x16a x16b x16l b0 b1 b2 bf0 bf1 bf2 bl
                  generalize World.setCell (World.setCell (World.setCell w6 _ _) _ _) _ _ = W7 at hK ⊢
                  have K21 := Lib.hid (show KKE w [(w.heap.size, c), (w5.heap.size, x), (w5.heap.size + 1, y)] [(w.heap.size + 1, r, s), (w.heap.size + 2, r2, s2)] W7 from hK)
                  clear hK
                  obtain ⟨x17a, x17b, x17c, x17l⟩ := K21.out.kk.cells4 (g := w.heap.size) (c := c) (by simp)
                  obtain ⟨x18a, x18b, x18c, x18l⟩ := K21.out.kk.cells4 (g := w5.heap.size) (c := x) (by simp)
                  obtain ⟨x19a, x19b, x19c, x19l⟩ := K21.out.kk.cells4 (g := w5.heap.size + 1) (c := y) (by simp)
                  obtain ⟨x20a, x20b, x20l⟩ := K21.out.dot2 (g := w.heap.size + 1) (r := r) (s := s) (by simp)
                  obtain ⟨x21a, x21b, x21l⟩ := K21.out.dot2 (g := w.heap.size + 2) (r := r2) (s := s2) (by simp)
                  have hal := (Below.refl W7.heap.size W7).alloc (Nat.le_refl _) (.cells #[c.v, c.l, c.i, x.v, x.l, x.i, y.v, y.l, y.i] 28)
                  have KA := Lib.hid (show KKE w [(w.heap.size, c), (w5.heap.size, x), (w5.heap.size + 1, y)] [(w.heap.size + 1, r, s), (w.heap.size + 2, r2, s2)] (W7.alloc (.cells #[c.v, c.l, c.i, x.v, x.l, x.i, y.v, y.l, y.i] 28)) from K21.out.next hal)
                  have HCA := Lib.hid (show CartsAt (W7.alloc (.cells #[c.v, c.l, c.i, x.v, x.l, x.i, y.v, y.l, y.i] 28)) (some ⟨W7.heap.size, 0, none⟩) [c, x, y] from ⟨SlAt.litAt encCa_len W7 _ rfl 28 [c, x, y] (by simp [maxLen]), fun z0 hz0 => by
                    simp only [List.mem_cons, List.not_mem_nil, or_false] at hz0
                    rcases hz0 with h | h | h
                    · rw [h]; exact KA.out.kk.ok (g := w.heap.size) (c := c) (by simp)
                    · rw [h]; exact KA.out.kk.ok (g := w5.heap.size) (c := x) (by simp)
                    · rw [h]; exact KA.out.kk.ok (g := w5.heap.size + 1) (c := y) (by simp)⟩)
                  clear hal
                  go_wp2_with fail
                  refine (all_t c x y _ _ HCA.out SC3.out SX.out SY.out HV.out VX.out VY.out).mono ?_
                  rintro e w21 ⟨⟨u, rfl, hz, ho⟩, hb⟩
                  have KO := Lib.hid (show KKE w [(w.heap.size, c), (w5.heap.size, x), (w5.heap.size + 1, y)] [(w.heap.size + 1, r, s), (w.heap.size + 2, r2, s2)] w21 from KA.out.next hb)
                  have K22 := Lib.hid (show KKE w [(w.heap.size, c), (w5.heap.size, x), (w5.heap.size + 1, y), (w21.heap.size, u)] [(w.heap.size + 1, r, s), (w.heap.size + 2, r2, s2)] (w21.alloc (.cells #[u.v, u.l, u.i] 28)) from KO.out.push u ho.ok)
                  have Hu := Lib.hid hz
                  clear hb hz ho KA HCA K21 x17a x17b x17c x17l x18a x18b x18c x18l x19a x19b x19c x19l x20a x20b x20l x21a x21b x21l
                  obtain ⟨x22a, x22b, x22c, x22l⟩ := KO.out.kk.cells4 (g := w.heap.size) (c := c) (by simp)
                  obtain ⟨x23a, x23b, x23c, x23l⟩ := KO.out.kk.cells4 (g := w5.heap.size) (c := x) (by simp)
                  obtain ⟨x24a, x24b, x24c, x24l⟩ := KO.out.kk.cells4 (g := w5.heap.size + 1) (c := y) (by simp)
                  obtain ⟨x25a, x25b, x25l⟩ := KO.out.dot2 (g := w.heap.size + 1) (r := r) (s := s) (by simp)
                  obtain ⟨x26a, x26b, x26l⟩ := KO.out.dot2 (g := w.heap.size + 2) (r := r2) (s := s2) (by simp)
                  clear KO
                  have hal := (Below.refl (w21.alloc (.cells #[u.v, u.l, u.i] 28)).heap.size (w21.alloc (.cells #[u.v, u.l, u.i] 28))).alloc (Nat.le_refl _) (.cells #[c.v, c.l, c.i, y.v, y.l, y.i, x.v, x.l, x.i] 28)
                  have KA := Lib.hid (show KKE w [(w.heap.size, c), (w5.heap.size, x), (w5.heap.size + 1, y), (w21.heap.size, u)] [(w.heap.size + 1, r, s), (w.heap.size + 2, r2, s2)] ((w21.alloc (.cells #[u.v, u.l, u.i] 28)).alloc (.cells #[c.v, c.l, c.i, y.v, y.l, y.i, x.v, x.l, x.i] 28)) from K22.out.next hal)
                  have HCA := Lib.hid (show CartsAt ((w21.alloc (.cells #[u.v, u.l, u.i] 28)).alloc (.cells #[c.v, c.l, c.i, y.v, y.l, y.i, x.v, x.l, x.i] 28)) (some ⟨w21.heap.size + 1, 0, none⟩) [c, y, x] from by rw [← World.size_alloc w21 (.cells #[u.v, u.l, u.i] 28)]; exact ⟨SlAt.litAt encCa_len (w21.alloc (.cells #[u.v, u.l, u.i] 28)) _ rfl 28 [c, y, x] (by simp [maxLen]), fun z0 hz0 => by
                    simp only [List.mem_cons, List.not_mem_nil, or_false] at hz0
                    rcases hz0 with h | h | h
                    · rw [h]; exact KA.out.kk.ok (g := w.heap.size) (c := c) (by simp)
                    · rw [h]; exact KA.out.kk.ok (g := w5.heap.size + 1) (c := y) (by simp)
                    · rw [h]; exact KA.out.kk.ok (g := w5.heap.size) (c := x) (by simp)⟩)
                  clear hal
                  go_wp2_with fail
                  refine (all_t c y x _ _ HCA.out SC3.out SY.out SX.out HV.out VY.out VX.out).mono ?_
                  rintro e w22 ⟨⟨v, rfl, hz, ho⟩, hb⟩
                  have KO := Lib.hid (show KKE w [(w.heap.size, c), (w5.heap.size, x), (w5.heap.size + 1, y), (w21.heap.size, u)] [(w.heap.size + 1, r, s), (w.heap.size + 2, r2, s2)] w22 from KA.out.next hb)
                  have K23 := Lib.hid (show KKE w [(w.heap.size, c), (w5.heap.size, x), (w5.heap.size + 1, y), (w21.heap.size, u), (w22.heap.size, v)] [(w.heap.size + 1, r, s), (w.heap.size + 2, r2, s2)] (w22.alloc (.cells #[v.v, v.l, v.i] 28)) from KO.out.push v ho.ok)
                  have Hv := Lib.hid hz
                  clear hb hz ho KA HCA K22 x22a x22b x22c x22l x23a x23b x23c x23l x24a x24b x24c x24l x25a x25b x25l x26a x26b x26l
                  obtain ⟨x27a, x27b, x27c, x27l⟩ := KO.out.kk.cells4 (g := w.heap.size) (c := c) (by simp)
                  obtain ⟨x28a, x28b, x28c, x28l⟩ := KO.out.kk.cells4 (g := w5.heap.size) (c := x) (by simp)
                  obtain ⟨x29a, x29b, x29c, x29l⟩ := KO.out.kk.cells4 (g := w5.heap.size + 1) (c := y) (by simp)
                  obtain ⟨x30a, x30b, x30c, x30l⟩ := KO.out.kk.cells4 (g := w21.heap.size) (c := u) (by simp)
                  obtain ⟨x31a, x31b, x31l⟩ := KO.out.dot2 (g := w.heap.size + 1) (r := r) (s := s) (by simp)
                  obtain ⟨x32a, x32b, x32l⟩ := KO.out.dot2 (g := w.heap.size + 2) (r := r2) (s := s2) (by simp)
                  clear KO
                  go_wp2_with fail
                  refine (join_v x y 3 3 _ (K23.out.kk.ok (g := w5.heap.size) (c := x) (by simp)) (K23.out.kk.ok (g := w5.heap.size + 1) (c := y) (by simp)) SX.out SY.out (by omega) (by omega) VX.out VY.out).mono ?_
                  rintro e w23 ⟨⟨t, rfl, hz, ho⟩, hb⟩
                  have KO := Lib.hid (show KKE w [(w.heap.size, c), (w5.heap.size, x), (w5.heap.size + 1, y), (w21.heap.size, u), (w22.heap.size, v)] [(w.heap.size + 1, r, s), (w.heap.size + 2, r2, s2)] w23 from K23.out.next hb)
                  have K24 := Lib.hid (show KKE w [(w.heap.size, c), (w5.heap.size, x), (w5.heap.size + 1, y), (w21.heap.size, u), (w22.heap.size, v), (w23.heap.size, t)] [(w.heap.size + 1, r, s), (w.heap.size + 2, r2, s2)] (w23.alloc (.cells #[t.v, t.l, t.i] 28)) from KO.out.push t ho.ok)
                  have Ht := Lib.hid hz
                  clear hb hz ho K23 x27a x27b x27c x27l x28a x28b x28c x28l x29a x29b x29c x29l x30a x30b x30c x30l x31a x31b x31l x32a x32b x32l
                  obtain ⟨x33a, x33b, x33c, x33l⟩ := KO.out.kk.cells4 (g := w.heap.size) (c := c) (by simp)
                  obtain ⟨x34a, x34b, x34c, x34l⟩ := KO.out.kk.cells4 (g := w5.heap.size) (c := x) (by simp)
                  obtain ⟨x35a, x35b, x35c, x35l⟩ := KO.out.kk.cells4 (g := w5.heap.size + 1) (c := y) (by simp)
                  obtain ⟨x36a, x36b, x36c, x36l⟩ := KO.out.kk.cells4 (g := w21.heap.size) (c := u) (by simp)
                  obtain ⟨x37a, x37b, x37c, x37l⟩ := KO.out.kk.cells4 (g := w22.heap.size) (c := v) (by simp)
                  obtain ⟨x38a, x38b, x38l⟩ := KO.out.dot2 (g := w.heap.size + 1) (r := r) (s := s) (by simp)
                  obtain ⟨x39a, x39b, x39l⟩ := KO.out.dot2 (g := w.heap.size + 2) (r := r2) (s := s2) (by simp)
                  clear KO
                  have HTW := Lib.hid (join_two HV.out VX.out VY.out)
                  have SU := Lib.hid (show SizeK 9 u.ca from by rw [Hu.out]; exact allK_size3 SC3.out SX.out SY.out HV.out VX.out VY.out)
                  have SV := Lib.hid (show SizeK 9 v.ca from by rw [Hv.out]; exact allK_size3 SC3.out SY.out SX.out HV.out VY.out VX.out)
                  have ST := Lib.hid (show SizeK 6 t.ca from by rw [Ht.out]; exact joinK_size VX.out VY.out SX.out SY.out)
                  have VT := Lib.hid (show validK t.ca = true from by rw [Ht.out]; exact joinK_valid VX.out VY.out)
                  have VU := Lib.hid (show validK u.ca = true from by rw [Hu.out]; exact allK_valid (by intro z0 hz0; simp only [List.mem_cons, List.not_mem_nil, or_false] at hz0; rcases hz0 with h | h | h <;> rw [h] <;> first | exact HV.out | exact VX.out | exact VY.out))
                  go_wp2_with fail
                  refine (refEqual10 u v true _ (K24.out.kk.ok (g := w21.heap.size) (c := u) (by simp)) (K24.out.kk.ok (g := w22.heap.size) (c := v) (by simp)) (CaV.small9 SU.out) (CaV.small9 SV.out) (by rw [Hu.out, Hv.out, HTW.out.1]; exact sameJ_self _)).mono ?_
                  rintro e w24 ⟨rfl, hb⟩
                  have K25 := Lib.hid (show KKE w [(w.heap.size, c), (w5.heap.size, x), (w5.heap.size + 1, y), (w21.heap.size, u), (w22.heap.size, v), (w23.heap.size, t)] [(w.heap.size + 1, r, s), (w.heap.size + 2, r2, s2)] w24 from K24.out.next hb)
                  clear hb K24 x33a x33b x33c x33l x34a x34b x34c x34l x35a x35b x35c x35l x36a x36b x36c x36l x37a x37b x37c x37l x38a x38b x38l x39a x39b x39l
                  obtain ⟨x40a, x40b, x40c, x40l⟩ := K25.out.kk.cells4 (g := w.heap.size) (c := c) (by simp)
                  obtain ⟨x41a, x41b, x41c, x41l⟩ := K25.out.kk.cells4 (g := w5.heap.size) (c := x) (by simp)
                  obtain ⟨x42a, x42b, x42c, x42l⟩ := K25.out.kk.cells4 (g := w5.heap.size + 1) (c := y) (by simp)
                  obtain ⟨x43a, x43b, x43c, x43l⟩ := K25.out.kk.cells4 (g := w21.heap.size) (c := u) (by simp)
                  obtain ⟨x44a, x44b, x44c, x44l⟩ := K25.out.kk.cells4 (g := w22.heap.size) (c := v) (by simp)
                  obtain ⟨x45a, x45b, x45c, x45l⟩ := K25.out.kk.cells4 (g := w23.heap.size) (c := t) (by simp)
                  obtain ⟨x46a, x46b, x46l⟩ := K25.out.dot2 (g := w.heap.size + 1) (r := r) (s := s) (by simp)
                  obtain ⟨x47a, x47b, x47l⟩ := K25.out.dot2 (g := w.heap.size + 2) (r := r2) (s := s2) (by simp)
                  go_wp2_with fail
                  refine (join_v c t 3 6 _ (K25.out.kk.ok (g := w.heap.size) (c := c) (by simp)) (K25.out.kk.ok (g := w23.heap.size) (c := t) (by simp)) SC3.out ST.out (by omega) (by omega) HV.out VT.out).mono ?_
                  rintro e w25 ⟨⟨p, rfl, hz, ho⟩, hb⟩
                  have KO := Lib.hid (show KKE w [(w.heap.size, c), (w5.heap.size, x), (w5.heap.size + 1, y), (w21.heap.size, u), (w22.heap.size, v), (w23.heap.size, t)] [(w.heap.size + 1, r, s), (w.heap.size + 2, r2, s2)] w25 from K25.out.next hb)
                  have K26 := Lib.hid (show KKE w [(w.heap.size, c), (w5.heap.size, x), (w5.heap.size + 1, y), (w21.heap.size, u), (w22.heap.size, v), (w23.heap.size, t), (w25.heap.size, p)] [(w.heap.size + 1, r, s), (w.heap.size + 2, r2, s2)] (w25.alloc (.cells #[p.v, p.l, p.i] 28)) from KO.out.push p ho.ok)
                  have Hp := Lib.hid hz
                  clear hb hz ho K25 x40a x40b x40c x40l x41a x41b x41c x41l x42a x42b x42c x42l x43a x43b x43c x43l x44a x44b x44c x44l x45a x45b x45c x45l x46a x46b x46l x47a x47b x47l
                  obtain ⟨x48a, x48b, x48c, x48l⟩ := KO.out.kk.cells4 (g := w.heap.size) (c := c) (by simp)
                  obtain ⟨x49a, x49b, x49c, x49l⟩ := KO.out.kk.cells4 (g := w5.heap.size) (c := x) (by simp)
                  obtain ⟨x50a, x50b, x50c, x50l⟩ := KO.out.kk.cells4 (g := w5.heap.size + 1) (c := y) (by simp)
                  obtain ⟨x51a, x51b, x51c, x51l⟩ := KO.out.kk.cells4 (g := w21.heap.size) (c := u) (by simp)
                  obtain ⟨x52a, x52b, x52c, x52l⟩ := KO.out.kk.cells4 (g := w22.heap.size) (c := v) (by simp)
                  obtain ⟨x53a, x53b, x53c, x53l⟩ := KO.out.kk.cells4 (g := w23.heap.size) (c := t) (by simp)
                  obtain ⟨x54a, x54b, x54l⟩ := KO.out.dot2 (g := w.heap.size + 1) (r := r) (s := s) (by simp)
                  obtain ⟨x55a, x55b, x55l⟩ := KO.out.dot2 (g := w.heap.size + 2) (r := r2) (s := s2) (by simp)
                  clear KO
                  have HPU := Lib.hid (show p.ca = u.ca from by rw [Hp.out, Ht.out, HTW.out.2, Hu.out])
                  have HUJ := Lib.hid (show u.ca = joinK (joinK c.ca x.ca) y.ca from by rw [Hu.out]; show joinK (joinK (joinK zeroK c.ca) x.ca) y.ca = _; rw [show joinK zeroK c.ca = c.ca from joinK_zero HV.out])
                  obtain ⟨qv, hqe⟩ : ∃ qv, qv = q := ⟨_, rfl⟩
                  have HQV := Lib.hid (show qtyC u.ca nm = (qv, 0) from by rw [HUJ.out, Hx.out, hqe]; exact two_qty HE1.out VY.out (by rw [Hy.out]; exact cle_seen HE2.out HFR.out) (by rw [Hy.out]; exact fun p0 => cle_mark p0))
                  subst hqe
                  go_wp2_with fail
                  refine (caQty u nm qv 0 _ (K26.out.kk.ok (g := w21.heap.size) (c := u) (by simp)) (FitsP.of SU.out SU.out (by omega) (by omega)).kc HQV.out).mono ?_
                  rintro e w26 ⟨rfl, hb⟩
                  have K27 := Lib.hid (show KKE w [(w.heap.size, c), (w5.heap.size, x), (w5.heap.size + 1, y), (w21.heap.size, u), (w22.heap.size, v), (w23.heap.size, t), (w25.heap.size, p)] [(w.heap.size + 1, r, s), (w.heap.size + 2, r2, s2)] w26 from K26.out.next hb)
                  clear hb K26 x48a x48b x48c x48l x49a x49b x49c x49l x50a x50b x50c x50l x51a x51b x51c x51l x52a x52b x52c x52l x53a x53b x53c x53l x54a x54b x54l x55a x55b x55l
                  obtain ⟨x56a, x56b, x56c, x56l⟩ := K27.out.kk.cells4 (g := w.heap.size) (c := c) (by simp)
                  obtain ⟨x57a, x57b, x57c, x57l⟩ := K27.out.kk.cells4 (g := w5.heap.size) (c := x) (by simp)
                  obtain ⟨x58a, x58b, x58c, x58l⟩ := K27.out.kk.cells4 (g := w5.heap.size + 1) (c := y) (by simp)
                  obtain ⟨x59a, x59b, x59c, x59l⟩ := K27.out.kk.cells4 (g := w21.heap.size) (c := u) (by simp)
                  obtain ⟨x60a, x60b, x60c, x60l⟩ := K27.out.kk.cells4 (g := w22.heap.size) (c := v) (by simp)
                  obtain ⟨x61a, x61b, x61c, x61l⟩ := K27.out.kk.cells4 (g := w23.heap.size) (c := t) (by simp)
                  obtain ⟨x62a, x62b, x62c, x62l⟩ := K27.out.kk.cells4 (g := w25.heap.size) (c := p) (by simp)
                  obtain ⟨x63a, x63b, x63l⟩ := K27.out.dot2 (g := w.heap.size + 1) (r := r) (s := s) (by simp)
                  obtain ⟨x64a, x64b, x64l⟩ := K27.out.dot2 (g := w.heap.size + 2) (r := r2) (s := s2) (by simp)
                  go_wp2_with fail
                  refine (refEqual10 p u true _ (K27.out.kk.ok (g := w25.heap.size) (c := p) (by simp)) (K27.out.kk.ok (g := w21.heap.size) (c := u) (by simp)) (CaV.small9 (HPU.out ▸ SU.out)) (CaV.small9 SU.out) (by rw [HPU.out]; exact sameJ_self _)).mono ?_
                  rintro e w27 ⟨rfl, hb⟩
                  have K28 := Lib.hid (show KKE w [(w.heap.size, c), (w5.heap.size, x), (w5.heap.size + 1, y), (w21.heap.size, u), (w22.heap.size, v), (w23.heap.size, t), (w25.heap.size, p)] [(w.heap.size + 1, r, s), (w.heap.size + 2, r2, s2)] w27 from K27.out.next hb)
                  clear hb K27 x56a x56b x56c x56l x57a x57b x57c x57l x58a x58b x58c x58l x59a x59b x59c x59l x60a x60b x60c x60l x61a x61b x61c x61l x62a x62b x62c x62l x63a x63b x63l x64a x64b x64l
                  obtain ⟨x65a, x65b, x65c, x65l⟩ := K28.out.kk.cells4 (g := w.heap.size) (c := c) (by simp)
                  obtain ⟨x66a, x66b, x66c, x66l⟩ := K28.out.kk.cells4 (g := w5.heap.size) (c := x) (by simp)
                  obtain ⟨x67a, x67b, x67c, x67l⟩ := K28.out.kk.cells4 (g := w5.heap.size + 1) (c := y) (by simp)
                  obtain ⟨x68a, x68b, x68c, x68l⟩ := K28.out.kk.cells4 (g := w21.heap.size) (c := u) (by simp)
                  obtain ⟨x69a, x69b, x69c, x69l⟩ := K28.out.kk.cells4 (g := w22.heap.size) (c := v) (by simp)
                  obtain ⟨x70a, x70b, x70c, x70l⟩ := K28.out.kk.cells4 (g := w23.heap.size) (c := t) (by simp)
                  obtain ⟨x71a, x71b, x71c, x71l⟩ := K28.out.kk.cells4 (g := w25.heap.size) (c := p) (by simp)
                  obtain ⟨x72a, x72b, x72l⟩ := K28.out.dot2 (g := w.heap.size + 1) (r := r) (s := s) (by simp)
                  obtain ⟨x73a, x73b, x73l⟩ := K28.out.dot2 (g := w.heap.size + 2) (r := r2) (s := s2) (by simp)
                  go_wp2_with fail
                  refine (HKN.out _).mono ?_
                  rintro e wk ⟨rfl, hb⟩
                  have KC := Lib.hid (below_trans K28.out.kk.bel hb)
                  clear hb K28 x65a x65b x65c x65l x66a x66b x66c x66l x67a x67b x67c x67l x68a x68b x68c x68l x69a x69b x69c x69l x70a x70b x70c x70l x71a x71b x71c x71l x72a x72b x72l x73a x73b x73l
                  go_wp2_with fail
                  go_ret
                  exact OneB.bool rfl KC.out
                · have h2n : ¬ (e2 : Int) = 0 := by omega
                  go_enter Tryz.func7, Tryz.ntmps7
                  go_upto_region 1 with fail
                  generalize World.alloc (World.alloc (World.alloc w _) _) _ = w2 at K0 ⊢
                  obtain ⟨x1a, x1b, x1c, x1l⟩ := K0.out.kk.cells4 (g := w.heap.size) (c := c) (by simp)
                  obtain ⟨x2a, x2b, x2l⟩ := K0.out.dot2 (g := w.heap.size + 1) (r := r) (s := s) (by simp)
                  obtain ⟨x3a, x3b, x3l⟩ := K0.out.dot2 (g := w.heap.size + 2) (r := r2) (s := s2) (by simp)
                  go_wp2_with fail
                  refine (lawLight10 c true _ (K0.out.kk.ok (g := w.heap.size) (c := c) (by simp)) HL.out).mono ?_
                  rintro e w3 ⟨rfl, hb⟩
                  have K1 := Lib.hid (show KKE w [(w.heap.size, c)] [(w.heap.size + 1, r, s), (w.heap.size + 2, r2, s2)] w3 from K0.out.next hb)
                  clear hb K0 x1a x1b x1c x1l x2a x2b x2l x3a x3b x3l
                  obtain ⟨x4a, x4b, x4c, x4l⟩ := K1.out.kk.cells4 (g := w.heap.size) (c := c) (by simp)
                  obtain ⟨x5a, x5b, x5l⟩ := K1.out.dot2 (g := w.heap.size + 1) (r := r) (s := s) (by simp)
                  obtain ⟨x6a, x6b, x6l⟩ := K1.out.dot2 (g := w.heap.size + 2) (r := r2) (s := s2) (by simp)
                  go_wp2_with fail
                  refine (caValid c true _ (K1.out.kk.ok (g := w.heap.size) (c := c) (by simp)) HFD.out.k HV.out).mono ?_
                  rintro e w4 ⟨rfl, hb⟩
                  have K2 := Lib.hid (show KKE w [(w.heap.size, c)] [(w.heap.size + 1, r, s), (w.heap.size + 2, r2, s2)] w4 from K1.out.next hb)
                  clear hb K1 x4a x4b x4c x4l x5a x5b x5l x6a x6b x6l
                  obtain ⟨x7a, x7b, x7c, x7l⟩ := K2.out.kk.cells4 (g := w.heap.size) (c := c) (by simp)
                  obtain ⟨x8a, x8b, x8l⟩ := K2.out.dot2 (g := w.heap.size + 1) (r := r) (s := s) (by simp)
                  obtain ⟨x9a, x9b, x9l⟩ := K2.out.dot2 (g := w.heap.size + 2) (r := r2) (s := s2) (by simp)
                  go_wp2_with fail
                  refine (HA.out _ (K2.out.kk.ok (g := w.heap.size) (c := c) (by simp))).mono ?_
                  rintro e w5 ⟨⟨x, rfl, hz, ho⟩, hb⟩
                  have KO := Lib.hid (show KKE w [(w.heap.size, c)] [(w.heap.size + 1, r, s), (w.heap.size + 2, r2, s2)] w5 from K2.out.next hb)
                  have K3 := Lib.hid (show KKE w [(w.heap.size, c), (w5.heap.size, x)] [(w.heap.size + 1, r, s), (w.heap.size + 2, r2, s2)] (w5.alloc (.cells #[x.v, x.l, x.i] 28)) from KO.out.push x ho)
                  have Hx := Lib.hid hz
                  clear hb hz ho K2 x7a x7b x7c x7l x8a x8b x8l x9a x9b x9l
                  have hs5 := (KO.out.dot2 (g := w.heap.size + 2) (r := r2) (s := s2) (by simp)).2.2
                  obtain ⟨x10a, x10b, x10c, x10l⟩ := KO.out.kk.cells4 (g := w.heap.size) (c := c) (by simp)
                  obtain ⟨x11a, x11b, x11l⟩ := KO.out.dot2 (g := w.heap.size + 1) (r := r) (s := s) (by simp)
                  obtain ⟨x12a, x12b, x12l⟩ := KO.out.dot2 (g := w.heap.size + 2) (r := r2) (s := s2) (by simp)
                  clear KO
                  have KY := Lib.hid (show KYE w [(w.heap.size, c), (w5.heap.size, x)] [(w.heap.size + 1, r, s), (w.heap.size + 2, r2, s2)] (w5.heap.size + 1) ((w5.alloc (.cells #[x.v, x.l, x.i] 28)).alloc (.cells #[.slice none 0 0, .slice none 0 0, .slice none 0 0] 28)) from KYE.new K3.out (by simp))
                  clear K3
                  go_wp2_with fail
                  refine (HB.out _ (KY.out.k.kk.ok (g := w.heap.size) (c := c) (by simp))).mono ?_
                  rintro e w6 ⟨⟨y, rfl, hz, ho⟩, hb⟩
                  have KZ := Lib.hid (KY.out.next hb)
                  have Hy := Lib.hid hz
                  have K20 := Lib.hid (show KKE w [(w.heap.size, c), (w5.heap.size, x), (w5.heap.size + 1, y)] [(w.heap.size + 1, r, s), (w.heap.size + 2, r2, s2)] (((w6.setCell ⟨w5.heap.size + 1, 0, none⟩ y.v).setCell ⟨w5.heap.size + 1, 1, none⟩ y.l).setCell ⟨w5.heap.size + 1, 2, none⟩ y.i) from KZ.out.fill y ho (fun p hp => by simp only [List.mem_cons, List.not_mem_nil, or_false] at hp; rcases hp with rfl | rfl <;> (show _ ≠ _; dsimp only; omega)) (fun p hp => by simp only [List.mem_cons, List.not_mem_nil, or_false] at hp; rcases hp with rfl | rfl <;> (show _ ≠ _; dsimp only; omega)))
                  obtain ⟨b0, b1, b2, bf0, bf1, bf2, bl⟩ := KZ.out.ycells
                  clear hb hz ho KY x10a x10b x10c x10l x11a x11b x11l x12a x12b x12l
                  have KZK := Lib.hid KZ.out.k
                  obtain ⟨x13a, x13b, x13c, x13l⟩ := KZK.out.kk.cells4 (g := w.heap.size) (c := c) (by simp)
                  obtain ⟨x14a, x14b, x14c, x14l⟩ := KZK.out.kk.cells4 (g := w5.heap.size) (c := x) (by simp)
                  obtain ⟨x15a, x15b, x15l⟩ := KZK.out.dot2 (g := w.heap.size + 1) (r := r) (s := s) (by simp)
                  obtain ⟨x16a, x16b, x16l⟩ := KZK.out.dot2 (g := w.heap.size + 2) (r := r2) (s := s2) (by simp)
                  clear KZ KZK
                  go_wp2_with fail
                  refine (HKN.out _).mono ?_
                  rintro e wk ⟨rfl, hb⟩
                  have KC := Lib.hid (below_trans K20.out.kk.bel hb)
                  clear hb K20 x13a x13b x13c x13l x14a x14b x14c x14l x15a x15b x15l x16a x16b x16l b0 b1 b2 bf0 bf1 bf2 bl
                  go_wp2_with fail
                  go_ret
                  exact OneB.bool rfl KC.out
              · have i3 : (m : Int).tmod 3 = 2 := by rw [Int.tmod_eq_emod_of_nonneg (Int.natCast_nonneg m)]; omega
                have HB := Lib.hid fun W (h : CaOK W c) => HDO.out.set c r2 s2 other 1 W h HFD.out hn2
                obtain ⟨e2, he2⟩ : ∃ e, putE c.ca (r2, s2) other 1 true = e := ⟨_, rfl⟩
                rw [he2] at HB
                have HE2 := Lib.hid he2
                clear he2 hm3
                by_cases h2 : e2 = 0
                · subst h2
                  go_enter Tryz.func7, Tryz.ntmps7
                  go_upto_region 1 with fail
                  generalize World.alloc (World.alloc (World.alloc w _) _) _ = w2 at K0 ⊢
                  obtain ⟨x1a, x1b, x1c, x1l⟩ := K0.out.kk.cells4 (g := w.heap.size) (c := c) (by simp)
                  obtain ⟨x2a, x2b, x2l⟩ := K0.out.dot2 (g := w.heap.size + 1) (r := r) (s := s) (by simp)
                  obtain ⟨x3a, x3b, x3l⟩ := K0.out.dot2 (g := w.heap.size + 2) (r := r2) (s := s2) (by simp)
                  go_wp2_with fail
                  refine (lawLight10 c true _ (K0.out.kk.ok (g := w.heap.size) (c := c) (by simp)) HL.out).mono ?_
                  rintro e w3 ⟨rfl, hb⟩
                  have K1 := Lib.hid (show KKE w [(w.heap.size, c)] [(w.heap.size + 1, r, s), (w.heap.size + 2, r2, s2)] w3 from K0.out.next hb)
                  clear hb K0 x1a x1b x1c x1l x2a x2b x2l x3a x3b x3l
                  obtain ⟨x4a, x4b, x4c, x4l⟩ := K1.out.kk.cells4 (g := w.heap.size) (c := c) (by simp)
                  obtain ⟨x5a, x5b, x5l⟩ := K1.out.dot2 (g := w.heap.size + 1) (r := r) (s := s) (by simp)
                  obtain ⟨x6a, x6b, x6l⟩ := K1.out.dot2 (g := w.heap.size + 2) (r := r2) (s := s2) (by simp)
                  go_wp2_with fail
                  refine (caValid c true _ (K1.out.kk.ok (g := w.heap.size) (c := c) (by simp)) HFD.out.k HV.out).mono ?_
                  rintro e w4 ⟨rfl, hb⟩
                  have K2 := Lib.hid (show KKE w [(w.heap.size, c)] [(w.heap.size + 1, r, s), (w.heap.size + 2, r2, s2)] w4 from K1.out.next hb)
                  clear hb K1 x4a x4b x4c x4l x5a x5b x5l x6a x6b x6l
                  obtain ⟨x7a, x7b, x7c, x7l⟩ := K2.out.kk.cells4 (g := w.heap.size) (c := c) (by simp)
                  obtain ⟨x8a, x8b, x8l⟩ := K2.out.dot2 (g := w.heap.size + 1) (r := r) (s := s) (by simp)
                  obtain ⟨x9a, x9b, x9l⟩ := K2.out.dot2 (g := w.heap.size + 2) (r := r2) (s := s2) (by simp)
                  go_wp2_with fail
                  refine (HA.out _ (K2.out.kk.ok (g := w.heap.size) (c := c) (by simp))).mono ?_
                  rintro e w5 ⟨⟨x, rfl, hz, ho⟩, hb⟩
                  have KO := Lib.hid (show KKE w [(w.heap.size, c)] [(w.heap.size + 1, r, s), (w.heap.size + 2, r2, s2)] w5 from K2.out.next hb)
                  have K3 := Lib.hid (show KKE w [(w.heap.size, c), (w5.heap.size, x)] [(w.heap.size + 1, r, s), (w.heap.size + 2, r2, s2)] (w5.alloc (.cells #[x.v, x.l, x.i] 28)) from KO.out.push x ho)
                  have Hx := Lib.hid hz
                  clear hb hz ho K2 x7a x7b x7c x7l x8a x8b x8l x9a x9b x9l
                  have hs5 := (KO.out.dot2 (g := w.heap.size + 2) (r := r2) (s := s2) (by simp)).2.2
                  obtain ⟨x10a, x10b, x10c, x10l⟩ := KO.out.kk.cells4 (g := w.heap.size) (c := c) (by simp)
                  obtain ⟨x11a, x11b, x11l⟩ := KO.out.dot2 (g := w.heap.size + 1) (r := r) (s := s) (by simp)
                  obtain ⟨x12a, x12b, x12l⟩ := KO.out.dot2 (g := w.heap.size + 2) (r := r2) (s := s2) (by simp)
                  clear KO
                  have KY := Lib.hid (show KYE w [(w.heap.size, c), (w5.heap.size, x)] [(w.heap.size + 1, r, s), (w.heap.size + 2, r2, s2)] (w5.heap.size + 1) ((w5.alloc (.cells #[x.v, x.l, x.i] 28)).alloc (.cells #[.slice none 0 0, .slice none 0 0, .slice none 0 0] 28)) from KYE.new K3.out (by simp))
                  clear K3
                  go_wp2_with fail
                  refine (HB.out _ (KY.out.k.kk.ok (g := w.heap.size) (c := c) (by simp))).mono ?_
                  rintro e w6 ⟨⟨y, rfl, hz, ho⟩, hb⟩
                  have KZ := Lib.hid (KY.out.next hb)
                  have Hy := Lib.hid hz
                  have K20 := Lib.hid (show KKE w [(w.heap.size, c), (w5.heap.size, x), (w5.heap.size + 1, y)] [(w.heap.size + 1, r, s), (w.heap.size + 2, r2, s2)] (((w6.setCell ⟨w5.heap.size + 1, 0, none⟩ y.v).setCell ⟨w5.heap.size + 1, 1, none⟩ y.l).setCell ⟨w5.heap.size + 1, 2, none⟩ y.i) from KZ.out.fill y ho (fun p hp => by simp only [List.mem_cons, List.not_mem_nil, or_false] at hp; rcases hp with rfl | rfl <;> (show _ ≠ _; dsimp only; omega)) (fun p hp => by simp only [List.mem_cons, List.not_mem_nil, or_false] at hp; rcases hp with rfl | rfl <;> (show _ ≠ _; dsimp only; omega)))
                  obtain ⟨b0, b1, b2, bf0, bf1, bf2, bl⟩ := KZ.out.ycells
                  clear hb hz ho KY x10a x10b x10c x10l x11a x11b x11l x12a x12b x12l
                  have KZK := Lib.hid KZ.out.k
                  obtain ⟨x13a, x13b, x13c, x13l⟩ := KZK.out.kk.cells4 (g := w.heap.size) (c := c) (by simp)
                  obtain ⟨x14a, x14b, x14c, x14l⟩ := KZK.out.kk.cells4 (g := w5.heap.size) (c := x) (by simp)
                  obtain ⟨x15a, x15b, x15l⟩ := KZK.out.dot2 (g := w.heap.size + 1) (r := r) (s := s) (by simp)
                  obtain ⟨x16a, x16b, x16l⟩ := KZK.out.dot2 (g := w.heap.size + 2) (r := r2) (s := s2) (by simp)
                  clear KZ KZK
                  have VX := Lib.hid (show validK x.ca = true from by rw [Hx.out]; exact putD_valid)
                  have VY := Lib.hid (show validK y.ca = true from by rw [Hy.out]; first | exact remD_valid | exact cleD_valid | exact putD_valid)
                  have SC3 := Lib.hid (show SizeK 3 c.ca from SizeK.mono HC.out (by omega))
                  have SX := Lib.hid (show SizeK 3 x.ca from by rw [Hx.out]; exact putD_size HC.out hn)
                  have SY := Lib.hid (show SizeK 3 y.ca from by rw [Hy.out]; first | exact remD_size HC.out | exact cleD_size HC.out | exact putD_size HC.out ho1)
                  have HFR := Lib.hid (show hasK c.ca (r, s) = false from (putE_ok HE1.out).2.2.1)
                  go_upto_region 15 with fail
                  have hK := K20.out
                  clear K20 x13a x13b x13c x13l x14a x14b x14c x14l x15a x15b x15l x16a x16b x16l b0 b1 b2 bf0 bf1 bf2 bl
                  generalize World.setCell (World.setCell (World.setCell w6 _ _) _ _) _ _ = W7 at hK ⊢
                  have K21 := Lib.hid (show KKE w [(w.heap.size, c), (w5.heap.size, x), (w5.heap.size + 1, y)] [(w.heap.size + 1, r, s), (w.heap.size + 2, r2, s2)] W7 from hK)
                  clear hK
                  obtain ⟨x17a, x17b, x17c, x17l⟩ := K21.out.kk.cells4 (g := w.heap.size) (c := c) (by simp)
                  obtain ⟨x18a, x18b, x18c, x18l⟩ := K21.out.kk.cells4 (g := w5.heap.size) (c := x) (by simp)
                  obtain ⟨x19a, x19b, x19c, x19l⟩ := K21.out.kk.cells4 (g := w5.heap.size + 1) (c := y) (by simp)
                  obtain ⟨x20a, x20b, x20l⟩ := K21.out.dot2 (g := w.heap.size + 1) (r := r) (s := s) (by simp)
                  obtain ⟨x21a, x21b, x21l⟩ := K21.out.dot2 (g := w.heap.size + 2) (r := r2) (s := s2) (by simp)
                  have hal := (Below.refl W7.heap.size W7).alloc (Nat.le_refl _) (.cells #[c.v, c.l, c.i, x.v, x.l, x.i, y.v, y.l, y.i] 28)
                  have KA := Lib.hid (show KKE w [(w.heap.size, c), (w5.heap.size, x), (w5.heap.size + 1, y)] [(w.heap.size + 1, r, s), (w.heap.size + 2, r2, s2)] (W7.alloc (.cells #[c.v, c.l, c.i, x.v, x.l, x.i, y.v, y.l, y.i] 28)) from K21.out.next hal)
                  have HCA := Lib.hid (show CartsAt (W7.alloc (.cells #[c.v, c.l, c.i, x.v, x.l, x.i, y.v, y.l, y.i] 28)) (some ⟨W7.heap.size, 0, none⟩) [c, x, y] from ⟨SlAt.litAt encCa_len W7 _ rfl 28 [c, x, y] (by simp [maxLen]), fun z0 hz0 => by
                    simp only [List.mem_cons, List.not_mem_nil, or_false] at hz0
                    rcases hz0 with h | h | h
                    · rw [h]; exact KA.out.kk.ok (g := w.heap.size) (c := c) (by simp)
                    · rw [h]; exact KA.out.kk.ok (g := w5.heap.size) (c := x) (by simp)
                    · rw [h]; exact KA.out.kk.ok (g := w5.heap.size + 1) (c := y) (by simp)⟩)
                  clear hal
                  go_wp2_with fail
                  refine (all_t c x y _ _ HCA.out SC3.out SX.out SY.out HV.out VX.out VY.out).mono ?_
                  rintro e w21 ⟨⟨u, rfl, hz, ho⟩, hb⟩
                  have KO := Lib.hid (show KKE w [(w.heap.size, c), (w5.heap.size, x), (w5.heap.size + 1, y)] [(w.heap.size + 1, r, s), (w.heap.size + 2, r2, s2)] w21 from KA.out.next hb)
                  have K22 := Lib.hid (show KKE w [(w.heap.size, c), (w5.heap.size, x), (w5.heap.size + 1, y), (w21.heap.size, u)] [(w.heap.size + 1, r, s), (w.heap.size + 2, r2, s2)] (w21.alloc (.cells #[u.v, u.l, u.i] 28)) from KO.out.push u ho.ok)
                  have Hu := Lib.hid hz
                  clear hb hz ho KA HCA K21 x17a x17b x17c x17l x18a x18b x18c x18l x19a x19b x19c x19l x20a x20b x20l x21a x21b x21l
                  obtain ⟨x22a, x22b, x22c, x22l⟩ := KO.out.kk.cells4 (g := w.heap.size) (c := c) (by simp)
                  obtain ⟨x23a, x23b, x23c, x23l⟩ := KO.out.kk.cells4 (g := w5.heap.size) (c := x) (by simp)
                  obtain ⟨x24a, x24b, x24c, x24l⟩ := KO.out.kk.cells4 (g := w5.heap.size + 1) (c := y) (by simp)
                  obtain ⟨x25a, x25b, x25l⟩ := KO.out.dot2 (g := w.heap.size + 1) (r := r) (s := s) (by simp)
                  obtain ⟨x26a, x26b, x26l⟩ := KO.out.dot2 (g := w.heap.size + 2) (r := r2) (s := s2) (by simp)
                  clear KO
                  have hal := (Below.refl (w21.alloc (.cells #[u.v, u.l, u.i] 28)).heap.size (w21.alloc (.cells #[u.v, u.l, u.i] 28))).alloc (Nat.le_refl _) (.cells #[c.v, c.l, c.i, y.v, y.l, y.i, x.v, x.l, x.i] 28)
                  have KA := Lib.hid (show KKE w [(w.heap.size, c), (w5.heap.size, x), (w5.heap.size + 1, y), (w21.heap.size, u)] [(w.heap.size + 1, r, s), (w.heap.size + 2, r2, s2)] ((w21.alloc (.cells #[u.v, u.l, u.i] 28)).alloc (.cells #[c.v, c.l, c.i, y.v, y.l, y.i, x.v, x.l, x.i] 28)) from K22.out.next hal)
                  have HCA := Lib.hid (show CartsAt ((w21.alloc (.cells #[u.v, u.l, u.i] 28)).alloc (.cells #[c.v, c.l, c.i, y.v, y.l, y.i, x.v, x.l, x.i] 28)) (some ⟨w21.heap.size + 1, 0, none⟩) [c, y, x] from by rw [← World.size_alloc w21 (.cells #[u.v, u.l, u.i] 28)]; exact ⟨SlAt.litAt encCa_len (w21.alloc (.cells #[u.v, u.l, u.i] 28)) _ rfl 28 [c, y, x] (by simp [maxLen]), fun z0 hz0 => by
                    simp only [List.mem_cons, List.not_mem_nil, or_false] at hz0
                    rcases hz0 with h | h | h
                    · rw [h]; exact KA.out.kk.ok (g := w.heap.size) (c := c) (by simp)
                    · rw [h]; exact KA.out.kk.ok (g := w5.heap.size + 1) (c := y) (by simp)
                    · rw [h]; exact KA.out.kk.ok (g := w5.heap.size) (c := x) (by simp)⟩)
                  clear hal
                  go_wp2_with fail
                  refine (all_t c y x _ _ HCA.out SC3.out SY.out SX.out HV.out VY.out VX.out).mono ?_
                  rintro e w22 ⟨⟨v, rfl, hz, ho⟩, hb⟩
                  have KO := Lib.hid (show KKE w [(w.heap.size, c), (w5.heap.size, x), (w5.heap.size + 1, y), (w21.heap.size, u)] [(w.heap.size + 1, r, s), (w.heap.size + 2, r2, s2)] w22 from KA.out.next hb)
                  have K23 := Lib.hid (show KKE w [(w.heap.size, c), (w5.heap.size, x), (w5.heap.size + 1, y), (w21.heap.size, u), (w22.heap.size, v)] [(w.heap.size + 1, r, s), (w.heap.size + 2, r2, s2)] (w22.alloc (.cells #[v.v, v.l, v.i] 28)) from KO.out.push v ho.ok)
                  have Hv := Lib.hid hz
                  clear hb hz ho KA HCA K22 x22a x22b x22c x22l x23a x23b x23c x23l x24a x24b x24c x24l x25a x25b x25l x26a x26b x26l
                  obtain ⟨x27a, x27b, x27c, x27l⟩ := KO.out.kk.cells4 (g := w.heap.size) (c := c) (by simp)
                  obtain ⟨x28a, x28b, x28c, x28l⟩ := KO.out.kk.cells4 (g := w5.heap.size) (c := x) (by simp)
                  obtain ⟨x29a, x29b, x29c, x29l⟩ := KO.out.kk.cells4 (g := w5.heap.size + 1) (c := y) (by simp)
                  obtain ⟨x30a, x30b, x30c, x30l⟩ := KO.out.kk.cells4 (g := w21.heap.size) (c := u) (by simp)
                  obtain ⟨x31a, x31b, x31l⟩ := KO.out.dot2 (g := w.heap.size + 1) (r := r) (s := s) (by simp)
                  obtain ⟨x32a, x32b, x32l⟩ := KO.out.dot2 (g := w.heap.size + 2) (r := r2) (s := s2) (by simp)
                  clear KO
                  go_wp2_with fail
                  refine (join_v x y 3 3 _ (K23.out.kk.ok (g := w5.heap.size) (c := x) (by simp)) (K23.out.kk.ok (g := w5.heap.size + 1) (c := y) (by simp)) SX.out SY.out (by omega) (by omega) VX.out VY.out).mono ?_
                  rintro e w23 ⟨⟨t, rfl, hz, ho⟩, hb⟩
                  have KO := Lib.hid (show KKE w [(w.heap.size, c), (w5.heap.size, x), (w5.heap.size + 1, y), (w21.heap.size, u), (w22.heap.size, v)] [(w.heap.size + 1, r, s), (w.heap.size + 2, r2, s2)] w23 from K23.out.next hb)
                  have K24 := Lib.hid (show KKE w [(w.heap.size, c), (w5.heap.size, x), (w5.heap.size + 1, y), (w21.heap.size, u), (w22.heap.size, v), (w23.heap.size, t)] [(w.heap.size + 1, r, s), (w.heap.size + 2, r2, s2)] (w23.alloc (.cells #[t.v, t.l, t.i] 28)) from KO.out.push t ho.ok)
                  have Ht := Lib.hid hz
                  clear hb hz ho K23 x27a x27b x27c x27l x28a x28b x28c x28l x29a x29b x29c x29l x30a x30b x30c x30l x31a x31b x31l x32a x32b x32l
                  obtain ⟨x33a, x33b, x33c, x33l⟩ := KO.out.kk.cells4 (g := w.heap.size) (c := c) (by simp)
                  obtain ⟨x34a, x34b, x34c, x34l⟩ := KO.out.kk.cells4 (g := w5.heap.size) (c := x) (by simp)
                  obtain ⟨x35a, x35b, x35c, x35l⟩ := KO.out.kk.cells4 (g := w5.heap.size + 1) (c := y) (by simp)
                  obtain ⟨x36a, x36b, x36c, x36l⟩ := KO.out.kk.cells4 (g := w21.heap.size) (c := u) (by simp)
                  obtain ⟨x37a, x37b, x37c, x37l⟩ := KO.out.kk.cells4 (g := w22.heap.size) (c := v) (by simp)
                  obtain ⟨x38a, x38b, x38l⟩ := KO.out.dot2 (g := w.heap.size + 1) (r := r) (s := s) (by simp)
                  obtain ⟨x39a, x39b, x39l⟩ := KO.out.dot2 (g := w.heap.size + 2) (r := r2) (s := s2) (by simp)
                  clear KO
                  have HTW := Lib.hid (join_two HV.out VX.out VY.out)
                  have SU := Lib.hid (show SizeK 9 u.ca from by rw [Hu.out]; exact allK_size3 SC3.out SX.out SY.out HV.out VX.out VY.out)
                  have SV := Lib.hid (show SizeK 9 v.ca from by rw [Hv.out]; exact allK_size3 SC3.out SY.out SX.out HV.out VY.out VX.out)
                  have ST := Lib.hid (show SizeK 6 t.ca from by rw [Ht.out]; exact joinK_size VX.out VY.out SX.out SY.out)
                  have VT := Lib.hid (show validK t.ca = true from by rw [Ht.out]; exact joinK_valid VX.out VY.out)
                  have VU := Lib.hid (show validK u.ca = true from by rw [Hu.out]; exact allK_valid (by intro z0 hz0; simp only [List.mem_cons, List.not_mem_nil, or_false] at hz0; rcases hz0 with h | h | h <;> rw [h] <;> first | exact HV.out | exact VX.out | exact VY.out))
                  go_wp2_with fail
                  refine (refEqual10 u v true _ (K24.out.kk.ok (g := w21.heap.size) (c := u) (by simp)) (K24.out.kk.ok (g := w22.heap.size) (c := v) (by simp)) (CaV.small9 SU.out) (CaV.small9 SV.out) (by rw [Hu.out, Hv.out, HTW.out.1]; exact sameJ_self _)).mono ?_
                  rintro e w24 ⟨rfl, hb⟩
                  have K25 := Lib.hid (show KKE w [(w.heap.size, c), (w5.heap.size, x), (w5.heap.size + 1, y), (w21.heap.size, u), (w22.heap.size, v), (w23.heap.size, t)] [(w.heap.size + 1, r, s), (w.heap.size + 2, r2, s2)] w24 from K24.out.next hb)
                  clear hb K24 x33a x33b x33c x33l x34a x34b x34c x34l x35a x35b x35c x35l x36a x36b x36c x36l x37a x37b x37c x37l x38a x38b x38l x39a x39b x39l
                  obtain ⟨x40a, x40b, x40c, x40l⟩ := K25.out.kk.cells4 (g := w.heap.size) (c := c) (by simp)
                  obtain ⟨x41a, x41b, x41c, x41l⟩ := K25.out.kk.cells4 (g := w5.heap.size) (c := x) (by simp)
                  obtain ⟨x42a, x42b, x42c, x42l⟩ := K25.out.kk.cells4 (g := w5.heap.size + 1) (c := y) (by simp)
                  obtain ⟨x43a, x43b, x43c, x43l⟩ := K25.out.kk.cells4 (g := w21.heap.size) (c := u) (by simp)
                  obtain ⟨x44a, x44b, x44c, x44l⟩ := K25.out.kk.cells4 (g := w22.heap.size) (c := v) (by simp)
                  obtain ⟨x45a, x45b, x45c, x45l⟩ := K25.out.kk.cells4 (g := w23.heap.size) (c := t) (by simp)
                  obtain ⟨x46a, x46b, x46l⟩ := K25.out.dot2 (g := w.heap.size + 1) (r := r) (s := s) (by simp)
                  obtain ⟨x47a, x47b, x47l⟩ := K25.out.dot2 (g := w.heap.size + 2) (r := r2) (s := s2) (by simp)
                  go_wp2_with fail
                  refine (join_v c t 3 6 _ (K25.out.kk.ok (g := w.heap.size) (c := c) (by simp)) (K25.out.kk.ok (g := w23.heap.size) (c := t) (by simp)) SC3.out ST.out (by omega) (by omega) HV.out VT.out).mono ?_
                  rintro e w25 ⟨⟨p, rfl, hz, ho⟩, hb⟩
                  have KO := Lib.hid (show KKE w [(w.heap.size, c), (w5.heap.size, x), (w5.heap.size + 1, y), (w21.heap.size, u), (w22.heap.size, v), (w23.heap.size, t)] [(w.heap.size + 1, r, s), (w.heap.size + 2, r2, s2)] w25 from K25.out.next hb)
                  have K26 := Lib.hid (show KKE w [(w.heap.size, c), (w5.heap.size, x), (w5.heap.size + 1, y), (w21.heap.size, u), (w22.heap.size, v), (w23.heap.size, t), (w25.heap.size, p)] [(w.heap.size + 1, r, s), (w.heap.size + 2, r2, s2)] (w25.alloc (.cells #[p.v, p.l, p.i] 28)) from KO.out.push p ho.ok)
                  have Hp := Lib.hid hz
                  clear hb hz ho K25 x40a x40b x40c x40l x41a x41b x41c x41l x42a x42b x42c x42l x43a x43b x43c x43l x44a x44b x44c x44l x45a x45b x45c x45l x46a x46b x46l x47a x47b x47l
                  obtain ⟨x48a, x48b, x48c, x48l⟩ := KO.out.kk.cells4 (g := w.heap.size) (c := c) (by simp)
                  obtain ⟨x49a, x49b, x49c, x49l⟩ := KO.out.kk.cells4 (g := w5.heap.size) (c := x) (by simp)
                  obtain ⟨x50a, x50b, x50c, x50l⟩ := KO.out.kk.cells4 (g := w5.heap.size + 1) (c := y) (by simp)
                  obtain ⟨x51a, x51b, x51c, x51l⟩ := KO.out.kk.cells4 (g := w21.heap.size) (c := u) (by simp)
                  obtain ⟨x52a, x52b, x52c, x52l⟩ := KO.out.kk.cells4 (g := w22.heap.size) (c := v) (by simp)
                  obtain ⟨x53a, x53b, x53c, x53l⟩ := KO.out.kk.cells4 (g := w23.heap.size) (c := t) (by simp)
                  obtain ⟨x54a, x54b, x54l⟩ := KO.out.dot2 (g := w.heap.size + 1) (r := r) (s := s) (by simp)
                  obtain ⟨x55a, x55b, x55l⟩ := KO.out.dot2 (g := w.heap.size + 2) (r := r2) (s := s2) (by simp)
                  clear KO
                  have HPU := Lib.hid (show p.ca = u.ca from by rw [Hp.out, Ht.out, HTW.out.2, Hu.out])
                  have HUJ := Lib.hid (show u.ca = joinK (joinK c.ca x.ca) y.ca from by rw [Hu.out]; show joinK (joinK (joinK zeroK c.ca) x.ca) y.ca = _; rw [show joinK zeroK c.ca = c.ca from joinK_zero HV.out])
                  by_cases hon : other = nm
                  · have hs : (other == nm) = true := by rw [hon]; exact beq_self_eq_true nm
                    obtain ⟨qv, hqv⟩ : ∃ qv, qtyC u.ca nm = (qv, 0) := by
                      rw [HUJ.out, Hx.out, Hy.out]; rw [hon] at HE2 ⊢; exact two_some HE1.out HE2.out HDF.out
                    have HQV := Lib.hid hqv
                    clear hqv hon
                    go_wp2_with fail
                    refine (caQty u nm qv 0 _ (K26.out.kk.ok (g := w21.heap.size) (c := u) (by simp)) (FitsP.of SU.out SU.out (by omega) (by omega)).kc HQV.out).mono ?_
                    rintro e w26 ⟨rfl, hb⟩
                    have K27 := Lib.hid (show KKE w [(w.heap.size, c), (w5.heap.size, x), (w5.heap.size + 1, y), (w21.heap.size, u), (w22.heap.size, v), (w23.heap.size, t), (w25.heap.size, p)] [(w.heap.size + 1, r, s), (w.heap.size + 2, r2, s2)] w26 from K26.out.next hb)
                    clear hb K26 x48a x48b x48c x48l x49a x49b x49c x49l x50a x50b x50c x50l x51a x51b x51c x51l x52a x52b x52c x52l x53a x53b x53c x53l x54a x54b x54l x55a x55b x55l
                    obtain ⟨x56a, x56b, x56c, x56l⟩ := K27.out.kk.cells4 (g := w.heap.size) (c := c) (by simp)
                    obtain ⟨x57a, x57b, x57c, x57l⟩ := K27.out.kk.cells4 (g := w5.heap.size) (c := x) (by simp)
                    obtain ⟨x58a, x58b, x58c, x58l⟩ := K27.out.kk.cells4 (g := w5.heap.size + 1) (c := y) (by simp)
                    obtain ⟨x59a, x59b, x59c, x59l⟩ := K27.out.kk.cells4 (g := w21.heap.size) (c := u) (by simp)
                    obtain ⟨x60a, x60b, x60c, x60l⟩ := K27.out.kk.cells4 (g := w22.heap.size) (c := v) (by simp)
                    obtain ⟨x61a, x61b, x61c, x61l⟩ := K27.out.kk.cells4 (g := w23.heap.size) (c := t) (by simp)
                    obtain ⟨x62a, x62b, x62c, x62l⟩ := K27.out.kk.cells4 (g := w25.heap.size) (c := p) (by simp)
                    obtain ⟨x63a, x63b, x63l⟩ := K27.out.dot2 (g := w.heap.size + 1) (r := r) (s := s) (by simp)
                    obtain ⟨x64a, x64b, x64l⟩ := K27.out.dot2 (g := w.heap.size + 2) (r := r2) (s := s2) (by simp)
                    go_wp2_with fail
                    refine (refEqual10 p u true _ (K27.out.kk.ok (g := w25.heap.size) (c := p) (by simp)) (K27.out.kk.ok (g := w21.heap.size) (c := u) (by simp)) (CaV.small9 (HPU.out ▸ SU.out)) (CaV.small9 SU.out) (by rw [HPU.out]; exact sameJ_self _)).mono ?_
                    rintro e w27 ⟨rfl, hb⟩
                    have K28 := Lib.hid (show KKE w [(w.heap.size, c), (w5.heap.size, x), (w5.heap.size + 1, y), (w21.heap.size, u), (w22.heap.size, v), (w23.heap.size, t), (w25.heap.size, p)] [(w.heap.size + 1, r, s), (w.heap.size + 2, r2, s2)] w27 from K27.out.next hb)
                    clear hb K27 x56a x56b x56c x56l x57a x57b x57c x57l x58a x58b x58c x58l x59a x59b x59c x59l x60a x60b x60c x60l x61a x61b x61c x61l x62a x62b x62c x62l x63a x63b x63l x64a x64b x64l
                    obtain ⟨x65a, x65b, x65c, x65l⟩ := K28.out.kk.cells4 (g := w.heap.size) (c := c) (by simp)
                    obtain ⟨x66a, x66b, x66c, x66l⟩ := K28.out.kk.cells4 (g := w5.heap.size) (c := x) (by simp)
                    obtain ⟨x67a, x67b, x67c, x67l⟩ := K28.out.kk.cells4 (g := w5.heap.size + 1) (c := y) (by simp)
                    obtain ⟨x68a, x68b, x68c, x68l⟩ := K28.out.kk.cells4 (g := w21.heap.size) (c := u) (by simp)
                    obtain ⟨x69a, x69b, x69c, x69l⟩ := K28.out.kk.cells4 (g := w22.heap.size) (c := v) (by simp)
                    obtain ⟨x70a, x70b, x70c, x70l⟩ := K28.out.kk.cells4 (g := w23.heap.size) (c := t) (by simp)
                    obtain ⟨x71a, x71b, x71c, x71l⟩ := K28.out.kk.cells4 (g := w25.heap.size) (c := p) (by simp)
                    obtain ⟨x72a, x72b, x72l⟩ := K28.out.dot2 (g := w.heap.size + 1) (r := r) (s := s) (by simp)
                    obtain ⟨x73a, x73b, x73l⟩ := K28.out.dot2 (g := w.heap.size + 2) (r := r2) (s := s2) (by simp)
                    go_wp2_with fail
                    refine (HKN.out _).mono ?_
                    rintro e wk ⟨rfl, hb⟩
                    have KC := Lib.hid (below_trans K28.out.kk.bel hb)
                    clear hb K28 x65a x65b x65c x65l x66a x66b x66c x66l x67a x67b x67c x67l x68a x68b x68c x68l x69a x69b x69c x69l x70a x70b x70c x70l x71a x71b x71c x71l x72a x72b x72l x73a x73b x73l
                    go_wp2_with fail
                    go_ret
                    exact OneB.bool rfl KC.out
                  · have hs : (other == nm) = false := by simpa using hon
                    obtain ⟨qv, hqe⟩ : ∃ qv, qv = q := ⟨_, rfl⟩
                    have HQV := Lib.hid (show qtyC u.ca nm = (qv, 0) from by rw [HUJ.out, Hx.out, hqe]; exact two_qty HE1.out VY.out (by rw [Hy.out]; exact set_seen HE2.out HFR.out HDF.out) (by rw [Hy.out]; exact fun p0 => set_mark (fun e => hon e.symm) p0))
                    subst hqe
                    clear hon
                    go_wp2_with fail
                    refine (caQty u nm qv 0 _ (K26.out.kk.ok (g := w21.heap.size) (c := u) (by simp)) (FitsP.of SU.out SU.out (by omega) (by omega)).kc HQV.out).mono ?_
                    rintro e w26 ⟨rfl, hb⟩
                    have K27 := Lib.hid (show KKE w [(w.heap.size, c), (w5.heap.size, x), (w5.heap.size + 1, y), (w21.heap.size, u), (w22.heap.size, v), (w23.heap.size, t), (w25.heap.size, p)] [(w.heap.size + 1, r, s), (w.heap.size + 2, r2, s2)] w26 from K26.out.next hb)
                    clear hb K26 x48a x48b x48c x48l x49a x49b x49c x49l x50a x50b x50c x50l x51a x51b x51c x51l x52a x52b x52c x52l x53a x53b x53c x53l x54a x54b x54l x55a x55b x55l
                    obtain ⟨x56a, x56b, x56c, x56l⟩ := K27.out.kk.cells4 (g := w.heap.size) (c := c) (by simp)
                    obtain ⟨x57a, x57b, x57c, x57l⟩ := K27.out.kk.cells4 (g := w5.heap.size) (c := x) (by simp)
                    obtain ⟨x58a, x58b, x58c, x58l⟩ := K27.out.kk.cells4 (g := w5.heap.size + 1) (c := y) (by simp)
                    obtain ⟨x59a, x59b, x59c, x59l⟩ := K27.out.kk.cells4 (g := w21.heap.size) (c := u) (by simp)
                    obtain ⟨x60a, x60b, x60c, x60l⟩ := K27.out.kk.cells4 (g := w22.heap.size) (c := v) (by simp)
                    obtain ⟨x61a, x61b, x61c, x61l⟩ := K27.out.kk.cells4 (g := w23.heap.size) (c := t) (by simp)
                    obtain ⟨x62a, x62b, x62c, x62l⟩ := K27.out.kk.cells4 (g := w25.heap.size) (c := p) (by simp)
                    obtain ⟨x63a, x63b, x63l⟩ := K27.out.dot2 (g := w.heap.size + 1) (r := r) (s := s) (by simp)
                    obtain ⟨x64a, x64b, x64l⟩ := K27.out.dot2 (g := w.heap.size + 2) (r := r2) (s := s2) (by simp)
                    go_wp2_with fail
                    refine (refEqual10 p u true _ (K27.out.kk.ok (g := w25.heap.size) (c := p) (by simp)) (K27.out.kk.ok (g := w21.heap.size) (c := u) (by simp)) (CaV.small9 (HPU.out ▸ SU.out)) (CaV.small9 SU.out) (by rw [HPU.out]; exact sameJ_self _)).mono ?_
                    rintro e w27 ⟨rfl, hb⟩
                    have K28 := Lib.hid (show KKE w [(w.heap.size, c), (w5.heap.size, x), (w5.heap.size + 1, y), (w21.heap.size, u), (w22.heap.size, v), (w23.heap.size, t), (w25.heap.size, p)] [(w.heap.size + 1, r, s), (w.heap.size + 2, r2, s2)] w27 from K27.out.next hb)
                    clear hb K27 x56a x56b x56c x56l x57a x57b x57c x57l x58a x58b x58c x58l x59a x59b x59c x59l x60a x60b x60c x60l x61a x61b x61c x61l x62a x62b x62c x62l x63a x63b x63l x64a x64b x64l
                    obtain ⟨x65a, x65b, x65c, x65l⟩ := K28.out.kk.cells4 (g := w.heap.size) (c := c) (by simp)
                    obtain ⟨x66a, x66b, x66c, x66l⟩ := K28.out.kk.cells4 (g := w5.heap.size) (c := x) (by simp)
                    obtain ⟨x67a, x67b, x67c, x67l⟩ := K28.out.kk.cells4 (g := w5.heap.size + 1) (c := y) (by simp)
                    obtain ⟨x68a, x68b, x68c, x68l⟩ := K28.out.kk.cells4 (g := w21.heap.size) (c := u) (by simp)
                    obtain ⟨x69a, x69b, x69c, x69l⟩ := K28.out.kk.cells4 (g := w22.heap.size) (c := v) (by simp)
                    obtain ⟨x70a, x70b, x70c, x70l⟩ := K28.out.kk.cells4 (g := w23.heap.size) (c := t) (by simp)
                    obtain ⟨x71a, x71b, x71c, x71l⟩ := K28.out.kk.cells4 (g := w25.heap.size) (c := p) (by simp)
                    obtain ⟨x72a, x72b, x72l⟩ := K28.out.dot2 (g := w.heap.size + 1) (r := r) (s := s) (by simp)
                    obtain ⟨x73a, x73b, x73l⟩ := K28.out.dot2 (g := w.heap.size + 2) (r := r2) (s := s2) (by simp)
                    go_wp2_with fail
                    refine (HKN.out _).mono ?_
                    rintro e wk ⟨rfl, hb⟩
                    have KC := Lib.hid (below_trans K28.out.kk.bel hb)
                    clear hb K28 x65a x65b x65c x65l x66a x66b x66c x66l x67a x67b x67c x67l x68a x68b x68c x68l x69a x69b x69c x69l x70a x70b x70c x70l x71a x71b x71c x71l x72a x72b x72l x73a x73b x73l
                    go_wp2_with fail
                    go_ret
                    exact OneB.bool rfl KC.out
                · have h2n : ¬ (e2 : Int) = 0 := by omega
                  go_enter Tryz.func7, Tryz.ntmps7
                  go_upto_region 1 with fail
                  generalize World.alloc (World.alloc (World.alloc w _) _) _ = w2 at K0 ⊢
                  obtain ⟨x1a, x1b, x1c, x1l⟩ := K0.out.kk.cells4 (g := w.heap.size) (c := c) (by simp)
                  obtain ⟨x2a, x2b, x2l⟩ := K0.out.dot2 (g := w.heap.size + 1) (r := r) (s := s) (by simp)
                  obtain ⟨x3a, x3b, x3l⟩ := K0.out.dot2 (g := w.heap.size + 2) (r := r2) (s := s2) (by simp)
                  go_wp2_with fail
                  refine (lawLight10 c true _ (K0.out.kk.ok (g := w.heap.size) (c := c) (by simp)) HL.out).mono ?_
                  rintro e w3 ⟨rfl, hb⟩
                  have K1 := Lib.hid (show KKE w [(w.heap.size, c)] [(w.heap.size + 1, r, s), (w.heap.size + 2, r2, s2)] w3 from K0.out.next hb)
                  clear hb K0 x1a x1b x1c x1l x2a x2b x2l x3a x3b x3l
                  obtain ⟨x4a, x4b, x4c, x4l⟩ := K1.out.kk.cells4 (g := w.heap.size) (c := c) (by simp)
                  obtain ⟨x5a, x5b, x5l⟩ := K1.out.dot2 (g := w.heap.size + 1) (r := r) (s := s) (by simp)
                  obtain ⟨x6a, x6b, x6l⟩ := K1.out.dot2 (g := w.heap.size + 2) (r := r2) (s := s2) (by simp)
                  go_wp2_with fail
                  refine (caValid c true _ (K1.out.kk.ok (g := w.heap.size) (c := c) (by simp)) HFD.out.k HV.out).mono ?_
                  rintro e w4 ⟨rfl, hb⟩
                  have K2 := Lib.hid (show KKE w [(w.heap.size, c)] [(w.heap.size + 1, r, s), (w.heap.size + 2, r2, s2)] w4 from K1.out.next hb)
                  clear hb K1 x4a x4b x4c x4l x5a x5b x5l x6a x6b x6l
                  obtain ⟨x7a, x7b, x7c, x7l⟩ := K2.out.kk.cells4 (g := w.heap.size) (c := c) (by simp)
                  obtain ⟨x8a, x8b, x8l⟩ := K2.out.dot2 (g := w.heap.size + 1) (r := r) (s := s) (by simp)
                  obtain ⟨x9a, x9b, x9l⟩ := K2.out.dot2 (g := w.heap.size + 2) (r := r2) (s := s2) (by simp)
                  go_wp2_with fail
                  refine (HA.out _ (K2.out.kk.ok (g := w.heap.size) (c := c) (by simp))).mono ?_
                  rintro e w5 ⟨⟨x, rfl, hz, ho⟩, hb⟩
                  have KO := Lib.hid (show KKE w [(w.heap.size, c)] [(w.heap.size + 1, r, s), (w.heap.size + 2, r2, s2)] w5 from K2.out.next hb)
                  have K3 := Lib.hid (show KKE w [(w.heap.size, c), (w5.heap.size, x)] [(w.heap.size + 1, r, s), (w.heap.size + 2, r2, s2)] (w5.alloc (.cells #[x.v, x.l, x.i] 28)) from KO.out.push x ho)
                  have Hx := Lib.hid hz
                  clear hb hz ho K2 x7a x7b x7c x7l x8a x8b x8l x9a x9b x9l
                  have hs5 := (KO.out.dot2 (g := w.heap.size + 2) (r := r2) (s := s2) (by simp)).2.2
                  obtain ⟨x10a, x10b, x10c, x10l⟩ := KO.out.kk.cells4 (g := w.heap.size) (c := c) (by simp)
                  obtain ⟨x11a, x11b, x11l⟩ := KO.out.dot2 (g := w.heap.size + 1) (r := r) (s := s) (by simp)
                  obtain ⟨x12a, x12b, x12l⟩ := KO.out.dot2 (g := w.heap.size + 2) (r := r2) (s := s2) (by simp)
                  clear KO
                  have KY := Lib.hid (show KYE w [(w.heap.size, c), (w5.heap.size, x)] [(w.heap.size + 1, r, s), (w.heap.size + 2, r2, s2)] (w5.heap.size + 1) ((w5.alloc (.cells #[x.v, x.l, x.i] 28)).alloc (.cells #[.slice none 0 0, .slice none 0 0, .slice none 0 0] 28)) from KYE.new K3.out (by simp))
                  clear K3
                  go_wp2_with fail
                  refine (HB.out _ (KY.out.k.kk.ok (g := w.heap.size) (c := c) (by simp))).mono ?_
                  rintro e w6 ⟨⟨y, rfl, hz, ho⟩, hb⟩
                  have KZ := Lib.hid (KY.out.next hb)
                  have Hy := Lib.hid hz
                  have K20 := Lib.hid (show KKE w [(w.heap.size, c), (w5.heap.size, x), (w5.heap.size + 1, y)] [(w.heap.size + 1, r, s), (w.heap.size + 2, r2, s2)] (((w6.setCell ⟨w5.heap.size + 1, 0, none⟩ y.v).setCell ⟨w5.heap.size + 1, 1, none⟩ y.l).setCell ⟨w5.heap.size + 1, 2, none⟩ y.i) from KZ.out.fill y ho (fun p hp => by simp only [List.mem_cons, List.not_mem_nil, or_false] at hp; rcases hp with rfl | rfl <;> (show _ ≠ _; dsimp only; omega)) (fun p hp => by simp only [List.mem_cons, List.not_mem_nil, or_false] at hp; rcases hp with rfl | rfl <;> (show _ ≠ _; dsimp only; omega)))
                  obtain ⟨b0, b1, b2, bf0, bf1, bf2, bl⟩ := KZ.out.ycells
                  clear hb hz ho KY x10a x10b x10c x10l x11a x11b x11l x12a x12b x12l
                  have KZK := Lib.hid KZ.out.k
                  obtain ⟨x13a, x13b, x13c, x13l⟩ := KZK.out.kk.cells4 (g := w.heap.size) (c := c) (by simp)
                  obtain ⟨x14a, x14b, x14c, x14l⟩ := KZK.out.kk.cells4 (g := w5.heap.size) (c := x) (by simp)
                  obtain ⟨x15a, x15b, x15l⟩ := KZK.out.dot2 (g := w.heap.size + 1) (r := r) (s := s) (by simp)
                  obtain ⟨x16a, x16b, x16l⟩ := KZK.out.dot2 (g := w.heap.size + 2) (r := r2) (s := s2) (by simp)
                  clear KZ KZK
                  go_wp2_with fail
                  refine (HKN.out _).mono ?_
                  rintro e wk ⟨rfl, hb⟩
                  have KC := Lib.hid (below_trans K20.out.kk.bel hb)
                  clear hb K20 x13a x13b x13c x13l x14a x14b x14c x14l x15a x15b x15l x16a x16b x16l b0 b1 b2 bf0 bf1 bf2 bl
                  go_wp2_with fail
                  go_ret
                  exact OneB.bool rfl KC.out
            · have h1n : ¬ (e1 : Int) = 0 := by omega
              go_enter Tryz.func7, Tryz.ntmps7
              go_upto_region 1 with fail
              generalize World.alloc (World.alloc (World.alloc w _) _) _ = w2 at K0 ⊢
              obtain ⟨x1a, x1b, x1c, x1l⟩ := K0.out.kk.cells4 (g := w.heap.size) (c := c) (by simp)
              obtain ⟨x2a, x2b, x2l⟩ := K0.out.dot2 (g := w.heap.size + 1) (r := r) (s := s) (by simp)
              obtain ⟨x3a, x3b, x3l⟩ := K0.out.dot2 (g := w.heap.size + 2) (r := r2) (s := s2) (by simp)
              go_wp2_with fail
              refine (lawLight10 c true _ (K0.out.kk.ok (g := w.heap.size) (c := c) (by simp)) HL.out).mono ?_
              rintro e w3 ⟨rfl, hb⟩
              have K1 := Lib.hid (show KKE w [(w.heap.size, c)] [(w.heap.size + 1, r, s), (w.heap.size + 2, r2, s2)] w3 from K0.out.next hb)
              clear hb K0 x1a x1b x1c x1l x2a x2b x2l x3a x3b x3l
              obtain ⟨x4a, x4b, x4c, x4l⟩ := K1.out.kk.cells4 (g := w.heap.size) (c := c) (by simp)
              obtain ⟨x5a, x5b, x5l⟩ := K1.out.dot2 (g := w.heap.size + 1) (r := r) (s := s) (by simp)
              obtain ⟨x6a, x6b, x6l⟩ := K1.out.dot2 (g := w.heap.size + 2) (r := r2) (s := s2) (by simp)
              go_wp2_with fail
              refine (caValid c true _ (K1.out.kk.ok (g := w.heap.size) (c := c) (by simp)) HFD.out.k HV.out).mono ?_
              rintro e w4 ⟨rfl, hb⟩
              have K2 := Lib.hid (show KKE w [(w.heap.size, c)] [(w.heap.size + 1, r, s), (w.heap.size + 2, r2, s2)] w4 from K1.out.next hb)
              clear hb K1 x4a x4b x4c x4l x5a x5b x5l x6a x6b x6l
              obtain ⟨x7a, x7b, x7c, x7l⟩ := K2.out.kk.cells4 (g := w.heap.size) (c := c) (by simp)
              obtain ⟨x8a, x8b, x8l⟩ := K2.out.dot2 (g := w.heap.size + 1) (r := r) (s := s) (by simp)
              obtain ⟨x9a, x9b, x9l⟩ := K2.out.dot2 (g := w.heap.size + 2) (r := r2) (s := s2) (by simp)
              go_wp2_with fail
              refine (HA.out _ (K2.out.kk.ok (g := w.heap.size) (c := c) (by simp))).mono ?_
              rintro e w5 ⟨⟨x, rfl, hz, ho⟩, hb⟩
              have KO := Lib.hid (show KKE w [(w.heap.size, c)] [(w.heap.size + 1, r, s), (w.heap.size + 2, r2, s2)] w5 from K2.out.next hb)
              have K3 := Lib.hid (show KKE w [(w.heap.size, c), (w5.heap.size, x)] [(w.heap.size + 1, r, s), (w.heap.size + 2, r2, s2)] (w5.alloc (.cells #[x.v, x.l, x.i] 28)) from KO.out.push x ho)
              have Hx := Lib.hid hz
              clear hb hz ho K2 x7a x7b x7c x7l x8a x8b x8l x9a x9b x9l
              have hs5 := (KO.out.dot2 (g := w.heap.size + 2) (r := r2) (s := s2) (by simp)).2.2
              obtain ⟨x10a, x10b, x10c, x10l⟩ := KO.out.kk.cells4 (g := w.heap.size) (c := c) (by simp)
              obtain ⟨x11a, x11b, x11l⟩ := KO.out.dot2 (g := w.heap.size + 1) (r := r) (s := s) (by simp)
              obtain ⟨x12a, x12b, x12l⟩ := KO.out.dot2 (g := w.heap.size + 2) (r := r2) (s := s2) (by simp)
              clear KO
              go_wp2_with fail
              refine (HKN.out _).mono ?_
              rintro e wk ⟨rfl, hb⟩
              have KC := Lib.hid (below_trans K3.out.kk.bel hb)
              clear hb K3 x10a x10b x10c x10l x11a x11b x11l x12a x12b x12l
              go_wp2_with fail
              go_ret
              exact OneB.bool rfl KC.out
      · have i1 : (100 : Int) < (other.length : Int) := by omega
        go_enter Tryz.func7, Tryz.ntmps7
        go_upto_region 1 with fail
        generalize World.alloc (World.alloc (World.alloc w _) _) _ = w2 at K0 ⊢
        obtain ⟨x1a, x1b, x1c, x1l⟩ := K0.out.kk.cells4 (g := w.heap.size) (c := c) (by simp)
        obtain ⟨x2a, x2b, x2l⟩ := K0.out.dot2 (g := w.heap.size + 1) (r := r) (s := s) (by simp)
        obtain ⟨x3a, x3b, x3l⟩ := K0.out.dot2 (g := w.heap.size + 2) (r := r2) (s := s2) (by simp)
        go_wp2_with fail
        refine (lawLight10 c true _ (K0.out.kk.ok (g := w.heap.size) (c := c) (by simp)) HL.out).mono ?_
        rintro e w3 ⟨rfl, hb⟩
        have K1 := Lib.hid (show KKE w [(w.heap.size, c)] [(w.heap.size + 1, r, s), (w.heap.size + 2, r2, s2)] w3 from K0.out.next hb)
        clear hb K0 x1a x1b x1c x1l x2a x2b x2l x3a x3b x3l
        obtain ⟨x4a, x4b, x4c, x4l⟩ := K1.out.kk.cells4 (g := w.heap.size) (c := c) (by simp)
        obtain ⟨x5a, x5b, x5l⟩ := K1.out.dot2 (g := w.heap.size + 1) (r := r) (s := s) (by simp)
        obtain ⟨x6a, x6b, x6l⟩ := K1.out.dot2 (g := w.heap.size + 2) (r := r2) (s := s2) (by simp)
        go_wp2_with fail
        refine (HKN.out _).mono ?_
        rintro e wk ⟨rfl, hb⟩
        have KC := Lib.hid (below_trans K1.out.kk.bel hb)
        clear hb K1 x4a x4b x4c x4l x5a x5b x5l x6a x6b x6l
        go_wp2_with fail
        go_ret
        exact OneB.bool rfl KC.out
    · have i0 : (100 : Int) < (nm.length : Int) := by omega
      go_enter Tryz.func7, Tryz.ntmps7
      go_upto_region 1 with fail
      generalize World.alloc (World.alloc (World.alloc w _) _) _ = w2 at K0 ⊢
      obtain ⟨x1a, x1b, x1c, x1l⟩ := K0.out.kk.cells4 (g := w.heap.size) (c := c) (by simp)
      obtain ⟨x2a, x2b, x2l⟩ := K0.out.dot2 (g := w.heap.size + 1) (r := r) (s := s) (by simp)
      obtain ⟨x3a, x3b, x3l⟩ := K0.out.dot2 (g := w.heap.size + 2) (r := r2) (s := s2) (by simp)
      go_wp2_with fail
      refine (lawLight10 c true _ (K0.out.kk.ok (g := w.heap.size) (c := c) (by simp)) HL.out).mono ?_
      rintro e w3 ⟨rfl, hb⟩
      have K1 := Lib.hid (show KKE w [(w.heap.size, c)] [(w.heap.size + 1, r, s), (w.heap.size + 2, r2, s2)] w3 from K0.out.next hb)
      clear hb K0 x1a x1b x1c x1l x2a x2b x2l x3a x3b x3l
      obtain ⟨x4a, x4b, x4c, x4l⟩ := K1.out.kk.cells4 (g := w.heap.size) (c := c) (by simp)
      obtain ⟨x5a, x5b, x5l⟩ := K1.out.dot2 (g := w.heap.size + 1) (r := r) (s := s) (by simp)
      obtain ⟨x6a, x6b, x6l⟩ := K1.out.dot2 (g := w.heap.size + 2) (r := r2) (s := s2) (by simp)
      go_wp2_with fail
      refine (HKN.out _).mono ?_
      rintro e wk ⟨rfl, hb⟩
      have KC := Lib.hid (below_trans K1.out.kk.bel hb)
      clear hb K1 x4a x4b x4c x4l x5a x5b x5l x6a x6b x6l
      go_wp2_with fail
      go_ret
      exact OneB.bool rfl KC.out

end

end Go.Proofs.YtiaehpdgpjhecaaGreat
