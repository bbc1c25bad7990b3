/- The law BytesReads: any calls of a reader. -/
import Derived.Test.YtkloheabbbpboaaBytV
import Derived.Outline
import Derived.Deep.CutBlock
namespace Go.Proofs.Ytkloheabbbpboaa
open Go.RowKit

/-- An ask: what, the number, the most. -/
structure AskV where
  what : Int
  n : Nat
  most : Int
/-- An ask's cells. -/
def encA (a : AskV) : List Value := [.int .i64 a.what, .int .u64 (a.n : Int), .int .i64 a.most]
theorem encA_len (a : AskV) : (encA a).length = 3 := rfl
/-- A slice of asks. -/
def AsksAt (W : World) (X : Option Addr) (qs : List AskV) : Prop :=
  SlAt encA 3 W X qs ∧ ∀ a ∈ qs, a.n < 18446744073709551616 ∧ -9223372036854775808 ≤ a.most ∧ a.most ≤ 9223372036854775807
theorem AsksAt.below {W W' : World} {X : Option Addr} {qs : List AskV} (h : AsksAt W X qs) (hb : Below W.heap.size W W') : AsksAt W' X qs := ⟨h.1.below hb, h.2⟩
theorem AsksAt.cells {W : World} {X : Option Addr} {qs : List AskV} (h : AsksAt W X qs) {j : Nat} (hj : j < qs.length) : ∃ b off, X = some ⟨b, off, none⟩ ∧ b < W.heap.size ∧ W.cell? ⟨b, off + j * 3, none⟩ = some (.int .i64 (qs[j]).what) ∧ W.cell? ⟨b, off + j * 3 + 1, none⟩ = some (.int .u64 ((qs[j]).n : Int)) ∧ W.cell? ⟨b, off + j * 3 + 2, none⟩ = some (.int .i64 (qs[j]).most) := by
  obtain ⟨b, off, rfl, hb, hc⟩ := h.1 (by omega)
  have hx : qs[j]? = some qs[j] := List.getElem?_eq_getElem hj
  exact ⟨b, off, rfl, hb, hc j _ hx 0 _ rfl, hc j _ hx 1 _ rfl, hc j _ hx 2 _ rfl⟩

/-- A reader of the call's own, and a row besides. -/
structure OwR (w : World) (g : Nat) (A : Option Addr) (c : Nat) (xs : List UInt8) (i : Nat) (o : Value) (os : List UInt8) (W : World) : Prop where
  rd : Rd W g A c xs i
  ro : RowB W w.heap.size o os
  bel : Below w.heap.size w W
  hg : w.heap.size ≤ g
  og : o.ownBlock ≠ some g
  oa : ∀ a, A = some a → o.ownBlock ≠ some a.block
theorem OwR.bump {w W : World} {g : Nat} {A : Option Addr} {c : Nat} {xs : List UInt8} {i : Nat} {os : List UInt8} {B : Option Addr} {n d j : Nat} (h : OwR w g A c xs i (.slice B n d) os W) (hn : os.length = n) (hj : j < n) :
    ∃ r m y : Nat, B = some ⟨r, 0, none⟩ ∧ W.cell? ⟨r, j, none⟩ = some (.int .u8 (m : Int)) ∧ W.frozen? ⟨r, j, none⟩ = false ∧ IntKind.u8.wrap ((m : Int) + 1) = (y : Int) ∧ ∃ os', os'.length = n ∧ OwR w g A c xs i (.slice B n d) os' (W.setCell ⟨r, j, none⟩ (.int .u8 (y : Int))) := by
  subst hn
  obtain ⟨r, c', e⟩ := Joins.ownsRow_form h.ro (by omega)
  cases e
  have hb : (Value.slice (some ⟨r, 0, none⟩) os.length d).ownBlock = some r := rfl
  have h1 := (h.ro.stored j (.int .u8 ((os[j] + 1).toNat : Int))).1
  rw [cells_set] at h1
  have hc : Chg (fun k => k = r) W (W.setCell ⟨r, j, none⟩ (.int .u8 ((os[j] + 1).toNat : Int))) := .of_set _ _ rfl
  refine ⟨r, (os[j]).toNat, (os[j] + 1).toNat, rfl, ?_, h.ro.frozenAt j, ?_, os.set j (os[j] + 1), List.length_set, h.rd.chg hc (fun e => h.og (by rw [hb, e])) (fun a ha e => h.oa a ha (by rw [hb, e])), ?_, h.bel.trans (hc.below h.bel.size fun k hk => by rw [hk]; exact (h.ro.lt r hb).1), h.hg, h.og, h.oa⟩
  · rw [h.ro.cellAt j (by omega), cells_at, List.getElem?_eq_getElem hj]
    rfl
  · have := (os[j]).toNat_lt
    simp [IntKind.wrap, IntKind.bits, IntKind.signed, UInt8.toNat_add]
  · have e : (os.set j (os[j] + 1)).length = os.length := List.length_set
    show World.ownsRow _ _ _ 1 _ (os.set j (os[j] + 1)).length _
    rw [e]
    exact h1
/-- The reader alone. -/
def RdI (w : World) (g : Nat) (A : Option Addr) (c : Nat) (xs : List UInt8) (i : Nat) (W : World) : Prop := Rd W g A c xs i ∧ Below w.heap.size w W ∧ w.heap.size ≤ g
theorem RdI.ask {w W W' : World} {g : Nat} {A : Option Addr} {c : Nat} {xs : List UInt8} {i j : Nat} (h : RdI w g A c xs i W) (hR : Rd W' g A c xs j) (hC : Chg (fun k => k = g) W W') : RdI w g A c xs j W' :=
  ⟨hR, h.2.1.trans (hC.below h.2.1.size fun k hk => by rw [hk]; exact h.2.2), h.2.2⟩
theorem RdI.below {w W W' : World} {g : Nat} {A : Option Addr} {c : Nat} {xs : List UInt8} {i : Nat} (h : RdI w g A c xs i W) (hb : Below W.heap.size W W') : RdI w g A c xs i W' := ⟨h.1.below hb, below_trans h.2.1 hb, h.2.2⟩

/-- The block of an ask. -/
def AskB (g P : Nat) (a : AskV) (W : World) : Prop := W.heap[P]? = some (.cells #[.int .i64 a.what, .int .u64 (a.n : Int), .int .i64 a.most] 43 (0, 0)) ∧ P ≠ g
section
variable {g P : Nat} {a : AskV} {W W' : World}
theorem AskB.new {A : Option Addr} {c : Nat} {xs : List UInt8} {i : Nat} (h : Rd W g A c xs i) (a : AskV) : AskB g W.heap.size a (W.alloc (.cells #[.int .i64 a.what, .int .u64 (a.n : Int), .int .i64 a.most] 43)) := ⟨heap_alloc_new W _, by have := h.lt; omega⟩
theorem AskB.c0 (h : AskB g P a W) : W.cell? ⟨P, 0, none⟩ = some (.int .i64 a.what) := by simp [World.cell?, h.1]
theorem AskB.c1 (h : AskB g P a W) : W.cell? ⟨P, 1, none⟩ = some (.int .u64 (a.n : Int)) := by simp [World.cell?, h.1]
theorem AskB.c2 (h : AskB g P a W) : W.cell? ⟨P, 2, none⟩ = some (.int .i64 a.most) := by simp [World.cell?, h.1]
theorem AskB.lt (h : AskB g P a W) : P < W.heap.size := (Array.getElem?_eq_some_iff.1 h.1).1
theorem AskB.chg (h : AskB g P a W) (hc : Chg (fun k => k = g) W W') : AskB g P a W' := ⟨(hc.block P h.lt h.2).trans h.1, h.2⟩
theorem AskB.below (h : AskB g P a W) (hb : Below W.heap.size W W') : AskB g P a W' := ⟨(hb.block P h.lt).trans h.1, h.2⟩
end

theorem rdM_adv {l : List UInt8} {most n z : Nat} {er : Int} (h : rdM l most = (n, z, er)) : adv er (rd l).2.1 = z ∧ numP (rd l) most = (n, er) := by
  rw [numP_rdM, h]
  refine ⟨?_, rfl⟩
  unfold rdM at h
  unfold adv
  by_cases h1 : (rd l).2.2 = 0 ∧ most < (rd l).1
  · rw [if_pos h1] at h
    cases h
    rfl
  · rw [if_neg h1] at h
    by_cases h2 : er = 0
    · rw [if_pos h2, h]
    · have h3 := rd_err (l := l) (by rw [h]; exact h2)
      rw [h] at h3
      rw [if_neg h2]
      cases h3
      rfl
theorem rdS_adv {l ys : List UInt8} {most : Int} {z : Nat} {er : Int} (h : rdS l most = (ys, z, er)) : adv er z = z := by
  unfold adv
  by_cases h2 : er = 0
  · rw [if_pos h2]
  · rw [if_neg h2]
    unfold rdS at h
    split at h
    · cases h; rfl
    · split at h
      · cases h; rfl
      · split at h
        · cases h; rfl
        · cases h; exact absurd rfl h2
/-- The end of a slice of bytes, qs the walk spells it in its three cases. -/
theorem holdsEnd (W : World) (A : Option Addr) (c : Nat) (l : List UInt8) (i : Nat) (h : HoldsB W (.slice A l.length c) l) (hk : i ≤ l.length) :
    (A = none → HoldsB W (.slice none (l.length - i) (c - i)) (l.drop i)) ∧ (∀ a, A = some a → c = i → HoldsB W (.slice (some a) (l.length - i) 0) (l.drop i)) ∧ (∀ a, A = some a → ¬ c = i → HoldsB W (.slice (some (a.add i)) (l.length - i) (c - i)) (l.drop i)) := by
  have h1 := holdsCut W A c l i (l.length - i) h (by omega)
  rw [List.take_of_length_le (by rw [List.length_drop]; omega)] at h1
  exact h1
theorem refNumH (v : Value) (l : List UInt8) (most n z : Nat) (er : Int) (w : World) (h : HoldsB w v l) (hm : l.length ≤ 1000000) (hr : rdM l most = (n, z, er)) :
    Calls Try.prog 19 #[v, .int .u64 (most : Int)] w (Three (.int .u64 (n : Int)) (.int .i64 (z : Int)) (.int .i64 er) w) := by
  obtain ⟨A, c, rfl, hat, _⟩ := h
  exact refNum A c l most n z er w hat hm hr
theorem refStrH (v : Value) (l : List UInt8) (most : Int) (ys : List UInt8) (z : Nat) (er : Int) (w : World) (h : HoldsB w v l) (hm : l.length ≤ 1000000) (hn0 : -9223372036854775808 ≤ most) (hn1 : most ≤ 9223372036854775807) (hr : rdS l most = (ys, z, er)) :
    Calls Try.prog 21 #[v, .int .i64 most] w (Three (.string ⟨ys.toArray⟩) (.int .i64 (z : Int)) (.int .i64 er) w) := by
  have h0 := h
  obtain ⟨A, c, rfl, _⟩ := h
  exact refStr A c l most ys z er w h0 hm hn0 hn1 hr

set_option maxRecDepth 100000 in
set_option maxHeartbeats 4000000 in
theorem lawReads4 (A : Option Addr) (c : Nat) (xs : List UInt8) (X : Option Addr) (cx : Nat) (qs : List AskV) (w : World) (hv : HoldsB w (.slice A xs.length c) xs) (h : AsksAt w X qs) (hm : qs.length ≤ cx ∧ cx ≤ maxLen) :
    Calls Try.prog 4 #[.slice A xs.length c, .slice X qs.length cx] w fun e w' => e = .returned (.bool true) ∧ Below w.heap.size w w' := by
  obtain ⟨i0, hi0, hz0, hz1, hz2⟩ := info_parts infoB
  have HA := Lib.hid h
  have HV := Lib.hid hv
  obtain ⟨A0, c0, eV, hatV, hcV⟩ := hv
  cases eV
  have HAT := Lib.hid hatV
  have HCV := Lib.hid hcV
  clear h hatV hcV
  by_cases hlx : ¬ xs.length ≤ 300
  · have i1 : (300 : Int) < (xs.length : Int) := by omega
    clear hlx
    go_enter Try.func4, Try.ntmps4
    go_wp2_with fail
    refine (knownB _).mono ?_
    rintro e w2 ⟨rfl, hb2⟩
    have K := Lib.hid hb2
    clear hb2
    go_wp2_with fail
    go_ret
    exact ⟨rfl, K.out⟩
  have hlx' : xs.length ≤ 300 := by omega
  have i1 : ¬ (300 : Int) < (xs.length : Int) := by omega
  clear hlx
  by_cases hla : ¬ qs.length ≤ 60
  · have i2 : (60 : Int) < (qs.length : Int) := by omega
    clear hla
    go_enter Try.func4, Try.ntmps4
    go_wp2_with fail
    refine (knownB _).mono ?_
    rintro e w2 ⟨rfl, hb2⟩
    have K := Lib.hid hb2
    clear hb2
    go_wp2_with fail
    go_ret
    exact ⟨rfl, K.out⟩
  have hla' : qs.length ≤ 60 := by omega
  have i2 : ¬ (60 : Int) < (qs.length : Int) := by omega
  have HLX := Lib.hid hlx'
  have HLA := Lib.hid hla'
  clear hla hlx' hla'
  go_enter Try.func4, Try.ntmps4
  go_wp2_with (at_builtin; refine wpList_append_sl _ encB 1 rfl (.const (.slice none 0 0)) (.tmp 27) 25 rfl encB_len (by omega) encB_one w.heap.size 5 i0 _ 1 Try.underlying25 hi0 hz0 hz1 hz2 rfl (.slice none 0 0) [] rfl (World.ownsRow_nil _ _ _ _) _ _ _ xs rfl rfl HAT.out (by simp [maxLen]; have := HLX.out; omega) (by simp; have := HLX.out; omega) (Nat.le_refl _) ?_; intro o w1 hown1 hg1 hat1; rw [List.nil_append] at hown1; obtain ⟨A1, c1, rfl, _⟩ := SlAt.of_own encB_len hown1; have KO := Lib.hid hown1; have KB := Lib.hid (show Below w.heap.size w w1 from (Below.refl _ _).grown hg1 (Nat.le_refl _) (fun k hk => absurd hk nilOwn)); clear hown1 hg1 hat1)
  refine (newAt _ xs _ (HoldsB.of_own KO.out) (by have := HLX.out; omega)).mono ?_
  rintro e w2 ⟨⟨g, A2, c2, rfl, hR, hg, hA2⟩, hb⟩
  have KW := Lib.hid (show OwR w g A2 c2 xs 0 (.slice A1 xs.length c1) xs w2 from ⟨hR, RowB.below KO.out hb, below_trans KB.out hb, Nat.le_trans KB.out.size hg, (fun e => by have := (KO.out.lt g e).2; omega), (fun a ha e => by have := (KO.out.lt _ e).2; have := hA2 a ha; omega)⟩)
  clear hR hg hA2 hb KO KB
  go_wp2_with fail
  go_loopw [35] (fun a wr => ∃ (j : Nat) (os : List UInt8), j ≤ xs.length ∧ os.length = xs.length ∧ a = .int .i64 j ∧ Hid (OwR w g A2 c2 xs 0 (.slice A1 xs.length c1) os wr)) (fun a _ => xs.length - (intOf a).toNat)
  case atStart => exact ⟨0, _, by omega, rfl, rfl, KW⟩
  case round =>
    obtain ⟨j, os, hj, hos, rfl, KJ⟩ := hrel
    clear KW
    by_cases hjt : j < xs.length
    · have i3 : (j : Int) < (xs.length : Int) := by omega
      have hj9 : j < 300 := by have := HLX.out; omega
      obtain ⟨r, m, y, hr, hc, hf, e1, os', hl', hk'⟩ := KJ.out.bump hos hjt
      subst hr
      have KJ2 := Lib.hid hk'
      have HL2 := Lib.hid hl'
      clear hk' KJ hos hl'
      go_wp2_with fail
      go_roundw
      case rel => exact ⟨j + 1, os', by omega, HL2.out, by go_num, KJ2⟩
      case measure => simp [intOf]; omega
    · have i3 : ¬ (j : Int) < (xs.length : Int) := by omega
      have K0 := Lib.hid (show RdI w g A2 c2 xs 0 wr from ⟨KJ.out.rd, KJ.out.bel, KJ.out.hg⟩)
      clear hjt hj hos KJ
      go_wp2_with fail
      go_loopw [6, 8, 47] (fun r t a wr => ∃ (k g : Nat) (A2 : Option Addr) (c2 i : Nat), k ≤ qs.length ∧ a = .int .i64 k ∧ r = .pointer (some ⟨g, 0, none⟩) ∧ t = .int .i64 i ∧ Hid (RdI w g A2 c2 xs i wr)) (fun _ _ a _ => qs.length - (intOf a).toNat)
      case atStart => exact ⟨0, g, A2, c2, 0, by omega, rfl, rfl, rfl, K0⟩
      case round =>
        clear K0
        obtain ⟨k, g, A2, c2, i, hk, rfl, rfl, rfl, KW⟩ := hrel
        by_cases hlt : k < qs.length
        · have i3 : (k : Int) < (qs.length : Int) := by omega
          have HAW := Lib.hid (HA.out.below KW.out.2.1)
          obtain ⟨b, off, rfl, hb, d0, d1, d2⟩ := HAW.out.cells hlt
          have hk60 : k < 60 := by have := HLA.out; omega
          have HBD := Lib.hid (HA.out.2 _ (List.getElem_mem hlt))
          have HK := Lib.hid hk
          have KA := Lib.hid (KW.out.below (W' := wr.alloc (.cells #[.int .i64 (qs[k]).what, .int .u64 ((qs[k]).n : Int), .int .i64 (qs[k]).most] 43)) ((Below.refl _ _).alloc (Nat.le_refl _) _))
          have KQ := Lib.hid (AskB.new KW.out.1 (qs[k]))
          clear hb hk
          go_upto_block 4 with fail
          clear d0 d1 d2 HAW KW
          generalize wr.alloc (.cells #[.int .i64 (qs[k]).what, .int .u64 ((qs[k]).n : Int), .int .i64 (qs[k]).most] 43) = W1 at KA KQ ⊢
          generalize wr.heap.size = P0 at KQ ⊢
          have hix : i ≤ xs.length := KA.out.1.2.2.2.1
          have hi300 : i ≤ 300 := by have := HLX.out; omega
          have hxc : (xs.length : Int) ≤ (c : Int) := by have := HCV.out.1; omega
          have hxi : (i : Int) ≤ (xs.length : Int) := by omega
          have j0 : (0 : Int) ≤ (i : Int) := by omega
          have j1 : (i : Int) ≤ (c : Int) := by omega
          obtain ⟨N, hN⟩ : ∃ N, (qs[k]).n = N := ⟨_, rfl⟩
          obtain ⟨M, hM⟩ : ∃ M, (qs[k]).most = M := ⟨_, rfl⟩
          have q1 := KQ.out.c1
          have q2 := KQ.out.c2
          have HBN := Lib.hid (show N < 18446744073709551616 from by rw [← hN]; exact HBD.out.1)
          have HBM := Lib.hid (show -9223372036854775808 ≤ M ∧ M ≤ 9223372036854775807 from by rw [← hM]; exact HBD.out.2)
          rw [hN] at q1
          rw [hM] at q2
          have HN := Lib.hid hN
          have HM := Lib.hid hM
          clear hN hM
          go_cut [6, 8] (fun r t wx => ∃ (g : Nat) (A2 : Option Addr) (c2 i : Nat), r = .pointer (some ⟨g, 0, none⟩) ∧ t = .int .i64 i ∧ Hid (RdI w g A2 c2 xs i wx))
          case first =>
            by_cases t0 : (qs[k]).what = 0
            · skip
              have z0 : ((qs[k]).what == 0) = true := by simp [t0]
              obtain ⟨n, z, er, hr⟩ : ∃ n z er, rdM (xs.drop i) N = (n, z, er) := ⟨_, _, _, rfl⟩
              have HR := Lib.hid hr
              have HNP := Lib.hid (rdM_adv hr)
              have HI := Lib.hid hix
              have hcell := fun z => cell_far KQ.out.lt q1 z
              clear t0 hr q1 q2 hix
              rcases A with _ | aa
              · skip
                have HNU := Lib.hid fun W (hb : Below w.heap.size w W) => refNumH (.slice none (xs.length - i) (c - i)) (xs.drop i) N n z er W ((holdsEnd W none c xs i (HV.out.below hb) HI.out).1 rfl) (by rw [List.length_drop]; have := HLX.out; omega) HR.out
                go_wp2_with fail
                refine wp_region_far (by kernel_rfl) (by kernel_rfl) ?_
                repeat (go_big_quiet_step (((go_at_call 19; exact far_of_same ((HNU.out _ (below_trans KA.out.2.1 (below_far W1 _))).mono fun _ _ h => h)))))
                refine wpQuiet_nil ?_
                rintro _ ⟨p, rfl⟩
                have hb2 := below_far W1 p
                have KA2 := Lib.hid (KA.out.below hb2)
                have KQ2 := Lib.hid (KQ.out.below hb2)
                clear hcell hb2 KA HNU
                generalize far W1 p = W2 at KA2 KQ2 ⊢
                have r1 := KQ2.out.c1
                rw [HN.out] at r1
                go_wp2_with fail
                refine (lawReads g A2 c2 xs i N n er n _ er true W2 KA2.out.1 HBN.out HNP.out.2 rfl (by simp)).mono ?_
                rintro e W3 ⟨rfl, hR, hC⟩
                rw [HNP.out.1] at hR
                have K3 := Lib.hid (KA2.out.ask hR hC)
                have eW : IntKind.i64.wrap ((i : Int) + (z : Int)) = ((i + z : Nat) : Int) := by have := hR.2.2.2.1; have := HLX.out; simp [IntKind.wrap, IntKind.bits, IntKind.signed]; omega
                clear hR hC r1 KA2
                go_wp2_with fail
                go_meet
                exact ⟨g, A2, c2, i + z, rfl, rfl, K3⟩
              · by_cases hci : c = i
                · skip
                  subst hci
                  have HNU := Lib.hid fun W (hb : Below w.heap.size w W) => refNumH (.slice (some aa) (xs.length - c) 0) (xs.drop c) N n z er W ((holdsEnd W (some aa) c xs c (HV.out.below hb) HI.out).2.1 aa rfl rfl) (by rw [List.length_drop]; have := HLX.out; omega) HR.out
                  go_wp2_with fail
                  refine wp_region_far (by kernel_rfl) (by kernel_rfl) ?_
                  repeat (go_big_quiet_step (((go_at_call 19; exact far_of_same ((HNU.out _ (below_trans KA.out.2.1 (below_far W1 _))).mono fun _ _ h => h)))))
                  refine wpQuiet_nil ?_
                  rintro _ ⟨p, rfl⟩
                  have hb2 := below_far W1 p
                  have KA2 := Lib.hid (KA.out.below hb2)
                  have KQ2 := Lib.hid (KQ.out.below hb2)
                  clear hcell hb2 KA HNU
                  generalize far W1 p = W2 at KA2 KQ2 ⊢
                  have r1 := KQ2.out.c1
                  rw [HN.out] at r1
                  go_wp2_with fail
                  refine (lawReads g A2 c2 xs c N n er n _ er true W2 KA2.out.1 HBN.out HNP.out.2 rfl (by simp)).mono ?_
                  rintro e W3 ⟨rfl, hR, hC⟩
                  rw [HNP.out.1] at hR
                  have K3 := Lib.hid (KA2.out.ask hR hC)
                  have eW : IntKind.i64.wrap ((c : Int) + (z : Int)) = ((c + z : Nat) : Int) := by have := hR.2.2.2.1; have := HLX.out; simp [IntKind.wrap, IntKind.bits, IntKind.signed]; omega
                  clear hR hC r1 KA2
                  go_wp2_with fail
                  go_meet
                  exact ⟨g, A2, c2, c + z, rfl, rfl, K3⟩
                · skip
                  have HNU := Lib.hid fun W (hb : Below w.heap.size w W) => refNumH (.slice (some (aa.add i)) (xs.length - i) (c - i)) (xs.drop i) N n z er W ((holdsEnd W (some aa) c xs i (HV.out.below hb) HI.out).2.2 aa rfl hci) (by rw [List.length_drop]; have := HLX.out; omega) HR.out
                  go_wp2_with fail
                  refine wp_region_far (by kernel_rfl) (by kernel_rfl) ?_
                  repeat (go_big_quiet_step (((go_at_call 19; exact far_of_same ((HNU.out _ (below_trans KA.out.2.1 (below_far W1 _))).mono fun _ _ h => h)))))
                  refine wpQuiet_nil ?_
                  rintro _ ⟨p, rfl⟩
                  have hb2 := below_far W1 p
                  have KA2 := Lib.hid (KA.out.below hb2)
                  have KQ2 := Lib.hid (KQ.out.below hb2)
                  clear hcell hb2 KA HNU
                  generalize far W1 p = W2 at KA2 KQ2 ⊢
                  have r1 := KQ2.out.c1
                  rw [HN.out] at r1
                  go_wp2_with fail
                  refine (lawReads g A2 c2 xs i N n er n _ er true W2 KA2.out.1 HBN.out HNP.out.2 rfl (by simp)).mono ?_
                  rintro e W3 ⟨rfl, hR, hC⟩
                  rw [HNP.out.1] at hR
                  have K3 := Lib.hid (KA2.out.ask hR hC)
                  have eW : IntKind.i64.wrap ((i : Int) + (z : Int)) = ((i + z : Nat) : Int) := by have := hR.2.2.2.1; have := HLX.out; simp [IntKind.wrap, IntKind.bits, IntKind.signed]; omega
                  clear hR hC r1 KA2
                  go_wp2_with fail
                  go_meet
                  exact ⟨g, A2, c2, i + z, rfl, rfl, K3⟩
            · have z0 : ((qs[k]).what == 0) = false := by simp [t0]
              by_cases t1 : (qs[k]).what = 1
              · skip
                have z1 : ((qs[k]).what == 1) = true := by simp [t1]
                obtain ⟨ys, z, er, hr⟩ : ∃ ys z er, rdS (xs.drop i) M = (ys, z, er) := ⟨_, _, _, rfl⟩
                have HR := Lib.hid hr
                have HSA := Lib.hid (rdS_adv hr)
                have HI := Lib.hid hix
                have hcell := fun z => cell_far KQ.out.lt q2 z
                clear t0 t1 hr q1 q2 hix
                rcases A with _ | aa
                · skip
                  have HNU := Lib.hid fun W (hb : Below w.heap.size w W) => refStrH (.slice none (xs.length - i) (c - i)) (xs.drop i) M ys z er W ((holdsEnd W none c xs i (HV.out.below hb) HI.out).1 rfl) (by rw [List.length_drop]; have := HLX.out; omega) HBM.out.1 HBM.out.2 HR.out
                  go_wp2_with fail
                  refine wp_region_far (by kernel_rfl) (by kernel_rfl) ?_
                  repeat (go_big_quiet_step (((go_at_call 21; exact far_of_same ((HNU.out _ (below_trans KA.out.2.1 (below_far W1 _))).mono fun _ _ h => h)))))
                  refine wpQuiet_nil ?_
                  rintro _ ⟨p, rfl⟩
                  have hb2 := below_far W1 p
                  have KA2 := Lib.hid (KA.out.below hb2)
                  have KQ2 := Lib.hid (KQ.out.below hb2)
                  clear hcell hb2 KA HNU
                  generalize far W1 p = W2 at KA2 KQ2 ⊢
                  have r2 := KQ2.out.c2
                  rw [HM.out] at r2
                  go_wp2_with fail
                  refine (lawHears g A2 c2 xs i M ys ys z er er true W2 KA2.out.1 HBM.out.1 HBM.out.2 HR.out (by simp)).mono ?_
                  rintro e W3 ⟨rfl, hR, hC⟩
                  rw [HSA.out] at hR
                  have K3 := Lib.hid (KA2.out.ask hR hC)
                  have eW : IntKind.i64.wrap ((i : Int) + (z : Int)) = ((i + z : Nat) : Int) := by have := hR.2.2.2.1; have := HLX.out; simp [IntKind.wrap, IntKind.bits, IntKind.signed]; omega
                  clear hR hC r2 KA2
                  go_wp2_with fail
                  go_meet
                  exact ⟨g, A2, c2, i + z, rfl, rfl, K3⟩
                · by_cases hci : c = i
                  · skip
                    subst hci
                    have HNU := Lib.hid fun W (hb : Below w.heap.size w W) => refStrH (.slice (some aa) (xs.length - c) 0) (xs.drop c) M ys z er W ((holdsEnd W (some aa) c xs c (HV.out.below hb) HI.out).2.1 aa rfl rfl) (by rw [List.length_drop]; have := HLX.out; omega) HBM.out.1 HBM.out.2 HR.out
                    go_wp2_with fail
                    refine wp_region_far (by kernel_rfl) (by kernel_rfl) ?_
                    repeat (go_big_quiet_step (((go_at_call 21; exact far_of_same ((HNU.out _ (below_trans KA.out.2.1 (below_far W1 _))).mono fun _ _ h => h)))))
                    refine wpQuiet_nil ?_
                    rintro _ ⟨p, rfl⟩
                    have hb2 := below_far W1 p
                    have KA2 := Lib.hid (KA.out.below hb2)
                    have KQ2 := Lib.hid (KQ.out.below hb2)
                    clear hcell hb2 KA HNU
                    generalize far W1 p = W2 at KA2 KQ2 ⊢
                    have r2 := KQ2.out.c2
                    rw [HM.out] at r2
                    go_wp2_with fail
                    refine (lawHears g A2 c2 xs c M ys ys z er er true W2 KA2.out.1 HBM.out.1 HBM.out.2 HR.out (by simp)).mono ?_
                    rintro e W3 ⟨rfl, hR, hC⟩
                    rw [HSA.out] at hR
                    have K3 := Lib.hid (KA2.out.ask hR hC)
                    have eW : IntKind.i64.wrap ((c : Int) + (z : Int)) = ((c + z : Nat) : Int) := by have := hR.2.2.2.1; have := HLX.out; simp [IntKind.wrap, IntKind.bits, IntKind.signed]; omega
                    clear hR hC r2 KA2
                    go_wp2_with fail
                    go_meet
                    exact ⟨g, A2, c2, c + z, rfl, rfl, K3⟩
                  · skip
                    have HNU := Lib.hid fun W (hb : Below w.heap.size w W) => refStrH (.slice (some (aa.add i)) (xs.length - i) (c - i)) (xs.drop i) M ys z er W ((holdsEnd W (some aa) c xs i (HV.out.below hb) HI.out).2.2 aa rfl hci) (by rw [List.length_drop]; have := HLX.out; omega) HBM.out.1 HBM.out.2 HR.out
                    go_wp2_with fail
                    refine wp_region_far (by kernel_rfl) (by kernel_rfl) ?_
                    repeat (go_big_quiet_step (((go_at_call 21; exact far_of_same ((HNU.out _ (below_trans KA.out.2.1 (below_far W1 _))).mono fun _ _ h => h)))))
                    refine wpQuiet_nil ?_
                    rintro _ ⟨p, rfl⟩
                    have hb2 := below_far W1 p
                    have KA2 := Lib.hid (KA.out.below hb2)
                    have KQ2 := Lib.hid (KQ.out.below hb2)
                    clear hcell hb2 KA HNU
                    generalize far W1 p = W2 at KA2 KQ2 ⊢
                    have r2 := KQ2.out.c2
                    rw [HM.out] at r2
                    go_wp2_with fail
                    refine (lawHears g A2 c2 xs i M ys ys z er er true W2 KA2.out.1 HBM.out.1 HBM.out.2 HR.out (by simp)).mono ?_
                    rintro e W3 ⟨rfl, hR, hC⟩
                    rw [HSA.out] at hR
                    have K3 := Lib.hid (KA2.out.ask hR hC)
                    have eW : IntKind.i64.wrap ((i : Int) + (z : Int)) = ((i + z : Nat) : Int) := by have := hR.2.2.2.1; have := HLX.out; simp [IntKind.wrap, IntKind.bits, IntKind.signed]; omega
                    clear hR hC r2 KA2
                    go_wp2_with fail
                    go_meet
                    exact ⟨g, A2, c2, i + z, rfl, rfl, K3⟩
              · have z1 : ((qs[k]).what == 1) = false := by simp [t1]
                by_cases t2 : (qs[k]).what = 2
                · skip
                  have z2 : ((qs[k]).what == 2) = true := by simp [t2]
                  have eL : IntKind.i64.wrap ((xs.length : Int) - (i : Int)) = ((xs.length - i : Nat) : Int) := by have := HLX.out; simp [IntKind.wrap, IntKind.bits, IntKind.signed]; omega
                  have hdl : ((xs.drop i).length : Int) = ((xs.length - i : Nat) : Int) := by rw [List.length_drop]
                  clear t0 t1 t2
                  by_cases hneg : M < 0
                  · have HTK := Lib.hid (show takeP (xs.drop i) M = ([], 2) from by unfold takeP; rw [if_pos hneg])
                    clear hdl hix
                    go_wp2_with fail
                    refine (lawTakes g A2 c2 xs i M [] [] 2 2 true W1 KA.out.1 HBM.out.1 HBM.out.2 HTK.out (by simp)).mono ?_
                    rintro e W3 ⟨rfl, hR, hC⟩
                    have K3 := Lib.hid (KA.out.ask hR hC)
                    clear hR hC q1 q2 KA
                    go_wp2_with fail
                    go_meet
                    exact ⟨g, A2, c2, i, rfl, rfl, K3⟩
                  · have n0 : ¬ M < 0 := hneg
                    by_cases hgt : ((xs.length - i : Nat) : Int) < M
                    · have HTK := Lib.hid (show takeP (xs.drop i) M = ([], 4) from by unfold takeP; rw [if_neg hneg, hdl, if_pos hgt])
                      clear hdl hix
                      go_wp2_with fail
                      refine (lawTakes g A2 c2 xs i M [] [] 4 4 true W1 KA.out.1 HBM.out.1 HBM.out.2 HTK.out (by simp)).mono ?_
                      rintro e W3 ⟨rfl, hR, hC⟩
                      have K3 := Lib.hid (KA.out.ask hR hC)
                      clear hR hC q1 q2 KA
                      go_wp2_with fail
                      go_meet
                      exact ⟨g, A2, c2, i, rfl, rfl, K3⟩
                    · have n1 : ¬ ((xs.length - i : Nat) : Int) < M := hgt
                      obtain ⟨m, rfl⟩ : ∃ m : Nat, M = (m : Int) := ⟨M.toNat, by omega⟩
                      have hle : i + m ≤ xs.length := by omega
                      have hyl : ((xs.drop i).take m).length = m := by rw [List.length_take, List.length_drop]; omega
                      have HTK := Lib.hid (show takeP (xs.drop i) (m : Int) = ((xs.drop i).take m, 0) from by unfold takeP; rw [if_neg hneg, hdl, if_neg hgt]; simp)
                      have HI := Lib.hid hle
                      have HYL := Lib.hid hyl
                      have eW : IntKind.i64.wrap ((i : Int) + (m : Int)) = (i : Int) + (m : Int) := by have := HLX.out; simp [IntKind.wrap, IntKind.bits, IntKind.signed]; omega
                      have k1 : (i : Int) ≤ (i : Int) + (m : Int) := by omega
                      have k2 : (i : Int) + (m : Int) ≤ (c : Int) := by omega
                      have k3 : ((i : Int) + (m : Int)).toNat = i + m := by omega
                      have k4 : i + m - i = m := by omega
                      have k5 : (0 : Int) ≤ (i : Int) + (m : Int) := by omega
                      clear hdl hix hle hyl hneg hgt
                      rcases A with _ | aa
                      · skip
                        have hcell : ∀ W, AskB g P0 (qs[k]) W ∧ Below w.heap.size w W → W.cell? ⟨P0, 2, none⟩ = some (.int .i64 (m : Int)) := fun W h => by rw [← HM.out]; exact h.1.c2
                        have hcv : ∀ W, AskB g P0 (qs[k]) W ∧ Below w.heap.size w W → (convert 25 9 (.slice none m (c - i))).run Try.prog W = .ok (.string ⟨((xs.drop i).take m).toArray⟩) W := fun W h => (convCut W none c xs i m (HV.out.below h.2) HI.out).1 rfl
                        go_wp2_with fail
                        have KD := Lib.hid (KA.out.below (W' := W1.drew) (Below.refl _ _).drew)
                        refine wp_region_held_drew (S := fun W => AskB g P0 (qs[k]) W ∧ Below w.heap.size w W) (by kernel_rfl) ?_ (fun hHeld => ?_)
                        · exact ⟨KQ.out.below (Below.refl _ _).drew, KD.out.2.1⟩
                        clear KA q1 q2
                        refine wpAnyH_take (i := 0) (oi := ⟨some 108, _, _, _, _, _⟩) (v := ?_) rfl (by kernel_rfl) (by kernel_rfl) (by kernel_rfl) (fun _ _ _ h => h) (Or.inl ⟨by rfl, ?_⟩) (by assumption) ?_
                        rotate_left 1
                        · intro w hSw
                          (try dsimp only at hSw)
                          go_simp
                          try with_reducible rfl
                        try simp only [Act.put, List.setIfInBounds_toArray, List.set_cons_zero, List.set_cons_succ]
                        refine wpAnyH_take (i := 1) (oi := ⟨some 109, _, _, _, _, _⟩) (v := ?_) rfl (by kernel_rfl) (by kernel_rfl) (by kernel_rfl) (fun _ _ _ h => h) (Or.inl ⟨by rfl, ?_⟩) (by assumption) ?_
                        rotate_left 1
                        · intro w hSw
                          (try dsimp only at hSw)
                          go_simp
                          try with_reducible rfl
                        try simp only [Act.put, List.setIfInBounds_toArray, List.set_cons_zero, List.set_cons_succ]
                        refine wpAnyH_take (i := 2) (oi := ⟨some 110, _, _, _, _, _⟩) (v := ?_) rfl (by kernel_rfl) (by kernel_rfl) (by kernel_rfl) (fun _ _ _ h => h) (Or.inl ⟨by rfl, ?_⟩) (by assumption) ?_
                        rotate_left 1
                        · intro w hSw
                          (try dsimp only at hSw)
                          go_simp
                          try with_reducible rfl
                        try simp only [Act.put, List.setIfInBounds_toArray, List.set_cons_zero, List.set_cons_succ]
                        refine wpAnyH_take (i := 3) (oi := ⟨some 111, _, _, _, _, _⟩) (v := ?_) rfl (by kernel_rfl) (by kernel_rfl) (by kernel_rfl) (fun _ _ _ h => h) (Or.inl ⟨by rfl, ?_⟩) (by assumption) ?_
                        rotate_left 1
                        · intro w hSw
                          (try dsimp only at hSw)
                          go_simp
                          try with_reducible rfl
                        try simp only [Act.put, List.setIfInBounds_toArray, List.set_cons_zero, List.set_cons_succ]
                        refine wpAnyH_take (i := 4) (oi := ⟨some 112, _, _, _, _, _⟩) (v := ?_) rfl (by kernel_rfl) (by kernel_rfl) (by kernel_rfl) (fun _ _ _ h => h) (Or.inl ⟨by rfl, ?_⟩) (by assumption) ?_
                        rotate_left 1
                        · intro w hSw
                          (try dsimp only at hSw)
                          go_simp
                          try with_reducible rfl
                        try simp only [Act.put, List.setIfInBounds_toArray, List.set_cons_zero, List.set_cons_succ]
                        refine wpAnyH_take (i := 5) (oi := ⟨some 113, _, _, _, _, _⟩) (v := ?_) rfl (by kernel_rfl) (by kernel_rfl) (by kernel_rfl) (fun _ _ _ h => h) (Or.inl ⟨by rfl, ?_⟩) (by assumption) ?_
                        rotate_left 1
                        · intro w hSw
                          (try dsimp only at hSw)
                          go_simp
                          try with_reducible rfl
                        try simp only [Act.put, List.setIfInBounds_toArray, List.set_cons_zero, List.set_cons_succ]
                        refine wpAnyH_take (i := 6) (oi := ⟨some 114, _, _, _, _, _⟩) (v := ?_) rfl (by kernel_rfl) (by kernel_rfl) (by kernel_rfl) (fun _ _ _ h => h) (Or.inl ⟨by rfl, ?_⟩) (by assumption) ?_
                        rotate_left 1
                        · intro w hSw
                          (try dsimp only at hSw)
                          go_simp
                          try with_reducible rfl
                        try simp only [Act.put, List.setIfInBounds_toArray, List.set_cons_zero, List.set_cons_succ]
                        refine wpAnyH_take (i := 7) (oi := ⟨some 115, _, _, _, _, _⟩) (v := ?_) rfl (by kernel_rfl) (by kernel_rfl) (by kernel_rfl) (fun _ _ _ h => h) (Or.inl ⟨by rfl, ?_⟩) (by assumption) ?_
                        rotate_left 1
                        · intro w hSw
                          (try dsimp only at hSw)
                          go_simp
                          try with_reducible rfl
                        try simp only [Act.put, List.setIfInBounds_toArray, List.set_cons_zero, List.set_cons_succ]
                        refine wpAnyH_take (i := 8) (oi := ⟨some 116, _, _, _, _, _⟩) (v := ?_) rfl (by kernel_rfl) (by kernel_rfl) (by kernel_rfl) (fun _ _ _ h => h) (Or.inl ⟨by rfl, ?_⟩) (by assumption) ?_
                        rotate_left 1
                        · intro w hSw
                          (try dsimp only at hSw)
                          go_simp
                          try with_reducible rfl
                        try simp only [Act.put, List.setIfInBounds_toArray, List.set_cons_zero, List.set_cons_succ]
                        refine wpAnyH_take (i := 9) (oi := ⟨some 117, _, _, _, _, _⟩) (v := ?_) rfl (by kernel_rfl) (by kernel_rfl) (by kernel_rfl) (fun _ _ _ h => h) (Or.inl ⟨by rfl, ?_⟩) (by assumption) ?_
                        rotate_left 1
                        · intro w hSw
                          (try dsimp only at hSw)
                          go_simp
                          try with_reducible rfl
                        try simp only [Act.put, List.setIfInBounds_toArray, List.set_cons_zero, List.set_cons_succ]
                        refine wpAnyH_take (i := 10) (oi := ⟨some 118, _, _, _, _, _⟩) (v := ?_) rfl (by kernel_rfl) (by kernel_rfl) (by kernel_rfl) (fun _ _ _ h => h) (Or.inl ⟨by rfl, ?_⟩) (by assumption) ?_
                        rotate_left 1
                        · intro w hSw
                          (try dsimp only at hSw)
                          go_simp
                          try with_reducible rfl
                        try simp only [Act.put, List.setIfInBounds_toArray, List.set_cons_zero, List.set_cons_succ]
                        refine wpAnyH_ready (rs := [11]) (by kernel_rfl) (by simp) ?_
                        refine AllReadyH.cons (o := ⟨some 119, _, _, _, _, _⟩) rfl (fun K hK => ?_) AllReadyH.nil
                        go_simp
                        refine (lawTakes g A2 c2 xs i m ((xs.drop i).take m) ((xs.drop i).take m) 0 0 true W1.drew KD.out.1 HBM.out.1 HBM.out.2 HTK.out (by simp)).mono ?_
                        rintro e W3 ⟨rfl, hR, hC⟩
                        rw [HYL.out] at hR
                        have K3 := Lib.hid (show RdI w g A2 c2 xs (i + m) W3 from KD.out.ask hR hC)
                        have hS3 : AskB g P0 (qs[k]) W3 ∧ Below w.heap.size w W3 := ⟨(KQ.out.below (Below.refl _ _).drew).chg hC, K3.out.2.1⟩
                        clear hR hC
                        first
                          | refine hK.out _ _ ?_ (fun hHeld => ?_)
                          | (go_wp2_with fail
                             refine hK.out _ _ ?_ (fun hHeld => ?_))
                        · exact hS3
                        clear hK
                        try simp only [Act.put, List.setIfInBounds_toArray, List.set_cons_zero, List.set_cons_succ]
                        refine wpAnyH_take (i := 12) (oi := ⟨some 120, _, _, _, _, _⟩) (v := ?_) rfl (by kernel_rfl) (by kernel_rfl) (by kernel_rfl) (fun _ _ _ h => h) (Or.inl ⟨by rfl, ?_⟩) (by assumption) ?_
                        rotate_left 1
                        · intro w hSw
                          (try dsimp only at hSw)
                          go_simp
                          try with_reducible rfl
                        try simp only [Act.put, List.setIfInBounds_toArray, List.set_cons_zero, List.set_cons_succ]
                        refine wpAnyH_done (by kernel_rfl) ?_ _
                        have r2 := hcell _ hS3
                        clear hcell hcv hHeld hS3 KD
                        go_wp2_with fail
                        go_meet
                        exact ⟨g, A2, c2, i + m, rfl, by rw [Int.natCast_add], K3⟩
                      · by_cases hci : c = i
                        · skip
                          subst hci
                          have hcell : ∀ W, AskB g P0 (qs[k]) W ∧ Below w.heap.size w W → W.cell? ⟨P0, 2, none⟩ = some (.int .i64 (m : Int)) := fun W h => by rw [← HM.out]; exact h.1.c2
                          have hcv : ∀ W, AskB g P0 (qs[k]) W ∧ Below w.heap.size w W → (convert 25 9 (.slice (some aa) m 0)).run Try.prog W = .ok (.string ⟨((xs.drop c).take m).toArray⟩) W := fun W h => (convCut W (some aa) c xs c m (HV.out.below h.2) HI.out).2.1 aa rfl rfl
                          go_wp2_with fail
                          have KD := Lib.hid (KA.out.below (W' := W1.drew) (Below.refl _ _).drew)
                          refine wp_region_held_drew (S := fun W => AskB g P0 (qs[k]) W ∧ Below w.heap.size w W) (by kernel_rfl) ?_ (fun hHeld => ?_)
                          · exact ⟨KQ.out.below (Below.refl _ _).drew, KD.out.2.1⟩
                          clear KA q1 q2
                          refine wpAnyH_take (i := 0) (oi := ⟨some 108, _, _, _, _, _⟩) (v := ?_) rfl (by kernel_rfl) (by kernel_rfl) (by kernel_rfl) (fun _ _ _ h => h) (Or.inl ⟨by rfl, ?_⟩) (by assumption) ?_
                          rotate_left 1
                          · intro w hSw
                            (try dsimp only at hSw)
                            go_simp
                            try with_reducible rfl
                          try simp only [Act.put, List.setIfInBounds_toArray, List.set_cons_zero, List.set_cons_succ]
                          refine wpAnyH_take (i := 1) (oi := ⟨some 109, _, _, _, _, _⟩) (v := ?_) rfl (by kernel_rfl) (by kernel_rfl) (by kernel_rfl) (fun _ _ _ h => h) (Or.inl ⟨by rfl, ?_⟩) (by assumption) ?_
                          rotate_left 1
                          · intro w hSw
                            (try dsimp only at hSw)
                            go_simp
                            try with_reducible rfl
                          try simp only [Act.put, List.setIfInBounds_toArray, List.set_cons_zero, List.set_cons_succ]
                          refine wpAnyH_take (i := 2) (oi := ⟨some 110, _, _, _, _, _⟩) (v := ?_) rfl (by kernel_rfl) (by kernel_rfl) (by kernel_rfl) (fun _ _ _ h => h) (Or.inl ⟨by rfl, ?_⟩) (by assumption) ?_
                          rotate_left 1
                          · intro w hSw
                            (try dsimp only at hSw)
                            go_simp
                            try with_reducible rfl
                          try simp only [Act.put, List.setIfInBounds_toArray, List.set_cons_zero, List.set_cons_succ]
                          refine wpAnyH_take (i := 3) (oi := ⟨some 111, _, _, _, _, _⟩) (v := ?_) rfl (by kernel_rfl) (by kernel_rfl) (by kernel_rfl) (fun _ _ _ h => h) (Or.inl ⟨by rfl, ?_⟩) (by assumption) ?_
                          rotate_left 1
                          · intro w hSw
                            (try dsimp only at hSw)
                            go_simp
                            try with_reducible rfl
                          try simp only [Act.put, List.setIfInBounds_toArray, List.set_cons_zero, List.set_cons_succ]
                          refine wpAnyH_take (i := 4) (oi := ⟨some 112, _, _, _, _, _⟩) (v := ?_) rfl (by kernel_rfl) (by kernel_rfl) (by kernel_rfl) (fun _ _ _ h => h) (Or.inl ⟨by rfl, ?_⟩) (by assumption) ?_
                          rotate_left 1
                          · intro w hSw
                            (try dsimp only at hSw)
                            go_simp
                            try with_reducible rfl
                          try simp only [Act.put, List.setIfInBounds_toArray, List.set_cons_zero, List.set_cons_succ]
                          refine wpAnyH_take (i := 5) (oi := ⟨some 113, _, _, _, _, _⟩) (v := ?_) rfl (by kernel_rfl) (by kernel_rfl) (by kernel_rfl) (fun _ _ _ h => h) (Or.inl ⟨by rfl, ?_⟩) (by assumption) ?_
                          rotate_left 1
                          · intro w hSw
                            (try dsimp only at hSw)
                            go_simp
                            try with_reducible rfl
                          try simp only [Act.put, List.setIfInBounds_toArray, List.set_cons_zero, List.set_cons_succ]
                          refine wpAnyH_take (i := 6) (oi := ⟨some 114, _, _, _, _, _⟩) (v := ?_) rfl (by kernel_rfl) (by kernel_rfl) (by kernel_rfl) (fun _ _ _ h => h) (Or.inl ⟨by rfl, ?_⟩) (by assumption) ?_
                          rotate_left 1
                          · intro w hSw
                            (try dsimp only at hSw)
                            go_simp
                            try with_reducible rfl
                          try simp only [Act.put, List.setIfInBounds_toArray, List.set_cons_zero, List.set_cons_succ]
                          refine wpAnyH_take (i := 7) (oi := ⟨some 115, _, _, _, _, _⟩) (v := ?_) rfl (by kernel_rfl) (by kernel_rfl) (by kernel_rfl) (fun _ _ _ h => h) (Or.inl ⟨by rfl, ?_⟩) (by assumption) ?_
                          rotate_left 1
                          · intro w hSw
                            (try dsimp only at hSw)
                            go_simp
                            try with_reducible rfl
                          try simp only [Act.put, List.setIfInBounds_toArray, List.set_cons_zero, List.set_cons_succ]
                          refine wpAnyH_take (i := 8) (oi := ⟨some 116, _, _, _, _, _⟩) (v := ?_) rfl (by kernel_rfl) (by kernel_rfl) (by kernel_rfl) (fun _ _ _ h => h) (Or.inl ⟨by rfl, ?_⟩) (by assumption) ?_
                          rotate_left 1
                          · intro w hSw
                            (try dsimp only at hSw)
                            go_simp
                            try with_reducible rfl
                          try simp only [Act.put, List.setIfInBounds_toArray, List.set_cons_zero, List.set_cons_succ]
                          refine wpAnyH_take (i := 9) (oi := ⟨some 117, _, _, _, _, _⟩) (v := ?_) rfl (by kernel_rfl) (by kernel_rfl) (by kernel_rfl) (fun _ _ _ h => h) (Or.inl ⟨by rfl, ?_⟩) (by assumption) ?_
                          rotate_left 1
                          · intro w hSw
                            (try dsimp only at hSw)
                            go_simp
                            try with_reducible rfl
                          try simp only [Act.put, List.setIfInBounds_toArray, List.set_cons_zero, List.set_cons_succ]
                          refine wpAnyH_take (i := 10) (oi := ⟨some 118, _, _, _, _, _⟩) (v := ?_) rfl (by kernel_rfl) (by kernel_rfl) (by kernel_rfl) (fun _ _ _ h => h) (Or.inl ⟨by rfl, ?_⟩) (by assumption) ?_
                          rotate_left 1
                          · intro w hSw
                            (try dsimp only at hSw)
                            go_simp
                            try with_reducible rfl
                          try simp only [Act.put, List.setIfInBounds_toArray, List.set_cons_zero, List.set_cons_succ]
                          refine wpAnyH_ready (rs := [11]) (by kernel_rfl) (by simp) ?_
                          refine AllReadyH.cons (o := ⟨some 119, _, _, _, _, _⟩) rfl (fun K hK => ?_) AllReadyH.nil
                          go_simp
                          refine (lawTakes g A2 c2 xs c m ((xs.drop c).take m) ((xs.drop c).take m) 0 0 true W1.drew KD.out.1 HBM.out.1 HBM.out.2 HTK.out (by simp)).mono ?_
                          rintro e W3 ⟨rfl, hR, hC⟩
                          rw [HYL.out] at hR
                          have K3 := Lib.hid (show RdI w g A2 c2 xs (c + m) W3 from KD.out.ask hR hC)
                          have hS3 : AskB g P0 (qs[k]) W3 ∧ Below w.heap.size w W3 := ⟨(KQ.out.below (Below.refl _ _).drew).chg hC, K3.out.2.1⟩
                          clear hR hC
                          first
                            | refine hK.out _ _ ?_ (fun hHeld => ?_)
                            | (go_wp2_with fail
                               refine hK.out _ _ ?_ (fun hHeld => ?_))
                          · exact hS3
                          clear hK
                          try simp only [Act.put, List.setIfInBounds_toArray, List.set_cons_zero, List.set_cons_succ]
                          refine wpAnyH_take (i := 12) (oi := ⟨some 120, _, _, _, _, _⟩) (v := ?_) rfl (by kernel_rfl) (by kernel_rfl) (by kernel_rfl) (fun _ _ _ h => h) (Or.inl ⟨by rfl, ?_⟩) (by assumption) ?_
                          rotate_left 1
                          · intro w hSw
                            (try dsimp only at hSw)
                            go_simp
                            try with_reducible rfl
                          try simp only [Act.put, List.setIfInBounds_toArray, List.set_cons_zero, List.set_cons_succ]
                          refine wpAnyH_done (by kernel_rfl) ?_ _
                          have r2 := hcell _ hS3
                          clear hcell hcv hHeld hS3 KD
                          go_wp2_with fail
                          go_meet
                          exact ⟨g, A2, c2, c + m, rfl, by rw [Int.natCast_add], K3⟩
                        · skip
                          have hcell : ∀ W, AskB g P0 (qs[k]) W ∧ Below w.heap.size w W → W.cell? ⟨P0, 2, none⟩ = some (.int .i64 (m : Int)) := fun W h => by rw [← HM.out]; exact h.1.c2
                          have hcv : ∀ W, AskB g P0 (qs[k]) W ∧ Below w.heap.size w W → (convert 25 9 (.slice (some (aa.add i)) m (c - i))).run Try.prog W = .ok (.string ⟨((xs.drop i).take m).toArray⟩) W := fun W h => (convCut W (some aa) c xs i m (HV.out.below h.2) HI.out).2.2 aa rfl hci
                          go_wp2_with fail
                          have KD := Lib.hid (KA.out.below (W' := W1.drew) (Below.refl _ _).drew)
                          refine wp_region_held_drew (S := fun W => AskB g P0 (qs[k]) W ∧ Below w.heap.size w W) (by kernel_rfl) ?_ (fun hHeld => ?_)
                          · exact ⟨KQ.out.below (Below.refl _ _).drew, KD.out.2.1⟩
                          clear KA q1 q2
                          refine wpAnyH_take (i := 0) (oi := ⟨some 108, _, _, _, _, _⟩) (v := ?_) rfl (by kernel_rfl) (by kernel_rfl) (by kernel_rfl) (fun _ _ _ h => h) (Or.inl ⟨by rfl, ?_⟩) (by assumption) ?_
                          rotate_left 1
                          · intro w hSw
                            (try dsimp only at hSw)
                            go_simp
                            try with_reducible rfl
                          try simp only [Act.put, List.setIfInBounds_toArray, List.set_cons_zero, List.set_cons_succ]
                          refine wpAnyH_take (i := 1) (oi := ⟨some 109, _, _, _, _, _⟩) (v := ?_) rfl (by kernel_rfl) (by kernel_rfl) (by kernel_rfl) (fun _ _ _ h => h) (Or.inl ⟨by rfl, ?_⟩) (by assumption) ?_
                          rotate_left 1
                          · intro w hSw
                            (try dsimp only at hSw)
                            go_simp
                            try with_reducible rfl
                          try simp only [Act.put, List.setIfInBounds_toArray, List.set_cons_zero, List.set_cons_succ]
                          refine wpAnyH_take (i := 2) (oi := ⟨some 110, _, _, _, _, _⟩) (v := ?_) rfl (by kernel_rfl) (by kernel_rfl) (by kernel_rfl) (fun _ _ _ h => h) (Or.inl ⟨by rfl, ?_⟩) (by assumption) ?_
                          rotate_left 1
                          · intro w hSw
                            (try dsimp only at hSw)
                            go_simp
                            try with_reducible rfl
                          try simp only [Act.put, List.setIfInBounds_toArray, List.set_cons_zero, List.set_cons_succ]
                          refine wpAnyH_take (i := 3) (oi := ⟨some 111, _, _, _, _, _⟩) (v := ?_) rfl (by kernel_rfl) (by kernel_rfl) (by kernel_rfl) (fun _ _ _ h => h) (Or.inl ⟨by rfl, ?_⟩) (by assumption) ?_
                          rotate_left 1
                          · intro w hSw
                            (try dsimp only at hSw)
                            go_simp
                            try with_reducible rfl
                          try simp only [Act.put, List.setIfInBounds_toArray, List.set_cons_zero, List.set_cons_succ]
                          refine wpAnyH_take (i := 4) (oi := ⟨some 112, _, _, _, _, _⟩) (v := ?_) rfl (by kernel_rfl) (by kernel_rfl) (by kernel_rfl) (fun _ _ _ h => h) (Or.inl ⟨by rfl, ?_⟩) (by assumption) ?_
                          rotate_left 1
                          · intro w hSw
                            (try dsimp only at hSw)
                            go_simp
                            try with_reducible rfl
                          try simp only [Act.put, List.setIfInBounds_toArray, List.set_cons_zero, List.set_cons_succ]
                          refine wpAnyH_take (i := 5) (oi := ⟨some 113, _, _, _, _, _⟩) (v := ?_) rfl (by kernel_rfl) (by kernel_rfl) (by kernel_rfl) (fun _ _ _ h => h) (Or.inl ⟨by rfl, ?_⟩) (by assumption) ?_
                          rotate_left 1
                          · intro w hSw
                            (try dsimp only at hSw)
                            go_simp
                            try with_reducible rfl
                          try simp only [Act.put, List.setIfInBounds_toArray, List.set_cons_zero, List.set_cons_succ]
                          refine wpAnyH_take (i := 6) (oi := ⟨some 114, _, _, _, _, _⟩) (v := ?_) rfl (by kernel_rfl) (by kernel_rfl) (by kernel_rfl) (fun _ _ _ h => h) (Or.inl ⟨by rfl, ?_⟩) (by assumption) ?_
                          rotate_left 1
                          · intro w hSw
                            (try dsimp only at hSw)
                            go_simp
                            try with_reducible rfl
                          try simp only [Act.put, List.setIfInBounds_toArray, List.set_cons_zero, List.set_cons_succ]
                          refine wpAnyH_take (i := 7) (oi := ⟨some 115, _, _, _, _, _⟩) (v := ?_) rfl (by kernel_rfl) (by kernel_rfl) (by kernel_rfl) (fun _ _ _ h => h) (Or.inl ⟨by rfl, ?_⟩) (by assumption) ?_
                          rotate_left 1
                          · intro w hSw
                            (try dsimp only at hSw)
                            go_simp
                            try with_reducible rfl
                          try simp only [Act.put, List.setIfInBounds_toArray, List.set_cons_zero, List.set_cons_succ]
                          refine wpAnyH_take (i := 8) (oi := ⟨some 116, _, _, _, _, _⟩) (v := ?_) rfl (by kernel_rfl) (by kernel_rfl) (by kernel_rfl) (fun _ _ _ h => h) (Or.inl ⟨by rfl, ?_⟩) (by assumption) ?_
                          rotate_left 1
                          · intro w hSw
                            (try dsimp only at hSw)
                            go_simp
                            try with_reducible rfl
                          try simp only [Act.put, List.setIfInBounds_toArray, List.set_cons_zero, List.set_cons_succ]
                          refine wpAnyH_take (i := 9) (oi := ⟨some 117, _, _, _, _, _⟩) (v := ?_) rfl (by kernel_rfl) (by kernel_rfl) (by kernel_rfl) (fun _ _ _ h => h) (Or.inl ⟨by rfl, ?_⟩) (by assumption) ?_
                          rotate_left 1
                          · intro w hSw
                            (try dsimp only at hSw)
                            go_simp
                            try with_reducible rfl
                          try simp only [Act.put, List.setIfInBounds_toArray, List.set_cons_zero, List.set_cons_succ]
                          refine wpAnyH_take (i := 10) (oi := ⟨some 118, _, _, _, _, _⟩) (v := ?_) rfl (by kernel_rfl) (by kernel_rfl) (by kernel_rfl) (fun _ _ _ h => h) (Or.inl ⟨by rfl, ?_⟩) (by assumption) ?_
                          rotate_left 1
                          · intro w hSw
                            (try dsimp only at hSw)
                            go_simp
                            try with_reducible rfl
                          try simp only [Act.put, List.setIfInBounds_toArray, List.set_cons_zero, List.set_cons_succ]
                          refine wpAnyH_ready (rs := [11]) (by kernel_rfl) (by simp) ?_
                          refine AllReadyH.cons (o := ⟨some 119, _, _, _, _, _⟩) rfl (fun K hK => ?_) AllReadyH.nil
                          go_simp
                          refine (lawTakes g A2 c2 xs i m ((xs.drop i).take m) ((xs.drop i).take m) 0 0 true W1.drew KD.out.1 HBM.out.1 HBM.out.2 HTK.out (by simp)).mono ?_
                          rintro e W3 ⟨rfl, hR, hC⟩
                          rw [HYL.out] at hR
                          have K3 := Lib.hid (show RdI w g A2 c2 xs (i + m) W3 from KD.out.ask hR hC)
                          have hS3 : AskB g P0 (qs[k]) W3 ∧ Below w.heap.size w W3 := ⟨(KQ.out.below (Below.refl _ _).drew).chg hC, K3.out.2.1⟩
                          clear hR hC
                          first
                            | refine hK.out _ _ ?_ (fun hHeld => ?_)
                            | (go_wp2_with fail
                               refine hK.out _ _ ?_ (fun hHeld => ?_))
                          · exact hS3
                          clear hK
                          try simp only [Act.put, List.setIfInBounds_toArray, List.set_cons_zero, List.set_cons_succ]
                          refine wpAnyH_take (i := 12) (oi := ⟨some 120, _, _, _, _, _⟩) (v := ?_) rfl (by kernel_rfl) (by kernel_rfl) (by kernel_rfl) (fun _ _ _ h => h) (Or.inl ⟨by rfl, ?_⟩) (by assumption) ?_
                          rotate_left 1
                          · intro w hSw
                            (try dsimp only at hSw)
                            go_simp
                            try with_reducible rfl
                          try simp only [Act.put, List.setIfInBounds_toArray, List.set_cons_zero, List.set_cons_succ]
                          refine wpAnyH_done (by kernel_rfl) ?_ _
                          have r2 := hcell _ hS3
                          clear hcell hcv hHeld hS3 KD
                          go_wp2_with fail
                          go_meet
                          exact ⟨g, A2, c2, i + m, rfl, by rw [Int.natCast_add], K3⟩
                · skip
                  have z2 : ((qs[k]).what == 2) = false := by simp [t2]
                  clear t0 t1 t2 q1 q2
                  go_wp2_with fail
                  refine (copyAt g A2 c2 xs i W1 KA.out.1).mono ?_
                  rintro e W2 ⟨⟨g3, A3, c3, rfl, hR3, hg3, hA3⟩, hb3⟩
                  have KA2 := Lib.hid (KA.out.below hb3)
                  have hlt1 := KA.out.1.lt
                  have KC := Lib.hid (show Rd W2 g3 A3 c3 xs i ∧ g3 ≠ g ∧ (∀ a, A3 = some a → a.block ≠ g) ∧ w.heap.size ≤ g3 from ⟨hR3, by omega, fun a ha e => by have := hA3 a ha; omega, Nat.le_trans KA.out.2.1.size hg3⟩)
                  clear hR3 hg3 hA3 hb3 hlt1 KA
                  go_wp2_with fail
                  obtain ⟨n, er, hr⟩ : ∃ n er, numP (rd (xs.drop i)) 1099511627776 = (n, er) := ⟨_, _, rfl⟩
                  refine (numTry g A2 c2 xs i 1099511627776 W2 KA2.out.1 (by omega) n er hr).mono ?_
                  rintro e W3 ⟨rfl, hR, hC⟩
                  have KA3 := Lib.hid (KA2.out.ask hR hC)
                  have KC3 := Lib.hid (show Rd W3 g3 A3 c3 xs i from KC.out.1.chg hC KC.out.2.1 KC.out.2.2.1)
                  clear hR hC hr KA2
                  generalize (i + if er = 0 then (rd (List.drop i xs)).2.1 else 0) = i3 at KA3
                  go_wp2_with fail
                  obtain ⟨ys, e2, hr⟩ : ∃ ys e2, takeP (xs.drop i3) 1 = (ys, e2) := ⟨_, _, rfl⟩
                  refine (takeTry g A2 c2 xs i3 1 W3 KA3.out.1 (by omega) (by omega) ys e2 hr).mono ?_
                  rintro e W4 ⟨⟨B4, d4, rfl, _⟩, hR, hC⟩
                  have K4 := Lib.hid (show RdI w g3 A3 c3 xs i W4 from ⟨KC3.out.chg hC KC.out.2.1 KC.out.2.2.1, (KA3.out.ask hR hC).2.1, KC.out.2.2.2⟩)
                  clear hR hC hr KA3
                  go_wp2_with fail
                  go_meet
                  exact ⟨g3, A3, c3, i, rfl, rfl, K4⟩
          case rest =>
            obtain ⟨g4, A4, c4, i4, rfl, rfl, K4⟩ := hcut
            clear KA KQ q1 q2 hix hi300 hxi j0 j1
            have hi4 : i4 ≤ xs.length := K4.out.1.2.2.2.1
            have e4 : IntKind.i64.wrap ((xs.length : Int) - (i4 : Int)) = ((xs.length - i4 : Nat) : Int) := by have := HLX.out; simp [IntKind.wrap, IntKind.bits, IntKind.signed]; omega
            go_wp2_with fail
            refine (atAt g4 A4 c4 xs i4 _ K4.out.1).mono ?_
            rintro e w5 ⟨rfl, rfl⟩
            go_wp2_with fail
            refine (leftAt g4 A4 c4 xs i4 _ K4.out.1).mono ?_
            rintro e w5 ⟨rfl, hb⟩
            have K5 := Lib.hid (K4.out.below hb)
            clear hb K4
            go_wp2_with fail
            by_cases hend : i4 = xs.length
            · have HE := Lib.hid (show (if i4 = xs.length then (0 : Int) else 12) = 0 from if_pos hend)
              have y0 : ((i4 : Int) == (xs.length : Int)) = true := by simp; omega
              have y1 : ¬ (i4 : Int) < (xs.length : Int) := by omega
              clear hend e4
              refine (endAt g4 A4 c4 xs i4 0 _ K5.out.1 HE.out).mono ?_
              rintro e w6 ⟨rfl, hb⟩
              have K6 := Lib.hid (K5.out.below hb)
              clear hb K5 HE
              go_wp2_with fail
              go_roundw
              case rel => exact ⟨k + 1, g4, A4, c4, i4, by omega, by go_num, rfl, rfl, K6⟩
              case measure => simp [intOf]; omega
            · have HE := Lib.hid (show (if i4 = xs.length then (0 : Int) else 12) = 12 from if_neg hend)
              have y0 : ((i4 : Int) == (xs.length : Int)) = false := by simp; omega
              have y1 : (i4 : Int) < (xs.length : Int) := by omega
              clear hend e4
              refine (endAt g4 A4 c4 xs i4 12 _ K5.out.1 HE.out).mono ?_
              rintro e w6 ⟨rfl, hb⟩
              have K6 := Lib.hid (K5.out.below hb)
              clear hb K5
              go_wp2_with fail
              refine (endAt g4 A4 c4 xs i4 12 _ K6.out.1 HE.out).mono ?_
              rintro e w7 ⟨rfl, hb⟩
              have K7 := Lib.hid (K6.out.below hb)
              clear hb K6 HE
              go_wp2_with fail
              go_roundw
              case rel => exact ⟨k + 1, g4, A4, c4, i4, by omega, by go_num, rfl, rfl, K7⟩
              case measure => simp [intOf]; omega
        · obtain rfl : k = qs.length := by omega
          have i3 : ¬ ((qs.length : Int) < (qs.length : Int)) := by omega
          have KB := Lib.hid KW.out.2.1
          clear hlt hk KW
          go_wp2_with fail
          refine (knownB _).mono ?_
          rintro e w3 ⟨rfl, hb⟩
          have K3 := Lib.hid (below_trans KB.out hb)
          clear hb KB
          go_wp2_with fail
          go_ret
          exact ⟨rfl, K3.out⟩

end Go.Proofs.Ytkloheabbbpboaa
