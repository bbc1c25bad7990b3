/- Several texts in one: JoiJ, JoiP, JoiQ, JoiR, SpG, DelA. -/
import Derived.Test.YtiaehpdgpjhecaaGreatQBC
import Derived.Test.YtiaehpdgpjhecaaGreatQAZ
import Derived.Test.YtiaehpdgpjhecaaGreatQAU
import Derived.Test.YtiaehpdgpjhecaaGreatQAF
import Derived.Test.YtiaehpdgpjhecaaGreatQAT
import Derived.Test.YtiaehpdgpjhecaaGreatQAO
import Derived.Test.YtiaehpdgpjhecaaGreatQAH
import Derived.Test.YtiaehpdgpjhecaaGreatQAL
import Derived.Test.YtiaehpdgpjhecaaGreatQAG
import Derived.Test.YtiaehpdgpjhecaaGreatQAV
namespace Go.Proofs.YtiaehpdgpjhecaaGreat

section
open Go.RowKit

/-- A cart that Join has made. -/
def MadeJ (x : Ca) (w : World) (e : Ending) (w' : World) : Prop := (∃ z : CaV, e = .returned (.tuple #[mkC z, .int .i64 0]) ∧ z.ca = x ∧ OwnC w' w.heap.size z) ∧ Below w.heap.size w w'

/-- The same, with nothing that lay in a world behind changed. -/
structure KJ2 (w : World) (c d : CaV) (w6 : World) (W : World) : Prop where
  kj : KJ w c d W
  bel : Below w6.heap.size w6 W
section
variable {w w6 W W' : World} {c d : CaV}
theorem KJ2.next (h : KJ2 w c d w6 W) (hb : Below W.heap.size W W') : KJ2 w c d w6 W' := ⟨h.kj.next hb, below_trans h.bel hb⟩
theorem KJ2.drew (h : KJ2 w c d w6 W) : KJ2 w c d w6 W.drew := h.next (Below.refl _ _).drew
theorem KJ2.alloc (h : KJ2 w c d w6 W) (o : Obj) : KJ2 w c d w6 (W.alloc o) := h.next ((Below.refl _ _).alloc (Nat.le_refl _) o)
theorem KJ2.sp (h : KJ2 w c d w6 W) : W.cell? ⟨w.heap.size, 0, none⟩ = some c.v ∧ W.cell? ⟨w.heap.size, 1, none⟩ = some c.l ∧ W.cell? ⟨w.heap.size, 2, none⟩ = some c.i ∧ W.cell? ⟨w.heap.size + 1, 0, none⟩ = some d.v ∧ W.cell? ⟨w.heap.size + 1, 1, none⟩ = some d.l ∧ W.cell? ⟨w.heap.size + 1, 2, none⟩ = some d.i ∧ KJ2 w c d w6 W := by
  obtain ⟨h0, h1, h2, h3, h4, h5, _⟩ := h.kj.sp
  exact ⟨h0, h1, h2, h3, h4, h5, h⟩
end
section
variable (w : World) (c d : CaV) (zv zl lv : Value) (zvs zls : List (Int × Int)) (is : List It) (gx : Nat) (D : Option Addr) (dl : List Hd)
/-- What is known while the result is put together. -/
def finG (L : Nat → Bool) (W : World) : Prop :=
  (L 5 = false → KJ w c d W ∧ W.heap[gx]? = some (.cells #[zv, zl] 25 (0, 0)) ∧ HeldAt W D dl) ∧ Below w.heap.size w W ∧ RowC W w.heap.size zv zvs ∧ RowC W w.heap.size zl zls ∧
  (L 5 = true → ∃ I ni ys, W.heap[w.heap.size + 2]? = some (.cells #[zv, zl, .slice I ys.length ni] 28 (0, 0)) ∧ OwnI W w.heap.size (.slice I ys.length ni) ys ∧ its ys = is)
def finP : Nat → Value → World → Prop
  | 0, v, _ => v = .agg #[zv, zl]
  | 1, v, _ => v = lv
  | 2, v, W => ∃ I ni ys, v = .slice I ys.length ni ∧ OwnI W w.heap.size v ys ∧ its ys = is
  | 3, v, W => ∃ I ni ys, v = .agg #[zv, zl, .slice I ys.length ni] ∧ OwnI W w.heap.size (.slice I ys.length ni) ys ∧ its ys = is
  | 4, v, _ => v = .int .i64 0
  | 6, v, _ => v = .int .i64 0
  | _, _, _ => True
abbrev finS : RegS := ⟨fun _ => none, BelW, finG w c d zv zl zvs zls is gx D dl, finP w zv zl lv is, fun _ _ _ => True⟩
variable {w c d zv zl lv zvs zls is gx D dl}
theorem finP_below {j : Nat} {v : Value} {W W' : World} (hp : finP w zv zl lv is j v W) (hb : BelW W W') : finP w zv zl lv is j v W' := by
  match j, hp with
  | 0, e => exact e
  | 1, e => exact e
  | 2, ⟨I, ni, ys, e, h1, h2⟩ => exact ⟨I, ni, ys, e, h1.below hb, h2⟩
  | 3, ⟨I, ni, ys, e, h1, h2⟩ => exact ⟨I, ni, ys, e, h1.below hb, h2⟩
  | 4, e => exact e
  | 5, e => exact e
  | 6, e => exact e
  | j + 7, _ => exact trivial
theorem fin_keep {L : Nat → Bool} {k : Nat} {W W' : World} (hk : k ≠ 5) (hG : finG w c d zv zl zvs zls is gx D dl L W) (hb : BelW W W') : KeepsR (finS w c d zv zl lv zvs zls is gx D dl) L W W' ∧ finG w c d zv zl zvs zls is gx D dl (moreL L k) W' := by
  refine ⟨⟨fun j v _ hp => finP_below hp hb, fun _ _ _ _ => trivial⟩, ?_⟩
  obtain ⟨h1, h2, h3, h4, h5⟩ := hG
  have e5 : moreL L k 5 = L 5 := by unfold moreL; simp [Ne.symm hk]
  unfold finG
  rw [e5]
  refine ⟨fun hl => ⟨(h1 hl).1.next hb, (hb.block _ (Array.getElem?_eq_some_iff.1 (h1 hl).2.1).1).trans (h1 hl).2.1, (h1 hl).2.2.below hb⟩, below_trans h2 hb, h3.below hb, h4.below hb, fun hl => ?_⟩
  obtain ⟨I, ni, ys, a1, a2, a3⟩ := h5 hl
  exact ⟨I, ni, ys, (hb.block _ (Array.getElem?_eq_some_iff.1 a1).1).trans a1, a2.below hb, a3⟩
end
theorem OwnI.set3 {W : World} {B n : Nat} {v u a b : Value} {ys : List ItV} {cur : Array Value} {z : Nat × Nat} (h : OwnI W B v ys) (hg : W.heap[n]? = some (.cells cur 28 z)) : OwnI (((W.setCell ⟨n, 0, none⟩ u).setCell ⟨n, 1, none⟩ a).setCell ⟨n, 2, none⟩ b) B v ys :=
  ⟨row_set3 h.1 hg (by decide), fun y hy => row_set3 (h.2 y hy) hg (by decide)⟩

set_option maxRecDepth 100000 in
set_option maxHeartbeats 8000000 in
theorem joJoin_t (c d : CaV) (w : World) (hc : CaOK w c) (hd : CaOK w d) (hf : FitsP c d) (hvc : validK c.ca = true) (hvd : validK d.ca = true) :
    Calls Tryz.prog 34 #[mkC c, mkC d] w (MadeJ (joinK c.ca d.ca) w) := by
  have K0 := Lib.hid (KJ.new w c d hc hd)
  have HF := Lib.hid hf
  have HV := Lib.hid hvc
  have HV2 := Lib.hid hvd
  have hvv : (validC c.vs c.ls && validC d.vs d.ls) = true := by
    rw [Bool.and_eq_true]
    exact ⟨(compC_iff.1 (validK_iff.1 hvc).1).2, (compC_iff.1 (validK_iff.1 hvd).1).2⟩
  obtain ⟨zvs, zls, hz⟩ : ∃ a b, unionC c.vs c.ls d.vs d.ls = (a, b) := ⟨_, _, rfl⟩
  have HZ := Lib.hid hz
  have HU := Lib.hid fun W (h : CaOK W c) (h' : CaOK W d) => show Calls Tryz.prog 66 #[.agg #[c.v, c.l], .agg #[d.v, d.l]] W (fun e w' => (∃ A n B m, e = .returned (.tuple #[.agg #[.slice A zvs.length n, .slice B zls.length m], .int .i64 0]) ∧ MineV W w' (.slice A zvs.length n) zvs ∧ MineV W w' (.slice B zls.length m) zls) ∧ Below W.heap.size W w') from by
    have h1 := ctxUnion _ _ c.vs c.ls d.vs d.ls W h.ctx h'.ctx hf.un
    rw [hvv, hz] at h1
    exact h1.mono fun _ _ hr => CtxR.t hr
  have HS1 := Lib.hid fun W (h : CaOK W c) (h' : CaOK W d) => joStaying c d W h h' hf.cd hvc hvd
  have HS2 := Lib.hid fun W (h : CaOK W c) (h' : CaOK W d) => joStaying d c W h' h hf.dc hvd hvc
  obtain ⟨s1, hs1⟩ : ∃ s, stayH c.ca d.ca = s := ⟨_, rfl⟩
  obtain ⟨s2, hs2⟩ : ∃ s, stayH d.ca c.ca = s := ⟨_, rfl⟩
  have hl1 : s1.length ≤ 30000 := by
    rw [← hs1]; unfold stayH
    exact Nat.le_trans (List.length_filter_le _ _) (by rw [flatH_len, ca_x]; exact cntM_fits hf.cd.fc)
  have hl2 : s2.length ≤ 30000 := by
    rw [← hs2]; unfold stayH
    exact Nat.le_trans (List.length_filter_le _ _) (by rw [flatH_len, ca_x]; exact cntM_fits hf.cd.fd)
  have hnm : ∀ h ∈ s1 ++ s2, h.1.length ≤ 1000 := fun h hh => by
    have fl : ∀ {c d : CaV}, Fits c.xs → h ∈ stayH c.ca d.ca → h.1.length ≤ 1000 := fun hfc hx => by
      obtain ⟨y, hy, e, _⟩ := mem_flatH.1 (List.mem_filter.1 hx).1
      obtain ⟨z, hz, rfl⟩ := List.mem_map.1 hy
      rw [← e]; exact (hfc.2 z hz).1
    rcases List.mem_append.1 hh with k | k
    · rw [← hs1] at k; exact fl hf.cd.fc k
    · rw [← hs2] at k; exact fl hf.cd.fd k
  have HNM := Lib.hid hnm
  have HGJ := Lib.hid (show ∀ l : List Hd, l.Perm (s1 ++ s2) → l.Pairwise (fun x y => ltH y x = false) → groupH (ddH l) = joinI c.ca d.ca from fun l h1 h2 => group_join hvc hvd (by rw [hs1, hs2]; exact h1) h2)
  have HJK := Lib.hid (show joinK c.ca d.ca = ((zvs, zls), joinI c.ca d.ca) from by unfold joinK; rw [ca_v, ca_l, ca_v, ca_l, hz])
  rw [hs1] at HS1
  rw [hs2] at HS2
  generalize joinK c.ca d.ca = jk at HJK ⊢
  generalize joinI c.ca d.ca = ji at *
  clear hc hd hf hvc hvd hvv hz hs1 hs2 hnm
  go_enter Tryz.func34, Tryz.ntmps34
  go_wp2_with fail
  generalize World.alloc (World.alloc (World.alloc w _) _) _ = w2 at K0 ⊢
  obtain ⟨x0, x1, x2, x3, x4, x5, _⟩ := K0.out.sp
  go_wp2_with fail
  refine (caValid c true w2 K0.out.okc HF.out.kc HV.out).mono ?_
  rintro e w3 ⟨rfl, hb⟩
  have K1 := Lib.hid (K0.out.next hb)
  clear hb K0 x0 x1 x2 x3 x4 x5
  obtain ⟨x0, x1, x2, x3, x4, x5, _⟩ := K1.out.sp
  go_wp2_with fail
  refine (caValid d true w3 K1.out.okd HF.out.kd HV2.out).mono ?_
  rintro e w4 ⟨rfl, hb⟩
  have K2 := Lib.hid (K1.out.next hb)
  clear hb K1 x0 x1 x2 x3 x4 x5
  obtain ⟨x0, x1, x2, x3, x4, x5, _⟩ := K2.out.sp
  go_wp2_with fail
  refine (HU.out w4 K2.out.okc K2.out.okd).mono ?_
  rintro e w5 ⟨⟨A, n, B, m, rfl, hmv, hml⟩, hb⟩
  have K3 := Lib.hid (K2.out.next hb)
  have RV := Lib.hid (show RowC w5 w.heap.size (.slice A zvs.length n) zvs from Joins.ownsRow_le hmv.1 K2.out.kk.bel.size)
  have RL := Lib.hid (show RowC w5 w.heap.size (.slice B zls.length m) zls from Joins.ownsRow_le hml.1 K2.out.kk.bel.size)
  have hw5 : w.heap.size + 2 < w5.heap.size := K3.out.res.lt
  clear hb K2 x0 x1 x2 x3 x4 x5 hmv hml
  go_wp2_with fail
  have K4 := Lib.hid (K3.out.alloc (.cells #[.slice A zvs.length n, .slice B zls.length m] 25))
  have BX := Lib.hid (show (w5.alloc (.cells #[.slice A zvs.length n, .slice B zls.length m] 25)).heap[w5.heap.size]? = some (.cells #[.slice A zvs.length n, .slice B zls.length m] 25 (0, 0)) from heap_alloc_new w5 _)
  have hb6 := (Below.refl w5.heap.size w5).alloc (Nat.le_refl _) (.cells #[.slice A zvs.length n, .slice B zls.length m] 25)
  have RV6 := Lib.hid (RV.out.below hb6)
  have RL6 := Lib.hid (RL.out.below hb6)
  obtain ⟨gx, hgx⟩ : ∃ g, w5.heap.size = g := ⟨_, rfl⟩
  rw [hgx] at BX hw5 ⊢
  clear hb6 K3 RV RL
  generalize World.alloc w5 _ = w6 at *
  have hS : KJ2 w c d w6 w6 := ⟨K4.out, Below.refl _ _⟩
  have hsz6 : w.heap.size ≤ w6.heap.size := K4.out.kk.bel.size
  have hS' := hS.sp
  go_upto_region 4 with fail
  go_cut [8] (fun v wx => ∃ u, v = u ∧ Hid (RowH wx w6.heap.size u (s1 ++ s2)) ∧ Hid (Below w6.heap.size w6 wx))
  case first =>
    go_region_held3 (fun W => W.cell? ⟨w.heap.size, 0, none⟩ = some c.v ∧ W.cell? ⟨w.heap.size, 1, none⟩ = some c.l ∧ W.cell? ⟨w.heap.size, 2, none⟩ = some c.i ∧ W.cell? ⟨w.heap.size + 1, 0, none⟩ = some d.v ∧ W.cell? ⟨w.heap.size + 1, 1, none⟩ = some d.l ∧ W.cell? ⟨w.heap.size + 1, 2, none⟩ = some d.i ∧ KJ2 w c d w6 W)
      (first
        | assumption
        | (exact KJ2.sp (by assumption))
        | (exact KJ2.sp (KJ2.drew (by assumption)))
        | (exact KJ2.sp (KJ2.alloc (by assumption) _)))
      (first
        | (go_at_call 68; with_reducible refine (HS1.out _ (KJ2.kj (by first | assumption | exact KJ2.drew (by assumption))).okc (KJ2.kj (by first | assumption | exact KJ2.drew (by assumption))).okd).mono ?_
           rintro e wa ⟨⟨v1, rfl, hr1⟩, hb1⟩
           have hS1 := KJ2.next (by first | assumption | exact KJ2.drew (by assumption)) hb1
           have hS1' := hS1.sp)
        | (go_at_call 68; with_reducible refine (HS2.out _ (KJ2.kj (by assumption)).okc (KJ2.kj (by assumption)).okd).mono ?_
           rintro e wb ⟨⟨v2, rfl, hr2⟩, hb2⟩
           have hS2 := KJ2.next (by assumption) hb2
           have hS2' := hS2.sp
           have hr1b := kept_below hr1 hb2
           obtain ⟨A1, c1, rfl, _, _, ha1⟩ := SlAt.of_own encH_len hr1b
           obtain ⟨A2, c2, rfl, _, _, ha2⟩ := SlAt.of_own encH_len hr2)
        | (go_at_call 67; refine (concatHeld A1 A2 s1 s2 _ _ c1 c2 _ (SlAt.below ha1 ((Below.refl _ _).alloc (Nat.le_refl _) _)) (SlAt.below ha2 ((Below.refl _ _).alloc (Nat.le_refl _) _)) (by omega) (by go_simp) (by go_simp)).mono ?_
           rintro e wd ⟨v3, rfl, hr3, hb3⟩
           have hS3 := KJ2.next (KJ2.alloc (by assumption) _) hb3
           have hS3' := hS3.sp
           obtain ⟨A3, c3, rfl, _, _, _⟩ := SlAt.of_own encH_len hr3))
    all_goals
      have hF3 := hS3.bel
      have hR3 := Joins.ownsRow_le hr3 (by have := (KJ2.bel hS2).size; simp; omega : w6.heap.size ≤ _)
      clear hS hS' hS1 hS1' hS2 hS2' hS3 hS3' hr1 hr2 hr1b ha1 ha2 hb1 hb2 hb3 hr3
      go_wp2_with fail
      go_meet
      refine ⟨_, rfl, ?_, hF3⟩
      rw [List.length_append] at hR3
      show Hid (World.ownsRow _ _ _ _ _ (s1 ++ s2).length _)
      rw [List.length_append]
      exact hR3
  case rest =>
    obtain ⟨u, rfl, hr, hb⟩ := hcut
    have hll : (s1 ++ s2).length ≤ 60000 := by rw [List.length_append]; omega
    clear hS hS' hl1 hl2 HS1 HS2 HU HV HV2 HZ
    generalize s1 ++ s2 = st at *
    go_wp2_with fail
    refine (sortHeldF _ _ _ _ hr.out (by omega)).mono ?_
    rintro e w7 ⟨rfl, ys, hp, hs, hry, hg⟩
    have HR7 := Lib.hid hry
    have HB7 := Lib.hid (hb.out.grown hg hb.out.size fun k hk => (hr.out.lt k hk).1)
    have HJ := Lib.hid (HGJ.out ys hp hs)
    have hyl : ys.length ≤ 60000 := by rw [hp.length_eq]; exact hll
    have HN7 := Lib.hid (show ∀ h ∈ ys, h.1.length ≤ 1000 from fun h hh => HNM.out h (hp.mem_iff.1 hh))
    clear hry hg hp hs hr hb HGJ HNM hll
    go_wp2_with fail
    refine (compactHeld _ _ _ _ HR7.out (by omega)).mono ?_
    rintro e w8 ⟨v8, rfl, hr8, hg⟩
    have HB8 := Lib.hid (HB7.out.grown hg HB7.out.size fun k hk => (HR7.out.lt k hk).1)
    obtain ⟨D, cap, rfl, _, _, hat⟩ := SlAt.of_own encH_len hr8
    have hdl : (ddH ys).length ≤ 60000 := Nat.le_trans (ddH_sub ys).length_le hyl
    have HN8 := Lib.hid (show ∀ h ∈ ddH ys, h.1.length ≤ 100000 from fun h hh => Nat.le_trans (HN7.out h ((ddH_sub ys).subset hh)) (by omega))
    clear hr8 hg HB7 HR7 HN7 hyl
    generalize ddH ys = dl at *
    go_wp2_with fail
    have K8 := K4.out.next HB8.out
    have hX8 : w8.heap[gx]? = some (.cells #[.slice A zvs.length n, .slice B zls.length m] 25 (0, 0)) := (HB8.out.block gx (Array.getElem?_eq_some_iff.1 BX.out).1).trans BX.out
    have hV8 := RV6.out.below HB8.out
    have hL8 := RL6.out.below HB8.out
    have hnb : ∀ {k : Nat}, ∀ j, (fun _ : Nat => (none : Option Nat)) j ≠ some k := fun j h => by cases h
    have hkp : ∀ {k : Nat}, k ≠ 5 → ∀ L W W', finG w c d (.slice A zvs.length n) (.slice B zls.length m) zvs zls ji gx D dl L W → BelW W W' → KeepsR (finS w c d (.slice A zvs.length n) (.slice B zls.length m) (.slice D dl.length cap) zvs zls ji gx D dl) L W W' ∧ finG w c d (.slice A zvs.length n) (.slice B zls.length m) zvs zls ji gx D dl (moreL L k) W' := fun hk L W W' hG hb => fin_keep hk hG hb
    have hdr := (Below.refl w8.heap.size w8).drew
    refine wp_region_R (S := finS w c d (.slice A zvs.length n) (.slice B zls.length m) (.slice D dl.length cap) zvs zls ji gx D dl) (by kernel_rfl) (by kernel_rfl) (by kernel_rfl) (dst_small (n := 43) (by kernel_rfl)) (fun j k h => by cases h) (fun j j' k h1 h2 => by cases h1)
      ⟨fun _ => ⟨K8.drew, hX8, hat.below hdr⟩, below_trans K8.kk.bel hdr, hV8.below hdr, hL8.below hdr, fun h => (by cases h)⟩
      (fun j k v W h hp => by cases h) (fun _ j v W W' m k b _ hm => by cases hm) (fun _ j v W W' m k b _ hm => by cases hm) ?_ ?_
    · clear K8 hX8 hV8 hL8 hdr hat BX RV6 RL6 K4 HB8
      refine ⟨StepR.pure rfl rfl hnb (fun W => Below.refl _ W) (hkp (by decide)) fun L a W hI hk hd => ⟨rfl, .agg #[.slice A zvs.length n, .slice B zls.length m], ?_, rfl⟩,
        StepR.pure rfl rfl hnb (fun W => Below.refl _ W) (hkp (by decide)) fun L a W hI hk hd => ⟨rfl, .slice D dl.length cap, ?_, rfl⟩,
        StepR.call rfl rfl hnb (hkp (by decide)) fun L a W hI hk hd => ⟨rfl, 73, #[.slice D dl.length cap], ?_, ?_⟩,
        StepR.pure rfl rfl hnb (fun W => Below.refl _ W) (hkp (by decide)) fun L a W hI hk hd => ⟨rfl, ?_⟩,
        StepR.pure rfl rfl hnb (fun W => Below.refl _ W) (hkp (by decide)) fun L a W hI hk hd => ⟨rfl, .int .i64 0, ?_, rfl⟩,
        StepR.skipL rfl rfl hnb rfl fun L a W hI hk hd => ⟨rfl, ?_⟩,
        StepR.pure rfl rfl hnb (fun W => Below.refl _ W) (hkp (by decide)) fun L a W hI hk hd => ⟨rfl, .int .i64 0, ?_, rfl⟩, trivial⟩
      · have hL : L 5 = false := hI.before (o := _) rfl (k := 0) rfl hk
        obtain ⟨a1, a2, a3⟩ := hI.glob.1 hL
        have e6 : a.tmps[6]?.getD undef = .pointer (some ⟨gx, 0, none⟩) := hI.at 6 (by kernel_rfl)
        have c0 : W.cell? ⟨gx, 0, none⟩ = some (.slice A zvs.length n) := by simp [World.cell?, a2]
        have c1 : W.cell? ⟨gx, 1, none⟩ = some (.slice B zls.length m) := by simp [World.cell?, a2]
        clear a1 a2 a3
        go_simp
      · have e8 : a.tmps[8]?.getD undef = .slice D dl.length cap := hI.at 8 (by kernel_rfl)
        go_simp
      · obtain ⟨_, e, rfl⟩ := hI.get 1 39 (hd 1 rfl) rfl
        go_simp
      · have hL : L 5 = false := hI.before (o := _) rfl (k := 2) rfl hk
        obtain ⟨a1, a2, a3⟩ := hI.glob.1 hL
        have hw : w.heap.size ≤ W.heap.size := a1.kk.bel.size
        refine (joGrouped D cap dl W a3 (by omega) HN8.out).mono ?_
        rintro e W' ⟨⟨v, ys, rfl, h1, h2⟩, hb⟩
        obtain ⟨I, ni, rfl, _⟩ := SlAt.of_own encIt_len h1.1
        exact ⟨_, rfl, hb, I, ni, ys, rfl, h1.le hw, h2.trans HJ.out⟩
      · obtain ⟨_, e38, rfl⟩ := hI.get 0 38 (hd 0 rfl) rfl
        obtain ⟨_, e40, I, ni, ys, rfl, h1, h2⟩ := hI.get 2 40 (hd 2 rfl) rfl
        refine ⟨.agg #[.slice A zvs.length n, .slice B zls.length m, .slice I ys.length ni], ?_, I, ni, ys, rfl, h1, h2⟩
        clear h1 h2
        go_simp
      · have e7 : a.tmps[7]?.getD undef = .int .i64 0 := hI.at 7 (by kernel_rfl)
        go_simp
      · obtain ⟨_, e41, I, ni, ys, rfl, h1, h2⟩ := hI.get 3 41 (hd 3 rfl) rfl
        have e4 : a.tmps[4]?.getD undef = .pointer (some ⟨w.heap.size + 2, 0, none⟩) := hI.at 4 (by kernel_rfl)
        obtain ⟨a1, a2, a3, a4, _⟩ := hI.glob
        obtain ⟨k1, _, _⟩ := a1 hk
        have hbk := k1.res
        have hbk' : W.heap[w.heap.size + 2]? = some (.cells #[.slice none 0 0, .slice none 0 0, .slice none 0 0] 28 (0, 0)) := hbk
        obtain ⟨r0, r1, r2, f0, f1, f2⟩ := results_zero hbk
        refine ⟨_, ?_, ⟨fun j v hj hp => ?_, fun _ _ _ _ => trivial⟩, fun h5 => (by cases h5), below_fill a2 (Nat.le_add_right _ 2) (.slice A zvs.length n) (.slice B zls.length m) (.slice I ys.length ni), row_set3 a3 hbk' (by decide), row_set3 a4 hbk' (by decide), fun _ => ⟨I, ni, ys, BlkC.fill hbk _ _ _, h1.set3 hbk', h2⟩⟩
        · clear h1 h2 a1 a2 a3 a4 k1 hbk hbk'
          go_simp
        · match j, hp with
          | 0, e => exact e
          | 1, e => exact e
          | 2, ⟨I, ni, ys, e, h1, h2⟩ => exact ⟨I, ni, ys, e, h1.set3 hbk', h2⟩
          | 3, ⟨I, ni, ys, e, h1, h2⟩ => exact ⟨I, ni, ys, e, h1.set3 hbk', h2⟩
          | 4, e => exact e
          | 5, e => exact e
          | 6, e => exact e
          | j + 7, _ => exact trivial
      · obtain ⟨_, e42, rfl⟩ := hI.get 4 42 (hd 4 rfl) rfl
        go_simp
    · intro a W L hL hI
      obtain ⟨_, a2, a3, a4, a5⟩ := hI.glob
      obtain ⟨I, ni, ys, hbk, ho, hits⟩ := a5 (hL 5 (by decide))
      obtain ⟨v5, e5, rfl⟩ := hI.get 6 5 (hL 6 (by decide)) rfl
      have e5' : a.eval (.tmp 5) = .int .i64 0 := by rw [eval_tmp]; exact e5
      rw [hI.frame]
      simp only [List.filterMap, List.foldl]
      rw [e5']
      generalize a.eval (.tmp 38) = v38
      generalize a.eval (.tmp 39) = v39
      generalize a.eval (.tmp 40) = v40
      generalize a.eval (.tmp 41) = v41
      generalize a.eval (.tmp 42) = v42
      clear hI hL e5 e5' a5
      simp only [List.setIfInBounds_toArray, List.set_cons_succ, List.set_cons_zero]
      have s0 : W.cell? ⟨w.heap.size + 2, 0, none⟩ = some (.slice A zvs.length n) := by simp [World.cell?, hbk]
      have s1 : W.cell? ⟨w.heap.size + 2, 1, none⟩ = some (.slice B zls.length m) := by simp [World.cell?, hbk]
      have s2 : W.cell? ⟨w.heap.size + 2, 2, none⟩ = some (.slice I ys.length ni) := by simp [World.cell?, hbk]
      have HR := Lib.hid (show MadeJ jk w (.returned (.tuple #[.agg #[.slice A zvs.length n, .slice B zls.length m, .slice I ys.length ni], .int .i64 0])) W from
        ⟨⟨⟨A, n, zvs, B, m, zls, I, ni, ys⟩, rfl, by rw [HJK.out, ← hits]; rfl, a3, a4, ho⟩, a2⟩)
      clear a2 a3 a4 ho hits hbk
      go_wp2_with fail
      refine bodyPost_ret (v := .tuple #[.agg #[.slice A zvs.length n, .slice B zls.length m, .slice I ys.length ni], .int .i64 0]) (by simp [results, Tryz.results34, go_sem, s0, s1, s2]) rfl HR.out

end

section
open Go.RowKit

/-- Whether two carts can be joined, and what Join returns. -/
def okJ (x y : Ca) : Bool := validK x && validK y
def joinV (x y : Ca) : Ca := if okJ x y then joinK x y else zeroK
def joinE (x y : Ca) : Int := if okJ x y then 0 else 2
theorem okJ_iff {x y : Ca} : okJ x y = true ↔ validK x = true ∧ validK y = true := by unfold okJ; simp
theorem joinV_t {x y : Ca} (h : okJ x y = true) : joinV x y = joinK x y := if_pos h
theorem joinV_f {x y : Ca} (h : okJ x y = false) : joinV x y = zeroK := if_neg (by simp [h])
theorem joinE_t {x y : Ca} (h : okJ x y = true) : joinE x y = 0 := if_pos h
theorem joinE_f {x y : Ca} (h : okJ x y = false) : joinE x y = 2 := if_neg (by simp [h])
theorem CaV.num {c : CaV} {n : Nat} (h : SizeK n c.ca) : c.xs.length ≤ 20 * n := by
  have := h.num
  rwa [ca_x, its_len] at this
/-- A cart that a call has made, with an error. -/
def MadeE (x : Ca) (k : Int) (w : World) (e : Ending) (w' : World) : Prop := (∃ z : CaV, e = .returned (.tuple #[mkC z, .int .i64 k]) ∧ z.ca = x ∧ OwnC w' w.heap.size z) ∧ Below w.heap.size w w'
theorem joJoin (c d : CaV) (n m : Nat) (w : World) (hc : CaOK w c) (hd : CaOK w d) (hn : SizeK n c.ca) (hm : SizeK m d.ca) (h1 : n ≤ 9) (h2 : m ≤ 9) :
    Calls Tryz.prog 34 #[mkC c, mkC d] w (MadeE (joinV c.ca d.ca) (joinE c.ca d.ca) w) := by
  cases h : okJ c.ca d.ca with
  | true =>
    rw [joinV_t h, joinE_t h]
    exact joJoin_t c d w hc hd (FitsP.of hn hm h1 h2) (okJ_iff.1 h).1 (okJ_iff.1 h).2
  | false =>
    rw [joinV_f h, joinE_f h]
    refine (joJoin_f c d w hc hd (FitsP.of hn hm h1 h2) h).mono ?_
    rintro e w' ⟨rfl, hb⟩
    exact ⟨⟨zC, rfl, rfl, OwnC.nil _ _⟩, hb⟩

end

section
open Go.RowKit Go.Maps

end

section
open Go.RowKit

/-- Carts in a row. -/
abbrev encCa (c : CaV) : List Value := [c.v, c.l, c.i]
structure CartsAt (W : World) (A : Option Addr) (cs : List CaV) : Prop where
  row : SlAt encCa 3 W A cs
  ok : ∀ c ∈ cs, CaOK W c
theorem CartsAt.below {W W' : World} {A : Option Addr} {cs : List CaV} (h : CartsAt W A cs) (hb : Below W.heap.size W W') : CartsAt W' A cs := ⟨h.row.below hb, fun c hc => (h.ok c hc).below hb⟩
theorem CartsAt.at {W : World} {A : Option Addr} {cs : List CaV} (h : CartsAt W A cs) {j : Nat} (hj : j < cs.length) :
    ∃ b off, ∃ c : CaV, A = some ⟨b, off, none⟩ ∧ b < W.heap.size ∧ cs[j]? = some c ∧ W.cell? ⟨b, off + j * 3, none⟩ = some c.v ∧ W.cell? ⟨b, off + j * 3 + 1, none⟩ = some c.l ∧ W.cell? ⟨b, off + j * 3 + 2, none⟩ = some c.i ∧ CaOK W c := by
  obtain ⟨b, off, rfl, hb, hc⟩ := h.row (by omega)
  have hx := List.getElem?_eq_getElem hj
  exact ⟨b, off, cs[j], rfl, hb, hx, by simpa using hc j _ hx 0 _ rfl, hc j _ hx 1 _ rfl, hc j _ hx 2 _ rfl, h.ok _ (List.getElem_mem hj)⟩
theorem CartsAt.take {W : World} {A : Option Addr} {cs : List CaV} (h : CartsAt W A cs) (m : Nat) : CartsAt W A (cs.take m) := ⟨h.row.take m, fun c hc => h.ok c (List.mem_of_mem_take hc)⟩

theorem OwnC.fill {W : World} {B g : Nat} {z c : CaV} {u a b : Value} (h : OwnC W B z) (hg : BlkC W g c) : OwnC (((W.setCell ⟨g, 0, none⟩ u).setCell ⟨g, 1, none⟩ a).setCell ⟨g, 2, none⟩ b) B z :=
  ⟨row_set3 h.v hg (by decide), row_set3 h.l hg (by decide), h.i.set3 hg⟩
theorem fill_cells {W : World} {g : Nat} {c : CaV} (h : BlkC W g c) (u a b : Value) : (((W.setCell ⟨g, 0, none⟩ u).setCell ⟨g, 1, none⟩ a).setCell ⟨g, 2, none⟩ b).cell? ⟨g, 0, none⟩ = some u ∧ (((W.setCell ⟨g, 0, none⟩ u).setCell ⟨g, 1, none⟩ a).setCell ⟨g, 2, none⟩ b).cell? ⟨g, 1, none⟩ = some a ∧ (((W.setCell ⟨g, 0, none⟩ u).setCell ⟨g, 1, none⟩ a).setCell ⟨g, 2, none⟩ b).cell? ⟨g, 2, none⟩ = some b := by
  have h1 := BlkC.fill h u a b
  exact ⟨by simp only [World.cell?, h1]; rfl, by simp only [World.cell?, h1]; rfl, by simp only [World.cell?, h1]; rfl⟩
/-- The box of the result, filled. -/
theorem MadeE.fill {w W : World} {z : CaV} {x : Ca} {k : Int} (hz : z.ca = x) (h : OwnC W w.heap.size z) (hr : BlkC W w.heap.size zC) (hb : Below w.heap.size w W) :
    MadeE x k w (.returned (.tuple #[mkC z, .int .i64 k])) (((W.setCell ⟨w.heap.size, 0, none⟩ z.v).setCell ⟨w.heap.size, 1, none⟩ z.l).setCell ⟨w.heap.size, 2, none⟩ z.i) :=
  ⟨⟨z, rfl, hz, h.fill hr⟩, below_fill hb (Nat.le_refl _) _ _ _⟩
theorem MadeE.alloc {x : Ca} {k : Int} {w W : World} {e : Ending} (h : MadeE x k w e W) (o : Obj) : MadeE x k w e (W.alloc o) := by
  obtain ⟨⟨z, he, hz, ho⟩, hb⟩ := h
  have hba := (Below.refl W.heap.size W).alloc (Nat.le_refl _) o
  exact ⟨⟨z, he, hz, ho.below hba⟩, below_trans hb hba⟩
theorem BlkC.frozens {W : World} {g : Nat} {c : CaV} (h : BlkC W g c) : W.frozen? ⟨g, 0, none⟩ = false ∧ W.frozen? ⟨g, 1, none⟩ = false ∧ W.frozen? ⟨g, 2, none⟩ = false := ⟨h.frozen _, h.frozen _, h.frozen _⟩

end

section
open Go.RowKit

/-- A value that is no slice. -/
def NoSl (u : Value) : Prop := ∀ A n c, u ≠ .slice A n c
/-- Rows are read as before where a box of slices is written. -/
theorem slices3 (V L I : Option Addr) (nv nl ni a b e : Nat) : ∀ u ∈ [Value.slice V a nv, Value.slice L b nl, Value.slice I e ni], ∃ A n c, u = .slice A n c := by
  intro u hu
  simp at hu
  rcases hu with rfl | rfl | rfl <;> exact ⟨_, _, _, rfl⟩
/-- Rows are read as before where only a box of slices changes. -/
theorem SlAt.off_only {α : Type} {enc : α → List Value} {k g : Nat} {W W' : World} {A : Option Addr} {xs : List α} {t : TypeId} {z : Nat × Nat} {cur : List Value} (h : SlAt enc k W A xs) (h0 : ∀ x, ∃ u, (enc x)[0]? = some u ∧ NoSl u)
    (hg : W.heap[g]? = some (.cells cur.toArray t z)) (hc : ∀ u ∈ cur, ∃ A n c, u = .slice A n c) (hs : W.heap.size ≤ W'.heap.size) (hk : ∀ b, b ≠ g → W'.heap[b]? = W.heap[b]?) : SlAt enc k W' A xs := fun hn => by
  obtain ⟨b, off, rfl, hlt, hcc⟩ := h hn
  have hbg : b ≠ g := by
    rintro rfl
    obtain ⟨u, hu, hne⟩ := h0 xs[0]
    have := hcc 0 _ (List.getElem?_eq_getElem hn) 0 u hu
    simp only [World.cell?, hg] at this
    have hm : u ∈ cur := by
      have h1 : cur.toArray[off + 0 * k + 0]? = some u := this
      rw [List.getElem?_toArray] at h1
      exact List.mem_of_getElem? h1
    obtain ⟨A, n, c, e⟩ := hc u hm
    exact hne A n c e
  exact ⟨b, off, rfl, Nat.lt_of_lt_of_le hlt hs, fun j x hx i u hu => by
    have := hcc j x hx i u hu
    unfold World.cell? at this ⊢
    rw [hk b hbg]; exact this⟩
theorem CaOK.off_only {g : Nat} {W W' : World} {c d : CaV} (h : CaOK W c) (hg : BlkC W g d) (hs : W.heap.size ≤ W'.heap.size) (hk : ∀ b, b ≠ g → W'.heap[b]? = W.heap[b]?) : CaOK W' c := by
  have hc := slices3 d.V d.L d.I d.nv d.nl d.ni d.vs.length d.ls.length d.xs.length
  have hg' : W.heap[g]? = some (.cells ([d.v, d.l, d.i] : List Value).toArray 28 (0, 0)) := hg
  have hd : ∀ {v : Value} {l : List (Int × Int)}, Holds W v l → Holds W' v l := fun {v l} ⟨A, n, e, h1, h2⟩ => ⟨A, n, e, SlAt.off_only h1 (fun x => ⟨_, rfl, fun _ _ _ e => by cases e⟩) hg' hc hs hk, h2⟩
  obtain ⟨h1, h2, A, n, e, h3, h4⟩ := h
  exact ⟨hd h1, hd h2, A, n, e, ⟨SlAt.off_only h3.1 (fun x => ⟨_, rfl, fun _ _ _ e => by cases e⟩) hg' hc hs hk, fun x hx => ⟨SlAt.off_only (h3.2 x hx).1 (fun y => ⟨_, rfl, fun _ _ _ e => by cases e⟩) hg' hc hs hk, (h3.2 x hx).2⟩⟩, h4⟩

theorem CaOK.items {W : World} {c : CaV} (h : CaOK W c) : ItemsAt W c.I c.xs := by
  obtain ⟨A, c', e, h1, _⟩ := h.2.2
  injection e with e1 _ _
  rw [e1]; exact h1


/-- What one value says. -/
inductive Sp where
  | eq (u : Value)
  | cart (x : Ca)
  | nums (l : List Int)
  | marks (l : List Mk)
  | carts (l : List Ca)
  | cbox
  | mbox
  | any
def Sp.holds (n : Nat) : Sp → Value → World → Prop
  | .eq u, v, _ => v = u
  | .cart x, v, W => ∃ z : CaV, v = mkC z ∧ z.ca = x ∧ CaOK W z
  | .nums l, v, W => ∃ q, v = .slice (some ⟨q, 0, none⟩) l.length l.length ∧ NumsAt W (some ⟨q, 0, none⟩) l
  | .marks l, v, W => ∃ A c, v = .slice A l.length c ∧ MarksAt W A l ∧ l.length ≤ c ∧ c ≤ maxLen
  | .carts l, v, W => ∃ A cap, ∃ cs : List CaV, v = .slice A cs.length cap ∧ CartsAt W A cs ∧ cs.map (·.ca) = l ∧ cs.length ≤ cap ∧ cap ≤ maxLen
  | .cbox, v, W => ∃ b, ∃ d : CaV, v = ptr0 b ∧ n ≤ b ∧ BlkC W b d
  | .mbox, v, W => ∃ b, ∃ m : Mk, v = ptr0 b ∧ n ≤ b ∧ BlkM W b m
  | .any, _, _ => True
theorem Sp.below {n : Nat} {s : Sp} {v : Value} {W W' : World} (h : s.holds n v W) (hb : Below W.heap.size W W') : s.holds n v W' := by
  match s, h with
  | .eq _, h => exact h
  | .cart _, ⟨z, h1, h2, h3⟩ => exact ⟨z, h1, h2, h3.below hb⟩
  | .nums _, ⟨q, h1, h2⟩ => exact ⟨q, h1, h2.below hb⟩
  | .marks _, ⟨A, c, h1, h2, h3⟩ => exact ⟨A, c, h1, h2.below hb, h3⟩
  | .carts _, ⟨A, c, cs, h1, h2, h3⟩ => exact ⟨A, c, cs, h1, h2.below hb, h3⟩
  | .cbox, ⟨b, d, h1, h2, h3⟩ => exact ⟨b, d, h1, h2, h3.below hb⟩
  | .mbox, ⟨b, m, h1, h2, h3⟩ => exact ⟨b, m, h1, h2, h3.below hb⟩
  | .any, _ => exact trivial
/-- No carts in a row: then a store into a cart's box leaves it. -/
def Sp.calm : Sp → Bool
  | .carts _ => false
  | .mbox => false
  | _ => true
theorem Sp.only {n b : Nat} {s : Sp} {v : Value} {W W' : World} {d d' : CaV} (h : s.holds n v W) (hs : s.calm = true) (hg : BlkC W b d) (hg' : BlkC W' b d') (ho : OnlyB b W W') : s.holds n v W' := by
  have hc := slices3 d.V d.L d.I d.nv d.nl d.ni d.vs.length d.ls.length d.xs.length
  have hg2 : W.heap[b]? = some (.cells ([d.v, d.l, d.i] : List Value).toArray 28 (0, 0)) := hg
  match s, h with
  | .eq _, h => exact h
  | .cart _, ⟨z, h1, h2, h3⟩ => exact ⟨z, h1, h2, h3.off_only hg (Nat.le_of_eq ho.size.symm) ho.block⟩
  | .nums _, ⟨q, h1, h2⟩ => exact ⟨q, h1, SlAt.off_only h2 (fun x => ⟨_, rfl, fun _ _ _ e => by cases e⟩) hg2 hc (Nat.le_of_eq ho.size.symm) ho.block⟩
  | .marks _, ⟨A, c, h1, h2, h3⟩ => exact ⟨A, c, h1, SlAt.off_only h2 (fun x => ⟨_, rfl, fun _ _ _ e => by cases e⟩) hg2 hc (Nat.le_of_eq ho.size.symm) ho.block, h3⟩
  | .cbox, ⟨g, z, h1, h2, h3⟩ =>
    by_cases hgb : g = b
    · subst hgb; exact ⟨_, d', h1, h2, hg'⟩
    · exact ⟨g, z, h1, h2, (ho.block g hgb).trans h3⟩
  | .any, _ => exact trivial
/-- What a box that was filled says. -/
inductive Sq where
  | cart (x : Ca)
  | mark (m : Mk)
  | none
def Sq.holds : Sq → Value → World → Prop
  | .cart x, v, W => ∃ b, ∃ z : CaV, v = ptr0 b ∧ BlkC W b z ∧ z.ca = x ∧ CaOK W z
  | .mark m, v, W => ∃ b, v = ptr0 b ∧ BlkM W b m
  | .none, _, _ => True
theorem Sq.below {s : Sq} {v : Value} {W W' : World} (h : s.holds v W) (hb : Below W.heap.size W W') : s.holds v W' := by
  match s, h with
  | .cart _, ⟨b, z, h1, h2, h3, h4⟩ => exact ⟨b, z, h1, h2.below hb, h3, h4.below hb⟩
  | .mark _, ⟨b, h1, h2⟩ => exact ⟨b, h1, h2.below hb⟩
  | .none, _ => exact trivial
def Sq.calm : Sq → Bool
  | .mark _ => false
  | _ => true
theorem Sq.only {b : Nat} {s : Sq} {v : Value} {W W' : World} {d : CaV} (h : s.holds v W) (hs : s.calm = true) (hv : v ≠ ptr0 b) (hg : BlkC W b d) (ho : OnlyB b W W') : s.holds v W' := by
  match s, h with
  | .cart _, ⟨g, z, h1, h2, h3, h4⟩ => exact ⟨g, z, h1, (ho.block g (fun e => hv (by rw [h1, e]))).trans h2, h3, h4.off_only hg (Nat.le_of_eq ho.size.symm) ho.block⟩
  | .none, _ => exact trivial

section
variable {P : Program} {Q : Exit → Act → World → Prop} {a0 : Act} {w0 : World} {id : Nat} {l : List Oper} {sp : Nat → Sp} {sq : Nat → Sq} {bx : Nat → Option Nat}
end
section
variable {P : Program} {Q : Exit → Act → World → Prop} {a0 : Act} {w0 : World} {id : Nat} {l : List Oper} {sp : Nat → Sp} {sq : Nat → Sq} {bx : Nat → Option Nat}
end
theorem InvR.wants {ops : Array Oper} {a0 : Act} {S : RegS} {L : Nat → Bool} {a : Act} {w : World} (h : InvR ops a0 S L a w) {o : Oper} {j d : Nat} {b : Bool} (hg : o.guard = some (j, b)) (hL : L j = true) (hd : dstOf ops j = some d) (hv : ∀ v, S.Φ j v w → v = .bool b) : Region.wanted o (yielded ops a.tmps) = true := wanted_at hg hd (hv _ (h.val j d hL hd))
/-- A cart put into its box. -/
theorem store_cart {W : World} {b : Nat} {d z : CaV} (hB : BlkC W b d) (ho : CaOK W z) : OnlyB b W (((W.setCell ⟨b, 0, none⟩ z.v).setCell ⟨b, 1, none⟩ z.l).setCell ⟨b, 2, none⟩ z.i) ∧ BlkC (((W.setCell ⟨b, 0, none⟩ z.v).setCell ⟨b, 1, none⟩ z.l).setCell ⟨b, 2, none⟩ z.i) b z ∧ CaOK (((W.setCell ⟨b, 0, none⟩ z.v).setCell ⟨b, 1, none⟩ z.l).setCell ⟨b, 2, none⟩ z.i) z :=
  ⟨((OnlyB.setCell W b 0 _).trans (OnlyB.setCell _ b 1 _)).trans (OnlyB.setCell _ b 2 _), BlkC.fill hB _ _ _, ho.off_only hB (by simp) (fun k hk => set3_other W b k _ _ _ hk)⟩

/-- Carts and marks in boxes. -/
structure KB (w : World) (L : List (Nat × CaV)) (M : List (Nat × Mk)) (W : World) : Prop where
  kk : KK w L W
  mm : ∀ p ∈ M, BlkM W p.1 p.2
section
variable {w W W' : World} {L : List (Nat × CaV)} {M : List (Nat × Mk)}
theorem KB.next (h : KB w L M W) (hb : Below W.heap.size W W') : KB w L M W' := ⟨h.kk.next hb, fun p hp => (h.mm p hp).below hb⟩
theorem KB.ca (h : KB w L M W) {g : Nat} {c : CaV} (hm : (g, c) ∈ L) : W.cell? ⟨g, 0, none⟩ = some c.v ∧ W.cell? ⟨g, 1, none⟩ = some c.l ∧ W.cell? ⟨g, 2, none⟩ = some c.i ∧ g < W.heap.size := ⟨(h.kk.blk hm).cell0, (h.kk.blk hm).cell1, (h.kk.blk hm).cell2, (h.kk.blk hm).lt⟩
theorem KB.ok (h : KB w L M W) {g : Nat} {c : CaV} (hm : (g, c) ∈ L) : CaOK W c := h.kk.ok hm
end

end

section
open Go.RowKit

/-- A cart and a dot in boxes. -/
structure KFr (w : World) (c : CaV) (r s : Int) (W : World) : Prop where
  cart : BlkC W w.heap.size c
  ok : CaOK W c
  dot : W.heap[w.heap.size + 1]? = some (.cells #[.int .i64 r, .int .i64 s] 30 (0, 0))
  bel : Below w.heap.size w W
section
variable {w W W' : World} {c : CaV} {r s : Int}
theorem KFr.next (h : KFr w c r s W) (hb : Below W.heap.size W W') : KFr w c r s W' := ⟨h.cart.below hb, h.ok.below hb, (hb.block _ (Array.getElem?_eq_some_iff.1 h.dot).1).trans h.dot, below_trans h.bel hb⟩
theorem KFr.sp (h : KFr w c r s W) : W.cell? ⟨w.heap.size, 0, none⟩ = some c.v ∧ W.cell? ⟨w.heap.size, 1, none⟩ = some c.l ∧ W.cell? ⟨w.heap.size, 2, none⟩ = some c.i ∧ W.cell? ⟨w.heap.size + 1, 0, none⟩ = some (.int .i64 r) ∧ W.cell? ⟨w.heap.size + 1, 1, none⟩ = some (.int .i64 s) ∧ w.heap.size < W.heap.size ∧ w.heap.size + 1 < W.heap.size :=
  ⟨h.cart.cell0, h.cart.cell1, h.cart.cell2, by simp [World.cell?, h.dot], by simp [World.cell?, h.dot], h.cart.lt, (Array.getElem?_eq_some_iff.1 h.dot).1⟩
theorem KFr.new (w : World) (c : CaV) (r s : Int) (hc : CaOK w c) : KFr w c r s ((w.alloc (.cells #[c.v, c.l, c.i] 28)).alloc (.cells #[.int .i64 r, .int .i64 s] 30)) := by
  have h1 := (Below.refl w.heap.size w).alloc (Nat.le_refl _) (.cells #[c.v, c.l, c.i] 28)
  have h2 := (Below.refl _ (w.alloc (.cells #[c.v, c.l, c.i] 28))).alloc (Nat.le_refl _) (.cells #[.int .i64 r, .int .i64 s] 30)
  have d := heap_alloc_new (w.alloc (.cells #[c.v, c.l, c.i] 28)) (.cells #[.int .i64 r, .int .i64 s] 30)
  rw [World.size_alloc] at d
  exact ⟨(BlkC.new w c).below h2, (hc.below h1).below h2, d, below_trans h1 h2⟩
end

/-- A cart that a call has made, with an error. -/
def MadeD (x : Ca) (k : Int) (w : World) (e : Ending) (w' : World) : Prop := (∃ z : CaV, e = .returned (.tuple #[mkC z, .int .i64 k]) ∧ z.ca = x ∧ CaOK w' z) ∧ Below w.heap.size w w'
theorem dotsK_le {c : CaV} {nm : List UInt8} {n : Nat} (hf : Fits c.xs) (h2 : (dotsI (its c.xs)).length ≤ n) (hn : 100 ≤ n) : (dotsK (its c.xs) nm).length ≤ n := by
  by_cases hnm : nm = []
  · unfold dotsK
    rw [if_pos hnm]; omega
  · unfold dotsK
    rw [if_neg hnm]
    split
    · rename_i x hx
      have h3 : x ∈ its c.xs := List.mem_of_find?_eq_some hx
      obtain ⟨y, hy, rfl⟩ := List.mem_map.1 h3
      have := (hf.2 y hy).2
      show (dotsM y.ms).length ≤ n
      rw [dotsM_len]; omega
    · simp
theorem dotsK_size {c : CaV} {nm : List UInt8} (hf : FitsK c) : (dotsK (its c.xs) nm).length ≤ 3000 := dotsK_le hf.1 (by have := hf.2; omega) (by omega)
end

end Go.Proofs.YtiaehpdgpjhecaaGreat
