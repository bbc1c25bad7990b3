/- Several texts in one: JoiFt. -/
import Derived.Test.YtfjbocipjmpogaaGreatMBM
import Derived.Test.YtfjbocipjmpogaaGreatMBJ
import Derived.Test.YtfjbocipjmpogaaGreatMAV
import Derived.Test.YtfjbocipjmpogaaGreatMAF
namespace Go.Proofs.YtfjbocipjmpogaaGreat

section
open Go.RowKit

def ft6P (c _ : CaV) (nm : List UInt8) (db doff dl dc k : Nat) (r s : Int) (x _ : Mk) (_ : Bool) : Nat → Sp
  | 0 => .eq (mkC c)
  | 1 => .eq (.string ⟨nm.toArray⟩)
  | 2 => .eq (.slice (some ⟨db, doff, none⟩) dl dc)
  | 3 => .eq (.int .i64 k)
  | 4 => .eq (.pointer (some ⟨db, doff + k * 2, none⟩))
  | 5 => .eq (.agg #[.int .i64 r, .int .i64 s])
  | 6 => .eq (.tuple #[mkV x, .bool true])
  | 7 => .eq (.tuple #[mkV x, .bool true])
  | 8 => .eq (mkV x)
  | 9 => .eq (.bool true)
  | 10 => .mbox
  | 12 => .eq (.bool true)
  | _ => .any
def ft7P (_ d : CaV) (nm : List UInt8) (db doff dl dc k : Nat) (r s : Int) (_ y : Mk) (q : Bool) : Nat → Sp
  | 0 => .eq (mkC d)
  | 1 => .eq (.string ⟨nm.toArray⟩)
  | 2 => .eq (.slice (some ⟨db, doff, none⟩) dl dc)
  | 3 => .eq (.int .i64 k)
  | 4 => .eq (.pointer (some ⟨db, doff + k * 2, none⟩))
  | 5 => .eq (.agg #[.int .i64 r, .int .i64 s])
  | 6 => .eq (.tuple #[mkV y, .bool q])
  | 7 => .eq (.tuple #[mkV y, .bool q])
  | 8 => .eq (mkV y)
  | 9 => .eq (.bool q)
  | 10 => .mbox
  | 12 => .eq (.bool q)
  | _ => .any
def ftB : Nat → Option Nat
  | 11 => some 10
  | _ => none
def ftQ (m : Mk) : Nat → Sq
  | 11 => .mark m
  | _ => .none
theorem ftB_cases {j k : Nat} (h : ftB j = some k) : (∀ m : Mk, ∃ z, ftQ m j = .mark z) ∧ True ∧ j = 11 ∧ k = 10 := by
  unfold ftB at h
  split at h
  · cases h; exact ⟨fun m => ⟨_, rfl⟩, trivial, rfl, rfl⟩
  · cases h
theorem ftQ_pl (m : Mk) : ∀ j, (ftQ m j).plain = true := by
  intro j; unfold ftQ; split <;> rfl
theorem ft6P_pl {c d : CaV} {nm : List UInt8} {db doff dl dc k : Nat} {r s : Int} {x y : Mk} {q : Bool} : ∀ j, (ft6P c d nm db doff dl dc k r s x y q j).plain = true := by
  intro j; unfold ft6P; split <;> rfl
theorem ft7P_pl {c d : CaV} {nm : List UInt8} {db doff dl dc k : Nat} {r s : Int} {x y : Mk} {q : Bool} : ∀ j, (ft7P c d nm db doff dl dc k r s x y q j).plain = true := by
  intro j; unfold ft7P; split <;> rfl

/-- The owner of a dot that is there, and its mark. -/
theorem fit_owner {a : Ca} (ha : validK a = true) {d : Int × Int} (h : d ∈ dotsI a.2) : ∃ nm x, ownerL a.2 d.1 d.2 = some nm ∧ markL a.2 nm d = some x ∧ nm ∈ a.2.map (·.1) := by
  have ga := (validK_iff.1 ha).2.1
  obtain ⟨i, hi, x, hxi, hxd⟩ := mem_dotsI.1 h
  have k1 := ga.mark hi hxi
  rw [hxd] at k1
  exact ⟨i.1, x, by rw [← hxd]; exact ga.owner hi hxi, k1, List.mem_map.2 ⟨i, hi, rfl⟩⟩
theorem fitD_of {a b : Ca} {d : Int × Int} {nm : List UInt8} {x : Mk} {o : Option Mk} (h : ownerL a.2 d.1 d.2 = some nm) (hx : markL a.2 nm d = some x) (ho : markL b.2 nm d = o) : fitD a b d = decide (o = some x) := by
  unfold fitD
  rw [h]
  dsimp only
  rw [hx, ho]
  cases o with
  | none => simp
  | some y =>
    by_cases e : x = y
    · subst e; simp
    · have e2 : ¬ y = x := fun k => e k.symm
      simp [e, e2]
theorem fits_take {a b : Ca} {ds : List (Int × Int)} {k : Nat} {d : Int × Int} (h : (ds.take k).all (fitD a b) = true) (hd : ds[k]? = some d) (hf : fitD a b d = true) : (ds.take (k + 1)).all (fitD a b) = true := by
  rw [take_snoc hd, List.all_append, h]
  simp [hf]
theorem refOwner_s (c : CaV) (r s : Int) (nm : List UInt8) (w : World) (hc : CaOK w c) (hm : c.xs.length ≤ 100000) (ho : ownerL (its c.xs) r s = some nm) :
    Calls Tryz.prog 50 #[c.i, .agg #[.int .i64 r, .int .i64 s]] w (OneB (.tuple #[.string ⟨nm.toArray⟩, .bool true]) w) :=
  refOwner9 c.I c.xs c.ni r s _ w hc.items hm (by rw [ho]; rfl)
theorem boxM_of {W : World} {b : Nat} {m : Mk} (h : BlkM W b m) : W.cell? ⟨b, 0, none⟩ = some (.int .i64 m.r) ∧ W.cell? ⟨b, 1, none⟩ = some (.int .i64 m.c) ∧ W.cell? ⟨b, 2, none⟩ = some (.int .i64 m.q) ∧ W.cell? ⟨b, 3, none⟩ = some (.int .u64 (m.t : Int)) := ⟨h.cell0, h.cell1, h.cell2, h.cell3⟩

set_option maxRecDepth 100000 in
set_option maxHeartbeats 8000000 in
theorem refFits11 (c d : CaV) (n m : Nat) (b : Bool) (w : World) (hc : CaOK w c) (hd : CaOK w d) (hn : SizeK n c.ca) (hm : SizeK m d.ca) (h7 : n + m ≤ 2) (hvc : validK c.ca = true) (hb : fitsB c.ca d.ca = b) :
    Calls Tryz.prog 22 #[mkC c, mkC d] w (OneB (.bool b) w) := by
  have HF := Lib.hid (FitsP.of hn hm (by omega) (by omega))
  have hl1 : (dotsI (its c.xs)).length ≤ 400 := by
    have h1 := dotsI_cnt (its c.xs)
    have h2 := hn.cnt
    rw [ca_x] at h2
    omega
  have hl2 : (dotsI (its d.xs)).length ≤ 400 := by
    have h1 := dotsI_cnt (its d.xs)
    have h2 := hm.cnt
    rw [ca_x] at h2
    omega
  have HD1 := Lib.hid fun W (h : CaOK W c) => refDots_h c.i c.xs W h.2.2 HF.out.kc.1
  have HD2 := Lib.hid fun W (h : CaOK W d) => refDots_h d.i d.xs W h.2.2 HF.out.kd.1
  obtain ⟨ds, hds⟩ : ∃ ds, bothL (dotsI (its c.xs)) (dotsI (its d.xs)) = ds := ⟨_, rfl⟩
  have HB1 := Lib.hid fun W v v' (h : Holds W v (dotsI (its c.xs))) (h' : Holds W v' (dotsI (its d.xs))) => (show Calls Tryz.prog 49 #[v, v'] W fun e w' => (∃ v', e = .returned v' ∧ Holds w' v' ds) ∧ Below W.heap.size W w' from hds ▸ refBoth_h v v' _ _ W h h' (by omega))
  have HOW := Lib.hid (show ∀ d', d' ∈ ds → ∃ nm x, ownerL (its c.xs) d'.1 d'.2 = some nm ∧ markL (its c.xs) nm d' = some x ∧ nm ∈ (its c.xs).map (·.1) from fun d' h => fit_owner (a := c.ca) hvc (mem_bothL.1 (hds ▸ h)).1)
  have HBB := Lib.hid (show ds.all (fitD c.ca d.ca) = b from by rw [← hb, ← hds]; rfl)
  have hb1 := (Below.refl w.heap.size w).alloc (Nat.le_refl _) (.cells #[c.v, c.l, c.i] 28)
  have K0 := Lib.hid (KK.push (L := [(w.heap.size, c)]) (KK.new w c hc) d (hd.below hb1) (w.heap.size + 1) (by simp))
  have hcl : c.xs.length ≤ 100000 := by have := HF.out.kc.1.1; omega
  have hdl : d.xs.length ≤ 100000 := by have := HF.out.kd.1.1; omega
  clear hc hd hn hm h7 hvc hb hds hb1
  generalize dotsI (its c.xs) = dl1 at *
  generalize dotsI (its d.xs) = dl2 at *
  go_enter Tryz.func22, Tryz.ntmps22
  go_upto_region 1 with fail
  generalize World.alloc (World.alloc w _) _ = w2 at K0 ⊢
  have K0 := Lib.hid (show KK w [(w.heap.size, c), (w.heap.size + 1, d)] w2 from K0.out)
  have hS := K0.out
  have hS' := hS.sp2
  go_cut [5] (fun v wx => ∃ u, v = u ∧ Hid (Holds wx u ds) ∧ Hid (KK w [(w.heap.size, c), (w.heap.size + 1, d)] wx))
  case first =>
    go_region_held3 (fun W => W.cell? ⟨w.heap.size, 0, none⟩ = some c.v ∧ W.cell? ⟨w.heap.size, 1, none⟩ = some c.l ∧ W.cell? ⟨w.heap.size, 2, none⟩ = some c.i ∧ W.cell? ⟨w.heap.size + 1, 0, none⟩ = some d.v ∧ W.cell? ⟨w.heap.size + 1, 1, none⟩ = some d.l ∧ W.cell? ⟨w.heap.size + 1, 2, none⟩ = some d.i ∧ w.heap.size < W.heap.size ∧ w.heap.size + 1 < W.heap.size ∧ KK w [(w.heap.size, c), (w.heap.size + 1, d)] W)
      (first
        | assumption
        | (exact KK.sp2 (by assumption))
        | (exact KK.sp2 (KK.drew (by assumption))))
      (first
        | (go_at_call 30; with_reducible refine (HD1.out _ (KK.ok (g := w.heap.size) (c := c) (show KK w [(w.heap.size, c), (w.heap.size + 1, d)] _ from by first | assumption | exact KK.drew (by assumption)) (by simp))).mono ?_
           rintro e wa ⟨⟨v1, rfl, hr1⟩, hb1⟩
           have hS1 := KK.next (show KK w [(w.heap.size, c), (w.heap.size + 1, d)] _ from by first | assumption | exact KK.drew (by assumption)) hb1
           have hS1' := hS1.sp2)
        | (go_at_call 30; with_reducible refine (HD2.out _ (KK.ok (g := w.heap.size + 1) (c := d) (show KK w [(w.heap.size, c), (w.heap.size + 1, d)] _ from by assumption) (by simp))).mono ?_
           rintro e wb ⟨⟨v2, rfl, hr2⟩, hb2⟩
           have hS2 := KK.next (show KK w [(w.heap.size, c), (w.heap.size + 1, d)] _ from by assumption) hb2
           have hS2' := hS2.sp2
           have hr1b := hr1.below hb2)
        | (go_at_call 49; refine (HB1.out _ _ _ hr1b hr2).mono ?_
           rintro e wd ⟨⟨vd, rfl, hr3⟩, hb3⟩
           obtain ⟨D, dd, rfl, hr4⟩ := id hr3
           have hS3 := KK.next hS2 hb3
           have hS3' := hS3.sp2))
    all_goals
      clear hS hS' hS1 hS1' hS2 hS2' hr1 hr1b hr2 hb1 hb2 hb3 hS3' hr4
      go_wp2_with fail
      go_meet
      exact ⟨_, rfl, hr3, hS3⟩
  case rest =>
    obtain ⟨u5, rfl, hdd, hK⟩ := hcut
    clear hS hS' K0 HD1 HD2 HB1 hl1 hl2
    obtain ⟨DA, dc, rfl, hda, hdc, hdcm⟩ := hdd.out
    have HDA := Lib.hid hda
    unfold maxLen at hdcm
    clear hdd hda
    go_wp2_with fail
    go_loopw [6] (fun i wr => ∃ k : Nat, k ≤ ds.length ∧ i = .int .i64 k ∧ Hid (KK w [(w.heap.size, c), (w.heap.size + 1, d)] wr) ∧ Hid (DotsAt wr DA ds) ∧ Hid ((ds.take k).all (fitD c.ca d.ca) = true)) (fun i _ => ds.length - (intOf i).toNat)
    case atStart => exact ⟨0, by omega, rfl, hK, HDA, Lib.hid (show (ds.take 0).all (fitD c.ca d.ca) = true from rfl)⟩
    case round =>
      clear HDA hK
      obtain ⟨k, hk, rfl, hK, hD, hs⟩ := hrel
      by_cases hlt : k < ds.length
      · have i0 : (k : Int) < (ds.length : Int) := by omega
        obtain ⟨db, doff, r, s, hDA, hdb, hdk, hr0, hr1⟩ := SlAt.dot (show DotsAt wr DA ds from hD.out) (j := k) hlt
        obtain rfl : DA = some ⟨db, doff, none⟩ := hDA
        obtain ⟨nm, x, how, hmx, _⟩ := HOW.out (r, s) (List.mem_of_getElem? hdk)
        obtain ⟨o, ho⟩ : ∃ o, markL (its d.xs) nm (r, s) = o := ⟨_, rfl⟩
        have HFD := Lib.hid (fitD_of (a := c.ca) (b := d.ca) (d := (r, s)) how hmx ho)
        obtain ⟨y, q, hoq, hqz⟩ := opt_form o
        have HM1 := Lib.hid fun W (h : CaOK W c) => refMark_s c nm r s x true W h hcl hmx (fun h => by cases h)
        have HM2 := Lib.hid fun W (h : CaOK W d) => refMark_s d nm r s y q W h hdl (ho.trans hoq) hqz
        have HO := Lib.hid fun p => refOwner_s c r s nm (far wr p) ((hK.out.far p).ok (g := w.heap.size) (by simp)) hcl how
        have HOQ := Lib.hid hoq
        have HDK := Lib.hid hdk
        obtain ⟨x0, x1, x2, _, _, _, xl, _, _⟩ := hK.out.sp2
        have l0 := fun p => cell_far (p := p) xl x0
        have l1 := fun p => cell_far (p := p) xl x1
        have l2 := fun p => cell_far (p := p) xl x2
        have m0 := fun p => cell_far (p := p) hdb hr0
        have m1 := fun p => cell_far (p := p) hdb hr1
        clear how hmx ho hoq hqz hdk x0 x1 x2
        go_wp2_with fail
        refine wp_region_far (by kernel_rfl) (by kernel_rfl) ?_
        repeat (go_big_quiet_step ((go_at_call 50; exact OneB.far (HO.out _))))
        refine wpQuiet_nil ?_
        rintro _ ⟨p, rfl⟩
        have KF := Lib.hid (hK.out.far p)
        have DF := Lib.hid (show DotsAt (far wr p) (some ⟨db, doff, none⟩) ds from hD.out.below (below_far wr p))
        have HR0 := Lib.hid (m0 p)
        have HR1 := Lib.hid (m1 p)
        have hdbf : db < (far wr p).heap.size := Nat.lt_of_lt_of_le hdb (below_far wr p).size
        clear hK hD l0 l1 l2 m0 m1 xl hdb HO hr0 hr1
        generalize far wr p = wf at *
        have hdb := hdbf
        clear hdbf
        go_upto_region 6 with fail
        have KK0 : ∀ W, Below wf.heap.size wf W → KB w [(w.heap.size, c), (w.heap.size + 1, d)] [] W := fun W hb => ⟨KF.out.next hb, fun p hp => by cases hp⟩
        have hkp : ∀ (z : Nat) (L : Nat → Bool) (W W' : World), Below wf.heap.size wf W → BelW W W' → KeepsR (sqS wf ftB (ft6P c d nm db doff ds.length dc k r s x y q) (ftQ x)) L W W' ∧ Below wf.heap.size wf W' := fun _ _ _ _ h hb => sq_keep h hb
        refine wp_region_sm (bx := ftB) (sp := ft6P c d nm db doff ds.length dc k r s x y q) (sq := ftQ x) (by kernel_rfl) (by kernel_rfl) (by kernel_rfl) (dst_small (n := 63) (by kernel_rfl)) (fun j k h => by obtain ⟨_, _, rfl, _⟩ := ftB_cases h; rfl) (fun j j' k h1 h2 => by have e1 := (ftB_cases h1).2.2; have e2 := (ftB_cases h2).2.2; omega) (fun j k h => ⟨by obtain ⟨_, _, _, rfl⟩ := ftB_cases h; rfl, (ftB_cases h).1 x⟩) ft6P_pl (ftQ_pl x) ?_ ?_
        ·
          clear HFD HOQ HDK DF HOW HBB hs HM2
          refine ⟨?_, ?_, ?_, ?_, ?_, ?_, ?_, ?_, ?_, ?_, ?_, ?_, ?_, trivial⟩
          · refine StepR.pure rfl rfl (fun j h => by have := (ftB_cases h).2.2; omega) (fun W => Below.refl _ W) (hkp 0) fun L a W hI hk hd => ?_
            have e2 : a.tmps[2]?.getD undef = .pointer (some ⟨w.heap.size, 0, none⟩) := hI.at 2 (by kernel_rfl)
            obtain ⟨c0, c1, c2, _⟩ := (KK0 W hI.glob).ca (g := w.heap.size) (c := c) (by simp)
            exact ⟨rfl, mkC c, by go_simp, rfl⟩
          · refine StepR.pure rfl rfl (fun j h => by have := (ftB_cases h).2.2; omega) (fun W => Below.refl _ W) (hkp 1) fun L a W hI hk hd => ?_
            have e7 : a.tmps[7]?.getD undef = .string ⟨nm.toArray⟩ := hI.at 7 (by kernel_rfl)
            exact ⟨rfl, .string ⟨nm.toArray⟩, by go_simp, rfl⟩
          · refine StepR.pure rfl rfl (fun j h => by have := (ftB_cases h).2.2; omega) (fun W => Below.refl _ W) (hkp 2) fun L a W hI hk hd => ?_
            have e5 : a.tmps[5]?.getD undef = .slice (some ⟨db, doff, none⟩) ds.length dc := hI.at 5 (by kernel_rfl)
            exact ⟨rfl, .slice (some ⟨db, doff, none⟩) ds.length dc, by go_simp, rfl⟩
          · refine StepR.pure rfl rfl (fun j h => by have := (ftB_cases h).2.2; omega) (fun W => Below.refl _ W) (hkp 3) fun L a W hI hk hd => ?_
            have e6 : a.tmps[6]?.getD undef = .int .i64 k := hI.at 6 (by kernel_rfl)
            exact ⟨rfl, .int .i64 k, by go_simp, rfl⟩
          · refine StepR.pure rfl rfl (fun j h => by have := (ftB_cases h).2.2; omega) (fun W => Below.refl _ W) (hkp 4) fun L a W hI hk hd => ?_
            obtain ⟨_, e39, rfl⟩ := hI.get 2 39 (hd 2 rfl) rfl
            obtain ⟨_, e40, rfl⟩ := hI.get 3 40 (hd 3 rfl) rfl
            exact ⟨rfl, .pointer (some ⟨db, doff + k * 2, none⟩), by go_simp, rfl⟩
          · refine StepR.pure rfl rfl (fun j h => by have := (ftB_cases h).2.2; omega) (fun W => Below.refl _ W) (hkp 5) fun L a W hI hk hd => ?_
            obtain ⟨_, e41, rfl⟩ := hI.get 4 41 (hd 4 rfl) rfl
            have c0 : W.cell? ⟨db, doff + k * 2, none⟩ = some (.int .i64 r) := (hI.glob.cell (p := ⟨db, doff + k * 2, none⟩) hdb).trans HR0.out
            have c1 : W.cell? ⟨db, doff + k * 2 + 1, none⟩ = some (.int .i64 s) := (hI.glob.cell (p := ⟨db, doff + k * 2 + 1, none⟩) hdb).trans HR1.out
            exact ⟨rfl, .agg #[.int .i64 r, .int .i64 s], by go_simp, rfl⟩
          · refine StepR.call rfl rfl (fun j h => by have := (ftB_cases h).2.2; omega) (hkp 6) fun L a W hI hk hd => ?_
            obtain ⟨_, e37, rfl⟩ := hI.get 0 37 (hd 0 rfl) rfl
            obtain ⟨_, e38, rfl⟩ := hI.get 1 38 (hd 1 rfl) rfl
            obtain ⟨_, e42, rfl⟩ := hI.get 5 42 (hd 5 rfl) rfl
            refine ⟨rfl, 51, #[mkC c, .string ⟨nm.toArray⟩, .agg #[.int .i64 r, .int .i64 s]], by go_simp, (HM1.out W ((KK0 W hI.glob).ok (g := w.heap.size) (c := c) (by simp))).mono ?_⟩
            rintro e W' ⟨rfl, hb⟩
            exact ⟨_, rfl, hb, rfl⟩
          · refine StepR.pure rfl rfl (fun j h => by have := (ftB_cases h).2.2; omega) (fun W => Below.refl _ W) (hkp 7) fun L a W hI hk hd => ?_
            obtain ⟨_, e43, rfl⟩ := hI.get 6 43 (hd 6 rfl) rfl
            exact ⟨rfl, .tuple #[mkV x, .bool true], by go_simp, rfl⟩
          · refine StepR.pure rfl rfl (fun j h => by have := (ftB_cases h).2.2; omega) (fun W => Below.refl _ W) (hkp 8) fun L a W hI hk hd => ?_
            obtain ⟨_, e36, rfl⟩ := hI.get 7 36 (hd 7 rfl) rfl
            exact ⟨rfl, mkV x, by go_simp, rfl⟩
          · refine StepR.pure rfl rfl (fun j h => by have := (ftB_cases h).2.2; omega) (fun W => Below.refl _ W) (hkp 9) fun L a W hI hk hd => ?_
            obtain ⟨_, e36, rfl⟩ := hI.get 7 36 (hd 7 rfl) rfl
            exact ⟨rfl, .bool true, by go_simp, rfl⟩
          · refine StepR.boxed rfl rfl (fun W o => (Below.refl _ W).alloc (Nat.le_refl _) o) (hkp 10) fun L a W hI => ?_
            exact ⟨rfl, .cells #[.int .i64 0, .int .i64 0, .int .i64 0, .int .u64 0] 54, by go_simp, W.heap.size, Mk.zero, rfl, hI.glob.size, BlkM.new W Mk.zero⟩
          · refine StepR.store rfl rfl rfl fun L a W hI hd => ?_
            obtain ⟨_, e9, b9, d9, rfl, hn9, hB9⟩ := hI.get 10 9 (hd 10 rfl) rfl
            obtain ⟨_, e44, rfl⟩ := hI.get 8 44 (hd 8 rfl) rfl
            have q0 := hB9.cell0
            have q1 := hB9.cell1
            have q2 := hB9.cell2
            have q3 := hB9.cell3
            have fz0 := hB9.frozen 0
            have fz1 := hB9.frozen 1
            have fz2 := hB9.frozen 2
            have fz3 := hB9.frozen 3
            refine ⟨rfl, b9, 9, setM W b9 (x), rfl, hd 10 rfl, by rw [eval_tmp]; exact e9, ?_, OnlyB.setM _ _ _, below_setM hI.glob hn9 _, b9, rfl, hB9.set _⟩
            clear hB9
            go_simp
          · refine StepR.pure rfl rfl (fun j h => by have := (ftB_cases h).2.2; omega) (fun W => Below.refl _ W) (hkp 12) fun L a W hI hk hd => ?_
            obtain ⟨_, e45, rfl⟩ := hI.get 9 45 (hd 9 rfl) rfl
            exact ⟨rfl, .bool true, by go_simp, rfl⟩
        · intro a W L hL hI
          obtain ⟨b9, e9, hB9⟩ := (hI.box 11 10 9 (hL 11 (by decide)) rfl rfl).2
          have HB9 := Lib.hid hB9
          have KV := Lib.hid (KK0 W hI.glob).kk
          have DV := Lib.hid (DF.out.below hI.glob)
          have HR0V := Lib.hid ((hI.glob.cell (p := ⟨db, doff + k * 2, none⟩) hdb).trans HR0.out)
          have HR1V := Lib.hid ((hI.glob.cell (p := ⟨db, doff + k * 2 + 1, none⟩) hdb).trans HR1.out)
          have hdbV : db < W.heap.size := Nat.lt_of_lt_of_le hdb hI.glob.size
          rw [hI.frame]
          simp only [List.filterMap, List.foldl]
          rw [e9]
          generalize a.eval (.tmp 37) = v37
          generalize a.eval (.tmp 38) = v38
          generalize a.eval (.tmp 39) = v39
          generalize a.eval (.tmp 40) = v40
          generalize a.eval (.tmp 41) = v41
          generalize a.eval (.tmp 42) = v42
          generalize a.eval (.tmp 43) = v43
          generalize a.eval (.tmp 36) = v36
          generalize a.eval (.tmp 44) = v44
          generalize a.eval (.tmp 45) = v45
          generalize a.eval (.tmp 10) = v10
          clear hI hL e9 hB9 KK0 hkp KF DF HR0 HR1 hdb HM1
          simp only [List.setIfInBounds_toArray, List.set_cons_succ, List.set_cons_zero]
          have hdb := hdbV
          have HR0 := HR0V
          have HR1 := HR1V
          clear hdbV HR0V HR1V
          generalize hWV : W = wv at *
          clear hWV
          go_upto_region 7 with fail
          have KK0 : ∀ W, Below wv.heap.size wv W → KB w [(w.heap.size, c), (w.heap.size + 1, d)] [] W := fun W hb => ⟨KV.out.next hb, fun p hp => by cases hp⟩
          have hkp : ∀ (z : Nat) (L : Nat → Bool) (W W' : World), Below wv.heap.size wv W → BelW W W' → KeepsR (sqS wv ftB (ft7P c d nm db doff ds.length dc k r s x y q) (ftQ y)) L W W' ∧ Below wv.heap.size wv W' := fun _ _ _ _ h hb => sq_keep h hb
          refine wp_region_sm (bx := ftB) (sp := ft7P c d nm db doff ds.length dc k r s x y q) (sq := ftQ y) (by kernel_rfl) (by kernel_rfl) (by kernel_rfl) (dst_small (n := 63) (by kernel_rfl)) (fun j k h => by obtain ⟨_, _, rfl, _⟩ := ftB_cases h; rfl) (fun j j' k h1 h2 => by have e1 := (ftB_cases h1).2.2; have e2 := (ftB_cases h2).2.2; omega) (fun j k h => ⟨by obtain ⟨_, _, _, rfl⟩ := ftB_cases h; rfl, (ftB_cases h).1 y⟩) ft7P_pl (ftQ_pl y) ?_ ?_
          ·
            clear HFD HOQ HDK DV HOW HBB hs HB9
            refine ⟨?_, ?_, ?_, ?_, ?_, ?_, ?_, ?_, ?_, ?_, ?_, ?_, ?_, trivial⟩
            · refine StepR.pure rfl rfl (fun j h => by have := (ftB_cases h).2.2; omega) (fun W => Below.refl _ W) (hkp 0) fun L a W hI hk hd => ?_
              have e3 : a.tmps[3]?.getD undef = .pointer (some ⟨w.heap.size + 1, 0, none⟩) := hI.at 3 (by kernel_rfl)
              obtain ⟨c0, c1, c2, _⟩ := (KK0 W hI.glob).ca (g := w.heap.size + 1) (c := d) (by simp)
              exact ⟨rfl, mkC d, by go_simp, rfl⟩
            · refine StepR.pure rfl rfl (fun j h => by have := (ftB_cases h).2.2; omega) (fun W => Below.refl _ W) (hkp 1) fun L a W hI hk hd => ?_
              have e7 : a.tmps[7]?.getD undef = .string ⟨nm.toArray⟩ := hI.at 7 (by kernel_rfl)
              exact ⟨rfl, .string ⟨nm.toArray⟩, by go_simp, rfl⟩
            · refine StepR.pure rfl rfl (fun j h => by have := (ftB_cases h).2.2; omega) (fun W => Below.refl _ W) (hkp 2) fun L a W hI hk hd => ?_
              have e5 : a.tmps[5]?.getD undef = .slice (some ⟨db, doff, none⟩) ds.length dc := hI.at 5 (by kernel_rfl)
              exact ⟨rfl, .slice (some ⟨db, doff, none⟩) ds.length dc, by go_simp, rfl⟩
            · refine StepR.pure rfl rfl (fun j h => by have := (ftB_cases h).2.2; omega) (fun W => Below.refl _ W) (hkp 3) fun L a W hI hk hd => ?_
              have e6 : a.tmps[6]?.getD undef = .int .i64 k := hI.at 6 (by kernel_rfl)
              exact ⟨rfl, .int .i64 k, by go_simp, rfl⟩
            · refine StepR.pure rfl rfl (fun j h => by have := (ftB_cases h).2.2; omega) (fun W => Below.refl _ W) (hkp 4) fun L a W hI hk hd => ?_
              obtain ⟨_, e49, rfl⟩ := hI.get 2 49 (hd 2 rfl) rfl
              obtain ⟨_, e50, rfl⟩ := hI.get 3 50 (hd 3 rfl) rfl
              exact ⟨rfl, .pointer (some ⟨db, doff + k * 2, none⟩), by go_simp, rfl⟩
            · refine StepR.pure rfl rfl (fun j h => by have := (ftB_cases h).2.2; omega) (fun W => Below.refl _ W) (hkp 5) fun L a W hI hk hd => ?_
              obtain ⟨_, e51, rfl⟩ := hI.get 4 51 (hd 4 rfl) rfl
              have c0 : W.cell? ⟨db, doff + k * 2, none⟩ = some (.int .i64 r) := (hI.glob.cell (p := ⟨db, doff + k * 2, none⟩) hdb).trans HR0.out
              have c1 : W.cell? ⟨db, doff + k * 2 + 1, none⟩ = some (.int .i64 s) := (hI.glob.cell (p := ⟨db, doff + k * 2 + 1, none⟩) hdb).trans HR1.out
              exact ⟨rfl, .agg #[.int .i64 r, .int .i64 s], by go_simp, rfl⟩
            · refine StepR.call rfl rfl (fun j h => by have := (ftB_cases h).2.2; omega) (hkp 6) fun L a W hI hk hd => ?_
              obtain ⟨_, e47, rfl⟩ := hI.get 0 47 (hd 0 rfl) rfl
              obtain ⟨_, e48, rfl⟩ := hI.get 1 48 (hd 1 rfl) rfl
              obtain ⟨_, e52, rfl⟩ := hI.get 5 52 (hd 5 rfl) rfl
              refine ⟨rfl, 51, #[mkC d, .string ⟨nm.toArray⟩, .agg #[.int .i64 r, .int .i64 s]], by go_simp, (HM2.out W ((KK0 W hI.glob).ok (g := w.heap.size + 1) (c := d) (by simp))).mono ?_⟩
              rintro e W' ⟨rfl, hb⟩
              exact ⟨_, rfl, hb, rfl⟩
            · refine StepR.pure rfl rfl (fun j h => by have := (ftB_cases h).2.2; omega) (fun W => Below.refl _ W) (hkp 7) fun L a W hI hk hd => ?_
              obtain ⟨_, e53, rfl⟩ := hI.get 6 53 (hd 6 rfl) rfl
              exact ⟨rfl, .tuple #[mkV y, .bool q], by go_simp, rfl⟩
            · refine StepR.pure rfl rfl (fun j h => by have := (ftB_cases h).2.2; omega) (fun W => Below.refl _ W) (hkp 8) fun L a W hI hk hd => ?_
              obtain ⟨_, e46, rfl⟩ := hI.get 7 46 (hd 7 rfl) rfl
              exact ⟨rfl, mkV y, by go_simp, rfl⟩
            · refine StepR.pure rfl rfl (fun j h => by have := (ftB_cases h).2.2; omega) (fun W => Below.refl _ W) (hkp 9) fun L a W hI hk hd => ?_
              obtain ⟨_, e46, rfl⟩ := hI.get 7 46 (hd 7 rfl) rfl
              exact ⟨rfl, .bool q, by go_simp, rfl⟩
            · refine StepR.boxed rfl rfl (fun W o => (Below.refl _ W).alloc (Nat.le_refl _) o) (hkp 10) fun L a W hI => ?_
              exact ⟨rfl, .cells #[.int .i64 0, .int .i64 0, .int .i64 0, .int .u64 0] 54, by go_simp, W.heap.size, Mk.zero, rfl, hI.glob.size, BlkM.new W Mk.zero⟩
            · refine StepR.store rfl rfl rfl fun L a W hI hd => ?_
              obtain ⟨_, e11, b11, d11, rfl, hn11, hB11⟩ := hI.get 10 11 (hd 10 rfl) rfl
              obtain ⟨_, e54, rfl⟩ := hI.get 8 54 (hd 8 rfl) rfl
              have q0 := hB11.cell0
              have q1 := hB11.cell1
              have q2 := hB11.cell2
              have q3 := hB11.cell3
              have fz0 := hB11.frozen 0
              have fz1 := hB11.frozen 1
              have fz2 := hB11.frozen 2
              have fz3 := hB11.frozen 3
              refine ⟨rfl, b11, 11, setM W b11 (y), rfl, hd 10 rfl, by rw [eval_tmp]; exact e11, ?_, OnlyB.setM _ _ _, below_setM hI.glob hn11 _, b11, rfl, hB11.set _⟩
              clear hB11
              go_simp
            · refine StepR.pure rfl rfl (fun j h => by have := (ftB_cases h).2.2; omega) (fun W => Below.refl _ W) (hkp 12) fun L a W hI hk hd => ?_
              obtain ⟨_, e55, rfl⟩ := hI.get 9 55 (hd 9 rfl) rfl
              exact ⟨rfl, .bool q, by go_simp, rfl⟩
          · intro a W L hL hI
            obtain ⟨b11, e11, hB11⟩ := (hI.box 11 10 11 (hL 11 (by decide)) rfl rfl).2
            have k12 : a.eval (.tmp 12) = .bool q := by
              obtain ⟨_, e12, rfl⟩ := hI.get 12 12 (hL 12 (by decide)) rfl
              rw [eval_tmp]; exact e12
            have KW := Lib.hid (KK0 W hI.glob).kk
            have DW := Lib.hid (DV.out.below hI.glob)
            obtain ⟨p0, p1, p2, p3⟩ := boxM_of (HB9.out.below hI.glob)
            obtain ⟨q0, q1, q2, q3⟩ := boxM_of hB11
            rw [hI.frame]
            simp only [List.filterMap, List.foldl]
            rw [e11, k12]
            generalize a.eval (.tmp 47) = v47
            generalize a.eval (.tmp 48) = v48
            generalize a.eval (.tmp 49) = v49
            generalize a.eval (.tmp 50) = v50
            generalize a.eval (.tmp 51) = v51
            generalize a.eval (.tmp 52) = v52
            generalize a.eval (.tmp 53) = v53
            generalize a.eval (.tmp 46) = v46
            generalize a.eval (.tmp 54) = v54
            generalize a.eval (.tmp 55) = v55
            clear hI hL e11 k12 hB11 KK0 hkp KV DV HR0 HR1 hdb HM2 HB9
            simp only [List.setIfInBounds_toArray, List.set_cons_succ, List.set_cons_zero]
            cases q with
            | false =>
              have HN := Lib.hid (show false = b from by
                rw [← HBB.out]
                refine (List.all_eq_false.2 ⟨(r, s), List.mem_of_getElem? HDK.out, ?_⟩).symm
                rw [HFD.out, HOQ.out]; simp)
              have HBW := Lib.hid KW.out.bel
              clear HFD HOQ HDK HBB hs KW DW HOW
              go_wp2_with fail
              go_ret
              exact OneB.bool HN.out HBW.out
            | true =>
              have hne := fun w => neqMark x y w
              by_cases hxy : x = y
              · have HS := Lib.hid (fits_take hs.out HDK.out (by rw [HFD.out, HOQ.out, hxy]; simp))
                have hne' : ∀ w, (binOp .neq 54 (mkV x) (mkV y)).run Tryz.prog w = .ok (.bool false) w := fun w => by rw [hne w, hxy]; simp
                clear hne hxy HFD HOQ HDK HBB hs HOW
                go_wp2_with fail
                go_roundw
                case rel => exact ⟨k + 1, by omega, by go_num, KW, DW, HS⟩
                case measure => simp [intOf]; omega
              · have HN := Lib.hid (show false = b from by
                  rw [← HBB.out]
                  refine (List.all_eq_false.2 ⟨(r, s), List.mem_of_getElem? HDK.out, ?_⟩).symm
                  rw [HFD.out, HOQ.out]
                  have e2 : ¬ y = x := fun k => hxy k.symm
                  simp [e2])
                have hne' : ∀ w, (binOp .neq 54 (mkV x) (mkV y)).run Tryz.prog w = .ok (.bool true) w := fun w => by rw [hne w]; simp [hxy]
                have HBW := Lib.hid KW.out.bel
                clear hne hxy HFD HOQ HDK HBB hs KW DW HOW
                go_wp2_with fail
                go_ret
                exact OneB.bool HN.out HBW.out
      · obtain rfl : k = ds.length := by omega
        have i0 : ¬ (ds.length : Int) < (ds.length : Int) := by omega
        have HN := Lib.hid (show true = b from by
          have := hs.out
          rw [List.take_length] at this
          rw [← HBB.out, this])
        have HBW := Lib.hid hK.out.bel
        clear hs hK hD HBB HOW
        go_wp2_with fail
        go_ret
        exact OneB.bool HN.out HBW.out

end

end Go.Proofs.YtfjbocipjmpogaaGreat
