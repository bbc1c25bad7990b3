/- Several texts in one: JoiQ, JoiR, JoiO2. -/
import Derived.Test.YtfjbocipjmpogaaGreatMBE
import Derived.Test.YtfjbocipjmpogaaGreatMAR
namespace Go.Proofs.YtfjbocipjmpogaaGreat

section
open Go.RowKit Go.Maps

/-- Whether what another cart says of a dot differs. -/
def diffH (hs : List Hd) (h : Hd) : Bool := match lookH hs (dotH h) with
  | some o => !decide (o = h)
  | none => false
theorem diffH_eq (hs : List Hd) (h : Hd) : diffH hs h = ((lookH hs (dotH h)).isSome && !decide ((lookH hs (dotH h)).getD hZero = h)) := by
  unfold diffH
  cases lookH hs (dotH h) <;> rfl
theorem fits_any {a b : Ca} (ha : validK a = true) (hb : validK b = true) : (flatH a.2).any (diffH (flatH b.2)) = !fitsB a b := by
  have ga := (validK_iff.1 ha).2.1
  have gb := (validK_iff.1 hb).2.1
  suffices h : (flatH a.2).any (diffH (flatH b.2)) = false ↔ fitsB a b = true by
    cases h1 : fitsB a b with
    | true => exact h.2 h1
    | false =>
      cases h2 : (flatH a.2).any (diffH (flatH b.2)) with
      | true => rfl
      | false => rw [h.1 h2] at h1; cases h1
  rw [fitsB_iff ha hb, List.any_eq_false]
  constructor
  · intro h n n' d x y h1 h2
    obtain ⟨_, _, _, _, hxd⟩ := markL_some h1
    obtain ⟨_, _, _, _, hyd⟩ := markL_some h2
    have m1 : ((n, x) : Hd) ∈ flatH a.2 := ga.flat.2 (by show markL a.2 n (dotM x) = some x; rw [hxd]; exact h1)
    have m2 : ((n', y) : Hd) ∈ flatH b.2 := gb.flat.2 (by show markL b.2 n' (dotM y) = some y; rw [hyd]; exact h2)
    have hl := gb.look m2
    have hk := h _ m1
    unfold diffH at hk
    rw [show dotH ((n, x) : Hd) = dotH ((n', y) : Hd) from hxd.trans hyd.symm, hl] at hk
    have : ((n', y) : Hd) = (n, x) := by simpa using hk
    exact ⟨(congrArg Prod.fst this).symm, (congrArg Prod.snd this).symm⟩
  · intro h x hx k
    unfold diffH at k
    cases e : lookH (flatH b.2) (dotH x) with
    | none => rw [e] at k; cases k
    | some o =>
      rw [e] at k
      obtain ⟨h1, h2⟩ := lookH_some e
      have h3 := ga.flat.1 hx
      have h4 := gb.flat.1 h1
      rw [h2] at h4
      obtain ⟨e1, e2⟩ := h _ _ _ _ _ h3 h4
      have : o = x := Prod.ext e1.symm e2.symm
      simp [this] at k

set_option maxHeartbeats 1000000 in
theorem eqInHeld (d : Nat) (a b : Hd) (w : World) : (Op.equalIn (d + 4) 67 (mkH a) (mkH b)).run Tryz.prog w = .ok (decide (a = b)) w := by
  obtain ⟨n, m⟩ := a
  obtain ⟨n', m'⟩ := b
  have hS : Tryz.prog.underlying 67 = some (.struct (Tryz.prog.fieldsOf 67)) := by kernel_rfl
  have hp : Tryz.prog.stoodInHeld 67 = false := by kernel_rfl
  have hD : ∀ w, (Op.equalIn (d + 3) 54 (.agg #[.int .i64 m.r, .int .i64 m.c, .int .i64 m.q, .int .u64 (m.t : Int)]) (.agg #[.int .i64 m'.r, .int .i64 m'.c, .int .i64 m'.q, .int .u64 (m'.t : Int)])).run Tryz.prog w = .ok (decide (m = m')) w := fun w => eqInMark d m m' w
  rw [run_equalIn_agg w (d + 3) 67 _ _ hS hp]
  simp only [Program.fieldsOf, Tryz.underlying67]
  go_simp
  by_cases h1 : n = n' <;> by_cases h2 : m = m' <;> simp [h1, h2]
theorem neqHeld (a b : Hd) (w : World) : (binOp .neq 67 (mkH a) (mkH b)).run Tryz.prog w = .ok (.bool (!decide (a = b))) w := by
  rw [run_neq_struct, show (10000 : Nat) = 9996 + 4 from rfl, eqInHeld]; rfl
/-- What a map of marks says, and whether it says anything. -/
theorem OwnsH.look2 {W : World} {mb : Nat} {D : DataW Value} {hs : List Hd} (h : OwnsH W mb D) (hD : MapH D hs) {r c : Int} (hv : validD r c = true) :
    (Instr.lookup 101 (.map (some mb)) (.agg #[.int .i64 r, .int .i64 c]) true).run Tryz.prog W = .ok (.tuple #[mkH ((lookH hs (r, c)).getD hZero), .bool (lookH hs (r, c)).isSome]) W := by
  obtain ⟨v, ps, hrun, hv'⟩ := World.ownsMap.look_ok h lawDotK Tryz.underlying101 (zeroHeld W) (zd := .held (mkH hZero)) (zp := []) rfl (keyOf_dot ⟨(r, c), hv⟩)
  have h1 := (hD ⟨(r, c), hv⟩).1
  have h3 := (hD ⟨(r, c), hv⟩).2
  rw [h1] at hv'
  rw [h3] at hrun
  have h2 : DataW.held v = .held (mkH ((lookH hs (r, c)).getD hZero)) := congrArg Prod.fst (Option.some.inj hv')
  rw [← DataW.held.inj h2]; exact hrun
set_option maxRecDepth 100000 in
set_option maxHeartbeats 4000000 in
theorem joFits1 (bi mb : Nat) (D : DataW Value) (hs : List Hd) (x : Hd) (b : Bool) (w : World)
    (h1 : w.cell? ⟨bi, 0, none⟩ = some (.map (some mb))) (ho : OwnsH w mb D) (hD : MapH D hs) (hv : validD x.2.r x.2.c = true) (hb : diffH hs x = b) :
    Calls Tryz.prog 89 #[mkH x, .pointer (some ⟨bi, 0, none⟩)] w (OneB (.bool b) w) := by
  have l2 := World.block_lt_of_cell? w _ h1
  rw [diffH_eq] at hb
  obtain ⟨y, hy⟩ : ∃ y, (lookH hs (dotH x)).getD hZero = y := ⟨_, rfl⟩
  obtain ⟨s, hs'⟩ : ∃ s, (lookH hs (dotH x)).isSome = s := ⟨_, rfl⟩
  rw [hy, hs'] at hb
  have hlk : ∀ W, Below w.heap.size w W → (Instr.lookup 101 (.map (some mb)) (.agg #[.int .i64 x.2.r, .int .i64 x.2.c]) true).run Tryz.prog W = .ok (.tuple #[.agg #[.string ⟨y.1.toArray⟩, .int .i64 y.2.r, .int .i64 y.2.c, .int .i64 y.2.q, .int .u64 (y.2.t : Int)], .bool s]) W := fun W hW => by
    have := OwnsH.look2 (World.ownsMap.kept ho (grown_of_below2 hW none) (by simp)) hD hv
    rw [show (x.2.r, x.2.c) = dotH x from rfl, hy, hs'] at this
    exact this
  have hlk := hlk _ ((Below.refl _ w).alloc (Nat.le_refl _) (.cells #[.string ⟨x.1.toArray⟩, .int .i64 x.2.r, .int .i64 x.2.c, .int .i64 x.2.q, .int .u64 (x.2.t : Int)] 67))
  have hne := fun W => neqHeld y x W
  clear ho hD hv hy hs'
  cases s with
  | true =>
    obtain rfl : (!decide (y = x)) = b := hb
    go_enter Tryz.func89, Tryz.ntmps89
    go_wp2_with fail
    go_ret
    exact OneB.bool rfl (((Below.refl _ _).alloc (Nat.le_refl _) _).alloc (by simp) _)
  | false =>
    obtain rfl : false = b := hb
    go_enter Tryz.func89, Tryz.ntmps89
    go_wp2_with fail
    go_ret
    exact OneB.bool rfl (((Below.refl _ _).alloc (Nat.le_refl _) _).alloc (by simp) _)
theorem SaysH.fits {bi mb : Nat} {D : DataW Value} {hs : List Hd} {w : World} (h1 : w.cell? ⟨bi, 0, none⟩ = some (.map (some mb))) (ho : OwnsH w mb D) (hD : MapH D hs) :
    SaysH 89 #[.pointer (some ⟨bi, 0, none⟩)] (diffH hs) (fun x => validD x.2.r x.2.c = true) w.heap.size w := fun x W hv hW =>
  joFits1 bi mb D hs x _ W ((hW.cell (p := ⟨bi, 0, none⟩) (World.block_lt_of_cell? w _ h1)).trans h1) (World.ownsMap.kept ho (grown_of_below2 hW none) (by simp)) hD hv rfl

def fitsV (x y : Ca) : Bool := okJ x y && fitsB x y
set_option maxRecDepth 100000 in
set_option maxHeartbeats 4000000 in
theorem joFits (c d : CaV) (n m : Nat) (w : World) (hc : CaOK w c) (hd : CaOK w d) (hn : SizeK n c.ca) (hm : SizeK m d.ca) (h1 : n ≤ 7) (h2 : m ≤ 7) :
    Calls Tryz.prog 48 #[mkC c, mkC d] w (OneB (.tuple #[.bool (fitsV c.ca d.ca), .int .i64 (joinE c.ca d.ca)]) w) := by
  have hb1 := (Below.refl w.heap.size w).alloc (Nat.le_refl _) (.cells #[c.v, c.l, c.i] 28)
  have K0 := Lib.hid (KK.push (L := [(w.heap.size, c)]) (KK.new w c hc) d (hd.below hb1) (w.heap.size + 1) (by simp))
  have HF := Lib.hid (FitsP.of hn hm h1 h2)
  clear hc hd hn hm h1 h2 hb1
  cases hvc : validK c.ca with
  | false =>
    have HV := Lib.hid hvc
    have ho : okJ c.ca d.ca = false := by unfold okJ; rw [hvc]; rfl
    rw [show fitsV c.ca d.ca = false from by unfold fitsV; rw [ho]; rfl, joinE_f ho]
    clear hvc ho
    go_enter Tryz.func48, Tryz.ntmps48
    go_wp2_with fail
    generalize World.alloc (World.alloc w _) _ = w2 at K0 ⊢
    obtain ⟨x0, x1, x2, x3, x4, x5, _⟩ := K0.out.sp2
    go_wp2_with fail
    refine (caValid c false w2 (K0.out.ok (g := w.heap.size) (by simp)) HF.out.kc HV.out).mono ?_
    rintro e w3 ⟨rfl, hb⟩
    have HB := Lib.hid (below_trans K0.out.bel hb)
    clear hb K0 x0 x1 x2 x3 x4 x5
    go_wp2_with fail
    refine bodyPost_ret (v := .tuple #[.bool false, .int .i64 2]) (by simp [results, Tryz.results48, go_sem]) rfl ⟨rfl, HB.out⟩
  | true =>
    have HV := Lib.hid hvc
    cases hvd : validK d.ca with
    | false =>
      have HV2 := Lib.hid hvd
      have ho : okJ c.ca d.ca = false := by unfold okJ; rw [hvd]; simp
      rw [show fitsV c.ca d.ca = false from by unfold fitsV; rw [ho]; rfl, joinE_f ho]
      clear hvc ho hvd
      go_enter Tryz.func48, Tryz.ntmps48
      go_wp2_with fail
      generalize World.alloc (World.alloc w _) _ = w2 at K0 ⊢
      obtain ⟨x0, x1, x2, x3, x4, x5, _⟩ := K0.out.sp2
      go_wp2_with fail
      refine (caValid c true w2 (K0.out.ok (g := w.heap.size) (by simp)) HF.out.kc HV.out).mono ?_
      rintro e w3 ⟨rfl, hb⟩
      have K1 := Lib.hid (K0.out.next hb)
      clear hb K0 x0 x1 x2 x3 x4 x5
      obtain ⟨x0, x1, x2, x3, x4, x5, _⟩ := K1.out.sp2
      go_wp2_with fail
      refine (caValid d false w3 (K1.out.ok (g := w.heap.size + 1) (by simp)) HF.out.kd HV2.out).mono ?_
      rintro e w4 ⟨rfl, hb⟩
      have HB := Lib.hid (below_trans K1.out.bel hb)
      clear hb K1 x0 x1 x2 x3 x4 x5
      go_wp2_with fail
      refine bodyPost_ret (v := .tuple #[.bool false, .int .i64 2]) (by simp [results, Tryz.results48, go_sem]) rfl ⟨rfl, HB.out⟩
    | true =>
      have HV2 := Lib.hid hvd
      have ho : okJ c.ca d.ca = true := okJ_iff.2 ⟨hvc, hvd⟩
      have hfa := fits_any hvc hvd
      rw [ca_x, ca_x] at hfa
      have HFC := Lib.hid (show ∀ h ∈ flatH (its c.xs), validD h.2.r h.2.c = true from flat_valid (validK_iff.1 hvc).2.1)
      have HFD := Lib.hid (show ∀ h ∈ flatH (its d.xs), validD h.2.r h.2.c = true from flat_valid (validK_iff.1 hvd).2.1)
      rw [show fitsV c.ca d.ca = fitsB c.ca d.ca from by unfold fitsV; rw [ho]; rfl, joinE_t ho]
      generalize fitsB c.ca d.ca = fb at hfa ⊢
      have HA := Lib.hid hfa
      have HLF := Lib.hid (show (flatH (its c.xs)).length ≤ 1000000 from by rw [flatH_len]; have := cntM_fits HF.out.cd.fc; omega)
      clear hvc ho hvd hfa
      go_enter Tryz.func48, Tryz.ntmps48
      go_wp2_with fail
      generalize World.alloc (World.alloc w _) _ = w2 at K0 ⊢
      obtain ⟨x0, x1, x2, x3, x4, x5, _⟩ := K0.out.sp2
      go_wp2_with fail
      refine (caValid c true w2 (K0.out.ok (g := w.heap.size) (by simp)) HF.out.kc HV.out).mono ?_
      rintro e w3 ⟨rfl, hb⟩
      have K1 := Lib.hid (K0.out.next hb)
      clear hb K0 x0 x1 x2 x3 x4 x5
      obtain ⟨x0, x1, x2, x3, x4, x5, _⟩ := K1.out.sp2
      go_wp2_with fail
      refine (caValid d true w3 (K1.out.ok (g := w.heap.size + 1) (by simp)) HF.out.kd HV2.out).mono ?_
      rintro e w4 ⟨rfl, hb⟩
      have K2 := Lib.hid (K1.out.next hb)
      clear hb K1 x0 x1 x2 x3 x4 x5
      obtain ⟨x0, x1, x2, x3, x4, x5, _⟩ := K2.out.sp2
      go_wp2_with fail
      refine (joByDot d w4 (K2.out.ok (g := w.heap.size + 1) (by simp)) HF.out.cd.fd HFD.out).mono ?_
      rintro e w5 ⟨⟨mb, D, rfl, _, hown, hD⟩, hb⟩
      have K3 := Lib.hid ((K2.out.next hb).alloc (.cells #[.map (some mb)] 101))
      have hba := (Below.refl w5.heap.size w5).alloc (Nat.le_refl _) (.cells #[.map (some mb)] 101)
      have BX := Boxed.new w5 101 (.map (some mb))
      have HS := Lib.hid (SaysH.fits (Boxed.cell BX) (World.ownsMap.kept hown (grown_of_below2 hba none) (by simp)) hD)
      obtain ⟨x0, x1, x2, x3, x4, x5, l0, l1, _⟩ := (K2.out.next hb).sp2
      clear hb K2 hown hD hba BX
      go_wp2_with fail
      refine (joFlat c _ (K3.out.ok (g := w.heap.size) (by simp)) HF.out.cd.fc).mono ?_
      rintro e w6 ⟨⟨v, rfl, hrow⟩, hb⟩
      obtain ⟨A, cap, rfl, _, _, hat⟩ := SlAt.of_own encH_len hrow
      have K4 := Lib.hid (K3.out.next hb)
      have HC := Lib.hid (containsHeldF _ _ _ _ _ A (flatH (its c.xs)) cap (!fb) w6 HS.out HFC.out hb hb.size hat HLF.out HA.out)
      clear hb hrow hat K3 HS x0 x1 x2 x3 x4 x5 l0 l1
      go_wp2_with fail
      refine HC.out.mono ?_
      rintro e w7 ⟨rfl, hb⟩
      have HB := Lib.hid (below_trans K4.out.bel hb)
      clear hb K4 HC
      cases fb
      · go_wp2_with fail
        refine bodyPost_ret (v := .tuple #[.bool false, .int .i64 0]) (by simp [results, Tryz.results48, go_sem]) rfl ⟨rfl, HB.out⟩
      · go_wp2_with fail
        refine bodyPost_ret (v := .tuple #[.bool true, .int .i64 0]) (by simp [results, Tryz.results48, go_sem]) rfl ⟨rfl, HB.out⟩

end

section
open Go.RowKit

theorem joinK_zero2 {a : Ca} (ha : validK a = true) : joinK a zeroK = a := by
  rw [joinK_comm ha validK_zeroK]; exact joinK_zero ha
theorem fold_all : ∀ {l : List Ca} {s : Ca}, validK s = true → (∀ x ∈ l, validK x = true) → l.foldl joinK s = joinK s (allK l)
  | [], s, hs, _ => (joinK_zero2 hs).symm
  | x :: l, s, hs, h => by
    have hx := h x (by simp)
    have hl : ∀ y ∈ l, validK y = true := fun y hy => h y (by simp [hy])
    have h1 : allK (x :: l) = joinK x (allK l) := by
      show l.foldl joinK (joinK zeroK x) = _
      rw [show joinK zeroK x = x from joinK_zero hx]
      exact fold_all hx hl
    rw [List.foldl_cons, h1, fold_all (joinK_valid hs hx) hl, joinK_assoc hs hx (allK_valid hl)]
/-- What All returns. -/
def okA (l : List Ca) : Bool := l.all validK
def allV (l : List Ca) : Ca := if okA l then allK l else zeroK
def allE (l : List Ca) : Int := if okA l then 0 else 2
theorem okA_iff {l : List Ca} : okA l = true ↔ ∀ x ∈ l, validK x = true := by unfold okA; exact List.all_eq_true
theorem okA_app (l k : List Ca) : okA (l ++ k) = (okA l && okA k) := by unfold okA; exact List.all_append
theorem allV_t {l : List Ca} (h : okA l = true) : allV l = allK l := if_pos h
theorem allV_f {l : List Ca} (h : okA l = false) : allV l = zeroK := if_neg (by simp [h])
theorem allE_t {l : List Ca} (h : okA l = true) : allE l = 0 := if_pos h
theorem allE_f {l : List Ca} (h : okA l = false) : allE l = 2 := if_neg (by simp [h])
theorem allV_valid (l : List Ca) : validK (allV l) = true := by
  cases h : okA l with
  | true => rw [allV_t h]; exact allK_valid (okA_iff.1 h)
  | false => rw [allV_f h]; exact validK_zeroK
theorem allV_app {l k : List Ca} (h : okA l = true) (h' : okA k = true) : joinV (allV l) (allV k) = allV (l ++ k) ∧ joinE (allV l) (allV k) = 0 := by
  have ho : okJ (allV l) (allV k) = true := okJ_iff.2 ⟨allV_valid l, allV_valid k⟩
  refine ⟨?_, joinE_t ho⟩
  rw [joinV_t ho, allV_t h, allV_t h', allV_t (by rw [okA_app, h, h']; rfl)]
  show _ = (l ++ k).foldl joinK zeroK
  rw [List.foldl_append]
  exact (fold_all (allK_valid (okA_iff.1 h)) (okA_iff.1 h')).symm
theorem allV_one (x : Ca) : joinV zeroK x = allV [x] ∧ joinE zeroK x = allE [x] := by
  cases h : validK x with
  | true =>
    have h1 : okJ zeroK x = true := okJ_iff.2 ⟨validK_zeroK, h⟩
    have h2 : okA [x] = true := okA_iff.2 (by simpa using h)
    rw [joinV_t h1, joinE_t h1, allV_t h2, allE_t h2]
    exact ⟨rfl, rfl⟩
  | false =>
    have h1 : okJ zeroK x = false := by unfold okJ; rw [h]; simp
    have h2 : okA [x] = false := by unfold okA; simp [h]
    rw [joinV_f h1, joinE_f h1, allV_f h2, allE_f h2]
    exact ⟨rfl, rfl⟩
theorem foldJ_size : ∀ {l : List Ca} {s : Ca} {n : Nat}, validK s = true → (∀ x ∈ l, validK x = true) → SizeK n s → (∀ x ∈ l, SizeK 1 x) → SizeK (n + l.length) (l.foldl joinK s)
  | [], s, n, _, _, h, _ => h
  | x :: l, s, n, hs, hv, h, hx => by
    have h1 := foldJ_size (l := l) (joinK_valid hs (hv x (by simp))) (fun y hy => hv y (by simp [hy])) (joinK_size hs (hv x (by simp)) h (hx x (by simp))) (fun y hy => hx y (by simp [hy]))
    rw [List.foldl_cons, List.length_cons, show n + (l.length + 1) = n + 1 + l.length by omega]
    exact h1
theorem allV_size {l : List Ca} (h : ∀ x ∈ l, SizeK 1 x) : SizeK l.length (allV l) := by
  cases ho : okA l with
  | true =>
    rw [allV_t ho]
    have := foldJ_size validK_zeroK (okA_iff.1 ho) SizeK.zero h
    rwa [Nat.zero_add] at this
  | false => rw [allV_f ho]; exact SizeK.mono SizeK.zero (Nat.zero_le _)

/-- Carts in a row. -/
abbrev encCa (c : CaV) : List Value := [c.v, c.l, c.i]
theorem encCa_len (c : CaV) : (encCa c).length = 3 := rfl
structure CartsAt (W : World) (A : Option Addr) (cs : List CaV) : Prop where
  row : SlAt encCa 3 W A cs
  ok : ∀ c ∈ cs, CaOK W c
theorem CartsAt.below {W W' : World} {A : Option Addr} {cs : List CaV} (h : CartsAt W A cs) (hb : Below W.heap.size W W') : CartsAt W' A cs := ⟨h.row.below hb, fun c hc => (h.ok c hc).below hb⟩
theorem CartsAt.at {W : World} {A : Option Addr} {cs : List CaV} (h : CartsAt W A cs) {j : Nat} (hj : j < cs.length) :
    ∃ b off, ∃ c : CaV, A = some ⟨b, off, none⟩ ∧ b < W.heap.size ∧ cs[j]? = some c ∧ W.cell? ⟨b, off + j * 3, none⟩ = some c.v ∧ W.cell? ⟨b, off + j * 3 + 1, none⟩ = some c.l ∧ W.cell? ⟨b, off + j * 3 + 2, none⟩ = some c.i ∧ CaOK W c := by
  obtain ⟨b, off, rfl, hb, hc⟩ := h.row (by omega)
  have hx := List.getElem?_eq_getElem hj
  exact ⟨b, off, cs[j], rfl, hb, hx, by simpa using hc j _ hx 0 _ rfl, hc j _ hx 1 _ rfl, hc j _ hx 2 _ rfl, h.ok _ (List.getElem_mem hj)⟩
theorem CartsAt.take {W : World} {A : Option Addr} {cs : List CaV} (h : CartsAt W A cs) (m : Nat) : CartsAt W A (cs.take m) := ⟨h.row.take m, fun c hc => h.ok c (List.mem_of_mem_take hc)⟩

theorem CartsAt.cut {W : World} {A : Option Addr} {cs : List CaV} (h : CartsAt W A cs) (m cap : Nat) (hc : cs.length ≤ cap) : CartsAt W (if cap = m then A else A.map (·.add (m * 3))) (cs.drop m) := ⟨h.row.cut m cap hc, fun c hc => h.ok c (List.mem_of_mem_drop hc)⟩
theorem OwnC.fill {W : World} {B g : Nat} {z c : CaV} {u a b : Value} (h : OwnC W B z) (hg : BlkC W g c) : OwnC (((W.setCell ⟨g, 0, none⟩ u).setCell ⟨g, 1, none⟩ a).setCell ⟨g, 2, none⟩ b) B z :=
  ⟨row_set3 h.v hg (by decide), row_set3 h.l hg (by decide), h.i.set3 hg⟩
theorem fill_cells {W : World} {g : Nat} {c : CaV} (h : BlkC W g c) (u a b : Value) : (((W.setCell ⟨g, 0, none⟩ u).setCell ⟨g, 1, none⟩ a).setCell ⟨g, 2, none⟩ b).cell? ⟨g, 0, none⟩ = some u ∧ (((W.setCell ⟨g, 0, none⟩ u).setCell ⟨g, 1, none⟩ a).setCell ⟨g, 2, none⟩ b).cell? ⟨g, 1, none⟩ = some a ∧ (((W.setCell ⟨g, 0, none⟩ u).setCell ⟨g, 1, none⟩ a).setCell ⟨g, 2, none⟩ b).cell? ⟨g, 2, none⟩ = some b := by
  have h1 := BlkC.fill h u a b
  exact ⟨by simp only [World.cell?, h1]; rfl, by simp only [World.cell?, h1]; rfl, by simp only [World.cell?, h1]; rfl⟩
/-- The box of the result, filled. -/
theorem MadeE.fill {w W : World} {z : CaV} {x : Ca} {k : Int} (hz : z.ca = x) (h : OwnC W w.heap.size z) (hr : BlkC W w.heap.size zC) (hb : Below w.heap.size w W) :
    MadeE x k w (.returned (.tuple #[mkC z, .int .i64 k])) (((W.setCell ⟨w.heap.size, 0, none⟩ z.v).setCell ⟨w.heap.size, 1, none⟩ z.l).setCell ⟨w.heap.size, 2, none⟩ z.i) :=
  ⟨⟨z, rfl, hz, h.fill hr⟩, below_fill hb (Nat.le_refl _) _ _ _⟩
theorem fill_alloc {W : World} {g : Nat} {c : CaV} (h : BlkC W g c) (u a b : Value) (o : Obj) : ((((W.setCell ⟨g, 0, none⟩ u).setCell ⟨g, 1, none⟩ a).setCell ⟨g, 2, none⟩ b).alloc o).cell? ⟨g, 0, none⟩ = some u ∧ ((((W.setCell ⟨g, 0, none⟩ u).setCell ⟨g, 1, none⟩ a).setCell ⟨g, 2, none⟩ b).alloc o).cell? ⟨g, 1, none⟩ = some a ∧ ((((W.setCell ⟨g, 0, none⟩ u).setCell ⟨g, 1, none⟩ a).setCell ⟨g, 2, none⟩ b).alloc o).cell? ⟨g, 2, none⟩ = some b := by
  have h0 := BlkC.fill h u a b
  have h1 := (((Below.refl _ (((W.setCell ⟨g, 0, none⟩ u).setCell ⟨g, 1, none⟩ a).setCell ⟨g, 2, none⟩ b)).alloc (Nat.le_refl _) o).block g (Array.getElem?_eq_some_iff.1 h0).1).trans h0
  exact ⟨by simp only [World.cell?, h1]; rfl, by simp only [World.cell?, h1]; rfl, by simp only [World.cell?, h1]; rfl⟩
theorem MadeE.alloc {x : Ca} {k : Int} {w W : World} {e : Ending} (h : MadeE x k w e W) (o : Obj) : MadeE x k w e (W.alloc o) := by
  obtain ⟨⟨z, he, hz, ho⟩, hb⟩ := h
  have hba := (Below.refl W.heap.size W).alloc (Nat.le_refl _) o
  exact ⟨⟨z, he, hz, ho.below hba⟩, below_trans hb hba⟩
theorem BlkC.frozens {W : World} {g : Nat} {c : CaV} (h : BlkC W g c) : W.frozen? ⟨g, 0, none⟩ = false ∧ W.frozen? ⟨g, 1, none⟩ = false ∧ W.frozen? ⟨g, 2, none⟩ = false := ⟨h.frozen _, h.frozen _, h.frozen _⟩

set_option maxRecDepth 100000 in
set_option maxHeartbeats 8000000 in
theorem joAll0 (A : Option Addr) (cap : Nat) (w : World) : Calls Tryz.prog 47 #[.slice A 0 cap] w (MadeE zeroK 0 w) := by
  have K0 := Lib.hid (BlkC.new w zC)
  have HB := Lib.hid ((Below.refl w.heap.size w).alloc (Nat.le_refl _) (.cells #[.slice none 0 0, .slice none 0 0, .slice none 0 0] 28))
  go_enter Tryz.func47, Tryz.ntmps47
  go_wp2_with fail
  obtain ⟨s0, s1, s2, _⟩ := results_zero K0.out
  exact bodyPost_ret (v := .tuple #[.agg #[.slice none 0 0, .slice none 0 0, .slice none 0 0], .int .i64 0]) (by simp [results, Tryz.results47, go_sem]) rfl ⟨⟨zC, rfl, rfl, OwnC.nil _ _⟩, HB.out⟩
set_option maxRecDepth 100000 in
set_option maxHeartbeats 8000000 in
theorem joAll1 (A : Option Addr) (c : CaV) (cap : Nat) (w : World) (hx : CartsAt w A [c]) (hs : SizeK 1 c.ca) :
    Calls Tryz.prog 47 #[.slice A 1 cap] w (MadeE (allV [c.ca]) (allE [c.ca]) w) := by
  obtain ⟨b, off, c', rfl, hlt, hc', c0, c1, c2, hok⟩ := hx.at (j := 0) (by simp)
  obtain rfl : c = c' := by simpa using hc'
  rw [Nat.zero_mul, Nat.add_zero] at c0 c1 c2
  have K0 := Lib.hid (BlkC.new w zC)
  have hba := (Below.refl w.heap.size w).alloc (Nat.le_refl _) (.cells #[.slice none 0 0, .slice none 0 0, .slice none 0 0] 28)
  have HC := Lib.hid (hok.below hba)
  have HB := Lib.hid hba
  have hj := fun W (h : CaOK W c) => joJoin zC c 0 1 W (zC_ok W) h SizeK.zero hs (by omega) (by omega)
  rw [zC_ca, (allV_one c.ca).1, (allV_one c.ca).2] at hj
  have HJ := Lib.hid hj
  clear hx hc' hok hj hba
  go_enter Tryz.func47, Tryz.ntmps47
  go_wp2_with fail
  refine (HJ.out _ HC.out).mono ?_
  rintro e w2 ⟨⟨z, rfl, hz, ho⟩, hb⟩
  have K1 := Lib.hid (K0.out.below hb)
  have HB1 := Lib.hid (below_trans HB.out hb)
  have HO := Lib.hid (ho.le (Nat.le_of_lt K0.out.lt))
  have HZ := Lib.hid hz
  clear hz ho hb c0 c1 c2 hlt HB K0 HJ HC
  obtain ⟨r0, r1, r2, f0, f1, f2⟩ := results_zero K1.out
  go_wp2_with fail
  obtain ⟨s0, s1, s2⟩ := fill_cells K1.out z.v z.l z.i
  exact bodyPost_ret (v := .tuple #[.agg #[z.v, z.l, z.i], .int .i64 _]) (by simp [results, Tryz.results47, go_sem, s0, s1, s2]) rfl (MadeE.fill HZ.out HO.out K1.out HB1.out)

set_option maxRecDepth 100000 in
set_option maxHeartbeats 8000000 in
theorem joAll : ∀ (N : Nat) (A : Option Addr) (cs : List CaV) (cap : Nat) (w : World), cs.length ≤ N → CartsAt w A cs → cs.length ≤ cap → cap ≤ maxLen → cs.length ≤ 7 → (∀ c ∈ cs, SizeK 1 c.ca) →
    Calls Tryz.prog 47 #[.slice A cs.length cap] w (MadeE (allV (cs.map (·.ca))) (allE (cs.map (·.ca))) w) := by
  intro N
  induction N with
  | zero =>
    intro A cs cap w hN hx hc hcm h7 hs
    obtain rfl : cs = [] := List.length_eq_zero_iff.1 (by omega)
    exact joAll0 A cap w
  | succ N ih =>
    intro A cs cap w hN hx hc hcm h7 hs
    match cs, hN, hx, hc, h7, hs with
    | [], hN, hx, hc, h7, hs => exact joAll0 A cap w
    | [c], hN, hx, hc, h7, hs => exact joAll1 A c cap w hx (hs c (by simp))
    | c0 :: c1 :: cs, hN, hx, hc, h7, hs =>
      generalize hcs : c0 :: c1 :: cs = l at *
      have hl2 : 2 ≤ l.length := by rw [← hcs]; simp
      clear hcs
      have hne0 : ¬ (l.length : Int) = 0 := by omega
      have hne1 : ¬ (l.length : Int) = 1 := by omega
      have hk1 : l.length / 2 ≤ l.length := by omega
      have hk2 : l.length / 2 ≤ cap := by omega
      have ht : (l.take (l.length / 2)).length = l.length / 2 := by rw [List.length_take]; omega
      have hd : (l.drop (l.length / 2)).length = l.length - l.length / 2 := List.length_drop
      have hi1 := fun W (h : CartsAt W A l) => ih A (l.take (l.length / 2)) cap W (by omega) (h.take _) (by omega) hcm (by omega) (fun c hc => hs c (List.mem_of_mem_take hc))
      have hi2 := fun W (h : CartsAt W A l) => ih (if cap = l.length / 2 then A else A.map (·.add (l.length / 2 * 3))) (l.drop (l.length / 2)) (cap - l.length / 2) W (by omega) (h.cut _ _ hc) (by omega) (by omega) (by omega) (fun c hc => hs c (List.mem_of_mem_drop hc))
      rw [ht] at hi1
      rw [hd, if_neg (show ¬ cap = l.length / 2 by omega)] at hi2
      have hs1 := allV_size (l := (l.take (l.length / 2)).map (·.ca)) (fun x hx => by obtain ⟨c, hc, rfl⟩ := List.mem_map.1 hx; exact hs c (List.mem_of_mem_take hc))
      have hs2 := allV_size (l := (l.drop (l.length / 2)).map (·.ca)) (fun x hx => by obtain ⟨c, hc, rfl⟩ := List.mem_map.1 hx; exact hs c (List.mem_of_mem_drop hc))
      rw [List.length_map] at hs1 hs2
      have happ : (l.map (·.ca)) = (l.take (l.length / 2)).map (·.ca) ++ (l.drop (l.length / 2)).map (·.ca) := by rw [← List.map_append, List.take_append_drop]
      rw [happ]
      generalize (l.take (l.length / 2)).map (·.ca) = x at *
      generalize (l.drop (l.length / 2)).map (·.ca) = y at *
      have HI1 := Lib.hid hi1
      have HI2 := Lib.hid hi2
      have HX := Lib.hid hx
      have hba := (Below.refl w.heap.size w).alloc (Nat.le_refl _) (.cells #[.slice none 0 0, .slice none 0 0, .slice none 0 0] 28)
      have K0 := Lib.hid (KK.new w zC (zC_ok w))
      have HX0 := Lib.hid (hx.below hba)
      clear hx ih hi1 hi2 hba happ
      cases hx1 : okA x with
      | false =>
        have hxy : okA (x ++ y) = false := by rw [okA_app, hx1]; rfl
        rw [allV_f hx1, allE_f hx1] at HI1
        rw [allV_f hxy, allE_f hxy]
        clear hx1 hxy
        go_enter Tryz.func47, Tryz.ntmps47
        go_wp2_with fail
        refine (HI1.out _ HX0.out).mono ?_
        rintro e w2 ⟨⟨z, rfl, hz, ho⟩, hb⟩
        have hBZ := (K0.out.next hb).blk (g := w.heap.size) (c := zC) (by simp)
        have HR := Lib.hid (fun o => (MadeE.fill (k := 2) (z := zC) rfl (OwnC.nil _ _) hBZ (K0.out.next hb).bel).alloc o)
        have HFA := Lib.hid (fun o => fill_alloc hBZ (.slice none 0 0) (.slice none 0 0) (.slice none 0 0) o)
        obtain ⟨r0, r1, r2, f0, f1, f2⟩ := results_zero hBZ
        have hlt := hBZ.lt
        clear hz ho hb HX0 K0 HI1 HI2 HX hBZ
        go_wp2_with fail
        obtain ⟨s0, s1, s2⟩ := HFA.out (.cells #[.slice z.V z.vs.length z.nv, .slice z.L z.ls.length z.nl, .slice z.I z.xs.length z.ni] 28)
        exact bodyPost_ret (v := .tuple #[.agg #[.slice none 0 0, .slice none 0 0, .slice none 0 0], .int .i64 2]) (by simp [results, Tryz.results47, go_sem, s0, s1, s2]) rfl (HR.out _)
      | true =>
        rw [allV_t hx1, allE_t hx1] at HI1
        rw [allV_t hx1] at hs1
        have HX1 := Lib.hid hx1
        cases hy1 : okA y with
        | false =>
          have hxy : okA (x ++ y) = false := by rw [okA_app, hy1]; simp
          rw [allV_f hy1, allE_f hy1] at HI2
          rw [allV_f hxy, allE_f hxy]
          clear hx1 hxy hy1
          go_enter Tryz.func47, Tryz.ntmps47
          go_wp2_with fail
          refine (HI1.out _ HX0.out).mono ?_
          rintro e w2 ⟨⟨z, rfl, hz, ho⟩, hb⟩
          have K1 := Lib.hid (KK.push (K0.out.next hb) z ho.ok _ rfl)
          have HX2 := Lib.hid ((HX0.out.below hb).below ((Below.refl _ _).alloc (Nat.le_refl _) (.cells #[z.v, z.l, z.i] 28)))
          clear hz ho hb HX0 K0 HI1 HX
          go_wp2_with fail
          refine (HI2.out _ HX2.out).mono ?_
          rintro e w4 ⟨⟨z2, rfl, hz, ho⟩, hb⟩
          have hBZ := (K1.out.next hb).blk (g := w.heap.size) (c := zC) (by simp)
          have HR := Lib.hid (fun o => (MadeE.fill (k := 2) (z := zC) rfl (OwnC.nil _ _) hBZ (K1.out.next hb).bel).alloc o)
          have HFA := Lib.hid (fun o => fill_alloc hBZ (.slice none 0 0) (.slice none 0 0) (.slice none 0 0) o)
          obtain ⟨r0, r1, r2, f0, f1, f2⟩ := results_zero hBZ
          have hlt := hBZ.lt
          clear hz ho hb HX2 K1 HI2 hBZ
          go_wp2_with fail
          obtain ⟨s0, s1, s2⟩ := HFA.out (.cells #[.slice z2.V z2.vs.length z2.nv, .slice z2.L z2.ls.length z2.nl, .slice z2.I z2.xs.length z2.ni] 28)
          exact bodyPost_ret (v := .tuple #[.agg #[.slice none 0 0, .slice none 0 0, .slice none 0 0], .int .i64 2]) (by simp [results, Tryz.results47, go_sem, s0, s1, s2]) rfl (HR.out _)
        | true =>
          obtain ⟨e1, e2⟩ := allV_app hx1 hy1
          have hxy : okA (x ++ y) = true := by rw [okA_app, hx1, hy1]; rfl
          have HY1 := Lib.hid hy1
          rw [allV_t hx1, allV_t hy1] at e1 e2
          rw [allV_t hy1, allE_t hy1] at HI2
          rw [allV_t hy1] at hs2
          rw [allE_t hxy, ← e1]
          have hjj := fun (z z2 : CaV) W (hz : z.ca = allK x) (hz2 : z2.ca = allK y) (h : CaOK W z) (h' : CaOK W z2) => joJoin z z2 (l.take (l.length / 2)).length (l.drop (l.length / 2)).length W h h' (hz ▸ hs1) (hz2 ▸ hs2) (by omega) (by omega)
          have hjj2 := fun (z z2 : CaV) W (hz : z.ca = allK x) (hz2 : z2.ca = allK y) (h : CaOK W z) (h' : CaOK W z2) => show Calls Tryz.prog 13 #[mkC z, mkC z2] W (MadeE (joinV (allK x) (allK y)) 0 W) from by
            have := hjj z z2 W hz hz2 h h'
            rw [hz, hz2, e2] at this
            exact this
          have HJ := Lib.hid hjj2
          generalize joinV (allK x) (allK y) = xy at *
          clear hx1 hxy hy1 e1 e2 hjj hjj2 HX1 HY1
          go_enter Tryz.func47, Tryz.ntmps47
          go_wp2_with fail
          refine (HI1.out _ HX0.out).mono ?_
          rintro e w2 ⟨⟨z, rfl, hz, ho⟩, hb⟩
          have K1 := Lib.hid (KK.push (K0.out.next hb) z ho.ok _ rfl)
          have HX2 := Lib.hid ((HX0.out.below hb).below ((Below.refl _ _).alloc (Nat.le_refl _) (.cells #[z.v, z.l, z.i] 28)))
          have HZ := Lib.hid hz
          clear hz ho hb HX0 K0 HI1 HX
          go_wp2_with fail
          obtain ⟨g1, hg1⟩ : ∃ g, w2.heap.size = g := ⟨_, rfl⟩
          rw [hg1] at K1 ⊢
          refine (HI2.out _ HX2.out).mono ?_
          rintro e w4 ⟨⟨z2, rfl, hz, ho⟩, hb⟩
          have K2 := Lib.hid (KK.push (K1.out.next hb) z2 ho.ok _ rfl)
          have hB1 := (K1.out.next hb).blk (g := g1) (c := z) (by simp)
          have t0 := hB1.cell0
          have t1 := hB1.cell1
          have t2 := hB1.cell2
          have tl := hB1.lt
          have HZ2 := Lib.hid hz
          clear hz ho hb HX2 K1 HI2 hB1 hg1
          go_wp2_with fail
          refine (HJ.out z z2 _ HZ.out HZ2.out (K2.out.ok (g := g1) (by simp)) (K2.out.ok (g := w4.heap.size) (by simp))).mono ?_
          rintro e w6 ⟨⟨z3, rfl, hz, ho⟩, hb⟩
          have hBZ := (K2.out.next hb).blk (g := w.heap.size) (c := zC) (by simp)
          have HR := Lib.hid (MadeE.fill (k := 0) hz (ho.le K2.out.bel.size) hBZ (K2.out.next hb).bel)
          have HFA := Lib.hid (fill_cells hBZ z3.v z3.l z3.i)
          obtain ⟨r0, r1, r2, f0, f1, f2⟩ := results_zero hBZ
          have hlt := hBZ.lt
          clear hz ho hb K2 HJ hBZ t0 t1 t2 tl HZ HZ2
          go_wp2_with fail
          obtain ⟨s0, s1, s2⟩ := HFA.out
          exact bodyPost_ret (v := .tuple #[.agg #[z3.v, z3.l, z3.i], .int .i64 0]) (by simp [results, Tryz.results47, go_sem, s0, s1, s2]) rfl HR.out

end

section
open Go.RowKit
open Go.ChangeShapes Go.WideShapes Go.ChangeAt

set_option maxRecDepth 1000000

section
variable {H : Type} {enc : TypeId × Value → H} {W : World} {base b0 : Nat} {spare : Nat → Bool} {held : Bool} {v : Value} {d : DataW H} {p : List MemPlace} {t : TypeId}
/-- The three cells of a cart. -/
theorem open_cartC {fuel : Nat} {x : DataW H × List MemPlace} {v0 v1 v2 : Value} (h : DataW.trod enc Tryz.prog W base spare held fuel 28 [v0, v1, v2] = some x) :
    ∃ c : CaV, v0 = c.v ∧ v1 = c.l ∧ v2 = c.i ∧ CaOK W c := by
  obtain ⟨xs, k, hk, _, _, hxl, hfd⟩ := DataW.trod_struct Tryz.underlying28 h
  match xs, hxl with
  | [y0, y1], _ =>
    have g0 := hfd 0 _ rfl
    have g1 := hfd 1 _ rfl
    have c0 : Tryz.prog.cellsOf 25 = 2 := by kernel_rfl
    have c1 : Tryz.prog.cellsOf 26 = 1 := by kernel_rfl
    have c2 : Tryz.prog.cellsOf 23 = 1 := by kernel_rfl
    have c3 : Tryz.prog.cellsOf 22 = 1 := by kernel_rfl
    simp [c0, c1] at g0 g1
    obtain ⟨zs, k2, hk2, _, _, hzl, hgd⟩ := DataW.trod_struct Tryz.underlying25 g0
    match zs, hzl with
    | [z0, z1], _ =>
      have q0 := hgd 0 _ rfl
      have q1 := hgd 1 _ rfl
      simp [c2, c3] at q0 q1
      obtain ⟨A, a, us, rfl, hA⟩ := open_dotsF Tryz.underlying23 q0
      obtain ⟨B, b, ls, rfl, hB⟩ := open_dotsF Tryz.underlying22 q1
      obtain ⟨ys, hY, _⟩ := open_itemsF Tryz.underlying26 g1
      obtain ⟨C, c, rfl, hc⟩ := hY
      exact ⟨⟨A, a, us.map (·.1), B, b, ls.map (·.1), C, c, ys⟩, rfl, rfl, rfl, hA, hB, C, c, rfl, hc⟩
theorem open_cartsT (ht : Tryz.prog.underlying t = some (.slice 28)) (hv : Value.okWide Tryz.prog W .any b0 t v) (h : DataW.Trod enc Tryz.prog W base spare held t v d p) :
    ∃ (A : Option Addr) (cap : Nat) (cs : List CaV), v = .slice A cs.length cap ∧ CartsAt W A cs ∧ cs.length ≤ cap ∧ cap ≤ maxLen := by
  obtain ⟨a0, len0, cap0, rfl⟩ := okWide_slice ht hv
  obtain ⟨fuel, hf⟩ := h
  have hf : DataW.trod enc Tryz.prog W base spare held fuel t [.slice a0 len0 cap0] = some (d, p) := by simpa [Value.cells] using hf
  rcases Go.Deep.open_slice ht hf with ⟨hcs, _⟩ | ⟨a, len, cap, m, n, D, Pl, hcs, hb, hl, hm, hmm, _, hx⟩
  · have e : Value.slice a0 len0 cap0 = .slice none 0 0 := by simpa using hcs
    exact ⟨none, 0, [], e, ⟨SlAt.nil, fun p hp => by cases hp⟩, by simp, by simp [maxLen]⟩
  · have e0 : Value.slice a0 len0 cap0 = .slice (some a) len cap := by simpa using hcs
    have hlm : len ≤ m := by rw [hmm]; split <;> omega
    have each : ∀ i, ∃ y : CaV, i < len → W.cell? (a.add (i * 3)) = some y.v ∧ W.cell? (a.add (i * 3 + 1)) = some y.l ∧ W.cell? (a.add (i * 3 + 2)) = some y.i ∧ CaOK W y := by
      intro i
      by_cases hi : i < len
      · obtain ⟨cs', h1, h2⟩ := hx i (by omega)
        rw [show Tryz.prog.cellsOf 28 = 3 from by kernel_rfl] at h1
        obtain ⟨_, hlen, hcell⟩ := World.cells?_some h1
        match cs', hlen with
        | [v0, v1, v2], _ =>
          have e0 := hcell 0 (by omega)
          have e1 := hcell 1 (by omega)
          have e2 := hcell 2 (by omega)
          rw [Go.Deep.add_add] at e0 e1 e2
          obtain ⟨y, q0, q1, q2, hok⟩ := open_cartC h2
          exact ⟨y, fun _ => ⟨by simpa [q0] using e0, by simpa [q1] using e1, by simpa [q2] using e2, hok⟩⟩
      · exact ⟨zC, fun h => absurd h hi⟩
    obtain ⟨q, hq⟩ := Classical.axiomOfChoice each
    have hlen : ((List.range len).map q).length = len := by simp
    refine ⟨some a, cap, (List.range len).map q, by rw [hlen]; exact e0, ⟨?_, ?_⟩, by rw [hlen]; exact hl, hm⟩
    · intro hpos
      rw [hlen] at hpos
      obtain ⟨b, off, spot⟩ := a
      have hspot : spot = none := by simpa [Addr.add] using World.cell?_spot (hq 0 hpos).1
      subst hspot
      refine ⟨b, off, rfl, block_of_cell (hq 0 hpos).1, ?_⟩
      intro j x hjx i u hiu
      have hj : j < len := by
        rcases Nat.lt_or_ge j len with h | h
        · exact h
        · rw [List.getElem?_eq_none (by rw [hlen]; exact h)] at hjx; cases hjx
      have hxq : x = q j := by
        rw [List.getElem?_map, List.getElem?_range hj] at hjx
        exact (Option.some.inj hjx).symm
      subst hxq
      obtain ⟨g0, g1, g2, _⟩ := hq j hj
      rw [add_plain] at g0 g1 g2
      match i, hiu with
      | 0, hiu =>
        have e : (q j).v = u := Option.some.inj hiu
        rw [← e, ← g0]; rfl
      | 1, hiu =>
        have e : (q j).l = u := Option.some.inj hiu
        rw [← e, ← g1]; rfl
      | 2, hiu =>
        have e : (q j).i = u := Option.some.inj hiu
        rw [← e, ← g2]; rfl
      | i + 3, hiu => exact absurd hiu (by simp [encCa])
    · intro y hy
      obtain ⟨j, hj, rfl⟩ := List.mem_map.1 hy
      exact (hq j (List.mem_range.1 hj)).2.2.2
end

end

end Go.Proofs.YtfjbocipjmpogaaGreat
