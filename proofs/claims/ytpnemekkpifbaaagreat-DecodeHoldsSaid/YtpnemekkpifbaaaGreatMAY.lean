/- Several texts in one: CanJ. -/
import Derived.Test.YtpnemekkpifbaaaGreatMAX
namespace Go.Proofs.YtpnemekkpifbaaaGreat

section
open Go.RowKit

set_option maxHeartbeats 1000000 in
theorem refSameDots14 (A B : Option Addr) (xs ys : List (Int × Int)) (cap cap' : Nat) (w : World) (hx : DotsAt w A xs) (hy : DotsAt w B ys) (hm : xs.length ≤ maxLen) (_ : ys.length ≤ maxLen) :
    Calls Tryz.prog 62 #[.slice A xs.length cap, .slice B ys.length cap'] w fun e w' => e = .returned (.bool (decide (xs = ys))) ∧ Below w.heap.size w w' := by
  unfold maxLen at hm
  by_cases hl : xs.length = ys.length
  · have hl' : ((xs.length : Int) != (ys.length : Int)) = false := by simp [hl]
    have HL := Lib.hid hl; clear hl
    go_enter Tryz.func62, Tryz.ntmps62
    go_wp2
    go_loopw [5] (fun i wr => ∃ m : Nat, m ≤ xs.length ∧ i = .int .i64 m ∧ Below w.heap.size w wr ∧ Hid (SameTo xs ys m)) (fun i _ => xs.length - (intOf i).toNat)
    case atStart => exact ⟨0, by omega, rfl, Below.refl _ _, fun j h => by omega⟩
    case round =>
      obtain ⟨m, hk2, rfl, hb, hs⟩ := hrel
      by_cases hlt : m < xs.length
      · obtain ⟨b, off, r, c, rfl, hbl, hx1, hc0, hc1⟩ := (hx.below hb).dot (j := m) (by omega)
        obtain ⟨b', off', r', c', rfl, hbl', hx2, hd0, hd1⟩ := (hy.below hb).dot (j := m) (by have := HL.out; omega)
        have hlt2 : m < ys.length := by have := HL.out; omega
        have l0 := fun p => cell_far (p := p) hbl hc0
        have l1 := fun p => cell_far (p := p) hbl hc1
        have l2 := fun p => cell_far (p := p) hbl' hd0
        have l3 := fun p => cell_far (p := p) hbl' hd1
        clear hc0 hc1 hd0 hd1
        have HX1 := Lib.hid hx1; clear hx1
        have HX2 := Lib.hid hx2; clear hx2
        by_cases hq : r = r' ∧ c = c'
        · obtain ⟨rfl, rfl⟩ := hq
          go_wp2
          refine wp_region_far (by kernel_rfl) (by kernel_rfl) ?_
          repeat (go_big_quiet_step ((fail)))
          refine wpQuiet_nil ?_
          rintro _ ⟨p, rfl⟩
          go_wp2
          go_roundw
          case rel => 
            refine ⟨m + 1, by omega, by go_num, hb.trans ((below_far wr p).mono hb.size), (show Hid _ from fun j hj => ?_)⟩
            by_cases e : j = m
            · subst e; rw [HX1.out, HX2.out]
            · exact hs.out j (by omega)
          case measure => simp [intOf]; omega
        · have hne : ¬ xs = ys := fun e => by
            have h1 := HX1.out
            have h2 := HX2.out
            rw [e, h2] at h1
            cases h1
            exact hq ⟨rfl, rfl⟩
          have HN := Lib.hid hne; clear hne
          by_cases hr : r = r'
          · by_cases hc : c = c'
            · exact absurd ⟨hr, hc⟩ hq
            · clear hq
              subst hr
              go_wp2
              refine wp_region_far (by kernel_rfl) (by kernel_rfl) ?_
              repeat (go_big_quiet_step ((fail)))
              refine wpQuiet_nil ?_
              rintro _ ⟨p, rfl⟩
              go_wp2
              go_ret
              exact ⟨ret_bool (by simp [HN.out]), hb.trans ((below_far wr p).mono hb.size)⟩
          · clear hq
            go_wp2
            refine wp_region_far (by kernel_rfl) (by kernel_rfl) ?_
            repeat (go_big_quiet_step ((fail)))
            refine wpQuiet_nil ?_
            rintro _ ⟨p, rfl⟩
            go_wp2
            go_ret
            exact ⟨ret_bool (by simp [HN.out]), hb.trans ((below_far wr p).mono hb.size)⟩
      · go_wp2
        go_ret
        refine ⟨ret_bool ?_, hb⟩
        have : xs = ys := List.ext_getElem? fun j => by
          by_cases e : j < m
          · exact hs.out j e
          · have := HL.out
            rw [List.getElem?_eq_none (by omega), List.getElem?_eq_none (by omega)]
        simp [this]
  · have hl' : ((xs.length : Int) != (ys.length : Int)) = true := by
      simp only [bne_iff_ne]
      omega
    have HL := Lib.hid hl; clear hl
    go_enter Tryz.func62, Tryz.ntmps62
    go_wp2
    go_ret
    refine ⟨ret_bool ?_, Below.refl _ _⟩
    have : ¬ xs = ys := fun e => HL.out (by rw [e])
    simp [this]

theorem refSameDots_h (v u : Value) (xs ys : List (Int × Int)) (b : Bool) (w : World) (h : Holds w v xs) (k : Holds w u ys) (hb : decide (xs = ys) = b) : Calls Tryz.prog 62 #[v, u] w (OneB (.bool b) w) := by
  obtain ⟨A, c, rfl, h1, h2, h3⟩ := h
  obtain ⟨B, d, rfl, k1, k2, k3⟩ := k
  subst hb
  exact refSameDots14 A B xs ys c d w h1 k1 (by omega) (by omega)

/-- Two items are put into boxes. -/
def smX (g h : Nat) (A B : Option Addr) (n c n' c' k b off b' off' : Nat) (x y : ItV) : Nat → Option Value
  | 0 => some (.pointer (some ⟨g, 2, none⟩))
  | 1 => some (.slice A n c)
  | 2 => some (.int .i64 (k : Int))
  | 3 => some (.pointer (some ⟨b, off + k * 2, none⟩))
  | 4 => some (mkIt x)
  | 5 => some (.pointer (some ⟨h, 2, none⟩))
  | 6 => some (.slice B n' c')
  | 7 => some (.int .i64 (k : Int))
  | 8 => some (.pointer (some ⟨b', off' + k * 2, none⟩))
  | 9 => some (mkIt y)
  | _ => none
def smB : Nat → Option Nat
  | 12 => some 10
  | 13 => some 11
  | _ => none
def smP (E : Nat) (kn : Nat → Option Value) (j : Nat) (v : Value) (W : World) : Prop := (∀ u, kn j = some u → v = u) ∧ ((j = 10 ∨ j = 11) → ∃ b, ∃ d : ItV, v = ptr0 b ∧ E ≤ b ∧ BlkI W b d)
def smQ (x y : ItV) (j : Nat) (v : Value) (W : World) : Prop := (j = 12 → ∃ b, v = ptr0 b ∧ BlkI W b x) ∧ (j = 13 → ∃ b, v = ptr0 b ∧ BlkI W b y)
abbrev smS (E : World) (kn : Nat → Option Value) (x y : ItV) : RegS := ⟨smB, BelW, fun _ W => Below E.heap.size E W, smP E.heap.size kn, smQ x y⟩
theorem sm_keep {E : World} {kn : Nat → Option Value} {x y : ItV} {L : Nat → Bool} {W W' : World} (h : Below E.heap.size E W) (hb : BelW W W') : KeepsR (smS E kn x y) L W W' ∧ Below E.heap.size E W' := by
  refine ⟨⟨fun j v _ hp => ⟨hp.1, fun hj => ?_⟩, fun j v _ hq => ⟨fun hj => ?_, fun hj => ?_⟩⟩, below_trans h hb⟩
  · obtain ⟨b, d, e, h1, h2⟩ := hp.2 hj
    exact ⟨b, d, e, h1, h2.below hb⟩
  · obtain ⟨b, e, h2⟩ := hq.1 hj
    exact ⟨b, e, h2.below hb⟩
  · obtain ⟨b, e, h2⟩ := hq.2 hj
    exact ⟨b, e, h2.below hb⟩
theorem ptr0_inj {b b' : Nat} (h : ptr0 b = ptr0 b') : b = b' := by injection h with h; injection h with h; injection h
theorem smB_val {m k : Nat} (h : smB m = some k) : (m = 12 ∧ k = 10) ∨ (m = 13 ∧ k = 11) := by
  unfold smB at h
  split at h
  · exact .inl ⟨rfl, (Option.some.inj h).symm⟩
  · exact .inr ⟨rfl, (Option.some.inj h).symm⟩
  · cases h
/-- A box of an item is filled. -/
theorem store_item {W : World} {b : Nat} {d z : ItV} (hB : BlkI W b d) : OnlyB b W ((W.setCell ⟨b, 0, none⟩ (.string ⟨z.nm.toArray⟩)).setCell ⟨b, 1, none⟩ (.slice z.A z.ms.length z.c)) ∧ BlkI ((W.setCell ⟨b, 0, none⟩ (.string ⟨z.nm.toArray⟩)).setCell ⟨b, 1, none⟩ (.slice z.A z.ms.length z.c)) b z := by
  refine ⟨(OnlyB.setCell W b 0 _).trans (OnlyB.setCell _ b 1 _), ?_⟩
  have e1 : (W.setCell ⟨b, 0, none⟩ (.string ⟨z.nm.toArray⟩)).heap[b]? = some (.cells #[.string ⟨z.nm.toArray⟩, .slice d.A d.ms.length d.c] 57 (0, 0)) := by
    show (W.heap.modify b _)[b]? = _
    rw [Array.getElem?_modify, if_pos rfl, show W.heap[b]? = _ from hB]
    rfl
  show ((W.setCell ⟨b, 0, none⟩ (.string ⟨z.nm.toArray⟩)).heap.modify b _)[b]? = _
  rw [Array.getElem?_modify, if_pos rfl, e1]
  rfl
theorem sm_region {P : Program} {Q : Exit → Act → World → Prop} {a0 : Act} {w0 : World} {id : Nat} {l : List Oper} {kn : Nat → Option Value} {x y : ItV} (hm : P.follows .mixedOrders = true) (ht : topoB l.toArray = true) (hap : apartB l.toArray = true) (hsz : ∀ j d, dstOf l.toArray j = some d → d < a0.tmps.size)
    (hbd : dstOf l.toArray 12 = none ∧ dstOf l.toArray 13 = none) (hst : StepsR P l.toArray Q a0 (smS w0 kn x y) 0 l) (hf : ∀ a w L, (∀ j, j < l.toArray.size → L j = true) → InvR l.toArray a0 (smS w0 kn x y) L a w → Q .normal a w) : (Code.region id l.toArray true).wp P Q a0 w0 := by
  refine wp_region_R (S := smS w0 kn x y) hm ht hap hsz (fun j k h => ?_) (fun j j' k h h' => ?_) (Below.refl _ _).drew (fun j k v w h h1 => ?_) (fun L j v w w' m k b _ hb hk ho hq h => ?_) (fun L j v w w' m k b _ hb hk ho hne h => ?_) hst fun a w L hL hI => hf a w L hL hI
  · rcases smB_val h with ⟨rfl, _⟩ | ⟨rfl, _⟩
    · exact hbd.1
    · exact hbd.2
  · rcases smB_val h with ⟨rfl, rfl⟩ | ⟨rfl, rfl⟩ <;> rcases smB_val h' with ⟨rfl, e⟩ | ⟨rfl, e⟩ <;> first | rfl | cases e
  · have hk : k = 10 ∨ k = 11 := by rcases smB_val h with ⟨_, rfl⟩ | ⟨_, rfl⟩ <;> simp
    obtain ⟨b, d, e, _, h2⟩ := h1.2 hk
    exact ⟨b, e, h2.lt⟩
  · refine ⟨h.1, fun hj => ?_⟩
    obtain ⟨b1, d, e, h1, h2⟩ := h.2 hj
    by_cases hbb : b1 = b
    · subst hbb
      have hz : ∃ z, BlkI w' b1 z := by
        rcases smB_val hb with ⟨rfl, _⟩ | ⟨rfl, _⟩
        · obtain ⟨b2, e2, h3⟩ := hq.1 rfl
          cases ptr0_inj e2
          exact ⟨x, h3⟩
        · obtain ⟨b2, e2, h3⟩ := hq.2 rfl
          cases ptr0_inj e2
          exact ⟨y, h3⟩
      obtain ⟨z, hz⟩ := hz
      exact ⟨b1, z, e, h1, hz⟩
    · exact ⟨b1, d, e, h1, (ho.block b1 hbb).trans h2⟩
  · refine ⟨fun hj => ?_, fun hj => ?_⟩
    · obtain ⟨b1, e, h2⟩ := h.1 hj
      exact ⟨b1, e, (ho.block b1 (fun e2 => hne (by rw [e, e2]))).trans h2⟩
    · obtain ⟨b1, e, h2⟩ := h.2 hj
      exact ⟨b1, e, (ho.block b1 (fun e2 => hne (by rw [e, e2]))).trans h2⟩
theorem neqMarkE (a b : Mk) (z : Bool) (h : decide (a = b) = z) (w : World) : (binOp .neq 54 (.agg #[.int .i64 a.r, .int .i64 a.c, .int .i64 a.q, .int .u64 (a.t : Int)]) (.agg #[.int .i64 b.r, .int .i64 b.c, .int .i64 b.q, .int .u64 (b.t : Int)])).run Tryz.prog w = .ok (.bool (!z)) w := by
  subst h; exact neqMark a b w

set_option maxRecDepth 100000 in
set_option maxHeartbeats 4000000 in
theorem refSame14 (c d : CaV) (z : Bool) (w : World) (hc : CaOK w c) (hd : CaOK w d) (hl : c.xs.length ≤ 1000000) (_ : d.xs.length ≤ 1000000) (hms : ∀ x ∈ c.xs, x.ms.length ≤ 1000000) (hz : sameC c.ca d.ca = z) :
    Calls Tryz.prog 35 #[mkC c, mkC d] w (OneB (.bool z) w) := by
  have h1 : Below w.heap.size w (w.alloc (.cells #[c.v, c.l, c.i] 31)) := (Below.refl _ w).alloc (Nat.le_refl _) _
  have HK := Lib.hid (KK.push (L := [(w.heap.size, c)]) (KK.new w c hc) d (hd.below h1) (w.heap.size + 1) (by simp))
  obtain ⟨p, hp⟩ : ∃ p, decide (c.vs = d.vs) = p := ⟨_, rfl⟩
  obtain ⟨q, hq⟩ : ∃ q, decide (c.ls = d.ls) = q := ⟨_, rfl⟩
  obtain ⟨r, hr⟩ : ∃ r, decide (its c.xs = its d.xs) = r := ⟨_, rfl⟩
  have HP := Lib.hid hp
  have HQ := Lib.hid hq
  have HR := Lib.hid hr
  have HZ := Lib.hid (show z = ((p && q) && r) from by rw [← hz, ← hp, ← hq, ← hr]; rfl)
  have HMS := Lib.hid hms
  clear hc hd h1 hp hq hr hz hms
  go_enter Tryz.func35, Tryz.ntmps35
  go_wp2_with fail
  generalize World.alloc (World.alloc w _) _ = w2 at HK ⊢
  obtain ⟨x0, x1, x2, y0, y1, y2, xl, yl, _⟩ := HK.out.sp2
  go_wp2_with fail
  refine (refSameDots_h _ _ c.vs d.vs p w2 (HK.out.ok (g := w.heap.size) (by simp)).1 (HK.out.ok (g := w.heap.size + 1) (by simp)).1 HP.out).mono ?_
  rintro e w3 ⟨rfl, hb⟩
  clear x0 x1 x2 y0 y1 y2 xl yl
  replace HK := Lib.hid (HK.out.next hb)
  clear hb
  obtain ⟨x0, x1, x2, y0, y1, y2, xl, yl, _⟩ := HK.out.sp2
  cases p with
  | false =>
    obtain rfl : z = false := by rw [HZ.out]; rfl
    go_wp2_with fail
    go_ret
    exact ⟨rfl, HK.out.bel⟩
  | true =>
    go_wp2_with fail
    refine (refSameDots_h _ _ c.ls d.ls q w3 (HK.out.ok (g := w.heap.size) (by simp)).2.1 (HK.out.ok (g := w.heap.size + 1) (by simp)).2.1 HQ.out).mono ?_
    rintro e w4 ⟨rfl, hb⟩
    clear x0 x1 x2 y0 y1 y2 xl yl
    replace HK := Lib.hid (HK.out.next hb)
    clear hb
    obtain ⟨x0, x1, x2, y0, y1, y2, xl, yl, _⟩ := HK.out.sp2
    cases q with
    | false =>
      obtain rfl : z = false := by rw [HZ.out]; rfl
      go_wp2_with fail
      go_ret
      exact ⟨rfl, HK.out.bel⟩
    | true =>
      by_cases hlen : c.xs.length = d.xs.length
      · have j0 : ((c.xs.length : Int) != (d.xs.length : Int)) = false := by simp [hlen]
        have HLE := Lib.hid hlen
        clear hlen
        go_wp2_with fail
        clear x0 x1 x2 y0 y1 y2 xl yl
        go_loopw [5] (fun i wr => ∃ m : Nat, m ≤ c.xs.length ∧ i = .int .i64 m ∧ Hid (KK w [(w.heap.size, c), (w.heap.size + 1, d)] wr) ∧ Hid (∀ j, j < m → (its c.xs)[j]? = (its d.xs)[j]?)) (fun i _ => c.xs.length - (intOf i).toNat)
        case atStart => exact ⟨0, by omega, rfl, HK, Lib.hid (fun j h => by omega)⟩
        case round =>
          clear HK
          obtain ⟨m, hm, rfl, HK, HS⟩ := hrel
          by_cases hlt : m < c.xs.length
          · have i0 : (m : Int) < (c.xs.length : Int) := by omega
            have hlt2 : m < d.xs.length := by have := HLE.out; omega
            obtain ⟨I1, i1, eI1, hX1, _, _⟩ := (HK.out.ok (g := w.heap.size) (c := c) (by simp)).2.2
            obtain ⟨I2, i2, eI2, hX2, _, _⟩ := (HK.out.ok (g := w.heap.size + 1) (c := d) (by simp)).2.2
            obtain ⟨rfl, _, rfl⟩ : c.I = I1 ∧ True ∧ c.ni = i1 := by injection eI1 with a1 a2 a3; exact ⟨a1, trivial, a3⟩
            obtain ⟨rfl, _, rfl⟩ : d.I = I2 ∧ True ∧ d.ni = i2 := by injection eI2 with a1 a2 a3; exact ⟨a1, trivial, a3⟩
            obtain ⟨b, off, x, hIA, hbl, hx1, hxe, hc0, hc1, hokx⟩ := hX1.cells (j := m) hlt
            obtain ⟨b', off', y, hIB, hbl', hy1, hye, hd0, hd1, hoky⟩ := hX2.cells (j := m) hlt2
            clear eI1 eI2 hxe hye hX1 hX2
            have HCX := Lib.hid fun (W : World) (hW : Below wr.heap.size wr W) => (show W.cell? ⟨b, off + m * 2, none⟩ = some (.string ⟨x.nm.toArray⟩) ∧ W.cell? ⟨b, off + m * 2 + 1, none⟩ = some (.slice x.A x.ms.length x.c) from ⟨(hW.cell (p := ⟨b, off + m * 2, none⟩) hbl).trans hc0, (hW.cell (p := ⟨b, off + m * 2 + 1, none⟩) hbl).trans hc1⟩)
            have HCY := Lib.hid fun (W : World) (hW : Below wr.heap.size wr W) => (show W.cell? ⟨b', off' + m * 2, none⟩ = some (.string ⟨y.nm.toArray⟩) ∧ W.cell? ⟨b', off' + m * 2 + 1, none⟩ = some (.slice y.A y.ms.length y.c) from ⟨(hW.cell (p := ⟨b', off' + m * 2, none⟩) hbl').trans hd0, (hW.cell (p := ⟨b', off' + m * 2 + 1, none⟩) hbl').trans hd1⟩)
            have HIA := Lib.hid hIA
            have HIB := Lib.hid hIB
            have HX1 := Lib.hid hx1
            have HY1 := Lib.hid hy1
            have HXO := Lib.hid hokx.1
            have HYO := Lib.hid hoky.1
            have HMX := Lib.hid (HMS.out x (List.mem_of_getElem? hx1))
            obtain ⟨x0, x1, x2, y0, y1, y2, xl, yl, _⟩ := HK.out.sp2
            clear hc0 hc1 hd0 hd1 hx1 hy1 hokx hoky hIA hIB hbl hbl'
            go_upto_region 6 with fail
            clear x0 x1 x2 y0 y1 y2 xl yl
            refine sm_region (kn := (smX w.heap.size (w.heap.size + 1) c.I d.I c.xs.length c.ni d.xs.length d.ni m b off b' off' x y)) (x := x) (y := y) (by kernel_rfl) (by kernel_rfl) (by kernel_rfl) (dst_small (n := 85) (by kernel_rfl)) ⟨by kernel_rfl, by kernel_rfl⟩ ?_ ?_
            · have hnb : ∀ {k : Nat}, k ≠ 10 → k ≠ 11 → ∀ j, smB j ≠ some k := fun h1 h2 j h => by rcases smB_val h with ⟨_, e⟩ | ⟨_, e⟩ <;> omega
              refine ⟨?_, ?_, ?_, ?_, ?_, ?_, ?_, ?_, ?_, ?_, ?_, ?_, ?_, ?_, trivial⟩
              · refine StepR.pure rfl rfl (hnb (by decide) (by decide)) (fun W => Below.refl _ W) (fun _ _ _ h hb => sm_keep h hb) fun L a W hI hk hd => ?_
                have e2 : a.tmps[2]?.getD undef = .pointer (some ⟨w.heap.size, 0, none⟩) := hI.at 2 (by kernel_rfl)
                exact ⟨rfl, .pointer (some ⟨w.heap.size, 2, none⟩), by go_simp, fun u hu => Option.some.inj hu, fun h => by rcases h with h | h <;> cases h⟩
              · refine StepR.pure rfl rfl (hnb (by decide) (by decide)) (fun W => Below.refl _ W) (fun _ _ _ h hb => sm_keep h hb) fun L a W hI hk hd => ?_
                obtain ⟨_, e43, hp43⟩ := hI.get 0 43 (hd 0 rfl) rfl
                rw [hp43.1 _ rfl] at e43
                obtain ⟨x0, x1, x2, y0, y1, y2, xl, yl, _⟩ := (HK.out.next hI.glob).sp2
                exact ⟨rfl, .slice c.I c.xs.length c.ni, by go_simp, fun u hu => Option.some.inj hu, fun h => by rcases h with h | h <;> cases h⟩
              · refine StepR.pure rfl rfl (hnb (by decide) (by decide)) (fun W => Below.refl _ W) (fun _ _ _ h hb => sm_keep h hb) fun L a W hI hk hd => ?_
                have e5 : a.tmps[5]?.getD undef = .int .i64 (m : Int) := hI.at 5 (by kernel_rfl)
                exact ⟨rfl, .int .i64 (m : Int), by go_simp, fun u hu => Option.some.inj hu, fun h => by rcases h with h | h <;> cases h⟩
              · refine StepR.pure rfl rfl (hnb (by decide) (by decide)) (fun W => Below.refl _ W) (fun _ _ _ h hb => sm_keep h hb) fun L a W hI hk hd => ?_
                obtain ⟨_, e44, hp44⟩ := hI.get 1 44 (hd 1 rfl) rfl
                rw [hp44.1 _ rfl] at e44
                obtain ⟨_, e45, hp45⟩ := hI.get 2 45 (hd 2 rfl) rfl
                rw [hp45.1 _ rfl] at e45
                have hI2 := HIA.out
                rw [hI2] at e44
                exact ⟨rfl, .pointer (some ⟨b, off + m * 2, none⟩), by go_simp, fun u hu => Option.some.inj hu, fun h => by rcases h with h | h <;> cases h⟩
              · refine StepR.pure rfl rfl (hnb (by decide) (by decide)) (fun W => Below.refl _ W) (fun _ _ _ h hb => sm_keep h hb) fun L a W hI hk hd => ?_
                obtain ⟨_, e46, hp46⟩ := hI.get 3 46 (hd 3 rfl) rfl
                rw [hp46.1 _ rfl] at e46
                obtain ⟨c0, c1⟩ := HCX.out W hI.glob
                exact ⟨rfl, mkIt x, by go_simp, fun u hu => Option.some.inj hu, fun h => by rcases h with h | h <;> cases h⟩
              · refine StepR.pure rfl rfl (hnb (by decide) (by decide)) (fun W => Below.refl _ W) (fun _ _ _ h hb => sm_keep h hb) fun L a W hI hk hd => ?_
                have e3 : a.tmps[3]?.getD undef = .pointer (some ⟨w.heap.size + 1, 0, none⟩) := hI.at 3 (by kernel_rfl)
                exact ⟨rfl, .pointer (some ⟨w.heap.size + 1, 2, none⟩), by go_simp, fun u hu => Option.some.inj hu, fun h => by rcases h with h | h <;> cases h⟩
              · refine StepR.pure rfl rfl (hnb (by decide) (by decide)) (fun W => Below.refl _ W) (fun _ _ _ h hb => sm_keep h hb) fun L a W hI hk hd => ?_
                obtain ⟨_, e48, hp48⟩ := hI.get 5 48 (hd 5 rfl) rfl
                rw [hp48.1 _ rfl] at e48
                obtain ⟨x0, x1, x2, y0, y1, y2, xl, yl, _⟩ := (HK.out.next hI.glob).sp2
                exact ⟨rfl, .slice d.I d.xs.length d.ni, by go_simp, fun u hu => Option.some.inj hu, fun h => by rcases h with h | h <;> cases h⟩
              · refine StepR.pure rfl rfl (hnb (by decide) (by decide)) (fun W => Below.refl _ W) (fun _ _ _ h hb => sm_keep h hb) fun L a W hI hk hd => ?_
                have e5 : a.tmps[5]?.getD undef = .int .i64 (m : Int) := hI.at 5 (by kernel_rfl)
                exact ⟨rfl, .int .i64 (m : Int), by go_simp, fun u hu => Option.some.inj hu, fun h => by rcases h with h | h <;> cases h⟩
              · refine StepR.pure rfl rfl (hnb (by decide) (by decide)) (fun W => Below.refl _ W) (fun _ _ _ h hb => sm_keep h hb) fun L a W hI hk hd => ?_
                obtain ⟨_, e49, hp49⟩ := hI.get 6 49 (hd 6 rfl) rfl
                rw [hp49.1 _ rfl] at e49
                obtain ⟨_, e50, hp50⟩ := hI.get 7 50 (hd 7 rfl) rfl
                rw [hp50.1 _ rfl] at e50
                have hI2 := HIB.out
                rw [hI2] at e49
                exact ⟨rfl, .pointer (some ⟨b', off' + m * 2, none⟩), by go_simp, fun u hu => Option.some.inj hu, fun h => by rcases h with h | h <;> cases h⟩
              · refine StepR.pure rfl rfl (hnb (by decide) (by decide)) (fun W => Below.refl _ W) (fun _ _ _ h hb => sm_keep h hb) fun L a W hI hk hd => ?_
                obtain ⟨_, e51, hp51⟩ := hI.get 8 51 (hd 8 rfl) rfl
                rw [hp51.1 _ rfl] at e51
                obtain ⟨c0, c1⟩ := HCY.out W hI.glob
                exact ⟨rfl, mkIt y, by go_simp, fun u hu => Option.some.inj hu, fun h => by rcases h with h | h <;> cases h⟩
              · refine StepR.boxed rfl rfl (fun W o => (Below.refl _ W).alloc (Nat.le_refl _) o) (fun _ _ _ h hb => sm_keep h hb) fun L a W hI => ?_
                exact ⟨rfl, .cells #[.string ⟨#[]⟩, .slice none 0 0] 57, by go_simp, fun u hu => (by cases hu), fun _ => ⟨W.heap.size, ⟨[], none, 0, []⟩, rfl, hI.glob.size, BlkI.new W ⟨[], none, 0, []⟩⟩⟩
              · refine StepR.boxed rfl rfl (fun W o => (Below.refl _ W).alloc (Nat.le_refl _) o) (fun _ _ _ h hb => sm_keep h hb) fun L a W hI => ?_
                exact ⟨rfl, .cells #[.string ⟨#[]⟩, .slice none 0 0] 57, by go_simp, fun u hu => (by cases hu), fun _ => ⟨W.heap.size, ⟨[], none, 0, []⟩, rfl, hI.glob.size, BlkI.new W ⟨[], none, 0, []⟩⟩⟩
              · refine StepR.store rfl rfl rfl fun L a W hI hd => ?_
                obtain ⟨_, e47, hp47⟩ := hI.get 4 47 (hd 4 rfl) rfl
                rw [hp47.1 _ rfl] at e47
                obtain ⟨_, e6, hb6⟩ := hI.get 10 6 (hd 10 rfl) rfl
                obtain ⟨b9, d9, rfl, hle, hB⟩ := hb6.2 (by simp)
                obtain ⟨t1, t2⟩ := store_item (z := x) hB
                have q0 := hB.cell0
                have q1 := hB.cell1
                have f0 := hB.frozen 0
                have f1 := hB.frozen 1
                refine ⟨rfl, b9, 6, _, rfl, hd 10 rfl, by rw [eval_tmp]; exact e6, ?_, t1, Below.setCell (p := ⟨b9, 1, none⟩) (Below.setCell (p := ⟨b9, 0, none⟩) hI.glob hle _) hle _, fun _ => ⟨b9, rfl, t2⟩, fun h => (by cases h)⟩
                clear t1 t2 hB
                go_simp
              · refine StepR.store rfl rfl rfl fun L a W hI hd => ?_
                obtain ⟨_, e52, hp52⟩ := hI.get 9 52 (hd 9 rfl) rfl
                rw [hp52.1 _ rfl] at e52
                obtain ⟨_, e7, hb7⟩ := hI.get 11 7 (hd 11 rfl) rfl
                obtain ⟨b9, d9, rfl, hle, hB⟩ := hb7.2 (by simp)
                obtain ⟨t1, t2⟩ := store_item (z := y) hB
                have q0 := hB.cell0
                have q1 := hB.cell1
                have f0 := hB.frozen 0
                have f1 := hB.frozen 1
                refine ⟨rfl, b9, 7, _, rfl, hd 11 rfl, by rw [eval_tmp]; exact e7, ?_, t1, Below.setCell (p := ⟨b9, 1, none⟩) (Below.setCell (p := ⟨b9, 0, none⟩) hI.glob hle _) hle _, fun h => (by cases h), fun _ => ⟨b9, rfl, t2⟩⟩
                clear t1 t2 hB
                go_simp
            · intro a W L hL hI
              obtain ⟨b6, e6, hB6⟩ := (hI.box 12 10 6 (hL 12 (by decide)) rfl rfl).2.1 rfl
              obtain ⟨b7, e7, hB7⟩ := (hI.box 13 11 7 (hL 13 (by decide)) rfl rfl).2.2 rfl
              have HKW := Lib.hid (HK.out.next hI.glob)
              have HXW := Lib.hid (SlAt.below HXO.out hI.glob)
              have HYW := Lib.hid (SlAt.below HYO.out hI.glob)
              have H6 := Lib.hid hB6
              have H7 := Lib.hid hB7
              rw [hI.frame]
              simp only [List.filterMap, List.foldl]
              rw [e6, e7]
              clear hI hL hB6 hB7 e6 e7 HK HXO HYO HCX HCY
              generalize a.eval (.tmp 43) = v43
              generalize a.eval (.tmp 44) = v44
              generalize a.eval (.tmp 45) = v45
              generalize a.eval (.tmp 46) = v46
              generalize a.eval (.tmp 47) = v47
              generalize a.eval (.tmp 48) = v48
              generalize a.eval (.tmp 49) = v49
              generalize a.eval (.tmp 50) = v50
              generalize a.eval (.tmp 51) = v51
              generalize a.eval (.tmp 52) = v52
              have p0 := H6.out.cell0
              have p1 := H6.out.cell1
              have r0 := H7.out.cell0
              have r1 := H7.out.cell1
              have HSTOP := Lib.hid (show ¬ x.it = y.it → z = false from fun hne => by
                rw [HZ.out, ← HR.out]
                have : ¬ its c.xs = its d.xs := fun e => hne (by
                  have h1 : (its c.xs)[m]? = some x.it := by simp [its, HX1.out]
                  have h2 : (its d.xs)[m]? = some y.it := by simp [its, HY1.out]
                  rw [e, h2] at h1
                  exact (Option.some.inj h1).symm)
                simp [this])
              have HGO := Lib.hid (show x.it = y.it → ∀ j, j < m + 1 → (its c.xs)[j]? = (its d.xs)[j]? from fun he j hj => by
                by_cases e : j = m
                · subst e
                  simp only [its, List.getElem?_map, HX1.out, HY1.out, Option.map_some, he]
                · exact HS.out j (by omega))
              by_cases hn : x.nm = y.nm
              · have j1 : (x.nm == y.nm) = true := by simp [hn]
                by_cases hml : x.ms.length = y.ms.length
                · have j2 : ((x.ms.length : Int) != (y.ms.length : Int)) = false := by simp [hml]
                  have HNM := Lib.hid hn
                  have HML := Lib.hid hml
                  have hmx : x.ms.length ≤ 1000000 := HMX.out
                  clear hn hml
                  go_wp2_with fail
                  clear p0 p1 r0 r1
                  go_loopw [8] (fun i wi => ∃ k : Nat, k ≤ x.ms.length ∧ i = .int .i64 k ∧ Hid (Below W.heap.size W wi) ∧ Hid (BlkI wi b6 x) ∧ Hid (BlkI wi b7 y) ∧ Hid (∀ j, j < k → x.ms[j]? = y.ms[j]?)) (fun i _ => x.ms.length - (intOf i).toNat)
                  case atStart => exact ⟨0, by omega, rfl, Lib.hid (Below.refl _ _), H6, H7, Lib.hid (fun j h => by omega)⟩
                  case round =>
                    clear H6 H7
                    obtain ⟨k, hk, rfl, HB, H6, H7, HT⟩ := hrel
                    have p1 := H6.out.cell1
                    by_cases hlt3 : k < x.ms.length
                    · have i3 : (k : Int) < (x.ms.length : Int) := by omega
                      have i4 : (k : Int) < (y.ms.length : Int) := by have := HML.out; omega
                      obtain ⟨g1, o1, m1, eA, hg1, hm1, _, d0, d1, d2, d3⟩ := SlAt.mark HXW.out (j := k) hlt3
                      obtain ⟨g2, o2, m2, eB, hg2, hm2, _, t0, t1, t2, t3⟩ := SlAt.mark HYW.out (j := k) (by have := HML.out; omega)
                      have p1a : wr.cell? ⟨b6, 1, none⟩ = some (.slice (some ⟨g1, o1, none⟩) x.ms.length x.c) := by rw [← eA]; exact H6.out.cell1
                      have p1b : wr.cell? ⟨b7, 1, none⟩ = some (.slice (some ⟨g2, o2, none⟩) y.ms.length y.c) := by rw [← eB]; exact H7.out.cell1
                      have la := fun p => cell_far (p := p) H6.out.lt p1a
                      have lb := fun p => cell_far (p := p) H7.out.lt p1b
                      have hg1' : g1 < wr.heap.size := Nat.lt_of_lt_of_le hg1 HB.out.size
                      have hg2' : g2 < wr.heap.size := Nat.lt_of_lt_of_le hg2 HB.out.size
                      have l0 := fun p => cell_far (p := p) (a := ⟨g1, o1 + k * 4, none⟩) hg1' ((HB.out.cell (p := ⟨g1, o1 + k * 4, none⟩) hg1).trans d0)
                      have l1 := fun p => cell_far (p := p) (a := ⟨g1, o1 + k * 4 + 1, none⟩) hg1' ((HB.out.cell (p := ⟨g1, o1 + k * 4 + 1, none⟩) hg1).trans d1)
                      have l2 := fun p => cell_far (p := p) (a := ⟨g1, o1 + k * 4 + 2, none⟩) hg1' ((HB.out.cell (p := ⟨g1, o1 + k * 4 + 2, none⟩) hg1).trans d2)
                      have l3 := fun p => cell_far (p := p) (a := ⟨g1, o1 + k * 4 + 3, none⟩) hg1' ((HB.out.cell (p := ⟨g1, o1 + k * 4 + 3, none⟩) hg1).trans d3)
                      have s0 := fun p => cell_far (p := p) (a := ⟨g2, o2 + k * 4, none⟩) hg2' ((HB.out.cell (p := ⟨g2, o2 + k * 4, none⟩) hg2).trans t0)
                      have s1 := fun p => cell_far (p := p) (a := ⟨g2, o2 + k * 4 + 1, none⟩) hg2' ((HB.out.cell (p := ⟨g2, o2 + k * 4 + 1, none⟩) hg2).trans t1)
                      have s2 := fun p => cell_far (p := p) (a := ⟨g2, o2 + k * 4 + 2, none⟩) hg2' ((HB.out.cell (p := ⟨g2, o2 + k * 4 + 2, none⟩) hg2).trans t2)
                      have s3 := fun p => cell_far (p := p) (a := ⟨g2, o2 + k * 4 + 3, none⟩) hg2' ((HB.out.cell (p := ⟨g2, o2 + k * 4 + 3, none⟩) hg2).trans t3)
                      by_cases hq : m1 = m2
                      · have hnq := fun W9 => neqMarkE m1 m2 true (by simp [hq]) W9
                        have HT2 := Lib.hid (show ∀ j, j < k + 1 → x.ms[j]? = y.ms[j]? from fun j hj => by
                          by_cases e : j = k
                          · subst e; rw [hm1, hm2, hq]
                          · exact HT.out j (by omega))
                        clear d0 d1 d2 d3 t0 t1 t2 t3 hm1 hm2 hq eA eB HT hg1 hg2 p1a p1b
                        go_wp2_with fail
                        refine wp_region_far (by kernel_rfl) (by kernel_rfl) ?_
                        repeat (go_big_quiet_step ((fail)))
                        refine wpQuiet_nil ?_
                        rintro _ ⟨p, rfl⟩
                        go_wp2_with fail
                        go_roundw
                        case rel => exact ⟨k + 1, by omega, by go_num, below_trans HB.out (below_far wr p), H6.out.below (below_far wr p), H7.out.below (below_far wr p), HT2⟩
                        case measure => simp [intOf]; omega
                      · have hnq := fun W9 => neqMarkE m1 m2 false (by simp [hq]) W9
                        obtain rfl : z = false := HSTOP.out fun e => hq (by
                          have h1 : x.ms = y.ms := congrArg (fun i : It => i.2) e
                          rw [h1, hm2] at hm1
                          exact (Option.some.inj hm1).symm)
                        clear d0 d1 d2 d3 t0 t1 t2 t3 hm1 hm2 hq eA eB HT hg1 hg2 p1a p1b
                        go_wp2_with fail
                        refine wp_region_far (by kernel_rfl) (by kernel_rfl) ?_
                        repeat (go_big_quiet_step ((fail)))
                        refine wpQuiet_nil ?_
                        rintro _ ⟨p, rfl⟩
                        go_wp2_with fail
                        go_ret
                        exact ⟨rfl, below_trans HKW.out.bel (below_trans HB.out (below_far wr p))⟩
                    · have i3 : ¬ (k : Int) < (x.ms.length : Int) := by omega
                      have HS2 := Lib.hid (HGO.out (show (x.nm, x.ms) = (y.nm, y.ms) from by
                        have : x.ms = y.ms := List.ext_getElem? fun j => by
                          by_cases e : j < k
                          · exact HT.out j e
                          · have := HML.out
                            rw [List.getElem?_eq_none (by omega), List.getElem?_eq_none (by omega)]
                        rw [HNM.out, this]))
                      have HKE := Lib.hid (HKW.out.next HB.out)
                      go_wp2_with fail
                      go_roundw
                      case rel => exact ⟨m + 1, by omega, by go_num, HKE, HS2⟩
                      case measure => simp [intOf]; omega
                · have j2 : ((x.ms.length : Int) != (y.ms.length : Int)) = true := by simp only [bne_iff_ne]; omega
                  obtain rfl : z = false := HSTOP.out fun e => hml (by
                    have h1 : x.ms = y.ms := congrArg (fun i : It => i.2) e
                    rw [h1])
                  clear hn hml
                  go_wp2_with fail
                  go_ret
                  exact ⟨rfl, HKW.out.bel⟩
              · have j1 : (x.nm == y.nm) = false := by simpa using hn
                obtain rfl : z = false := HSTOP.out fun e => hn (congrArg (fun i : It => i.1) e)
                clear hn
                go_wp2_with fail
                go_ret
                exact ⟨rfl, HKW.out.bel⟩
          · have i0 : ¬ (m : Int) < (c.xs.length : Int) := by omega
            obtain rfl : z = true := by
              rw [HZ.out, ← HR.out]
              have : its c.xs = its d.xs := List.ext_getElem? fun j => by
                by_cases e : j < m
                · exact HS.out j e
                · have := HLE.out
                  rw [List.getElem?_eq_none (by simp [its]; omega), List.getElem?_eq_none (by simp [its]; omega)]
              simp [this]
            obtain ⟨x0, x1, x2, y0, y1, y2, xl, yl, _⟩ := HK.out.sp2
            go_wp2_with fail
            go_ret
            exact ⟨rfl, HK.out.bel⟩
      · have j0 : ((c.xs.length : Int) != (d.xs.length : Int)) = true := by simp only [bne_iff_ne]; omega
        obtain rfl : z = false := by
          rw [HZ.out, ← HR.out]
          have : ¬ its c.xs = its d.xs := fun e => hlen (by have := congrArg List.length e; simpa [its] using this)
          simp [this]
        clear hlen
        go_wp2_with fail
        go_ret
        exact ⟨rfl, HK.out.bel⟩

end

end Go.Proofs.YtpnemekkpifbaaaGreat
