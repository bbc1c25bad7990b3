/- Several texts in one: JoiAC, JoiK1. -/
import Derived.Test.YtfjbocipjmpogaaGreatMBK
namespace Go.Proofs.YtfjbocipjmpogaaGreat

section
open Go.RowKit

def flatD (ds : List (Int × Int)) : List Int := ds.flatMap fun d => [d.1, d.2]
theorem flatD_len (ds : List (Int × Int)) : (flatD ds).length = 2 * ds.length := by
  induction ds with
  | nil => rfl
  | cons d r ih => simp only [flatD, List.flatMap_cons, List.length_append, List.length_cons, List.length_nil] at ih ⊢; omega
theorem flatD_at : ∀ (ds : List (Int × Int)) (j : Nat) (d : Int × Int), ds[j]? = some d → (flatD ds)[2 * j]? = some d.1 ∧ (flatD ds)[2 * j + 1]? = some d.2
  | [], j, d, h => by simp at h
  | x :: r, 0, d, h => by
    obtain rfl : x = d := by simpa using h
    exact ⟨rfl, rfl⟩
  | x :: r, j + 1, d, h => by
    have := flatD_at r j d (by simpa using h)
    exact this

section
variable (E : World) (B g5 : Nat) (D : Option Addr) (dd : Nat) (ds : List (Int × Int)) (r s : Int) (m b off n cap : Nat)
def ofP : Nat → Value → World → Prop
  | 0, v, _ => v = .pointer (some ⟨g5, 0, none⟩)
  | 1, v, _ => v = .pointer (some ⟨g5, 0, none⟩)
  | 2, v, _ => v = .slice D ds.length dd
  | 3, v, _ => v = .slice (some ⟨b, off, none⟩) n cap
  | 4, v, _ => v = .int .i64 m
  | 5, v, _ => v = .pointer (some ⟨b, off + m, none⟩)
  | 6, v, _ => v = .int .i64 r
  | 7, v, _ => v = .slice (some ⟨b, off, none⟩) n cap
  | 8, v, _ => v = .int .i64 m
  | 9, v, _ => v = .int .i64 ((m : Int) + 1)
  | 10, v, _ => v = .pointer (some ⟨b, off + (m + 1), none⟩)
  | 11, v, _ => v = .int .i64 s
  | 12, v, _ => v = .agg #[.int .i64 r, .int .i64 s]
  | 13, v, W => ∃ q, v = .slice (some ⟨q, 0, none⟩) 1 1 ∧ E.heap.size ≤ q ∧ W.heap[q]? = some (.cells #[.int .i64 r, .int .i64 s] 51 (0, 0))
  | 14, v, W => ∃ A c, v = .slice A (ds.length + 1) c ∧ RowC W B v (ds ++ [(r, s)])
  | 15, v, _ => v = .pointer (some ⟨g5, 0, none⟩)
  | 16, v, _ => v = .pointer (some ⟨g5, 0, none⟩)
  | _, _, _ => True
def ofG (L : Nat → Bool) (W : World) : Prop :=
  (L 14 = false → RowC W B (.slice D ds.length dd) ds) ∧
  (L 17 = false → W.heap[g5]? = some (.cells #[.slice D ds.length dd, .slice none 0 0, .slice none 0 0] 28 (0, 0))) ∧
  (L 17 = true → ∃ A c, W.heap[g5]? = some (.cells #[.slice A (ds.length + 1) c, .slice none 0 0, .slice none 0 0] 28 (0, 0)) ∧ RowC W B (.slice A (ds.length + 1) c) (ds ++ [(r, s)])) ∧
  Below B E W ∧ B ≤ W.heap.size ∧ E.heap.size ≤ W.heap.size
abbrev ofS : RegS := ⟨fun _ => none, BelW, ofG E B g5 D dd ds r s, ofP E B g5 D dd ds r s m b off n cap, fun _ _ _ => True⟩
variable {E B g5 D dd ds r s m b off n cap}
theorem ofP_below {j : Nat} {v : Value} {W W' : World} (h : ofP E B g5 D dd ds r s m b off n cap j v W) (hb : BelW W W') : ofP E B g5 D dd ds r s m b off n cap j v W' := by
  match j, h with
  | 0, h => exact h
  | 1, h => exact h
  | 2, h => exact h
  | 3, h => exact h
  | 4, h => exact h
  | 5, h => exact h
  | 6, h => exact h
  | 7, h => exact h
  | 8, h => exact h
  | 9, h => exact h
  | 10, h => exact h
  | 11, h => exact h
  | 12, h => exact h
  | 13, ⟨q, h1, h2, h3⟩ => exact ⟨q, h1, h2, (hb.block q (Array.getElem?_eq_some_iff.1 h3).1).trans h3⟩
  | 14, ⟨A, c, h1, h2⟩ => exact ⟨A, c, h1, h2.below hb⟩
  | 15, h => exact h
  | 16, h => exact h
  | j + 17, _ => exact trivial
theorem of_keep {L : Nat → Bool} {q : Nat} {W W' : World} (h1 : q ≠ 14) (h2 : q ≠ 17) (hG : ofG E B g5 D dd ds r s L W) (hb : BelW W W') : KeepsR (ofS E B g5 D dd ds r s m b off n cap) L W W' ∧ ofG E B g5 D dd ds r s (moreL L q) W' := by
  refine ⟨⟨fun j v _ h => ofP_below h hb, fun _ _ _ _ => trivial⟩, ?_⟩
  have e1 : moreL L q 14 = L 14 := by unfold moreL; simp [Ne.symm h1]
  have e2 : moreL L q 17 = L 17 := by unfold moreL; simp [Ne.symm h2]
  obtain ⟨k1, k2, k3, k4, k5, k6⟩ := hG
  unfold ofG
  rw [e1, e2]
  exact ⟨fun h => (k1 h).below hb, fun h => (hb.block _ (Array.getElem?_eq_some_iff.1 (k2 h)).1).trans (k2 h), fun h => by
    obtain ⟨A, c, a1, a2⟩ := k3 h
    exact ⟨A, c, (hb.block _ (Array.getElem?_eq_some_iff.1 a1).1).trans a1, a2.below hb⟩, k4.trans (hb.mono k5), Nat.le_trans k5 hb.size, Nat.le_trans k6 hb.size⟩
end
theorem wrap_small {n : Int} (h0 : 0 ≤ n) (h1 : n < 9223372036854775808) : IntKind.i64.wrap n = n := by
  have e : n % 18446744073709551616 = n := Int.emod_eq_of_lt h0 (by omega)
  show (let m := n % (2 ^ 64 : Int); if true && m ≥ (2 ^ 63 : Int) then m - (2 ^ 64 : Int) else m) = n
  simp only [show (2 ^ 64 : Int) = 18446744073709551616 from rfl, show (2 ^ 63 : Int) = 9223372036854775808 from rfl, e]
  rw [if_neg (by simp; omega)]
/-- While of runs: the box of the result, the cart's box. -/
structure KOf (w : World) (D : Option Addr) (dd : Nat) (ds : List (Int × Int)) (W : World) : Prop where
  res : BlkC W w.heap.size zC
  out : W.heap[w.heap.size + 1]? = some (.cells #[.slice D ds.length dd, .slice none 0 0, .slice none 0 0] 28 (0, 0))
  row : RowC W (w.heap.size + 1) (.slice D ds.length dd) ds
  bel : Below w.heap.size w W
def cartOf (ds : List (Int × Int)) (ms : List Mk) : Ca := ((ds, []), if ms.isEmpty = true then [] else [([84, 101, 97], ms)])

set_option maxRecDepth 100000 in
set_option maxHeartbeats 8000000 in
theorem lawOf11 (A : Option Addr) (cap : Nat) (ds : List (Int × Int)) (MA : Option Addr) (mc : Nat) (ms : List Mk) (w : World) (hx : NumsAt w A (flatD ds)) (hl : ds.length ≤ 1000) (hM : MarksAt w MA ms) (hml : ms.length ≤ mc) (hmc : mc ≤ maxLen) :
    Calls Tryz.prog 26 #[.slice A (flatD ds).length cap, .slice MA ms.length mc] w (RefJ (cartOf ds ms) w) := by
  obtain ⟨td0, hid, hzd0, hzd1, hzd2⟩ := info_parts infoD
  have HX := Lib.hid hx
  have HM := Lib.hid hM
  have hba := (Below.refl w.heap.size w).alloc (Nat.le_refl _) (.cells #[zC.v, zC.l, zC.i] 28)
  have K0 : KOf w none 0 [] ((w.alloc (.cells #[zC.v, zC.l, zC.i] 28)).alloc (.cells #[zC.v, zC.l, zC.i] 28)) := by
    have h2 := BlkC.new (w.alloc (.cells #[zC.v, zC.l, zC.i] 28)) zC
    rw [World.size_alloc] at h2
    exact ⟨(BlkC.new w zC).below ((Below.refl _ _).alloc (Nat.le_refl _) _), h2, World.ownsRow_nil _ _ _ _, below_trans hba ((Below.refl _ _).alloc (Nat.le_refl _) _)⟩
  have HK := Lib.hid K0
  have hfl := flatD_len ds
  have HFA := Lib.hid (flatD_at ds)
  clear hx hM K0 hba
  generalize flatD ds = fl at *
  go_enter Tryz.func26, Tryz.ntmps26
  go_wp2_with fail
  generalize World.alloc (World.alloc w _) _ = w2 at HK ⊢
  go_loopw [6] (fun i wr => ∃ (j m : Nat) (pre : List (Int × Int)) (D : Option Addr) (dd : Nat), j ≤ ds.length ∧ m = 2 * j ∧ pre = ds.take j ∧ i = .int .i64 m ∧ Hid (KOf w D dd pre wr)) (fun i _ => 2 * ds.length - (intOf i).toNat)
  case atStart => exact ⟨0, 0, [], none, 0, by omega, rfl, rfl, rfl, HK⟩
  case round =>
    clear HK
    obtain ⟨j, m, pre, D, dd, hj, hm, hpre, rfl, hK⟩ := hrel
    by_cases hlt : j < ds.length
    · have i0 : (m : Int) + 1 < (fl.length : Int) := by omega
      obtain ⟨r, s, hds⟩ : ∃ r s, ds[j]? = some (r, s) := ⟨ds[j].1, ds[j].2, by rw [List.getElem?_eq_getElem hlt]⟩
      obtain ⟨hr, hs⟩ := HFA.out j (r, s) hds
      rw [← hm] at hr hs
      have hpl : pre.length ≤ 1000 := by rw [hpre, List.length_take]; omega
      have HP := Lib.hid (show pre ++ [(r, s)] = ds.take (j + 1) from by rw [hpre, take_snoc hds])
      obtain ⟨b, off, rfl, hbl, hcc⟩ := HX.out (by omega)
      have q0 : w.cell? ⟨b, off + m, none⟩ = some (.int .i64 r) := by simpa using hcc m r hr 0 _ rfl
      have q1 : w.cell? ⟨b, off + (m + 1), none⟩ = some (.int .i64 s) := by simpa using hcc (m + 1) s hs 0 _ rfl
      have Q0 := Lib.hid q0
      have Q1 := Lib.hid q1
      have KK0 := hK.out
      have hsz : w.heap.size + 1 ≤ wr.heap.size := Nat.le_of_lt (Array.getElem?_eq_some_iff.1 KK0.out).1
      have hm63 : m + 1 < 10000 := by omega
      have i1 : (m : Int) < (fl.length : Int) := by omega
      have hml0 : m < fl.length := by omega
      have hml1 : m + 1 < fl.length := by omega
      have HMJ := Lib.hid hm
      have HFL := Lib.hid hfl
      have hw1 : IntKind.i64.wrap ((m : Int) + 1) = (m : Int) + 1 := wrap_small (by omega) (by omega)
      have hn1 : ¬ ((m : Int) + 1 < 0) := by omega
      have hn2 : (0 : Int) ≤ (m : Int) + 1 := by omega
      clear hds hr hs hpre hcc q0 q1 hK hm hfl
      go_upto_region 5 with fail
      have hnb : ∀ {k : Nat}, ∀ j, (fun _ : Nat => (none : Option Nat)) j ≠ some k := fun j h => by cases h
      have hkp : ∀ {q : Nat}, q ≠ 14 → q ≠ 17 → ∀ L W W', ofG wr (w.heap.size + 1) (w.heap.size + 1) D dd pre r s L W → BelW W W' → KeepsR (ofS wr (w.heap.size + 1) (w.heap.size + 1) D dd pre r s m b off fl.length cap) L W W' ∧ ofG wr (w.heap.size + 1) (w.heap.size + 1) D dd pre r s (moreL L q) W' := fun h1 h2 L W W' hG hb => of_keep h1 h2 hG hb
      have hdr := (Below.refl wr.heap.size wr).drew
      refine wp_region_R (S := ofS wr (w.heap.size + 1) (w.heap.size + 1) D dd pre r s m b off fl.length cap) (by kernel_rfl) (by kernel_rfl) (by kernel_rfl) (dst_small (n := 39) (by kernel_rfl)) (fun j k h => by cases h) (fun j j' k h1 h2 => by cases h1)
        ⟨fun _ => KK0.row.below hdr, fun _ => KK0.out, fun h => (by cases h), hdr.mono (by simpa using hsz), hsz, Nat.le_refl _⟩
        (fun j k v W h hp => by cases h) (fun _ j v W W' m k b _ hm => by cases hm) (fun _ j v W W' m k b _ hm => by cases hm) ?_ ?_
      · refine ⟨StepR.pure rfl rfl hnb (fun W => Below.refl _ W) (hkp (by decide) (by decide)) fun L a W hI hk hd => ⟨rfl, .pointer (some ⟨w.heap.size + 1, 0, none⟩), ?_, rfl⟩,
          StepR.pure rfl rfl hnb (fun W => Below.refl _ W) (hkp (by decide) (by decide)) fun L a W hI hk hd => ⟨rfl, .pointer (some ⟨w.heap.size + 1, 0, none⟩), ?_, rfl⟩,
          StepR.pure rfl rfl hnb (fun W => Below.refl _ W) (hkp (by decide) (by decide)) fun L a W hI hk hd => ⟨rfl, .slice D pre.length dd, ?_, rfl⟩,
          StepR.pure rfl rfl hnb (fun W => Below.refl _ W) (hkp (by decide) (by decide)) fun L a W hI hk hd => ⟨rfl, .slice (some ⟨b, off, none⟩) fl.length cap, ?_, rfl⟩,
          StepR.pure rfl rfl hnb (fun W => Below.refl _ W) (hkp (by decide) (by decide)) fun L a W hI hk hd => ⟨rfl, .int .i64 m, ?_, rfl⟩,
          StepR.pure rfl rfl hnb (fun W => Below.refl _ W) (hkp (by decide) (by decide)) fun L a W hI hk hd => ⟨rfl, .pointer (some ⟨b, off + m, none⟩), ?_, rfl⟩,
          StepR.pure rfl rfl hnb (fun W => Below.refl _ W) (hkp (by decide) (by decide)) fun L a W hI hk hd => ⟨rfl, .int .i64 r, ?_, rfl⟩,
          StepR.pure rfl rfl hnb (fun W => Below.refl _ W) (hkp (by decide) (by decide)) fun L a W hI hk hd => ⟨rfl, .slice (some ⟨b, off, none⟩) fl.length cap, ?_, rfl⟩,
          StepR.pure rfl rfl hnb (fun W => Below.refl _ W) (hkp (by decide) (by decide)) fun L a W hI hk hd => ⟨rfl, .int .i64 m, ?_, rfl⟩,
          StepR.pure rfl rfl hnb (fun W => Below.refl _ W) (hkp (by decide) (by decide)) fun L a W hI hk hd => ⟨rfl, .int .i64 ((m : Int) + 1), ?_, rfl⟩,
          StepR.pure rfl rfl hnb (fun W => Below.refl _ W) (hkp (by decide) (by decide)) fun L a W hI hk hd => ⟨rfl, .pointer (some ⟨b, off + (m + 1), none⟩), ?_, rfl⟩,
          StepR.pure rfl rfl hnb (fun W => Below.refl _ W) (hkp (by decide) (by decide)) fun L a W hI hk hd => ⟨rfl, .int .i64 s, ?_, rfl⟩,
          StepR.pure rfl rfl hnb (fun W => Below.refl _ W) (hkp (by decide) (by decide)) fun L a W hI hk hd => ⟨rfl, .agg #[.int .i64 r, .int .i64 s], ?_, rfl⟩,
          StepR.made rfl rfl hnb (hkp (by decide) (by decide)) fun L a W hI hk hd => ⟨rfl, .slice (some ⟨W.heap.size, 0, none⟩) 1 1, W.alloc (.cells #[.int .i64 r, .int .i64 s] 51), ?_, (Below.refl _ W).alloc (Nat.le_refl _) _, W.heap.size, rfl, hI.glob.2.2.2.2.2, heap_alloc_new W _⟩,
          StepR.madeL rfl rfl hnb fun L a W hI hk hd => ⟨rfl, ?_⟩,
          StepR.pure rfl rfl hnb (fun W => Below.refl _ W) (hkp (by decide) (by decide)) fun L a W hI hk hd => ⟨rfl, .pointer (some ⟨w.heap.size + 1, 0, none⟩), ?_, rfl⟩,
          StepR.pure rfl rfl hnb (fun W => Below.refl _ W) (hkp (by decide) (by decide)) fun L a W hI hk hd => ⟨rfl, .pointer (some ⟨w.heap.size + 1, 0, none⟩), ?_, rfl⟩,
          StepR.skipL rfl rfl hnb rfl fun L a W hI hk hd => ⟨rfl, ?_⟩, trivial⟩
        · have e5 : a.tmps[5]?.getD undef = .pointer (some ⟨w.heap.size + 1, 0, none⟩) := hI.at 5 (by kernel_rfl)
          go_simp
        · obtain ⟨_, e14, rfl⟩ := hI.get 0 14 (hd 0 rfl) rfl
          go_simp
        · obtain ⟨_, e15, rfl⟩ := hI.get 1 15 (hd 1 rfl) rfl
          have hL : L 17 = false := hI.before (o := _) rfl (k := 2) rfl hk
          have hq := hI.glob.2.1 hL
          have c0 : W.cell? ⟨w.heap.size + 1, 0, none⟩ = some (.slice D pre.length dd) := by simp [World.cell?, hq]
          clear hq
          go_simp
        · have e0 : a.tmps[0]?.getD undef = .slice (some ⟨b, off, none⟩) fl.length cap := hI.at 0 (by kernel_rfl)
          go_simp
        · have e6 : a.tmps[6]?.getD undef = .int .i64 m := hI.at 6 (by kernel_rfl)
          go_simp
        · obtain ⟨_, e17, rfl⟩ := hI.get 3 17 (hd 3 rfl) rfl
          obtain ⟨_, e18, rfl⟩ := hI.get 4 18 (hd 4 rfl) rfl
          go_simp
        · obtain ⟨_, e19, rfl⟩ := hI.get 5 19 (hd 5 rfl) rfl
          have c0 : W.cell? ⟨b, off + m, none⟩ = some (.int .i64 r) := ((KK0.bel.trans (hI.glob.2.2.2.1.mono (Nat.le_succ _))).cell (p := ⟨b, off + m, none⟩) hbl).trans Q0.out
          go_simp
        · have e0 : a.tmps[0]?.getD undef = .slice (some ⟨b, off, none⟩) fl.length cap := hI.at 0 (by kernel_rfl)
          go_simp
        · have e6 : a.tmps[6]?.getD undef = .int .i64 m := hI.at 6 (by kernel_rfl)
          go_simp
        · obtain ⟨_, e22, rfl⟩ := hI.get 8 22 (hd 8 rfl) rfl
          go_simp
        · obtain ⟨_, e21, rfl⟩ := hI.get 7 21 (hd 7 rfl) rfl
          obtain ⟨_, e23, rfl⟩ := hI.get 9 23 (hd 9 rfl) rfl
          go_simp
        · obtain ⟨_, e24, rfl⟩ := hI.get 10 24 (hd 10 rfl) rfl
          have c0 : W.cell? ⟨b, off + (m + 1), none⟩ = some (.int .i64 s) := ((KK0.bel.trans (hI.glob.2.2.2.1.mono (Nat.le_succ _))).cell (p := ⟨b, off + (m + 1), none⟩) hbl).trans Q1.out
          go_simp
        · obtain ⟨_, e20, rfl⟩ := hI.get 6 20 (hd 6 rfl) rfl
          obtain ⟨_, e25, rfl⟩ := hI.get 11 25 (hd 11 rfl) rfl
          go_simp
        · obtain ⟨_, e26, rfl⟩ := hI.get 12 26 (hd 12 rfl) rfl
          go_simp
        · obtain ⟨_, e16, rfl⟩ := hI.get 2 16 (hd 2 rfl) rfl
          obtain ⟨_, e27, q, rfl, hq1, hq2⟩ := hI.get 13 27 (hd 13 rfl) rfl
          have hL : L 17 = false := hI.before (o := _) rfl (k := 14) rfl hk
          obtain ⟨k1, k2, _, k4, k5, k6⟩ := hI.glob
          have k1 := k1 hk
          have k2 := k2 hL
          obtain ⟨v', W', hrun, hown, hgr, hblk⟩ := run_append_sl (P := Tryz.prog) W encD 2 encD_len (by omega) encD_one (w.heap.size + 1) 23 23 51 td0 _ 16 Tryz.underlying23 hid hzd0 hzd1 hzd2 rfl (.slice D pre.length dd) pre k1 (some ⟨q, 0, none⟩) 1 [(r, s)] (SlAt.one hq2) (by simp [maxLen]; omega) (by simp; omega) k5
          obtain ⟨A2, c2, rfl, _, _, _⟩ := SlAt.of_own encD_len hown
          refine ⟨_, W', ?_, ⟨fun j v hj hp => ?_, fun _ _ _ _ => trivial⟩, ⟨fun h => (by cases h), fun h => (hgr.block _ (Array.getElem?_eq_some_iff.1 k2).1 (fun e => row_ne k1 k2 (by decide) e.symm)).trans k2, fun h => (by rw [show moreL L 14 17 = L 17 from rfl, hL] at h; cases h), k4.grown hgr k5 (fun k hk => (k1.lt k hk).1), Nat.le_trans k5 hgr.size, Nat.le_trans k6 hgr.size⟩, A2, c2, by simp, hown⟩
          · have hrun2 : (Builtin.append_ #[23, 23] 23 #[.slice D pre.length dd, .slice (some ⟨q, 0, none⟩) 1 1]).run Tryz.prog W = .ok (.slice A2 (pre ++ [(r, s)]).length c2) W' := hrun
            have hs : a.eval (.tmp 16) = .slice D pre.length dd := by rw [eval_tmp]; exact e16
            have hs2 : a.eval (.tmp 27) = .slice (some ⟨q, 0, none⟩) 1 1 := by rw [eval_tmp]; exact e27
            unfold execOp
            simp only [resolve, invoke, builtin, Sem.run_bind, Sem.run_pure, Result.andThen_ok, List.map_toArray, List.map_cons, List.map_nil, hs, hs2, hrun2]
          · match j, hp with
            | 0, e => exact e
            | 1, e => exact e
            | 2, e => exact e
            | 3, e => exact e
            | 4, e => exact e
            | 5, e => exact e
            | 6, e => exact e
            | 7, e => exact e
            | 8, e => exact e
            | 9, e => exact e
            | 10, e => exact e
            | 11, e => exact e
            | 12, e => exact e
            | 13, ⟨q, h1, h2, h3⟩ =>
              refine ⟨q, h1, h2, (hgr.block q (Array.getElem?_eq_some_iff.1 h3).1 fun e2 => ?_).trans h3⟩
              have := (KK0.row.lt q e2.symm).2
              omega
            | 14, _ => rw [hk] at hj; cases hj
            | 15, e => exact e
            | 16, e => exact e
            | j + 17, _ => exact trivial
        · have e5 : a.tmps[5]?.getD undef = .pointer (some ⟨w.heap.size + 1, 0, none⟩) := hI.at 5 (by kernel_rfl)
          go_simp
        · obtain ⟨_, e29, rfl⟩ := hI.get 15 29 (hd 15 rfl) rfl
          go_simp
        · obtain ⟨_, e30, rfl⟩ := hI.get 16 30 (hd 16 rfl) rfl
          obtain ⟨_, e28, A2, c2, rfl, hrow⟩ := hI.get 14 28 (hd 14 rfl) rfl
          obtain ⟨_, k2, _, k4, k5, k6⟩ := hI.glob
          have k2 := k2 hk
          have c0 : W.cell? ⟨w.heap.size + 1, 0, none⟩ = some (.slice D pre.length dd) := by simp [World.cell?, k2]
          have f0 : W.frozen? ⟨w.heap.size + 1, 0, none⟩ = false := by simp [World.frozen?, k2]
          refine ⟨W.setCell ⟨w.heap.size + 1, 0, none⟩ (.slice A2 (pre.length + 1) c2), ?_, ⟨fun j v hj hp => ?_, fun _ _ _ _ => trivial⟩, fun h => ?_, fun h => (by cases h), fun _ => ⟨A2, c2, ?_, row_set1 hrow k2 (by decide)⟩, k4.setCell (p := ⟨w.heap.size + 1, 0, none⟩) (by simp) _, by simpa using k5, by simpa using k6⟩
          · clear k2 hrow
            go_simp
          · match j, hp with
            | 0, e => exact e
            | 1, e => exact e
            | 2, e => exact e
            | 3, e => exact e
            | 4, e => exact e
            | 5, e => exact e
            | 6, e => exact e
            | 7, e => exact e
            | 8, e => exact e
            | 9, e => exact e
            | 10, e => exact e
            | 11, e => exact e
            | 12, e => exact e
            | 13, ⟨q, h1, h2, h3⟩ =>
              have hq : q ≠ w.heap.size + 1 := fun e => by
                subst e
                have := h3.symm.trans k2
                injection this with h4
                injection h4 with _ h5 _
                exact absurd h5 (by decide)
              exact ⟨q, h1, h2, (Below.heap_setCell W ⟨w.heap.size + 1, 0, none⟩ _ q hq).trans h3⟩
            | 14, ⟨A, c, h1, h2⟩ => exact ⟨A, c, h1, row_set1 h2 k2 (by decide)⟩
            | 15, e => exact e
            | 16, e => exact e
            | j + 17, _ => exact trivial
          · have : L 14 = true := hd 14 rfl
            rw [show moreL L 17 14 = L 14 from rfl, this] at h; cases h
          · show (W.heap.modify (w.heap.size + 1) _)[w.heap.size + 1]? = _
            rw [Array.getElem?_modify, if_pos rfl, k2]
            rfl
      · intro a W L hL hI
        obtain ⟨_, _, k3, k4, _, _⟩ := hI.glob
        obtain ⟨A2, c2, hbx, hrow⟩ := k3 (hL 17 (by decide))
        have HK' := Lib.hid (show KOf w A2 c2 (pre ++ [(r, s)]) W from ⟨(k4.block w.heap.size (Nat.lt_succ_self _)).trans KK0.res, by rw [List.length_append]; exact hbx, by rw [show (pre ++ [(r, s)]).length = pre.length + 1 by simp]; exact hrow, KK0.bel.trans (k4.mono (Nat.le_succ _))⟩)
        rw [HP.out] at HK'
        rw [hI.frame]
        simp only [List.filterMap, List.foldl]
        generalize a.eval (.tmp 14) = v14
        generalize a.eval (.tmp 15) = v15
        generalize a.eval (.tmp 16) = v16
        generalize a.eval (.tmp 17) = v17
        generalize a.eval (.tmp 18) = v18
        generalize a.eval (.tmp 19) = v19
        generalize a.eval (.tmp 20) = v20
        generalize a.eval (.tmp 21) = v21
        generalize a.eval (.tmp 22) = v22
        generalize a.eval (.tmp 23) = v23
        generalize a.eval (.tmp 24) = v24
        generalize a.eval (.tmp 25) = v25
        generalize a.eval (.tmp 26) = v26
        generalize a.eval (.tmp 27) = v27
        generalize a.eval (.tmp 28) = v28
        generalize a.eval (.tmp 29) = v29
        generalize a.eval (.tmp 30) = v30
        clear hI hL k3 k4 hbx hrow hnb hkp hdr KK0
        simp only [List.setIfInBounds_toArray, List.set_cons_succ, List.set_cons_zero]
        go_wp2_with fail
        go_roundw
        case rel =>
          have hm := HMJ.out
          exact ⟨j + 1, m + 2, ds.take (j + 1), A2, c2, by omega, by omega, rfl, by go_num, HK'⟩
        case measure =>
          have hm := HMJ.out
          simp [intOf]; omega
    · have hje : j = ds.length := by omega
      have i0 : ¬ (m : Int) + 1 < (fl.length : Int) := by omega
      have hpd : pre = ds := by rw [hpre, hje, List.take_length]
      have hm63 : m + 1 < 10000 := by omega
      have KK0 := hK.out
      rw [hpd] at KK0
      clear hpre hpd hK hlt hje hj hm hfl HFA HX
      have o0 : wr.cell? ⟨w.heap.size + 1, 0, none⟩ = some (.slice D ds.length dd) := by simp [World.cell?, KK0.out]
      have o1 : wr.cell? ⟨w.heap.size + 1, 1, none⟩ = some (.slice none 0 0) := by simp [World.cell?, KK0.out]
      have o2 : wr.cell? ⟨w.heap.size + 1, 2, none⟩ = some (.slice none 0 0) := by simp [World.cell?, KK0.out]
      have of2 : wr.frozen? ⟨w.heap.size + 1, 2, none⟩ = false := by simp [World.frozen?, KK0.out]
      have ol : w.heap.size + 1 < wr.heap.size := (Array.getElem?_eq_some_iff.1 KK0.out).1
      obtain ⟨r0, r1, r2, f0, f1, f2⟩ := results_zero KK0.res
      have rl := KK0.res.lt
      have HK0 := Lib.hid KK0
      clear KK0
      cases ms with
      | nil =>
        go_wp2_with fail
        obtain ⟨s0, s1, s2⟩ := fill_cells HK0.out.res (.slice D ds.length dd) (.slice none 0 0) (.slice none 0 0)
        have hv := RowC.holds (row_set3 (u := .slice D ds.length dd) (v := .slice none 0 0) (y := .slice none 0 0) HK0.out.row HK0.out.res (by decide))
        refine bodyPost_ret (v := .agg #[.slice D ds.length dd, .slice none 0 0, .slice none 0 0]) (by simp [results, Tryz.results26, go_sem, s0, s1, s2]) rfl ?_
        exact ⟨⟨⟨D, dd, ds, none, 0, [], none, 0, []⟩, rfl, rfl, hv, Holds.nil _, HoldsX.nil _⟩, below_fill HK0.out.bel (Nat.le_refl _) _ _ _⟩
      | cons m0 rest =>
        have i2 : (0 : Int) < ((m0 :: rest).length : Int) := by rw [List.length_cons]; omega
        have hemp : cartOf ds (m0 :: rest) = ((ds, []), [([84, 101, 97], m0 :: rest)]) := rfl
        have HEMP := Lib.hid hemp
        clear hemp
        generalize m0 :: rest = ms at *
        go_wp2_with fail
        obtain ⟨wq, hwq⟩ : ∃ W, wr.setCell ⟨w.heap.size + 1, 2, none⟩ (.slice (some ⟨wr.heap.size, 0, none⟩) 1 1) = W := ⟨_, rfl⟩
        have hqs : wq.heap.size = wr.heap.size := by rw [← hwq]; simp
        have hres : BlkC wq w.heap.size zC := by rw [← hwq]; exact (Below.heap_setCell wr ⟨w.heap.size + 1, 2, none⟩ _ w.heap.size (by simp)).trans HK0.out.res
        have hrow : RowC wq (w.heap.size + 1) (.slice D ds.length dd) ds := by rw [← hwq]; exact row_set1 HK0.out.row HK0.out.out (by decide)
        have hbel : Below w.heap.size w wq := by rw [← hwq]; exact HK0.out.bel.setCell (p := ⟨w.heap.size + 1, 2, none⟩) (by simp) _
        rw [hwq]
        have hbf := below_fill hbel (Nat.le_refl _) (.slice D ds.length dd) (.slice none 0 0) (.slice (some ⟨wr.heap.size, 0, none⟩) 1 1)
        obtain ⟨s0, s1, s2⟩ := fill_alloc hres (.slice D ds.length dd) (.slice none 0 0) (.slice (some ⟨wr.heap.size, 0, none⟩) 1 1) (.cells #[.string ⟨#[84, 101, 97]⟩, .slice MA ms.length mc] 49)
        have hrow2 := row_set3 (u := .slice D ds.length dd) (v := .slice none 0 0) (y := .slice (some ⟨wr.heap.size, 0, none⟩) 1 1) hrow hres (by decide)
        obtain ⟨wt, hwt⟩ : ∃ W, ((wq.setCell ⟨w.heap.size, 0, none⟩ (.slice D ds.length dd)).setCell ⟨w.heap.size, 1, none⟩ (.slice none 0 0)).setCell ⟨w.heap.size, 2, none⟩ (.slice (some ⟨wr.heap.size, 0, none⟩) 1 1) = W := ⟨_, rfl⟩
        rw [hwt] at hbf s0 s1 s2 hrow2 ⊢
        have hts : wt.heap.size = wr.heap.size := by rw [← hwt]; simp [hqs]
        have hal := (Below.refl wt.heap.size wt).alloc (Nat.le_refl _) (.cells #[.string ⟨#[84, 101, 97]⟩, .slice MA ms.length mc] 49)
        have hnew := heap_alloc_new wt (.cells #[.string ⟨#[84, 101, 97]⟩, .slice MA ms.length mc] 49)
        rw [hts] at hnew
        have hbw := below_trans hbf hal
        refine bodyPost_ret (v := .agg #[.slice D ds.length dd, .slice none 0 0, .slice (some ⟨wr.heap.size, 0, none⟩) 1 1]) (by simp [results, Tryz.results26, go_sem, s0, s1, s2]) rfl ?_
        refine ⟨⟨⟨D, dd, ds, none, 0, [], some ⟨wr.heap.size, 0, none⟩, 1, [⟨[84, 101, 97], MA, mc, ms⟩]⟩, rfl, HEMP.out.symm, RowC.holds (RowC.below hrow2 hal), Holds.nil _, _, 1, rfl, ⟨SlAt.one (enc := encIt) hnew, fun x hx => ?_⟩, by simp, by simp [maxLen]⟩, hbw⟩
        obtain rfl : x = ⟨[84, 101, 97], MA, mc, ms⟩ := by simpa using hx
        exact ⟨HM.out.below hbw, hml, hmc⟩

end

section
open Go.RowKit

abbrev kOne : Mk := ⟨1, 1, 5, 3⟩
abbrev kTwo : Mk := ⟨2, 1, 7, 4⟩
abbrev kSix : Mk := ⟨1, 1, 6, 3⟩
abbrev jX : Ca := cartOf [(1, 1)] [kOne]
abbrev jY : Ca := cartOf [(2, 1)] [kTwo]
abbrev jZ : Ca := cartOf [(1, 1), (2, 1)] []
abbrev jT : Ca := cartOf [(1, 1)] [kSix]
abbrev jO : Ca := (([], []), [])
abbrev jXY : Ca := cartOf [(1, 1), (2, 1)] [kOne, kTwo]
abbrev jA : Ca := cartOf [(1, 1)] []
abbrev jB : Ca := cartOf [(1, 1), (2, 1)] [kTwo]
abbrev jN : Ca := cartOf [] [kOne]
/-- What one of the laws' joins asks. -/
abbrev joinB (x y z : Ca) (k : Int) : Bool := sameC (joinV x y) z && (joinE x y == k)
theorem kj1 : joinB jX jY jXY 0 = true := by decide +kernel
theorem kj2 : joinB jX jZ jZ 0 = true := by decide +kernel
theorem kj3 : joinB jXY jZ jZ 0 = true := by decide +kernel
theorem kj4 : joinB jX jO jX 0 = true := by decide +kernel
theorem kj5 : joinB jX jT jT 0 = true := by decide +kernel
theorem kj6 : (sameC (allV [jY, jX, jY, jZ]) jZ && (allE [jY, jX, jY, jZ] == 0)) = true := by decide +kernel
theorem kj7 : joinB jY jA jB 0 = true := by decide +kernel
theorem kj8 : joinB jX jN jO 2 = true := by decide +kernel
theorem kw1 : ((withinJ jX jXY == true) && (joinE jX jXY == 0)) = true := by decide +kernel
theorem kw2 : ((withinJ jX jY == false) && (joinE jX jY == 0)) = true := by decide +kernel
theorem kw3 : ((withinJ jX jZ == true) && (joinE jX jZ == 0)) = true := by decide +kernel
theorem kf1 : ((fitsV jX jY == true) && (joinE jX jY == 0)) = true := by decide +kernel
theorem kf2 : ((fitsV jX jT == false) && (joinE jX jT == 0)) = true := by decide +kernel
theorem kf3 : ((fitsV jX jZ == true) && (joinE jX jZ == 0)) = true := by decide +kernel
theorem sizeJ {c : Ca} (h : (decide (c.1.1.length + c.1.2.length ≤ 80) && (decide (c.2.length ≤ 20) && (decide (cntM c.2 ≤ 200) && c.2.all (fun x => decide (x.1.length ≤ 100) && decide (x.2.length ≤ 10))))) = true) : SizeK 1 c := by
  simp only [Bool.and_eq_true, decide_eq_true_eq, List.all_eq_true] at h
  obtain ⟨h1, h2, h3, h4⟩ := h
  exact ⟨by omega, by omega, by omega, fun x hx => by have := h4 x hx; omega⟩
theorem sX : SizeK 1 jX := sizeJ (by decide +kernel)
theorem sY : SizeK 1 jY := sizeJ (by decide +kernel)
theorem sZ : SizeK 1 jZ := sizeJ (by decide +kernel)
theorem sT : SizeK 1 jT := sizeJ (by decide +kernel)
theorem sO : SizeK 1 jO := sizeJ (by decide +kernel)
theorem sXY : SizeK 1 jXY := sizeJ (by decide +kernel)
theorem sA : SizeK 1 jA := sizeJ (by decide +kernel)
theorem sB : SizeK 1 jB := sizeJ (by decide +kernel)
theorem sN : SizeK 1 jN := sizeJ (by decide +kernel)

/-- The contracts at carts that are known. -/
theorem joins_l {x y z : Ca} (k : Int) (c d t : CaV) (w : World) (hj : joinB x y z k = true) (hx : SizeK 1 x) (hy : SizeK 1 y) (hz : SizeK 1 z) (hc : CaOK w c) (hd : CaOK w d) (ht : CaOK w t) (ec : c.ca = x) (ed : d.ca = y) (et : t.ca = z) :
    Calls Tryz.prog 11 #[mkC c, mkC d, mkC t, .int .i64 k] w (TrueB w) := by
  subst ec ed et
  exact lawJoins11 c d t k 1 1 true w hc hd ht (by have := CaV.num hz; omega) hx hy (by omega) (by omega) hj
theorem within_l {x y : Ca} (u : Bool) (k : Int) (c d : CaV) (w : World) (hj : ((withinJ x y == u) && (joinE x y == k)) = true) (hx : SizeK 1 x) (hy : SizeK 1 y) (hc : CaOK w c) (hd : CaOK w d) (ec : c.ca = x) (ed : d.ca = y) :
    Calls Tryz.prog 19 #[mkC c, mkC d, .bool u, .int .i64 k] w (TrueB w) := by
  subst ec ed
  exact lawWithin11 c d u k 1 1 true w hc hd hx hy (by omega) (by omega) hj
theorem fits_l {x y : Ca} (u : Bool) (k : Int) (c d : CaV) (w : World) (hj : ((fitsV x y == u) && (joinE x y == k)) = true) (hx : SizeK 1 x) (hy : SizeK 1 y) (hc : CaOK w c) (hd : CaOK w d) (ec : c.ca = x) (ed : d.ca = y) :
    Calls Tryz.prog 20 #[mkC c, mkC d, .bool u, .int .i64 k] w (TrueB w) := by
  subst ec ed
  exact lawFits11 c d u k 1 1 true w hc hd hx hy (by omega) (by omega) hj
theorem all_l {l : List Ca} {z : Ca} (A : Option Addr) (cs : List CaV) (cap : Nat) (t : CaV) (w : World) (hj : (sameC (allV l) z && (allE l == 0)) = true) (hs : ∀ x ∈ l, SizeK 1 x) (hz : SizeK 1 z) (hx : CartsAt w A cs) (hcap : cs.length ≤ cap) (hcm : cap ≤ maxLen) (h7 : cs.length ≤ 7) (ht : CaOK w t) (ec : cs.map (·.ca) = l) (et : t.ca = z) :
    Calls Tryz.prog 17 #[.slice A cs.length cap, mkC t, .int .i64 0] w (TrueB w) := by
  subst ec et
  exact lawAll11 A cs cap t 0 true w hx hcap hcm h7 (fun c hc => hs _ (List.mem_map.2 ⟨c, hc, rfl⟩)) ht (by have := CaV.num hz; omega) hj

end

end Go.Proofs.YtfjbocipjmpogaaGreat
