/- Several texts in one: BytA, BytB, BytC, BRg. -/
import Derived.Test.YtpnemekkpifbaaaGreatMAB
import Derived.Test.YtpnemekkpifbaaaGreatMAK
import Derived.WalkSpells
import Derived.IntWalk
import Derived.Test.YtpnemekkpifbaaaGreatMAA
import Derived.Outline
import Derived.Lib.ConvBytes
import Derived.Lib.SlBytesRow
import Derived.Lib.BufferRead
import Derived.Lib.ItoaNum
import Derived.Shelf.Small.Bits
import Derived.Test.YtpnemekkpifbaaaGreatMAM
import Derived.Lib.SmallJoins
namespace Go.Proofs.YtpnemekkpifbaaaGreat

section
open Go.RowKit

section
variable {S T : Nat → Prop} {a b c : World}
end

set_option maxHeartbeats 1000000 in
theorem cloneB (A : Option Addr) (xs : List UInt8) (cap : Nat) (w : World) (hx : BytesAt w A xs) (hm : xs.length ≤ 1000000) :
    Calls Tryz.prog 74 #[.slice A xs.length cap] w fun e w' => (∃ v, e = .returned v ∧ w'.ownsRow w.heap.size 5 1 v xs.length (cellsOf encB xs)) ∧ Below w.heap.size w w' := by
  obtain ⟨i0, hi0, hz0, hz1, hz2⟩ := info_parts infoB
  have q22 : ∀ (w : World) (a : Option Addr) (n c n' c' : Nat), (binOp .eql 22 (.slice a n c) (.slice none n' c')).run Tryz.prog w = .ok (.bool a.isNone) w := fun w a n c n' c' => Lib.run_eql_slice_nil w _ _ a n c n' c' Tryz.underlying22
  match A with
  | none =>
    have h0 : xs = [] := by
      cases xs with
      | nil => rfl
      | cons x r => obtain ⟨_, _, h, _⟩ := hx (by simp); cases h
    subst h0
    go_enter Tryz.func74, Tryz.ntmps74
    go_wp2
    go_ret
    exact ⟨⟨_, rfl, World.ownsRow_nil _ _ _ _⟩, Below.refl _ _⟩
  | some a =>
    go_enter Tryz.func74, Tryz.ntmps74
    go_wp2_with (at_builtin; refine wpList_append_sl _ encB 1 rfl (.tmp 5) (.tmp 6) 22 rfl encB_len (by omega) encB_one w.heap.size 5 i0 _ 1 Tryz.underlying22 hi0 hz0 hz1 hz2 rfl _ [] rfl (World.ownsRow_made w #[] 0 (Nat.le_refl _) (Nat.zero_le _) (by simp)) (some a) _ cap xs rfl rfl (hx.below ((Below.refl _ w).alloc (Nat.le_refl _) _)) (by simp [maxLen]; omega) (by simp; omega) (by simp) ?_; intro v1 w1 hown1 hg1 hat1)
    rw [List.nil_append] at hown1
    go_ret
    exact ⟨⟨_, rfl, hown1⟩, ((Below.refl _ w).alloc (Nat.le_refl _) _).grown hg1 (by simp) (fun k hk => by
      have e0 : some w.heap.size = some k := hk
      injection e0 with e
      omega)⟩

end

section
open Go.RowKit

end

section
open Go.RowKit

/-- What the references' functions that make bytes leave. -/
def MadeB (xs : List UInt8) (w : World) (e : Ending) (w' : World) : Prop := (∃ A c, e = .returned (.slice A xs.length c) ∧ w'.ownsRow w.heap.size 5 1 (.slice A xs.length c) xs.length (cellsOf encB xs)) ∧ Below w.heap.size w w'
theorem MadeB.of {xs : List UInt8} {w w' : World} {v : Value} (h : w'.ownsRow w.heap.size 5 1 v xs.length (cellsOf encB xs)) (hb : Below w.heap.size w w') : MadeB xs w (.returned v) w' := by
  have h0 := h
  obtain ⟨A, c, rfl, _⟩ := SlAt.of_own encB_len h
  exact ⟨⟨A, c, rfl, h0⟩, hb⟩
theorem own_one (w : World) (b : UInt8) : (w.alloc (.cells #[.int .u8 (b.toNat : Int)] 5)).ownsRow w.heap.size 5 1 (.slice (some ⟨w.heap.size, 0, none⟩) 1 1) [b].length (cellsOf encB [b]) :=
  ⟨rfl, .inr ⟨w.heap.size, 1, #[.int .u8 (b.toNat : Int)], rfl, Nat.le_refl _, heap_alloc_new w _, Nat.le_refl _, by simp [maxLen], rfl, rfl⟩⟩

set_option maxHeartbeats 1000000 in
theorem refNumber (k : Nat) : ∀ (n : Nat) (w : World), n ≤ k → n < 18446744073709551616 →
    Calls Tryz.prog 15 #[.int .u64 (n : Int)] w (MadeB (enc n) w) := by
  obtain ⟨i0, hi0, hz0, hz1, hz2⟩ := info_parts infoB
  induction k with
  | zero =>
    intro n w hk hn
    obtain rfl : n = 0 := by omega
    have ho := own_one w (UInt8.ofNat 0)
    have HO := Lib.hid ho
    clear ho
    go_enter Tryz.func15, Tryz.ntmps15
    go_wp2_with fail
    go_ret
    exact MadeB.of (by rw [enc_lt (by omega)]; exact HO.out) ((Below.refl _ _).alloc (Nat.le_refl _) _)
  | succ k ih =>
    intro n w hk hn
    by_cases hlt : n < 128
    · have i0 : (n : Int) < 128 := by omega
      have ho := own_one w (UInt8.ofNat n)
      rw [ofNat_toNatK (by omega)] at ho
      have HO := Lib.hid ho
      have HE := Lib.hid (enc_lt hlt)
      clear ho ih hk hn
      go_enter Tryz.func15, Tryz.ntmps15
      go_wp2_with fail
      go_ret
      exact MadeB.of (by rw [HE.out]; exact HO.out) ((Below.refl _ _).alloc (Nat.le_refl _) _)
    · have i1 : ¬ (n : Int) < 128 := by omega
      have hx : ((UInt8.ofNat (n % 128 + 128)).toNat : Int) = 128 + (n : Int) % 128 := by rw [ofNat_toNatK (by omega)]; omega
      have ho := own_one w (UInt8.ofNat (n % 128 + 128))
      rw [hx] at ho
      have HO := Lib.hid ho
      have HE := Lib.hid (enc_ge (n := n) (by omega))
      have HT := Lib.hid (enc_ten hn)
      have hal : Below w.heap.size w (w.alloc (.cells #[.int .u8 (128 + (n : Int) % 128)] 5)) := (Below.refl _ w).alloc (Nat.le_refl _) _
      have HAL := Lib.hid hal
      have HI := Lib.hid (ih (n / 128) (w.alloc (.cells #[.int .u8 (128 + (n : Int) % 128)] 5)) (by omega) (by omega))
      have e1 : ((n / 128 : Nat) : Int) = (n : Int) / 128 := by omega
      rw [e1] at HI
      have eW : IntKind.u64.wrap ((n : Int) / 128) = (n : Int) / 128 := by simp [IntKind.wrap, IntKind.bits, IntKind.signed]; omega
      clear ho hx ih hk hal e1 hn
      go_enter Tryz.func15, Tryz.ntmps15
      go_wp2_with fail
      refine HI.out.mono ?_
      rintro e w1 ⟨⟨A, c, rfl, ho1⟩, hb⟩
      clear eW
      have hat : BytesAt w1 A (enc (n / 128)) := by
        obtain ⟨A', c', e, _, _, h⟩ := SlAt.of_own encB_len ho1
        cases e; exact h
      have hown : w1.ownsRow w.heap.size 5 1 (.slice (some ⟨w.heap.size, 0, none⟩) 1 1) [UInt8.ofNat (n % 128 + 128)].length (cellsOf encB [UInt8.ofNat (n % 128 + 128)]) := by
        have h0 := HO.out
        refine ⟨h0.1, .inr ?_⟩
        rcases h0.2 with ⟨h1, _⟩ | ⟨g, cap, cur, e1, hb1, hg, rest⟩
        · cases h1
        · exact ⟨g, cap, cur, e1, hb1, (hb.block g (Array.getElem?_eq_some_iff.1 hg).1).trans hg, rest⟩
      have hb2 := below_trans HAL.out hb
      have HX := Lib.hid hown
      have HA := Lib.hid hat
      have HB2 := Lib.hid hb2
      have hle : (enc (n / 128)).length ≤ 100 := by have h1 := HT.out; rw [HE.out, List.length_cons] at h1; omega
      clear ho1 hb hown hat hb2
      go_wp2_with (at_builtin; refine wpList_append_sl _ encB 1 rfl (.tmp 12) (.tmp 15) 22 rfl encB_len (by omega) encB_one w.heap.size 5 i0 _ 1 Tryz.underlying22 hi0 hz0 hz1 hz2 rfl _ [UInt8.ofNat (n % 128 + 128)] rfl HX.out A _ c (enc (n / 128)) rfl rfl HA.out (by simp [maxLen]; omega) (by simp; omega) HB2.out.size ?_; intro v1 w2 hown1 hg1 hat1)
      go_ret
      refine MadeB.of (by rw [HE.out]; exact hown1) (HB2.out.grown hg1 HB2.out.size (fun k hk => ?_))
      have e0 : some w.heap.size = some k := hk
      injection e0 with e
      omega

end

section
open Go.RowKit

theorem put_sz (a : Act) (d : Option Tmp) (v : Value) : (a.put d v).tmps.size = a.tmps.size := by cases d <;> simp [Act.put]
/-- No block in common. -/
def ApB (u v : Value) : Prop := ∀ k, u.ownBlock = some k → v.ownBlock ≠ some k
theorem ApB.symm {u v : Value} (h : ApB u v) : ApB v u := fun k hk e => h k e hk
/-- A row of bytes in a region: the operation that makes it, its slot, its bytes, the operation that takes it. -/
structure Rw where
  j : Nat
  d : Nat
  xs : List UInt8
  k : Option Nat
/-- Is the row there, and not yet taken? -/
def Rw.on (r : Rw) (L : Nat → Bool) : Prop := L r.j = true ∧ ∀ k, r.k = some k → L k = false
/-- E: the world in which the call began; W0: that in which the region begins; n: the frame; D: the row that is there (bytes acc), in slot s, which the operation m moves; the rows; the values that are known. -/
structure Rb where
  E : World
  W0 : World
  n : Nat
  D : Value
  acc : List UInt8
  m : Option Nat
  s : Nat
  rows : List Rw
  known : Nat → Option Value
structure Rb.G (x : Rb) (L : Nat → Bool) (a : Act) (W : World) : Prop where
  bel : Below x.E.heap.size x.E W
  chg : Chg (fun k => x.D.ownBlock = some k) x.W0 W
  sz : a.tmps.size = x.n
  ini : ∀ m, x.m = some m → L m = false → a.eval (.tmp x.s) = x.D ∧ RowB W x.E.heap.size x.D x.acc ∧ ∀ r ∈ x.rows, r.on L → ApB x.D (a.eval (.tmp r.d))
  row : ∀ r ∈ x.rows, r.on L → RowB W x.E.heap.size (a.eval (.tmp r.d)) r.xs
  blk : ∀ r ∈ x.rows, r.on L → ∀ b, (a.eval (.tmp r.d)).ownBlock = some b → x.D.ownBlock = some b ∨ x.W0.heap.size ≤ b
  apa : ∀ r ∈ x.rows, ∀ r' ∈ x.rows, r.j ≠ r'.j → r.on L → r'.on L → ApB (a.eval (.tmp r.d)) (a.eval (.tmp r'.d))
abbrev Rb.S (x : Rb) : RegT := ⟨x.G, fun j v _ => ∀ u, x.known j = some u → v = u⟩
/-- The operation k writes slot d: no other row's; it takes the row made by t, if any. -/
def Rb.free (x : Rb) (k d : Nat) (t : Option Nat) : Bool := (x.rows.all fun r => (r.j == k || r.d != d) && (r.k != some k || some r.j == t))
theorem Rb.free_spec {x : Rb} {k d : Nat} {t : Option Nat} (h : x.free k d t = true) {r : Rw} (hr : r ∈ x.rows) : (r.j = k ∨ r.d ≠ d) ∧ (r.k = some k → some r.j = t) := by
  have h1 := List.all_eq_true.1 h r hr
  simp only [Bool.and_eq_true, Bool.or_eq_true, beq_iff_eq, bne_iff_ne, ne_eq] at h1
  refine ⟨h1.1, fun e => ?_⟩
  rcases h1.2 with h2 | h2
  · exact absurd e h2
  · exact h2
theorem more_false {L : Nat → Bool} {k j : Nat} (h : moreL L k j = false) : j ≠ k ∧ L j = false := by
  unfold moreL at h
  rw [Bool.or_eq_false_iff] at h
  exact ⟨of_decide_eq_false h.1, h.2⟩
theorem more_true {L : Nat → Bool} {k j : Nat} (h : moreL L k j = true) (hne : j ≠ k) : L j = true := by
  unfold moreL at h
  rw [Bool.or_eq_true] at h
  rcases h with h | h
  · exact absurd (of_decide_eq_true h) hne
  · exact h
theorem Rw.on.old {r : Rw} {L : Nat → Bool} {k : Nat} (h : r.on (moreL L k)) (hj : r.j ≠ k) : r.on L := ⟨more_true h.1 hj, fun i hi => (more_false (h.2 i hi)).2⟩
theorem RowB.lt {W : World} {B : Nat} {v : Value} {xs : List UInt8} (h : RowB W B v xs) {b : Nat} (hb : v.ownBlock = some b) : B ≤ b ∧ b < W.heap.size := World.ownsRow.lt h b hb
theorem RowB.kept {W W' : World} {B : Nat} {u v : Value} {xs : List UInt8} (h : RowB W B v xs) (hg : W.grownBy W' u.ownBlock) (ha : ApB u v) : RowB W' B v xs := h.chg (S := fun k => u.ownBlock = some k) (Chg.of_grown hg fun _ e => e) fun k hk e => ha k e hk

section
variable {P : Program} {ops : Array Oper} {Q : Exit → Act → World → Prop} {a0 : Act} {x : Rb} {k d : Nat} {o : Oper}
/-- What does not touch the rows. -/
theorem Rb.G.keep {L : Nat → Bool} {a : Act} {W W' : World} (g : x.G L a W) (hb : BelW W W') (v : Value) (hf : x.free k d none = true) (hj : ∀ r ∈ x.rows, r.j ≠ k) (_ : ∀ m, x.m = some m → m ≠ k) (hs : d ≠ x.s) : x.G (moreL L k) (a.put (some d) v) W' := by
  have ev : ∀ r ∈ x.rows, (a.put (some d) v).eval (.tmp r.d) = a.eval (.tmp r.d) := fun r hr => eval_put_ne fun e => by
    rcases (Rb.free_spec hf hr).1 with h | h
    · exact hj r hr h
    · exact h e.symm
  refine ⟨below_trans g.bel hb, g.chg.trans (T := fun _ => False) (.of_below hb) (fun _ _ h => h.elim), (put_sz _ _ _).trans g.sz, fun m hm1 hm2 => ?_, fun r hr h => ?_, fun r hr h => ?_, fun r hr r' hr' hne h h' => ?_⟩
  · obtain ⟨i1, i2, i3⟩ := g.ini m hm1 (more_false hm2).2
    exact ⟨(eval_put_ne hs).trans i1, i2.below hb, fun r hr h => by rw [ev r hr]; exact i3 r hr (h.old (hj r hr))⟩
  · rw [ev r hr]; exact (g.row r hr (h.old (hj r hr))).below hb
  · rw [ev r hr]; exact g.blk r hr (h.old (hj r hr))
  · rw [ev r hr, ev r' hr']; exact g.apa r hr r' hr' hne (h.old (hj r hr)) (h'.old (hj r' hr'))
/-- A value that is read or reckoned. -/
theorem stepPure (ho : ops[k]? = some o) (hd : o.dst = some d) (hf : x.free k d none = true) (hj : (x.rows.all fun r => r.j != k) = true) (hm : (x.m != some k) = true) (hs : (d != x.s) = true)
    (h : ∀ L a w, InvT ops a0 x.S L a w → L k = false → (∀ j, waitsB o j = true → L j = true) → Region.wanted o (yielded ops a.tmps) = true ∧ ∃ v, (execOp a.eval o).run P w = .ok (.value v) w ∧ ∀ u, x.known k = some u → v = u) : StepT P ops Q a0 x.S k o := by
  refine StepT.val ho fun L a W hI hk hw => ?_
  obtain ⟨h1, v, h2, h3⟩ := h L a W hI hk hw
  rw [hd]
  have hj' : ∀ r ∈ x.rows, r.j ≠ k := fun r hr => by simpa using List.all_eq_true.1 hj r hr
  exact ⟨h1, v, W, h2, fun _ _ _ h => h, hI.glob.keep (Below.refl _ W) v hf hj' (fun m h1 e => by rw [h1, e] at hm; simp at hm) (by simpa using hs), h3⟩
/-- One row more. -/
theorem Rb.G.step {L : Nat → Bool} {a : Act} {W W' : World} {v : Value} {r0 : Rw} {t : Option Nat} (g : x.G L a W) (hinj : ∀ r ∈ x.rows, ∀ r' ∈ x.rows, r.j = r'.j → r = r') (h0 : r0 ∈ x.rows) (hj0 : r0.j = k) (hd0 : r0.d = d) (hf : x.free k d t = true) (hdn : d < x.n)
    (hs : ∀ m, x.m = some m → m ≠ k → L m = false → d ≠ x.s) (hbel : Below x.E.heap.size x.E W') (hchg : Chg (fun k => x.D.ownBlock = some k) x.W0 W')
    (hini : ∀ m, x.m = some m → m ≠ k → L m = false → RowB W' x.E.heap.size x.D x.acc)
    (hold : ∀ r ∈ x.rows, r.on L → r.k ≠ some k → r.j ≠ k → RowB W' x.E.heap.size (a.eval (.tmp r.d)) r.xs)
    (hnew : RowB W' x.E.heap.size v r0.xs) (hblk : ∀ b, v.ownBlock = some b → x.D.ownBlock = some b ∨ x.W0.heap.size ≤ b)
    (hapn : ∀ r ∈ x.rows, r.on L → r.k ≠ some k → r.j ≠ k → ApB v (a.eval (.tmp r.d)))
    (hapD : ∀ m, x.m = some m → m ≠ k → L m = false → ApB x.D v) : x.G (moreL L k) (a.put (some d) v) W' := by
  have ev0 : (a.put (some d) v).eval (.tmp d) = v := eval_put_eq (by rw [g.sz]; exact hdn)
  have ev : ∀ r ∈ x.rows, r.j ≠ k → (a.put (some d) v).eval (.tmp r.d) = a.eval (.tmp r.d) := fun r hr hj => eval_put_ne fun e => by
    rcases (Rb.free_spec hf hr).1 with h | h
    · exact hj h
    · exact h e.symm
  have hon : ∀ r ∈ x.rows, r.on (moreL L k) → r.j ≠ k → r.on L ∧ r.k ≠ some k := fun r _ h hj => ⟨h.old hj, fun e => by have := (more_false (h.2 k e)).1; exact this rfl⟩
  have he : ∀ r ∈ x.rows, r.j = k → r = r0 := fun r hr h => hinj r hr r0 h0 (by rw [h, hj0])
  refine ⟨hbel, hchg, (put_sz _ _ _).trans g.sz, fun m hm1 hm2 => ?_, fun r hr h => ?_, fun r hr h => ?_, fun r hr r' hr' hne h h' => ?_⟩
  · obtain ⟨hmk, hL⟩ := more_false hm2
    obtain ⟨i1, i2, i3⟩ := g.ini m hm1 hL
    refine ⟨(eval_put_ne (hs m hm1 hmk hL)).trans i1, hini m hm1 hmk hL, fun r hr h => ?_⟩
    by_cases hj : r.j = k
    · rw [he r hr hj, hd0, ev0]; exact hapD m hm1 hmk hL
    · rw [ev r hr hj]; exact i3 r hr (hon r hr h hj).1
  · by_cases hj : r.j = k
    · rw [he r hr hj, hd0, ev0]; exact hnew
    · rw [ev r hr hj]; exact hold r hr (hon r hr h hj).1 (hon r hr h hj).2 hj
  · by_cases hj : r.j = k
    · rw [he r hr hj, hd0, ev0]; exact hblk
    · rw [ev r hr hj]; exact g.blk r hr (hon r hr h hj).1
  · by_cases hj : r.j = k
    · have hj' : r'.j ≠ k := fun e => hne (by rw [hj, e])
      rw [he r hr hj, hd0, ev0, ev r' hr' hj']
      exact hapn r' hr' (hon r' hr' h' hj').1 (hon r' hr' h' hj').2 hj'
    · by_cases hj' : r'.j = k
      · rw [he r' hr' hj', hd0, ev0, ev r hr hj]
        exact (hapn r hr (hon r hr h hj).1 (hon r hr h hj).2 hj).symm
      · rw [ev r hr hj, ev r' hr' hj']
        exact g.apa r hr r' hr' hne (hon r hr h hj).1 (hon r' hr' h' hj').1
/-- The row that is there is moved. -/
theorem stepMove {r0 : Rw} (hinj : ∀ r ∈ x.rows, ∀ r' ∈ x.rows, r.j = r'.j → r = r') (h0 : r0 ∈ x.rows) (hj0 : r0.j = k) (hd0 : r0.d = d) (hx0 : r0.xs = x.acc) (ho : ops[k]? = some o) (hd : o.dst = some d) (hf : x.free k d none = true) (hdn : d < x.n) (hm : x.m = some k) (hkn : x.known k = none)
    (hgd : o.guard = none) (hop : o.op = .move (.tmp x.s)) : StepT P ops Q a0 x.S k o := by
  refine StepT.val ho fun L a W hI hk hw => ?_
  have g := hI.glob
  obtain ⟨i1, i2, i3⟩ := g.ini k hm hk
  have hrun : (execOp a.eval o).run P W = .ok (.value x.D) W := by
    unfold execOp
    simp only [hop, i1]
    rfl
  have hmk : ∀ {p : Prop} m, x.m = some m → m ≠ k → p := fun m h1 h2 => by rw [hm] at h1; injection h1 with h1; exact absurd h1.symm h2
  rw [hd]
  exact ⟨by unfold Region.wanted; rw [hgd], x.D, W, hrun, fun _ _ _ h => h, g.step hinj h0 hj0 hd0 hf hdn (fun m h1 h2 _ => hmk m h1 h2) g.bel g.chg (fun m h1 h2 _ => hmk m h1 h2) (fun r hr h _ _ => g.row r hr h) (by rw [hx0]; exact i2) (fun b h => .inl h) (fun r hr h _ _ => i3 r hr h) (fun m h1 h2 _ => hmk m h1 h2), fun u hu => by rw [hkn] at hu; cases hu⟩
/-- A call that makes a row. -/
theorem stepCall {r0 : Rw} (hinj : ∀ r ∈ x.rows, ∀ r' ∈ x.rows, r.j = r'.j → r = r') (h0 : r0 ∈ x.rows) (hj0 : r0.j = k) (hd0 : r0.d = d) (ho : ops[k]? = some o) (hd : o.dst = some d) (hf : x.free k d none = true) (hdn : d < x.n) (hs : (d != x.s) = true) (hkn : x.known k = none)
    (h : ∀ L a w, InvT ops a0 x.S L a w → L k = false → (∀ j, waitsB o j = true → L j = true) → Region.wanted o (yielded ops a.tmps) = true ∧ ∃ f args, (execOp a.eval o).run P w = .ok (.enter f args) w ∧ Calls P f args w (MadeB r0.xs w)) : StepT P ops Q a0 x.S k o := by
  refine StepT.call ho fun L a W hI hk hw => ?_
  have g := hI.glob
  obtain ⟨h1, f, args, h2, h3⟩ := h L a W hI hk hw
  refine ⟨h1, f, args, h2, h3.mono ?_⟩
  rintro e W' ⟨⟨A, c, rfl, hown⟩, hb⟩
  have hnew : ∀ b, (Value.slice A r0.xs.length c).ownBlock = some b → W.heap.size ≤ b := fun b hb => (World.ownsRow.lt hown b hb).1
  rw [hd]
  refine ⟨_, rfl, fun _ _ _ h => h, g.step hinj h0 hj0 hd0 hf hdn (fun _ _ _ _ => by simpa using hs) (below_trans g.bel hb) (g.chg.trans (T := fun _ => False) (.of_below hb) (fun _ _ h => h.elim)) (fun m h1 _ h2 => (g.ini m h1 h2).2.1.below hb) (fun r hr h _ _ => (g.row r hr h).below hb) (Go.Joins.ownsRow_le hown g.bel.size) (fun b h => .inr (Nat.le_trans g.chg.size (hnew b h))) (fun r hr h _ _ b h1 h2 => ?_) (fun m h1 _ h2 b h3 h4 => ?_), fun u hu => by rw [hkn] at hu; cases hu⟩
  · have := hnew b h1
    have := ((g.row r hr h).lt h2).2
    omega
  · have := hnew b h4
    have := ((g.ini m h1 h2).2.1.lt h3).2
    omega
/-- A row is put where it stays. -/
theorem stepPass {r0 r1 : Rw} (hinj : ∀ r ∈ x.rows, ∀ r' ∈ x.rows, r.j = r'.j → r = r') (h0 : r0 ∈ x.rows) (hj0 : r0.j = k) (hd0 : r0.d = d) (h1 : r1 ∈ x.rows) (hk1 : r1.k = some k) (_ : r1.j ≠ k) (hx0 : r0.xs = r1.xs) (ho : ops[k]? = some o) (hd : o.dst = some d) (hf : x.free k d (some r1.j) = true) (hdn : d < x.n) (hmw : ∀ m, x.m = some m → waitsB o m = true) (hkn : x.known k = none)
    (hgd : o.guard = none) (hop : o.op = .assign (.tmp r1.d)) (hw1 : waitsB o r1.j = true) : StepT P ops Q a0 x.S k o := by
  refine StepT.val ho fun L a W hI hk hw => ?_
  have g := hI.glob
  have hon : r1.on L := ⟨hw _ hw1, fun i hi => (Option.some.inj (hk1.symm.trans hi)) ▸ hk⟩
  have hrun : (execOp a.eval o).run P W = .ok (.value (a.eval (.tmp r1.d))) W := by
    unfold execOp
    simp only [hop]
    rfl
  have hmn : ∀ {p : Prop} m, x.m = some m → L m = false → p := fun m h1 h2 => by have := hw m (hmw m h1); rw [h2] at this; cases this
  rw [hd]
  refine ⟨by unfold Region.wanted; rw [hgd], _, W, hrun, fun _ _ _ h => h, g.step hinj h0 hj0 hd0 hf hdn (fun m h1 _ h2 => hmn m h1 h2) g.bel g.chg (fun m h1 _ h2 => hmn m h1 h2) (fun r hr h _ _ => g.row r hr h) (by rw [hx0]; exact g.row r1 h1 hon) (g.blk r1 h1 hon) (fun r hr h hrk hrj => g.apa r1 h1 r hr (fun e => hrk ?_) hon h) (fun m h1 _ h2 => hmn m h1 h2), fun u hu => by rw [hkn] at hu; cases hu⟩
  rw [← hinj r1 h1 r hr e]; exact hk1
/-- A row is appended to another one. -/
theorem stepApp {r0 r1 r2 : Rw} (hinj : ∀ r ∈ x.rows, ∀ r' ∈ x.rows, r.j = r'.j → r = r') (h0 : r0 ∈ x.rows) (hj0 : r0.j = k) (hd0 : r0.d = d) (h1 : r1 ∈ x.rows) (hk1 : r1.k = some k) (_ : r1.j ≠ k) (h2 : r2 ∈ x.rows) (hk2 : r2.k = none) (_ : r2.j ≠ k) (_ : r1.j ≠ r2.j) (hx0 : r0.xs = r1.xs ++ r2.xs) (hlen : r1.xs.length + r2.xs.length ≤ 1000000000) (ho : ops[k]? = some o) (hd : o.dst = some d) (hf : x.free k d (some r1.j) = true) (hdn : d < x.n) (hs : (d != x.s) = true) (hkn : x.known k = none)
    (hgd : o.guard = none) (hw1 : waitsB o r1.j = true) (hw2 : waitsB o r2.j = true)
    (hop : ∀ (a : Act) (W : World) (u v w' : Value) (W' : World), a.eval (.tmp r1.d) = u → a.eval (.tmp r2.d) = v → (Builtin.append_ #[22, 22] 22 #[u, v]).run Tryz.prog W = .ok w' W' → (execOp a.eval o).run P W = .ok (.value w') W') : StepT P ops Q a0 x.S k o := by
  obtain ⟨i0, hi0, hz0, hz1, hz2⟩ := info_parts infoB
  refine StepT.val ho fun L a W hI hk hw => ?_
  have g := hI.glob
  have hon1 : r1.on L := ⟨hw _ hw1, fun i hi => (Option.some.inj (hk1.symm.trans hi)) ▸ hk⟩
  have hon2 : r2.on L := ⟨hw _ hw2, fun i hi => by rw [hk2] at hi; cases hi⟩
  have g1 := g.row r1 h1 hon1
  have g2 := g.row r2 h2 hon2
  obtain ⟨A2, c2, e2, _, _, hat2⟩ := SlAt.of_own encB_len g2
  obtain ⟨v', W', hrun, hown, hgr, hblk⟩ := run_append_sl (P := Tryz.prog) W encB 1 encB_len (by omega) encB_one x.E.heap.size 22 22 5 i0 _ 1 Tryz.underlying22 hi0 hz0 hz1 hz2 rfl (a.eval (.tmp r1.d)) r1.xs g1 A2 c2 r2.xs hat2 (Nat.le_trans hlen (by decide)) (by omega) g.bel.size
  have hb1 : ∀ b, (a.eval (.tmp r1.d)).ownBlock = some b → x.E.heap.size ≤ b ∧ b < W.heap.size := fun b hb => g1.lt hb
  rw [hd]
  refine ⟨by unfold Region.wanted; rw [hgd], v', W', hop a W _ _ v' W' rfl e2 hrun, fun _ _ _ h => h, g.step hinj h0 hj0 hd0 hf hdn (fun _ _ _ _ => by simpa using hs) (g.bel.grown hgr g.bel.size (fun b hb => (hb1 b hb).1)) ?_ (fun m hm _ hL => ?_) (fun r hr h hrk _ => ?_) (by rw [hx0]; exact hown) (fun b hb => ?_) (fun r hr h hrk _ => ?_) (fun m hm _ hL b hb hb' => ?_), fun u hu => by rw [hkn] at hu; cases hu⟩
  · refine g.chg.trans (T := fun b => (a.eval (.tmp r1.d)).ownBlock = some b) (Chg.of_grown hgr fun _ e => e) fun b hb e => ?_
    rcases g.blk r1 h1 hon1 b e with h | h
    · exact h
    · omega
  · obtain ⟨_, k2, k3⟩ := g.ini m hm hL
    exact k2.kept hgr (k3 r1 h1 hon1).symm
  · exact (g.row r hr h).kept hgr (g.apa r1 h1 r hr (fun e => hrk (by rw [← hinj r1 h1 r hr e]; exact hk1)) hon1 h)
  · rcases hblk with e | e
    · rw [e] at hb; exact g.blk r1 h1 hon1 b hb
    · rw [e] at hb; exact .inr ((Option.some.inj hb) ▸ g.chg.size)
  · intro b hb hb'
    rcases hblk with e | e
    · rw [e] at hb
      exact g.apa r1 h1 r hr (fun e => hrk (by rw [← hinj r1 h1 r hr e]; exact hk1)) hon1 h b hb hb'
    · rw [e] at hb
      have hb := Option.some.inj hb
      have := ((g.row r hr h).lt hb').2
      omega
  · obtain ⟨_, k2, k3⟩ := g.ini m hm hL
    rcases hblk with e | e
    · rw [e] at hb'; exact k3 r1 h1 hon1 b hb hb'
    · rw [e] at hb'
      have hb' := Option.some.inj hb'
      have := (k2.lt hb).2
      omega
/-- A call that gives a value that is known, or that nobody asks for. -/
theorem stepVal (ho : ops[k]? = some o) (hd : o.dst = some d) (hf : x.free k d none = true) (hj : (x.rows.all fun r => r.j != k) = true) (hm : (x.m != some k) = true) (hs : (d != x.s) = true)
    (h : ∀ L a w, InvT ops a0 x.S L a w → L k = false → (∀ j, waitsB o j = true → L j = true) → Region.wanted o (yielded ops a.tmps) = true ∧ ∃ f args, (execOp a.eval o).run P w = .ok (.enter f args) w ∧ Calls P f args w fun e w' => ∃ v, e = .returned v ∧ BelW w w' ∧ ∀ u, x.known k = some u → v = u) : StepT P ops Q a0 x.S k o := by
  refine StepT.call ho fun L a W hI hk hw => ?_
  obtain ⟨h1, f, args, h2, h3⟩ := h L a W hI hk hw
  refine ⟨h1, f, args, h2, h3.mono ?_⟩
  rintro e W' ⟨v, rfl, hb, hv⟩
  rw [hd]
  have hj' : ∀ r ∈ x.rows, r.j ≠ k := fun r hr => by simpa using List.all_eq_true.1 hj r hr
  exact ⟨v, rfl, fun _ _ _ h => h, hI.glob.keep hb v hf hj' (fun m h1 e => by rw [h1, e] at hm; simp at hm) (by simpa using hs), hv⟩
/-- A row that is there, as a slice. -/
theorem Rb.slice {L : Nat → Bool} {a : Act} {W : World} (hI : InvT ops a0 x.S L a W) {r : Rw} (hr : r ∈ x.rows) (hon : r.on L) : ∃ A c, a.tmps[r.d]?.getD undef = .slice A r.xs.length c ∧ BytesAt W A r.xs ∧ HoldsB W (.slice A r.xs.length c) r.xs := by
  obtain ⟨A, c, e, _, _, h⟩ := SlAt.of_own encB_len (hI.glob.row r hr hon)
  have h2 := HoldsB.of_own (hI.glob.row r hr hon)
  rw [e] at h2
  exact ⟨A, c, by rw [← eval_tmp]; exact e, h, h2⟩
/-- A value that is known. -/
theorem Rb.at {L : Nat → Bool} {a : Act} {W : World} (hI : InvT ops a0 x.S L a W) (j d : Nat) (hL : L j = true) (hd : dstOf ops j = some d) {u : Value} (hu : x.known j = some u) : a.tmps[d]?.getD undef = u := by
  obtain ⟨v, e, h⟩ := hI.get j d hL hd
  rw [e]; exact h u hu
/-- The slot of the row that is there, until it is moved. -/
theorem inj_of : ∀ {l : List Rw}, (l.map (·.j)).Nodup → ∀ r ∈ l, ∀ r' ∈ l, r.j = r'.j → r = r'
  | [], _, _, h, _, _, _ => by cases h
  | y :: l, hn, r, hr, r', hr', e => by
    rw [List.map_cons, List.nodup_cons] at hn
    rcases List.mem_cons.1 hr with h1 | h1
    · rcases List.mem_cons.1 hr' with h2 | h2
      · rw [h1, h2]
      · exact absurd (by rw [← h1, e]; exact List.mem_map_of_mem h2) hn.1
    · rcases List.mem_cons.1 hr' with h2 | h2
      · exact absurd (by rw [← h2, ← e]; exact List.mem_map_of_mem h1) hn.1
      · exact inj_of hn.2 r h1 r' h2 e
end
/-- What is known ahead of the region. -/
theorem Rb.G.start {x : Rb} {a : Act} {W : World} (hb : Below x.E.heap.size x.E W) (hW : x.W0 = W) (hn : a.tmps.size = x.n) (hi : ∀ m, x.m = some m → a.eval (.tmp x.s) = x.D ∧ RowB W x.E.heap.size x.D x.acc) : x.G (fun _ => false) a W.drew := by
  subst hW
  have hbd : BelW x.W0 x.W0.drew := (Below.refl _ x.W0).drew
  refine ⟨below_trans hb hbd, Chg.of_below hbd, hn, fun m hm _ => ⟨(hi m hm).1, (hi m hm).2.below hbd, fun r _ h => by cases h.1⟩, fun r _ h => (by cases h.1), fun r _ h => (by cases h.1), fun r _ r' _ _ h => (by cases h.1)⟩

end

end Go.Proofs.YtpnemekkpifbaaaGreat
