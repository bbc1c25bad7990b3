/- Several texts in one: BRg, VecK. -/
import Derived.Test.YtgdnibahiomneaaGreatMAB
import Derived.Test.YtgdnibahiomneaaGreatMAC
import Derived.Lib.SmallJoins
namespace Go.Proofs.YtgdnibahiomneaaGreat

section
open Go.RowKit

theorem moreL_ne {L : Nat → Bool} {k j : Nat} (h : j ≠ k) : moreL L k j = L j := by unfold moreL; simp [h]
theorem put_sz (a : Act) (d : Option Tmp) (v : Value) : (a.put d v).tmps.size = a.tmps.size := by cases d <;> simp [Act.put]
/-- No block in common. -/
def ApB (u v : Value) : Prop := ∀ k, u.ownBlock = some k → v.ownBlock ≠ some k
theorem ApB.symm {u v : Value} (h : ApB u v) : ApB v u := fun k hk e => h k e hk
/-- A row of bytes in a region: the operation that makes it, its slot, its bytes, the operation that takes it. -/
structure Rw where
  j : Nat
  d : Nat
  xs : List UInt8
  k : Option Nat
/-- Is the row there, and not yet taken? -/
def Rw.on (r : Rw) (L : Nat → Bool) : Prop := L r.j = true ∧ ∀ k, r.k = some k → L k = false
/-- E: the world in which the call began; W0: that in which the region begins; n: the frame; D: the row that is there (bytes acc), in slot s, which the operation m moves; the rows; the values that are known. -/
structure Rb where
  E : World
  W0 : World
  n : Nat
  D : Value
  acc : List UInt8
  m : Option Nat
  s : Nat
  rows : List Rw
  known : Nat → Option Value
structure Rb.G (x : Rb) (L : Nat → Bool) (a : Act) (W : World) : Prop where
  bel : Below x.E.heap.size x.E W
  chg : Chg (fun k => x.D.ownBlock = some k) x.W0 W
  sz : a.tmps.size = x.n
  ini : ∀ m, x.m = some m → L m = false → a.eval (.tmp x.s) = x.D ∧ RowB W x.E.heap.size x.D x.acc ∧ ∀ r ∈ x.rows, r.on L → ApB x.D (a.eval (.tmp r.d))
  row : ∀ r ∈ x.rows, r.on L → RowB W x.E.heap.size (a.eval (.tmp r.d)) r.xs
  blk : ∀ r ∈ x.rows, r.on L → ∀ b, (a.eval (.tmp r.d)).ownBlock = some b → x.D.ownBlock = some b ∨ x.W0.heap.size ≤ b
  apa : ∀ r ∈ x.rows, ∀ r' ∈ x.rows, r.j ≠ r'.j → r.on L → r'.on L → ApB (a.eval (.tmp r.d)) (a.eval (.tmp r'.d))
abbrev Rb.S (x : Rb) : RegT := ⟨x.G, fun j v _ => ∀ u, x.known j = some u → v = u⟩
/-- The operation k writes slot d: no other row's; it takes the row made by t, if any. -/
def Rb.free (x : Rb) (k d : Nat) (t : Option Nat) : Bool := (x.rows.all fun r => (r.j == k || r.d != d) && (r.k != some k || some r.j == t))
theorem Rb.free_spec {x : Rb} {k d : Nat} {t : Option Nat} (h : x.free k d t = true) {r : Rw} (hr : r ∈ x.rows) : (r.j = k ∨ r.d ≠ d) ∧ (r.k = some k → some r.j = t) := by
  have h1 := List.all_eq_true.1 h r hr
  simp only [Bool.and_eq_true, Bool.or_eq_true, beq_iff_eq, bne_iff_ne, ne_eq] at h1
  refine ⟨h1.1, fun e => ?_⟩
  rcases h1.2 with h2 | h2
  · exact absurd e h2
  · exact h2
theorem more_false {L : Nat → Bool} {k j : Nat} (h : moreL L k j = false) : j ≠ k ∧ L j = false := by
  unfold moreL at h
  rw [Bool.or_eq_false_iff] at h
  exact ⟨of_decide_eq_false h.1, h.2⟩
theorem more_true {L : Nat → Bool} {k j : Nat} (h : moreL L k j = true) (hne : j ≠ k) : L j = true := by
  unfold moreL at h
  rw [Bool.or_eq_true] at h
  rcases h with h | h
  · exact absurd (of_decide_eq_true h) hne
  · exact h
theorem Rw.on.old {r : Rw} {L : Nat → Bool} {k : Nat} (h : r.on (moreL L k)) (hj : r.j ≠ k) : r.on L := ⟨more_true h.1 hj, fun i hi => (more_false (h.2 i hi)).2⟩
theorem RowB.lt {W : World} {B : Nat} {v : Value} {xs : List UInt8} (h : RowB W B v xs) {b : Nat} (hb : v.ownBlock = some b) : B ≤ b ∧ b < W.heap.size := World.ownsRow.lt h b hb
theorem RowB.kept {W W' : World} {B : Nat} {u v : Value} {xs : List UInt8} (h : RowB W B v xs) (hg : W.grownBy W' u.ownBlock) (ha : ApB u v) : RowB W' B v xs := h.chg (S := fun k => u.ownBlock = some k) (Chg.of_grown hg fun _ e => e) fun k hk e => ha k e hk

section
variable {P : Program} {ops : Array Oper} {Q : Exit → Act → World → Prop} {a0 : Act} {x : Rb} {k d : Nat} {o : Oper}
/-- What does not touch the rows. -/
theorem Rb.G.keep {L : Nat → Bool} {a : Act} {W W' : World} (g : x.G L a W) (hb : BelW W W') (v : Value) (hf : x.free k d none = true) (hj : ∀ r ∈ x.rows, r.j ≠ k) (_ : ∀ m, x.m = some m → m ≠ k) (hs : d ≠ x.s) : x.G (moreL L k) (a.put (some d) v) W' := by
  have ev : ∀ r ∈ x.rows, (a.put (some d) v).eval (.tmp r.d) = a.eval (.tmp r.d) := fun r hr => eval_put_ne fun e => by
    rcases (Rb.free_spec hf hr).1 with h | h
    · exact hj r hr h
    · exact h e.symm
  refine ⟨below_trans g.bel hb, g.chg.trans (T := fun _ => False) (.of_below hb) (fun _ _ h => h.elim), (put_sz _ _ _).trans g.sz, fun m hm1 hm2 => ?_, fun r hr h => ?_, fun r hr h => ?_, fun r hr r' hr' hne h h' => ?_⟩
  · obtain ⟨i1, i2, i3⟩ := g.ini m hm1 (more_false hm2).2
    exact ⟨(eval_put_ne hs).trans i1, i2.below hb, fun r hr h => by rw [ev r hr]; exact i3 r hr (h.old (hj r hr))⟩
  · rw [ev r hr]; exact (g.row r hr (h.old (hj r hr))).below hb
  · rw [ev r hr]; exact g.blk r hr (h.old (hj r hr))
  · rw [ev r hr, ev r' hr']; exact g.apa r hr r' hr' hne (h.old (hj r hr)) (h'.old (hj r' hr'))
/-- A value that is read or reckoned. -/
theorem stepPure (ho : ops[k]? = some o) (hd : o.dst = some d) (hf : x.free k d none = true) (hj : (x.rows.all fun r => r.j != k) = true) (hm : (x.m != some k) = true) (hs : (d != x.s) = true)
    (h : ∀ L a w, InvT ops a0 x.S L a w → L k = false → (∀ j, waitsB o j = true → L j = true) → Region.wanted o (yielded ops a.tmps) = true ∧ ∃ v, (execOp a.eval o).run P w = .ok (.value v) w ∧ ∀ u, x.known k = some u → v = u) : StepT P ops Q a0 x.S k o := by
  refine StepT.val ho fun L a W hI hk hw => ?_
  obtain ⟨h1, v, h2, h3⟩ := h L a W hI hk hw
  rw [hd]
  have hj' : ∀ r ∈ x.rows, r.j ≠ k := fun r hr => by simpa using List.all_eq_true.1 hj r hr
  exact ⟨h1, v, W, h2, fun _ _ _ h => h, hI.glob.keep (Below.refl _ W) v hf hj' (fun m h1 e => by rw [h1, e] at hm; simp at hm) (by simpa using hs), h3⟩
/-- One row more. -/
theorem Rb.G.step {L : Nat → Bool} {a : Act} {W W' : World} {v : Value} {r0 : Rw} {t : Option Nat} (g : x.G L a W) (hinj : ∀ r ∈ x.rows, ∀ r' ∈ x.rows, r.j = r'.j → r = r') (h0 : r0 ∈ x.rows) (hj0 : r0.j = k) (hd0 : r0.d = d) (hf : x.free k d t = true) (hdn : d < x.n)
    (hs : ∀ m, x.m = some m → m ≠ k → L m = false → d ≠ x.s) (hbel : Below x.E.heap.size x.E W') (hchg : Chg (fun k => x.D.ownBlock = some k) x.W0 W')
    (hini : ∀ m, x.m = some m → m ≠ k → L m = false → RowB W' x.E.heap.size x.D x.acc)
    (hold : ∀ r ∈ x.rows, r.on L → r.k ≠ some k → r.j ≠ k → RowB W' x.E.heap.size (a.eval (.tmp r.d)) r.xs)
    (hnew : RowB W' x.E.heap.size v r0.xs) (hblk : ∀ b, v.ownBlock = some b → x.D.ownBlock = some b ∨ x.W0.heap.size ≤ b)
    (hapn : ∀ r ∈ x.rows, r.on L → r.k ≠ some k → r.j ≠ k → ApB v (a.eval (.tmp r.d)))
    (hapD : ∀ m, x.m = some m → m ≠ k → L m = false → ApB x.D v) : x.G (moreL L k) (a.put (some d) v) W' := by
  have ev0 : (a.put (some d) v).eval (.tmp d) = v := eval_put_eq (by rw [g.sz]; exact hdn)
  have ev : ∀ r ∈ x.rows, r.j ≠ k → (a.put (some d) v).eval (.tmp r.d) = a.eval (.tmp r.d) := fun r hr hj => eval_put_ne fun e => by
    rcases (Rb.free_spec hf hr).1 with h | h
    · exact hj h
    · exact h e.symm
  have hon : ∀ r ∈ x.rows, r.on (moreL L k) → r.j ≠ k → r.on L ∧ r.k ≠ some k := fun r _ h hj => ⟨h.old hj, fun e => by have := (more_false (h.2 k e)).1; exact this rfl⟩
  have he : ∀ r ∈ x.rows, r.j = k → r = r0 := fun r hr h => hinj r hr r0 h0 (by rw [h, hj0])
  refine ⟨hbel, hchg, (put_sz _ _ _).trans g.sz, fun m hm1 hm2 => ?_, fun r hr h => ?_, fun r hr h => ?_, fun r hr r' hr' hne h h' => ?_⟩
  · obtain ⟨hmk, hL⟩ := more_false hm2
    obtain ⟨i1, i2, i3⟩ := g.ini m hm1 hL
    refine ⟨(eval_put_ne (hs m hm1 hmk hL)).trans i1, hini m hm1 hmk hL, fun r hr h => ?_⟩
    by_cases hj : r.j = k
    · rw [he r hr hj, hd0, ev0]; exact hapD m hm1 hmk hL
    · rw [ev r hr hj]; exact i3 r hr (hon r hr h hj).1
  · by_cases hj : r.j = k
    · rw [he r hr hj, hd0, ev0]; exact hnew
    · rw [ev r hr hj]; exact hold r hr (hon r hr h hj).1 (hon r hr h hj).2 hj
  · by_cases hj : r.j = k
    · rw [he r hr hj, hd0, ev0]; exact hblk
    · rw [ev r hr hj]; exact g.blk r hr (hon r hr h hj).1
  · by_cases hj : r.j = k
    · have hj' : r'.j ≠ k := fun e => hne (by rw [hj, e])
      rw [he r hr hj, hd0, ev0, ev r' hr' hj']
      exact hapn r' hr' (hon r' hr' h' hj').1 (hon r' hr' h' hj').2 hj'
    · by_cases hj' : r'.j = k
      · rw [he r' hr' hj', hd0, ev0, ev r hr hj]
        exact (hapn r hr (hon r hr h hj).1 (hon r hr h hj).2 hj).symm
      · rw [ev r hr hj, ev r' hr' hj']
        exact g.apa r hr r' hr' hne (hon r hr h hj).1 (hon r' hr' h' hj').1
/-- The row that is there is moved. -/
theorem stepMove {r0 : Rw} (hinj : ∀ r ∈ x.rows, ∀ r' ∈ x.rows, r.j = r'.j → r = r') (h0 : r0 ∈ x.rows) (hj0 : r0.j = k) (hd0 : r0.d = d) (hx0 : r0.xs = x.acc) (ho : ops[k]? = some o) (hd : o.dst = some d) (hf : x.free k d none = true) (hdn : d < x.n) (hm : x.m = some k) (hkn : x.known k = none)
    (hgd : o.guard = none) (hop : o.op = .move (.tmp x.s)) : StepT P ops Q a0 x.S k o := by
  refine StepT.val ho fun L a W hI hk hw => ?_
  have g := hI.glob
  obtain ⟨i1, i2, i3⟩ := g.ini k hm hk
  have hrun : (execOp a.eval o).run P W = .ok (.value x.D) W := by
    unfold execOp
    simp only [hop, i1]
    rfl
  have hmk : ∀ {p : Prop} m, x.m = some m → m ≠ k → p := fun m h1 h2 => by rw [hm] at h1; injection h1 with h1; exact absurd h1.symm h2
  rw [hd]
  exact ⟨by unfold Region.wanted; rw [hgd], x.D, W, hrun, fun _ _ _ h => h, g.step hinj h0 hj0 hd0 hf hdn (fun m h1 h2 _ => hmk m h1 h2) g.bel g.chg (fun m h1 h2 _ => hmk m h1 h2) (fun r hr h _ _ => g.row r hr h) (by rw [hx0]; exact i2) (fun b h => .inl h) (fun r hr h _ _ => i3 r hr h) (fun m h1 h2 _ => hmk m h1 h2), fun u hu => by rw [hkn] at hu; cases hu⟩
/-- A call that makes a row. -/
theorem stepCall {r0 : Rw} (hinj : ∀ r ∈ x.rows, ∀ r' ∈ x.rows, r.j = r'.j → r = r') (h0 : r0 ∈ x.rows) (hj0 : r0.j = k) (hd0 : r0.d = d) (ho : ops[k]? = some o) (hd : o.dst = some d) (hf : x.free k d none = true) (hdn : d < x.n) (hs : (d != x.s) = true) (hkn : x.known k = none)
    (h : ∀ L a w, InvT ops a0 x.S L a w → L k = false → (∀ j, waitsB o j = true → L j = true) → Region.wanted o (yielded ops a.tmps) = true ∧ ∃ f args, (execOp a.eval o).run P w = .ok (.enter f args) w ∧ Calls P f args w (MadeB r0.xs w)) : StepT P ops Q a0 x.S k o := by
  refine StepT.call ho fun L a W hI hk hw => ?_
  have g := hI.glob
  obtain ⟨h1, f, args, h2, h3⟩ := h L a W hI hk hw
  refine ⟨h1, f, args, h2, h3.mono ?_⟩
  rintro e W' ⟨⟨A, c, rfl, hown⟩, hb⟩
  have hnew : ∀ b, (Value.slice A r0.xs.length c).ownBlock = some b → W.heap.size ≤ b := fun b hb => (World.ownsRow.lt hown b hb).1
  rw [hd]
  refine ⟨_, rfl, fun _ _ _ h => h, g.step hinj h0 hj0 hd0 hf hdn (fun _ _ _ _ => by simpa using hs) (below_trans g.bel hb) (g.chg.trans (T := fun _ => False) (.of_below hb) (fun _ _ h => h.elim)) (fun m h1 _ h2 => (g.ini m h1 h2).2.1.below hb) (fun r hr h _ _ => (g.row r hr h).below hb) (Go.Joins.ownsRow_le hown g.bel.size) (fun b h => .inr (Nat.le_trans g.chg.size (hnew b h))) (fun r hr h _ _ b h1 h2 => ?_) (fun m h1 _ h2 b h3 h4 => ?_), fun u hu => by rw [hkn] at hu; cases hu⟩
  · have := hnew b h1
    have := ((g.row r hr h).lt h2).2
    omega
  · have := hnew b h4
    have := ((g.ini m h1 h2).2.1.lt h3).2
    omega
/-- A row is put where it stays. -/
theorem stepPass {r0 r1 : Rw} (hinj : ∀ r ∈ x.rows, ∀ r' ∈ x.rows, r.j = r'.j → r = r') (h0 : r0 ∈ x.rows) (hj0 : r0.j = k) (hd0 : r0.d = d) (h1 : r1 ∈ x.rows) (hk1 : r1.k = some k) (_ : r1.j ≠ k) (hx0 : r0.xs = r1.xs) (ho : ops[k]? = some o) (hd : o.dst = some d) (hf : x.free k d (some r1.j) = true) (hdn : d < x.n) (hmw : ∀ m, x.m = some m → waitsB o m = true) (hkn : x.known k = none)
    (hgd : o.guard = none) (hop : o.op = .assign (.tmp r1.d)) (hw1 : waitsB o r1.j = true) : StepT P ops Q a0 x.S k o := by
  refine StepT.val ho fun L a W hI hk hw => ?_
  have g := hI.glob
  have hon : r1.on L := ⟨hw _ hw1, fun i hi => (Option.some.inj (hk1.symm.trans hi)) ▸ hk⟩
  have hrun : (execOp a.eval o).run P W = .ok (.value (a.eval (.tmp r1.d))) W := by
    unfold execOp
    simp only [hop]
    rfl
  have hmn : ∀ {p : Prop} m, x.m = some m → L m = false → p := fun m h1 h2 => by have := hw m (hmw m h1); rw [h2] at this; cases this
  rw [hd]
  refine ⟨by unfold Region.wanted; rw [hgd], _, W, hrun, fun _ _ _ h => h, g.step hinj h0 hj0 hd0 hf hdn (fun m h1 _ h2 => hmn m h1 h2) g.bel g.chg (fun m h1 _ h2 => hmn m h1 h2) (fun r hr h _ _ => g.row r hr h) (by rw [hx0]; exact g.row r1 h1 hon) (g.blk r1 h1 hon) (fun r hr h hrk hrj => g.apa r1 h1 r hr (fun e => hrk ?_) hon h) (fun m h1 _ h2 => hmn m h1 h2), fun u hu => by rw [hkn] at hu; cases hu⟩
  rw [← hinj r1 h1 r hr e]; exact hk1
/-- A row is appended to another one. -/
theorem stepApp {r0 r1 r2 : Rw} (hinj : ∀ r ∈ x.rows, ∀ r' ∈ x.rows, r.j = r'.j → r = r') (h0 : r0 ∈ x.rows) (hj0 : r0.j = k) (hd0 : r0.d = d) (h1 : r1 ∈ x.rows) (hk1 : r1.k = some k) (_ : r1.j ≠ k) (h2 : r2 ∈ x.rows) (hk2 : r2.k = none) (_ : r2.j ≠ k) (_ : r1.j ≠ r2.j) (hx0 : r0.xs = r1.xs ++ r2.xs) (hlen : r1.xs.length + r2.xs.length ≤ 1000000000) (ho : ops[k]? = some o) (hd : o.dst = some d) (hf : x.free k d (some r1.j) = true) (hdn : d < x.n) (hs : (d != x.s) = true) (hkn : x.known k = none)
    (hgd : o.guard = none) (hw1 : waitsB o r1.j = true) (hw2 : waitsB o r2.j = true)
    (hop : ∀ (a : Act) (W : World) (u v w' : Value) (W' : World), a.eval (.tmp r1.d) = u → a.eval (.tmp r2.d) = v → (Builtin.append_ #[32, 32] 32 #[u, v]).run Tryz.prog W = .ok w' W' → (execOp a.eval o).run P W = .ok (.value w') W') : StepT P ops Q a0 x.S k o := by
  obtain ⟨i0, hi0, hz0, hz1, hz2⟩ := info_parts infoB
  refine StepT.val ho fun L a W hI hk hw => ?_
  have g := hI.glob
  have hon1 : r1.on L := ⟨hw _ hw1, fun i hi => (Option.some.inj (hk1.symm.trans hi)) ▸ hk⟩
  have hon2 : r2.on L := ⟨hw _ hw2, fun i hi => by rw [hk2] at hi; cases hi⟩
  have g1 := g.row r1 h1 hon1
  have g2 := g.row r2 h2 hon2
  obtain ⟨A2, c2, e2, _, _, hat2⟩ := SlAt.of_own encB_len g2
  obtain ⟨v', W', hrun, hown, hgr, hblk⟩ := run_append_sl (P := Tryz.prog) W encB 1 encB_len (by omega) encB_one x.E.heap.size 32 32 5 i0 _ 1 Tryz.underlying32 hi0 hz0 hz1 hz2 rfl (a.eval (.tmp r1.d)) r1.xs g1 A2 c2 r2.xs hat2 (Nat.le_trans hlen (by decide)) (by omega) g.bel.size
  have hb1 : ∀ b, (a.eval (.tmp r1.d)).ownBlock = some b → x.E.heap.size ≤ b ∧ b < W.heap.size := fun b hb => g1.lt hb
  rw [hd]
  refine ⟨by unfold Region.wanted; rw [hgd], v', W', hop a W _ _ v' W' rfl e2 hrun, fun _ _ _ h => h, g.step hinj h0 hj0 hd0 hf hdn (fun _ _ _ _ => by simpa using hs) (g.bel.grown hgr g.bel.size (fun b hb => (hb1 b hb).1)) ?_ (fun m hm _ hL => ?_) (fun r hr h hrk _ => ?_) (by rw [hx0]; exact hown) (fun b hb => ?_) (fun r hr h hrk _ => ?_) (fun m hm _ hL b hb hb' => ?_), fun u hu => by rw [hkn] at hu; cases hu⟩
  · refine g.chg.trans (T := fun b => (a.eval (.tmp r1.d)).ownBlock = some b) (Chg.of_grown hgr fun _ e => e) fun b hb e => ?_
    rcases g.blk r1 h1 hon1 b e with h | h
    · exact h
    · omega
  · obtain ⟨_, k2, k3⟩ := g.ini m hm hL
    exact k2.kept hgr (k3 r1 h1 hon1).symm
  · exact (g.row r hr h).kept hgr (g.apa r1 h1 r hr (fun e => hrk (by rw [← hinj r1 h1 r hr e]; exact hk1)) hon1 h)
  · rcases hblk with e | e
    · rw [e] at hb; exact g.blk r1 h1 hon1 b hb
    · rw [e] at hb; exact .inr ((Option.some.inj hb) ▸ g.chg.size)
  · intro b hb hb'
    rcases hblk with e | e
    · rw [e] at hb
      exact g.apa r1 h1 r hr (fun e => hrk (by rw [← hinj r1 h1 r hr e]; exact hk1)) hon1 h b hb hb'
    · rw [e] at hb
      have hb := Option.some.inj hb
      have := ((g.row r hr h).lt hb').2
      omega
  · obtain ⟨_, k2, k3⟩ := g.ini m hm hL
    rcases hblk with e | e
    · rw [e] at hb'; exact k3 r1 h1 hon1 b hb hb'
    · rw [e] at hb'
      have hb' := Option.some.inj hb'
      have := (k2.lt hb).2
      omega
/-- A call that gives a value that is known, or that nobody asks for. -/
theorem stepVal (ho : ops[k]? = some o) (hd : o.dst = some d) (hf : x.free k d none = true) (hj : (x.rows.all fun r => r.j != k) = true) (hm : (x.m != some k) = true) (hs : (d != x.s) = true)
    (h : ∀ L a w, InvT ops a0 x.S L a w → L k = false → (∀ j, waitsB o j = true → L j = true) → Region.wanted o (yielded ops a.tmps) = true ∧ ∃ f args, (execOp a.eval o).run P w = .ok (.enter f args) w ∧ Calls P f args w fun e w' => ∃ v, e = .returned v ∧ BelW w w' ∧ ∀ u, x.known k = some u → v = u) : StepT P ops Q a0 x.S k o := by
  refine StepT.call ho fun L a W hI hk hw => ?_
  obtain ⟨h1, f, args, h2, h3⟩ := h L a W hI hk hw
  refine ⟨h1, f, args, h2, h3.mono ?_⟩
  rintro e W' ⟨v, rfl, hb, hv⟩
  rw [hd]
  have hj' : ∀ r ∈ x.rows, r.j ≠ k := fun r hr => by simpa using List.all_eq_true.1 hj r hr
  exact ⟨v, rfl, fun _ _ _ h => h, hI.glob.keep hb v hf hj' (fun m h1 e => by rw [h1, e] at hm; simp at hm) (by simpa using hs), hv⟩
/-- A row that is there, as a slice. -/
theorem Rb.slice {L : Nat → Bool} {a : Act} {W : World} (hI : InvT ops a0 x.S L a W) {r : Rw} (hr : r ∈ x.rows) (hon : r.on L) : ∃ A c, a.tmps[r.d]?.getD undef = .slice A r.xs.length c ∧ BytesAt W A r.xs ∧ HoldsB W (.slice A r.xs.length c) r.xs := by
  obtain ⟨A, c, e, _, _, h⟩ := SlAt.of_own encB_len (hI.glob.row r hr hon)
  have h2 := HoldsB.of_own (hI.glob.row r hr hon)
  rw [e] at h2
  exact ⟨A, c, by rw [← eval_tmp]; exact e, h, h2⟩
/-- A value that is known. -/
theorem Rb.at {L : Nat → Bool} {a : Act} {W : World} (hI : InvT ops a0 x.S L a W) (j d : Nat) (hL : L j = true) (hd : dstOf ops j = some d) {u : Value} (hu : x.known j = some u) : a.tmps[d]?.getD undef = u := by
  obtain ⟨v, e, h⟩ := hI.get j d hL hd
  rw [e]; exact h u hu
/-- The slot of the row that is there, until it is moved. -/
theorem inj_of : ∀ {l : List Rw}, (l.map (·.j)).Nodup → ∀ r ∈ l, ∀ r' ∈ l, r.j = r'.j → r = r'
  | [], _, _, h, _, _, _ => by cases h
  | y :: l, hn, r, hr, r', hr', e => by
    rw [List.map_cons, List.nodup_cons] at hn
    rcases List.mem_cons.1 hr with h1 | h1
    · rcases List.mem_cons.1 hr' with h2 | h2
      · rw [h1, h2]
      · exact absurd (by rw [← h1, e]; exact List.mem_map_of_mem h2) hn.1
    · rcases List.mem_cons.1 hr' with h2 | h2
      · exact absurd (by rw [← h2, ← e]; exact List.mem_map_of_mem h1) hn.1
      · exact inj_of hn.2 r h1 r' h2 e
end
/-- What is known ahead of the region. -/
theorem Rb.G.start {x : Rb} {a : Act} {W : World} (hb : Below x.E.heap.size x.E W) (hW : x.W0 = W) (hn : a.tmps.size = x.n) (hi : ∀ m, x.m = some m → a.eval (.tmp x.s) = x.D ∧ RowB W x.E.heap.size x.D x.acc) : x.G (fun _ => false) a W.drew := by
  subst hW
  have hbd : BelW x.W0 x.W0.drew := (Below.refl _ x.W0).drew
  refine ⟨below_trans hb hbd, Chg.of_below hbd, hn, fun m hm _ => ⟨(hi m hm).1, (hi m hm).2.below hbd, fun r _ h => by cases h.1⟩, fun r _ h => (by cases h.1), fun r _ h => (by cases h.1), fun r _ r' _ _ h => (by cases h.1)⟩

end

section
open Go.RowKit

/-- Replicas strictly increase. -/
def IncR (v : List (Int × Int)) : Prop := v.Pairwise fun p q => p.1 < q.1
instance (v : List (Int × Int)) : Decidable (IncR v) := by unfold IncR; infer_instance
/-- Which vectors are valid. -/
def validV (v : List (Int × Int)) : Bool := v.all (fun p => validD p.1 p.2) && decide (IncR v)
/-- The counter of a replica. -/
def getV : List (Int × Int) → Int → Int
  | [], _ => 0
  | p :: v, r => if p.1 = r then p.2 else getV v r
/-- A dot is in a vector. -/
def hasV (v : List (Int × Int)) (r c : Int) : Bool := validD r c && decide (c ≤ getV v r)

theorem validV_iff (v : List (Int × Int)) : validV v = true ↔ (∀ p ∈ v, validD p.1 p.2 = true) ∧ IncR v := by
  simp [validV, List.all_eq_true]
theorem validD_pos {r c : Int} (h : validD r c = true) : 1 ≤ c := by simp [validD] at h; omega

theorem getV_none {v : List (Int × Int)} {r : Int} (h : ∀ p ∈ v, p.1 ≠ r) : getV v r = 0 := by
  induction v with
  | nil => rfl
  | cons p v ih =>
    rw [getV, if_neg (h p (by simp)), ih fun q hq => h q (by simp [hq])]
theorem getV_mem {v : List (Int × Int)} (hv : IncR v) {p : Int × Int} (hp : p ∈ v) : getV v p.1 = p.2 := by
  induction v with
  | nil => cases hp
  | cons q v ih =>
    have h := List.pairwise_cons.1 hv
    rcases List.mem_cons.1 hp with e | hp
    · subst e; rw [getV, if_pos rfl]
    · have := h.1 p hp
      rw [getV, if_neg (by omega), ih h.2 hp]
theorem getV_of_pos {v : List (Int × Int)} {r : Int} (h : getV v r ≠ 0) : (r, getV v r) ∈ v := by
  induction v with
  | nil => exact absurd rfl h
  | cons p v ih =>
    rw [getV] at h ⊢
    split at h
    · rename_i e
      rw [if_pos e]; subst e; simp
    · rename_i e
      rw [if_neg e]; exact List.mem_cons_of_mem _ (ih h)
theorem getV_nonneg {v : List (Int × Int)} (h : ∀ p ∈ v, validD p.1 p.2 = true) (r : Int) : 0 ≤ getV v r := by
  by_cases e : getV v r = 0
  · omega
  · have := validD_pos (h _ (getV_of_pos e)); simp at this; omega

theorem mem_iff_get {v : List (Int × Int)} (hv : validV v = true) (p : Int × Int) : p ∈ v ↔ getV v p.1 = p.2 ∧ p.2 ≠ 0 := by
  obtain ⟨h1, h2⟩ := (validV_iff v).1 hv
  constructor
  · intro h
    have := validD_pos (h1 p h)
    exact ⟨getV_mem h2 h, by omega⟩
  · rintro ⟨h, h0⟩
    have := getV_of_pos (v := v) (r := p.1) (by omega)
    rw [h] at this
    exact this

theorem IncR.ext : ∀ {s t : List (Int × Int)}, IncR s → IncR t → (∀ d, d ∈ s ↔ d ∈ t) → s = t
  | [], [], _, _, _ => rfl
  | [], y :: t, _, _, h => by have := (h y).2 (by simp); simp at this
  | x :: s, [], _, _, h => by have := (h x).1 (by simp); simp at this
  | x :: s, y :: t, hs, ht, h => by
    have hs' := List.pairwise_cons.1 hs
    have ht' := List.pairwise_cons.1 ht
    have hxy : x = y := by
      have h1 := (h x).1 (by simp)
      have h2 := (h y).2 (by simp)
      rcases List.mem_cons.1 h1 with e | h1
      · exact e
      · rcases List.mem_cons.1 h2 with e | h2
        · exact e.symm
        · have a := ht'.1 x h1
          have b := hs'.1 y h2
          omega
    subst hxy
    have : s = t := IncR.ext hs'.2 ht'.2 fun d => by
      have hd := h d
      simp only [List.mem_cons] at hd
      constructor
      · intro hm
        rcases hd.1 (.inr hm) with e | h'
        · subst e; have := hs'.1 d hm; omega
        · exact h'
      · intro hm
        rcases hd.2 (.inr hm) with e | h'
        · subst e; have := ht'.1 d hm; omega
        · exact h'
    rw [this]

/-- Two valid vectors with the same counters are the same. -/
theorem validV_ext {a b : List (Int × Int)} (ha : validV a = true) (hb : validV b = true) (h : ∀ r, getV a r = getV b r) : a = b :=
  ((validV_iff a).1 ha).2.ext ((validV_iff b).1 hb).2 fun d => by rw [mem_iff_get ha, mem_iff_get hb, h]

/-- What Raise of the reference makes of a vector which the dot is not in: from an element on, the dot laid in already or not. -/
def raiseL (d : Int × Int) : Bool → List (Int × Int) → List (Int × Int)
  | done, [] => if done then [] else [d]
  | done, x :: v => (if !done && decide (d.1 ≤ x.1) then [d] else []) ++ ((if x.1 != d.1 then [x] else []) ++ raiseL d (done || decide (d.1 ≤ x.1)) v)
/-- The vector with one more dot. -/
def raiseV (v : List (Int × Int)) (d : Int × Int) : List (Int × Int) := if hasV v d.1 d.2 then v else raiseL d false v

theorem raiseL_done (d : Int × Int) : ∀ v : List (Int × Int), raiseL d true v = v.filter fun x => x.1 != d.1
  | [] => rfl
  | x :: v => by
    rw [raiseL, List.filter_cons, Bool.true_or, raiseL_done d v]
    simp only [Bool.not_true, Bool.false_and, Bool.false_eq_true, if_false, List.nil_append]
    cases x.1 != d.1 <;> simp

theorem mem_raiseL {d : Int × Int} : ∀ {v : List (Int × Int)}, IncR v → ∀ p, p ∈ raiseL d false v ↔ p = d ∨ (p ∈ v ∧ p.1 ≠ d.1)
  | [], _, p => by simp [raiseL]
  | x :: v, h, p => by
    have h' := List.pairwise_cons.1 h
    rw [raiseL]
    by_cases hx : d.1 ≤ x.1
    · simp only [hx, decide_true, Bool.not_false, Bool.true_and, if_true, Bool.or_true, raiseL_done, List.mem_append, List.mem_filter, bne_iff_ne, List.mem_cons]
      by_cases e : x.1 = d.1
      · simp [e]
        constructor
        · rintro (h | ⟨h1, h2⟩)
          · exact .inl h
          · exact .inr ⟨.inr h1, h2⟩
        · rintro (h | ⟨h1 | h1, h2⟩)
          · exact .inl h
          · exact absurd (by rw [h1]; exact e) h2
          · exact .inr ⟨h1, h2⟩
      · simp [e]
        constructor
        · rintro (h | h | ⟨h1, h2⟩)
          · exact .inl h
          · exact .inr ⟨.inl h, by rw [h]; exact e⟩
          · exact .inr ⟨.inr h1, h2⟩
        · rintro (h | ⟨h1 | h1, h2⟩)
          · exact .inl h
          · exact .inr (.inl h1)
          · exact .inr (.inr ⟨h1, h2⟩)
    · have e : x.1 ≠ d.1 := by omega
      simp only [hx, decide_false, Bool.not_false, Bool.and_false, Bool.false_eq_true, if_false, Bool.or_false, List.nil_append, List.mem_append, mem_raiseL h'.2, List.mem_cons]
      simp [e]
      constructor
      · rintro (h | h | ⟨h1, h2⟩)
        · exact .inr ⟨.inl h, by rw [h]; exact e⟩
        · exact .inl h
        · exact .inr ⟨.inr h1, h2⟩
      · rintro (h | ⟨h1 | h1, h2⟩)
        · exact .inr (.inl h)
        · exact .inl h1
        · exact .inr (.inr ⟨h1, h2⟩)

theorem IncR.filter {s : List (Int × Int)} (h : IncR s) (p : Int × Int → Bool) : IncR (s.filter p) := List.Pairwise.filter p h
theorem incR_raiseL {d : Int × Int} : ∀ {v : List (Int × Int)}, IncR v → IncR (raiseL d false v)
  | [], _ => by simp [raiseL, IncR]
  | x :: v, h => by
    have h' := List.pairwise_cons.1 h
    rw [raiseL]
    by_cases hx : d.1 ≤ x.1
    · simp only [hx, decide_true, Bool.not_false, Bool.true_and, if_true, Bool.or_true, raiseL_done, List.singleton_append]
      have hf := IncR.filter h'.2 fun x => x.1 != d.1
      by_cases e : x.1 = d.1
      · simp only [e, bne_self_eq_false, Bool.false_eq_true, if_false, List.nil_append]
        refine List.pairwise_cons.2 ⟨fun p hp => ?_, hf⟩
        have := h'.1 p (List.mem_filter.1 hp).1
        omega
      · have e2 : (x.1 != d.1) = true := by simp [e]
        rw [e2]
        simp only [if_true, List.singleton_append]
        refine List.pairwise_cons.2 ⟨fun p hp => ?_, List.pairwise_cons.2 ⟨fun p hp => h'.1 p (List.mem_filter.1 hp).1, hf⟩⟩
        rcases List.mem_cons.1 hp with e3 | hp
        · subst e3; omega
        · have := h'.1 p (List.mem_filter.1 hp).1
          omega
    · have e2 : (x.1 != d.1) = true := by simp; omega
      simp only [hx, decide_false, Bool.not_false, Bool.and_false, Bool.false_eq_true, if_false, Bool.or_false, List.nil_append, e2, if_true, List.singleton_append]
      refine List.pairwise_cons.2 ⟨fun p hp => ?_, incR_raiseL h'.2⟩
      rcases (mem_raiseL h'.2 p).1 hp with e3 | ⟨h1, _⟩
      · subst e3; omega
      · exact h'.1 p h1

theorem valid_raiseV {v : List (Int × Int)} {d : Int × Int} (hv : validV v = true) (hd : validD d.1 d.2 = true) : validV (raiseV v d) = true := by
  unfold raiseV
  split
  · exact hv
  · obtain ⟨h1, h2⟩ := (validV_iff v).1 hv
    refine (validV_iff _).2 ⟨fun p hp => ?_, incR_raiseL h2⟩
    rcases (mem_raiseL h2 p).1 hp with e | ⟨h, _⟩
    · subst e; exact hd
    · exact h1 p h
theorem get_raiseV {v : List (Int × Int)} {d : Int × Int} (hv : validV v = true) (hd : validD d.1 d.2 = true) (r : Int) : getV (raiseV v d) r = if r = d.1 then max (getV v r) d.2 else getV v r := by
  obtain ⟨h1, h2⟩ := (validV_iff v).1 hv
  unfold raiseV
  split
  · rename_i h
    simp only [hasV, Bool.and_eq_true, decide_eq_true_eq] at h
    split
    · rename_i e; subst e; omega
    · rfl
  · rename_i h
    simp only [hasV, hd, Bool.true_and, decide_eq_true_eq] at h
    have hi := incR_raiseL (d := d) h2
    split
    · rename_i e; subst e
      have := getV_mem hi ((mem_raiseL h2 d).2 (.inl rfl))
      rw [this]; omega
    · rename_i e
      by_cases h0 : getV v r = 0
      · rw [h0]
        by_cases h3 : getV (raiseL d false v) r = 0
        · exact h3
        · rcases (mem_raiseL h2 _).1 (getV_of_pos h3) with h4 | ⟨h4, _⟩
          · exact absurd (congrArg Prod.fst h4) e
          · have h5 := getV_mem h2 h4
            simp only at h5
            omega
      · have h3 := (mem_raiseL (d := d) h2 (r, getV v r)).2 (.inr ⟨getV_of_pos h0, e⟩)
        exact getV_mem hi h3

/-- The greatest counter of a replica in a list of dots, n at least. -/
def maxC : List (Int × Int) → Int → Int → Int
  | [], _, n => n
  | d :: l, r, n => maxC l r (if d.1 = r then max n d.2 else n)

/-- The vector with all dots of a list more. -/
def mergeV (a b : List (Int × Int)) : List (Int × Int) := b.foldl raiseV a
theorem mergeV_snoc (a b : List (Int × Int)) (d : Int × Int) : mergeV a (b ++ [d]) = raiseV (mergeV a b) d := by simp [mergeV, List.foldl_append]
theorem valid_mergeV : ∀ {b a : List (Int × Int)}, validV a = true → (∀ p ∈ b, validD p.1 p.2 = true) → validV (mergeV a b) = true
  | [], _, h, _ => h
  | d :: b, a, h, hb => valid_mergeV (b := b) (valid_raiseV h (hb d (by simp))) fun p hp => hb p (by simp [hp])
theorem get_mergeV : ∀ {b a : List (Int × Int)}, validV a = true → (∀ p ∈ b, validD p.1 p.2 = true) → ∀ r, getV (mergeV a b) r = maxC b r (getV a r)
  | [], _, _, _, _ => rfl
  | d :: b, a, h, hb, r => by
    show getV (mergeV (raiseV a d) b) r = _
    rw [get_mergeV (b := b) (valid_raiseV h (hb d (by simp))) (fun p hp => hb p (by simp [hp])) r, get_raiseV h (hb d (by simp)), maxC]
    by_cases e : r = d.1
    · subst e; simp
    · rw [if_neg e, if_neg (Ne.symm e)]
theorem maxC_snoc : ∀ (l : List (Int × Int)) (d : Int × Int) (r n : Int), maxC (l ++ [d]) r n = if d.1 = r then max (maxC l r n) d.2 else maxC l r n
  | [], d, r, n => rfl
  | x :: l, d, r, n => by rw [List.cons_append, maxC, maxC, maxC_snoc l d r]
theorem maxC_ge : ∀ (l : List (Int × Int)) (r n : Int), n ≤ maxC l r n
  | [], _, _ => Int.le_refl _
  | d :: l, r, n => by
    rw [maxC]
    have := maxC_ge l r (if d.1 = r then max n d.2 else n)
    split at this <;> split <;> omega
theorem maxC_none : ∀ {l : List (Int × Int)} {r : Int} (n : Int), (∀ p ∈ l, p.1 ≠ r) → maxC l r n = n
  | [], _, _, _ => rfl
  | d :: l, r, n, h => by rw [maxC, if_neg (h d (by simp)), maxC_none n fun p hp => h p (by simp [hp])]
theorem maxC_get : ∀ {v : List (Int × Int)}, validV v = true → ∀ (r n : Int), 0 ≤ n → maxC v r n = max n (getV v r)
  | [], _, r, n, hn => by simp only [maxC, getV]; omega
  | d :: v, h, r, n, hn => by
    obtain ⟨h1, h2⟩ := (validV_iff _).1 h
    have h2' := List.pairwise_cons.1 h2
    have hv : validV v = true := (validV_iff v).2 ⟨fun p hp => h1 p (by simp [hp]), h2'.2⟩
    rw [maxC, getV]
    by_cases e : d.1 = r
    · rw [if_pos e, if_pos e]
      exact maxC_none _ fun p hp => by have := h2'.1 p hp; omega
    · rw [if_neg e, if_neg e, maxC_get hv r n hn]

/-- What Merge returns has of each replica the greater counter. -/
theorem get_merge {a b : List (Int × Int)} (ha : validV a = true) (hb : validV b = true) (r : Int) : getV (mergeV a b) r = max (getV a r) (getV b r) := by
  obtain ⟨h1, _⟩ := (validV_iff b).1 hb
  rw [get_mergeV ha h1, maxC_get hb r _ (getV_nonneg ((validV_iff a).1 ha).1 r)]
theorem valid_merge {a b : List (Int × Int)} (ha : validV a = true) (hb : validV b = true) : validV (mergeV a b) = true := valid_mergeV ha ((validV_iff b).1 hb).1
theorem merge_comm {a b : List (Int × Int)} (ha : validV a = true) (hb : validV b = true) : mergeV a b = mergeV b a :=
  validV_ext (valid_merge ha hb) (valid_merge hb ha) fun r => by rw [get_merge ha hb, get_merge hb ha]; omega
/-- The vector with some dots. -/
def ofV (l : List (Int × Int)) : List (Int × Int) := mergeV [] l
theorem valid_nil : validV [] = true := rfl
theorem valid_ofV {l : List (Int × Int)} (h : ∀ p ∈ l, validD p.1 p.2 = true) : validV (ofV l) = true := valid_mergeV valid_nil h
theorem get_ofV {l : List (Int × Int)} (h : ∀ p ∈ l, validD p.1 p.2 = true) (r : Int) : getV (ofV l) r = maxC l r 0 := get_mergeV valid_nil h r
/-- A list in the order of replicas, one dot for each, which has of each replica the greatest counter of l, is the vector of l. -/
theorem ofV_unique {l v : List (Int × Int)} (h : ∀ p ∈ l, validD p.1 p.2 = true) (hi : IncR v) (hm : ∀ p ∈ v, p.2 = maxC l p.1 0 ∧ ∃ q ∈ l, q.1 = p.1) (hk : ∀ q ∈ l, ∃ p ∈ v, p.1 = q.1) : v = ofV l := by
  have hpos : ∀ (l' : List (Int × Int)) (r n : Int), (∀ p ∈ l', validD p.1 p.2 = true) → 0 ≤ n → n ≤ 4294967295 → 0 ≤ maxC l' r n ∧ maxC l' r n ≤ 4294967295 := by
    intro l'
    induction l' with
    | nil => intro r n _ h0 h1; exact ⟨h0, h1⟩
    | cons d l' ih =>
      intro r n hv h0 h1
      rw [maxC]
      have hd := hv d (by simp)
      simp [validD] at hd
      exact ih r _ (fun p hp => hv p (by simp [hp])) (by split <;> omega) (by split <;> omega)
  have hge : ∀ (l' : List (Int × Int)) (r n : Int), (∃ q ∈ l', q.1 = r ∧ 1 ≤ q.2) → 1 ≤ maxC l' r n := by
    intro l'
    induction l' with
    | nil => rintro r n ⟨q, hq, _⟩; cases hq
    | cons d l' ih =>
      rintro r n ⟨q, hq, e, h1⟩
      rw [maxC]
      rcases List.mem_cons.1 hq with e2 | hq
      · subst e2
        rw [if_pos e]
        have := maxC_ge l' r (max n q.2)
        omega
      · exact ih r _ ⟨q, hq, e, h1⟩
  have hvv : validV v = true := by
    refine (validV_iff v).2 ⟨fun p hp => ?_, hi⟩
    obtain ⟨e, q, hq, e2⟩ := hm p hp
    have hq' := h q hq
    have h1 := hge l p.1 0 ⟨q, hq, e2, validD_pos hq'⟩
    have h2 := hpos l p.1 0 h (by omega) (by omega)
    simp [validD] at hq' ⊢
    omega
  refine validV_ext hvv (valid_ofV h) fun r => ?_
  rw [get_ofV h]
  by_cases hr : ∃ q ∈ l, q.1 = r
  · obtain ⟨q, hq, e⟩ := hr
    obtain ⟨p, hp, e2⟩ := hk q hq
    have := getV_mem hi hp
    rw [show r = p.1 by omega, this]
    exact (hm p hp).1
  · rw [maxC_none 0 fun p hp e => hr ⟨p, hp, e⟩, getV_none fun p hp e => ?_]
    obtain ⟨_, q, hq, e2⟩ := hm p hp
    exact hr ⟨q, hq, by omega⟩
end

end Go.Proofs.YtgdnibahiomneaaGreat
