/- The reference's bytes of a string; a writer, the bytes wanted and a row besides, apart from each other. -/
import Derived.Test.YtkloheabbbpboaaBytR
import Derived.Test.YtkloheabbbpboaaBytM
import Derived.Lib.AppendStr
import Derived.Laws.OwnMore
import Derived.Lib.SmallJoins
import Derived.Lib.OwnKind
namespace Go.Proofs.Ytkloheabbbpboaa
open Go.RowKit

theorem strCells_bytes (xs : List UInt8) : Lib.strCells ⟨xs.toArray⟩ = cellsOf encB xs := by
  show xs.map _ = _
  induction xs with
  | nil => rfl
  | cons x r ih => rw [List.map_cons, ih]; rfl

set_option maxHeartbeats 1000000 in
theorem refString (xs : List UInt8) (w : World) (hx : xs.length ≤ 1000) :
    Calls Try.prog 13 #[.string ⟨xs.toArray⟩] w (MadeB (enc xs.length ++ xs) w) := by
  obtain ⟨i0, hi0, hz0, hz1, hz2⟩ := info_parts infoB
  have hs : (ByteArray.mk xs.toArray).size = xs.length := by show xs.toArray.size = _; simp
  have HR := Lib.hid (refNumber xs.length xs.length w (Nat.le_refl _) (by omega))
  have hsi : IntKind.u64.wrap (xs.length : Int) = (xs.length : Int) := by simp [IntKind.wrap, IntKind.bits, IntKind.signed]; omega
  have HSI := Lib.hid hsi
  clear hsi
  have ht := enc_ten (n := xs.length) (by omega)
  have HX := Lib.hid hx
  clear hx
  go_enter Try.func13, Try.ntmps13
  go_wp2_with fail
  rw [HSI.out]
  refine HR.out.mono ?_
  rintro e w1 ⟨⟨A, c, rfl, ho⟩, hb⟩
  have HO := Lib.hid ho
  have HB := Lib.hid hb
  clear ho hb HR
  go_wp2_with (at_builtin; refine Lib.wpList_append_own_string (w := w1) rfl (.tmp 6) (.tmp 7) 25 9 rfl w.heap.size 5 i0 Try.underlying25 Try.underlying9 hi0 hz0 hz1 hz2 _ _ _ rfl HO.out ⟨xs.toArray⟩ rfl (by rw [hs]; simp [maxLen]; have := HX.out; omega) (by rw [hs]; have := HX.out; omega) HB.out.size ?_; intro v1 w2 hown1 hg1 hat1)
  go_ret
  rw [strCells_bytes, hs] at hown1
  refine MadeB.of (by rw [List.length_append]; simpa [cellsOf] using hown1) (HB.out.grown hg1 HB.out.size (fun k hk => ?_))
  exact ((HO.out.lt k hk).1)

/-- A row of bytes of the call's own. -/
abbrev RowB (W : World) (B : Nat) (v : Value) (xs : List UInt8) : Prop := W.ownsRow B 5 1 v xs.length (cellsOf encB xs)
theorem RowB.chg {W W' : World} {B : Nat} {v : Value} {xs : List UInt8} {S : Nat → Prop} (h : RowB W B v xs) (hc : Chg S W W') (hn : ∀ k, v.ownBlock = some k → ¬ S k) : RowB W' B v xs := by
  refine ⟨h.1, ?_⟩
  rcases h.2 with hn' | ⟨r, cap, cur, rfl, hb, hg, rest⟩
  · exact .inl hn'
  · exact .inr ⟨r, cap, cur, rfl, hb, (hc.block r (Array.getElem?_eq_some_iff.1 hg).1 (hn r rfl)).trans hg, rest⟩
theorem RowB.below {W W' : World} {B : Nat} {v : Value} {xs : List UInt8} (h : RowB W B v xs) (hb : Below W.heap.size W W') : RowB W' B v xs := h.chg (S := fun _ => False) (.of_below hb) (fun _ _ => id)
theorem RowB.nil (W : World) (B : Nat) : RowB W B (.slice none 0 0) [] := World.ownsRow_nil _ _ _ _
/-- No block in common. -/
def Apart (u v : Value) : Prop := ∀ k, u.ownBlock = some k → v.ownBlock ≠ some k
theorem nilOwn {k : Nat} : (Value.slice none 0 0).ownBlock ≠ some k := fun e => by cases e
theorem Apart.nil (v : Value) : Apart (.slice none 0 0) v := fun _ h => absurd h nilOwn
theorem Apart.symm {u v : Value} (h : Apart u v) : Apart v u := fun k hk e => h k e hk

/-- A writer of the call's own, the bytes that it should have (u), another row (o). -/
structure WnI (w : World) (K : List (Nat × Array Value)) (g : Nat) (v : Value) (zs : List UInt8) (u : Value) (us : List UInt8) (o : Value) (os : List UInt8) (W : World) : Prop where
  wr : Wr W g v zs
  ru : RowB W w.heap.size u us
  ro : RowB W w.heap.size o os
  bel : Below w.heap.size w W
  hg : w.heap.size ≤ g
  hv : ∀ b, v.ownBlock = some b → w.heap.size ≤ b
  ug : u.ownBlock ≠ some g
  og : o.ownBlock ≠ some g
  uv : Apart u v
  ov : Apart o v
  ou : Apart o u
  pk : ∀ p ∈ K, W.heap[p.1]? = some (.cells p.2 30 (0, 0)) ∧ p.1 ≠ g

section
variable {w W W' : World} {K : List (Nat × Array Value)} {g : Nat} {v : Value} {zs : List UInt8} {u : Value} {us : List UInt8} {o : Value} {os : List UInt8} {p : Nat} {cs : Array Value}
theorem WnI.new (w W : World) (hb : Below w.heap.size w W) : WnI w [] W.heap.size (.slice none 0 0) [] (.slice none 0 0) [] (.slice none 0 0) [] (W.alloc (.cells #[.slice none 0 0] 27)) :=
  ⟨Wr.new W, .nil _ _, .nil _ _, hb.alloc hb.size _, hb.size, fun _ h => absurd h nilOwn, nilOwn, nilOwn, .nil _, .nil _, .nil _, fun p h => absurd h (by simp)⟩
theorem WnI.keep (h : WnI w K g v zs u us o os W) {S : Nat → Prop} (hc : Chg S W W') (hn : ∀ p ∈ K, ¬ S p.1) : ∀ p ∈ K, W'.heap[p.1]? = some (.cells p.2 30 (0, 0)) ∧ p.1 ≠ g :=
  fun p hp => ⟨(hc.block p.1 (Array.getElem?_eq_some_iff.1 (h.pk p hp).1).1 (hn p hp)).trans (h.pk p hp).1, (h.pk p hp).2⟩
/-- A kept block is no row's. -/
theorem WnI.notRow (h : WnI w K g v zs u us o os W) {B : Nat} {x : Value} {xs : List UInt8} (hr : RowB W B x xs) : ∀ p ∈ K, x.ownBlock ≠ some p.1 := fun p hp e => by
  obtain ⟨c, fz, h1⟩ := Lib.ownsRow_kind hr p.1 e
  rw [(h.pk p hp).1] at h1
  injection h1 with h1
  injection h1 with _ h1 _
  exact absurd h1 (by decide)
theorem WnI.below (h : WnI w K g v zs u us o os W) (hb : Below W.heap.size W W') : WnI w K g v zs u us o os W' :=
  ⟨h.wr.below hb, h.ru.below hb, h.ro.below hb, below_trans h.bel hb, h.hg, h.hv, h.ug, h.og, h.uv, h.ov, h.ou, h.keep (S := fun _ => False) (.of_below hb) fun _ _ => id⟩
theorem WnI.drop (h : WnI w K g v zs u us o os W) : WnI w K g v zs u us (.slice none 0 0) [] W :=
  ⟨h.wr, h.ru, .nil _ _, h.bel, h.hg, h.hv, h.ug, nilOwn, h.uv, .nil _, .nil _, h.pk⟩
/-- One more kept block. -/
theorem WnI.part (h : WnI w K g v zs u us o os W) (cs : Array Value) : WnI w ((W.heap.size, cs) :: K) g v zs u us o os (W.alloc (.cells cs 30)) := by
  have h1 := h.below ((Below.refl _ W).alloc (Nat.le_refl _) (.cells cs 30))
  refine ⟨h1.wr, h1.ru, h1.ro, h1.bel, h1.hg, h1.hv, h1.ug, h1.og, h1.uv, h1.ov, h1.ou, fun p hp => ?_⟩
  rcases List.mem_cons.1 hp with rfl | hp
  · have := h.wr.lt
    exact ⟨heap_alloc_new W _, by simp only []; omega⟩
  · exact h1.pk p hp
theorem WnI.unkeep (h : WnI w K g v zs u us o os W) : WnI w [] g v zs u us o os W :=
  ⟨h.wr, h.ru, h.ro, h.bel, h.hg, h.hv, h.ug, h.og, h.uv, h.ov, h.ou, fun p hp => absurd hp (by simp)⟩
/-- A cell of a kept block. -/
theorem WnI.cellK (h : WnI w K g v zs u us o os W) (hp : (p, cs) ∈ K) (j : Nat) : W.cell? ⟨p, j, none⟩ = cs[j]? := by
  simp [World.cell?, (h.pk _ hp).1]
/-- A new row in the place of the other one. -/
theorem WnI.own (h : WnI w K g v zs u us o os W) {o' : Value} {os' : List UInt8} (hr : RowB W' w.heap.size o' os') (hb : Below W.heap.size W W') (ha : ∀ k, o'.ownBlock = some k → W.heap.size ≤ k) : WnI w K g v zs u us o' os' W' := by
  have h1 := h.drop.below hb
  have hl := h.wr.lt
  refine ⟨h1.wr, h1.ru, hr, h1.bel, h1.hg, h1.hv, h1.ug, fun e => ?_, h1.uv, fun k hk e => ?_, fun k hk e => ?_, h1.pk⟩
  · have := ha _ e; omega
  · have := ha _ hk; have := (h.wr.2.1.lt k e).2; omega
  · have := ha _ hk; have := (h.ru.lt k e).2; omega
theorem WnI.made (h : WnI w K g v zs u us o os W) {o' : Value} {xs : List UInt8} (hown : W'.ownsRow w.heap.size 5 1 o' xs.length (cellsOf encB xs)) (hgr : W.grownBy W' (Value.slice none 0 0).ownBlock) (hat : o'.ownBlock = (Value.slice none 0 0).ownBlock ∨ o'.ownBlock = some W.heap.size) :
    ∃ A c, o' = .slice A xs.length c ∧ WnI w K g v zs u us (.slice A xs.length c) xs W' := by
  obtain ⟨A, c, rfl, _⟩ := SlAt.of_own encB_len hown
  refine ⟨A, c, rfl, h.own hown ((Below.refl _ _).grown hgr (Nat.le_refl _) fun k hk => absurd hk nilOwn) fun k hk => ?_⟩
  rcases hat with e | e
  · rw [e] at hk
    exact absurd hk nilOwn
  · rw [e] at hk
    cases hk
    exact Nat.le_refl _
theorem WnI.cellN (h : WnI w ((p, cs) :: K) g v zs u us o os W) (j : Nat) : W.cell? ⟨p, j, none⟩ = cs[j]? := h.cellK (List.mem_cons_self ..) j
/-- Behind what the writer writes. -/
theorem WnI.wrote (h : WnI w K g v zs u us o os W) {ys : List UInt8} (hw : Wrote W g v ys W') : ∃ v', WnI w K g v' ys u us o os W' := by
  obtain ⟨v', hw', ho, hc⟩ := hw
  have hS : ∀ {x : Value}, x.ownBlock ≠ some g → Apart x v → ∀ k, x.ownBlock = some k → ¬ (k = g ∨ v.ownBlock = some k) := by
    intro x hx ha k hk e
    rcases e with e | e
    · exact hx (by rw [← e]; exact hk)
    · exact ha k hk e
  have hap : ∀ {x : Value} {xs : List UInt8}, RowB W w.heap.size x xs → Apart x v → Apart x v' := by
    intro x xs hr ha k hk e
    rcases ho with e2 | ⟨j, e2, hj⟩
    · exact ha k hk (by rw [← e2]; exact e)
    · rw [e2] at e
      cases e
      have := (hr.lt _ hk).2
      omega
  refine ⟨v', hw', h.ru.chg hc (hS h.ug h.uv), h.ro.chg hc (hS h.og h.ov), h.bel.trans (hc.below h.bel.size fun k hk => ?_), h.hg, fun b hb => ?_, h.ug, h.og, hap h.ru h.uv, hap h.ro h.ov, h.ou, h.keep hc fun p hp e => e.elim (h.pk p hp).2 (h.notRow h.wr.2.1 p hp)⟩
  · rcases hk with rfl | hk
    · exact h.hg
    · exact h.hv k hk
  · rcases ho with e | ⟨k, e, hk⟩
    · exact h.hv b (by rw [← e]; exact hb)
    · rw [e] at hb
      cases hb
      exact Nat.le_trans h.bel.size hk
theorem WnI.num (h : WnI w K g v zs u us o os W) (n : Nat) (hn : n < 18446744073709551616) (hm : zs.length ≤ 700000) :
    Calls Try.prog 10 #[.pointer (some ⟨g, 0, none⟩), .int .u64 (n : Int)] W fun e W' => e = .returned (.tuple #[]) ∧ ∃ v', WnI w K g v' (zs ++ enc n) u us o os W' :=
  (numAt g v zs n W h.wr hn (by omega)).mono fun _ _ ⟨he, hw⟩ => ⟨he, h.wrote hw⟩
theorem WnI.str (h : WnI w K g v zs u us o os W) (xs : List UInt8) (hx : xs.length ≤ 300) (hm : zs.length ≤ 700000) :
    Calls Try.prog 12 #[.pointer (some ⟨g, 0, none⟩), .string ⟨xs.toArray⟩] W fun e W' => e = .returned (.tuple #[]) ∧ ∃ v', WnI w K g v' (zs ++ (enc xs.length ++ xs)) u us o os W' := by
  have hs : (ByteArray.mk xs.toArray).size = xs.length := by show xs.toArray.size = _; simp
  exact (strAt g v zs ⟨xs.toArray⟩ W h.wr (by omega) (by omega)).mono fun e W' ⟨he, hw⟩ => ⟨he, by rw [hs] at hw; exact h.wrote hw⟩
theorem WnI.put (h : WnI w K g v zs u us o os W) (xs : List UInt8) (A : Option Addr) (c : Nat) (hx : xs.length ≤ 300) (hm : zs.length ≤ 700000) (hv : HoldsB W (.slice A xs.length c) xs) :
    Calls Try.prog 14 #[.pointer (some ⟨g, 0, none⟩), .slice A xs.length c] W fun e W' => e = .returned (.tuple #[]) ∧ ∃ v', WnI w K g v' (zs ++ xs) u us o os W' := by
  obtain ⟨A', c', e, hat, _⟩ := hv
  cases e
  exact (putAt g v zs xs A c W h.wr hat (by omega)).mono fun e W' ⟨he, hw⟩ => ⟨he, h.wrote hw⟩
theorem WnI.bytes (h : WnI w K g v zs u us o os W) (hm : zs.length ≤ 700000) :
    Calls Try.prog 15 #[.pointer (some ⟨g, 0, none⟩)] W fun e W' => ∃ A c, e = .returned (.slice A zs.length c) ∧ WnI w K g v zs u us (.slice A zs.length c) zs W' := by
  refine (bytesAt g v zs W h.wr (by omega)).mono fun e W' ⟨⟨v', he, ho⟩, hb⟩ => ?_
  obtain ⟨A, c, rfl, hr⟩ := HoldsB.of_own ho
  exact ⟨A, c, he, h.own (Joins.ownsRow_le ho h.bel.size) hb fun k hk => (ho.lt k hk).1⟩
/-- More bytes that it should have. -/
theorem WnI.want (h : WnI w K g v zs u us o os W) {u' : Value} {us' : List UInt8} (hr : RowB W' w.heap.size u' us') (hgr : W.grownBy W' u.ownBlock) (ha : u'.ownBlock = u.ownBlock ∨ u'.ownBlock = some W.heap.size) : WnI w K g v zs u' us' o os W' := by
  have hc : Chg (fun k => u.ownBlock = some k) W W' := .of_grown hgr fun k e => e
  have hl := h.wr.lt
  refine ⟨h.wr.chg hc h.ug (fun k hk e => h.uv k e hk), hr, h.ro.chg hc (fun k hk e => h.ou k hk e), h.bel.trans (hc.below h.bel.size fun k hk => (h.ru.lt k hk).1), h.hg, h.hv, fun e => ?_, h.og, fun k hk e => ?_, h.ov, fun k hk e => ?_, h.keep hc fun p hp e => h.notRow h.ru p hp e⟩
  · rcases ha with e2 | e2
    · exact h.ug (by rw [← e2]; exact e)
    · rw [e2] at e; cases e; omega
  · rcases ha with e2 | e2
    · exact h.uv k (by rw [← e2]; exact hk) e
    · rw [e2] at hk; cases hk; have := (h.wr.2.1.lt _ e).2; omega
  · rcases ha with e2 | e2
    · exact h.ou k hk (by rw [← e2]; exact e)
    · rw [e2] at e; cases e; have := (h.ro.lt _ hk).2; omega
theorem WnI.wanted (h : WnI w K g v zs u us o os W) {u' : Value} {us' : List UInt8} (hr : W'.ownsRow w.heap.size 5 1 u' us'.length (cellsOf encB us')) (hgr : W.grownBy W' u.ownBlock) (ha : u'.ownBlock = u.ownBlock ∨ u'.ownBlock = some W.heap.size) :
    ∃ A c, u' = .slice A us'.length c ∧ WnI w K g v zs (.slice A us'.length c) us' o os W' := by
  obtain ⟨A, c, rfl, _⟩ := SlAt.of_own encB_len hr
  exact ⟨A, c, rfl, h.want hr hgr ha⟩
/-- A byte of the other row is changed. -/
theorem WnI.store (h : WnI w K g v zs u us o os W) {r n c j : Nat} (ho : o = .slice (some ⟨r, 0, none⟩) n c) (hn : os.length = n) (b : UInt8) : WnI w K g v zs u us o (os.set j b) (W.setCell ⟨r, j, none⟩ (.int .u8 (b.toNat : Int))) := by
  subst ho
  subst hn
  have hb : (Value.slice (some ⟨r, 0, none⟩) os.length c).ownBlock = some r := rfl
  have h1 := (h.ro.stored j (.int .u8 (b.toNat : Int))).1
  rw [cells_set] at h1
  have hc : Chg (fun k => k = r) W (W.setCell ⟨r, j, none⟩ (.int .u8 (b.toNat : Int))) := .of_set _ _ rfl
  refine ⟨h.wr.chg hc (fun e => h.og (by rw [hb, e])) (fun k hk e => h.ov r hb (by rw [← e]; exact hk)), h.ru.chg hc (fun k hk e => h.ou r hb (by rw [← e]; exact hk)), ?_, h.bel.trans (hc.below h.bel.size fun k hk => by rw [hk]; exact (h.ro.lt r hb).1), h.hg, h.hv, h.ug, h.og, h.uv, h.ov, h.ou, h.keep hc fun p hp e => h.notRow h.ro p hp (by rw [hb, e])⟩
  have e : (os.set j b).length = os.length := List.length_set
  show World.ownsRow _ _ _ 1 _ (os.set j b).length _
  rw [e]
  exact h1
/-- One byte of the other row goes up. -/
theorem WnI.bump {A : Option Addr} {n c j : Nat} (h : WnI w K g v zs u us (.slice A n c) os W) (hn : os.length = n) (hj : j < n) :
    ∃ r m y : Nat, A = some ⟨r, 0, none⟩ ∧ W.cell? ⟨r, j, none⟩ = some (.int .u8 (m : Int)) ∧ W.frozen? ⟨r, j, none⟩ = false ∧ IntKind.u8.wrap ((m : Int) + 1) = (y : Int) ∧ ∃ os', os'.length = n ∧ WnI w K g v zs u us (.slice A n c) os' (W.setCell ⟨r, j, none⟩ (.int .u8 (y : Int))) := by
  subst hn
  obtain ⟨r, c', e⟩ := Joins.ownsRow_form h.ro (by omega)
  cases e
  refine ⟨r, (os[j]).toNat, (os[j] + 1).toNat, rfl, ?_, h.ro.frozenAt j, ?_, os.set j (os[j] + 1), List.length_set, h.store rfl rfl _⟩
  · rw [h.ro.cellAt j (by omega), cells_at, List.getElem?_eq_getElem hj]
    rfl
  · have := (os[j]).toNat_lt
    simp [IntKind.wrap, IntKind.bits, IntKind.signed, UInt8.toNat_add]
end
end Go.Proofs.Ytkloheabbbpboaa
