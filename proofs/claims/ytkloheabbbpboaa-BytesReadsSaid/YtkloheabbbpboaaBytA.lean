/- Package bytes: a writer: write, Put, Num, String, Len, Bytes. -/
import Derived.Test.YtkloheabbbpboaaApp
import Derived.Test.YtkloheabbbpboaaBytK
import Derived.Test.YtkloheabbbpboaaShelf
import Derived.WalkSpells
import Derived.IntWalk
namespace Go.Proofs.Ytkloheabbbpboaa
open Go.RowKit

/-- A byte's cell. -/
abbrev encB (b : UInt8) : List Value := [.int .u8 b.toNat]
theorem encB_len (x : UInt8) : (encB x).length = 1 := rfl
theorem encB_one (x : UInt8) : ∀ u ∈ encB x, u.oneCell' = true := by intro u hu; simp at hu; subst hu; rfl
abbrev BytesAt (w : World) (A : Option Addr) (xs : List UInt8) : Prop := SlAt encB 1 w A xs
theorem infoB : (Try.prog.info? 5).map (fun i => (i.zero, i.size, i.bytes)) = some (some (.int .u8 0), 1, 1) := by kernel_rfl
/-- A slice of bytes that reads as a list. -/
def HoldsB (w : World) (v : Value) (xs : List UInt8) : Prop := ∃ A c, v = .slice A xs.length c ∧ BytesAt w A xs ∧ xs.length ≤ c ∧ c ≤ maxLen
theorem HoldsB.below {w w' : World} {v : Value} {xs : List UInt8} (h : HoldsB w v xs) (hb : Below w.heap.size w w') : HoldsB w' v xs := by
  obtain ⟨A, c, rfl, h1, h2, h3⟩ := h
  exact ⟨A, c, rfl, h1.below hb, h2, h3⟩
theorem HoldsB.nil (w : World) : HoldsB w (.slice none 0 0) [] := ⟨none, 0, rfl, SlAt.nil, by simp, by simp [maxLen]⟩
theorem HoldsB.of_own {w : World} {base : Nat} {v : Value} {xs : List UInt8} (h : w.ownsRow base 5 1 v xs.length (cellsOf encB xs)) : HoldsB w v xs := by
  obtain ⟨A, c, rfl, h1, h2, h3⟩ := SlAt.of_own encB_len h
  exact ⟨A, c, rfl, h3, h1, h2⟩

/-- A world that differs from another one in blocks of S alone, and in new ones. -/
structure Chg (S : Nat → Prop) (w w' : World) : Prop where
  os : w'.os = w.os
  tape : w'.tape = w.tape
  output : w'.output = w.output
  size : w.heap.size ≤ w'.heap.size
  block : ∀ k, k < w.heap.size → ¬ S k → w'.heap[k]? = w.heap[k]?
section
variable {S T : Nat → Prop} {a b c : World}
theorem Chg.refl (S : Nat → Prop) (w : World) : Chg S w w := ⟨rfl, rfl, rfl, Nat.le_refl _, fun _ _ _ => rfl⟩
theorem Chg.trans (h : Chg S a b) (k : Chg T b c) (ht : ∀ i, i < a.heap.size → T i → S i) : Chg S a c :=
  ⟨k.os.trans h.os, k.tape.trans h.tape, k.output.trans h.output, Nat.le_trans h.size k.size, fun i hi hn => (k.block i (Nat.lt_of_lt_of_le hi h.size) fun e => hn (ht i hi e)).trans (h.block i hi hn)⟩
theorem Chg.of_below (h : Below a.heap.size a b) : Chg S a b := ⟨h.os, h.tape, h.output, h.size, fun k hk _ => h.block k hk⟩
theorem Chg.of_grown {row : Option Nat} (h : a.grownBy b row) (hs : ∀ k, row = some k → S k) : Chg S a b := ⟨h.os, h.tape, h.output, h.size, fun k hk hn => h.block k hk fun e => hn (hs k e.symm)⟩
theorem Chg.of_set (p : Addr) (u : Value) (hp : S p.block) : Chg S a (a.setCell p u) := ⟨rfl, rfl, rfl, by simp, fun k _ hn => Below.heap_setCell a p u k fun e => hn (e ▸ hp)⟩
theorem Chg.mono (h : Chg S a b) (hs : ∀ k, k < a.heap.size → S k → T k) : Chg T a b := ⟨h.os, h.tape, h.output, h.size, fun k hk hn => h.block k hk fun e => hn (hs k hk e)⟩
theorem Chg.below (h : Chg S a b) {B : Nat} (hB : B ≤ a.heap.size) (hs : ∀ k, S k → B ≤ k) : Below B a b := ⟨h.os, h.tape, h.output, h.size, fun k hk => h.block k (by omega) fun e => by have := hs k e; omega⟩
theorem Chg.cell (h : Chg S a b) {p : Addr} {v : Value} (hc : a.cell? p = some v) (hn : ¬ S p.block) : b.cell? p = some v := (World.cell?_of_block (h.block p.block (World.block_lt_of_cell? a p hc) hn)).trans hc
theorem Chg.holds (h : Chg S a b) {v : Value} {xs : List UInt8} (hv : HoldsB a v xs) (hn : ∀ k, v.ownBlock = some k → ¬ S k) : HoldsB b v xs := by
  obtain ⟨A, c, rfl, h1, h2, h3⟩ := hv
  refine ⟨A, c, rfl, fun h0 => ?_, h2, h3⟩
  obtain ⟨g, off, rfl, hb, hc⟩ := h1 h0
  exact ⟨g, off, rfl, Nat.lt_of_lt_of_le hb h.size, fun j x hx i u hu => h.cell (hc j x hx i u hu) (hn g rfl)⟩
end

/-- A writer's block, what it holds. -/
def Wr (W : World) (g : Nat) (v : Value) (xs : List UInt8) : Prop := W.heap[g]? = some (.cells #[v] 27 (0, 0)) ∧ W.ownsRow 0 5 1 v xs.length (cellsOf encB xs) ∧ v.ownBlock ≠ some g
theorem Wr.lt {W : World} {g : Nat} {v : Value} {xs : List UInt8} (h : Wr W g v xs) : g < W.heap.size := (Array.getElem?_eq_some_iff.1 h.1).1
theorem Wr.cell {W : World} {g : Nat} {v : Value} {xs : List UInt8} (h : Wr W g v xs) : W.cell? ⟨g, 0, none⟩ = some v := by simp [World.cell?, h.1]
theorem Wr.frozen {W : World} {g : Nat} {v : Value} {xs : List UInt8} (h : Wr W g v xs) : W.frozen? ⟨g, 0, none⟩ = false := by simp [World.frozen?, h.1]
theorem Wr.holds {W : World} {g : Nat} {v : Value} {xs : List UInt8} (h : Wr W g v xs) : HoldsB W v xs := HoldsB.of_own h.2.1
theorem Wr.chg {W W' : World} {g : Nat} {v : Value} {xs : List UInt8} {S : Nat → Prop} (h : Wr W g v xs) (hc : Chg S W W') (h1 : ¬ S g) (h2 : ∀ k, v.ownBlock = some k → ¬ S k) : Wr W' g v xs := by
  refine ⟨(hc.block g h.lt h1).trans h.1, ⟨h.2.1.1, ?_⟩, h.2.2⟩
  rcases h.2.1.2 with hn | ⟨r, cap, cur, rfl, hb, hg, rest⟩
  · exact .inl hn
  · exact .inr ⟨r, cap, cur, rfl, hb, (hc.block r (Array.getElem?_eq_some_iff.1 hg).1 (h2 r rfl)).trans hg, rest⟩
theorem Wr.below {W W' : World} {g : Nat} {v : Value} {xs : List UInt8} (h : Wr W g v xs) (hb : Below W.heap.size W W') : Wr W' g v xs := h.chg (S := fun _ => False) (.of_below hb) id (fun _ _ => id)
/-- What a call that writes leaves: the writer with zs, nothing else changed. -/
def Wrote (W : World) (g : Nat) (v : Value) (zs : List UInt8) (W' : World) : Prop :=
  ∃ v', Wr W' g v' zs ∧ (v'.ownBlock = v.ownBlock ∨ ∃ k, v'.ownBlock = some k ∧ W.heap.size ≤ k) ∧ Chg (fun k => k = g ∨ v.ownBlock = some k) W W'
theorem Wrote.refl {W : World} {g : Nat} {v : Value} {zs : List UInt8} (h : Wr W g v zs) : Wrote W g v zs W := ⟨v, h, .inl rfl, .refl _ _⟩
theorem Wrote.next {W W1 W2 : World} {g : Nat} {v v1 : Value} {zs : List UInt8} (h1 : v1.ownBlock = v.ownBlock ∨ ∃ k, v1.ownBlock = some k ∧ W.heap.size ≤ k) (hc : Chg (fun k => k = g ∨ v.ownBlock = some k) W W1) (h : Wrote W1 g v1 zs W2) : Wrote W g v zs W2 := by
  obtain ⟨v2, hw, hb, hc2⟩ := h
  refine ⟨v2, hw, ?_, hc.trans hc2 fun i hi e => ?_⟩
  · rcases hb with e | ⟨k, e, hk⟩
    · rw [e]; exact h1
    · exact .inr ⟨k, e, Nat.le_trans hc.size hk⟩
  · rcases e with e | e
    · exact .inl e
    · rcases h1 with e1 | ⟨k, e1, hk⟩
      · exact .inr (e1 ▸ e)
      · rw [e1] at e; injection e with e; omega
theorem Wrote.before {W W1 W2 : World} {g : Nat} {v : Value} {zs : List UInt8} (hb : Below W.heap.size W W1) (h : Wrote W1 g v zs W2) : Wrote W g v zs W2 := Wrote.next (.inl rfl) (.of_below hb) h
theorem Wrote.after {W W1 W2 : World} {g : Nat} {v : Value} {zs : List UInt8} (h : Wrote W g v zs W1) (hb : Below W1.heap.size W1 W2) : Wrote W g v zs W2 := by
  obtain ⟨v1, hw, h1, hc⟩ := h
  exact ⟨v1, hw.below hb, h1, hc.trans (T := fun _ => False) (.of_below hb) fun _ _ e => e.elim⟩
theorem wrote_store {W W1 : World} {g : Nat} {v v1 : Value} {xs zs : List UInt8} (h : Wr W g v xs) (ho : W1.ownsRow 0 5 1 v1 zs.length (cellsOf encB zs)) (hg : W.grownBy W1 v.ownBlock) (hat : v1.ownBlock = v.ownBlock ∨ v1.ownBlock = some W.heap.size) :
    Wrote W g v zs (W1.setCell ⟨g, 0, none⟩ v1) := by
  have hne : v1.ownBlock ≠ some g := by
    rcases hat with e | e
    · rw [e]; exact h.2.2
    · rw [e]; intro e2; injection e2 with e2; have := h.lt; omega
  have hB : W1.heap[g]? = some (.cells #[v] 27 (0, 0)) := (hg.block g h.lt fun e => h.2.2 e.symm).trans h.1
  refine ⟨v1, ⟨?_, ?_, hne⟩, ?_, (Chg.of_grown (S := fun k => k = g ∨ v.ownBlock = some k) hg fun k e => .inr e).trans (.of_set (S := fun k => k = g) ⟨g, 0, none⟩ v1 rfl) fun _ _ e => .inl e⟩
  · obtain ⟨hlt, hk⟩ := Array.getElem?_eq_some_iff.1 hB
    show (W1.heap.modify g _)[g]? = _
    rw [Array.getElem?_modify, if_pos rfl, hB]
    rfl
  · refine ⟨ho.1, ?_⟩
    rcases ho.2 with hn | ⟨r, cap, cur, rfl, hb, hr, rest⟩
    · exact .inl hn
    · exact .inr ⟨r, cap, cur, rfl, hb, (Below.heap_setCell W1 ⟨g, 0, none⟩ _ r fun e => hne (by rw [Value.ownBlock]; exact congrArg some e)).trans hr, rest⟩
  · rcases hat with e | e
    · exact .inl e
    · exact .inr ⟨_, e, Nat.le_refl _⟩

theorem ret_unit_below {w w' : World} (h : w = w') : Below w.heap.size w w' := h ▸ Below.refl _ _

set_option maxHeartbeats 400000 in
theorem writeNil (v : Value) (w : World) : Calls Try.prog 33 #[.pointer none, v] w fun e w' => e = .returned (.tuple #[]) ∧ w = w' := by
  go_enter Try.func33, Try.ntmps33
  go_wp2
  exact ⟨rfl, .tuple #[], results_none (by kernel_rfl) _ _ _, rfl, rfl⟩

set_option maxHeartbeats 1000000 in
theorem writeAt (g : Nat) (v : Value) (xs ys : List UInt8) (A : Option Addr) (c : Nat) (w : World) (h : Wr w g v xs) (hy : BytesAt w A ys) (hm : xs.length + ys.length ≤ 1000000) :
    Calls Try.prog 33 #[.pointer (some ⟨g, 0, none⟩), .slice A ys.length c] w fun e w' => e = .returned (.tuple #[]) ∧ Wrote w g v (xs ++ ys) w' := by
  obtain ⟨i0, hi0, hz0, hz1, hz2⟩ := info_parts infoB
  have q0 := h.cell
  have q1 := h.frozen
  have H := Lib.hid h
  have HY := Lib.hid hy
  clear h hy
  go_enter Try.func33, Try.ntmps33
  go_wp2_with (at_builtin; refine wpList_append_sl _ encB 1 rfl (.tmp 10) (.tmp 11) 25 rfl encB_len (by omega) encB_one 0 5 i0 _ 1 Try.underlying25 hi0 hz0 hz1 hz2 rfl v xs rfl H.out.2.1 A _ c ys rfl rfl HY.out (by simp [maxLen]; omega) (by omega) (Nat.zero_le _) ?_; intro v1 w1 hown1 hg1 hat1; obtain ⟨A1, n1, rfl, _⟩ := SlAt.of_own encB_len hown1; have c1 := hg1.cell q0 (fun e => H.out.2.2 e.symm); have f1 := (World.frozen?_of_block (hg1.block g H.out.lt (fun e => H.out.2.2 e.symm)) (a := ⟨g, 0, none⟩)).trans q1)
  exact ⟨rfl, .tuple #[], results_none (by kernel_rfl) _ _ _, rfl, by
    have h9 := wrote_store H.out hown1 hg1 hat1
    rw [List.length_append] at h9
    exact h9⟩

theorem putAt (g : Nat) (v : Value) (xs ys : List UInt8) (A : Option Addr) (c : Nat) (w : World) (h : Wr w g v xs) (hy : BytesAt w A ys) (hm : xs.length + ys.length ≤ 1000000) :
    Calls Try.prog 14 #[.pointer (some ⟨g, 0, none⟩), .slice A ys.length c] w fun e w' => e = .returned (.tuple #[]) ∧ Wrote w g v (xs ++ ys) w' := by
  have H := Lib.hid (writeAt g v xs ys A c w h hy hm)
  clear h hy
  go_enter Try.func14, Try.ntmps14
  go_wp2_with fail
  refine H.out.mono ?_
  rintro e w1 ⟨rfl, h1⟩
  have H1 := Lib.hid h1
  clear h1
  go_wp2
  exact ⟨rfl, .tuple #[], results_none (by kernel_rfl) _ _ _, rfl, H1.out⟩

theorem putNil (v : Value) (w : World) : Calls Try.prog 14 #[.pointer none, v] w fun e w' => e = .returned (.tuple #[]) ∧ w = w' := by
  have H := Lib.hid (fun v w => writeNil v w)
  go_enter Try.func14, Try.ntmps14
  go_wp2_with fail
  refine (H.out _ _).mono ?_
  rintro e w1 ⟨rfl, rfl⟩
  go_wp2
  exact ⟨rfl, .tuple #[], results_none (by kernel_rfl) _ _ _, rfl, rfl⟩

theorem lenAt (g : Nat) (v : Value) (xs : List UInt8) (w : World) (h : Wr w g v xs) :
    Calls Try.prog 16 #[.pointer (some ⟨g, 0, none⟩)] w fun e w' => e = .returned (.int .i64 xs.length) ∧ w = w' := by
  have q0 := h.cell
  obtain ⟨A, c, rfl, _⟩ := h.holds
  clear h
  go_enter Try.func16, Try.ntmps16
  go_wp2
  go_ret
  exact ⟨rfl, rfl⟩
theorem lenNil (w : World) : Calls Try.prog 16 #[.pointer none] w fun e w' => e = .returned (.int .i64 0) ∧ w = w' := by
  go_enter Try.func16, Try.ntmps16
  go_wp2
  go_ret
  exact ⟨rfl, rfl⟩

set_option maxHeartbeats 1000000 in
theorem cloneB (A : Option Addr) (xs : List UInt8) (cap : Nat) (w : World) (hx : BytesAt w A xs) (hm : xs.length ≤ 1000000) :
    Calls Try.prog 34 #[.slice A xs.length cap] w fun e w' => (∃ v, e = .returned v ∧ w'.ownsRow w.heap.size 5 1 v xs.length (cellsOf encB xs)) ∧ Below w.heap.size w w' := by
  obtain ⟨i0, hi0, hz0, hz1, hz2⟩ := info_parts infoB
  have q22 : ∀ (w : World) (a : Option Addr) (n c n' c' : Nat), (binOp .eql 25 (.slice a n c) (.slice none n' c')).run Try.prog w = .ok (.bool a.isNone) w := fun w a n c n' c' => Lib.run_eql_slice_nil w _ _ a n c n' c' Try.underlying25
  match A with
  | none =>
    have h0 : xs = [] := by
      cases xs with
      | nil => rfl
      | cons x r => obtain ⟨_, _, h, _⟩ := hx (by simp); cases h
    subst h0
    go_enter Try.func34, Try.ntmps34
    go_wp2
    go_ret
    exact ⟨⟨_, rfl, World.ownsRow_nil _ _ _ _⟩, Below.refl _ _⟩
  | some a =>
    go_enter Try.func34, Try.ntmps34
    go_wp2_with (at_builtin; refine wpList_append_sl _ encB 1 rfl (.tmp 5) (.tmp 6) 25 rfl encB_len (by omega) encB_one w.heap.size 5 i0 _ 1 Try.underlying25 hi0 hz0 hz1 hz2 rfl _ [] rfl (World.ownsRow_made w #[] 0 (Nat.le_refl _) (Nat.zero_le _) (by simp)) (some a) _ cap xs rfl rfl (hx.below ((Below.refl _ w).alloc (Nat.le_refl _) _)) (by simp [maxLen]; omega) (by simp; omega) (by simp) ?_; intro v1 w1 hown1 hg1 hat1)
    rw [List.nil_append] at hown1
    go_ret
    exact ⟨⟨_, rfl, hown1⟩, ((Below.refl _ w).alloc (Nat.le_refl _) _).grown hg1 (by simp) (fun k hk => by
      have e0 : some w.heap.size = some k := hk
      injection e0 with e
      omega)⟩

theorem bytesAt (g : Nat) (v : Value) (xs : List UInt8) (w : World) (h : Wr w g v xs) (hm : xs.length ≤ 1000000) :
    Calls Try.prog 15 #[.pointer (some ⟨g, 0, none⟩)] w fun e w' => (∃ v, e = .returned v ∧ w'.ownsRow w.heap.size 5 1 v xs.length (cellsOf encB xs)) ∧ Below w.heap.size w w' := by
  have q0 := h.cell
  obtain ⟨A, c, rfl, h1, _⟩ := h.holds
  have H := Lib.hid (cloneB A xs c w h1 hm)
  clear h h1
  go_enter Try.func15, Try.ntmps15
  go_wp2_with fail
  refine H.out.mono ?_
  rintro e w1 ⟨⟨v2, rfl, ho⟩, hb⟩
  have HO := Lib.hid ho
  have HB := Lib.hid hb
  clear ho hb
  go_wp2
  go_ret
  exact ⟨⟨_, rfl, HO.out⟩, HB.out⟩
theorem bytesNil (w : World) : Calls Try.prog 15 #[.pointer none] w fun e w' => e = .returned (.slice none 0 0) ∧ w = w' := by
  go_enter Try.func15, Try.ntmps15
  go_wp2
  go_ret
  exact ⟨rfl, rfl⟩

end Go.Proofs.Ytkloheabbbpboaa
