/- The law BytesHolds: what was written is read again. -/
import Derived.Test.YtkloheabbbpboaaBytQ
import Derived.Outline
import Derived.Deep.CutBlock
namespace Go.Proofs.Ytkloheabbbpboaa
open Go.RowKit

/-- A writer of the call's own. -/
def WrI (w : World) (g : Nat) (zs : List UInt8) (W : World) : Prop :=
  ∃ v, Wr W g v zs ∧ Below w.heap.size w W ∧ w.heap.size ≤ g ∧ ∀ b, v.ownBlock = some b → w.heap.size ≤ b
theorem WrI.new (w W : World) (hb : Below w.heap.size w W) : WrI w W.heap.size [] (W.alloc (.cells #[.slice none 0 0] 27)) :=
  ⟨_, Wr.new W, hb.alloc hb.size _, hb.size, fun b h => by cases h⟩
theorem WrI.below {w W W' : World} {g : Nat} {zs : List UInt8} (h : WrI w g zs W) (hb : Below W.heap.size W W') : WrI w g zs W' := by
  obtain ⟨v, h1, h2, h3, h4⟩ := h
  exact ⟨v, h1.below hb, below_trans h2 hb, h3, h4⟩
theorem WrI.bel {w W : World} {g : Nat} {zs : List UInt8} (h : WrI w g zs W) : Below w.heap.size w W := by
  obtain ⟨v, h1, h2, h3, h4⟩ := h
  exact h2
theorem WrI.step {w W W' : World} {g : Nat} {v : Value} {zs ys : List UInt8} (h1 : Wr W g v zs) (h2 : Below w.heap.size w W) (h3 : w.heap.size ≤ g) (h4 : ∀ b, v.ownBlock = some b → w.heap.size ≤ b) (h : Wrote W g v ys W') : WrI w g ys W' := by
  obtain ⟨v', hw, ho, hc⟩ := h
  refine ⟨v', hw, h2.trans (hc.below h2.size fun k hk => ?_), h3, fun b hb => ?_⟩
  · rcases hk with rfl | hk
    · exact h3
    · exact h4 k hk
  · rcases ho with e | ⟨k, e, hk⟩
    · exact h4 b (by rw [← e]; exact hb)
    · rw [e] at hb
      cases hb
      exact Nat.le_trans h2.size hk
theorem WrI.num {w W : World} {g : Nat} {zs : List UInt8} (h : WrI w g zs W) (n : Nat) (hn : n < 18446744073709551616) (hm : zs.length ≤ 700000) :
    Calls Try.prog 10 #[.pointer (some ⟨g, 0, none⟩), .int .u64 (n : Int)] W fun e W' => e = .returned (.tuple #[]) ∧ WrI w g (zs ++ enc n) W' := by
  obtain ⟨v, h1, h2, h3, h4⟩ := h
  exact (numAt g v zs n W h1 hn (by omega)).mono fun e W' ⟨he, hw⟩ => ⟨he, WrI.step h1 h2 h3 h4 hw⟩
theorem WrI.str {w W : World} {g : Nat} {zs : List UInt8} (h : WrI w g zs W) (xs : List UInt8) (hx : xs.length ≤ 300) (hm : zs.length ≤ 700000) :
    Calls Try.prog 12 #[.pointer (some ⟨g, 0, none⟩), .string ⟨xs.toArray⟩] W fun e W' => e = .returned (.tuple #[]) ∧ WrI w g (zs ++ (enc xs.length ++ xs)) W' := by
  obtain ⟨v, h1, h2, h3, h4⟩ := h
  have hs : (ByteArray.mk xs.toArray).size = xs.length := by show xs.toArray.size = _; simp
  exact (strAt g v zs ⟨xs.toArray⟩ W h1 (by omega) (by omega)).mono fun e W' ⟨he, hw⟩ => ⟨he, by rw [hs] at hw; exact WrI.step h1 h2 h3 h4 hw⟩
theorem WrI.put {w W : World} {g : Nat} {zs : List UInt8} (h : WrI w g zs W) (xs : List UInt8) (A : Option Addr) (c : Nat) (hx : xs.length ≤ 300) (hm : zs.length ≤ 700000) (hv : HoldsB W (.slice A xs.length c) xs) :
    Calls Try.prog 14 #[.pointer (some ⟨g, 0, none⟩), .slice A xs.length c] W fun e W' => e = .returned (.tuple #[]) ∧ WrI w g (zs ++ xs) W' := by
  obtain ⟨v, h1, h2, h3, h4⟩ := h
  obtain ⟨A', c', e, hat, _⟩ := hv
  cases e
  exact (putAt g v zs xs A c W h1 hat (by omega)).mono fun e W' ⟨he, hw⟩ => ⟨he, WrI.step h1 h2 h3 h4 hw⟩

/-- The bytes of a part. -/
def PartV.out (p : PartV) : List UInt8 := if p.what = 0 then enc p.n else if p.what = 1 then enc p.xs.length ++ p.xs else p.xs
/-- The bytes of parts. -/
def outs : List PartV → List UInt8
  | [] => []
  | p :: r => p.out ++ outs r
theorem outs_append (a b : List PartV) : outs (a ++ b) = outs a ++ outs b := by
  induction a with
  | nil => rfl
  | cons p r ih => simp [outs, ih]
theorem outs_take {ps : List PartV} {k : Nat} (hk : k < ps.length) : outs (ps.take (k + 1)) = outs (ps.take k) ++ (ps[k]).out := by
  rw [List.take_succ_eq_append_getElem hk, outs_append]
  simp [outs]
theorem out_len (p : PartV) (hn : p.n < 18446744073709551616) (hx : p.xs.length ≤ 300) : p.out.length ≤ 310 := by
  have h1 := enc_ten hn
  have h2 := enc_ten (n := p.xs.length) (by omega)
  unfold PartV.out
  split
  · omega
  · split
    · rw [List.length_append]; omega
    · omega
theorem outs_len (ps : List PartV) (h : ∀ p ∈ ps, p.n < 18446744073709551616 ∧ p.xs.length ≤ 300) : (outs ps).length ≤ 310 * ps.length := by
  induction ps with
  | nil => simp [outs]
  | cons p r ih =>
    have h1 := out_len p (h p (by simp)).1 (h p (by simp)).2
    have h2 := ih fun q hq => h q (by simp [hq])
    rw [outs, List.length_append, List.length_cons]
    omega

theorem WrI.bytes {w W : World} {g : Nat} {zs : List UInt8} (h : WrI w g zs W) (hm : zs.length ≤ 700000) :
    Calls Try.prog 15 #[.pointer (some ⟨g, 0, none⟩)] W fun e W' => (∃ A c, e = .returned (.slice A zs.length c) ∧ HoldsB W' (.slice A zs.length c) zs) ∧ WrI w g zs W' := by
  obtain ⟨v, h1, h2, h3, h4⟩ := h
  refine (bytesAt g v zs W h1 (by omega)).mono fun e W' ⟨⟨v', he, ho⟩, hb⟩ => ?_
  have hv := HoldsB.of_own ho
  obtain ⟨A, c, rfl, hr⟩ := hv
  exact ⟨⟨A, c, he, A, c, rfl, hr⟩, v, h1.below hb, below_trans h2 hb, h3, h4⟩

/-- A writer and a reader of the call's own. -/
def RwI (w : World) (g : Nat) (zs : List UInt8) (g2 : Nat) (A2 : Option Addr) (c2 : Nat) (ys : List UInt8) (i : Nat) (W : World) : Prop :=
  ∃ v, Wr W g v zs ∧ Rd W g2 A2 c2 ys i ∧ Below w.heap.size w W ∧ w.heap.size ≤ g ∧ (∀ b, v.ownBlock = some b → w.heap.size ≤ b) ∧ w.heap.size ≤ g2 ∧ g ≠ g2 ∧ v.ownBlock ≠ some g2 ∧ (0 < ys.length → ∀ a, A2 = some a → a.block ≠ g ∧ v.ownBlock ≠ some a.block)
theorem RwI.rdr {w W : World} {g : Nat} {zs : List UInt8} {g2 : Nat} {A2 : Option Addr} {c2 : Nat} {ys : List UInt8} {i : Nat} (h : RwI w g zs g2 A2 c2 ys i W) : Rd W g2 A2 c2 ys i := by
  obtain ⟨v, _, h2, _⟩ := h; exact h2
theorem RwI.bel {w W : World} {g : Nat} {zs : List UInt8} {g2 : Nat} {A2 : Option Addr} {c2 : Nat} {ys : List UInt8} {i : Nat} (h : RwI w g zs g2 A2 c2 ys i W) : Below w.heap.size w W := by
  obtain ⟨v, _, _, h3, _⟩ := h; exact h3
theorem RwI.wr {w W : World} {g : Nat} {zs : List UInt8} {g2 : Nat} {A2 : Option Addr} {c2 : Nat} {ys : List UInt8} {i : Nat} (h : RwI w g zs g2 A2 c2 ys i W) : ∃ v, Wr W g v zs := by
  obtain ⟨v, h1, _⟩ := h; exact ⟨v, h1⟩
theorem RwI.mk2 {w W W' : World} {g : Nat} {zs : List UInt8} {g2 : Nat} {A2 : Option Addr} {c2 : Nat} {ys : List UInt8} {i : Nat} (h : WrI w g zs W) (hR : Rd W' g2 A2 c2 ys i) (hg : W.heap.size ≤ g2) (hA : ∀ a, A2 = some a → W.heap.size ≤ a.block) (hb : Below W.heap.size W W') : RwI w g zs g2 A2 c2 ys i W' := by
  obtain ⟨v, h1, h2, h3, h4⟩ := h
  refine ⟨v, h1.below hb, hR, below_trans h2 hb, h3, h4, Nat.le_trans h2.size hg, ?_, fun e => ?_, fun _ a ha => ⟨?_, fun e => ?_⟩⟩
  · have := h1.lt; omega
  · have := (h1.2.1.lt g2 e).2; omega
  · have := h1.lt; have := hA a ha; omega
  · have := (h1.2.1.lt a.block e).2; have := hA a ha; omega
theorem RwI.below {w W W' : World} {g : Nat} {zs : List UInt8} {g2 : Nat} {A2 : Option Addr} {c2 : Nat} {ys : List UInt8} {i : Nat} (h : RwI w g zs g2 A2 c2 ys i W) (hb : Below W.heap.size W W') : RwI w g zs g2 A2 c2 ys i W' := by
  obtain ⟨v, h1, h2, h3, h4⟩ := h
  exact ⟨v, h1.below hb, h2.below hb, below_trans h3 hb, h4⟩
theorem RwI.ask {w W W' : World} {g : Nat} {zs : List UInt8} {g2 : Nat} {A2 : Option Addr} {c2 : Nat} {ys : List UInt8} {i j : Nat} (h : RwI w g zs g2 A2 c2 ys i W) (hR : Rd W' g2 A2 c2 ys j) (hC : Chg (fun k => k = g2) W W') : RwI w g zs g2 A2 c2 ys j W' := by
  obtain ⟨v, h1, h2, h3, h4, h5, h6, h7, h8, h9⟩ := h
  exact ⟨v, h1.chg hC h7 (fun k hk e => h8 (by rw [← e]; exact hk)), hR, h3.trans (hC.below h3.size fun k hk => by rw [hk]; exact h6), h4, h5, h6, h7, h8, h9⟩
theorem rdS_enc {xs rest : List UInt8} (hx : xs.length ≤ 300) : rdS (enc xs.length ++ (xs ++ rest)) (xs.length : Int) = (xs, (enc xs.length).length + xs.length, 0) := by
  have h := rd_enc (n := xs.length) (by omega) (xs ++ rest)
  unfold rdS
  rw [h, if_neg (by simp), if_neg (by simp), if_neg (by simp)]
  simp
theorem takeP_out {xs rest : List UInt8} : takeP (xs ++ rest) (xs.length : Int) = (xs, 0) := by
  unfold takeP
  rw [if_neg (by omega), if_neg (by simp; omega)]
  simp
section
variable {w W : World} {g : Nat} {zs : List UInt8} {g2 : Nat} {A2 : Option Addr} {c2 : Nat} {ys : List UInt8} {i : Nat}
theorem RwI.reads (h : RwI w g zs g2 A2 c2 ys i W) (n : Nat) (hn : n < 18446744073709551616) (rest : List UInt8) (hd : ys.drop i = enc n ++ rest) :
    Calls Try.prog 20 #[.pointer (some ⟨g2, 0, none⟩), .int .u64 (n : Int), .int .u64 (n : Int), .int .i64 0] W fun e W' => e = .returned (.bool true) ∧ RwI w g zs g2 A2 c2 ys (i + (enc n).length) W' := by
  have hrd : rd (ys.drop i) = (n, (enc n).length, 0) := by rw [hd]; exact rd_enc hn rest
  exact (lawReads g2 A2 c2 ys i n n 0 n (enc n).length 0 true W h.rdr hn (by rw [hrd]; unfold numP; rw [if_neg (by simp), if_neg (by simp)]) (by rw [hrd]) (by simp)).mono fun e W' ⟨he, hR, hC⟩ => ⟨he, h.ask hR hC⟩
theorem RwI.hears (h : RwI w g zs g2 A2 c2 ys i W) (xs : List UInt8) (hx : xs.length ≤ 300) (rest : List UInt8) (hd : ys.drop i = enc xs.length ++ (xs ++ rest)) :
    Calls Try.prog 22 #[.pointer (some ⟨g2, 0, none⟩), .int .i64 (xs.length : Int), .string ⟨xs.toArray⟩, .int .i64 0] W fun e W' => e = .returned (.bool true) ∧ RwI w g zs g2 A2 c2 ys (i + ((enc xs.length).length + xs.length)) W' :=
  (lawHears g2 A2 c2 ys i xs.length xs xs ((enc xs.length).length + xs.length) 0 0 true W h.rdr (by omega) (by omega) (by rw [hd]; exact rdS_enc hx) (by simp)).mono fun e W' ⟨he, hR, hC⟩ => ⟨he, h.ask hR hC⟩
theorem RwI.takes (h : RwI w g zs g2 A2 c2 ys i W) (xs : List UInt8) (hx : xs.length ≤ 300) (rest : List UInt8) (hd : ys.drop i = xs ++ rest) :
    Calls Try.prog 23 #[.pointer (some ⟨g2, 0, none⟩), .int .i64 (xs.length : Int), .string ⟨xs.toArray⟩, .int .i64 0] W fun e W' => e = .returned (.bool true) ∧ RwI w g zs g2 A2 c2 ys (i + xs.length) W' :=
  (lawTakes g2 A2 c2 ys i xs.length xs xs 0 0 true W h.rdr (by omega) (by omega) (by rw [hd]; exact takeP_out) (by simp)).mono fun e W' ⟨he, hR, hC⟩ => ⟨he, h.ask hR hC⟩
theorem RwI.left (h : RwI w g zs g2 A2 c2 ys i W) (q : Nat) (hq : i + q = ys.length) :
    Calls Try.prog 28 #[.pointer (some ⟨g2, 0, none⟩)] W fun e W' => e = .returned (.int .i64 (q : Int)) ∧ RwI w g zs g2 A2 c2 ys i W' := by
  have e : ys.length - i = q := by omega
  exact (leftAt g2 A2 c2 ys i W h.rdr).mono fun e' W' ⟨he, hb⟩ => ⟨by rw [← e]; exact he, h.below hb⟩
end
theorem RwI.new {w W : World} {g2 : Nat} {A2 : Option Addr} {c2 : Nat} {ys : List UInt8} {i : Nat} (hb : Below w.heap.size w W) (hR : Rd W g2 A2 c2 ys i) (hg : w.heap.size ≤ g2) : RwI w W.heap.size [] g2 A2 c2 ys i (W.alloc (.cells #[.slice none 0 0] 27)) := by
  refine ⟨_, Wr.new W, hR.below ((Below.refl _ W).alloc (Nat.le_refl _) _), hb.alloc hb.size _, hb.size, (fun b h => by cases h), hg, ?_, (fun e => by cases e), fun h0 a ha => ⟨?_, (fun e => by cases e)⟩⟩
  · have := hR.lt; omega
  · obtain ⟨b, off, e, hbl, _⟩ := hR.2.1 h0
    rw [ha] at e
    cases e
    simp only []
    omega
theorem RwI.add {w W : World} {g : Nat} {zs : List UInt8} {g2 : Nat} {A2 : Option Addr} {c2 : Nat} {ys : List UInt8} {i : Nat} (h : RwI w g zs g2 A2 c2 ys i W) (n : Nat) (hn : n < 18446744073709551616) (hm : zs.length ≤ 700000) (h0 : 0 < ys.length) :
    Calls Try.prog 10 #[.pointer (some ⟨g, 0, none⟩), .int .u64 (n : Int)] W fun e W' => e = .returned (.tuple #[]) ∧ RwI w g (zs ++ enc n) g2 A2 c2 ys i W' := by
  obtain ⟨v, h1, h2, h3, h4, h5, h6, h7, h8, h9⟩ := h
  refine (numAt g v zs n W h1 hn (by omega)).mono fun e W' ⟨he, v', hw, ho, hc⟩ => ⟨he, v', hw, ?_, ?_, h4, ?_, h6, h7, ?_, fun _ a ha => ⟨(h9 h0 a ha).1, ?_⟩⟩
  · refine h2.chg hc ?_ fun a ha => ?_
    · rintro (e | e)
      · exact h7 e.symm
      · exact h8 e
    · rintro (e | e)
      · exact (h9 h0 a ha).1 e
      · exact (h9 h0 a ha).2 e
  · exact h3.trans (hc.below h3.size fun k hk => by
      rcases hk with rfl | hk
      · exact h4
      · exact h5 k hk)
  · intro b hb
    rcases ho with e | ⟨k, e, hk⟩
    · exact h5 b (by rw [← e]; exact hb)
    · rw [e] at hb; cases hb; exact Nat.le_trans h3.size hk
  · intro hb
    rcases ho with e | ⟨k, e, hk⟩
    · exact h8 (by rw [← e]; exact hb)
    · rw [e] at hb; cases hb; have := h2.lt; omega
  · intro hb
    rcases ho with e | ⟨k, e, hk⟩
    · exact (h9 h0 a ha).2 (by rw [← e]; exact hb)
    · rw [e] at hb
      cases hb
      obtain ⟨b, off, e2, hbl, _⟩ := h2.2.1 h0
      rw [ha] at e2
      cases e2
      simp only [] at hk
      omega
theorem RwI.get0 {w W : World} {g : Nat} {zs : List UInt8} {g2 : Nat} {A2 : Option Addr} {c2 : Nat} {ys : List UInt8} {i n z : Nat} (h : RwI w g zs g2 A2 c2 ys i W) (hrd : rd (ys.drop i) = (n, z, 0)) :
    Calls Try.prog 25 #[.pointer (some ⟨g2, 0, none⟩), .int .u64 18446744073709551615] W fun e W' => e = .returned (.tuple #[.int .u64 (n : Int), .int .i64 0]) ∧ RwI w g zs g2 A2 c2 ys (i + z) W' := by
  have hn := (rd_back hrd).1
  refine (numTry g2 A2 c2 ys i 18446744073709551615 W h.rdr (by omega) n 0 (by rw [hrd]; unfold numP; rw [if_neg (by simp), if_neg (by simp only []; omega)])).mono fun e W' ⟨he, hR, hC⟩ => ⟨he, ?_⟩
  rw [if_pos rfl, hrd] at hR
  exact h.ask hR hC
theorem RwI.get1 {w W : World} {g : Nat} {zs : List UInt8} {g2 : Nat} {A2 : Option Addr} {c2 : Nat} {ys : List UInt8} {i n z : Nat} {er : Int} (h : RwI w g zs g2 A2 c2 ys i W) (hrd : rd (ys.drop i) = (n, z, er)) (her : er ≠ 0) :
    Calls Try.prog 25 #[.pointer (some ⟨g2, 0, none⟩), .int .u64 18446744073709551615] W fun e W' => e = .returned (.tuple #[.int .u64 0, .int .i64 er]) ∧ RwI w g zs g2 A2 c2 ys i W' := by
  refine (numTry g2 A2 c2 ys i 18446744073709551615 W h.rdr (by omega) 0 er (by rw [hrd]; unfold numP; rw [if_pos her])).mono fun e W' ⟨he, hR, hC⟩ => ⟨he, ?_⟩
  rw [if_neg her] at hR
  exact h.ask hR hC
theorem HoldsB.upto {W : World} {A : Option Addr} {c j : Nat} {xs : List UInt8} (h : HoldsB W (.slice A xs.length c) xs) (hj : j ≤ xs.length) : HoldsB W (.slice A (xs.take j).length c) (xs.take j) := by
  obtain ⟨A', c', e, hat, h2, h3⟩ := h
  cases e
  exact ⟨A, c, rfl, hat.take j, by rw [List.length_take]; omega, h3⟩
theorem RwI.bytes {w W : World} {g : Nat} {zs : List UInt8} {g2 : Nat} {A2 : Option Addr} {c2 : Nat} {ys : List UInt8} {i : Nat} (h : RwI w g zs g2 A2 c2 ys i W) (hm : zs.length ≤ 700000) :
    Calls Try.prog 15 #[.pointer (some ⟨g, 0, none⟩)] W fun e W' => (∃ A c, e = .returned (.slice A zs.length c) ∧ HoldsB W' (.slice A zs.length c) zs) ∧ Below W.heap.size W W' := by
  obtain ⟨v, h1, _⟩ := h
  refine (bytesAt g v zs W h1 (by omega)).mono fun e W' ⟨⟨v', he, ho⟩, hb⟩ => ?_
  have hv := HoldsB.of_own ho
  obtain ⟨A, c, rfl, hr⟩ := hv
  exact ⟨⟨A, c, he, A, c, rfl, hr⟩, hb⟩
/-- What lies in the last statement: the reader and the writer of the bytes handed in, and these. -/
def HS (w : World) (g g2 : Nat) (A2 : Option Addr) (c2 : Nat) (xs : List UInt8) (j : Nat) (A : Option Addr) (c : Nat) (W : World) : Prop := RwI w g (xs.take j) g2 A2 c2 xs j W ∧ HoldsB W (.slice A xs.length c) xs
theorem HS.below {w W W' : World} {g g2 : Nat} {A2 : Option Addr} {c2 : Nat} {xs : List UInt8} {j : Nat} {A : Option Addr} {c : Nat} (h : HS w g g2 A2 c2 xs j A c W) (hb : Below W.heap.size W W') : HS w g g2 A2 c2 xs j A c W' := ⟨h.1.below hb, h.2.below hb⟩
theorem outs_drop {ps : List PartV} {k : Nat} (hk : k < ps.length) : (outs ps).drop (outs (ps.take k)).length = (ps[k]).out ++ outs (ps.drop (k + 1)) := by
  have h : outs ps = outs (ps.take k) ++ ((ps[k]).out ++ outs (ps.drop (k + 1))) := by
    have h1 : ps = ps.take k ++ (ps[k] :: ps.drop (k + 1)) := by rw [← List.drop_eq_getElem_cons hk, List.take_append_drop]
    have h2 : outs ps = outs (ps.take k ++ (ps[k] :: ps.drop (k + 1))) := by rw [← h1]
    rw [h2, outs_append]
    rfl
  rw [h, List.drop_left]

set_option maxRecDepth 100000 in
set_option maxHeartbeats 4000000 in
theorem lawHolds4 (X : Option Addr) (cx : Nat) (ps : List PartV) (A : Option Addr) (c : Nat) (xs : List UInt8) (w : World) (h : PartsAt w X ps) (hm : ps.length ≤ cx ∧ cx ≤ maxLen) (hv : HoldsB w (.slice A xs.length c) xs) :
    Calls Try.prog 7 #[.slice X ps.length cx, .slice A xs.length c] w fun e w' => e = .returned (.bool true) ∧ Below w.heap.size w w' := by
  have HS := Lib.hid (lawSmall X cx ps w h hm)
  have HP := Lib.hid h
  have HV := Lib.hid hv
  clear h hv
  go_enter Try.func7, Try.ntmps7
  go_wp2_with fail
  refine HS.out.mono ?_
  rintro e w1 ⟨⟨b, rfl, hb⟩, rfl⟩
  cases b with
  | false =>
    go_wp2_with fail
    refine (knownB _).mono ?_
    rintro e w2 ⟨rfl, hb2⟩
    have K := Lib.hid hb2
    clear hb2
    go_wp2_with fail
    go_ret
    exact ⟨rfl, K.out⟩
  | true =>
    have HB := Lib.hid (hb rfl)
    clear hb HS
    by_cases hlx : xs.length ≤ 300
    · have i1 : ¬ (300 : Int) < (xs.length : Int) := by omega
      have HLX := Lib.hid hlx
      clear hlx
      have K0 := Lib.hid (WrI.new w w (Below.refl _ w))
      go_wp2_with fail
      go_loopw [29] (fun a wr => ∃ k : Nat, k ≤ ps.length ∧ a = .int .i64 k ∧ Hid (WrI w w.heap.size (outs (ps.take k)) wr)) (fun a _ => ps.length - (intOf a).toNat)
      case atStart => exact ⟨0, by omega, rfl, K0⟩
      case round =>
        obtain ⟨k, hk, rfl, KW⟩ := hrel
        by_cases hlt : k < ps.length
        · have i2 : (k : Int) < (ps.length : Int) := by omega
          have HPW := Lib.hid (HP.out.below KW.out.bel)
          obtain ⟨b, off, rfl, hb, c0, c1, c2⟩ := HPW.out.cells hlt
          have hk40 : k < 40 := by have := HB.out.1; omega
          have hpk : ps[k] ∈ ps := List.getElem_mem hlt
          have HX := Lib.hid (HB.out.2 _ hpk)
          have HNK := Lib.hid (HP.out.2 _ hpk).2
          have HL := Lib.hid (show (outs (ps.take k)).length ≤ 700000 from by
            have h1 := outs_len (ps.take k) fun p hp => ⟨(HP.out.2 p (List.mem_of_mem_take hp)).2, HB.out.2 p (List.mem_of_mem_take hp)⟩
            have h2 := HB.out.1
            rw [List.length_take] at h1
            omega)
          have hal : Below wr.heap.size wr (wr.alloc (.cells #[.int .i64 (ps[k]).what, .int .u64 ((ps[k]).n : Int), .slice (ps[k]).A (ps[k]).xs.length (ps[k]).c] 30)) := (Below.refl _ _).alloc (Nat.le_refl _) _
          have KA := Lib.hid (KW.out.below hal)
          have HVK := Lib.hid ((HPW.out.2 _ hpk).1.below hal)
          have hot := outs_take hlt
          have HK := Lib.hid hk
          clear hb hal hpk hk
          by_cases t0 : (ps[k]).what = 0
          · have z0 : ((ps[k]).what == 0) = true := by simp [t0]
            have HO := Lib.hid (show outs (ps.take (k + 1)) = outs (ps.take k) ++ enc (ps[k]).n by rw [hot, PartV.out, if_pos t0])
            clear t0 hot
            go_wp2_with fail
            refine (KA.out.num _ HNK.out HL.out).mono ?_
            rintro e w2 ⟨rfl, hw⟩
            have KN := Lib.hid hw
            clear hw
            go_wp2_with fail
            go_roundw
            case rel => exact ⟨k + 1, by omega, by go_num, by rw [HO.out]; exact KN.out⟩
            case measure => simp [intOf]; omega
          · have z0 : ((ps[k]).what == 0) = false := by simp [t0]
            by_cases t1 : (ps[k]).what = 1
            · have z1 : ((ps[k]).what == 1) = true := by simp [t1]
              have HO := Lib.hid (show outs (ps.take (k + 1)) = outs (ps.take k) ++ (enc (ps[k]).xs.length ++ (ps[k]).xs) by rw [hot, PartV.out, if_neg t0, if_pos t1])
              have hcv := convB _ _ _ _ HVK.out
              clear t0 t1 hot
              go_wp2_with fail
              clear hcv
              refine (KA.out.str _ HX.out HL.out).mono ?_
              rintro e w2 ⟨rfl, hw⟩
              have KN := Lib.hid hw
              clear hw
              go_wp2_with fail
              go_roundw
              case rel => exact ⟨k + 1, by omega, by go_num, by rw [HO.out]; exact KN.out⟩
              case measure => simp [intOf]; omega
            · have z1 : ((ps[k]).what == 1) = false := by simp [t1]
              have HO := Lib.hid (show outs (ps.take (k + 1)) = outs (ps.take k) ++ (ps[k]).xs by rw [hot, PartV.out, if_neg t0, if_neg t1])
              clear t0 t1 hot
              go_wp2_with fail
              refine (KA.out.put _ _ _ HX.out HL.out HVK.out).mono ?_
              rintro e w2 ⟨rfl, hw⟩
              have KN := Lib.hid hw
              clear hw
              go_wp2_with fail
              go_roundw
              case rel => exact ⟨k + 1, by omega, by go_num, by rw [HO.out]; exact KN.out⟩
              case measure => simp [intOf]; omega
        · obtain rfl : k = ps.length := by omega
          rw [List.take_length] at KW
          have hol : (outs ps).length ≤ 12400 := by
            have h1 := outs_len ps fun p hp => ⟨(HP.out.2 p hp).2, HB.out.2 p hp⟩
            have h2 := HB.out.1
            omega
          have HOL := Lib.hid hol
          have i2 : ¬ ((ps.length : Int) < (ps.length : Int)) := by omega
          clear hlt hk hol K0
          go_wp2_with fail
          refine (KW.out.bytes (by have := HOL.out; omega)).mono ?_
          rintro e w2 ⟨⟨A1, c1, rfl, hv1⟩, hw⟩
          have KW2 := Lib.hid hw
          have HV1 := Lib.hid hv1
          clear hw hv1 KW
          go_wp2_with fail
          refine (newAt _ (outs ps) _ HV1.out (by have := HOL.out; omega)).mono ?_
          rintro e w3 ⟨⟨g2, A2, c2, rfl, hR, hg, hA2⟩, hb⟩
          have KR := Lib.hid (RwI.mk2 KW2.out hR hg hA2 hb)
          clear hA2
          clear hR hg hb KW2 HV1
          go_wp2_with fail
          refine (KR.out.left (outs ps).length (by omega)).mono ?_
          rintro e w4 ⟨rfl, hr⟩
          have KR4 := Lib.hid hr
          clear hr KR
          obtain ⟨v4, hv4⟩ := KR4.out.wr
          have HW4 := Lib.hid (lenAt w.heap.size v4 (outs ps) w4 hv4)
          clear hv4
          go_wp2_with fail
          refine HW4.out.mono ?_
          rintro e w5 ⟨rfl, rfl⟩
          go_wp2_with fail
          go_loopw [62] (fun a wr => ∃ k : Nat, k ≤ ps.length ∧ a = .int .i64 k ∧ Hid (RwI w w.heap.size (outs ps) g2 A2 c2 (outs ps) (outs (ps.take k)).length wr)) (fun a _ => ps.length - (intOf a).toNat)
          case atStart => exact ⟨0, by omega, rfl, KR4⟩
          case round =>
            obtain ⟨k, hk, rfl, KW⟩ := hrel
            clear KR4 HW4
            by_cases hlt : k < ps.length
            · have i3 : (k : Int) < (ps.length : Int) := by omega
              have HPW := Lib.hid (HP.out.below KW.out.bel)
              obtain ⟨b, off, rfl, hb, c0, c1, c2'⟩ := HPW.out.cells hlt
              have hk40 : k < 40 := by have := HB.out.1; omega
              have hpk : ps[k] ∈ ps := List.getElem_mem hlt
              have HX := Lib.hid (HB.out.2 _ hpk)
              have HNK := Lib.hid (HP.out.2 _ hpk).2
              have hal : Below wr.heap.size wr (wr.alloc (.cells #[.int .i64 (ps[k]).what, .int .u64 ((ps[k]).n : Int), .slice (ps[k]).A (ps[k]).xs.length (ps[k]).c] 30)) := (Below.refl _ _).alloc (Nat.le_refl _) _
              have KA := Lib.hid (KW.out.below hal)
              have HVK := Lib.hid ((HPW.out.2 _ hpk).1.below hal)
              have hot := outs_take hlt
              have hod := outs_drop hlt
              have HK := Lib.hid hk
              clear hb hal hpk hk
              by_cases t0 : (ps[k]).what = 0
              · have z0 : ((ps[k]).what == 0) = true := by simp [t0]
                have hpo : (ps[k]).out = enc (ps[k]).n := by rw [PartV.out, if_pos t0]
                have HO := Lib.hid (show outs (ps.take (k + 1)) = outs (ps.take k) ++ enc (ps[k]).n by rw [hot, hpo])
                have HD := Lib.hid (show (outs ps).drop (outs (ps.take k)).length = enc (ps[k]).n ++ outs (ps.drop (k + 1)) by rw [hod, hpo])
                clear t0 hot hod hpo
                go_wp2_with fail
                refine (KA.out.reads _ HNK.out _ HD.out).mono ?_
                rintro e w6 ⟨rfl, hr⟩
                obtain ⟨i2, hi2⟩ : ∃ i2, (outs (ps.take (k + 1))).length = i2 := ⟨_, rfl⟩
                have HI := Lib.hid hi2
                have KN := Lib.hid (show RwI w w.heap.size (outs ps) g2 A2 c2 (outs ps) i2 w6 from by rw [← hi2, HO.out, List.length_append]; exact hr)
                obtain ⟨q, hq⟩ : ∃ q, i2 + q = (outs ps).length := ⟨(outs ps).length - i2, by have := KN.out.rdr.2.2.2.1; omega⟩
                have e1 : IntKind.i64.wrap ((i2 : Int) + (q : Int)) = ((outs ps).length : Int) := by have := HOL.out; simp [IntKind.wrap, IntKind.bits, IntKind.signed]; omega
                have HQ := Lib.hid hq
                clear hr hi2 hq
                go_wp2_with fail
                refine (atAt g2 A2 c2 _ i2 _ KN.out.rdr).mono ?_
                rintro e w7 ⟨rfl, rfl⟩
                go_wp2_with fail
                refine (KN.out.left q HQ.out).mono ?_
                rintro e w8 ⟨rfl, hr⟩
                have KN8 := Lib.hid hr
                obtain ⟨v8, hv8⟩ := KN8.out.wr
                have HW8 := Lib.hid (lenAt w.heap.size v8 (outs ps) w8 hv8)
                clear hr hv8 KN
                go_wp2_with fail
                refine HW8.out.mono ?_
                rintro e w9 ⟨rfl, rfl⟩
                go_wp2_with fail
                go_roundw
                case rel => exact ⟨k + 1, by omega, by go_num, by rw [HI.out]; exact KN8.out⟩
                case measure => simp [intOf]; omega
              · have z0 : ((ps[k]).what == 0) = false := by simp [t0]
                by_cases t1 : (ps[k]).what = 1
                · have z1 : ((ps[k]).what == 1) = true := by simp [t1]
                  have hpo : (ps[k]).out = enc (ps[k]).xs.length ++ (ps[k]).xs := by rw [PartV.out, if_neg t0, if_pos t1]
                  have HO := Lib.hid (show outs (ps.take (k + 1)) = outs (ps.take k) ++ (enc (ps[k]).xs.length ++ (ps[k]).xs) by rw [hot, hpo])
                  have HD := Lib.hid (show (outs ps).drop (outs (ps.take k)).length = enc (ps[k]).xs.length ++ ((ps[k]).xs ++ outs (ps.drop (k + 1))) by rw [hod, hpo, List.append_assoc])
                  have hcv := convB _ _ _ _ HVK.out
                  clear t0 t1 hot hod hpo
                  go_wp2_with fail
                  clear hcv
                  refine (KA.out.hears _ HX.out _ HD.out).mono ?_
                  rintro e w6 ⟨rfl, hr⟩
                  rw [← List.length_append] at hr
                  obtain ⟨i2, hi2⟩ : ∃ i2, (outs (ps.take (k + 1))).length = i2 := ⟨_, rfl⟩
                  have HI := Lib.hid hi2
                  have KN := Lib.hid (show RwI w w.heap.size (outs ps) g2 A2 c2 (outs ps) i2 w6 from by rw [← hi2, HO.out, List.length_append]; exact hr)
                  obtain ⟨q, hq⟩ : ∃ q, i2 + q = (outs ps).length := ⟨(outs ps).length - i2, by have := KN.out.rdr.2.2.2.1; omega⟩
                  have e1 : IntKind.i64.wrap ((i2 : Int) + (q : Int)) = ((outs ps).length : Int) := by have := HOL.out; simp [IntKind.wrap, IntKind.bits, IntKind.signed]; omega
                  have HQ := Lib.hid hq
                  clear hr hi2 hq
                  go_wp2_with fail
                  refine (atAt g2 A2 c2 _ i2 _ KN.out.rdr).mono ?_
                  rintro e w7 ⟨rfl, rfl⟩
                  go_wp2_with fail
                  refine (KN.out.left q HQ.out).mono ?_
                  rintro e w8 ⟨rfl, hr⟩
                  have KN8 := Lib.hid hr
                  obtain ⟨v8, hv8⟩ := KN8.out.wr
                  have HW8 := Lib.hid (lenAt w.heap.size v8 (outs ps) w8 hv8)
                  clear hr hv8 KN
                  go_wp2_with fail
                  refine HW8.out.mono ?_
                  rintro e w9 ⟨rfl, rfl⟩
                  go_wp2_with fail
                  go_roundw
                  case rel => exact ⟨k + 1, by omega, by go_num, by rw [HI.out]; exact KN8.out⟩
                  case measure => simp [intOf]; omega
                · have z1 : ((ps[k]).what == 1) = false := by simp [t1]
                  have hpo : (ps[k]).out = (ps[k]).xs := by rw [PartV.out, if_neg t0, if_neg t1]
                  have HO := Lib.hid (show outs (ps.take (k + 1)) = outs (ps.take k) ++ (ps[k]).xs by rw [hot, hpo])
                  have HD := Lib.hid (show (outs ps).drop (outs (ps.take k)).length = (ps[k]).xs ++ outs (ps.drop (k + 1)) by rw [hod, hpo])
                  have hcv := convB _ _ _ _ HVK.out
                  clear t0 t1 hot hod hpo
                  go_wp2_with fail
                  clear hcv
                  refine (KA.out.takes _ HX.out _ HD.out).mono ?_
                  rintro e w6 ⟨rfl, hr⟩
                  obtain ⟨i2, hi2⟩ : ∃ i2, (outs (ps.take (k + 1))).length = i2 := ⟨_, rfl⟩
                  have HI := Lib.hid hi2
                  have KN := Lib.hid (show RwI w w.heap.size (outs ps) g2 A2 c2 (outs ps) i2 w6 from by rw [← hi2, HO.out, List.length_append]; exact hr)
                  obtain ⟨q, hq⟩ : ∃ q, i2 + q = (outs ps).length := ⟨(outs ps).length - i2, by have := KN.out.rdr.2.2.2.1; omega⟩
                  have e1 : IntKind.i64.wrap ((i2 : Int) + (q : Int)) = ((outs ps).length : Int) := by have := HOL.out; simp [IntKind.wrap, IntKind.bits, IntKind.signed]; omega
                  have HQ := Lib.hid hq
                  clear hr hi2 hq
                  go_wp2_with fail
                  refine (atAt g2 A2 c2 _ i2 _ KN.out.rdr).mono ?_
                  rintro e w7 ⟨rfl, rfl⟩
                  go_wp2_with fail
                  refine (KN.out.left q HQ.out).mono ?_
                  rintro e w8 ⟨rfl, hr⟩
                  have KN8 := Lib.hid hr
                  obtain ⟨v8, hv8⟩ := KN8.out.wr
                  have HW8 := Lib.hid (lenAt w.heap.size v8 (outs ps) w8 hv8)
                  clear hr hv8 KN
                  go_wp2_with fail
                  refine HW8.out.mono ?_
                  rintro e w9 ⟨rfl, rfl⟩
                  go_wp2_with fail
                  go_roundw
                  case rel => exact ⟨k + 1, by omega, by go_num, by rw [HI.out]; exact KN8.out⟩
                  case measure => simp [intOf]; omega
            · obtain rfl : k = ps.length := by omega
              rw [List.take_length] at KW
              have i3 : ¬ ((ps.length : Int) < (ps.length : Int)) := by omega
              clear hlt hk
              go_wp2_with fail
              refine (endAt g2 A2 c2 (outs ps) (outs ps).length 0 _ KW.out.rdr (by simp)).mono ?_
              rintro e w6 ⟨rfl, hb⟩
              have K6 := Lib.hid (below_trans KW.out.bel hb)
              have HV6 := Lib.hid (HV.out.below K6.out)
              clear hb KW
              go_wp2_with fail
              refine (newAt _ xs _ HV6.out (by have := HLX.out; omega)).mono ?_
              rintro e w7 ⟨⟨g3, A3, c3, rfl, hR, hg, _⟩, hb⟩
              have K7 := Lib.hid (below_trans K6.out hb)
              have G3 := Lib.hid (show w.heap.size ≤ g3 from Nat.le_trans K6.out.size hg)
              have KR7 := Lib.hid (RwI.new K7.out hR G3.out)
              clear hR hg hb K6 HV6
              go_upto_block 6 with fail
              go_cut [14] (fun t wx => ∃ j : Nat, j ≤ xs.length ∧ Hid (RwI w w7.heap.size (xs.take j) g3 A3 c3 xs j wx))
              case first =>
                go_wp2_with fail
                go_loopw [14] (fun a wr => ∃ k j : Nat, k ≤ xs.length ∧ j ≤ xs.length ∧ a = .int .i64 k ∧ Hid (RwI w w7.heap.size (xs.take j) g3 A3 c3 xs j wr)) (fun a _ => xs.length - (intOf a).toNat)
                case atStart => exact ⟨0, 0, by omega, by omega, rfl, KR7⟩
                case round =>
                  obtain ⟨k, j, hk, hj, rfl, KJ⟩ := hrel
                  clear KR7
                  by_cases hlt : k < xs.length
                  · have i4 : (k : Int) < (xs.length : Int) := by omega
                    have hk300 : k < 300 := by have := HLX.out; omega
                    obtain ⟨n, z, er, hrd⟩ : ∃ n z er, rd (xs.drop j) = (n, z, er) := ⟨_, _, _, rfl⟩
                    by_cases her : er = 0
                    · subst her
                      have HRD := Lib.hid hrd
                      have hbk := rd_back hrd
                      have HN := Lib.hid hbk.1
                      have hjz : j + z ≤ xs.length := by have := hbk.2.2.1; rw [List.length_drop] at this; omega
                      have HT := Lib.hid (show xs.take (j + z) = xs.take j ++ enc n from by rw [List.take_add, hbk.2.2.2])
                      have HP0 := Lib.hid (show 0 < xs.length from by omega)
                      have HLT := Lib.hid (show (xs.take j).length ≤ 700000 from by have := HLX.out; rw [List.length_take]; omega)
                      clear hrd hbk
                      go_wp2_with fail
                      refine (KJ.out.get0 HRD.out).mono ?_
                      rintro e w8 ⟨rfl, hr⟩
                      have KJ8 := Lib.hid hr
                      clear hr KJ
                      go_wp2_with fail
                      refine (KJ8.out.add n HN.out HLT.out HP0.out).mono ?_
                      rintro e w9 ⟨rfl, hr⟩
                      have KJ9 := Lib.hid (show RwI w w7.heap.size (xs.take (j + z)) g3 A3 c3 xs (j + z) w9 from by rw [HT.out]; exact hr)
                      clear hr KJ8
                      go_wp2_with fail
                      go_roundw
                      case rel => exact ⟨k + 1, j + z, by omega, hjz, by go_num, KJ9⟩
                      case measure => simp [intOf]; omega
                    · have z1 : (er != 0) = true := by simp [her]
                      have z0 : (er == 0) = false := by simp [her]
                      have HRD := Lib.hid hrd
                      have HER := Lib.hid her
                      clear hrd her
                      go_wp2_with fail
                      refine (KJ.out.get1 HRD.out HER.out).mono ?_
                      rintro e w8 ⟨rfl, hr⟩
                      have KJ8 := Lib.hid hr
                      clear hr KJ
                      go_wp2_with fail
                      go_meet
                      exact ⟨j, hj, KJ8⟩
                  · have i4 : ¬ (k : Int) < (xs.length : Int) := by omega
                    go_wp2_with fail
                    go_meet
                    exact ⟨j, hj, KJ⟩
              case rest =>
                obtain ⟨j, hj, KJ⟩ := hcut
                obtain ⟨v7, hv7⟩ := KJ.out.wr
                have HWL := Lib.hid (lenAt w7.heap.size v7 (xs.take j) _ hv7)
                rw [List.length_take, Nat.min_eq_left hj] at HWL
                clear hv7
                go_wp2_with fail
                refine HWL.out.mono ?_
                rintro e w8 ⟨rfl, rfl⟩
                go_wp2_with fail
                have KS := Lib.hid (show HS w w7.heap.size g3 A3 c3 xs j A c wc from ⟨KJ.out, HV.out.below KJ.out.bel⟩)
                have hjl : (xs.take j).length = j := by rw [List.length_take]; omega
                have HJL := Lib.hid hjl
                have hct : ∀ W, HS w w7.heap.size g3 A3 c3 xs j A c W → (convert 25 9 (.slice A j c)).run Try.prog W = .ok (.string ⟨(xs.take j).toArray⟩) W := fun W h => by
                  have h1 := convB W A c (xs.take j) (h.2.upto hj)
                  rw [HJL.out] at h1
                  exact h1
                have i5 : (0 : Int) ≤ (j : Int) := by omega
                have i6 : (j : Int) ≤ (c : Int) := by
                  obtain ⟨A', c', e, _, h2, _⟩ := KS.out.2
                  cases e
                  omega
                have i7 : (j : Int) ≤ (xs.length : Int) := by omega
                clear KJ HWL
                refine wp_region_held_drew (S := HS w w7.heap.size g3 A3 c3 xs j A c) (by kernel_rfl) ?_ (fun hHeld => ?_)
                · exact KS.out.below (Below.refl _ _).drew
                clear KS
                refine wpAnyH_take (i := 0) (oi := ⟨some 129, _, _, _, _, _⟩) (v := ?_) rfl (by kernel_rfl) (by kernel_rfl) (by kernel_rfl) (fun _ _ _ h => h) (Or.inl ⟨by rfl, ?_⟩) (by assumption) ?_
                rotate_left 1
                · intro w hSw
                  (try dsimp only at hSw)
                  go_simp
                  try with_reducible rfl
                try simp only [Act.put, List.setIfInBounds_toArray, List.set_cons_zero, List.set_cons_succ]
                refine wpAnyH_take (i := 2) (oi := ⟨some 131, _, _, _, _, _⟩) (v := ?_) rfl (by kernel_rfl) (by kernel_rfl) (by kernel_rfl) (fun _ _ _ h => h) (Or.inl ⟨by rfl, ?_⟩) (by assumption) ?_
                rotate_left 1
                · intro w hSw
                  (try dsimp only at hSw)
                  go_simp
                  try with_reducible rfl
                try simp only [Act.put, List.setIfInBounds_toArray, List.set_cons_zero, List.set_cons_succ]
                refine wpAnyH_ready (rs := [1]) (by kernel_rfl) (by simp) ?_
                refine AllReadyH.cons (o := ⟨some 130, _, _, _, _, _⟩) rfl (fun K hK => ?_) AllReadyH.nil
                go_simp
                refine (atAt g3 A3 c3 xs j _ hHeld.1.rdr).mono ?_
                rintro e wa ⟨rfl, rfl⟩
                first
                  | refine hK.out _ _ ?_ (fun hHeld => ?_)
                  | (go_wp2_with fail
                     refine hK.out _ _ ?_ (fun hHeld => ?_))
                · show HS w w7.heap.size g3 A3 c3 xs j A c _
                  exact hHeld
                clear hK
                try simp only [Act.put, List.setIfInBounds_toArray, List.set_cons_zero, List.set_cons_succ]
                refine wpAnyH_take (i := 3) (oi := ⟨some 132, _, _, _, _, _⟩) (v := ?_) rfl (by kernel_rfl) (by kernel_rfl) (by kernel_rfl) (fun _ _ _ h => h) (Or.inl ⟨by rfl, ?_⟩) (by assumption) ?_
                rotate_left 1
                · intro w hSw
                  (try dsimp only at hSw)
                  go_simp
                  try with_reducible rfl
                try simp only [Act.put, List.setIfInBounds_toArray, List.set_cons_zero, List.set_cons_succ]
                refine wpAnyH_take (i := 4) (oi := ⟨some 133, _, _, _, _, _⟩) (v := ?_) rfl (by kernel_rfl) (by kernel_rfl) (by kernel_rfl) (fun _ _ _ h => h) (Or.inl ⟨by rfl, ?_⟩) (by assumption) ?_
                rotate_left 1
                · intro w hSw
                  (try dsimp only at hSw)
                  go_simp
                  try with_reducible rfl
                try simp only [Act.put, List.setIfInBounds_toArray, List.set_cons_zero, List.set_cons_succ]
                refine wpAnyH_take (i := 5) (oi := ⟨some 134, _, _, _, _, _⟩) (v := ?_) rfl (by kernel_rfl) (by kernel_rfl) (by kernel_rfl) (fun _ _ _ h => h) (Or.inl ⟨by rfl, ?_⟩) (by assumption) ?_
                rotate_left 1
                · intro w hSw
                  (try dsimp only at hSw)
                  go_simp
                  try with_reducible rfl
                try simp only [Act.put, List.setIfInBounds_toArray, List.set_cons_zero, List.set_cons_succ]
                refine wpAnyH_take (i := 6) (oi := ⟨some 135, _, _, _, _, _⟩) (v := ?_) rfl (by kernel_rfl) (by kernel_rfl) (by kernel_rfl) (fun _ _ _ h => h) (Or.inl ⟨by rfl, ?_⟩) (by assumption) ?_
                rotate_left 1
                · intro w hSw
                  (try dsimp only at hSw)
                  go_simp
                  try with_reducible rfl
                try simp only [Act.put, List.setIfInBounds_toArray, List.set_cons_zero, List.set_cons_succ]
                refine wpAnyH_take (i := 7) (oi := ⟨some 136, _, _, _, _, _⟩) (v := ?_) rfl (by kernel_rfl) (by kernel_rfl) (by kernel_rfl) (fun _ _ _ h => h) (Or.inl ⟨by rfl, ?_⟩) (by assumption) ?_
                rotate_left 1
                · intro w hSw
                  (try dsimp only at hSw)
                  go_simp
                  try with_reducible rfl
                try simp only [Act.put, List.setIfInBounds_toArray, List.set_cons_zero, List.set_cons_succ]
                refine wpAnyH_take (i := 8) (oi := ⟨some 137, _, _, _, _, _⟩) (v := ?_) rfl (by kernel_rfl) (by kernel_rfl) (by kernel_rfl) (fun _ _ _ h => h) (Or.inl ⟨by rfl, ?_⟩) (by assumption) ?_
                rotate_left 1
                · intro w hSw
                  (try dsimp only at hSw)
                  go_simp
                  try with_reducible rfl
                try simp only [Act.put, List.setIfInBounds_toArray, List.set_cons_zero, List.set_cons_succ]
                refine wpAnyH_take (i := 9) (oi := ⟨some 138, _, _, _, _, _⟩) (v := ?_) rfl (by kernel_rfl) (by kernel_rfl) (by kernel_rfl) (fun _ _ _ h => h) (Or.inl ⟨by rfl, ?_⟩) (by assumption) ?_
                rotate_left 1
                · intro w hSw
                  (try dsimp only at hSw)
                  go_simp
                  try with_reducible rfl
                try simp only [Act.put, List.setIfInBounds_toArray, List.set_cons_zero, List.set_cons_succ]
                refine wpAnyH_take (i := 10) (oi := ⟨some 139, _, _, _, _, _⟩) (v := ?_) rfl (by kernel_rfl) (by kernel_rfl) (by kernel_rfl) (fun _ _ _ h => h) (Or.inl ⟨by rfl, ?_⟩) (by assumption) ?_
                rotate_left 1
                · intro w hSw
                  (try dsimp only at hSw)
                  go_simp
                  try with_reducible rfl
                try simp only [Act.put, List.setIfInBounds_toArray, List.set_cons_zero, List.set_cons_succ]
                refine wpAnyH_take (i := 13) (oi := ⟨some 142, _, _, _, _, _⟩) (v := ?_) rfl (by kernel_rfl) (by kernel_rfl) (by kernel_rfl) (fun _ _ _ h => h) (Or.inl ⟨by rfl, ?_⟩) (by assumption) ?_
                rotate_left 1
                · intro w hSw
                  (try dsimp only at hSw)
                  go_simp
                  try with_reducible rfl
                try simp only [Act.put, List.setIfInBounds_toArray, List.set_cons_zero, List.set_cons_succ]
                refine wpAnyH_take (i := 14) (oi := ⟨some 143, _, _, _, _, _⟩) (v := ?_) rfl (by kernel_rfl) (by kernel_rfl) (by kernel_rfl) (fun _ _ _ h => h) (Or.inl ⟨by rfl, ?_⟩) (by assumption) ?_
                rotate_left 1
                · intro w hSw
                  (try dsimp only at hSw)
                  go_simp
                  try with_reducible rfl
                try simp only [Act.put, List.setIfInBounds_toArray, List.set_cons_zero, List.set_cons_succ]
                refine wpAnyH_take (i := 15) (oi := ⟨some 144, _, _, _, _, _⟩) (v := ?_) rfl (by kernel_rfl) (by kernel_rfl) (by kernel_rfl) (fun _ _ _ h => h) (Or.inl ⟨by rfl, ?_⟩) (by assumption) ?_
                rotate_left 1
                · intro w hSw
                  (try dsimp only at hSw)
                  go_simp
                  try with_reducible rfl
                try simp only [Act.put, List.setIfInBounds_toArray, List.set_cons_zero, List.set_cons_succ]
                refine wpAnyH_take (i := 16) (oi := ⟨some 145, _, _, _, _, _⟩) (v := ?_) rfl (by kernel_rfl) (by kernel_rfl) (by kernel_rfl) (fun _ _ _ h => h) (Or.inl ⟨by rfl, ?_⟩) (by assumption) ?_
                rotate_left 1
                · intro w hSw
                  (try dsimp only at hSw)
                  go_simp
                  try with_reducible rfl
                try simp only [Act.put, List.setIfInBounds_toArray, List.set_cons_zero, List.set_cons_succ]
                refine wpAnyH_ready (rs := [11]) (by kernel_rfl) (by simp) ?_
                refine AllReadyH.cons (o := ⟨some 140, _, _, _, _, _⟩) rfl (fun K hK => ?_) AllReadyH.nil
                go_simp
                refine (RwI.bytes hHeld.1 (by have := HLX.out; rw [List.length_take]; omega)).mono ?_
                rintro e wb ⟨⟨A5, c5, rfl, hv5⟩, hb5⟩
                have hcv5 := convB wb A5 c5 _ hv5
                rw [HJL.out] at hcv5
                clear hv5
                first
                  | refine hK.out _ _ ?_ (fun hHeld => ?_)
                  | (go_wp2_with fail
                     refine hK.out _ _ ?_ (fun hHeld => ?_))
                · show HS w w7.heap.size g3 A3 c3 xs j A c _
                  exact hHeld.below hb5
                clear hK
                try simp only [Act.put, List.setIfInBounds_toArray, List.set_cons_zero, List.set_cons_succ]
                refine wpAnyH_ready (rs := [12]) (by kernel_rfl) (by simp) ?_
                refine AllReadyH.cons (o := ⟨some 141, _, _, _, _, _⟩) rfl (fun K hK => ?_) AllReadyH.nil
                go_simp
                first
                  | refine hK.out _ _ ?_ (fun hHeld => ?_)
                  | (go_wp2_with fail
                     refine hK.out _ _ ?_ (fun hHeld => ?_))
                · show HS w w7.heap.size g3 A3 c3 xs j A c _
                  assumption
                clear hK
                try simp only [Act.put, List.setIfInBounds_toArray, List.set_cons_zero, List.set_cons_succ]
                refine wpAnyH_take (i := 17) (oi := ⟨some 146, _, _, _, _, _⟩) (v := ?_) rfl (by kernel_rfl) (by kernel_rfl) (by kernel_rfl) (fun _ _ _ h => h) (Or.inl ⟨by rfl, ?_⟩) (by assumption) ?_
                rotate_left 1
                · intro w hSw
                  (try dsimp only at hSw)
                  go_simp
                  try with_reducible rfl
                try simp only [Act.put, List.setIfInBounds_toArray, List.set_cons_zero, List.set_cons_succ]
                refine wpAnyH_take (i := 18) (oi := ⟨some 147, _, _, _, _, _⟩) (v := ?_) rfl (by kernel_rfl) (by kernel_rfl) (by kernel_rfl) (fun _ _ _ h => h) (Or.inl ⟨by rfl, ?_⟩) (by assumption) ?_
                rotate_left 1
                · intro w hSw
                  (try dsimp only at hSw)
                  go_simp
                  try with_reducible rfl
                try simp only [Act.put, List.setIfInBounds_toArray, List.set_cons_zero, List.set_cons_succ]
                refine wpAnyH_take (i := 19) (oi := ⟨some 148, _, _, _, _, _⟩) (v := ?_) rfl (by kernel_rfl) (by kernel_rfl) (by kernel_rfl) (fun _ _ _ h => h) (Or.inl ⟨by rfl, ?_⟩) (by assumption) ?_
                rotate_left 1
                · intro w hSw
                  (try dsimp only at hSw)
                  go_simp
                  try with_reducible rfl
                try simp only [Act.put, List.setIfInBounds_toArray, List.set_cons_zero, List.set_cons_succ]
                refine wpAnyH_ready (rs := [20]) (by kernel_rfl) (by simp) ?_
                refine AllReadyH.cons (o := ⟨some 149, _, _, _, _, _⟩) rfl (fun K hK => ?_) AllReadyH.nil
                go_simp
                refine (knownB _).mono ?_
                rintro e wk ⟨rfl, hb6⟩
                first
                  | refine hK.out _ _ ?_ (fun hHeld => ?_)
                  | (go_wp2_with fail
                     refine hK.out _ _ ?_ (fun hHeld => ?_))
                · show HS w w7.heap.size g3 A3 c3 xs j A c _
                  exact hHeld.below hb6
                clear hK
                try simp only [Act.put, List.setIfInBounds_toArray, List.set_cons_zero, List.set_cons_succ]
                refine wpAnyH_take (i := 21) (oi := ⟨some 150, _, _, _, _, _⟩) (v := ?_) rfl (by kernel_rfl) (by kernel_rfl) (by kernel_rfl) (fun _ _ _ h => h) (Or.inl ⟨by rfl, ?_⟩) (by assumption) ?_
                rotate_left 1
                · intro w hSw
                  (try dsimp only at hSw)
                  go_simp
                  try with_reducible rfl
                try simp only [Act.put, List.setIfInBounds_toArray, List.set_cons_zero, List.set_cons_succ]
                refine wpAnyH_ready (rs := [22]) (by kernel_rfl) (by simp) ?_
                refine AllReadyH.cons (o := ⟨some 4, _, _, _, _, _⟩) rfl (fun K hK => ?_) AllReadyH.nil
                go_simp
                first
                  | refine hK.out _ _ ?_ (fun hHeld => ?_)
                  | (go_wp2_with fail
                     refine hK.out _ _ ?_ (fun hHeld => ?_))
                · show HS w w7.heap.size g3 A3 c3 xs j A c _
                  assumption
                clear hK
                try simp only [Act.put, List.setIfInBounds_toArray, List.set_cons_zero, List.set_cons_succ]
                refine wpAnyH_done (by kernel_rfl) ?_ _
                go_wp2_with fail
                go_ret
                exact ⟨rfl, hHeld.1.bel⟩
    · have i1 : (300 : Int) < (xs.length : Int) := by omega
      clear hlx
      go_wp2_with fail
      refine (knownB _).mono ?_
      rintro e w2 ⟨rfl, hb2⟩
      have K := Lib.hid hb2
      clear hb2
      go_wp2_with fail
      go_ret
      exact ⟨rfl, K.out⟩

end Go.Proofs.Ytkloheabbbpboaa
