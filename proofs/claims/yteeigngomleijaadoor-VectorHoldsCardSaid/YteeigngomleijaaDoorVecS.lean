/- strings.SplitSeq at a space: what it hands out. -/
import Derived.Test.YteeigngomleijaaDoorRng
import Derived.Test.YteeigngomleijaaDoorVecL
import Derived.Test.YteeigngomleijaaDoorShelf
import Derived.RangeFuncNested
import Derived.Shelf.Abstract
import Derived.Shelf.RegionOpen
import Derived.WalkKit
import Derived.OwnWalkIn
import Derived.TacticsInMore
import Derived.LoopNIn
import Derived.LoopIn
namespace Go.Proofs.YteeigngomleijaaDoor
open Go.RowKit Go.Shelf

attribute [local go_sem] Oper.semAt_some

/-- The fields of a text, between spaces. -/
def splitL : List UInt8 → List (List UInt8)
  | [] => [[]]
  | c :: r => if c.toNat = 32 then [] :: splitL r else match splitL r with
    | h :: t => (c :: h) :: t
    | [] => [[c]]
theorem splitL_no : ∀ {l : List UInt8}, noSp l → splitL l = [l]
  | [], _ => rfl
  | c :: r, h => by rw [splitL, if_neg (h c (by simp)), splitL_no fun x hx => h x (by simp [hx])]
theorem splitL_at : ∀ {g r : List UInt8} {c : UInt8}, noSp g → c.toNat = 32 → splitL (g ++ c :: r) = g :: splitL r
  | [], _, _, _, hc => by rw [List.nil_append, splitL, if_pos hc]
  | x :: g, r, c, h, hc => by rw [List.cons_append, splitL, if_neg (h x (by simp)), splitL_at (fun y hy => h y (by simp [hy])) hc]
abbrev toB (l : List UInt8) : ByteArray := ⟨l.toArray⟩
/-- The fields as strings. -/
def splitB (s : ByteArray) : List ByteArray := (splitL s.data.toList).map toB
theorem toB_data (s : ByteArray) : toB s.data.toList = s := by apply ByteArray.ext; simp

/-- Where the first space is. -/
theorem split_none {s : ByteArray} (h : Lib.indexByte s.data.toList 32 = -1) : splitB s = [s] := by
  have hn : noSp s.data.toList := fun c hc e => by
    obtain ⟨k, hk⟩ := List.mem_iff_getElem?.1 hc
    refine Lib.indexByte_none h k ?_
    rw [hk]; congr 1
    exact UInt8.toNat_inj.1 (by simpa using e)
  rw [splitB, splitL_no hn, List.map_cons, List.map_nil, toB_data]
theorem split_some {s : ByteArray} {i : Nat} (h : Lib.indexByte s.data.toList 32 = i) : i < s.size ∧ splitB s = s.extract 0 i :: splitB (s.extract (i + 1) s.size) := by
  obtain ⟨h1, h2⟩ := Lib.indexByte_some h
  have hl := (List.getElem?_eq_some_iff.1 h1).1
  have hsz : s.data.toList.length = s.size := by rw [Array.length_toList]; rfl
  refine ⟨by omega, ?_⟩
  have hd : s.data.toList = s.data.toList.take i ++ 32 :: s.data.toList.drop (i + 1) := by
    have h3 : s.data.toList.drop i = 32 :: s.data.toList.drop (i + 1) := by
      obtain ⟨hl, hx2⟩ := List.getElem?_eq_some_iff.1 h1
      rw [← hx2]; exact List.drop_eq_getElem_cons hl
    rw [← h3, List.take_append_drop]
  have hn : noSp (s.data.toList.take i) := fun c hc e => by
    obtain ⟨k, hk⟩ := List.mem_iff_getElem?.1 hc
    rw [List.getElem?_take] at hk
    split at hk
    · rename_i hki
      refine h2 k hki ?_
      rw [hk]; congr 1
      exact UInt8.toNat_inj.1 (by simpa using e)
    · cases hk
  have e1 : toB (s.data.toList.take i) = s.extract 0 i := by
    apply ByteArray.ext; apply Array.toList_inj.1
    rw [ByteArray.data_extract, Array.toList_extract]; simp
  have e2 : (s.extract (i + 1) s.size).data.toList = s.data.toList.drop (i + 1) := by
    rw [ByteArray.data_extract, Array.toList_extract, ← hsz]
    exact List.take_of_length_le (by simp)
  rw [splitB, splitB, e2, hd, splitL_at hn (by decide), List.map_cons, e1]
  congr 3
  rw [← hd]

theorem wrap64_of_range {x : Int} (h1 : -9223372036854775808 ≤ x) (h2 : x ≤ 9223372036854775807) : wrap64 x = x := by
  unfold wrap64; omega

set_option maxHeartbeats 400000 in
theorem strIndex (s : ByteArray) (w : World) :
    Calls Tryd.prog 111 #[.string s, .string ⟨#[32]⟩] w fun e w' => e = .returned (.int .i64 (Lib.indexByte s.data.toList 32)) ∧ w = w' := by
  have hi := Tryd.stringslite_Index_one s 32 w
  have HI := Lib.hid hi
  clear hi
  go_enter Tryd.func111, Tryd.ntmps111
  go_wp2_with fail
  refine HI.out.mono ?_
  rintro e w1 ⟨rfl, rfl⟩
  go_wp2
  go_ret
  exact ⟨rfl, rfl⟩

set_option maxHeartbeats 400000 in
theorem splitSeqV (s sep : ByteArray) (k : Int) (w : World) :
    Calls Tryd.prog 90 #[.string s, .string sep, .int .i64 k] w fun e w' => e = .returned (.func (.func 109) #[] #[.pointer (some ⟨w.heap.size + 1, 0, none⟩), .pointer (some ⟨w.heap.size, 0, none⟩), .pointer (some ⟨w.heap.size + 1 + 1, 0, none⟩)]) ∧
      w' = ((w.alloc (.cells #[.string s] 9)).alloc (.cells #[.string sep] 9)).alloc (.cells #[.int .i64 k] 3) := by
  go_enter Tryd.func90, Tryd.ntmps90
  go_wp2
  go_ret
  exact ⟨rfl, rfl⟩

set_option maxHeartbeats 400000 in
theorem splitSeqW (s : ByteArray) (w : World) :
    Calls Tryd.prog 79 #[.string s, .string ⟨#[32]⟩] w fun e w' => e = .returned (.func (.func 109) #[] #[.pointer (some ⟨w.heap.size + 1, 0, none⟩), .pointer (some ⟨w.heap.size, 0, none⟩), .pointer (some ⟨w.heap.size + 1 + 1, 0, none⟩)]) ∧
      w' = ((w.alloc (.cells #[.string s] 9)).alloc (.cells #[.string ⟨#[32]⟩] 9)).alloc (.cells #[.int .i64 0] 3) := by
  have HS := Lib.hid (splitSeqV s ⟨#[32]⟩ 0 w)
  go_enter Tryd.func79, Tryd.ntmps79
  go_wp2_with fail
  refine HS.out.mono ?_
  rintro e w1 ⟨rfl, rfl⟩
  go_wp2
  go_ret
  exact ⟨rfl, rfl⟩

/-- The three boxes of the iterator. -/
def KpB (B : Nat) (W W' : World) : Prop := W.heap.size ≤ W'.heap.size ∧ ∀ k, B ≤ k → k ≤ B + 2 → W'.heap[k]? = W.heap[k]?
def BoxesAt (B : Nat) (rs : ByteArray) (W : World) : Prop := Boxed W B 9 (.string rs) ∧ Boxed W (B + 1) 9 (.string ⟨#[32]⟩) ∧ Boxed W (B + 2) 3 (.int .i64 0)
theorem BoxesAt.kept {B : Nat} {rs : ByteArray} {W W' : World} (h : BoxesAt B rs W) (hk : KpB B W W') : BoxesAt B rs W' :=
  ⟨(hk.2 B (by omega) (by omega)).trans h.1, (hk.2 (B + 1) (by omega) (by omega)).trans h.2.1, (hk.2 (B + 2) (by omega) (by omega)).trans h.2.2⟩
theorem BoxesAt.set {B : Nat} {rs : ByteArray} {W : World} (h : BoxesAt B rs W) (rs' : ByteArray) : BoxesAt B rs' (W.setCell ⟨B, 0, none⟩ (.string rs')) :=
  ⟨h.1.set _, h.2.1.kept (grownBy_setCell' W B _) (by simp), h.2.2.kept (grownBy_setCell' W B _) (by simp)⟩
/-- How long what is left is. -/
def leftB (B : Nat) (W : World) : Nat := match W.cell? ⟨B, 0, none⟩ with
  | some (.string s) => s.size + 1
  | _ => 0
theorem BoxesAt.left {B : Nat} {rs : ByteArray} {W : World} (h : BoxesAt B rs W) : leftB B W = rs.size + 1 := by unfold leftB; rw [h.1.cell]

set_option maxRecDepth 100000 in
set_option maxHeartbeats 2000000 in
theorem splitGives (n : Nat) (B : Nat) (s : ByteArray) (w : World) (hB : B + 2 < w.heap.size) (hb : BoxesAt B s w) (hn : 1 ≤ n) (hs : s.size ≤ 1000000) :
    SeqCell Fence.wide n Tryd.prog 109 #[.pointer (some ⟨B + 1, 0, none⟩), .pointer (some ⟨B, 0, none⟩), .pointer (some ⟨B + 2, 0, none⟩)] (fun x : ByteArray => #[.string x]) (KpB B) ⟨B, 0, none⟩ (splitB s) w := by
  intro l J Jx W hW hJc hJxc hY h0
  have hb1 : BoxesAt B s W := hb.kept ⟨hW.size, fun k h1 h2 => hW.block k (by omega)⟩
  refine callsIn_of_wp Tryd.func109 rfl trivial ?_ rfl
  simp only [Tryd.ntmps109, List.size_toArray, List.length_cons, List.length_nil, Nat.reduceAdd, Nat.reduceSub, Array.replicate_succ, Array.replicate_zero, List.push_toArray, List.append_toArray, List.nil_append, List.cons_append]
  have c1 := hb1.1.cell
  have c2 := hb1.2.1.cell
  have c3 := hb1.2.2.cell
  gi_wp2
  gi_loopw [7, 8] (fun _ _ wr => ∃ (pre : List ByteArray) (rs : ByteArray), rs.size ≤ s.size ∧ Hid (splitB s = pre ++ splitB rs) ∧ Hid (BoxesAt B rs wr) ∧ Hid (J pre wr)) (fun _ _ wr => leftB B wr)
  case atStart => exact ⟨[], s, Nat.le_refl _, rfl, hb1, h0⟩
  case round =>
    obtain ⟨pre, rs, hrs, hS, hbx, hJ⟩ := hrel
    have c1 := hbx.out.1.cell
    have c2 := hbx.out.2.1.cell
    have c3 := hbx.out.2.2.cell
    have f1 := hbx.out.1.frozen
    have hge := Lib.indexByte_ge rs.data.toList 32
    rcases Int.lt_or_le (Lib.indexByte rs.data.toList 32) 0 with h | h
    · have hix : Lib.indexByte rs.data.toList 32 = -1 := by omega
      have hi := strIndex rs wr
      rw [hix] at hi
      have HI := Lib.hid hi
      have hsp := split_none hix
      have HSP := Lib.hid hsp
      obtain ⟨fn, tmps, assign, body, hy, hR⟩ := hY pre rs wr hJ.out (by rw [hS.out, hsp]; exact List.prefix_refl _)
      clear hi hix hsp hge h
      gi_wp2_with (refine ⟨trivial, ?_⟩; gi_at_call 111; refine (callsIn_wide.2 HI.out).mono ?_; rintro e w1 ⟨rfl, rfl⟩)
      refine hR.mono ?_
      rintro e W3 (⟨rfl, hJ3, hk3⟩ | ⟨rfl, hJx3⟩)
      · have HJ3 := Lib.hid hJ3
        clear hJ3 hk3
        gi_wp2
        go_end0
        exact ⟨⟨_, rfl⟩, .inl (by rw [hS.out, HSP.out]; exact HJ3.out)⟩
      · have HJ3 := Lib.hid hJx3
        clear hJx3
        gi_wp2
        go_end0
        exact ⟨⟨_, rfl⟩, .inr ⟨pre ++ [rs], by rw [hS.out, HSP.out]; exact List.prefix_refl _, HJ3.out⟩⟩
    · obtain ⟨i, hix⟩ := Int.eq_ofNat_of_zero_le h
      obtain ⟨hil, hsp⟩ := split_some hix
      have hi := strIndex rs wr
      rw [hix] at hi
      have HI := Lib.hid hi
      have HSP := Lib.hid hsp
      have hpx : pre ++ [rs.extract 0 i] <+: splitB s := by
        rw [hS.out, hsp]
        exact ⟨splitB (rs.extract (i + 1) rs.size), by simp⟩
      have HPX := Lib.hid hpx
      obtain ⟨fn, tmps, assign, body, hy, hR⟩ := hY pre (rs.extract 0 i) wr hJ.out hpx
      have d1 : (0 : Int) ≤ (i : Int) := by omega
      have d2 : (i : Int) ≤ (rs.size : Int) := by omega
      have d3 : (0 : Int) ≤ (i : Int) + 1 := by omega
      have d4 : (i : Int) + 1 ≤ (rs.size : Int) := by omega
      have d5 : ¬ ((i : Int) < 0) := by omega
      have e1 : wrap64 (i : Int) = (i : Int) := wrap64_of_range (by omega) (by omega)
      have e2 : wrap64 ((i : Int) + 1) = (i : Int) + 1 := wrap64_of_range (by omega) (by omega)
      have e3 : ((i : Int) + 1).toNat = i + 1 := by omega
      clear hi hix hsp hge h hpx
      gi_wp2_with (refine ⟨trivial, ?_⟩; gi_at_call 111; refine (callsIn_wide.2 HI.out).mono ?_; rintro e w1 ⟨rfl, rfl⟩)
      refine hR.mono ?_
      rintro e W3 (⟨rfl, hJ3, hk3⟩ | ⟨rfl, hJx3⟩)
      · have HJ3 := Lib.hid hJ3
        have hbx3 := hbx.out.kept hk3
        have HBX := Lib.hid hbx3
        have c1 := hbx3.1.cell
        have c2 := hbx3.2.1.cell
        have c3 := hbx3.2.2.cell
        have f1 := hbx3.1.frozen
        clear hJ3 hk3 hbx3
        gi_wp2
        have hbs := HBX.out.set (rs.extract (i + 1) rs.size)
        have hsz : (rs.extract (i + 1) rs.size).size = rs.size - (i + 1) := by rw [ByteArray.size_extract]; omega
        exact ⟨⟨pre ++ [rs.extract 0 i], rs.extract (i + 1) rs.size, by omega, (show Hid _ from by rw [hS.out, HSP.out, List.append_assoc]; rfl), hbs, hJc _ _ _ HJ3.out⟩, by rw [hbs.left, hbx.out.left]; omega⟩
      · have HJ3 := Lib.hid hJx3
        clear hJx3
        gi_wp2
        refine bodyPost_ret (results_none rfl _ _ _) rfl ?_
        exact ⟨⟨_, rfl⟩, .inr ⟨_, HPX.out, HJ3.out⟩⟩

end Go.Proofs.YteeigngomleijaaDoor
