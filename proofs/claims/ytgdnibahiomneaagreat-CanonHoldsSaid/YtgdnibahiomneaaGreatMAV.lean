/- Several texts in one: CanO, CanP. -/
import Derived.Test.YtgdnibahiomneaaGreatMAU
namespace Go.Proofs.YtgdnibahiomneaaGreat

section
open Go.RowKit

/-- A block with bytes, and zeros behind them. -/
def OwnZ (W : World) (g : Nat) (xs : List UInt8) (k : Nat) : Prop := W.heap[g]? = some (.cells (cellsOf encB (xs ++ List.replicate k 0)).toArray 5 (0, 0))
section
variable {W W' : World} {g k : Nat} {xs : List UInt8}
theorem OwnZ.below (h : OwnZ W g xs k) (hb : BelW W W') : OwnZ W' g xs k := heapKeep h hb
theorem OwnZ.lt (h : OwnZ W g xs k) : g < W.heap.size := (Array.getElem?_eq_some_iff.1 h).1
theorem OwnZ.cell (h : OwnZ W g xs k) (j : Nat) : W.cell? ⟨g, j, none⟩ = (cellsOf encB (xs ++ List.replicate k 0))[j]? := by
  have h' : W.heap[g]? = _ := h
  simp [World.cell?, h']
theorem OwnZ.holds (h : OwnZ W g xs k) (hm : xs.length + k ≤ maxLen) : HoldsB W (.slice (some ⟨g, 0, none⟩) xs.length (xs.length + k)) xs := by
  refine ⟨some ⟨g, 0, none⟩, _, rfl, fun _ => ⟨g, 0, rfl, h.lt, fun j x hj i u hi => ?_⟩, Nat.le_add_right _ _, hm⟩
  rw [Nat.zero_add, h.cell]
  exact cellsOf_at encB_len _ j x i u (by rw [List.getElem?_append_left (List.getElem?_eq_some_iff.1 hj).1]; exact hj) hi
theorem OwnZ.tail (h : OwnZ W g xs k) (hm : k ≤ maxLen) : HoldsB W (.slice (some (if k = 0 then ⟨g, 0, none⟩ else ⟨g, xs.length, none⟩)) k k) (List.replicate k 0) := by
  refine ⟨some (if k = 0 then ⟨g, 0, none⟩ else ⟨g, xs.length, none⟩), k, by rw [List.length_replicate], fun h0 => ⟨g, xs.length, ?_, h.lt, fun j x hj i u hi => ?_⟩, by rw [List.length_replicate]; exact Nat.le_refl _, hm⟩
  · rw [List.length_replicate] at h0
    rw [if_neg (by omega)]
  · rw [h.cell, show xs.length + j * 1 + i = (xs.length + j) * 1 + i from by omega]
    refine cellsOf_at encB_len _ (xs.length + j) x i u ?_ hi
    rw [List.getElem?_append_right (Nat.le_add_right _ _), Nat.add_sub_cancel_left]
    exact hj
end
theorem made_zero (k : Nat) : madeCells #[.int .u8 0] k = (cellsOf encB (List.replicate k 0)).toArray := by
  have h := toList_madeCells_one (.int .u8 0) k
  rw [← Array.toArray_toList (xs := madeCells #[.int .u8 0] k), h]
  congr 1
  induction k with
  | zero => rfl
  | succ n ih =>
    rw [List.replicate_succ, List.replicate_succ]
    show _ = encB 0 ++ cellsOf encB (List.replicate n 0)
    rw [← ih (toList_madeCells_one _ _)]
    rfl
theorem run_makeZ (W : World) (l : Nat) (c : Nat) (hl : l ≤ c) (hc : c ≤ 1000) : (Instr.makeSlice 32 (.int .i64 (l : Int)) (.int .i64 (c : Int))).run Tryz.prog W = .ok (.slice (some ⟨W.heap.size, 0, none⟩) l c) (W.alloc (.cells (cellsOf encB (List.replicate c 0)).toArray 5)) := by
  obtain ⟨i0, hi0, hz0, hz1, hz2⟩ := info_parts infoB
  have h := run_make (P := Tryz.prog) W 32 5 i0 _ Tryz.underlying32 hi0 hz0 .i64 .i64 l c (by omega) (by omega) (by rw [hz2]; omega) (by omega)
  rw [Int.toNat_natCast, Int.toNat_natCast, hz1, Nat.mul_one] at h
  rw [← made_zero]
  exact h
theorem OwnZ.new (W : World) (c : Nat) : OwnZ (W.alloc (.cells (cellsOf encB (List.replicate c 0)).toArray 5)) W.heap.size [] c := heap_new rfl
theorem run_appendZ (W : World) (ty : TypeId) (g : Nat) (xs : List UInt8) (A : Option Addr) (c k : Nat) (hg : OwnZ W g [] (xs.length + k)) (hx : BytesAt W A xs) :
    (Builtin.append_ #[32, 32] ty #[.slice (some ⟨g, 0, none⟩) 0 (xs.length + k), .slice A xs.length c]).run Tryz.prog W = .ok (.slice (some ⟨g, 0, none⟩) xs.length (xs.length + k)) (W.setRow g (cellsOf encB (xs ++ List.replicate k 0)).toArray) := by
  obtain ⟨i0, hi0, hz0, hz1, hz2⟩ := info_parts infoB
  match A with
  | none =>
    have h0 : xs = [] := by
      cases xs with
      | nil => rfl
      | cons x r => obtain ⟨_, _, h, _⟩ := hx (by simp); cases h
    subst h0
    have h1 : W.setRow g (cellsOf encB (([] : List UInt8) ++ List.replicate k 0)).toArray = W := setRow_self W g _ 5 (0, 0) (by
      have h2 : W.heap[g]? = _ := hg
      rw [h2]
      simp)
    rw [h1]
    simp [Builtin.append_, run_underlying Tryz.underlying32, sizeOf, typeInfo, hi0, Builtin.lenOf, Builtin.firstCells, storeCells]
  | some a =>
    have h2 : W.heap[g]? = _ := hg
    have h := run_append_room (P := Tryz.prog) W 32 ty 5 i0 Tryz.underlying32 hi0 g 0 (xs.length + k) _ h2 a xs.length c (cellsOf encB xs) (by rw [cellsOf_length encB_len, hz1]) (hx.row encB_len (by omega)) (fun u hu => by obtain ⟨x, _, h⟩ := List.mem_flatMap.1 hu; exact encB_one x u h) (by omega) (by rw [List.size_toArray, cellsOf_length encB_len, cellsOf_length encB_len]; simp)
    have e : (cellsOf encB (([] : List UInt8) ++ List.replicate (xs.length + k) 0)).toArray.toList.take (0 * i0.size) ++ cellsOf encB xs ++ (cellsOf encB (([] : List UInt8) ++ List.replicate (xs.length + k) 0)).toArray.toList.drop (0 * i0.size + (cellsOf encB xs).length) = cellsOf encB (xs ++ List.replicate k 0) := by
      rw [List.toList_toArray, Nat.zero_mul, Nat.zero_add, List.take_zero, List.nil_append, cellsOf_length encB_len, Nat.mul_one, List.nil_append, ← List.replicate_append_replicate]
      show _ ++ List.drop xs.length (List.flatMap encB _) = List.flatMap encB _
      rw [List.flatMap_append, List.flatMap_append, List.drop_left' (by
        have := cellsOf_length encB_len (List.replicate xs.length (0 : UInt8))
        rw [List.length_replicate, Nat.mul_one] at this
        exact this)]
    rw [h, Nat.zero_add, e]
theorem OwnZ.set {W : World} {g n : Nat} {ys : List UInt8} (h : OwnZ W g ys n) (xs : List UInt8) (k : Nat) : OwnZ (W.setRow g (cellsOf encB (xs ++ List.replicate k 0)).toArray) g xs k := setRow_heap W g _ _ _ _ h
theorem run_cutZ2 (W : World) (g n k : Nat) (hm : n + k ≤ 1000) : (Instr.slice 32 (.slice (some ⟨g, 0, none⟩) (n + k) (n + k)) (some (.int .i64 (n : Int))) none none).run Tryz.prog W = .ok (.slice (some (if k = 0 then ⟨g, 0, none⟩ else ⟨g, n, none⟩)) k k) W := by
  obtain ⟨i0, hi0, hz0, hz1, hz2⟩ := info_parts infoB
  have h1 : (0 : Int) ≤ (n : Int) ∧ (n : Int) ≤ ((n + k : Nat) : Int) := ⟨by omega, by omega⟩
  simp [Instr.slice, run_underlying Tryz.underlying32, Instr.sliceBounds, Instr.sliceBound, asIntOf, sizeOf, typeInfo, hi0, Addr.add]
  rw [hz1, Nat.mul_one]
  by_cases h0 : k = 0
  · rw [if_pos h0, if_pos h0]
  · rw [if_neg h0, if_neg h0]
    by_cases h2 : n = 0
    · subst h2; rfl
    · rw [if_neg h2]

section
variable {P : Program} {ops : Array Oper} {Q : Exit → Act → World → Prop} {a0 : Act} {x : Rb} {k d : Nat} {o : Oper}
/-- A row that is made in the region. -/
theorem stepMk {r0 : Rw} (hinj : ∀ r ∈ x.rows, ∀ r' ∈ x.rows, r.j = r'.j → r = r') (h0 : r0 ∈ x.rows) (hj0 : r0.j = k) (hd0 : r0.d = d) (ho : ops[k]? = some o) (hd : o.dst = some d) (hf : x.free k d none = true) (hdn : d < x.n) (hs : (d != x.s) = true) (hkn : x.known k = none)
    (h : ∀ L a w, InvT ops a0 x.S L a w → L k = false → (∀ j, waitsB o j = true → L j = true) → Region.wanted o (yielded ops a.tmps) = true ∧ ∃ v w', (execOp a.eval o).run P w = .ok (.value v) w' ∧ RowB w' w.heap.size v r0.xs ∧ BelW w w') : StepT P ops Q a0 x.S k o := by
  refine StepT.val ho fun L a W hI hk hw => ?_
  have g := hI.glob
  obtain ⟨h1, v, W', h2, hown, hb⟩ := h L a W hI hk hw
  have hnew : ∀ b, v.ownBlock = some b → W.heap.size ≤ b := fun b hb => (World.ownsRow.lt hown b hb).1
  rw [hd]
  refine ⟨h1, v, W', h2, fun _ _ _ h => h, g.step hinj h0 hj0 hd0 hf hdn (fun _ _ _ _ => by simpa using hs) (below_trans g.bel hb) (g.chg.trans (T := fun _ => False) (.of_below hb) (fun _ _ h => h.elim)) (fun m h1 _ h2 => (g.ini m h1 h2).2.1.below hb) (fun r hr h _ _ => (g.row r hr h).below hb) (Go.Joins.ownsRow_le hown g.bel.size) (fun b h => .inr (Nat.le_trans g.chg.size (hnew b h))) (fun r hr h _ _ b h1 h2 => ?_) (fun m h1 _ h2 b h3 h4 => ?_), fun u hu => by rw [hkn] at hu; cases hu⟩
  · have := hnew b h1
    have := ((g.row r hr h).lt h2).2
    omega
  · have := hnew b h4
    have := ((g.ini m h1 h2).2.1.lt h3).2
    omega
end

end

section
open Go.RowKit

theorem app_mk14 (a b : List UInt8) : (ByteArray.mk a.toArray ++ ByteArray.mk b.toArray) = ByteArray.mk (a ++ b).toArray := by apply ByteArray.ext; simp
theorem wpList_makeZ (w : World) {ops : Array Oper} {rest : List Oper} {o : Oper} {a : Act} {Q : Exit → Act → World → Prop} (hg : o.guard = none) (l c : Operand) (hop : o.op = Op.makeSlice 32 l c) (n : Nat) (C : Int)
    (hl : a.eval l = .int .i64 0) (hc : a.eval c = .int .i64 C) (hC : C = (n : Int)) (hn : n ≤ 1000) (cz : Array Value) (hz : (cellsOf encB (List.replicate n 0)).toArray = cz)
    (hK : wpList Tryz.prog ops Q rest (a.put o.dst (.slice (some ⟨w.heap.size, 0, none⟩) 0 n)) (w.alloc (.cells cz 5))) : wpList Tryz.prog ops Q (o :: rest) a w := by
  refine wpList_plain hg fun K hK' => ?_
  have hrun := run_makeZ w 0 n (Nat.zero_le _) hn
  rw [hz] at hrun
  subst hC
  rw [show ((0 : Nat) : Int) = 0 from rfl] at hrun
  unfold Oper.wp
  simp [execOp, hop, hl, hc, hrun, Result.andThen]
  exact hK' _ _ hK
theorem wpList_appendZ (w : World) {ops : Array Oper} {rest : List Oper} {o : Oper} {a : Act} {Q : Exit → Act → World → Prop} (hgd : o.guard = none) (s x : Operand) (ho : o.op = .call { callee := .builtin .append, args := #[s, x], argTypes := #[32, 32] })
    (g : Nat) (xs : List UInt8) (A : Option Addr) (c k : Nat) (hs : a.eval s = .slice (some ⟨g, 0, none⟩) 0 (xs.length + k)) (hx : a.eval x = .slice A xs.length c) (hg : OwnZ w g [] (xs.length + k)) (hb : BytesAt w A xs) (cs : Array Value) (hz : (cellsOf encB (xs ++ List.replicate k 0)).toArray = cs)
    (hK : wpList Tryz.prog ops Q rest (a.put o.dst (.slice (some ⟨g, 0, none⟩) xs.length (xs.length + k))) (w.setRow g cs)) : wpList Tryz.prog ops Q (o :: rest) a w := by
  refine wpList_plain hgd fun K hK' => ?_
  have hrun := run_appendZ w o.type g xs A c k hg hb
  rw [hz] at hrun
  unfold Oper.wp execOp
  simp only [ho, resolve, invoke, builtin, Sem.run_bind, Sem.run_pure, Result.andThen_ok, List.map_toArray, List.map_cons, List.map_nil, hs, hx, hrun]
  exact hK' _ _ hK
theorem below_setRow {w W : World} {g : Nat} (h : BelW w W) (hg : w.heap.size ≤ g) (cs : Array Value) : BelW w (W.setRow g cs) :=
  h.trans ⟨rfl, rfl, rfl, by simp, fun k hk => setRow_other W g k cs (by omega)⟩
/-- The region in which the memory of the call's own bytes is looked at. -/
def appX6 (E W0 : World) (xs : List UInt8) (k g : Nat) (A : Option Addr) (c : Nat) : Rb where
  E := E
  W0 := W0
  n := 130
  D := .slice none 0 0
  acc := []
  m := none
  s := 200
  rows := [⟨13, 55, List.replicate k 0, none⟩]
  known := fun
    | 0 => some (.slice (some ⟨g, 0, none⟩) xs.length (xs.length + k))
    | 1 => some (.slice (some ⟨g, 0, none⟩) xs.length (xs.length + k))
    | 2 => some (.int .i64 ((xs.length + k : Nat) : Int))
    | 3 => some (.slice (some ⟨g, 0, none⟩) (xs.length + k) (xs.length + k))
    | 4 => some (.slice (some ⟨g, 0, none⟩) xs.length (xs.length + k))
    | 5 => some (.int .i64 (xs.length : Int))
    | 6 => some (.slice (some (if k = 0 then ⟨g, 0, none⟩ else ⟨g, xs.length, none⟩)) k k)
    | 7 => some (.string ⟨(List.replicate k 0).toArray⟩)
    | 8 => some (.slice (some ⟨g, 0, none⟩) xs.length (xs.length + k))
    | 9 => some (.int .i64 ((xs.length + k : Nat) : Int))
    | 10 => some (.slice (some ⟨g, 0, none⟩) xs.length (xs.length + k))
    | 11 => some (.int .i64 (xs.length : Int))
    | 12 => some (.int .i64 (k : Int))
    | 14 => some (.string ⟨(List.replicate k 0).toArray⟩)
    | 15 => some (.bool false)
    | 16 => some (.bool false)
    | 17 => some (.slice (some ⟨g, 0, none⟩) xs.length (xs.length + k))
    | 18 => some (.string ⟨xs.toArray⟩)
    | 19 => some (.slice A xs.length c)
    | 20 => some (.string ⟨xs.toArray⟩)
    | 21 => some (.bool false)
    | 22 => some (.bool false)
    | _ => none

set_option maxRecDepth 100000 in
set_option maxHeartbeats 2000000 in
theorem lawAppends_14 (A : Option Addr) (xs : List UInt8) (n0 r : Nat) (c : CaV) (w : World) (hf : CanOK w) (hk : Known14 w) (hx : HoldsB w (.slice A xs.length n0) xs) (hr : r < 256) (hc : CaOK w c) (ht : TimC c.ca) :
    Calls Tryz.prog 4 #[.slice A xs.length n0, .int .u8 (r : Int), mkC c] w (OneB (.bool true) w) := by
  have HF := Lib.hid hf
  have HKN := Lib.hid hk
  have HK := Lib.hid (KK.new w c hc)
  have HX := Lib.hid hx
  have hr2 : (r : Int) ≤ 255 := by omega
  obtain ⟨s, hs⟩ : ∃ s, small14 c.ca = s := ⟨_, rfl⟩
  have HS := Lib.hid fun (W : World) (h : CaOK W c) => refSmall14 c s W h hs
  have HFC := Lib.hid fun (h : s = true) => small_fit (by rw [hs, h]) ht
  clear hf hk hc ht hs hx
  go_enter Tryz.func4, Tryz.ntmps4
  go_upto_region 1 with fail
  generalize World.alloc w _ = w2 at HK ⊢
  obtain ⟨x0, x1, x2, xl, _⟩ := HK.out.sp
  go_wp2_with fail
  refine (HS.out _ (HK.out.ok (g := w.heap.size) (by simp))).mono ?_
  rintro e9 w3 ⟨rfl, hb⟩
  clear x0 x1 x2 xl
  replace HK := Lib.hid (HK.out.next hb)
  clear hb
  cases s with
  | false =>
    go_wp2_with fail
    refine (HKN.out _ HK.out.bel).mono ?_
    rintro e9 w9 ⟨rfl, hb⟩
    replace HK := Lib.hid (HK.out.next hb)
    clear hb
    go_wp2_with fail
    go_ret
    exact ⟨rfl, HK.out.bel⟩
  | true =>
    by_cases hl : xs.length ≤ 30
    · have i0 : ¬ (30 : Int) < (xs.length : Int) := by omega
      have i0d : decide ((30 : Int) < (xs.length : Int)) = false := by simpa using i0
      have HFI := Lib.hid (HFC.out rfl)
      have hl2 : (xs.length : Int) ≤ 30 := by omega
      clear HS HFC
      have HL := Lib.hid (show xs.length + r ≤ 1000 from by omega)
      have HAT := Lib.hid (show ∀ W : World, Below w.heap.size w W → BytesAt W A xs from fun W hB => by
        obtain ⟨A', c', e, h1, _⟩ := HX.out.below hB
        cases e
        exact h1)
      clear hl
      obtain ⟨g, hg⟩ : ∃ g, w3.heap.size = g := ⟨_, rfl⟩
      have HG := Lib.hid hg
      obtain ⟨cz, hcz⟩ : ∃ cz, (cellsOf encB (List.replicate (xs.length + r) (0 : UInt8))).toArray = cz := ⟨_, rfl⟩
      obtain ⟨cs, hcs⟩ : ∃ cs, (cellsOf encB (xs ++ List.replicate r (0 : UInt8))).toArray = cs := ⟨_, rfl⟩
      have HZ0 := Lib.hid (show OwnZ (w3.alloc (.cells cz 5)) g [] (xs.length + r) from by rw [← hcz, ← hg]; exact OwnZ.new w3 (xs.length + r))
      have hbm : BelW w3 (w3.alloc (.cells cz 5)) := (Below.refl _ w3).alloc (Nat.le_refl _) _
      have HBM := Lib.hid (below_trans HK.out.bel hbm)
      have HK4 := Lib.hid (HK.out.next (below_setRow (g := g) hbm (by omega) cs))
      have HZ := Lib.hid (show OwnZ ((w3.alloc (.cells cz 5)).setRow g cs) g xs r from hcs ▸ HZ0.out.set xs r)
      have HCZ := Lib.hid hcz
      have HCS := Lib.hid hcs
      clear hg hbm hcz hcs
      go_upto_region 4 with (first
        | (at_make; refine wpList_makeZ _ rfl (.const (.int .i64 0)) (.tmp 27) rfl (xs.length + r) _ rfl rfl (by omega) HL.out cz HCZ.out ?_; rw [HG.out])
        | (at_builtin; refine wpList_appendZ _ rfl (.tmp 28) (.tmp 29) rfl g xs A n0 r rfl rfl HZ0.out (HAT.out _ HBM.out) cs HCS.out ?_))
      clear HZ0 HBM HCZ HCS
      generalize World.setRow _ g _ = w4 at HK4 HZ ⊢
      replace HK := HK4
      clear HK4 HG
      have HAP := Lib.hid (HF.out.app (some ⟨g, 0, none⟩) xs (xs.length + r) c w4 HK.out.bel (HZ.out.holds (by have := HL.out; simp only [maxLen]; omega)) (by have := HL.out; omega) (HK.out.ok (g := w.heap.size) (by simp)) HFI.out)
      have HSI := Lib.hid fun (W : World) (hB : Below w.heap.size w W) (h : CaOK W c) => HF.out.siz c W hB h HFI.out
      have HVA := Lib.hid fun (W : World) (hB : Below w.heap.size w W) (h : CaOK W c) => HF.out.val c W hB h HFI.out
      have HRB := Lib.hid fun (W : World) (h : CaOK W c) => refBytes14 c W h HFI.out.len
      have HBL := Lib.hid (byC_len HFI.out)
      obtain ⟨v, hv⟩ : ∃ v, validK c.ca = v := ⟨_, rfl⟩
      unfold appV at HAP
      unfold encV at HSI
      rw [hv] at HAP HSI HVA
      generalize byC c.ca = ys at HAP HSI HRB HBL
      obtain ⟨zs, hzs⟩ : ∃ zs, (if v = true then xs ++ ys else []) = zs := ⟨_, rfl⟩
      obtain ⟨ms, hms⟩ : ∃ ms, (if v = true then ys else []) = ms := ⟨_, rfl⟩
      obtain ⟨er, her⟩ : ∃ er, errV v = er := ⟨_, rfl⟩
      rw [hzs, her] at HAP
      rw [hms, her] at HSI
      have HZS := Lib.hid hzs
      have HMS := Lib.hid hms
      have HER := Lib.hid her
      have hzl : zs.length ≤ 20000030 := by
        have h1 := HBL.out
        rw [← hzs]
        split
        · rw [List.length_append]; omega
        · simp
      have HZL := Lib.hid hzl
      clear hv HF HFI hzs hms her hzl
      have HKW := HK
      obtain ⟨x0, x1, x2, xl, _⟩ := HK.out.sp
      go_wp2_with fail
      refine HAP.out.mono ?_
      rintro e9 w5 ⟨⟨Ao, co, rfl, hrow⟩, hb⟩
      clear x0 x1 x2 xl HAP
      have HB4 := Lib.hid hb
      have HO := Lib.hid hrow
      replace HK := Lib.hid (HK.out.next hb)
      have HZ5 := Lib.hid (HZ.out.below hb)
      clear hb hrow
      obtain ⟨x0, x1, x2, xl, _⟩ := HK.out.sp
      go_wp2_with fail
      refine (HSI.out _ HK.out.bel (HK.out.ok (g := w.heap.size) (by simp))).mono ?_
      rintro e9 w6 ⟨rfl, hb⟩
      clear x0 x1 x2 xl HSI
      replace HB4 := Lib.hid (below_trans HB4.out hb)
      replace HK := Lib.hid (HK.out.next hb)
      replace HZ5 := Lib.hid (HZ5.out.below hb)
      replace HO := Lib.hid (ownBelow HO.out hb)
      clear hb
      go_upto_region 6 with fail
      have HKK := Lib.hid fun (W : World) (hW : Chg (fun k => (Value.slice none 0 0).ownBlock = some k) w6 W) => hW.below (B := w6.heap.size) (Nat.le_refl _) (fun _ e => by cases e)
      have HINJ := Lib.hid (show ∀ q ∈ (appX6 w w6 xs r g A n0).rows, ∀ q' ∈ (appX6 w w6 xs r g A n0).rows, q.j = q'.j → q = q' from inj_of (show ([13] : List Nat).Nodup from by decide))
      refine wp_region_T (S := Rb.S (appX6 w w6 xs r g A n0)) (by kernel_rfl) (by kernel_rfl) (by kernel_rfl) (dst_small (n := 130) (by kernel_rfl)) (Rb.G.start HK.out.bel rfl (by rfl) (fun _ h => by cases h)) ?_ ?_
      · refine ⟨?_, ?_, ?_, ?_, ?_, ?_, ?_, ?_, ?_, ?_, ?_, ?_, ?_, ?_, ?_, ?_, ?_, ?_, ?_, ?_, ?_, ?_, ?_, trivial⟩
        · refine stepPure rfl rfl (by kernel_rfl) (by kernel_rfl) (by kernel_rfl) (by kernel_rfl) fun L a9 W hI hk hd => ?_
          have e7 : a9.tmps[7]?.getD undef = .slice (some ⟨g, 0, none⟩) xs.length (xs.length + r) := hI.at 7 (by kernel_rfl)
          exact ⟨rfl, .slice (some ⟨g, 0, none⟩) xs.length (xs.length + r), by go_simp, fun u hu => Option.some.inj hu⟩
        · refine stepPure rfl rfl (by kernel_rfl) (by kernel_rfl) (by kernel_rfl) (by kernel_rfl) fun L a9 W hI hk hd => ?_
          have e7 : a9.tmps[7]?.getD undef = .slice (some ⟨g, 0, none⟩) xs.length (xs.length + r) := hI.at 7 (by kernel_rfl)
          exact ⟨rfl, .slice (some ⟨g, 0, none⟩) xs.length (xs.length + r), by go_simp, fun u hu => Option.some.inj hu⟩
        · refine stepPure rfl rfl (by kernel_rfl) (by kernel_rfl) (by kernel_rfl) (by kernel_rfl) fun L a9 W hI hk hd => ?_
          have e43 := Rb.at hI 1 43 (hd 1 rfl) rfl rfl
          exact ⟨rfl, .int .i64 ((xs.length + r : Nat) : Int), by go_simp, fun u hu => Option.some.inj hu⟩
        · refine stepPure rfl rfl (by kernel_rfl) (by kernel_rfl) (by kernel_rfl) (by kernel_rfl) fun L a9 W hI hk hd => ?_
          have e42 := Rb.at hI 0 42 (hd 0 rfl) rfl rfl
          have e44 := Rb.at hI 2 44 (hd 2 rfl) rfl rfl
          have i1 : (0 : Int) ≤ (xs.length : Int) + (r : Int) := by omega
          have i2 : ((xs.length : Int) + (r : Int)).toNat = xs.length + r := by omega
          exact ⟨rfl, .slice (some ⟨g, 0, none⟩) (xs.length + r) (xs.length + r), by go_simp, fun u hu => Option.some.inj hu⟩
        · refine stepPure rfl rfl (by kernel_rfl) (by kernel_rfl) (by kernel_rfl) (by kernel_rfl) fun L a9 W hI hk hd => ?_
          have e7 : a9.tmps[7]?.getD undef = .slice (some ⟨g, 0, none⟩) xs.length (xs.length + r) := hI.at 7 (by kernel_rfl)
          exact ⟨rfl, .slice (some ⟨g, 0, none⟩) xs.length (xs.length + r), by go_simp, fun u hu => Option.some.inj hu⟩
        · refine stepPure rfl rfl (by kernel_rfl) (by kernel_rfl) (by kernel_rfl) (by kernel_rfl) fun L a9 W hI hk hd => ?_
          have e46 := Rb.at hI 4 46 (hd 4 rfl) rfl rfl
          exact ⟨rfl, .int .i64 (xs.length : Int), by go_simp, fun u hu => Option.some.inj hu⟩
        · refine stepPure rfl rfl (by kernel_rfl) (by kernel_rfl) (by kernel_rfl) (by kernel_rfl) fun L a9 W hI hk hd => ?_
          have e45 := Rb.at hI 3 45 (hd 3 rfl) rfl rfl
          have e47 := Rb.at hI 5 47 (hd 5 rfl) rfl rfl
          have d1 := run_cutZ2 W g xs.length r HL.out
          exact ⟨rfl, .slice (some (if r = 0 then ⟨g, 0, none⟩ else ⟨g, xs.length, none⟩)) r r, by go_simp, fun u hu => Option.some.inj hu⟩
        · refine stepPure rfl rfl (by kernel_rfl) (by kernel_rfl) (by kernel_rfl) (by kernel_rfl) fun L a9 W hI hk hd => ?_
          have e48 := Rb.at hI 6 48 (hd 6 rfl) rfl rfl
          have d1 := convB W _ r (List.replicate r 0) (by rw [List.length_replicate]; exact (HZ5.out.below (HKK.out W hI.glob.chg)).tail (by have := HL.out; simp only [maxLen]; omega))
          rw [List.length_replicate] at d1
          exact ⟨rfl, .string ⟨(List.replicate r 0).toArray⟩, by go_simp, fun u hu => Option.some.inj hu⟩
        · refine stepPure rfl rfl (by kernel_rfl) (by kernel_rfl) (by kernel_rfl) (by kernel_rfl) fun L a9 W hI hk hd => ?_
          have e7 : a9.tmps[7]?.getD undef = .slice (some ⟨g, 0, none⟩) xs.length (xs.length + r) := hI.at 7 (by kernel_rfl)
          exact ⟨rfl, .slice (some ⟨g, 0, none⟩) xs.length (xs.length + r), by go_simp, fun u hu => Option.some.inj hu⟩
        · refine stepPure rfl rfl (by kernel_rfl) (by kernel_rfl) (by kernel_rfl) (by kernel_rfl) fun L a9 W hI hk hd => ?_
          have e50 := Rb.at hI 8 50 (hd 8 rfl) rfl rfl
          exact ⟨rfl, .int .i64 ((xs.length + r : Nat) : Int), by go_simp, fun u hu => Option.some.inj hu⟩
        · refine stepPure rfl rfl (by kernel_rfl) (by kernel_rfl) (by kernel_rfl) (by kernel_rfl) fun L a9 W hI hk hd => ?_
          have e7 : a9.tmps[7]?.getD undef = .slice (some ⟨g, 0, none⟩) xs.length (xs.length + r) := hI.at 7 (by kernel_rfl)
          exact ⟨rfl, .slice (some ⟨g, 0, none⟩) xs.length (xs.length + r), by go_simp, fun u hu => Option.some.inj hu⟩
        · refine stepPure rfl rfl (by kernel_rfl) (by kernel_rfl) (by kernel_rfl) (by kernel_rfl) fun L a9 W hI hk hd => ?_
          have e52 := Rb.at hI 10 52 (hd 10 rfl) rfl rfl
          exact ⟨rfl, .int .i64 (xs.length : Int), by go_simp, fun u hu => Option.some.inj hu⟩
        · refine stepPure rfl rfl (by kernel_rfl) (by kernel_rfl) (by kernel_rfl) (by kernel_rfl) fun L a9 W hI hk hd => ?_
          have e51 := Rb.at hI 9 51 (hd 9 rfl) rfl rfl
          have e53 := Rb.at hI 11 53 (hd 11 rfl) rfl rfl
          have hL := HL.out
          refine ⟨rfl, .int .i64 (r : Int), ?_, fun u hu => Option.some.inj hu⟩
          have e1 : IntKind.i64.wrap ((xs.length : Int) + (r : Int) - (xs.length : Int)) = (r : Int) := by rw [IntKind.wrap_i64]; omega
          go_simp
          all_goals (first | exact e1 | trace_state)
        · refine stepMk (r0 := ⟨13, 55, List.replicate r 0, none⟩) HINJ.out (by simp [appX6]) rfl rfl rfl rfl (by kernel_rfl) (show 55 < 130 from by decide) (by kernel_rfl) rfl fun L a9 W hI hk hd => ?_
          have e54 := Rb.at hI 12 54 (hd 12 rfl) rfl rfl
          have d1 := run_makeZ W r r (Nat.le_refl _) (by have := HL.out; omega)
          refine ⟨rfl, .slice (some ⟨W.heap.size, 0, none⟩) r r, W.alloc (.cells (cellsOf encB (List.replicate r 0)).toArray 5), by go_simp, ?_, (Below.refl _ W).alloc (Nat.le_refl _) _⟩
          refine ⟨by rw [cellsOf_length encB_len], .inr ⟨W.heap.size, r, _, by rw [List.length_replicate], Nat.le_refl _, heap_alloc_new W _, by rw [List.length_replicate]; exact Nat.le_refl _, by have := HL.out; simp only [maxLen]; omega, ?_, ?_⟩⟩
          · rw [List.size_toArray, cellsOf_length encB_len, List.length_replicate]
          · rw [List.toList_toArray, List.take_of_length_le (by rw [cellsOf_length encB_len]; exact Nat.le_refl _)]
        · refine stepPure rfl rfl (by kernel_rfl) (by kernel_rfl) (by kernel_rfl) (by kernel_rfl) fun L a9 W hI hk hd => ?_
          obtain ⟨A1, c1, e55, _, h55⟩ := Rb.slice hI (r := ⟨13, 55, List.replicate r 0, none⟩) (by simp [appX6]) ⟨hd 13 rfl, fun _ h => by cases h⟩
          have e55 : a9.tmps[55]?.getD undef = .slice A1 (List.replicate r (0 : UInt8)).length c1 := e55
          have d1 := convB W A1 c1 (List.replicate r 0) h55
          rw [List.length_replicate] at e55 d1
          exact ⟨rfl, .string ⟨(List.replicate r 0).toArray⟩, by go_simp, fun u hu => Option.some.inj hu⟩
        · refine stepPure rfl rfl (by kernel_rfl) (by kernel_rfl) (by kernel_rfl) (by kernel_rfl) fun L a9 W hI hk hd => ?_
          have e49 := Rb.at hI 7 49 (hd 7 rfl) rfl rfl
          have e56 := Rb.at hI 14 56 (hd 14 rfl) rfl rfl
          exact ⟨rfl, .bool false, by go_simp, fun u hu => Option.some.inj hu⟩
        · refine stepPure rfl rfl (by kernel_rfl) (by kernel_rfl) (by kernel_rfl) (by kernel_rfl) fun L a9 W hI hk hd => ?_
          have e57 := Rb.at hI 15 57 (hd 15 rfl) rfl rfl
          exact ⟨rfl, .bool false, by go_simp, fun u hu => Option.some.inj hu⟩
        · refine stepPure rfl rfl (by kernel_rfl) (by kernel_rfl) (by kernel_rfl) (by kernel_rfl) fun L a9 W hI hk hd => ?_
          have e7 : a9.tmps[7]?.getD undef = .slice (some ⟨g, 0, none⟩) xs.length (xs.length + r) := hI.at 7 (by kernel_rfl)
          exact ⟨(Rb.wants hI (j := 16) (d := 58) rfl (hd 16 rfl) rfl rfl), .slice (some ⟨g, 0, none⟩) xs.length (xs.length + r), by go_simp, fun u hu => Option.some.inj hu⟩
        · refine stepPure rfl rfl (by kernel_rfl) (by kernel_rfl) (by kernel_rfl) (by kernel_rfl) fun L a9 W hI hk hd => ?_
          have e59 := Rb.at hI 17 59 (hd 17 rfl) rfl rfl
          have d1 := convB W _ _ xs ((HZ5.out.below (HKK.out W hI.glob.chg)).holds (by have := HL.out; simp only [maxLen]; omega))
          exact ⟨(Rb.wants hI (j := 16) (d := 58) rfl (hd 16 rfl) rfl rfl), .string ⟨xs.toArray⟩, by go_simp, fun u hu => Option.some.inj hu⟩
        · refine stepPure rfl rfl (by kernel_rfl) (by kernel_rfl) (by kernel_rfl) (by kernel_rfl) fun L a9 W hI hk hd => ?_
          have e0 : a9.tmps[0]?.getD undef = .slice A xs.length n0 := hI.at 0 (by kernel_rfl)
          exact ⟨(Rb.wants hI (j := 16) (d := 58) rfl (hd 16 rfl) rfl rfl), .slice A xs.length n0, by go_simp, fun u hu => Option.some.inj hu⟩
        · refine stepPure rfl rfl (by kernel_rfl) (by kernel_rfl) (by kernel_rfl) (by kernel_rfl) fun L a9 W hI hk hd => ?_
          have e61 := Rb.at hI 19 61 (hd 19 rfl) rfl rfl
          have d1 := convB W _ _ xs (HX.out.below (below_trans HK.out.bel (HKK.out W hI.glob.chg)))
          exact ⟨(Rb.wants hI (j := 16) (d := 58) rfl (hd 16 rfl) rfl rfl), .string ⟨xs.toArray⟩, by go_simp, fun u hu => Option.some.inj hu⟩
        · refine stepPure rfl rfl (by kernel_rfl) (by kernel_rfl) (by kernel_rfl) (by kernel_rfl) fun L a9 W hI hk hd => ?_
          have e60 := Rb.at hI 18 60 (hd 18 rfl) rfl rfl
          have e62 := Rb.at hI 20 62 (hd 20 rfl) rfl rfl
          have j1 : (xs == xs) = true := by simp
          exact ⟨(Rb.wants hI (j := 16) (d := 58) rfl (hd 16 rfl) rfl rfl), .bool false, by go_simp, fun u hu => Option.some.inj hu⟩
        · refine stepPure rfl rfl (by kernel_rfl) (by kernel_rfl) (by kernel_rfl) (by kernel_rfl) fun L a9 W hI hk hd => ?_
          have e58 := Rb.at hI 16 58 (hd 16 rfl) rfl rfl
          have e63 := Rb.at hI 21 63 (hd 21 rfl) rfl rfl
          exact ⟨rfl, .bool false, by go_simp, fun u hu => Option.some.inj hu⟩
      · intro a9 W L hL hI
        have e64 := Rb.at hI 22 64 (hL 22 (by decide)) rfl rfl
        have e64' : a9.eval (.tmp 64) = .bool false := by rw [eval_tmp]; exact e64
        have hb := HKK.out W hI.glob.chg
        replace HB4 := Lib.hid (below_trans HB4.out hb)
        replace HK := Lib.hid (HK.out.next hb)
        replace HZ5 := Lib.hid (HZ5.out.below hb)
        replace HO := Lib.hid (ownBelow HO.out hb)
        rw [hI.frame]
        simp only [List.filterMap, List.foldl]
        rw [e64']
        clear hI hL HINJ HKK e64 e64' hb
        generalize a9.eval (.tmp 42) = v42
        generalize a9.eval (.tmp 43) = v43
        generalize a9.eval (.tmp 44) = v44
        generalize a9.eval (.tmp 45) = v45
        generalize a9.eval (.tmp 46) = v46
        generalize a9.eval (.tmp 47) = v47
        generalize a9.eval (.tmp 48) = v48
        generalize a9.eval (.tmp 49) = v49
        generalize a9.eval (.tmp 50) = v50
        generalize a9.eval (.tmp 51) = v51
        generalize a9.eval (.tmp 52) = v52
        generalize a9.eval (.tmp 53) = v53
        generalize a9.eval (.tmp 54) = v54
        generalize a9.eval (.tmp 55) = v55
        generalize a9.eval (.tmp 56) = v56
        generalize a9.eval (.tmp 57) = v57
        generalize a9.eval (.tmp 58) = v58
        generalize a9.eval (.tmp 59) = v59
        generalize a9.eval (.tmp 60) = v60
        generalize a9.eval (.tmp 61) = v61
        generalize a9.eval (.tmp 62) = v62
        generalize a9.eval (.tmp 63) = v63
        simp only [List.setIfInBounds_toArray, List.set_cons_succ, List.set_cons_zero]
        obtain ⟨x0, x1, x2, xl, _⟩ := HK.out.sp
        go_wp2_with fail
        refine (HVA.out _ HK.out.bel (HK.out.ok (g := w.heap.size) (by simp))).mono ?_
        rintro e9 w7 ⟨rfl, hb⟩
        clear x0 x1 x2 xl HVA
        replace HB4 := Lib.hid (below_trans HB4.out hb)
        replace HK := Lib.hid (HK.out.next hb)
        replace HO := Lib.hid (ownBelow HO.out hb)
        clear hb HZ5
        cases v with
        | false =>
          have h1 : zs = [] := by rw [← HZS.out]; rfl
          have h2 : ms = [] := by rw [← HMS.out]; rfl
          have h3 : er = 2 := HER.out.symm
          clear HZS HMS HER HO HZL
          subst h1
          subst h2
          subst h3
          rw [show ([] : List UInt8).length = 0 from rfl, show ((0 : Nat) : Int) = 0 from rfl]
          go_wp2_with fail
          refine (HKN.out _ HK.out.bel).mono ?_
          rintro e9 w9 ⟨rfl, hb⟩
          replace HK := Lib.hid (HK.out.next hb)
          clear hb
          go_wp2_with fail
          go_ret
          exact ⟨rfl, HK.out.bel⟩
        | true =>
          have h1 : xs ++ ys = zs := by rw [← HZS.out]; rfl
          have h2 : ys = ms := by rw [← HMS.out]; rfl
          have h3 : er = 0 := HER.out.symm
          have HZS2 := Lib.hid h1
          clear HZS HMS HER h1
          subst h2
          subst h3
          obtain ⟨x0, x1, x2, xl, _⟩ := HK.out.sp
          go_wp2_with fail
          refine (HRB.out _ (HK.out.ok (g := w.heap.size) (by simp))).mono ?_
          rintro e9 w8 ⟨⟨Ab, cb, rfl, hrow⟩, hb⟩
          clear x0 x1 x2 xl HRB
          replace HB4 := Lib.hid (below_trans HB4.out hb)
          replace HK := Lib.hid (HK.out.next hb)
          replace HO := Lib.hid (ownBelow HO.out hb)
          have d1 := convB w8 Ao co zs (HoldsB.of_own HO.out)
          have d2 := convB w8 A n0 xs (HX.out.below HK.out.bel)
          have d3 := convB w8 Ab cb ys (HoldsB.of_own hrow)
          have eap : (ByteArray.mk xs.toArray ++ ByteArray.mk ys.toArray) = ⟨zs.toArray⟩ := by rw [app_mk14, HZS2.out]
          have z2 : ¬ (9223372036854775807 < (ByteArray.mk xs.toArray).size + (ByteArray.mk ys.toArray).size) := by
            show ¬ (9223372036854775807 < xs.toArray.size + ys.toArray.size)
            have := HBL.out
            simp
            omega
          have j1 : (zs == zs) = true := by simp
          clear hb hrow
          go_wp2_with fail
          clear d1 d2 d3 eap z2
          have hzl := HZL.out
          go_loopw [13] (fun i wr => ∃ (k : Nat) (us : List Value), k ≤ zs.length ∧ i = .int .i64 k ∧ Hid (wr.ownsRow w4.heap.size 5 1 (.slice Ao zs.length co) zs.length us) ∧ Hid (∀ u ∈ us, ∃ z : Int, 0 ≤ z ∧ z < 256 ∧ u = .int .u8 z) ∧ Hid (Below w4.heap.size w4 wr)) (fun i _ => zs.length - (intOf i).toNat)
          case atStart => exact ⟨0, cellsOf encB zs, by omega, rfl, HO, Lib.hid (fun u hu => by
            obtain ⟨y, _, h⟩ := List.mem_flatMap.1 hu
            rw [List.mem_singleton] at h
            have := y.toNat_lt
            exact ⟨y.toNat, by omega, by omega, h⟩), HB4⟩
          case round =>
            clear HO HK HB4 j1
            obtain ⟨k, us, hk, rfl, HR, HU, HB⟩ := hrel
            by_cases hlt : k < zs.length
            · have i0 : (k : Int) < (zs.length : Int) := by omega
              obtain ⟨b, rfl⟩ : ∃ b, Ao = some ⟨b, 0, none⟩ := by
                rcases HR.out.2 with ⟨h', _⟩ | ⟨g', cap', cur, h', _⟩
                · injection h' with _ h2 _
                  omega
                · injection h' with h2 _ _
                  exact ⟨g', h2⟩
              have hul : us.length = zs.length := by have := HR.out.1; omega
              obtain ⟨z, hz1, hz2, hz3⟩ := HU.out _ (List.getElem_mem (show k < us.length from by omega))
              have q0 : wr.cell? ⟨b, k, none⟩ = some (.int .u8 z) := by
                rw [World.ownsRow.cellAt HR.out k (by omega), List.getElem?_eq_getElem (by omega), hz3]
              have f0 := World.ownsRow.frozenAt HR.out k
              clear hz3 hul
              go_wp2_with fail
              go_roundw
              case rel =>
                refine ⟨k + 1, us.set k (.int .u8 ((z + 1) % 256)), by omega, by simp, Lib.hid (World.ownsRow.stored HR.out k _).1, Lib.hid fun u hu => ?_, Lib.hid (Below.setCell (p := ⟨b, k, none⟩) HB.out (World.ownsRow.lt HR.out b rfl).1 _)⟩
                rcases List.mem_or_eq_of_mem_set hu with h | h
                · exact HU.out u h
                · exact ⟨_, by omega, by omega, h⟩
              case measure => simp [intOf]; omega
            · have i0 : ¬ (k : Int) < (zs.length : Int) := by omega
              have HKR := Lib.hid (HKW.out.next HB.out)
              have d1 := convB wr _ _ xs ((HZ.out.below HB.out).holds (by have := HL.out; simp only [maxLen]; omega))
              have d2 := convB wr A n0 xs (HX.out.below HKR.out.bel)
              have j1 : (xs == xs) = true := by simp
              go_wp2_with fail
              refine (HKN.out _ HKR.out.bel).mono ?_
              rintro e9 w9 ⟨rfl, hb⟩
              have HK9 := Lib.hid (HKR.out.next hb)
              clear hb
              go_wp2_with fail
              go_ret
              exact ⟨rfl, HK9.out.bel⟩
    · have i0 : (30 : Int) < (xs.length : Int) := by omega
      have i0d : decide ((30 : Int) < (xs.length : Int)) = true := by simpa using i0
      go_wp2_with fail
      refine (HKN.out _ HK.out.bel).mono ?_
      rintro e9 w9 ⟨rfl, hb⟩
      replace HK := Lib.hid (HK.out.next hb)
      clear hb
      go_wp2_with fail
      go_ret
      exact ⟨rfl, HK.out.bel⟩

end

end Go.Proofs.YtgdnibahiomneaaGreat
