/- Several texts in one: CarM. -/
import Derived.Test.YtfmhhmceoikgpaaGreatMD
import Derived.Maps.Own
import Derived.Maps.OwnOps
import Derived.Maps.OwnSet
import Derived.Maps.Views
import Derived.DeepKeys4
import Derived.OwnWalk
namespace Go.Proofs.YtfmhhmceoikgpaaGreat

section
open Go.RowKit Go.Maps

/-- A look-up without 'ok' in a map of bools that the call has made. -/
theorem plainElem_bool_inv {H : Type} {P : Program} {e : TypeId} (he : P.underlying e = some .bool) {v : Value} {z : DataW H × List MemPlace} (h : plainElem P e v = some z) : ∃ a, v = .bool a ∧ z = (.lit (.bool a), []) := by
  unfold plainElem at h
  rw [he] at h
  cases v <;> simp at h
  exact ⟨_, rfl, h.symm⟩
theorem wpList_lookup_own_bool {H : Type} {P : Program} (w : World) {ops : Array Oper} {rest : List Oper} {o : Oper} {a : Act} {Q : Exit → Act → World → Prop}
    (hg : o.guard = none) (m x : Operand) (t : TypeId) (hop : o.op = Op.lookup t m x false)
    (k e : TypeId) (K : Keyed P k) (ht : P.underlying t = some (.map k e)) (he : P.underlying e = some .bool) (hz : (zeroValue e).run P w = .ok (.bool false) w) (b n : Nat) (D : DataW H)
    (hm : a.eval m = .map (some b)) (hown : w.ownsMap P k (plainElem P e) b n D) (key : Value) (kl : Lit) (hx : a.eval x = key) (hkey : keyOf P k key = some kl)
    (c : Bool) (hat : D.atKey kl (.lit (.bool false)) = .lit (.bool c)) (hK : wpList P ops Q rest (a.put o.dst (.bool c)) w) :
    wpList P ops Q (o :: rest) a w := by
  refine wpList_plain hg fun K' hK' => ?_
  obtain ⟨v, ps, hrun, hv⟩ := hown.lookup K ht hz (plainElem_bool he false) hkey
  obtain ⟨c', rfl, hc⟩ := plainElem_bool_inv he hv
  have h1 := (congrArg Prod.fst hc).symm.trans hat
  obtain rfl : c' = c := by simpa using h1
  unfold Oper.wp
  simp [execOp, hop, hm, hx, hrun, Result.andThen]
  exact hK' _ _ hK

/-- A map of bools that reads as a set. -/
def SetIs {α : Type} (κ : α → Lit) (D : DataW Unit) (S : α → Bool) : Prop := ∀ x, D.atKey (κ x) (.lit (.bool false)) = .lit (.bool (S x))
section
variable {α : Type} [DecidableEq α] {κ : α → Lit} {D : DataW Unit} {S : α → Bool}
omit [DecidableEq α] in
theorem SetIs.start : SetIs κ (.map []) fun _ => false := fun _ => rfl
theorem SetIs.put (hD : IsMap D) (hk : ∀ x, WideAt.IsKeyLit (κ x)) (hi : ∀ x y, κ x = κ y → x = y) (h : SetIs κ D S) (x : α) : SetIs κ (D.put (κ x) (.lit (.bool true))) fun y => S y || decide (y = x) := by
  intro y
  by_cases e : y = x
  · subst e; rw [atKey_put_same hD (hk y)]; simp
  · rw [atKey_put_other (fun h' => e (hi _ _ h')), h y]; simp [e]
theorem SetIs.del (hi : ∀ x y, κ x = κ y → x = y) (h : SetIs κ D S) (x : α) : SetIs κ (D.del (κ x)) fun y => S y && !decide (y = x) := by
  intro y
  by_cases e : y = x
  · subst e; rw [atKey_del_same]; simp
  · rw [atKey_del_other (fun h' => e (hi _ _ h')), h y]; simp [e]
omit [DecidableEq α] in
theorem SetIs.congr {S' : α → Bool} (h : SetIs κ D S) (e : ∀ x, S x = S' x) : SetIs κ D S' := fun x => by rw [h x, e]
def memB (l : List α) (x : α) : Bool := decide (x ∈ l)
def nodupB (l : List α) : Bool := decide l.Nodup
theorem memB_T {l : List α} {x : α} (h : x ∈ l) : memB l x = true := decide_eq_true h
theorem memB_F {l : List α} {x : α} (h : x ∉ l) : memB l x = false := decide_eq_false h
theorem SetIs.seen (hD : IsMap D) (hk : ∀ x, WideAt.IsKeyLit (κ x)) (hi : ∀ x y, κ x = κ y → x = y) {l : List α} {m : Nat} {x : α} (hx : l[m]? = some x) (h : SetIs κ D fun y => memB (l.take m) y) :
    SetIs κ (D.put (κ x) (.lit (.bool true))) fun y => memB (l.take (m + 1)) y :=
  (h.put hD hk hi x).congr fun y => by simp [memB, take_snoc hx]
theorem SetIs.left (hi : ∀ x y, κ x = κ y → x = y) {l : List α} {m : Nat} {x : α} (hx : l[m]? = some x) (h : SetIs κ D fun y => memB l y && !memB (l.take m) y) :
    SetIs κ (D.del (κ x)) fun y => memB l y && !memB (l.take (m + 1)) y :=
  (h.del hi x).congr fun y => by
    rw [take_snoc hx, Bool.eq_iff_iff]
    simp only [memB, Bool.and_eq_true, Bool.not_eq_true', decide_eq_true_eq, decide_eq_false_iff_not, List.mem_append, List.mem_singleton, not_or]
    exact and_assoc
end
theorem nodup_snoc {α : Type} {l : List α} {m : Nat} {x : α} (hx : l[m]? = some x) (h : (l.take m).Nodup) (hn : x ∉ l.take m) : (l.take (m + 1)).Nodup := by
  rw [take_snoc hx, List.nodup_append]
  exact ⟨h, by simp, fun a ha b hb => by simp at hb; subst hb; exact fun e => hn (e ▸ ha)⟩
theorem not_nodup_of {α : Type} {l : List α} {m : Nat} {x : α} (hx : l[m]? = some x) (hn : x ∈ l.take m) : ¬ l.Nodup := by
  intro h
  rw [← List.take_append_drop m l, List.nodup_append] at h
  refine h.2.2 x hn x ?_ rfl
  rw [List.mem_iff_getElem?]
  exact ⟨0, by simpa using hx⟩

/-- Strings as keys. -/
theorem lawStr : Keyed Tryz.prog 9 := string_keyed Tryz.underlying9
/-- Dots as keys. -/
theorem rowDotK : (63 : TypeId) < Tryz.prog.types.size := of_decide_eq_true (by kernel_rfl)
theorem keyDotK : Tryz.prog.keyTypeAt 2 63 = true := by kernel_rfl
theorem laidOutK : laidOutB Tryz.prog = true := by kernel_rfl
theorem keyedOf {P : Program} {k : TypeId} {fs : Array Field} (h : P.underlying k = some (.struct fs)) (hl : laidOutB P = true) (hr : k < P.types.size) (hk : P.keyTypeAt 2 k = true) : Keyed P k :=
  Keyed.of_law (deep_law_laid hl (m := 2) (by decide) hr hk (by rw [h]))
theorem lawDotK : Keyed Tryz.prog 63 := keyedOf Tryz.underlying63 laidOutK rowDotK keyDotK
theorem zeroBool (w : World) : (zeroValue 4).run Tryz.prog w = .ok (.bool false) w := by kernel_rfl
abbrev SKey := { l : List UInt8 // l.length ≤ 1000000 }
def sKey (x : SKey) : Lit := .string x.1
abbrev DKey := { d : Int × Int // validD d.1 d.2 = true }
def dKey (x : DKey) : Lit := .string (keyBytes [.int .i64 x.1.1, .int .i64 x.1.2])
theorem keyOf_two {P : Program} {k e : TypeId} {fs : Array Field} {f g : Field} (h : P.underlying k = some (.struct fs)) (hfs : fs = #[f, g]) (hf : f.type = e ∧ f.offset = 0 ∧ (f.name != "_") = true) (hg : g.type = e ∧ g.offset = 1 ∧ (g.name != "_") = true) (he : P.underlying e = some (.int .i64)) (hk : P.keyType k = true) (hc : P.cellsOf k = 2) (hi : P.cellsOf e = 1) (hn : 0 < P.types.size)
    {a b : Int} (h1 : (Lit.int .i64 a).wf = true) (h2 : (Lit.int .i64 b).wf = true) : keyOf P k (.agg #[.int .i64 a, .int .i64 b]) = some (.string (keyBytes [.int .i64 a, .int .i64 b])) := by
  obtain ⟨n, hn'⟩ : ∃ n, P.types.size = n + 1 := ⟨P.types.size - 1, by omega⟩
  subst hfs
  unfold keyOf
  simp [h, hk, Value.formed, hc, hn', Program.keyLits, hi, he, h1, h2, Value.cells, hf.1, hf.2.1, hg.1, hg.2.1, hf.2.2, hg.2.2]
theorem keyTyK : Tryz.prog.keyType 63 = true := by kernel_rfl
theorem cellsK : Tryz.prog.cellsOf 63 = 2 := by kernel_rfl
theorem cellK : Tryz.prog.cellsOf 3 = 1 := by kernel_rfl
theorem keyOf_dot (x : DKey) : keyOf Tryz.prog 63 (.agg #[.int .i64 x.1.1, .int .i64 x.1.2]) = some (dKey x) := by
  have hv := x.2
  simp only [validD, decide_eq_true_eq] at hv
  exact keyOf_two Tryz.underlying63 rfl ⟨rfl, rfl, by decide⟩ ⟨rfl, rfl, by decide⟩ Tryz.underlying3 keyTyK cellsK cellK (Nat.lt_of_le_of_lt (Nat.zero_le _) rowDotK) (WalkArith.wf_i64 (by omega)) (WalkArith.wf_i64 (by omega))

theorem sKey_is (x : SKey) : WideAt.IsKeyLit (sKey x) := trivial
theorem sKey_inj (x y : SKey) (h : sKey x = sKey y) : x = y := by simp only [sKey, Lit.string.injEq] at h; exact Subtype.ext h
theorem keyOf_str (x : SKey) : keyOf Tryz.prog 9 (.string ⟨x.1.toArray⟩) = some (sKey x) := Go.WideMaps.keyOf_string_mk Tryz.underlying9 (by have := x.2; rw [size_mk]; unfold maxLen; omega)
theorem dKey_is (x : DKey) : WideAt.IsKeyLit (dKey x) := trivial
theorem dKey_inj (x y : DKey) (h : dKey x = dKey y) : x = y := by
  have h1 := keyOf_dot x
  rw [h] at h1
  have e := lawDotK.inj h1 (keyOf_dot y)
  apply Subtype.ext
  have e' := congrArg Array.toList (Value.agg.inj e)
  have e1 : x.1.1 = y.1.1 := (Value.int.inj (List.cons.inj e').1).2
  have e2 : x.1.2 = y.1.2 := (Value.int.inj (List.cons.inj (List.cons.inj e').2).1).2
  exact Prod.ext e1 e2

theorem makeS (n : Int) (w : World) : (Instr.makeMap 131 (some (.int .i64 n))).run Tryz.prog w = .ok (.map (some w.heap.size)) (w.alloc (.map #[] 0)) := by
  simp [Instr.makeMap, run_underlying Tryz.underlying131, Go.asInt]
  rfl
set_option maxRecDepth 100000 in
set_option maxHeartbeats 4000000 in
theorem twiceS (A : Option Addr) (cap : Nat) (l : List SKey) (w : World) (hx : StrsAt w A (l.map (·.1))) (hm : l.length ≤ 100000) :
    Calls Tryz.prog 62 #[.slice A l.length cap] w (OneB (.bool (!nodupB l)) w) := by
  have hmm := makeS
  have HX := Lib.hid hx; clear hx
  have hll : (l.map (·.1)).length = l.length := by simp
  go_enter Tryz.func62, Tryz.ntmps62
  go_wp2_with fail
  go_loopw [5, 13] (fun _ i wr => ∃ m : Nat, m ≤ l.length ∧ i = .int .i64 m ∧ Below w.heap.size w wr ∧ ∃ D, Hid (wr.ownsMap Tryz.prog 9 (plainElem Tryz.prog 4) w.heap.size m D) ∧ Hid (SetIs sKey D fun y => memB (l.take m) y)) (fun _ i _ => l.length - (intOf i).toNat)
  case atStart => exact ⟨0, by omega, rfl, (Below.refl _ _).alloc (Nat.le_refl _) _, .map [], World.ownsMap_made _ _ _ _, SetIs.start.congr fun x => by simp [memB]⟩
  case round =>
    obtain ⟨m, hk2, rfl, hb, D, hown, hD⟩ := hrel
    by_cases hlt : m < l.length
    · obtain ⟨g, off, rfl, hgl, hcx⟩ := (HX.out.below hb).cell1 (f := fun l : List UInt8 => .string ⟨l.toArray⟩) (j := m) (by simpa using hlt)
      obtain ⟨x, hx1, hc0⟩ : ∃ x : SKey, l[m]? = some x ∧ wr.cell? ⟨g, off + m, none⟩ = some (.string ⟨x.1.toArray⟩) := ⟨l[m], List.getElem?_eq_getElem hlt, by simpa using hcx⟩; clear hcx
      have hst := hD.out.seen hown.out.isMap sKey_is sKey_inj hx1
      have HST := Lib.hid hst
      have hkey := keyOf_str x
      clear hst hx1 hll
      go_wp2_with (first
        | (at_mapUpdate; refine wpList_mapUpdate_own _ rfl _ _ _ 131 rfl 9 4 lawStr Tryz.underlying131 _ w.heap.size _ _ rfl hown.out (by unfold maxLen; omega) _ _ _ rfl rfl hkey _ [] (plainElem_bool Tryz.underlying4 true) ?_; intro w1 hown1 hgrow1)
        | go_in)
      go_roundw
      case rel => exact ⟨m + 1, by omega, by go_num, hb.grown hgrow1 hb.size (fun j hj => by cases hj; exact Nat.le_refl _), _, hown1, HST⟩
      case measure => simp [intOf]; omega
    · have e1 : m = l.length := by omega
      subst e1
      rw [List.take_length] at hD
      obtain ⟨wq, rfl⟩ : ∃ W, W = wr := ⟨_, rfl⟩
      clear hk2 hlt
      go_wp2_with fail
      go_loopw [7, 22] (fun _ i wr' => ∃ n : Nat, n ≤ l.length ∧ i = .int .i64 n ∧ Below w.heap.size w wr' ∧ Hid (l.take n).Nodup ∧ ∃ D, Hid (wr'.ownsMap Tryz.prog 9 (plainElem Tryz.prog 4) w.heap.size l.length D) ∧ Hid (SetIs sKey D fun y => memB l y && !memB (l.take n) y)) (fun _ i _ => l.length - (intOf i).toNat)
      case atStart => exact ⟨0, by omega, rfl, hb, by simp [Hid], D, hown, show Hid _ from hD.out.congr fun x => by simp [memB]⟩
      case round =>
        obtain ⟨n, hn2, rfl, hb', hnd, D', hown', hD'⟩ := hrel
        by_cases hlt' : n < l.length
        · obtain ⟨g, off, rfl, hgl, hcx⟩ := (HX.out.below hb').cell1 (f := fun l : List UInt8 => .string ⟨l.toArray⟩) (j := n) (by simpa using hlt')
          obtain ⟨x, hx1, hc0⟩ : ∃ x : SKey, l[n]? = some x ∧ wr.cell? ⟨g, off + n, none⟩ = some (.string ⟨x.1.toArray⟩) := ⟨l[n], List.getElem?_eq_getElem hlt', by simpa using hcx⟩; clear hcx
          have hat : _ = DataW.lit (Lit.bool (memB l x && !memB (l.take n) x)) := hD'.out x
          have hxl : x ∈ l := List.mem_of_getElem? hx1
          rw [memB_T hxl, Bool.true_and] at hat
          have hkey := keyOf_str x
          by_cases hin : x ∈ l.take n
          · have HR := Lib.hid (show true = (!nodupB l) from by simp [nodupB, not_nodup_of hx1 hin])
            rw [memB_T hin] at hat
            have HAT := Lib.hid hat
            clear hxl hin hat hx1
            go_wp2_with (first
              | (at_lookup; refine wpList_lookup_own_bool _ rfl _ _ 131 rfl 9 4 lawStr Tryz.underlying131 Tryz.underlying4 (zeroBool _) w.heap.size _ _ rfl hown'.out _ _ rfl hkey false HAT.out ?_)
              | go_in)
            go_ret
            exact OneB.bool HR.out hb'
          · rw [memB_F hin] at hat
            have HAT := Lib.hid hat
            have HND := Lib.hid (nodup_snoc hx1 hnd.out hin)
            have HST := Lib.hid (hD'.out.left sKey_inj hx1)
            clear hxl hin hat hx1 hnd
            go_wp2_with (first
              | (at_lookup; refine wpList_lookup_own_bool _ rfl _ _ 131 rfl 9 4 lawStr Tryz.underlying131 Tryz.underlying4 (zeroBool _) w.heap.size _ _ rfl hown'.out _ _ rfl hkey true HAT.out ?_)
              | (at_delete; refine wpList_delete_own _ rfl _ _ 131 9 rfl 4 lawStr Tryz.underlying131 _ w.heap.size _ _ rfl hown'.out _ _ rfl hkey ?_; intro w1 hown1 hturn1)
              | go_in)
            go_roundw
            case rel => exact ⟨n + 1, by omega, by go_num, hb'.grown hturn1.grown hb'.size (fun j hj => by cases hj; exact Nat.le_refl _), HND, _, hown1, HST⟩
            case measure => simp [intOf]; omega
        · have e1 : n = l.length := by omega
          subst e1
          have HR := Lib.hid (show false = (!nodupB l) from by
            have h := hnd.out
            rw [List.take_length] at h
            simp [nodupB, h])
          clear hnd hlt' hn2
          go_wp2
          go_ret
          exact OneB.bool HR.out hb'

theorem makeD (n : Int) (w : World) : (Instr.makeMap 132 (some (.int .i64 n))).run Tryz.prog w = .ok (.map (some w.heap.size)) (w.alloc (.map #[] 0)) := by
  simp [Instr.makeMap, run_underlying Tryz.underlying132, Go.asInt]
  rfl
set_option maxRecDepth 100000 in
set_option maxHeartbeats 4000000 in
theorem twiceD (A : Option Addr) (cap : Nat) (l : List DKey) (w : World) (hx : DotsAt w A (l.map (·.1))) (hm : l.length ≤ 100000) :
    Calls Tryz.prog 63 #[.slice A l.length cap] w (OneB (.bool (!nodupB l)) w) := by
  have hmm := makeD
  have HX := Lib.hid hx; clear hx
  have hll : (l.map (·.1)).length = l.length := by simp
  go_enter Tryz.func63, Tryz.ntmps63
  go_wp2_with fail
  go_loopw [5, 13] (fun _ i wr => ∃ m : Nat, m ≤ l.length ∧ i = .int .i64 m ∧ Below w.heap.size w wr ∧ ∃ D, Hid (wr.ownsMap Tryz.prog 63 (plainElem Tryz.prog 4) w.heap.size m D) ∧ Hid (SetIs dKey D fun y => memB (l.take m) y)) (fun _ i _ => l.length - (intOf i).toNat)
  case atStart => exact ⟨0, by omega, rfl, (Below.refl _ _).alloc (Nat.le_refl _) _, .map [], World.ownsMap_made _ _ _ _, SetIs.start.congr fun x => by simp [memB]⟩
  case round =>
    obtain ⟨m, hk2, rfl, hb, D, hown, hD⟩ := hrel
    by_cases hlt : m < l.length
    · obtain ⟨g, off, r, q, rfl, hgl, hx0, hc0, hc1⟩ := (HX.out.below hb).dot (j := m) (by simpa using hlt)
      obtain ⟨x, hx1, hxe⟩ : ∃ x : DKey, l[m]? = some x ∧ x.1 = (r, q) := by
        rw [List.getElem?_map, List.getElem?_eq_getElem hlt] at hx0
        exact ⟨l[m], List.getElem?_eq_getElem hlt, by simpa using hx0⟩
      clear hx0
      have hst := hD.out.seen hown.out.isMap dKey_is dKey_inj hx1
      have HST := Lib.hid hst
      have hkey := keyOf_dot x; rw [hxe] at hkey; dsimp only at hkey; have HXE := Lib.hid hxe; clear hxe
      clear hst hx1 hll
      go_wp2_with (first
        | (at_mapUpdate; refine wpList_mapUpdate_own _ rfl _ _ _ 132 rfl 63 4 lawDotK Tryz.underlying132 _ w.heap.size _ _ rfl (hown.out.alloc _) (by unfold maxLen; omega) _ _ _ rfl rfl hkey _ [] (plainElem_bool Tryz.underlying4 true) ?_; intro w1 hown1 hgrow1)
        | go_in)
      go_roundw
      case rel => exact ⟨m + 1, by omega, by go_num, (hb.alloc hb.size _).grown hgrow1 (by have := hb.size; simp; omega) (fun j hj => by cases hj; exact Nat.le_refl _), _, hown1, HST⟩
      case measure => simp [intOf]; omega
    · have e1 : m = l.length := by omega
      subst e1
      rw [List.take_length] at hD
      obtain ⟨wq, rfl⟩ : ∃ W, W = wr := ⟨_, rfl⟩
      clear hk2 hlt
      go_wp2_with fail
      go_loopw [7, 22] (fun _ i wr' => ∃ n : Nat, n ≤ l.length ∧ i = .int .i64 n ∧ Below w.heap.size w wr' ∧ Hid (l.take n).Nodup ∧ ∃ D, Hid (wr'.ownsMap Tryz.prog 63 (plainElem Tryz.prog 4) w.heap.size l.length D) ∧ Hid (SetIs dKey D fun y => memB l y && !memB (l.take n) y)) (fun _ i _ => l.length - (intOf i).toNat)
      case atStart => exact ⟨0, by omega, rfl, hb, by simp [Hid], D, hown, show Hid _ from hD.out.congr fun x => by simp [memB]⟩
      case round =>
        obtain ⟨n, hn2, rfl, hb', hnd, D', hown', hD'⟩ := hrel
        by_cases hlt' : n < l.length
        · obtain ⟨g, off, r, q, rfl, hgl, hx0, hc0, hc1⟩ := (HX.out.below hb').dot (j := n) (by simpa using hlt')
          obtain ⟨x, hx1, hxe⟩ : ∃ x : DKey, l[n]? = some x ∧ x.1 = (r, q) := by
            rw [List.getElem?_map, List.getElem?_eq_getElem hlt'] at hx0
            exact ⟨l[n], List.getElem?_eq_getElem hlt', by simpa using hx0⟩
          clear hx0
          have hat : _ = DataW.lit (Lit.bool (memB l x && !memB (l.take n) x)) := hD'.out x
          have hxl : x ∈ l := List.mem_of_getElem? hx1
          rw [memB_T hxl, Bool.true_and] at hat
          have hkey := keyOf_dot x; rw [hxe] at hkey; dsimp only at hkey; have HXE := Lib.hid hxe; clear hxe
          by_cases hin : x ∈ l.take n
          · have HR := Lib.hid (show true = (!nodupB l) from by simp [nodupB, not_nodup_of hx1 hin])
            rw [memB_T hin] at hat
            have HAT := Lib.hid hat
            clear hxl hin hat hx1
            go_wp2_with (first
              | (at_lookup; refine wpList_lookup_own_bool _ rfl _ _ 132 rfl 63 4 lawDotK Tryz.underlying132 Tryz.underlying4 (zeroBool _) w.heap.size _ _ rfl (hown'.out.alloc _) _ _ rfl hkey false HAT.out ?_)
              | go_in)
            go_ret
            exact OneB.bool HR.out (hb'.alloc hb'.size _)
          · rw [memB_F hin] at hat
            have HAT := Lib.hid hat
            have HND := Lib.hid (nodup_snoc hx1 hnd.out hin)
            have HST := Lib.hid (hD'.out.left dKey_inj hx1)
            clear hxl hin hat hx1 hnd
            go_wp2_with (first
              | (at_lookup; refine wpList_lookup_own_bool _ rfl _ _ 132 rfl 63 4 lawDotK Tryz.underlying132 Tryz.underlying4 (zeroBool _) w.heap.size _ _ rfl (hown'.out.alloc _) _ _ rfl hkey true HAT.out ?_)
              | (at_delete; refine wpList_delete_own _ rfl _ _ 132 63 rfl 4 lawDotK Tryz.underlying132 _ w.heap.size _ _ rfl (hown'.out.alloc _) _ _ rfl hkey ?_; intro w1 hown1 hturn1)
              | go_in)
            go_roundw
            case rel => exact ⟨n + 1, by omega, by go_num, (hb'.alloc hb'.size _).grown hturn1.grown (by have := hb'.size; simp; omega) (fun j hj => by cases hj; exact Nat.le_refl _), HND, _, hown1, HST⟩
            case measure => simp [intOf]; omega
        · have e1 : n = l.length := by omega
          subst e1
          have HR := Lib.hid (show false = (!nodupB l) from by
            have h := hnd.out
            rw [List.take_length] at h
            simp [nodupB, h])
          clear hnd hlt' hn2
          go_wp2
          go_ret
          exact OneB.bool HR.out hb'

end

end Go.Proofs.YtfmhhmceoikgpaaGreat
