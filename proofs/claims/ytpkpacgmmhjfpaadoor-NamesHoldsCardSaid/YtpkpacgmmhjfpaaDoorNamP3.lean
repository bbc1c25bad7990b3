/- strings.IndexAny at spaces and quotation marks, at every line. -/
import Derived.Test.YtpkpacgmmhjfpaaDoorNamP2
import Derived.Laws.Runes
import Derived.Lib.OthersKept
import Derived.Lib.QuoteLoop
import Derived.Deep.LoopGhost
import Derived.WalkMore
namespace Go.Proofs.YtpkpacgmmhjfpaaDoor
open Go.RowKit

theorem lIndexByte (l : List UInt8) (c : UInt8) (w : World) : Calls Tryd.prog 78 #[.string ⟨l.toArray⟩, .int .u8 (c.toNat : Int)] w (One (.int .i64 (Lib.indexByte l c)) w) := by
  have e : ((c.toNat : Int)).toNat.toUInt8 = c := by simp
  go_enter Tryd.func78, Tryd.ntmps78
  go_wp2_with fail
  rw [run_callFunc_extern Tryd.func68 (by kernel_rfl) (by kernel_rfl) (by kernel_rfl) (e := Extern.BytealgIndexByte.indexByte) (by kernel_rfl), Lib.run_indexByteString]
  simp only [Result.andThen]
  rw [Oper.upon_value, e]
  go_wp2_with fail
  go_ret
  exact ⟨rfl, rfl⟩
theorem tIndexByte (l : List UInt8) (c : UInt8) (w : World) : Calls Tryd.prog 75 #[.string ⟨l.toArray⟩, .int .u8 (c.toNat : Int)] w (One (.int .i64 (Lib.indexByte l c)) w) := by
  have H := Lib.hid (lIndexByte l c w)
  generalize Lib.indexByte l c = n at *
  go_enter Tryd.func75, Tryd.ntmps75
  go_wp2_with fail
  refine H.out.mono ?_
  rintro e w1 ⟨rfl, rfl⟩
  go_wp2_with fail
  go_ret
  exact ⟨rfl, rfl⟩
set_option maxRecDepth 100000 in
set_option maxHeartbeats 4000000 in
/-- A rune that is no byte below 128 is neither a space nor a quotation mark: encoded in n bytes. -/
theorem runeEnc (r : Int) (E : ByteArray) (x : UInt8) (n : Nat) (w : World) (h0 : 128 ≤ r) (hf : r ≠ 65533) (hv : Utf8.valid r = true) (hE : Utf8.encode r = E) (hn : E.size = n) (h2 : 2 ≤ n) (h4 : n ≤ 4) (hx : ∀ h : n - 1 < E.size, E[n - 1]'h = x) (hx8 : 128 ≤ x.toNat) :
    Calls Tryd.prog 63 #[.string ⟨#[32, 34]⟩, .int .i32 r] w (OneB (.int .i64 (-1)) w) := by
  have HV := Lib.hid (show Calls Tryd.prog 72 #[.int .i32 r] w fun e w' => e = .returned (.bool true) ∧ w = w' from
    (Any.utf8_ValidRune Tryd.laysRune r w).mono fun e w' ⟨he, hw⟩ => ⟨by rw [he]; congr 2; unfold Lib.validRune; unfold Utf8.valid at hv; simp at hv ⊢; omega, hw.symm⟩)
  have k1 : (0 : Int) ≤ r := by omega
  have k2 : ¬ r < 128 := by omega
  have k3 : (r == 65533) = false := eqF hf
  have hcv : ∀ W : World, (convert 21 9 (.int .i32 r)).run Tryd.prog W = .ok (.string E) W := fun W => by
    rw [← hE]; exact run_convert_int_string W _ _ _ _ (by rw [Tryd.underlying21]; rfl) Tryd.underlying9
  have h8 := toNat8 x
  clear hv hE hf h0
  obtain rfl | rfl | rfl : n = 2 ∨ n = 3 ∨ n = 4 := by omega
  · have hx' : ∀ h : 1 < E.size, E[1]'h = x := hx
    have hz : ∀ h : 1 < (ByteArray.mk #[32, 34]).size, (ByteArray.mk #[32, 34])[1]'h = 34 := fun _ => rfl
    have hs2 : (ByteArray.mk #[32, 34]).size = 2 := rfl
    have hne : ((34 : Int) != (x.toNat : Int)) = true := neT (by omega)
    have hex : (ByteArray.mk #[32, 34]).extract 2 2 = ⟨#[]⟩ := by decide
    have HI := Lib.hid (fun W => tIndexByte [] x W)
    clear hx hx8
    go_enter Tryd.func63, Tryd.ntmps63
    go_wp2_with fail
    refine HV.out.mono ?_
    rintro e w1 ⟨rfl, rfl⟩
    clear HV
    go_wp2_with fail
    go_step3
    go_wp2_with fail
    go_loopw [9] (fun s9 wr => s9 = .int .i64 1 ∧ w = wr) (fun _ _ => 0)
    case atStart => exact ⟨rfl, by trivial⟩
    case round =>
      obtain ⟨rfl, hw⟩ := hrel
      subst hw
      go_wp2_with fail
      go_step3
      go_wp2_with fail
      go_region
      all_goals
        go_wp2_with fail
        refine wp_region_far (by kernel_rfl) (by kernel_rfl) ?_
        repeat (go_big_quiet_step (((go_at_call 75; exact far_of_same (HI.out _)))))
        refine wpQuiet_nil ?_
        rintro _ ⟨p, rfl⟩
        go_wp2_with fail
        try rw [Exit.noGoto_ret]
        go_ret
        exact ⟨rfl, below_trans (Below.refl _ _).drew (below_far _ _)⟩
  · clear hx hx8
    have hs2 : (ByteArray.mk #[32, 34]).size = 2 := rfl
    go_enter Tryd.func63, Tryd.ntmps63
    go_wp2_with fail
    refine HV.out.mono ?_
    rintro e w1 ⟨rfl, rfl⟩
    clear HV
    go_wp2_with fail
    go_step3
    go_wp2_with fail
    go_loopw [9] (fun s9 wr => s9 = .int .i64 2 ∧ w = wr) (fun _ _ => 0)
    case atStart => exact ⟨rfl, by trivial⟩
    case round =>
      obtain ⟨rfl, hw⟩ := hrel
      subst hw
      go_wp2_with fail
      try rw [Exit.noGoto_ret]
      go_ret
      exact ⟨rfl, Below.refl _ _⟩
  · clear hx hx8
    have hs2 : (ByteArray.mk #[32, 34]).size = 2 := rfl
    go_enter Tryd.func63, Tryd.ntmps63
    go_wp2_with fail
    refine HV.out.mono ?_
    rintro e w1 ⟨rfl, rfl⟩
    clear HV
    go_wp2_with fail
    go_step3
    go_wp2_with fail
    go_loopw [9] (fun s9 wr => s9 = .int .i64 3 ∧ w = wr) (fun _ _ => 0)
    case atStart => exact ⟨rfl, by trivial⟩
    case round =>
      obtain ⟨rfl, hw⟩ := hrel
      subst hw
      go_wp2_with fail
      try rw [Exit.noGoto_ret]
      go_ret
      exact ⟨rfl, Below.refl _ _⟩
set_option maxRecDepth 100000 in
set_option maxHeartbeats 4000000 in
theorem runeBad (w : World) : Calls Tryd.prog 63 #[.string ⟨#[32, 34]⟩, .int .i32 65533] w (OneB (.int .i64 (-1)) w) := by
  have hs2 : (ByteArray.mk #[32, 34]).size = 2 := rfl
  go_enter Tryd.func63, Tryd.ntmps63
  go_wp2_with fail
  go_loopw [] (fun wr => ∃ i : Nat, i ≤ 2 ∧ wr = w.iter ⟨#[32, 34]⟩ i) (fun wr => 2 - wr.iterPos w.heap.size)
  case atStart => exact ⟨0, by omega, rfl⟩
  case round =>
    obtain ⟨i, hi, rfl⟩ := hrel
    rcases (show i = 0 ∨ i = 1 ∨ i = 2 by omega) with rfl | rfl | rfl
    · have hnx := fun ty => run_next_ascii (P := Tryd.prog) w ⟨#[32, 34]⟩ 0 ty (by decide) (by decide)
      go_wp2_with fail
      go_roundw
      case rel => exact ⟨1, by omega, rfl⟩
      case measure => simp
    · have hnx := fun ty => run_next_ascii (P := Tryd.prog) w ⟨#[32, 34]⟩ 1 ty (by decide) (by decide)
      go_wp2_with fail
      go_roundw
      case rel => exact ⟨2, by omega, rfl⟩
      case measure => simp
    · have hnx := fun ty => run_next_end (P := Tryd.prog) w ⟨#[32, 34]⟩ 2 ty (by decide)
      go_wp2_with fail
      go_ret
      exact ⟨rfl, (Below.refl _ _).alloc (Nat.le_refl _) _⟩
theorem runeHi (r : Int) (w : World) (h0 : 128 ≤ r) (hv : Utf8.valid r = true) : Calls Tryd.prog 63 #[.string ⟨#[32, 34]⟩, .int .i32 r] w (OneB (.int .i64 (-1)) w) := by
  by_cases hf : r = 65533
  · rw [hf]; exact runeBad w
  · obtain ⟨h2, h4, h8⟩ := encode_facts r hv h0
    have hlt : (Utf8.encode r).size - 1 < (Utf8.encode r).size := by omega
    exact runeEnc r (Utf8.encode r) ((Utf8.encode r)[(Utf8.encode r).size - 1]'hlt) _ w h0 hf hv rfl rfl h2 h4 (fun _ => rfl) (h8 hlt)
set_option maxRecDepth 100000 in
set_option maxHeartbeats 4000000 in
theorem runeLo (r : Nat) (w : World) (h : r < 128) : Calls Tryd.prog 63 #[.string ⟨#[32, 34]⟩, .int .i32 (r : Int)] w (One (.int .i64 (Lib.indexByte [32, 34] (UInt8.ofNat r))) w) := by
  have k1 : (0 : Int) ≤ (r : Int) := by omega
  have k2 : (r : Int) < 128 := by omega
  have hr : (UInt8.ofNat r).toNat = r := ofNat_toNat (by omega)
  have ew : IntKind.u8.wrap (r : Int) = (r : Int) := by simp [IntKind.wrap, IntKind.bits, IntKind.signed]; omega
  have H0 := tIndexByte [32, 34] (UInt8.ofNat r) w
  rw [hr] at H0
  have H := Lib.hid H0
  clear H0 hr
  generalize Lib.indexByte [32, 34] (UInt8.ofNat r) = n at *
  go_enter Tryd.func63, Tryd.ntmps63
  go_wp2_with fail
  refine H.out.mono ?_
  rintro e w1 ⟨rfl, rfl⟩
  go_wp2_with fail
  go_ret
  exact ⟨rfl, rfl⟩
theorem decode_valid (s : ByteArray) (pos : Nat) : Utf8.valid ((Utf8.decode s pos).1 : Int) = true := by
  rw [Lib.decode_at]
  have h := Lib.decodeN_valid (s.size - pos) (s.get! pos).toNat (s.get! (pos + 1)).toNat (s.get! (pos + 2)).toNat (s.get! (pos + 3)).toNat (s.get! pos).toNat_lt
  unfold Utf8.valid
  simp
  omega
theorem useSet (n : Nat) (b : Bool) (w : World) (hb : decide (8 < n) = b) : Calls Tryd.prog 64 #[.int .i64 (n : Int)] w (One (.bool b) w) := by
  have e : decide ((8 : Int) < (n : Int)) = b := by rw [← hb]; simp; omega
  go_enter Tryd.func64, Tryd.ntmps64
  go_wp2_with fail
  go_ret
  exact ⟨rfl, rfl⟩
theorem rune_step2 (l : List UInt8) (pos : Nat) (hp : pos < l.length) (r n : Nat) (hd : Utf8.decode ⟨l.toArray⟩ pos = (r, n)) :
    1 ≤ n ∧ pos + n ≤ l.length ∧ (r < 128 → n = 1 ∧ r = l[pos].toNat) ∧ (128 ≤ r → ∀ c ∈ (l.drop pos).take n, 128 ≤ c.toNat) := by
  have hlist : (ByteArray.mk l.toArray).data.toList = l := rfl
  have hN := Lib.decode_N ⟨l.toArray⟩ pos
  rw [hlist, hd] at hN
  have h0 : l.getD pos 0 = l[pos] := by simp [List.getD, hp]
  have hc := Lib.decodeN_conts (l.length - pos) (l.getD pos 0).toNat (l.getD (pos + 1) 0).toNat (l.getD (pos + 2) 0).toNat (l.getD (pos + 3) 0).toNat
  rw [← hN] at hc
  obtain ⟨c2, c3, c4, c5⟩ := hc
  simp only at c2 c3 c4 c5
  have w1 : 1 ≤ n := by
    have := Lib.width_pos ⟨l.toArray⟩ pos
    rw [hd] at this
    exact this
  have hmem : ∀ c ∈ (l.drop pos).take n, ∃ k, k < n ∧ c = l.getD (pos + k) 0 := by
    intro c hc
    obtain ⟨k, hk, e⟩ := List.getElem_of_mem hc
    rw [List.length_take, List.length_drop] at hk
    refine ⟨k, by omega, ?_⟩
    rw [← e, List.getElem_take, List.getElem_drop]
    simp [List.getD, show pos + k < l.length by omega]
  refine ⟨w1, by omega, fun hr => ?_, fun hr c hc => ?_⟩
  · have ha : l[pos].toNat < 128 := by
      rcases Nat.lt_or_ge l[pos].toNat 128 with h | h
      · exact h
      · exfalso
        have e : r = (Lib.decodeN (l.length - pos) (l.getD pos 0).toNat (l.getD (pos + 1) 0).toNat (l.getD (pos + 2) 0).toNat (l.getD (pos + 3) 0).toNat).1 := by rw [← hN]
        rw [h0] at e
        unfold Lib.decodeN at e
        rw [if_neg (by omega)] at e
        repeat' split at e
        all_goals (simp only at e; omega)
    have e : (r, n) = (l[pos].toNat, 1) := by
      rw [hN, h0]
      unfold Lib.decodeN
      rw [if_pos ha]
    cases e
    exact ⟨rfl, rfl⟩
  · have ha : ¬ l[pos].toNat < 128 := by
      intro ha
      have e : (r, n) = (l[pos].toNat, 1) := by
        rw [hN, h0]
        unfold Lib.decodeN
        rw [if_pos ha]
      cases e
      omega
    obtain ⟨k, hk, rfl⟩ := hmem c hc
    match k, hk with
    | 0, _ => rw [Nat.add_zero, h0]; omega
    | 1, hk => have := (c2 (by omega)).1; omega
    | 2, hk => have := (c3 (by omega)).1; omega
    | 3, hk => have := (c4 (by omega)).1; omega
    | k + 4, hk => omega
theorem NoAny.more {l : List UInt8} {pos n : Nat} (h : Lib.NoAny l [32, 34] pos) (hn : pos + n ≤ l.length) (hc : ∀ c ∈ (l.drop pos).take n, 128 ≤ c.toNat) : Lib.NoAny l [32, 34] (pos + n) := fun j b hj hb => by
  by_cases hlt : j < pos
  · exact h j b hlt hb
  · have hm : b ∈ (l.drop pos).take n := by
      refine List.mem_of_getElem? (i := j - pos) ?_
      rw [List.getElem?_take, if_pos (by omega), List.getElem?_drop, show pos + (j - pos) = j by omega]
      exact hb
    have := hc b hm
    simp
    constructor
    · intro e; subst e; exact absurd this (by decide)
    · intro e; subst e; exact absurd this (by decide)
set_option maxRecDepth 100000 in
set_option maxHeartbeats 4000000 in
theorem anyShort (l : List UInt8) (w : World) (h8 : l.length ≤ 8) :
    Calls Tryd.prog 50 #[.string ⟨l.toArray⟩, .string ⟨#[32, 34]⟩] w (OneB (.int .i64 (Lib.indexAny l [32, 34])) w) := by
  have hsz := size_mk l
  have hs2 : (ByteArray.mk #[32, 34]).size = 2 := rfl
  have HU := Lib.hid (useSet l.length false w (by simp; omega))
  have HE := Lib.hid (show Lib.NoAny l [32, 34] l.length → Lib.indexAny l [32, 34] = -1 from Lib.indexAny_none)
  have HH := Lib.hid (fun (i : Nat) (x : UInt8) (h1 : Lib.NoAny l [32, 34] i) (h2 : l[i]? = some x) (h3 : ([32, 34] : List UInt8).contains x = true) => Lib.indexAny_hit h1 h2 h3)
  generalize Lib.indexAny l [32, 34] = ans at *
  go_enter Tryd.func50, Tryd.ntmps50
  go_wp2_with fail
  refine HU.out.mono ?_
  rintro e w1 ⟨rfl, rfl⟩
  clear HU
  go_wp2_with fail
  go_loopg [9, 10] (l.length + 1) (fun gk _ _ wr => ∃ i : Nat, i < l.length + 1 ∧ l.length < i + gk ∧ Hid (wr.heap[w.heap.size]? = some (.stringIter ⟨l.toArray⟩ i)) ∧ Hid (Below w.heap.size w wr) ∧ Hid (Lib.NoAny l [32, 34] i))
  case atStart => exact ⟨0, by omega, by omega, World.iter_heap _ _ _, (Below.refl _ _).alloc (Nat.le_refl _) _, Lib.NoAny.zero _ _⟩
  case round =>
    obtain ⟨i, hi, hgk, HI, HB, HN⟩ := hrel
    by_cases hlt : i < l.length
    · obtain ⟨g', rfl⟩ : ∃ g', gk = g' + 1 := ⟨gk - 1, by omega⟩
      obtain ⟨r, n, hd⟩ : ∃ r n, Utf8.decode ⟨l.toArray⟩ i = (r, n) := ⟨_, _, rfl⟩
      obtain ⟨w1, w2, w3, w4⟩ := rune_step2 l i hlt r n hd
      have hval := decode_valid ⟨l.toArray⟩ i
      have hnx := fun ty => Lib.run_next_any_at (P := Tryd.prog) wr w.heap.size ⟨l.toArray⟩ i ty HI.out (by rw [hsz]; exact hlt)
      rw [hd] at hnx hval
      simp only at hnx hval
      have hit2 := Lib.iterAt_heap wr w.heap.size ⟨l.toArray⟩ i (i + n) HI.out
      have hbw2 := Lib.below_iterAt HB.out (k := w.heap.size) (Nat.le_refl _) ⟨l.toArray⟩ (i + n)
      obtain ⟨W, hWd⟩ : ∃ W, wr.iterAt w.heap.size ⟨l.toArray⟩ (i + n) = W := ⟨_, rfl⟩
      rw [hWd] at hnx hit2 hbw2
      have HI2 := Lib.hid hit2
      have HB2 := Lib.hid hbw2
      clear hit2 hbw2 hWd hd HI HB
      by_cases hr : r < 128
      · obtain ⟨rfl, hrl⟩ := w3 hr
        have hx : UInt8.ofNat r = l[i] := by rw [hrl]; simp
        have HC := runeLo r W hr
        rw [hx] at HC
        have hcon := Lib.contains_iff_indexByte [32, 34] l[i]
        have HG := Lib.hid (show l[i]? = some l[i] from List.getElem?_eq_getElem hlt)
        cases hin : ([32, 34] : List UInt8).contains l[i] with
        | false =>
          rw [hin] at hcon
          have HN2 := Lib.hid (HN.out.succ HG.out hin)
          have hlt0 : ¬ ((0 : Int) ≤ Lib.indexByte [32, 34] l[i]) := of_decide_eq_false hcon.symm
          generalize Lib.indexByte [32, 34] l[i] = m at HC hlt0
          have HCH := Lib.hid HC
          clear HC hin hcon hx hrl HG w1 w2 w3 w4 hval
          go_wp2_with fail
          refine HCH.out.mono ?_
          rintro e w5 ⟨rfl, rfl⟩
          go_wp2_with fail
          go_roundg g'
          case measure => omega
          case rel => exact ⟨i + 1, by omega, by omega, HI2, HB2, HN2⟩
        | true =>
          rw [hin] at hcon
          have HA := Lib.hid (HH.out i _ HN.out HG.out hin)
          have hge : (0 : Int) ≤ Lib.indexByte [32, 34] l[i] := of_decide_eq_true hcon.symm
          generalize Lib.indexByte [32, 34] l[i] = m at HC hge
          have HCH := Lib.hid HC
          clear HC hin hcon hx hrl HG w1 w2 w3 w4 hval
          go_wp2_with fail
          refine HCH.out.mono ?_
          rintro e w5 ⟨rfl, rfl⟩
          go_wp2_with fail
          go_ret
          exact OneB.int HA.out.symm HB2.out
      · have HN2 := Lib.hid (NoAny.more HN.out w2 (w4 (by omega)))
        have HCH := Lib.hid (runeHi (r : Int) W (by omega) hval)
        clear w3 w4 hval
        go_wp2_with fail
        refine HCH.out.mono ?_
        rintro e w5 ⟨rfl, hb⟩
        have hwl : w.heap.size < W.heap.size := (Array.getElem?_eq_some_iff.1 HI2.out).1
        have HB3 := Lib.hid (below_trans HB2.out hb)
        have HI3 := Lib.hid (show w5.heap[w.heap.size]? = some (.stringIter ⟨l.toArray⟩ (i + n)) from (hb.block _ hwl).trans HI2.out)
        clear hb hwl
        go_wp2_with fail
        go_roundg g'
        case measure => omega
        case rel => exact ⟨i + n, by omega, by omega, HI3, HB3, HN2⟩
    · obtain rfl : i = l.length := by omega
      have hnx := fun ty => Lib.run_next_end_at (P := Tryd.prog) wr w.heap.size ⟨l.toArray⟩ l.length ty HI.out (by rw [hsz]; omega)
      have HA := Lib.hid (HE.out HN.out)
      clear hlt hi hgk
      go_wp2_with fail
      go_ret
      exact OneB.int HA.out.symm HB.out
/-- strings.IndexAny at a space and a quotation mark. -/
theorem indexAnyQ (l : List UInt8) (w : World) (hl : l.length ≤ 1000000) :
    Calls Tryd.prog 50 #[.string ⟨l.toArray⟩, .string ⟨#[32, 34]⟩] w (OneB (.int .i64 (Lib.indexAny l [32, 34])) w) := by
  have hsz := size_mk l
  by_cases h8 : l.length ≤ 8
  · exact anyShort l w h8
  · have h116 : (Tryd.prog.info? (Tryd.laysAny_ren.t 116)).map (fun i => (i.zero, i.size)) = some (some (.agg (Array.replicate 256 (.bool false))), 256) := by kernel_rfl
    refine (Any.strings_IndexAny_long Tryd.laysAny (zero_of_info h116).1 (zero_of_info h116).2 ⟨l.toArray⟩ ⟨#[32, 34]⟩ w (by decide) (by omega) (by omega) (by decide) ?_).mono fun e w' ⟨h1, h2⟩ => ⟨h1, ?_⟩
    · intro j b hb
      match j, hb with
      | 0, hb => cases hb; decide
      | 1, hb => cases hb; decide
      | j + 2, hb => simp at hb
    · rw [h2]
      exact ((Below.refl _ _).alloc (Nat.le_refl _) _).alloc (by simp) _
end Go.Proofs.YtpkpacgmmhjfpaaDoor
