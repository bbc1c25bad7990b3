/- The reference's First. -/
import Derived.Test.YtpkpacgmmhjfpaaDoorNamE
import Derived.Deep.CutBlock
namespace Go.Proofs.YtpkpacgmmhjfpaaDoor
open Go.RowKit

/-- What First returns. -/
def firstV : Option (List UInt8 × Nat) → Value
  | some (x, n) => .tuple #[.string ⟨x.toArray⟩, .int .i64 (n : Int), .bool true]
  | none => .tuple #[.string ⟨#[]⟩, .int .i64 0, .bool false]
theorem firstV_none {o : Option (List UInt8 × Nat)} {w w' : World} (h : o = none) (hb : Below w.heap.size w w') : OneB (firstV o) w (.returned (.tuple #[.string ⟨#[]⟩, .int .i64 0, .bool false])) w' := by subst h; exact ⟨rfl, hb⟩
theorem firstV_some {o : Option (List UInt8 × Nat)} {x : List UInt8} {n : Nat} {i : Int} {w w' : World} (h : o = some (x, n)) (hi : i = (n : Int)) (hb : Below w.heap.size w w') : OneB (firstV o) w (.returned (.tuple #[.string ⟨x.toArray⟩, .int .i64 i, .bool true])) w' := by subst h; subst hi; exact ⟨rfl, hb⟩
theorem extract_drop (l : List UInt8) (m : Nat) : (ByteArray.mk l.toArray).extract m l.length = ⟨(l.drop m).toArray⟩ := by
  apply ByteArray.ext
  rw [ByteArray.data_extract]
  apply Array.toList_inj.1
  rw [Array.toList_extract]
  show (l.drop m).take (l.length - m) = l.drop m
  exact List.take_of_length_le (by rw [List.length_drop]; exact Nat.le_refl _)
/-- Where the search for a byte stands: R is what is left of the text at m, xs what was read. -/
def InTo (R xs : List UInt8) (m j : Nat) (ys : List UInt8) (p : Nat) : Bool → Prop
  | true => ∃ c n, deOne R = some (c, n) ∧ ys = xs ++ [c] ∧ p = m + n
  | false => ys = xs ∧ p = m ∧ ∀ c : UInt8, c.toNat < j → deOne R ≠ some (c, (oneN c).length)
theorem deOne_iff {R : List UInt8} {c : UInt8} : (oneN c).isPrefixOf R = true ↔ deOne R = some (c, (oneN c).length) := by
  rw [List.isPrefixOf_iff_prefix]
  constructor
  · rintro ⟨t, rfl⟩
    exact deOne_one c t
  · intro h
    exact ⟨_, (deOne_some h).2.symm⟩
theorem InTo.next {R xs : List UInt8} {m j : Nat} {ys : List UInt8} {p : Nat} {c : UInt8} (h : InTo R xs m j ys p false) (hc : c.toNat = j) (hn : (oneN c).isPrefixOf R = false) : InTo R xs m (j + 1) ys p false :=
  ⟨h.1, h.2.1, fun d hd e => by
    by_cases hdj : d.toNat < j
    · exact h.2.2 d hdj e
    · have : d = c := UInt8.toNat_inj.1 (by omega)
      subst this
      rw [deOne_iff.2 e] at hn
      cases hn⟩
theorem InTo.found {R xs : List UInt8} {m j : Nat} {ys : List UInt8} {p : Nat} {c : UInt8} (h : InTo R xs m j ys p false) (hy : (oneN c).isPrefixOf R = true) (k : Nat) : InTo R xs m k (ys ++ [c]) (p + (oneN c).length) true :=
  ⟨c, _, deOne_iff.1 hy, by rw [h.1], by rw [h.2.1]⟩
theorem InTo.none {R xs : List UInt8} {m : Nat} {ys : List UInt8} {p : Nat} (h : InTo R xs m 256 ys p false) : deOne R = none := by
  cases e : deOne R with
  | none => rfl
  | some x =>
    obtain ⟨c, n⟩ := x
    have h1 := (deOne_some e).1
    exact absurd (by rw [e, h1]) (h.2.2 c (toNat8 c))
theorem RowB.at {w : World} {B : Nat} {D : Option Addr} {d : Nat} {xs : List UInt8} (h : RowB w B (.slice D xs.length d) xs) : BytesAt w D xs := by
  obtain ⟨_, _, e, h1, _⟩ := HoldsB.of_own h
  cases e
  exact h1
theorem rowB_one {w : World} {c : UInt8} : BytesAt (w.alloc (.cells #[.int .u8 c.toNat] 5)) (some ⟨w.heap.size, 0, none⟩) [c] := SlAt.one (t := 5) (heap_alloc_new w _)

theorem prefix34 (l : List UInt8) : ([34] : List UInt8).isPrefixOf l = decide (l[0]? = some 34) := by
  match l with
  | [] => rfl
  | a :: r =>
    show ((34 : UInt8) == a && ([] : List UInt8).isPrefixOf r) = decide (some a = some (34 : UInt8))
    rw [List.isPrefixOf_nil_left, Bool.and_true, Bool.eq_iff_iff, beq_iff_eq, decide_eq_true_iff, Option.some.injEq]
    exact eq_comm
theorem firstN_no {l : List UInt8} (h : ([34] : List UInt8).isPrefixOf l = false) : firstN l = none := by
  rw [prefix34, decide_eq_false_iff_not] at h
  match l with
  | [] => rfl
  | a :: r =>
    have : a.toNat ≠ 34 := fun e => h (congrArg some (UInt8.toNat_inj.1 e))
    unfold firstN
    dsimp only
    rw [if_neg this]
theorem firstN_yes {l : List UInt8} (h : ([34] : List UInt8).isPrefixOf l = true) : 1 ≤ l.length ∧ firstN l = (bodyN (l.drop 1)).map fun y => ([] ++ y.1, 1 + y.2) := by
  rw [prefix34, decide_eq_true_iff] at h
  match l with
  | [] => cases h
  | a :: r =>
    have e : a = 34 := Option.some.inj h
    subst e
    refine ⟨Nat.le_add_left _ _, ?_⟩
    unfold firstN
    dsimp only
    rw [if_pos (by decide)]
    show _ = (bodyN r).map _
    congr 1
    funext y
    rw [Nat.add_comm]
    rfl

set_option maxRecDepth 100000 in
set_option maxHeartbeats 4000000 in
theorem refFirst (l : List UInt8) (w : World) (hl : l.length ≤ 100000) :
    Calls Tryd.prog 28 #[.string ⟨l.toArray⟩] w (OneB (firstV (firstN l)) w) := by
  obtain ⟨ti0, hi0, hz0, hz1, hz2⟩ := info_parts infoB
  have hsz := size_mk l
  have HSt := Lib.hid (refStarts l [34] w (by omega) (by decide))
  by_cases h34 : ([34] : List UInt8).isPrefixOf l = true
  case neg =>
    have hf : ([34] : List UInt8).isPrefixOf l = false := by cases h : ([34] : List UInt8).isPrefixOf l with | false => rfl | true => exact absurd h h34
    rw [hf] at HSt
    have HN := Lib.hid (firstN_no hf)
    clear hf h34
    go_enter Tryd.func28, Tryd.ntmps28
    go_wp2_with fail
    refine HSt.out.mono ?_
    rintro e w1 ⟨rfl, rfl⟩
    go_wp2_with fail
    go_ret3
    exact firstV_none HN.out (Below.refl _ _)
  rw [h34] at HSt
  obtain ⟨hlen, hF0⟩ := firstN_yes h34
  have HF := Lib.hid hF0
  clear hF0
  clear h34
  go_enter Tryd.func28, Tryd.ntmps28
  go_wp2_with fail
  refine HSt.out.mono ?_
  rintro e w1 ⟨rfl, rfl⟩
  clear HSt
  go_wp2_with fail
  go_loopw [5, 6] (fun s5 s6 wr => ∃ (m : Nat) (D : Option Addr) (d : Nat) (xs : List UInt8), m ≤ l.length ∧ xs.length ≤ m ∧ s5 = .slice D xs.length d ∧ s6 = .int .i64 m ∧ Hid (RowB wr w.heap.size (.slice D xs.length d) xs) ∧ Hid (Below w.heap.size w wr) ∧ Hid (firstN l = (bodyN (l.drop m)).map fun y => (xs ++ y.1, m + y.2))) (fun _ s6 _ => l.length - (intOf s6).toNat)
  case atStart => exact ⟨1, none, 0, [], by omega, by simp, rfl, rfl, World.ownsRow_nil _ _ _ _, Below.refl _ _, HF⟩
  case round =>
    clear HF
    obtain ⟨m, D, d, xs, hm, hxm, rfl, rfl, HO, HB, HQ⟩ := hrel
    by_cases hlt : m < l.length
    · have i0 : (m : Int) < (l.length : Int) := by omega
      obtain ⟨b, hb⟩ : ∃ b, l[m] = b := ⟨_, rfl⟩
      have hx := str_at hlt
      rw [hb] at hx
      have hx2 : l[m] = b := hb
      have hdr : l.drop m = b :: l.drop (m + 1) := by rw [List.drop_eq_getElem_cons hlt, hb]
      by_cases hb34 : b.toNat = 34
      · have k0 : ((b.toNat : Int) != 34) = false := neF (by omega)
        have HN := Lib.hid (show firstN l = some (xs, m + 1) from by rw [HQ.out, hdr, bodyN_end hb34]; simp)
        have i1 : ¬ (l.length : Int) ≤ (m : Int) := by omega
        have hcv := convAt wr D d xs (RowB.at HO.out)
        clear hdr hb34
        go_wp2_with fail
        go_ret3
        exact firstV_some HN.out (by omega) HB.out
      · have k0 : ((b.toNat : Int) != 34) = true := neT (by omega)
        have HD34 := Lib.hid (show ∀ a, (l.drop m)[0]? = some a → a.toNat ≠ 34 from fun a ha => by rw [hdr] at ha; cases ha; exact hb34)
        obtain ⟨R, hR⟩ : ∃ R, l.drop m = R := ⟨_, rfl⟩
        have hRl : R.length ≤ 100000 := by rw [← hR, List.length_drop]; omega
        have hRn : R.length = l.length - m := by rw [← hR, List.length_drop]
        have HRL := Lib.hid (show R.length ≤ 100000 ∧ R.length = l.length - m from ⟨hRl, hRn⟩)
        have ex := extract_drop l m
        rw [hR] at ex HD34 HQ
        have i2 : (m : Int) ≤ (l.length : Int) := by omega
        clear hb34 hdr
        go_wp2_with fail
        obtain ⟨wq, rfl⟩ : ∃ W, W = wr := ⟨_, rfl⟩
        go_loopw [5, 6, 7, 8] (fun s5 s6 s7 s8 wr => ∃ (j p : Nat) (f : Bool) (D : Option Addr) (d : Nat) (ys : List UInt8), j ≤ 256 ∧ s5 = .slice D ys.length d ∧ s6 = .int .i64 p ∧ s7 = .bool f ∧ s8 = .int .i64 j ∧ Hid (RowB wr w.heap.size (.slice D ys.length d) ys) ∧ Hid (Below w.heap.size w wr) ∧ Hid (InTo R xs m j ys p f)) (fun _ _ _ s8 _ => 256 - (intOf s8).toNat)
        case atStart => exact ⟨0, m, false, D, d, xs, by omega, rfl, rfl, rfl, rfl, HO, HB, ⟨rfl, rfl, fun c hc => by omega⟩⟩
        case round =>
          clear HO HB
          obtain ⟨j, p, f, E, d2, ys, hj, rfl, rfl, rfl, rfl, HO, HB, HI⟩ := hrel
          cases f with
          | true =>
            obtain ⟨c, n, hde, hys, hp⟩ := HI.out
            have hn := deOne_lt hde
            have hrl := HRL.out.2
            have HS := Lib.hid (show firstN l = (bodyN (l.drop p)).map fun y => (ys ++ y.1, p + y.2) from by
              rw [HQ.out, bodyN_next HD34.out hde, Option.map_map, show R.drop n = l.drop p from by rw [← hR, List.drop_drop, hp], hys, hp]
              congr 1
              funext y
              simp [Nat.add_assoc])
            have hyl : ys.length ≤ p := by rw [hys, List.length_append, List.length_singleton]; omega
            have hpl : p ≤ l.length := by omega
            have hpm : m < p := by omega
            clear hde hys hp hn hrl
            by_cases hj2 : j < 256
            · have i3 : (j : Int) < 256 := by omega
              clear hj2
              go_wp2_with fail
              go_roundw
              case rel => exact ⟨p, E, d2, ys, hpl, hyl, rfl, rfl, HO, HB, HS⟩
              case measure => simp [intOf]; omega
            · have i3 : ¬ (j : Int) < 256 := by omega
              clear hj2
              go_wp2_with fail
              go_roundw
              case rel => exact ⟨p, E, d2, ys, hpl, hyl, rfl, rfl, HO, HB, HS⟩
              case measure => simp [intOf]; omega
          | false =>
            obtain rfl : m = p := HI.out.2.1.symm
            obtain rfl : xs = ys := HI.out.1.symm
            by_cases hj2 : j < 256
            · have i3 : (j : Int) < 256 := by omega
              obtain ⟨c, hc⟩ : ∃ c : UInt8, c.toNat = j := ⟨UInt8.ofNat j, by rw [UInt8.toNat_ofNat']; omega⟩
              have eW : IntKind.u8.wrap (j : Int) = (j : Int) := by simp [IntKind.wrap, IntKind.bits, IntKind.signed]; omega
              have C1 := refOne c wr
              rw [hc] at C1
              have HC1 := Lib.hid C1
              have hol := oneN_len c
              have HC2 := Lib.hid (fun W => refStarts R (oneN c) W hRl (by omega))
              clear C1
              go_wp2_with fail
              refine HC1.out.mono ?_
              rintro e w1 ⟨rfl, hb1⟩
              have HB1 := Lib.hid (below_trans HB.out hb1)
              have HO1 := Lib.hid (own_keep HO.out hb1)
              clear hb1
              go_wp2_with fail
              refine (HC2.out _).mono ?_
              rintro e w2 ⟨rfl, rfl⟩
              clear HC2 HC1
              cases hpf : (oneN c).isPrefixOf R with
              | true =>
                have HI2 := Lib.hid (HI.out.found hpf (j + 1))
                have HXM := Lib.hid (show xs.length ≤ 100000 from by omega)
                have hsz2 := size_mk (oneN c)
                clear hpf
                go_wp2_with (at_builtin; refine wpList_append_sl _ encB 1 rfl (.tmp 39) (.tmp 42) 27 rfl encB_len (by omega) encB_one w.heap.size 5 ti0 _ 1 Tryd.underlying27 hi0 hz0 hz1 hz2 rfl _ xs rfl (HO1.out.alloc _) _ 1 _ [c] rfl rfl (by rw [← hc]; exact rowB_one) (by simp [maxLen]; have := HXM.out; omega) (by simp; have := HXM.out; omega) (by have := HB1.out.size; simp; omega) ?_; intro v1 w2 hown hg hat; have HB2 := Lib.hid ((HB1.out.alloc HB1.out.size _).grown hg (by have := HB1.out.size; simp; omega) (fun k hk => (HO1.out.lt k hk).1)); obtain ⟨D2, d3, rfl, _⟩ := SlAt.of_own encB_len hown; have HO2 := Lib.hid hown; clear hown hg hat)
                go_roundw
                case rel => exact ⟨j + 1, _, true, D2, d3, xs ++ [c], by omega, by rw [List.length_append]; rfl, by go_num, rfl, by go_num, HO2, HB2, HI2⟩
                case measure => simp [intOf]; omega
              | false =>
                have HI2 := Lib.hid (HI.out.next hc hpf)
                clear hpf
                go_wp2_with fail
                go_roundw
                case rel => exact ⟨j + 1, _, false, E, d2, xs, by omega, rfl, rfl, rfl, by go_num, HO1, HB1, HI2⟩
                case measure => simp [intOf]; omega
            · obtain rfl : j = 256 := by omega
              have HN := Lib.hid (show firstN l = none from by rw [HQ.out, bodyN_bad HD34.out HI.out.none]; rfl)
              go_wp2_with fail
              go_ret3
              exact firstV_none HN.out HB.out
    · obtain rfl : m = l.length := by omega
      have i0 : ¬ (l.length : Int) < (l.length : Int) := by omega
      have HN := Lib.hid (show firstN l = none from by rw [HQ.out, List.drop_of_length_le (Nat.le_refl _), bodyN_nil]; rfl)
      clear hlt hm
      go_wp2_with fail
      go_ret3
      exact firstV_none HN.out HB.out

end Go.Proofs.YtpkpacgmmhjfpaaDoor
