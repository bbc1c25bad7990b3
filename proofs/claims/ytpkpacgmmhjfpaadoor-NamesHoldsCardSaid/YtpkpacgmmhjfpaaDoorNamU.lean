/- The law NamesHolds. -/
import Derived.Test.YtpkpacgmmhjfpaaDoorNamR
namespace Go.Proofs.YtpkpacgmmhjfpaaDoor
open Go.RowKit

theorem lineN_snoc (k : Nat) (xs : List (List UInt8)) (x : List UInt8) : lineN k (xs ++ [x]) = lineN k xs ++ (List.replicate k 32 ++ quoteN x) := by simp [lineN]
theorem lineN_len (k : Nat) (hk : k ≤ 5) (l : List (List UInt8)) (h : ∀ x ∈ l, x.length ≤ 100) : (lineN k l).length ≤ 407 * l.length := by
  induction l with
  | nil => simp [lineN]
  | cons x r ih =>
    have h1 := (quoteN_len x).2
    have h2 := h x (by simp)
    have h3 := ih fun y hy => h y (by simp [hy])
    have e : lineN k (x :: r) = List.replicate k 32 ++ quoteN x ++ lineN k r := by simp [lineN]
    rw [e, List.length_append, List.length_append, List.length_replicate, List.length_cons]
    omega
theorem spaces_at : ∀ k : Fin 6, (ByteArray.mk #[32, 32, 32, 32, 32]).extract 0 k.val = ⟨(List.replicate k.val 32).toArray⟩ := by decide +kernel
theorem canonV_item {s : List UInt8} (h : itemN s = true) : canonV s = (s, 0) := by
  have e := canonN_item ((itemN_iff s).1 h)
  unfold canonV
  rw [e, if_pos h]

set_option maxRecDepth 100000 in
set_option maxHeartbeats 8000000 in
theorem lawHolds7 (A : Option Addr) (c : Nat) (keys : List (List UInt8)) (n : Int) (w : World) (hk : StrsAt w A keys) (hm : keys.length ≤ maxLen) (ht : LaidOK w) :
    Calls Tryd.prog 7 #[.slice A keys.length c, .int .i64 n] w (TrueB w) := by
  have K0 := Lib.hid (show KK w w from ⟨Below.refl _ _, ht⟩)
  have HX := Lib.hid hk
  unfold maxLen at hm
  clear ht hk
  by_cases h20 : 20 < keys.length
  · have z0 : (20 : Int) < (keys.length : Int) := by omega
    clear h20
    go_enter Tryd.func7, Tryd.ntmps7
    go_wp2_with fail
    refine (known7 _ K0.out.laid).mono ?_
    rintro e w1 ⟨rfl, hb⟩
    have HB := Lib.hid hb
    clear hb
    go_wp2_with fail
    go_ret
    exact ⟨rfl, HB.out⟩
  have z0 : ¬ (20 : Int) < (keys.length : Int) := by omega
  by_cases hn1 : n < 1
  · clear h20
    go_enter Tryd.func7, Tryd.ntmps7
    go_wp2_with fail
    refine (known7 _ K0.out.laid).mono ?_
    rintro e w1 ⟨rfl, hb⟩
    have HB := Lib.hid hb
    clear hb
    go_wp2_with fail
    go_ret
    exact ⟨rfl, HB.out⟩
  by_cases hn2 : 5 < n
  · clear h20
    go_enter Tryd.func7, Tryd.ntmps7
    go_wp2_with fail
    refine (known7 _ K0.out.laid).mono ?_
    rintro e w1 ⟨rfl, hb⟩
    have HB := Lib.hid hb
    clear hb
    go_wp2_with fail
    go_ret
    exact ⟨rfl, HB.out⟩
  obtain ⟨m, rfl⟩ : ∃ m : Nat, n = (m : Int) := ⟨n.toNat, by omega⟩
  have HN := Lib.hid (show 1 ≤ m ∧ m ≤ 5 from by omega)
  have HM := Lib.hid (show keys.length ≤ 20 from by omega)
  have ex := spaces_at ⟨m, by omega⟩
  simp only at ex
  obtain ⟨sp, hsp⟩ : ∃ sp, List.replicate m (32 : UInt8) = sp := ⟨_, rfl⟩
  rw [hsp] at ex
  have HSP := Lib.hid hsp
  have spl : sp.length = m := by rw [← hsp]; simp
  have m0 : (0 : Int) ≤ (m : Int) := by omega
  have m5 : (m : Int) ≤ 5 := by omega
  clear hsp
  go_enter Tryd.func7, Tryd.ntmps7
  go_wp2_with fail
  go_loopw [5, 26] (fun s5 s26 wr => ∃ (i : Nat) (s : ByteArray), i ≤ keys.length ∧ s5 = .string s ∧ s26 = .int .i64 i ∧ Hid (s = ⟨(lineN m (keys.take i)).toArray⟩ ∧ ∀ x ∈ keys.take i, x.length ≤ 100) ∧ Hid (Below w.heap.size w wr)) (fun _ s26 _ => keys.length - (intOf s26).toNat)
  case atStart => exact ⟨0, ⟨#[]⟩, by omega, rfl, rfl, show Hid ((ByteArray.mk #[]) = ⟨(lineN m (keys.take 0)).toArray⟩ ∧ ∀ x ∈ keys.take 0, x.length ≤ 100) from ⟨rfl, fun x hx => by simp at hx⟩, Below.refl _ _⟩
  case round =>
    obtain ⟨i, s, hi, rfl, rfl, HQ, HB⟩ := hrel
    have K1 := Lib.hid (K0.out.next HB.out)
    have hs1 : s.size ≤ 8140 := by
      have h1 := lineN_len m HN.out.2 (keys.take i) HQ.out.2
      have h2 := HM.out
      rw [HQ.out.1, size_mk]
      rw [List.length_take] at h1
      omega
    by_cases hlt : i < keys.length
    · have i0 : (i : Int) < (keys.length : Int) := by omega
      obtain ⟨b, off, rfl, hbl, hc0⟩ := SlAt.cell1 (f := fun l : List UInt8 => Value.string ⟨l.toArray⟩) (HX.out.below HB.out) hlt
      obtain ⟨x, hx⟩ : ∃ x, keys[i] = x := ⟨_, rfl⟩
      rw [hx] at hc0
      have hsx := size_mk x
      by_cases hx100 : 100 < x.length
      · have i1 : (100 : Int) < (x.length : Int) := by omega
        clear hx
        go_wp2_with fail
        refine (known7 _ K1.out.laid).mono ?_
        rintro e w1 ⟨rfl, hb⟩
        have K2 := Lib.hid (K1.out.next hb)
        clear hb
        go_wp2_with fail
        go_ret
        exact ⟨rfl, K2.out.below⟩
      have i1 : ¬ (100 : Int) < (x.length : Int) := by omega
      have hql := quoteN_len x
      have HS := Lib.hid (show s ++ (⟨sp.toArray⟩ ++ ⟨(quoteN x).toArray⟩) = ⟨(lineN m (keys.take (i + 1))).toArray⟩ ∧ ∀ y ∈ keys.take (i + 1), y.length ≤ 100 from by
        rw [List.take_succ_eq_append_getElem hlt, hx, lineN_snoc, HQ.out.1, HSP.out, app_mk, app_mk]
        refine ⟨rfl, fun y hy => ?_⟩
        rcases List.mem_append.1 hy with h | h
        · exact HQ.out.2 y h
        · rw [List.mem_singleton.1 h]; omega)
      have HBY := Lib.hid (quoteN_bytes x)
      have C1 := Lib.hid (fun (W : World) (h : LaidOK W) => namQuote x W (by omega) h)
      have C2 := Lib.hid (fun (W : World) (h : LaidOK W) => lawUnq (quoteN x) x 0 W (by omega) h (by unfold unquoteV; rw [unquoteN_quote]))
      have C3 := fun (W : World) (h : LaidOK W) => namItem x W (by omega) h
      have C5 := fun (W : World) (h : LaidOK W) => namCanon x W (by omega) h
      have hcl := canonN_len x
      have hsq := size_mk (quoteN x)
      have z1 : ¬ (9223372036854775807 < (ByteArray.mk sp.toArray).size + (ByteArray.mk (quoteN x).toArray).size) := by have := size_mk sp; omega
      have z2 : ¬ (9223372036854775807 < s.size + (ByteArray.mk sp.toArray ++ ByteArray.mk (quoteN x).toArray).size) := by rw [ByteArray.size_append]; have := size_mk sp; omega
      by_cases hit : itemN x = true
      · rw [hit] at C3
        rw [canonV_item hit] at C5
        have H3 := Lib.hid C3
        have H5 := Lib.hid C5
        have H4 := Lib.hid (fun (W : World) (h : LaidOK W) => lawCanon x x 0 W (by omega) h (canonV_item hit))
        clear C3 C5 hit hx hcl
        generalize quoteN x = q at *
        go_wp2_with fail
        refine (C1.out _ K1.out.laid).mono ?_
        rintro e w1 ⟨rfl, hb⟩
        have K2 := Lib.hid (K1.out.next hb)
        clear hb K1
        go_wp2_with fail
        refine (C2.out _ K2.out.laid).mono ?_
        rintro e w2 ⟨rfl, hb⟩
        have K3 := Lib.hid (K2.out.next hb)
        clear hb K2
        go_wp2_with fail
        refine (H3.out _ K3.out.laid).mono ?_
        rintro e w3 ⟨rfl, hb⟩
        have K4 := Lib.hid (K3.out.next hb)
        clear hb K3
        go_wp2_with fail
        refine (H4.out _ K4.out.laid).mono ?_
        rintro e w4 ⟨rfl, hb⟩
        have K5 := Lib.hid (K4.out.next hb)
        clear hb K4
        go_wp2_with fail
        obtain ⟨wq, hwq⟩ : ∃ W, W = w4 := ⟨_, rfl⟩
        go_loopw [9] (fun a wr => ∃ (j : Nat), j ≤ q.length ∧ a = .int .i64 j ∧ wr = w4) (fun a _ => q.length - (intOf a).toNat)
        case atStart => exact ⟨0, by omega, rfl, rfl⟩
        case round =>
          clear hwq wq
          obtain ⟨j, hj, rfl, rfl⟩ := hrel
          by_cases hjl : j < q.length
          · have j0 : (j : Int) < (q.length : Int) := by omega
            obtain ⟨d, hd⟩ : ∃ d, q[j] = d := ⟨_, rfl⟩
            have hxd := str_at hjl
            rw [hd] at hxd
            have hx2 : q[j] = d := hd
            have hby := HBY.out d (hd ▸ List.getElem_mem hjl)
            have j1 : ¬ (d.toNat : Int) < 32 := by omega
            have j2 : ¬ (126 : Int) < (d.toNat : Int) := by omega
            go_wp2_with fail
            go_roundw
            case rel => exact ⟨j + 1, by omega, by go_num, by trivial⟩
            case measure => simp [intOf]; omega
          · obtain rfl : j = q.length := by omega
            have j0 : ¬ (q.length : Int) < (q.length : Int) := by omega
            clear hjl hj
            go_wp2_with fail
            refine (H5.out _ K5.out.laid).mono ?_
            rintro e w5 ⟨rfl, hb⟩
            have K6 := Lib.hid (K5.out.next hb)
            clear hb K5
            unfold pairV
            go_wp2_with fail
            refine (H3.out _ K6.out.laid).mono ?_
            rintro e w6 ⟨rfl, hb⟩
            have K7 := Lib.hid (K6.out.next hb)
            clear hb K6
            go_wp2_with fail
            refine (H4.out _ K7.out.laid).mono ?_
            rintro e w7 ⟨rfl, hb⟩
            have K8 := Lib.hid (K7.out.next hb)
            clear hb K7
            go_wp2_with fail
            go_roundw
            case rel => exact ⟨i + 1, _, by omega, rfl, by go_num, HS, K8.out.below⟩
            case measure => simp [intOf]; omega
      have hit' : itemN x = false := by
        cases h : itemN x with
        | false => rfl
        | true => exact absurd h hit
      rw [hit'] at C3
      have H3 := Lib.hid C3
      clear C3 hit hit' hx
      by_cases hic : itemN (canonN x) = true
      · have hv : canonV x = (canonN x, 0) := by unfold canonV; rw [if_pos hic]
        rw [hv] at C5
        have H5 := Lib.hid C5
        have C6 := fun (W : World) (h : LaidOK W) => namItem (canonN x) W (by omega) h
        rw [hic] at C6
        have H6 := Lib.hid C6
        have H7 := Lib.hid (fun (W : World) (h : LaidOK W) => lawCanon (canonN x) (canonN x) 0 W (by omega) h (canonV_item hic))
        clear C5 C6 hic hv hcl
        generalize quoteN x = q at *
        generalize canonN x = y at *
        go_wp2_with fail
        refine (C1.out _ K1.out.laid).mono ?_
        rintro e w1 ⟨rfl, hb⟩
        have K2 := Lib.hid (K1.out.next hb)
        clear hb K1
        go_wp2_with fail
        refine (C2.out _ K2.out.laid).mono ?_
        rintro e w2 ⟨rfl, hb⟩
        have K3 := Lib.hid (K2.out.next hb)
        clear hb K2
        go_wp2_with fail
        refine (H3.out _ K3.out.laid).mono ?_
        rintro e w3 ⟨rfl, hb⟩
        have K4 := Lib.hid (K3.out.next hb)
        clear hb K3
        go_wp2_with fail
        obtain ⟨wq, hwq⟩ : ∃ W, W = w3 := ⟨_, rfl⟩
        go_loopw [9] (fun a wr => ∃ (j : Nat), j ≤ q.length ∧ a = .int .i64 j ∧ wr = w3) (fun a _ => q.length - (intOf a).toNat)
        case atStart => exact ⟨0, by omega, rfl, rfl⟩
        case round =>
          clear hwq wq
          obtain ⟨j, hj, rfl, rfl⟩ := hrel
          by_cases hjl : j < q.length
          · have j0 : (j : Int) < (q.length : Int) := by omega
            obtain ⟨d, hd⟩ : ∃ d, q[j] = d := ⟨_, rfl⟩
            have hxd := str_at hjl
            rw [hd] at hxd
            have hx2 : q[j] = d := hd
            have hby := HBY.out d (hd ▸ List.getElem_mem hjl)
            have j1 : ¬ (d.toNat : Int) < 32 := by omega
            have j2 : ¬ (126 : Int) < (d.toNat : Int) := by omega
            go_wp2_with fail
            go_roundw
            case rel => exact ⟨j + 1, by omega, by go_num, by trivial⟩
            case measure => simp [intOf]; omega
          · obtain rfl : j = q.length := by omega
            have j0 : ¬ (q.length : Int) < (q.length : Int) := by omega
            clear hjl hj
            go_wp2_with fail
            refine (H5.out _ K4.out.laid).mono ?_
            rintro e w4 ⟨rfl, hb⟩
            have K5 := Lib.hid (K4.out.next hb)
            clear hb K4
            unfold pairV
            go_wp2_with fail
            refine (H6.out _ K5.out.laid).mono ?_
            rintro e w5 ⟨rfl, hb⟩
            have K6 := Lib.hid (K5.out.next hb)
            clear hb K5
            go_wp2_with fail
            refine (H7.out _ K6.out.laid).mono ?_
            rintro e w6 ⟨rfl, hb⟩
            have K7 := Lib.hid (K6.out.next hb)
            clear hb K6
            go_wp2_with fail
            go_roundw
            case rel => exact ⟨i + 1, _, by omega, rfl, by go_num, HS, K7.out.below⟩
            case measure => simp [intOf]; omega
      have hv : canonV x = ([], 2) := by unfold canonV; rw [if_neg hic]
      rw [hv] at C5
      have H5 := Lib.hid C5
      clear C5 hic hv hcl
      generalize quoteN x = q at *
      go_wp2_with fail
      refine (C1.out _ K1.out.laid).mono ?_
      rintro e w1 ⟨rfl, hb⟩
      have K2 := Lib.hid (K1.out.next hb)
      clear hb K1
      go_wp2_with fail
      refine (C2.out _ K2.out.laid).mono ?_
      rintro e w2 ⟨rfl, hb⟩
      have K3 := Lib.hid (K2.out.next hb)
      clear hb K2
      go_wp2_with fail
      refine (H3.out _ K3.out.laid).mono ?_
      rintro e w3 ⟨rfl, hb⟩
      have K4 := Lib.hid (K3.out.next hb)
      clear hb K3
      go_wp2_with fail
      obtain ⟨wq, hwq⟩ : ∃ W, W = w3 := ⟨_, rfl⟩
      go_loopw [9] (fun a wr => ∃ (j : Nat), j ≤ q.length ∧ a = .int .i64 j ∧ wr = w3) (fun a _ => q.length - (intOf a).toNat)
      case atStart => exact ⟨0, by omega, rfl, rfl⟩
      case round =>
        clear hwq wq
        obtain ⟨j, hj, rfl, rfl⟩ := hrel
        by_cases hjl : j < q.length
        · have j0 : (j : Int) < (q.length : Int) := by omega
          obtain ⟨d, hd⟩ : ∃ d, q[j] = d := ⟨_, rfl⟩
          have hxd := str_at hjl
          rw [hd] at hxd
          have hx2 : q[j] = d := hd
          have hby := HBY.out d (hd ▸ List.getElem_mem hjl)
          have j1 : ¬ (d.toNat : Int) < 32 := by omega
          have j2 : ¬ (126 : Int) < (d.toNat : Int) := by omega
          go_wp2_with fail
          go_roundw
          case rel => exact ⟨j + 1, by omega, by go_num, by trivial⟩
          case measure => simp [intOf]; omega
        · obtain rfl : j = q.length := by omega
          have j0 : ¬ (q.length : Int) < (q.length : Int) := by omega
          clear hjl hj
          go_wp2_with fail
          refine (H5.out _ K4.out.laid).mono ?_
          rintro e w4 ⟨rfl, hb⟩
          have K5 := Lib.hid (K4.out.next hb)
          clear hb K4
          unfold pairV
          go_wp2_with fail
          go_roundw
          case rel => exact ⟨i + 1, _, by omega, rfl, by go_num, HS, K5.out.below⟩
          case measure => simp [intOf]; omega
    · obtain rfl : i = keys.length := by omega
      have i0 : ¬ (keys.length : Int) < (keys.length : Int) := by omega
      rw [List.take_length] at HQ
      have hll := lineN_len m HN.out.2 keys HQ.out.2
      have hkl := HM.out
      have F1 := lineN_fields m 0 HN.out.1 keys
      have F2 := lineN_fields m m HN.out.1 keys
      rw [HSP.out] at F2
      have e0 : lineN m keys ++ List.replicate 0 32 = lineN m keys := by simp
      rw [e0] at F1
      have C1 := Lib.hid (fun (W : World) (h : LaidOK W) (hW : StrsAt W A keys) => lawFlds (lineN m keys) keys A c W (by omega) h F1 (by omega) hW)
      have C2 := Lib.hid (fun (W : World) (h : LaidOK W) (hW : StrsAt W A keys) => lawFlds (lineN m keys ++ sp) keys A c W (by rw [List.length_append]; omega) h F2 (by omega) hW)
      have hse := HQ.out.1
      have hs2 := size_mk (lineN m keys)
      have eap : (ByteArray.mk (lineN m keys).toArray ++ ByteArray.mk sp.toArray) = ⟨(lineN m keys ++ sp).toArray⟩ := app_mk _ _
      have z1 : ¬ (9223372036854775807 < (ByteArray.mk (lineN m keys).toArray).size + (ByteArray.mk sp.toArray).size) := by have := size_mk sp; omega
      have HX1 := Lib.hid (HX.out.below HB.out)
      subst hse
      clear HQ F1 F2 e0 hll hlt hi
      generalize lineN m keys = ln at *
      go_wp2_with fail
      refine (C1.out _ K1.out.laid HX1.out).mono ?_
      rintro e w1 ⟨rfl, hb⟩
      have K2 := Lib.hid (K1.out.next hb)
      have HX2 := Lib.hid (HX1.out.below hb)
      clear hb
      go_wp2_with fail
      skip
      refine (C2.out _ K2.out.laid HX2.out).mono ?_
      rintro e w2 ⟨rfl, hb⟩
      have K3 := Lib.hid (K2.out.next hb)
      clear hb
      go_wp2_with fail
      refine (known7 _ K3.out.laid).mono ?_
      rintro e w3 ⟨rfl, hb⟩
      have K4 := Lib.hid (K3.out.next hb)
      clear hb
      go_wp2_with fail
      go_ret
      exact ⟨rfl, K4.out.below⟩

end Go.Proofs.YtpkpacgmmhjfpaaDoor
