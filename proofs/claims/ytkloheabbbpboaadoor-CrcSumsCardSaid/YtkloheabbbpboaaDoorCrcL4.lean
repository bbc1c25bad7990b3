/- The law CrcSums. -/
import Derived.Test.YtkloheabbbpboaaDoorCrcZ
import Derived.Test.YtkloheabbbpboaaDoorCrcS
namespace Go.Proofs.YtkloheabbbpboaaDoor
open Go.RowKit

theorem knownB5 (W : World) (h : LaidOK W) : Calls Tryd.prog 4 #[] W fun e w' => e = .returned (.bool true) ∧ Below W.heap.size W w' := (known5 W h).mono fun _ _ ⟨he, hk⟩ => ⟨he, hk.1⟩

set_option maxRecDepth 100000 in
set_option maxHeartbeats 2000000 in
theorem lawSums5 (s : Nat) (A : Option Addr) (c : Nat) (xs : List UInt8) (w : World) (hs : s < 4294967296) (hx : HoldsB w (.slice A xs.length c) xs) (ht : LaidOK w) :
    Calls Tryd.prog 3 #[.int .u32 (s : Int), .slice A xs.length c] w (TrueB w) := by
  obtain ⟨i0, hi0, hz0, hz1, hz2⟩ := info_parts infoB
  have HT := Lib.hid ht
  have HV := Lib.hid hx
  obtain ⟨_, _, eV, hax, _⟩ := hx
  cases eV
  have HX := Lib.hid hax
  have HS := Lib.hid hs
  clear ht hax hs
  by_cases hlx : ¬ xs.length ≤ 1000
  · have z0 : (1000 : Int) < (xs.length : Int) := by omega
    clear hlx
    go_enter Tryd.func3, Tryd.ntmps3
    go_wp2_with fail
    refine (knownB5 _ HT.out).mono ?_
    rintro e w1 ⟨rfl, hb⟩
    have HB := Lib.hid hb
    clear hb
    go_wp2_with fail
    go_ret
    exact ⟨rfl, HB.out⟩
  have z0 : ¬ (1000 : Int) < (xs.length : Int) := by omega
  have HL := Lib.hid (show xs.length ≤ 1000 from by omega)
  clear hlx
  go_enter Tryd.func3, Tryd.ntmps3
  go_wp2_with (at_builtin; refine wpList_append_sl _ encB 1 rfl (.const (.slice none 0 0)) (.tmp 10) 23 rfl encB_len (by omega) encB_one w.heap.size 5 i0 _ 1 Tryd.underlying23 hi0 hz0 hz1 hz2 rfl (.slice none 0 0) [] rfl (World.ownsRow_nil _ _ _ _) _ _ _ xs rfl rfl HX.out (by simp [maxLen]; have := HL.out; omega) (by simp; have := HL.out; omega) (Nat.le_refl _) ?_; intro v1 w1 hown1 hg1 hat1; rw [List.nil_append] at hown1; have hb1 := (Below.refl w.heap.size w).grown hg1 (Nat.le_refl _) (fun k hk => by cases hk); obtain ⟨A1, c1, rfl, _⟩ := SlAt.of_own encB_len hown1; have HO1 := Lib.hid hown1; have HB1 := Lib.hid hb1; clear hown1 hg1 hat1 hb1)
  have HV1 := Lib.hid (HoldsB.of_own HO1.out)
  have HA1 := Lib.hid (show BytesAt w1 A1 xs from by
    obtain ⟨_, _, e, h, _⟩ := HV1.out
    cases e
    exact h)
  have HX1 := Lib.hid (HX.out.below HB1.out)
  have hcv1 := convB w1 A1 c1 xs HV1.out
  have hcv2 := convB w1 A c xs (HV.out.below HB1.out)
  obtain ⟨p, hp⟩ : ∃ p, updN 0 xs = p := ⟨_, rfl⟩
  obtain ⟨q, hq⟩ : ∃ q, updN s xs = q := ⟨_, rfl⟩
  have S1 := Lib.hid (crcSum A1 c1 xs w1 HA1.out (by have := HL.out; omega))
  have S2 := Lib.hid (refSum A c xs w1 HX1.out (by have := HL.out; omega))
  have S3 := Lib.hid (crcUpdate s A1 c1 xs w1 HS.out HA1.out (by have := HL.out; omega))
  have S4 := Lib.hid (refUpdate s A c xs w1 HS.out HX1.out (by have := HL.out; omega))
  rw [hp] at S1 S2
  rw [hq] at S3 S4
  clear hp hq
  refine S1.out.mono ?_
  rintro e w3 ⟨rfl, rfl⟩
  go_wp2_with fail
  refine S2.out.mono ?_
  rintro e w3 ⟨rfl, rfl⟩
  go_wp2_with fail
  refine S3.out.mono ?_
  rintro e w3 ⟨rfl, rfl⟩
  go_wp2_with fail
  refine S4.out.mono ?_
  rintro e w3 ⟨rfl, rfl⟩
  go_wp2_with fail
  refine (knownB5 _ (HT.out.below HB1.out)).mono ?_
  rintro e w7 ⟨rfl, hb⟩
  have HB := Lib.hid (below_trans HB1.out hb)
  clear hb
  go_wp2_with fail
  go_ret
  exact ⟨rfl, HB.out⟩

end Go.Proofs.YtkloheabbbpboaaDoor
