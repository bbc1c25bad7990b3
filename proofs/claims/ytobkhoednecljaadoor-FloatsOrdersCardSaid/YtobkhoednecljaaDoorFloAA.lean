/- Package floats itself: Text, Parse; all its contracts together. -/
import Derived.Test.YtobkhoednecljaaDoorFloQ
import Derived.Test.YtobkhoednecljaaDoorFloR
import Derived.Test.YtobkhoednecljaaDoorFloZ
namespace Go.Proofs.YtobkhoednecljaaDoor
open Go.RowKit

set_option maxRecDepth 100000 in
set_option maxHeartbeats 1000000 in
theorem floText (b : Nat) (w : World) (h : b < 18446744073709551616) (ht : LaidOK w) : Calls Tryd.prog 28 #[.float .f64 b] w (OneB (.string (txtF b)) w) := by
  have hd := run_toBits b
  have HU := Lib.hid (fmtUintF b w h ht)
  clear ht
  go_enter Tryd.func28, Tryd.ntmps28
  go_wp2_with fail
  refine HU.out.mono ?_
  rintro e w1 ⟨⟨k, h1, h2, h3, rfl⟩, hb⟩
  have HB := Lib.hid hb
  have HP := Lib.hid (pad16 k b h1 h2 h3)
  have hz : (⟨(hexL k b).toArray⟩ : ByteArray).size = k := by show (hexL k b).toArray.size = k; simp [hexL_len]
  generalize (⟨(hexL k b).toArray⟩ : ByteArray) = S at HP hz ⊢
  have HR := Lib.hid fun W => repeatZ (16 - k) W (by omega)
  obtain ⟨c, hc⟩ : ∃ c, 16 - k = c := ⟨_, rfl⟩
  have e1 : (16 : Int) - (k : Int) = (c : Int) := by omega
  rw [hc] at HP HR
  clear hb h3 hc h
  go_wp2_with fail
  refine (HR.out _).mono ?_
  rintro e w2 ⟨rfl, rfl⟩
  go_wp2_with fail
  go_ret
  exact ⟨congrArg (fun s => Ending.returned (.string s)) HP.out, HB.out⟩

set_option maxRecDepth 100000 in
set_option maxHeartbeats 1000000 in
theorem floParse (l : List UInt8) (n : Nat) (er : Int) (w : World) (hl : l.length ≤ 1000) (ht : LaidOK w) (hp : (prsF l = some n ∧ er = 0) ∨ (prsF l = none ∧ n = 0 ∧ er = 6)) :
    Calls Tryd.prog 41 #[.string ⟨l.toArray⟩] w (OneB (.tuple #[.float .f64 n, .int .i64 er]) w) := by
  have HT := Lib.hid ht
  have HU := Lib.hid (parseSF l w hl ht)
  have HP := Lib.hid hp
  clear ht hl hp
  go_enter Tryd.func41, Tryd.ntmps41
  go_wp2_with fail
  refine HU.out.mono ?_
  rintro e w1 ⟨v, err, rfl, herr, hv, htx, hb⟩
  have HB := Lib.hid hb
  have HTX := Lib.hid htx
  have HT1 := Lib.hid (HT.out.below hb)
  have HX := Lib.hid (floText v w1 hv HT1.out)
  unfold txtF at HX
  have hd := run_fromBits v
  have HV := Lib.hid hv
  clear hb htx HT hv
  rcases herr with rfl | ⟨t, p, rfl⟩
  · by_cases he : hexL 16 v = l
    · have hpl : prsF l = some v := by rw [← he]; exact prsF_hex HV.out
      have HR := Lib.hid (show n = v ∧ er = 0 from by
        rcases HP.out with ⟨h1, h2⟩ | ⟨h1, _⟩
        · rw [hpl] at h1; exact ⟨(Option.some.inj h1).symm, h2⟩
        · rw [hpl] at h1; cases h1)
      rw [he] at HX
      clear hpl he
      go_wp2_with fail
      refine HX.out.mono ?_
      rintro e w2 ⟨rfl, hb⟩
      have HB2 := Lib.hid (below_trans HB.out hb)
      clear hb
      go_wp2_with fail
      go_ret2
      rw [HR.out.1, HR.out.2]
      exact ⟨rfl, HB2.out⟩
    · have HR := Lib.hid (show n = 0 ∧ er = 6 from by
        rcases HP.out with ⟨h1, h2⟩ | ⟨_, h2, h3⟩
        · obtain ⟨a1, a2⟩ := prsF_some h1
          have a3 := (HTX.out n a1 a2).1
          exact absurd (by rw [a3]; exact a2.symm) he
        · exact ⟨h2, h3⟩)
      have hne : (hexL 16 v == l) = false := beq_eq_false_iff_ne.2 he
      clear he
      generalize hexL 16 v = l2 at *
      go_wp2_with fail
      refine HX.out.mono ?_
      rintro e w2 ⟨rfl, hb⟩
      have HB2 := Lib.hid (below_trans HB.out hb)
      clear hb
      go_wp2_with fail
      go_ret2
      rw [HR.out.1, HR.out.2]
      exact ⟨rfl, HB2.out⟩
  · have HR := Lib.hid (show n = 0 ∧ er = 6 from by
      rcases HP.out with ⟨h1, h2⟩ | ⟨_, h2, h3⟩
      · obtain ⟨a1, a2⟩ := prsF_some h1
        have := (HTX.out n a1 a2).2
        cases this
      · exact ⟨h2, h3⟩)
    go_wp2_with fail
    go_ret2
    rw [HR.out.1, HR.out.2]
    exact ⟨rfl, HB.out⟩

theorem OneB.of_one {v : Value} {w : World} {e : Ending} {w' : World} (h : One v w e w') : OneB v w e w' := ⟨h.1, h.2 ▸ Below.refl _ _⟩
/-- Package floats, as it landed. -/
theorem floOK {w : World} (ht : LaidOK w) : FloOK w where
  key b W _ h := (floKey b W h).mono fun _ _ h => OneB.of_one h
  inv k W _ h := (floOf k W h).mono fun _ _ h => OneB.of_one h
  cmp a b W _ ha hb := (floCompare a b W ha hb).mono fun _ _ h => OneB.of_one h
  can b W _ h := (floCanon b W h).mono fun _ _ h => OneB.of_one h
  sam a b W _ ha hb := (floSame a b W ha hb).mono fun _ _ h => OneB.of_one h
  srt A xs cap W _ hx hm hv := floSorted A xs cap W hx hm hv
  sum A xs cap W _ hx hm hv := floSum A xs cap _ W hx hm hv rfl
  txt b W hb h := floText b W h (ht.below hb)
  prs l W n e hb hl hp := floParse l n e W hl (ht.below hb) hp

end Go.Proofs.YtobkhoednecljaaDoor
