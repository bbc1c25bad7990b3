/- strconv.ParseUint; Parse of the program; the laws' helpers. -/
import Derived.Test.YtkloheabbbpboabDoorCrcW
import Derived.Test.YtkloheabbbpboabDoorCrcC
import Derived.Shelf.Pu.ToErrorRange
import Derived.Shelf.Pu.ToError
namespace Go.Proofs.YtkloheabbbpboabDoor
open Go.RowKit

/-- Some error, nothing old changed. -/
def ErrR (w : World) (e : Ending) (w' : World) : Prop := (∃ t p, e = .returned (.iface t p)) ∧ Below w.heap.size w w'
theorem toErrS (fn s : ByteArray) (w : World) (h : LaidOK w) (hs : s.size ≤ 1000) :
    Calls Tryd.prog 30 #[.string fn, .string s, .int .i64 16, .int .i64 32, .iface 65 (.int .i64 2)] w (ErrR w) := by
  obtain ⟨_, ⟨t, p, h2⟩, _⟩ := h
  exact (AnyPu.strconv_toError_syntax Tryd.laysPu17 fn s 16 32 (.iface t p) w (by omega) h2 (.inr ⟨t, p, rfl⟩)).mono fun e w' ⟨N, he, _, _, hb⟩ => ⟨⟨_, _, he⟩, hb⟩
theorem toErrR (fn s : ByteArray) (w : World) (h : LaidOK w) (hs : s.size ≤ 1000) :
    Calls Tryd.prog 30 #[.string fn, .string s, .int .i64 16, .int .i64 32, .iface 65 (.int .i64 1)] w (ErrR w) := by
  obtain ⟨_, _, ⟨t, p, h2⟩⟩ := h
  exact (AnyPu.strconv_toError_range Tryd.laysPu17 fn s 16 32 (.iface t p) w (by omega) h2 (.inr ⟨t, p, rfl⟩)).mono fun e w' ⟨N, he, _, _, hb⟩ => ⟨⟨_, _, he⟩, hb⟩

/-- What strconv.ParseUint returns. -/
def PuS (l : List UInt8) (w : World) (e : Ending) (w' : World) : Prop :=
  ∃ (v : Nat) (err : Value), e = .returned (.tuple #[.int .u64 (v : Int), err]) ∧ (err = .nilIface ∨ ∃ t p, err = .iface t p) ∧ v < 18446744073709551616 ∧ (∀ n, n < 4294967296 → l = hexL 8 n → v = n ∧ err = .nilIface) ∧ Below w.heap.size w w'

set_option maxRecDepth 100000 in
set_option maxHeartbeats 1000000 in
theorem parseS (l : List UInt8) (w : World) (hl : l.length ≤ 1000) (ht : LaidOK w) :
    Calls Tryd.prog 24 #[.string ⟨l.toArray⟩, .int .i64 16, .int .i64 32] w (PuS l w) := by
  have hs : (ByteArray.mk l.toArray).size ≤ 1000 := by show l.toArray.size ≤ 1000; simpa using hl
  have HS := Lib.hid hs
  have HT := Lib.hid ht
  have HU := Lib.hid (parseU l w hl)
  clear hs ht hl
  go_enter Tryd.func24, Tryd.ntmps24
  go_wp2_with fail
  refine HU.out.mono ?_
  rintro e w1 ⟨v, err, rfl, herr, hv, htx, hb⟩
  have HB := Lib.hid hb
  have HTX := Lib.hid htx
  have HV := Lib.hid hv
  have HT1 := Lib.hid (HT.out.below hb)
  clear hb htx hv
  rcases herr with rfl | rfl | rfl
  · go_wp2_with fail
    go_ret2
    exact ⟨v, _, rfl, .inl rfl, HV.out, fun n hn h => ⟨(HTX.out n hn h).1, rfl⟩, HB.out⟩
  · have HNO := Lib.hid (show ∀ n, n < 4294967296 → l = hexL 8 n → False from fun n hn h => by have := (HTX.out n hn h).2; cases this)
    go_wp2_with fail
    refine (toErrR _ _ _ HT1.out HS.out).mono ?_
    rintro e w2 ⟨⟨t, p, rfl⟩, hb⟩
    have HB2 := Lib.hid (below_trans HB.out hb)
    clear hb
    go_wp2_with fail
    go_ret2
    exact ⟨v, _, rfl, .inr ⟨t, p, rfl⟩, HV.out, fun n hn h => (HNO.out n hn h).elim, HB2.out⟩
  · have HNO := Lib.hid (show ∀ n, n < 4294967296 → l = hexL 8 n → False from fun n hn h => by have := (HTX.out n hn h).2; cases this)
    go_wp2_with fail
    refine (toErrS _ _ _ HT1.out HS.out).mono ?_
    rintro e w2 ⟨⟨t, p, rfl⟩, hb⟩
    have HB2 := Lib.hid (below_trans HB.out hb)
    clear hb
    go_wp2_with fail
    go_ret2
    exact ⟨v, _, rfl, .inr ⟨t, p, rfl⟩, HV.out, fun n hn h => (HNO.out n hn h).elim, HB2.out⟩

/-- Two results that are known, nothing old changed. -/
def TwoB (a b : Value) (w : World) (e : Ending) (w' : World) : Prop := e = .returned (.tuple #[a, b]) ∧ Below w.heap.size w w'
theorem TwoB.int {k : IntKind} {a b : Int} {v : Value} {w w' : World} (h : a = b) (hb : Below w.heap.size w w') : TwoB (.int k a) v w (.returned (.tuple #[.int k b, v])) w' := by subst h; exact ⟨rfl, hb⟩

set_option maxRecDepth 100000 in
set_option maxHeartbeats 1000000 in
theorem crcParse (l : List UInt8) (n : Nat) (er : Int) (w : World) (hl : l.length ≤ 1000) (ht : LaidOK w) (hp : (prs l = some n ∧ er = 0) ∨ (prs l = none ∧ n = 0 ∧ er = 6)) :
    Calls Tryd.prog 20 #[.string ⟨l.toArray⟩] w (TwoB (.int .u32 (n : Int)) (.int .i64 er) w) := by
  have HT := Lib.hid ht
  have HU := Lib.hid (parseS l w hl ht)
  have HP := Lib.hid hp
  clear ht hl hp
  go_enter Tryd.func20, Tryd.ntmps20
  go_wp2_with fail
  refine HU.out.mono ?_
  rintro e w1 ⟨v, err, rfl, herr, hv, htx, hb⟩
  have HB := Lib.hid hb
  have HTX := Lib.hid htx
  have HT1 := Lib.hid (HT.out.below hb)
  clear hb htx HT
  rcases herr with rfl | ⟨t, p, rfl⟩
  · obtain ⟨u, hu⟩ : ∃ u, v % 4294967296 = u := ⟨_, rfl⟩
    have eW : IntKind.u32.wrap (v : Int) = (u : Int) := by simp [IntKind.wrap, IntKind.bits, IntKind.signed]; omega
    have HU32 := Lib.hid (show u < 4294967296 from by omega)
    have HX := Lib.hid (crcText u w1 HU32.out HT1.out)
    unfold txt at HX
    by_cases he : hexL 8 u = l
    · have hpl : prs l = some u := by rw [← he]; exact prs_hex HU32.out
      have HR := Lib.hid (show n = u ∧ er = 0 from by
        rcases HP.out with ⟨h1, h2⟩ | ⟨h1, _⟩
        · rw [hpl] at h1; exact ⟨(Option.some.inj h1).symm, h2⟩
        · rw [hpl] at h1; cases h1)
      rw [he] at HX
      clear hpl he hv hu
      go_wp2_with fail
      refine HX.out.mono ?_
      rintro e w2 ⟨rfl, hb⟩
      have HB2 := Lib.hid (below_trans HB.out hb)
      clear hb
      go_wp2_with fail
      go_ret2
      rw [HR.out.1, HR.out.2]
      exact ⟨rfl, HB2.out⟩
    · have HR := Lib.hid (show n = 0 ∧ er = 6 from by
        rcases HP.out with ⟨h1, h2⟩ | ⟨_, h2, h3⟩
        · obtain ⟨a1, a2⟩ := prs_some h1
          have a3 := (HTX.out n a1 a2).1
          exact absurd (by rw [← hu, a3, Nat.mod_eq_of_lt a1]; exact a2.symm) he
        · exact ⟨h2, h3⟩)
      have hne : (hexL 8 u == l) = false := beq_eq_false_iff_ne.2 he
      clear he hv hu
      generalize hexL 8 u = l2 at *
      go_wp2_with fail
      refine HX.out.mono ?_
      rintro e w2 ⟨rfl, hb⟩
      have HB2 := Lib.hid (below_trans HB.out hb)
      clear hb
      go_wp2_with fail
      go_ret2
      rw [HR.out.1, HR.out.2]
      exact ⟨rfl, HB2.out⟩
  · have HR := Lib.hid (show n = 0 ∧ er = 6 from by
      rcases HP.out with ⟨h1, h2⟩ | ⟨_, h2, h3⟩
      · obtain ⟨a1, a2⟩ := prs_some h1
        have := (HTX.out n a1 a2).2
        cases this
      · exact ⟨h2, h3⟩)
    clear hv
    go_wp2_with fail
    go_ret2
    rw [HR.out.1, HR.out.2]
    exact ⟨rfl, HB.out⟩

set_option maxHeartbeats 400000 in
theorem lawJoins (a b len : Int) (want : Int) (no : Int) (w : World) (h : Calls Tryd.prog 16 #[.int .u32 a, .int .u32 b, .int .i64 len] w (Two (.int .u32 want) (.int .i64 no) w)) :
    Calls Tryd.prog 7 #[.int .u32 a, .int .u32 b, .int .i64 len, .int .u32 want, .int .i64 no] w (One (.bool true) w) := by
  have H := Lib.hid h
  clear h
  go_enter Tryd.func7, Tryd.ntmps7
  go_wp2_with fail
  refine H.out.mono ?_
  rintro e w1 ⟨rfl, rfl⟩
  go_wp2_with fail
  go_ret
  exact ⟨rfl, rfl⟩
/-- True, nothing old changed. -/
def TrueB (w : World) (e : Ending) (w' : World) : Prop := e = .returned (.bool true) ∧ Below w.heap.size w w'
set_option maxHeartbeats 400000 in
theorem lawParses (l : List UInt8) (want : Int) (no : Int) (w : World) (h : Calls Tryd.prog 20 #[.string ⟨l.toArray⟩] w (TwoB (.int .u32 want) (.int .i64 no) w)) :
    Calls Tryd.prog 15 #[.string ⟨l.toArray⟩, .int .u32 want, .int .i64 no] w (TrueB w) := by
  have H := Lib.hid h
  clear h
  go_enter Tryd.func15, Tryd.ntmps15
  go_wp2_with fail
  refine H.out.mono ?_
  rintro e w1 ⟨rfl, hb⟩
  have HB := Lib.hid hb
  clear hb
  go_wp2_with fail
  go_ret
  exact ⟨rfl, HB.out⟩

end Go.Proofs.YtkloheabbbpboabDoor
