/- strconv.ParseUint at base 16 and 64 bits. -/
import Derived.Test.YtobkhoednecljaaDoorFloW
import Derived.Test.YtobkhoednecljaaDoorFloV
import Derived.Shelf.Pu.ToErrorRange
import Derived.Shelf.Pu.ToError
namespace Go.Proofs.YtobkhoednecljaaDoor
open Go.RowKit

/-- Some error, nothing old changed. -/
def ErrR (w : World) (e : Ending) (w' : World) : Prop := (∃ t p, e = .returned (.iface t p)) ∧ Below w.heap.size w w'
theorem toErrS (fn s : ByteArray) (w : World) (h : LaidOK w) (hs : s.size ≤ 1000) :
    Calls Tryd.prog 74 #[.string fn, .string s, .int .i64 16, .int .i64 64, .iface 116 (.int .i64 2)] w (ErrR w) := by
  obtain ⟨_, ⟨t, p, h2⟩, _⟩ := h
  exact (AnyPu.strconv_toError_syntax Tryd.laysPu17 fn s 16 64 (.iface t p) w (by omega) h2 (.inr ⟨t, p, rfl⟩)).mono fun e w' ⟨N, he, _, _, hb⟩ => ⟨⟨_, _, he⟩, hb⟩
theorem toErrR (fn s : ByteArray) (w : World) (h : LaidOK w) (hs : s.size ≤ 1000) :
    Calls Tryd.prog 74 #[.string fn, .string s, .int .i64 16, .int .i64 64, .iface 116 (.int .i64 1)] w (ErrR w) := by
  obtain ⟨_, _, ⟨t, p, h2⟩⟩ := h
  exact (AnyPu.strconv_toError_range Tryd.laysPu17 fn s 16 64 (.iface t p) w (by omega) h2 (.inr ⟨t, p, rfl⟩)).mono fun e w' ⟨N, he, _, _, hb⟩ => ⟨⟨_, _, he⟩, hb⟩

/-- What strconv.ParseUint returns. -/
def PuT (l : List UInt8) (w : World) (e : Ending) (w' : World) : Prop :=
  ∃ (v : Nat) (err : Value), e = .returned (.tuple #[.int .u64 (v : Int), err]) ∧ (err = .nilIface ∨ ∃ t p, err = .iface t p) ∧ v < 18446744073709551616 ∧ (∀ n, n < 18446744073709551616 → l = hexL 16 n → v = n ∧ err = .nilIface) ∧ Below w.heap.size w w'

set_option maxRecDepth 100000 in
set_option maxHeartbeats 1000000 in
theorem parseSF (l : List UInt8) (w : World) (hl : l.length ≤ 1000) (ht : LaidOK w) :
    Calls Tryd.prog 53 #[.string ⟨l.toArray⟩, .int .i64 16, .int .i64 64] w (PuT l w) := by
  have hs : (ByteArray.mk l.toArray).size ≤ 1000 := by show l.toArray.size ≤ 1000; simpa using hl
  have HS := Lib.hid hs
  have HT := Lib.hid ht
  have HU := Lib.hid (parseUF l w hl)
  clear hs ht hl
  go_enter Tryd.func53, Tryd.ntmps53
  go_wp2_with fail
  refine HU.out.mono ?_
  rintro e w1 ⟨v, err, rfl, herr, hv, htx, hb⟩
  have HB := Lib.hid hb
  have HTX := Lib.hid htx
  have HV := Lib.hid hv
  have HT1 := Lib.hid (HT.out.below hb)
  clear hb htx hv
  rcases herr with rfl | rfl | rfl
  · go_wp2_with fail
    go_ret2
    exact ⟨v, _, rfl, .inl rfl, HV.out, fun n hn h => ⟨(HTX.out n hn h).1, rfl⟩, HB.out⟩
  · have HNO := Lib.hid (show ∀ n, n < 18446744073709551616 → l = hexL 16 n → False from fun n hn h => by have := (HTX.out n hn h).2; cases this)
    go_wp2_with fail
    refine (toErrR _ _ _ HT1.out HS.out).mono ?_
    rintro e w2 ⟨⟨t, p, rfl⟩, hb⟩
    have HB2 := Lib.hid (below_trans HB.out hb)
    clear hb
    go_wp2_with fail
    go_ret2
    exact ⟨v, _, rfl, .inr ⟨t, p, rfl⟩, HV.out, fun n hn h => (HNO.out n hn h).elim, HB2.out⟩
  · have HNO := Lib.hid (show ∀ n, n < 18446744073709551616 → l = hexL 16 n → False from fun n hn h => by have := (HTX.out n hn h).2; cases this)
    go_wp2_with fail
    refine (toErrS _ _ _ HT1.out HS.out).mono ?_
    rintro e w2 ⟨⟨t, p, rfl⟩, hb⟩
    have HB2 := Lib.hid (below_trans HB.out hb)
    clear hb
    go_wp2_with fail
    go_ret2
    exact ⟨v, _, rfl, .inr ⟨t, p, rfl⟩, HV.out, fun n hn h => (HNO.out n hn h).elim, HB2.out⟩


end Go.Proofs.YtobkhoednecljaaDoor
