/- Package hash: the table, sum, Sum32, Sum64; the reference's Sum32, Sum64. -/
import Derived.Test.YtmploibgmmeanaaDoorCrcH
import Derived.Test.YtmploibgmmeanaaDoorHashK
import Derived.Outline
namespace Go.Proofs.YtmploibgmmeanaaDoor
open Go.RowKit

theorem xor64 (a b : Nat) (ha : a < 18446744073709551616) (hb : b < 18446744073709551616) : bits .xor .u64 (a : Int) (b : Int) = ((a ^^^ b : Nat) : Int) := u64_xor_nat a b ha hb
/-- One result that is known, nothing changed. -/
def One (v : Value) (w : World) (e : Ending) (w' : World) : Prop := e = .returned v ∧ w = w'
/-- One result that is known, nothing changed of what was there. -/
def OneB (v : Value) (w : World) (e : Ending) (w' : World) : Prop := e = .returned v ∧ Below w.heap.size w w'
theorem OneB.int {k : IntKind} {a b : Int} {w w' : World} (h : a = b) (hb : Below w.heap.size w w') : OneB (.int k b) w (.returned (.int k a)) w' := by subst h; exact ⟨rfl, hb⟩
theorem One.int {k : IntKind} {a b : Int} (w : World) (h : a = b) : One (.int k b) w (.returned (.int k a)) w := by subst h; exact ⟨rfl, rfl⟩
/-- The table: offset and factor of each size. -/
def SizesOK (w : World) : Prop :=
  w.cell? ⟨0, 0, none⟩ = some (.int .u64 2166136261) ∧ w.cell? ⟨0, 1, none⟩ = some (.int .u64 16777619) ∧ w.cell? ⟨0, 2, none⟩ = some (.int .u64 14695981039346656037) ∧ w.cell? ⟨0, 3, none⟩ = some (.int .u64 1099511628211)
theorem SizesOK.below {w w' : World} (h : SizesOK w) (hb : Below w.heap.size w w') : SizesOK w' := by
  have k : ∀ {p : Addr} {v : Value}, w.cell? p = some v → w'.cell? p = some v := fun hp => (hb.cell (World.block_lt_of_cell? w _ hp)).trans hp
  obtain ⟨h1, h2, h3, h4⟩ := h
  exact ⟨k h1, k h2, k h3, k h4⟩

theorem toNat8 (b : UInt8) : b.toNat < 256 := b.toBitVec.isLt
theorem wrap8_64 (b : UInt8) : IntKind.u64.wrap (b.toNat : Int) = (b.toNat : Int) := by have := toNat8 b; simp [IntKind.wrap, IntKind.bits, IntKind.signed]; omega
theorem xor_lt64 {a b : Nat} (ha : a < 18446744073709551616) (hb : b < 256) : a ^^^ b < 18446744073709551616 := Nat.xor_lt_two_pow (n := 64) ha (by omega)
theorem xor_lt32 {a b : Nat} (ha : a < 4294967296) (hb : b < 256) : a ^^^ b < 4294967296 := Nat.xor_lt_two_pow (n := 32) ha (by omega)

theorem wrapU64 (n : Int) : IntKind.u64.wrap n = n % 18446744073709551616 := by simp [IntKind.wrap, IntKind.bits, IntKind.signed]
theorem wrapMul (u f : Nat) : IntKind.u64.wrap ((u : Int) * (f : Int)) = ((u * f % 18446744073709551616 : Nat) : Int) := by rw [wrapU64]; omega
theorem wrapMulMod {u : Nat} (h : u < 4294967296) : (IntKind.u64.wrap ((u : Int) * 16777619)).tmod 4294967296 = ((u * 16777619 % 4294967296 : Nat) : Int) := by rw [wrapU64, Int.tmod_eq_emod_of_nonneg (by omega)]; omega
/-- The steps modulo 2^64, cut, are those modulo 2^32. -/
theorem hrun_low (f n : Nat) (xs : List UInt8) : hrun f 18446744073709551616 n xs % 4294967296 = hrun f 4294967296 (n % 4294967296) xs := by
  induction xs generalizing n with
  | nil => rfl
  | cons b r ih =>
    show hrun f 18446744073709551616 (hstep f 18446744073709551616 n b) r % 4294967296 = hrun f 4294967296 (hstep f 4294967296 (n % 4294967296) b) r
    rw [ih]
    congr 1
    unfold hstep
    rw [Nat.mod_mod_of_dvd _ (show 4294967296 ∣ 18446744073709551616 from by decide), Nat.mul_mod, show (4294967296 : Nat) = 2 ^ 32 from rfl, Nat.xor_mod_two_pow, ← show (4294967296 : Nat) = 2 ^ 32 from rfl, Nat.mod_eq_of_lt (show b.toNat < 4294967296 from by have := toNat8 b; omega), ← Nat.mul_mod_mod, ← Nat.mod_mul_mod]
    simp
/-- The steps of the size of 32 bits modulo 2^64. -/
def g32 (xs : List UInt8) : Nat := hrun 16777619 18446744073709551616 2166136261 xs
theorem g32_low (xs : List UInt8) : g32 xs % 4294967296 = h32 xs := hrun_low 16777619 2166136261 xs
theorem g32_lt (xs : List UInt8) : g32 xs < 18446744073709551616 := hrun_lt (by decide) (by decide) xs
theorem hrun_take {f M n k : Nat} {xs : List UInt8} (h : k < xs.length) : hrun f M n (xs.take (k + 1)) = hstep f M (hrun f M n (xs.take k)) xs[k] := by
  rw [List.take_succ_eq_append_getElem h, hrun_append]; rfl

set_option maxHeartbeats 1000000 in
theorem hashSum0 (l : List UInt8) (w : World) (hl : l.length ≤ 1000) (ht : SizesOK w) :
    Calls Tryd.prog 23 #[.string ⟨l.toArray⟩, .int .i64 0] w (OneB (.int .u64 ((g32 l : Nat) : Int)) w) := by
  have q1 := fun (w : World) (s : ByteArray) => Lib.run_convert_string_bytes (P := Tryd.prog) w 9 40 5 s Tryd.underlying9 Tryd.underlying40 Tryd.underlying5
  have hsz : (ByteArray.mk l.toArray).size = l.length := by show l.toArray.size = _; simp
  have T1 := ht.1
  have T2 := Lib.hid ht
  clear ht
  go_enter Tryd.func23, Tryd.ntmps23
  go_wp2_with fail
  have HB := Lib.hid (bytesWorld_below w ⟨l.toArray⟩)
  have HAT := Lib.hid (bytesWorld_at w ⟨l.toArray⟩)
  have HT := Lib.hid (T2.out.below HB.out)
  clear q1 T1 T2
  generalize Lib.bytesWorld w 5 ⟨l.toArray⟩ = W1 at HB HAT HT ⊢
  go_loopw [5, 15] (fun m a wr => ∃ (k q : Nat), k ≤ l.length ∧ a = .int .i64 k ∧ m = .int .u64 (q : Int) ∧ wr = W1 ∧ Hid (q < 18446744073709551616 ∧ q = hrun 16777619 18446744073709551616 2166136261 (l.take k))) (fun _ a _ => l.length - (intOf a).toNat)
  case atStart => exact ⟨0, 2166136261, by omega, rfl, rfl, rfl, by decide, rfl⟩
  case round =>
    obtain ⟨k, q, hk, rfl, rfl, rfl, HQ⟩ := hrel
    by_cases hlt : k < l.length
    · have i0 : (k : Int) < (l.length : Int) := by omega
      obtain ⟨b, off, e, hb, hc⟩ := HAT.out (by simpa using (by omega : 0 < l.length))
      cases e
      have hc0 := hc k l[k] (by simp [hlt]) 0 _ rfl
      have d0 : wr.cell? ⟨w.heap.size, k, none⟩ = some (.int .u8 (l[k]).toNat) := by simpa using hc0
      have h8 := toNat8 l[k]
      have hx := xor64 q (l[k]).toNat HQ.out.1 (by omega)
      have eW := wrap8_64 l[k]
      have hT := HT.out.2.1
      have HS := Lib.hid (show hstep 16777619 18446744073709551616 q l[k] < 18446744073709551616 ∧ hstep 16777619 18446744073709551616 q l[k] = hrun 16777619 18446744073709551616 2166136261 (l.take (k + 1)) from ⟨hstep_lt (by decide), by rw [hrun_take hlt, ← HQ.out.2]⟩)
      have HM := Lib.hid (show hstep 16777619 18446744073709551616 q l[k] = (q ^^^ (l[k]).toNat) * 16777619 % 18446744073709551616 from rfl)
      have HL := Lib.hid (xor_lt64 HQ.out.1 h8)
      clear hc hc0
      generalize hstep 16777619 18446744073709551616 q l[k] = z at *
      generalize (l[k]).toNat = y at *
      generalize q ^^^ y = u at *
      go_wp2_with fail
      go_roundw
      case rel => exact ⟨k + 1, z, by omega, by go_num, congrArg (Value.int .u64) ((wrapMul u 16777619).trans (by rw [HM.out])), by trivial, HS.out⟩
      case measure => simp [intOf]; omega
    · obtain rfl : k = l.length := by omega
      rw [List.take_length] at HQ
      have i0 : ¬ (l.length : Int) < (l.length : Int) := by omega
      have HS := Lib.hid (show (q : Int) = ((g32 l : Nat) : Int) from by rw [HQ.out.2]; rfl)
      clear hlt hk
      go_wp2_with fail
      go_ret
      exact OneB.int HS.out HB.out

set_option maxHeartbeats 1000000 in
theorem hashSum1 (l : List UInt8) (w : World) (hl : l.length ≤ 1000) (ht : SizesOK w) :
    Calls Tryd.prog 23 #[.string ⟨l.toArray⟩, .int .i64 1] w (OneB (.int .u64 ((h64 l : Nat) : Int)) w) := by
  have q1 := fun (w : World) (s : ByteArray) => Lib.run_convert_string_bytes (P := Tryd.prog) w 9 40 5 s Tryd.underlying9 Tryd.underlying40 Tryd.underlying5
  have hsz : (ByteArray.mk l.toArray).size = l.length := by show l.toArray.size = _; simp
  have T1 := ht.2.2.1
  have T2 := Lib.hid ht
  clear ht
  go_enter Tryd.func23, Tryd.ntmps23
  go_wp2_with fail
  have HB := Lib.hid (bytesWorld_below w ⟨l.toArray⟩)
  have HAT := Lib.hid (bytesWorld_at w ⟨l.toArray⟩)
  have HT := Lib.hid (T2.out.below HB.out)
  clear q1 T1 T2
  generalize Lib.bytesWorld w 5 ⟨l.toArray⟩ = W1 at HB HAT HT ⊢
  go_loopw [5, 15] (fun m a wr => ∃ (k q : Nat), k ≤ l.length ∧ a = .int .i64 k ∧ m = .int .u64 (q : Int) ∧ wr = W1 ∧ Hid (q < 18446744073709551616 ∧ q = hrun 1099511628211 18446744073709551616 14695981039346656037 (l.take k))) (fun _ a _ => l.length - (intOf a).toNat)
  case atStart => exact ⟨0, 14695981039346656037, by omega, rfl, rfl, rfl, by decide, rfl⟩
  case round =>
    obtain ⟨k, q, hk, rfl, rfl, rfl, HQ⟩ := hrel
    by_cases hlt : k < l.length
    · have i0 : (k : Int) < (l.length : Int) := by omega
      obtain ⟨b, off, e, hb, hc⟩ := HAT.out (by simpa using (by omega : 0 < l.length))
      cases e
      have hc0 := hc k l[k] (by simp [hlt]) 0 _ rfl
      have d0 : wr.cell? ⟨w.heap.size, k, none⟩ = some (.int .u8 (l[k]).toNat) := by simpa using hc0
      have h8 := toNat8 l[k]
      have hx := xor64 q (l[k]).toNat HQ.out.1 (by omega)
      have eW := wrap8_64 l[k]
      have hT := HT.out.2.2.2
      have HS := Lib.hid (show hstep 1099511628211 18446744073709551616 q l[k] < 18446744073709551616 ∧ hstep 1099511628211 18446744073709551616 q l[k] = hrun 1099511628211 18446744073709551616 14695981039346656037 (l.take (k + 1)) from ⟨hstep_lt (by decide), by rw [hrun_take hlt, ← HQ.out.2]⟩)
      have HM := Lib.hid (show hstep 1099511628211 18446744073709551616 q l[k] = (q ^^^ (l[k]).toNat) * 1099511628211 % 18446744073709551616 from rfl)
      have HL := Lib.hid (xor_lt64 HQ.out.1 h8)
      clear hc hc0
      generalize hstep 1099511628211 18446744073709551616 q l[k] = z at *
      generalize (l[k]).toNat = y at *
      generalize q ^^^ y = u at *
      go_wp2_with fail
      go_roundw
      case rel => exact ⟨k + 1, z, by omega, by go_num, congrArg (Value.int .u64) ((wrapMul u 1099511628211).trans (by rw [HM.out])), by trivial, HS.out⟩
      case measure => simp [intOf]; omega
    · obtain rfl : k = l.length := by omega
      rw [List.take_length] at HQ
      have i0 : ¬ (l.length : Int) < (l.length : Int) := by omega
      have HS := Lib.hid (show (q : Int) = ((h64 l : Nat) : Int) from by rw [HQ.out.2]; rfl)
      clear hlt hk
      go_wp2_with fail
      go_ret
      exact OneB.int HS.out HB.out

theorem hashSum32 (l : List UInt8) (w : World) (hl : l.length ≤ 1000) (ht : SizesOK w) :
    Calls Tryd.prog 9 #[.string ⟨l.toArray⟩] w (OneB (.int .u32 ((h32 l : Nat) : Int)) w) := by
  have H := Lib.hid (hashSum0 l w hl ht)
  have HE := Lib.hid (show ((g32 l : Nat) : Int) % 4294967296 = ((h32 l : Nat) : Int) from by rw [← g32_low]; omega)
  have HW := Lib.hid (g32_lt l)
  clear ht hl
  generalize g32 l = z at *
  go_enter Tryd.func9, Tryd.ntmps9
  go_wp2_with fail
  refine H.out.mono ?_
  rintro e w1 ⟨rfl, hb⟩
  have HB := Lib.hid hb
  clear hb
  go_wp2_with fail
  go_ret
  exact OneB.int HE.out HB.out
theorem hashSum64 (l : List UInt8) (w : World) (hl : l.length ≤ 1000) (ht : SizesOK w) :
    Calls Tryd.prog 11 #[.string ⟨l.toArray⟩] w (OneB (.int .u64 ((h64 l : Nat) : Int)) w) := by
  have H := Lib.hid (hashSum1 l w hl ht)
  clear ht hl
  generalize h64 l = z at *
  go_enter Tryd.func11, Tryd.ntmps11
  go_wp2_with fail
  refine H.out.mono ?_
  rintro e w1 ⟨rfl, hb⟩
  have HB := Lib.hid hb
  clear hb
  go_wp2_with fail
  go_ret
  exact ⟨rfl, HB.out⟩

set_option maxHeartbeats 1000000 in
theorem refSum32 (l : List UInt8) (w : World) (hl : l.length ≤ 1000) :
    Calls Tryd.prog 10 #[.string ⟨l.toArray⟩] w (One (.int .u32 ((h32 l : Nat) : Int)) w) := by
  have hsz : (ByteArray.mk l.toArray).size = l.length := by show l.toArray.size = _; simp
  go_enter Tryd.func10, Tryd.ntmps10
  go_wp2_with fail
  go_loopw [3, 4] (fun m a wr => ∃ (k q : Nat), k ≤ l.length ∧ a = .int .i64 k ∧ m = .int .u64 (q : Int) ∧ wr = w ∧ Hid (q < 4294967296 ∧ q = hrun 16777619 4294967296 2166136261 (l.take k))) (fun _ a _ => l.length - (intOf a).toNat)
  case atStart => exact ⟨0, 2166136261, by omega, rfl, rfl, rfl, by decide, rfl⟩
  case round =>
    obtain ⟨k, q, hk, rfl, rfl, rfl, HQ⟩ := hrel
    by_cases hlt : k < l.length
    · have i0 : (k : Int) < (l.length : Int) := by omega
      obtain ⟨b, hb⟩ : ∃ b, l[k] = b := ⟨_, rfl⟩
      have hx : ∀ h : k < (ByteArray.mk l.toArray).size, (ByteArray.mk l.toArray)[k]'h = b := fun h => by rw [← hb]; rfl
      have hx2 : l[k] = b := hb
      have h8 := toNat8 b
      have hxo := xor64 q b.toNat (by have := HQ.out.1; omega) (by omega)
      have eW : (b.toNat : Int) % 18446744073709551616 = (b.toNat : Int) := by omega
      have HS := Lib.hid (show hstep 16777619 4294967296 q b < 4294967296 ∧ hstep 16777619 4294967296 q b = hrun 16777619 4294967296 2166136261 (l.take (k + 1)) from ⟨hstep_lt (by decide), by rw [hrun_take hlt, ← HQ.out.2, hb]⟩)
      have HM := Lib.hid (show hstep 16777619 4294967296 q b = (q ^^^ b.toNat) * 16777619 % 4294967296 from rfl)
      have HL := Lib.hid (xor_lt32 HQ.out.1 h8)
      generalize hstep 16777619 4294967296 q b = z at *
      generalize q ^^^ b.toNat = u at *
      go_wp2_with fail
      go_roundw
      case rel => exact ⟨k + 1, z, by omega, by go_num, congrArg (Value.int .u64) (by rw [HM.out]; exact wrapMulMod HL.out), by trivial, HS.out⟩
      case measure => simp [intOf]; omega
    · obtain rfl : k = l.length := by omega
      rw [List.take_length] at HQ
      have i0 : ¬ (l.length : Int) < (l.length : Int) := by omega
      have HS := Lib.hid (show (q : Int) = ((h32 l : Nat) : Int) from by rw [HQ.out.2]; rfl)
      have HL := Lib.hid HQ.out.1
      clear hlt hk
      go_wp2_with fail
      go_ret
      exact One.int _ (by have := HS.out; have := HL.out; omega)

set_option maxHeartbeats 1000000 in
theorem refSum64 (l : List UInt8) (w : World) (hl : l.length ≤ 1000) :
    Calls Tryd.prog 12 #[.string ⟨l.toArray⟩] w (One (.int .u64 ((h64 l : Nat) : Int)) w) := by
  have hsz : (ByteArray.mk l.toArray).size = l.length := by show l.toArray.size = _; simp
  go_enter Tryd.func12, Tryd.ntmps12
  go_wp2_with fail
  go_loopw [3, 4] (fun m a wr => ∃ (k q : Nat), k ≤ l.length ∧ a = .int .i64 k ∧ m = .int .u64 (q : Int) ∧ wr = w ∧ Hid (q < 18446744073709551616 ∧ q = hrun 1099511628211 18446744073709551616 14695981039346656037 (l.take k))) (fun _ a _ => l.length - (intOf a).toNat)
  case atStart => exact ⟨0, 14695981039346656037, by omega, rfl, rfl, rfl, by decide, rfl⟩
  case round =>
    obtain ⟨k, q, hk, rfl, rfl, rfl, HQ⟩ := hrel
    by_cases hlt : k < l.length
    · have i0 : (k : Int) < (l.length : Int) := by omega
      obtain ⟨b, hb⟩ : ∃ b, l[k] = b := ⟨_, rfl⟩
      have hx : ∀ h : k < (ByteArray.mk l.toArray).size, (ByteArray.mk l.toArray)[k]'h = b := fun h => by rw [← hb]; rfl
      have hx2 : l[k] = b := hb
      have h8 := toNat8 b
      have hxo := xor64 q b.toNat HQ.out.1 (by omega)
      have eW : (b.toNat : Int) % 18446744073709551616 = (b.toNat : Int) := by omega
      have HS := Lib.hid (show hstep 1099511628211 18446744073709551616 q b < 18446744073709551616 ∧ hstep 1099511628211 18446744073709551616 q b = hrun 1099511628211 18446744073709551616 14695981039346656037 (l.take (k + 1)) from ⟨hstep_lt (by decide), by rw [hrun_take hlt, ← HQ.out.2, hb]⟩)
      have HM := Lib.hid (show hstep 1099511628211 18446744073709551616 q b = (q ^^^ b.toNat) * 1099511628211 % 18446744073709551616 from rfl)
      have HL := Lib.hid (xor_lt64 HQ.out.1 h8)
      generalize hstep 1099511628211 18446744073709551616 q b = z at *
      generalize q ^^^ b.toNat = u at *
      go_wp2_with fail
      go_roundw
      case rel => exact ⟨k + 1, z, by omega, by go_num, congrArg (Value.int .u64) (by rw [HM.out]; have := HL.out; simp only [wrapU64]; omega), by trivial, HS.out⟩
      case measure => simp [intOf]; omega
    · obtain rfl : k = l.length := by omega
      rw [List.take_length] at HQ
      have i0 : ¬ (l.length : Int) < (l.length : Int) := by omega
      have HS := Lib.hid (show (q : Int) = ((h64 l : Nat) : Int) from by rw [HQ.out.2]; rfl)
      clear hlt hk
      go_wp2_with fail
      go_ret
      exact One.int _ HS.out

end Go.Proofs.YtmploibgmmeanaaDoor
