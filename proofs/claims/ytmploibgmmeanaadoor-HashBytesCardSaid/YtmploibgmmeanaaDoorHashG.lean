/- The law HashBytes. -/
import Derived.Test.YtmploibgmmeanaaDoorHashE
namespace Go.Proofs.YtmploibgmmeanaaDoor
open Go.RowKit

theorem add_ne (x : UInt8) (y : Nat) (h0 : 0 < y) (h1 : y < 256) : UInt8.ofNat (x.toNat + y) ≠ x := by
  intro h
  have := congrArg UInt8.toNat h
  have hx := toNat8 x
  rw [UInt8.toNat_ofNat'] at this
  omega
theorem wrap_add8 (x : UInt8) (y : Nat) : IntKind.u8.wrap ((x.toNat : Int) + (y : Int)) = ((UInt8.ofNat (x.toNat + y)).toNat : Int) := by
  rw [UInt8.toNat_ofNat']
  simp [IntKind.wrap, IntKind.bits, IntKind.signed]
theorem SlAt.setB {W : World} {g j : Nat} {l : List UInt8} (h : BytesAt W (some ⟨g, 0, none⟩) l) (hj : j < l.length) (b : UInt8) :
    BytesAt (W.setCell ⟨g, j, none⟩ (.int .u8 b.toNat)) (some ⟨g, 0, none⟩) (l.set j b) := fun hp => by
  obtain ⟨g', off, e, hb, hc⟩ := h (by omega)
  cases e
  refine ⟨g, 0, rfl, by simpa using hb, fun i x hx m u hu => ?_⟩
  match m, hu with
  | 0, hu =>
    have hu' : Value.int .u8 x.toNat = u := by simpa using hu
    subst hu'
    rw [List.getElem?_set] at hx
    by_cases e : j = i
    · subst e
      rw [if_pos rfl, if_pos hj] at hx
      cases hx
      have hc0 := hc j l[j] (List.getElem?_eq_getElem hj) 0 _ rfl
      simp only [Nat.zero_add, Nat.mul_one, Nat.add_zero] at hc0 ⊢
      exact World.cell?_setCell_same _ _ _ hc0
    · rw [if_neg e] at hx
      have hc0 := hc i x hx 0 _ rfl
      simp only [Nat.zero_add, Nat.mul_one, Nat.add_zero] at hc0 ⊢
      rw [World.cell?_setCell_other (h := fun h => e (by injection h))]
      exact hc0
  | m + 1, hu => simp at hu
theorem bytesWorld_frozen (w : World) (l : List UInt8) (j : Nat) (hj : j < l.length) : (Lib.bytesWorld w 5 ⟨l.toArray⟩).frozen? ⟨w.heap.size, j, none⟩ = false := by
  have h := Lib.bytesWorld_at_new w 5 ⟨l.toArray⟩
  have hs : l.length ≤ (Lib.bytesCells w 5 ⟨l.toArray⟩).size := by simp [Lib.bytesCells]
  simp [World.frozen?, h]
  omega
theorem convAt (w : World) (B : Option Addr) (d : Nat) (ys : List UInt8) (hat : BytesAt w B ys) : (convert 40 9 (.slice B ys.length d)).run Tryd.prog w = .ok (.string ⟨ys.toArray⟩) w := by
  match B with
  | none =>
    have h0 : ys = [] := by
      cases ys with
      | nil => rfl
      | cons x r => obtain ⟨_, _, h, _⟩ := hat (by simp); cases h
    subst h0
    exact Lib.run_convert_nil_bytes w _ _ 5 d Tryd.underlying40 Tryd.underlying5 Tryd.underlying9
  | some a =>
    refine run_convert_bytes_back w _ _ 5 a d ys Tryd.underlying40 Tryd.underlying5 Tryd.underlying9 fun j hj => ?_
    obtain ⟨b, off, e, _, hc⟩ := hat (by omega)
    cases e
    have := hc j _ (List.getElem?_eq_getElem hj) 0 _ rfl
    rw [Addr_add]
    simpa using this

set_option maxRecDepth 100000 in
set_option maxHeartbeats 2000000 in
theorem lawBytes6 (l : List UInt8) (k y : Nat) (w : World) (hk : k < 65536) (hy : y < 256) (ht : SizesOK w) :
    Calls Tryd.prog 6 #[.string ⟨l.toArray⟩, .int .u16 (k : Int), .int .u8 (y : Int)] w (TrueB w) := by
  have K0 := Lib.hid (show KK w w from ⟨Below.refl _ _, ht⟩)
  have HK := Lib.hid (show k < 65536 ∧ y < 256 from ⟨hk, hy⟩)
  clear ht hk hy
  by_cases h1 : l.length < 1
  · have z0 : (l.length : Int) < 1 := by omega
    clear h1
    go_enter Tryd.func6, Tryd.ntmps6
    go_wp2_with fail
    refine (known6 _ K0.out.sizes).mono ?_
    rintro e w1 ⟨rfl, hb⟩
    have HB := Lib.hid hb
    clear hb
    go_wp2_with fail
    go_ret
    exact ⟨rfl, HB.out⟩
  have z0 : ¬ (l.length : Int) < 1 := by omega
  by_cases h3 : 300 < l.length
  · have z1 : (300 : Int) < (l.length : Int) := by omega
    clear h1 h3
    go_enter Tryd.func6, Tryd.ntmps6
    go_wp2_with fail
    refine (known6 _ K0.out.sizes).mono ?_
    rintro e w1 ⟨rfl, hb⟩
    have HB := Lib.hid hb
    clear hb
    go_wp2_with fail
    go_ret
    exact ⟨rfl, HB.out⟩
  have z1 : ¬ (300 : Int) < (l.length : Int) := by omega
  by_cases hy0 : y = 0
  · subst hy0
    clear h1 h3
    go_enter Tryd.func6, Tryd.ntmps6
    go_wp2_with fail
    refine (known6 _ K0.out.sizes).mono ?_
    rintro e w1 ⟨rfl, hb⟩
    have HB := Lib.hid hb
    clear hb
    go_wp2_with fail
    go_ret
    exact ⟨rfl, HB.out⟩
  have z2 : ((y : Int) == 0) = false := by simp; omega
  have q1 := fun (w : World) (s : ByteArray) => Lib.run_convert_string_bytes (P := Tryd.prog) w 9 40 5 s Tryd.underlying9 Tryd.underlying40 Tryd.underlying5
  have hsz : (ByteArray.mk l.toArray).size = l.length := by show l.toArray.size = _; simp
  obtain ⟨L, hL⟩ : ∃ L, l.length = L := ⟨_, rfl⟩
  rw [hL] at hsz h1 h3 z0 z1
  have HL := Lib.hid (show l.length = L ∧ 1 ≤ L ∧ L ≤ 300 from ⟨hL, by omega, by omega⟩)
  obtain ⟨j, hj⟩ : ∃ j, k % L = j := ⟨_, rfl⟩
  have hjL : j < L := by rw [← hj]; exact Nat.mod_lt _ (by omega)
  have hjz : j < l.length := by rw [hL]; exact hjL
  obtain ⟨x, hx⟩ : ∃ x, l[j] = x := ⟨_, rfl⟩
  have w64 : wrap64 (k : Int) = (k : Int) := by have := HK.out.1; unfold wrap64; omega
  have m1 : (k : Int).tmod (L : Int) = (j : Int) := by rw [Int.tmod_eq_emod_of_nonneg (by omega), ← hj, Int.natCast_emod]
  have m2 : ¬ (L : Int) = 0 := by omega
  have m3 : (j : Int) < (L : Int) := by omega
  obtain ⟨z, hz⟩ : ∃ z, UInt8.ofNat (x.toNat + y) = z := ⟨_, rfl⟩
  have e8 := wrap_add8 x y
  have HNE := Lib.hid (show h32 (l.set j z) ≠ h32 l ∧ h64 (l.set j z) ≠ h64 l from
    ⟨h32_set l j hjz _ (by rw [hx, ← hz]; exact add_ne x y (by omega) HK.out.2), h64_set l j hjz _ (by rw [hx, ← hz]; exact add_ne x y (by omega) HK.out.2)⟩)
  rw [hz] at e8
  have HB := Lib.hid (bytesWorld_below w ⟨l.toArray⟩)
  have HF := bytesWorld_frozen w l j hjz
  have HS := Lib.hid (SlAt.setB (bytesWorld_at w ⟨l.toArray⟩) hjz z)
  have d0 : (Lib.bytesWorld w 5 ⟨l.toArray⟩).cell? ⟨w.heap.size, j, none⟩ = some (.int .u8 (x.toNat : Int)) := by
    obtain ⟨b, off, e, _, hc⟩ := bytesWorld_at w ⟨l.toArray⟩ (by simpa using (by omega : 0 < l.length))
    cases e
    have := hc j x (by simp [hjz, hx]) 0 _ rfl
    simpa using this
  have hcv : ∀ d, (convert 40 9 (.slice (some ⟨w.heap.size, 0, none⟩) L d)).run Tryd.prog ((Lib.bytesWorld w 5 ⟨l.toArray⟩).setCell ⟨w.heap.size, j, none⟩ (.int .u8 z.toNat)) = .ok (.string ⟨(l.set j z).toArray⟩) ((Lib.bytesWorld w 5 ⟨l.toArray⟩).setCell ⟨w.heap.size, j, none⟩ (.int .u8 z.toNat)) := fun d => by
    have h := convAt _ _ d _ HS.out
    rw [List.length_set, hL] at h
    exact h
  have HW := Lib.hid (show KK w ((Lib.bytesWorld w 5 ⟨l.toArray⟩).setCell ⟨w.heap.size, j, none⟩ (.int .u8 z.toNat)) from
    K0.out.next (HB.out.trans ((Chg.of_set (S := fun k => k = w.heap.size) _ _ rfl).below HB.out.size fun k hk => by omega)))
  clear h1 h3 hy0 hL hj hjz hx hz HS HB K0
  go_enter Tryd.func6, Tryd.ntmps6
  go_wp2_with fail
  clear hcv q1 HF d0 e8 m1 m2 m3 w64
  generalize World.setCell (Lib.bytesWorld w _ _) _ _ = W0 at HW ⊢
  have HL2 := Lib.hid (show (l.set j z).length ≤ 1000 from by rw [List.length_set, HL.out.1]; have := HL.out.2; omega)
  have HL1 := Lib.hid (show l.length ≤ 1000 from by rw [HL.out.1]; have := HL.out.2; omega)
  generalize l.set j z = ts at *
  obtain ⟨p, hp⟩ : ∃ p, h32 l = p := ⟨_, rfl⟩
  obtain ⟨q, hq⟩ : ∃ q, h64 l = q := ⟨_, rfl⟩
  obtain ⟨p2, hp2⟩ : ∃ p, h32 ts = p := ⟨_, rfl⟩
  obtain ⟨q2, hq2⟩ : ∃ q, h64 ts = q := ⟨_, rfl⟩
  have hne := HNE.out
  rw [hp, hq, hp2, hq2] at hne
  have z3 : ((p : Int) != (p2 : Int)) = true := by simp only [bne_iff_ne]; omega
  have z4 : ((q : Int) != (q2 : Int)) = true := by simp only [bne_iff_ne]; omega
  have C1 := Lib.hid (fun (W : World) (h : SizesOK W) => hashSum32 l W HL1.out h)
  have C2 := Lib.hid (fun (W : World) (h : SizesOK W) => hashSum32 ts W HL2.out h)
  have C3 := Lib.hid (fun (W : World) (h : SizesOK W) => hashSum64 l W HL1.out h)
  have C4 := Lib.hid (fun (W : World) (h : SizesOK W) => hashSum64 ts W HL2.out h)
  have C5 := Lib.hid (fun (W : World) => refSum32 ts W HL2.out)
  rw [hp] at C1
  rw [hp2] at C2 C5
  rw [hq] at C3
  rw [hq2] at C4
  clear hp hq hp2 hq2 hne HNE
  refine (C1.out _ HW.out.sizes).mono ?_
  rintro e w1 ⟨rfl, hb⟩
  have K1 := Lib.hid (HW.out.next hb)
  clear hb HW
  go_wp2_with fail
  refine (C2.out _ K1.out.sizes).mono ?_
  rintro e w2 ⟨rfl, hb⟩
  have K2 := Lib.hid (K1.out.next hb)
  clear hb K1
  go_wp2_with fail
  refine (C3.out _ K2.out.sizes).mono ?_
  rintro e w3 ⟨rfl, hb⟩
  have K3 := Lib.hid (K2.out.next hb)
  clear hb K2
  go_wp2_with fail
  refine (C4.out _ K3.out.sizes).mono ?_
  rintro e w4 ⟨rfl, hb⟩
  have K4 := Lib.hid (K3.out.next hb)
  clear hb K3
  go_wp2_with fail
  refine (C2.out _ K4.out.sizes).mono ?_
  rintro e w5 ⟨rfl, hb⟩
  have K5 := Lib.hid (K4.out.next hb)
  clear hb K4
  go_wp2_with fail
  refine (C5.out _).mono ?_
  rintro e w6 ⟨rfl, rfl⟩
  go_wp2_with fail
  refine (known6 _ K5.out.sizes).mono ?_
  rintro e w7 ⟨rfl, hb⟩
  have K7 := Lib.hid (K5.out.next hb)
  clear hb K5
  go_wp2_with fail
  go_ret
  exact ⟨rfl, K7.out.below⟩

end Go.Proofs.YtmploibgmmeanaaDoor
