/- Package dot: the search in a set, what pick leaves. -/
import Derived.Test.YtibnlifdeknicaaDotH
namespace Go.Proofs.Ytibnlifdeknicaa
open Go.RowKit

/-- In increasing order, each once. -/
def Inc (s : List (Int × Int)) : Prop := s.Pairwise fun p q => ltD p q = true

theorem ltD_irrefl (p : Int × Int) : ltD p p = false := by simp [ltD, lessD]
theorem cmpD_neg {p q : Int × Int} : cmpD p.1 p.2 q.1 q.2 < 0 ↔ ltD p q = true := by
  unfold cmpD ltD
  cases lessD p.1 p.2 q.1 q.2
  · simp; split <;> simp
  · simp
theorem cmpD_zero {p q : Int × Int} : cmpD p.1 p.2 q.1 q.2 = 0 ↔ p = q := by
  constructor
  · intro h
    refine ltD_total p q ?_ ?_
    · unfold cmpD at h; unfold ltD
      cases h1 : lessD p.1 p.2 q.1 q.2
      · rfl
      · simp [h1] at h
    · unfold cmpD at h; unfold ltD
      cases h1 : lessD q.1 q.2 p.1 p.2
      · rfl
      · simp [h1] at h
        split at h <;> simp at h
  · rintro rfl
    have := ltD_irrefl p
    unfold ltD at this
    simp [cmpD, this]

theorem Inc.get {s : List (Int × Int)} (h : Inc s) {i j : Nat} {p q : Int × Int} (hi : s[i]? = some p) (hj : s[j]? = some q) (hij : i < j) : ltD p q = true := by
  have hil : i < s.length := by
    rcases Nat.lt_or_ge i s.length with h | h
    · exact h
    · rw [List.getElem?_eq_none h] at hi; cases hi
  have hjl : j < s.length := by
    rcases Nat.lt_or_ge j s.length with h | h
    · exact h
    · rw [List.getElem?_eq_none h] at hj; cases hj
  have := List.pairwise_iff_getElem.1 h i j hil hjl hij
  rw [List.getElem?_eq_getElem hil] at hi
  rw [List.getElem?_eq_getElem hjl] at hj
  cases hi; cases hj
  exact this

theorem search_found {s : List (Int × Int)} {d : Int × Int} {i : Nat} (hs : Inc s) (h1 : ∀ j p, j < i → s[j]? = some p → ltD p d = true) (h2 : ∀ j p, i ≤ j → s[j]? = some p → ltD p d = false) :
    d ∈ s ↔ s[i]? = some d := by
  constructor
  · intro hd
    obtain ⟨k, hk⟩ := List.mem_iff_getElem?.1 hd
    rcases Nat.lt_trichotomy k i with h | h | h
    · have := h1 k d h hk
      rw [ltD_irrefl] at this; cases this
    · subst h; exact hk
    · have hil : i < s.length := by
        rcases Nat.lt_or_ge k s.length with h' | h'
        · omega
        · rw [List.getElem?_eq_none h'] at hk; cases hk
      have hi := List.getElem?_eq_getElem hil
      have a := hs.get hi hk h
      have b := h2 i _ (Nat.le_refl _) hi
      rw [a] at b; cases b
  · exact fun h => List.mem_of_getElem? h

theorem ret_two {a b : Bool} {i : Int} (h : a = b) : Ending.returned (.tuple #[.int .i64 i, .bool a]) = .returned (.tuple #[.int .i64 i, .bool b]) := by rw [h]

set_option maxHeartbeats 1000000 in
theorem binarySearch (A : Option Addr) (s : List (Int × Int)) (cap : Nat) (r0 c0 : Int) (w : World) (hx : DotsAt w A s) (hm : s.length ≤ 1000000) (hs : Inc s) :
    Calls Try.prog 64 #[.slice A s.length cap, .agg #[.int .i64 r0, .int .i64 c0], .func (.func 65) #[] #[]] w fun e w' =>
      (∃ i : Int, e = .returned (.tuple #[.int .i64 i, .bool (decide ((r0, c0) ∈ s))])) ∧ Below w.heap.size w w' := by
  have HS := Lib.hid hs; clear hs
  go_enter Try.func64, Try.ntmps64
  go_wp2
  go_loopw [9, 10] (fun i j wr => ∃ a b : Nat, a ≤ b ∧ b ≤ s.length ∧ i = .int .i64 a ∧ j = .int .i64 b ∧ Below (w.heap.size + 1) (w.alloc (.cells #[.int .i64 r0, .int .i64 c0] 38)) wr ∧ Hid (∀ j p, j < a → s[j]? = some p → ltD p (r0, c0) = true) ∧ Hid (∀ j p, b ≤ j → s[j]? = some p → ltD p (r0, c0) = false)) (fun i j _ => (intOf j).toNat - (intOf i).toNat)
  case atStart => exact ⟨0, s.length, by omega, by omega, rfl, rfl, Below.refl _ _, fun j p h => by omega, fun j p h hp => by rw [List.getElem?_eq_none h] at hp; cases hp⟩
  case round =>
    obtain ⟨a, b, hab, hbn, rfl, rfl, hb1, hlo, hhi⟩ := hrel
    have hb : Below w.heap.size w wr := ((Below.refl _ w).alloc (Nat.le_refl _) _).trans (hb1.mono (by omega))
    have hz : w.heap.size + 1 ≤ wr.heap.size := by have := hb1.size; simpa using this
    have k0 := cell_far (w := wr) (a := ⟨w.heap.size, 0, none⟩) (v := .int .i64 r0) (show w.heap.size < wr.heap.size by omega) ((hb1.cell (p := ⟨w.heap.size, 0, none⟩) (by simp)).trans (by simp [World.cell?_alloc_new]))
    have k1 := cell_far (w := wr) (a := ⟨w.heap.size, 1, none⟩) (v := .int .i64 c0) (show w.heap.size < wr.heap.size by omega) ((hb1.cell (p := ⟨w.heap.size, 1, none⟩) (by simp)).trans (by simp [World.cell?_alloc_new]))
    by_cases hlt : a < b
    · obtain ⟨h, hh1, hh2⟩ : ∃ h : Nat, h * 2 ≤ a + b ∧ a + b < h * 2 + 2 := ⟨(a + b) / 2, by omega, by omega⟩
      have he : ((a : Int) + (b : Int)) / 2 = (h : Int) := by omega
      have HE := Lib.hid he; clear he
      obtain ⟨g, off, r, c, rfl, hbl, hx1, hc0, hc1⟩ := (hx.below hb).dot (j := h) (by omega)
      have l0 := fun p => cell_far (p := p) hbl hc0
      have l1 := fun p => cell_far (p := p) hbl hc1
      clear hc0 hc1
      have hr := fun W => dotCompare r c r0 c0 W
      have hneg := cmpD_neg (p := (r, c)) (q := (r0, c0))
      have HX1 := Lib.hid hx1; clear hx1
      generalize hv : cmpD r c r0 c0 = v at hr
      simp only [hv] at hneg
      clear hv
      have HR := Lib.hid hr; clear hr
      cases hq : ltD (r, c) (r0, c0)
      · rw [hq] at hneg
        have hv0 : 0 ≤ v := by
          rcases Int.lt_or_le v 0 with h' | h'
          · exact absurd (hneg.1 h') (by simp)
          · exact h'
        have HQ := Lib.hid hq; clear hq hneg
        go_wp2_with fail
        rw [HE.out]
        refine wp_region_far (by kernel_rfl) (by kernel_rfl) ?_
        repeat (go_big_quiet_step ((go_at_call 65; exact far_of (HR.out _))))
        refine wpQuiet_nil ?_
        rintro _ ⟨p, rfl⟩
        go_wp2
        go_roundw
        case rel =>
          refine ⟨a, h, by omega, by omega, rfl, rfl, hb1.trans ((below_far wr p).mono hz), hlo, (show Hid _ from fun j p hj hp => ?_)⟩
          rcases Nat.lt_or_ge h j with h' | h'
          · have := HS.out.get HX1.out hp h'
            cases hc : ltD p (r0, c0)
            · rfl
            · have := swoD.trans _ _ _ this hc
              rw [HQ.out] at this; cases this
          · obtain rfl : j = h := by omega
            rw [HX1.out] at hp; cases hp
            exact HQ.out
        case measure => simp [intOf]; omega
      · rw [hq] at hneg
        have hv0 : v < 0 := hneg.2 rfl
        have HQ := Lib.hid hq; clear hq hneg
        go_wp2_with fail
        rw [HE.out]
        refine wp_region_far (by kernel_rfl) (by kernel_rfl) ?_
        repeat (go_big_quiet_step ((go_at_call 65; exact far_of (HR.out _))))
        refine wpQuiet_nil ?_
        rintro _ ⟨p, rfl⟩
        go_wp2
        go_roundw
        case rel =>
          refine ⟨h + 1, b, by omega, by omega, by go_num, rfl, hb1.trans ((below_far wr p).mono hz), (show Hid _ from fun j p hj hp => ?_), hhi⟩
          rcases Nat.lt_or_ge j h with h' | h'
          · exact swoD.trans _ _ _ (HS.out.get hp HX1.out h') HQ.out
          · obtain rfl : j = h := by omega
            rw [HX1.out] at hp; cases hp
            exact HQ.out
        case measure => simp [intOf]; omega
    · have hab' : a = b := by omega
      subst hab'
      have hf := search_found HS.out hlo.out hhi.out
      have HF := Lib.hid hf; clear hf
      by_cases hlen : a < s.length
      · obtain ⟨g, off, r, c, rfl, hbl, hx1, hc0, hc1⟩ := (hx.below hb).dot (j := a) hlen
        have l0 := fun p => cell_far (p := p) hbl hc0
        have l1 := fun p => cell_far (p := p) hbl hc1
        clear hc0 hc1
        have hr := fun W => dotCompare r c r0 c0 W
        have hzr := cmpD_zero (p := (r, c)) (q := (r0, c0))
        generalize hv : cmpD r c r0 c0 = v at hr
        simp only [hv] at hzr
        clear hv
        have HR := Lib.hid hr; clear hr
        have HX1 := Lib.hid hx1; clear hx1
        by_cases hv0 : v = 0
        · have hd : decide ((r0, c0) ∈ s) = true := by
            have : (r0, c0) ∈ s := HF.out.2 (by rw [HX1.out, hzr.1 hv0])
            simp [this]
          have HD := Lib.hid hd
          subst hv0
          clear hd hzr
          go_wp2_with fail
          refine wp_region_far (by kernel_rfl) (by kernel_rfl) ?_
          repeat (go_big_quiet_step ((go_at_call 65; exact far_of (HR.out _))))
          refine wpQuiet_nil ?_
          rintro _ ⟨p, rfl⟩
          go_wp2
          go_ret2
          exact ⟨⟨_, ret_two (by simp [HD.out])⟩, hb.trans ((below_far wr p).mono hb.size)⟩
        · have hd : decide ((r0, c0) ∈ s) = false := by
            have : ¬ (r0, c0) ∈ s := fun hm => by
              have := HF.out.1 hm
              rw [HX1.out] at this
              injection this with this
              exact hv0 (hzr.2 this)
            simp [this]
          have hv1 : (v == 0) = false := by simp [hv0]
          have HD := Lib.hid hd
          clear hd hzr hv0
          go_wp2_with fail
          refine wp_region_far (by kernel_rfl) (by kernel_rfl) ?_
          repeat (go_big_quiet_step ((go_at_call 65; exact far_of (HR.out _))))
          refine wpQuiet_nil ?_
          rintro _ ⟨p, rfl⟩
          go_wp2
          go_ret2
          exact ⟨⟨_, ret_two (by simp [HD.out])⟩, hb.trans ((below_far wr p).mono hb.size)⟩
      · have hd : decide ((r0, c0) ∈ s) = false := by
          have : ¬ (r0, c0) ∈ s := fun hm => by
            have := HF.out.1 hm
            rw [List.getElem?_eq_none (by omega)] at this; cases this
          simp [this]
        have hdc : decide ((a : Int) < (s.length : Int)) = false := by simp; omega
        have HD := Lib.hid hd
        clear hd
        go_wp2_with fail
        refine wp_region_far (by kernel_rfl) (by kernel_rfl) ?_
        repeat (go_big_quiet_step ((fail)))
        refine wpQuiet_nil ?_
        rintro _ ⟨p, rfl⟩
        go_wp2
        go_ret2
        exact ⟨⟨_, ret_two (by simp [HD.out])⟩, hb.trans ((below_far wr p).mono hb.size)⟩

end Go.Proofs.Ytibnlifdeknicaa
