/- Several texts in one: DotI, DotK, CtxK, VecA. -/
import Derived.Test.YtpnemekkpifbaaaGreatMAD
import Derived.Test.YtpnemekkpifbaaaGreatMAC
import Derived.Test.YtpnemekkpifbaaaGreatMAA
namespace Go.Proofs.YtpnemekkpifbaaaGreat

section
open Go.RowKit

/-- In increasing order, each once. -/
def Inc (s : List (Int × Int)) : Prop := s.Pairwise fun p q => ltD p q = true

theorem ltD_irrefl (p : Int × Int) : ltD p p = false := by simp [ltD, lessD]
theorem cmpD_neg {p q : Int × Int} : cmpD p.1 p.2 q.1 q.2 < 0 ↔ ltD p q = true := by
  unfold cmpD ltD
  cases lessD p.1 p.2 q.1 q.2
  · simp; split <;> simp
  · simp
theorem cmpD_zero {p q : Int × Int} : cmpD p.1 p.2 q.1 q.2 = 0 ↔ p = q := by
  constructor
  · intro h
    refine ltD_total p q ?_ ?_
    · unfold cmpD at h; unfold ltD
      cases h1 : lessD p.1 p.2 q.1 q.2
      · rfl
      · simp [h1] at h
    · unfold cmpD at h; unfold ltD
      cases h1 : lessD q.1 q.2 p.1 p.2
      · rfl
      · simp [h1] at h
        split at h <;> simp at h
  · rintro rfl
    have := ltD_irrefl p
    unfold ltD at this
    simp [cmpD, this]

theorem Inc.get {s : List (Int × Int)} (h : Inc s) {i j : Nat} {p q : Int × Int} (hi : s[i]? = some p) (hj : s[j]? = some q) (hij : i < j) : ltD p q = true := by
  have hil : i < s.length := by
    rcases Nat.lt_or_ge i s.length with h | h
    · exact h
    · rw [List.getElem?_eq_none h] at hi; cases hi
  have hjl : j < s.length := by
    rcases Nat.lt_or_ge j s.length with h | h
    · exact h
    · rw [List.getElem?_eq_none h] at hj; cases hj
  have := List.pairwise_iff_getElem.1 h i j hil hjl hij
  rw [List.getElem?_eq_getElem hil] at hi
  rw [List.getElem?_eq_getElem hjl] at hj
  cases hi; cases hj
  exact this

theorem search_found {s : List (Int × Int)} {d : Int × Int} {i : Nat} (hs : Inc s) (h1 : ∀ j p, j < i → s[j]? = some p → ltD p d = true) (h2 : ∀ j p, i ≤ j → s[j]? = some p → ltD p d = false) :
    d ∈ s ↔ s[i]? = some d := by
  constructor
  · intro hd
    obtain ⟨k, hk⟩ := List.mem_iff_getElem?.1 hd
    rcases Nat.lt_trichotomy k i with h | h | h
    · have := h1 k d h hk
      rw [ltD_irrefl] at this; cases this
    · subst h; exact hk
    · have hil : i < s.length := by
        rcases Nat.lt_or_ge k s.length with h' | h'
        · omega
        · rw [List.getElem?_eq_none h'] at hk; cases hk
      have hi := List.getElem?_eq_getElem hil
      have a := hs.get hi hk h
      have b := h2 i _ (Nat.le_refl _) hi
      rw [a] at b; cases b
  · exact fun h => List.mem_of_getElem? h

theorem ret_two {a b : Bool} {i : Int} (h : a = b) : Ending.returned (.tuple #[.int .i64 i, .bool a]) = .returned (.tuple #[.int .i64 i, .bool b]) := by rw [h]

set_option maxHeartbeats 1000000 in
theorem binarySearch (A : Option Addr) (s : List (Int × Int)) (cap : Nat) (r0 c0 : Int) (w : World) (hx : DotsAt w A s) (hm : s.length ≤ 1000000) (hs : Inc s) :
    Calls Tryz.prog 58 #[.slice A s.length cap, .agg #[.int .i64 r0, .int .i64 c0], .func (.func 59) #[] #[]] w fun e w' =>
      (∃ i : Int, e = .returned (.tuple #[.int .i64 i, .bool (decide ((r0, c0) ∈ s))])) ∧ Below w.heap.size w w' := by
  have HS := Lib.hid hs; clear hs
  go_enter Tryz.func58, Tryz.ntmps58
  go_wp2
  go_loopw [9, 10] (fun i j wr => ∃ a b : Nat, a ≤ b ∧ b ≤ s.length ∧ i = .int .i64 a ∧ j = .int .i64 b ∧ Below (w.heap.size + 1) (w.alloc (.cells #[.int .i64 r0, .int .i64 c0] 52)) wr ∧ Hid (∀ j p, j < a → s[j]? = some p → ltD p (r0, c0) = true) ∧ Hid (∀ j p, b ≤ j → s[j]? = some p → ltD p (r0, c0) = false)) (fun i j _ => (intOf j).toNat - (intOf i).toNat)
  case atStart => exact ⟨0, s.length, by omega, by omega, rfl, rfl, Below.refl _ _, fun j p h => by omega, fun j p h hp => by rw [List.getElem?_eq_none h] at hp; cases hp⟩
  case round =>
    obtain ⟨a, b, hab, hbn, rfl, rfl, hb1, hlo, hhi⟩ := hrel
    have hb : Below w.heap.size w wr := ((Below.refl _ w).alloc (Nat.le_refl _) _).trans (hb1.mono (by omega))
    have hz : w.heap.size + 1 ≤ wr.heap.size := by have := hb1.size; simpa using this
    have k0 := cell_far (w := wr) (a := ⟨w.heap.size, 0, none⟩) (v := .int .i64 r0) (show w.heap.size < wr.heap.size by omega) ((hb1.cell (p := ⟨w.heap.size, 0, none⟩) (by simp)).trans (by simp [World.cell?_alloc_new]))
    have k1 := cell_far (w := wr) (a := ⟨w.heap.size, 1, none⟩) (v := .int .i64 c0) (show w.heap.size < wr.heap.size by omega) ((hb1.cell (p := ⟨w.heap.size, 1, none⟩) (by simp)).trans (by simp [World.cell?_alloc_new]))
    by_cases hlt : a < b
    · obtain ⟨h, hh1, hh2⟩ : ∃ h : Nat, h * 2 ≤ a + b ∧ a + b < h * 2 + 2 := ⟨(a + b) / 2, by omega, by omega⟩
      have he : ((a : Int) + (b : Int)) / 2 = (h : Int) := by omega
      have HE := Lib.hid he; clear he
      obtain ⟨g, off, r, c, rfl, hbl, hx1, hc0, hc1⟩ := (hx.below hb).dot (j := h) (by omega)
      have l0 := fun p => cell_far (p := p) hbl hc0
      have l1 := fun p => cell_far (p := p) hbl hc1
      clear hc0 hc1
      have hr := fun W => dotCompare r c r0 c0 W
      have hneg := cmpD_neg (p := (r, c)) (q := (r0, c0))
      have HX1 := Lib.hid hx1; clear hx1
      generalize hv : cmpD r c r0 c0 = v at hr
      simp only [hv] at hneg
      clear hv
      have HR := Lib.hid hr; clear hr
      cases hq : ltD (r, c) (r0, c0)
      · rw [hq] at hneg
        have hv0 : 0 ≤ v := by
          rcases Int.lt_or_le v 0 with h' | h'
          · exact absurd (hneg.1 h') (by simp)
          · exact h'
        have HQ := Lib.hid hq; clear hq hneg
        go_wp2_with fail
        rw [HE.out]
        refine wp_region_far (by kernel_rfl) (by kernel_rfl) ?_
        repeat (go_big_quiet_step ((go_at_call 59; exact far_of (HR.out _))))
        refine wpQuiet_nil ?_
        rintro _ ⟨p, rfl⟩
        go_wp2
        go_roundw
        case rel =>
          refine ⟨a, h, by omega, by omega, rfl, rfl, hb1.trans ((below_far wr p).mono hz), hlo, (show Hid _ from fun j p hj hp => ?_)⟩
          rcases Nat.lt_or_ge h j with h' | h'
          · have := HS.out.get HX1.out hp h'
            cases hc : ltD p (r0, c0)
            · rfl
            · have := swoD.trans _ _ _ this hc
              rw [HQ.out] at this; cases this
          · obtain rfl : j = h := by omega
            rw [HX1.out] at hp; cases hp
            exact HQ.out
        case measure => simp [intOf]; omega
      · rw [hq] at hneg
        have hv0 : v < 0 := hneg.2 rfl
        have HQ := Lib.hid hq; clear hq hneg
        go_wp2_with fail
        rw [HE.out]
        refine wp_region_far (by kernel_rfl) (by kernel_rfl) ?_
        repeat (go_big_quiet_step ((go_at_call 59; exact far_of (HR.out _))))
        refine wpQuiet_nil ?_
        rintro _ ⟨p, rfl⟩
        go_wp2
        go_roundw
        case rel =>
          refine ⟨h + 1, b, by omega, by omega, by go_num, rfl, hb1.trans ((below_far wr p).mono hz), (show Hid _ from fun j p hj hp => ?_), hhi⟩
          rcases Nat.lt_or_ge j h with h' | h'
          · exact swoD.trans _ _ _ (HS.out.get hp HX1.out h') HQ.out
          · obtain rfl : j = h := by omega
            rw [HX1.out] at hp; cases hp
            exact HQ.out
        case measure => simp [intOf]; omega
    · have hab' : a = b := by omega
      subst hab'
      have hf := search_found HS.out hlo.out hhi.out
      have HF := Lib.hid hf; clear hf
      by_cases hlen : a < s.length
      · obtain ⟨g, off, r, c, rfl, hbl, hx1, hc0, hc1⟩ := (hx.below hb).dot (j := a) hlen
        have l0 := fun p => cell_far (p := p) hbl hc0
        have l1 := fun p => cell_far (p := p) hbl hc1
        clear hc0 hc1
        have hr := fun W => dotCompare r c r0 c0 W
        have hzr := cmpD_zero (p := (r, c)) (q := (r0, c0))
        generalize hv : cmpD r c r0 c0 = v at hr
        simp only [hv] at hzr
        clear hv
        have HR := Lib.hid hr; clear hr
        have HX1 := Lib.hid hx1; clear hx1
        by_cases hv0 : v = 0
        · have hd : decide ((r0, c0) ∈ s) = true := by
            have : (r0, c0) ∈ s := HF.out.2 (by rw [HX1.out, hzr.1 hv0])
            simp [this]
          have HD := Lib.hid hd
          subst hv0
          clear hd hzr
          go_wp2_with fail
          refine wp_region_far (by kernel_rfl) (by kernel_rfl) ?_
          repeat (go_big_quiet_step ((go_at_call 59; exact far_of (HR.out _))))
          refine wpQuiet_nil ?_
          rintro _ ⟨p, rfl⟩
          go_wp2
          go_ret2
          exact ⟨⟨_, ret_two (by simp [HD.out])⟩, hb.trans ((below_far wr p).mono hb.size)⟩
        · have hd : decide ((r0, c0) ∈ s) = false := by
            have : ¬ (r0, c0) ∈ s := fun hm => by
              have := HF.out.1 hm
              rw [HX1.out] at this
              injection this with this
              exact hv0 (hzr.2 this)
            simp [this]
          have hv1 : (v == 0) = false := by simp [hv0]
          have HD := Lib.hid hd
          clear hd hzr hv0
          go_wp2_with fail
          refine wp_region_far (by kernel_rfl) (by kernel_rfl) ?_
          repeat (go_big_quiet_step ((go_at_call 59; exact far_of (HR.out _))))
          refine wpQuiet_nil ?_
          rintro _ ⟨p, rfl⟩
          go_wp2
          go_ret2
          exact ⟨⟨_, ret_two (by simp [HD.out])⟩, hb.trans ((below_far wr p).mono hb.size)⟩
      · have hd : decide ((r0, c0) ∈ s) = false := by
          have : ¬ (r0, c0) ∈ s := fun hm => by
            have := HF.out.1 hm
            rw [List.getElem?_eq_none (by omega)] at this; cases this
          simp [this]
        have hdc : decide ((a : Int) < (s.length : Int)) = false := by simp; omega
        have HD := Lib.hid hd
        clear hd
        go_wp2_with fail
        refine wp_region_far (by kernel_rfl) (by kernel_rfl) ?_
        repeat (go_big_quiet_step ((fail)))
        refine wpQuiet_nil ?_
        rintro _ ⟨p, rfl⟩
        go_wp2
        go_ret2
        exact ⟨⟨_, ret_two (by simp [HD.out])⟩, hb.trans ((below_far wr p).mono hb.size)⟩

end

section
open Go.RowKit

theorem ltD_trans {x y z : Int × Int} (h1 : ltD x y = true) (h2 : ltD y z = true) : ltD x z = true := swoD.trans x y z h1 h2
theorem ltD_tri (x y : Int × Int) : ltD x y = true ∨ x = y ∨ ltD y x = true := by
  cases h1 : ltD x y
  · cases h2 : ltD y x
    · exact .inr (.inl (ltD_total x y h1 h2))
    · exact .inr (.inr rfl)
  · exact .inl rfl

/-- Two increasing lists with the same elements are the same. -/
theorem Inc.ext : ∀ {s t : List (Int × Int)}, Inc s → Inc t → (∀ d, d ∈ s ↔ d ∈ t) → s = t
  | [], [], _, _, _ => rfl
  | [], y :: t, _, _, h => by have := (h y).2 (by simp); simp at this
  | x :: s, [], _, _, h => by have := (h x).1 (by simp); simp at this
  | x :: s, y :: t, hs, ht, h => by
    have hs' := List.pairwise_cons.1 hs
    have ht' := List.pairwise_cons.1 ht
    have hxy : x = y := by
      have h1 := (h x).1 (by simp)
      have h2 := (h y).2 (by simp)
      rcases List.mem_cons.1 h1 with e | h1
      · exact e
      · rcases List.mem_cons.1 h2 with e | h2
        · exact e.symm
        · have a := ltD_trans (ht'.1 x h1) (hs'.1 y h2)
          rw [ltD_irrefl] at a; cases a
    subst hxy
    have : s = t := Inc.ext hs'.2 ht'.2 fun d => by
      have hd := h d
      simp only [List.mem_cons] at hd
      constructor
      · intro hm
        rcases hd.1 (.inr hm) with e | h'
        · subst e; have := hs'.1 d hm; rw [ltD_irrefl] at this; cases this
        · exact h'
      · intro hm
        rcases hd.2 (.inr hm) with e | h'
        · subst e; have := ht'.1 d hm; rw [ltD_irrefl] at this; cases this
        · exact h'
    rw [this]

theorem mem_dd : ∀ (xs : List (Int × Int)) (d : Int × Int), d ∈ dd xs ↔ d ∈ xs
  | [], d => by simp [dd]
  | [_], d => by simp [dd]
  | x :: y :: r, d => by
    rw [dd]
    split
    · rename_i h; subst h; rw [mem_dd (x :: r) d]; simp
    · rw [List.mem_cons, mem_dd (y :: r) d, List.mem_cons (a := d) (b := x)]
theorem inc_dd : ∀ (xs : List (Int × Int)), xs.Pairwise (fun p q => ltD q p = false) → Inc (dd xs)
  | [], _ => by simp [dd, Inc]
  | [_], _ => by simp [dd, Inc]
  | x :: y :: r, h => by
    have h' := List.pairwise_cons.1 h
    have ih := inc_dd (y :: r) h'.2
    rw [dd]
    split
    · exact ih
    · rename_i hne
      refine List.pairwise_cons.2 ⟨fun d hd => ?_, ih⟩
      rw [mem_dd] at hd
      have hxy : ltD x y = true := by
        rcases ltD_tri x y with e | e | e
        · exact e
        · exact absurd e hne
        · have := h'.1 y (by simp); rw [e] at this; cases this
      rcases List.mem_cons.1 hd with e | hd
      · subst e; exact hxy
      · have h2 := (List.pairwise_cons.1 h'.2).1 d hd
        rcases ltD_tri y d with e | e | e
        · exact ltD_trans hxy e
        · subst e; exact hxy
        · rw [e] at h2; cases h2

theorem inc_ordL (xs : List (Int × Int)) : Inc (ordL xs) := by
  refine inc_dd _ ?_
  have := List.pairwise_mergeSort (le := fun x y => !ltD y x) (l := xs) (by
    intro a b c h1 h2
    simp only [Bool.not_eq_true'] at h1 h2 ⊢
    exact swoD.ntrans _ _ _ h2 h1) (by
    intro a b
    cases h1 : ltD a b
    · simp
    · cases h2 : ltD b a
      · simp
      · have := ltD_trans h1 h2; rw [ltD_irrefl] at this; cases this)
  exact this.imp (by intro a b h; simpa using h)
theorem mem_ordL (xs : List (Int × Int)) (d : Int × Int) : d ∈ ordL xs ↔ d ∈ xs := by
  rw [ordL, mem_dd, sortedL, List.mem_mergeSort]

theorem mem_insD (s : List (Int × Int)) (x d : Int × Int) : d ∈ insD s x ↔ d ∈ s ∨ d = x := by
  unfold insD
  split
  · rename_i h
    constructor
    · exact .inl
    · rintro (h' | rfl)
      · exact h'
      · exact h
  · have := congrArg (d ∈ ·) (List.takeWhile_append_dropWhile (p := (ltD · x)) (l := s))
    simp only [List.mem_append, eq_iff_iff] at this
    rw [List.mem_append, List.mem_cons, ← this]
    constructor
    · rintro (h | h | h)
      · exact .inl (.inl h)
      · exact .inr h
      · exact .inl (.inr h)
    · rintro ((h | h) | h)
      · exact .inl h
      · exact .inr (.inr h)
      · exact .inr (.inl h)
theorem mem_foldl_ins : ∀ (l s : List (Int × Int)) (d : Int × Int), d ∈ l.foldl insD s ↔ d ∈ s ∨ d ∈ l
  | [], s, d => by simp
  | x :: l, s, d => by
    rw [List.foldl_cons, mem_foldl_ins l, mem_insD, List.mem_cons, or_assoc]
theorem mem_setL (xs : List (Int × Int)) (d : Int × Int) : d ∈ setL xs ↔ d ∈ xs := by
  rw [setL, mem_foldl_ins]; simp

theorem inc_insD {s : List (Int × Int)} (hs : Inc s) (x : Int × Int) : Inc (insD s x) := by
  unfold insD
  split
  · exact hs
  · rename_i hx
    have hsplit := List.takeWhile_append_dropWhile (p := (ltD · x)) (l := s)
    have hs2 : Inc (s.takeWhile (ltD · x) ++ s.dropWhile (ltD · x)) := by rw [hsplit]; exact hs
    obtain ⟨h1, h2, h3⟩ := List.pairwise_append.1 hs2
    have hd : ∀ d ∈ s.dropWhile (ltD · x), ltD x d = true := by
      cases hdw : s.dropWhile (ltD · x) with
      | nil => intro d hd; simp at hd
      | cons y r =>
        have hy : ltD y x = false := by
          have := List.head?_dropWhile_not (ltD · x) s
          rw [hdw] at this
          simpa using this
        have hyx : ltD x y = true := by
          rcases ltD_tri x y with e | e | e
          · exact e
          · exact absurd (by rw [← hsplit, hdw, e]; simp) hx
          · rw [e] at hy; cases hy
        intro d hd
        rcases List.mem_cons.1 hd with e | hd
        · subst e; exact hyx
        · rw [hdw] at h2
          exact ltD_trans hyx ((List.pairwise_cons.1 h2).1 d hd)
    refine List.pairwise_append.2 ⟨h1, List.pairwise_cons.2 ⟨hd, h2⟩, fun a ha b hb => ?_⟩
    have hax : ltD a x = true := by
      have := List.all_takeWhile (p := (ltD · x)) (l := s)
      rw [List.all_eq_true] at this
      exact this a ha
    rcases List.mem_cons.1 hb with e | hb
    · subst e; exact hax
    · exact h3 a ha b hb
theorem inc_foldl : ∀ (l s : List (Int × Int)), Inc s → Inc (l.foldl insD s)
  | [], _, h => h
  | x :: l, _, h => inc_foldl l _ (inc_insD h x)
theorem inc_setL (xs : List (Int × Int)) : Inc (setL xs) := inc_foldl xs [] (by simp [Inc])

theorem ordL_eq (xs : List (Int × Int)) : ordL xs = setL xs := (inc_ordL xs).ext (inc_setL xs) fun d => by rw [mem_ordL, mem_setL]
theorem setL_congr {xs ys : List (Int × Int)} (h : ∀ d, d ∈ xs ↔ d ∈ ys) : setL xs = setL ys := (inc_setL xs).ext (inc_setL ys) fun d => by rw [mem_setL, mem_setL, h]
theorem Inc.filter {s : List (Int × Int)} (h : Inc s) (p : Int × Int → Bool) : Inc (s.filter p) := List.Pairwise.filter p h
theorem filter_setL (xs : List (Int × Int)) (p : Int × Int → Bool) : (setL xs).filter p = setL (xs.filter p) :=
  ((inc_setL xs).filter p).ext (inc_setL _) fun d => by rw [List.mem_filter, mem_setL, mem_setL, List.mem_filter]

theorem isSetL_iff_inc (s : List (Int × Int)) : isSetL s s.length ↔ Inc s := by
  constructor
  · induction s with
    | nil => intro _; simp [Inc]
    | cons x r ih =>
      intro h
      have hr : Inc r := ih fun j p q hj h1 h2 => h (j + 1) p q (by simp at hj ⊢; omega) (by simpa using h1) (by simpa using h2)
      refine List.pairwise_cons.2 ⟨?_, hr⟩
      cases r with
      | nil => intro d hd; simp at hd
      | cons y t =>
        have hxy : ltD x y = true := h 0 x y (by simp) rfl rfl
        intro d hd
        rcases List.mem_cons.1 hd with e | hd
        · subst e; exact hxy
        · exact ltD_trans hxy ((List.pairwise_cons.1 hr).1 d hd)
  · intro h j p q hj h1 h2
    exact h.get h1 h2 (by omega)
theorem isSetB_inc (s : List (Int × Int)) : isSetB s = true ↔ Inc s := (isSetB_iff s).trans (isSetL_iff_inc s)

end

section
open Go.RowKit

/-- Whether all dots of a list are valid. -/
def okL (l : List (Int × Int)) : Bool := l.all fun p => validD p.1 p.2
theorem okL_iff (l : List (Int × Int)) : okL l = true ↔ ∀ p ∈ l, validD p.1 p.2 = true := by simp [okL, List.all_eq_true]
/-- Which contexts are valid. -/
def validC (v l : List (Int × Int)) : Bool := validV v && (isSetB l && okL l)
/-- Whether a dot is in a context. -/
def hasC (v l : List (Int × Int)) (r c : Int) : Bool := validD r c && (hasV v r c || decide ((r, c) ∈ l))
/-- Whether a dot of the cloud may leave it. -/
def goesC (v : List (Int × Int)) (d : Int × Int) : Bool := hasV v d.1 d.2 || (d.2 == getV v d.1 + 1)
/-- Which contexts are compact. -/
def compC (v l : List (Int × Int)) : Bool := l.all (fun d => !goesC v d) && validC v l
/-- One pass through the cloud. -/
def passC : List (Int × Int) → List (Int × Int) → List (Int × Int) → List (Int × Int) × List (Int × Int)
  | v, rest, [] => (v, rest)
  | v, rest, d :: l => if hasV v d.1 d.2 then passC v rest l else if d.2 = getV v d.1 + 1 then passC (raiseV v d) rest l else passC v (rest ++ [d]) l
/-- At most n passes. -/
def compN : Nat → List (Int × Int) → List (Int × Int) → List (Int × Int) × List (Int × Int)
  | 0, v, l => (v, l)
  | n + 1, v, l => if compC v l then (v, l) else compN n (passC v [] l).1 (passC v [] l).2
/-- The compact context with the same dots. -/
def compactC (v l : List (Int × Int)) : List (Int × Int) × List (Int × Int) := compN l.length v l

theorem validC_iff {v l : List (Int × Int)} : validC v l = true ↔ validV v = true ∧ Inc l ∧ ∀ p ∈ l, validD p.1 p.2 = true := by
  rw [validC, Bool.and_eq_true, Bool.and_eq_true, isSetB_inc, okL_iff]
theorem hasV_iff {v : List (Int × Int)} {r c : Int} : hasV v r c = true ↔ validD r c = true ∧ c ≤ getV v r := by simp [hasV]
theorem hasC_iff {v l : List (Int × Int)} {r c : Int} : hasC v l r c = true ↔ validD r c = true ∧ (hasV v r c = true ∨ (r, c) ∈ l) := by simp [hasC]
theorem compC_iff {v l : List (Int × Int)} : compC v l = true ↔ (∀ d ∈ l, goesC v d = false) ∧ validC v l = true := by simp [compC, List.all_eq_true]
theorem goesC_no {v : List (Int × Int)} {d : Int × Int} (h : goesC v d = false) : hasV v d.1 d.2 = false ∧ d.2 ≠ getV v d.1 + 1 := by simpa [goesC] using h

theorem pass_valid : ∀ {l v rest : List (Int × Int)}, validV v = true → (∀ p ∈ l, validD p.1 p.2 = true) → validV (passC v rest l).1 = true
  | [], _, _, h, _ => h
  | d :: l, v, rest, h, hl => by
    rw [passC]
    split
    · exact pass_valid h fun p hp => hl p (by simp [hp])
    · split
      · exact pass_valid (valid_raiseV h (hl d (by simp))) fun p hp => hl p (by simp [hp])
      · exact pass_valid h fun p hp => hl p (by simp [hp])
theorem pass_sub : ∀ (l v rest : List (Int × Int)), ∃ k, (passC v rest l).2 = rest ++ k ∧ k.Sublist l
  | [], v, rest => ⟨[], by simp [passC], List.Sublist.refl _⟩
  | d :: l, v, rest => by
    rw [passC]
    split
    · obtain ⟨k, h1, h2⟩ := pass_sub l v rest
      exact ⟨k, h1, h2.cons _⟩
    · split
      · obtain ⟨k, h1, h2⟩ := pass_sub l (raiseV v d) rest
        exact ⟨k, h1, h2.cons _⟩
      · obtain ⟨k, h1, h2⟩ := pass_sub l v (rest ++ [d])
        exact ⟨d :: k, by rw [h1]; simp, h2.cons_cons _⟩
theorem pass_len (l v rest : List (Int × Int)) : (passC v rest l).2.length ≤ rest.length + l.length := by
  obtain ⟨k, h1, h2⟩ := pass_sub l v rest
  rw [h1, List.length_append]
  have := h2.length_le
  omega
theorem pass_less : ∀ {l v rest : List (Int × Int)} {d : Int × Int}, d ∈ l → goesC v d = true → (passC v rest l).2.length < rest.length + l.length
  | [], _, _, _, h, _ => absurd h (by simp)
  | x :: l, v, rest, d, h, hg => by
    rw [passC]
    split
    · have := pass_len l v rest
      simp only [List.length_cons]; omega
    · split
      · have := pass_len l (raiseV v x) rest
        simp only [List.length_cons]; omega
      · rename_i h1 h2
        have hd : d ∈ l := by
          rcases List.mem_cons.1 h with rfl | h
          · simp [goesC, h1, h2] at hg
          · exact h
        have := pass_less (rest := rest ++ [x]) hd hg
        simp only [List.length_append, List.length_cons, List.length_nil] at this ⊢; omega
theorem raise_next {v : List (Int × Int)} {d : Int × Int} (hv : validV v = true) (hd : validD d.1 d.2 = true) (hn : d.2 = getV v d.1 + 1) (r c : Int) : hasV (raiseV v d) r c = true ↔ hasV v r c = true ∨ (r, c) = d := by
  rw [hasV_iff, hasV_iff, get_raiseV hv hd]
  constructor
  · rintro ⟨h1, h2⟩
    split at h2
    · rename_i e
      subst e
      rcases Int.lt_or_le (getV v d.1) c with h | h
      · right
        have : c = d.2 := by omega
        rw [this]
      · exact .inl ⟨h1, h⟩
    · exact .inl ⟨h1, h2⟩
  · rintro (⟨h1, h2⟩ | h)
    · refine ⟨h1, ?_⟩
      split <;> omega
    · cases h
      rw [if_pos rfl]
      exact ⟨hd, by omega⟩
theorem pass_has : ∀ {l v rest : List (Int × Int)}, validV v = true → (∀ p ∈ l, validD p.1 p.2 = true) → ∀ r c, ((hasV (passC v rest l).1 r c = true ∨ (r, c) ∈ (passC v rest l).2) ↔ (hasV v r c = true ∨ (r, c) ∈ rest ∨ (r, c) ∈ l))
  | [], v, rest, _, _, r, c => by simp [passC]
  | d :: l, v, rest, h, hl, r, c => by
    have hl' : ∀ p ∈ l, validD p.1 p.2 = true := fun p hp => hl p (by simp [hp])
    have hd := hl d (by simp)
    rw [passC]
    split
    · rename_i hh
      rw [pass_has h hl' r c, List.mem_cons]
      constructor
      · rintro (h1 | h1 | h1) <;> simp [h1]
      · rintro (h1 | h1 | h1 | h1)
        · exact .inl h1
        · exact .inr (.inl h1)
        · cases h1; exact .inl hh
        · exact .inr (.inr h1)
    · split
      · rename_i hh hn
        rw [pass_has (valid_raiseV h hd) hl' r c, raise_next h hd hn, List.mem_cons]
        constructor
        · rintro ((h1 | h1) | h1 | h1) <;> simp [h1]
        · rintro (h1 | h1 | h1 | h1) <;> simp [h1]
      · rw [pass_has h hl' r c, List.mem_append, List.mem_singleton, List.mem_cons]
        constructor
        · rintro (h1 | (h1 | h1) | h1) <;> simp [h1]
        · rintro (h1 | h1 | h1 | h1) <;> simp [h1]
theorem pass_validC {v l : List (Int × Int)} (h : validC v l = true) : validC (passC v [] l).1 (passC v [] l).2 = true := by
  obtain ⟨h1, h2, h3⟩ := validC_iff.1 h
  obtain ⟨k, e, hk⟩ := pass_sub l v []
  rw [List.nil_append] at e
  refine validC_iff.2 ⟨pass_valid h1 h3, ?_, ?_⟩
  · rw [e]; exact List.Pairwise.sublist hk h2
  · rw [e]; exact fun p hp => h3 p (hk.subset hp)
theorem pass_hasC {v l : List (Int × Int)} (h : validC v l = true) (r c : Int) : hasC (passC v [] l).1 (passC v [] l).2 r c = hasC v l r c := by
  obtain ⟨h1, h2, h3⟩ := validC_iff.1 h
  rw [Bool.eq_iff_iff, hasC_iff, hasC_iff, pass_has h1 h3]
  simp

theorem compN_has : ∀ (n : Nat) {v l : List (Int × Int)}, validC v l = true → ∀ r c, hasC (compN n v l).1 (compN n v l).2 r c = hasC v l r c
  | 0, _, _, _, _, _ => rfl
  | n + 1, v, l, h, r, c => by
    rw [compN]
    split
    · rfl
    · rw [compN_has n (pass_validC h), pass_hasC h]
theorem not_comp {v l : List (Int × Int)} (h : validC v l = true) (hc : compC v l = false) : ∃ d ∈ l, goesC v d = true := by
  rcases Classical.em (∃ d ∈ l, goesC v d = true) with h1 | h1
  · exact h1
  · have : compC v l = true := compC_iff.2 ⟨fun d hd => by
      cases e : goesC v d
      · rfl
      · exact absurd ⟨d, hd, e⟩ h1, h⟩
    rw [this] at hc; cases hc
theorem compN_comp : ∀ (n : Nat) {v l : List (Int × Int)}, validC v l = true → l.length ≤ n → compC (compN n v l).1 (compN n v l).2 = true
  | 0, v, l, h, hl => by
    have : l = [] := List.eq_nil_of_length_eq_zero (by omega)
    subst this
    exact compC_iff.2 ⟨(fun d hd => by cases hd), h⟩
  | n + 1, v, l, h, hl => by
    rw [compN]
    split
    · rename_i hc; exact hc
    · rename_i hc
      obtain ⟨d, hd, hg⟩ := not_comp h (Bool.eq_false_iff.2 hc)
      have := pass_less (rest := []) hd hg
      simp only [List.length_nil, Nat.zero_add] at this
      exact compN_comp n (pass_validC h) (by omega)
theorem compactC_comp {v l : List (Int × Int)} (h : validC v l = true) : compC (compactC v l).1 (compactC v l).2 = true := compN_comp _ h (Nat.le_refl _)
theorem compactC_has {v l : List (Int × Int)} (h : validC v l = true) (r c : Int) : hasC (compactC v l).1 (compactC v l).2 r c = hasC v l r c := compN_has _ h r c

theorem comp_get_le {v l v' l' : List (Int × Int)} (h : compC v l = true) (h' : compC v' l' = true) (hh : ∀ r c, hasC v' l' r c = true → hasC v l r c = true) (r : Int) : getV v' r ≤ getV v r := by
  obtain ⟨h1, h2⟩ := compC_iff.1 h
  obtain ⟨_, h4⟩ := compC_iff.1 h'
  obtain ⟨hv, _, _⟩ := validC_iff.1 h2
  obtain ⟨hv', _, _⟩ := validC_iff.1 h4
  rcases Int.lt_or_le (getV v r) (getV v' r) with hlt | hle
  · exfalso
    have h0 := getV_nonneg ((validV_iff v).1 hv).1 r
    have hm := getV_of_pos (v := v') (r := r) (by omega)
    have hd := ((validV_iff v').1 hv').1 _ hm
    have hd2 : validD r (getV v r + 1) = true := by
      simp [validD] at hd ⊢
      omega
    have h3 := hh r (getV v r + 1) (hasC_iff.2 ⟨hd2, .inl (hasV_iff.2 ⟨hd2, by omega⟩)⟩)
    rcases (hasC_iff.1 h3).2 with h5 | h5
    · have := (hasV_iff.1 h5).2
      omega
    · exact (goesC_no (h1 _ h5)).2 rfl
  · exact hle
/-- Two compact contexts with the same dots are the same. -/
theorem comp_unique {v l v' l' : List (Int × Int)} (h : compC v l = true) (h' : compC v' l' = true) (hh : ∀ r c, hasC v l r c = hasC v' l' r c) : v = v' ∧ l = l' := by
  obtain ⟨h1, h2⟩ := compC_iff.1 h
  obtain ⟨h3, h4⟩ := compC_iff.1 h'
  obtain ⟨hv, hi, hl⟩ := validC_iff.1 h2
  obtain ⟨hv', hi', hl'⟩ := validC_iff.1 h4
  have e : v = v' := validV_ext hv hv' fun r => by
    have a := comp_get_le h h' (fun r c hx => by rw [hh]; exact hx) r
    have b := comp_get_le h' h (fun r c hx => by rw [← hh]; exact hx) r
    omega
  refine ⟨e, hi.ext hi' fun d => ?_⟩
  subst e
  have hd := hh d.1 d.2
  rw [Bool.eq_iff_iff, hasC_iff, hasC_iff] at hd
  constructor
  · intro hm
    rcases (hd.1 ⟨hl d hm, .inr hm⟩).2 with h5 | h5
    · rw [(goesC_no (h1 d hm)).1] at h5; cases h5
    · exact h5
  · intro hm
    rcases (hd.2 ⟨hl' d hm, .inr hm⟩).2 with h5 | h5
    · rw [(goesC_no (h3 d hm)).1] at h5; cases h5
    · exact h5
theorem compactC_self {v l : List (Int × Int)} (h : compC v l = true) : compactC v l = (v, l) := by
  unfold compactC
  cases l with
  | nil => rfl
  | cons x l => rw [List.length_cons, compN, if_pos h]
/-- Whatever compact context has the same dots is the one that compaction returns. -/
theorem compactC_eq {v l v' l' : List (Int × Int)} (h : validC v l = true) (h' : compC v' l' = true) (hh : ∀ r c, hasC v' l' r c = hasC v l r c) : compactC v l = (v', l') := by
  obtain ⟨e1, e2⟩ := comp_unique (compactC_comp h) h' fun r c => by rw [compactC_has h, hh]
  rw [← e1, ← e2]
/-- Those of some dots that are not in a context. -/
def missC (v l m : List (Int × Int)) : List (Int × Int) := setL (m.filter fun d => !hasC v l d.1 d.2)

end

section
open Go.RowKit

/-- The first k elements are valid, each of a greater replica than the one before. -/
def VOk (v : List (Int × Int)) (k : Nat) : Prop := ∀ j p, j < k → v[j]? = some p → validD p.1 p.2 = true ∧ ∀ i q, j = i + 1 → v[i]? = some q → q.1 < p.1
theorem VOk.step0 {v : List (Int × Int)} {p : Int × Int} (hp : v[0]? = some p) (h1 : validD p.1 p.2 = true) : VOk v 1 := fun j q hj hq => by
  obtain rfl : j = 0 := by omega
  rw [hp] at hq; cases hq
  exact ⟨h1, fun i q h => by omega⟩
theorem VOk.step {v : List (Int × Int)} {m : Nat} {p q : Int × Int} (h : VOk v (m + 1)) (hq : v[m]? = some q) (hp : v[m + 1]? = some p) (h1 : validD p.1 p.2 = true) (h2 : q.1 < p.1) : VOk v (m + 1 + 1) := fun j p' hj hp' => by
  by_cases e : j = m + 1
  · subst e
    rw [hp] at hp'; cases hp'
    refine ⟨h1, fun i q' hi hq' => ?_⟩
    obtain rfl : i = m := by omega
    rw [hq] at hq'; cases hq'
    exact h2
  · exact h j p' (by omega) hp'
theorem incR_of : ∀ {v : List (Int × Int)}, (∀ i q p, v[i]? = some q → v[i + 1]? = some p → q.1 < p.1) → IncR v
  | [], _ => by simp [IncR]
  | [_], _ => by simp [IncR]
  | x :: y :: v, h => by
    have hr : IncR (y :: v) := incR_of fun i q p h1 h2 => h (i + 1) q p (by simpa using h1) (by simpa using h2)
    have hxy := h 0 x y rfl rfl
    refine List.pairwise_cons.2 ⟨fun p hp => ?_, hr⟩
    rcases List.mem_cons.1 hp with e | hp
    · subst e; exact hxy
    · have := (List.pairwise_cons.1 hr).1 p hp; omega
theorem VOk.yes {v : List (Int × Int)} (h : VOk v v.length) : validV v = true := by
  refine (validV_iff v).2 ⟨fun p hp => ?_, incR_of fun i q p h1 h2 => ?_⟩
  · obtain ⟨j, hj⟩ := List.mem_iff_getElem?.1 hp
    exact (h j p (List.getElem?_eq_some_iff.1 hj).1 hj).1
  · exact (h (i + 1) p (List.getElem?_eq_some_iff.1 h2).1 h2).2 i q rfl h1
theorem validV_no1 {v : List (Int × Int)} {m : Nat} {p : Int × Int} (hp : v[m]? = some p) (h : validD p.1 p.2 = false) : validV v = false := by
  cases e : validV v
  · rfl
  · have := ((validV_iff v).1 e).1 p (List.mem_of_getElem? hp)
    rw [h] at this; cases this
theorem validV_no2 {v : List (Int × Int)} {m : Nat} {p q : Int × Int} (hq : v[m]? = some q) (hp : v[m + 1]? = some p) (h : ¬ q.1 < p.1) : validV v = false := by
  cases e : validV v
  · rfl
  · have hi := ((validV_iff v).1 e).2
    obtain ⟨h1, h2⟩ := List.getElem?_eq_some_iff.1 hq
    obtain ⟨h3, h4⟩ := List.getElem?_eq_some_iff.1 hp
    have := List.pairwise_iff_getElem.1 hi m (m + 1) h1 h3 (by omega)
    rw [h2, h4] at this
    exact absurd this h

set_option maxHeartbeats 1000000 in
theorem vecValid (A : Option Addr) (xs : List (Int × Int)) (cap : Nat) (w : World) (hx : DotsAt w A xs) (hm : xs.length ≤ maxLen) :
    Calls Tryz.prog 93 #[.slice A xs.length cap] w fun e w' => e = .returned (.bool (validV xs)) ∧ Below w.heap.size w w' := by
  unfold maxLen at hm
  go_enter Tryz.func93, Tryz.ntmps93
  go_wp2
  go_loopw [3, 4, 7] (fun _ _ i wr => ∃ m : Nat, m ≤ xs.length ∧ i = .int .i64 m ∧ Below w.heap.size w wr ∧ Hid (VOk xs m)) (fun _ _ i _ => xs.length - (intOf i).toNat)
  case atStart => exact ⟨0, by omega, rfl, Below.refl _ _, fun j p h => by omega⟩
  case round =>
    obtain ⟨m, hk2, rfl, hb0, hs⟩ := hrel
    by_cases hlt : m < xs.length
    · obtain ⟨b, off, r, c, rfl, hbl0, hx1, hc0, hc1⟩ := (hx.below hb0).dot (j := m) hlt
      have hr := fun W => dotValid r c W
      have HX1 := Lib.hid hx1
      have hal : Below wr.heap.size wr (wr.alloc (.cells #[.int .i64 r, .int .i64 c] 52)) := (Below.refl _ wr).alloc (Nat.le_refl _) _
      have g0 : (wr.alloc (.cells #[.int .i64 r, .int .i64 c] 52)).cell? ⟨wr.heap.size, 0, none⟩ = some (.int .i64 r) := by go_simp
      have g1 : (wr.alloc (.cells #[.int .i64 r, .int .i64 c] 52)).cell? ⟨wr.heap.size, 1, none⟩ = some (.int .i64 c) := by go_simp
      have gz : wr.heap.size < (wr.alloc (.cells #[.int .i64 r, .int .i64 c] 52)).heap.size := by simp
      have l4 := fun p => cell_far (p := p) (a := ⟨wr.heap.size, 0, none⟩) gz g0
      have l5 := fun p => cell_far (p := p) (a := ⟨wr.heap.size, 1, none⟩) gz g1
      have hb := hb0.trans (hal.mono hb0.size)
      have hz := hb.size
      cases hq : validD r c
      · rw [hq] at hr
        have HR := Lib.hid hr; clear hr
        have HV := Lib.hid (validV_no1 hx1 hq); clear hq hx1 g0 g1 gz
        go_wp2_with fail
        generalize wr.alloc (.cells #[.int .i64 r, .int .i64 c] 52) = W at *
        refine wp_region_far (by kernel_rfl) (by kernel_rfl) ?_
        repeat (go_big_quiet_step ((go_at_call 60; exact far_of (HR.out _))))
        refine wpQuiet_nil ?_
        rintro _ ⟨p, rfl⟩
        go_wp2
        go_ret
        exact ⟨ret_bool HV.out.symm, hb.trans ((below_far W p).mono hb.size)⟩
      · rw [hq] at hr
        have HR := Lib.hid hr; clear hr
        have HQ := Lib.hid hq; clear hq
        cases m with
        | zero =>
          clear hx1 g0 g1 gz
          simp only [Nat.zero_mul, Nat.add_zero] at hc0 hc1
          go_wp2_with fail
          generalize wr.alloc (.cells #[.int .i64 r, .int .i64 c] 52) = W at *
          refine wp_region_far (by kernel_rfl) (by kernel_rfl) ?_
          repeat (go_big_quiet_step ((go_at_call 60; exact far_of (HR.out _))))
          refine wpQuiet_nil ?_
          rintro _ ⟨p, rfl⟩
          go_wp2
          go_roundw
          case rel => exact ⟨1, by omega, by go_num, hb.trans ((below_far W p).mono hb.size), VOk.step0 HX1.out HQ.out⟩
          case measure => simp [intOf]; omega
        | succ n =>
          obtain ⟨_, _, r', c', ho, hbl2, hx2, hd0, hd1⟩ := (hx.below hb).dot (j := n) (by omega)
          cases ho
          have l2 := fun p => cell_far (p := p) hbl2 hd0
          have l3 := fun p => cell_far (p := p) hbl2 hd1
          have HX2 := Lib.hid hx2
          clear hd0 hd1 g0 g1 gz hbl2
          by_cases hlt2 : r' < r
          · clear hx1 hx2
            go_wp2_with fail
            generalize wr.alloc (.cells #[.int .i64 r, .int .i64 c] 52) = W at *
            refine wp_region_far (by kernel_rfl) (by kernel_rfl) ?_
            repeat (go_big_quiet_step ((go_at_call 60; exact far_of (HR.out _))))
            refine wpQuiet_nil ?_
            rintro _ ⟨p, rfl⟩
            go_wp2
            go_roundw
            case rel => exact ⟨n + 1 + 1, by omega, by go_num, hb.trans ((below_far W p).mono hb.size), hs.out.step HX2.out HX1.out HQ.out hlt2⟩
            case measure => simp [intOf]; omega
          · have HV := Lib.hid (validV_no2 hx2 hx1 hlt2)
            clear hx1 hx2
            go_wp2_with fail
            generalize wr.alloc (.cells #[.int .i64 r, .int .i64 c] 52) = W at *
            refine wp_region_far (by kernel_rfl) (by kernel_rfl) ?_
            repeat (go_big_quiet_step ((go_at_call 60; exact far_of (HR.out _))))
            refine wpQuiet_nil ?_
            rintro _ ⟨p, rfl⟩
            go_wp2
            go_ret
            exact ⟨ret_bool HV.out.symm, hb.trans ((below_far W p).mono hb.size)⟩
    · have hv : validV xs = true := VOk.yes (by rw [show xs.length = m by omega]; exact hs.out)
      have HV := Lib.hid hv; clear hv
      go_wp2
      go_ret
      exact ⟨ret_bool HV.out.symm, hb0⟩

end

end Go.Proofs.YtpnemekkpifbaaaGreat
