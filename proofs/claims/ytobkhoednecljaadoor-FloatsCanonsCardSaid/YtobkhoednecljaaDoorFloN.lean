/- Package floats itself, as a stand-in has it: Sorted. -/
import Derived.Test.YtobkhoednecljaaDoorFloM
import Derived.Test.YtobkhoednecljaaDoorSort
namespace Go.Proofs.YtobkhoednecljaaDoor
open Go.RowKit Go.Sort

/-- A word of 64 bits. -/
abbrev B64 := Fin 18446744073709551616
instance : Inhabited B64 := ⟨⟨0, by decide⟩⟩
abbrev encV (x : B64) : Value := .float .f64 x.val
abbrev cmpV (x y : B64) : Int := cmpF x.val y.val
theorem ltOf_val : (ltOf cmpV) = fun x y : B64 => decide (keyF x.val < keyF y.val) := by
  funext x y
  simp only [ltOf]
  rw [Bool.eq_iff_iff, decide_eq_true_eq, decide_eq_true_eq]
  show cmpF x.val y.val < 0 ↔ _
  unfold cmpF
  split
  · simp [*]
  · split <;> simp [*]
theorem swoV : SWO (fun x y : B64 => decide (keyF x.val < keyF y.val)) where
  irrefl x := by simp
  trans x y z h1 h2 := by simp at *; omega
  ntrans x y z h1 h2 := by simp at *; omega
/-- From the library's words to lists. -/
theorem perm_sorted {α : Type} [Inhabited α] {lt : α → α → Bool} {xs : List α} {d : Array α} (hp : PermIn 0 xs.toArray.size xs.toArray d) (hs : SortedIn lt 0 xs.toArray.size d) : d.size = xs.length ∧ d.toList.Perm xs ∧ d.toList.Pairwise fun a b => lt b a = false := by
  obtain ⟨hsz, _, hperm⟩ := hp
  have e1 : d.extract 0 xs.toArray.size = d := by rw [← hsz]; exact Array.extract_size
  rw [e1, Array.extract_size] at hperm
  refine ⟨by simpa using hsz, by simpa using hperm, ?_⟩
  rw [List.pairwise_iff_getElem]
  intro i j hi hj hij
  have := hs i j (Nat.zero_le _) hij (by rw [← hsz]; simpa using hj)
  simp only [Array.length_toList] at hi hj
  rw [getElem!_pos d i hi, getElem!_pos d j hj] at this
  simpa using this

theorem sortWorld_K {α : Type} [Inhabited α] (enc : α → Value) (w : World) (blk off m : Nat) (d : Array α) (os : Array Obj) : sortWorld enc w blk off m d os = sortWorldK (fun x => [enc x]) 1 w blk off m d os := by
  unfold sortWorld sortWorldK putRowK putRow
  congr 2
  funext c
  unfold putCells
  apply Array.ext
  · simp
  · intro i h1 h2
    simp only [Array.getElem_mapIdx, size_flatK, Nat.mul_one]
    split
    · rename_i h
      show _ = (flatK (fun x => [enc x]) 1 d)[i - off]!
      rw [get_flatK _ _ _ _ (by omega), Nat.div_one, Nat.mod_one]; rfl
    · rfl
theorem holds_of_own {α : Type} [Inhabited α] {enc : α → Value} {w : World} {base g n cap : Nat} {e : TypeId} {xs : List α} (h : w.ownsRow base e 1 (.slice (some ⟨g, 0, none⟩) n cap) xs.length (cellsOf (fun x => [enc x]) xs)) : Sort.Holds enc w g 0 xs.toArray := by
  have hK := holdsK_of_own (enc := fun x => [enc x]) (k := 1) (fun _ => rfl) (by decide) h
  intro j hj
  have h1 := hK j (by simpa using hj)
  rw [get_flatK _ _ _ _ (by simpa using hj), Nat.div_one, Nat.mod_one] at h1
  exact h1
theorem cells_val (ys : List B64) : cellsOf encG (ys.map Fin.val) = cellsOf (fun x : B64 => [encV x]) ys := by
  induction ys with
  | nil => rfl
  | cons x r ih =>
    show Value.float .f64 x.val :: cellsOf encG (r.map Fin.val) = _
    rw [ih]; rfl
theorem to_val {xs : List Nat} (h : ∀ x ∈ xs, x < 18446744073709551616) : ∃ ys : List B64, ys.map Fin.val = xs := by
  induction xs with
  | nil => exact ⟨[], rfl⟩
  | cons x r ih =>
    obtain ⟨ys, hy⟩ := ih fun y hy => h y (List.mem_cons_of_mem _ hy)
    exact ⟨⟨x, h x (List.mem_cons_self ..)⟩ :: ys, by rw [List.map_cons, hy]⟩
theorem cmpReadsV (blk off size : Nat) (w : World) : CmpReads Tryd.prog 15 #[] encV cmpV blk off size w := fun _ _ _ _ x y =>
  (floCompare x.val y.val _ x.isLt y.isLt).mono fun _ _ ⟨he, hw⟩ => ⟨he, 0, hw.symm⟩

/-- Nothing is sorted: no value is looked at. -/
theorem len64Zero (w : World) : Calls Tryd.prog 63 #[.int .u64 0] w fun e w' => (∃ n : Int, e = .returned (.int .i64 n)) ∧ w' = w := by
  go_enter Tryd.func63, Tryd.ntmps63
  go_wp2_with fail
  go_ret
  exact ⟨⟨_, rfl⟩, rfl⟩
theorem lenZero (w : World) : Calls Tryd.prog 45 #[.int .u64 0] w fun e w' => (∃ n : Int, e = .returned (.int .i64 n)) ∧ w' = w := by
  go_enter Tryd.func45, Tryd.ntmps45
  go_wp2_with fail
  refine (len64Zero _).mono ?_
  rintro e w1 ⟨⟨n, rfl⟩, rfl⟩
  go_wp2_with fail
  go_ret
  exact ⟨⟨_, rfl⟩, rfl⟩
theorem insNone (A : Option Addr) (c : Nat) (fv : Value) (w : World) : Calls Tryd.prog 54 #[.slice A 0 c, .int .i64 0, .int .i64 0, fv] w (One (.tuple #[]) w) := by
  go_enter Tryd.func54, Tryd.ntmps54
  go_wp2_with fail
  go_loopw [8] (fun i wr => i = .int .i64 1 ∧ wr = w) (fun _ _ => 0)
  case atStart => exact ⟨rfl, rfl⟩
  case round =>
    obtain ⟨rfl, rfl⟩ := hrel
    go_wp2_with fail
    go_end0
    exact ⟨rfl, rfl⟩
set_option maxRecDepth 100000 in
theorem pdqNone (A : Option Addr) (c : Nat) (n : Int) (fv : Value) (w : World) : Calls Tryd.prog 44 #[.slice A 0 c, .int .i64 0, .int .i64 0, .int .i64 n, fv] w (One (.tuple #[]) w) := by
  go_enter Tryd.func44, Tryd.ntmps44
  go_wp2_with fail
  go_loopw [1, 2] (fun a b wr => a = .int .i64 0 ∧ b = .int .i64 0 ∧ wr = w) (fun _ _ _ => 0)
  case atStart => exact ⟨rfl, rfl, rfl⟩
  case round =>
    obtain ⟨rfl, rfl, rfl⟩ := hrel
    go_wp2_with fail
    refine (insNone _ _ _ _).mono ?_
    rintro e w1 ⟨rfl, rfl⟩
    go_wp2_with fail
    go_end0
    exact ⟨rfl, rfl⟩
theorem sortNone (A : Option Addr) (c : Nat) (fv : Value) (w : World) : Calls Tryd.prog 38 #[.slice A 0 c, fv] w (One (.tuple #[]) w) := by
  go_enter Tryd.func38, Tryd.ntmps38
  go_wp2_with fail
  refine (lenZero _).mono ?_
  rintro e w1 ⟨⟨n, rfl⟩, rfl⟩
  go_wp2_with fail
  refine (pdqNone _ _ _ _ _).mono ?_
  rintro e w1 ⟨rfl, rfl⟩
  go_wp2_with fail
  go_end0
  exact ⟨rfl, rfl⟩

theorem sortFloF (v : Value) (base : Nat) (xs : List Nat) (w : World) (h : w.ownsRow base 23 1 v xs.length (cellsOf encG xs)) (hm : xs.length ≤ 1000000) (hv : ∀ x ∈ xs, x < 18446744073709551616) :
    Calls Tryd.prog 38 #[v, .func (.func 15) #[] #[]] w fun e w' => e = .returned (.tuple #[]) ∧ w'.ownsRow base 23 1 v (sortF xs).length (cellsOf encG (sortF xs)) ∧ w.grownBy w' v.ownBlock := by
  obtain ⟨ys, rfl⟩ := to_val hv
  rcases Nat.eq_zero_or_pos ys.length with h0 | h0
  · have hn : ys = [] := List.eq_nil_of_length_eq_zero h0
    subst hn
    obtain ⟨A, c, rfl, _⟩ := SlAt.of_own encG_len h
    refine (sortNone A c _ w).mono ?_
    rintro e w' ⟨he, rfl⟩
    exact ⟨he, h, World.grownBy.refl _ _⟩
  · obtain ⟨g, cap, rfl⟩ := Joins.ownsRow_form h (by rw [List.length_map]; exact h0)
    have hg : g < w.heap.size := (h.lt g rfl).2
    rw [cells_val, List.length_map] at h
    have eg : ∀ args w, (callFunc 15 args).run Tryd.prog w = .ok (.enter 15 args) w := enters_of Tryd.func15 (by kernel_rfl) rfl
    have hc := Any.slices_SortFunc Tryd.sortFlo encV (fun _ => rfl) cmpV (by rw [ltOf_val]; exact swoV) 15 #[] g 0 cap ys.toArray w eg (cmpReadsV g 0 _ w).lays (holds_of_own (by simpa using h)) hg (by simp at hm ⊢; omega)
    have hc' : Calls Tryd.prog 38 #[.slice (some ⟨g, 0, none⟩) ys.length cap, .func (.func 15) #[] #[]] w _ := hc
    rw [List.length_map]
    refine hc'.mono ?_
    rintro e w' ⟨he, d, n, os, hp, hs, rfl⟩
    obtain ⟨k1, k2, k3⟩ := perm_sorted hp hs
    rw [ltOf_val] at k3
    have hsort : d.toList.map Fin.val = sortF (ys.map Fin.val) := by
      refine sortF_unique (fun x hx => hv x hx) (k2.map _) ?_
      rw [List.pairwise_map]
      exact k3.imp fun {a b} h => by
        unfold leF
        have := of_decide_eq_false h
        omega
    rw [sortWorld_K]
    obtain ⟨h1, h2⟩ := own_of_sort (m := n) (os := os) (d := d) (k := 1) (enc := fun x : B64 => [encV x]) (fun _ => rfl) (by decide) h k1
    rw [← hsort, cells_val, List.length_map]
    exact ⟨he, h1, h2⟩

theorem cloneFloF (A : Option Addr) (xs : List Nat) (cap : Nat) (w : World) (hx : NumsG w A xs) (hm : xs.length ≤ 1000000) :
    Calls Tryd.prog 37 #[.slice A xs.length cap] w fun e w' => ∃ v, e = .returned v ∧ MadeG w w' v xs := by
  obtain ⟨i0, hi0, hz0, hz1, hz2⟩ := info_parts infoG
  match A with
  | none =>
    have h0 : xs = [] := by
      cases xs with
      | nil => rfl
      | cons x r => obtain ⟨_, _, h, _⟩ := hx (by simp); cases h
    subst h0
    have hc : Calls Tryd.prog 37 #[.slice none 0 cap] w _ := AnyE.slices_Clone_nil Tryd.cloneFlo 0 cap w
    refine hc.mono ?_
    rintro e w' ⟨rfl, rfl⟩
    exact ⟨_, rfl, World.ownsRow_nil _ _ _ _, Below.refl _ _⟩
  | some a =>
    have q22 : ∀ (w : World) (a : Option Addr) (n c n' c' : Nat), (binOp .eql 35 (.slice a n c) (.slice none n' c')).run Tryd.prog w = .ok (.bool a.isNone) w := fun w a n c n' c' => Lib.run_eql_slice_nil w _ _ a n c n' c' Tryd.underlying35
    go_enter Tryd.func37, Tryd.ntmps37
    go_wp2_with (at_builtin; refine wpList_append_sl _ encG 1 rfl (.tmp 5) (.tmp 6) 35 rfl encG_len (by omega) encG_one w.heap.size 23 i0 _ 8 Tryd.underlying35 hi0 hz0 hz1 hz2 rfl _ [] rfl (World.ownsRow_made w #[] 0 (Nat.le_refl _) (Nat.zero_le _) (by simp)) (some a) _ cap xs rfl rfl (hx.below ((Below.refl _ w).alloc (Nat.le_refl _) _)) (by simp [maxLen]; omega) (by simp; omega) (by simp) ?_; intro v1 w1 hown1 hg1 hat1)
    rw [List.nil_append] at hown1
    have HO := Lib.hid hown1
    clear hown1
    go_wp2
    go_ret
    refine ⟨_, rfl, HO.out, ((Below.refl _ w).alloc (Nat.le_refl _) _).grown hg1 (by simp) ?_⟩
    intro k hk
    have e0 : some w.heap.size = some k := hk
    injection e0 with e
    omega

theorem floSorted (A : Option Addr) (xs : List Nat) (cap : Nat) (w : World) (hx : NumsG w A xs) (hm : xs.length ≤ 1000) (hv : ∀ x ∈ xs, x < 18446744073709551616) :
    Calls Tryd.prog 22 #[.slice A xs.length cap] w fun e w' => ∃ v, e = .returned v ∧ MadeG w w' v (sortF xs) := by
  have HX := Lib.hid hx
  have HV := Lib.hid hv
  clear hx hv
  go_enter Tryd.func22, Tryd.ntmps22
  go_wp2_with fail
  refine (cloneFloF A xs cap w HX.out (by omega)).mono ?_
  rintro e w1 ⟨v, rfl, h1⟩
  have H1 := Lib.hid h1
  clear h1
  go_wp2_with fail
  refine (sortFloF v _ xs w1 H1.out.1 (by omega) HV.out).mono ?_
  rintro e w2 ⟨rfl, h2, h3⟩
  have H2 := Lib.hid (show MadeG w w2 v (sortF xs) from ⟨h2, H1.out.2.grown h3 H1.out.2.size (fun k hk => (H1.out.1.lt k hk).1)⟩)
  clear h2 h3
  go_wp2_with fail
  go_ret
  exact ⟨_, rfl, H2.out⟩

end Go.Proofs.YtobkhoednecljaaDoor
