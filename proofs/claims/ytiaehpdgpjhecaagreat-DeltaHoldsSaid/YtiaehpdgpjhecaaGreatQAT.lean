/- Several texts in one: CarR, DelK, DelL. -/
import Derived.Test.YtiaehpdgpjhecaaGreatQAS
import Derived.Test.YtiaehpdgpjhecaaGreatQAO
import Derived.Test.YtiaehpdgpjhecaaGreatQAP
namespace Go.Proofs.YtiaehpdgpjhecaaGreat

section
open Go.RowKit

theorem findV_or (l : List It) (nm : List UInt8) : (findV l nm).1 ∈ l ∨ (findV l nm).1 = ([], []) := by
  unfold findV
  cases h : l.find? (fun x => x.1 == nm) with
  | some x => exact .inl (List.mem_of_find?_eq_some h)
  | none => exact .inr rfl
theorem findV_fits {xs : List ItV} {nm : List UInt8} (hf : Fits xs) : (findV (its xs) nm).1.1.length ≤ 1000 ∧ (findV (its xs) nm).1.2.length ≤ 100 := by
  rcases findV_or (its xs) nm with h | h
  · obtain ⟨z, hz, e⟩ := List.mem_map.1 h
    rw [← e]; exact hf.2 z hz
  · rw [h]; simp
/-- What Qty returns. -/
def qtyC (c : Ca) (nm : List UInt8) : Int × Nat := if validK c = true then (if (findV c.2 nm).2 = 0 then qtyI (findV c.2 nm).1 else (0, (findV c.2 nm).2)) else (0, 2)

set_option maxHeartbeats 2000000 in
theorem caQty (c : CaV) (nm : List UInt8) (q : Int) (n : Nat) (w : World) (hc : CaOK w c) (hf : FitsK c) (hv : qtyC c.ca nm = (q, n)) :
    Calls Tryz.prog 35 #[mkC c, .string ⟨nm.toArray⟩] w (OneB (.tuple #[.int .i64 q, .int .i64 (n : Int)]) w) := by
  have K0 := Lib.hid (KB1.new w c hc)
  obtain ⟨b, hb⟩ : ∃ b, validK c.ca = b := ⟨_, rfl⟩
  unfold qtyC at hv
  rw [hb] at hv
  have HV := Lib.hid fun W (h : CaOK W c) => caValid c b W h hf hb
  have HF := Lib.hid hf
  clear hc hb hf
  cases b with
  | false =>
    rw [if_neg (by simp)] at hv
    obtain ⟨rfl, rfl⟩ : 0 = q ∧ 2 = n := ⟨congrArg Prod.fst hv, congrArg Prod.snd hv⟩
    clear hv
    go_enter Tryz.func35, Tryz.ntmps35
    go_upto_region 1 with fail
    generalize World.alloc w _ = w2 at K0 ⊢
    obtain ⟨x0, x1, x2, xl, _⟩ := K0.out.sp
    go_wp2_with fail
    refine (HV.out _ K0.out.ok).mono ?_
    rintro e w3 ⟨rfl, hb⟩
    have KB := Lib.hid (K0.out.next hb).bel
    clear hb K0 x0 x1 x2 xl
    go_wp2_with fail
    go_ret2
    exact ⟨rfl, KB.out⟩
  | true =>
    rw [if_pos rfl] at hv
    obtain ⟨it, k, hfk⟩ : ∃ it k, findV c.ca.2 nm = (it, k) := ⟨_, _, rfl⟩
    rw [hfk] at hv
    have hft := findV_fits (nm := nm) HF.out.1
    rw [show findV (its c.xs) nm = (it, k) from hfk] at hft
    have HFT := Lib.hid hft
    have HFK := Lib.hid (show findV (its c.xs) nm = (it, k) from hfk)
    clear hfk hft
    rcases Nat.eq_zero_or_pos k with rfl | hk
    · rw [if_pos rfl] at hv
      have HQ := Lib.hid fun y W (hy : ItOK W y) (e : y.it = it) => itQty y q n W hy (by have := HFT.out.1; rw [← e] at this; exact this) (by have := HFT.out.2; rw [← e] at this; exact Nat.le_trans this (by decide)) (by rw [e]; exact hv)
      clear hv
      go_enter Tryz.func35, Tryz.ntmps35
      go_upto_region 1 with fail
      generalize World.alloc w _ = w2 at K0 ⊢
      obtain ⟨x0, x1, x2, xl, _⟩ := K0.out.sp
      go_wp2_with fail
      refine (HV.out _ K0.out.ok).mono ?_
      rintro e w3 ⟨rfl, hb⟩
      have K1 := Lib.hid (K0.out.next hb)
      clear hb K0 x0 x1 x2 xl
      obtain ⟨x0, x1, x2, xl, _⟩ := K1.out.sp
      go_wp2_with fail
      refine (itFind_h _ c.xs nm w3 K1.out.ok.2.2 HF.out.1).mono ?_
      rintro e w4 ⟨⟨y, k, rfl, hk, hy⟩, hb⟩
      rw [HFK.out] at hk
      obtain ⟨rfl, rfl⟩ : it = y.it ∧ 0 = k := ⟨congrArg Prod.fst hk, congrArg Prod.snd hk⟩
      have K2 := Lib.hid (K1.out.next hb)
      have HY := Lib.hid hy
      clear hb hy hk K1 x0 x1 x2 xl
      go_wp2_with fail
      refine (HQ.out y _ (HY.out.below ((Below.refl _ _).alloc (Nat.le_refl _) _)) rfl).mono ?_
      rintro e w5 ⟨rfl, hb⟩
      have KB := Lib.hid ((K2.out.alloc _).next hb).bel
      clear hb K2
      go_wp2_with fail
      go_ret2
      exact ⟨rfl, KB.out⟩
    · have hk0 : ¬ k = 0 := by omega
      rw [if_neg hk0] at hv
      obtain ⟨rfl, rfl⟩ : 0 = q ∧ k = n := ⟨congrArg Prod.fst hv, congrArg Prod.snd hv⟩
      have ik : ((k : Int) != 0) = true := neT (by omega)
      clear hv hk0 hk
      go_enter Tryz.func35, Tryz.ntmps35
      go_upto_region 1 with fail
      generalize World.alloc w _ = w2 at K0 ⊢
      obtain ⟨x0, x1, x2, xl, _⟩ := K0.out.sp
      go_wp2_with fail
      refine (HV.out _ K0.out.ok).mono ?_
      rintro e w3 ⟨rfl, hb⟩
      have K1 := Lib.hid (K0.out.next hb)
      clear hb K0 x0 x1 x2 xl
      obtain ⟨x0, x1, x2, xl, _⟩ := K1.out.sp
      go_wp2_with fail
      refine (itFind_h _ c.xs nm w3 K1.out.ok.2.2 HF.out.1).mono ?_
      rintro e w4 ⟨⟨y, k', rfl, hk, hy⟩, hb⟩
      rw [HFK.out] at hk
      obtain ⟨rfl, rfl⟩ : it = y.it ∧ k = k' := ⟨congrArg Prod.fst hk, congrArg Prod.snd hk⟩
      have K2 := Lib.hid (K1.out.next hb)
      clear hb hy hk K1 x0 x1 x2 xl
      go_wp2_with fail
      go_ret2
      exact ⟨rfl, (K2.out.alloc _).bel⟩

/-- What Dots returns. -/
def dotsC (c : Ca) (nm : List UInt8) : List (Int × Int) := if validK c = true then dotsK c.2 nm else []
theorem dotsK_find {l : List It} {nm : List UInt8} (h : nm ≠ []) : dotsK l nm = dotsM (findV l nm).1.2 := by
  unfold dotsK findV
  rw [if_neg h]
  cases l.find? (fun y => y.1 == nm) <;> rfl

set_option maxHeartbeats 2000000 in
theorem caDotsO (c : CaV) (nm : List UInt8) (ds : List (Int × Int)) (w : World) (hc : CaOK w c) (hf : FitsK c) (hv : dotsC c.ca nm = ds) :
    Calls Tryz.prog 65 #[mkC c, .string ⟨nm.toArray⟩] w fun e w' => (∃ v, e = .returned v ∧ w'.ownsRow w.heap.size 30 2 v (ds).length (cellsOf encD (ds))) ∧ Below w.heap.size w w' := by
  have K0 := Lib.hid (KB1.new w c hc)
  obtain ⟨b, hb⟩ : ∃ b, validK c.ca = b := ⟨_, rfl⟩
  unfold dotsC at hv
  rw [hb] at hv
  have HV := Lib.hid fun W (h : CaOK W c) => caValid c b W h hf hb
  have HF := Lib.hid hf
  clear hc hb hf
  cases b with
  | false =>
    have HE := Lib.hid (show ds = [] from by rw [← hv]; rfl)
    clear hv
    go_enter Tryz.func65, Tryz.ntmps65
    go_upto_region 1 with fail
    generalize World.alloc w _ = w2 at K0 ⊢
    obtain ⟨x0, x1, x2, xl, _⟩ := K0.out.sp
    go_wp2_with fail
    refine (HV.out _ K0.out.ok).mono ?_
    rintro e w3 ⟨rfl, hb⟩
    have KB := Lib.hid (K0.out.next hb).bel
    clear hb K0 x0 x1 x2 xl
    go_wp2_with fail
    go_ret
    exact ⟨⟨_, rfl, by rw [HE.out]; exact World.ownsRow_nil _ _ _ _⟩, KB.out⟩
  | true =>
    cases nm with
    | nil =>
      have HE := Lib.hid (show ds = dotsI (its c.xs) from by rw [← hv, if_pos rfl]; unfold dotsK; rw [if_pos rfl]; rfl)
      clear hv
      go_enter Tryz.func65, Tryz.ntmps65
      go_upto_region 1 with fail
      generalize World.alloc w _ = w2 at K0 ⊢
      obtain ⟨x0, x1, x2, xl, _⟩ := K0.out.sp
      go_wp2_with fail
      refine (HV.out _ K0.out.ok).mono ?_
      rintro e w3 ⟨rfl, hb⟩
      have K1 := Lib.hid (K0.out.next hb)
      clear hb K0 x0 x1 x2 xl
      obtain ⟨x0, x1, x2, xl, _⟩ := K1.out.sp
      go_wp2_with fail
      refine (itDotsO_h _ c.xs w3 K1.out.ok.2.2 HF.out.1).mono ?_
      rintro e w4 ⟨⟨v, rfl, hv⟩, hb⟩
      have HH := Lib.hid (Go.Joins.ownsRow_le hv K1.out.bel.size)
      have KB := Lib.hid (K1.out.next hb).bel
      clear hb hv K1 x0 x1 x2 xl
      go_wp2_with fail
      go_ret
      exact ⟨⟨_, rfl, by rw [HE.out]; exact HH.out⟩, KB.out⟩
    | cons a r =>
      have hs : ((a :: r) == ([] : List UInt8)) = false := rfl
      generalize hnm : a :: r = nm at hs hv ⊢
      have hne : nm ≠ [] := by rw [← hnm]; simp
      clear hnm
      have HE := Lib.hid (show ds = dotsM (findV (its c.xs) nm).1.2 from by rw [← hv, if_pos rfl, dotsK_find hne]; rfl)
      clear hv
      have HFT := Lib.hid (findV_fits (nm := nm) HF.out.1)
      clear hne
      go_enter Tryz.func65, Tryz.ntmps65
      go_upto_region 1 with fail
      generalize World.alloc w _ = w2 at K0 ⊢
      obtain ⟨x0, x1, x2, xl, _⟩ := K0.out.sp
      go_wp2_with fail
      refine (HV.out _ K0.out.ok).mono ?_
      rintro e w3 ⟨rfl, hb⟩
      have K1 := Lib.hid (K0.out.next hb)
      clear hb K0 x0 x1 x2 xl
      obtain ⟨x0, x1, x2, xl, _⟩ := K1.out.sp
      go_wp2_with fail
      refine (itFind_h _ c.xs nm w3 K1.out.ok.2.2 HF.out.1).mono ?_
      rintro e w4 ⟨⟨y, k, rfl, hk, hy⟩, hb⟩
      have K2 := Lib.hid (K1.out.next hb)
      have HL := Lib.hid (show y.ms.length ≤ 100 from by have := HFT.out.2; rw [hk] at this; exact this)
      have HE2 := Lib.hid (show dotsM (findV (its c.xs) nm).1.2 = dotsM y.ms from by rw [hk]; rfl)
      have HY := Lib.hid hy
      clear hb hy hk K1 x0 x1 x2 xl
      go_wp2_with fail
      refine (qtyDotsO y.A y.ms y.c _ (HY.out.below ((Below.refl _ _).alloc (Nat.le_refl _) _)).1 (by have := HL.out; omega)).mono ?_
      rintro e w5 ⟨⟨v, rfl, hv⟩, hb⟩
      have HH := Lib.hid (Go.Joins.ownsRow_le hv (K2.out.alloc _).bel.size)
      have KB := Lib.hid ((K2.out.alloc _).next hb).bel
      clear hb hv K2
      go_wp2_with fail
      go_ret
      exact ⟨⟨_, rfl, by rw [HE.out, HE2.out]; exact HH.out⟩, KB.out⟩
theorem caDots (c : CaV) (nm : List UInt8) (ds : List (Int × Int)) (w : World) (hc : CaOK w c) (hf : FitsK c) (hv : dotsC c.ca nm = ds) :
    Calls Tryz.prog 65 #[mkC c, .string ⟨nm.toArray⟩] w fun e w' => (∃ v, e = .returned v ∧ Holds w' v ds) ∧ Below w.heap.size w w' :=
  (caDotsO c nm ds w hc hf hv).mono fun _ _ ⟨⟨v, h1, h2⟩, h3⟩ => ⟨⟨v, h1, own_holds h2⟩, h3⟩

/-- What Time returns. -/
def timeC (c : Ca) : Nat × Nat := if validK c = true then nextV validM (c.2.flatMap (·.2)) else (0, 2)
theorem marksX_its (xs : List ItV) : (its xs).flatMap (·.2) = marksX xs := by simp [marksX, List.flatMap_map]; rfl

set_option maxRecDepth 100000 in
set_option maxHeartbeats 4000000 in
theorem caTime (c : CaV) (t n : Nat) (w : World) (hc : CaOK w c) (hf : FitsK c) (ht : ∀ m ∈ marksX c.xs, m.t < 18446744073709551616) (hv : timeC c.ca = (t, n)) :
    Calls Tryz.prog 107 #[mkC c] w (OneB (.tuple #[.int .u64 (t : Int), .int .i64 (n : Int)]) w) := by
  obtain ⟨ti0, hi0, hz0, hz1, hz2⟩ := info_parts infoM
  have K0 := Lib.hid (KB1.new w c hc)
  obtain ⟨b, hb⟩ : ∃ b, validK c.ca = b := ⟨_, rfl⟩
  unfold timeC at hv
  rw [hb] at hv
  have HV := Lib.hid fun W (h : CaOK W c) => caValid c b W h hf hb
  have HF := Lib.hid hf.1
  have hm := hf.1.1
  have HT := Lib.hid ht
  clear hc hb hf ht
  cases b with
  | false =>
    rw [if_neg (by simp)] at hv
    obtain ⟨rfl, rfl⟩ : 0 = t ∧ 2 = n := ⟨congrArg Prod.fst hv, congrArg Prod.snd hv⟩
    clear hv
    go_enter Tryz.func107, Tryz.ntmps107
    go_upto_region 1 with fail
    generalize World.alloc w _ = w2 at K0 ⊢
    obtain ⟨x0, x1, x2, xl, _⟩ := K0.out.sp
    go_wp2_with fail
    refine (HV.out _ K0.out.ok).mono ?_
    rintro e w3 ⟨rfl, hb⟩
    have KB := Lib.hid (K0.out.next hb).bel
    clear hb K0 x0 x1 x2 xl
    go_wp2_with fail
    go_ret2
    exact ⟨rfl, KB.out⟩
  | true =>
    rw [if_pos rfl, show c.ca.2.flatMap (·.2) = marksX c.xs from marksX_its c.xs] at hv
    have HN := Lib.hid hv
    clear hv
    go_enter Tryz.func107, Tryz.ntmps107
    go_upto_region 1 with fail
    generalize World.alloc w _ = w2 at K0 ⊢
    obtain ⟨x0, x1, x2, xl, _⟩ := K0.out.sp
    go_wp2_with fail
    refine (HV.out _ K0.out.ok).mono ?_
    rintro e w3 ⟨rfl, hb⟩
    have K1 := Lib.hid (K0.out.next hb)
    clear hb K0 x0 x1 x2 xl
    obtain ⟨x0, x1, x2, xl, _⟩ := K1.out.sp
    go_wp2_with fail
    clear x0 x1 x2 xl
    go_loopw [4, 6, 13] (fun v _ i wr => ∃ k : Nat, k ≤ c.xs.length ∧ i = .int .i64 k ∧ Hid (wr.ownsRow (w.heap.size + 1) 55 4 v (marksX (c.xs.take k)).length (cellsOf encM (marksX (c.xs.take k)))) ∧ Hid (KB1 w c wr)) (fun _ _ i _ => c.xs.length - (intOf i).toNat)
    case atStart => exact ⟨0, by omega, rfl, Lib.hid (World.ownsRow_nil _ _ _ _), K1⟩
    case round =>
      clear K1
      obtain ⟨k, hk, rfl, hr, K⟩ := hrel
      obtain ⟨x0, x1, x2, xl, _⟩ := K.out.sp
      by_cases hlt : k < c.xs.length
      · have i0 : (k : Int) < (c.xs.length : Int) := by omega
        obtain ⟨b, off, x, hI, hbl, hx1, _, hc0, hc1, hok⟩ := K.out.items.cells (j := k) hlt
        have hI2 : c.i = .slice (some ⟨b, off, none⟩) c.xs.length c.ni := by rw [← hI]
        rw [hI2]
        clear hI2
        have HS := Lib.hid (marksX_step hx1)
        have hx100 := (HF.out.2 x (List.mem_of_getElem? hx1)).2
        have hl : (marksX (c.xs.take k)).length ≤ 30000 := by
          have h1 := marksX_len (xs := c.xs.take k) fun y hy => (HF.out.2 y (List.mem_of_mem_take hy)).2
          rw [List.length_take] at h1; omega
        have HOK := Lib.hid hok
        clear hx1 hok hI x0 x1 x2 xl
        obtain ⟨D, d, rfl, _, _, _⟩ := SlAt.of_own encM_len hr.out
        generalize marksX (c.xs.take k) = ns at hr hl HS ⊢
        have HAL := Lib.hid fun o => (Below.refl wr.heap.size wr).alloc (Nat.le_refl _) o
        have hsz1 : ∀ o, w.heap.size + 1 ≤ (wr.alloc o).heap.size := fun o => by have := K.out.size; simp; omega
        have HRA := Lib.hid hr.out.lt
        go_wp2_with (at_builtin; refine wpList_append_sl _ encM 4 rfl (.tmp 17) (.tmp 19) 48 rfl encM_len (by omega) encM_one (w.heap.size + 1) 55 ti0 _ 32 Tryz.underlying48 hi0 hz0 hz1 hz2 rfl _ ns rfl (hr.out.alloc _) _ _ _ x.ms rfl rfl (HOK.out.1.below (HAL.out _)) (by simp [maxLen]; omega) (by omega) (hsz1 _) ?_; intro v1 w1 hown hg hat; have KG := Lib.hid ((K.out.alloc _).grown hg (fun k hk => (HRA.out k hk).1)); have HO := Lib.hid hown; clear hown hg hat)
        go_roundw
        case rel => exact ⟨k + 1, by omega, by go_num, by rw [HS.out]; exact HO, KG⟩
        case measure => simp [intOf]; omega
      · have i0 : ¬ (k : Int) < (c.xs.length : Int) := by omega
        obtain rfl : k = c.xs.length := by omega
        rw [List.take_length] at hr
        have HB := Lib.hid K.out.bel
        have hml : (marksX c.xs).length ≤ 30000 := by
          have h1 := marksX_len (xs := c.xs) fun y hy => (HF.out.2 y hy).2
          omega
        obtain ⟨D, d, rfl, _, _, hat⟩ := SlAt.of_own encM_len hr.out
        have HNX := Lib.hid (qtyNext D (marksX c.xs) d t n wr hat (by unfold maxLen; omega) HT.out HN.out)
        clear hlt K hr hat x0 x1 x2 xl
        go_wp2_with fail
        refine HNX.out.mono ?_
        rintro e w5 ⟨rfl, hb⟩
        have KB := Lib.hid (below_trans HB.out hb)
        clear hb
        go_wp2_with fail
        go_ret2
        exact ⟨rfl, KB.out⟩

end

section
open Go.RowKit

/-- The delta that has seen some dots; with an item. -/
def goneD (l : List (Int × Int)) : Ca := (addC [] [] l, [])
def deltaD (d : Int × Int) (nm : List UInt8) (q : Int) (t : Nat) (l : List (Int × Int)) : Ca := (addC [] [] (d :: l), [(nm, [⟨d.1, d.2, q, t⟩])])
theorem hasC_nil (r c : Int) : hasC [] [] r c = false := by
  cases h : hasC [] [] r c with
  | false => rfl
  | true =>
    obtain ⟨h1, h2 | h2⟩ := hasC_iff.1 h
    · obtain ⟨h3, h4⟩ := hasV_iff.1 h2
      simp [getV] at h4
      simp [validD] at h1
      omega
    · cases h2
theorem goneC_has {l : List (Int × Int)} (hl : ∀ p ∈ l, validD p.1 p.2 = true) (r c : Int) : hasC (addC [] [] l).1 (addC [] [] l).2 r c = decide ((r, c) ∈ l) := by
  rw [addC_has (by decide) hl, hasC_nil, Bool.false_or]
theorem gone_valid {l : List (Int × Int)} (hl : ∀ p ∈ l, validD p.1 p.2 = true) : validK (goneD l) = true :=
  validK_iff.2 ⟨addC_comp (by decide) hl, ⟨fun x hx => (by cases hx), List.Pairwise.nil, List.Pairwise.nil⟩, fun d hd => by
    obtain ⟨x, hx, _⟩ := mem_dotsI.1 hd
    cases hx⟩
theorem gone_has {l : List (Int × Int)} (hl : ∀ p ∈ l, validD p.1 p.2 = true) (p : Int × Int) : hasK (goneD l) p = decide (p ∈ l) := goneC_has hl p.1 p.2
section
variable {d : Int × Int} {nm : List UInt8} {q : Int} {t : Nat} {l : List (Int × Int)}
theorem okI_one (hn : itemN nm = true) (hv : validM ⟨d.1, d.2, q, t⟩ = true) : okI (nm, [⟨d.1, d.2, q, t⟩]) = true := by
  unfold okI
  rw [Bool.and_eq_true, Bool.and_eq_true, Bool.and_eq_true]
  exact ⟨hn, by simp, by simp [hv], rfl⟩
theorem delta_valid (hn : itemN nm = true) (hv : validM ⟨d.1, d.2, q, t⟩ = true) (hd : validD d.1 d.2 = true) (hl : ∀ p ∈ l, validD p.1 p.2 = true) : validK (deltaD d nm q t l) = true := by
  have hl2 : ∀ p ∈ d :: l, validD p.1 p.2 = true := fun p hp => by
    rcases List.mem_cons.1 hp with rfl | hp
    · exact hd
    · exact hl p hp
  refine validK_iff.2 ⟨addC_comp (by decide) hl2, ⟨fun x hx => ?_, List.pairwise_singleton _ _, List.pairwise_singleton _ _⟩, fun p hp => ?_⟩
  · obtain rfl : x = (nm, [⟨d.1, d.2, q, t⟩]) := List.mem_singleton.1 hx
    exact okI_one hn hv
  · obtain ⟨x, hx, m, hm, he⟩ := mem_dotsI.1 hp
    obtain rfl : x = (nm, [⟨d.1, d.2, q, t⟩]) := List.mem_singleton.1 hx
    obtain rfl : m = ⟨d.1, d.2, q, t⟩ := List.mem_singleton.1 hm
    have he : d = p := he
    rw [← he]
    show hasC (addC [] [] (d :: l)).1 (addC [] [] (d :: l)).2 d.1 d.2 = true
    rw [goneC_has hl2]
    simp
theorem delta_has (hd : validD d.1 d.2 = true) (hl : ∀ p ∈ l, validD p.1 p.2 = true) (p : Int × Int) : hasK (deltaD d nm q t l) p = decide (p = d ∨ p ∈ l) := by
  have hl2 : ∀ p ∈ d :: l, validD p.1 p.2 = true := fun p hp => by
    rcases List.mem_cons.1 hp with rfl | hp
    · exact hd
    · exact hl p hp
  show hasC (addC [] [] (d :: l)).1 (addC [] [] (d :: l)).2 p.1 p.2 = _
  rw [goneC_has hl2]
  exact decide_eq_decide.2 List.mem_cons
theorem delta_mark (n : List UInt8) (p : Int × Int) : markL (deltaD d nm q t l).2 n p = if n = nm ∧ p = d then some ⟨d.1, d.2, q, t⟩ else none := by
  show markL [(nm, [⟨d.1, d.2, q, t⟩])] n p = _
  unfold markL
  by_cases h1 : nm = n
  · subst h1
    rw [List.find?_cons_of_pos (by simp)]
    show markM [⟨d.1, d.2, q, t⟩] p = _
    unfold markM
    by_cases h2 : d = p
    · subst h2
      rw [List.find?_cons_of_pos (by simp [dotM]), if_pos ⟨rfl, rfl⟩]
    · rw [List.find?_cons_of_neg (by simpa [dotM] using h2), List.find?_nil, if_neg (fun h => h2 h.2.symm)]
  · rw [List.find?_cons_of_neg (by simp [h1]), List.find?_nil, if_neg (fun h => h1 h.1.symm)]
    rfl
end
theorem gone_mark (l : List (Int × Int)) (n : List UInt8) (p : Int × Int) : markL (goneD l).2 n p = none := rfl

/-- The dots of an item that is there; of all of them. -/
theorem mem_dotsK {l : List It} (h : Good l) {nm : List UInt8} (hn : nm ≠ []) {p : Int × Int} : p ∈ dotsK l nm ↔ (markL l nm p).isSome = true := by
  unfold dotsK
  rw [if_neg hn]
  unfold markL
  cases hf : l.find? (fun x => x.1 == nm) with
  | none => simp
  | some x =>
    show p ∈ dotsM x.2 ↔ (markM x.2 p).isSome = true
    have hx := List.mem_of_find?_eq_some hf
    constructor
    · intro hp
      obtain ⟨m, hm, rfl⟩ := List.mem_map.1 hp
      have := markM_mem (okI_parts (h.1 x hx)).2.2.2 hm
      exact Option.isSome_iff_exists.2 ⟨m, this⟩
    · intro hs
      obtain ⟨m, hm⟩ := Option.isSome_iff_exists.1 hs
      obtain ⟨h1, h2⟩ := markM_some hm
      exact List.mem_map.2 ⟨m, h1, h2⟩
theorem markL_other {l : List It} (h : Good l) {n n' : List UInt8} {p : Int × Int} (h1 : (markL l n p).isSome = true) (h2 : (markL l n' p).isSome = true) : n = n' := by
  obtain ⟨m, hm⟩ := Option.isSome_iff_exists.1 h1
  obtain ⟨m', hm'⟩ := Option.isSome_iff_exists.1 h2
  obtain ⟨i, hi, hin, hxi, hxd⟩ := markL_some hm
  obtain ⟨j, hj, hjn, hyj, hyd⟩ := markL_some hm'
  by_cases e : i.1 = j.1
  · rw [← hin, ← hjn, e]
  · exact absurd rfl (meet_no.1 (h.apart hi hj e) p (by rw [← hxd]; exact List.mem_map.2 ⟨m, hxi, rfl⟩) p (by rw [← hyd]; exact List.mem_map.2 ⟨m', hyj, rfl⟩))
theorem markL_rem (l : List It) (nm n : List UInt8) (p : Int × Int) : markL (remN l nm) n p = if n = nm then none else markL l n p := by
  unfold markL
  have e : (remN l nm).find? (fun x => x.1 == n) = if n = nm then none else l.find? (fun x => x.1 == n) := by
    unfold remN
    rw [List.find?_filter]
    by_cases h : n = nm
    · rw [if_pos h, List.find?_eq_none]
      subst h
      intro x hx
      simp
    · rw [if_neg h]
      refine congrArg (fun f => List.find? f l) (funext fun x => ?_)
      by_cases hx : x.1 = n
      · have : ¬ x.1 = nm := fun k => h (hx.symm.trans k)
        simp [hx, h]
      · simp [hx]
  rw [e]
  split <;> rfl
theorem Good.find_ins {l : List It} {x : It} (hg : Good (insN l x)) (n : List UInt8) (p : Int × Int) (_ : ∀ y ∈ l, y.1 ≠ x.1) : markL (insN l x) n p = if n = x.1 then markM x.2 p else markL l n p := by
  by_cases h : n = x.1
  · rw [if_pos h]
    subst h
    unfold markL
    rw [hg.findN (mem_insN.2 (.inr rfl))]
    rfl
  · rw [if_neg h]
    unfold markL
    have e : (insN l x).find? (fun y => y.1 == n) = l.find? (fun y => y.1 == n) := by
      unfold insN
      have hx : (x.1 == n) = false := by simp [Ne.symm h]
      rw [List.find?_append, List.find?_cons_of_neg (by simp [hx]), ← List.find?_append, List.takeWhile_append_dropWhile]
    rw [e]
theorem sub_dotsK {l : List It} {nm : List UInt8} {p : Int × Int} (hp : p ∈ dotsK l nm) : p ∈ dotsI l := by
  unfold dotsK at hp
  split at hp
  · exact hp
  · split at hp
    · rename_i x hf
      obtain ⟨m, hm, rfl⟩ := List.mem_map.1 hp
      exact mem_dotsI.2 ⟨x, List.mem_of_find?_eq_some hf, m, hm, rfl⟩
    · cases hp
section
variable {c : Ca}
theorem dotsI_valid (h : validK c = true) {p : Int × Int} (hp : p ∈ dotsI c.2) : hasK c p = true ∧ validD p.1 p.2 = true := by
  have := (validK_iff.1 h).2.2 p hp
  exact ⟨this, (hasC_iff.1 this).1⟩
/-- Joining the delta of Remove: the item goes, nothing else changes. -/
theorem join_remove (h : validK c = true) {nm : List UInt8} (hn : nm ≠ []) : joinK c (goneD (dotsK c.2 nm)) = (c.1, remN c.2 nm) := by
  obtain ⟨h1, h2, h3⟩ := validK_iff.1 h
  have hl : ∀ p ∈ dotsK c.2 nm, validD p.1 p.2 = true := fun p hp => (dotsI_valid h (sub_dotsK hp)).2
  have hv := gone_valid hl
  have hr : validK (c.1, remN c.2 nm) = true := validK_iff.2 ⟨h1, h2.rem nm, fun p hp => by
    obtain ⟨x, hx, m, hm, he⟩ := mem_dotsI.1 hp
    exact h3 p (mem_dotsI.2 ⟨x, (mem_remN.1 hx).1, m, hm, he⟩)⟩
  refine validK_ext (joinK_valid h hv) hr (fun p => ?_) fun n p => ?_
  · rw [joinK_has h hv, gone_has hl]
    show (hasK c p || _) = hasK c p
    by_cases hp : p ∈ dotsK c.2 nm
    · rw [(dotsI_valid h (sub_dotsK hp)).1]; rfl
    · rw [decide_eq_false hp, Bool.or_false]
  · show markL (joinI c (goneD (dotsK c.2 nm))) n p = markL (remN c.2 nm) n p
    rw [joinI_mark h hv, markL_rem]
    unfold joinedK
    rw [gone_mark, gone_has hl]
    by_cases e : n = nm
    · subst e
      rw [if_pos rfl]
      cases hm : markL c.2 n p with
      | none => rfl
      | some m =>
        have : p ∈ dotsK c.2 n := (mem_dotsK h2 hn).2 (by rw [hm]; rfl)
        rw [decide_eq_true this]; rfl
    · rw [if_neg e]
      cases hm : markL c.2 n p with
      | none => rfl
      | some m =>
        have : ¬ p ∈ dotsK c.2 nm := fun hp => e (markL_other h2 (by rw [hm]; rfl) ((mem_dotsK h2 hn).1 hp))
        rw [decide_eq_false this]; rfl
/-- Joining the delta of Clear: nothing stays. -/
theorem join_clear (h : validK c = true) : joinK c (goneD (dotsI c.2)) = (c.1, []) := by
  obtain ⟨h1, h2, h3⟩ := validK_iff.1 h
  have hl : ∀ p ∈ dotsI c.2, validD p.1 p.2 = true := fun p hp => (dotsI_valid h hp).2
  have hv := gone_valid hl
  have hr : validK (c.1, []) = true := validK_iff.2 ⟨h1, ⟨fun x hx => (by cases hx), List.Pairwise.nil, List.Pairwise.nil⟩, fun p hp => by
    obtain ⟨x, hx, _⟩ := mem_dotsI.1 hp
    cases hx⟩
  refine validK_ext (joinK_valid h hv) hr (fun p => ?_) fun n p => ?_
  · rw [joinK_has h hv, gone_has hl]
    show (hasK c p || _) = hasK c p
    by_cases hp : p ∈ dotsI c.2
    · rw [(dotsI_valid h hp).1]; rfl
    · rw [decide_eq_false hp, Bool.or_false]
  · show markL (joinI c (goneD (dotsI c.2))) n p = none
    rw [joinI_mark h hv]
    unfold joinedK
    rw [gone_mark, gone_has hl]
    cases hm : markL c.2 n p with
    | none => rfl
    | some m =>
      obtain ⟨x, hx, _, hxm, hxd⟩ := markL_some hm
      have : p ∈ dotsI c.2 := mem_dotsI.2 ⟨x, hx, m, hxm, hxd⟩
      rw [decide_eq_true this]; rfl
/-- Joining the delta of Add or Set: the item has the new mark alone, the context the new dot more. -/
theorem join_put (h : validK c = true) {d : Int × Int} {nm : List UInt8} {q : Int} {t : Nat} (hn : itemN nm = true) (hne : nm ≠ []) (hv : validM ⟨d.1, d.2, q, t⟩ = true) (hf : hasK c d = false) (hd : validD d.1 d.2 = true) :
    joinK c (deltaD d nm q t (dotsK c.2 nm)) = (addC c.1.1 c.1.2 [d], insN (remN c.2 nm) (nm, [⟨d.1, d.2, q, t⟩])) := by
  obtain ⟨h1, h2, h3⟩ := validK_iff.1 h
  have hl : ∀ p ∈ dotsK c.2 nm, validD p.1 p.2 = true := fun p hp => (dotsI_valid h (sub_dotsK hp)).2
  have hdl := delta_valid (l := dotsK c.2 nm) hn hv hd hl
  have hcc := (compC_iff.1 h1).2
  have hd1 : ∀ p ∈ [d], validD p.1 p.2 = true := fun p hp => by
    obtain rfl : p = d := List.mem_singleton.1 hp
    exact hd
  have hnr : ∀ y ∈ remN c.2 nm, y.1 ≠ (nm, [(⟨d.1, d.2, q, t⟩ : Mk)]).1 := rem_names c.2 nm
  have hno : ∀ x ∈ c.2, d ∉ dotsM x.2 := fun x hx hdx => by
    obtain ⟨m, hm, he⟩ := List.mem_map.1 hdx
    have := (dotsI_valid h (mem_dotsI.2 ⟨x, hx, m, hm, he⟩)).1
    rw [hf] at this; cases this
  have hgi : Good (insN (remN c.2 nm) (nm, [⟨d.1, d.2, q, t⟩])) := by
    refine Good.ins (h2.rem nm) (okI_one hn hv) hnr ?_
    rw [List.any_eq_false]
    intro y hy hm
    have hm : meetN y.2 [⟨d.1, d.2, q, t⟩] = true := hm
    refine absurd hm (by
      rw [Bool.not_eq_true]
      exact meet_no.2 fun a ha b hb => by
        have hb : b = d := by simpa [dotsM, dotM] using hb
        subst hb
        rintro rfl
        exact hno y (mem_remN.1 hy).1 ha)
  have hr : validK (addC c.1.1 c.1.2 [d], insN (remN c.2 nm) (nm, [⟨d.1, d.2, q, t⟩])) = true := validK_iff.2 ⟨addC_comp hcc hd1, hgi, fun p hp => by
    show hasC (addC c.1.1 c.1.2 [d]).1 (addC c.1.1 c.1.2 [d]).2 p.1 p.2 = true
    rw [addC_has hcc hd1]
    obtain ⟨x, hx, m, hm, he⟩ := mem_dotsI.1 hp
    rcases mem_insN.1 hx with hx | rfl
    · have := h3 p (mem_dotsI.2 ⟨x, (mem_remN.1 hx).1, m, hm, he⟩)
      rw [this]; rfl
    · obtain rfl : m = ⟨d.1, d.2, q, t⟩ := List.mem_singleton.1 hm
      have he : d = p := he
      subst he
      simp⟩
  refine validK_ext (joinK_valid h hdl) hr (fun p => ?_) fun n p => ?_
  · rw [joinK_has h hdl, delta_has hd hl]
    show (hasK c p || _) = hasC (addC c.1.1 c.1.2 [d]).1 (addC c.1.1 c.1.2 [d]).2 p.1 p.2
    rw [addC_has hcc hd1]
    show (hasK c p || _) = (hasK c p || _)
    by_cases hp : p ∈ dotsK c.2 nm
    · rw [(dotsI_valid h (sub_dotsK hp)).1]; rfl
    · congr 1
      simp [hp]
  · show markL (joinI c (deltaD d nm q t (dotsK c.2 nm))) n p = markL (insN (remN c.2 nm) (nm, [⟨d.1, d.2, q, t⟩])) n p
    rw [joinI_mark h hdl, hgi.find_ins n p hnr, markL_rem]
    unfold joinedK
    rw [delta_mark, delta_has hd hl]
    have hdm : ∀ n, markL c.2 n d = none := fun n => by
      cases hm : markL c.2 n d with
      | none => rfl
      | some m =>
        have := validK_seen h n d (by rw [hm]; rfl)
        rw [hf] at this; cases this
    by_cases e : n = nm
    · subst e
      rw [if_pos rfl]
      by_cases ep : p = d
      · subst ep
        rw [if_pos ⟨rfl, rfl⟩, hdm, hf]
        show meetO false _ none (some _) = markM [_] p
        unfold markM
        rw [List.find?_cons_of_pos (by simp [dotM])]
        rfl
      · rw [if_neg (fun k => ep k.2)]
        have ep2 : ¬ d = p := fun k => ep k.symm
        have hmm : markM [⟨d.1, d.2, q, t⟩] p = none := by
          unfold markM
          rw [List.find?_cons_of_neg (by simpa [dotM] using ep2), List.find?_nil]
        show _ = markM [⟨d.1, d.2, q, t⟩] p
        rw [hmm]
        cases hm : markL c.2 n p with
        | none => rfl
        | some m =>
          have : p ∈ dotsK c.2 n := (mem_dotsK h2 hne).2 (by rw [hm]; rfl)
          simp [meetO, this]
    · rw [if_neg (fun k => e k.1), if_neg e, if_neg e]
      cases hm : markL c.2 n p with
      | none => rfl
      | some m =>
        have hpd : ¬ p = d := fun k => by subst k; rw [hdm] at hm; cases hm
        have : ¬ p ∈ dotsK c.2 nm := fun hp => e (markL_other h2 (by rw [hm]; rfl) ((mem_dotsK h2 hne).1 hp))
        simp [meetO, hpd, this]
end
/-- The quantity of an item that has one mark. -/
theorem qty_one {v : Ca} (h : validK v = true) {nm : List UInt8} {m : Mk} (hm : markL v.2 nm (dotM m) = some m) (ho : ∀ p m', markL v.2 nm p = some m' → m' = m) : qtyC v nm = (m.q, 0) ∧ v.2.find? (fun x => x.1 == nm) = some (nm, [m]) := by
  obtain ⟨_, h2, _⟩ := validK_iff.1 h
  obtain ⟨x, hx, rfl, hxm, _⟩ := markL_some hm
  have hall : ∀ m' ∈ x.2, m' = m := fun m' hm' => ho _ m' (h2.mark hx hm')
  have hok := okI_parts (h2.1 x hx)
  have hx2 : x.2 = [m] := by
    have hnd := inc_nodup hok.2.2.2
    match hl : x.2, hok.2.1, hall, hnd with
    | [a], _, ha, _ => rw [ha a (by simp)]
    | a :: b :: r, _, ha, hnd =>
      exfalso
      rw [ha a (by simp), ha b (by simp)] at hnd
      simp [dotsM] at hnd
  have hf := h2.findN hx
  have hxe : x = (x.1, [m]) := Prod.ext rfl hx2
  refine ⟨?_, by rw [hf, ← hxe]⟩
  unfold qtyC
  rw [if_pos h]
  unfold findV
  rw [hf]
  simp only [if_true]
  unfold qtyI
  rw [if_pos (h2.1 x hx), hx2]
  have hav : [m].all validM = true := by rw [← hx2]; exact hok.2.2.1
  have : newV validM [m] = (m, 0) := newV_some hav rfl
  rw [this]

end

section
open Go.RowKit

/-- A dot is fresh; an item of a name is there. -/
def freshK (c : Ca) (d : Int × Int) : Bool := validK c && (validD d.1 d.2 && !hasK c d)
def thereN (c : Ca) (nm : List UInt8) : Bool := c.2.any fun x => x.1 == nm
/-- The error of Add and Set, the delta. -/
def putE (c : Ca) (d : Int × Int) (nm : List UInt8) (q : Int) (set : Bool) : Nat :=
  if (freshK c d && itemN nm) = false then 2 else if qtyN q = false then 14 else
  if set = true ∧ thereN c nm = false then 9 else if set = false ∧ thereN c nm = false ∧ 256 ≤ c.2.length then 13 else (timeC c).2
def putD (c : Ca) (d : Int × Int) (nm : List UInt8) (q : Int) (set : Bool) : Ca := if putE c d nm q set = 0 then deltaD d nm q (timeC c).1 (dotsC c nm) else zeroK
def remE (c : Ca) (nm : List UInt8) : Nat := if (validK c && itemN nm) = false then 2 else if thereN c nm = false then 9 else 0
def remD (c : Ca) (nm : List UInt8) : Ca := if remE c nm = 0 then goneD (dotsC c nm) else zeroK
def cleE (c : Ca) : Nat := if validK c = false then 2 else 0
def cleD (c : Ca) : Ca := if cleE c = 0 then goneD (dotsC c []) else zeroK
def emptyK (c : Ca) : Bool := c.1.1.isEmpty && (c.1.2.isEmpty && c.2.isEmpty)

theorem putE_cases (c : Ca) (d : Int × Int) (nm : List UInt8) (q : Int) (set : Bool) :
    ((freshK c d && itemN nm) = false ∧ putE c d nm q set = 2) ∨
    ((freshK c d && itemN nm) = true ∧ qtyN q = false ∧ putE c d nm q set = 14) ∨
    ((freshK c d && itemN nm) = true ∧ qtyN q = true ∧ set = true ∧ thereN c nm = false ∧ putE c d nm q set = 9) ∨
    ((freshK c d && itemN nm) = true ∧ qtyN q = true ∧ set = false ∧ thereN c nm = false ∧ 256 ≤ c.2.length ∧ putE c d nm q set = 13) ∨
    ((freshK c d && itemN nm) = true ∧ qtyN q = true ∧ ¬ (set = true ∧ thereN c nm = false) ∧ ¬ (set = false ∧ thereN c nm = false ∧ 256 ≤ c.2.length) ∧ putE c d nm q set = (timeC c).2) := by
  unfold putE
  cases hf : (freshK c d && itemN nm) with
  | false => exact .inl ⟨rfl, if_pos rfl⟩
  | true =>
    rw [if_neg (by simp)]
    cases hq : qtyN q with
    | false => exact .inr (.inl ⟨rfl, rfl, if_pos rfl⟩)
    | true =>
      rw [if_neg (by simp)]
      by_cases h1 : set = true ∧ thereN c nm = false
      · rw [if_pos h1]
        exact .inr (.inr (.inl ⟨rfl, rfl, h1.1, h1.2, rfl⟩))
      · rw [if_neg h1]
        by_cases h2 : set = false ∧ thereN c nm = false ∧ 256 ≤ c.2.length
        · rw [if_pos h2]
          exact .inr (.inr (.inr (.inl ⟨rfl, rfl, h2.1, h2.2.1, h2.2.2, rfl⟩)))
        · rw [if_neg h2]
          exact .inr (.inr (.inr (.inr ⟨rfl, rfl, h1, h2, rfl⟩)))
theorem fresh_iff {c : Ca} {d : Int × Int} : freshK c d = true ↔ validK c = true ∧ validD d.1 d.2 = true ∧ hasK c d = false := by
  unfold freshK; simp
/-- The time of the next mark is none, or an error is told. -/
theorem timeC_pos {c : Ca} (h : (timeC c).2 = 0) : (timeC c).1 ≠ 0 := by
  unfold timeC at h ⊢
  split at h
  · rename_i hv
    rw [if_pos hv]
    unfold nextV at h ⊢
    by_cases ha : (c.2.flatMap (·.2)).all validM = true
    · rw [if_pos ha] at h ⊢
      generalize newestN (c.2.flatMap (·.2)) = o at h ⊢
      cases o with
      | none => simp
      | some m =>
        dsimp only at h ⊢
        by_cases ht : m.t = 18446744073709551615
        · rw [if_pos ht] at h; cases h
        · rw [if_neg ht]; simp
    · rw [if_neg ha] at h; cases h
  · cases h
theorem item_ne {nm : List UInt8} (h : itemN nm = true) : nm ≠ [] := by
  rintro rfl
  revert h; decide
theorem mark_valid {d : Int × Int} {q : Int} {t : Nat} (hd : validD d.1 d.2 = true) (hq : qtyN q = true) (ht : t ≠ 0) : validM ⟨d.1, d.2, q, t⟩ = true := by
  unfold validM
  rw [hd, hq]
  simpa using ht
theorem dotsC_t {c : Ca} (h : validK c = true) (nm : List UInt8) : dotsC c nm = dotsK c.2 nm := if_pos h
theorem dotsC_valid {c : Ca} (h : validK c = true) {nm : List UInt8} : ∀ p ∈ dotsC c nm, validD p.1 p.2 = true := fun p hp => by
  rw [dotsC_t h] at hp
  exact (dotsI_valid h (sub_dotsK hp)).2
section
variable {c : Ca} {d : Int × Int} {nm : List UInt8} {q : Int} {set : Bool}
/-- What holds where Add and Set return no error. -/
theorem putE_ok (h : putE c d nm q set = 0) : validK c = true ∧ validD d.1 d.2 = true ∧ hasK c d = false ∧ itemN nm = true ∧ nm ≠ [] ∧ qtyN q = true ∧ (set = true → thereN c nm = true) ∧ (timeC c).2 = 0 ∧ validM ⟨d.1, d.2, q, (timeC c).1⟩ = true := by
  rcases putE_cases c d nm q set with ⟨_, e⟩ | ⟨_, _, e⟩ | ⟨_, _, _, _, e⟩ | ⟨_, _, _, _, _, e⟩ | ⟨h1, h2, h3, _, e⟩
  · rw [h] at e; cases e
  · rw [h] at e; cases e
  · rw [h] at e; cases e
  · rw [h] at e; cases e
  · rw [Bool.and_eq_true, fresh_iff] at h1
    obtain ⟨⟨a1, a2, a3⟩, a4⟩ := h1
    have ht : (timeC c).2 = 0 := e.symm.trans h
    exact ⟨a1, a2, a3, a4, item_ne a4, h2, fun hs => by
      cases hth : thereN c nm with
      | true => rfl
      | false => exact absurd ⟨hs, hth⟩ h3, ht, mark_valid a2 h2 (timeC_pos ht)⟩
theorem putD_t (h : putE c d nm q set = 0) : putD c d nm q set = deltaD d nm q (timeC c).1 (dotsC c nm) := if_pos h
theorem putD_f (h : putE c d nm q set ≠ 0) : putD c d nm q set = zeroK := if_neg h
theorem putD_valid : validK (putD c d nm q set) = true := by
  by_cases h : putE c d nm q set = 0
  · rw [putD_t h]
    obtain ⟨a1, a2, _, a4, _, _, _, _, a9⟩ := putE_ok h
    exact delta_valid a4 a9 a2 (dotsC_valid a1)
  · rw [putD_f h]; exact validK_zeroK
theorem remE_ok (h : remE c nm = 0) : validK c = true ∧ itemN nm = true ∧ nm ≠ [] ∧ thereN c nm = true := by
  unfold remE at h
  split at h
  · cases h
  · rename_i h1
    split at h
    · cases h
    · rename_i h2
      rw [Bool.not_eq_false, Bool.and_eq_true] at h1
      exact ⟨h1.1, h1.2, item_ne h1.2, by simpa using h2⟩
theorem remD_t (h : remE c nm = 0) : remD c nm = goneD (dotsC c nm) := if_pos h
theorem remD_f (h : remE c nm ≠ 0) : remD c nm = zeroK := if_neg h
theorem remD_valid : validK (remD c nm) = true := by
  by_cases h : remE c nm = 0
  · rw [remD_t h]; exact gone_valid (dotsC_valid (remE_ok h).1)
  · rw [remD_f h]; exact validK_zeroK
theorem cleE_ok (h : cleE c = 0) : validK c = true := by
  unfold cleE at h
  split at h
  · cases h
  · rename_i h1; simpa using h1
theorem cleD_t (h : cleE c = 0) : cleD c = goneD (dotsC c []) := if_pos h
theorem cleD_f (h : cleE c ≠ 0) : cleD c = zeroK := if_neg h
theorem cleD_valid : validK (cleD c) = true := by
  by_cases h : cleE c = 0
  · rw [cleD_t h]; exact gone_valid (dotsC_valid (cleE_ok h))
  · rw [cleD_f h]; exact validK_zeroK
/-- What joining gives. -/
theorem join_putD (h : putE c d nm q set = 0) : joinK c (putD c d nm q set) = (addC c.1.1 c.1.2 [d], insN (remN c.2 nm) (nm, [⟨d.1, d.2, q, (timeC c).1⟩])) := by
  obtain ⟨a1, a2, a3, a4, a5, _, _, _, a9⟩ := putE_ok h
  rw [putD_t h, dotsC_t a1]
  exact join_put a1 a4 a5 a9 a3 a2
theorem join_remD (h : remE c nm = 0) : joinK c (remD c nm) = (c.1, remN c.2 nm) := by
  obtain ⟨a1, _, a3, _⟩ := remE_ok h
  rw [remD_t h, dotsC_t a1]
  exact join_remove a1 a3
theorem join_cleD (h : cleE c = 0) : joinK c (cleD c) = (c.1, []) := by
  have a1 := cleE_ok h
  rw [cleD_t h, dotsC_t a1]
  exact join_clear a1
end
theorem putD_len (c : Ca) (d : Int × Int) (nm : List UInt8) (q : Int) (set : Bool) : (putD c d nm q set).2.length ≤ 1 := by
  unfold putD
  split
  · exact Nat.le_refl _
  · exact Nat.zero_le _
theorem delta_congr {d : Int × Int} {nm : List UInt8} {q : Int} {t : Nat} {l k : List (Int × Int)} (h : ∀ p, p ∈ k ↔ p ∈ d :: l) : (addC [] [] k, [(nm, [(⟨d.1, d.2, q, t⟩ : Mk)])]) = deltaD d nm q t l := by
  unfold deltaD; rw [addC_congr h]

end

end Go.Proofs.YtiaehpdgpjhecaaGreat
