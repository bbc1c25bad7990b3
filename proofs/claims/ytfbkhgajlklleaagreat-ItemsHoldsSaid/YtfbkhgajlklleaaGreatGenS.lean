/- Words for contracts; strings in memory as lists (for seats without package hash). -/
import Derived.Test.YtfbkhgajlklleaaGreatGenA
import Derived.Test.YtfbkhgajlklleaaGreatDotC
import Derived.Test.YtfbkhgajlklleaaGreatCrcH
import Derived.Outline
namespace Go.Proofs.YtfbkhgajlklleaaGreat
open Go.RowKit

theorem One.str {a b : ByteArray} (w : World) (h : a = b) : One (.string b) w (.returned (.string a)) w := by subst h; exact ⟨rfl, rfl⟩
theorem OneB.str {a b : ByteArray} {w w' : World} (h : a = b) (hb : Below w.heap.size w w') : OneB (.string b) w (.returned (.string a)) w' := by subst h; exact ⟨rfl, hb⟩
theorem toNat8 (b : UInt8) : b.toNat < 256 := b.toBitVec.isLt
theorem size_mk (l : List UInt8) : (ByteArray.mk l.toArray).size = l.length := by show l.toArray.size = _; simp
theorem str_at {l : List UInt8} {k : Nat} (hk : k < l.length) : ∀ h : k < (ByteArray.mk l.toArray).size, (ByteArray.mk l.toArray)[k]'h = l[k]'hk := fun _ => rfl
theorem app_mk (a b : List UInt8) : (ByteArray.mk a.toArray ++ ByteArray.mk b.toArray) = ByteArray.mk (a ++ b).toArray := by apply ByteArray.ext; simp

/-- A string's cell. -/
abbrev encS (l : List UInt8) : List Value := [.string ⟨l.toArray⟩]
theorem encS_len (x : List UInt8) : (encS x).length = 1 := rfl
theorem encS_one (x : List UInt8) : ∀ u ∈ encS x, u.oneCell' = true := by intro u hu; simp at hu; subst hu; rfl
theorem infoS : (Tryz.prog.info? 9).map (fun i => (i.zero, i.size, i.bytes)) = some (some (.string ⟨#[]⟩), 1, 16) := by kernel_rfl
abbrev StrsAt (w : World) (A : Option Addr) (xs : List (List UInt8)) : Prop := SlAt encS 1 w A xs
/-- A slice of strings that reads as a list. -/
def HoldsS (w : World) (v : Value) (xs : List (List UInt8)) : Prop := ∃ A c, v = .slice A xs.length c ∧ StrsAt w A xs ∧ xs.length ≤ c ∧ c ≤ maxLen
theorem HoldsS.below {w w' : World} {v : Value} {xs : List (List UInt8)} (h : HoldsS w v xs) (hb : Below w.heap.size w w') : HoldsS w' v xs := by
  obtain ⟨A, c, rfl, h1, h2, h3⟩ := h
  exact ⟨A, c, rfl, h1.below hb, h2, h3⟩
theorem HoldsS.nil (w : World) : HoldsS w (.slice none 0 0) [] := ⟨none, 0, rfl, SlAt.nil, by simp, by simp [maxLen]⟩
theorem HoldsS.at {w : World} {A : Option Addr} {c : Nat} {xs : List (List UInt8)} (h : HoldsS w (.slice A xs.length c) xs) : StrsAt w A xs := by
  obtain ⟨_, _, e, h1, _⟩ := h
  cases e
  exact h1
theorem HoldsS.max {w : World} {v : Value} {xs : List (List UInt8)} (h : HoldsS w v xs) : xs.length ≤ maxLen := by
  obtain ⟨_, _, _, _, h2, h3⟩ := h
  omega
/-- A row of strings of the call's own. -/
abbrev RowS (W : World) (B : Nat) (v : Value) (xs : List (List UInt8)) : Prop := W.ownsRow B 9 1 v xs.length (cellsOf encS xs)
theorem HoldsS.of_own {w : World} {B : Nat} {v : Value} {xs : List (List UInt8)} (h : RowS w B v xs) : HoldsS w v xs := by
  obtain ⟨A, c, rfl, h1, h2, h3⟩ := SlAt.of_own encS_len h
  exact ⟨A, c, rfl, h3, h1, h2⟩
theorem SlAt.lit {α : Type} {enc : α → List Value} (hk : ∀ x, (enc x).length = 1) (W : World) (t : TypeId) (xs : List α) (hm : xs.length ≤ maxLen) :
    SlAt enc 1 (W.alloc (.cells (cellsOf enc xs).toArray t)) (some ⟨W.heap.size, 0, none⟩) xs := by
  have hl : (cellsOf enc xs).length = xs.length := by rw [cellsOf_length hk, Nat.mul_one]
  have h := World.ownsRow_lit (base := 0) (e := t) (size := 1) W (cellsOf enc xs).toArray xs.length (Nat.zero_le _) hm (by rw [List.size_toArray, hl, Nat.mul_one])
  rw [List.toList_toArray] at h
  obtain ⟨A, c, e, _, _, h3⟩ := SlAt.of_own hk h
  injection e with e1 e2 e3
  rw [e1]
  exact h3
/-- The conversion of bytes to a string, by where they lie alone. -/
theorem convAt (w : World) (B : Option Addr) (d : Nat) (ys : List UInt8) (hat : BytesAt w B ys) : (convert 117 9 (.slice B ys.length d)).run Tryz.prog w = .ok (.string ⟨ys.toArray⟩) w := by
  match B with
  | none =>
    have h0 : ys = [] := by
      cases ys with
      | nil => rfl
      | cons x r => obtain ⟨_, _, h, _⟩ := hat (by simp); cases h
    subst h0
    exact Lib.run_convert_nil_bytes w _ _ 5 d Tryz.underlying117 Tryz.underlying5 Tryz.underlying9
  | some a =>
    refine run_convert_bytes_back w _ _ 5 a d ys Tryz.underlying117 Tryz.underlying5 Tryz.underlying9 fun j hj => ?_
    obtain ⟨b, off, e, _, hc⟩ := hat (by omega)
    cases e
    have := hc j _ (List.getElem?_eq_getElem hj) 0 _ rfl
    rw [Addr_add]
    simpa using this

end Go.Proofs.YtfbkhgajlklleaaGreat
