/- Words of our own: the worlds that a call which writes nothing old may leave; slices that read as lists. -/
import Derived.Test.YtobkhoednecljaaDoorRows
import Derived.WalkKit
import Derived.WalkSpells
import Derived.WalkLawsBesides
import Derived.Lib.Hide
import Derived.Deep.QuietTactic
import Derived.BigQuiet
import Derived.Deep.RegionHeld3
import Derived.Deep.DeepCutAuto
namespace Go.Proofs.YtobkhoednecljaaDoor
open Go.RowKit

/-- How far a world is from w: the count of draws, the blocks laid behind. -/
structure FarBy where
  n : Nat
  os : Array Obj
  deriving Inhabited

/-- w with another count of draws and with blocks laid behind its heap. -/
def far (w : World) (p : FarBy) : World := { w with heap := w.heap ++ p.os, drawn := p.n }

theorem far_self (w : World) : far w ⟨w.drawn, #[]⟩ = w := by simp [far]
theorem far_drew (w : World) : far w ⟨w.drawn + 1, #[]⟩ = w.drew := by
  cases w; simp only [far, World.drew, Array.append_empty]
theorem far_far (w : World) (p q : FarBy) : far (far w p) q = far w ⟨q.n, p.os ++ q.os⟩ := by simp [far, Array.append_assoc]
theorem size_far (w : World) (p : FarBy) : (far w p).heap.size = w.heap.size + p.os.size := by simp [far]

theorem block_far (w : World) (p : FarBy) {k : Nat} (h : k < w.heap.size) : (far w p).heap[k]? = w.heap[k]? := by
  simp [far, Array.getElem?_append, h]
theorem cell_far {w : World} {a : Addr} {v : Value} (hb : a.block < w.heap.size) (h : w.cell? a = some v) (p : FarBy) : (far w p).cell? a = some v := by
  rw [← h]; exact World.cell?_of_block (w := w) (block_far w p hb)

theorem below_far (w : World) (p : FarBy) : Below w.heap.size w (far w p) :=
  ⟨rfl, rfl, rfl, by rw [size_far]; omega, fun _ hk => block_far w p hk⟩
theorem far_of_below {w w' : World} (h : Below w.heap.size w w') : ∃ p : FarBy, w' = far w p := by
  refine ⟨⟨w'.drawn, w'.heap.extract w.heap.size w'.heap.size⟩, ?_⟩
  obtain ⟨h1, h2, h3, h4, h5⟩ := h
  have hh : w'.heap = w.heap ++ w'.heap.extract w.heap.size w'.heap.size := by
    apply Array.ext_getElem?
    intro k
    rw [Array.getElem?_append]
    by_cases hk : k < w.heap.size
    · rw [if_pos hk, h5 k hk]
    · rw [if_neg hk, Array.getElem?_extract]
      by_cases hk2 : k < w'.heap.size
      · rw [if_pos (by omega)]; congr 1; omega
      · rw [if_neg (by omega), Array.getElem?_eq_none (by omega)]
  cases w'; cases w
  simp only [far, World.mk.injEq] at *
  exact ⟨hh, h2, trivial, h1, h3⟩

theorem below_trans {a b c : World} (h : Below a.heap.size a b) (k : Below b.heap.size b c) : Below a.heap.size a c := h.trans (k.mono h.size)

/-- What is behind a call that leaves what was there: two rules for the walk. -/
theorem bcell {W w1 : World} (hb : Below W.heap.size W w1) : (∀ b o, b < W.heap.size → w1.cell? ⟨b, o, none⟩ = W.cell? ⟨b, o, none⟩) ∧ (∀ b o, b < W.heap.size → w1.frozen? ⟨b, o, none⟩ = W.frozen? ⟨b, o, none⟩) :=
  ⟨fun b o h => hb.cell (p := ⟨b, o, none⟩) h, fun b o h => hb.frozen (p := ⟨b, o, none⟩) h⟩

/-- A callee's contract, met in a world of the class. -/
theorem far_of {P : Program} {f : FuncId} {args : Array Value} {w : World} {p : FarBy} {v : Value}
    (h : Calls P f args (far w p) fun e w' => e = .returned v ∧ Below (far w p).heap.size (far w p) w') :
    Calls P f args (far w p) fun e w'' => e = .returned v ∧ ∃ q : FarBy, w'' = far w q :=
  h.mono fun _ _ ⟨he, hb⟩ => ⟨he, far_of_below (below_trans (below_far w p) hb)⟩
theorem far_of_same {P : Program} {f : FuncId} {args : Array Value} {w : World} {p : FarBy} {v : Value}
    (h : Calls P f args (far w p) fun e w' => e = .returned v ∧ far w p = w') :
    Calls P f args (far w p) fun e w'' => e = .returned v ∧ ∃ q : FarBy, w'' = far w q :=
  h.mono fun _ _ ⟨he, hb⟩ => ⟨he, p, hb.symm⟩

/-- A region that draws its order, whose operations only read, and whose callees leave what was there as it was: one walk. -/
theorem wp_region_far {P : Program} {id : Nat} {Q : Exit → Act → World → Prop} {a : Act} {w : World} {l : List Oper} (hm : P.follows .mixedOrders = true) (hB : Region.lexB .any l.toArray = true)
    (h : wpQuiet P l.toArray (fun w' => ∃ p : FarBy, w' = far w p) (fun a' => ∀ w', (∃ p : FarBy, w' = far w p) → Q .normal a' w') l a) : (Code.region id l.toArray true).wp P Q a w :=
  wp_region_quiet (C := fun w' => ∃ p : FarBy, w' = far w p) hm hB ⟨⟨w.drawn + 1, #[]⟩, (far_drew w).symm⟩ (by simpa using h)

/-- The address A, with n elements of k cells behind it, reads as the list xs. -/
def SlAt {α : Type} (enc : α → List Value) (k : Nat) (w : World) (A : Option Addr) (xs : List α) : Prop :=
  0 < xs.length → ∃ b off, A = some ⟨b, off, none⟩ ∧ b < w.heap.size ∧ ∀ j x, xs[j]? = some x → ∀ i u, (enc x)[i]? = some u → w.cell? ⟨b, off + j * k + i, none⟩ = some u

theorem SlAt.below {α : Type} {enc : α → List Value} {k : Nat} {w w' : World} {A : Option Addr} {xs : List α} (h : SlAt enc k w A xs) (hb : Below w.heap.size w w') : SlAt enc k w' A xs := fun hn => by
  obtain ⟨b, off, rfl, hlt, hc⟩ := h hn
  exact ⟨b, off, rfl, Nat.lt_of_lt_of_le hlt hb.size, fun j x hx i u hu => (hb.cell (p := ⟨b, off + j * k + i, none⟩) hlt).trans (hc j x hx i u hu)⟩
theorem SlAt.far {α : Type} {enc : α → List Value} {k : Nat} {w : World} {A : Option Addr} {xs : List α} (h : SlAt enc k w A xs) (p : FarBy) : SlAt enc k (far w p) A xs := h.below (below_far w p)
theorem SlAt.nil {α : Type} {enc : α → List Value} {k : Nat} {w : World} {A : Option Addr} : SlAt enc k w A ([] : List α) := fun h => absurd h (by simp)

/-- A dot's two cells. -/
abbrev encD (d : Int × Int) : List Value := [.int .i64 d.1, .int .i64 d.2]
abbrev DotsAt (w : World) (A : Option Addr) (xs : List (Int × Int)) : Prop := SlAt encD 2 w A xs

theorem SlAt.dot {w : World} {A : Option Addr} {xs : List (Int × Int)} (h : DotsAt w A xs) {j : Nat} (hj : j < xs.length) :
    ∃ b off r c, A = some ⟨b, off, none⟩ ∧ b < w.heap.size ∧ xs[j]? = some (r, c) ∧ w.cell? ⟨b, off + j * 2, none⟩ = some (.int .i64 r) ∧ w.cell? ⟨b, off + j * 2 + 1, none⟩ = some (.int .i64 c) := by
  obtain ⟨b, off, rfl, hb, hc⟩ := h (by omega)
  have hx := List.getElem?_eq_getElem hj
  exact ⟨b, off, xs[j].1, xs[j].2, rfl, hb, hx, by simpa using hc j _ hx 0 _ rfl, hc j _ hx 1 _ rfl⟩

end Go.Proofs.YtobkhoednecljaaDoor
