/- The library's sort at structs, met at a row that the call owns. -/
import Derived.Test.YtobkhoednecljaaDoorApp
import Derived.Test.YtobkhoednecljaaDoorShelf
namespace Go.Proofs.YtobkhoednecljaaDoor
open Go.RowKit Go.Sort

section
variable {α : Type} [Inhabited α] {enc : α → List Value} {k : Nat}

theorem flatK_cells (hk : ∀ x, (enc x).length = k) (hk0 : 0 < k) (d : Array α) : (flatK enc k d).toList = cellsOf enc d.toList := by
  apply List.ext_getElem?
  intro t
  by_cases ht : t < d.size * k
  · have h1 : (flatK enc k d)[t]! = (enc d[t / k]!)[t % k]! := get_flatK enc k d t ht
    have hs : t < (flatK enc k d).size := by rw [size_flatK]; exact ht
    have hd : t / k < d.size := (Nat.div_lt_iff_lt_mul hk0).2 ht
    have hm : t % k < k := Nat.mod_lt _ hk0
    have h2 : (cellsOf enc d.toList)[t / k * k + t % k]? = some ((enc d[t / k]!)[t % k]!) := by
      refine cellsOf_at hk d.toList (t / k) d[t / k]! (t % k) _ (by simp [hd]) ?_
      have : t % k < (enc d[t / k]!).length := by rw [hk]; exact hm
      rw [List.getElem?_eq_getElem this]; simp [this]
    rw [Nat.div_add_mod'] at h2
    rw [h2, Array.getElem?_toList, Array.getElem?_eq_getElem hs]
    rw [getElem!_pos (flatK enc k d) t hs] at h1
    rw [h1]
  · rw [List.getElem?_eq_none (by simp; omega), List.getElem?_eq_none (by rw [cellsOf_length hk]; simp; omega)]

theorem holdsK_of_own (hk : ∀ x, (enc x).length = k) (hk0 : 0 < k) {w : World} {base g n cap : Nat} {e : TypeId} {xs : List α} (h : w.ownsRow base e k (.slice (some ⟨g, 0, none⟩) n cap) xs.length (cellsOf enc xs)) :
    HoldsK enc k w g 0 xs.toArray := by
  intro t ht
  have hrow := h.cells (g := g) rfl
  have hf : w.frozen? ⟨g, 0 + t, none⟩ = false := by
    rcases h.2 with ⟨h0, _⟩ | ⟨g', cap', cur, hv, _, hg, _⟩
    · cases h0
    · cases hv; simp [World.frozen?, hg]
  refine ⟨?_, hf⟩
  have hl : (flatK enc k xs.toArray).toList = cellsOf enc xs := by rw [flatK_cells hk hk0]
  have h1 : (cellsOf enc xs)[t]? = some (flatK enc k xs.toArray)[t]! := by
    rw [← hl, Array.getElem?_toList, Array.getElem?_eq_getElem ht, getElem!_pos (flatK enc k xs.toArray) t ht]
  have := hrow t _ h1
  rw [Addr_add] at this
  simpa using this

theorem own_of_sort (hk : ∀ x, (enc x).length = k) (hk0 : 0 < k) {w : World} {base g n cap m : Nat} {e : TypeId} {xs : List α} {d : Array α} {os : Array Obj} (h : w.ownsRow base e k (.slice (some ⟨g, 0, none⟩) n cap) xs.length (cellsOf enc xs)) (hd : d.size = xs.length) :
    (sortWorldK enc k w g 0 m d os).ownsRow base e k (.slice (some ⟨g, 0, none⟩) n cap) d.toList.length (cellsOf enc d.toList) ∧ w.grownBy (sortWorldK enc k w g 0 m d os) (some g) := by
  have hlen := h.1
  rcases h.2 with ⟨h0, _⟩ | ⟨g', cap', cur, hv, hb, hg, hn, hc, hs, ht⟩
  · cases h0
  · cases hv
    have hgl : g < w.heap.size := (Array.getElem?_eq_some_iff.1 hg).1
    have hsz : d.size * k ≤ cur.size := by rw [hs, hd]; exact Nat.mul_le_mul_right k hn
    constructor
    · refine ⟨cellsOf_length hk _, .inr ⟨g, cap, putCells id 0 (flatK enc k d) cur, by simp [hd], hb, ?_, by simp [hd]; exact hn, hc, by simpa [putCells] using hs, ?_⟩⟩
      · unfold sortWorldK
        rw [heap_grow_old _ _ (by simpa [putRowK, putRow, mapBlock] using hgl)]
        simp only [putRowK, putRow, mapBlock, Array.getElem?_modify]
        rw [if_pos trivial]
        show Option.map _ w.heap[g]? = _
        rw [hg]; rfl
      · rw [← flatK_cells hk hk0]
        apply List.ext_getElem?
        intro t
        rw [List.getElem?_take]
        by_cases hlt : t < d.size * k
        · rw [if_pos (by simpa using hlt)]
          have h1 : t < cur.size := by omega
          have h2 : t < (flatK enc k d).size := by simpa using hlt
          simp only [putCells, Array.getElem?_toList, Array.getElem?_mapIdx, Array.getElem?_eq_getElem h1, Option.map_some, Array.getElem?_eq_getElem h2, size_flatK]
          rw [if_pos ⟨Nat.zero_le _, by omega⟩, Nat.sub_zero, getElem!_pos (flatK enc k d) t h2]
          rfl
        · rw [if_neg (by simpa using hlt), List.getElem?_eq_none (by simp; omega)]
    · refine ⟨rfl, rfl, rfl, by simp [sortWorldK, putRowK, putRow, mapBlock], fun j hj hne => ?_⟩
      unfold sortWorldK
      rw [heap_grow_old _ _ (by simpa [putRowK, putRow, mapBlock] using hj)]
      simp only [putRowK, putRow, mapBlock, Array.getElem?_modify]
      rw [if_neg (by rintro rfl; exact hne rfl)]
      rfl
end

end Go.Proofs.YtobkhoednecljaaDoor
