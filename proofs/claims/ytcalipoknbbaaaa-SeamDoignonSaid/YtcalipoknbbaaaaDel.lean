/- slices.Delete, at ints: one element out of a list of the call's own. -/
import Derived.Test.YtcalipoknbbaaaaShort
import Derived.Shelf.SlicesG.Delete
import Derived.Shelf.Lay
import Derived.Ground.SlgnProg
namespace Go.Proofs
open Go.Shelf Go.RowKit Go.Lib Go.Sort
shelf_lay_g SlLaysN.n45 Slgn 45 at Try 69 as Try.delI
end Go.Proofs

namespace Go.Proofs.Ytcalipoknbbaaaa
open Go.RowKit
open Go.Sort (putRow Holds cell?_putRow cell?_putRow_other size_putRow mapBlock)

/-- a list of ints in memory -/
def RetI (w : World) (base : Nat) (xs : List Int) (e : Ending) (w' : World) : Prop := ∃ q c, e = .returned (.slice q xs.length c) ∧ RowI w' q xs ∧ Below base w w'

theorem holds_of_owns {w : World} {base g cap : Nat} {xs : List Int} (h : w.ownsRow base 3 1 (.slice (some ⟨g, 0, none⟩) xs.length cap) xs.length (flatI xs)) : Holds encI w g 0 xs.toArray := by
  intro j hj
  have hj' : j < xs.length := by simpa using hj
  have h1 := h.cells (g := g) rfl j _ (flatI_get xs j hj')
  have h2 := h.frozenAt j
  rw [addr_add] at h1
  refine ⟨?_, by rw [Nat.zero_add]; exact h2⟩
  rw [Nat.zero_add, h1, getD_eq xs j 0 hj']
  congr 2
  rw [getElem!_pos xs.toArray j hj]
  simp
theorem eraseIdx_cat (xs : List Int) (i : Nat) : xs.take i ++ xs.drop (i + 1) = xs.eraseIdx i := by rw [List.eraseIdx_eq_take_drop_succ]

theorem delete_any (base g cap : Nat) (xs : List Int) (i : Nat) (w : World) (hown : w.ownsRow base 3 1 (.slice (some ⟨g, 0, none⟩) xs.length cap) xs.length (flatI xs)) (hi : i < xs.length) :
    Calls Try.prog 69 #[.slice (some ⟨g, 0, none⟩) xs.length cap, .int .i64 i, .int .i64 ((i : Int) + 1)] w (RetI w base (xs.eraseIdx i)) := by
  have hH := holds_of_owns hown
  have hlt := hown.lt g rfl
  obtain ⟨_, hd⟩ := hown
  have hcap : xs.length ≤ cap ∧ cap ≤ 9223372036854775807 := by
    rcases hd with ⟨h, _⟩ | ⟨g', cap', cur, h, _, _, h1, h2, _⟩
    · cases h
    · simp only [Value.slice.injEq] at h
      obtain ⟨_, _, rfl⟩ := h
      unfold maxLen at h2
      omega
  have hcon := AnyG.slices_Delete_int_arr Try.delI g 0 cap i (i + 1) xs.toArray w hH (by simpa using hcap.1) hcap.2 (by omega) (by simp; omega)
  rw [show ((i : Int) + 1) = ((i + 1 : Nat) : Int) by omega, show xs.length = xs.toArray.size by simp]
  refine hcon.mono ?_
  rintro e w' ⟨rfl, n, rfl⟩
  have hel : (xs.eraseIdx i).length = xs.length - 1 := List.length_eraseIdx_of_lt hi
  refine ⟨some ⟨g, 0, none⟩, cap, ?_, ?_, ?_⟩
  · rw [hel, show xs.toArray.size - (i + 1 - i) = xs.length - 1 by simp]
  · refine .inr ⟨g, 0, rfl, by rw [size_putRow]; exact hlt.2, fun t ht => ?_⟩
    have hs : (xs.toArray.toList.take i ++ xs.toArray.toList.drop (i + 1) ++ List.replicate (i + 1 - i) 0).toArray.size = xs.toArray.size := by simp; omega
    have := cell?_putRow encI (Sort.ahead w n) g 0 xs.toArray _ hH hs t (by rw [hs]; simp; omega)
    rw [this]
    congr 2
    rw [getElem!_pos _ t (by rw [hs]; simp; omega), getD_eq (xs.eraseIdx i) t 0 ht]
    simp only [eraseIdx_cat, List.getElem_toArray]
    rw [List.getElem_append_left ht]
  · refine ⟨rfl, rfl, rfl, by rw [size_putRow]; exact Nat.le_refl _, fun b hb => ?_⟩
    show (w.heap.modify g _)[b]? = _
    rw [Array.getElem?_modify, if_neg (by omega)]
end Go.Proofs.Ytcalipoknbbaaaa
