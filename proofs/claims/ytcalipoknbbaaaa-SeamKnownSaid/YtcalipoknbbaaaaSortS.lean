/- The order in which Hull sorts is a strict weak order; what sorting does to the row. -/
import Derived.Test.YtcalipoknbbaaaaSortL
namespace Go.Proofs.Ytcalipoknbbaaaa
open Go.RowKit

def cross (u1 u2 v1 v2 : Int) : Int := u1 * v2 - u2 * v1
def half (u1 u2 : Int) : Prop := 0 < u1 ∨ (u1 = 0 ∧ 0 < u2)

theorem cross_id (u1 u2 v1 v2 w1 w2 : Int) : v1 * cross u1 u2 w1 w2 = u1 * cross v1 v2 w1 w2 + w1 * cross u1 u2 v1 v2 := by
  unfold cross; grind
theorem pos_of_mul_pos {a b : Int} (ha : 0 < a) (h : 0 < a * b) : 0 < b := by
  rcases Int.lt_or_le 0 b with hb | hb
  · exact hb
  · have := Int.mul_nonpos_of_nonneg_of_nonpos (Int.le_of_lt ha) hb; omega
theorem nonpos_of_mul_nonpos {a b : Int} (ha : 0 < a) (h : a * b ≤ 0) : b ≤ 0 := by
  rcases Int.lt_or_le 0 b with hb | hb
  · have := Int.mul_pos ha hb; omega
  · exact hb

theorem half_trans {u1 u2 v1 v2 w1 w2 : Int} (hu : half u1 u2) (hv : half v1 v2) (hw : half w1 w2) (h1 : 0 < cross u1 u2 v1 v2) (h2 : 0 < cross v1 v2 w1 w2) : 0 < cross u1 u2 w1 w2 := by
  rcases hv with hv | ⟨rfl, hv⟩
  · refine pos_of_mul_pos hv ?_
    rw [cross_id u1 u2 v1 v2 w1 w2]
    rcases hu with hu | ⟨rfl, hu⟩
    · have a := Int.mul_pos hu h2
      have b : 0 ≤ w1 * cross u1 u2 v1 v2 := Int.mul_nonneg (by rcases hw with h | ⟨h, _⟩ <;> omega) (Int.le_of_lt h1)
      omega
    · have : u2 * v1 > 0 := Int.mul_pos hu hv
      unfold cross at h1
      simp at h1
      omega
  · have h3 : cross 0 v2 w1 w2 = -(v2 * w1) := by unfold cross; simp
    rw [h3] at h2
    have : 0 ≤ v2 * w1 := Int.mul_nonneg (Int.le_of_lt hv) (by rcases hw with h | ⟨h, _⟩ <;> omega)
    omega
theorem half_ntrans {u1 u2 v1 v2 w1 w2 : Int} (hu : half u1 u2) (hv : half v1 v2) (hw : half w1 w2) (h1 : cross u1 u2 v1 v2 ≤ 0) (h2 : cross v1 v2 w1 w2 ≤ 0) : cross u1 u2 w1 w2 ≤ 0 := by
  rcases hv with hv | ⟨rfl, hv⟩
  · refine nonpos_of_mul_nonpos hv ?_
    rw [cross_id u1 u2 v1 v2 w1 w2]
    have a := Int.mul_nonpos_of_nonneg_of_nonpos (show 0 ≤ u1 by rcases hu with h | ⟨h, _⟩ <;> omega) h2
    have b := Int.mul_nonpos_of_nonneg_of_nonpos (show 0 ≤ w1 by rcases hw with h | ⟨h, _⟩ <;> omega) h1
    omega
  · have h3 : cross u1 u2 0 v2 = u1 * v2 := by unfold cross; simp
    rw [h3] at h1
    rcases hu with hu | ⟨rfl, hu⟩
    · have := Int.mul_pos hu hv; omega
    · have h4 : cross 0 u2 w1 w2 = -(u2 * w1) := by unfold cross; simp
      rw [h4]
      have : 0 ≤ u2 * w1 := Int.mul_nonneg (Int.le_of_lt hu) (by rcases hw with h | ⟨h, _⟩ <;> omega)
      omega

theorem aft_half {f p : Pl} (h : beforeP f p = true) : half (p.1 - f.1) (p.2 - f.2) := by
  simp only [beforeP, Bool.or_eq_true, Bool.and_eq_true, decide_eq_true_eq, beq_iff_eq] at h
  unfold half
  omega
theorem cfA_cross (f : Pl) (x y : Aft f) : cfA f x y = -(cross (x.1.1 - f.1) (x.1.2 - f.2) (y.1.1 - f.1) (y.1.2 - f.2)) := by
  unfold cfA cfT turnP cross; grind
theorem ltA (f : Pl) (x y : Aft f) : ltOf (cfA f) x y = decide (0 < cross (x.1.1 - f.1) (x.1.2 - f.2) (y.1.1 - f.1) (y.1.2 - f.2)) := by
  unfold ltOf
  rw [cfA_cross]
  simp only [decide_eq_decide]
  omega
theorem swoA (f : Pl) : Sort.SWO (ltOf (cfA f)) where
  irrefl x := by rw [ltA]; simp; unfold cross; grind
  trans x y z h1 h2 := by
    rw [ltA] at *
    simp only [decide_eq_true_eq] at *
    exact half_trans (aft_half x.2.2) (aft_half y.2.2) (aft_half z.2.2) h1 h2
  ntrans x y z h1 h2 := by
    rw [ltA] at *
    simp only [decide_eq_false_iff_not, Int.not_lt] at *
    exact half_ntrans (aft_half x.2.2) (aft_half y.2.2) (aft_half z.2.2) h1 h2

/-- sorted as Hull sorts, seen from the first corner: no later place lies to the right of an earlier one -/
def TurnSorted (f : Pl) (l : List Pl) : Prop := l.Pairwise fun p q => 0 ≤ cross (p.1 - f.1) (p.2 - f.2) (q.1 - f.1) (q.2 - f.2)

/-- a row of places in memory, none of whose cells is frozen -/
def PutP (w : World) (blk off : Nat) (ps : List Pl) : Prop :=
  ∀ i, i < ps.length → w.cell? ⟨blk, off + i * 2, none⟩ = some (.int .i64 (ps.getD i (0, 0)).1) ∧ w.cell? ⟨blk, off + i * 2 + 1, none⟩ = some (.int .i64 (ps.getD i (0, 0)).2) ∧ w.frozen? ⟨blk, off + i * 2, none⟩ = false ∧ w.frozen? ⟨blk, off + i * 2 + 1, none⟩ = false

/-- the places of a list, as places behind the first corner -/
def toAft (f : Pl) : (r : List Pl) → (∀ p ∈ r, okP p ∧ beforeP f p = true) → List (Aft f)
  | [], _ => []
  | p :: r, h => ⟨p, h p (by simp)⟩ :: toAft f r fun q hq => h q (by simp [hq])
theorem toAft_val (f : Pl) : ∀ (r : List Pl) (h : ∀ p ∈ r, okP p ∧ beforeP f p = true), (toAft f r h).map (·.1) = r
  | [], _ => rfl
  | p :: r, h => by rw [toAft, List.map_cons, toAft_val f r]

theorem holdsK_of (f : Pl) [Inhabited (Aft f)] (w : World) (blk off : Nat) (l : List (Aft f)) (h : PutP w blk off (l.map (·.1))) : Sort.HoldsK (encA f) 2 w blk off l.toArray := by
  intro t ht
  rw [Sort.size_flatK] at ht
  rw [Sort.get_flatK _ _ _ _ ht]
  have ht' : t < l.length * 2 := by simpa using ht
  have hi : t / 2 < l.length := by omega
  obtain ⟨h1, h2, h3, h4⟩ := h (t / 2) (by simpa using hi)
  have hg : (l.map (·.1)).getD (t / 2) (0, 0) = (l.toArray[t / 2]!).1 := by
    rw [getElem!_pos l.toArray (t / 2) (by simpa using hi), getD_eq _ _ _ (by simpa using hi)]
    simp
  rw [hg] at h1 h2
  have hm : t % 2 = 0 ∨ t % 2 = 1 := by omega
  rcases hm with hm | hm
  · have e : off + t = off + t / 2 * 2 := by omega
    rw [e, hm]
    exact ⟨h1, h3⟩
  · have e : off + t = off + t / 2 * 2 + 1 := by omega
    rw [e, hm]
    exact ⟨h2, h4⟩
theorem putP_of (f : Pl) [Inhabited (Aft f)] (w : World) (blk off : Nat) (l : List (Aft f)) (h : Sort.HoldsK (encA f) 2 w blk off l.toArray) : PutP w blk off (l.map (·.1)) := by
  intro i hi
  rw [List.length_map] at hi
  have hg : (l.map (·.1)).getD i (0, 0) = (l.toArray[i]!).1 := by
    rw [getElem!_pos l.toArray i (by simpa using hi), getD_eq _ _ _ (by simpa using hi)]
    simp
  have a := h (i * 2) (by rw [Sort.size_flatK]; simp; omega)
  have b := h (i * 2 + 1) (by rw [Sort.size_flatK]; simp; omega)
  rw [Sort.get_flatK _ _ _ _ (by simp; omega)] at a b
  rw [show i * 2 / 2 = i by omega, show i * 2 % 2 = 0 by omega] at a
  rw [show (i * 2 + 1) / 2 = i by omega, show (i * 2 + 1) % 2 = 1 by omega, ← Nat.add_assoc] at b
  rw [hg]
  exact ⟨a.1, b.1, a.2, b.2⟩
end Go.Proofs.Ytcalipoknbbaaaa
