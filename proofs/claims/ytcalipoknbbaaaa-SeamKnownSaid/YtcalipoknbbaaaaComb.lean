/- All ascending lists of so many indices, in their order; follow goes from each to the next one. -/
import Derived.Test.YtcalipoknbbaaaaFollow
namespace Go.Proofs.Ytcalipoknbbaaaa

/-- all ascending lists of k numbers from lo on, below lo + m, in ascending order -/
def combos : Nat → Int → Nat → List (List Int)
  | _, _, 0 => [[]]
  | 0, _, _ + 1 => []
  | m + 1, lo, k + 1 => (combos m (lo + 1) k).map (lo :: ·) ++ combos m (lo + 1) (k + 1)

def upFrom (lo : Int) (k : Nat) : List Int := (List.range k).map fun j : Nat => lo + j

theorem upFrom_zero (lo : Int) : upFrom lo 0 = [] := rfl
theorem upFrom_succ (lo : Int) (k : Nat) : upFrom lo (k + 1) = lo :: upFrom (lo + 1) k := by
  unfold upFrom
  rw [List.range_succ_eq_map, List.map_cons, List.map_map]
  congr 1
  · simp
  · apply List.map_congr_left
    intro j _
    simp
    omega
theorem upFrom_length (lo : Int) (k : Nat) : (upFrom lo k).length = k := by simp [upFrom]

theorem combos_length : ∀ (m : Nat) (lo : Int) (k : Nat), ∀ c ∈ combos m lo k, c.length = k
  | m, lo, 0 => by simp [combos]
  | 0, lo, k + 1 => by simp [combos]
  | m + 1, lo, k + 1 => by
    intro c hc
    rw [combos, List.mem_append, List.mem_map] at hc
    rcases hc with ⟨t, ht, rfl⟩ | hc
    · simp [combos_length m (lo + 1) k t ht]
    · exact combos_length m (lo + 1) (k + 1) c hc

theorem combos_bounds : ∀ (m : Nat) (lo : Int) (k : Nat), ∀ c ∈ combos m lo k, ∀ x ∈ c, lo ≤ x ∧ x < lo + m
  | m, lo, 0 => by simp [combos]
  | 0, lo, k + 1 => by simp [combos]
  | m + 1, lo, k + 1 => by
    intro c hc x hx
    rw [combos, List.mem_append, List.mem_map] at hc
    rcases hc with ⟨t, ht, rfl⟩ | hc
    · rcases List.mem_cons.1 hx with rfl | hx
      · omega
      · have := combos_bounds m (lo + 1) k t ht x hx; omega
    · have := combos_bounds m (lo + 1) (k + 1) c hc x hx; omega

theorem combos_none : ∀ (m : Nat) (lo : Int) (k : Nat), m < k → combos m lo k = []
  | 0, lo, k + 1, _ => rfl
  | m + 1, lo, k + 1, h => by rw [combos, combos_none m (lo + 1) k (by omega), combos_none m (lo + 1) (k + 1) (by omega)]; rfl

theorem combos_head : ∀ (m : Nat) (lo : Int) (k : Nat), k ≤ m → ∃ l, combos m lo k = upFrom lo k :: l
  | m, lo, 0, _ => ⟨[], by simp [combos, upFrom]⟩
  | m + 1, lo, k + 1, h => by
    obtain ⟨l, hl⟩ := combos_head m (lo + 1) k (by omega)
    exact ⟨l.map (lo :: ·) ++ combos m (lo + 1) (k + 1), by rw [combos, hl, upFrom_succ]; rfl⟩

theorem bumpTo_cons (x : Int) (t : List Int) (i : Nat) : ∀ k, bumpTo (x :: t) (i + 1) k = x :: bumpTo t i k
  | 0 => rfl
  | k + 1 => by
    rw [bumpTo, bumpTo, bumpTo_cons x t i k, show i + 1 + k = (i + k) + 1 from by omega, List.set_cons_succ]
    simp

theorem bumpTo_get (is : List Int) (i : Nat) : ∀ k j, j < is.length → (bumpTo is i k).getD j 0 = if i ≤ j ∧ j < i + k then is.getD i 0 + 1 + (j - i : Nat) else is.getD j 0
  | 0, j, _ => by rw [bumpTo, if_neg (by omega)]
  | k + 1, j, hj => by
    have ih := bumpTo_get is i k j hj
    have hl := bumpTo_length is i k
    rw [bumpTo]
    by_cases h : j = i + k
    · subst h
      rw [if_pos (by omega)]
      rw [getD_eq _ _ _ (by rw [List.length_set]; omega), List.getElem_set_self]
      congr 2
      omega
    · rw [getD_eq _ _ _ (by rw [List.length_set]; omega), List.getElem_set_ne (by omega), ← getD_eq _ _ 0 (by omega), ih]
      by_cases h2 : i ≤ j ∧ j < i + k
      · rw [if_pos h2, if_pos (by omega)]
      · rw [if_neg h2, if_neg (by omega)]

theorem bump_zero (x : Int) (t : List Int) : bump (x :: t) 0 = upFrom (x + 1) (t.length + 1) := by
  apply List.ext_getElem
  · rw [bump, bumpTo_length, upFrom_length]; rfl
  · intro j h1 h2
    have hj : j < (x :: t).length := by rw [bump, bumpTo_length] at h1; exact h1
    rw [← getD_eq (bump (x :: t) 0) j 0 h1, bump, bumpTo_get _ _ _ _ hj, if_pos (by omega)]
    simp [upFrom]

theorem revL_cons (x : Int) (t : List Int) : revL (x :: t) = (revL t).map (fun p => (p.1 + 1, p.2)) ++ [(0, x)] := by
  unfold revL
  rw [List.length_cons, revTo_succ]
  congr 1
  · unfold revTo
    rw [List.map_map]
    apply List.map_congr_left
    intro j hj
    have hj' : j < t.length := List.mem_range.1 hj
    simp only [Function.comp, List.length_cons, Prod.mk.injEq]
    refine ⟨by omega, ?_⟩
    rw [show t.length + 1 - 1 - j = (t.length - 1 - j) + 1 from by omega]
    simp
  · simp

theorem find_map_shift (L : Int) (n : Nat) (l : List (Int × Int)) : (l.map fun p => (p.1 + 1, p.2)).find? (mayRise L (n + 1)) = (l.find? (mayRise L n)).map fun p => (p.1 + 1, p.2) := by
  rw [List.find?_map]
  congr 2
  funext p
  simp only [Function.comp, mayRise, decide_eq_decide]
  omega

theorem revL_fst_nonneg (is : List Int) : ∀ p ∈ revL is, 0 ≤ p.1 := by
  intro p hp
  unfold revL revTo at hp
  obtain ⟨j, hj, rfl⟩ := List.mem_map.1 hp
  have := List.mem_range.1 hj
  simp only
  omega

theorem nextI_cons (L : Int) (x : Int) (t : List Int) : nextI L (x :: t) = match nextI L t with
    | some t' => some (x :: t')
    | none => if x < L - (t.length + 1 : Nat) then some (upFrom (x + 1) (t.length + 1)) else none := by
  unfold nextI
  rw [revL_cons, List.find?_append, List.length_cons, find_map_shift]
  cases h : (revL t).find? (mayRise L t.length) with
  | none =>
    simp only [Option.map_none, Option.none_or]
    by_cases hx : x < L - (t.length + 1 : Nat)
    · rw [if_pos hx, List.find?_cons_of_pos (by unfold mayRise; simp only [decide_eq_true_eq]; omega)]
      simp only [Option.map_some, Int.toNat_zero, bump_zero]
    · rw [if_neg hx, List.find?_cons_of_neg (by unfold mayRise; simp only [decide_eq_true_eq]; omega)]
      rfl
  | some p =>
    have hp := revL_fst_nonneg t p (List.mem_of_find?_eq_some h)
    simp only [Option.map_some, Option.some_or, Option.some.injEq]
    rw [show (p.1 + 1).toNat = p.1.toNat + 1 from by omega, bump, bumpTo_cons, bump]
    congr 2
    simp

theorem nextI_nil (L : Int) : nextI L [] = none := rfl

/-- from each of the lists to the next one -/
def Follows (L : Int) : List (List Int) → Prop
  | [] => True
  | [a] => nextI L a = none
  | a :: b :: l => nextI L a = some b ∧ Follows L (b :: l)

theorem follows_append (L x : Int) (k : Nat) (hd : List Int) (B : List (List Int)) (hB : Follows L B) (hx : ∀ t : List Int, t.length = k → nextI L t = none → nextI L (x :: t) = B.head?) :
    ∀ A : List (List Int), Follows L A → (∀ t ∈ A, t.length = k) → Follows L (A.map (x :: ·) ++ B)
  | [], _, _ => by simpa using hB
  | [a], hA, hk => by
    have h := hx a (hk a (by simp)) hA
    cases B with
    | nil => exact h
    | cons b l => exact ⟨h, hB⟩
  | a :: b :: A, hA, hk => by
    refine ⟨?_, follows_append L x k hd B hB hx (b :: A) hA.2 fun t ht => hk t (List.mem_cons_of_mem _ ht)⟩
    rw [nextI_cons, hA.1]

theorem combos_follows : ∀ (m : Nat) (lo : Int) (k : Nat), Follows (lo + m) (combos m lo k)
  | m, lo, 0 => by cases m <;> exact nextI_nil _
  | 0, lo, k + 1 => trivial
  | m + 1, lo, k + 1 => by
    have hA := combos_follows m (lo + 1) k
    have hB := combos_follows m (lo + 1) (k + 1)
    rw [show lo + 1 + (m : Int) = lo + ((m + 1 : Nat) : Int) from by omega] at hA hB
    rw [combos]
    refine follows_append _ lo k [] _ hB ?_ _ hA (combos_length m (lo + 1) k)
    intro t ht hn
    rw [nextI_cons, hn]
    simp only [ht]
    by_cases h : k + 1 ≤ m
    · obtain ⟨l, hl⟩ := combos_head m (lo + 1) (k + 1) h
      rw [if_pos (by omega), hl]
      rfl
    · rw [if_neg (by omega), combos_none m (lo + 1) (k + 1) (by omega)]
      rfl
end Go.Proofs.Ytcalipoknbbaaaa
