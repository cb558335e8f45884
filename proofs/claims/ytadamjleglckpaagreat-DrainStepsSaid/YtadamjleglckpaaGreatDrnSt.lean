/- DrainSteps plainly: what the least channel out has left, with at most 100; the smallest groups that can pay. -/
import Derived.Test.YtadamjleglckpaaGreatQa7
namespace Go.Proofs.YtadamjleglckpaaGreat.drn
set_option linter.unusedSimpArgs false
set_option linter.unusedVariables false
/-- what the least of the channels out has left, at most 100 -/
def leastH (cs : List Ch) (s : Nat) : Int := (cs.filter (leavesS s)).foldl (fun m c => min m c.2.2) 100
theorem minH : ∀ (l : List Ch) (m : Int), (∀ c ∈ l, 0 ≤ c.2.2) → 0 ≤ m → (l.foldl (fun m c => min m c.2.2) m = 0 ↔ m = 0 ∨ ∃ c ∈ l, c.2.2 = 0) ∧ 0 ≤ l.foldl (fun m c => min m c.2.2) m
  | [], m, _, h0 => ⟨by simp, h0⟩
  | c :: r, m, h, h0 => by
    have hc := h c (by simp)
    rw [List.foldl_cons]
    obtain ⟨i1, i2⟩ := minH r (min m c.2.2) (fun x hx => h x (by simp [hx])) (by omega)
    refine ⟨?_, i2⟩
    rw [i1]
    constructor
    · rintro (h1 | ⟨x, hx, h1⟩)
      · rcases Int.le_total m c.2.2 with h2 | h2
        · exact .inl (by omega)
        · exact .inr ⟨c, by simp, by omega⟩
      · exact .inr ⟨x, by simp [hx], h1⟩
    · rintro (h1 | ⟨x, hx, h1⟩)
      · exact .inl (by omega)
      · rcases List.mem_cons.1 hx with rfl | hx
        · exact .inl (by omega)
        · exact .inr ⟨x, hx, h1⟩
theorem leastH_zero {n : Nat} {cs : List Ch} (hc : Chs n cs) (s : Nat) : (leastH cs s = 0) ↔ cs.any (spentC s) = true := by
  unfold leastH
  rw [(minH _ 100 (fun c hm => (hc.ok c (List.mem_filter.1 hm).1).2.2.2.1) (by omega)).1, List.any_eq_true]
  constructor
  · rintro (h | ⟨c, hm, h0⟩)
    · omega
    · obtain ⟨h1, h2⟩ := List.mem_filter.1 hm
      exact ⟨c, h1, by unfold spentC; rw [h0, h2]; rfl⟩
  · rintro ⟨c, hm, h⟩
    unfold spentC at h
    rw [Bool.and_eq_true, beq_iff_eq] at h
    exact .inr ⟨c, List.mem_filter.2 ⟨hm, h.2⟩, h.1⟩
theorem leastH_bd {n : Nat} {cs : List Ch} (hc : Chs n cs) (s : Nat) : 0 ≤ leastH cs s ∧ leastH cs s ≤ 100 := by
  refine ⟨(minH _ 100 (fun c hm => (hc.ok c (List.mem_filter.1 hm).1).2.2.2.1) (by omega)).2, ?_⟩
  unfold leastH
  generalize cs.filter (leavesS s) = l
  have : ∀ (l : List Ch) (m : Int), l.foldl (fun m c => min m c.2.2) m ≤ m := by
    intro l
    induction l with
    | nil => intro m; exact Int.le_refl _
    | cons c r ih => intro m; rw [List.foldl_cons]; have := ih (min m c.2.2); omega
  exact this l 100
theorem leastH_left {n : Nat} {cs : List Ch} (hc : Chs n cs) {s : Nat} (hex : ∃ c ∈ cs, leavesS s c = true) : leastH cs s = leastLeft cs s := by
  unfold leastH leastLeft
  obtain ⟨c, hm, hl⟩ := hex
  have hm2 : c ∈ cs.filter (leavesS s) := List.mem_filter.2 ⟨hm, hl⟩
  have hb : ∀ c ∈ cs.filter (leavesS s), c.2.2 ≤ 20 := fun c hm => (hc.ok c (List.mem_filter.1 hm).1).2.2.2.2
  generalize cs.filter (leavesS s) = l at hm2 hb
  cases l with
  | nil => cases hm2
  | cons x r =>
    have := hb x (by simp)
    rw [List.foldl_cons, List.foldl_cons, Int.min_eq_right (by omega), Int.min_eq_right (by omega)]
/-- the same up to a channel -/
def leastTo (cs : List Ch) (s k : Nat) : Int := leastH (cs.take k) s
theorem leastTo_step {cs : List Ch} {k : Nat} (hk : k < cs.length) (s : Nat) : leastTo cs s (k + 1) = if leavesS s (cs.getD k (0, 0, 0)) then min (leastTo cs s k) (cs.getD k (0, 0, 0)).2.2 else leastTo cs s k := by
  unfold leastTo leastH
  rw [getD_eq cs k _ hk, List.take_succ_eq_append_getElem hk, List.filter_append]
  by_cases h : leavesS s cs[k] = true
  · rw [if_pos h, List.filter_cons_of_pos h, List.filter_nil, List.foldl_append]; rfl
  · rw [if_neg h, List.filter_cons_of_neg h, List.filter_nil, List.append_nil]
/-- no smaller group can pay -/
def smallH (cs : List Ch) (s : Nat) : Nat → Bool
  | 0 => true
  | t + 1 => smallH cs s t && (t == 0 || t &&& s != t || leastH cs t == 0)
theorem smallH_iff (cs : List Ch) (s : Nat) : ∀ k, smallH cs s k = true ↔ ∀ t, 1 ≤ t → t < k → t &&& s = t → leastH cs t = 0
  | 0 => by simp [smallH]
  | k + 1 => by
    rw [smallH, Bool.and_eq_true, smallH_iff cs s k]
    constructor
    · rintro ⟨h1, h2⟩ t a b c
      by_cases e : t = k
      · subst e
        simp only [Bool.or_eq_true, beq_iff_eq, bne_iff_ne, ne_eq] at h2
        rcases h2 with (h2 | h2) | h2
        · omega
        · exact absurd c h2
        · exact h2
      · exact h1 t a (by omega) c
    · intro h
      refine ⟨fun t a b c => h t a (by omega) c, ?_⟩
      simp only [Bool.or_eq_true, beq_iff_eq, bne_iff_ne, ne_eq]
      by_cases h0 : k = 0
      · exact .inl (.inl h0)
      · by_cases h1 : k &&& s = k
        · exact .inr (h k (by omega) (by omega) h1)
        · exact .inl (.inr h1)
theorem payC_is {n : Nat} {cs : List Ch} (hc : Chs n cs) {s : Nat} (hs : s < 2 ^ n) : payC n cs s = (leastH cs s != 0 && smallH cs s s) := by
  unfold payC
  have e1 : (!cs.any (spentC s)) = (leastH cs s != 0) := by
    apply Bool.eq_iff_iff.2
    rw [bne_iff_ne, ne_eq, leastH_zero hc]
    simp
  have e2 : (!(payersS n cs).any (smaller s)) = smallH cs s s := by
    apply Bool.eq_iff_iff.2
    rw [smallH_iff, Bool.not_eq_true']
    constructor
    · intro h t a b c
      rw [leastH_zero hc]
      cases hq : cs.any (spentC t) with
      | true => rfl
      | false =>
        rw [List.any_eq_false] at h
        refine absurd ?_ (h t (by rw [payersS_eq]; exact List.mem_filter.2 ⟨mem_groups.2 ⟨by omega, by omega⟩, by simp [hq]⟩))
        unfold smaller
        simp [c]
        omega
    · intro h
      rw [List.any_eq_false]
      intro t ht hsm
      unfold smaller at hsm
      rw [payersS_eq] at ht
      obtain ⟨h1, h2⟩ := List.mem_filter.1 ht
      simp only [Bool.and_eq_true, bne_iff_ne, ne_eq, beq_iff_eq] at hsm
      obtain ⟨t0, t1⟩ := mem_groups.1 h1
      have hle : t ≤ s := by rw [← hsm.2]; exact Nat.and_le_right
      have := (leastH_zero hc t).1 (h t (by omega) (by omega) hsm.2)
      rw [this] at h2
      cases h2
  rw [e1, e2]
/-- the dues, step by step -/
theorem dues_drop {n : Nat} : ∀ (k f : Nat) (cs : List Ch) {d : Du} {r : List Du}, duesF n f cs = d :: r → ∃ s, f = (f - 1) + 1 ∧ payerS n cs = some s ∧ d = (listS s, leastLeft cs s) ∧ r = duesF n (f - 1) (takeLeft cs s (leastLeft cs s))
  | k, 0, cs, d, r, h => by cases h
  | k, f + 1, cs, d, r, h => by
    cases hp : payerS n cs with
    | none => rw [duesF_done hp] at h; cases h
    | some s =>
      rw [duesF_step hp] at h
      injection h with h1 h2
      exact ⟨s, rfl, rfl, h1.symm, h2.symm⟩
end Go.Proofs.YtadamjleglckpaaGreat.drn
