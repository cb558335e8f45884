/- DrainTrapped plainly: the union of all traps is what is stuck; the first smallest trap as a scan finds it; a group that ends with the mouth. -/
import Derived.Test.YtlnpibboemphnaaGreatDrnBt
namespace Go.Proofs.YtlnpibboemphnaaGreat.drn
set_option linter.unusedSimpArgs false
set_option linter.unusedVariables false
/-- the union of the sets below k with a property -/
def uniS (C : Nat → Bool) : Nat → Nat
  | 0 => 0
  | k + 1 => if 1 ≤ k ∧ C k = true then uniS C k ||| k else uniS C k
theorem uniS_bit (C : Nat → Bool) (j : Nat) : ∀ k, (uniS C k).testBit j = true ↔ ∃ s, 1 ≤ s ∧ s < k ∧ C s = true ∧ s.testBit j = true
  | 0 => by simp [uniS]
  | k + 1 => by
    rw [uniS]
    split
    · rename_i h
      rw [Nat.testBit_or, Bool.or_eq_true, uniS_bit C j k]
      constructor
      · rintro (⟨s, a, b, c, d⟩ | d)
        · exact ⟨s, a, by omega, c, d⟩
        · exact ⟨k, h.1, by omega, h.2, d⟩
      · rintro ⟨s, a, b, c, d⟩
        by_cases e : s = k
        · subst e; exact .inr d
        · exact .inl ⟨s, a, by omega, c, d⟩
    · rename_i h
      rw [uniS_bit C j k]
      constructor
      · rintro ⟨s, a, b, c, d⟩
        exact ⟨s, a, by omega, c, d⟩
      · rintro ⟨s, a, b, c, d⟩
        by_cases e : s = k
        · subst e; exact absurd ⟨a, c⟩ h
        · exact ⟨s, a, by omega, c, d⟩
/-- a set out of which no channel leads -/
def trapC (cs : List Ch) (s : Nat) : Bool := (leavingS cs s).length == 0
theorem trapC_iff {cs : List Ch} {s : Nat} : trapC cs s = true ↔ NoWay cs s := by
  unfold trapC
  rw [beq_iff_eq, leavingS_nil]
theorem uni_lt {C : Nat → Bool} {n : Nat} (k : Nat) (hk : k ≤ 2 ^ n) : uniS C k < 2 ^ n := by
  refine Nat.lt_pow_two_of_testBit _ fun i hi => ?_
  cases h : (uniS C k).testBit i with
  | false => rfl
  | true =>
    obtain ⟨s, a, b, c, d⟩ := (uniS_bit C i k).1 h
    rw [Nat.testBit_lt_two_pow (Nat.lt_of_lt_of_le b (Nat.le_trans hk (Nat.pow_le_pow_right (by decide) hi)))] at d
    cases d
theorem uni_dry {n : Nat} {cs : List Ch} (hn : n ≤ 6) (hc : ∀ c ∈ cs, ChOk n c) : uniS (trapC cs) (2 ^ n) = dryS n cs := by
  apply Nat.eq_of_testBit_eq
  intro j
  apply Bool.eq_iff_iff.2
  rw [uniS_bit, dryS_bit hc]
  constructor
  · rintro ⟨s, a, b, c, d⟩
    have hjn : j < n := by
      apply Classical.byContradiction
      intro h
      rw [Nat.testBit_lt_two_pow (Nat.lt_of_lt_of_le b (Nat.pow_le_pow_right (by decide) (by omega)))] at d
      cases d
    rw [Bool.and_eq_true]
    refine ⟨decide_eq_true hjn, ?_⟩
    cases hq : (wetS n cs).testBit j with
    | false => rfl
    | true =>
      have hW : Wet n cs j := (wetS_iff hn hc hjn).1 (by simp [inS, hq])
      have := trap_stuck b (trapC_iff.1 c) hW
      unfold inS at this
      rw [Int.toNat_natCast, d] at this
      simp at this
  · intro h
    rw [Bool.and_eq_true] at h
    obtain ⟨h1, h2⟩ := h
    have hjn : j < n := of_decide_eq_true h1
    have hb : (dryS n cs).testBit j = true := by rw [dryS_bit hc, h1, h2]; rfl
    refine ⟨dryS n cs, ?_, ?_, trapC_iff.2 (dry_trap hn hc), hb⟩
    · apply Nat.pos_of_ne_zero
      intro e
      rw [e] at hb
      simp at hb
    · have := Nat.two_pow_pos n
      unfold dryS allS
      omega
theorem stuck_is {n : Nat} {cs : List Ch} (h0 : errD n cs = 0) (hn : n ≤ 6) (hc : ∀ c ∈ cs, ChOk n c) : stuckOf n cs = (listS (uniS (trapC cs) (2 ^ n)), 0) := by
  unfold stuckOf
  rw [if_neg (fun h => h h0), uni_dry hn hc]
  rfl
theorem trap_is {n b : Nat} {cs : List Ch} (h0 : errD n cs = 0) (hn : n ≤ 6) (h : IsBest (trapC cs) sizeS (2 ^ n) b) : trapOf n cs = if b = 0 then ([], 13) else (listS b, 0) := by
  unfold trapOf
  rw [if_neg (fun h => h h0)]
  have := h.first hn
  unfold trapC at this
  rw [this]
  by_cases hb : b = 0
  · rw [if_pos hb, if_pos hb]
  · rw [if_neg hb, if_neg hb]
theorem trap_plans {n b : Nat} {cs : List Ch} (hc : Chs n cs) (h : IsBest (trapC cs) sizeS (2 ^ n) b) : plansS n cs = [] ↔ b ≠ 0 := by
  have h1 : plansS n cs = [] ↔ ¬ ∃ l, Plan n cs l := by
    constructor
    · rintro h ⟨l, hl⟩
      have := (mem_plansS hc.n1 hc.ok l).2 hl
      rw [h] at this
      cases this
    · intro h
      cases hq : plansS n cs with
      | nil => rfl
      | cons l r => exact absurd ⟨l, (mem_plansS hc.n1 hc.ok l).1 (by rw [hq]; simp)⟩ h
  rw [h1, plan_iff hc.n6 hc.ok]
  have h2 := trap_iff hc.n6 hc.ok
  have h3 : (∃ s ∈ groupsS n 0, NoWay cs s) ↔ b ≠ 0 := by
    rcases h with ⟨a, c⟩ | ⟨a, c, d, _⟩
    · constructor
      · rintro ⟨s, hs, hno⟩
        obtain ⟨s0, s1⟩ := mem_groups.1 hs
        have := c s (by omega) s1
        rw [trapC_iff.2 hno] at this
        cases this
      · intro h; exact absurd a h
    · exact ⟨fun _ => by omega, fun _ => ⟨b, mem_groups.2 ⟨by omega, c⟩, trapC_iff.1 d⟩⟩
  rw [← h3, h2]
theorem groupErr_end {n : Nat} : ∀ (l : List Int) (b : Option Int), (∀ x ∈ l, 0 ≤ x ∧ x < n) → l.Pairwise (· < ·) → (∀ x, b = some x → ∀ y ∈ l, x < y) → groupErr n b (l ++ [(n : Int)]) = 2
  | [], b, _, _, _ => by
    show groupErr n b [(n : Int)] = 2
    unfold groupErr
    rw [if_pos]
    simp [isGal]
  | g :: r, b, h1, h2, h3 => by
    rw [List.pairwise_cons] at h2
    rw [List.cons_append]
    unfold groupErr
    have hg := h1 g (by simp)
    rw [if_neg (by rw [(isGal_iff _ _).2 hg]; simp), if_neg ?_]
    · exact groupErr_end r (some g) (fun x hx => h1 x (by simp [hx])) h2.2 fun x hx y hy => by injection hx with hx; subst hx; exact h2.1 y hy
    · cases b with
      | none => simp [notUp]
      | some x => have := h3 x rfl g (by simp); simp [notUp]; omega
theorem leaves_listS {n s : Nat} {cs : List Ch} (h0 : errD n cs = 0) (hn : n ≤ 6) (hs : s < 2 ^ n) : leavesOf n cs (listS s) = if s = 0 then ([], 4) else (leavingS cs s, 0) := by
  unfold leavesOf
  rw [if_neg (fun h => h h0)]
  by_cases hz : s = 0
  · subst hz
    rw [if_pos rfl, listS_zero]
    rfl
  · rw [if_neg hz, if_neg (fun h => h (gr_listS hn hz hs)), setS_listS (pow_64 hn hs)]
theorem leaves_end {n s : Nat} {cs : List Ch} (h0 : errD n cs = 0) (hs : s < 2 ^ n) : leavesOf n cs (listS s ++ [(n : Int)]) = ([], 2) := by
  have h2 : grErr n (listS s ++ [(n : Int)]) = 2 := by
    unfold grErr
    rw [if_neg (by simp)]
    exact groupErr_end _ none (listS_in hs) (listS_up s) (by simp)
  unfold leavesOf
  rw [if_neg (fun h => h h0), if_pos (by rw [h2]; decide), h2]
end Go.Proofs.YtlnpibboemphnaaGreat.drn
