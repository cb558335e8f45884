/- Package drain: the channels of a plan: one from each gallery. -/
import Derived.Test.YtadamjleglckpaaGreatQa2
namespace Go.Proofs.YtadamjleglckpaaGreat.drn
theorem ext_each {n : Nat} {cs : List Ch} (hc : ∀ c ∈ cs, ChOk n c) : ∀ (l : List Int) (lo s : Nat), Ext cs lo s l →
    (∀ x ∈ l, inS s (frm cs x) = false) ∧ (l.Pairwise fun x y => frm cs x ≠ frm cs y) ∧ ∀ g : Nat, inS (addS cs s l) g = true ↔ inS s g = true ∨ ∃ x ∈ l, frm cs x = g
  | [], _, _, _ => ⟨by simp, by simp, fun g => by simp [addS]⟩
  | x :: r, lo, s, ⟨⟨h1, h2⟩, h3, h4⟩ => by
    obtain ⟨k1, k2, k3⟩ := ext_each hc r _ _ h4
    have hok := getD_ok hc (i := x.toNat) (by omega)
    have hf0 : 0 ≤ frm cs x := hok.1.1
    have ef : (((frm cs x).toNat : Nat) : Int) = frm cs x := by omega
    have hsplit : ∀ y ∈ r, inS s (frm cs y) = false ∧ frm cs y ≠ frm cs x := by
      intro y hy
      have h := k1 y hy
      rw [inS_or, Bool.or_eq_false_iff] at h
      refine ⟨h.1, fun e => ?_⟩
      have h5 := h.2
      have h6 := inS_one (frm cs x).toNat (frm cs x).toNat
      rw [ef] at h6
      rw [e, h6] at h5
      simp at h5
    refine ⟨fun y hy => ?_, List.pairwise_cons.2 ⟨fun y hy e => (hsplit y hy).2 e.symm, k2⟩, fun g => ?_⟩
    · rcases List.mem_cons.1 hy with rfl | hy
      · exact h3
      · exact (hsplit y hy).1
    · have e : addS cs s (x :: r) = addS cs (s ||| 1 <<< (frm cs x).toNat) r := rfl
      rw [e, k3, inS_or, Bool.or_eq_true, inS_one, decide_eq_true_eq]
      constructor
      · rintro ((h | h) | ⟨y, hy, h⟩)
        · exact .inl h
        · exact .inr ⟨x, by simp, by omega⟩
        · exact .inr ⟨y, by simp [hy], h⟩
      · rintro (h | ⟨y, hy, h⟩)
        · exact .inl (.inl h)
        · rcases List.mem_cons.1 hy with rfl | hy
          · exact .inl (.inr (by omega))
          · exact .inr ⟨y, hy, h⟩
theorem plan_each {n : Nat} {cs : List Ch} (hc : ∀ c ∈ cs, ChOk n c) {l : List Int} (h : Plan n cs l) : OneEach n (chosenS cs l) := by
  obtain ⟨h1, h2, _⟩ := h
  have hin : ∀ x ∈ l, 0 ≤ x ∧ x < cs.length := by
    have : ∀ (l : List Int) (lo s : Nat), Ext cs lo s l → ∀ x ∈ l, 0 ≤ x ∧ x < cs.length := by
      intro l
      induction l with
      | nil => simp
      | cons y r ih =>
        rintro lo s ⟨⟨a, b⟩, _, c⟩ x hx
        rcases List.mem_cons.1 hx with rfl | hx
        · exact ⟨by omega, b⟩
        · exact ih _ _ c x hx
    exact this l 0 0 h1
  obtain ⟨_, k2, k3⟩ := ext_each hc l 0 0 h1
  refine ⟨fun c hm => ?_, fun g hg => ?_, ?_⟩
  · obtain ⟨i, hi, rfl⟩ := List.mem_map.1 hm
    exact getD_ok hc (by have := hin i hi; omega)
  · have hall := (allS_iff (n := n) (s := allS n) (by have := Nat.two_pow_pos n; unfold allS; omega)).1 rfl g hg
    rw [← h2] at hall
    rcases (k3 g).1 hall with h | ⟨x, hx, h⟩
    · simp [inS] at h
    · exact ⟨_, List.mem_map.2 ⟨x, hx, rfl⟩, h⟩
  · unfold chosenS
    rw [List.pairwise_map]
    exact k2
end Go.Proofs.YtadamjleglckpaaGreat.drn
