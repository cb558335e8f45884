/- DrainMore, plainly: what the answers for a hill, the hill without its last channel, and the hill with a dearer channel have to do with each other. -/
import Derived.Test.YtlnpibboemphnaaGreatQa3
namespace Go.Proofs.YtlnpibboemphnaaGreat.drn
theorem errD_ch {n : Nat} {cs : List Ch} (h : errD n cs = 0) : 1 ≤ n ∧ n ≤ 6 ∧ cs.length ≤ 14 ∧ ∀ c ∈ cs, ChOk n c := by
  obtain ⟨a, b, c, d, _⟩ := errD_ok h
  exact ⟨by omega, by omega, c, d⟩
theorem count_of {n : Nat} {cs : List Ch} (h : errD n cs = 0) : countOf n cs = (((plansS n cs).length : Int), 0) := by unfold countOf; rw [if_neg (by simpa using h)]
theorem most_of {n : Nat} {cs : List Ch} (h : errD n cs = 0) : mostOf n cs = ((mostS (plansS n cs) : Int), 0) := by unfold mostOf; rw [if_neg (by simpa using h)]
theorem least_of0 {n : Nat} {cs : List Ch} (h : errD n cs = 0) (hp : plansS n cs = []) : leastOf n cs = (0, 12) := by unfold leastOf; rw [if_neg (by simpa using h), if_pos (by rw [hp]; rfl)]
theorem least_of1 {n : Nat} {cs : List Ch} (h : errD n cs = 0) (hp : plansS n cs ≠ []) : leastOf n cs = (leastS cs (plansS n cs), 0) := by
  unfold leastOf; rw [if_neg (by simpa using h), if_neg (by simpa using hp)]
theorem plans_nil {n : Nat} : plansS n [] = [] := rfl
theorem count_nil {n : Nat} (h : errD n [] = 0) : countOf n [] = (0, 0) := by rw [count_of h, plans_nil]; rfl
structure MoreF (n : Nat) (cs : List Ch) (p : Nat) (B C D I L eL M eM : Int) : Prop where
  bc : B ≤ C
  mb : 0 ≤ M ∧ M ≤ 1000
  di : D ≤ I
  el : eL = 0 → eM = 0 ∧ M ≤ L
  em : (eM = 0 ∧ 0 < C) ∨ (eM ≠ 0 ∧ ¬ 0 < C)
  dear : eM = 0 → (cs.getD p (0, 0, 0)).2.2 ≠ 20 → ∃ Q, leastOf n (dear cs p) = (Q, 0) ∧ M ≤ Q ∧ Q ≤ M + 1
theorem leastS_bd {n : Nat} {cs : List Ch} (h1 : 1 ≤ n) (h6 : n ≤ 6) (hc : ∀ c ∈ cs, ChOk n c) (h : plansS n cs ≠ []) : 0 ≤ leastS cs (plansS n cs) ∧ leastS cs (plansS n cs) ≤ 1000 := by
  obtain ⟨p, hp, e, _⟩ := least_spec (n := n) hc h
  have hP := (mem_plansS h1 hc p).1 hp
  have hl := (Ext.full h6 hc hP.1).1
  have := costS_bd hc p
  rw [e]; omega
theorem more_facts {n : Nat} {cs : List Ch} (h : errD n cs = 0) {k : Nat} (hk : cs.length = k + 1) {p : Nat} (hp : p < cs.length) :
    ∃ B C D I L eL M eM : Int, countOf n (cs.take k) = (B, 0) ∧ countOf n cs = (C, 0) ∧ mostOf n (cs.take k) = (D, 0) ∧ mostOf n cs = (I, 0) ∧ leastOf n (cs.take k) = (L, eL) ∧ leastOf n cs = (M, eM) ∧ MoreF n cs p B C D I L eL M eM := by
  have h1 : errD n (cs.take k) = 0 := errD_sub h (List.take_sublist k cs)
  obtain ⟨n1, n6, l14, hc⟩ := errD_ch h
  have e : cs = cs.take k ++ [cs[k]'(by omega)] := by
    conv => lhs; rw [← List.take_append_drop k cs]
    rw [List.drop_eq_getElem_cons (by omega), List.drop_of_length_le (by omega)]
  have hc2 : ∀ d ∈ cs.take k ++ [cs[k]'(by omega)], ChOk n d := by rw [← e]; exact hc
  have k1 := count_more n1 hc2
  have k2 := most_more n1 hc2
  rw [← e] at k1 k2
  rw [count_of h, count_of h1, most_of h, most_of h1]
  by_cases hM : plansS n cs = []
  · have hL : plansS n (cs.take k) = [] := by
      rw [hM] at k1
      exact List.length_eq_zero_iff.1 (by simpa using k1)
    rw [least_of0 h hM, least_of0 h1 hL]
    exact ⟨_, _, _, _, _, _, _, _, rfl, rfl, rfl, rfl, rfl, rfl, by omega, by omega, by omega, by simp, .inr ⟨by simp, by rw [hM]; simp⟩, by simp⟩
  · have hpos : 0 < (plansS n cs).length := List.length_pos_iff.2 hM
    have hd : (cs.getD p (0, 0, 0)).2.2 ≠ 20 → ∃ Q, leastOf n (dear cs p) = (Q, 0) ∧ leastS cs (plansS n cs) ≤ Q ∧ Q ≤ leastS cs (plansS n cs) + 1 := by
      intro h20
      have hcp : ChOk n (cs.getD p (0, 0, 0)) := hc _ (getD_inl cs p _ hp)
      have hlt : (cs.getD p (0, 0, 0)).2.2 < 20 := by have := hcp.2.2.2.2; omega
      have hdok := dear_ok hc hp hlt
      obtain ⟨_, _, _, _, hpw⟩ := errD_ok h
      have herr : errD n (dear cs p) = 0 := by
        refine errD_of (by omega) (by omega) (by rw [dear_length]; exact l14) hdok ?_
        rw [List.pairwise_iff_getElem] at hpw ⊢
        intro i j hi hj hij
        have hi' : i < cs.length := by rw [dear_length] at hi; exact hi
        have hj' : j < cs.length := by rw [dear_length] at hj; exact hj
        have g : ∀ (x : Nat) (hx : x < (dear cs p).length) (hx' : x < cs.length), ((dear cs p)[x].1, (dear cs p)[x].2.1) = (cs[x].1, cs[x].2.1) := by
          intro x hx hx'
          have e1 := dear_ends cs p hp x
          unfold ends at e1
          rw [List.getD_eq_getElem?_getD, List.getElem?_eq_getElem hx, List.getD_eq_getElem?_getD, List.getElem?_eq_getElem hx'] at e1
          simpa using e1
        have gi := g i hi hi'
        have gj := g j hj hj'
        simp only [Prod.mk.injEq] at gi gj
        rw [gi.1, gi.2, gj.1, gj.2]
        exact hpw i j hi' hj' hij
      have hne : plansS n (dear cs p) ≠ [] := by rw [plansS_dear n1 hc hp hlt]; exact hM
      exact ⟨_, least_of1 herr hne, least_dear n1 hc hp hlt hM⟩
    rw [least_of1 h hM]
    have hmb := leastS_bd n1 n6 hc hM
    by_cases hL : plansS n (cs.take k) = []
    · rw [least_of0 h1 hL]
      exact ⟨_, _, _, _, _, _, _, _, rfl, rfl, rfl, rfl, rfl, rfl, by omega, hmb, by omega, by simp, .inl ⟨rfl, by omega⟩, fun _ => hd⟩
    · rw [least_of1 h1 hL]
      have k3 := least_more n1 hc2 hL
      rw [← e] at k3
      exact ⟨_, _, _, _, _, _, _, _, rfl, rfl, rfl, rfl, rfl, rfl, by omega, hmb, by omega, fun _ => ⟨rfl, by first | exact k3.2 | exact k3⟩, .inl ⟨rfl, by omega⟩, fun _ => hd⟩
end Go.Proofs.YtlnpibboemphnaaGreat.drn
